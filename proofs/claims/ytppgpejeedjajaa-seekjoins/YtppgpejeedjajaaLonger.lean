/- The contract of longer: it goes from border to border. -/
import Derived.Test.YtppgpejeedjajaaBase
set_option linter.unusedVariables false
set_option linter.unusedSimpArgs false
namespace Go.Proofs.Ytppgpejeedjajaa.Seek
open Go.RowKit

/-- What longer answers, where Inv is kept from border to border. -/
def LongerPost (p : Nat → Int) (len : Nat) (c : Int) (Inv : Nat → Prop) (w : World) (e : Ending) (w' : World) : Prop :=
  w' = w ∧ ∃ k r : Nat, Inv k ∧ e = .returned (.int .i64 (r : Int)) ∧ ((k < len ∧ p k = c ∧ r = k + 1) ∨ (k = 0 ∧ r = 0 ∧ (len = 0 ∨ p 0 ≠ c)))

theorem longer_empty (a : Option Addr) (cap : Nat) (vb : Value) (c : Int) (Inv : Nat → Prop) (p : Nat → Int) (w : World) (h0 : Inv 0) :
    Calls Try.prog 24 #[.slice a 0 cap, vb, .int .i64 ((0 : Nat) : Int), .int .i64 c] w fun e w' => LongerPost p 0 c Inv w e w' := by
  have H0 : Hid (Inv 0) := h0
  clear h0
  go_enter Try.func24, Try.ntmps24
  go_wp2_with fail
  refine wp_loop_rounds 1 ?_
  rw [rounds_succ]
  go_wp2_with fail
  go_ret
  exact ⟨rfl, 0, 0, H0.out, rfl, .inr ⟨rfl, rfl, .inl rfl⟩⟩

set_option maxHeartbeats 1000000 in
theorem longer_some (b off cap : Nat) (ps : List Int) (bb bo n2 c2 : Nat) (bf : Nat → Nat) (k0 : Nat) (c : Int) (Inv : Nat → Prop) (w : World) (hpl : ps.length ≤ 4096)
    (hcp : ∀ j, j < ps.length → w.cell? ⟨b, off + j, none⟩ = some (.int .i64 (ps.getD j 0))) (h0 : Inv k0) (hle : ∀ k, Inv k → k ≤ ps.length ∧ k ≤ n2)
    (hcb : ∀ k, Inv k → 0 < k → w.cell? ⟨bb, bo + (k - 1), none⟩ = some (.int .i64 (bf k : Int))) (hlt : ∀ k, Inv k → 0 < k → bf k < k)
    (hback : ∀ k, Inv k → 0 < k → (k = ps.length ∨ fn ps k ≠ c) → Inv (bf k)) :
    Calls Try.prog 24 #[.slice (some ⟨b, off, none⟩) ps.length cap, .slice (some ⟨bb, bo, none⟩) n2 c2, .int .i64 (k0 : Int), .int .i64 c] w fun e w' => LongerPost (fn ps) ps.length c Inv w e w' := by
  have Hcp : Hid (∀ j, j < ps.length → w.cell? ⟨b, off + j, none⟩ = some (.int .i64 (ps.getD j 0))) := hcp
  have H0 : Hid (Inv k0) := h0
  have Hle : Hid (∀ k, Inv k → k ≤ ps.length ∧ k ≤ n2) := hle
  have Hcb : Hid (∀ k, Inv k → 0 < k → w.cell? ⟨bb, bo + (k - 1), none⟩ = some (.int .i64 (bf k : Int))) := hcb
  have Hlt : Hid (∀ k, Inv k → 0 < k → bf k < k) := hlt
  have Hback : Hid (∀ k, Inv k → 0 < k → (k = ps.length ∨ fn ps k ≠ c) → Inv (bf k)) := hback
  clear hcp h0 hle hcb hlt hback
  go_enter Try.func24, Try.ntmps24
  go_wp2_with fail
  go_loop [2] (fun u => ∃ k : Nat, u = .int .i64 (k : Int) ∧ Hid (Inv k)) (fun u => (intOf u).toNat)
  case atStart => exact ⟨k0, rfl, H0.out⟩
  case round =>
    obtain ⟨k, rfl, Hk⟩ := hrel
    obtain ⟨hkl, hkn⟩ := Hle.out k Hk.out
    by_cases hkz : k = 0
    · subst hkz
      by_cases hl : 0 < ps.length
      · obtain ⟨x, hx⟩ : ∃ x, x = ps.getD 0 0 := ⟨_, rfl⟩
        have hc := Hcp.out 0 hl
        rw [← hx] at hc
        have Hx : Hid (x = fn ps 0) := hx
        clear hx
        rw [Nat.add_zero] at hc
        by_cases hxc : x = c
        · subst hxc
          go_wp2_with fail
          go_ret
          exact ⟨rfl, 0, 1, Hk.out, rfl, .inl ⟨hl, Hx.out.symm, rfl⟩⟩
        · go_wp2_with fail
          go_ret
          exact ⟨rfl, 0, 0, Hk.out, rfl, .inr ⟨rfl, rfl, .inr (by rw [← Hx.out]; exact hxc)⟩⟩
      · have hl0 : ps.length = 0 := by omega
        go_wp2_with fail
        go_ret
        exact ⟨rfl, 0, 0, Hk.out, rfl, .inr ⟨rfl, rfl, .inl rfl⟩⟩
    · have hk1 : 0 < k := by omega
      obtain ⟨k1, rfl⟩ : ∃ k1, k = k1 + 1 := ⟨k - 1, by omega⟩
      have hcb := Hcb.out _ Hk.out hk1
      rw [Nat.add_sub_cancel] at hcb
      have hbl := Hlt.out _ Hk.out hk1
      have Hb : Hid ((k1 + 1 = ps.length ∨ fn ps (k1 + 1) ≠ c) → Inv (bf (k1 + 1))) := Hback.out _ Hk.out hk1
      generalize bf (k1 + 1) = d at hcb hbl Hb
      by_cases hke : k1 + 1 = ps.length
      · have Hd : Hid (Inv d) := Hb.out (.inl hke)
        rw [← hke]
        rw [← hke] at hpl
        clear hke hkl hkz
        go_wp2_with fail
        go_round
        case rel => exact ⟨d, rfl, Hd.out⟩
        case measure => simp [intOf]; omega
      · have hkl2 : k1 + 1 < ps.length := by omega
        obtain ⟨x, hx⟩ : ∃ x, x = ps.getD (k1 + 1) 0 := ⟨_, rfl⟩
        have hc := Hcp.out (k1 + 1) hkl2
        rw [← hx] at hc
        have Hx : Hid (x = fn ps (k1 + 1)) := hx
        clear hx
        by_cases hxc : x = c
        · subst hxc
          go_wp2_with fail
          go_ret
          exact ⟨rfl, k1 + 1, k1 + 2, Hk.out, by go_num, .inl ⟨hkl2, Hx.out.symm, rfl⟩⟩
        · have Hd : Hid (Inv d) := Hb.out (.inr (by rw [← Hx.out]; exact hxc))
          have hxc1 : (x == c) = false := by simpa using hxc
          have hxc2 : (x != c) = true := by simpa using hxc
          go_wp2_with fail
          go_round
          case rel => exact ⟨d, rfl, Hd.out⟩
          case measure => simp [intOf]; omega
end Go.Proofs.Ytppgpejeedjajaa.Seek
