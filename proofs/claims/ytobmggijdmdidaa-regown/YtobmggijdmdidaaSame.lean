/- The contract of the document's SameRegs, of registers that are the same. -/
import Derived.Test.YtobmggijdmdidaaCopied
set_option linter.unusedVariables false
set_option linter.unusedSimpArgs false
namespace Go.Proofs.Ytobmggijdmdidaa.Seek
open Go.RowKit

theorem equal_same (v1 v2 : Value) (xs : List Int) (w : World) (h1 : Reads w v1 xs) (h2 : Reads w v2 xs) (hx : Mild xs) :
    Calls Try.prog 11 #[v1, v2] w fun e w' => e = .returned (.bool true) ∧ ∃ q, w' = w.drewN q := by
  unfold Mild at hx
  have := equal_any v1 v2 xs xs w h1 h2 (by unfold maxLen; omega) (by unfold maxLen; omega)
  rw [beq_self_eq_true] at this
  exact this
set_option maxHeartbeats 1000000 in
theorem same_any (va vb : List Value) (ts : List (List Int)) (w : World) (h1 : ReadsR w va ts) (h2 : ReadsR w vb ts) :
    Calls Try.prog 10 #[arr va, arr vb] w fun e w' => e = .returned (.bool true) ∧ Below w.heap.size w w' := by
  have hla := h1.1
  have hlb := h2.1
  have H1 : Hid (∀ wx, Below w.heap.size w wx → ReadsR wx va ts) := fun wx hb => h1.below hb
  have H2 : Hid (∀ wx, Below w.heap.size w wx → ReadsR wx vb ts) := fun wx hb => h2.below hb
  clear h1 h2
  go_enter Try.func10, Try.ntmps10
  go_wp2_with (refine box24 rfl _ rfl va rfl hla ?_)
  intro w1 ha hb
  have HB1 : Hid (Below w.heap.size w w1) := hb
  have HA1 : Hid (HoldsA w1 w.heap.size va) := ha
  clear ha hb
  go_wp2_with (refine box24 rfl _ rfl vb rfl hlb ?_)
  intro w2 ha hb
  have HB2 : Hid (Below w.heap.size w w2) := below_trans HB1.out hb HB1.out.size
  have HA2 : Hid (HoldsA w2 w.heap.size va) := HA1.out.below hb
  have HD2 : Hid (HoldsA w2 w1.heap.size vb) := ha
  clear ha hb HB1 HA1
  generalize w1.heap.size = G at *
  go_wp2_with fail
  go_loopw [6] (fun u6 wr => ∃ (i : Nat), u6 = .int .i64 (i : Int) ∧ i ≤ 27 ∧ Hid (HoldsA wr w.heap.size va) ∧ Hid (HoldsA wr G vb) ∧ Hid (Below w.heap.size w wr))
    (fun u6 _ => 27 - (intOf u6).toNat)
  case atStart => exact ⟨0, rfl, by omega, HA2.out, HD2.out, HB2.out⟩
  case round =>
    obtain ⟨i, rfl, hi, Ha, Hd, Hb⟩ := hrel
    by_cases hlt : i < 27
    · have hiI : (i : Int) < 27 := by omega
      obtain ⟨a, c, hv, hr, hm⟩ := (H1.out wr Hb.out).at_ i hlt
      obtain ⟨a', c', hv', hr', _⟩ := (H2.out wr Hb.out).at_ i hlt
      have hc1 := Ha.out.cell i hlt
      have hc2 := Hd.out.cell i hlt
      rw [hv] at hc1
      rw [hv'] at hc2
      clear hv hv'
      generalize ts.getD i [] = t at *
      have HR1 : Hid (Reads wr (.slice a t.length c) t) := hr
      have HR2 : Hid (Reads wr (.slice a' t.length c') t) := hr'
      have HM : Hid (Mild t) := hm
      clear hr hr' hm
      go_wp2_with fail
      go_quiet ((go_at_call 11; exact Calls.quiet_of (equal_same _ _ t _ (HR1.out.drewN _) (HR2.out.drewN _) HM.out)))
      have HB5 : Hid (Below w.heap.size w (wr.drewN nq)) := below_drewN Hb.out nq
      have HA5 : Hid (HoldsA (wr.drewN nq) w.heap.size va) := Ha.out
      have HD5 : Hid (HoldsA (wr.drewN nq) G vb) := Hd.out
      clear Ha Hd Hb hc1 hc2
      go_wp2_with fail
      go_roundw
      case rel => exact ⟨i + 1, by go_num, by omega, HA5.out, HD5.out, HB5.out⟩
      case measure => simp [intOf] <;> omega
    · obtain rfl : i = 27 := by omega
      go_wp2_with fail
      go_ret
      exact ⟨rfl, Hb.out⟩
end Go.Proofs.Ytobmggijdmdidaa.Seek
