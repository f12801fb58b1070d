/- The contract of dyck.Right. -/
import Derived.Test.YtoknmihooopnnaaRights
import Derived.Test.YtoknmihooopnnaaPairsGo
set_option linter.unusedVariables false
set_option linter.unusedSimpArgs false
namespace Go.Proofs.Ytoknmihooopnnaa.Seek
open Go.RowKit Plain

/-- Right's answer. -/
def RightPost (zs : List Int) (w : World) (e : Ending) (w' : World) : Prop :=
  Below w.heap.size w w' ∧ ((4096 < zs.length ∧ e = .returned (.tuple #[.bool false, .int .i64 2])) ∨ (zs.length ≤ 4096 ∧ e = .returned (.tuple #[.bool (right zs), .int .i64 0])))

theorem right_large (a : Option Addr) (n cap : Nat) (zs : List Int) (w : World) (hn : n = zs.length) (hpl : 4096 < n) (hm : n ≤ maxLen) :
    Calls Try.prog 9 #[.slice a n cap] w fun e w' => RightPost zs w e w' := by
  have Hn : Hid (n = zs.length) := hn
  clear hn
  go_enter Try.func9, Try.ntmps9
  go_wp2_with fail
  go_ret2
  exact ⟨Below.refl _ _, .inl ⟨by rw [← Hn.out]; exact hpl, rfl⟩⟩

theorem take_next (zs : List Int) (k : Nat) (h : k < zs.length) : zs.take (k + 1) = zs.take k ++ [zs.getD k 0] := by
  rw [List.take_succ_eq_append_getElem h, List.getD_eq_getElem?_getD, List.getElem?_eq_getElem h]
  rfl
theorem right_stops (zs : List Int) (k : Nat) (h : k < zs.length) (S : List Int) (hS : rgo [] (zs.take k) = some S) (hn : rgo S [zs.getD k 0] = none) : right zs = false := by
  rw [← Bool.not_eq_true, right_iff]
  intro he
  rw [← List.take_append_drop (k + 1) zs, take_next zs k h, List.append_assoc, rgo_append, hS] at he
  have h2 : rgo S ([zs.getD k 0] ++ zs.drop (k + 1)) = some [] := he
  rw [rgo_append, hn] at h2
  cases h2
theorem rgo_take (zs : List Int) (k : Nat) (h : k < zs.length) (S S' : List Int) (hS : rgo [] (zs.take k) = some S) (hn : rgo S [zs.getD k 0] = some S') : rgo [] (zs.take (k + 1)) = some S' := by
  rw [take_next zs k h, rgo_append, hS]
  exact hn
theorem ints_append (a b : List Int) : ints (a ++ b) = ints a ++ ints b := by unfold ints; rw [List.map_append]

set_option maxHeartbeats 2000000 in
theorem right_some (b off cap : Nat) (zs : List Int) (w : World) (hpl : zs.length ≤ 4096) (hb : b < w.heap.size)
    (hcp : ∀ j, j < zs.length → w.cell? ⟨b, off + j, none⟩ = some (.int .i64 (zs.getD j 0))) :
    Calls Try.prog 9 #[.slice (some ⟨b, off, none⟩) zs.length cap] w fun e w' => RightPost zs w e w' := by
  obtain ⟨i0, hi, hz0, hz1, hz2⟩ := info_parts info3
  have Hcp : Hid (∀ j, j < zs.length → w.cell? ⟨b, off + j, none⟩ = some (.int .i64 (zs.getD j 0))) := hcp
  clear hcp
  go_enter Try.func9, Try.ntmps9
  go_wp2_with fail
  go_loopw [4, 15] (fun u4 u15 wr => ∃ (k : Nat) (S : List Int), u15 = .int .i64 (k : Int) ∧ k ≤ zs.length ∧ S.length ≤ k ∧ Hid (rgo [] (zs.take k) = some S) ∧ wr.ownsRow w.heap.size 3 1 u4 S.length (ints S.reverse) ∧ Below w.heap.size w wr)
    (fun _ u15 _ => zs.length - (intOf u15).toNat)
  case atStart => exact ⟨0, [], rfl, by omega, by simp, rfl, World.ownsRow_nil _ _ _ _, Below.refl _ _⟩
  case round =>
    obtain ⟨k, S, rfl, hk, hSk, HS, hown, hbr⟩ := hrel
    have hbs := hbr.size
    by_cases hlt : k < zs.length
    · have hcx : wr.cell? ⟨b, off + k, none⟩ = some (.int .i64 (zs.getD k 0)) := (hbr.cell (by exact hb)).trans (Hcp.out _ hlt)
      have Hstop : Hid (rgo S [zs.getD k 0] = none → right zs = false) := right_stops zs k hlt S HS.out
      have Htake : Hid (∀ S', rgo S [zs.getD k 0] = some S' → rgo [] (zs.take (k + 1)) = some S') := fun S' => rgo_take zs k hlt S S' HS.out
      obtain ⟨c, hc⟩ : ∃ c, c = zs.getD k 0 := ⟨_, rfl⟩
      rw [← hc] at hcx Hstop Htake
      clear hc
      go_wp2_with fail
      refine (kind_go _ _).mono ?_
      rintro e w2 ⟨rfl, hw2⟩
      rw [hw2]
      clear hw2 w2 hcx
      rcases sort c with h4 | h4 | h4
      · have Hn : Hid (rgo [] (zs.take (k + 1)) = some (c :: S)) := Htake.out _ (rgo_open h4.1)
        have hkc : (kind c != 0) = true := by simpa using h4.2.2.1
        have hs2 := h4.2.1
        have Ho : Hid (wr.ownsRow w.heap.size 3 1 u4 S.length (ints S.reverse)) := hown
        rw [hs2]
        clear h4 hs2 Htake Hstop hown
        generalize kind c = kc at *
        go_wp2_with (at_builtin; refine wpList_append_own _ rfl _ _ 22 rfl w.heap.size 3 i0 (.int .i64 0) 1 8 Try.underlying22 hi hz0 hz1 hz2 rfl (by decide) _ _ _ rfl (Ho.out.alloc _) ⟨wr.heap.size, 0, none⟩ 1 1 [.int .i64 c] rfl rfl ?c1 ?c2 ?c3 ?c4 ?c5 ?_)
        case c1 =>
          intro j u hj
          match j, hj with
          | 0, hj => simp at hj; subst hj; simp [Addr.add]
        case c2 => intro u hu; simp at hu; subst hu; rfl
        case c3 => unfold maxLen; omega
        case c4 => omega
        case c5 => simp; omega
        intro v' w5 hown' hgrow _
        have hb5 : Below w.heap.size w w5 := (hbr.alloc hbr.size _).grown hgrow (by simp; omega) (fun j hj => (Ho.out.lt j hj).1)
        have Ho5 : Hid (w5.ownsRow w.heap.size 3 1 v' (c :: S).length (ints (c :: S).reverse)) := by
          show World.ownsRow _ _ _ _ _ _ _
          rw [List.reverse_cons, ints_append, List.length_cons]
          exact hown'
        clear hown' hgrow hbr Ho
        go_wp2_with fail
        go_roundw
        case rel => exact ⟨k + 1, c :: S, by go_num, by omega, by simp; omega, Hn.out, Ho5.out, hb5⟩
        case measure => simp [intOf]; omega
      · cases S with
        | nil =>
          have Hf : Hid (right zs = false) := Hstop.out (rgo_shut_none h4.2.1)
          obtain ⟨a, cp, rfl⟩ : ∃ a cp, u4 = .slice a 0 cp := by
            rcases hown.2 with ⟨rfl, _⟩ | ⟨g, cp, cur, rfl, _⟩
            · exact ⟨_, _, rfl⟩
            · exact ⟨_, _, rfl⟩
          have hs2 := h4.2.1
          rw [hs2]
          clear h4 hs2 Htake Hstop hown
          generalize kind c = kc at *
          go_wp2_with fail
          go_ret2
          refine ⟨hbr, .inr ⟨hpl, ?_⟩⟩
          rw [Hf.out]
          rfl
        | cons t S' =>
          obtain ⟨g, cp, hv, hrcp⟩ : ∃ g cp, u4 = .slice (some ⟨g, 0, none⟩) (S'.length + 1) cp ∧ S'.length + 1 ≤ cp := by
            rcases hown.2 with ⟨_, h0⟩ | ⟨g, cp, cur, hv, _, _, hn, _⟩
            · simp at h0
            · exact ⟨g, cp, by rw [hv]; rfl, by simpa using hn⟩
          subst hv
          rw [List.length_cons] at hown hSk
          have hct : wr.cell? ⟨g, S'.length, none⟩ = some (.int .i64 t) := by
            rw [hown.cellAt S'.length (by omega)]
            unfold ints
            simp
          have Hsh : Hid (wr.ownsRow w.heap.size 3 1 (.slice (some ⟨g, 0, none⟩) S'.length cp) S'.length (ints S'.reverse)) := by
            have h := owned_shrink hown
            have e : (ints (t :: S').reverse).take S'.length = ints S'.reverse := by
              rw [List.reverse_cons, ints_append, List.take_append_of_le_length (by rw [ints_len]; simp), List.take_of_length_le (by rw [ints_len]; simp)]
            rw [← e]
            exact h
          have hW1 : IntKind.i64.wrap (S'.length : Int) = (S'.length : Int) := IntWalk.i64_in _ ⟨by omega, by omega⟩
          have hrcp2 : S'.length ≤ cp := by omega
          have hI2 : (0 : Int) ≤ (S'.length : Int) := by omega
          have hs2 := h4.2.1
          by_cases ht : t = kind c
          · have Hn : Hid (rgo [] (zs.take (k + 1)) = some S') := Htake.out _ (rgo_shut hs2 ht)
            have HSk : Hid (S'.length ≤ k + 1) := by show S'.length ≤ k + 1; omega
            rw [hs2]
            rw [← ht]
            clear h4 hs2 Htake Hstop hown HS
            clear ht
            have hne : (t != t) = false := by simp
            go_wp2_with fail
            go_roundw
            case rel => exact ⟨k + 1, S', by go_num, by omega, HSk.out, Hn.out, Hsh.out, hbr⟩
            case measure => simp [intOf]; omega
          · have Hf : Hid (right zs = false) := Hstop.out (rgo_shut_ne hs2 ht)
            have hne : (t != kind c) = true := by simpa using ht
            rw [hs2]
            clear h4 hs2 Htake Hstop hown HS ht
            generalize kind c = kc at *
            go_wp2_with fail
            go_ret2
            refine ⟨hbr, .inr ⟨hpl, ?_⟩⟩
            rw [Hf.out]
            rfl
      · have Hn : Hid (rgo [] (zs.take (k + 1)) = some S) := Htake.out _ (rgo_other h4.1 h4.2.1)
        rw [h4.2.1, h4.2.2]
        clear h4 Htake Hstop
        go_wp2_with fail
        go_roundw
        case rel => exact ⟨k + 1, S, by go_num, by omega, by omega, Hn.out, hown, hbr⟩
        case measure => simp [intOf]; omega
    · obtain rfl : k = zs.length := by omega
      have hS := HS.out
      rw [List.take_length] at hS
      have Hr : Hid (right zs = (S.length == 0)) := by
        show right zs = (S.length == 0)
        unfold right
        rw [hS]
        cases S <;> simp
      obtain ⟨a, cp, hv⟩ : ∃ a cp, u4 = .slice a S.length cp := by
        rcases hown.2 with ⟨rfl, h0⟩ | ⟨g, cp, cur, rfl, _⟩
        · exact ⟨none, 0, by rw [h0]⟩
        · exact ⟨_, _, rfl⟩
      subst hv
      clear hS HS hown
      by_cases h0 : S.length = 0
      · rw [h0] at Hr ⊢
        go_wp2_with fail
        go_ret2
        refine ⟨hbr, .inr ⟨hpl, ?_⟩⟩
        rw [Hr.out]
        rfl
      · have h1 : ((S.length : Int) == 0) = false := by simp; intro h; exact h0 (by rw [h]; rfl)
        have Hr2 : Hid (right zs = false) := by
          show right zs = false
          rw [Hr.out]
          simpa using h0
        clear Hr h0
        go_wp2_with fail
        go_ret2
        refine ⟨hbr, .inr ⟨hpl, ?_⟩⟩
        rw [Hr2.out]
        rfl

set_option maxHeartbeats 1000000 in
theorem right_empty (a : Option Addr) (cap : Nat) (w : World) : Calls Try.prog 9 #[.slice a 0 cap] w fun e w' => RightPost [] w e w' := by
  go_enter Try.func9, Try.ntmps9
  go_wp2_with fail
  refine wp_loop_rounds 1 ?_
  rw [rounds_succ]
  go_wp2_with fail
  go_ret2
  exact ⟨Below.refl _ _, .inr ⟨by decide, rfl⟩⟩

theorem right_any (v : Value) (zs : List Int) (w : World) (h : Reads w v zs) (hm : zs.length ≤ maxLen) :
    Calls Try.prog 9 #[v] w fun e w' => RightPost zs w e w' := by
  obtain ⟨a, cap, hv⟩ := h.shape
  by_cases hl : 4096 < zs.length
  · rw [hv]
    exact right_large a zs.length cap zs w rfl hl hm
  · rcases h with ⟨a, cap, rfl, rfl⟩ | ⟨b, off, cap, rfl, hcap, hmm, hlt, hc⟩
    · exact right_empty a cap w
    · exact right_some b off cap zs w (by omega) hlt hc
end Go.Proofs.Ytoknmihooopnnaa.Seek
