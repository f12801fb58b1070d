/- Plain mathematics of EditTyped: what is typed stands there; what is taken back is gone. -/
import Derived.Test.YtpgjaoemkadenabTyped
set_option linter.unusedVariables false
set_option linter.unusedSimpArgs false
set_option maxRecDepth 100000
namespace Go.Proofs.Ytpgjaoemkadenab.Plain
open Seek
/-- A key that stands for itself. -/
def plainKey (c : Int) : Bool := !(decide (c < 32) || decide (c = 127))
/-- The line behind i keys. -/
def S1 (zs : List Int) (j : Nat) (ks : List Int) (i : Nat) : List Int × Int := (wit zs j j (ks.take i), (j : Int) + (i : Int))
/-- The line with i keys taken back. -/
def S2 (zs : List Int) (j : Nat) (ks : List Int) (i : Nat) : List Int × Int := (wit zs j j (ks.take (ks.length - i)), (j : Int) + ((ks.length - i : Nat) : Int))
theorem wit_none (zs : List Int) (j : Nat) : wit zs j j [] = zs := by unfold wit; rw [List.append_nil, List.take_append_drop]
theorem wit_step (zs : List Int) (j i : Nat) (ks : List Int) (hj : j ≤ zs.length) (hi : i < ks.length) : wit (wit zs j j (ks.take i)) (j + i) (j + i) [ks.getD i 0] = wit zs j j (ks.take (i + 1)) := by
  have h1 : (zs.take j ++ ks.take i).length = j + i := by rw [List.length_append, List.length_take, List.length_take]; omega
  unfold wit
  rw [List.take_left' h1, List.drop_left' h1, List.take_add_one, List.getD_eq_getElem?_getD, List.getElem?_eq_getElem hi]
  simp
theorem wit_back (zs : List Int) (j i : Nat) (ks : List Int) (hj : j ≤ zs.length) (hi : i < ks.length) : wit (wit zs j j (ks.take (i + 1))) (j + i) (j + (i + 1)) [] = wit zs j j (ks.take i) := by
  have h1 : (zs.take j ++ ks.take (i + 1)).length = j + (i + 1) := by rw [List.length_append, List.length_take, List.length_take]; omega
  have h2 : (zs.take j ++ ks.take (i + 1)).take (j + i) = zs.take j ++ ks.take i := by
    rw [List.take_append, List.take_take, List.length_take]
    rw [show min (j + i) j = j by omega, show j + i - min j zs.length = i by omega, List.take_take, show min i (i + 1) = i by omega]
  unfold wit
  rw [List.drop_left' h1, List.take_append_of_le_length (by rw [h1]; omega), h2, List.append_nil]
theorem wit_len2 (zs : List Int) (j : Nat) (x : List Int) (hj : j ≤ zs.length) : (wit zs j j x).length = zs.length + x.length := by rw [wit_len zs j j x (Nat.le_refl _) hj]; omega
theorem s1_zero (zs : List Int) (j : Nat) (ks : List Int) : S1 zs j ks 0 = (zs, (j : Int)) := by
  unfold S1
  rw [List.take_zero, wit_none]
  simp
theorem s1_all (zs : List Int) (j : Nat) (ks : List Int) : S1 zs j ks ks.length = (wit zs j j ks, (j : Int) + (ks.length : Int)) := by unfold S1; rw [List.take_length]
theorem key_plain {c : Int} (h : plainKey c = true) : 32 ≤ c ∧ c ≠ 127 := by
  unfold plainKey at h
  simp at h
  omega
/-- How far one gets. -/
def far (zs ks : List Int) : Nat := min ks.length (200 - zs.length)
theorem s1_step (zs : List Int) (j : Nat) (ks : List Int) (hj : j ≤ zs.length) (i : Nat) (hi : i < far zs ks) (hp : plainKey (ks.getD i 0) = true) :
    keyd (S1 zs j ks i).1 (S1 zs j ks i).2 1 (ks.getD i 0) = ((S1 zs j ks (i + 1)).1, (S1 zs j ks (i + 1)).2, 0) := by
  unfold far at hi
  have hk := key_plain hp
  have hl : (S1 zs j ks i).1.length = zs.length + i := by
    show (wit zs j j (ks.take i)).length = _
    rw [wit_len2 zs j _ hj, List.length_take]; omega
  have hat : (S1 zs j ks i).2 = ((j + i : Nat) : Int) := by unfold S1; push_cast; rfl
  unfold keyd
  rw [if_neg (by rw [hl, hat]; unfold tchk; rw [if_neg (by omega), if_neg (by omega)]; decide), if_pos hk, hat, Int.toNat_natCast]
  unfold tpd
  rw [show ovr (S1 zs j ks i).1.length (j + i) 1 = j + i from if_neg (by decide)]
  have hw : wit (S1 zs j ks i).1 (j + i) (j + i) [ks.getD i 0] = (S1 zs j ks (i + 1)).1 := wit_step zs j i ks hj (by omega)
  rw [hw]
  have hl2 : (S1 zs j ks (i + 1)).1.length = zs.length + (i + 1) := by
    show (wit zs j j (ks.take (i + 1))).length = _
    rw [wit_len2 zs j _ hj, List.length_take]; omega
  rw [if_neg (by omega)]
  unfold S1
  simp only [Prod.mk.injEq, true_and, and_true]
  push_cast
  omega
theorem s1_full (zs : List Int) (j : Nat) (ks : List Int) (hj : j ≤ zs.length) (hf : far zs ks < ks.length) (hp : plainKey (ks.getD (far zs ks) 0) = true) :
    (keyd (S1 zs j ks (far zs ks)).1 (S1 zs j ks (far zs ks)).2 1 (ks.getD (far zs ks) 0)).2.2 ≠ 0 := by
  obtain ⟨m, hm⟩ : ∃ m, m = far zs ks := ⟨_, rfl⟩
  rw [← hm] at hf hp ⊢
  have hk := key_plain hp
  unfold far at hm
  have hl : (S1 zs j ks m).1.length = zs.length + m := by
    show (wit zs j j (ks.take m)).length = _
    rw [wit_len2 zs j _ hj, List.length_take]; omega
  have hat : (S1 zs j ks m).2 = ((j + m : Nat) : Int) := by unfold S1; push_cast; rfl
  unfold keyd
  by_cases hz : 200 < zs.length
  · have ht : tchk (S1 zs j ks m).1.length (S1 zs j ks m).2 1 = 2 := by unfold tchk; rw [if_pos (by rw [hl]; omega)]
    rw [ht, if_pos (by decide)]
    decide
  · rw [if_neg (by rw [hl, hat]; unfold tchk; rw [if_neg (by omega), if_neg (by omega)]; decide), if_pos hk, hat, Int.toNat_natCast]
    unfold tpd
    rw [show ovr (S1 zs j ks m).1.length (j + m) 1 = j + m from if_neg (by decide)]
    rw [if_pos (by rw [wit_len2 _ _ _ (by rw [hl]; omega), hl]; show 200 < zs.length + m + 1; omega)]
    decide
theorem s2_zero (zs : List Int) (j : Nat) (ks : List Int) : S2 zs j ks 0 = (wit zs j j ks, (j : Int) + (ks.length : Int)) := by unfold S2; rw [Nat.sub_zero, List.take_length]
theorem s2_all (zs : List Int) (j : Nat) (ks : List Int) : S2 zs j ks ks.length = (zs, (j : Int)) := by
  unfold S2
  rw [Nat.sub_self, List.take_zero, wit_none]
  simp
theorem s2_step (zs : List Int) (j : Nat) (ks : List Int) (hj : j ≤ zs.length) (hl : zs.length + ks.length ≤ 200) (i : Nat) (hi : i < ks.length) :
    keyd (S2 zs j ks i).1 (S2 zs j ks i).2 1 8 = ((S2 zs j ks (i + 1)).1, (S2 zs j ks (i + 1)).2, 0) := by
  obtain ⟨q, hq⟩ : ∃ q, ks.length - i = q + 1 := ⟨ks.length - i - 1, by omega⟩
  have hq2 : ks.length - (i + 1) = q := by omega
  have e1 : S2 zs j ks i = (wit zs j j (ks.take (q + 1)), ((j + (q + 1) : Nat) : Int)) := by unfold S2; rw [hq]; push_cast; rfl
  have e2 : S2 zs j ks (i + 1) = (wit zs j j (ks.take q), ((j + q : Nat) : Int)) := by unfold S2; rw [hq2]; push_cast; rfl
  have hlen : (wit zs j j (ks.take (q + 1))).length = zs.length + (q + 1) := by rw [wit_len2 zs j _ hj, List.length_take]; omega
  rw [e1, e2]
  unfold keyd
  rw [if_neg (by rw [hlen]; unfold tchk; rw [if_neg (by omega), if_neg (by omega)]; decide), if_neg (by decide), if_neg (by decide), if_neg (by show ¬ ((j + (q + 1) : Nat) : Int) = 0; omega)]
  show ((rbd (wit zs j j (ks.take (q + 1))) (((j + (q + 1) : Nat) : Int)).toNat 1 8).1, (rbd (wit zs j j (ks.take (q + 1))) (((j + (q + 1) : Nat) : Int)).toNat 1 8).2, (0 : Int)) = _
  rw [Int.toNat_natCast]
  unfold rbd
  rw [if_neg (by decide), show rbf (wit zs j j (ks.take (q + 1))) (j + (q + 1)) 8 = j + q by unfold rbf; rw [if_neg (by decide), if_neg (by decide)]; omega]
  rw [wit_back zs j q ks hj (by omega)]
end Go.Proofs.Ytpgjaoemkadenab.Plain
