/- Plain mathematics of what is between two lines. -/
import Derived.Test.YteggadicomighaaEdits
set_option linter.unusedVariables false
set_option linter.unusedSimpArgs false
namespace Go.Proofs.Yteggadicomighaa.Plain
/-- How long the longest common beginning is. -/
def cp : List Int → List Int → Nat
  | x :: l, y :: m => if x = y then cp l m + 1 else 0
  | _, _ => 0
theorem cp_nil (l : List Int) : cp l [] = 0 := by cases l <;> rfl
theorem cp_le : ∀ (l m : List Int), cp l m ≤ l.length ∧ cp l m ≤ m.length
  | [], _ => ⟨Nat.zero_le _, Nat.zero_le _⟩
  | x :: l, [] => ⟨Nat.zero_le _, Nat.zero_le _⟩
  | x :: l, y :: m => by
    have := cp_le l m
    unfold cp
    split
    · simp only [List.length_cons]; omega
    · exact ⟨Nat.zero_le _, Nat.zero_le _⟩
theorem cp_comm : ∀ (l m : List Int), cp l m = cp m l
  | [], m => by rw [cp_nil]; rfl
  | x :: l, [] => rfl
  | x :: l, y :: m => by
    unfold cp
    rw [cp_comm l m]
    by_cases h : x = y
    · rw [if_pos h, if_pos h.symm]
    · rw [if_neg h, if_neg (Ne.symm h)]
theorem cp_take : ∀ (l m : List Int), l.take (cp l m) = m.take (cp l m)
  | [], m => by rfl
  | x :: l, [] => rfl
  | x :: l, y :: m => by
    unfold cp
    by_cases h : x = y
    · rw [if_pos h, List.take_succ_cons, List.take_succ_cons, cp_take l m, h]
    · rw [if_neg h]
      rfl
/-- .. and behind it they part. -/
theorem cp_part : ∀ (l m : List Int), cp l m < l.length → cp l m < m.length → l.getD (cp l m) 0 ≠ m.getD (cp l m) 0
  | [], m, h, _ => by cases h
  | x :: l, [], _, h => by cases h
  | x :: l, y :: m, h1, h2 => by
    unfold cp at h1 h2 ⊢
    by_cases h : x = y
    · rw [if_pos h] at h1 h2 ⊢
      have := cp_part l m (by simpa using h1) (by simpa using h2)
      simpa using this
    · rw [if_neg h]
      simpa using h
theorem cp_self : ∀ (l : List Int), cp l l = l.length
  | [] => rfl
  | x :: l => by
    unfold cp
    rw [if_pos rfl, cp_self l]
    rfl
/-- A step of the count. -/
theorem cp_step (l m : List Int) (k : Nat) (h1 : k < l.length) (h2 : k < m.length) : cp (l.drop k) (m.drop k) = if l.getD k 0 = m.getD k 0 then cp (l.drop (k + 1)) (m.drop (k + 1)) + 1 else 0 := by
  rw [List.drop_eq_getElem_cons h1, List.drop_eq_getElem_cons h2, List.getD_eq_getElem?_getD, List.getD_eq_getElem?_getD, List.getElem?_eq_getElem h1, List.getElem?_eq_getElem h2]
  rfl
theorem cp_end (l m : List Int) (k : Nat) (h : l.length ≤ k ∨ m.length ≤ k) : cp (l.drop k) (m.drop k) = 0 := by
  rcases h with h | h
  · rw [List.drop_eq_nil_of_le h]
    rfl
  · rw [List.drop_eq_nil_of_le h, cp_nil]
/-- What is left, turned round. -/
def rst (l : List Int) (k : Nat) : List Int := (l.drop k).reverse
theorem rst_len (l : List Int) (k : Nat) : (rst l k).length = l.length - k := by unfold rst; rw [List.length_reverse, List.length_drop]
theorem rst_at (l : List Int) (k j : Nat) (h : j < l.length - k) : (rst l k).getD j 0 = l.getD (l.length - 1 - j) 0 := by
  unfold rst
  rw [List.getD_eq_getElem?_getD, List.getD_eq_getElem?_getD, List.getElem?_reverse (by rw [List.length_drop]; omega), List.getElem?_drop]
  congr 2
  rw [List.length_drop]
  omega
/-- What is between two lines: from, to, end. -/
def bfr (l m : List Int) : Nat := cp l m
def bcs (l m : List Int) : Nat := cp (rst l (cp l m)) (rst m (cp l m))
def bto (l m : List Int) : Nat := l.length - bcs l m
def ben (l m : List Int) : Nat := m.length - bcs l m
theorem bcs_le (l m : List Int) : bfr l m + bcs l m ≤ l.length ∧ bfr l m + bcs l m ≤ m.length := by
  have h := cp_le (rst l (cp l m)) (rst m (cp l m))
  rw [rst_len, rst_len] at h
  have := cp_le l m
  unfold bfr bcs
  omega
theorem bcs_comm (l m : List Int) : bcs l m = bcs m l := by
  unfold bcs
  rw [cp_comm m l, cp_comm (rst m _)]
/-- The one splice between two lines. -/
def bsp (l m : List Int) : Nsp := (bfr l m, bto l m, seg m (bfr l m) (ben l m))
/-- What Between tells. -/
def btw (l m : List Int) : List Nsp := if l = m then [] else [bsp l m]
theorem drop_same (l m : List Int) : l.drop (bto l m) = m.drop (ben l m) := by
  have h := cp_take (rst l (cp l m)) (rst m (cp l m))
  have hl := bcs_le l m
  have e : ∀ (z : List Int) (c k : Nat), k ≤ z.length → c ≤ z.length - k → ((rst z k).take c).reverse = z.drop (z.length - c) := by
    intro z c k hk hc
    unfold rst
    rw [List.take_reverse, List.reverse_reverse, List.length_drop, List.drop_drop]
    congr 1
    omega
  have h2 := congrArg List.reverse h
  rw [e l _ _ (cp_le l m).1 (by have := cp_le (rst l (cp l m)) (rst m (cp l m)); rw [rst_len, rst_len] at this; omega), e m _ _ (cp_le l m).2 (by have := cp_le (rst l (cp l m)) (rst m (cp l m)); rw [rst_len, rst_len] at this; omega)] at h2
  exact h2
theorem take_same (l m : List Int) : l.take (bfr l m) = m.take (bfr l m) := cp_take l m
theorem btw_app (l m : List Int) : app l 0 (btw l m) = m := by
  unfold btw
  by_cases h : l = m
  · rw [if_pos h, h]
    rfl
  · rw [if_neg h]
    have hl := bcs_le l m
    show seg l 0 (bfr l m) ++ seg m (bfr l m) (ben l m) ++ l.drop (bto l m) = m
    have e1 : seg l 0 (bfr l m) = m.take (bfr l m) := by
      unfold seg
      rw [List.drop_zero, Nat.sub_zero, take_same]
    rw [e1, drop_same, List.append_assoc, seg_drop m _ _ (by unfold ben; omega), List.take_append_drop]
theorem all_same {l m : List Int} (h1 : bfr l m = bto l m) (h2 : bfr l m = ben l m) : l = m := by
  have a := take_same l m
  have b := drop_same l m
  rw [← h1, ← h2] at b
  have c := List.take_append_drop (bfr l m) l
  rw [a, b, List.take_append_drop] at c
  exact c.symm
theorem btw_chg {l m : List Int} (h : l ≠ m) : bfr l m < bto l m ∨ 0 < (seg m (bfr l m) (ben l m)).length := by
  have hl := bcs_le l m
  by_cases h1 : bfr l m = bto l m
  · by_cases h2 : bfr l m = ben l m
    · exact absurd (all_same h1 h2) h
    · rw [seg_len m _ _ (by unfold ben; omega)]
      unfold ben at h2 ⊢
      omega
  · unfold bto at h1 ⊢
    omega
theorem same_chg {l m : List Int} (h : l = m) : bfr l m = bto l m ∧ bfr l m = ben l m := by
  subst h
  have h1 : cp l l = l.length := cp_self l
  have h2 : bcs l l = 0 := by
    have := (bcs_le l l).1
    unfold bfr at this
    omega
  unfold bfr bto ben
  omega
theorem btw_okay (l m : List Int) : Okay l.length 0 (btw l m) := by
  unfold btw
  by_cases h : l = m
  · rw [if_pos h]
    trivial
  · rw [if_neg h]
    have hl := bcs_le l m
    exact ⟨Nat.zero_le _, by show bfr l m ≤ bto l m; unfold bto; omega, by show bto l m ≤ l.length; unfold bto; omega, btw_chg h, trivial⟩
theorem btw_right (l m : List Int) (h1 : l.length ≤ 4096) (h2 : m.length ≤ 4096) : Right l (btw l m) := ⟨h1, btw_okay l m, by rw [btw_app]; exact h2⟩
/-- No smaller one would do. -/
theorem btw_edge (l m : List Int) : (bfr l m < bto l m → bfr l m < ben l m → l.getD (bfr l m) 0 ≠ m.getD (bfr l m) 0 ∧ l.getD (bto l m - 1) 0 ≠ m.getD (ben l m - 1) 0) := by
  intro h1 h2
  have hl := bcs_le l m
  unfold bto at h1
  unfold ben at h2
  refine ⟨cp_part l m (by unfold bfr at h1 hl; omega) (by unfold bfr at h2 hl; omega), ?_⟩
  have h := cp_part (rst l (cp l m)) (rst m (cp l m)) (by rw [rst_len]; unfold bfr bcs at h1; omega) (by rw [rst_len]; unfold bfr bcs at h2; omega)
  rw [rst_at _ _ _ (by unfold bfr bcs at h1; omega), rst_at _ _ _ (by unfold bfr bcs at h2; omega)] at h
  unfold bto ben
  rw [show l.length - bcs l m - 1 = l.length - 1 - cp (rst l (cp l m)) (rst m (cp l m)) by unfold bcs; omega, show m.length - bcs l m - 1 = m.length - 1 - cp (rst l (cp l m)) (rst m (cp l m)) by unfold bcs; omega]
  exact h
end Go.Proofs.Yteggadicomighaa.Plain
