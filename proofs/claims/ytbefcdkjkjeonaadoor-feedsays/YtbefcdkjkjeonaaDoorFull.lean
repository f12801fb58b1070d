/- Plain mathematics of feed: when bytes are decided, what is decided first, and how all of them are taken; however they are cut it is the same. -/
import Derived.Test.YtbefcdkjkjeonaaDoorTexts
import Derived.Lib.DecodeN
set_option linter.unusedVariables false
set_option linter.unusedSimpArgs false
namespace Go.Proofs.YtbefcdkjkjeonaaDoor.Plain
open Go.Lib

/-- What utf8.FullRuneInString says. -/
def full : List UInt8 → Bool
  | [] => false
  | b :: r =>
    if firstT b.toNat % 8 ≤ r.length + 1 then true
    else match r with
      | [] => false
      | d :: r' => if d.toNat < accLo (firstT b.toNat / 16) ∨ accHi (firstT b.toNat / 16) < d.toNat then true
        else match r' with
          | [] => false
          | e :: _ => decide (e.toNat < 128 ∨ 191 < e.toNat)

theorem full_nil : full [] = false := rfl
theorem full1 (a : UInt8) : full [a] = decide (firstT a.toNat % 8 ≤ 1) := by
  simp only [full, List.length_nil]
  split <;> simp_all
theorem full2 (a b : UInt8) : full [a, b] = decide (firstT a.toNat % 8 ≤ 2 ∨ b.toNat < accLo (firstT a.toNat / 16) ∨ accHi (firstT a.toNat / 16) < b.toNat) := by
  simp only [full, List.length_nil, List.length_cons]
  repeat' split
  all_goals simp_all
  all_goals omega
theorem full3 (a b c : UInt8) (r : List UInt8) : full (a :: b :: c :: r) = decide (firstT a.toNat % 8 ≤ r.length + 3 ∨ (b.toNat < accLo (firstT a.toNat / 16) ∨ accHi (firstT a.toNat / 16) < b.toNat) ∨ (c.toNat < 128 ∨ 191 < c.toNat)) := by
  by_cases h1 : firstT a.toNat % 8 ≤ r.length + 3
  · simp [full, h1]
  · by_cases h2 : b.toNat < accLo (firstT a.toNat / 16) ∨ accHi (firstT a.toNat / 16) < b.toNat
    · simp [full, h1, h2]
    · simp [full, h1, h2]
theorem need_le (b : Nat) : firstT b % 8 ≤ 4 := by
  unfold firstT
  repeat' split
  all_goals omega
theorem full_four (a b c d : UInt8) (r : List UInt8) : full (a :: b :: c :: d :: r) = true := by
  rw [full3]
  have := need_le a.toNat
  simp
  omega
theorem full_append (l x : List UInt8) (h : full l = true) : full (l ++ x) = true := by
  match l, h with
  | [], h => cases h
  | [a], h =>
    match x with
    | [] => simpa using h
    | [b] => rw [full1] at h; simp only [List.cons_append, List.nil_append, full2]; simp at h ⊢; omega
    | b :: c :: r => rw [full1] at h; simp only [List.cons_append, List.nil_append, full3]; simp at h ⊢; omega
  | [a, b], h =>
    match x with
    | [] => simpa using h
    | c :: r => rw [full2] at h; simp only [List.cons_append, List.nil_append, full3]; simp at h ⊢; omega
  | a :: b :: c :: r, h =>
    rw [full3] at h
    simp only [List.cons_append, full3]
    simp at h ⊢
    omega

theorem f2 {x : Nat} (h : 194 ≤ x) (h' : x < 224) : firstT x = 2 := by
  unfold firstT
  rw [if_neg (by omega), if_neg (by omega), if_pos (by omega)]
theorem f3 {x : Nat} (h : 224 < x) (h' : x < 240) (hn : x ≠ 237) : firstT x = 3 := by
  unfold firstT
  repeat' split
  all_goals omega
theorem f4 {x : Nat} (h : 240 < x) (h' : x < 244) : firstT x = 4 := by
  unfold firstT
  repeat' split
  all_goals omega
/-- What the first byte asks for, and of the second one. -/
theorem lead3 {x : Nat} (h : 224 ≤ x) (h' : x < 240) : firstT x % 8 = 3 ∧ accLo (firstT x / 16) = (if x = 224 then 160 else 128) ∧ accHi (firstT x / 16) = (if x = 237 then 159 else 191) := by
  by_cases h1 : x = 224
  · subst h1; decide
  · by_cases h2 : x = 237
    · subst h2; decide
    · rw [f3 (by omega) h' h2, if_neg h1, if_neg h2]; decide
theorem lead4 {x : Nat} (h : 240 ≤ x) (h' : x ≤ 244) : firstT x % 8 = 4 ∧ accLo (firstT x / 16) = (if x = 240 then 144 else 128) ∧ accHi (firstT x / 16) = (if x = 244 then 143 else 191) := by
  by_cases h1 : x = 240
  · subst h1; decide
  · by_cases h2 : x = 244
    · subst h2; decide
    · rw [f4 (by omega) (by omega), if_neg h1, if_neg h2]; decide
/-- Bytes that ask for more are these. -/
theorem lead_inv {x : Nat} (h : 1 < firstT x % 8) : (194 ≤ x ∧ x < 224 ∧ firstT x % 8 = 2) ∨ (224 ≤ x ∧ x < 240 ∧ firstT x % 8 = 3) ∨ (240 ≤ x ∧ x ≤ 244 ∧ firstT x % 8 = 4) := by
  unfold firstT at h ⊢
  repeat' split at h
  all_goals first | omega | (repeat' split) <;> omega

theorem full_bytes (c : Nat) (h : Ok c) : full (bytes c) = true := by
  unfold Ok at h
  unfold bytes
  split
  · rw [full1, toNat_of (by omega)]
    unfold firstT
    rw [if_pos (by omega)]
    decide
  · split
    · rw [full2, toNat_of (by omega), toNat_of (by omega), f2 (by omega) (by omega)]
      simp
    · split
      · rw [full3, toNat_of (by omega), toNat_of (by omega), toNat_of (by omega), (lead3 (by omega) (by omega)).1]
        simp
      · exact full_four _ _ _ _ _
/-- A beginning of a character, and not all of it, is not decided. -/
theorem full_part (c : Nat) (h : Ok c) (l m : List UInt8) (hm : m ≠ []) (e : l ++ m = bytes c) : full l = false := by
  unfold Ok at h
  unfold bytes at e
  have hml : 0 < m.length := List.length_pos_iff.2 hm
  split at e
  · have hlen := congrArg List.length e
    simp at hlen
    obtain rfl : l = [] := List.length_eq_zero_iff.1 (by omega)
    rfl
  · split at e
    · have hlen := congrArg List.length e
      simp at hlen
      match l, hlen, e with
      | [], _, _ => rfl
      | [a], _, e =>
        simp only [List.cons_append, List.nil_append, List.cons.injEq] at e
        rw [e.1, full1, toNat_of (by omega), f2 (by omega) (by omega)]
        decide
      | _ :: _ :: _, hlen, _ => simp at hlen; omega
    · split at e
      · have hlen := congrArg List.length e
        simp at hlen
        match l, hlen, e with
        | [], _, _ => rfl
        | [a], _, e =>
          simp only [List.cons_append, List.nil_append, List.cons.injEq] at e
          rw [e.1, full1, toNat_of (by omega), (lead3 (by omega) (by omega)).1]
          decide
        | [a, b], _, e =>
          simp only [List.cons_append, List.nil_append, List.cons.injEq] at e
          have L := lead3 (x := 224 + c / 4096) (by omega) (by omega)
          rw [e.1, e.2.1, full2, toNat_of (by omega), toNat_of (by omega), L.1, L.2.1, L.2.2]
          simp only [decide_eq_false_iff_not]
          split <;> split <;> omega
        | _ :: _ :: _ :: _, hlen, _ => simp at hlen; omega
      · have hlen := congrArg List.length e
        simp at hlen
        match l, hlen, e with
        | [], _, _ => rfl
        | [a], _, e =>
          simp only [List.cons_append, List.nil_append, List.cons.injEq] at e
          rw [e.1, full1, toNat_of (by omega), (lead4 (by omega) (by omega)).1]
          decide
        | [a, b], _, e =>
          simp only [List.cons_append, List.nil_append, List.cons.injEq] at e
          have L := lead4 (x := 240 + c / 262144) (by omega) (by omega)
          rw [e.1, e.2.1, full2, toNat_of (by omega), toNat_of (by omega), L.1, L.2.1, L.2.2]
          simp only [decide_eq_false_iff_not]
          split <;> split <;> omega
        | [a, b, d], _, e =>
          simp only [List.cons_append, List.nil_append, List.cons.injEq] at e
          have L := lead4 (x := 240 + c / 262144) (by omega) (by omega)
          rw [e.1, e.2.1, e.2.2.1, full3, toNat_of (by omega), toNat_of (by omega), toNat_of (by omega), L.1, L.2.1, L.2.2]
          simp only [decide_eq_false_iff_not, List.length_nil]
          split <;> split <;> omega
        | _ :: _ :: _ :: _ :: _, hlen, _ => simp at hlen; omega
end Go.Proofs.YtbefcdkjkjeonaaDoor.Plain
