/- Things around a place, in plain mathematics. -/
import Derived.Test.YtpgjaoemkadenabM13
import Derived.Test.YtpgjaoemkadenabM18
import Derived.Test.YtpgjaoemkadenabM11
set_option linter.unusedVariables false
set_option linter.unusedSimpArgs false
set_option maxRecDepth 100000
namespace Go.Proofs.Ytpgjaoemkadenab.Plain
open Seek
/-- Down from i as long as p holds of the place ahead. -/
def lo (p : Nat → Bool) : Nat → Nat
  | 0 => 0
  | i + 1 => if p i = true then lo p i else i + 1
def hiF (p : Nat → Bool) : Nat → Nat → Nat
  | 0, i => i
  | n + 1, i => if p i = true then hiF p n (i + 1) else i
/-- Up from i, below n, as long as p holds. -/
def hi (p : Nat → Bool) (n i : Nat) : Nat := hiF p (n - i) i
theorem lo_hit {p : Nat → Bool} {i : Nat} (h : p i = true) : lo p (i + 1) = lo p i := if_pos h
theorem lo_miss {p : Nat → Bool} {i : Nat} (h : p i = false) : lo p (i + 1) = i + 1 := if_neg (by rw [h]; decide)
theorem hi_hit {p : Nat → Bool} {n i : Nat} (hin : i < n) (h : p i = true) : hi p n i = hi p n (i + 1) := by
  unfold hi
  rw [show n - i = (n - (i + 1)) + 1 by omega]
  exact if_pos h
theorem hi_miss {p : Nat → Bool} {n i : Nat} (hin : i < n) (h : p i = false) : hi p n i = i := by
  unfold hi
  rw [show n - i = (n - (i + 1)) + 1 by omega]
  exact if_neg (by rw [h]; decide)
theorem hi_done {p : Nat → Bool} {n i : Nat} (h : n ≤ i) : hi p n i = i := by
  unfold hi
  rw [show n - i = 0 by omega]
  rfl
theorem lo_spec (p : Nat → Bool) : ∀ i, lo p i ≤ i ∧ ∀ x, lo p i ≤ x → x < i → p x = true
  | 0 => ⟨Nat.le_refl _, fun x _ h => absurd h (by omega)⟩
  | i + 1 => by
    obtain ⟨h1, h2⟩ := lo_spec p i
    by_cases h : p i = true
    · rw [lo_hit h]
      refine ⟨by omega, fun x hx hxi => ?_⟩
      by_cases hx2 : x = i
      · rw [hx2]; exact h
      · exact h2 x hx (by omega)
    · rw [lo_miss (by simpa using h)]
      exact ⟨Nat.le_refl _, fun x hx hxi => absurd hx (by omega)⟩
theorem hiF_spec (p : Nat → Bool) : ∀ n i, i ≤ hiF p n i ∧ hiF p n i ≤ i + n ∧ ∀ x, i ≤ x → x < hiF p n i → p x = true
  | 0, i => ⟨Nat.le_refl _, Nat.le_refl _, fun x h1 h2 => by
      have h3 : x < i := h2
      omega⟩
  | n + 1, i => by
    obtain ⟨h1, h2, h3⟩ := hiF_spec p n (i + 1)
    by_cases h : p i = true
    · rw [show hiF p (n + 1) i = hiF p n (i + 1) from if_pos h]
      refine ⟨by omega, by omega, fun x hx hxi => ?_⟩
      by_cases hx2 : x = i
      · rw [hx2]; exact h
      · exact h3 x (by omega) hxi
    · rw [show hiF p (n + 1) i = i from if_neg h]
      exact ⟨Nat.le_refl _, by omega, fun x hx hxi => absurd hx (by omega)⟩
theorem hi_spec (p : Nat → Bool) (n i : Nat) (h : i ≤ n) : i ≤ hi p n i ∧ hi p n i ≤ n ∧ ∀ x, i ≤ x → x < hi p n i → p x = true := by
  obtain ⟨h1, h2, h3⟩ := hiF_spec p (n - i) i
  exact ⟨h1, by unfold hi; omega, h3⟩

/-- The kind at a place. -/
def kd (zs : List Int) (b : Bool) (i : Nat) : Int := kind (zs.getD i 0) b
def same (zs : List Int) (b : Bool) (k i : Nat) : Bool := kd zs b i == kd zs b k
/-- Where the run at k begins. -/
def rlo (zs : List Int) (b : Bool) (k : Nat) : Nat := lo (same zs b k) k
/-- The place behind its end. -/
def rhi (zs : List Int) (b : Bool) (k : Nat) : Nat := hi (same zs b k) zs.length (k + 1)
theorem run_spec {zs : List Int} {b : Bool} {k : Nat} (h : k < zs.length) : rlo zs b k ≤ k ∧ k < rhi zs b k ∧ rhi zs b k ≤ zs.length ∧ ∀ x, rlo zs b k ≤ x → x < rhi zs b k → kd zs b x = kd zs b k := by
  obtain ⟨h1, h2⟩ := lo_spec (same zs b k) k
  obtain ⟨h3, h4, h5⟩ := hi_spec (same zs b k) zs.length (k + 1) (by omega)
  refine ⟨h1, h3, h4, fun x hx hx2 => ?_⟩
  by_cases h6 : x < k
  · have := h2 x hx h6
    simpa [same] using this
  · by_cases h7 : x = k
    · rw [h7]
    · have := h5 x (by omega) hx2
      simpa [same] using this
/-- P25: a word. -/
def wrd (zs : List Int) (b ar : Bool) (k : Nat) : Nat × Nat :=
  if ar = true then
    (if rhi zs b k < zs.length ∧ (kd zs b k = 0 ∨ kd zs b (rhi zs b k) = 0) then (rlo zs b k, rhi zs b (rhi zs b k))
    else if kd zs b k ≠ 0 ∧ 0 < rlo zs b k ∧ kd zs b (rlo zs b k - 1) = 0 then (rlo zs b (rlo zs b k - 1), rhi zs b k)
    else (rlo zs b k, rhi zs b k))
  else (rlo zs b k, rhi zs b k)
theorem wrd_none (zs : List Int) (b : Bool) (k : Nat) : wrd zs b false k = (rlo zs b k, rhi zs b k) := if_neg (by decide)
theorem wrd_right {zs : List Int} {b : Bool} {k : Nat} (h : rhi zs b k < zs.length) (h2 : kd zs b k = 0 ∨ kd zs b (rhi zs b k) = 0) : wrd zs b true k = (rlo zs b k, rhi zs b (rhi zs b k)) := by
  unfold wrd
  rw [if_pos rfl, if_pos ⟨h, h2⟩]
theorem wrd_left {zs : List Int} {b : Bool} {k : Nat} (h : ¬ (rhi zs b k < zs.length ∧ (kd zs b k = 0 ∨ kd zs b (rhi zs b k) = 0))) (h2 : kd zs b k ≠ 0) (h3 : 0 < rlo zs b k) (h4 : kd zs b (rlo zs b k - 1) = 0) :
    wrd zs b true k = (rlo zs b (rlo zs b k - 1), rhi zs b k) := by
  unfold wrd
  rw [if_pos rfl, if_neg h, if_pos ⟨h2, h3, h4⟩]
theorem wrd_alone {zs : List Int} {b : Bool} {k : Nat} (h : ¬ (rhi zs b k < zs.length ∧ (kd zs b k = 0 ∨ kd zs b (rhi zs b k) = 0))) (h2 : ¬ (kd zs b k ≠ 0 ∧ 0 < rlo zs b k ∧ kd zs b (rlo zs b k - 1) = 0)) :
    wrd zs b true k = (rlo zs b k, rhi zs b k) := by
  unfold wrd
  rw [if_pos rfl, if_neg h, if_neg h2]
/-- A word with what is around it has the word within it. -/
theorem wrd_in {zs : List Int} {b : Bool} {k : Nat} (h : k < zs.length) : (wrd zs b true k).1 ≤ rlo zs b k ∧ rhi zs b k ≤ (wrd zs b true k).2 ∧ (wrd zs b true k).2 ≤ zs.length := by
  obtain ⟨h1, h2, h3, h4⟩ := run_spec (b := b) h
  by_cases h5 : rhi zs b k < zs.length ∧ (kd zs b k = 0 ∨ kd zs b (rhi zs b k) = 0)
  · rw [wrd_right h5.1 h5.2]
    obtain ⟨g1, g2, g3, _⟩ := run_spec (b := b) h5.1
    exact ⟨Nat.le_refl _, by show rhi zs b k ≤ rhi zs b (rhi zs b k); omega, g3⟩
  · by_cases h6 : kd zs b k ≠ 0 ∧ 0 < rlo zs b k ∧ kd zs b (rlo zs b k - 1) = 0
    · rw [wrd_left h5 h6.1 h6.2.1 h6.2.2]
      obtain ⟨g1, g2, g3, _⟩ := run_spec (b := b) (show rlo zs b k - 1 < zs.length by omega)
      exact ⟨by show rlo zs b (rlo zs b k - 1) ≤ rlo zs b k; omega, Nat.le_refl _, h3⟩
    · rw [wrd_alone h5 h6]
      exact ⟨Nat.le_refl _, Nat.le_refl _, h3⟩

/-- Whether a pair of brackets o that reaches k opens there. -/
def brp (zs : List Int) (k o : Int) (i : Nat) : Bool := decide ((i : Int) ≤ k) && zs.getD i 0 == o && decide (k ≤ par (fn zs) zs.length i)
/-- P26: the last such pair that opens ahead of place i. -/
def bfind (zs : List Int) (k o : Int) : Nat → Option (Nat × Nat)
  | 0 => none
  | i + 1 => if brp zs k o i = true then some (i, (par (fn zs) zs.length i).toNat) else bfind zs k o i
theorem bfind_hit {zs : List Int} {k o : Int} {i : Nat} (h : brp zs k o i = true) : bfind zs k o (i + 1) = some (i, (par (fn zs) zs.length i).toNat) := if_pos h
theorem bfind_miss {zs : List Int} {k o : Int} {i : Nat} (h : brp zs k o i = false) : bfind zs k o (i + 1) = bfind zs k o i := if_neg (by rw [h]; decide)
theorem brp_true {zs : List Int} {k o : Int} {i : Nat} : brp zs k o i = true ↔ (i : Int) ≤ k ∧ zs.getD i 0 = o ∧ k ≤ par (fn zs) zs.length i := by
  unfold brp
  rw [Bool.and_eq_true, Bool.and_eq_true, decide_eq_true_eq, decide_eq_true_eq, beq_iff_eq, and_assoc]
theorem brp_far {zs : List Int} {k o : Int} {i : Nat} (h : k < (i : Int)) : brp zs k o i = false := by
  rw [← Bool.not_eq_true, brp_true]
  omega
/-- Behind k none opens. -/
theorem bfind_far {zs : List Int} {k o : Int} {m : Nat} (hm : k < (m : Int)) : ∀ n, m ≤ n → bfind zs k o n = bfind zs k o m
  | 0, h => by rw [show m = 0 by omega]
  | n + 1, h => by
    by_cases h2 : m = n + 1
    · rw [h2]
    · rw [bfind_miss (brp_far (by omega)), bfind_far hm n (by omega)]
theorem bfind_spec {zs : List Int} {k o : Int} : ∀ {n : Nat} {a z : Nat}, bfind zs k o n = some (a, z) → a < n ∧ brp zs k o a = true ∧ z = (par (fn zs) zs.length a).toNat ∧ ∀ i, a < i → i < n → brp zs k o i = false
  | 0, a, z, h => by cases h
  | n + 1, a, z, h => by
    by_cases h2 : brp zs k o n = true
    · rw [bfind_hit h2] at h
      cases h
      exact ⟨by omega, h2, rfl, fun i h3 h4 => absurd h3 (by omega)⟩
    · have h3 : brp zs k o n = false := by simpa using h2
      rw [bfind_miss h3] at h
      obtain ⟨g1, g2, g3, g4⟩ := bfind_spec h
      refine ⟨by omega, g2, g3, fun i h4 h5 => ?_⟩
      by_cases h6 : i = n
      · rw [h6]; exact h3
      · exact g4 i h4 (by omega)

/-- P26: signs two by two, from place i on; a: the one that waits for its second. -/
def qfind (f : Nat → Int) (s k : Int) : Nat → Nat → Option Nat → Option (Nat × Nat)
  | 0, _, _ => none
  | n + 1, i, none => if f i = s then qfind f s k n (i + 1) (some i) else qfind f s k n (i + 1) none
  | n + 1, i, some a => if f i = s then (if k ≤ (i : Int) then some (a, i) else qfind f s k n (i + 1) none) else qfind f s k n (i + 1) (some a)
theorem qfind_other {f : Nat → Int} {s k : Int} {n i : Nat} {a : Option Nat} (h : f i ≠ s) : qfind f s k (n + 1) i a = qfind f s k n (i + 1) a := by
  cases a with
  | none => exact if_neg h
  | some a => exact if_neg h
theorem qfind_first {f : Nat → Int} {s k : Int} {n i : Nat} (h : f i = s) : qfind f s k (n + 1) i none = qfind f s k n (i + 1) (some i) := if_pos h
theorem qfind_found {f : Nat → Int} {s k : Int} {n i a : Nat} (h : f i = s) (hk : k ≤ (i : Int)) : qfind f s k (n + 1) i (some a) = some (a, i) := by
  show (if f i = s then (if k ≤ (i : Int) then some (a, i) else qfind f s k n (i + 1) none) else qfind f s k n (i + 1) (some a)) = _
  rw [if_pos h, if_pos hk]
theorem qfind_early {f : Nat → Int} {s k : Int} {n i a : Nat} (h : f i = s) (hk : ¬ k ≤ (i : Int)) : qfind f s k (n + 1) i (some a) = qfind f s k n (i + 1) none := by
  show (if f i = s then (if k ≤ (i : Int) then some (a, i) else qfind f s k n (i + 1) none) else qfind f s k n (i + 1) (some a)) = _
  rw [if_pos h, if_neg hk]
theorem qfind_spec {f : Nat → Int} {s k : Int} : ∀ {n i : Nat} {c : Option Nat} {a z : Nat}, (∀ x, c = some x → x < i) → qfind f s k n i c = some (a, z) → a < z ∧ z < i + n ∧ k ≤ (z : Int)
  | 0, i, c, a, z, _, h => by
    cases c <;> cases h
  | n + 1, i, c, a, z, hc, h => by
    by_cases h2 : f i = s
    · cases c with
      | none =>
        rw [qfind_first h2] at h
        have := qfind_spec (fun x hx => by cases hx; omega) h
        omega
      | some b =>
        have hb := hc b rfl
        by_cases h3 : k ≤ (i : Int)
        · rw [qfind_found h2 h3] at h
          cases h
          omega
        · rw [qfind_early h2 h3] at h
          have := qfind_spec (fun x hx => by cases hx) h
          omega
    · rw [qfind_other h2] at h
      have := qfind_spec (fun x hx => Nat.lt_succ_of_lt (hc x hx)) h
      omega
/-- The signs in a list of places, two by two. -/
def two (k : Int) : List Nat → Option (Nat × Nat)
  | [] => none
  | [_] => none
  | a :: z :: r => if k ≤ (z : Int) then some (a, z) else two k r
/-- The places of a sign, from i on. -/
def spotsOf (f : Nat → Int) (s : Int) (n i : Nat) : List Nat := (List.range' i n).filter fun j => f j == s
theorem spotsOf_hit {f : Nat → Int} {s : Int} {n i : Nat} (h : f i = s) : spotsOf f s (n + 1) i = i :: spotsOf f s n (i + 1) := by
  unfold spotsOf
  rw [List.range'_succ, List.filter_cons_of_pos (by simpa using h)]
theorem spotsOf_miss {f : Nat → Int} {s : Int} {n i : Nat} (h : f i ≠ s) : spotsOf f s (n + 1) i = spotsOf f s n (i + 1) := by
  unfold spotsOf
  rw [List.range'_succ, List.filter_cons_of_neg (by simpa using h)]
theorem qfind_two {f : Nat → Int} {s k : Int} : ∀ (n i : Nat) (c : Option Nat), qfind f s k n i c = two k (c.toList ++ spotsOf f s n i)
  | 0, i, none => rfl
  | 0, i, some a => rfl
  | n + 1, i, c => by
    by_cases h : f i = s
    · rw [spotsOf_hit h]
      cases c with
      | none =>
        rw [qfind_first h, qfind_two n (i + 1) (some i)]
        rfl
      | some a =>
        by_cases hk : k ≤ (i : Int)
        · rw [qfind_found h hk]
          show _ = if k ≤ (i : Int) then some (a, i) else two k (spotsOf f s n (i + 1))
          rw [if_pos hk]
        · rw [qfind_early h hk, qfind_two n (i + 1) none]
          show _ = if k ≤ (i : Int) then some (a, i) else two k (spotsOf f s n (i + 1))
          rw [if_neg hk]
          rfl
    · rw [spotsOf_miss h, qfind_other h]
      exact qfind_two n (i + 1) c

/-- The pair of signs. -/
def pick (zs : List Int) (k key : Int) : Option (Nat × Nat) := if brk key = 0 then qfind (fn zs) key k zs.length 0 none else bfind zs k (opn key) zs.length
def otold (ar : Bool) : Option (Nat × Nat) → Int × Int × Int
  | none => (0, 0, 6)
  | some (a, z) => if ar = true then ((a : Int), (z : Int) + 1, 0) else ((a : Int) + 1, (z : Int), 0)
/-- Three numbers as Of has them. -/
def trip : Option (Nat × Nat) → Int × Int × Bool
  | none => (0, 0, false)
  | some (a, z) => ((a : Int), (z : Int), true)
/-- Whether the key is one of those with signs. -/
def sgn (key : Int) : Bool := brk key != 0 || key == 34 || key == 39 || key == 96
/-- P25, P26: the answer. -/
def thing (zs : List Int) (k : Int) (ar : Bool) (key : Int) : Int × Int × Int :=
  if 4096 < zs.length then (0, 0, 2)
  else if k < 0 ∨ ((zs.length - 1 : Nat) : Int) < k then (0, 0, 1)
  else if key = 119 ∨ key = 87 then
    (if zs.length = 0 then (0, 0, 6) else (((wrd zs (key == 87) ar k.toNat).1 : Int), ((wrd zs (key == 87) ar k.toNat).2 : Int), 0))
  else if sgn key = true then otold ar (pick zs k key) else (0, 0, 9)
theorem thing_large {zs : List Int} {k : Int} {ar : Bool} {key : Int} (h : 4096 < zs.length) : thing zs k ar key = (0, 0, 2) := if_pos h
theorem thing_arg {zs : List Int} {k : Int} {ar : Bool} {key : Int} (h : ¬ 4096 < zs.length) (h2 : k < 0 ∨ ((zs.length - 1 : Nat) : Int) < k) : thing zs k ar key = (0, 0, 1) := by
  unfold thing
  rw [if_neg h, if_pos h2]
theorem thing_word {zs : List Int} {k : Int} {ar : Bool} {key : Int} (h : ¬ 4096 < zs.length) (h2 : ¬ (k < 0 ∨ ((zs.length - 1 : Nat) : Int) < k)) (h3 : key = 119 ∨ key = 87) :
    thing zs k ar key = if zs.length = 0 then (0, 0, 6) else (((wrd zs (key == 87) ar k.toNat).1 : Int), ((wrd zs (key == 87) ar k.toNat).2 : Int), 0) := by
  unfold thing
  rw [if_neg h, if_neg h2, if_pos h3]
theorem sgn_word {key : Int} (h : sgn key = true) : ¬ (key = 119 ∨ key = 87) := by
  rintro (rfl | rfl) <;> exact absurd h (by decide)
theorem thing_sign {zs : List Int} {k : Int} {ar : Bool} {key : Int} (h : ¬ 4096 < zs.length) (h2 : ¬ (k < 0 ∨ ((zs.length - 1 : Nat) : Int) < k)) (h3 : sgn key = true) :
    thing zs k ar key = otold ar (pick zs k key) := by
  unfold thing
  rw [if_neg h, if_neg h2, if_neg (sgn_word h3), if_pos h3]
theorem thing_key {zs : List Int} {k : Int} {ar : Bool} {key : Int} (h : ¬ 4096 < zs.length) (h2 : ¬ (k < 0 ∨ ((zs.length - 1 : Nat) : Int) < k)) (h3 : ¬ (key = 119 ∨ key = 87)) (h4 : sgn key = false) :
    thing zs k ar key = (0, 0, 9) := by
  unfold thing
  rw [if_neg h, if_neg h2, if_neg h3, if_neg (by rw [h4]; decide)]
end Go.Proofs.Ytpgjaoemkadenab.Plain
