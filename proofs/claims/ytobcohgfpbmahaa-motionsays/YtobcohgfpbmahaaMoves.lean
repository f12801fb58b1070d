/- Plain mathematics: where a key leads to. -/
import Derived.Test.YtobcohgfpbmahaaPlaces
import Derived.Test.YtobcohgfpbmahaaPairsGo
set_option linter.unusedVariables false
set_option linter.unusedSimpArgs false
namespace Go.Proofs.Ytobcohgfpbmahaa.Plain
open Seek
/-- P22: the keys. -/
def isk (c : Int) : Bool := decide (c = 104 ∨ c = 108 ∨ c = 48 ∨ c = 94 ∨ c = 98 ∨ c = 66 ∨ c = 36 ∨ c = 124 ∨ c = 119 ∨ c = 87 ∨ c = 101 ∨ c = 69 ∨ c = 37 ∨ c = 102 ∨ c = 116 ∨ c = 70 ∨ c = 84)
/-- Whether a key takes the character with it. -/
def wth (c : Int) : Bool := decide (c = 36 ∨ c = 101 ∨ c = 69 ∨ c = 37 ∨ c = 102 ∨ c = 116)
/-- P22: the error. -/
def mchk (n : Nat) (k c key : Int) : Int := if 4096 < n then 2 else if k < 0 ∨ max ((n : Int) - 1) 0 < k ∨ c < 0 ∨ 999 < c then 1 else if isk key = true then 0 else 9
/-- So many times. -/
def iter (f : Int → Int) : Nat → Int → Int
  | 0, k => k
  | n + 1, k => f (iter f n k)
/-- The n-th place from a place on, going up. -/
def goUp (p : Nat → Bool) : Nat → Nat → Nat → Option Nat
  | 0, _, _ => none
  | f + 1, i, n => if p i = true then (if n = 1 then some i else goUp p f (i + 1) (n - 1)) else goUp p f (i + 1) n
/-- The n-th place ahead of a place, going down. -/
def goDn (p : Nat → Bool) : Nat → Nat → Option Nat
  | 0, _ => none
  | i + 1, n => if p i = true then (if n = 1 then some i else goDn p i (n - 1)) else goDn p i n
def hit (zs : List Int) (c : Int) (i : Nat) : Bool := zs.getD i 0 == c
def told (o : Option Nat) : Int × Bool := match o with | some i => ((i : Int), true) | none => (0, false)
def rightHit (zs : List Int) (k n : Nat) (c : Int) : Int × Bool := told (goUp (hit zs c) (zs.length - (k + 1)) (k + 1) n)
def leftHit (zs : List Int) (k n : Nat) (c : Int) : Int × Bool := told (goDn (hit zs c) k n)
/-- The first character that is no Blank. -/
def solid (zs : List Int) : Int := up (fun i => knd zs false i != 0) (max ((zs.length : Int) - 1) 0) zs.length 0
/-- The partner of the first bracket. -/
def mate (zs : List Int) (k : Nat) : Int × Bool :=
  match up (fun i => brk (zs.getD i 0) != 0) (-1) zs.length k with
  | .ofNat i => (par (fn zs) zs.length i, decide (0 ≤ par (fn zs) zs.length i))
  | .negSucc _ => (0, false)
/-- The keys that fail on an empty line. -/
def lineLead (zs : List Int) (k n : Nat) (key arg : Int) (op : Bool) : Int × Bool :=
  if key = 36 then ((zs.length : Int) - 1, true)
  else if key = 124 then (min ((n : Int) - 1) ((zs.length : Int) - 1), true)
  else if key = 119 ∨ key = 87 then
    (if op = true then iter (fun x => next zs x (key == 87)) n k else min (iter (fun x => next zs x (key == 87)) n k) ((zs.length : Int) - 1),
     (if op = true then iter (fun x => next zs x (key == 87)) n k else min (iter (fun x => next zs x (key == 87)) n k) ((zs.length : Int) - 1)) != (k : Int))
  else if key = 101 ∨ key = 69 then (iter (fun x => last zs x (key == 69)) n k, op || iter (fun x => last zs x (key == 69)) n k != (k : Int))
  else if key = 37 then mate zs k
  else if key = 102 then rightHit zs k n arg
  else if key = 116 then ((rightHit zs k n arg).1 - 1, (rightHit zs k n arg).2)
  else if key = 70 then leftHit zs k n arg
  else if key = 84 then ((leftHit zs k n arg).1 + 1, (leftHit zs k n arg).2)
  else (0, false)
/-- The end that `l` may go to. -/
def endOf (zs : List Int) (op : Bool) : Int := if op = true then (zs.length : Int) else (zs.length : Int) - 1
/-- P23: where a motion leads to, and whether it does. -/
def lead (zs : List Int) (k n : Nat) (key arg : Int) (op : Bool) : Int × Bool :=
  if key = 104 then (max ((k : Int) - n) 0, decide (0 < (k : Int)))
  else if key = 108 then (min ((k : Int) + n) (endOf zs op), decide ((k : Int) < endOf zs op))
  else if key = 48 then (0, true)
  else if key = 94 then (solid zs, true)
  else if key = 98 ∨ key = 66 then (iter (fun x => back zs x (key == 66)) n k, decide (0 < (k : Int)))
  else if zs.length = 0 then (0, false)
  else lineLead zs k n key arg op
/-- N of P23. -/
def times (c : Int) : Nat := (max c 1).toNat
/-- P23: what Go tells. -/
def goes (zs : List Int) (k c key arg : Int) (op : Bool) : Int × Bool × Int :=
  if mchk zs.length k c key = 0 then
    (if (lead zs k.toNat (times c) key arg op).2 = true then ((lead zs k.toNat (times c) key arg op).1, wth key, 0) else (0, false, 5))
  else (0, false, mchk zs.length k c key)
/-- P24: what Range tells. -/
def ranges (zs : List Int) (k c key arg : Int) : Int × Int × Int :=
  if (goes zs k c key arg true).2.2 = 0 then
    (min k (goes zs k c key arg true).1, if (goes zs k c key arg true).2.1 = true then max k (goes zs k c key arg true).1 + 1 else max k (goes zs k c key arg true).1, 0)
  else (0, 0, (goes zs k c key arg true).2.2)
end Go.Proofs.Ytobcohgfpbmahaa.Plain
namespace Go.Proofs.Ytobcohgfpbmahaa.Plain
theorem goUp_lt (p : Nat → Bool) : ∀ (f i n j : Nat), goUp p f i n = some j → i ≤ j ∧ j < i + f ∧ p j = true
  | 0, _, _, _, h => by cases h
  | f + 1, i, n, j, h => by
    unfold goUp at h
    by_cases hp : p i = true
    · rw [if_pos hp] at h
      by_cases hn : n = 1
      · rw [if_pos hn] at h
        cases h
        exact ⟨by omega, by omega, hp⟩
      · rw [if_neg hn] at h
        obtain ⟨h1, h2, h3⟩ := goUp_lt p f _ _ _ h
        exact ⟨by omega, by omega, h3⟩
    · rw [if_neg hp] at h
      obtain ⟨h1, h2, h3⟩ := goUp_lt p f _ _ _ h
      exact ⟨by omega, by omega, h3⟩
theorem goDn_lt (p : Nat → Bool) : ∀ (i n j : Nat), goDn p i n = some j → j < i ∧ p j = true
  | 0, _, _, h => by cases h
  | i + 1, n, j, h => by
    unfold goDn at h
    by_cases hp : p i = true
    · rw [if_pos hp] at h
      by_cases hn : n = 1
      · rw [if_pos hn] at h
        cases h
        exact ⟨by omega, hp⟩
      · rw [if_neg hn] at h
        obtain ⟨h1, h2⟩ := goDn_lt p i _ _ h
        exact ⟨by omega, h2⟩
    · rw [if_neg hp] at h
      obtain ⟨h1, h2⟩ := goDn_lt p i _ _ h
      exact ⟨by omega, h2⟩
theorem told_low (o : Option Nat) : 0 ≤ (told o).1 := by
  unfold told
  split
  · exact Int.natCast_nonneg _
  · exact Int.le_refl _
theorem told_high (o : Option Nat) (m : Nat) (h : ∀ j, o = some j → j < m) : (told o).1 ≤ (m : Int) := by
  unfold told
  split
  · have := h _ rfl
    show (_ : Int) ≤ _
    omega
  · exact Int.natCast_nonneg _
theorem right_bounds (zs : List Int) (k n : Nat) (c : Int) : 0 ≤ (rightHit zs k n c).1 ∧ (rightHit zs k n c).1 ≤ (zs.length : Int) :=
  ⟨told_low _, told_high _ _ fun j hj => by have := goUp_lt _ _ _ _ _ hj; omega⟩
theorem left_bounds (zs : List Int) (k n : Nat) (c : Int) : 0 ≤ (leftHit zs k n c).1 ∧ (leftHit zs k n c).1 ≤ (k : Int) :=
  ⟨told_low _, told_high _ _ fun j hj => by have := goDn_lt _ _ _ _ hj; omega⟩
end Go.Proofs.Ytobcohgfpbmahaa.Plain
