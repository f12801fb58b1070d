/- Plain mathematics of P42 to P46: what is done. -/
import Derived.Test.YtpgjaoemkadenabM17
import Derived.Test.YtpgjaoemkadenabM23
import Derived.Test.YtpgjaoemkadenabM09
import Derived.Test.YtpgjaoemkadenabM07
import Derived.Test.YtpgjaoemkadenabM28
set_option linter.unusedVariables false
set_option linter.unusedSimpArgs false
set_option maxRecDepth 100000
namespace Go.Proofs.Ytpgjaoemkadenab.Plain
open Seek
/-- The register that a name means, and whether it is added to. -/
def rno (name : Int) : Option (Nat × Bool) :=
  if name = 0 then some (0, false) else if 97 ≤ name ∧ name ≤ 122 then some ((name - 96).toNat, false) else if 65 ≤ name ∧ name ≤ 90 then some ((name - 64).toNat, true) else none
/-- P34. -/
def putR (ts : List (List Int)) (name : Int) (x : List Int) : List (List Int) × Int :=
  match rno name with
  | none => (nilT, 9)
  | some (k, g) => if 200 < (ahd ts k g).length + x.length then (nilT, 2) else ((ts.set k (ahd ts k g ++ x)).set 0 (ahd ts k g ++ x), 0)
/-- P35. -/
def getR (ts : List (List Int)) (name : Int) : List Int × Int :=
  match rno name with
  | none => ([], 9)
  | some (k, _) => if ts.getD k [] = [] then ([], 6) else (ts.getD k [], 0)
theorem rno_cases (name : Int) : (rno name = none ∧ NoName name) ∨ ∃ k g, rno name = some (k, g) ∧ Named name k g := by
  unfold rno NoName Named
  by_cases h0 : name = 0
  · exact .inr ⟨0, false, by rw [if_pos h0], .inl ⟨h0, rfl, rfl⟩⟩
  · rw [if_neg h0]
    by_cases h1 : 97 ≤ name ∧ name ≤ 122
    · exact .inr ⟨_, _, by rw [if_pos h1], .inr (.inl ⟨h1.1, h1.2, by omega, rfl⟩)⟩
    · rw [if_neg h1]
      by_cases h2 : 65 ≤ name ∧ name ≤ 90
      · exact .inr ⟨_, _, by rw [if_pos h2], .inr (.inr ⟨h2.1, h2.2, by omega, rfl⟩)⟩
      · exact .inl ⟨by rw [if_neg h2], h0, by omega, by omega⟩
theorem putR_is (ts : List (List Int)) (name : Int) (x : List Int) : Putd ts name x (putR ts name x).2 (putR ts name x).1 := by
  unfold putR Putd
  rcases rno_cases name with ⟨h1, h2⟩ | ⟨k, g, h1, h2⟩
  · rw [h1]
    exact .inl ⟨h2, rfl, rfl⟩
  · rw [h1]
    refine .inr ⟨k, g, h2, ?_⟩
    by_cases h : 200 < (ahd ts k g).length + x.length
    · exact .inl ⟨h, by simp [h], by simp [h]⟩
    · exact .inr ⟨by omega, by simp [h], by simp [h]⟩
theorem getR_is (ts : List (List Int)) (name : Int) : Got ts name (getR ts name).2 (getR ts name).1 := by
  unfold getR Got
  rcases rno_cases name with ⟨h1, h2⟩ | ⟨k, g, h1, h2⟩
  · rw [h1]
    exact .inl ⟨h2, rfl, rfl⟩
  · rw [h1]
    refine .inr ⟨k, g, h2, ?_⟩
    by_cases h : ts.getD k [] = []
    · exact .inl ⟨h, by simp only; rw [if_pos h], by simp only; rw [if_pos h]⟩
    · exact .inr ⟨h, by simp only; rw [if_neg h], by simp only; rw [if_neg h]⟩

/-- All that a command leaves: text, place, registers, what was looked for, mode. -/
structure Res where
  text : List Int
  loc : Int
  regs : List (List Int)
  fk : Int
  fa : Int
  mode : Int
def nulR : Res := ⟨[], 0, nilT, 0, 0, 0⟩
def lastP (n : Nat) : Int := ((n - 1 : Nat) : Int)
/-- P42. -/
def lchk (n : Nat) (k : Int) : Int := if 200 < n then 2 else if k < 0 ∨ lastP n < k then 1 else 0
def isF (k : Int) : Bool := decide (k = 102 ∨ k = 70 ∨ k = 116 ∨ k = 84)
def isO (k : Int) : Bool := decide (k = 0 ∨ k = 100 ∨ k = 99 ∨ k = 121)
/-- P43: the error ahead of all. -/
def achk (n : Nat) (k fk cnt op : Int) : Int :=
  if lchk n k ≠ 0 then lchk n k else if cnt < 0 ∨ 999 < cnt ∨ (fk ≠ 0 ∧ isF fk = false) then 1 else if isO op = true then 0 else 9
/-- P43: Op and Verb, whole. -/
def whl (op verb : Int) : Int × Int :=
  if op ≠ 0 then (op, verb) else if verb = 120 then (100, 108) else if verb = 88 then (100, 104) else if verb = 115 then (99, 108) else if verb = 83 then (99, 99)
  else if verb = 67 then (99, 36) else if verb = 68 then (100, 36) else if verb = 89 then (121, 121) else (op, verb)
def other (f : Int) : Int := if f = 102 then 70 else if f = 70 then 102 else if f = 116 then 84 else 116
/-- P44: key, argument and error of the motion that is meant. -/
def mot (verb arg fk fa : Int) : Int × Int × Int :=
  if verb ≠ 59 ∧ verb ≠ 44 then (verb, arg, 0) else if fk = 0 then (0, 0, 5) else (if verb = 44 then other fk else fk, fa, 0)
/-- P45: the span. -/
def spn (R : Res) (cnt op verb arg : Int) : Int × Int × Int :=
  if verb = op then (0, (R.text.length : Int), 0)
  else if verb = 105 ∨ verb = 97 then thing R.text R.loc (verb == 97) arg
  else if (mot verb arg R.fk R.fa).2.2 ≠ 0 then (0, 0, (mot verb arg R.fk R.fa).2.2)
  else ranges R.text R.loc cnt (mot verb arg R.fk R.fa).1 (mot verb arg R.fk R.fa).2.1
/-- P45: what the operator does. -/
def act (R : Res) (op verb : Int) (f t : Nat) : Res :=
  if op = 100 then { R with text := wit R.text f t [], loc := min (f : Int) (lastP (wit R.text f t []).length) }
  else if op = 99 then { R with text := wit R.text f t [], loc := (f : Int), mode := 1 }
  else if op = 121 then (if verb ≠ op then { R with loc := min R.loc (f : Int) } else R)
  else R
/-- P45. -/
def opd (R : Res) (cnt rg op verb arg : Int) : Res × Int :=
  if (spn R cnt op verb arg).2.2 ≠ 0 then (nulR, (spn R cnt op verb arg).2.2)
  else if (spn R cnt op verb arg).1 = (spn R cnt op verb arg).2.1 ∧ op ≠ 99 then (nulR, 5)
  else if (spn R cnt op verb arg).1 < (spn R cnt op verb arg).2.1 then
    (if (putR R.regs rg ((R.text.drop (spn R cnt op verb arg).1.toNat).take ((spn R cnt op verb arg).2.1.toNat - (spn R cnt op verb arg).1.toNat))).2 ≠ 0 then
      (nulR, (putR R.regs rg ((R.text.drop (spn R cnt op verb arg).1.toNat).take ((spn R cnt op verb arg).2.1.toNat - (spn R cnt op verb arg).1.toNat))).2)
    else (act { R with regs := (putR R.regs rg ((R.text.drop (spn R cnt op verb arg).1.toNat).take ((spn R cnt op verb arg).2.1.toNat - (spn R cnt op verb arg).1.toNat))).1 } op verb (spn R cnt op verb arg).1.toNat (spn R cnt op verb arg).2.1.toNat, 0))
  else (act R op verb (spn R cnt op verb arg).1.toNat (spn R cnt op verb arg).2.1.toNat, 0)
/-- P46: put in. -/
def pst (R : Res) (rg : Int) (n : Nat) (behind : Bool) : Res × Int :=
  if (getR R.regs rg).2 ≠ 0 then (nulR, (getR R.regs rg).2)
  else if 200 < R.text.length + n * (getR R.regs rg).1.length then (nulR, 2)
  else ({ R with text := wit R.text (if behind = true ∧ R.text ≠ [] then R.loc.toNat + 1 else R.loc.toNat) (if behind = true ∧ R.text ≠ [] then R.loc.toNat + 1 else R.loc.toNat) (rep n (getR R.regs rg).1),
                 loc := ((if behind = true ∧ R.text ≠ [] then R.loc.toNat + 1 else R.loc.toNat : Nat) : Int) + ((n * (getR R.regs rg).1.length : Nat) : Int) - 1 }, 0)
/-- A letter turned. -/
def cas (c : Int) : Int := if 65 ≤ c ∧ c ≤ 90 then c - 65 + 97 else if 97 ≤ c ∧ c ≤ 122 then c - 97 + 65 else c
/-- Letters turned from place a on, n of them. -/
def flp (zs : List Int) (a n : Nat) : List Int := zs.take a ++ ((zs.drop a).take n).map cas ++ zs.drop (a + n)
def trn (R : Res) (n : Nat) : Res × Int :=
  if R.text = [] then (nulR, 5) else ({ R with text := flp R.text R.loc.toNat n, loc := min (R.loc + (n : Int)) (lastP R.text.length) }, 0)
def rpl (R : Res) (n : Nat) (c : Int) : Res × Int :=
  if (R.text.length : Int) < R.loc + (n : Int) then (nulR, 5) else ({ R with text := wit R.text R.loc.toNat (R.loc.toNat + n) (rep n [c]), loc := R.loc + (n : Int) - 1 }, 0)
/-- P46: a line into which is going to be typed. -/
def bgn' (R : Res) (verb : Int) : Res :=
  if verb = 73 then { R with loc := (goes R.text R.loc 0 94 0 false).1, mode := 1 }
  else if verb = 97 then { R with loc := min (R.loc + 1) (R.text.length : Int), mode := 1 }
  else if verb = 65 then { R with loc := (R.text.length : Int), mode := 1 }
  else if verb = 82 then { R with mode := 2 }
  else { R with mode := 1 }
def mvd (R : Res) (cnt verb arg : Int) : Res × Int :=
  if (mot verb arg R.fk R.fa).2.2 ≠ 0 then (nulR, (mot verb arg R.fk R.fa).2.2)
  else ({ R with loc := (goes R.text R.loc cnt (mot verb arg R.fk R.fa).1 (mot verb arg R.fk R.fa).2.1 false).1 }, (goes R.text R.loc cnt (mot verb arg R.fk R.fa).1 (mot verb arg R.fk R.fa).2.1 false).2.2)
/-- What comes of a whole command. -/
def dne (R : Res) (cnt rg op verb arg : Int) : Res × Int :=
  if op ≠ 0 then opd R cnt rg op verb arg
  else if verb = 112 ∨ verb = 80 then pst R rg (times cnt) (verb == 112)
  else if verb = 126 then trn R (times cnt)
  else if verb = 114 then rpl R (times cnt) arg
  else if verb = 105 ∨ verb = 73 ∨ verb = 97 ∨ verb = 65 ∨ verb = 82 then (bgn' R verb, 0)
  else mvd R cnt verb arg
/-- P43 to P46. -/
def doe (R : Res) (cnt rg op verb arg : Int) : Res × Int :=
  if achk R.text.length R.loc R.fk cnt op ≠ 0 then (nulR, achk R.text.length R.loc R.fk cnt op)
  else if (dne R cnt rg (whl op verb).1 (whl op verb).2 arg).2 ≠ 0 then (nulR, (dne R cnt rg (whl op verb).1 (whl op verb).2 arg).2)
  else if isF verb = true then ({ (dne R cnt rg (whl op verb).1 (whl op verb).2 arg).1 with fk := verb, fa := arg }, 0)
  else ((dne R cnt rg (whl op verb).1 (whl op verb).2 arg).1, 0)
end Go.Proofs.Ytpgjaoemkadenab.Plain
