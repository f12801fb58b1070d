/- Keys one behind the other, plainly. -/
import Derived.Test.YtjpgjhdkgmddfaaDoorCmds
set_option linter.unusedVariables false
set_option linter.unusedSimpArgs false
namespace Go.Proofs.YtjpgjhdkgmddfaaDoor.Plain

/-- What keys make so far: the commands, the part, how many were wrong. -/
abbrev Sofar := List Five × Five × Nat
def stq (p : Five) (k : Int) : Took := stp p.1 p.2.1 p.2.2.1 p.2.2.2.1 p.2.2.2.2 k
def onek (x : Sofar) (k : Int) : Sofar := (if (stq x.2.1 k).2.2 = 2 then x.1 ++ [(stq x.2.1 k).2.1] else x.1, (stq x.2.1 k).1, if (stq x.2.1 k).2.2 = 3 then x.2.2 + 1 else x.2.2)
def allf (x : Sofar) (l : List Int) : Sofar := l.foldl onek x
def allk (l : List Int) : Sofar := allf ([], zer, 0) l
def okp (p : Five) : Prop := right p.1 p.2.1 p.2.2.1 p.2.2.2.1 p.2.2.2.2 = true
theorem okp_zer : okp zer := right_zer
theorem okp_stq {p : Five} (h : okp p) (k : Int) : okp (stq p k).1 := okT_stp h
theorem how_cases (f r o s t k : Int) : (stp f r o s t k).2.2 = 1 ∨ (stp f r o s t k).2.2 = 2 ∨ (stp f r o s t k).2.2 = 3 := by
  unfold stp awt nmd opr wop wno wtg
  repeat' split
  all_goals first | exact .inl rfl | exact .inr (.inl rfl) | exact .inr (.inr rfl)
theorem allf_append (x : Sofar) (a b : List Int) : allf x (a ++ b) = allf (allf x a) b := List.foldl_append
theorem allk_snoc (l : List Int) (k : Int) : allk (l ++ [k]) = onek (allk l) k := by
  unfold allk
  rw [allf_append]
  rfl
theorem allf_inv : ∀ (l : List Int) (x : Sofar), okp x.2.1 → okp (allf x l).2.1 ∧ (allf x l).1.length ≤ x.1.length + l.length ∧ (allf x l).2.2 ≤ x.2.2 + l.length
  | [], x, h => ⟨h, Nat.le_refl _, Nat.le_refl _⟩
  | k :: l, x, h => by
    obtain ⟨h1, h2, h3⟩ := allf_inv l (onek x k) (okp_stq h k)
    refine ⟨h1, Nat.le_trans h2 ?_, Nat.le_trans h3 ?_⟩
    · show (if (stq x.2.1 k).2.2 = 2 then x.1 ++ [(stq x.2.1 k).2.1] else x.1).length + l.length ≤ x.1.length + (l.length + 1)
      split
      · rw [List.length_append, List.length_singleton]
        omega
      · omega
    · show (if (stq x.2.1 k).2.2 = 3 then x.2.2 + 1 else x.2.2) + l.length ≤ x.2.2 + (l.length + 1)
      split <;> omega
theorem allk_inv (l : List Int) : okp (allk l).2.1 ∧ (allk l).1.length ≤ l.length ∧ (allk l).2.2 ≤ l.length := by
  obtain ⟨h1, h2, h3⟩ := allf_inv l ([], zer, 0) okp_zer
  exact ⟨h1, by show (allf ([], zer, 0) l).1.length ≤ l.length; simpa using h2, by show (allf ([], zer, 0) l).2.2 ≤ l.length; simpa using h3⟩
theorem allk_take (l : List Int) (i : Nat) (h : i < l.length) : allk (l.take (i + 1)) = onek (allk (l.take i)) (l.getD i 0) := by
  rw [List.take_succ_eq_append_getElem h, allk_snoc, List.getD_eq_getElem?_getD, List.getElem?_eq_getElem h]
  rfl
end Go.Proofs.YtjpgjhdkgmddfaaDoor.Plain
