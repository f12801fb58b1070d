/- Keys that come later, plainly. -/
import Derived.Test.YtjpgjhdkgmddfaaAll
set_option linter.unusedVariables false
set_option linter.unusedSimpArgs false
namespace Go.Proofs.Ytjpgjhdkgmddfaa.Plain
theorem allf_split : ∀ (l : List Int) (x : Sofar), ∃ ds, (allf x l).1 = x.1 ++ ds ∧ x.2.2 ≤ (allf x l).2.2 ∧ ds.length + ((allf x l).2.2 - x.2.2) ≤ l.length
  | [], x => ⟨[], by simp [allf], Nat.le_refl _, by simp [allf]⟩
  | k :: l, x => by
    obtain ⟨ds, h1, h2, h3⟩ := allf_split l (onek x k)
    have e : allf x (k :: l) = allf (onek x k) l := rfl
    rw [e]
    have hh := how_cases x.2.1.1 x.2.1.2.1 x.2.1.2.2.1 x.2.1.2.2.2.1 x.2.1.2.2.2.2 k
    rcases hh with hm | hm | hm
    · have g : onek x k = (x.1, (stq x.2.1 k).1, x.2.2) := by unfold onek; rw [show (stq x.2.1 k).2.2 = 1 from hm]; rfl
      rw [g] at h1 h2 h3 ⊢
      generalize allf (x.1, (stq x.2.1 k).1, x.2.2) l = Y at *
      simp only at h1 h2 h3
      exact ⟨ds, h1, h2, by rw [List.length_cons]; omega⟩
    · have g : onek x k = (x.1 ++ [(stq x.2.1 k).2.1], (stq x.2.1 k).1, x.2.2) := by unfold onek; rw [show (stq x.2.1 k).2.2 = 2 from hm]; rfl
      rw [g] at h1 h2 h3 ⊢
      generalize allf (x.1 ++ [(stq x.2.1 k).2.1], (stq x.2.1 k).1, x.2.2) l = Y at *
      simp only at h1 h2 h3
      exact ⟨(stq x.2.1 k).2.1 :: ds, by rw [h1]; simp, h2, by rw [List.length_cons, List.length_cons]; omega⟩
    · have g : onek x k = (x.1, (stq x.2.1 k).1, x.2.2 + 1) := by unfold onek; rw [show (stq x.2.1 k).2.2 = 3 from hm]; rfl
      rw [g] at h1 h2 h3 ⊢
      generalize allf (x.1, (stq x.2.1 k).1, x.2.2 + 1) l = Y at *
      simp only at h1 h2 h3
      exact ⟨ds, h1, by omega, by rw [List.length_cons]; omega⟩
theorem stp_rest {f r o s t k : Int} (h : (stp f r o s t k).2.2 ≠ 1) : (stp f r o s t k).1 = zer := by
  unfold stp awt nmd opr wop wno wtg at h ⊢
  repeat' split
  all_goals first | rfl | (exfalso; simp_all [mor])
theorem stp_moves {f r o s t k : Int} (hr : right f r o s t = true) (h : (stp f r o s t k).2.2 = 1) (he : (stp f r o s t k).1 = (f, r, o, s, t)) : 999 ≤ f ∨ 999 ≤ s := by
  obtain ⟨hf, hs, _⟩ := right_cases hr
  unfold stp at h he
  by_cases h1 : low k = true
  · rw [if_pos h1] at h
    exact absurd h (by decide)
  rw [if_neg h1] at h he
  by_cases h0 : t ≠ 0
  · rw [if_pos h0] at h he
    unfold awt nmd at h he
    by_cases h2 : t = 34
    · rw [if_pos h2] at h he
      by_cases h3 : letter k = true
      · rw [if_pos h3] at h he
        have := congrArg (fun q : Five => q.2.2.2.2) he
        simp only [mor] at this
        omega
      · rw [if_neg h3] at h
        exact absurd h (by decide)
    · rw [if_neg h2] at h
      split at h
      · exact absurd h (by decide)
      · exact absurd h (by show ¬ (2 : Int) = 1; decide)
  rw [if_neg h0] at h he
  have ht : t = 0 := by omega
  by_cases h2 : dig f o s k = true
  · rw [if_pos h2] at he
    have hd := of_decide_eq_true h2
    simp only [mor] at he
    unfold cntd at he
    by_cases h3 : o ≠ 0
    · rw [if_pos h3] at he
      have := congrArg (fun q : Five => q.2.2.2.1) he
      simp only [cnt] at this
      rw [show mnt f o s = s from if_pos h3] at this hd
      omega
    · rw [if_neg h3] at he
      have := congrArg (fun q : Five => q.1) he
      simp only [cnt] at this
      rw [show mnt f o s = f from if_neg h3] at this hd
      omega
  rw [if_neg h2] at h he
  by_cases h3 : has ops k = true
  · rw [if_pos h3] at h he
    have hk := (has_ops k).1 h3
    unfold opr at h he
    by_cases h4 : o = 0
    · rw [if_pos h4] at he
      have := congrArg (fun q : Five => q.2.2.1) he
      simp only [mor] at this
      omega
    · rw [if_neg h4] at h
      split at h <;> exact absurd h (by first | decide | (show ¬ (2 : Int) = 1; decide))
  rw [if_neg h3] at h he
  by_cases h4 : has mots k = true
  · rw [if_pos h4] at h
    exact absurd h (by show ¬ (2 : Int) = 1; decide)
  rw [if_neg h4] at h he
  have key : (wtg f r o s t k).1 = (f, r, o, s, t) → k = 0 := fun hh => by
    have := congrArg (fun q : Five => q.2.2.2.2) hh
    simp only [wtg, mor] at this
    omega
  by_cases h5 : has fnds k = true
  · rw [if_pos h5] at he
    have hk := (has_fnds k).1 h5
    have := key he
    omega
  rw [if_neg h5] at h he
  by_cases h6 : o ≠ 0
  · rw [if_pos h6] at h he
    unfold wop at h he
    by_cases h7 : has sids k = true
    · rw [if_pos h7] at he
      have hk := (has_sids k).1 h7
      have := key he
      omega
    · rw [if_neg h7] at h
      exact absurd h (by decide)
  · rw [if_neg h6] at h he
    unfold wno at h he
    by_cases h7 : k = 34 ∧ r = 0 ∨ k = 114
    · rw [if_pos h7] at he
      have := key he
      omega
    · rw [if_neg h7] at h
      split at h <;> exact absurd h (by first | decide | (show ¬ (2 : Int) = 1; decide))
end Go.Proofs.Ytjpgjhdkgmddfaa.Plain
