/- Brackets, in plain mathematics: the places that wait, by brk; the partners. -/
import Derived.Test.YtcmcaifcncabgaaBrk
set_option linter.unusedVariables false
set_option linter.unusedSimpArgs false
namespace Go.Proofs.Ytcmcaifcncabgaa.Plain

/-- The places that wait ahead of place k, brackets o alone; the last one first. -/
def stk (f : Nat → Int) (o : Int) : Nat → List Nat
  | 0 => []
  | k + 1 => if shuts (f k) = true ∧ brk (f k) = o then (stk f o k).tail else if opens (f k) = true ∧ f k = o then k :: stk f o k else stk f o k
/-- The first one of a list, or -1. -/
def top : List Nat → Int
  | [] => -1
  | p :: _ => (p : Int)
/-- What is told of place j when k places have been looked at. -/
def par (f : Nat → Int) : Nat → Nat → Int
  | 0, _ => 0
  | k + 1, j => if j = k then (if shuts (f k) = true then top (stk f (brk (f k)) k) else -1)
      else if shuts (f k) = true ∧ (stk f (brk (f k)) k).head? = some j then (k : Int) else par f k j

theorem stk_shut {f : Nat → Int} {o : Int} {k : Nat} (h : shuts (f k) = true) (ho : brk (f k) = o) : stk f o (k + 1) = (stk f o k).tail := by
  rw [stk, if_pos ⟨h, ho⟩]
theorem stk_open {f : Nat → Int} {o : Int} {k : Nat} (h : opens (f k) = true) (ho : f k = o) : stk f o (k + 1) = k :: stk f o k := by
  have h2 : ¬ (shuts (f k) = true ∧ brk (f k) = o) := by
    rintro ⟨h3, _⟩
    rcases sort (f k) with h4 | h4 | h4
    · rw [h4.2.1] at h3; cases h3
    · rw [h4.1] at h; cases h
    · rw [h4.1] at h; cases h
  rw [stk, if_neg h2, if_pos ⟨h, ho⟩]
theorem stk_other {f : Nat → Int} {o : Int} {k : Nat} (h1 : ¬ (shuts (f k) = true ∧ brk (f k) = o)) (h2 : ¬ (opens (f k) = true ∧ f k = o)) : stk f o (k + 1) = stk f o k := by
  rw [stk, if_neg h1, if_neg h2]

/-- What holds of the places that wait, and of what is told, when k places have been looked at. -/
structure Holds (f : Nat → Int) (k : Nat) : Prop where
  wait : ∀ o p, p ∈ stk f o k ↔ p < k ∧ f p = o ∧ opens o = true ∧ par f k p = -1
  down : ∀ o, (stk f o k).Pairwise (fun a b => b < a)
  told : ∀ j, j < k → par f k j = -1 ∨ ∃ i, i < k ∧ par f k j = (i : Int) ∧ par f k i = (j : Int) ∧ brk (f j) = f i ∧ ((shuts (f j) = true ∧ opens (f i) = true ∧ i < j) ∨ (opens (f j) = true ∧ shuts (f i) = true ∧ j < i))
  nest : ∀ i j a, i < j → j < k → opens (f i) = true → f i = f j → par f k i = (a : Nat) → j < a → ∃ b : Nat, par f k j = (b : Int) ∧ b < a

theorem par_same {f : Nat → Int} {k j : Nat} (hj : j ≠ k) (h : ¬ (shuts (f k) = true ∧ (stk f (brk (f k)) k).head? = some j)) : par f (k + 1) j = par f k j := by
  rw [par, if_neg hj, if_neg h]
theorem par_hit {f : Nat → Int} {k j : Nat} (hj : j ≠ k) (h : shuts (f k) = true) (h2 : (stk f (brk (f k)) k).head? = some j) : par f (k + 1) j = (k : Int) := by
  rw [par, if_neg hj, if_pos ⟨h, h2⟩]
theorem par_new {f : Nat → Int} {k : Nat} : par f (k + 1) k = if shuts (f k) = true then top (stk f (brk (f k)) k) else -1 := by
  rw [par, if_pos rfl]

theorem holds_zero (f : Nat → Int) : Holds f 0 := by
  refine ⟨?_, ?_, ?_, ?_⟩
  · intro o p
    simp [stk]
  · intro o
    simp [stk]
  · intro j hj
    omega
  · intro i j a _ hj
    omega

/-- One place more, where nothing is told of the places ahead of it. -/
theorem holds_quiet {f : Nat → Int} {k : Nat} (H : Holds f k) (hq : shuts (f k) = true → stk f (brk (f k)) k = []) : Holds f (k + 1) := by
  have hsame : ∀ j, j ≠ k → par f (k + 1) j = par f k j := by
    intro j hj
    refine par_same hj ?_
    rintro ⟨h1, h2⟩
    rw [hq h1] at h2
    cases h2
  have hnew : par f (k + 1) k = -1 := by
    rw [par_new]
    split
    · rename_i h
      rw [hq h]
      rfl
    · rfl
  have hst : ∀ o, stk f o (k + 1) = if opens (f k) = true ∧ f k = o then k :: stk f o k else stk f o k := by
    intro o
    rw [stk]
    split
    · rename_i h
      have h1 := hq h.1
      rw [h.2] at h1
      rw [h1]
      have h2 : ¬ (opens (f k) = true ∧ f k = o) := by
        rintro ⟨h3, _⟩
        rcases sort (f k) with h4 | h4 | h4
        · rw [h4.2.1] at h; cases h.1
        · rw [h4.1] at h3; cases h3
        · rw [h4.1] at h3; cases h3
      rw [if_neg h2]
      rfl
    · rfl
  refine ⟨?_, ?_, ?_, ?_⟩
  · intro o p
    rw [hst]
    split
    · rename_i h
      rw [List.mem_cons, H.wait]
      constructor
      · rintro (rfl | ⟨h1, h2, h3, h4⟩)
        · exact ⟨by omega, h.2, by rw [← h.2]; exact h.1, hnew⟩
        · exact ⟨by omega, h2, h3, by rw [hsame p (by omega)]; exact h4⟩
      · rintro ⟨h1, h2, h3, h4⟩
        by_cases hp : p = k
        · exact .inl hp
        · exact .inr ⟨by omega, h2, h3, by rw [← hsame p hp]; exact h4⟩
    · rename_i h
      rw [H.wait]
      constructor
      · rintro ⟨h1, h2, h3, h4⟩
        exact ⟨by omega, h2, h3, by rw [hsame p (by omega)]; exact h4⟩
      · rintro ⟨h1, h2, h3, h4⟩
        have hp : p ≠ k := by
          rintro rfl
          exact h ⟨by rw [h2]; exact h3, h2⟩
        exact ⟨by omega, h2, h3, by rw [← hsame p hp]; exact h4⟩
  · intro o
    rw [hst]
    split
    · refine List.Pairwise.cons ?_ (H.down o)
      intro p hp
      exact ((H.wait o p).1 hp).1
    · exact H.down o
  · intro j hj
    by_cases hjk : j = k
    · subst hjk
      exact .inl hnew
    · rcases H.told j (by omega) with h | ⟨i, h1, h2, h3, h4⟩
      · exact .inl (by rw [hsame j hjk]; exact h)
      · exact .inr ⟨i, by omega, by rw [hsame j hjk]; exact h2, by rw [hsame i (by omega)]; exact h3, h4⟩
  · intro i j a hij hj ho he ha hja
    rw [hsame i (by omega)] at ha
    by_cases hjk : j = k
    · subst hjk
      rcases H.told i hij with h | ⟨i2, h1, h2, _⟩
      · rw [h] at ha
        omega
      · rw [h2] at ha
        omega
    · rw [hsame j hjk]
      exact H.nest i j a hij (by omega) ho he ha hja

/-- One place more, where a bracket finds its partner. -/
theorem holds_pair {f : Nat → Int} {k p : Nat} {r : List Nat} (H : Holds f k) (hs : shuts (f k) = true) (hp : stk f (brk (f k)) k = p :: r) : Holds f (k + 1) := by
  have hpw := (H.wait (brk (f k)) p).1 (by rw [hp]; simp)
  obtain ⟨hpk, hfp, hop, hpp⟩ := hpw
  have hhit : par f (k + 1) p = (k : Int) := par_hit (by omega) hs (by rw [hp]; rfl)
  have hnew : par f (k + 1) k = (p : Int) := by
    rw [par_new, if_pos hs, hp]
    rfl
  have hsame : ∀ j, j ≠ k → j ≠ p → par f (k + 1) j = par f k j := by
    intro j hj hjp
    refine par_same hj ?_
    rintro ⟨_, h2⟩
    rw [hp] at h2
    exact hjp (Option.some.inj h2).symm
  have hno : opens (f k) = false := by
    rcases sort (f k) with h4 | h4 | h4
    · rw [h4.2.1] at hs; cases hs
    · exact h4.1
    · exact h4.1
  have hst : ∀ o, stk f o (k + 1) = if brk (f k) = o then r else stk f o k := by
    intro o
    by_cases ho : brk (f k) = o
    · rw [if_pos ho, stk_shut hs ho, ← ho, hp]
      rfl
    · rw [if_neg ho, stk_other (fun h => ho h.2) (fun h => by rw [hno] at h; cases h.1)]
  have hdown := H.down (brk (f k))
  rw [hp, List.pairwise_cons] at hdown
  refine ⟨?_, ?_, ?_, ?_⟩
  · intro o q
    rw [hst]
    split
    · rename_i ho
      subst ho
      have hq := H.wait (brk (f k)) q
      rw [hp, List.mem_cons] at hq
      constructor
      · intro hqr
        have hlt := hdown.1 q hqr
        obtain ⟨h1, h2, h3, h4⟩ := hq.1 (.inr hqr)
        exact ⟨by omega, h2, h3, by rw [hsame q (by omega) (by omega)]; exact h4⟩
      · rintro ⟨h1, h2, h3, h4⟩
        by_cases hqk : q = k
        · subst hqk
          rw [hnew] at h4
          omega
        · by_cases hqp : q = p
          · subst hqp
            rw [hhit] at h4
            omega
          · rw [hsame q hqk hqp] at h4
            exact (hq.2 ⟨by omega, h2, h3, h4⟩).resolve_left hqp
    · rename_i ho
      rw [H.wait]
      constructor
      · rintro ⟨h1, h2, h3, h4⟩
        have hqp : q ≠ p := by
          rintro rfl
          exact ho (hfp.symm.trans h2)
        exact ⟨by omega, h2, h3, by rw [hsame q (by omega) hqp]; exact h4⟩
      · rintro ⟨h1, h2, h3, h4⟩
        have hqp : q ≠ p := by
          rintro rfl
          exact ho (hfp.symm.trans h2)
        have hqk : q ≠ k := by
          rintro rfl
          rw [← h2, hno] at h3
          cases h3
        exact ⟨by omega, h2, h3, by rw [← hsame q hqk hqp]; exact h4⟩
  · intro o
    rw [hst]
    split
    · exact hdown.2
    · exact H.down o
  · intro j hj
    by_cases hjk : j = k
    · subst hjk
      exact .inr ⟨p, by omega, hnew, hhit, hfp.symm, .inl ⟨hs, by rw [hfp]; exact hop, hpk⟩⟩
    · by_cases hjp : j = p
      · subst hjp
        refine .inr ⟨k, by omega, hhit, hnew, ?_, .inr ⟨by rw [hfp]; exact hop, hs, hpk⟩⟩
        rw [hfp]
        rcases sort (f k) with h4 | h4 | h4
        · exact h4.2.2.2.2
        · exact h4.2.2.2.2
        · rw [h4.2.1] at hs; cases hs
      · rcases H.told j (by omega) with h | ⟨i, h1, h2, h3, h4⟩
        · exact .inl (by rw [hsame j hjk hjp]; exact h)
        · have hip : i ≠ p := by
            rintro rfl
            rw [hpp] at h3
            omega
          exact .inr ⟨i, by omega, by rw [hsame j hjk hjp]; exact h2, by rw [hsame i (by omega) hip]; exact h3, h4⟩
  · intro i j a hij hj ho he ha hja
    have hjk : j ≠ k := by
      rintro rfl
      rw [he, hno] at ho
      cases ho
    by_cases hip : i = p
    · subst hip
      rw [hhit] at ha
      have hak : a = k := by omega
      subst hak
      have hjp : j ≠ i := by omega
      rw [hsame j hjk hjp]
      rcases H.told j (by omega) with h | ⟨b, h1, h2, _⟩
      · have hjs := (H.wait (brk (f a)) j).2 ⟨by omega, by rw [← he]; exact hfp, hop, h⟩
        rw [hp, List.mem_cons] at hjs
        rcases hjs with h3 | h3
        · omega
        · have := hdown.1 j h3
          omega
      · exact ⟨b, h2, h1⟩
    · rw [hsame i (by omega) hip] at ha
      obtain ⟨b, hb, hba⟩ := H.nest i j a hij (by omega) ho he ha hja
      have hjp : j ≠ p := by
        rintro rfl
        rw [hpp] at hb
        omega
      exact ⟨b, by rw [hsame j hjk hjp]; exact hb, hba⟩

theorem holds (f : Nat → Int) : ∀ k, Holds f k
  | 0 => holds_zero f
  | k + 1 => by
    by_cases hs : shuts (f k) = true
    · cases hp : stk f (brk (f k)) k with
      | nil => exact holds_quiet (holds f k) (fun _ => hp)
      | cons p r => exact holds_pair (holds f k) hs hp
    · exact holds_quiet (holds f k) (fun h => absurd h hs)

/-- What is told of a place that closes stays. -/
theorem par_stays {f : Nat → Int} {j : Nat} (h : opens (f j) = false) : ∀ k, j < k → par f k j = if shuts (f j) = true then top (stk f (brk (f j)) j) else -1
  | 0, hk => by omega
  | k + 1, hk => by
    by_cases hjk : j = k
    · subst hjk
      exact par_new
    · rw [← par_stays h k (by omega)]
      refine par_same hjk ?_
      rintro ⟨h1, h2⟩
      have hm : j ∈ stk f (brk (f k)) k := List.mem_of_head? h2
      obtain ⟨_, h3, h4, _⟩ := ((holds f k).wait _ _).1 hm
      rw [← h3, h] at h4
      cases h4
/-- A partner that is found stays. -/
theorem par_keeps {f : Nat → Int} {j i m : Nat} (h : par f m j = (i : Int)) (hj : j < m) : ∀ k, m ≤ k → par f k j = (i : Int)
  | 0, hk => by omega
  | k + 1, hk => by
    by_cases hmk : m = k + 1
    · rw [← hmk]
      exact h
    · have ih := par_keeps h hj k (by omega)
      rw [← ih]
      refine par_same (by omega) ?_
      rintro ⟨h1, h2⟩
      have hm : j ∈ stk f (brk (f k)) k := List.mem_of_head? h2
      obtain ⟨_, _, _, h4⟩ := ((holds f k).wait _ _).1 hm
      rw [ih] at h4
      omega
end Go.Proofs.Ytcmcaifcncabgaa.Plain
