/- Right lines, in plain mathematics. -/
import Derived.Test.YtoknmihooopnnaaStacks
set_option linter.unusedVariables false
set_option linter.unusedSimpArgs false
namespace Go.Proofs.Ytoknmihooopnnaa.Plain

/-- What is open behind the numbers l, where S was open ahead of them (the last one first); none where a bracket closes what is not the last one. -/
def rgo : List Int → List Int → Option (List Int)
  | S, [] => some S
  | S, c :: l => if shuts c = true then (match S with
      | [] => none
      | t :: S' => if t = kind c then rgo S' l else none) else if opens c = true then rgo (c :: S) l else rgo S l
def right (l : List Int) : Bool := rgo [] l == some []

theorem rgo_shut {S l : List Int} {t c : Int} (h : shuts c = true) (ht : t = kind c) : rgo (t :: S) (c :: l) = rgo S l := by
  rw [rgo, if_pos h, if_pos ht]
theorem rgo_shut_none {l : List Int} {c : Int} (h : shuts c = true) : rgo [] (c :: l) = none := by
  rw [rgo, if_pos h]
theorem rgo_shut_ne {S l : List Int} {t c : Int} (h : shuts c = true) (ht : t ≠ kind c) : rgo (t :: S) (c :: l) = none := by
  rw [rgo, if_pos h, if_neg ht]
theorem rgo_open {S l : List Int} {c : Int} (h : opens c = true) : rgo S (c :: l) = rgo (c :: S) l := by
  have h2 : shuts c = false := by
    rcases sort c with h4 | h4 | h4
    · exact h4.2.1
    · rw [h4.1] at h; cases h
    · rw [h4.1] at h; cases h
  cases S <;> rw [rgo, h2, if_neg (by decide), if_pos h]
theorem rgo_other {S l : List Int} {c : Int} (h : opens c = false) (h2 : shuts c = false) : rgo S (c :: l) = rgo S l := by
  cases S <;> rw [rgo, h2, h, if_neg (by decide), if_neg (by decide)]

theorem rgo_append (l m : List Int) : ∀ S, rgo S (l ++ m) = (rgo S l).bind (fun S' => rgo S' m) := by
  induction l with
  | nil => intro S; rfl
  | cons c l ih =>
    intro S
    rw [List.cons_append]
    by_cases hs : shuts c = true
    · cases S with
      | nil => rw [rgo_shut_none hs, rgo_shut_none hs]; rfl
      | cons t S' =>
        by_cases ht : t = kind c
        · rw [rgo_shut hs ht, rgo_shut hs ht]
          exact ih S'
        · rw [rgo_shut_ne hs ht, rgo_shut_ne hs ht]
          rfl
    · by_cases ho : opens c = true
      · rw [rgo_open ho, rgo_open ho]
        exact ih _
      · rw [rgo_other (by simpa using ho) (by simpa using hs), rgo_other (by simpa using ho) (by simpa using hs)]
        exact ih S
theorem rgo_frame (T : List Int) (l : List Int) : ∀ S S', rgo S l = some S' → rgo (S ++ T) l = some (S' ++ T) := by
  induction l with
  | nil =>
    intro S S' h
    cases h
    rfl
  | cons c l ih =>
    intro S S' h
    by_cases hs : shuts c = true
    · cases S with
      | nil => rw [rgo_shut_none hs] at h; cases h
      | cons t S1 =>
        by_cases ht : t = kind c
        · rw [rgo_shut hs ht] at h
          rw [List.cons_append, rgo_shut hs ht]
          exact ih _ _ h
        · rw [rgo_shut_ne hs ht] at h
          cases h
    · by_cases ho : opens c = true
      · rw [rgo_open ho] at h
        rw [rgo_open ho]
        exact ih _ _ h
      · have h1 : opens c = false := by simpa using ho
        have h2 : shuts c = false := by simpa using hs
        rw [rgo_other h1 h2] at h
        rw [rgo_other h1 h2]
        exact ih _ _ h

theorem right_iff (l : List Int) : right l = true ↔ rgo [] l = some [] := by
  unfold right
  exact beq_iff_eq
theorem right_both {l m : List Int} (h : right l = true) : right (l ++ m) = right m := by
  unfold right
  rw [rgo_append, (right_iff l).1 h]
  rfl
theorem right_within {l : List Int} {c : Int} (hc : opens c = true) (h : right l = true) : right ([c] ++ (l ++ [kind c])) = true := by
  rw [right_iff, List.singleton_append, rgo_open hc, rgo_append, show ([c] : List Int) = [] ++ [c] from rfl, rgo_frame [c] l [] [] ((right_iff l).1 h)]
  show rgo [c] [kind c] = some []
  rcases sort c with h4 | h4 | h4
  · rw [rgo_shut h4.2.2.2.1 h4.2.2.2.2.symm]
    rfl
  · rw [h4.1] at hc; cases hc
  · rw [h4.1] at hc; cases hc

/-- Step by step. -/
theorem rgo_snoc (l : List Int) (c : Int) (S : List Int) (h : rgo [] l = some S) : rgo [] (l ++ [c]) = rgo S [c] := by
  rw [rgo_append, h]
  rfl

/-- What is open holds as many brackets of each kind as wait. -/
theorem open_count (f : Nat → Int) : ∀ (k : Nat) (S : List Int), rgo [] ((List.range k).map f) = some S → ∀ o, opens o = true → (stk f o k).length = S.count o
  | 0, S, h, o, _ => by
    cases h
    rfl
  | k + 1, S, h, o, ho => by
    rw [List.range_succ, List.map_append, List.map_singleton, rgo_append] at h
    cases hk : rgo [] ((List.range k).map f) with
    | none => rw [hk] at h; cases h
    | some T =>
      rw [hk] at h
      have h1 : rgo T [f k] = some S := h
      have ih := open_count f k T hk
      by_cases hs : shuts (f k) = true
      · cases T with
        | nil => rw [rgo_shut_none hs] at h1; cases h1
        | cons t T' =>
          by_cases ht : t = kind (f k)
          · rw [rgo_shut hs ht] at h1
            have h2 : T' = S := Option.some.inj h1
            subst h2
            have h3 := ih o ho
            rw [List.count_cons] at h3
            by_cases hko : kind (f k) = o
            · rw [stk_shut hs hko, List.length_tail, h3]
              rw [ht, hko]
              simp
            · rw [stk_other (fun h => hko h.2) (fun h => by
                rcases sort (f k) with h4 | h4 | h4
                · rw [h4.2.1] at hs; cases hs
                · rw [h4.1] at h; cases h.1
                · rw [h4.1] at h; cases h.1), h3]
              rw [ht]
              have h5 : (kind (f k) == o) = false := by simpa using hko
              rw [h5]
              rfl
          · rw [rgo_shut_ne hs ht] at h1
            cases h1
      · by_cases hop : opens (f k) = true
        · rw [rgo_open hop] at h1
          have h2 : f k :: T = S := Option.some.inj h1
          subst h2
          rw [List.count_cons]
          by_cases hko : f k = o
          · rw [stk_open hop hko, List.length_cons, ih o ho, hko]
            simp
          · have h5 : (f k == o) = false := by simpa using hko
            rw [stk_other (fun h => hs h.1) (fun h => hko h.2), ih o ho, h5]
            rfl
        · rw [rgo_other (by simpa using hop) (by simpa using hs)] at h1
          have h2 : T = S := Option.some.inj h1
          subst h2
          rw [stk_other (fun h => hs h.1) (fun h => hop h.1)]
          exact ih o ho
/-- What is right ahead of a place is right. -/
theorem rgo_prefix (f : Nat → Int) (n : Nat) {S : List Int} (h : rgo [] ((List.range n).map f) = some S) (k : Nat) (hk : k ≤ n) : ∃ T, rgo [] ((List.range k).map f) = some T ∧ rgo T ((List.range (n - k)).map (fun j => f (k + j))) = some S := by
  have e : (List.range n).map f = (List.range k).map f ++ (List.range (n - k)).map (fun j => f (k + j)) := by
    apply List.ext_getElem
    · simp
      omega
    · intro j h1 h2
      rw [List.getElem_append]
      split
      · simp
      · rename_i h3
        simp only [List.length_map, List.length_range] at h3
        simp only [List.getElem_map, List.getElem_range, List.length_map, List.length_range]
        congr 1
        omega
  rw [e, rgo_append] at h
  cases hT : rgo [] ((List.range k).map f) with
  | none => rw [hT] at h; cases h
  | some T =>
    rw [hT] at h
    exact ⟨T, rfl, h⟩
/-- In what is right each bracket has its partner. -/
theorem right_told (f : Nat → Int) (n : Nat) (h : rgo [] ((List.range n).map f) = some []) (j : Nat) (hj : j < n) (hk : kind (f j) ≠ 0) : 0 ≤ par f n j := by
  rcases sort (f j) with h4 | h4 | h4
  · rcases (holds f n).told j hj with h5 | ⟨i, _, h5, _⟩
    · exfalso
      have hm := ((holds f n).wait (f j) j).2 ⟨hj, rfl, h4.1, h5⟩
      have hc := open_count f n [] h (f j) h4.1
      rw [List.count_nil] at hc
      have := List.length_eq_zero_iff.1 hc
      rw [this] at hm
      cases hm
    · rw [h5]
      omega
  · rw [par_stays h4.1 n hj, if_pos h4.2.1]
    obtain ⟨T, hT, hrest⟩ := rgo_prefix f n h j (by omega)
    obtain ⟨T2, hT2, _⟩ := rgo_prefix f n h (j + 1) (by omega)
    rw [List.range_succ, List.map_append, List.map_singleton, rgo_append, hT] at hT2
    have h1 : rgo T [f j] = some T2 := hT2
    have hc := open_count f j T hT (kind (f j)) h4.2.2.2.1
    cases T with
    | nil => rw [rgo_shut_none h4.2.1] at h1; cases h1
    | cons t T' =>
      by_cases ht : t = kind (f j)
      · rw [ht, List.count_cons_self] at hc
        cases hst : stk f (kind (f j)) j with
        | nil => rw [hst] at hc; cases hc
        | cons p r =>
          show 0 ≤ (p : Int)
          omega
      · rw [rgo_shut_ne h4.2.1 ht] at h1
        cases h1
  · exact absurd h4.2.2 hk

/-- A pair that touches is nothing. -/
theorem rgo_touch (a b : List Int) (o : Int) (ho : opens o = true) : ∀ S, rgo S (a ++ (o :: kind o :: b)) = rgo S (a ++ b) := by
  intro S
  rw [rgo_append, rgo_append]
  congr 1
  funext S'
  rw [rgo_open ho]
  rcases sort o with h4 | h4 | h4
  · exact rgo_shut h4.2.2.2.1 h4.2.2.2.2.symm
  · rw [h4.1] at ho; cases ho
  · rw [h4.1] at ho; cases ho
/-- Whether it is a bracket. -/
def brack (c : Int) : Bool := opens c || shuts c
theorem rgo_filter (l : List Int) : ∀ S, rgo S (l.filter brack) = rgo S l := by
  induction l with
  | nil => intro S; rfl
  | cons c l ih =>
    intro S
    rcases sort c with h4 | h4 | h4
    · rw [List.filter_cons_of_pos (by unfold brack; rw [h4.1]; rfl), rgo_open h4.1, rgo_open h4.1]
      exact ih _
    · rw [List.filter_cons_of_pos (by unfold brack; rw [h4.2.1]; simp)]
      cases S with
      | nil => rw [rgo_shut_none h4.2.1, rgo_shut_none h4.2.1]
      | cons t S' =>
        by_cases ht : t = kind c
        · rw [rgo_shut h4.2.1 ht, rgo_shut h4.2.1 ht]
          exact ih _
        · rw [rgo_shut_ne h4.2.1 ht, rgo_shut_ne h4.2.1 ht]
    · rw [List.filter_cons_of_neg (by unfold brack; rw [h4.1, h4.2.1]; decide), rgo_other h4.1 h4.2.1]
      exact ih _
/-- Where no two touch, what is open stays. -/
theorem no_touch_open (l : List Int) : ∀ (c : Int) (S : List Int), opens c = true → (∀ x ∈ l, brack x = true) → (∀ j, j + 1 < (c :: l).length → ¬ (opens ((c :: l).getD j 0) = true ∧ (c :: l).getD (j + 1) 0 = kind ((c :: l).getD j 0))) → rgo (c :: S) l ≠ some [] := by
  induction l with
  | nil =>
    intro c S _ _ _ h
    cases h
  | cons d l ih =>
    intro c S hc hb hno h
    rcases sort d with h4 | h4 | h4
    · rw [rgo_open h4.1] at h
      refine ih d (c :: S) h4.1 (fun x hx => hb x (List.mem_cons_of_mem _ hx)) ?_ h
      intro j hj
      exact hno (j + 1) (by simp only [List.length_cons] at hj ⊢; omega)
    · by_cases ht : c = kind d
      · refine hno 0 (by simp) ⟨hc, ?_⟩
        show d = kind c
        rw [ht]
        exact h4.2.2.2.2.symm
      · rw [rgo_shut_ne h4.2.1 ht] at h
        cases h
    · have := hb d (List.mem_cons_self ..)
      unfold brack at this
      rw [h4.1, h4.2.1] at this
      cases this
theorem no_touch (l : List Int) (hb : ∀ x ∈ l, brack x = true) (hno : ∀ j, j + 1 < l.length → ¬ (opens (l.getD j 0) = true ∧ l.getD (j + 1) 0 = kind (l.getD j 0))) : right l = (l.length == 0) := by
  cases l with
  | nil => rfl
  | cons c l =>
    have h0 : right (c :: l) = false := by
      rw [← Bool.not_eq_true, right_iff]
      intro h
      rcases sort c with h4 | h4 | h4
      · rw [rgo_open h4.1] at h
        exact no_touch_open l c [] h4.1 (fun x hx => hb x (List.mem_cons_of_mem _ hx)) hno h
      · rw [rgo_shut_none h4.2.1] at h
        cases h
      · have := hb c (List.mem_cons_self ..)
        unfold brack at this
        rw [h4.1, h4.2.1] at this
        cases this
    rw [h0]
    rfl
end Go.Proofs.Ytoknmihooopnnaa.Plain
