/- The longest border and how far a word has come, as numbers; places as a list; lists as functions. -/
import Derived.Test.YtppgpejeedjajaaBorders
set_option linter.unusedVariables false
set_option linter.unusedSimpArgs false
namespace Go.Proofs.Ytppgpejeedjajaa.Plain

theorem greatest (P : Nat → Prop) : ∀ N, P 0 → (∀ k, P k → k ≤ N) → ∃ k, P k ∧ ∀ m, P m → m ≤ k
  | 0, h0, hN => ⟨0, h0, hN⟩
  | N + 1, h0, hN => by
    by_cases h : P (N + 1)
    · exact ⟨N + 1, h, hN⟩
    · refine greatest P N h0 fun k hk => ?_
      have h1 := hN k hk
      have h2 : k ≠ N + 1 := fun e => h (e ▸ hk)
      omega
theorem long_is (p : Nat → Int) (n : Nat) (h : 0 < n) : ∃ k, Long p n k := greatest _ n (bord_zero p n h) fun k hk => Nat.le_of_lt hk.1
/-- The longest border of the first n numbers. -/
noncomputable def lb (p : Nat → Int) (n : Nat) : Nat := Classical.epsilon (Long p n)
theorem lb_long (p : Nat → Int) (n : Nat) (h : 0 < n) : Long p n (lb p n) := Classical.epsilon_spec (long_is p n h)
theorem lb_of {p : Nat → Int} {n k : Nat} (h : Long p n k) : lb p n = k := (lb_long p n (by have := h.1.1; omega)).one h
theorem lb_one (p : Nat → Int) : lb p 1 = 0 := lb_of (long_first p)
theorem lb_lt (p : Nat → Int) (n : Nat) (h : 0 < n) : lb p n < n := (lb_long p n h).1.1

theorem far_is (p s : Nat → Int) (n i : Nat) : ∃ k, Far p s n i k := greatest (fun k => k ≤ n ∧ Suf p s i k) n ⟨Nat.zero_le _, suf_zero p s i⟩ (fun k hk => hk.1) |>.imp fun k h => ⟨h.1, fun m h1 h2 => h.2 m ⟨h1, h2⟩⟩
/-- How far the word has come at the place i. -/
noncomputable def fr (p s : Nat → Int) (n i : Nat) : Nat := Classical.epsilon (Far p s n i)
theorem fr_far (p s : Nat → Int) (n i : Nat) : Far p s n i (fr p s n i) := Classical.epsilon_spec (far_is p s n i)
theorem Far.one {p s : Nat → Int} {n i k m : Nat} (h : Far p s n i k) (h' : Far p s n i m) : k = m := Nat.le_antisymm (h'.2 k h.1.1 h.1.2) (h.2 m h'.1.1 h'.1.2)
theorem fr_of {p s : Nat → Int} {n i k : Nat} (h : Far p s n i k) : fr p s n i = k := (fr_far p s n i).one h
theorem fr_zero (p s : Nat → Int) (n : Nat) : fr p s n 0 = 0 := fr_of (far_zero p s n)
theorem fr_le (p s : Nat → Int) (n i : Nat) : fr p s n i ≤ n := (fr_far p s n i).1.1
theorem fr_le' (p s : Nat → Int) (n i : Nat) : fr p s n i ≤ i := (fr_far p s n i).1.2.1

/-- Whether the word stands there. -/
noncomputable def stb (p s : Nat → Int) (n i : Nat) : Bool := @decide (Stands p s n i) (Classical.propDecidable _)
theorem stb_true (p s : Nat → Int) (n i : Nat) : stb p s n i = true ↔ Stands p s n i := by unfold stb; simp
theorem fr_stands {p s : Nat → Int} {n i : Nat} (hi : n ≤ i) : fr p s n i = n ↔ stb p s n (i - n) = true := by
  rw [stb_true]
  exact (fr_far p s n i).stands hi
/-- The places, rising. -/
noncomputable def places (p s : Nat → Int) (n m : Nat) : List Nat := spots (stb p s n) (m + 1 - n)
theorem mem_places (p s : Nat → Int) (n m i : Nat) : i ∈ places p s n m ↔ i + n ≤ m ∧ Stands p s n i := by
  unfold places
  rw [mem_spots, stb_true]
  constructor
  · rintro ⟨h1, h2⟩; exact ⟨by omega, h2⟩
  · rintro ⟨h1, h2⟩; exact ⟨by omega, h2⟩
theorem places_len (p s : Nat → Int) (n m : Nat) : (places p s n m).length ≤ m + 1 := Nat.le_trans (spots_len _ _) (by omega)
/-- One place more. -/
theorem spots_step {p s : Nat → Int} {n at' : Nat} : spots (stb p s n) (at' + 1 - n) = if fr p s n at' = n then spots (stb p s n) (at' - n) ++ [at' - n] else spots (stb p s n) (at' - n) := by
  by_cases h : n ≤ at'
  · rw [show at' + 1 - n = (at' - n) + 1 by omega, spots_succ]
    by_cases h2 : fr p s n at' = n
    · rw [if_pos h2, if_pos ((fr_stands h).1 h2)]
    · rw [if_neg h2, if_neg (fun h3 => h2 ((fr_stands h).2 h3))]
  · have h1 := fr_le' p s n at'
    rw [if_neg (by omega), show at' + 1 - n = 0 by omega, show at' - n = 0 by omega]
theorem spots_sorted (st : Nat → Bool) (N : Nat) : (spots st N).Pairwise (· < ·) := (List.pairwise_lt_range (n := N)).filter _
end Go.Proofs.Ytppgpejeedjajaa.Plain
