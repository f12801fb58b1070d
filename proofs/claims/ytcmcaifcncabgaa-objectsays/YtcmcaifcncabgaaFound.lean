/- The longest border and how far a word has come, as numbers; places as a list; lists as functions. -/
import Derived.Test.YtcmcaifcncabgaaBorders
set_option linter.unusedVariables false
set_option linter.unusedSimpArgs false
namespace Go.Proofs.Ytcmcaifcncabgaa.Plain

/-- The greatest number up to N that f says yes to, or 0. -/
def most (f : Nat → Bool) : Nat → Nat
  | 0 => 0
  | n + 1 => if f (n + 1) = true then n + 1 else most f n
theorem most_spec (f : Nat → Bool) (h0 : f 0 = true) : ∀ N, f (most f N) = true ∧ most f N ≤ N ∧ ∀ m, m ≤ N → f m = true → m ≤ most f N
  | 0 => ⟨h0, Nat.le_refl _, fun m hm _ => hm⟩
  | n + 1 => by
    obtain ⟨h1, h2, h3⟩ := most_spec f h0 n
    unfold most
    by_cases h : f (n + 1) = true
    · rw [if_pos h]
      exact ⟨h, Nat.le_refl _, fun m hm _ => hm⟩
    · rw [if_neg h]
      refine ⟨h1, by omega, fun m hm hf => ?_⟩
      have h4 : m ≠ n + 1 := fun e => h (e ▸ hf)
      exact h3 m (by omega) hf
def bordC (p : Nat → Int) (n k : Nat) : Bool := decide (k < n) && (List.range k).all fun j => p j == p (n - k + j)
theorem bordC_true (p : Nat → Int) (n k : Nat) : bordC p n k = true ↔ Bord p n k := by
  unfold bordC Bord
  rw [Bool.and_eq_true, decide_eq_true_eq, List.all_eq_true]
  constructor
  · rintro ⟨h1, h2⟩
    exact ⟨h1, fun j hj => by simpa using h2 j (List.mem_range.2 hj)⟩
  · rintro ⟨h1, h2⟩
    exact ⟨h1, fun j hj => by simpa using h2 j (List.mem_range.1 hj)⟩
/-- The longest border of the first n numbers. -/
def lb (p : Nat → Int) (n : Nat) : Nat := most (bordC p n) n
theorem lb_long (p : Nat → Int) (n : Nat) (h : 0 < n) : Long p n (lb p n) := by
  obtain ⟨h1, _, h3⟩ := most_spec (bordC p n) ((bordC_true p n 0).2 (bord_zero p n h)) n
  exact ⟨(bordC_true p n _).1 h1, fun m hm => h3 m (Nat.le_of_lt hm.1) ((bordC_true p n m).2 hm)⟩
theorem lb_of {p : Nat → Int} {n k : Nat} (h : Long p n k) : lb p n = k := (lb_long p n (by have := h.1.1; omega)).one h
theorem lb_one (p : Nat → Int) : lb p 1 = 0 := lb_of (long_first p)
theorem lb_lt (p : Nat → Int) (n : Nat) (h : 0 < n) : lb p n < n := (lb_long p n h).1.1

def sufC (p s : Nat → Int) (i k : Nat) : Bool := decide (k ≤ i) && (List.range k).all fun j => p j == s (i - k + j)
theorem sufC_true (p s : Nat → Int) (i k : Nat) : sufC p s i k = true ↔ Suf p s i k := by
  unfold sufC Suf
  rw [Bool.and_eq_true, decide_eq_true_eq, List.all_eq_true]
  constructor
  · rintro ⟨h1, h2⟩
    exact ⟨h1, fun j hj => by simpa using h2 j (List.mem_range.2 hj)⟩
  · rintro ⟨h1, h2⟩
    exact ⟨h1, fun j hj => by simpa using h2 j (List.mem_range.1 hj)⟩
/-- How far the word has come at the place i. -/
def fr (p s : Nat → Int) (n i : Nat) : Nat := most (sufC p s i) n
theorem fr_far (p s : Nat → Int) (n i : Nat) : Far p s n i (fr p s n i) := by
  obtain ⟨h1, h2, h3⟩ := most_spec (sufC p s i) ((sufC_true p s i 0).2 (suf_zero p s i)) n
  exact ⟨⟨h2, (sufC_true p s i _).1 h1⟩, fun m hm hs => h3 m hm ((sufC_true p s i m).2 hs)⟩
theorem Far.one {p s : Nat → Int} {n i k m : Nat} (h : Far p s n i k) (h' : Far p s n i m) : k = m := Nat.le_antisymm (h'.2 k h.1.1 h.1.2) (h.2 m h'.1.1 h'.1.2)
theorem fr_of {p s : Nat → Int} {n i k : Nat} (h : Far p s n i k) : fr p s n i = k := (fr_far p s n i).one h
theorem fr_zero (p s : Nat → Int) (n : Nat) : fr p s n 0 = 0 := fr_of (far_zero p s n)
theorem fr_le (p s : Nat → Int) (n i : Nat) : fr p s n i ≤ n := (fr_far p s n i).1.1
theorem fr_le' (p s : Nat → Int) (n i : Nat) : fr p s n i ≤ i := (fr_far p s n i).1.2.1

/-- Whether the word stands there. -/
def stb (p s : Nat → Int) (n i : Nat) : Bool := (List.range n).all fun j => p j == s (i + j)
theorem stb_true (p s : Nat → Int) (n i : Nat) : stb p s n i = true ↔ Stands p s n i := by
  unfold stb Stands
  rw [List.all_eq_true]
  constructor
  · intro h2 j hj
    simpa using h2 j (List.mem_range.2 hj)
  · intro h2 j hj
    simpa using h2 j (List.mem_range.1 hj)
theorem fr_stands {p s : Nat → Int} {n i : Nat} (hi : n ≤ i) : fr p s n i = n ↔ stb p s n (i - n) = true := by
  rw [stb_true]
  exact (fr_far p s n i).stands hi
/-- The places, rising. -/
def places (p s : Nat → Int) (n m : Nat) : List Nat := spots (stb p s n) (m + 1 - n)
theorem mem_places (p s : Nat → Int) (n m i : Nat) : i ∈ places p s n m ↔ i + n ≤ m ∧ Stands p s n i := by
  unfold places
  rw [mem_spots, stb_true]
  constructor
  · rintro ⟨h1, h2⟩; exact ⟨by omega, h2⟩
  · rintro ⟨h1, h2⟩; exact ⟨by omega, h2⟩
theorem places_len (p s : Nat → Int) (n m : Nat) : (places p s n m).length ≤ m + 1 := Nat.le_trans (spots_len _ _) (by omega)
/-- One place more. -/
theorem spots_step {p s : Nat → Int} {n at' : Nat} : spots (stb p s n) (at' + 1 - n) = if fr p s n at' = n then spots (stb p s n) (at' - n) ++ [at' - n] else spots (stb p s n) (at' - n) := by
  by_cases h : n ≤ at'
  · rw [show at' + 1 - n = (at' - n) + 1 by omega, spots_succ]
    by_cases h2 : fr p s n at' = n
    · rw [if_pos h2, if_pos ((fr_stands h).1 h2)]
    · rw [if_neg h2, if_neg (fun h3 => h2 ((fr_stands h).2 h3))]
  · have h1 := fr_le' p s n at'
    rw [if_neg (by omega), show at' + 1 - n = 0 by omega, show at' - n = 0 by omega]
theorem spots_sorted (st : Nat → Bool) (N : Nat) : (spots st N).Pairwise (· < ·) := (List.pairwise_lt_range (n := N)).filter _
end Go.Proofs.Ytcmcaifcncabgaa.Plain
