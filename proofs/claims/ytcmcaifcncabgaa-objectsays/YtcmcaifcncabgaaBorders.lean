/- Plain mathematics of seek: borders of beginnings, the chain of borders, periods (Fine, Wilf), where a word stands, and how far it has come. Numbers as functions of their places. -/
import Derived.WalkKit
set_option linter.unusedVariables false
namespace Go.Proofs.Ytcmcaifcncabgaa.Plain

/-- k is a border of the first n numbers of p: a beginning that is the end, too, and not all. -/
def Bord (p : Nat → Int) (n k : Nat) : Prop := k < n ∧ ∀ j, j < k → p j = p (n - k + j)
/-- The longest one. -/
def Long (p : Nat → Int) (n k : Nat) : Prop := Bord p n k ∧ ∀ m, Bord p n m → m ≤ k
theorem bord_zero (p : Nat → Int) (n : Nat) (h : 0 < n) : Bord p n 0 := ⟨h, fun j hj => absurd hj (by omega)⟩
theorem bord_succ (p : Nat → Int) (n m : Nat) : Bord p (n + 1) (m + 1) ↔ Bord p n m ∧ p m = p n := by
  constructor
  · rintro ⟨h1, h2⟩
    refine ⟨⟨by omega, fun j hj => ?_⟩, ?_⟩
    · have := h2 j (by omega)
      rw [show n + 1 - (m + 1) + j = n - m + j by omega] at this
      exact this
    · have := h2 m (by omega)
      rw [show n + 1 - (m + 1) + m = n by omega] at this
      exact this
  · rintro ⟨⟨h1, h2⟩, h3⟩
    refine ⟨by omega, fun j hj => ?_⟩
    rw [show n + 1 - (m + 1) + j = n - m + j by omega]
    rcases (by omega : j < m ∨ j = m) with h | rfl
    · exact h2 j h
    · rw [show n - j + j = n by omega]
      exact h3
/-- A border's border is one, and the shorter borders are just its. -/
theorem bord_bord {p : Nat → Int} {n k m : Nat} (h : Bord p n k) (hm : m < k) : Bord p n m ↔ Bord p k m := by
  obtain ⟨h1, h2⟩ := h
  constructor
  · rintro ⟨_, h4⟩
    refine ⟨hm, fun j hj => ?_⟩
    rw [h4 j hj]
    have := h2 (k - m + j) (by omega)
    rw [show n - k + (k - m + j) = n - m + j by omega] at this
    exact this.symm
  · rintro ⟨_, h4⟩
    refine ⟨by omega, fun j hj => ?_⟩
    rw [h4 j hj]
    have := h2 (k - m + j) (by omega)
    rw [show n - k + (k - m + j) = n - m + j by omega] at this
    exact this
theorem Long.one {p : Nat → Int} {n k m : Nat} (h : Long p n k) (h' : Long p n m) : k = m := Nat.le_antisymm (h'.2 k h.1) (h.2 m h'.1)
theorem long_first (p : Nat → Int) : Long p 1 0 := ⟨bord_zero p 1 (by omega), fun m hm => by have := hm.1; omega⟩
/-- What the search for the next longest border keeps: k is a border (or nothing), and whatever goes on with one number more is no longer. -/
def Upto (p : Nat → Int) (n k : Nat) : Prop := Bord p n k ∧ ∀ m, Bord p (n + 1) (m + 1) → m ≤ k
theorem Upto.start {p : Nat → Int} {n k : Nat} (h : Long p n k) : Upto p n k := ⟨h.1, fun m hm => h.2 m ((bord_succ p n m).1 hm).1⟩
theorem Upto.back {p : Nat → Int} {n k b : Nat} (h : Upto p n k) (hne : p k ≠ p n) (hk : 0 < k) (hb : Long p k b) : Upto p n b ∧ b < k := by
  have hbk := hb.1.1
  refine ⟨⟨(bord_bord h.1 hbk).2 hb.1, fun m hm => ?_⟩, hbk⟩
  have h1 := h.2 m hm
  have h2 := (bord_succ p n m).1 hm
  have h3 : m ≠ k := fun e => hne (by rw [← e]; exact h2.2)
  exact hb.2 m ((bord_bord h.1 (by omega)).1 h2.1)
theorem Upto.hit {p : Nat → Int} {n k : Nat} (h : Upto p n k) (he : p k = p n) : Long p (n + 1) (k + 1) := by
  refine ⟨(bord_succ p n k).2 ⟨h.1, he⟩, fun m hm => ?_⟩
  cases m with
  | zero => omega
  | succ m => have := h.2 m hm; omega
theorem Upto.miss {p : Nat → Int} {n : Nat} (h : Upto p n 0) (hne : p 0 ≠ p n) : Long p (n + 1) 0 := by
  refine ⟨bord_zero p _ (by omega), fun m hm => ?_⟩
  cases m with
  | zero => omega
  | succ m =>
    have h1 := h.2 m hm
    obtain rfl : m = 0 := by omega
    exact absurd ((bord_succ p n 0).1 hm).2 hne
/-- The chain of borders: those above k have been met; what is met next. -/
theorem chain_next {p : Nat → Int} {n k b m : Nat} (hk : Bord p n k) (hb : Long p k b) (hm : Bord p n m) (hlt : m < k) : m ≤ b := hb.2 m ((bord_bord hk hlt).1 hm)
theorem chain_bord {p : Nat → Int} {n k b : Nat} (hk : Bord p n k) (hb : Long p k b) : Bord p n b := (bord_bord hk hb.1.1).2 hb.1

/-- The first n numbers of p have the period a. -/
def Per (p : Nat → Int) (n a : Nat) : Prop := ∀ i, i + a < n → p i = p (i + a)
theorem per_bord {p : Nat → Int} {n a : Nat} (h1 : 1 ≤ a) (hn : a ≤ n) : Per p n a ↔ Bord p n (n - a) := by
  constructor
  · intro h
    refine ⟨by omega, fun j hj => ?_⟩
    rw [show n - (n - a) + j = j + a by omega]
    exact h j (by omega)
  · rintro ⟨_, h⟩ i hi
    have := h i (by omega)
    rw [show n - (n - a) + i = i + a by omega] at this
    exact this
theorem Per.less {p : Nat → Int} {n m a : Nat} (h : Per p n a) (hm : m ≤ n) : Per p m a := fun i hi => h i (by omega)
theorem Per.mul {p : Nat → Int} {n g : Nat} (h : Per p n g) : ∀ t, Per p n (g * t)
  | 0 => fun i _ => by simp
  | t + 1 => fun i hi => by
    rw [Nat.mul_succ] at hi ⊢
    rw [Per.mul h t i (by omega), h (i + g * t) (by omega), Nat.add_assoc]
theorem per_zero (p : Nat → Int) (n : Nat) : Per p n 0 := fun i _ => rfl
/-- One step of Euclid's: the end of length a is left away. -/
theorem Per.sub {p : Nat → Int} {n a b : Nat} (ha : Per p n a) (hb : Per p n b) (hab : a ≤ b) : Per p (n - a) (b - a) := fun i hi => by
  have h1 := hb i (by omega)
  have h2 := ha (i + (b - a)) (by omega)
  rw [show i + (b - a) + a = i + b by omega] at h2
  rw [h1, ← h2]
/-- FINE, WILF. -/
theorem fine_wilf (p : Nat → Int) : ∀ (k n a b : Nat), a + b ≤ k → 1 ≤ a → 1 ≤ b → Per p n a → Per p n b → a + b ≤ n + Nat.gcd a b → Per p n (Nat.gcd a b)
  | 0, n, a, b, hk, h1, _, _, _, _ => by omega
  | k + 1, n, a, b, hk, h1, h2, ha, hb, hn => by
    rcases Nat.lt_trichotomy a b with hab | rfl | hab
    · have hg : Nat.gcd a (b - a) = Nat.gcd a b := by rw [Nat.gcd_sub_self_right (by omega)]
      have hgb : Nat.gcd a b ≤ b - a := by
        have : Nat.gcd a b ∣ b - a := Nat.dvd_sub (Nat.gcd_dvd_right a b) (Nat.gcd_dvd_left a b)
        exact Nat.le_of_dvd (by omega) this
      have ih := fine_wilf p k (n - a) a (b - a) (by omega) h1 (by omega) (ha.less (by omega)) (ha.sub hb (by omega)) (by rw [hg]; omega)
      rw [hg] at ih
      obtain ⟨t, ht⟩ := Nat.gcd_dvd_left a b
      generalize Nat.gcd a b = g at ih hn hgb ht hg
      exact per_up ih ha ht h1 (by omega)
    · rw [Nat.gcd_self]; exact ha
    · have hg : Nat.gcd (a - b) b = Nat.gcd a b := by rw [Nat.gcd_sub_self_left (by omega)]
      have hga : Nat.gcd a b ≤ a - b := by
        have : Nat.gcd a b ∣ a - b := Nat.dvd_sub (Nat.gcd_dvd_left a b) (Nat.gcd_dvd_right a b)
        exact Nat.le_of_dvd (by omega) this
      have ih := fine_wilf p k (n - b) (a - b) b (by omega) (by omega) h2 (hb.sub ha (by omega)) (hb.less (by omega)) (by rw [hg]; omega)
      rw [hg] at ih
      obtain ⟨t, ht⟩ := Nat.gcd_dvd_right a b
      generalize Nat.gcd a b = g at ih hn hga ht hg
      exact per_up ih hb ht h2 (by omega)
where
  /-- From the shorter beginning to all of it. -/
  per_up {p : Nat → Int} {n a g t : Nat} (hg : Per p (n - a) g) (ha : Per p n a) (ht : a = g * t) (h1 : 1 ≤ a) (hl : a ≤ n - a) : Per p n g := by
    intro i hi
    have hgt : g ≤ a := by
      rw [ht]
      cases t with
      | zero => rw [Nat.mul_zero] at ht; omega
      | succ t => rw [Nat.mul_succ]; omega
    by_cases h2 : i + g < n - a
    · exact hg i h2
    · have e2 := ha (i + g - a) (by omega)
      rw [show i + g - a + a = i + g by omega] at e2
      by_cases h3 : a ≤ i
      · have e1 := ha (i - a) (by omega)
        rw [show i - a + a = i by omega] at e1
        have e3 := hg (i - a) (by omega)
        rw [show i - a + g = i + g - a by omega] at e3
        rw [← e1, ← e2, e3]
      · cases t with
        | zero => rw [Nat.mul_zero] at ht; omega
        | succ t =>
          have e3 := hg.mul t (i + g - a) (by rw [Nat.mul_succ] at ht; omega)
          rw [show i + g - a + g * t = i by rw [Nat.mul_succ] at ht; omega] at e3
          rw [← e2, e3]

/-- The first k numbers of p stand at the end of the first i of s. -/
def Suf (p s : Nat → Int) (i k : Nat) : Prop := k ≤ i ∧ ∀ j, j < k → p j = s (i - k + j)
theorem suf_zero (p s : Nat → Int) (i : Nat) : Suf p s i 0 := ⟨Nat.zero_le _, fun j hj => absurd hj (by omega)⟩
theorem suf_succ (p s : Nat → Int) (i m : Nat) : Suf p s (i + 1) (m + 1) ↔ Suf p s i m ∧ p m = s i := by
  constructor
  · rintro ⟨h1, h2⟩
    refine ⟨⟨by omega, fun j hj => ?_⟩, ?_⟩
    · have := h2 j (by omega)
      rw [show i + 1 - (m + 1) + j = i - m + j by omega] at this
      exact this
    · have := h2 m (by omega)
      rw [show i + 1 - (m + 1) + m = i by omega] at this
      exact this
  · rintro ⟨⟨h1, h2⟩, h3⟩
    refine ⟨by omega, fun j hj => ?_⟩
    rw [show i + 1 - (m + 1) + j = i - m + j by omega]
    rcases (by omega : j < m ∨ j = m) with h | rfl
    · exact h2 j h
    · rw [show i - j + j = i by omega]
      exact h3
theorem suf_bord {p s : Nat → Int} {i k m : Nat} (h : Suf p s i k) (hm : m < k) : Suf p s i m ↔ Bord p k m := by
  obtain ⟨h1, h2⟩ := h
  constructor
  · rintro ⟨_, h4⟩
    refine ⟨hm, fun j hj => ?_⟩
    rw [h4 j hj]
    have := h2 (k - m + j) (by omega)
    rw [show i - k + (k - m + j) = i - m + j by omega] at this
    exact this.symm
  · rintro ⟨_, h4⟩
    refine ⟨by omega, fun j hj => ?_⟩
    rw [h4 j hj]
    have := h2 (k - m + j) (by omega)
    rw [show i - k + (k - m + j) = i - m + j by omega] at this
    exact this
/-- How far the word (of n numbers) has come at the place i: the longest of its beginnings that ends there. -/
def Far (p s : Nat → Int) (n i k : Nat) : Prop := (k ≤ n ∧ Suf p s i k) ∧ ∀ m, m ≤ n → Suf p s i m → m ≤ k
theorem far_zero (p s : Nat → Int) (n : Nat) : Far p s n 0 0 := ⟨⟨Nat.zero_le _, suf_zero p s 0⟩, fun m _ hm => hm.1⟩
/-- What the search for the next step keeps. -/
def Step (p s : Nat → Int) (n i k : Nat) : Prop := (k ≤ n ∧ Suf p s i k) ∧ ∀ m, m < n → Suf p s (i + 1) (m + 1) → m ≤ k
theorem Step.start {p s : Nat → Int} {n i k : Nat} (h : Far p s n i k) : Step p s n i k := ⟨h.1, fun m hm hs => h.2 m (by omega) ((suf_succ p s i m).1 hs).1⟩
theorem Step.back {p s : Nat → Int} {n i k b : Nat} (h : Step p s n i k) (hne : k = n ∨ p k ≠ s i) (hk : 0 < k) (hb : Long p k b) : Step p s n i b ∧ b < k := by
  have hbk := hb.1.1
  have hkn := h.1.1
  refine ⟨⟨⟨by omega, (suf_bord h.1.2 hbk).2 hb.1⟩, fun m hm hs => ?_⟩, hbk⟩
  have h1 := h.2 m hm hs
  have h2 := (suf_succ p s i m).1 hs
  have h3 : m ≠ k := fun e => by
    rcases hne with hne | hne
    · omega
    · exact hne (by rw [← e]; exact h2.2)
  exact hb.2 m ((suf_bord h.1.2 (by omega)).1 h2.1)
theorem Step.hit {p s : Nat → Int} {n i k : Nat} (h : Step p s n i k) (hk : k < n) (he : p k = s i) : Far p s n (i + 1) (k + 1) := by
  refine ⟨⟨by omega, (suf_succ p s i k).2 ⟨h.1.2, he⟩⟩, fun m hm hs => ?_⟩
  cases m with
  | zero => omega
  | succ m => have := h.2 m (by omega) hs; omega
theorem Step.miss {p s : Nat → Int} {n i : Nat} (h : Step p s n i 0) (hne : n = 0 ∨ p 0 ≠ s i) : Far p s n (i + 1) 0 := by
  refine ⟨⟨Nat.zero_le _, suf_zero p s _⟩, fun m hm hs => ?_⟩
  cases m with
  | zero => omega
  | succ m =>
    have h1 := h.2 m (by omega) hs
    obtain rfl : m = 0 := by omega
    rcases hne with hne | hne
    · omega
    · exact absurd ((suf_succ p s i 0).1 hs).2 hne
/-- The word stands at the place i. -/
def Stands (p s : Nat → Int) (n i : Nat) : Prop := ∀ j, j < n → p j = s (i + j)
theorem stands_suf (p s : Nat → Int) (n i : Nat) : Stands p s n i ↔ Suf p s (i + n) n := by
  unfold Stands Suf
  rw [show i + n - n = i by omega]
  exact ⟨fun h => ⟨by omega, h⟩, fun h => h.2⟩
theorem Far.stands {p s : Nat → Int} {n i k : Nat} (h : Far p s n i k) (hi : n ≤ i) : k = n ↔ Stands p s n (i - n) := by
  rw [stands_suf, show i - n + n = i by omega]
  constructor
  · rintro rfl; exact h.1.2
  · intro hs; exact Nat.le_antisymm h.1.1 (h.2 n (Nat.le_refl _) hs)
theorem Far.short {p s : Nat → Int} {n i k : Nat} (h : Far p s n i k) (hi : i < n) : k ≠ n := fun e => by have := h.1.2.1; omega

/-- Places, rising, up to N. -/
def spots (st : Nat → Bool) (N : Nat) : List Nat := (List.range N).filter st
theorem spots_zero (st : Nat → Bool) : spots st 0 = [] := rfl
theorem spots_succ (st : Nat → Bool) (N : Nat) : spots st (N + 1) = if st N then spots st N ++ [N] else spots st N := by
  unfold spots
  rw [List.range_succ, List.filter_append]
  cases h : st N <;> simp [h]
theorem mem_spots (st : Nat → Bool) (N i : Nat) : i ∈ spots st N ↔ i < N ∧ st i = true := by
  unfold spots
  rw [List.mem_filter, List.mem_range]
theorem spots_len (st : Nat → Bool) (N : Nat) : (spots st N).length ≤ N := by
  have := List.length_filter_le st (List.range N)
  rw [List.length_range] at this
  exact this
theorem range_turn (N : Nat) : (List.range N).reverse = (List.range N).map (fun i => N - 1 - i) := by
  apply List.ext_getElem
  · simp
  · intro i h1 h2
    simp at h1 h2 ⊢
/-- Turned round. -/
theorem spots_turn (st st' : Nat → Bool) (N : Nat) (h : ∀ i, i < N → st' i = st (N - 1 - i)) : (spots st' N).reverse = (spots st N).map (fun i => N - 1 - i) := by
  unfold spots
  rw [← List.filter_reverse, range_turn, List.filter_map]
  congr 1
  apply List.filter_congr
  intro i hi
  rw [List.mem_range] at hi
  show st' (N - 1 - i) = st i
  rw [h _ (by omega), show N - 1 - (N - 1 - i) = i by omega]
end Go.Proofs.Ytcmcaifcncabgaa.Plain
