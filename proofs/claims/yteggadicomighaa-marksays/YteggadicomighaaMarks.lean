/- Plain mathematics of places that move with a line. -/
import Derived.Test.YteggadicomighaaEdits
set_option linter.unusedVariables false
set_option linter.unusedSimpArgs false
namespace Go.Proofs.Yteggadicomighaa.Plain

/-- How many of the characters ahead of place k go. -/
def lost (k : Nat) : List Nsp → Nat
  | [] => 0
  | s :: r => (min s.2.1 k - s.1) + lost k r
/-- Whether a splice's text comes ahead of place k. -/
def comes (k : Nat) (stick : Bool) (s : Nsp) : Bool := (decide (s.1 < k) && decide (s.2.1 ≤ k)) || (!stick && decide (s.1 ≤ k))
/-- How many characters come ahead of place k. -/
def come (k : Nat) (stick : Bool) : List Nsp → Nat
  | [] => 0
  | s :: r => (if comes k stick s then s.2.2.length else 0) + come k stick r
/-- Where place k is behind the edit. -/
def mvd (ns : List Nsp) (k : Nat) (stick : Bool) : Int := (k : Int) - (lost k ns : Int) + (come k stick ns : Int)
/-- Whether the character i goes. -/
def gone (ns : List Nsp) (i : Nat) : Bool := ns.any fun s => decide (s.1 ≤ i) && decide (i < s.2.1)

theorem lost_cons (k : Nat) (s : Nsp) (r : List Nsp) : lost k (s :: r) = (min s.2.1 k - s.1) + lost k r := rfl
theorem come_cons (k : Nat) (st : Bool) (s : Nsp) (r : List Nsp) : come k st (s :: r) = (if comes k st s then s.2.2.length else 0) + come k st r := rfl
theorem gone_cons (s : Nsp) (r : List Nsp) (i : Nat) : gone (s :: r) i = ((decide (s.1 ≤ i) && decide (i < s.2.1)) || gone r i) := rfl
theorem lost_append (k : Nat) : ∀ (a b : List Nsp), lost k (a ++ b) = lost k a + lost k b
  | [], b => by rw [List.nil_append]; show _ = 0 + _; omega
  | s :: r, b => by rw [List.cons_append, lost_cons, lost_cons, lost_append k r b]; omega
theorem come_append (k : Nat) (st : Bool) : ∀ (a b : List Nsp), come k st (a ++ b) = come k st a + come k st b
  | [], b => by rw [List.nil_append]; show _ = 0 + _; omega
  | s :: r, b => by rw [List.cons_append, come_cons, come_cons, come_append k st r b]; omega
theorem comes_false (k : Nat) (s : Nsp) : comes k false s = decide (s.1 ≤ k) := by
  unfold comes
  by_cases h : s.1 ≤ k
  · simp [h]
  · have : ¬ s.1 < k := by omega
    simp [h, this]
theorem Okay.least {n : Nat} : ∀ {ns : List Nsp} {lo : Nat}, Okay n lo ns → ∀ s ∈ ns, lo ≤ s.1 ∧ s.1 ≤ s.2.1 ∧ s.2.1 ≤ n
  | [], _, _, s, h => by cases h
  | q :: r, lo, ⟨h1, h2, h3, h4, h5⟩, s, h => by
    rcases List.mem_cons.1 h with rfl | h
    · exact ⟨h1, h2, h3⟩
    · have := h5.least s h
      omega
/-- What begins behind k moves nothing at k. -/
theorem lost_far (k : Nat) : ∀ (ns : List Nsp), (∀ s ∈ ns, k < s.1) → lost k ns = 0
  | [], _ => rfl
  | s :: r, h => by
    have h1 := h s (List.mem_cons_self ..)
    rw [lost_cons, lost_far k r fun q hq => h q (List.mem_cons_of_mem _ hq)]
    omega
theorem come_far (k : Nat) (st : Bool) : ∀ (ns : List Nsp), (∀ s ∈ ns, k < s.1) → come k st ns = 0
  | [], _ => rfl
  | s :: r, h => by
    have h1 := h s (List.mem_cons_self ..)
    rw [come_cons, come_far k st r fun q hq => h q (List.mem_cons_of_mem _ hq)]
    have : comes k st s = false := by
      unfold comes
      have a : ¬ s.1 < k := by omega
      have b : ¬ s.1 ≤ k := by omega
      simp [a, b]
    rw [this]
    rfl
theorem gone_far (k : Nat) : ∀ (ns : List Nsp), (∀ s ∈ ns, k < s.1) → gone ns k = false
  | [], _ => rfl
  | s :: r, h => by
    have h1 := h s (List.mem_cons_self ..)
    rw [gone_cons, gone_far k r fun q hq => h q (List.mem_cons_of_mem _ hq)]
    have b : ¬ s.1 ≤ k := by omega
    simp [b]
theorem Okay.far {n lo k : Nat} {ns : List Nsp} (h : Okay n lo ns) (hk : k < lo) : ∀ s ∈ ns, k < s.1 := fun s hs => by
  have := h.least s hs
  omega
/-- One character more. -/
theorem lost_step {n : Nat} : ∀ {ns : List Nsp} {lo : Nat}, Okay n lo ns → ∀ k, lost (k + 1) ns = lost k ns + (if gone ns k then 1 else 0)
  | [], _, _, k => rfl
  | s :: r, lo, ⟨h1, h2, h3, h4, h5⟩, k => by
    rw [lost_cons, lost_cons, gone_cons, lost_step h5 k]
    by_cases hg : s.1 ≤ k ∧ k < s.2.1
    · have e : gone r k = false := gone_far k r (h5.far (by omega))
      rw [e, decide_eq_true hg.1, decide_eq_true hg.2]
      simp only [Bool.and_self, Bool.or_false, if_true]
      have : (if (false : Bool) = true then 1 else 0) = 0 := rfl
      omega
    · have e : (decide (s.1 ≤ k) && decide (k < s.2.1)) = false := by
        by_cases a : s.1 ≤ k
        · rw [decide_eq_true a, decide_eq_false (by omega)]; rfl
        · rw [decide_eq_false a]; rfl
      rw [e, Bool.false_or]
      have : min s.2.1 (k + 1) - s.1 = min s.2.1 k - s.1 := by omega
      omega
theorem lost_zero : ∀ (ns : List Nsp), lost 0 ns = 0
  | [] => rfl
  | s :: r => by rw [lost_cons, lost_zero r]; omega
theorem lost_le {n lo : Nat} {ns : List Nsp} (h : Okay n lo ns) : ∀ k, lost k ns ≤ k - lo
  | 0 => by rw [lost_zero]; omega
  | k + 1 => by
    have ih := lost_le h k
    by_cases hk : k < lo
    · rw [lost_step h k, gone_far k ns (h.far hk), lost_far k ns (h.far hk)]
      simp
    · rw [lost_step h k]
      split <;> omega
theorem lost_mono {n lo : Nat} {ns : List Nsp} (h : Okay n lo ns) (k : Nat) : ∀ d, lost k ns ≤ lost (k + d) ns ∧ lost (k + d) ns ≤ lost k ns + d
  | 0 => ⟨Nat.le_refl _, Nat.le_refl _⟩
  | d + 1 => by
    have ih := lost_mono h k d
    rw [show k + (d + 1) = k + d + 1 by omega, lost_step h (k + d)]
    split <;> omega
theorem come_mono (k m : Nat) (hkm : k ≤ m) : ∀ (ns : List Nsp), come k false ns ≤ come m false ns
  | [] => Nat.le_refl _
  | s :: r => by
    have ih := come_mono k m hkm r
    rw [come_cons, come_cons, comes_false, comes_false]
    by_cases h : s.1 ≤ k
    · rw [decide_eq_true h, decide_eq_true (by omega : s.1 ≤ m)]
      simp only [if_true]
      omega
    · rw [decide_eq_false h]
      simp only [Bool.false_eq_true, if_false]
      omega
theorem come_stick (k : Nat) : ∀ (ns : List Nsp), come k true ns ≤ come k false ns
  | [] => Nat.le_refl _
  | s :: r => by
    have ih := come_stick k r
    rw [come_cons, come_cons, comes_false]
    by_cases h : s.1 ≤ k
    · rw [decide_eq_true h]
      simp only [if_true]
      split <;> omega
    · have : comes k true s = false := by
        unfold comes
        have a : ¬ s.1 < k := by omega
        simp [a]
      rw [this, decide_eq_false h]
      exact Nat.add_le_add_left ih _
theorem come_le (k : Nat) (st : Bool) : ∀ (ns : List Nsp), come k st ns ≤ puts ns
  | [] => Nat.le_refl _
  | s :: r => by
    have ih := come_le k st r
    have : puts (s :: r) = s.2.2.length + puts r := rfl
    rw [come_cons, this]
    split <;> omega
theorem lost_all {n : Nat} : ∀ {ns : List Nsp} {lo : Nat}, Okay n lo ns → lost n ns = goes ns
  | [], _, _ => rfl
  | s :: r, lo, ⟨h1, h2, h3, h4, h5⟩ => by
    have : goes (s :: r) = (s.2.1 - s.1) + goes r := rfl
    rw [lost_cons, this, lost_all h5]
    omega
theorem come_all {n : Nat} : ∀ {ns : List Nsp} {lo : Nat}, Okay n lo ns → come n false ns = puts ns
  | [], _, _ => rfl
  | s :: r, lo, ⟨h1, h2, h3, h4, h5⟩ => by
    have : puts (s :: r) = s.2.2.length + puts r := rfl
    rw [come_cons, this, come_all h5, comes_false, decide_eq_true (by omega : s.1 ≤ n)]
    rfl

/-- Where a place is, it is within the line that is made. -/
theorem mvd_in {l : List Int} {ns : List Nsp} (h : Okay l.length 0 ns) (i : Nat) (hi : i ≤ l.length) :
    0 ≤ mvd ns i true ∧ mvd ns i true ≤ mvd ns i false ∧ mvd ns i false ≤ ((app l 0 ns).length : Int) := by
  have h1 := lost_le h i
  have h2 := come_stick i ns
  have h3 := lost_mono h i (l.length - i)
  rw [show i + (l.length - i) = l.length by omega, lost_all h] at h3
  have h4 := come_mono i l.length hi ns
  rw [come_all h] at h4
  have h5 := app_len l 0 ns 0 h (Nat.le_refl _) (Nat.zero_le _)
  have h6 := h.goes_le
  unfold mvd
  omega
theorem mvd_mono {n lo : Nat} {ns : List Nsp} (h : Okay n lo ns) (i j : Nat) (hij : i ≤ j) : mvd ns i false ≤ mvd ns j false := by
  have h3 := lost_mono h i (j - i)
  rw [show i + (j - i) = j by omega] at h3
  have h4 := come_mono i j hij ns
  unfold mvd
  omega
theorem mvd_range {n : Nat} {ns : List Nsp} (h : Fits n ns) (k : Nat) (st : Bool) : 0 ≤ mvd ns k st ∧ mvd ns k st ≤ (k : Int) + 4096 := by
  have h1 := lost_le h.2.1 k
  have h2 := come_le k st ns
  have h3 := h.puts_le
  unfold mvd
  omega

/-- A character that stays stands where its place has gone. -/
theorem app_stays (l : List Int) : ∀ (ns : List Nsp) (a lo i : Nat), Okay l.length lo ns → a ≤ lo → a ≤ i → i < l.length → gone ns i = false →
    (app l a ns)[i - a - lost i ns + come i false ns]? = l[i]?
  | [], a, lo, i, _, _, hai, hi, _ => by
    show (l.drop a)[i - a - 0 + 0]? = _
    rw [List.getElem?_drop]
    congr 1
    omega
  | s :: r, a, lo, i, ⟨h1, h2, h3, h4, h5⟩, ha, hai, hi, hg => by
    rw [gone_cons] at hg
    obtain ⟨hg1, hg2⟩ := Bool.or_eq_false_iff.1 hg
    have hs : (seg l a s.1).length = s.1 - a := seg_len l a s.1 (by omega)
    show (seg l a s.1 ++ s.2.2 ++ app l s.2.1 r)[_]? = _
    by_cases hlt : i < s.1
    · have e1 : lost i (s :: r) = 0 := lost_far i _ fun q hq => by
        rcases List.mem_cons.1 hq with rfl | hq
        · exact hlt
        · have := h5.least q hq
          omega
      have e2 : come i false (s :: r) = 0 := come_far i false _ fun q hq => by
        rcases List.mem_cons.1 hq with rfl | hq
        · exact hlt
        · have := h5.least q hq
          omega
      rw [e1, e2, List.append_assoc, List.getElem?_append_left (by omega)]
      unfold seg
      rw [List.getElem?_take, if_pos (by omega), List.getElem?_drop]
      congr 1
      omega
    · have hge : s.2.1 ≤ i := by
        by_cases hh : i < s.2.1
        · rw [decide_eq_true (by omega : s.1 ≤ i), decide_eq_true hh] at hg1
          cases hg1
        · omega
      have ih := app_stays l r s.2.1 (s.2.1 + 1) i h5 (by omega) hge hi hg2
      have hl := lost_le h5 i
      rw [lost_cons, come_cons, comes_false, decide_eq_true (by omega : s.1 ≤ i)]
      simp only [if_true]
      have hmin : min s.2.1 i = s.2.1 := Nat.min_eq_left hge
      rw [hmin]
      have hlen : (seg l a s.1 ++ s.2.2).length = (s.1 - a) + s.2.2.length := by rw [List.length_append, hs]
      rw [List.getElem?_append_right (by omega), hlen, ← ih]
      congr 1
      omega
theorem mvd_stays {l : List Int} {ns : List Nsp} (h : Okay l.length 0 ns) (i : Nat) (hi : i < l.length) (hg : gone ns i = false) :
    ∃ p : Nat, mvd ns i false = (p : Int) ∧ p < (app l 0 ns).length ∧ (app l 0 ns)[p]? = l[i]? := by
  have h1 := app_stays l ns 0 0 i h (Nat.le_refl _) (Nat.zero_le _) hi hg
  have h2 := lost_le h i
  refine ⟨i - 0 - lost i ns + come i false ns, ?_, ?_, h1⟩
  · unfold mvd
    omega
  · rw [List.getElem?_eq_getElem hi] at h1
    exact (List.getElem?_eq_some_iff.1 h1).1
/-- A mark at a character that stays comes back. -/
theorem mvd_und (l : List Int) : ∀ (ns : List Nsp) (a m lo i p : Nat), Okay l.length lo ns → a ≤ lo → a ≤ i → i ≤ l.length → gone ns i = false → p = m + (i - a - lost i ns) + come i false ns →
    (p : Int) - (m : Int) - (lost p (und l a m ns) : Int) + (come p false (und l a m ns) : Int) = (i : Int) - (a : Int)
  | [], a, m, lo, i, p, _, _, hai, _, _, hp => by
    have e1 : lost i [] = 0 := rfl
    have e2 : come i false [] = 0 := rfl
    rw [e1, e2] at hp
    show (p : Int) - (m : Int) - ((0 : Nat) : Int) + ((0 : Nat) : Int) = _
    omega
  | s :: r, a, m, lo, i, p, h, ha, hai, hi, hg, hp => by
    have hall := und_okay l (m + (app l a (s :: r)).length) (s :: r) a m (lo - a) (by rw [show a + (lo - a) = lo by omega]; exact h) rfl (by omega)
    obtain ⟨h1, h2, h3, h4, h5⟩ := h
    rw [gone_cons] at hg
    obtain ⟨hg1, hg2⟩ := Bool.or_eq_false_iff.1 hg
    have ee : und l a m (s :: r) = (m + (s.1 - a), m + (s.1 - a) + s.2.2.length, seg l s.1 s.2.1) :: und l s.2.1 (m + (s.1 - a) + s.2.2.length) r := rfl
    by_cases hlt : i < s.1
    · have e1 : lost i (s :: r) = 0 := lost_far i _ fun q hq => by
        rcases List.mem_cons.1 hq with rfl | hq
        · exact hlt
        · have := h5.least q hq
          omega
      have e2 : come i false (s :: r) = 0 := come_far i false _ fun q hq => by
        rcases List.mem_cons.1 hq with rfl | hq
        · exact hlt
        · have := h5.least q hq
          omega
      rw [e1, e2] at hp
      have far : ∀ q ∈ und l a m (s :: r), p < q.1 := by
        rw [ee] at hall ⊢
        obtain ⟨k1, k2, k3, k4, k5⟩ := hall
        intro q hq
        rcases List.mem_cons.1 hq with rfl | hq
        · show p < m + (s.1 - a)
          omega
        · have := k5.least q hq
          simp only at this
          omega
      rw [lost_far p _ far, come_far p false _ far]
      omega
    · have hge : s.2.1 ≤ i := by
        by_cases hh : i < s.2.1
        · rw [decide_eq_true (by omega : s.1 ≤ i), decide_eq_true hh] at hg1
          cases hg1
        · omega
      have hl := lost_le h5 i
      rw [lost_cons, come_cons, comes_false, decide_eq_true (by omega : s.1 ≤ i)] at hp
      simp only [if_true] at hp
      have hmin : min s.2.1 i = s.2.1 := Nat.min_eq_left hge
      rw [hmin] at hp
      have ih := mvd_und l r s.2.1 (m + (s.1 - a) + s.2.2.length) (s.2.1 + 1) i p h5 (by omega) hge hi hg2 (by omega)
      have hseg : (seg l s.1 s.2.1).length = s.2.1 - s.1 := seg_len l s.1 s.2.1 h3
      rw [ee, lost_cons, come_cons, comes_false]
      rw [decide_eq_true (show m + (s.1 - a) ≤ p by omega)]
      simp only [if_true, hseg]
      have hmin2 : min (m + (s.1 - a) + s.2.2.length) p = m + (s.1 - a) + s.2.2.length := Nat.min_eq_left (by omega)
      rw [hmin2]
      omega
theorem mvd_back {l : List Int} {ns : List Nsp} (h : Okay l.length 0 ns) (i : Nat) (hi : i < l.length) (hg : gone ns i = false) :
    ∃ p : Nat, mvd ns i false = (p : Int) ∧ p ≤ (app l 0 ns).length ∧ mvd (und l 0 0 ns) p false = (i : Int) := by
  obtain ⟨p, hp, hlt, _⟩ := mvd_stays h i hi hg
  refine ⟨p, hp, by omega, ?_⟩
  have h2 := lost_le h i
  unfold mvd at hp
  have := mvd_und l ns 0 0 0 i p h (Nat.le_refl _) (Nat.zero_le _) (by omega) hg (by omega)
  unfold mvd
  omega

/-- How many of the first k characters stay. -/
def stays (ns : List Nsp) : Nat → Nat
  | 0 => 0
  | k + 1 => stays ns k + (if gone ns k then 0 else 1)
theorem stays_lost {n lo : Nat} {ns : List Nsp} (h : Okay n lo ns) : ∀ k, stays ns k + lost k ns = k
  | 0 => by rw [lost_zero]; rfl
  | k + 1 => by
    have ih := stays_lost h k
    have e : stays ns (k + 1) = stays ns k + (if gone ns k then 0 else 1) := rfl
    rw [e, lost_step h k]
    cases gone ns k
    · simp only [Bool.false_eq_true, if_false]; omega
    · simp only [if_true]; omega
theorem gone_gon (ns : List Nsp) : ∀ (a : List Nsp) (s : Nsp) (i : Nat), gone (a ++ [s]) i = (gone a i || (decide (s.1 ≤ i) && decide (i < s.2.1)))
  | [], s, i => by rw [List.nil_append, gone_cons]; show (_ || false) = (false || _); rw [Bool.or_false, Bool.false_or]
  | q :: r, s, i => by rw [List.cons_append, gone_cons, gone_cons, gone_gon ns r s i, Bool.or_assoc]
end Go.Proofs.Yteggadicomighaa.Plain
