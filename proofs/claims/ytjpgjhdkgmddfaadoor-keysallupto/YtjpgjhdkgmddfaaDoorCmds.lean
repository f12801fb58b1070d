/- Commands out of keys, plainly: what a key does to a part. -/
import Derived.Test.YtjpgjhdkgmddfaaDoorBase
set_option linter.unusedVariables false
set_option linter.unusedSimpArgs false
namespace Go.Proofs.YtjpgjhdkgmddfaaDoor.Plain

/-- A part (First, Reg, Op, Second, Wait), a command (Count, Reg, Op, Verb, Arg). -/
abbrev Five := Int × Int × Int × Int × Int
/-- What a key makes of a part: the part, the command, how. -/
abbrev Took := Five × Five × Int
def zer : Five := (0, 0, 0, 0, 0)
def has (s : List Int) (k : Int) : Bool := s.any fun c => c == k
def ops : List Int := [100, 99, 121]
def mots : List Int := [104, 108, 48, 94, 36, 124, 119, 87, 98, 66, 101, 69, 37, 59, 44]
def fnds : List Int := [102, 70, 116, 84]
def lons : List Int := [105, 97, 73, 65, 115, 83, 67, 68, 120, 88, 112, 80, 89, 126, 117, 85, 46, 106, 107, 71, 47, 63, 110, 78, 82]
def sids : List Int := [105, 97]
def thgs : List Int := [119, 87, 40, 41, 91, 93, 123, 125, 34, 39, 96]
def digs : List Int := [49, 50, 51, 52, 53, 54, 55, 56, 57]
theorem has_ops (k : Int) : has ops k = true ↔ k = 100 ∨ k = 99 ∨ k = 121 := by
  unfold has ops
  simp only [List.any_cons, List.any_nil, Bool.or_eq_true, Bool.or_false, beq_iff_eq]
  omega
theorem has_mots (k : Int) : has mots k = true ↔ k = 104 ∨ k = 108 ∨ k = 48 ∨ k = 94 ∨ k = 36 ∨ k = 124 ∨ k = 119 ∨ k = 87 ∨ k = 98 ∨ k = 66 ∨ k = 101 ∨ k = 69 ∨ k = 37 ∨ k = 59 ∨ k = 44 := by
  unfold has mots
  simp only [List.any_cons, List.any_nil, Bool.or_eq_true, Bool.or_false, beq_iff_eq]
  omega
theorem has_fnds (k : Int) : has fnds k = true ↔ k = 102 ∨ k = 70 ∨ k = 116 ∨ k = 84 := by
  unfold has fnds
  simp only [List.any_cons, List.any_nil, Bool.or_eq_true, Bool.or_false, beq_iff_eq]
  omega
theorem has_sids (k : Int) : has sids k = true ↔ k = 105 ∨ k = 97 := by
  unfold has sids
  simp only [List.any_cons, List.any_nil, Bool.or_eq_true, Bool.or_false, beq_iff_eq]
  omega
theorem has_thgs (k : Int) : has thgs k = true ↔ k = 119 ∨ k = 87 ∨ k = 40 ∨ k = 41 ∨ k = 91 ∨ k = 93 ∨ k = 123 ∨ k = 125 ∨ k = 34 ∨ k = 39 ∨ k = 96 := by
  unfold has thgs
  simp only [List.any_cons, List.any_nil, Bool.or_eq_true, Bool.or_false, beq_iff_eq]
  omega
theorem has_digs (k : Int) : has digs k = true ↔ 49 ≤ k ∧ k ≤ 57 := by
  unfold has digs
  simp only [List.any_cons, List.any_nil, Bool.or_eq_true, Bool.or_false, beq_iff_eq]
  omega
theorem has_lone (k : Int) : has lons k = true ↔ k = 105 ∨ k = 97 ∨ k = 73 ∨ k = 65 ∨ k = 115 ∨ k = 83 ∨ k = 67 ∨ k = 68 ∨ k = 120 ∨ k = 88 ∨ k = 112 ∨ k = 80 ∨ k = 89 ∨ k = 126 ∨ k = 117 ∨ k = 85 ∨ k = 46 ∨ k = 106 ∨ k = 107 ∨ k = 71 ∨ k = 47 ∨ k = 63 ∨ k = 110 ∨ k = 78 ∨ k = 82 := by
  unfold has lons
  simp only [List.any_cons, List.any_nil, Bool.or_eq_true, Bool.or_false, beq_iff_eq]
  omega

def count (n : Int) : Bool := decide (0 ≤ n ∧ n ≤ 999)
def letter (k : Int) : Bool := decide (97 ≤ k ∧ k ≤ 122 ∨ 65 ≤ k ∧ k ≤ 90)
def waits (r o t : Int) : Bool := decide (t = 0 ∨ t = 102 ∨ t = 70 ∨ t = 116 ∨ t = 84 ∨ (t = 114 ∧ o = 0) ∨ (t = 34 ∧ o = 0 ∧ r = 0) ∨ ((t = 105 ∨ t = 97) ∧ o ≠ 0))
/-- P38. -/
def right (f r o s t : Int) : Bool := count f && count s && (!(o == 0) || s == 0) && (r == 0 || letter r) && (o == 0 || has ops o) && waits r o t
def pchk (f r o s t : Int) : Int := if right f r o s t = true then 0 else 1
def low (k : Int) : Bool := decide (k < 32 ∨ k = 127)

def wrg : Took := (zer, zer, 3)
def mor (p : Five) : Took := (p, zer, 1)
/-- Two counts as one. -/
def bth (f s : Int) : Int := if f = 0 ∨ s = 0 then f + s else min (f * s) 999
def don (f r o s v a : Int) : Took := (zer, (bth f s, r, o, v, a), 2)
def mnt (f o s : Int) : Int := if o ≠ 0 then s else f
def cnt (f o s k : Int) : Int := min (10 * mnt f o s + k - 48) 999
def cntd (f r o s t k : Int) : Five := if o ≠ 0 then (f, r, o, cnt f o s k, t) else (cnt f o s k, r, o, s, t)
def nmd (f r o s t k : Int) : Took := if letter k = true then mor (f, k, o, s, 0) else wrg
def opr (f r o s t k : Int) : Took := if o = 0 then mor (f, r, k, s, t) else if o = k then don f r o s k 0 else wrg
def wtg (f r o s t k : Int) : Took := mor (f, r, o, s, k)
def wop (f r o s t k : Int) : Took := if has sids k = true then wtg f r o s t k else wrg
def wno (f r o s t k : Int) : Took := if k = 34 ∧ r = 0 ∨ k = 114 then wtg f r o s t k else if has lons k = true then don f r o s k 0 else wrg
def awt (f r o s t k : Int) : Took := if t = 34 then nmd f r o s t k else if has sids t = true ∧ has thgs k = false then wrg else don f r o s t k
def dig (f o s k : Int) : Bool := decide (49 ≤ k ∧ k ≤ 57 ∨ k = 48 ∧ 0 < mnt f o s)
/-- P39, P40, as the program goes. -/
def stp (f r o s t k : Int) : Took :=
  if low k = true then wrg else if t ≠ 0 then awt f r o s t k else if dig f o s k = true then mor (cntd f r o s t k)
  else if has ops k = true then opr f r o s t k else if has mots k = true then don f r o s k 0 else if has fnds k = true then wtg f r o s t k
  else if o ≠ 0 then wop f r o s t k else wno f r o s t k
/-- P39, P40, as the document's own goes. -/
def whl (f r o s v a : Int) : Took := (zer, (min (if f = 0 ∨ s = 0 then f + s else f * s) 999, r, o, v, a), 2)
def tk (f r o s t k : Int) : Took :=
  if low k = true then wrg else if t = 34 then (if letter k = true then mor (f, k, o, s, 0) else wrg)
  else if has sids t = true then (if has thgs k = true then whl f r o s t k else wrg) else if t ≠ 0 then whl f r o s t k
  else if dig f o s k = true then mor (cntd f r o s t k) else if has ops k = true ∧ o = 0 then mor (f, r, k, s, t)
  else if (has ops k = true ∧ o = k) ∨ has mots k = true then whl f r o s k 0
  else if has fnds k = true ∨ (has sids k = true ∧ o ≠ 0) ∨ (o = 0 ∧ k = 114) ∨ (o = 0 ∧ r = 0 ∧ k = 34) then mor (f, r, o, s, k)
  else if o = 0 ∧ has lons k = true then whl f r o s k 0 else wrg

theorem right_cases {f r o s t : Int} (h : right f r o s t = true) : (0 ≤ f ∧ f ≤ 999) ∧ (0 ≤ s ∧ s ≤ 999) ∧ (o ≠ 0 ∨ s = 0) ∧ (r = 0 ∨ letter r = true) ∧ (o = 0 ∨ has ops o = true) ∧ waits r o t = true := by
  unfold right count at h
  simp only [Bool.and_eq_true, decide_eq_true_eq, Bool.or_eq_true, Bool.not_eq_true', beq_eq_false_iff_ne, beq_iff_eq] at h
  obtain ⟨⟨⟨⟨⟨h1, h2⟩, h3⟩, h4⟩, h5⟩, h6⟩ := h
  exact ⟨h1, h2, h3, h4, h5, h6⟩
theorem right_of {f r o s t : Int} (h1 : 0 ≤ f ∧ f ≤ 999) (h2 : 0 ≤ s ∧ s ≤ 999) (h3 : o ≠ 0 ∨ s = 0) (h4 : r = 0 ∨ letter r = true) (h5 : o = 0 ∨ has ops o = true) (h6 : waits r o t = true) : right f r o s t = true := by
  unfold right count
  simp only [Bool.and_eq_true, decide_eq_true_eq, Bool.or_eq_true, Bool.not_eq_true', beq_eq_false_iff_ne, beq_iff_eq]
  exact ⟨⟨⟨⟨⟨h1, h2⟩, h3⟩, h4⟩, h5⟩, h6⟩
theorem whl_don {f r o s v a : Int} (hf : 0 ≤ f ∧ f ≤ 999) (hs : 0 ≤ s ∧ s ≤ 999) : whl f r o s v a = don f r o s v a := by
  unfold whl don bth
  by_cases h : f = 0 ∨ s = 0
  · rw [if_pos h, if_pos h]
    have : min (f + s) 999 = f + s := by omega
    rw [this]
  · rw [if_neg h, if_neg h]
theorem bool_no {b : Bool} (h : ¬ b = true) : b = false := by simpa using h
/-- The two ways are one. -/
theorem tk_stp {f r o s t k : Int} (h : right f r o s t = true) : tk f r o s t k = stp f r o s t k := by
  obtain ⟨hf, hs, ho, hr, hop, hw⟩ := right_cases h
  unfold tk stp
  simp only [whl_don hf hs]
  by_cases h1 : low k = true
  · rw [if_pos h1, if_pos h1]
  rw [if_neg h1, if_neg h1]
  by_cases h0 : t = 0
  · subst h0
    rw [if_neg (show ¬ (0 : Int) = 34 by decide), if_neg (show ¬ has sids 0 = true by decide), if_neg (show ¬ (0 : Int) ≠ 0 by decide), if_neg (show ¬ (0 : Int) ≠ 0 by decide)]
    by_cases h2 : dig f o s k = true
    · rw [if_pos h2, if_pos h2]
    rw [if_neg h2, if_neg h2]
    by_cases h3 : has ops k = true
    · rw [if_pos h3]
      unfold opr
      by_cases h4 : o = 0
      · rw [if_pos ⟨h3, h4⟩, if_pos h4]
      · rw [if_neg (fun h => h4 h.2), if_neg h4]
        by_cases h5 : o = k
        · rw [if_pos (.inl ⟨h3, h5⟩), if_pos h5]
        · have hk := (has_ops k).1 h3
          rw [if_neg h5, if_neg (by rw [has_mots]; omega), if_neg (by rw [has_fnds, has_sids]; omega), if_neg (fun h => h4 h.1)]
    rw [if_neg h3, if_neg (fun h => h3 h.1)]
    by_cases h4 : has mots k = true
    · rw [if_pos h4, if_pos (.inr h4)]
    rw [if_neg h4, if_neg (fun h => h.elim (fun g => h3 g.1) h4)]
    by_cases h5 : has fnds k = true
    · rw [if_pos h5, if_pos (.inl h5)]
      rfl
    rw [if_neg h5]
    by_cases h6 : o = 0
    · rw [if_neg (by omega : ¬ o ≠ 0)]
      unfold wno
      by_cases h7 : k = 34 ∧ r = 0 ∨ k = 114
      · rw [if_pos h7, if_pos (.inr (.inr (by omega)))]
        rfl
      · rw [if_neg h7, if_neg (fun h => by rcases h with h | h | h | h <;> first | exact h5 h | exact h.2 h6 | omega)]
        by_cases h8 : has lons k = true
        · rw [if_pos h8, if_pos ⟨h6, h8⟩]
        · rw [if_neg h8, if_neg (fun h => h8 h.2)]
    · rw [if_pos h6]
      unfold wop
      by_cases h7 : has sids k = true
      · rw [if_pos h7, if_pos (.inr (.inl ⟨h7, h6⟩))]
        rfl
      · rw [if_neg h7, if_neg (fun h => by rcases h with h | h | h | h <;> first | exact h5 h | exact h7 h.1 | omega), if_neg (fun h => h6 h.1)]
  · rw [if_pos (show t ≠ 0 from h0), if_pos (show t ≠ 0 from h0)]
    unfold awt nmd
    by_cases h2 : t = 34
    · rw [if_pos h2, if_pos h2]
    rw [if_neg h2, if_neg h2]
    by_cases h3 : has sids t = true
    · rw [if_pos h3]
      by_cases h4 : has thgs k = true
      · rw [if_pos h4, if_neg (fun h => by rw [h4] at h; exact absurd h.2 (by decide))]
      · rw [if_neg h4, if_pos ⟨h3, bool_no h4⟩]
    · rw [if_neg h3, if_neg (fun h => h3 h.1)]

theorem waits_zero (r o : Int) : waits r o 0 = true := decide_eq_true (.inl rfl)
theorem right_zer : right 0 0 0 0 0 = true := by decide
theorem cnt_in {f o s k : Int} (hf : 0 ≤ f ∧ f ≤ 999) (hs : 0 ≤ s ∧ s ≤ 999) (h : dig f o s k = true) : 0 ≤ cnt f o s k ∧ cnt f o s k ≤ 999 := by
  have h1 := of_decide_eq_true h
  have : 0 ≤ mnt f o s := by unfold mnt; split <;> omega
  unfold cnt
  omega
/-- What is told is a part that may be. -/
def okT (q : Took) : Prop := right q.1.1 q.1.2.1 q.1.2.2.1 q.1.2.2.2.1 q.1.2.2.2.2 = true
theorem okT_wrg : okT wrg := by unfold okT; decide
theorem okT_don (f r o s v a : Int) : okT (don f r o s v a) := right_zer
theorem okT_stp {f r o s t k : Int} (h : right f r o s t = true) : okT (stp f r o s t k) := by
  obtain ⟨hf, hs, ho, hr, hop, hw⟩ := right_cases h
  unfold stp
  by_cases h1 : low k = true
  · rw [if_pos h1]
    exact okT_wrg
  rw [if_neg h1]
  by_cases h0 : t = 0
  · subst h0
    rw [if_neg (show ¬ (0 : Int) ≠ 0 by decide)]
    by_cases h2 : dig f o s k = true
    · rw [if_pos h2]
      have hc := cnt_in hf hs h2
      unfold cntd
      by_cases h3 : o ≠ 0
      · rw [if_pos h3]
        exact right_of hf hc (.inl h3) hr hop (waits_zero _ _)
      · rw [if_neg h3]
        exact right_of hc hs ho hr hop (waits_zero _ _)
    rw [if_neg h2]
    by_cases h3 : has ops k = true
    · rw [if_pos h3]
      have hk := (has_ops k).1 h3
      unfold opr
      by_cases h4 : o = 0
      · rw [if_pos h4]
        show right f r k s 0 = true
        exact right_of hf hs (.inl (by omega)) hr (.inr h3) (waits_zero _ _)
      · rw [if_neg h4]
        split
        · exact okT_don ..
        · exact okT_wrg
    rw [if_neg h3]
    by_cases h4 : has mots k = true
    · rw [if_pos h4]
      exact okT_don ..
    rw [if_neg h4]
    by_cases h5 : has fnds k = true
    · rw [if_pos h5]
      have hk := (has_fnds k).1 h5
      show right f r o s k = true
      exact right_of hf hs ho hr hop (decide_eq_true (by omega))
    rw [if_neg h5]
    by_cases h6 : o = 0
    · rw [if_neg (by omega : ¬ o ≠ 0)]
      unfold wno
      by_cases h7 : k = 34 ∧ r = 0 ∨ k = 114
      · rw [if_pos h7]
        show right f r o s k = true
        exact right_of hf hs ho hr hop (decide_eq_true (by omega))
      · rw [if_neg h7]
        split
        · exact okT_don ..
        · exact okT_wrg
    · rw [if_pos h6]
      unfold wop
      by_cases h7 : has sids k = true
      · rw [if_pos h7]
        have hk := (has_sids k).1 h7
        show right f r o s k = true
        exact right_of hf hs ho hr hop (decide_eq_true (by omega))
      · rw [if_neg h7]
        exact okT_wrg
  · rw [if_pos h0]
    unfold awt nmd
    by_cases h2 : t = 34
    · rw [if_pos h2]
      split
      · rename_i h3
        refine right_of hf hs ho (.inr h3) hop (waits_zero _ _)
      · exact okT_wrg
    rw [if_neg h2]
    split
    · exact okT_wrg
    · exact okT_don ..
end Go.Proofs.YtjpgjhdkgmddfaaDoor.Plain
