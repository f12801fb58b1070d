/- Plain mathematics of one edit over another: signs, what is told of them, what comes of it. -/
import Derived.Test.YtpgecholpbpakabEdits
set_option linter.unusedVariables false
set_option linter.unusedSimpArgs false
namespace Go.Proofs.Ytpgecholpbpakab.Plain

/-- What an edit puts in at a place, and whether the character there goes. -/
def txt (ns : List Nsp) (i : Nat) : List Int := ns.foldl (fun acc s => if s.1 = i then s.2.2 else acc) []
def gon (ns : List Nsp) (i : Nat) : Bool := ns.foldl (fun acc s => acc || (decide (s.1 ≤ i) && decide (i < s.2.1))) false
theorem txt_more (ns : List Nsp) (s : Nsp) (i : Nat) : txt (ns ++ [s]) i = if s.1 = i then s.2.2 else txt ns i := by unfold txt; rw [List.foldl_append]; rfl
theorem gon_more (ns : List Nsp) (s : Nsp) (i : Nat) : gon (ns ++ [s]) i = (gon ns i || (decide (s.1 ≤ i) && decide (i < s.2.1))) := by unfold gon; rw [List.foldl_append]; rfl
theorem txt_acc {n : Nat} : ∀ (ns : List Nsp) (lo i : Nat) (acc : List Int), Okay n lo ns → i < lo → ns.foldl (fun acc s => if s.1 = i then s.2.2 else acc) acc = acc
  | [], _, _, _, _, _ => rfl
  | s :: r, lo, i, acc, ⟨h1, h2, h3, h4, h5⟩, hi => by
    rw [List.foldl_cons, if_neg (by omega)]
    exact txt_acc r _ i acc h5 (by omega)
theorem gon_acc {n : Nat} : ∀ (ns : List Nsp) (lo i : Nat) (acc : Bool), Okay n lo ns → i < lo → ns.foldl (fun acc s => acc || (decide (s.1 ≤ i) && decide (i < s.2.1))) acc = acc
  | [], _, _, _, _, _ => rfl
  | s :: r, lo, i, acc, ⟨h1, h2, h3, h4, h5⟩, hi => by
    rw [List.foldl_cons, decide_eq_false (by omega : ¬ s.1 ≤ i)]
    simp only [Bool.false_and, Bool.or_false]
    exact gon_acc r _ i acc h5 (by omega)
theorem txt_none {n : Nat} {ns : List Nsp} {lo i : Nat} (h : Okay n lo ns) (hi : i < lo) : txt ns i = [] := txt_acc ns lo i [] h hi
theorem gon_none {n : Nat} {ns : List Nsp} {lo i : Nat} (h : Okay n lo ns) (hi : i < lo) : gon ns i = false := gon_acc ns lo i false h hi
/-- At places up to a first splice's end it alone counts; behind it the others do. -/
theorem txt_here {n : Nat} {s : Nsp} {r : List Nsp} {i : Nat} (h : Okay n (s.2.1 + 1) r) (hi : i ≤ s.2.1) : txt (s :: r) i = if s.1 = i then s.2.2 else [] := by
  unfold txt
  rw [List.foldl_cons]
  exact txt_acc r _ i _ h (by omega)
theorem txt_behind {s : Nsp} {r : List Nsp} {i : Nat} (h1 : s.1 ≤ s.2.1) (hi : s.2.1 < i) : txt (s :: r) i = txt r i := by
  unfold txt
  rw [List.foldl_cons, if_neg (by omega)]
theorem gon_here {n : Nat} {s : Nsp} {r : List Nsp} {i : Nat} (h : Okay n (s.2.1 + 1) r) (hi : i ≤ s.2.1) : gon (s :: r) i = (decide (s.1 ≤ i) && decide (i < s.2.1)) := by
  unfold gon
  rw [List.foldl_cons, Bool.false_or]
  exact gon_acc r _ i _ h (by omega)
theorem gon_behind {s : Nsp} {r : List Nsp} {i : Nat} (hi : s.2.1 < i) : gon (s :: r) i = gon r i := by
  unfold gon
  rw [List.foldl_cons, decide_eq_false (by omega : ¬ i < s.2.1), Bool.and_false, Bool.or_false]
theorem gon_end {n : Nat} : ∀ (ns : List Nsp) (lo i : Nat), Okay n lo ns → n ≤ i → gon ns i = false
  | [], _, _, _, _ => rfl
  | s :: r, lo, i, ⟨h1, h2, h3, h4, h5⟩, hi => by
    by_cases hs : i ≤ s.2.1
    · rw [gon_here h5 hs, decide_eq_false (by omega : ¬ i < s.2.1), Bool.and_false]
    · rw [gon_behind (by omega)]
      exact gon_end r _ i h5 hi
/-- All that is put in, place by place, is no more than what is put in. -/
def sumTxt (ns : List Nsp) : Nat → Nat
  | 0 => 0
  | k + 1 => sumTxt ns k + (txt ns k).length
theorem sumTxt_none {n : Nat} {ns : List Nsp} {lo : Nat} (h : Okay n lo ns) : ∀ k, k ≤ lo → sumTxt ns k = 0
  | 0, _ => rfl
  | k + 1, hk => by
    unfold sumTxt
    rw [sumTxt_none h k (by omega), txt_none h (by omega)]
    rfl
theorem sumTxt_cons {n : Nat} {s : Nsp} {r : List Nsp} {lo : Nat} (h : Okay n lo (s :: r)) : ∀ k, sumTxt (s :: r) k ≤ s.2.2.length + sumTxt r k ∧ (k ≤ s.1 → sumTxt (s :: r) k = 0)
  | 0 => ⟨Nat.zero_le _, fun _ => rfl⟩
  | k + 1 => by
    obtain ⟨h1, h2, h3, h4, h5⟩ := h
    have ih := sumTxt_cons ⟨h1, h2, h3, h4, h5⟩ k
    unfold sumTxt
    by_cases hk : k ≤ s.2.1
    · rw [txt_here h5 hk, txt_none h5 (by omega)]
      by_cases he : s.1 = k
      · rw [if_pos he]
        have := ih.2 (by omega)
        refine ⟨by simp only [List.length_nil]; omega, fun h => by omega⟩
      · rw [if_neg he]
        refine ⟨by simp only [List.length_nil]; omega, fun h => ?_⟩
        rw [ih.2 (by omega)]
        rfl
    · rw [txt_behind h2 (by omega)]
      refine ⟨by omega, fun h => by omega⟩
theorem sumTxt_le {n : Nat} : ∀ (ns : List Nsp) (lo : Nat), Okay n lo ns → ∀ k, sumTxt ns k ≤ puts ns
  | [], _, _, k => by
    rw [sumTxt_none (n := n) (lo := k) (ns := []) trivial k (Nat.le_refl _)]
    exact Nat.zero_le _
  | s :: r, lo, h, k => by
    have h1 := (sumTxt_cons h k).1
    have h2 := sumTxt_le r _ h.2.2.2.2 k
    show _ ≤ s.2.2.length + puts r
    omega

/-- The line place by place: what is put in, then the character if it stays. -/
def spr (ns : List Nsp) : Nat → List Int → List Int
  | i, [] => txt ns i
  | i, c :: r => txt ns i ++ ((if gon ns i = true then [] else [c]) ++ spr ns (i + 1) r)
theorem spr_cons (ns : List Nsp) (i : Nat) (c : Int) (r : List Int) : spr ns i (c :: r) = txt ns i ++ ((if gon ns i = true then [] else [c]) ++ spr ns (i + 1) r) := rfl
theorem spr_behind {s : Nsp} {r : List Nsp} (h1 : s.1 ≤ s.2.1) : ∀ (l : List Int) (i : Nat), s.2.1 < i → spr (s :: r) i l = spr r i l
  | [], i, hi => by unfold spr; exact txt_behind h1 hi
  | c :: l, i, hi => by
    unfold spr
    rw [txt_behind h1 hi, gon_behind hi, spr_behind h1 l (i + 1) (by omega)]
/-- At the end of the first splice, but for its text. -/
theorem spr_to {n : Nat} {s : Nsp} {r : List Nsp} (h : Okay n (s.2.1 + 1) r) (h1 : s.1 ≤ s.2.1) (l : List Int) : spr (s :: r) s.2.1 l = (if s.1 = s.2.1 then s.2.2 else []) ++ spr r s.2.1 l := by
  cases l with
  | nil =>
    unfold spr
    rw [txt_here h (Nat.le_refl _), txt_none h (by omega), List.append_nil]
  | cons c l =>
    unfold spr
    rw [txt_here h (Nat.le_refl _), txt_none h (by omega), gon_here h (Nat.le_refl _), gon_none h (by omega), decide_eq_false (by omega : ¬ s.2.1 < s.2.1), Bool.and_false, spr_behind h1 l _ (by omega), List.nil_append]
/-- Within what goes. -/
theorem spr_gone {n : Nat} {s : Nsp} {r : List Nsp} (h : Okay n (s.2.1 + 1) r) (h1 : s.1 ≤ s.2.1) (l : List Int) (hl : s.2.1 ≤ l.length) : ∀ (d i : Nat), i + d = s.2.1 → s.1 < i → spr (s :: r) i (l.drop i) = spr r s.2.1 (l.drop s.2.1)
  | 0, i, hd, hi => by
    obtain rfl : i = s.2.1 := by omega
    rw [spr_to h h1, if_neg (by omega), List.nil_append]
  | d + 1, i, hd, hi => by
    rw [List.drop_eq_getElem_cons (show i < l.length by omega), spr_cons, txt_here h (by omega), if_neg (by omega), gon_here h (by omega), decide_eq_true (by omega : s.1 ≤ i), decide_eq_true (by omega : i < s.2.1)]
    exact spr_gone h h1 l hl d (i + 1) (by omega) (by omega)
theorem spr_from {n : Nat} {s : Nsp} {r : List Nsp} (h : Okay n (s.2.1 + 1) r) (h1 : s.1 ≤ s.2.1) (l : List Int) (hl : s.2.1 ≤ l.length) : spr (s :: r) s.1 (l.drop s.1) = s.2.2 ++ spr r s.2.1 (l.drop s.2.1) := by
  by_cases he : s.1 = s.2.1
  · have := spr_to h h1 (l.drop s.2.1)
    rw [if_pos he] at this
    rw [he]
    exact this
  · rw [List.drop_eq_getElem_cons (show s.1 < l.length by omega), spr_cons, txt_here h h1, if_pos rfl, gon_here h h1, decide_eq_true (Nat.le_refl s.1), decide_eq_true (by omega : s.1 < s.2.1)]
    have := spr_gone h h1 l hl (s.2.1 - (s.1 + 1)) (s.1 + 1) (by omega) (by omega)
    rw [this]
    simp only [Bool.and_self, if_true, List.nil_append]
theorem spr_before {n : Nat} {s : Nsp} {r : List Nsp} (h : Okay n (s.2.1 + 1) r) (h1 : s.1 ≤ s.2.1) (l : List Int) (hl : s.2.1 ≤ l.length) : ∀ (d i : Nat), i + d = s.1 → spr (s :: r) i (l.drop i) = seg l i s.1 ++ (s.2.2 ++ spr r s.2.1 (l.drop s.2.1))
  | 0, i, hd => by
    obtain rfl : i = s.1 := by omega
    rw [spr_from h h1 l hl]
    unfold seg
    rw [Nat.sub_self, List.take_zero, List.nil_append]
  | d + 1, i, hd => by
    have ih := spr_before h h1 l hl d (i + 1) (by omega)
    have e : seg l i s.1 = l[i]'(by omega) :: seg l (i + 1) s.1 := by
      unfold seg
      rw [List.drop_eq_getElem_cons (by omega), show s.1 - i = (s.1 - (i + 1)) + 1 by omega, List.take_succ_cons]
    rw [e, List.drop_eq_getElem_cons (show i < l.length by omega), spr_cons, txt_here h (by omega), if_neg (by omega), gon_here h (by omega), decide_eq_false (by omega : ¬ s.1 ≤ i), ih]
    rfl
theorem spr_nil : ∀ (z : List Int) (a : Nat), spr [] a z = z
  | [], a => rfl
  | c :: z, a => by
    rw [spr_cons, spr_nil z (a + 1)]
    rfl
/-- What is made of a line, place by place. -/
theorem app_spr (l : List Int) : ∀ (ns : List Nsp) (a lo : Nat), Okay l.length lo ns → a ≤ lo → a ≤ l.length → app l a ns = spr ns a (l.drop a)
  | [], a, lo, _, _, _ => (spr_nil _ a).symm
  | s :: r, a, lo, ⟨h1, h2, h3, h4, h5⟩, ha, _ => by
    rw [spr_before h5 h2 l h3 (s.1 - a) a (by omega), ← app_spr l r s.2.1 _ h5 (by omega) h3, ← List.append_assoc]
    rfl

/-- A sign: 0 stays, 1 goes, 2 and a character is put in. -/
abbrev Sgn := Int × Int
def putS (x : List Int) : List Sgn := x.map fun c => ((2 : Int), c)
def stayS (n : Nat) : List Sgn := List.replicate n (0, 0)
/-- The signs of a over b at a place, but for its character. -/
def sgTxt (a b : List Nsp) (ahead : Bool) (i : Nat) : List Sgn := if ahead = true then putS (txt a i) ++ stayS (txt b i).length else stayS (txt b i).length ++ putS (txt a i)
def sgChr (a b : List Nsp) (i : Nat) : List Sgn := if gon b i = true then [] else if gon a i = true then [(1, 0)] else [(0, 0)]
/-- .. from a place on, of which k characters follow. -/
def sgs (a b : List Nsp) (ahead : Bool) : Nat → Nat → List Sgn
  | i, 0 => sgTxt a b ahead i
  | i, k + 1 => sgTxt a b ahead i ++ (sgChr a b i ++ sgs a b ahead (i + 1) k)
def chgN (s : Nsp) : Bool := decide (s.1 < s.2.1) || decide (0 < s.2.2.length)
/-- What is told of signs. -/
def gat : Nsp → List Sgn → List Nsp
  | s, [] => if chgN s = true then [s] else []
  | s, x :: r => if x.1 = 0 then (if chgN s = true then s :: gat (s.2.1 + 1, s.2.1 + 1, []) r else gat (s.2.1 + 1, s.2.1 + 1, []) r)
    else if x.1 = 1 then gat (s.1, s.2.1 + 1, s.2.2) r
    else gat (s.1, s.2.1, s.2.2 ++ [x.2]) r
/-- How many characters signs go over. -/
def cnt : List Sgn → Nat
  | [] => 0
  | x :: r => (if x.1 = 0 ∨ x.1 = 1 then 1 else 0) + cnt r
/-- What comes of a line by signs. -/
def run : List Sgn → List Int → List Int
  | [], m => m
  | x :: r, m => if x.1 = 0 then m.take 1 ++ run r (m.drop 1) else if x.1 = 1 then run r (m.drop 1) else x.2 :: run r m
theorem chgN_iff (s : Nsp) : chgN s = true ↔ (s.1 < s.2.1 ∨ 0 < s.2.2.length) := by unfold chgN; simp
theorem gat_okay (M : Nat) : ∀ (L : List Sgn) (s : Nsp) (lo : Nat), lo ≤ s.1 → s.1 ≤ s.2.1 → s.2.1 + cnt L ≤ M → Okay M lo (gat s L)
  | [], s, lo, h1, h2, h3 => by
    unfold gat
    split
    · rename_i h
      exact ⟨h1, h2, by unfold cnt at h3; omega, (chgN_iff s).1 h, trivial⟩
    · trivial
  | x :: r, s, lo, h1, h2, h3 => by
    unfold cnt at h3
    unfold gat
    by_cases hx : x.1 = 0
    · rw [if_pos hx]
      rw [if_pos (.inl hx)] at h3
      split
      · rename_i h
        exact ⟨h1, h2, by omega, (chgN_iff s).1 h, gat_okay M r _ _ (Nat.le_refl _) (Nat.le_refl _) (by show s.2.1 + 1 + cnt r ≤ M; omega)⟩
      · exact gat_okay M r _ _ (by show lo ≤ s.2.1 + 1; omega) (Nat.le_refl _) (by show s.2.1 + 1 + cnt r ≤ M; omega)
    · rw [if_neg hx]
      by_cases hx1 : x.1 = 1
      · rw [if_pos hx1]
        rw [if_pos (.inr hx1)] at h3
        exact gat_okay M r _ _ h1 (by show s.1 ≤ s.2.1 + 1; omega) (by show s.2.1 + 1 + cnt r ≤ M; omega)
      · rw [if_neg hx1]
        rw [if_neg (by omega)] at h3
        exact gat_okay M r _ _ h1 h2 (by show s.2.1 + cnt r ≤ M; omega)
theorem seg_next (m : List Int) (a t : Nat) (h : a ≤ t) (ht : t < m.length) : seg m a (t + 1) = seg m a t ++ (m.drop t).take 1 := by
  rw [← seg_seg m a t (t + 1) h (by omega)]
  unfold seg
  rw [show t + 1 - t = 1 by omega]
theorem gat_app (m : List Int) : ∀ (L : List Sgn) (s : Nsp) (a : Nat), a ≤ s.1 → s.1 ≤ s.2.1 → s.2.1 + cnt L ≤ m.length → app m a (gat s L) = seg m a s.1 ++ (s.2.2 ++ run L (m.drop s.2.1))
  | [], s, a, h1, h2, h3 => by
    unfold gat run
    split
    · show seg m a s.1 ++ s.2.2 ++ m.drop s.2.1 = _
      rw [List.append_assoc]
    · rename_i h
      have h4 : ¬ (s.1 < s.2.1 ∨ 0 < s.2.2.length) := fun h5 => h ((chgN_iff s).2 h5)
      have h5 : s.2.2 = [] := List.length_eq_zero_iff.1 (by omega)
      show m.drop a = _
      rw [h5, List.nil_append, show s.2.1 = s.1 by omega, seg_drop m a s.1 h1]
  | x :: r, s, a, h1, h2, h3 => by
    unfold cnt at h3
    unfold gat run
    by_cases hx : x.1 = 0
    · rw [if_pos hx, if_pos hx]
      rw [if_pos (.inl hx)] at h3
      have e : ∀ a, a ≤ s.2.1 → app m a (gat (s.2.1 + 1, s.2.1 + 1, []) r) = seg m a s.2.1 ++ ((m.drop s.2.1).take 1 ++ run r ((m.drop s.2.1).drop 1)) := by
        intro a ha
        rw [gat_app m r (s.2.1 + 1, s.2.1 + 1, []) a (by show a ≤ s.2.1 + 1; omega) (Nat.le_refl _) (by show s.2.1 + 1 + cnt r ≤ _; omega)]
        show seg m a (s.2.1 + 1) ++ ([] ++ run r (m.drop (s.2.1 + 1))) = _
        rw [seg_next m a s.2.1 ha (by omega), List.nil_append, List.drop_drop, List.append_assoc]
      split
      · show seg m a s.1 ++ s.2.2 ++ app m s.2.1 (gat (s.2.1 + 1, s.2.1 + 1, []) r) = _
        rw [e s.2.1 (Nat.le_refl _), List.append_assoc]
        congr 2
        unfold seg
        rw [Nat.sub_self, List.take_zero, List.nil_append]
      · rename_i h
        have h4 : ¬ (s.1 < s.2.1 ∨ 0 < s.2.2.length) := fun h5 => h ((chgN_iff s).2 h5)
        have h5 : s.2.2 = [] := List.length_eq_zero_iff.1 (by omega)
        rw [e a (by omega), h5, List.nil_append, show s.1 = s.2.1 by omega]
    · rw [if_neg hx, if_neg hx]
      by_cases hx1 : x.1 = 1
      · rw [if_pos hx1, if_pos hx1]
        rw [if_pos (.inr hx1)] at h3
        rw [gat_app m r (s.1, s.2.1 + 1, s.2.2) a h1 (by show s.1 ≤ s.2.1 + 1; omega) (by show s.2.1 + 1 + cnt r ≤ _; omega)]
        show seg m a s.1 ++ (s.2.2 ++ run r (m.drop (s.2.1 + 1))) = _
        rw [List.drop_drop]
      · rw [if_neg hx1, if_neg hx1]
        rw [if_neg (by omega)] at h3
        rw [gat_app m r (s.1, s.2.1, s.2.2 ++ [x.2]) a h1 h2 (by show s.2.1 + cnt r ≤ _; omega)]
        show seg m a s.1 ++ (s.2.2 ++ [x.2] ++ run r (m.drop s.2.1)) = _
        rw [List.append_assoc]
        rfl
theorem cnt_append : ∀ (a b : List Sgn), cnt (a ++ b) = cnt a + cnt b
  | [], b => by show cnt b = 0 + cnt b; omega
  | x :: a, b => by
    show (if x.1 = 0 ∨ x.1 = 1 then 1 else 0) + cnt (a ++ b) = (if x.1 = 0 ∨ x.1 = 1 then 1 else 0) + cnt a + cnt b
    rw [cnt_append a b]
    omega
theorem cnt_put : ∀ (x : List Int), cnt (putS x) = 0
  | [] => rfl
  | c :: x => by
    show (if (2 : Int) = 0 ∨ (2 : Int) = 1 then 1 else 0) + cnt (putS x) = 0
    rw [cnt_put x, if_neg (by decide)]
theorem cnt_stay : ∀ (n : Nat), cnt (stayS n) = n
  | 0 => rfl
  | n + 1 => by
    show (if (0 : Int) = 0 ∨ (0 : Int) = 1 then 1 else 0) + cnt (stayS n) = n + 1
    rw [cnt_stay n, if_pos (by decide)]
    omega
theorem run_put : ∀ (x : List Int) (L : List Sgn) (m : List Int), run (putS x ++ L) m = x ++ run L m
  | [], L, m => rfl
  | c :: x, L, m => by
    show (if (2 : Int) = 0 then m.take 1 ++ run (putS x ++ L) (m.drop 1) else if (2 : Int) = 1 then run (putS x ++ L) (m.drop 1) else c :: run (putS x ++ L) m) = _
    rw [if_neg (by decide), if_neg (by decide), run_put x L m]
    rfl
theorem run_stay : ∀ (x : List Int) (L : List Sgn) (m : List Int), run (stayS x.length ++ L) (x ++ m) = x ++ run L m
  | [], L, m => rfl
  | c :: x, L, m => by
    show (if (0 : Int) = 0 then (c :: (x ++ m)).take 1 ++ run (stayS x.length ++ L) ((c :: (x ++ m)).drop 1) else _) = _
    rw [if_pos rfl]
    show [c] ++ run (stayS x.length ++ L) (x ++ m) = _
    rw [run_stay x L m]
    rfl
/-- Both edits done, place by place. -/
def tt (a b : List Nsp) (ahead : Bool) (i : Nat) : List Int := if ahead = true then txt a i ++ txt b i else txt b i ++ txt a i
def mrg (a b : List Nsp) (ahead : Bool) : Nat → List Int → List Int
  | i, [] => tt a b ahead i
  | i, c :: r => tt a b ahead i ++ ((if (gon a i || gon b i) = true then [] else [c]) ++ mrg a b ahead (i + 1) r)
theorem mrg_turn (a b : List Nsp) (ahead : Bool) : ∀ (l : List Int) (i : Nat), mrg a b ahead i l = mrg b a (!ahead) i l
  | [], i => by
    unfold mrg tt
    cases ahead <;> rfl
  | c :: l, i => by
    unfold mrg
    rw [mrg_turn a b ahead l (i + 1), Bool.or_comm]
    unfold tt
    cases ahead <;> rfl
theorem run_txt (a b : List Nsp) (ahead : Bool) (i : Nat) (L : List Sgn) (m : List Int) : run (sgTxt a b ahead i ++ L) (txt b i ++ m) = tt a b ahead i ++ run L m := by
  unfold sgTxt tt
  cases ahead with
  | true =>
    simp only [if_true]
    rw [List.append_assoc, run_put, run_stay, List.append_assoc]
  | false =>
    simp only [Bool.false_eq_true, if_false]
    rw [List.append_assoc, run_stay, run_put, List.append_assoc]
theorem run_sgs (a b : List Nsp) (ahead : Bool) : ∀ (l : List Int) (i : Nat), run (sgs a b ahead i l.length) (spr b i l) = mrg a b ahead i l
  | [], i => by
    show run (sgTxt a b ahead i) (txt b i) = tt a b ahead i
    have := run_txt a b ahead i [] []
    rw [List.append_nil, List.append_nil] at this
    rw [this]
    show tt a b ahead i ++ [] = _
    rw [List.append_nil]
  | c :: l, i => by
    show run (sgTxt a b ahead i ++ (sgChr a b i ++ sgs a b ahead (i + 1) l.length)) (txt b i ++ ((if gon b i = true then [] else [c]) ++ spr b (i + 1) l)) = tt a b ahead i ++ ((if (gon a i || gon b i) = true then [] else [c]) ++ mrg a b ahead (i + 1) l)
    rw [run_txt, ← run_sgs a b ahead l (i + 1)]
    congr 1
    unfold sgChr
    cases hb : gon b i with
    | true =>
      simp only [if_true, Bool.or_true, List.nil_append]
    | false =>
      cases ha : gon a i with
      | true =>
        simp only [Bool.false_eq_true, if_false, if_true, Bool.or_false, List.nil_append]
        show (if (1 : Int) = 0 then _ else if (1 : Int) = 1 then run (sgs a b ahead (i + 1) l.length) (([c] ++ spr b (i + 1) l).drop 1) else _) = _
        rw [if_neg (by decide), if_pos rfl]
        rfl
      | false =>
        simp only [Bool.false_eq_true, if_false, Bool.or_false]
        show (if (0 : Int) = 0 then ([c] ++ spr b (i + 1) l).take 1 ++ run (sgs a b ahead (i + 1) l.length) (([c] ++ spr b (i + 1) l).drop 1) else _) = _
        rw [if_pos rfl]
        rfl
theorem cnt_txt (a b : List Nsp) (ahead : Bool) (i : Nat) : cnt (sgTxt a b ahead i) = (txt b i).length := by
  unfold sgTxt
  cases ahead with
  | true => simp only [if_true]; rw [cnt_append, cnt_put, cnt_stay]; omega
  | false => simp only [Bool.false_eq_true, if_false]; rw [cnt_append, cnt_put, cnt_stay]; omega
theorem cnt_sgs (a b : List Nsp) (ahead : Bool) : ∀ (l : List Int) (i : Nat), cnt (sgs a b ahead i l.length) = (spr b i l).length
  | [], i => cnt_txt a b ahead i
  | c :: l, i => by
    show cnt (sgTxt a b ahead i ++ (sgChr a b i ++ sgs a b ahead (i + 1) l.length)) = (txt b i ++ ((if gon b i = true then [] else [c]) ++ spr b (i + 1) l)).length
    rw [cnt_append, cnt_append, cnt_txt, cnt_sgs a b ahead l (i + 1), List.length_append, List.length_append]
    congr 2
    unfold sgChr
    cases gon b i with
    | true => rfl
    | false => cases gon a i <;> rfl
/-- a over b. -/
def ovr (n : Nat) (a b : List Nsp) (ahead : Bool) : List Nsp := gat (0, 0, []) (sgs a b ahead 0 n)
theorem ovr_okay (l : List Int) (a b : List Nsp) (ahead : Bool) (hb : Okay l.length 0 b) : Okay (app l 0 b).length 0 (ovr l.length a b ahead) := by
  refine gat_okay _ _ _ _ (Nat.le_refl _) (Nat.le_refl _) ?_
  rw [cnt_sgs, app_spr l b 0 0 hb (Nat.le_refl _) (Nat.zero_le _), List.drop_zero]
  show 0 + _ ≤ _
  omega
theorem ovr_app (l : List Int) (a b : List Nsp) (ahead : Bool) (hb : Okay l.length 0 b) : app (app l 0 b) 0 (ovr l.length a b ahead) = mrg a b ahead 0 l := by
  have e := app_spr l b 0 0 hb (Nat.le_refl _) (Nat.zero_le _)
  rw [List.drop_zero] at e
  unfold ovr
  rw [gat_app _ _ _ 0 (Nat.le_refl _) (Nat.le_refl _) (by rw [cnt_sgs, e]; show 0 + _ ≤ _; omega)]
  show seg _ 0 0 ++ ([] ++ run (sgs a b ahead 0 l.length) ((app l 0 b).drop 0)) = _
  rw [List.drop_zero, e, run_sgs]
  rfl
/-- Whoever is done first, the same line comes. -/
theorem ovr_meet (l : List Int) (a b : List Nsp) (ahead : Bool) (ha : Okay l.length 0 a) (hb : Okay l.length 0 b) : app (app l 0 a) 0 (ovr l.length b a (!ahead)) = app (app l 0 b) 0 (ovr l.length a b ahead) := by
  rw [ovr_app l b a _ ha, ovr_app l a b _ hb, mrg_turn a b ahead]
/-- Over nothing. -/
theorem mrg_nil (a : List Nsp) (ahead : Bool) : ∀ (l : List Int) (i : Nat), mrg a [] ahead i l = spr a i l
  | [], i => by
    unfold mrg spr tt
    show (if ahead = true then txt a i ++ [] else [] ++ txt a i) = _
    cases ahead <;> simp
  | c :: l, i => by
    unfold mrg spr
    rw [mrg_nil a ahead l (i + 1)]
    have e : tt a [] ahead i = txt a i := by
      unfold tt
      show (if ahead = true then txt a i ++ [] else [] ++ txt a i) = _
      cases ahead <;> simp
    rw [e, show gon [] i = false from rfl, Bool.or_false]
theorem ovr_nil (l : List Int) (a : List Nsp) (ahead : Bool) (ha : Okay l.length 0 a) : app l 0 (ovr l.length a [] ahead) = app l 0 a ∧ Okay l.length 0 (ovr l.length a [] ahead) := by
  have h1 := ovr_app l a [] ahead trivial
  have h2 := ovr_okay l a [] ahead trivial
  have e : app l 0 [] = l := List.drop_zero
  rw [e] at h1 h2
  refine ⟨?_, h2⟩
  rw [h1, mrg_nil, app_spr l a 0 0 ha (Nat.le_refl _) (Nat.zero_le _), List.drop_zero]
/-- Signs of which all stay tell nothing. -/
theorem gat_stays : ∀ (L : List Sgn) (k : Nat), (∀ x ∈ L, x.1 = 0) → gat (k, k, []) L = []
  | [], k, _ => by
    unfold gat
    rw [if_neg (by unfold chgN; simp)]
  | x :: r, k, h => by
    unfold gat
    rw [if_pos (h x (List.mem_cons_self ..)), if_neg (by unfold chgN; simp)]
    exact gat_stays r (k + 1) (fun y hy => h y (List.mem_cons_of_mem _ hy))
theorem ovr_none (b : List Nsp) (ahead : Bool) : ∀ (k i : Nat), ∀ x ∈ sgs [] b ahead i k, x.1 = 0
  | 0, i, x, hx => sgTxt_none b ahead i x hx
  | k + 1, i, x, hx => by
    unfold sgs at hx
    rcases List.mem_append.1 hx with h | h
    · exact sgTxt_none b ahead i x h
    · rcases List.mem_append.1 h with h | h
      · unfold sgChr at h
        split at h
        · cases h
        · rw [show gon [] i = false from rfl] at h
          simp at h
          rw [h]
      · exact ovr_none b ahead k (i + 1) x h
where
  sgTxt_none (b : List Nsp) (ahead : Bool) (i : Nat) : ∀ x ∈ sgTxt [] b ahead i, x.1 = 0 := by
    intro x hx
    unfold sgTxt stayS putS at hx
    rw [show txt [] i = [] from rfl] at hx
    cases ahead <;> simp at hx <;> rw [hx.2]
theorem ovr_of_nil (n : Nat) (b : List Nsp) (ahead : Bool) : ovr n [] b ahead = [] := gat_stays _ 0 (ovr_none b ahead n 0)
/-- The gathering's steps. -/
theorem gat_put : ∀ (x : List Int) (s : Nsp) (L : List Sgn), gat s (putS x ++ L) = gat (s.1, s.2.1, s.2.2 ++ x) L
  | [], s, L => by rw [List.append_nil]; rfl
  | c :: x, s, L => by
    show (if (2 : Int) = 0 then _ else if (2 : Int) = 1 then _ else gat (s.1, s.2.1, s.2.2 ++ [c]) (putS x ++ L)) = _
    rw [if_neg (by decide), if_neg (by decide), gat_put x _ L]
    show gat (s.1, s.2.1, s.2.2 ++ [c] ++ x) L = _
    rw [List.append_assoc]
    rfl
theorem gat_take (s : Nsp) (L : List Sgn) : gat s ((1, 0) :: L) = gat (s.1, s.2.1 + 1, s.2.2) L := rfl
/-- What is flushed when something stays. -/
def flush (s : Nsp) : List Nsp := if chgN s = true then [s] else []
theorem gat_stay1 (s : Nsp) (L : List Sgn) : gat s ((0, 0) :: L) = flush s ++ gat (s.2.1 + 1, s.2.1 + 1, []) L := by
  show (if (0 : Int) = 0 then (if chgN s = true then s :: gat (s.2.1 + 1, s.2.1 + 1, []) L else gat (s.2.1 + 1, s.2.1 + 1, []) L) else _) = _
  rw [if_pos rfl]
  unfold flush
  split <;> rfl
theorem gat_end (s : Nsp) : gat s [] = flush s := rfl
theorem flush_none (k : Nat) : flush (k, k, []) = [] := by
  unfold flush
  rw [if_neg (by unfold chgN; simp)]
theorem gat_stays_at : ∀ (n k : Nat) (L : List Sgn), gat (k, k, []) (stayS n ++ L) = gat (k + n, k + n, []) L
  | 0, k, L => rfl
  | n + 1, k, L => by
    show gat (k, k, []) ((0, 0) :: (stayS n ++ L)) = _
    rw [gat_stay1, flush_none, List.nil_append, gat_stays_at n (k + 1) L, show k + 1 + n = k + (n + 1) by omega]
theorem gat_stay (n : Nat) (s : Nsp) (L : List Sgn) (hn : 0 < n) : gat s (stayS n ++ L) = flush s ++ gat (s.2.1 + n, s.2.1 + n, []) L := by
  obtain ⟨n, rfl⟩ : ∃ k, n = k + 1 := ⟨n - 1, by omega⟩
  show gat s ((0, 0) :: (stayS n ++ L)) = _
  rw [gat_stay1, gat_stays_at, show s.2.1 + 1 + n = s.2.1 + (n + 1) by omega]
end Go.Proofs.Ytpgecholpbpakab.Plain
