/- Plain mathematics of edits: which are right, what they make of a line, what undoes them. -/
import Derived.Test.YtpgjaoemkadenabBase
set_option linter.unusedVariables false
set_option linter.unusedSimpArgs false
set_option maxRecDepth 100000
namespace Go.Proofs.Ytpgjaoemkadenab.Plain

/-- A splice as it comes: from, to, text. -/
abbrev Spl := Int × Int × List Int
/-- A splice at places. -/
abbrev Nsp := Nat × Nat × List Int
def sup (s : Nsp) : Spl := ((s.1 : Int), (s.2.1 : Int), s.2.2)
def ups (ns : List Nsp) : List Spl := ns.map sup
theorem ups_len (ns : List Nsp) : (ups ns).length = ns.length := List.length_map ..

/-- Check's way from a splice on. -/
def chkGo (n : Int) : Int → Int → List Spl → Int
  | _, size, [] => if size > 4096 then 2 else 0
  | last, size, s :: r =>
    if s.1 ≤ last ∨ s.1 > s.2.1 ∨ s.2.1 > n ∨ (s.1 = s.2.1 ∧ s.2.2.length = 0) then 4
    else if s.2.2.length > 4096 ∨ size + ((s.2.2.length : Int) - (s.2.1 - s.1)) > 8192 then 2
    else chkGo n s.2.1 (size + ((s.2.2.length : Int) - (s.2.1 - s.1))) r
/-- Check's answer. -/
def schk (n : Int) (es : List Spl) : Int := if n < 0 ∨ n > 4096 then 1 else chkGo n (-1) n es

/-- Right splices of a line of n, from place lo on. -/
def Okay (n : Nat) : Nat → List Nsp → Prop
  | _, [] => True
  | lo, s :: r => lo ≤ s.1 ∧ s.1 ≤ s.2.1 ∧ s.2.1 ≤ n ∧ (s.1 < s.2.1 ∨ 0 < s.2.2.length) ∧ Okay n (s.2.1 + 1) r
/-- How many are put in, how many go. -/
def puts : List Nsp → Nat
  | [] => 0
  | s :: r => s.2.2.length + puts r
def sgoes : List Nsp → Nat
  | [] => 0
  | s :: r => (s.2.1 - s.1) + sgoes r
def seg (l : List Int) (a b : Nat) : List Int := (l.drop a).take (b - a)
/-- What is made of a line, from a place on. -/
def app (l : List Int) : Nat → List Nsp → List Int
  | a, [] => l.drop a
  | a, s :: r => seg l a s.1 ++ s.2.2 ++ app l s.2.1 r
/-- What undoes it: a, the place in the line; m, the place in what is made of it. -/
def und (l : List Int) : Nat → Nat → List Nsp → List Nsp
  | _, _, [] => []
  | a, m, s :: r => (m + (s.1 - a), m + (s.1 - a) + s.2.2.length, seg l s.1 s.2.1) :: und l s.2.1 (m + (s.1 - a) + s.2.2.length) r

theorem seg_len (l : List Int) (a b : Nat) (h : b ≤ l.length) : (seg l a b).length = b - a := by unfold seg; rw [List.length_take, List.length_drop]; omega
theorem seg_drop (l : List Int) (a b : Nat) (h : a ≤ b) : seg l a b ++ l.drop b = l.drop a := by
  unfold seg
  have : l.drop b = (l.drop a).drop (b - a) := by rw [List.drop_drop]; congr 1; omega
  rw [this, List.take_append_drop]
theorem seg_seg (l : List Int) (a b c : Nat) (h : a ≤ b) (h2 : b ≤ c) : seg l a b ++ seg l b c = seg l a c := by
  unfold seg
  have e : l.drop b = (l.drop a).drop (b - a) := by rw [List.drop_drop]; congr 1; omega
  rw [e, show c - a = (b - a) + (c - b) by omega, List.take_add]
theorem take_seg (l : List Int) (a b : Nat) (h : a ≤ b) : l.take a ++ seg l a b = l.take b := by
  have := seg_seg l 0 a b (Nat.zero_le _) h
  unfold seg at this ⊢
  simpa using this
theorem seg_mid (A S B : List Int) (m k : Nat) (hm : A.length = m) (hk : k = m + S.length) : seg (A ++ (S ++ B)) m k = S := by
  unfold seg
  subst hm hk
  rw [List.drop_left, show A.length + S.length - A.length = S.length by omega, List.take_left]

theorem Okay.less {n : Nat} : ∀ {lo lo' : Nat} {ns : List Nsp}, Okay n lo ns → lo' ≤ lo → Okay n lo' ns
  | _, _, [], _, _ => trivial
  | _, _, s :: r, h, hl => ⟨Nat.le_trans hl h.1, h.2⟩
theorem Okay.goes_le {n : Nat} : ∀ {lo : Nat} {ns : List Nsp}, Okay n lo ns → sgoes ns ≤ n - lo
  | _, [], _ => Nat.zero_le _
  | lo, s :: r, ⟨h1, h2, h3, _, h5⟩ => by
    have := h5.goes_le
    unfold sgoes
    omega
theorem Okay.count {n : Nat} : ∀ {lo : Nat} {ns : List Nsp}, Okay n lo ns → ns.length ≤ n + 1 - lo
  | _, [], _ => Nat.zero_le _
  | lo, s :: r, ⟨h1, h2, h3, _, h5⟩ => by
    have := h5.count
    rw [List.length_cons]
    omega
theorem app_len (l : List Int) : ∀ (a : Nat) (ns : List Nsp) (lo : Nat), Okay l.length lo ns → a ≤ lo → a ≤ l.length → (app l a ns).length + sgoes ns = (l.length - a) + puts ns
  | a, [], _, _, _, h => by unfold app sgoes puts; rw [List.length_drop]
  | a, s :: r, lo, ⟨h1, h2, h3, h4, h5⟩, ha, _ => by
    have := app_len l s.2.1 r _ h5 (by omega) h3
    unfold app sgoes puts
    rw [List.length_append, List.length_append, seg_len l a s.1 (by omega)]
    have h9 := h5.goes_le
    omega

/-- Of right splices Check tells whether the line is too long. -/
theorem chkGo_right (n : Nat) (hn : n ≤ 4096) : ∀ (ns : List Nsp) (lo : Nat) (last size : Int), Okay n lo ns → last < (lo : Int) → (sgoes ns : Int) ≤ size →
    chkGo n last size (ups ns) = if size + (puts ns : Int) - (sgoes ns : Int) > 4096 then 2 else 0
  | [], lo, last, size, _, _, _ => by
    unfold ups chkGo puts sgoes
    simp
  | s :: r, lo, last, size, ⟨h1, h2, h3, h4, h5⟩, hl, hs => by
    have hg := h5.goes_le
    have hgs : sgoes (s :: r) = (s.2.1 - s.1) + sgoes r := rfl
    have hps : puts (s :: r) = s.2.2.length + puts r := rfl
    have ih := chkGo_right n hn r (s.2.1 + 1) s.2.1 (size + ((s.2.2.length : Int) - ((s.2.1 : Int) - (s.1 : Int)))) h5 (by omega) (by omega)
    show chkGo n last size (sup s :: ups r) = _
    unfold chkGo
    rw [if_neg (by
      simp only [sup]
      have : ¬ ((s.1 : Int) = (s.2.1 : Int) ∧ s.2.2.length = 0) := by omega
      omega)]
    by_cases hb : (sup s).2.2.length > 4096 ∨ size + (((sup s).2.2.length : Int) - ((sup s).2.1 - (sup s).1)) > 8192
    · rw [if_pos hb]
      simp only [sup] at hb
      rw [if_pos (by omega)]
    · rw [if_neg hb]
      show chkGo n (s.2.1 : Int) _ (ups r) = _
      simp only [sup]
      rw [ih]
      congr 1
      apply propext
      omega
theorem chkGo_shape (n : Nat) : ∀ (es : List Spl) (last size : Int), -1 ≤ last → chkGo n last size es = 0 → ∃ ns, es = ups ns ∧ Okay n (last + 1).toNat ns
  | [], _, _, _, _ => ⟨[], rfl, trivial⟩
  | s :: r, last, size, hl, h => by
    unfold chkGo at h
    by_cases h1 : s.1 ≤ last ∨ s.1 > s.2.1 ∨ s.2.1 > (n : Int) ∨ (s.1 = s.2.1 ∧ s.2.2.length = 0)
    · rw [if_pos h1] at h; cases h
    · rw [if_neg h1] at h
      by_cases h2 : s.2.2.length > 4096 ∨ size + ((s.2.2.length : Int) - (s.2.1 - s.1)) > 8192
      · rw [if_pos h2] at h; cases h
      · rw [if_neg h2] at h
        obtain ⟨ns, e, ho⟩ := chkGo_shape n r s.2.1 _ (by omega) h
        refine ⟨(s.1.toNat, s.2.1.toNat, s.2.2) :: ns, ?_, ?_⟩
        · unfold ups at e ⊢
          rw [List.map_cons, ← e]
          congr 1
          unfold sup
          refine Prod.ext ?_ (Prod.ext ?_ rfl)
          · show s.1 = ((s.1.toNat : Nat) : Int)
            omega
          · show s.2.1 = ((s.2.1.toNat : Nat) : Int)
            omega
        · refine ⟨?_, ?_, ?_, ?_, ?_⟩
          · show (last + 1).toNat ≤ s.1.toNat
            omega
          · show s.1.toNat ≤ s.2.1.toNat
            omega
          · show s.2.1.toNat ≤ n
            omega
          · show s.1.toNat < s.2.1.toNat ∨ 0 < s.2.2.length
            omega
          · show Okay n (s.2.1.toNat + 1) ns
            rw [show s.2.1.toNat + 1 = (s.2.1 + 1).toNat by omega]
            exact ho
theorem schk_right (l : List Int) (ns : List Nsp) (hl : l.length ≤ 4096) (h : Okay l.length 0 ns) : schk (l.length : Int) (ups ns) = if (app l 0 ns).length > 4096 then 2 else 0 := by
  unfold schk
  rw [if_neg (by omega), chkGo_right l.length hl ns 0 (-1) l.length h (by omega) (by have := h.goes_le; omega)]
  have h1 := app_len l 0 ns 0 h (Nat.le_refl _) (Nat.zero_le _)
  congr 1
  apply propext
  omega
theorem chk_shape {n : Int} {es : List Spl} (h : schk n es = 0) : ∃ (k : Nat) (ns : List Nsp), n = (k : Int) ∧ k ≤ 4096 ∧ es = ups ns ∧ Okay k 0 ns := by
  unfold schk at h
  by_cases h1 : n < 0 ∨ n > 4096
  · rw [if_pos h1] at h; cases h
  · rw [if_neg h1] at h
    obtain ⟨k, rfl⟩ : ∃ k : Nat, n = (k : Int) := ⟨n.toNat, by omega⟩
    obtain ⟨ns, e, ho⟩ := chkGo_shape k es (-1) k (by omega) h
    exact ⟨k, ns, rfl, by omega, e, ho⟩
/-- A right edit of a line. -/
def Right (l : List Int) (ns : List Nsp) : Prop := l.length ≤ 4096 ∧ Okay l.length 0 ns ∧ (app l 0 ns).length ≤ 4096
theorem chk_ok {l : List Int} {es : List Spl} (h : schk (l.length : Int) es = 0) : ∃ ns, es = ups ns ∧ Right l ns := by
  obtain ⟨k, ns, hk, hk2, rfl, ho⟩ := chk_shape h
  obtain rfl : l.length = k := by omega
  rw [schk_right l ns hk2 ho] at h
  refine ⟨ns, rfl, hk2, ho, ?_⟩
  by_cases h9 : (app l 0 ns).length > 4096
  · rw [if_pos h9] at h; cases h
  · omega
theorem Right.chk {l : List Int} {ns : List Nsp} (h : Right l ns) : schk (l.length : Int) (ups ns) = 0 := by
  rw [schk_right l ns h.1 h.2.1, if_neg (by have := h.2.2; omega)]
/-- .. of a line whose length alone is known. -/
def Fits (n : Nat) (ns : List Nsp) : Prop := n ≤ 4096 ∧ Okay n 0 ns ∧ n + puts ns ≤ 4096 + sgoes ns
theorem Right.fits {l : List Int} {ns : List Nsp} (h : Right l ns) : Fits l.length ns := by
  refine ⟨h.1, h.2.1, ?_⟩
  have := app_len l 0 ns 0 h.2.1 (Nat.le_refl _) (Nat.zero_le _)
  have := h.2.2
  omega
theorem Fits.right {l : List Int} {ns : List Nsp} (h : Fits l.length ns) : Right l ns := by
  refine ⟨h.1, h.2.1, ?_⟩
  have := app_len l 0 ns 0 h.2.1 (Nat.le_refl _) (Nat.zero_le _)
  have := h.2.2
  omega
theorem Fits.puts_le {n : Nat} {ns : List Nsp} (h : Fits n ns) : puts ns ≤ 4096 := by
  have := h.2.1.goes_le
  have := h.2.2
  omega
theorem fits_of_chk {n : Int} {es : List Spl} (h : schk n es = 0) : ∃ (k : Nat) (ns : List Nsp), n = (k : Int) ∧ es = ups ns ∧ Fits k ns := by
  obtain ⟨k, ns, rfl, hk, rfl, ho⟩ := chk_shape h
  have hl : (List.replicate k (0 : Int)).length = k := List.length_replicate
  have h2 : schk ((List.replicate k (0 : Int)).length : Int) (ups ns) = 0 := by rw [hl]; exact h
  rw [schk_right _ ns (by rw [hl]; exact hk) (by rw [hl]; exact ho)] at h2
  have h3 : Right (List.replicate k (0 : Int)) ns := ⟨by rw [hl]; exact hk, by rw [hl]; exact ho, by
    by_cases h9 : (app (List.replicate k (0 : Int)) 0 ns).length > 4096
    · rw [if_pos h9] at h2; cases h2
    · omega⟩
  have h4 := h3.fits
  rw [hl] at h4
  exact ⟨k, ns, rfl, rfl, h4⟩
theorem Fits.chk {n : Nat} {ns : List Nsp} (h : Fits n ns) : schk (n : Int) (ups ns) = 0 := by
  have hl : (List.replicate n (0 : Int)).length = n := List.length_replicate
  have h2 : Fits (List.replicate n (0 : Int)).length ns := by rw [hl]; exact h
  have := h2.right.chk
  rw [hl] at this
  exact this
theorem puts_mem {ns : List Nsp} {s : Nsp} (h : s ∈ ns) : s.2.2.length ≤ puts ns := by
  induction ns with
  | nil => cases h
  | cons q r ih =>
    rcases List.mem_cons.1 h with rfl | h
    · unfold puts; omega
    · have := ih h
      unfold puts; omega

/-- What is undone is as it was. -/
theorem app_und (l : List Int) : ∀ (ns : List Nsp) (a m : Nat) (A : List Int) (lo : Nat), Okay l.length lo ns → a ≤ lo → A.length = m →
    app (A ++ app l a ns) m (und l a m ns) = l.drop a
  | [], a, m, A, lo, _, _, hA => by
    unfold und app
    rw [← hA, List.drop_left]
    rfl
  | s :: r, a, m, A, lo, ⟨h1, h2, h3, h4, h5⟩, ha, hA => by
    have hs : (seg l a s.1).length = s.1 - a := seg_len l a s.1 (by omega)
    have ih := app_und l r s.2.1 (m + (s.1 - a) + s.2.2.length) (A ++ seg l a s.1 ++ s.2.2) _ h5 (by omega) (by rw [List.length_append, List.length_append, hs, hA])
    have e : A ++ app l a (s :: r) = A ++ seg l a s.1 ++ s.2.2 ++ app l s.2.1 r := by
      show A ++ (seg l a s.1 ++ s.2.2 ++ app l s.2.1 r) = _
      simp only [List.append_assoc]
    rw [e]
    unfold und
    show seg _ m (m + (s.1 - a)) ++ seg l s.1 s.2.1 ++ app _ (m + (s.1 - a) + s.2.2.length) _ = _
    rw [ih]
    have e2 : seg (A ++ seg l a s.1 ++ s.2.2 ++ app l s.2.1 r) m (m + (s.1 - a)) = seg l a s.1 := by
      rw [List.append_assoc, List.append_assoc]
      exact seg_mid _ _ _ _ _ hA (by rw [hs])
    rw [e2, seg_seg l a s.1 s.2.1 (by omega) h2, seg_drop l a s.2.1 (by omega)]
theorem und_und (l : List Int) : ∀ (ns : List Nsp) (a m : Nat) (A : List Int) (lo : Nat), Okay l.length lo ns → a ≤ lo → A.length = m →
    und (A ++ app l a ns) m a (und l a m ns) = ns
  | [], a, m, A, lo, _, _, hA => rfl
  | s :: r, a, m, A, lo, ⟨h1, h2, h3, h4, h5⟩, ha, hA => by
    have hs : (seg l a s.1).length = s.1 - a := seg_len l a s.1 (by omega)
    have ih := und_und l r s.2.1 (m + (s.1 - a) + s.2.2.length) (A ++ seg l a s.1 ++ s.2.2) _ h5 (by omega) (by rw [List.length_append, List.length_append, hs, hA])
    have e : A ++ app l a (s :: r) = A ++ seg l a s.1 ++ s.2.2 ++ app l s.2.1 r := by
      show A ++ (seg l a s.1 ++ s.2.2 ++ app l s.2.1 r) = _
      simp only [List.append_assoc]
    rw [e]
    have ee : und l a m (s :: r) = (m + (s.1 - a), m + (s.1 - a) + s.2.2.length, seg l s.1 s.2.1) :: und l s.2.1 (m + (s.1 - a) + s.2.2.length) r := rfl
    rw [ee]
    show (a + (m + (s.1 - a) - m), a + (m + (s.1 - a) - m) + (seg l s.1 s.2.1).length, seg _ (m + (s.1 - a)) (m + (s.1 - a) + s.2.2.length)) :: und _ (m + (s.1 - a) + s.2.2.length) (a + (m + (s.1 - a) - m) + (seg l s.1 s.2.1).length) _ = _
    have f1 : a + (m + (s.1 - a) - m) = s.1 := by omega
    have f2 : s.1 + (seg l s.1 s.2.1).length = s.2.1 := by rw [seg_len l s.1 s.2.1 h3]; omega
    rw [f1, f2, ih]
    have e2 : seg (A ++ seg l a s.1 ++ s.2.2 ++ app l s.2.1 r) (m + (s.1 - a)) (m + (s.1 - a) + s.2.2.length) = s.2.2 := by
      rw [List.append_assoc]
      exact seg_mid _ _ _ _ _ (by rw [List.length_append, hs, hA]) rfl
    rw [e2]
theorem und_okay (l : List Int) (M : Nat) : ∀ (ns : List Nsp) (a m d : Nat), Okay l.length (a + d) ns → m + (app l a ns).length = M → a ≤ l.length → Okay M (m + d) (und l a m ns)
  | [], _, _, _, _, _, _ => trivial
  | s :: r, a, m, d, ⟨h1, h2, h3, h4, h5⟩, hM, hal => by
    have hs : (seg l a s.1).length = s.1 - a := seg_len l a s.1 (by omega)
    have hM2 : (app l a (s :: r)).length = (s.1 - a) + s.2.2.length + (app l s.2.1 r).length := by
      show (seg l a s.1 ++ s.2.2 ++ app l s.2.1 r).length = _
      rw [List.length_append, List.length_append, hs]
    refine ⟨?_, ?_, ?_, ?_, ?_⟩
    · show m + d ≤ m + (s.1 - a)
      omega
    · show m + (s.1 - a) ≤ m + (s.1 - a) + s.2.2.length
      omega
    · show m + (s.1 - a) + s.2.2.length ≤ M
      omega
    · show m + (s.1 - a) < m + (s.1 - a) + s.2.2.length ∨ 0 < (seg l s.1 s.2.1).length
      rw [seg_len l s.1 s.2.1 h3]
      omega
    · exact und_okay l M r s.2.1 (m + (s.1 - a) + s.2.2.length) 1 h5 (by omega) h3
/-- The edit that undoes a right one is right, and makes the line again. -/
theorem und_right {l : List Int} {ns : List Nsp} (h : Right l ns) : Right (app l 0 ns) (und l 0 0 ns) ∧ app (app l 0 ns) 0 (und l 0 0 ns) = l ∧ und (app l 0 ns) 0 0 (und l 0 0 ns) = ns := by
  have h1 := app_und l ns 0 0 [] 0 h.2.1 (Nat.le_refl _) rfl
  rw [List.nil_append, List.drop_zero] at h1
  refine ⟨⟨h.2.2, und_okay l _ ns 0 0 0 h.2.1 (by omega) (Nat.zero_le _), by rw [h1]; exact h.1⟩, h1, ?_⟩
  have := und_und l ns 0 0 [] 0 h.2.1 (Nat.le_refl _) rfl
  rw [List.nil_append] at this
  exact this

/-- The document's way: the last splice first. -/
def appR (l : List Int) : List Nsp → List Int
  | [] => l
  | s :: r => (appR l r).take s.1 ++ s.2.2 ++ (appR l r).drop s.2.1
theorem appR_app (l : List Int) : ∀ (ns : List Nsp) (a lo : Nat), Okay l.length lo ns → a ≤ lo → appR l ns = l.take a ++ app l a ns
  | [], a, _, _, _ => by
    unfold appR app
    rw [List.take_append_drop]
  | s :: r, a, lo, ⟨h1, h2, h3, h4, h5⟩, ha => by
    have ih := appR_app l r s.2.1 _ h5 (by omega)
    unfold appR app
    rw [ih]
    have ht : (l.take s.2.1).length = s.2.1 := by rw [List.length_take]; omega
    have e1 : (l.take s.2.1 ++ app l s.2.1 r).take s.1 = l.take s.1 := by
      rw [List.take_append_of_le_length (by omega), List.take_take, Nat.min_eq_left h2]
    have e2 : (l.take s.2.1 ++ app l s.2.1 r).drop s.2.1 = app l s.2.1 r := by
      rw [List.drop_append_of_le_length (by omega), List.drop_eq_nil_of_le (by omega), List.nil_append]
    rw [e1, e2, ← take_seg l a s.1 (by omega)]
    simp only [List.append_assoc]
theorem appR_len (l : List Int) : ∀ (ns : List Nsp) (lo : Nat), Okay l.length lo ns → (appR l ns).length + sgoes ns = l.length + puts ns
  | ns, lo, h => by
    have h1 := appR_app l ns 0 lo h (Nat.zero_le _)
    have h2 := app_len l 0 ns lo h (Nat.zero_le _) (Nat.zero_le _)
    rw [h1, List.take_zero, List.nil_append]
    omega
theorem okay_take {n : Nat} : ∀ {ns : List Nsp} {lo : Nat} (i : Nat) (s : Nsp), Okay n lo ns → ns[i]? = some s → Okay s.1 lo (ns.take i)
  | [], _, _, _, _, h => by simp at h
  | q :: r, lo, 0, s, _, _ => trivial
  | q :: r, lo, i + 1, s, ⟨h1, h2, h3, h4, h5⟩, h => by
    rw [List.getElem?_cons_succ] at h
    have ih := okay_take i s h5 h
    have hq : q.2.1 + 1 ≤ s.1 := okay_at h5 i h
    rw [List.take_succ_cons]
    exact ⟨h1, h2, by omega, h4, ih⟩
where
  okay_at {n : Nat} : ∀ {ns : List Nsp} {lo : Nat}, Okay n lo ns → ∀ (i : Nat) {s : Nsp}, ns[i]? = some s → lo ≤ s.1
  | [], _, _, _, _, h => by simp at h
  | q :: r, lo, ⟨h1, h2, h3, h4, h5⟩, 0, s, h => by
    simp at h
    subst h
    exact h1
  | q :: r, lo, ⟨h1, h2, h3, h4, h5⟩, i + 1, s, h => by
    rw [List.getElem?_cons_succ] at h
    have := okay_at h5 i h
    omega
theorem Okay.at_ {n : Nat} : ∀ {ns : List Nsp} {lo : Nat}, Okay n lo ns → ∀ (i : Nat) {s : Nsp}, ns[i]? = some s → lo ≤ s.1 ∧ s.1 ≤ s.2.1 ∧ s.2.1 ≤ n
  | [], _, _, _, _, h => by simp at h
  | q :: r, lo, ⟨h1, h2, h3, h4, h5⟩, 0, s, h => by
    simp at h
    subst h
    exact ⟨h1, h2, h3⟩
  | q :: r, lo, ⟨h1, h2, h3, h4, h5⟩, i + 1, s, h => by
    rw [List.getElem?_cons_succ] at h
    have := Okay.at_ h5 i h
    omega
theorem Okay.drop {n : Nat} : ∀ {ns : List Nsp} {lo : Nat} (i : Nat), Okay n lo ns → Okay n lo (ns.drop i)
  | [], _, i, _ => by rw [List.drop_nil]; trivial
  | q :: r, lo, 0, h => h
  | q :: r, lo, i + 1, ⟨h1, h2, h3, h4, h5⟩ => by
    rw [List.drop_succ_cons]
    exact (Okay.drop i h5).less (by omega)
/-- Where a splice stands in what is made: the document's way. -/
theorem und_at (l : List Int) : ∀ (ns : List Nsp) (a m lo i : Nat) (s : Nsp), Okay l.length lo ns → a ≤ lo → ns[i]? = some s →
    (und l a m ns)[i]? = some (m + (app (l.take s.1) a (ns.take i)).length, m + (app (l.take s.1) a (ns.take i)).length + s.2.2.length, seg l s.1 s.2.1)
  | [], _, _, _, _, _, _, _, h => by simp at h
  | q :: r, a, m, lo, 0, s, ⟨h1, h2, h3, h4, h5⟩, ha, h => by
    simp at h
    subst h
    unfold und
    have : (app (l.take q.1) a ((q :: r).take 0)).length = q.1 - a := by
      show ((l.take q.1).drop a).length = _
      rw [List.length_drop, List.length_take]
      omega
    rw [this]
    rfl
  | q :: r, a, m, lo, i + 1, s, ⟨h1, h2, h3, h4, h5⟩, ha, h => by
    rw [List.getElem?_cons_succ] at h
    have ih := und_at l r q.2.1 (m + (q.1 - a) + q.2.2.length) _ i s h5 (by omega) h
    have hs := Okay.at_ h5 i h
    unfold und
    rw [List.getElem?_cons_succ, ih]
    have e : (app (l.take s.1) a ((q :: r).take (i + 1))).length = (q.1 - a) + q.2.2.length + (app (l.take s.1) q.2.1 (r.take i)).length := by
      rw [List.take_succ_cons]
      show (seg (l.take s.1) a q.1 ++ q.2.2 ++ app (l.take s.1) q.2.1 (r.take i)).length = _
      rw [List.length_append, List.length_append, seg_len _ _ _ (by rw [List.length_take]; omega)]
    rw [e]
    congr 2 <;> (try omega)
    congr 1
    omega
theorem und_len (l : List Int) : ∀ (ns : List Nsp) (a m : Nat), (und l a m ns).length = ns.length
  | [], _, _ => rfl
  | s :: r, a, m => by
    unfold und
    rw [List.length_cons, und_len l r, List.length_cons]
end Go.Proofs.Ytpgjaoemkadenab.Plain
