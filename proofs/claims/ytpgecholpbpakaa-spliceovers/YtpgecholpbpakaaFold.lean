/- Rows of splices whose last one still grows. -/
import Derived.Test.YtpgecholpbpakaaRefAt
import Derived.Test.YtpgecholpbpakaaGatherGo
set_option linter.unusedVariables false
set_option linter.unusedSimpArgs false
namespace Go.Proofs.Ytpgecholpbpakaa.Seek
open Go.RowKit Plain

/-- A row of the splices D and one more, that grows: its text lies in blocks from K on, all else below. -/
def GrowX (w : World) (B g c : Nat) (D : List Nsp) (f t : Nat) (x : List Int) (vs : List Value) (a : Option Addr) (cap K : Nat) : Prop :=
  B ≤ K ∧ K ≤ w.heap.size ∧ g < K ∧ vs.length = D.length ∧
    w.ownsRow B 41 3 (.slice (some ⟨g, 0, none⟩) (D.length + 1) c) (D.length + 1) (rowCells (ups (D ++ [(f, t, x)])) (vs ++ [.slice a x.length cap])) ∧
    (∀ j, j < D.length → TextOf w B (some g) (vs.getD j undef) ((ups D).getD j spl0).2.2 ∧ (((ups D).getD j spl0).2.2 = [] ∨ ∀ k, (vs.getD j undef).ownBlock = some k → k < K)) ∧
    OwnI w K (.slice a x.length cap) x
def Grow (w : World) (B g c : Nat) (D : List Nsp) (f t : Nat) (x : List Int) : Prop := ∃ (vs : List Value) (a : Option Addr) (cap K : Nat), GrowX w B g c D f t x vs a cap K
theorem Grow.lt {w : World} {B g c : Nat} {D : List Nsp} {f t : Nat} {x : List Int} (h : Grow w B g c D f t x) : B ≤ g ∧ g < w.heap.size := by
  obtain ⟨vs, a, cap, K, h1, h2, h3, h4, h5, _⟩ := h
  exact h5.lt g rfl
theorem ups_one (D : List Nsp) (s : Nsp) : ups (D ++ [s]) = ups D ++ [up s] := by unfold ups; rw [List.map_append]; rfl
theorem getD_left {α : Type} (l : List α) (x d : α) (j : Nat) (h : j < l.length) : (l ++ [x]).getD j d = l.getD j d := by rw [List.getD_eq_getElem?_getD, List.getD_eq_getElem?_getD, List.getElem?_append_left h]
theorem getD_last {α : Type} (l : List α) (x d : α) (j : Nat) (h : j = l.length) : (l ++ [x]).getD j d = x := by subst h; rw [List.getD_eq_getElem?_getD]; simp
/-- What has grown is a row of splices. -/
theorem Grow.own {w : World} {B g c : Nat} {D : List Nsp} {f t : Nat} {x : List Int} (h : Grow w B g c D f t x) (hx : x.length ≤ 100000) : OwnE w B (.slice (some ⟨g, 0, none⟩) (D.length + 1) c) (ups (D ++ [(f, t, x)])) := by
  obtain ⟨vs, a, cap, K, h1, h2, h3, h4, h5, h6, h7⟩ := h
  have hl : (ups (D ++ [(f, t, x)])).length = D.length + 1 := by rw [ups_len]; simp
  refine ⟨vs ++ [.slice a x.length cap], by rw [hl]; simp [h4], by rw [hl]; exact h5, fun j hj => ?_⟩
  rw [hl] at hj
  show TextOf w B (some g) _ _
  rw [ups_one]
  by_cases hjl : j < D.length
  · rw [getD_left vs _ _ _ (by omega), getD_left _ _ _ _ (by rw [ups_len]; exact hjl)]
    exact (h6 j hjl).1
  · rw [getD_last vs _ _ _ (by omega), getD_last _ _ _ _ (by rw [ups_len]; omega)]
    exact textOf_new (by show x.length * 8 ≤ _; omega) (own_of h7) h1 (fun g' hg => by cases hg; exact h3)
/-- The cells of the last one. -/
theorem GrowX.cells {w : World} {B g c : Nat} {D : List Nsp} {f t : Nat} {x : List Int} {vs : List Value} {a : Option Addr} {cap K : Nat} (h : GrowX w B g c D f t x vs a cap K) :
    w.cell? ⟨g, D.length * 3 + 1, none⟩ = some (.int .i64 (t : Int)) ∧ w.cell? ⟨g, D.length * 3 + 2, none⟩ = some (.slice a x.length cap) ∧ (∀ o, w.frozen? ⟨g, o, none⟩ = false) := by
  obtain ⟨h1, h2, h3, h4, h5, h6, h7⟩ := h
  have hl : (vs ++ [Value.slice a x.length cap]).length = (ups (D ++ [(f, t, x)])).length := by rw [ups_len]; simp [h4]
  obtain ⟨_, e1, e2⟩ := rowCells_at (ups (D ++ [(f, t, x)])) (vs ++ [.slice a x.length cap]) D.length hl (by rw [ups_len]; simp)
  rw [ups_one, getD_last _ _ _ _ (ups_len D).symm] at e1
  rw [getD_last vs _ _ _ h4.symm] at e2
  refine ⟨?_, ?_, fun o => h5.frozenAt o⟩
  · rw [h5.cellAt _ (by omega), ups_one, e1]
    rfl
  · rw [h5.cellAt _ (by omega), e2]
theorem Grow.below {w w' : World} {B g c : Nat} {D : List Nsp} {f t : Nat} {x : List Int} (h : Grow w B g c D f t x) (hb : Below w.heap.size w w') : Grow w' B g c D f t x := by
  obtain ⟨vs, a, cap, K, h1, h2, h3, h4, h5, h6, h7⟩ := h
  exact ⟨vs, a, cap, K, h1, Nat.le_trans h2 hb.size, h3, h4, row3_below h5 hb, fun j hj => ⟨⟨(h6 j hj).1.1, (h6 j hj).1.2.1.below hb, (h6 j hj).1.2.2⟩, (h6 j hj).2⟩, h7.below hb⟩
theorem rowCells_set1 : ∀ (es : List Spl) (vs : List Value) (s : Spl) (t' : Int) (tv : Value), vs.length = es.length → (rowCells (es ++ [s]) (vs ++ [tv])).set (es.length * 3 + 1) (.int .i64 t') = rowCells (es ++ [(s.1, t', s.2.2)]) (vs ++ [tv]) := by
  intro es vs s t' tv h
  rw [rowCells_more es vs s tv h, rowCells_more es vs _ tv h, List.set_append_right _ _ (by rw [rowCells_len es vs h]; omega), rowCells_len es vs h, show es.length * 3 + 1 - es.length * 3 = 1 by omega]
  rfl
theorem rowCells_set2 : ∀ (es : List Spl) (vs : List Value) (s s' : Spl) (tv tv' : Value), vs.length = es.length → s'.1 = s.1 → s'.2.1 = s.2.1 → (rowCells (es ++ [s]) (vs ++ [tv])).set (es.length * 3 + 2) tv' = rowCells (es ++ [s']) (vs ++ [tv']) := by
  intro es vs s s' tv tv' h e1 e2
  rw [rowCells_more es vs s tv h, rowCells_more es vs s' tv' h, List.set_append_right _ _ (by rw [rowCells_len es vs h]; omega), rowCells_len es vs h, show es.length * 3 + 2 - es.length * 3 = 2 by omega, e1, e2]
  rfl
theorem text_blocks {w w' : World} {B K : Nat} {row : Option Nat} {t : Value} {x : List Int} (h : TextOf w B row t x) (hq : x = [] ∨ ∀ k, t.ownBlock = some k → k < K) (hs : w.heap.size ≤ w'.heap.size) (hb : ∀ k, k < K → some k ≠ row → w'.heap[k]? = w.heap[k]?) : TextOf w' B row t x := by
  obtain ⟨h1, h2, h3⟩ := h
  refine ⟨h1, ?_, h3⟩
  rcases h2 with h | ⟨hz, g, cap, hv, hB, hg1, h⟩
  · exact .inl h
  · refine .inr ⟨hz, g, cap, hv, hB, Nat.lt_of_lt_of_le hg1 hs, row_kept h (fun k hk => hb k ((hq.resolve_left hz) k hk) (fun e => (h3.resolve_left hz) (by rw [hk, e])))⟩
/-- Its end moves. -/
theorem Grow.setTo {w : World} {B g c : Nat} {D : List Nsp} {f t : Nat} {x : List Int} (h : Grow w B g c D f t x) (t' : Nat) : Grow (w.setCell ⟨g, D.length * 3 + 1, none⟩ (.int .i64 (t' : Int))) B g c D f t' x := by
  obtain ⟨vs, a, cap, K, h1, h2, h3, h4, h5, h6, h7⟩ := h
  obtain ⟨k1, k2⟩ := h5.stored (D.length * 3 + 1) (.int .i64 (t' : Int))
  have hrow := rowCells_set1 (ups D) vs (up (f, t, x)) (t' : Int) (.slice a x.length cap) (by rw [ups_len]; exact h4)
  rw [← ups_one, ups_len] at hrow
  refine ⟨vs, a, cap, K, h1, Nat.le_trans h2 k2.size, h3, h4, ?_, fun j hj => ⟨text_blocks (h6 j hj).1 (h6 j hj).2 k2.size (fun k hk hr => k2.block k (by omega) hr), (h6 j hj).2⟩, ?_⟩
  · rw [hrow] at k1
    rw [ups_one]
    exact k1
  · exact h7.kept (fun k hk1 hk2 => k2.block k hk2 (fun e => by have := Option.some.inj e; omega))
/-- Its text grows. -/
theorem grow_text {w w1 : World} {B g c : Nat} {D : List Nsp} {f t : Nat} {x y : List Int} {vs : List Value} {a a2 : Option Addr} {cap cap2 K : Nat} (h : GrowX w B g c D f t x vs a cap K)
    (hs : w.heap.size ≤ w1.heap.size) (hb : ∀ k, k < K → w1.heap[k]? = w.heap[k]?) (ho : OwnI w1 K (.slice a2 y.length cap2) y) :
    Grow (w1.setCell ⟨g, D.length * 3 + 2, none⟩ (.slice a2 y.length cap2)) B g c D f t y := by
  obtain ⟨h1, h2, h3, h4, h5, h6, _⟩ := h
  have h5' : w1.ownsRow B 41 3 (.slice (some ⟨g, 0, none⟩) (D.length + 1) c) (D.length + 1) (rowCells (ups (D ++ [(f, t, x)])) (vs ++ [.slice a x.length cap])) := row_kept h5 (fun k hk => by cases hk; exact hb g h3)
  obtain ⟨k1, k2⟩ := h5'.stored (D.length * 3 + 2) (.slice a2 y.length cap2)
  have hrow := rowCells_set2 (ups D) vs (up (f, t, x)) (up (f, t, y)) (.slice a x.length cap) (.slice a2 y.length cap2) (by rw [ups_len]; exact h4) rfl rfl
  rw [← ups_one, ← ups_one, ups_len] at hrow
  refine ⟨vs, a2, cap2, K, h1, Nat.le_trans h2 (Nat.le_trans hs k2.size), h3, h4, ?_, fun j hj => ⟨text_blocks (h6 j hj).1 (h6 j hj).2 (Nat.le_trans hs k2.size) (fun k hk hr => (k2.block k (by omega) hr).trans (hb k hk)), (h6 j hj).2⟩, ?_⟩
  · rw [hrow] at k1
    exact k1
  · exact ho.kept (fun k hk1 hk2 => k2.block k hk2 (fun e => by have := Option.some.inj e; omega))
/-- One number more, as a step of a region that draws its order. -/
theorem step_push {ops : Array Oper} {o : Oper} {a : Act} {w : World} {K : Act → World → Prop} {Q : Exit → Act → World → Prop} {E : Prop} (hgd : o.guard = none) (s x : Operand)
    (ho : o.op = .call { callee := .builtin .append, args := #[s, x], argTypes := #[22, 22] }) (B : Nat) (v : Value) (xs zs : List Int) (c : Int) (g0 : Nat) (hz : zs = xs ++ [c])
    (hs : a.eval s = v) (hown : OwnI w B v xs) (hx : a.eval x = .slice (some ⟨g0, 0, none⟩) 1 1) (hc : w.cell? ⟨g0, 0, none⟩ = some (.int .i64 c)) (hle : xs.length ≤ 100000) (hB : B ≤ w.heap.size)
    (h : ∀ v' w', OwnI w' B v' zs → w.grownBy w' v.ownBlock → K (a.put o.dst v') w') :
    if Region.wanted o (yielded ops a.tmps) = true then Oper.wp Try.prog o a w K Q else E := by
  have hw : Region.wanted o (yielded ops a.tmps) = true := by simp [Region.wanted, hgd]
  rw [if_pos hw]
  subst hz
  obtain ⟨i0, hi, hz0, hz1, hz2⟩ := info_parts info3
  obtain ⟨v', w', hr, g1, g2, g3, g4⟩ := run_append_own_at (P := Try.prog) w B 22 o.type 3 i0 (.int .i64 0) 1 8 Try.underlying22 hi hz0 hz1 hz2 rfl (by decide) v xs.length (ints xs) hown ⟨g0, 0, none⟩ 1 1
    [.int .i64 c] rfl (fun j u hj => by
      match j, hj with
      | 0, hj => simp at hj; subst hj; exact hc
      | j + 1, hj => simp at hj) (fun u hu => by simp at hu; subst hu; rfl) (by unfold maxLen; omega) (by omega) hB
  unfold Oper.wp execOp
  simp only [ho, resolve, invoke, builtin, Sem.run_bind, Sem.run_pure, Result.andThen_ok, List.map_toArray, List.map_cons, List.map_nil, hs, hx, hr]
  exact h v' w' (by unfold OwnI; rw [ints_append, List.length_append]; exact g1) g2
/-- One splice with no text more. -/
theorem grow_new {w : World} {o : Oper} {a : Act} {K : Act → World → Prop} {Q : Exit → Act → World → Prop} (s x : Operand)
    (ho : o.op = .call { callee := .builtin .append, args := #[s, x], argTypes := #[23, 23] }) (B : Nat) (v : Value) (D : List Nsp) (p g0 : Nat)
    (hs : a.eval s = v) (hown : OwnE w B v (ups D)) (hx : a.eval x = .slice (some ⟨g0, 0, none⟩) 1 1) (hbox : Boxed w g0 (p : Int) (p : Int) (.slice none 0 0)) (hle : D.length ≤ 100000) (hB : B ≤ w.heap.size)
    (h : ∀ g c vs w', GrowX w' B g c D p p [] vs none 0 w'.heap.size → (some g = v.ownBlock ∨ g = w.heap.size) → w.grownBy w' v.ownBlock → K (a.put o.dst (.slice (some ⟨g, 0, none⟩) (D.length + 1) c)) w') : Oper.wp Try.prog o a w K Q := by
  obtain ⟨i0, hi, hz0, hz1, hz2⟩ := info_parts info41
  obtain ⟨vs, h1, h2, h3⟩ := hown
  obtain ⟨b0, b1, b2, b3⟩ := hbox
  have hnews : ∀ j u, ([.int .i64 (p : Int), .int .i64 (p : Int), .slice none 0 0] : List Value)[j]? = some u → w.cell? ((⟨g0, 0, none⟩ : Addr).add j) = some u := by
    intro j u hj
    match j, hj with
    | 0, hj => simp at hj; subst hj; exact b1
    | 1, hj => simp at hj; subst hj; exact b2
    | 2, hj => simp at hj; subst hj; exact b3
    | j + 3, hj => simp at hj
  have hone : ∀ u ∈ ([.int .i64 (p : Int), .int .i64 (p : Int), .slice none 0 0] : List Value), u.oneCell' = true := by
    intro u hu
    simp at hu
    rcases hu with rfl | rfl | rfl <;> rfl
  have hul := ups_len D
  obtain ⟨v', w', hr, g1, g2, g3, g4⟩ := run_append_own_at (P := Try.prog) w B 23 o.type 41 i0 (Value.agg #[.int .i64 0, .int .i64 0, .slice none 0 0]) 3 40 Try.underlying23 hi hz0 hz1 hz2 rfl (by decide) v (ups D).length (rowCells (ups D) vs) h2 ⟨g0, 0, none⟩ 1 1
    [.int .i64 (p : Int), .int .i64 (p : Int), .slice none 0 0] rfl hnews hone (by unfold maxLen; omega) (by omega) hB
  unfold Oper.wp execOp
  simp only [ho, resolve, invoke, builtin, Sem.run_bind, Sem.run_pure, Result.andThen_ok, List.map_toArray, List.map_cons, List.map_nil, hs, hx, hr]
  rw [hul] at g1
  have g1' := g1
  rcases g1.2 with ⟨_, h0⟩ | ⟨g, c, cur, hv', hBg, hgb, _⟩
  · omega
  have hgl : g < w'.heap.size := (Array.getElem?_eq_some_iff.1 hgb).1
  have hvb : v'.ownBlock = some g := by rw [hv']; rfl
  rw [hvb] at g4
  subst hv'
  refine h g c vs w' ⟨Nat.le_trans hB g2.size, Nat.le_refl _, hgl, by rw [h1, hul], ?_, fun j hj => ?_, ownI_nil _ _⟩ (by
    rcases g4 with h | h
    · exact .inl h
    · exact .inr (Option.some.inj h)) g2
  · rw [ups_one, rowCells_more (ups D) vs _ _ h1]
    exact g1'
  · have hT2 : TextOf w' B (some g) (vs.getD j undef) ((ups D).getD j spl0).2.2 := (h3 j (by rw [hul]; exact hj)).kept g2 g4
    refine ⟨hT2, ?_⟩
    by_cases hz : ((ups D).getD j spl0).2.2 = []
    · exact .inl hz
    · refine .inr (fun k hk => ?_)
      obtain ⟨g9, hg9, _, hlt9⟩ := own_block hT2.2.1 hz
      rw [hg9] at hk
      have := Option.some.inj hk
      omega
theorem append_new {w : World} {ops : Array Oper} {rest : List Oper} {o : Oper} {a : Act} {Q : Exit → Act → World → Prop} (hgd : o.guard = none) (s x : Operand)
    (ho : o.op = .call { callee := .builtin .append, args := #[s, x], argTypes := #[23, 23] }) (B : Nat) (v : Value) (D : List Nsp) (p g0 : Nat)
    (hs : a.eval s = v) (hown : OwnE w B v (ups D)) (hx : a.eval x = .slice (some ⟨g0, 0, none⟩) 1 1) (hbox : Boxed w g0 (p : Int) (p : Int) (.slice none 0 0)) (hle : D.length ≤ 100000) (hB : B ≤ w.heap.size)
    (h : ∀ g c vs w', GrowX w' B g c D p p [] vs none 0 w'.heap.size → (some g = v.ownBlock ∨ g = w.heap.size) → w.grownBy w' v.ownBlock → wpList Try.prog ops Q rest (a.put o.dst (.slice (some ⟨g, 0, none⟩) (D.length + 1) c)) w') : wpList Try.prog ops Q (o :: rest) a w :=
  wpList_plain hgd fun _ hK => grow_new s x ho B v D p g0 hs hown hx hbox hle hB fun g c vs w' h1 h2 h3 => hK _ _ (h g c vs w' h1 h2 h3)
end Go.Proofs.Ytpgecholpbpakaa.Seek
