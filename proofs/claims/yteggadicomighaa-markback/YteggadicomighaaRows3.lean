/- Rows of splices of the call's own; one splice more. -/
import Derived.Test.YteggadicomighaaAppends
set_option linter.unusedVariables false
set_option linter.unusedSimpArgs false
namespace Go.Proofs.Yteggadicomighaa.Seek
open Go.RowKit Plain
theorem info41 : (Try.prog.info? 37).map (fun i => (i.zero, i.size, i.bytes)) = some (some (Value.agg #[.int .i64 0, .int .i64 0, .slice none 0 0]), 3, 40) := by kernel_rfl

/-- The cells of splices whose texts lie in vs. -/
def rowCells : List Spl → List Value → List Value
  | s :: r, v :: vs => .int .i64 s.1 :: .int .i64 s.2.1 :: v :: rowCells r vs
  | _, _ => []
theorem rowCells_len : ∀ (es : List Spl) (vs : List Value), vs.length = es.length → (rowCells es vs).length = es.length * 3
  | [], [], _ => rfl
  | s :: r, v :: vs, h => by
    unfold rowCells
    have := rowCells_len r vs (by simpa using h)
    simp only [List.length_cons, this]
    omega
theorem rowCells_more : ∀ (es : List Spl) (vs : List Value) (s : Spl) (t : Value), vs.length = es.length → rowCells (es ++ [s]) (vs ++ [t]) = rowCells es vs ++ [.int .i64 s.1, .int .i64 s.2.1, t]
  | [], [], _, _, _ => rfl
  | q :: r, v :: vs, s, t, h => by
    have := rowCells_more r vs s t (by simpa using h)
    show rowCells (q :: (r ++ [s])) (v :: (vs ++ [t])) = _
    unfold rowCells
    rw [this]
    rfl
theorem rowCells_at : ∀ (es : List Spl) (vs : List Value) (j : Nat), vs.length = es.length → j < es.length →
    (rowCells es vs)[j * 3]? = some (.int .i64 (es.getD j spl0).1) ∧ (rowCells es vs)[j * 3 + 1]? = some (.int .i64 (es.getD j spl0).2.1) ∧ (rowCells es vs)[j * 3 + 2]? = some (vs.getD j undef)
  | [], _, _, _, h => by cases h
  | q :: r, v :: vs, 0, _, _ => ⟨rfl, rfl, rfl⟩
  | q :: r, v :: vs, j + 1, hl, h => by
    have := rowCells_at r vs j (by simpa using hl) (by simpa using h)
    unfold rowCells
    rw [show (j + 1) * 3 = j * 3 + 3 by omega]
    simpa using this
theorem rowCells_one : ∀ (es : List Spl) (vs : List Value), (∀ v ∈ vs, v.oneCell' = true) → ∀ u ∈ rowCells es vs, u.oneCell' = true
  | [], _, _, u, h => by unfold rowCells at h; cases h
  | s :: r, [], _, u, h => by unfold rowCells at h; cases h
  | s :: r, v :: vs, hv, u, h => by
    unfold rowCells at h
    rcases List.mem_cons.1 h with rfl | h
    · rfl
    · rcases List.mem_cons.1 h with rfl | h
      · rfl
      · rcases List.mem_cons.1 h with rfl | h
        · exact hv _ (List.mem_cons_self ..)
        · exact rowCells_one r vs (fun v hm => hv v (List.mem_cons_of_mem _ hm)) u h

/-- A text of the call's own, beside a row. -/
def TextOf (w : World) (B : Nat) (row : Option Nat) (t : Value) (x : List Int) : Prop := Mild x ∧ Own w B t x ∧ (x = [] ∨ t.ownBlock ≠ row)
/-- A row of splices of the call's own, with texts of its own. -/
def OwnE (w : World) (B : Nat) (v : Value) (es : List Spl) : Prop :=
  ∃ vs : List Value, vs.length = es.length ∧ w.ownsRow B 37 3 v es.length (rowCells es vs) ∧ ∀ j, j < es.length → TextOf w B v.ownBlock (vs.getD j undef) (es.getD j spl0).2.2
theorem ownE_nil (w : World) (B : Nat) : OwnE w B (.slice none 0 0) [] := ⟨[], rfl, World.ownsRow_nil _ _ _ _, fun j hj => by cases hj⟩
theorem Own.shape {w : World} {B : Nat} {v : Value} {zs : List Int} (h : Own w B v zs) : ∃ a cap, v = .slice a zs.length cap := h.reads.shape
theorem own_block {w : World} {B : Nat} {v : Value} {zs : List Int} (h : Own w B v zs) (hz : zs ≠ []) : ∃ g, v.ownBlock = some g ∧ B ≤ g ∧ g < w.heap.size := by
  rcases h with ⟨_, _, _, h⟩ | ⟨_, g, cap, rfl, h1, h2, _⟩
  · exact absurd h hz
  · exact ⟨g, rfl, h1, h2⟩
theorem row3_below {w w' : World} {B : Nat} {v : Value} {n : Nat} {xs : List Value} (h : w.ownsRow B 37 3 v n xs) (hb : Below w.heap.size w w') : w'.ownsRow B 37 3 v n xs := by
  refine ⟨h.1, ?_⟩
  rcases h.2 with hn | ⟨g, cap, cur, hv, hB, hg, rest⟩
  · exact .inl hn
  · exact .inr ⟨g, cap, cur, hv, hB, (hb.block g (Array.getElem?_eq_some_iff.1 hg).1).trans hg, rest⟩
theorem row3_less {w : World} {B B' : Nat} {v : Value} {n : Nat} {xs : List Value} (h : w.ownsRow B 37 3 v n xs) (hb : B' ≤ B) : w.ownsRow B' 37 3 v n xs := by
  refine ⟨h.1, ?_⟩
  rcases h.2 with hn | ⟨g, cap, cur, hv, hB, rest⟩
  · exact .inl hn
  · exact .inr ⟨g, cap, cur, hv, by omega, rest⟩
theorem OwnE.below {w w' : World} {B : Nat} {v : Value} {es : List Spl} (h : OwnE w B v es) (hb : Below w.heap.size w w') : OwnE w' B v es := by
  obtain ⟨vs, h1, h2, h3⟩ := h
  exact ⟨vs, h1, row3_below h2 hb, fun j hj => ⟨(h3 j hj).1, (h3 j hj).2.1.below hb, (h3 j hj).2.2⟩⟩
theorem OwnE.less {w : World} {B B' : Nat} {v : Value} {es : List Spl} (h : OwnE w B v es) (hb : B' ≤ B) : OwnE w B' v es := by
  obtain ⟨vs, h1, h2, h3⟩ := h
  exact ⟨vs, h1, row3_less h2 hb, fun j hj => ⟨(h3 j hj).1, (h3 j hj).2.1.less hb, (h3 j hj).2.2⟩⟩
theorem OwnE.lt {w : World} {B : Nat} {v : Value} {es : List Spl} (h : OwnE w B v es) : ∀ k, v.ownBlock = some k → B ≤ k ∧ k < w.heap.size := by
  obtain ⟨vs, h1, h2, h3⟩ := h
  exact h2.lt
/-- A row of splices of the call's own can be read. -/
theorem OwnE.reads {w : World} {B : Nat} {v : Value} {es : List Spl} (h : OwnE w B v es) : ReadsE w v es := by
  obtain ⟨vs, h1, h2, h3⟩ := h
  have h2' := h2
  rcases h2.2 with ⟨rfl, h0⟩ | ⟨g, cap, cur, rfl, hb, hg, hn, hm, hsz, htake⟩
  · exact .inl ⟨none, 0, rfl, List.length_eq_zero_iff.1 h0⟩
  · refine .inr ⟨g, 0, cap, rfl, hn, hm, (Array.getElem?_eq_some_iff.1 hg).1, fun j hj => ?_⟩
    obtain ⟨e0, e1, e2⟩ := rowCells_at es vs j h1 hj
    obtain ⟨t1, t2, t3⟩ := h3 j hj
    obtain ⟨a, c, hv⟩ := t2.shape
    rw [Nat.zero_add]
    refine ⟨?_, ?_, t1, a, c, ?_, ?_⟩
    · rw [h2'.cellAt (j * 3) (by omega), e0]
    · rw [h2'.cellAt (j * 3 + 1) (by omega), e1]
    · rw [h2'.cellAt (j * 3 + 2) (by omega), e2, hv]
    · rw [← hv]
      exact t2.reads
/-- What lies apart from a row that grew is as it was. -/
theorem TextOf.kept {w w' : World} {B : Nat} {row row' : Option Nat} {t : Value} {x : List Int} (h : TextOf w B row t x) (hg : w.grownBy w' row) (hr : row' = row ∨ row' = some w.heap.size) : TextOf w' B row' t x := by
  obtain ⟨h1, h2, h3⟩ := h
  refine ⟨h1, ?_, ?_⟩
  · rcases h2 with h | ⟨hz, g, cap, hv, hB, hg1, h⟩
    · exact .inl h
    · exact .inr ⟨hz, g, cap, hv, hB, Nat.lt_of_lt_of_le hg1 hg.size, h.kept hg (.inr (h3.resolve_left hz))⟩
  · by_cases hz : x = []
    · exact .inl hz
    · refine .inr ?_
      obtain ⟨g, hgb, _, hlt⟩ := own_block h2 hz
      rcases hr with rfl | rfl
      · exact h3.resolve_left hz
      · rw [hgb]
        intro h
        have := Option.some.inj h
        omega
/-- One splice more behind a row of the call's own. -/
theorem wp_append_spl {w : World} {o : Oper} {a : Act} {K : Act → World → Prop} {Q : Exit → Act → World → Prop} (s x : Operand)
    (ho : o.op = .call { callee := .builtin .append, args := #[s, x], argTypes := #[22, 22] }) (B : Nat) (v : Value) (es : List Spl) (g0 c0 : Nat) (f t : Int) (tv : Value) (txt : List Int) (es' : List Spl) (he : es' = es ++ [(f, t, txt)])
    (hs : a.eval s = v) (hown : OwnE w B v es) (hx : a.eval x = .slice (some ⟨g0, 0, none⟩) 1 c0) (hbox : Boxed w g0 f t tv) (htx : TextOf w B v.ownBlock tv txt) (hle : es.length ≤ 1000000) (hB : B ≤ w.heap.size)
    (h : ∀ v' w', OwnE w' B v' es' → w.grownBy w' v.ownBlock → (v'.ownBlock = v.ownBlock ∨ v'.ownBlock = some w.heap.size) → K (a.put o.dst v') w') : Oper.wp Try.prog o a w K Q := by
  subst he
  obtain ⟨i0, hi, hz0, hz1, hz2⟩ := info_parts info41
  obtain ⟨vs, h1, h2, h3⟩ := hown
  obtain ⟨b0, b1, b2, b3⟩ := hbox
  have hnews : ∀ j u, ([.int .i64 f, .int .i64 t, tv] : List Value)[j]? = some u → w.cell? ((⟨g0, 0, none⟩ : Addr).add j) = some u := by
    intro j u hj
    match j, hj with
    | 0, hj => simp at hj; subst hj; exact b1
    | 1, hj => simp at hj; subst hj; exact b2
    | 2, hj => simp at hj; subst hj; exact b3
    | j + 3, hj => simp at hj
  have hone : ∀ u ∈ ([.int .i64 f, .int .i64 t, tv] : List Value), u.oneCell' = true := by
    intro u hu
    obtain ⟨a, c, hv⟩ := htx.2.1.shape
    simp at hu
    rcases hu with rfl | rfl | rfl
    · rfl
    · rfl
    · rw [hv]; rfl
  obtain ⟨v', w', hr, g1, g2, g3, g4⟩ := run_append_own_at (P := Try.prog) w B 22 o.type 37 i0 (Value.agg #[.int .i64 0, .int .i64 0, .slice none 0 0]) 3 40 Try.underlying22 hi hz0 hz1 hz2 rfl (by decide) v es.length (rowCells es vs) h2 ⟨g0, 0, none⟩ 1 c0
    [.int .i64 f, .int .i64 t, tv] rfl hnews hone (by unfold maxLen; omega) (by omega) hB
  unfold Oper.wp execOp
  simp only [ho, resolve, invoke, builtin, Sem.run_bind, Sem.run_pure, Result.andThen_ok, List.map_toArray, List.map_cons, List.map_nil, hs, hx, hr]
  refine h v' w' ⟨vs ++ [tv], by simp [h1], ?_, fun j hj => ?_⟩ g2 g4
  · rw [rowCells_more es vs _ _ h1, List.length_append]
    exact g1
  · by_cases hjl : j < es.length
    · have e1 : (vs ++ [tv]).getD j undef = vs.getD j undef := by
        rw [List.getD_eq_getElem?_getD, List.getD_eq_getElem?_getD, List.getElem?_append_left (by omega)]
      have e2 : (es ++ [(f, t, txt)]).getD j spl0 = es.getD j spl0 := by
        rw [List.getD_eq_getElem?_getD, List.getD_eq_getElem?_getD, List.getElem?_append_left hjl]
      rw [e1, e2]
      exact (h3 j hjl).kept g2 g4
    · obtain rfl : j = es.length := by simp at hj; omega
      have e1 : (vs ++ [tv]).getD es.length undef = tv := by
        rw [← h1, List.getD_eq_getElem?_getD]
        simp
      have e2 : (es ++ [(f, t, txt)]).getD es.length spl0 = (f, t, txt) := by
        rw [List.getD_eq_getElem?_getD]
        simp
      rw [e1, e2]
      exact htx.kept g2 g4
theorem append_spl {w : World} {ops : Array Oper} {rest : List Oper} {o : Oper} {a : Act} {Q : Exit → Act → World → Prop} (hgd : o.guard = none) (s x : Operand)
    (ho : o.op = .call { callee := .builtin .append, args := #[s, x], argTypes := #[22, 22] }) (B : Nat) (v : Value) (es : List Spl) (g0 c0 : Nat) (f t : Int) (tv : Value) (txt : List Int) (es' : List Spl) (he : es' = es ++ [(f, t, txt)])
    (hs : a.eval s = v) (hown : OwnE w B v es) (hx : a.eval x = .slice (some ⟨g0, 0, none⟩) 1 c0) (hbox : Boxed w g0 f t tv) (htx : TextOf w B v.ownBlock tv txt) (hle : es.length ≤ 1000000) (hB : B ≤ w.heap.size)
    (h : ∀ v' w', OwnE w' B v' es' → w.grownBy w' v.ownBlock → (v'.ownBlock = v.ownBlock ∨ v'.ownBlock = some w.heap.size) → wpList Try.prog ops Q rest (a.put o.dst v') w') : wpList Try.prog ops Q (o :: rest) a w :=
  wpList_plain hgd fun _ hK => wp_append_spl s x ho B v es g0 c0 f t tv txt es' he hs hown hx hbox htx hle hB fun v' w' h1 h2 h3 => hK _ _ (h v' w' h1 h2 h3)
theorem step_spl {ops : Array Oper} {o : Oper} {a : Act} {w : World} {K : Act → World → Prop} {Q : Exit → Act → World → Prop} {E : Prop} (hgd : o.guard = none) (s x : Operand)
    (ho : o.op = .call { callee := .builtin .append, args := #[s, x], argTypes := #[22, 22] }) (B : Nat) (v : Value) (es : List Spl) (g0 c0 : Nat) (f t : Int) (tv : Value) (txt : List Int) (es' : List Spl) (he : es' = es ++ [(f, t, txt)])
    (hs : a.eval s = v) (hown : OwnE w B v es) (hx : a.eval x = .slice (some ⟨g0, 0, none⟩) 1 c0) (hbox : Boxed w g0 f t tv) (htx : TextOf w B v.ownBlock tv txt) (hle : es.length ≤ 1000000) (hB : B ≤ w.heap.size)
    (h : ∀ v' w', OwnE w' B v' es' → w.grownBy w' v.ownBlock → (v'.ownBlock = v.ownBlock ∨ v'.ownBlock = some w.heap.size) → K (a.put o.dst v') w') :
    if Region.wanted o (yielded ops a.tmps) = true then Oper.wp Try.prog o a w K Q else E := by
  have hw : Region.wanted o (yielded ops a.tmps) = true := by simp [Region.wanted, hgd]
  rw [if_pos hw]
  exact wp_append_spl s x ho B v es g0 c0 f t tv txt es' he hs hown hx hbox htx hle hB h
/-- A part from the front of a row of splices. -/
theorem ReadsE.front {w : World} {a : Option Addr} {es : List Spl} {cap : Nat} (h : ReadsE w (.slice a es.length cap) es) (i : Nat) (hi : i ≤ es.length) : ReadsE w (.slice a i cap) (es.take i) := by
  rcases h with ⟨_, _, _, rfl⟩ | ⟨b, off, c, hv, g1, g2, g3, g4⟩
  · obtain rfl : i = 0 := by simpa using hi
    exact .inl ⟨_, _, rfl, rfl⟩
  · cases hv
    have hl : (es.take i).length = i := by rw [List.length_take]; omega
    refine .inr ⟨b, off, cap, by rw [hl], by omega, g2, g3, fun j hj => ?_⟩
    rw [hl] at hj
    have := g4 j (by omega)
    rw [show (es.take i).getD j spl0 = es.getD j spl0 by rw [List.getD_eq_getElem?_getD, List.getD_eq_getElem?_getD, List.getElem?_take, if_pos hj]]
    exact this

theorem copied_any (v : Value) (zs : List Int) (w : World) (h : Reads w v zs) (hr : zs.length * 8 ≤ 140737488355328) :
    Calls Try.prog 24 #[v] w fun e w' => Below w.heap.size w w' ∧ ∃ v', e = .returned v' ∧ OwnI w' w.heap.size v' zs := by
  have H : Hid (Reads w v zs) := h
  clear h
  go_enter Try.func24, Try.ntmps24
  go_wp2_with (at_builtin; refine append_any rfl _ _ rfl w.heap.size (.slice none 0 0) _ [] zs zs rfl rfl (ownI_nil _ _) rfl H.out (by simpa using hr) (Nat.le_refl _) ?_)
  intro v2 w2 ho2 hg2 _
  have HB : Hid (Below w.heap.size w w2) := (Below.refl _ _).grown hg2 (Nat.le_refl _) (fun j hj => by cases hj)
  have HO : Hid (OwnI w2 w.heap.size v2 zs) := ho2
  clear ho2 hg2
  go_wp2_with fail
  go_ret
  exact ⟨HB.out, _, rfl, HO.out⟩
end Go.Proofs.Yteggadicomighaa.Seek
