/- Texts of one claim, one behind the other: Appends, Rows3, SameGo. -/
import Derived.Test.YtpgjaoemkadenabM08
import Derived.OwnWalk
import Derived.Maps.AppendAt
import Derived.Test.YtpgjaoemkadenabM02
/- Appends behind a row of the call's own: numbers. -/
set_option linter.unusedVariables false
set_option linter.unusedSimpArgs false
set_option maxRecDepth 100000
namespace Go.Proofs.Ytpgjaoemkadenab.Seek
open Go.RowKit Plain
theorem ints_append (a b : List Int) : ints (a ++ b) = ints a ++ ints b := by unfold ints; rw [List.map_append]
theorem reads_cells {w : World} {b off : Nat} {ys : List Int} (hc : ∀ j, j < ys.length → w.cell? ⟨b, off + j, none⟩ = some (.int .i64 (ys.getD j 0))) :
    ∀ j u, (ints ys)[j]? = some u → w.cell? ((⟨b, off, none⟩ : Addr).add j) = some u := by
  intro j u hj
  unfold ints at hj
  rw [List.getElem?_map] at hj
  by_cases hjl : j < ys.length
  · rw [List.getElem?_eq_getElem hjl] at hj
    have h1 := hc j hjl
    rw [List.getD_eq_getElem?_getD, List.getElem?_eq_getElem hjl] at h1
    have e : (⟨b, off, none⟩ : Addr).add j = ⟨b, off + j, none⟩ := by
      simp only [Addr.add]
      split <;> simp_all
    rw [e, h1]
    simpa using hj
  · rw [List.getElem?_eq_none (by omega)] at hj
    cases hj
theorem ints_one (ys : List Int) : ∀ u ∈ ints ys, u.oneCell' = true := by
  intro u hu
  unfold ints at hu
  obtain ⟨z, _, rfl⟩ := List.mem_map.1 hu
  rfl
/-- Some numbers behind an owned row. -/
theorem append_any {w : World} {ops : Array Oper} {rest : List Oper} {o : Oper} {a : Act} {Q : Exit → Act → World → Prop} (hgd : o.guard = none) (s x : Operand)
    (ho : o.op = .call { callee := .builtin .append, args := #[s, x], argTypes := #[22, 22] }) (B : Nat) (v v2 : Value) (xs ys zs : List Int) (hz : zs = xs ++ ys)
    (hs : a.eval s = v) (hown : OwnI w B v xs) (hx : a.eval x = v2) (hr : Reads w v2 ys) (hle : (xs.length + ys.length) * 8 ≤ 140737488355328) (hB : B ≤ w.heap.size)
    (h : ∀ v' w', OwnI w' B v' zs → w.grownBy w' v.ownBlock → (v'.ownBlock = v.ownBlock ∨ v'.ownBlock = some w.heap.size) → wpList Try.prog ops Q rest (a.put o.dst v') w') : wpList Try.prog ops Q (o :: rest) a w := by
  subst hz
  obtain ⟨i0, hi, hz0, hz1, hz2⟩ := info_parts info3
  rcases hr with ⟨a2, c2, rfl, rfl⟩ | ⟨b, off, c2, rfl, _, _, _, hc⟩
  · have h2 : ∃ d cap, v = .slice d xs.length cap ∧ xs.length ≤ cap := by
      rcases hown.2 with ⟨rfl, h0⟩ | ⟨g, cap, cur, rfl, hb, hg, hn, hm, hsz, htake⟩
      · exact ⟨none, 0, by rw [h0], by omega⟩
      · exact ⟨_, cap, rfl, hn⟩
    obtain ⟨d, cap, rfl, hn⟩ := h2
    refine wpList_append_run hgd s x 22 22 ho _ _ _ w hs hx (fun ty => run_append_zero w _ _ _ a2 c2 hn ty) ?_
    exact h _ w (by show OwnI _ _ _ _; rw [List.append_nil]; exact hown) (grown_refl _ _) (.inl rfl)
  · refine wpList_append_own_at w hgd s x 22 ho B 3 i0 (.int .i64 0) 1 8 Try.underlying22 hi hz0 hz1 hz2 rfl (by decide) v xs.length (ints xs) hs hown ⟨b, off, none⟩ ys.length c2 (ints ys) hx (by rw [ints_len, Nat.mul_one]) (reads_cells hc) (ints_one ys) (by unfold maxLen; omega) hle hB ?_
    intro v' w' h1 h2 _ h4
    exact h v' w' (by unfold OwnI; rw [ints_append, List.length_append]; exact h1) h2 h4
/-- A part of a slice that can be read, whatever lies behind its address. -/
theorem reads_slice {w : World} {a : Option Addr} {zs : List Int} {cap : Nat} (h : Reads w (.slice a zs.length cap) zs) (lo hi : Nat) (h1 : lo ≤ hi) (h2 : hi ≤ zs.length) :
    Reads w (.slice (if cap = lo then a else Option.map (fun x => x.add lo) a) (hi - lo) (cap - lo)) (seg zs lo hi) := by
  by_cases h0 : hi - lo = 0
  · refine .inl ⟨_, _, by rw [h0], ?_⟩
    unfold seg
    rw [h0, List.take_zero]
  · rcases h with ⟨_, _, _, rfl⟩ | ⟨b, off, c, hv, g1, g2, g3, g4⟩
    · simp at h2
      omega
    · cases hv
      rw [if_neg (by omega)]
      have := reads_part g4 g3 lo (hi - lo) (cap - lo) (by omega) (by omega) (by omega)
      have e : (⟨b, off, none⟩ : Addr).add lo = ⟨b, off + lo, none⟩ := by
        simp only [Addr.add]
        split <;> simp_all
      simp only [Option.map_some, e]
      exact this
theorem Reads.cap_le {w : World} {a : Option Addr} {zs : List Int} {cap : Nat} (h : Reads w (.slice a zs.length cap) zs) : zs.length ≤ cap := by
  rcases h with ⟨_, _, _, rfl⟩ | ⟨b, off, c, hv, g1, g2, g3, g4⟩
  · exact Nat.zero_le _
  · cases hv
    exact g1
theorem Boxed.grown {w w' : World} {b : Nat} {f t : Int} {v : Value} {row : Option Nat} (h : Boxed w b f t v) (hg : w.grownBy w' row) (hne : row ≠ some b) : Boxed w' b f t v := by
  have hb := hg.block b h.1 (Ne.symm hne)
  exact ⟨Nat.lt_of_lt_of_le h.1 hg.size, (World.cell?_of_block (by exact hb)).trans h.2.1, (World.cell?_of_block (by exact hb)).trans h.2.2.1, (World.cell?_of_block (by exact hb)).trans h.2.2.2⟩
/-- The k-th splice of a right edit. -/
theorem ups_at (ns : List Nsp) (k : Nat) (h : k < ns.length) : ∃ s, ns.drop k = s :: ns.drop (k + 1) ∧ (ups ns).getD k spl0 = sup s ∧ ns[k]? = some s := by
  refine ⟨ns[k], List.drop_eq_getElem_cons h, ?_, List.getElem?_eq_getElem h⟩
  unfold ups
  rw [List.getD_eq_getElem?_getD, List.getElem?_map, List.getElem?_eq_getElem h]
  rfl
theorem ReadsE.each {w : World} {a : Option Addr} {es : List Spl} {cap : Nat} (h : ReadsE w (.slice a es.length cap) es) :
    ∀ k, k < es.length → ∃ b off, a = some ⟨b, off, none⟩ ∧ b < w.heap.size ∧ SplAt w b (off + k * 3) (es.getD k spl0) := by
  intro k hk
  rcases h with ⟨_, _, _, rfl⟩ | ⟨b, off, c, hv, _, _, hb, hc⟩
  · cases hk
  · cases hv
    exact ⟨b, off, rfl, hb, hc k hk⟩
end Go.Proofs.Ytpgjaoemkadenab.Seek

/- Rows of splices of the call's own; one splice more. -/
set_option linter.unusedVariables false
set_option linter.unusedSimpArgs false
set_option maxRecDepth 100000
namespace Go.Proofs.Ytpgjaoemkadenab.Seek
open Go.RowKit Plain
theorem info41 : (Try.prog.info? 68).map (fun i => (i.zero, i.size, i.bytes)) = some (some (Value.agg #[.int .i64 0, .int .i64 0, .slice none 0 0]), 3, 40) := by kernel_rfl

/-- The cells of splices whose texts lie in vs. -/
def rowCells : List Spl → List Value → List Value
  | s :: r, v :: vs => .int .i64 s.1 :: .int .i64 s.2.1 :: v :: rowCells r vs
  | _, _ => []
theorem rowCells_len : ∀ (es : List Spl) (vs : List Value), vs.length = es.length → (rowCells es vs).length = es.length * 3
  | [], [], _ => rfl
  | s :: r, v :: vs, h => by
    unfold rowCells
    have := rowCells_len r vs (by simpa using h)
    simp only [List.length_cons, this]
    omega
theorem rowCells_more : ∀ (es : List Spl) (vs : List Value) (s : Spl) (t : Value), vs.length = es.length → rowCells (es ++ [s]) (vs ++ [t]) = rowCells es vs ++ [.int .i64 s.1, .int .i64 s.2.1, t]
  | [], [], _, _, _ => rfl
  | q :: r, v :: vs, s, t, h => by
    have := rowCells_more r vs s t (by simpa using h)
    show rowCells (q :: (r ++ [s])) (v :: (vs ++ [t])) = _
    unfold rowCells
    rw [this]
    rfl
theorem rowCells_at : ∀ (es : List Spl) (vs : List Value) (j : Nat), vs.length = es.length → j < es.length →
    (rowCells es vs)[j * 3]? = some (.int .i64 (es.getD j spl0).1) ∧ (rowCells es vs)[j * 3 + 1]? = some (.int .i64 (es.getD j spl0).2.1) ∧ (rowCells es vs)[j * 3 + 2]? = some (vs.getD j undef)
  | [], _, _, _, h => by cases h
  | q :: r, v :: vs, 0, _, _ => ⟨rfl, rfl, rfl⟩
  | q :: r, v :: vs, j + 1, hl, h => by
    have := rowCells_at r vs j (by simpa using hl) (by simpa using h)
    unfold rowCells
    rw [show (j + 1) * 3 = j * 3 + 3 by omega]
    simpa using this
theorem rowCells_one : ∀ (es : List Spl) (vs : List Value), (∀ v ∈ vs, v.oneCell' = true) → ∀ u ∈ rowCells es vs, u.oneCell' = true
  | [], _, _, u, h => by unfold rowCells at h; cases h
  | s :: r, [], _, u, h => by unfold rowCells at h; cases h
  | s :: r, v :: vs, hv, u, h => by
    unfold rowCells at h
    rcases List.mem_cons.1 h with rfl | h
    · rfl
    · rcases List.mem_cons.1 h with rfl | h
      · rfl
      · rcases List.mem_cons.1 h with rfl | h
        · exact hv _ (List.mem_cons_self ..)
        · exact rowCells_one r vs (fun v hm => hv v (List.mem_cons_of_mem _ hm)) u h

/-- A text of the call's own, beside a row. -/
def TextOf (w : World) (B : Nat) (row : Option Nat) (t : Value) (x : List Int) : Prop := Mild x ∧ Own w B t x ∧ (x = [] ∨ t.ownBlock ≠ row)
/-- A row of splices of the call's own, with texts of its own. -/
def OwnE (w : World) (B : Nat) (v : Value) (es : List Spl) : Prop :=
  ∃ vs : List Value, vs.length = es.length ∧ w.ownsRow B 68 3 v es.length (rowCells es vs) ∧ ∀ j, j < es.length → TextOf w B v.ownBlock (vs.getD j undef) (es.getD j spl0).2.2
theorem ownE_nil (w : World) (B : Nat) : OwnE w B (.slice none 0 0) [] := ⟨[], rfl, World.ownsRow_nil _ _ _ _, fun j hj => by cases hj⟩
theorem Own.shape {w : World} {B : Nat} {v : Value} {zs : List Int} (h : Own w B v zs) : ∃ a cap, v = .slice a zs.length cap := h.reads.shape
theorem own_block {w : World} {B : Nat} {v : Value} {zs : List Int} (h : Own w B v zs) (hz : zs ≠ []) : ∃ g, v.ownBlock = some g ∧ B ≤ g ∧ g < w.heap.size := by
  rcases h with ⟨_, _, _, h⟩ | ⟨_, g, cap, rfl, h1, h2, _⟩
  · exact absurd h hz
  · exact ⟨g, rfl, h1, h2⟩
theorem row3_below {w w' : World} {B : Nat} {v : Value} {n : Nat} {xs : List Value} (h : w.ownsRow B 68 3 v n xs) (hb : Below w.heap.size w w') : w'.ownsRow B 68 3 v n xs := by
  refine ⟨h.1, ?_⟩
  rcases h.2 with hn | ⟨g, cap, cur, hv, hB, hg, rest⟩
  · exact .inl hn
  · exact .inr ⟨g, cap, cur, hv, hB, (hb.block g (Array.getElem?_eq_some_iff.1 hg).1).trans hg, rest⟩
theorem row3_less {w : World} {B B' : Nat} {v : Value} {n : Nat} {xs : List Value} (h : w.ownsRow B 68 3 v n xs) (hb : B' ≤ B) : w.ownsRow B' 68 3 v n xs := by
  refine ⟨h.1, ?_⟩
  rcases h.2 with hn | ⟨g, cap, cur, hv, hB, rest⟩
  · exact .inl hn
  · exact .inr ⟨g, cap, cur, hv, by omega, rest⟩
theorem OwnE.below {w w' : World} {B : Nat} {v : Value} {es : List Spl} (h : OwnE w B v es) (hb : Below w.heap.size w w') : OwnE w' B v es := by
  obtain ⟨vs, h1, h2, h3⟩ := h
  exact ⟨vs, h1, row3_below h2 hb, fun j hj => ⟨(h3 j hj).1, (h3 j hj).2.1.below hb, (h3 j hj).2.2⟩⟩
theorem OwnE.less {w : World} {B B' : Nat} {v : Value} {es : List Spl} (h : OwnE w B v es) (hb : B' ≤ B) : OwnE w B' v es := by
  obtain ⟨vs, h1, h2, h3⟩ := h
  exact ⟨vs, h1, row3_less h2 hb, fun j hj => ⟨(h3 j hj).1, (h3 j hj).2.1.less hb, (h3 j hj).2.2⟩⟩
theorem OwnE.lt {w : World} {B : Nat} {v : Value} {es : List Spl} (h : OwnE w B v es) : ∀ k, v.ownBlock = some k → B ≤ k ∧ k < w.heap.size := by
  obtain ⟨vs, h1, h2, h3⟩ := h
  exact h2.lt
/-- A row of splices of the call's own can be read. -/
theorem OwnE.reads {w : World} {B : Nat} {v : Value} {es : List Spl} (h : OwnE w B v es) : ReadsE w v es := by
  obtain ⟨vs, h1, h2, h3⟩ := h
  have h2' := h2
  rcases h2.2 with ⟨rfl, h0⟩ | ⟨g, cap, cur, rfl, hb, hg, hn, hm, hsz, htake⟩
  · exact .inl ⟨none, 0, rfl, List.length_eq_zero_iff.1 h0⟩
  · refine .inr ⟨g, 0, cap, rfl, hn, hm, (Array.getElem?_eq_some_iff.1 hg).1, fun j hj => ?_⟩
    obtain ⟨e0, e1, e2⟩ := rowCells_at es vs j h1 hj
    obtain ⟨t1, t2, t3⟩ := h3 j hj
    obtain ⟨a, c, hv⟩ := t2.shape
    rw [Nat.zero_add]
    refine ⟨?_, ?_, t1, a, c, ?_, ?_⟩
    · rw [h2'.cellAt (j * 3) (by omega), e0]
    · rw [h2'.cellAt (j * 3 + 1) (by omega), e1]
    · rw [h2'.cellAt (j * 3 + 2) (by omega), e2, hv]
    · rw [← hv]
      exact t2.reads
/-- What lies apart from a row that grew is as it was. -/
theorem TextOf.kept {w w' : World} {B : Nat} {row row' : Option Nat} {t : Value} {x : List Int} (h : TextOf w B row t x) (hg : w.grownBy w' row) (hr : row' = row ∨ row' = some w.heap.size) : TextOf w' B row' t x := by
  obtain ⟨h1, h2, h3⟩ := h
  refine ⟨h1, ?_, ?_⟩
  · rcases h2 with h | ⟨hz, g, cap, hv, hB, hg1, h⟩
    · exact .inl h
    · exact .inr ⟨hz, g, cap, hv, hB, Nat.lt_of_lt_of_le hg1 hg.size, h.kept hg (.inr (h3.resolve_left hz))⟩
  · by_cases hz : x = []
    · exact .inl hz
    · refine .inr ?_
      obtain ⟨g, hgb, _, hlt⟩ := own_block h2 hz
      rcases hr with rfl | rfl
      · exact h3.resolve_left hz
      · rw [hgb]
        intro h
        have := Option.some.inj h
        omega
/-- One splice more behind a row of the call's own. -/
theorem wp_append_spl {w : World} {o : Oper} {a : Act} {K : Act → World → Prop} {Q : Exit → Act → World → Prop} (s x : Operand)
    (ho : o.op = .call { callee := .builtin .append, args := #[s, x], argTypes := #[41, 41] }) (B : Nat) (v : Value) (es : List Spl) (g0 c0 : Nat) (f t : Int) (tv : Value) (txt : List Int) (es' : List Spl) (he : es' = es ++ [(f, t, txt)])
    (hs : a.eval s = v) (hown : OwnE w B v es) (hx : a.eval x = .slice (some ⟨g0, 0, none⟩) 1 c0) (hbox : Boxed w g0 f t tv) (htx : TextOf w B v.ownBlock tv txt) (hle : es.length ≤ 1000000) (hB : B ≤ w.heap.size)
    (h : ∀ v' w', OwnE w' B v' es' → w.grownBy w' v.ownBlock → (v'.ownBlock = v.ownBlock ∨ v'.ownBlock = some w.heap.size) → K (a.put o.dst v') w') : Oper.wp Try.prog o a w K Q := by
  subst he
  obtain ⟨i0, hi, hz0, hz1, hz2⟩ := info_parts info41
  obtain ⟨vs, h1, h2, h3⟩ := hown
  obtain ⟨b0, b1, b2, b3⟩ := hbox
  have hnews : ∀ j u, ([.int .i64 f, .int .i64 t, tv] : List Value)[j]? = some u → w.cell? ((⟨g0, 0, none⟩ : Addr).add j) = some u := by
    intro j u hj
    match j, hj with
    | 0, hj => simp at hj; subst hj; exact b1
    | 1, hj => simp at hj; subst hj; exact b2
    | 2, hj => simp at hj; subst hj; exact b3
    | j + 3, hj => simp at hj
  have hone : ∀ u ∈ ([.int .i64 f, .int .i64 t, tv] : List Value), u.oneCell' = true := by
    intro u hu
    obtain ⟨a, c, hv⟩ := htx.2.1.shape
    simp at hu
    rcases hu with rfl | rfl | rfl
    · rfl
    · rfl
    · rw [hv]; rfl
  obtain ⟨v', w', hr, g1, g2, g3, g4⟩ := run_append_own_at (P := Try.prog) w B 41 o.type 68 i0 (Value.agg #[.int .i64 0, .int .i64 0, .slice none 0 0]) 3 40 Try.underlying41 hi hz0 hz1 hz2 rfl (by decide) v es.length (rowCells es vs) h2 ⟨g0, 0, none⟩ 1 c0
    [.int .i64 f, .int .i64 t, tv] rfl hnews hone (by unfold maxLen; omega) (by omega) hB
  unfold Oper.wp execOp
  simp only [ho, resolve, invoke, builtin, Sem.run_bind, Sem.run_pure, Result.andThen_ok, List.map_toArray, List.map_cons, List.map_nil, hs, hx, hr]
  refine h v' w' ⟨vs ++ [tv], by simp [h1], ?_, fun j hj => ?_⟩ g2 g4
  · rw [rowCells_more es vs _ _ h1, List.length_append]
    exact g1
  · by_cases hjl : j < es.length
    · have e1 : (vs ++ [tv]).getD j undef = vs.getD j undef := by
        rw [List.getD_eq_getElem?_getD, List.getD_eq_getElem?_getD, List.getElem?_append_left (by omega)]
      have e2 : (es ++ [(f, t, txt)]).getD j spl0 = es.getD j spl0 := by
        rw [List.getD_eq_getElem?_getD, List.getD_eq_getElem?_getD, List.getElem?_append_left hjl]
      rw [e1, e2]
      exact (h3 j hjl).kept g2 g4
    · obtain rfl : j = es.length := by simp at hj; omega
      have e1 : (vs ++ [tv]).getD es.length undef = tv := by
        rw [← h1, List.getD_eq_getElem?_getD]
        simp
      have e2 : (es ++ [(f, t, txt)]).getD es.length spl0 = (f, t, txt) := by
        rw [List.getD_eq_getElem?_getD]
        simp
      rw [e1, e2]
      exact htx.kept g2 g4
theorem append_spl {w : World} {ops : Array Oper} {rest : List Oper} {o : Oper} {a : Act} {Q : Exit → Act → World → Prop} (hgd : o.guard = none) (s x : Operand)
    (ho : o.op = .call { callee := .builtin .append, args := #[s, x], argTypes := #[41, 41] }) (B : Nat) (v : Value) (es : List Spl) (g0 c0 : Nat) (f t : Int) (tv : Value) (txt : List Int) (es' : List Spl) (he : es' = es ++ [(f, t, txt)])
    (hs : a.eval s = v) (hown : OwnE w B v es) (hx : a.eval x = .slice (some ⟨g0, 0, none⟩) 1 c0) (hbox : Boxed w g0 f t tv) (htx : TextOf w B v.ownBlock tv txt) (hle : es.length ≤ 1000000) (hB : B ≤ w.heap.size)
    (h : ∀ v' w', OwnE w' B v' es' → w.grownBy w' v.ownBlock → (v'.ownBlock = v.ownBlock ∨ v'.ownBlock = some w.heap.size) → wpList Try.prog ops Q rest (a.put o.dst v') w') : wpList Try.prog ops Q (o :: rest) a w :=
  wpList_plain hgd fun _ hK => wp_append_spl s x ho B v es g0 c0 f t tv txt es' he hs hown hx hbox htx hle hB fun v' w' h1 h2 h3 => hK _ _ (h v' w' h1 h2 h3)
theorem step_spl {ops : Array Oper} {o : Oper} {a : Act} {w : World} {K : Act → World → Prop} {Q : Exit → Act → World → Prop} {E : Prop} (hgd : o.guard = none) (s x : Operand)
    (ho : o.op = .call { callee := .builtin .append, args := #[s, x], argTypes := #[41, 41] }) (B : Nat) (v : Value) (es : List Spl) (g0 c0 : Nat) (f t : Int) (tv : Value) (txt : List Int) (es' : List Spl) (he : es' = es ++ [(f, t, txt)])
    (hs : a.eval s = v) (hown : OwnE w B v es) (hx : a.eval x = .slice (some ⟨g0, 0, none⟩) 1 c0) (hbox : Boxed w g0 f t tv) (htx : TextOf w B v.ownBlock tv txt) (hle : es.length ≤ 1000000) (hB : B ≤ w.heap.size)
    (h : ∀ v' w', OwnE w' B v' es' → w.grownBy w' v.ownBlock → (v'.ownBlock = v.ownBlock ∨ v'.ownBlock = some w.heap.size) → K (a.put o.dst v') w') :
    if Region.wanted o (yielded ops a.tmps) = true then Oper.wp Try.prog o a w K Q else E := by
  have hw : Region.wanted o (yielded ops a.tmps) = true := by simp [Region.wanted, hgd]
  rw [if_pos hw]
  exact wp_append_spl s x ho B v es g0 c0 f t tv txt es' he hs hown hx hbox htx hle hB h
/-- A part from the front of a row of splices. -/
theorem ReadsE.front {w : World} {a : Option Addr} {es : List Spl} {cap : Nat} (h : ReadsE w (.slice a es.length cap) es) (i : Nat) (hi : i ≤ es.length) : ReadsE w (.slice a i cap) (es.take i) := by
  rcases h with ⟨_, _, _, rfl⟩ | ⟨b, off, c, hv, g1, g2, g3, g4⟩
  · obtain rfl : i = 0 := by simpa using hi
    exact .inl ⟨_, _, rfl, rfl⟩
  · cases hv
    have hl : (es.take i).length = i := by rw [List.length_take]; omega
    refine .inr ⟨b, off, cap, by rw [hl], by omega, g2, g3, fun j hj => ?_⟩
    rw [hl] at hj
    have := g4 j (by omega)
    rw [show (es.take i).getD j spl0 = es.getD j spl0 by rw [List.getD_eq_getElem?_getD, List.getD_eq_getElem?_getD, List.getElem?_take, if_pos hj]]
    exact this

theorem spcopied_any (v : Value) (zs : List Int) (w : World) (h : Reads w v zs) (hr : zs.length * 8 ≤ 140737488355328) :
    Calls Try.prog 55 #[v] w fun e w' => Below w.heap.size w w' ∧ ∃ v', e = .returned v' ∧ OwnI w' w.heap.size v' zs := by
  have H : Hid (Reads w v zs) := h
  clear h
  go_enter Try.func55, Try.ntmps55
  go_wp2_with (at_builtin; refine append_any rfl _ _ rfl w.heap.size (.slice none 0 0) _ [] zs zs rfl rfl (ownI_nil _ _) rfl H.out (by simpa using hr) (Nat.le_refl _) ?_)
  intro v2 w2 ho2 hg2 _
  have HB : Hid (Below w.heap.size w w2) := (Below.refl _ _).grown hg2 (Nat.le_refl _) (fun j hj => by cases hj)
  have HO : Hid (OwnI w2 w.heap.size v2 zs) := ho2
  clear ho2 hg2
  go_wp2_with fail
  go_ret
  exact ⟨HB.out, _, rfl, HO.out⟩
end Go.Proofs.Ytpgjaoemkadenab.Seek

/- The contract of the document's SameEdit, with slices.EqualFunc and its function literal. -/
set_option linter.unusedVariables false
set_option linter.unusedSimpArgs false
set_option maxRecDepth 100000
namespace Go.Proofs.Ytpgjaoemkadenab.Seek
open Go.RowKit Plain

set_option maxHeartbeats 2000000 in
theorem lit_any (f t f' t' : Int) (v v' : Value) (x x' : List Int) (w : World) (h1 : Reads w v x) (h2 : Reads w v' x') (m1 : Mild x) (m2 : Mild x') :
    Calls Try.prog 33 #[.agg #[.int .i64 f, .int .i64 t, v], .agg #[.int .i64 f', .int .i64 t', v']] w fun e w' => e = .returned (.bool (decide (((f, t, x) : Spl) = (f', t', x')))) ∧ Below w.heap.size w w' := by
  obtain ⟨a, c, rfl⟩ := h1.shape
  obtain ⟨a', c', rfl⟩ := h2.shape
  have H1 : Hid (∀ wx, Below w.heap.size w wx → Reads wx (.slice a x.length c) x) := fun wx hb => h1.below hb
  have H2 : Hid (∀ wx, Below w.heap.size w wx → Reads wx (.slice a' x'.length c') x') := fun wx hb => h2.below hb
  unfold Mild at m1 m2
  clear h1 h2
  obtain ⟨b, hb⟩ : ∃ b, b = decide (((f, t, x) : Spl) = (f', t', x')) := ⟨_, rfl⟩
  rw [← hb]
  have HB : Hid (b = (f == f' && (t == t' && x == x'))) := by
    show b = _
    rw [hb, Bool.eq_iff_iff]
    simp
  clear hb
  go_enter Try.func33, Try.ntmps33
  go_wp2_with fail
  all_goals first
    | (refine (equal_any _ _ x x' _ (H1.out _ (((Below.refl _ _).alloc (Nat.le_refl _) _).alloc (by rw [size_alloc]; omega) _)) (H2.out _ (((Below.refl _ _).alloc (Nat.le_refl _) _).alloc (by rw [size_alloc]; omega) _)) (by unfold maxLen; omega) (by unfold maxLen; omega)).mono ?_
       rintro e w1 ⟨rfl, q, hq⟩
       have HW : Hid (Below w.heap.size w w1) := by rw [hq]; exact below_drewN (((Below.refl _ _).alloc (Nat.le_refl _) _).alloc (by rw [size_alloc]; omega) _) q
       clear hq
       go_wp2_with fail
       all_goals (
         go_ret
         refine ⟨?_, HW.out⟩
         rw [HB.out]
         first | rfl | simp_all))
    | (go_ret
       refine ⟨?_, ((Below.refl _ _).alloc (Nat.le_refl _) _).alloc (by rw [size_alloc]; omega) _⟩
       rw [HB.out]
       first | rfl | simp_all)

theorem getD_eq_of {es fs : List Spl} (h : es.length = fs.length) : (∀ j, j < es.length → es.getD j spl0 = fs.getD j spl0) → es = fs := by
  intro hj
  apply List.ext_getElem h
  intro i h1 h2
  have := hj i h1
  rw [List.getD_eq_getElem?_getD, List.getD_eq_getElem?_getD, List.getElem?_eq_getElem h1, List.getElem?_eq_getElem h2] at this
  exact this
set_option maxHeartbeats 2000000 in
theorem equalFunc_any (v v' : Value) (es fs : List Spl) (w : World) (h1 : ReadsE w v es) (h2 : ReadsE w v' fs) (hl : es.length = fs.length) :
    Calls Try.prog 32 #[v, v', .func (.func 33) #[] #[]] w fun e w' => e = .returned (.bool (decide (es = fs))) ∧ Below w.heap.size w w' := by
  obtain ⟨a, c, rfl⟩ := h1.shape
  obtain ⟨a', c', rfl⟩ := h2.shape
  have H1 : Hid (∀ k, k < es.length → ∃ b off, a = some ⟨b, off, none⟩ ∧ b < w.heap.size ∧ SplAt w b (off + k * 3) (es.getD k spl0)) := h1.each
  have H2 : Hid (∀ k, k < es.length → ∃ b off, a' = some ⟨b, off, none⟩ ∧ b < w.heap.size ∧ SplAt w b (off + k * 3) (fs.getD k spl0)) := fun k hk => h2.each k (by omega)
  have hL : es.length ≤ maxLen := by
    rcases h1 with ⟨_, _, _, rfl⟩ | ⟨b, off, cap, hv, h1, h2, hb, hc⟩
    · exact Nat.zero_le _
    · exact Nat.le_trans h1 h2
  unfold maxLen at hL
  rw [← hl]
  obtain ⟨R, hR⟩ : ∃ R, R = decide (es = fs) := ⟨_, rfl⟩
  rw [← hR]
  have HR : Hid (R = decide (es = fs)) := hR
  have HL : Hid (es.length = fs.length) := hl
  clear h1 h2 hR hl
  go_enter Try.func32, Try.ntmps32
  go_wp2_with fail
  go_loopw [17] (fun u17 wr => ∃ k : Nat, u17 = .int .i64 (k : Int) ∧ k ≤ es.length ∧ Hid (∀ j, j < k → es.getD j spl0 = fs.getD j spl0) ∧ Hid (Below w.heap.size w wr)) (fun u17 _ => es.length - (intOf u17).toNat)
  case atStart => exact ⟨0, rfl, Nat.zero_le _, fun j hj => by omega, Below.refl _ _⟩
  case round =>
    obtain ⟨k, rfl, hk, Hs, Hb⟩ := hrel
    have hbs := Hb.out.size
    by_cases hlt : k < es.length
    · obtain ⟨b, off, hae, hbl, hsp⟩ := H1.out k hlt
      obtain ⟨b2, off2, hae2, hbl2, hsp2⟩ := H2.out k hlt
      subst hae hae2
      have hI : (k : Int) < (es.length : Int) := by omega
      obtain ⟨s, hs⟩ : ∃ s, s = es.getD k spl0 := ⟨_, rfl⟩
      obtain ⟨s', hs'⟩ : ∃ s', s' = fs.getD k spl0 := ⟨_, rfl⟩
      have HS : Hid (s = es.getD k spl0) := hs
      have HS' : Hid (s' = fs.getD k spl0) := hs'
      rw [← hs] at hsp
      rw [← hs'] at hsp2
      clear hs hs'
      obtain ⟨c0, c1, hm, a3, cap3, c2, hrd⟩ := hsp.below Hb.out hbl
      obtain ⟨d0, d1, hm2, a4, cap4, d2, hrd2⟩ := hsp2.below Hb.out hbl2
      have Hrd : Hid (∀ wx, Below wr.heap.size wr wx → Reads wx (.slice a3 s.2.2.length cap3) s.2.2) := fun wx hb => hrd.below hb
      have Hrd2 : Hid (∀ wx, Below wr.heap.size wr wx → Reads wx (.slice a4 s'.2.2.length cap4) s'.2.2) := fun wx hb => hrd2.below hb
      have Hm : Hid (Mild s.2.2 ∧ Mild s'.2.2) := ⟨hm, hm2⟩
      clear hrd hrd2 hm hm2 hsp hsp2 H1 H2
      obtain ⟨f, t, x⟩ := s
      obtain ⟨f', t', x'⟩ := s'
      simp only at c0 c1 c2 d0 d1 d2
      have HBB : Hid (Below wr.heap.size wr ((wr.alloc (.cells #[.int .i64 f, .int .i64 t, .slice a3 x.length cap3] 68)).alloc (.cells #[.int .i64 f', .int .i64 t', .slice a4 x'.length cap4] 68))) := ((Below.refl _ _).alloc (Nat.le_refl _) _).alloc (by rw [size_alloc]; omega) _
      have hdv : ∀ o, (wr.alloc o).cell? ⟨b2, off2 + k * 3, none⟩ = some (.int .i64 f') := fun o => ((box_below wr o).cell (by exact Nat.lt_of_lt_of_le hbl2 hbs)).trans d0
      have hdv1 : ∀ o, (wr.alloc o).cell? ⟨b2, off2 + k * 3 + 1, none⟩ = some (.int .i64 t') := fun o => ((box_below wr o).cell (by exact Nat.lt_of_lt_of_le hbl2 hbs)).trans d1
      have hdv2 : ∀ o, (wr.alloc o).cell? ⟨b2, off2 + k * 3 + 2, none⟩ = some (.slice a4 x'.length cap4) := fun o => ((box_below wr o).cell (by exact Nat.lt_of_lt_of_le hbl2 hbs)).trans d2
      go_wp2_with fail
      refine (lit_any f t f' t' _ _ x x' _ (Hrd.out _ HBB.out) (Hrd2.out _ HBB.out) Hm.out.1 Hm.out.2).mono ?_
      rintro e w1 ⟨rfl, hb1⟩
      have HB1 : Hid (Below w.heap.size w w1) := below_trans (below_trans Hb.out HBB.out hbs) hb1 (below_trans Hb.out HBB.out hbs).size
      clear hb1 HBB hdv hdv1 hdv2 c0 c1 c2 d0 d1 d2
      by_cases he : ((f, t, x) : Spl) = (f', t', x')
      · have hd : decide (((f, t, x) : Spl) = (f', t', x')) = true := decide_eq_true he
        have HE : Hid (es.getD k spl0 = fs.getD k spl0) := by
          show _ = _
          rw [← HS.out, ← HS'.out]
          exact he
        rw [hd]
        clear hd he HS HS'
        go_wp2_with fail
        go_roundw
        case rel =>
          refine ⟨k + 1, by go_num, by omega, fun j hj => ?_, HB1.out⟩
          by_cases hjk : j < k
          · exact Hs.out j hjk
          · obtain rfl : j = k := by omega
            exact HE.out
        case measure => simp [intOf]; omega
      · have hd : decide (((f, t, x) : Spl) = (f', t', x')) = false := decide_eq_false he
        have HF : Hid (R = false) := by
          show R = false
          rw [HR.out]
          refine decide_eq_false (fun h => he ?_)
          rw [HS.out, HS'.out, h]
        rw [hd]
        clear hd he HS HS'
        go_wp2_with fail
        go_ret
        exact ⟨by rw [HF.out]; rfl, HB1.out⟩
    · obtain rfl : k = es.length := by omega
      have HF : Hid (R = true) := by
        show R = true
        rw [HR.out]
        exact decide_eq_true (getD_eq_of HL.out Hs.out)
      clear Hs
      go_wp2_with fail
      go_ret
      exact ⟨by rw [HF.out]; rfl, Hb.out⟩
theorem equalFunc_lens (v v' : Value) (es fs : List Spl) (w : World) (h1 : ReadsE w v es) (h2 : ReadsE w v' fs) (hl : es.length ≠ fs.length) :
    Calls Try.prog 32 #[v, v', .func (.func 33) #[] #[]] w fun e w' => e = .returned (.bool (decide (es = fs))) ∧ Below w.heap.size w w' := by
  obtain ⟨a, c, rfl⟩ := h1.shape
  obtain ⟨a', c', rfl⟩ := h2.shape
  clear h1 h2
  rw [decide_eq_false (fun h => hl (by rw [h]))]
  have hb : ((es.length : Int) != (fs.length : Int)) = true := by simp only [bne_iff_ne]; omega
  generalize es.length = n1 at *
  generalize fs.length = n2 at *
  go_enter Try.func32, Try.ntmps32
  go_wp2_with fail
  go_ret
  exact ⟨rfl, Below.refl _ _⟩
theorem sameEdit_any (v v' : Value) (es fs : List Spl) (w : World) (h1 : ReadsE w v es) (h2 : ReadsE w v' fs) :
    Calls Try.prog 19 #[v, v'] w fun e w' => e = .returned (.bool (decide (es = fs))) ∧ Below w.heap.size w w' := by
  have H : Hid (Calls Try.prog 32 #[v, v', .func (.func 33) #[] #[]] w fun e w' => e = .returned (.bool (decide (es = fs))) ∧ Below w.heap.size w w') := by
    by_cases hl : es.length = fs.length
    · exact equalFunc_any v v' es fs w h1 h2 hl
    · exact equalFunc_lens v v' es fs w h1 h2 hl
  clear h1 h2
  go_enter Try.func19, Try.ntmps19
  go_wp2_with fail
  refine H.out.mono ?_
  rintro e w1 ⟨rfl, hb⟩
  go_wp2_with fail
  go_ret
  exact ⟨rfl, hb⟩
end Go.Proofs.Ytpgjaoemkadenab.Seek
