/- Arrays of 27 slices (api.Regs): in variables, by value; the texts that they hold. -/
import Derived.Test.YtpgjaoemkadenabM02
import Derived.Test.YtpgjaoemkadenabM05
import Derived.Laws.Rows
import Derived.Laws.Tables
import Derived.Laws.ResultCell
set_option linter.unusedVariables false
set_option linter.unusedSimpArgs false
set_option maxRecDepth 100000
namespace Go.Proofs.Ytpgjaoemkadenab.Seek
open Go.RowKit

/-- An array of slices, as a value. -/
def arr (vs : List Value) : Value := .agg vs.toArray
def nils : List Value := List.replicate 27 (.slice none 0 0)
/-- All are slices. -/
def AllSl (vs : List Value) : Prop := vs.length = 27 ∧ ∀ v ∈ vs, ∃ a n c, v = .slice a n c
theorem AllSl.at_ {vs : List Value} (h : AllSl vs) (i : Nat) (hi : i < 27) : ∃ a n c, vs.getD i undef = .slice a n c := by
  have hl := h.1
  refine h.2 _ ?_
  rw [List.getD_eq_getElem?_getD, List.getElem?_eq_getElem (by omega)]
  exact List.getElem_mem _
theorem AllSl.one {vs : List Value} (h : AllSl vs) : vs.toArray.all (·.oneCell') = true := by
  rw [Array.all_eq_true_iff_forall_mem]
  intro v hv
  obtain ⟨a, n, c, rfl⟩ := h.2 v (by simpa using hv)
  rfl
theorem nils_all : AllSl nils := ⟨rfl, fun v hv => by obtain rfl := List.eq_of_mem_replicate hv; exact ⟨_, _, _, rfl⟩⟩
theorem AllSl.set {vs : List Value} (h : AllSl vs) (i : Nat) (a : Option Addr) (n c : Nat) : AllSl (vs.set i (.slice a n c)) :=
  ⟨by rw [List.length_set]; exact h.1, fun v hv => by
    rcases List.mem_or_eq_of_mem_set hv with h1 | rfl
    · exact h.2 v h1
    · exact ⟨_, _, _, rfl⟩⟩
/-- The block g holds the array vs. -/
def HoldsA (w : World) (g : Nat) (vs : List Value) : Prop := AllSl vs ∧ w.heap[g]? = some (.cells vs.toArray 36 (0, 0))
theorem HoldsA.lt {w : World} {g : Nat} {vs : List Value} (h : HoldsA w g vs) : g < w.heap.size := (Array.getElem?_eq_some_iff.1 h.2).1
theorem HoldsA.below {w w' : World} {g : Nat} {vs : List Value} (h : HoldsA w g vs) (hb : Below w.heap.size w w') : HoldsA w' g vs := ⟨h.1, (hb.block g h.lt).trans h.2⟩
theorem HoldsA.kept {w w' : World} {g : Nat} {vs : List Value} {row : Option Nat} (h : HoldsA w g vs) (hg : w.grownBy w' row) (hne : some g ≠ row) : HoldsA w' g vs := ⟨h.1, (hg.block g h.lt hne).trans h.2⟩
theorem HoldsA.cell {w : World} {g : Nat} {vs : List Value} (h : HoldsA w g vs) (i : Nat) (hi : i < 27) : w.cell? ⟨g, i, none⟩ = some (vs.getD i undef) := by
  rw [cell_of_row w g i _ 36 (0, 0) h.2]
  have := h.1.1
  simp [List.getD_eq_getElem?_getD, show i < vs.length by omega]
theorem info24 : (Try.prog.info? 36).map (fun i => (i.zero, i.size)) = some (some (arr nils), 27) := by kernel_rfl
theorem size27 : (Try.prog.info? 36).map (·.size) = some 27 := by kernel_rfl
theorem size24 (vs : List Value) (h : AllSl vs) : (Try.prog.info? 36).map (·.size) = some vs.toArray.size := by
  have e : vs.toArray.size = 27 := by rw [List.size_toArray, h.1]
  exact size27.trans (congrArg some e.symm)

section
variable {w : World} {ops : Array Oper} {rest : List Oper} {o : Oper} {a : Act} {Q : Exit → Act → World → Prop}
/-- An operation whose run is known. -/
theorem wpList_value (hw : Region.wanted o (yielded ops a.tmps) = true) (v : Value) (w' : World) (hr : (execOp a.eval o).run Try.prog w = .ok (.value v) w') (h : wpList Try.prog ops Q rest (a.put o.dst v) w') : wpList Try.prog ops Q (o :: rest) a w :=
  wpList_step fun K hK => by
    rw [if_pos hw]
    unfold Oper.wp
    simp only [hr]
    exact hK _ _ h
/-- A whole array out of a variable. -/
theorem load24 (hw : Region.wanted o (yielded ops a.tmps) = true) (x : Operand) (ho : o.op = .load 36 x) (g : Nat) (hx : a.eval x = .pointer (some ⟨g, 0, none⟩)) (vs : List Value) (hg : HoldsA w g vs)
    (h : wpList Try.prog ops Q rest (a.put o.dst (arr vs)) w) : wpList Try.prog ops Q (o :: rest) a w :=
  wpList_step fun K hK => by
    rw [if_pos hw]
    exact wp_load_row 36 x ho g hx 36 _ (0, 0) _ hg.2 Try.underlying36 rfl (size24 vs hg.1) (hK _ _ h)
theorem holds_setRow {w : World} {g : Nat} {vs vs' : List Value} (hg : HoldsA w g vs) (hl : AllSl vs') : HoldsA (w.setRow g vs'.toArray) g vs' ∧ w.grownBy (w.setRow g vs'.toArray) (some g) :=
  ⟨⟨hl, setRow_heap w g _ _ 36 (0, 0) hg.2⟩, ⟨rfl, rfl, rfl, by rw [setRow_size]; exact Nat.le_refl _, fun k _ hk => setRow_other w g k _ (fun e => hk (by rw [e]))⟩⟩
/-- A whole array into a variable. -/
theorem store24 (hw : Region.wanted o (yielded ops a.tmps) = true) (x y : Operand) (ho : o.op = .store 36 x y) (g : Nat) (hx : a.eval x = .pointer (some ⟨g, 0, none⟩)) (vs old : List Value) (hy : a.eval y = arr vs) (hg : HoldsA w g old) (hl : AllSl vs)
    (h : ∀ w', HoldsA w' g vs → w.grownBy w' (some g) → wpList Try.prog ops Q rest (a.put o.dst undef) w') : wpList Try.prog ops Q (o :: rest) a w :=
  wpList_step fun K hK => by
    rw [if_pos hw]
    refine wp_store_row 36 x y ho g _ hx hy 36 _ hg.2 (size24 vs hl) ?_ hl.one (hK _ _ (h _ (holds_setRow hg hl).1 (holds_setRow hg hl).2))
    rw [List.size_toArray, List.size_toArray, hg.1.1, hl.1]
/-- A new variable for an array. -/
theorem holds_new (w : World) (vs : List Value) (hl : AllSl vs) : HoldsA (w.alloc (.cells vs.toArray 36)) w.heap.size vs := ⟨hl, heap_alloc_new _ _⟩
theorem alloc24 (hw : Region.wanted o (yielded ops a.tmps) = true) (ho : o.op = .alloc 36)
    (h : ∀ w', HoldsA w' w.heap.size nils → Below w.heap.size w w' → wpList Try.prog ops Q rest (a.put o.dst (.pointer (some ⟨w.heap.size, 0, none⟩))) w') : wpList Try.prog ops Q (o :: rest) a w := by
  have hz : ∀ w, (zeroValue 36).run Try.prog w = .ok (arr nils) w := by
    intro w
    have := info24
    cases hq : Try.prog.info? 36 with
    | none => rw [hq] at this; cases this
    | some i =>
      rw [hq] at this
      simp at this
      simp [zeroValue, typeInfo, hq, this.1]
  refine wpList_value hw (.pointer (some ⟨w.heap.size, 0, none⟩)) (w.alloc (.cells nils.toArray 36)) ?_ (h _ (holds_new w nils nils_all) (box_below _ _))
  unfold execOp
  simp only [ho, Instr.alloc, Sem.run_bind, Sem.run_pure, hz, Result.andThen_ok, newVar, newRow, newObj, arr, Value.cells]
  rfl
theorem box24 (hw : Region.wanted o (yielded ops a.tmps) = true) (x : Operand) (ho : o.op = .box 36 x) (vs : List Value) (hx : a.eval x = arr vs) (hl : AllSl vs)
    (h : ∀ w', HoldsA w' w.heap.size vs → Below w.heap.size w w' → wpList Try.prog ops Q rest (a.put o.dst (.pointer (some ⟨w.heap.size, 0, none⟩))) w') : wpList Try.prog ops Q (o :: rest) a w := by
  refine wpList_value hw (.pointer (some ⟨w.heap.size, 0, none⟩)) (w.alloc (.cells vs.toArray 36)) ?_ (h _ (holds_new w vs hl) (box_below _ _))
  unfold execOp
  simp only [ho, hx, Instr.box, Sem.run_bind, Sem.run_pure, Result.andThen_ok, newVar, newRow, newObj, arr, Value.cells]
  rfl
/-- An array of nothing. -/
theorem build24 (hw : Region.wanted o (yielded ops a.tmps) = true) (ho : o.op = .build 36 #[])
    (h : wpList Try.prog ops Q rest (a.put o.dst (arr nils)) w) : wpList Try.prog ops Q (o :: rest) a w := by
  refine wpList_value hw (arr nils) w ?_ h
  unfold execOp
  have := run_build (P := Try.prog) w 36 #[] nils.toArray (by kernel_rfl)
  simp only [ho, List.map_toArray, List.map_nil, Sem.run_bind, this, Result.andThen_ok, Sem.run_pure]
  rfl
/-- A slice of an array that is a value. -/
theorem index24 (hw : Region.wanted o (yielded ops a.tmps) = true) (x y : Operand) (ho : o.op = .index 36 x y) (vs : List Value) (hx : a.eval x = arr vs) (i : Nat) (hy : a.eval y = .int .i64 (i : Int)) (hl : AllSl vs) (hi : i < 27) (v : Value) (hv : vs.getD i undef = v)
    (h : wpList Try.prog ops Q rest (a.put o.dst v) w) : wpList Try.prog ops Q (o :: rest) a w := by
  refine wpList_value hw v w ?_ h
  unfold execOp
  have hl2 := hl.1
  have h2 : vs.toArray[i]? = some v := by
    rw [← hv]
    simp [List.getD_eq_getElem?_getD, show i < vs.length by omega]
  have hI : (0 : Int) ≤ (i : Int) ∧ (i : Int) < ((27 : Nat) : Int) := by omega
  simp only [ho, hx, hy, Instr.index, asIntOf, Sem.run_bind, Sem.run_pure, Result.andThen_ok, run_underlying Try.underlying36, arr, if_pos hI, Try.sizeOf22, Nat.mul_one, Int.toNat_natCast, part, Try.isAgg22, Bool.false_eq_true, if_false, h2]
/-- A slice into an array's variable. -/
theorem store22 (hw : Region.wanted o (yielded ops a.tmps) = true) (x y : Operand) (ho : o.op = .store 22 x y) (g i : Nat) (hx : a.eval x = .pointer (some ⟨g, i, none⟩)) (sa : Option Addr) (sn sc : Nat) (hy : a.eval y = .slice sa sn sc) (old : List Value) (hg : HoldsA w g old) (hi : i < 27)
    (h : ∀ w', HoldsA w' g (old.set i (.slice sa sn sc)) → w.grownBy w' (some g) → wpList Try.prog ops Q rest (a.put o.dst undef) w') : wpList Try.prog ops Q (o :: rest) a w := by
  have e : w.setCell ⟨g, i, none⟩ (.slice sa sn sc) = w.setRow g (old.set i (.slice sa sn sc)).toArray := by
    rw [setCell_eq_setRow w g i _ 36 (0, 0) _ hg.2]
    congr 1
    simp
  have hl := hg.1.set i sa sn sc
  have hc := hg.cell i hi
  have hf := frozen_of_row w g i _ 36 hg.2
  refine wpList_step fun K hK => ?_
  rw [if_pos hw]
  have hr : (execOp a.eval o).run Try.prog w = .ok .skip (w.setRow g (old.set i (.slice sa sn sc)).toArray) := by
    rw [← e]
    unfold execOp
    simp only [ho, hx, hy]
    go_simp
  unfold Oper.wp
  simp only [hr]
  exact hK _ _ (h _ (holds_setRow hg hl).1 (holds_setRow hg hl).2)
end
/-- How a call ends whose results are an array's variable and a number. -/
theorem ret_arr {fn : Func} {p u : Tmp} (h : fn.results = #[.cell p 36, .tmp u]) (tmps : Array Value) (w : World) (g : Nat) (vs : List Value) (v : Value) (hp : tmps.getD p undef = .pointer (some ⟨g, 0, none⟩)) (hv : tmps.getD u undef = v) (hg : HoldsA w g vs) :
    (results fn tmps).run Try.prog w = .ok (.tuple #[arr vs, v]) w := by
  rw [results_cell_tmp h, hp, hv]
  have := run_loadVar_row (P := Try.prog) w g 36 36 _ (0, 0) _ hg.2 Try.underlying36 rfl (size24 vs hg.1)
  simp only [asAddr, Sem.run_pure, Result.andThen_ok, this]
  rfl
theorem ret_one {fn : Func} {p : Tmp} (h : fn.results = #[.cell p 36]) (tmps : Array Value) (w : World) (g : Nat) (vs : List Value) (hp : tmps.getD p undef = .pointer (some ⟨g, 0, none⟩)) (hg : HoldsA w g vs) :
    (results fn tmps).run Try.prog w = .ok (arr vs) w := by
  simp only [results, h]
  have h2 : tmps[p]?.getD undef = .pointer (some ⟨g, 0, none⟩) := by rw [← Array.getD_eq_getD_getElem?]; exact hp
  have := run_loadVar_row (P := Try.prog) w g 36 36 _ (0, 0) _ hg.2 Try.underlying36 rfl (size24 vs hg.1)
  simp [Sem.run_bind, h2, asAddr, this]
  rfl

/-! The texts. -/
def nilT : List (List Int) := List.replicate 27 []
/-- The slices vs hold the texts ts. -/
def ReadsR (w : World) (vs : List Value) (ts : List (List Int)) : Prop := AllSl vs ∧ ts.length = 27 ∧ ∀ i, i < 27 → Reads w (vs.getD i undef) (ts.getD i []) ∧ Mild (ts.getD i [])
theorem ReadsR.below {w w' : World} {vs : List Value} {ts : List (List Int)} (h : ReadsR w vs ts) (hb : Below w.heap.size w w') : ReadsR w' vs ts := ⟨h.1, h.2.1, fun i hi => ⟨(h.2.2 i hi).1.below hb, (h.2.2 i hi).2⟩⟩
theorem ReadsR.at_ {w : World} {vs : List Value} {ts : List (List Int)} (h : ReadsR w vs ts) (i : Nat) (hi : i < 27) : ∃ a c, vs.getD i undef = .slice a (ts.getD i []).length c ∧ Reads w (.slice a (ts.getD i []).length c) (ts.getD i []) ∧ Mild (ts.getD i []) := by
  obtain ⟨h1, h2⟩ := h.2.2 i hi
  obtain ⟨a, c, e⟩ := h1.shape
  exact ⟨a, c, e, e ▸ h1, h2⟩
theorem nils_at (i : Nat) (hi : i < 27) : nils.getD i undef = .slice none 0 0 := by
  unfold nils
  rw [List.getD_eq_getElem?_getD, List.getElem?_replicate, if_pos hi]
  rfl
theorem nilT_at (i : Nat) : nilT.getD i [] = [] := by
  unfold nilT
  rw [List.getD_eq_getElem?_getD, List.getElem?_replicate]
  split <;> rfl
theorem readsR_nil (w : World) : ReadsR w nils nilT := ⟨nils_all, rfl, fun i hi => by rw [nils_at i hi, nilT_at]; exact ⟨.inl ⟨_, _, rfl, rfl⟩, by show ([] : List Int).length * 8 ≤ _; decide⟩⟩
theorem getD_set_same {α : Type} (l : List α) (i : Nat) (x d : α) (h : i < l.length) : (l.set i x).getD i d = x := by
  rw [List.getD_eq_getElem?_getD, List.getElem?_set_self h]; rfl
theorem getD_set_other {α : Type} (l : List α) (i j : Nat) (x d : α) (h : i ≠ j) : (l.set i x).getD j d = l.getD j d := by
  rw [List.getD_eq_getElem?_getD, List.getElem?_set_ne h, List.getD_eq_getElem?_getD]
theorem ReadsR.set {w : World} {vs : List Value} {ts : List (List Int)} (h : ReadsR w vs ts) (k : Nat) (hk : k < 27) (a : Option Addr) (c : Nat) (zs : List Int) (hr : Reads w (.slice a zs.length c) zs) (hm : Mild zs) :
    ReadsR w (vs.set k (.slice a zs.length c)) (ts.set k zs) := by
  have l1 := h.1.1
  have l2 := h.2.1
  refine ⟨h.1.set k _ _ _, by rw [List.length_set]; exact l2, fun i hi => ?_⟩
  by_cases e : k = i
  · subst e
    rw [getD_set_same _ _ _ _ (by omega), getD_set_same _ _ _ _ (by omega)]
    exact ⟨hr, hm⟩
  · rw [getD_set_other _ _ _ _ _ e, getD_set_other _ _ _ _ _ e]
    exact h.2.2 i hi

theorem cloneI_any (v : Value) (zs : List Int) (w : World) (h : Reads w v zs) (hr : Mild zs) :
    Calls Try.prog 64 #[v] w fun e w' => Below w.heap.size w w' ∧ ∃ a c, e = .returned (.slice a zs.length c) ∧ OwnI w' w.heap.size (.slice a zs.length c) zs := by
  unfold Mild at hr
  rcases h with ⟨a, cap, rfl, rfl⟩ | ⟨b, off, cap, rfl, _, _, _, hc⟩
  · cases a with
    | none =>
      refine (Try.slices_Clone_int_nil 0 cap w).mono ?_
      rintro e w' ⟨rfl, rfl⟩
      exact ⟨Below.refl _ _, _, _, rfl, ownI_nil _ _⟩
    | some a =>
      refine (Try.slices_Clone_int_zero a cap w).mono ?_
      rintro e w' ⟨v', rfl, hown, _, hb⟩
      have ho : OwnI w' w.heap.size v' [] := hown
      obtain ⟨a, c, hv⟩ := ho.reads.shape
      subst hv
      exact ⟨hb, a, c, rfl, ho⟩
  · refine (Try.slices_Clone_int b off zs.length cap zs w (Nat.le_refl _) (by omega) hc).mono ?_
    rintro e w' ⟨v', rfl, hown, _, hb⟩
    rw [List.take_length] at hown
    have ho : OwnI w' w.heap.size v' zs := hown
    obtain ⟨a, c, hv⟩ := ho.reads.shape
    subst hv
    exact ⟨hb, a, c, rfl, ho⟩
/-- The slices vs hold the texts ts in memory of the call's own, each in its own. -/
def OwnR (w : World) (B : Nat) (vs : List Value) (ts : List (List Int)) : Prop :=
  ReadsR w vs ts ∧ (∀ i, i < 27 → OwnI w B (vs.getD i undef) (ts.getD i [])) ∧ ∀ i j, i < j → j < 27 → ∀ k, (vs.getD i undef).ownBlock = some k → (vs.getD j undef).ownBlock ≠ some k
theorem OwnR.below {w w' : World} {B : Nat} {vs : List Value} {ts : List (List Int)} (h : OwnR w B vs ts) (hb : Below w.heap.size w w') : OwnR w' B vs ts := ⟨h.1.below hb, fun i hi => (h.2.1 i hi).below hb, h.2.2⟩
theorem OwnR.less {w : World} {B B' : Nat} {vs : List Value} {ts : List (List Int)} (h : OwnR w B vs ts) (hb : B' ≤ B) : OwnR w B' vs ts := ⟨h.1, fun i hi => (h.2.1 i hi).less hb, h.2.2⟩
theorem ownR_nil (w : World) (B : Nat) : OwnR w B nils nilT := ⟨readsR_nil w, fun i hi => by rw [nils_at i hi, nilT_at]; exact ownI_nil _ _, fun i j hij hj k hk => by rw [nils_at i (by omega)] at hk; cases hk⟩
end Go.Proofs.Ytpgjaoemkadenab.Seek
