/- Texts of one claim, one behind the other: Regs, RCopied, RNames, ConcatAny. -/
import Derived.Test.YtpgjaoemkadenaaM01
import Derived.Test.YtpgjaoemkadenaaM09
import Derived.Laws.Rows
import Derived.Laws.Tables
import Derived.Laws.ResultCell
import Derived.Deep.Light
import Derived.Deep.DeepAppendRoom
import Derived.Lib.AppendZerosOnto
/- Arrays of 27 slices (api.Regs): in variables, by value; the texts that they hold. -/
set_option linter.unusedVariables false
set_option linter.unusedSimpArgs false
set_option maxRecDepth 100000
namespace Go.Proofs.Ytpgjaoemkadenaa.Seek
open Go.RowKit

/-- An array of slices, as a value. -/
def arr (vs : List Value) : Value := .agg vs.toArray
def nils : List Value := List.replicate 27 (.slice none 0 0)
/-- All are slices. -/
def AllSl (vs : List Value) : Prop := vs.length = 27 ∧ ∀ v ∈ vs, ∃ a n c, v = .slice a n c
theorem AllSl.at_ {vs : List Value} (h : AllSl vs) (i : Nat) (hi : i < 27) : ∃ a n c, vs.getD i undef = .slice a n c := by
  have hl := h.1
  refine h.2 _ ?_
  rw [List.getD_eq_getElem?_getD, List.getElem?_eq_getElem (by omega)]
  exact List.getElem_mem _
theorem AllSl.one {vs : List Value} (h : AllSl vs) : vs.toArray.all (·.oneCell') = true := by
  rw [Array.all_eq_true_iff_forall_mem]
  intro v hv
  obtain ⟨a, n, c, rfl⟩ := h.2 v (by simpa using hv)
  rfl
theorem nils_all : AllSl nils := ⟨rfl, fun v hv => by obtain rfl := List.eq_of_mem_replicate hv; exact ⟨_, _, _, rfl⟩⟩
theorem AllSl.set {vs : List Value} (h : AllSl vs) (i : Nat) (a : Option Addr) (n c : Nat) : AllSl (vs.set i (.slice a n c)) :=
  ⟨by rw [List.length_set]; exact h.1, fun v hv => by
    rcases List.mem_or_eq_of_mem_set hv with h1 | rfl
    · exact h.2 v h1
    · exact ⟨_, _, _, rfl⟩⟩
/-- The block g holds the array vs. -/
def HoldsA (w : World) (g : Nat) (vs : List Value) : Prop := AllSl vs ∧ w.heap[g]? = some (.cells vs.toArray 31 (0, 0))
theorem HoldsA.lt {w : World} {g : Nat} {vs : List Value} (h : HoldsA w g vs) : g < w.heap.size := (Array.getElem?_eq_some_iff.1 h.2).1
theorem HoldsA.below {w w' : World} {g : Nat} {vs : List Value} (h : HoldsA w g vs) (hb : Below w.heap.size w w') : HoldsA w' g vs := ⟨h.1, (hb.block g h.lt).trans h.2⟩
theorem HoldsA.kept {w w' : World} {g : Nat} {vs : List Value} {row : Option Nat} (h : HoldsA w g vs) (hg : w.grownBy w' row) (hne : some g ≠ row) : HoldsA w' g vs := ⟨h.1, (hg.block g h.lt hne).trans h.2⟩
theorem HoldsA.cell {w : World} {g : Nat} {vs : List Value} (h : HoldsA w g vs) (i : Nat) (hi : i < 27) : w.cell? ⟨g, i, none⟩ = some (vs.getD i undef) := by
  rw [cell_of_row w g i _ 31 (0, 0) h.2]
  have := h.1.1
  simp [List.getD_eq_getElem?_getD, show i < vs.length by omega]
theorem info24 : (Try.prog.info? 31).map (fun i => (i.zero, i.size)) = some (some (arr nils), 27) := by kernel_rfl
theorem size27 : (Try.prog.info? 31).map (·.size) = some 27 := by kernel_rfl
theorem size24 (vs : List Value) (h : AllSl vs) : (Try.prog.info? 31).map (·.size) = some vs.toArray.size := by
  have e : vs.toArray.size = 27 := by rw [List.size_toArray, h.1]
  exact size27.trans (congrArg some e.symm)

section
variable {w : World} {ops : Array Oper} {rest : List Oper} {o : Oper} {a : Act} {Q : Exit → Act → World → Prop}
/-- An operation whose run is known. -/
theorem wpList_value (hw : Region.wanted o (yielded ops a.tmps) = true) (v : Value) (w' : World) (hr : (execOp a.eval o).run Try.prog w = .ok (.value v) w') (h : wpList Try.prog ops Q rest (a.put o.dst v) w') : wpList Try.prog ops Q (o :: rest) a w :=
  wpList_step fun K hK => by
    rw [if_pos hw]
    unfold Oper.wp
    simp only [hr]
    exact hK _ _ h
/-- A whole array out of a variable. -/
theorem load24 (hw : Region.wanted o (yielded ops a.tmps) = true) (x : Operand) (ho : o.op = .load 31 x) (g : Nat) (hx : a.eval x = .pointer (some ⟨g, 0, none⟩)) (vs : List Value) (hg : HoldsA w g vs)
    (h : wpList Try.prog ops Q rest (a.put o.dst (arr vs)) w) : wpList Try.prog ops Q (o :: rest) a w :=
  wpList_step fun K hK => by
    rw [if_pos hw]
    exact wp_load_row 31 x ho g hx 31 _ (0, 0) _ hg.2 Try.underlying31 rfl (size24 vs hg.1) (hK _ _ h)
theorem holds_setRow {w : World} {g : Nat} {vs vs' : List Value} (hg : HoldsA w g vs) (hl : AllSl vs') : HoldsA (w.setRow g vs'.toArray) g vs' ∧ w.grownBy (w.setRow g vs'.toArray) (some g) :=
  ⟨⟨hl, setRow_heap w g _ _ 31 (0, 0) hg.2⟩, ⟨rfl, rfl, rfl, by rw [setRow_size]; exact Nat.le_refl _, fun k _ hk => setRow_other w g k _ (fun e => hk (by rw [e]))⟩⟩
/-- A whole array into a variable. -/
theorem store24 (hw : Region.wanted o (yielded ops a.tmps) = true) (x y : Operand) (ho : o.op = .store 31 x y) (g : Nat) (hx : a.eval x = .pointer (some ⟨g, 0, none⟩)) (vs old : List Value) (hy : a.eval y = arr vs) (hg : HoldsA w g old) (hl : AllSl vs)
    (h : ∀ w', HoldsA w' g vs → w.grownBy w' (some g) → wpList Try.prog ops Q rest (a.put o.dst undef) w') : wpList Try.prog ops Q (o :: rest) a w :=
  wpList_step fun K hK => by
    rw [if_pos hw]
    refine wp_store_row 31 x y ho g _ hx hy 31 _ hg.2 (size24 vs hl) ?_ hl.one (hK _ _ (h _ (holds_setRow hg hl).1 (holds_setRow hg hl).2))
    rw [List.size_toArray, List.size_toArray, hg.1.1, hl.1]
/-- A new variable for an array. -/
theorem holds_new (w : World) (vs : List Value) (hl : AllSl vs) : HoldsA (w.alloc (.cells vs.toArray 31)) w.heap.size vs := ⟨hl, heap_alloc_new _ _⟩
theorem alloc24 (hw : Region.wanted o (yielded ops a.tmps) = true) (ho : o.op = .alloc 31)
    (h : ∀ w', HoldsA w' w.heap.size nils → Below w.heap.size w w' → wpList Try.prog ops Q rest (a.put o.dst (.pointer (some ⟨w.heap.size, 0, none⟩))) w') : wpList Try.prog ops Q (o :: rest) a w := by
  have hz : ∀ w, (zeroValue 31).run Try.prog w = .ok (arr nils) w := by
    intro w
    have := info24
    cases hq : Try.prog.info? 31 with
    | none => rw [hq] at this; cases this
    | some i =>
      rw [hq] at this
      simp at this
      simp [zeroValue, typeInfo, hq, this.1]
  refine wpList_value hw (.pointer (some ⟨w.heap.size, 0, none⟩)) (w.alloc (.cells nils.toArray 31)) ?_ (h _ (holds_new w nils nils_all) (box_below _ _))
  unfold execOp
  simp only [ho, Instr.alloc, Sem.run_bind, Sem.run_pure, hz, Result.andThen_ok, newVar, newRow, newObj, arr, Value.cells]
  rfl
theorem box24 (hw : Region.wanted o (yielded ops a.tmps) = true) (x : Operand) (ho : o.op = .box 31 x) (vs : List Value) (hx : a.eval x = arr vs) (hl : AllSl vs)
    (h : ∀ w', HoldsA w' w.heap.size vs → Below w.heap.size w w' → wpList Try.prog ops Q rest (a.put o.dst (.pointer (some ⟨w.heap.size, 0, none⟩))) w') : wpList Try.prog ops Q (o :: rest) a w := by
  refine wpList_value hw (.pointer (some ⟨w.heap.size, 0, none⟩)) (w.alloc (.cells vs.toArray 31)) ?_ (h _ (holds_new w vs hl) (box_below _ _))
  unfold execOp
  simp only [ho, hx, Instr.box, Sem.run_bind, Sem.run_pure, Result.andThen_ok, newVar, newRow, newObj, arr, Value.cells]
  rfl
/-- An array of nothing. -/
theorem build24 (hw : Region.wanted o (yielded ops a.tmps) = true) (ho : o.op = .build 31 #[])
    (h : wpList Try.prog ops Q rest (a.put o.dst (arr nils)) w) : wpList Try.prog ops Q (o :: rest) a w := by
  refine wpList_value hw (arr nils) w ?_ h
  unfold execOp
  have := run_build (P := Try.prog) w 31 #[] nils.toArray (by kernel_rfl)
  simp only [ho, List.map_toArray, List.map_nil, Sem.run_bind, this, Result.andThen_ok, Sem.run_pure]
  rfl
/-- A slice of an array that is a value. -/
theorem index24 (hw : Region.wanted o (yielded ops a.tmps) = true) (x y : Operand) (ho : o.op = .index 31 x y) (vs : List Value) (hx : a.eval x = arr vs) (i : Nat) (hy : a.eval y = .int .i64 (i : Int)) (hl : AllSl vs) (hi : i < 27) (v : Value) (hv : vs.getD i undef = v)
    (h : wpList Try.prog ops Q rest (a.put o.dst v) w) : wpList Try.prog ops Q (o :: rest) a w := by
  refine wpList_value hw v w ?_ h
  unfold execOp
  have hl2 := hl.1
  have h2 : vs.toArray[i]? = some v := by
    rw [← hv]
    simp [List.getD_eq_getElem?_getD, show i < vs.length by omega]
  have hI : (0 : Int) ≤ (i : Int) ∧ (i : Int) < ((27 : Nat) : Int) := by omega
  simp only [ho, hx, hy, Instr.index, asIntOf, Sem.run_bind, Sem.run_pure, Result.andThen_ok, run_underlying Try.underlying31, arr, if_pos hI, Try.sizeOf22, Nat.mul_one, Int.toNat_natCast, part, Try.isAgg22, Bool.false_eq_true, if_false, h2]
/-- A slice into an array's variable. -/
theorem store22 (hw : Region.wanted o (yielded ops a.tmps) = true) (x y : Operand) (ho : o.op = .store 22 x y) (g i : Nat) (hx : a.eval x = .pointer (some ⟨g, i, none⟩)) (sa : Option Addr) (sn sc : Nat) (hy : a.eval y = .slice sa sn sc) (old : List Value) (hg : HoldsA w g old) (hi : i < 27)
    (h : ∀ w', HoldsA w' g (old.set i (.slice sa sn sc)) → w.grownBy w' (some g) → wpList Try.prog ops Q rest (a.put o.dst undef) w') : wpList Try.prog ops Q (o :: rest) a w := by
  have e : w.setCell ⟨g, i, none⟩ (.slice sa sn sc) = w.setRow g (old.set i (.slice sa sn sc)).toArray := by
    rw [setCell_eq_setRow w g i _ 31 (0, 0) _ hg.2]
    congr 1
    simp
  have hl := hg.1.set i sa sn sc
  have hc := hg.cell i hi
  have hf := frozen_of_row w g i _ 31 hg.2
  refine wpList_step fun K hK => ?_
  rw [if_pos hw]
  have hr : (execOp a.eval o).run Try.prog w = .ok .skip (w.setRow g (old.set i (.slice sa sn sc)).toArray) := by
    rw [← e]
    unfold execOp
    simp only [ho, hx, hy]
    go_simp
  unfold Oper.wp
  simp only [hr]
  exact hK _ _ (h _ (holds_setRow hg hl).1 (holds_setRow hg hl).2)
end
/-- How a call ends whose results are an array's variable and a number. -/
theorem ret_arr {fn : Func} {p u : Tmp} (h : fn.results = #[.cell p 31, .tmp u]) (tmps : Array Value) (w : World) (g : Nat) (vs : List Value) (v : Value) (hp : tmps.getD p undef = .pointer (some ⟨g, 0, none⟩)) (hv : tmps.getD u undef = v) (hg : HoldsA w g vs) :
    (results fn tmps).run Try.prog w = .ok (.tuple #[arr vs, v]) w := by
  rw [results_cell_tmp h, hp, hv]
  have := run_loadVar_row (P := Try.prog) w g 31 31 _ (0, 0) _ hg.2 Try.underlying31 rfl (size24 vs hg.1)
  simp only [asAddr, Sem.run_pure, Result.andThen_ok, this]
  rfl
theorem ret_one {fn : Func} {p : Tmp} (h : fn.results = #[.cell p 31]) (tmps : Array Value) (w : World) (g : Nat) (vs : List Value) (hp : tmps.getD p undef = .pointer (some ⟨g, 0, none⟩)) (hg : HoldsA w g vs) :
    (results fn tmps).run Try.prog w = .ok (arr vs) w := by
  simp only [results, h]
  have h2 : tmps[p]?.getD undef = .pointer (some ⟨g, 0, none⟩) := by rw [← Array.getD_eq_getD_getElem?]; exact hp
  have := run_loadVar_row (P := Try.prog) w g 31 31 _ (0, 0) _ hg.2 Try.underlying31 rfl (size24 vs hg.1)
  simp [Sem.run_bind, h2, asAddr, this]
  rfl

/-! The texts. -/
def nilT : List (List Int) := List.replicate 27 []
/-- The slices vs hold the texts ts. -/
def ReadsR (w : World) (vs : List Value) (ts : List (List Int)) : Prop := AllSl vs ∧ ts.length = 27 ∧ ∀ i, i < 27 → Reads w (vs.getD i undef) (ts.getD i []) ∧ Mild (ts.getD i [])
theorem ReadsR.below {w w' : World} {vs : List Value} {ts : List (List Int)} (h : ReadsR w vs ts) (hb : Below w.heap.size w w') : ReadsR w' vs ts := ⟨h.1, h.2.1, fun i hi => ⟨(h.2.2 i hi).1.below hb, (h.2.2 i hi).2⟩⟩
theorem ReadsR.at_ {w : World} {vs : List Value} {ts : List (List Int)} (h : ReadsR w vs ts) (i : Nat) (hi : i < 27) : ∃ a c, vs.getD i undef = .slice a (ts.getD i []).length c ∧ Reads w (.slice a (ts.getD i []).length c) (ts.getD i []) ∧ Mild (ts.getD i []) := by
  obtain ⟨h1, h2⟩ := h.2.2 i hi
  obtain ⟨a, c, e⟩ := h1.shape
  exact ⟨a, c, e, e ▸ h1, h2⟩
theorem nils_at (i : Nat) (hi : i < 27) : nils.getD i undef = .slice none 0 0 := by
  unfold nils
  rw [List.getD_eq_getElem?_getD, List.getElem?_replicate, if_pos hi]
  rfl
theorem nilT_at (i : Nat) : nilT.getD i [] = [] := by
  unfold nilT
  rw [List.getD_eq_getElem?_getD, List.getElem?_replicate]
  split <;> rfl
theorem readsR_nil (w : World) : ReadsR w nils nilT := ⟨nils_all, rfl, fun i hi => by rw [nils_at i hi, nilT_at]; exact ⟨.inl ⟨_, _, rfl, rfl⟩, by show ([] : List Int).length * 8 ≤ _; decide⟩⟩
theorem getD_set_same {α : Type} (l : List α) (i : Nat) (x d : α) (h : i < l.length) : (l.set i x).getD i d = x := by
  rw [List.getD_eq_getElem?_getD, List.getElem?_set_self h]; rfl
theorem getD_set_other {α : Type} (l : List α) (i j : Nat) (x d : α) (h : i ≠ j) : (l.set i x).getD j d = l.getD j d := by
  rw [List.getD_eq_getElem?_getD, List.getElem?_set_ne h, List.getD_eq_getElem?_getD]
theorem ReadsR.set {w : World} {vs : List Value} {ts : List (List Int)} (h : ReadsR w vs ts) (k : Nat) (hk : k < 27) (a : Option Addr) (c : Nat) (zs : List Int) (hr : Reads w (.slice a zs.length c) zs) (hm : Mild zs) :
    ReadsR w (vs.set k (.slice a zs.length c)) (ts.set k zs) := by
  have l1 := h.1.1
  have l2 := h.2.1
  refine ⟨h.1.set k _ _ _, by rw [List.length_set]; exact l2, fun i hi => ?_⟩
  by_cases e : k = i
  · subst e
    rw [getD_set_same _ _ _ _ (by omega), getD_set_same _ _ _ _ (by omega)]
    exact ⟨hr, hm⟩
  · rw [getD_set_other _ _ _ _ _ e, getD_set_other _ _ _ _ _ e]
    exact h.2.2 i hi

theorem cloneI_any (v : Value) (zs : List Int) (w : World) (h : Reads w v zs) (hr : Mild zs) :
    Calls Try.prog 61 #[v] w fun e w' => Below w.heap.size w w' ∧ ∃ a c, e = .returned (.slice a zs.length c) ∧ OwnI w' w.heap.size (.slice a zs.length c) zs := by
  unfold Mild at hr
  rcases h with ⟨a, cap, rfl, rfl⟩ | ⟨b, off, cap, rfl, _, _, _, hc⟩
  · cases a with
    | none =>
      refine (Try.slices_Clone_int_nil 0 cap w).mono ?_
      rintro e w' ⟨rfl, rfl⟩
      exact ⟨Below.refl _ _, _, _, rfl, ownI_nil _ _⟩
    | some a =>
      refine (Try.slices_Clone_int_zero a cap w).mono ?_
      rintro e w' ⟨v', rfl, hown, _, hb⟩
      have ho : OwnI w' w.heap.size v' [] := hown
      obtain ⟨a, c, hv⟩ := ho.reads.shape
      subst hv
      exact ⟨hb, a, c, rfl, ho⟩
  · refine (Try.slices_Clone_int b off zs.length cap zs w (Nat.le_refl _) (by omega) hc).mono ?_
    rintro e w' ⟨v', rfl, hown, _, hb⟩
    rw [List.take_length] at hown
    have ho : OwnI w' w.heap.size v' zs := hown
    obtain ⟨a, c, hv⟩ := ho.reads.shape
    subst hv
    exact ⟨hb, a, c, rfl, ho⟩
/-- The slices vs hold the texts ts in memory of the call's own, each in its own. -/
def OwnR (w : World) (B : Nat) (vs : List Value) (ts : List (List Int)) : Prop :=
  ReadsR w vs ts ∧ (∀ i, i < 27 → OwnI w B (vs.getD i undef) (ts.getD i [])) ∧ ∀ i j, i < j → j < 27 → ∀ k, (vs.getD i undef).ownBlock = some k → (vs.getD j undef).ownBlock ≠ some k
theorem OwnR.below {w w' : World} {B : Nat} {vs : List Value} {ts : List (List Int)} (h : OwnR w B vs ts) (hb : Below w.heap.size w w') : OwnR w' B vs ts := ⟨h.1.below hb, fun i hi => (h.2.1 i hi).below hb, h.2.2⟩
theorem OwnR.less {w : World} {B B' : Nat} {vs : List Value} {ts : List (List Int)} (h : OwnR w B vs ts) (hb : B' ≤ B) : OwnR w B' vs ts := ⟨h.1, fun i hi => (h.2.1 i hi).less hb, h.2.2⟩
theorem ownR_nil (w : World) (B : Nat) : OwnR w B nils nilT := ⟨readsR_nil w, fun i hi => by rw [nils_at i hi, nilT_at]; exact ownI_nil _ _, fun i j hij hj k hk => by rw [nils_at i (by omega)] at hk; cases hk⟩
end Go.Proofs.Ytpgjaoemkadenaa.Seek

/- The contracts of reg.allCopied and of the document's SameRegs. -/
set_option linter.unusedVariables false
set_option linter.unusedSimpArgs false
set_option maxRecDepth 100000
namespace Go.Proofs.Ytpgjaoemkadenaa.Seek
open Go.RowKit

theorem OwnI.kept {w w' : World} {B : Nat} {v : Value} {zs : List Int} {g : Nat} (h : OwnI w B v zs) (hg : w.grownBy w' (some g)) (hne : v.ownBlock ≠ some g) : OwnI w' B v zs := World.ownsRow.kept h hg (.inr hne)
/-- The first i slices are copies. -/
def Copied (w : World) (B : Nat) (ls : List Value) (ts : List (List Int)) (i : Nat) : Prop :=
  (∀ j, j < i → OwnI w B (ls.getD j undef) (ts.getD j [])) ∧ ∀ j j', j < j' → j' < i → ∀ k, (ls.getD j undef).ownBlock = some k → (ls.getD j' undef).ownBlock ≠ some k
theorem Copied.step {w w1 w2 : World} {B g : Nat} {ls : List Value} {ts : List (List Int)} {i : Nat} (h : Copied w B ls ts i) (hl : AllSl ls) (hi : i < 27) (hb : Below w.heap.size w w1) (a : Option Addr) (n c : Nat) (ho : OwnI w1 w.heap.size (.slice a n c) (ts.getD i [])) (hB : B ≤ w.heap.size) (hg : w1.grownBy w2 (some g)) (hgB : g < B) :
    Copied w2 B (ls.set i (.slice a n c)) ts (i + 1) := by
  have ll := hl.1
  have e1 : (ls.set i (.slice a n c)).getD i undef = .slice a n c := getD_set_same _ _ _ _ (by omega)
  have e2 : ∀ j, j < i → (ls.set i (.slice a n c)).getD j undef = ls.getD j undef := fun j hj => getD_set_other _ _ _ _ _ (by omega)
  have hk : ∀ {v zs B'}, OwnI w1 B' v zs → B ≤ B' → OwnI w2 B v zs := fun {v zs B'} h hB' => (h.less hB').kept hg (fun e => by have := (h.lt _ e).1; omega)
  refine ⟨fun j hj => ?_, fun j j' hjj hj' k hk' => ?_⟩
  · by_cases e : j = i
    · subst e
      rw [e1]
      exact hk ho hB
    · rw [e2 j (by omega)]
      exact hk ((h.1 j (by omega)).below hb) (Nat.le_refl _)
  · by_cases e : j' = i
    · subst e
      rw [e1]
      rw [e2 j hjj] at hk'
      intro hk2
      have h1 := ((h.1 j hjj).lt _ hk').2
      have h2 := (ho.lt _ hk2).1
      omega
    · rw [e2 j' (by omega)]
      rw [e2 j (by omega)] at hk'
      exact h.2 j j' hjj (by omega) k hk'
theorem Copied.all {w : World} {B : Nat} {ls : List Value} {ts : List (List Int)} (h : Copied w B ls ts 27) (hl : AllSl ls) (ht : ts.length = 27) (hm : ∀ i, i < 27 → Mild (ts.getD i [])) : OwnR w B ls ts :=
  ⟨⟨hl, ht, fun i hi => ⟨(h.1 i hi).reads, hm i hi⟩⟩, h.1, h.2⟩
theorem Copied.grown {w w' : World} {B g : Nat} {ls : List Value} {ts : List (List Int)} {i : Nat} (h : Copied w B ls ts i) (hg : w.grownBy w' (some g)) (hgB : g < B) : Copied w' B ls ts i :=
  ⟨fun j hj => (h.1 j hj).kept hg (fun e => by have := ((h.1 j hj).lt _ e).1; omega), h.2⟩

set_option maxHeartbeats 1000000 in
theorem copied_any (vs : List Value) (ts : List (List Int)) (w : World) (h : ReadsR w vs ts) :
    Calls Try.prog 60 #[arr vs] w fun e w' => Below w.heap.size w w' ∧ ∃ ls, e = .returned (arr ls) ∧ OwnR w' w.heap.size ls ts := by
  have hl := h.1
  have HT : Hid (ts.length = 27) := h.2.1
  have HM : Hid (∀ i, i < 27 → Mild (ts.getD i [])) := fun i hi => (h.2.2 i hi).2
  have H : Hid (∀ wx, Below w.heap.size w wx → ReadsR wx vs ts) := fun wx hb => h.below hb
  clear h
  go_enter Try.func60, Try.ntmps60
  go_wp2_with (refine box24 rfl _ rfl vs rfl hl ?_)
  intro w1 ha hb
  have HB1 : Hid (Below w.heap.size w w1) := hb
  have HA1 : Hid (HoldsA w1 w.heap.size vs) := ha
  clear ha hb
  go_wp2_with (refine alloc24 rfl rfl ?_)
  intro w2 ha hb
  have HB2 : Hid (Below w.heap.size w w2) := below_trans HB1.out hb HB1.out.size
  have HA2 : Hid (HoldsA w2 w.heap.size vs) := HA1.out.below hb
  have HZ2 : Hid (HoldsA w2 w1.heap.size nils) := ha
  have HN : Hid (w.heap.size < w1.heap.size ∧ w1.heap.size < w2.heap.size) := ⟨HA1.out.lt, ha.lt⟩
  clear ha hb HB1 HA1
  generalize w1.heap.size = G at *
  go_wp2_with (refine load24 rfl _ rfl w.heap.size rfl vs HA2.out ?_)
  go_loopw [6] (fun u6 wr => ∃ (i : Nat) (ls : List Value), u6 = .int .i64 (i : Int) ∧ i ≤ 27 ∧ Hid (HoldsA wr w.heap.size ls) ∧ Hid (HoldsA wr G nils) ∧ Hid (Below w.heap.size w wr) ∧ Hid (Copied wr w2.heap.size ls ts i) ∧ Hid (w2.heap.size ≤ wr.heap.size))
    (fun u6 _ => 27 - (intOf u6).toNat)
  case atStart => exact ⟨0, vs, rfl, by omega, HA2.out, HZ2.out, HB2.out, ⟨fun j hj => by omega, fun j j' _ hj => by omega⟩, Nat.le_refl _⟩
  case round =>
    obtain ⟨i, ls, rfl, hi, Ha, Hz, Hb, Hc, Hs⟩ := hrel
    by_cases hlt : i < 27
    · have hiI : (i : Int) < 27 := by omega
      obtain ⟨a, c, hv, hr, hm⟩ := (H.out wr Hb.out).at_ i hlt
      have HR : Hid (Reads wr (.slice a (ts.getD i []).length c) (ts.getD i [])) := hr
      have HV : Hid (vs.getD i undef = .slice a (ts.getD i []).length c) := hv
      have HMi : Hid (Mild (ts.getD i [])) := hm
      clear hr hv hm
      obtain ⟨t, ht⟩ : ∃ t, t = ts.getD i [] := ⟨_, rfl⟩
      have HTI : Hid (ts.getD i [] = t) := ht.symm
      rw [← ht] at HR HV HMi
      clear ht
      go_wp2_with (refine index24 rfl _ _ rfl vs rfl i rfl hl hlt _ HV.out ?_)
      refine (cloneI_any _ t wr HR.out HMi.out).mono ?_
      rintro e w5 ⟨hb, a5, c5, rfl, ho⟩
      have HB5 : Hid (Below w.heap.size w w5) := below_trans Hb.out hb Hb.out.size
      have HA5 : Hid (HoldsA w5 w.heap.size ls) := Ha.out.below hb
      have HZ5 : Hid (HoldsA w5 G nils) := Hz.out.below hb
      have HO5 : Hid (OwnI w5 wr.heap.size (.slice a5 t.length c5) t) := ho
      have HBB : Hid (Below wr.heap.size wr w5) := hb
      clear hb ho Hz Hb HR
      go_wp2_with (refine store22 rfl _ _ rfl w.heap.size i rfl a5 t.length c5 rfl ls HA5.out hlt ?_)
      intro w6 hh hg
      have HB6 : Hid (Below w.heap.size w w6) := HB5.out.grown hg HB5.out.size (fun j hj => by cases hj; exact Nat.le_refl _)
      have HA6 : Hid (HoldsA w6 w.heap.size (ls.set i (.slice a5 t.length c5))) := hh
      have HZ6 : Hid (HoldsA w6 G nils) := HZ5.out.kept hg (fun e => by have := HN.out; have := Option.some.inj e; omega)
      have HC6 : Hid (Copied w6 w2.heap.size (ls.set i (.slice a5 t.length c5)) ts (i + 1)) := by
        have ho := HO5.out
        refine Hc.out.step Ha.out.1 hlt HBB.out _ _ _ (by rw [HTI.out]; exact ho) Hs.out hg ?_
        have := HN.out
        omega
      have HS6 : Hid (w2.heap.size ≤ w6.heap.size) := Nat.le_trans Hs.out (Nat.le_trans HBB.out.size hg.size)
      clear hh hg HB5 HA5 HZ5 HO5 HBB Hc Hs Ha
      go_wp2_with fail
      go_roundw
      case rel => exact ⟨i + 1, _, by go_num, by omega, HA6.out, HZ6.out, HB6.out, HC6.out, HS6.out⟩
      case measure => simp [intOf] <;> omega
    · obtain rfl : i = 27 := by omega
      have HLS : Hid (AllSl ls) := Ha.out.1
      go_wp2_with (first | (refine load24 rfl _ rfl w.heap.size rfl ls Ha.out ?_) | (refine store24 rfl _ _ rfl G rfl ls nils rfl Hz.out HLS.out ?_))
      intro w6 hz hg
      have HB6 : Hid (Below w.heap.size w w6) := Hb.out.grown hg Hb.out.size (fun j hj => by have := HN.out; cases hj; omega)
      have HZ6 : Hid (HoldsA w6 G ls) := hz
      have HO6 : Hid (OwnR w6 w.heap.size ls ts) := ((Hc.out.grown hg HN.out.2).all HLS.out HT.out HM.out).less HB2.out.size
      clear hz hg Hb Hz Hc Ha
      go_wp2_with fail
      (try simp only [Exit.inBlock, Exit.then])
      refine bodyPost_ret (ret_one rfl _ _ G ls rfl HZ6.out) rfl ?_
      exact ⟨HB6.out, ls, rfl, HO6.out⟩
end Go.Proofs.Ytpgjaoemkadenaa.Seek

/- The contracts of reg.isSmall, isGreat, numberOf and of the document's register. -/
set_option linter.unusedVariables false
set_option linter.unusedSimpArgs false
set_option maxRecDepth 100000
namespace Go.Proofs.Ytpgjaoemkadenaa.Seek
open Go.RowKit

/-- The name of register k; g: a great letter. -/
def Named (name : Int) (k : Nat) (g : Bool) : Prop := (name = 0 ∧ k = 0 ∧ g = false) ∨ (97 ≤ name ∧ name ≤ 122 ∧ name = (k : Int) + 96 ∧ g = false) ∨ (65 ≤ name ∧ name ≤ 90 ∧ name = (k : Int) + 64 ∧ g = true)
def NoName (name : Int) : Prop := name ≠ 0 ∧ (name < 97 ∨ 122 < name) ∧ (name < 65 ∨ 90 < name)
theorem Named.lt {name : Int} {k : Nat} {g : Bool} (h : Named name k g) : k < 27 := by unfold Named at h; omega
theorem named_or (name : Int) : NoName name ∨ ∃ k g, Named name k g := by
  unfold NoName Named
  by_cases h0 : name = 0
  · exact .inr ⟨0, false, .inl ⟨h0, rfl, rfl⟩⟩
  · by_cases h1 : 97 ≤ name ∧ name ≤ 122
    · exact .inr ⟨(name - 96).toNat, false, .inr (.inl ⟨h1.1, h1.2, by omega, rfl⟩)⟩
    · by_cases h2 : 65 ≤ name ∧ name ≤ 90
      · exact .inr ⟨(name - 64).toNat, true, .inr (.inr ⟨h2.1, h2.2, by omega, rfl⟩)⟩
      · exact .inl ⟨h0, by omega, by omega⟩
theorem Named.only {name : Int} {k k' : Nat} {g g' : Bool} (h : Named name k g) (h' : Named name k' g') : k = k' ∧ g = g' := by
  unfold Named at h h'
  rcases h with ⟨a, b, c⟩ | ⟨a, b, d, c⟩ | ⟨a, b, d, c⟩ <;> rcases h' with ⟨a', b', c'⟩ | ⟨a', b', d', c'⟩ | ⟨a', b', d', c'⟩ <;> first | (exfalso; omega) | exact ⟨by omega, by rw [c, c']⟩

theorem small_yes (x : Int) (w : World) (h1 : 97 ≤ x) (h2 : x ≤ 122) : Calls Try.prog 72 #[.int .i64 x] w fun e w' => e = .returned (.bool true) ∧ w' = w := by
  go_enter Try.func72, Try.ntmps72
  go_wp2_with fail
  all_goals first
    | (exfalso; omega)
    | (go_ret; exact ⟨by first | rfl | (simp; omega), rfl⟩)
theorem small_no (x : Int) (w : World) (h : x < 97 ∨ 122 < x) : Calls Try.prog 72 #[.int .i64 x] w fun e w' => e = .returned (.bool false) ∧ w' = w := by
  by_cases h1 : 97 ≤ x
  all_goals
    go_enter Try.func72, Try.ntmps72
    go_wp2_with fail
    all_goals first
      | (exfalso; omega)
      | (go_ret; exact ⟨by first | rfl | (simp; omega), rfl⟩)
theorem great_yes (x : Int) (w : World) (h1 : 65 ≤ x) (h2 : x ≤ 90) : Calls Try.prog 59 #[.int .i64 x] w fun e w' => e = .returned (.bool true) ∧ w' = w := by
  go_enter Try.func59, Try.ntmps59
  go_wp2_with fail
  all_goals first
    | (exfalso; omega)
    | (go_ret; exact ⟨by first | rfl | (simp; omega), rfl⟩)
theorem great_no (x : Int) (w : World) (h : x < 65 ∨ 90 < x) : Calls Try.prog 59 #[.int .i64 x] w fun e w' => e = .returned (.bool false) ∧ w' = w := by
  by_cases h1 : 65 ≤ x
  all_goals
    go_enter Try.func59, Try.ntmps59
    go_wp2_with fail
    all_goals first
      | (exfalso; omega)
      | (go_ret; exact ⟨by first | rfl | (simp; omega), rfl⟩)
theorem great_named (name : Int) (k : Nat) (g : Bool) (w : World) (h : Named name k g) : Calls Try.prog 59 #[.int .i64 name] w fun e w' => e = .returned (.bool g) ∧ w' = w := by
  rcases h with ⟨a, b, rfl⟩ | ⟨a, b, d, rfl⟩ | ⟨a, b, d, rfl⟩
  · exact great_no _ _ (by omega)
  · exact great_no _ _ (by omega)
  · exact great_yes _ _ a b

theorem number_none (name : Int) (w : World) (h : NoName name) : Calls Try.prog 58 #[.int .i64 name] w fun e w' => e = .returned (.tuple #[.int .i64 0, .bool false]) ∧ w' = w := by
  obtain ⟨h0, h1, h2⟩ := h
  have H1 : Hid (name < 97 ∨ 122 < name) := h1
  have H2 : Hid (name < 65 ∨ 90 < name) := h2
  clear h1 h2
  go_enter Try.func58, Try.ntmps58
  go_wp2_with fail
  refine (small_no _ _ H1.out).mono ?_
  rintro e w' ⟨rfl, rfl⟩
  go_wp2_with fail
  refine (great_no _ _ H2.out).mono ?_
  rintro e w' ⟨rfl, rfl⟩
  go_wp2_with fail
  go_ret2
  exact ⟨rfl, rfl⟩
theorem number_named (name : Int) (k : Nat) (g : Bool) (w : World) (h : Named name k g) : Calls Try.prog 58 #[.int .i64 name] w fun e w' => e = .returned (.tuple #[.int .i64 (k : Int), .bool true]) ∧ w' = w := by
  rcases h with ⟨rfl, rfl, rfl⟩ | ⟨a, b, d, rfl⟩ | ⟨a, b, d, rfl⟩
  · go_enter Try.func58, Try.ntmps58
    go_wp2_with fail
    go_ret2
    exact ⟨rfl, rfl⟩
  · have h0 : name ≠ 0 := by omega
    have hk : name - 97 + 1 = (k : Int) := by omega
    have HK : Hid (name - 97 + 1 = (k : Int)) := hk
    clear d hk
    go_enter Try.func58, Try.ntmps58
    go_wp2_with fail
    refine (small_yes _ _ a b).mono ?_
    rintro e w' ⟨rfl, rfl⟩
    go_wp2_with fail
    go_ret2
    exact ⟨by rw [← HK.out]; rfl, rfl⟩
  · have h0 : name ≠ 0 := by omega
    have hk : name - 65 + 1 = (k : Int) := by omega
    have HK : Hid (name - 65 + 1 = (k : Int)) := hk
    have HS : Hid (name < 97 ∨ 122 < name) := by show _ ∨ _; omega
    clear d hk
    go_enter Try.func58, Try.ntmps58
    go_wp2_with fail
    refine (small_no _ _ HS.out).mono ?_
    rintro e w' ⟨rfl, rfl⟩
    go_wp2_with fail
    refine (great_yes _ _ a b).mono ?_
    rintro e w' ⟨rfl, rfl⟩
    go_wp2_with fail
    go_ret2
    exact ⟨by rw [← HK.out]; rfl, rfl⟩
end Go.Proofs.Ytpgjaoemkadenaa.Seek

/- The contracts of slices.Grow of nothing and of slices.Concat of any number of slices. -/
set_option linter.unusedVariables false
set_option linter.unusedSimpArgs false
set_option maxRecDepth 100000
namespace Go.Proofs.Ytpgjaoemkadenaa.Seek
open Go.RowKit

/-- An append whose run is known. -/
theorem wpList_append_run {w : World} {ops : Array Oper} {rest : List Oper} {o : Oper} {a : Act} {Q : Exit → Act → World → Prop} (hgd : o.guard = none) (s x : Operand) (t1 t2 : TypeId)
    (ho : o.op = .call { callee := .builtin .append, args := #[s, x], argTypes := #[t1, t2] }) (u1 u2 v : Value) (w' : World) (hs : a.eval s = u1) (hx : a.eval x = u2)
    (hr : ∀ ty, (Builtin.append_ #[t1, t2] ty #[u1, u2]).run Try.prog w = .ok v w') (h : wpList Try.prog ops Q rest (a.put o.dst v) w') : wpList Try.prog ops Q (o :: rest) a w :=
  wpList_plain hgd fun _ hK => by
    unfold Oper.wp execOp
    simp only [ho, resolve, invoke, builtin, Sem.run_bind, Sem.run_pure, Result.andThen_ok, List.map_toArray, List.map_cons, List.map_nil, hs, hx, hr]
    exact hK _ _ h
/-- An append of nothing. -/
theorem run_append_zero (w : World) (d : Option Addr) (n cap : Nat) (a : Option Addr) (c : Nat) (hn : n ≤ cap) (ty : TypeId) : (Builtin.append_ #[22, 22] ty #[.slice d n cap, .slice a 0 c]).run Try.prog w = .ok (.slice d n cap) w := by
  obtain ⟨i0, hi, hz0, hz1, hz2⟩ := info_parts info3
  cases d <;> cases a <;> simp [Builtin.append_, go_sem, run_underlying Try.underlying22, Go.sizeOf, typeInfo, hi, Builtin.lenOf, Builtin.firstCells, hn, storeCells]

theorem grow_none (w : World) : Calls Try.prog 27 #[.slice none 0 0, .int .i64 ((0 : Nat) : Int)] w fun e w' => e = .returned (.slice none 0 0) ∧ w' = w := by
  go_enter Try.func27, Try.ntmps27
  go_wp2_with fail
  go_ret
  exact ⟨rfl, rfl⟩

/-- What Grow leaves. -/
def GrowPost (n : Nat) (w : World) (e : Ending) (w' : World) : Prop :=
  Below w.heap.size w w' ∧ ∃ g cap, e = .returned (.slice (some ⟨g, 0, none⟩) 0 cap) ∧ w.heap.size ≤ g ∧ n ≤ cap ∧ w'.ownsRow w.heap.size 3 1 (.slice (some ⟨g, 0, none⟩) 0 cap) 0 []
set_option maxHeartbeats 1000000 in
theorem grow_some (n : Nat) (w : World) (h0 : 0 < n) (hb : n * 8 ≤ 281474976710656) : Calls Try.prog 27 #[.slice none 0 0, .int .i64 (n : Int)] w fun e w' => GrowPost n w e w' := by
  obtain ⟨i0, hi, hz0, hz1, hz2⟩ := info_parts info3
  have hold : (Builtin.firstCells i0.size 0 (.slice none 0 0)).run Try.prog w.drew = .ok ([] : List Value).toArray w.drew := run_firstCells_none w.drew i0.size 0 0 0
  have hnx : Builtin.nextslicecap (0 + n) 0 * i0.bytes ≤ 281474976710656 := by
    unfold Builtin.nextslicecap
    rw [if_pos (by omega), hz2]
    omega
  have hrz : ∀ ty, (Builtin.append_ #[22, 3] ty #[.slice none 0 0, .int .i64 (n : Int)]).run Try.prog w = _ := fun ty =>
    Lib.run_append_grow_zeros w 22 3 ty 3 i0 (.int .i64 0) .i64 .i64 Try.underlying22 Try.underlying3 hi hz0 none 0 0 [] hold n h0 (by omega) (by omega) (by omega) (by rw [hz2]; omega) hnx
  have hG1 : n ≤ grownCap w (0 + n) 0 3 := by have := grownCap_ge w (0 + n) 0 3; omega
  have hG2 : grownCap w (0 + n) 0 3 ≤ maxLen := grownCap_le_maxLen w (0 + n) 0 3 (by unfold maxLen; omega)
  rw [Nat.zero_add] at hG1 hG2 hrz
  generalize grownCap w n 0 3 = G at *
  generalize hcur : (([] : List Value).toArray ++ Builtin.zeroCells (Value.int .i64 0).cells n ++ Builtin.zeroCells (Value.int .i64 0).cells (G - n)) = cur at *
  have hcs : cur.size = G * 1 := by
    rw [← hcur, Array.size_append, Array.size_append, size_zeroCells, size_zeroCells]
    show 0 + n * 1 + (G - n) * 1 = G * 1
    omega
  clear hold hnx hcur
  have Hown : Hid ((w.drew.alloc (.cells cur 3)).ownsRow w.heap.size 3 1 (.slice (some ⟨w.heap.size, 0, none⟩) 0 G) 0 []) := by
    refine ⟨rfl, .inr ⟨w.heap.size, G, cur, rfl, Nat.le_refl _, ?_, Nat.zero_le _, hG2, hcs, rfl⟩⟩
    show (w.heap.push _)[w.heap.size]? = _
    simp
  unfold maxLen at hG2
  have hn0 : ¬ (n : Int) < 0 := by omega
  have hn1 : (0 : Int) < (n : Int) := by omega
  go_enter Try.func27, Try.ntmps27
  go_wp2_with (at_builtin; refine wpList_append_run rfl _ _ 22 3 rfl _ _ _ _ rfl rfl hrz ?_)
  clear hrz
  go_wp2_with fail
  go_ret
  exact ⟨(below_drewN (Below.refl _ _) 1).alloc (Nat.le_refl _) _, _, G, rfl, Nat.le_refl _, hG1, Hown.out⟩

/-- Some numbers behind an owned row that has room for them. -/
theorem append_reads {w : World} {ops : Array Oper} {rest : List Oper} {o : Oper} {a : Act} {Q : Exit → Act → World → Prop} (hgd : o.guard = none) (s x : Operand)
    (ho : o.op = .call { callee := .builtin .append, args := #[s, x], argTypes := #[22, 22] }) (B g cap : Nat) (v2 : Value) (xs ys : List Int)
    (hs : a.eval s = .slice (some ⟨g, 0, none⟩) xs.length cap) (hown : w.ownsRow B 3 1 (.slice (some ⟨g, 0, none⟩) xs.length cap) xs.length (ints xs)) (hx : a.eval x = v2) (hr : Reads w v2 ys)
    (hroom : xs.length + ys.length ≤ cap)
    (h : ∀ w', w'.ownsRow B 3 1 (.slice (some ⟨g, 0, none⟩) (xs ++ ys).length cap) (xs ++ ys).length (ints (xs ++ ys)) → w.grownBy w' (some g) → wpList Try.prog ops Q rest (a.put o.dst (.slice (some ⟨g, 0, none⟩) (xs ++ ys).length cap)) w') : wpList Try.prog ops Q (o :: rest) a w := by
  obtain ⟨i0, hi, hz0, hz1, hz2⟩ := info_parts info3
  rcases hr with ⟨a2, c2, rfl, rfl⟩ | ⟨b, off, c2, rfl, _, _, _, hc⟩
  · refine wpList_append_run hgd s x 22 22 ho _ _ _ w hs hx (fun ty => run_append_zero w _ _ _ a2 c2 (by simpa using hroom) ty) ?_
    have := h w (by rw [List.append_nil]; exact hown) ⟨rfl, rfl, rfl, Nat.le_refl _, fun _ _ _ => rfl⟩
    rw [List.append_nil] at this
    exact this
  · refine wpList_append_own_spare w hgd s x 22 ho B 3 i0 1 Try.underlying22 hi hz1 g xs.length cap (ints xs) hs hown ⟨b, off, none⟩ ys.length c2 (ints ys) hx (by rw [ints_len, Nat.mul_one]) ?_ ?_ hroom ?_
    · intro j u hj
      unfold ints at hj
      rw [List.getElem?_map] at hj
      by_cases hjl : j < ys.length
      · rw [List.getElem?_eq_getElem hjl] at hj
        have h1 := hc j hjl
        rw [List.getD_eq_getElem?_getD, List.getElem?_eq_getElem hjl] at h1
        have e : (⟨b, off, none⟩ : Addr).add j = ⟨b, off + j, none⟩ := by
          simp only [Addr.add]
          split <;> simp_all
        rw [e, h1]
        simpa using hj
      · rw [List.getElem?_eq_none (by omega)] at hj
        cases hj
    · intro u hu
      unfold ints at hu
      obtain ⟨c, _, rfl⟩ := List.mem_map.1 hu
      rfl
    · intro w' h1 h2
      have e1 : ints (xs ++ ys) = ints xs ++ ints ys := by unfold ints; rw [List.map_append]
      have e2 : (xs ++ ys).length = xs.length + ys.length := List.length_append
      have := h w' (by rw [e1, e2]; exact h1) h2
      rw [e2] at this
      exact this

/-- The first k lists joined. -/
def joined (xs : Nat → List Int) : Nat → List Int
  | 0 => []
  | k + 1 => joined xs k ++ xs k
theorem joined_le (xs : Nat → List Int) (k : Nat) : ∀ n, k ≤ n → (joined xs k).length ≤ (joined xs n).length
  | 0, h => by
    obtain rfl : k = 0 := by omega
    exact Nat.le_refl _
  | n + 1, h => by
    by_cases hk : k = n + 1
    · subst hk
      exact Nat.le_refl _
    · have := joined_le xs k n (by omega)
      rw [joined, List.length_append]
      omega
/-- What Concat answers. -/
def ConcatPost (zs : List Int) (w : World) (e : Ending) (w' : World) : Prop := Below w.heap.size w w' ∧ ∃ v, e = .returned v ∧ Own w' w.heap.size v zs

set_option maxHeartbeats 2000000 in
theorem concat_none (g0 c0 n : Nat) (vs : Nat → Value) (xs : Nat → List Int) (w : World) (hn : n ≤ 1000000) (hc : ∀ j, j < n → w.cell? ⟨g0, j, none⟩ = some (vs j)) (hr : ∀ j, j < n → Reads w (vs j) (xs j)) (h0 : (joined xs n).length = 0) :
    Calls Try.prog 15 #[.slice (some ⟨g0, 0, none⟩) n c0] w fun e w' => ConcatPost (joined xs n) w e w' := by
  have Hc : Hid (∀ j, j < n → ∃ a c, w.cell? ⟨g0, j, none⟩ = some (.slice a 0 c)) := by
    intro j hj
    have h1 : (xs j).length = 0 := by
      have := joined_le xs (j + 1) n (by omega)
      rw [joined, List.length_append] at this
      omega
    obtain ⟨a, c, hv⟩ := (hr j hj).shape
    rw [h1] at hv
    exact ⟨a, c, by rw [hc j hj, hv]⟩
  have H0 : Hid (joined xs n = []) := List.length_eq_zero_iff.1 h0
  clear hc hr h0
  go_enter Try.func15, Try.ntmps15
  go_wp2_with fail
  go_loop [3, 11] (fun u3 u11 => ∃ k : Nat, k ≤ n ∧ u11 = .int .i64 (k : Int) ∧ u3 = .int .i64 0) (fun _ u11 => ((n : Int) - intOf u11).toNat)
  case atStart => exact ⟨0, by omega, rfl, rfl⟩
  case round =>
    obtain ⟨k, hk, rfl, rfl⟩ := hrel
    by_cases hlt : k < n
    · obtain ⟨a, c, hc⟩ := Hc.out k hlt
      go_wp2_with fail
      go_round
      case rel => exact ⟨k + 1, by omega, by go_num, rfl⟩
      case measure => simp [intOf]; omega
    · obtain rfl : k = n := by omega
      go_wp2_with fail
      refine (grow_none w).mono ?_
      rintro e w' ⟨rfl, rfl⟩
      go_wp2_with fail
      go_loop [6, 27] (fun u6 u27 => ∃ m : Nat, m ≤ k ∧ u27 = .int .i64 (m : Int) ∧ u6 = .slice none 0 0) (fun _ u27 => ((k : Int) - intOf u27).toNat)
      case atStart => exact ⟨0, by omega, rfl, rfl⟩
      case round =>
        obtain ⟨m, hm, rfl, rfl⟩ := hrel
        by_cases hml : m < k
        · obtain ⟨a, c, hc⟩ := Hc.out m hml
          go_wp2_with (at_builtin; refine wpList_append_run rfl _ _ 22 22 rfl _ _ _ _ rfl rfl (fun ty => run_append_zero _ none 0 0 a c (Nat.le_refl _) ty) ?_)
          go_wp2_with fail
          go_round
          case rel => exact ⟨m + 1, by omega, by go_num, rfl⟩
          case measure => simp [intOf]; omega
        · obtain rfl : m = k := by omega
          go_wp2_with fail
          go_ret
          exact ⟨Below.refl _ _, _, rfl, .inl ⟨_, _, rfl, H0.out⟩⟩

set_option maxHeartbeats 2000000 in
theorem concat_some (g0 c0 n : Nat) (vs : Nat → Value) (xs : Nat → List Int) (w : World) (hn : n ≤ 1000000) (hg0 : g0 < w.heap.size) (hc : ∀ j, j < n → w.cell? ⟨g0, j, none⟩ = some (vs j)) (hr : ∀ j, j < n → Reads w (vs j) (xs j))
    (h0 : 0 < (joined xs n).length) (hb : (joined xs n).length * 8 ≤ 281474976710656) :
    Calls Try.prog 15 #[.slice (some ⟨g0, 0, none⟩) n c0] w fun e w' => ConcatPost (joined xs n) w e w' := by
  have Hc : Hid (∀ j, j < n → ∃ a c, w.cell? ⟨g0, j, none⟩ = some (.slice a (xs j).length c) ∧ Reads w (.slice a (xs j).length c) (xs j)) := by
    intro j hj
    have h1 := hr j hj
    obtain ⟨a, c, hv⟩ := h1.shape
    rw [hv] at h1
    exact ⟨a, c, by rw [hc j hj, hv], h1⟩
  have Hle : Hid (∀ k, k < n → (joined xs k).length + (xs k).length ≤ (joined xs n).length) := by
    intro k hk
    have := joined_le xs (k + 1) n (by omega)
    rw [joined, List.length_append] at this
    exact this
  clear hc hr
  go_enter Try.func15, Try.ntmps15
  go_wp2_with fail
  go_loop [3, 11] (fun u3 u11 => ∃ k : Nat, k ≤ n ∧ u11 = .int .i64 (k : Int) ∧ u3 = .int .i64 ((joined xs k).length : Int)) (fun _ u11 => ((n : Int) - intOf u11).toNat)
  case atStart => exact ⟨0, by omega, rfl, rfl⟩
  case round =>
    obtain ⟨k, hk, rfl, rfl⟩ := hrel
    by_cases hlt : k < n
    · obtain ⟨a, c, hc, _⟩ := Hc.out k hlt
      have hle := Hle.out k hlt
      have Hnext : Hid ((joined xs (k + 1)).length = (joined xs k).length + (xs k).length) := List.length_append
      generalize (joined xs k).length = m1 at *
      generalize (xs k).length = m2 at *
      go_wp2_with fail
      go_round
      case rel => exact ⟨k + 1, by omega, by go_num, by rw [Hnext.out]; go_num⟩
      case measure => simp [intOf]; omega
    · obtain rfl : k = n := by omega
      go_wp2_with fail
      refine (grow_some (joined xs k).length w h0 hb).mono ?_
      rintro e w1 ⟨hb1, g, cap, rfl, hg, hcap, hown1⟩
      go_wp2_with fail
      go_loopw [6, 27] (fun u6 u27 wr => ∃ m : Nat, m ≤ k ∧ u27 = .int .i64 (m : Int) ∧ u6 = .slice (some ⟨g, 0, none⟩) (joined xs m).length cap ∧ Hid (wr.ownsRow w.heap.size 3 1 (.slice (some ⟨g, 0, none⟩) (joined xs m).length cap) (joined xs m).length (ints (joined xs m))) ∧ Below w.heap.size w wr)
        (fun _ u27 _ => ((k : Int) - intOf u27).toNat)
      case atStart => exact ⟨0, by omega, rfl, rfl, hown1, hb1⟩
      case round =>
        obtain ⟨m, hm, rfl, rfl, Ho, hbr⟩ := hrel
        by_cases hml : m < k
        · obtain ⟨a, c, hc0, hrd0⟩ := Hc.out m hml
          have hc : wr.cell? ⟨g0, m, none⟩ = some (.slice a (xs m).length c) := (hbr.cell (by exact hg0)).trans hc0
          have Hrd : Hid (Reads wr (.slice a (xs m).length c) (xs m)) := hrd0.below hbr
          clear hc0 hrd0
          have hroom : (joined xs m).length + (xs m).length ≤ cap := Nat.le_trans (Hle.out m hml) hcap
          go_wp2_with (at_builtin; refine append_reads rfl _ _ rfl w.heap.size g cap _ (joined xs m) (xs m) rfl Ho.out rfl Hrd.out hroom ?_)
          intro w2 ho2 hgr2
          have hb2 : Below w.heap.size w w2 := hbr.grown hgr2 hbr.size (fun j hj => by cases hj; exact hg)
          have Ho2 : Hid (w2.ownsRow w.heap.size 3 1 (.slice (some ⟨g, 0, none⟩) (joined xs (m + 1)).length cap) (joined xs (m + 1)).length (ints (joined xs (m + 1)))) := by
            show World.ownsRow _ _ _ _ _ _ _
            rw [joined, List.length_append]
            exact ho2
          clear ho2 hgr2 Ho hbr hc
          go_wp2_with fail
          go_roundw
          case rel => exact ⟨m + 1, by omega, by go_num, by rw [joined, List.length_append], Ho2.out, hb2⟩
          case measure => simp [intOf]; omega
        · obtain rfl : m = k := by omega
          go_wp2_with fail
          go_ret
          exact ⟨hbr, _, rfl, own_of Ho.out⟩

theorem concat_any (g0 c0 n : Nat) (vs : Nat → Value) (xs : Nat → List Int) (w : World) (hn : n ≤ 1000000) (hg0 : g0 < w.heap.size) (hc : ∀ j, j < n → w.cell? ⟨g0, j, none⟩ = some (vs j)) (hr : ∀ j, j < n → Reads w (vs j) (xs j))
    (hb : (joined xs n).length * 8 ≤ 281474976710656) :
    Calls Try.prog 15 #[.slice (some ⟨g0, 0, none⟩) n c0] w fun e w' => ConcatPost (joined xs n) w e w' := by
  by_cases h0 : (joined xs n).length = 0
  · exact concat_none g0 c0 n vs xs w hn hc hr h0
  · exact concat_some g0 c0 n vs xs w hn hg0 hc hr (by omega) hb
end Go.Proofs.Ytpgjaoemkadenaa.Seek
