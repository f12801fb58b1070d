/- The contracts of fairkeep's ample, stays and spoil, and of slices.Clone of splices. -/
import Derived.Test.YtpgecholpbpakabBetwMem
import Derived.Deep.OwnRows
import Derived.Deep.Slices
import Derived.Lib.SliceRun
set_option linter.unusedVariables false
set_option linter.unusedSimpArgs false
namespace Go.Proofs.Ytpgecholpbpakab.Seek
open Go.RowKit Plain

/-- The numbers zs in block g, with two numbers of 77 behind them and room for one more. -/
def Ample (w : World) (B g : Nat) (zs : List Int) : Prop := w.ownsRow B 3 1 (.slice (some ⟨g, 0, none⟩) (zs.length + 2) (zs.length + 3)) (zs.length + 2) (ints (zs ++ [77, 77]))
theorem Ample.below {w w' : World} {B g : Nat} {zs : List Int} (h : Ample w B g zs) (hb : Below w.heap.size w w') : Ample w' B g zs := owned_below h hb
theorem Ample.less {w : World} {B B' g : Nat} {zs : List Int} (h : Ample w B g zs) (hb : B' ≤ B) : Ample w B' g zs := owned_less h hb
theorem Ample.lt {w : World} {B g : Nat} {zs : List Int} (h : Ample w B g zs) : B ≤ g ∧ g < w.heap.size := World.ownsRow.lt h g rfl
theorem Ample.cell {w : World} {B g : Nat} {zs : List Int} (h : Ample w B g zs) (j : Nat) (hj : j < zs.length + 2) : w.cell? ⟨g, j, none⟩ = some (.int .i64 ((zs ++ [77, 77]).getD j 0)) := by
  rw [World.ownsRow.cellAt h j (by omega)]
  unfold ints
  rw [List.getElem?_map, List.getD_eq_getElem?_getD, List.getElem?_eq_getElem (by simp; omega)]
  rfl
theorem Ample.reads {w : World} {B g : Nat} {zs : List Int} (h : Ample w B g zs) : Reads w (.slice (some ⟨g, 0, none⟩) zs.length (zs.length + 3)) zs := by
  have hl := h.lt
  rcases h.2 with ⟨h0, _⟩ | ⟨g', c, cur, hv, _, _, _, hm, _⟩
  · cases h0
  · cases hv
    refine .inr ⟨g, 0, zs.length + 3, rfl, by omega, hm, hl.2, fun j hj => ?_⟩
    rw [Nat.zero_add, h.cell j (by omega), List.getD_eq_getElem?_getD, List.getD_eq_getElem?_getD, List.getElem?_append_left hj]
theorem Ample.end0 {w : World} {B g : Nat} {zs : List Int} (h : Ample w B g zs) : w.cell? ⟨g, zs.length, none⟩ = some (.int .i64 77) ∧ w.cell? ⟨g, zs.length + 1, none⟩ = some (.int .i64 77) := by
  refine ⟨?_, ?_⟩
  · rw [h.cell _ (by omega), List.getD_eq_getElem?_getD, List.getElem?_append_right (Nat.le_refl _), Nat.sub_self]
    rfl
  · rw [h.cell _ (by omega), List.getD_eq_getElem?_getD, List.getElem?_append_right (by omega), show zs.length + 1 - zs.length = 1 by omega]
    rfl
/-- A block of numbers, whichever. -/
def IntBlock (w : World) (g n : Nat) : Prop := ∃ f : Nat → Value, w.rowIs g 3 n f
theorem Ample.block {w : World} {B g : Nat} {zs : List Int} (h : Ample w B g zs) : IntBlock w g (zs.length + 3) := by
  rcases h.2 with ⟨h0, _⟩ | ⟨g', c, cur, hv, _, hg, _, _, hs, _⟩
  · cases h0
  · cases hv
    refine ⟨fun i => cur.getD i undef, cur, hg, by rw [hs, Nat.mul_one], fun i hi => ?_⟩
    rw [Nat.mul_one] at hs
    simp [hs, hi]
theorem IntBlock.grown {w w' : World} {g n : Nat} {row : Option Nat} (h : IntBlock w g n) (hg : w.grownBy w' row) (hne : row ≠ some g) : IntBlock w' g n := by
  obtain ⟨f, hf⟩ := h
  exact ⟨f, hf.of_block (hg.block g hf.lt (Ne.symm hne))⟩
theorem IntBlock.below {w w' : World} {g n : Nat} (h : IntBlock w g n) (hb : Below w.heap.size w w') : IntBlock w' g n := by
  obtain ⟨f, hf⟩ := h
  exact ⟨f, hf.of_block (hb.block g hf.lt)⟩

set_option maxHeartbeats 2000000 in
theorem ample_any (v : Value) (zs : List Int) (w : World) (h : Reads w v zs) (hm : Mild zs) :
    Calls Try.prog 5 #[v, .int .i64 77] w fun e w' => Below w.heap.size w w' ∧ ∃ g, e = .returned (.slice (some ⟨g, 0, none⟩) zs.length (zs.length + 3)) ∧ Ample w' w.heap.size g zs := by
  obtain ⟨a, cap, rfl⟩ := h.shape
  have H : Hid (Reads w (.slice a zs.length cap) zs) := h
  unfold Mild at hm
  obtain ⟨i0, hi, hz0, hz1, hz2⟩ := info_parts info3
  have hmk : ∀ w : World, (Instr.makeSlice 22 (.int .i64 0) (.int .i64 ((zs.length : Int) + 3))).run Try.prog w = .ok (.slice (some ⟨w.heap.size, 0, none⟩) 0 (zs.length + 3)) (w.alloc (.cells (madeCells #[.int .i64 0] (zs.length + 3)) 3)) := by
    intro w
    have hr := run_make (P := Try.prog) w 22 3 i0 _ Try.underlying22 hi hz0 .i64 .i64 0 ((zs.length : Int) + 3) (by omega) (by omega) (by rw [hz2]; omega) (by omega)
    rw [hz1, Nat.mul_one] at hr
    have e : ((zs.length : Int) + 3).toNat = zs.length + 3 := by omega
    rw [e] at hr
    exact hr
  have HO : Hid ((w.alloc (.cells (madeCells #[.int .i64 0] (zs.length + 3)) 3)).ownsRow w.heap.size 3 1 (.slice (some ⟨w.heap.size, 0, none⟩) ([] : List Int).length (zs.length + 3)) ([] : List Int).length (ints [])) := by
    refine ⟨rfl, .inr ⟨w.heap.size, zs.length + 3, madeCells #[.int .i64 0] (zs.length + 3), rfl, Nat.le_refl _, ?_, Nat.zero_le _, by unfold maxLen; omega, by rw [size_madeCells, Nat.mul_one], rfl⟩⟩
    show (w.heap.push _)[w.heap.size]? = _
    simp
  have HB0 : Hid (Below w.heap.size w (w.alloc (.cells (madeCells #[.int .i64 0] (zs.length + 3)) 3))) := box_below _ _
  clear h hi hz0 hz1 hz2
  go_enter Try.func5, Try.ntmps5
  go_wp2_with (at_builtin; refine append_reads rfl _ _ rfl w.heap.size w.heap.size (zs.length + 3) _ [] zs rfl HO.out rfl (H.out.below HB0.out) (by simp) ?_)
  intro w1 ho1 hg1
  have HB1 : Hid (Below w.heap.size w w1) := HB0.out.grown hg1 HB0.out.size (fun k hk => by cases hk; exact Nat.le_refl _)
  have HO1 : Hid (w1.ownsRow w.heap.size 3 1 (.slice (some ⟨w.heap.size, 0, none⟩) zs.length (zs.length + 3)) zs.length (ints zs)) := ho1
  clear ho1 hg1 hmk HO HB0
  have H77 : Hid (Reads (w1.alloc (.cells #[.int .i64 77, .int .i64 77] 3)) (.slice (some ⟨w1.heap.size, 0, none⟩) 2 2) [77, 77]) := reads_new w1 [77, 77] (by decide)
  go_wp2_with (at_builtin; refine append_reads rfl _ _ rfl w.heap.size w.heap.size (zs.length + 3) _ zs [77, 77] rfl (HO1.out.alloc _) rfl H77.out (by simp) ?_)
  intro w2 ho2 hg2
  have HB2 : Hid (Below w.heap.size w w2) := (HB1.out.alloc HB1.out.size _).grown hg2 (Nat.le_trans HB1.out.size (box_below _ _).size) (fun k hk => by cases hk; exact Nat.le_refl _)
  have HA : Hid (Ample w2 w.heap.size w.heap.size zs) := ho2
  clear ho2 hg2 HO1 HB1 H77
  have q1 : (zs.length : Int) ≤ (zs.length : Int) + 3 := by omega
  go_wp2_with fail
  go_ret
  exact ⟨HB2.out, _, rfl, HA.out⟩

set_option maxHeartbeats 2000000 in
theorem stays_any (g : Nat) (v2 : Value) (zs : List Int) (B : Nat) (w : World) (h : Ample w B g zs) (h2 : Reads w v2 zs) (hm : Mild zs) :
    Calls Try.prog 10 #[.slice (some ⟨g, 0, none⟩) zs.length (zs.length + 3), v2, .int .i64 77] w fun e w' => e = .returned (.bool true) ∧ ∃ q, w' = w.drewN q := by
  have H : Hid (Reads w (.slice (some ⟨g, 0, none⟩) zs.length (zs.length + 3)) zs) := h.reads
  have H2 : Hid (Reads w v2 zs) := h2
  obtain ⟨e0, e1⟩ := h.end0
  have HE : Hid (∀ q, (w.drewN q).cell? ⟨g, zs.length, none⟩ = some (.int .i64 77) ∧ (w.drewN q).cell? ⟨g, zs.length + 1, none⟩ = some (.int .i64 77)) := fun q => ⟨e0, e1⟩
  unfold Mild at hm
  have q1 : (zs.length : Int) + 2 ≤ (zs.length : Int) + 3 := by omega
  have q2 : (zs.length : Int) < (zs.length : Int) + 2 := by omega
  have q3 : (zs.length : Int) + 1 < (zs.length : Int) + 2 := by omega
  clear h h2 e0 e1
  go_enter Try.func10, Try.ntmps10
  go_wp2_with fail
  refine (equal_any _ _ zs zs w H.out H2.out (by unfold maxLen; omega) (by unfold maxLen; omega)).mono ?_
  rw [beq_self_eq_true]
  rintro e w1 ⟨rfl, q, hq⟩
  obtain ⟨d0, d1⟩ := HE.out q
  rw [← hq] at d0 d1
  have HQ : Hid (∃ q, w1 = w.drewN q) := ⟨q, hq⟩
  clear hq HE
  go_wp2_with fail
  go_ret
  exact ⟨rfl, HQ.out⟩
set_option maxHeartbeats 2000000 in
theorem spoil_any (g n c : Nat) (w : World) (h : IntBlock w g c) (hn : n ≤ c) (hc : c * 8 ≤ 140737488355328) :
    Calls Try.prog 12 #[.slice (some ⟨g, 0, none⟩) n c, .int .i64 5] w fun e w' => e = .returned (.tuple #[]) ∧ w.grownBy w' (some g) ∧ IntBlock w' g c := by
  have H : Hid (IntBlock w g c) := h
  clear h
  go_enter Try.func12, Try.ntmps12
  go_wp2_with fail
  go_loopw [11] (fun u11 wr => ∃ k : Nat, u11 = .int .i64 (k : Int) ∧ k ≤ c ∧ Hid (w.grownBy wr (some g)) ∧ Hid (IntBlock wr g c)) (fun u11 _ => c - (intOf u11).toNat)
  case atStart => exact ⟨0, rfl, Nat.zero_le _, grown_refl _ _, H.out⟩
  case round =>
    obtain ⟨k, rfl, hk, Hg, Hi⟩ := hrel
    by_cases hlt : k < c
    · obtain ⟨f, hf⟩ := Hi.out
      have hI : (k : Int) < (c : Int) := by omega
      have e0 : wr.cell? ⟨g, k, none⟩ = some (f k) := hf.cell hlt
      have e1 : wr.frozen? ⟨g, k, none⟩ = false := hf.frozen _
      have HI2 : Hid (IntBlock (wr.setCell ⟨g, k, none⟩ (.int .i64 5)) g c) := ⟨_, hf.set k _⟩
      have HG2 : Hid (w.grownBy (wr.setCell ⟨g, k, none⟩ (.int .i64 5)) (some g)) := by
        refine ⟨Hg.out.os, Hg.out.tape, Hg.out.output, by rw [show (wr.setCell ⟨g, k, none⟩ (.int .i64 5)).heap.size = wr.heap.size by simp [World.setCell]]; exact Hg.out.size, fun j hj hne => ?_⟩
        rw [Below.heap_setCell _ _ _ _ (fun e => hne (by rw [e]))]
        exact Hg.out.block j hj hne
      generalize f k = fk at e0
      clear hf Hi Hg
      go_wp2_with fail
      go_roundw
      case rel => exact ⟨k + 1, by go_num, by omega, HG2.out, HI2.out⟩
      case measure => simp [intOf] <;> omega
    · obtain rfl : k = c := by omega
      go_wp2_with fail
      go_end0
      exact ⟨rfl, Hg.out, Hi.out⟩

/-- A row of splices whose texts are vs. -/
def RowOf (w : World) (B : Nat) (v : Value) (es : List Spl) (vs : List Value) : Prop := vs.length = es.length ∧ w.ownsRow B 30 3 v es.length (rowCells es vs)
theorem RowOf.below {w w' : World} {B : Nat} {v : Value} {es : List Spl} {vs : List Value} (h : RowOf w B v es vs) (hb : Below w.heap.size w w') : RowOf w' B v es vs := ⟨h.1, row3_below h.2 hb⟩
theorem RowOf.lt {w : World} {B : Nat} {v : Value} {es : List Spl} {vs : List Value} (h : RowOf w B v es vs) : ∀ k, v.ownBlock = some k → B ≤ k ∧ k < w.heap.size := h.2.lt
theorem rowCells_set : ∀ (es : List Spl) (vs : List Value) (k : Nat) (tv : Value), vs.length = es.length → (rowCells es vs).set (k * 3 + 2) tv = rowCells es (vs.set k tv)
  | [], [], k, tv, _ => rfl
  | s :: r, v :: vs, 0, tv, _ => rfl
  | s :: r, v :: vs, k + 1, tv, h => by
    have ih := rowCells_set r vs k tv (by simpa using h)
    unfold rowCells
    rw [show (k + 1) * 3 + 2 = (k * 3 + 2) + 1 + 1 + 1 by omega]
    simp only [List.set_cons_succ]
    rw [ih]
theorem run_append_zero23 (w : World) (d : Option Addr) (n cap : Nat) (a : Option Addr) (c : Nat) (hn : n ≤ cap) (ty : TypeId) : (Builtin.append_ #[23, 23] ty #[.slice d n cap, .slice a 0 c]).run Try.prog w = .ok (.slice d n cap) w := by
  obtain ⟨i0, hi, hz0, hz1, hz2⟩ := info_parts info41
  cases d <;> cases a <;> simp [Builtin.append_, go_sem, run_underlying Try.underlying23, Go.sizeOf, typeInfo, hi, Builtin.lenOf, Builtin.firstCells, hn, storeCells]
/-- What Clone of splices leaves: a row of its own, the texts those of before. -/
def ClonePost (es : List Spl) (w : World) (e : Ending) (w' : World) : Prop :=
  Below w.heap.size w w' ∧ ∃ v vs, e = .returned v ∧ RowOf w' w.heap.size v es vs ∧ ∀ j, j < es.length → Mild (es.getD j spl0).2.2 ∧ (∃ a cap, vs.getD j undef = .slice a (es.getD j spl0).2.2.length cap) ∧ Reads w (vs.getD j undef) (es.getD j spl0).2.2
theorem empty_row (w : World) : (w.alloc (.cells #[] 30)).ownsRow w.heap.size 30 3 (.slice (some ⟨w.heap.size, 0, none⟩) 0 0) 0 [] := by
  refine ⟨rfl, .inr ⟨w.heap.size, 0, #[], rfl, Nat.le_refl _, ?_, Nat.le_refl _, by decide, rfl, rfl⟩⟩
  show (w.heap.push _)[w.heap.size]? = _
  simp
theorem addr_add (b off j : Nat) : (⟨b, off, none⟩ : Addr).add j = ⟨b, off + j, none⟩ := by
  simp only [Addr.add]
  split <;> simp_all
theorem q23 (w : World) (a : Option Addr) (n c n' c' : Nat) : (binOp .eql 23 (.slice a n c) (.slice none n' c')).run Try.prog w = .ok (.bool a.isNone) w := Lib.run_eql_slice_nil w _ _ a n c n' c' Try.underlying23
set_option maxHeartbeats 2000000 in
theorem cloneE_any (v : Value) (es : List Spl) (w : World) (h : ReadsE w v es) (hr : es.length * 40 ≤ 140737488351232) :
    Calls Try.prog 6 #[v] w fun e w' => ClonePost es w e w' := by
  have hq23 := q23
  rcases h with ⟨a, cap, rfl, rfl⟩ | ⟨b, off, cap, rfl, hc1, hc2, hb, hsp⟩
  · cases a with
    | none =>
      go_enter Try.func6, Try.ntmps6
      go_wp2_with fail
      go_ret
      exact ⟨Below.refl _ _, _, [], rfl, ⟨rfl, World.ownsRow_nil _ _ _ _⟩, fun j hj => by cases hj⟩
    | some ad =>
      have HR : Hid (RowOf (w.alloc (.cells #[] 30)) w.heap.size (.slice (some ⟨w.heap.size, 0, none⟩) 0 0) [] []) := ⟨rfl, empty_row w⟩
      go_enter Try.func6, Try.ntmps6
      go_wp2_with (at_builtin; refine wpList_append_run rfl _ _ 23 23 rfl _ _ _ _ rfl rfl (fun ty => run_append_zero23 _ (some ⟨w.heap.size, 0, none⟩) 0 0 (some ad) cap (Nat.le_refl _) ty) ?_)
      go_wp2_with fail
      go_ret
      exact ⟨box_below _ _, _, [], rfl, HR.out, fun j hj => by cases hj⟩
  · obtain ⟨q, hq⟩ := Deep.choose_lt (α := Value) (n := es.length) (p := fun j tv => w.cell? ⟨b, off + j * 3 + 2, none⟩ = some tv ∧ Mild (es.getD j spl0).2.2 ∧ (∃ a cap, tv = .slice a (es.getD j spl0).2.2.length cap) ∧ Reads w tv (es.getD j spl0).2.2) (fun j hj => by
      obtain ⟨_, _, hm, a, c, h3, h4⟩ := hsp j hj
      exact ⟨_, h3, hm, ⟨a, c, rfl⟩, h4⟩)
    obtain ⟨vs, hvs⟩ : ∃ vs : List Value, vs = (List.range es.length).map q := ⟨_, rfl⟩
    have hvl : vs.length = es.length := by rw [hvs]; simp
    have hvd : ∀ j, j < es.length → vs.getD j undef = q j := fun j hj => by rw [hvs, List.getD_eq_getElem?_getD]; simp [hj]
    have HF : Hid (∀ j, j < es.length → Mild (es.getD j spl0).2.2 ∧ (∃ a cap, vs.getD j undef = .slice a (es.getD j spl0).2.2.length cap) ∧ Reads w (vs.getD j undef) (es.getD j spl0).2.2) := fun j hj => by
      rw [hvd j hj]
      exact ⟨(hq j hj).2.1, (hq j hj).2.2.1, (hq j hj).2.2.2⟩
    have HN : Hid (∀ j u, (rowCells es vs)[j]? = some u → w.cell? ((⟨b, off, none⟩ : Addr).add j) = some u) := by
      intro j u hj
      have hjl : j < es.length * 3 := by
        have := (List.getElem?_eq_some_iff.1 hj).1
        rw [rowCells_len es vs hvl] at this
        exact this
      have hi : j / 3 < es.length := by omega
      obtain ⟨r0, r1, r2⟩ := rowCells_at es vs (j / 3) hvl hi
      obtain ⟨c0, c1, _⟩ := hsp (j / 3) hi
      have c2 := (hq (j / 3) hi).1
      rw [← hvd (j / 3) hi] at c2
      rw [addr_add]
      have hm : j % 3 = 0 ∨ j % 3 = 1 ∨ j % 3 = 2 := by omega
      rcases hm with h | h | h
      · have e : j = j / 3 * 3 := by omega
        rw [e] at hj
        rw [r0] at hj
        rw [show off + j = off + j / 3 * 3 by omega, c0]
        exact hj
      · have e : j = j / 3 * 3 + 1 := by omega
        rw [e] at hj
        rw [r1] at hj
        rw [show off + j = off + j / 3 * 3 + 1 by omega, c1]
        exact hj
      · have e : j = j / 3 * 3 + 2 := by omega
        rw [e] at hj
        rw [r2] at hj
        rw [show off + j = off + j / 3 * 3 + 2 by omega, c2]
        exact hj
    have H1 : Hid (∀ u ∈ rowCells es vs, u.oneCell' = true) := rowCells_one es vs (fun v hv => by
      rw [hvs] at hv
      obtain ⟨j, hj, rfl⟩ := List.mem_map.1 hv
      obtain ⟨a, c, e⟩ := (hq j (List.mem_range.1 hj)).2.2.1
      rw [e]
      rfl)
    have HR0 : Hid ((w.alloc (.cells #[] 30)).ownsRow w.heap.size 30 3 (.slice (some ⟨w.heap.size, 0, none⟩) 0 0) 0 []) := empty_row w
    have HNA : Hid (∀ j u, (rowCells es vs)[j]? = some u → (w.alloc (.cells #[] 30)).cell? ((⟨b, off, none⟩ : Addr).add j) = some u) := fun j u hj => by
      have := HN.out j u hj
      rw [addr_add] at this ⊢
      exact ((box_below w _).cell (by exact hb)).trans this
    have HLn : Hid ((rowCells es vs).length = es.length * 3) := rowCells_len es vs hvl
    obtain ⟨i0, hi, hz0, hz1, hz2⟩ := info_parts info41
    clear hq hvs hvd hsp HN
    unfold maxLen at hc2
    go_enter Try.func6, Try.ntmps6
    go_wp2_with (at_builtin; refine wpList_append_own_at _ rfl _ _ 23 rfl w.heap.size 30 i0 (Value.agg #[.int .i64 0, .int .i64 0, .slice none 0 0]) 3 40 Try.underlying23 hi hz0 hz1 hz2 rfl (by decide) _ 0 [] rfl HR0.out ⟨b, off, none⟩ es.length cap (rowCells es vs) rfl HLn.out HNA.out H1.out (by unfold maxLen; omega) (by omega) (by rw [size_alloc]; omega) ?_)
    intro v2 w2 ho2 hg2 _ _
    have HO2 : Hid (RowOf w2 w.heap.size v2 es vs) := ⟨hvl, by simpa using ho2⟩
    have HB2 : Hid (Below w.heap.size w w2) := (box_below _ _).grown hg2 (by rw [size_alloc]; omega) (fun k hk => by cases hk; exact Nat.le_refl _)
    clear ho2 hg2
    go_wp2_with fail
    go_ret
    exact ⟨HB2.out, _, vs, rfl, HO2.out, HF.out⟩
end Go.Proofs.Ytpgecholpbpakab.Seek
