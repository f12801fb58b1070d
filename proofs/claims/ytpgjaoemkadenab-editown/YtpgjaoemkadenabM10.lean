/- The contracts of fairkeep's ample, stays and spoil, of numbers. -/
import Derived.Test.YtpgjaoemkadenabM09
import Derived.Deep.OwnRows
import Derived.Deep.Slices
import Derived.Lib.SliceRun
set_option linter.unusedVariables false
set_option linter.unusedSimpArgs false
namespace Go.Proofs.Ytpgjaoemkadenab.Seek
open Go.RowKit

/-- The numbers zs in block g, with two numbers of 77 behind them and room for one more. -/
def Ample (w : World) (B g : Nat) (zs : List Int) : Prop := w.ownsRow B 3 1 (.slice (some ⟨g, 0, none⟩) (zs.length + 2) (zs.length + 3)) (zs.length + 2) (ints (zs ++ [77, 77]))
theorem Ample.below {w w' : World} {B g : Nat} {zs : List Int} (h : Ample w B g zs) (hb : Below w.heap.size w w') : Ample w' B g zs := owned_below h hb
theorem Ample.less {w : World} {B B' g : Nat} {zs : List Int} (h : Ample w B g zs) (hb : B' ≤ B) : Ample w B' g zs := owned_less h hb
theorem Ample.lt {w : World} {B g : Nat} {zs : List Int} (h : Ample w B g zs) : B ≤ g ∧ g < w.heap.size := World.ownsRow.lt h g rfl
theorem Ample.cell {w : World} {B g : Nat} {zs : List Int} (h : Ample w B g zs) (j : Nat) (hj : j < zs.length + 2) : w.cell? ⟨g, j, none⟩ = some (.int .i64 ((zs ++ [77, 77]).getD j 0)) := by
  rw [World.ownsRow.cellAt h j (by omega)]
  unfold ints
  rw [List.getElem?_map, List.getD_eq_getElem?_getD, List.getElem?_eq_getElem (by simp; omega)]
  rfl
theorem Ample.reads {w : World} {B g : Nat} {zs : List Int} (h : Ample w B g zs) : Reads w (.slice (some ⟨g, 0, none⟩) zs.length (zs.length + 3)) zs := by
  have hl := h.lt
  rcases h.2 with ⟨h0, _⟩ | ⟨g', c, cur, hv, _, _, _, hm, _⟩
  · cases h0
  · cases hv
    refine .inr ⟨g, 0, zs.length + 3, rfl, by omega, hm, hl.2, fun j hj => ?_⟩
    rw [Nat.zero_add, h.cell j (by omega), List.getD_eq_getElem?_getD, List.getD_eq_getElem?_getD, List.getElem?_append_left hj]
theorem Ample.end0 {w : World} {B g : Nat} {zs : List Int} (h : Ample w B g zs) : w.cell? ⟨g, zs.length, none⟩ = some (.int .i64 77) ∧ w.cell? ⟨g, zs.length + 1, none⟩ = some (.int .i64 77) := by
  refine ⟨?_, ?_⟩
  · rw [h.cell _ (by omega), List.getD_eq_getElem?_getD, List.getElem?_append_right (Nat.le_refl _), Nat.sub_self]
    rfl
  · rw [h.cell _ (by omega), List.getD_eq_getElem?_getD, List.getElem?_append_right (by omega), show zs.length + 1 - zs.length = 1 by omega]
    rfl
/-- A block of numbers, whichever. -/
def IntBlock (w : World) (g n : Nat) : Prop := ∃ f : Nat → Value, w.rowIs g 3 n f
theorem Ample.block {w : World} {B g : Nat} {zs : List Int} (h : Ample w B g zs) : IntBlock w g (zs.length + 3) := by
  rcases h.2 with ⟨h0, _⟩ | ⟨g', c, cur, hv, _, hg, _, _, hs, _⟩
  · cases h0
  · cases hv
    refine ⟨fun i => cur.getD i undef, cur, hg, by rw [hs, Nat.mul_one], fun i hi => ?_⟩
    rw [Nat.mul_one] at hs
    simp [hs, hi]
theorem IntBlock.grown {w w' : World} {g n : Nat} {row : Option Nat} (h : IntBlock w g n) (hg : w.grownBy w' row) (hne : row ≠ some g) : IntBlock w' g n := by
  obtain ⟨f, hf⟩ := h
  exact ⟨f, hf.of_block (hg.block g hf.lt (Ne.symm hne))⟩
theorem IntBlock.below {w w' : World} {g n : Nat} (h : IntBlock w g n) (hb : Below w.heap.size w w') : IntBlock w' g n := by
  obtain ⟨f, hf⟩ := h
  exact ⟨f, hf.of_block (hb.block g hf.lt)⟩

set_option maxHeartbeats 2000000 in
theorem ample_any (v : Value) (zs : List Int) (w : World) (h : Reads w v zs) (hm : Mild zs) :
    Calls Try.prog 14 #[v, .int .i64 77] w fun e w' => Below w.heap.size w w' ∧ ∃ g, e = .returned (.slice (some ⟨g, 0, none⟩) zs.length (zs.length + 3)) ∧ Ample w' w.heap.size g zs := by
  obtain ⟨a, cap, rfl⟩ := h.shape
  have H : Hid (Reads w (.slice a zs.length cap) zs) := h
  unfold Mild at hm
  obtain ⟨i0, hi, hz0, hz1, hz2⟩ := info_parts info3
  have hmk : ∀ w : World, (Instr.makeSlice 22 (.int .i64 0) (.int .i64 ((zs.length : Int) + 3))).run Try.prog w = .ok (.slice (some ⟨w.heap.size, 0, none⟩) 0 (zs.length + 3)) (w.alloc (.cells (madeCells #[.int .i64 0] (zs.length + 3)) 3)) := by
    intro w
    have hr := run_make (P := Try.prog) w 22 3 i0 _ Try.underlying22 hi hz0 .i64 .i64 0 ((zs.length : Int) + 3) (by omega) (by omega) (by rw [hz2]; omega) (by omega)
    rw [hz1, Nat.mul_one] at hr
    have e : ((zs.length : Int) + 3).toNat = zs.length + 3 := by omega
    rw [e] at hr
    exact hr
  have HO : Hid ((w.alloc (.cells (madeCells #[.int .i64 0] (zs.length + 3)) 3)).ownsRow w.heap.size 3 1 (.slice (some ⟨w.heap.size, 0, none⟩) ([] : List Int).length (zs.length + 3)) ([] : List Int).length (ints [])) := by
    refine ⟨rfl, .inr ⟨w.heap.size, zs.length + 3, madeCells #[.int .i64 0] (zs.length + 3), rfl, Nat.le_refl _, ?_, Nat.zero_le _, by unfold maxLen; omega, by rw [size_madeCells, Nat.mul_one], rfl⟩⟩
    show (w.heap.push _)[w.heap.size]? = _
    simp
  have HB0 : Hid (Below w.heap.size w (w.alloc (.cells (madeCells #[.int .i64 0] (zs.length + 3)) 3))) := box_below _ _
  clear h hi hz0 hz1 hz2
  go_enter Try.func14, Try.ntmps14
  go_wp2_with (at_builtin; refine append_reads rfl _ _ rfl w.heap.size w.heap.size (zs.length + 3) _ [] zs rfl HO.out rfl (H.out.below HB0.out) (by simp) ?_)
  intro w1 ho1 hg1
  have HB1 : Hid (Below w.heap.size w w1) := HB0.out.grown hg1 HB0.out.size (fun k hk => by cases hk; exact Nat.le_refl _)
  have HO1 : Hid (w1.ownsRow w.heap.size 3 1 (.slice (some ⟨w.heap.size, 0, none⟩) zs.length (zs.length + 3)) zs.length (ints zs)) := ho1
  clear ho1 hg1 hmk HO HB0
  have H77 : Hid (Reads (w1.alloc (.cells #[.int .i64 77, .int .i64 77] 3)) (.slice (some ⟨w1.heap.size, 0, none⟩) 2 2) [77, 77]) := reads_new w1 [77, 77] (by decide)
  go_wp2_with (at_builtin; refine append_reads rfl _ _ rfl w.heap.size w.heap.size (zs.length + 3) _ zs [77, 77] rfl (HO1.out.alloc _) rfl H77.out (by simp) ?_)
  intro w2 ho2 hg2
  have HB2 : Hid (Below w.heap.size w w2) := (HB1.out.alloc HB1.out.size _).grown hg2 (Nat.le_trans HB1.out.size (box_below _ _).size) (fun k hk => by cases hk; exact Nat.le_refl _)
  have HA : Hid (Ample w2 w.heap.size w.heap.size zs) := ho2
  clear ho2 hg2 HO1 HB1 H77
  have q1 : (zs.length : Int) ≤ (zs.length : Int) + 3 := by omega
  go_wp2_with fail
  go_ret
  exact ⟨HB2.out, _, rfl, HA.out⟩

set_option maxHeartbeats 2000000 in
theorem stays_any (g : Nat) (v2 : Value) (zs : List Int) (B : Nat) (w : World) (h : Ample w B g zs) (h2 : Reads w v2 zs) (hm : Mild zs) :
    Calls Try.prog 16 #[.slice (some ⟨g, 0, none⟩) zs.length (zs.length + 3), v2, .int .i64 77] w fun e w' => e = .returned (.bool true) ∧ ∃ q, w' = w.drewN q := by
  have H : Hid (Reads w (.slice (some ⟨g, 0, none⟩) zs.length (zs.length + 3)) zs) := h.reads
  have H2 : Hid (Reads w v2 zs) := h2
  obtain ⟨e0, e1⟩ := h.end0
  have HE : Hid (∀ q, (w.drewN q).cell? ⟨g, zs.length, none⟩ = some (.int .i64 77) ∧ (w.drewN q).cell? ⟨g, zs.length + 1, none⟩ = some (.int .i64 77)) := fun q => ⟨e0, e1⟩
  unfold Mild at hm
  have q1 : (zs.length : Int) + 2 ≤ (zs.length : Int) + 3 := by omega
  have q2 : (zs.length : Int) < (zs.length : Int) + 2 := by omega
  have q3 : (zs.length : Int) + 1 < (zs.length : Int) + 2 := by omega
  clear h h2 e0 e1
  go_enter Try.func16, Try.ntmps16
  go_wp2_with fail
  refine (equal_any _ _ zs zs w H.out H2.out (by unfold maxLen; omega) (by unfold maxLen; omega)).mono ?_
  rw [beq_self_eq_true]
  rintro e w1 ⟨rfl, q, hq⟩
  obtain ⟨d0, d1⟩ := HE.out q
  rw [← hq] at d0 d1
  have HQ : Hid (∃ q, w1 = w.drewN q) := ⟨q, hq⟩
  clear hq HE
  go_wp2_with fail
  go_ret
  exact ⟨rfl, HQ.out⟩
set_option maxHeartbeats 2000000 in
theorem spoil_any (g n c : Nat) (w : World) (x : Int) (h : IntBlock w g c) (hn : n ≤ c) (hc : c ≤ maxLen) :
    Calls Try.prog 17 #[.slice (some ⟨g, 0, none⟩) n c, .int .i64 x] w fun e w' => e = .returned (.tuple #[]) ∧ w.grownBy w' (some g) ∧ IntBlock w' g c := by
  have H : Hid (IntBlock w g c) := h
  unfold maxLen at hc
  clear h
  go_enter Try.func17, Try.ntmps17
  go_wp2_with fail
  go_loopw [11] (fun u11 wr => ∃ k : Nat, u11 = .int .i64 (k : Int) ∧ k ≤ c ∧ Hid (w.grownBy wr (some g)) ∧ Hid (IntBlock wr g c)) (fun u11 _ => c - (intOf u11).toNat)
  case atStart => exact ⟨0, rfl, Nat.zero_le _, ⟨rfl, rfl, rfl, Nat.le_refl _, fun _ _ _ => rfl⟩, H.out⟩
  case round =>
    obtain ⟨k, rfl, hk, Hg, Hi⟩ := hrel
    by_cases hlt : k < c
    · obtain ⟨f, hf⟩ := Hi.out
      have hI : (k : Int) < (c : Int) := by omega
      have e0 : wr.cell? ⟨g, k, none⟩ = some (f k) := hf.cell hlt
      have e1 : wr.frozen? ⟨g, k, none⟩ = false := hf.frozen _
      have HI2 : Hid (IntBlock (wr.setCell ⟨g, k, none⟩ (.int .i64 x)) g c) := ⟨_, hf.set k _⟩
      have HG2 : Hid (w.grownBy (wr.setCell ⟨g, k, none⟩ (.int .i64 x)) (some g)) := by
        refine ⟨Hg.out.os, Hg.out.tape, Hg.out.output, by rw [show (wr.setCell ⟨g, k, none⟩ (.int .i64 x)).heap.size = wr.heap.size by simp [World.setCell]]; exact Hg.out.size, fun j hj hne => ?_⟩
        rw [Below.heap_setCell _ _ _ _ (fun e => hne (by rw [e]))]
        exact Hg.out.block j hj hne
      generalize f k = fk at e0
      clear hf Hi Hg
      go_wp2_with fail
      go_roundw
      case rel => exact ⟨k + 1, by go_num, by omega, HG2.out, HI2.out⟩
      case measure => simp [intOf] <;> omega
    · obtain rfl : k = c := by omega
      go_wp2_with fail
      go_end0
      exact ⟨rfl, Hg.out, Hi.out⟩

/-- A block of numbers stays one, whatever block of numbers is spoilt. -/
theorem IntBlock.spoilt {w w' : World} {g c g' c' : Nat} (h : IntBlock w g c) (hi : IntBlock w g' c') (hg : w.grownBy w' (some g')) (hi' : IntBlock w' g' c') : IntBlock w' g c := by
  by_cases e : g' = g
  · subst e
    obtain ⟨f, cur, h1, h2, _⟩ := h
    obtain ⟨f', cur', h1', h2', _⟩ := hi
    rw [h1] at h1'
    cases h1'
    have : c = c' := by omega
    subst this
    exact hi'
  · exact h.grown hg (fun h => e (Option.some.inj h))
theorem IntBlock.lt {w : World} {g c : Nat} (h : IntBlock w g c) : g < w.heap.size := by
  obtain ⟨f, hf⟩ := h
  exact hf.lt
/-- A block of numbers is no array's variable. -/
theorem IntBlock.ne {w : World} {g c G : Nat} {vs : List Value} (h : IntBlock w g c) (hA : HoldsA w G vs) : some G ≠ some g := by
  intro e
  obtain rfl := Option.some.inj e
  obtain ⟨f, cur, h1, _⟩ := h
  have h2 := hA.2
  rw [h1] at h2
  simp at h2
/-- A row of the call's own, spoilt. -/
theorem spoil_own (v : Value) (B : Nat) (zs : List Int) (x : Int) (w : World) (h : OwnI w B v zs) :
    Calls Try.prog 17 #[v, .int .i64 x] w fun e w' => e = .returned (.tuple #[]) ∧ (∃ q, w' = w.drewN q) ∨ e = .returned (.tuple #[]) ∧ ∃ g c, v.ownBlock = some g ∧ IntBlock w g c ∧ w.grownBy w' (some g) ∧ IntBlock w' g c := by
  rcases h.2 with ⟨rfl, h0⟩ | ⟨g, c, cur, rfl, hB, hg, hn, hm, hs, _⟩
  · have hc0 : (zs.length : Int) = 0 := by omega
    refine Calls.mono (R := fun e w' => e = .returned (.tuple #[]) ∧ w' = w) ?_ (fun e w' h => .inl ⟨h.1, 0, h.2⟩)
    go_enter Try.func17, Try.ntmps17
    go_wp2_with fail
    go_loopw [11] (fun u11 wr => u11 = .int .i64 0 ∧ wr = w) (fun _ _ => 0)
    case atStart => exact ⟨rfl, rfl⟩
    case round =>
      obtain ⟨rfl, rfl⟩ := hrel
      go_wp2_with fail
      go_end0
      exact ⟨rfl, rfl⟩
  · have hI : IntBlock w g c := ⟨fun i => cur.getD i undef, cur, hg, by rw [hs, Nat.mul_one], fun i hi => by
      rw [Nat.mul_one] at hs
      simp [hs, hi]⟩
    refine (spoil_any g _ c w x hI hn hm).mono ?_
    rintro e w' ⟨rfl, hgr, hi'⟩
    exact .inr ⟨rfl, g, c, rfl, hI, hgr, hi'⟩
end Go.Proofs.Ytpgjaoemkadenab.Seek
