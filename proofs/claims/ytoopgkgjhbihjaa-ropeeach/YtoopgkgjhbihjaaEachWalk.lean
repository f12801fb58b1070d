/- The walk of RopeEach. -/
import Derived.Test.YtoopgkgjhbihjaaRanges
import Derived.Test.YtoopgkgjhbihjaaJoinsWalk
import Derived.Maps.AppendAt
set_option linter.unusedVariables false
set_option linter.unusedSimpArgs false
namespace Go.Proofs.Ytoopgkgjhbihjaa.Seek
open Go.RowKit

attribute [local go_sem] Oper.semAt_some

/-- The first loop's variables: the result, n, most. -/
def Vars1 (w : World) (N : Nat) (most : Int) (i : Nat) (W : World) : Prop :=
  Boxed W (N + 1) 4 (.bool false) ∧ Boxed W (N + 1 + 1) 3 (.int .i64 (i : Int)) ∧ Boxed W N 3 (.int .i64 most) ∧ Below w.heap.size w W
theorem vars1_own (w : World) (N B : Nat) (most : Int) (hB : w.heap.size ≤ B) : OwnFrom B (Vars1 w N most) :=
  OwnFrom.and (Own.from (boxed_own _ _ (fun _ => .bool false)) _) (OwnFrom.and (Own.from (boxed_own _ _ (fun i : Nat => .int .i64 (i : Int))) _) (OwnFrom.and (Own.from (boxed_own _ _ (fun _ => .int .i64 most)) _) (ownFrom_below (Nat.le_refl _) hB)))

/-- The second loop's variables: got, the result, most; the block of the first loop's deferred calls. -/
def Vars2 (w : World) (N D bg n₀ : Nat) (most : Int) (zs : List Int) (i : Nat) (W : World) : Prop :=
  (∃ v, Boxed W bg 22 v ∧ W.ownsRow n₀ 3 1 v i (ints (zs.take i)) ∧ True) ∧ Boxed W (N + 1) 4 (.bool false) ∧ Boxed W N 3 (.int .i64 most) ∧ Below w.heap.size w W ∧ (W.heap[D]? = some (.deferred (some [])) ∧ n₀ ≤ W.heap.size) ∧ ((i = 0 ∨ (i : Int) ≤ most) ∧ i ≤ zs.length)
theorem vars2_own (w : World) (N D bg n₀ B : Nat) (most : Int) (zs : List Int) (hB : w.heap.size ≤ B) (hD : D < B) : OwnFrom B (Vars2 w N D bg n₀ most zs) :=
  OwnFrom.and (Own.from (holdsRow_own n₀ bg 22 3 1 (fun i : Nat => i) (fun i => ints (zs.take i)) (fun _ _ => True)) _) (OwnFrom.and (Own.from (boxed_own _ _ (fun _ => .bool false)) _) (OwnFrom.and (Own.from (boxed_own _ _ (fun _ => .int .i64 most)) _) (OwnFrom.and (ownFrom_below (Nat.le_refl _) hB)
    (OwnFrom.and (fun s W W' row hs hg hr => ⟨(hg.block D (Array.getElem?_eq_some_iff.1 hs.1).1 (fun e => by have := (hr D e.symm).1; omega)).trans hs.1, Nat.le_trans hs.2 hg.size⟩) (ownFrom_pure _ _)))))
theorem owned_shape {w : World} {B n : Nat} {v : Value} {xs : List Value} (h : w.ownsRow B 3 1 v n xs) : ∃ a cap, v = .slice a n cap := by
  rcases h.2 with ⟨rfl, rfl, _⟩ | ⟨g, cap, cur, rfl, _⟩
  · exact ⟨none, 0, rfl⟩
  · exact ⟨_, cap, rfl⟩
theorem gathered {X w1 : World} {N n₀ bg i m : Nat} {v v' : Value} {xs ys : List Value} {tmp : Obj} (hv : Boxed X bg 22 v) (hrow : X.ownsRow n₀ 3 1 v i xs) (hN : N ≤ n₀) (hn₀ : n₀ ≤ X.heap.size) (hbg : N ≤ bg) (hown : w1.ownsRow n₀ 3 1 v' m ys) (hgrow : (X.alloc tmp).grownBy w1 v.ownBlock) :
    Boxed w1 bg 22 v ∧ Boxed (w1.setCell ⟨bg, 0, none⟩ v') bg 22 v' ∧ (w1.setCell ⟨bg, 0, none⟩ v').ownsRow n₀ 3 1 v' m ys ∧ KeepsOthers X (w1.setCell ⟨bg, 0, none⟩ v') ∧ Below N X (w1.setCell ⟨bg, 0, none⟩ v') ∧ Nodes n₀ X (w1.setCell ⟨bg, 0, none⟩ v') ∧ (∀ b t u, b < n₀ → b ≠ bg → Boxed X b t u → Boxed (w1.setCell ⟨bg, 0, none⟩ v') b t u) := by
  obtain ⟨hv1, hv2, _, hk2, hb2⟩ := hv.appended (by decide) (owned_less hrow hN) (Nat.le_trans hN hn₀) hbg (owned_less hown hN) hgrow
  have hbn : Below n₀ X w1 := ((Below.refl n₀ X).alloc hn₀ tmp).grown hgrow (by rw [size_alloc]; omega) fun j ej => by
    rcases hrow.2 with ⟨rfl, _⟩ | ⟨g, cap, cur, rfl, hb, _, _⟩
    · simp [Value.ownBlock] at ej
    · obtain rfl : g = j := by simpa [Value.ownBlock] using ej
      exact hb
  exact ⟨hv1, hv2, hown.kept (grownBy_setCell' w1 bg v') (.inr (hv1.not_row (by decide) hown).symm), hk2, hb2, (Nodes.of_below hbn).trans (Nodes.set hv1 _), fun b t u hb hne h => (boxed_below h hbn hb).other hne _⟩
theorem reads_front {w : World} {a : Option Addr} {n c : Nat} {zs : List Int} (h : Reads w (.slice a n c) zs) (k : Nat) (hk : k ≤ zs.length) : k ≤ c ∧ Reads w (.slice a k c) (zs.take k) := by
  rcases h with ⟨a', c', hv, rfl⟩ | ⟨b, off, cap, hv, hcap, hm, hb, hc⟩
  · cases hv
    have h0 : k = 0 := by simpa using hk
    subst h0
    exact ⟨Nat.zero_le _, .inl ⟨a, c, rfl, rfl⟩⟩
  · cases hv
    refine ⟨by omega, ?_⟩
    have := reads_part hc hb 0 k c (by omega) (by omega) hm
    rw [List.drop_zero, Nat.add_zero] at this
    exact this
theorem owned_take {w : World} {B i : Nat} {v : Value} {zs : List Int} (h : w.ownsRow B 3 1 v i (ints (zs.take i))) (hi : i ≤ zs.length) : Reads w v (zs.take i) := by
  refine owned_reads (B := B) ?_
  rw [List.length_take, Nat.min_eq_left hi]
  exact h
theorem take_more (zs : List Int) (i : Nat) (h : i < zs.length) : ints (zs.take (i + 1)) = ints (zs.take i) ++ [.int .i64 (zs.getD i 0)] := by
  unfold ints
  rw [List.take_add_one, List.map_append, List.getElem?_eq_getElem h, List.getD_eq_getElem?_getD, List.getElem?_eq_getElem h]
  rfl

set_option maxRecDepth 100000 in
set_option maxHeartbeats 4000000 in
theorem each_walk (v : Value) (l : List Int) (most : Int) (w : World) (hl : Reads w v l) (hlr : l.length * 8 ≤ 140737488351232) :
    Calls Try.prog 8 #[v, .int .i64 most] w fun e w' => e = .returned (.bool true) ∧ Below w.heap.size w w' := by
  obtain ⟨a1, c1, hv1⟩ := hl.shape
  subst hv1
  have Hlm : Hid (l.length ≤ maxLen) := by show l.length ≤ maxLen; unfold maxLen; omega
  have Hl : Hid (Reads w (.slice a1 l.length c1) l) := hl
  clear hl
  refine (callsIn_wide (n := 3)).1 ?_
  have hmf : ∀ (fn : Fn) (first cap : Array Value) (w : World), (Instr.makeFunc fn first cap).run Try.prog w = .ok (.func fn first cap) w := fun _ _ _ _ => rfl
  refine callsIn_of_wp_marks Try.func8 rfl trivial ?_ rfl
  rw [wpIn_wide]
  simp only [Try.ntmps8, List.size_toArray, List.length_cons, List.length_nil, Nat.reduceAdd, Nat.reduceSub, Array.replicate_succ, Array.replicate_zero, List.push_toArray, List.append_toArray, List.nil_append, List.cons_append]
  go_wp2_with fail
  have hr56 := reads_new (((w.alloc (.cells #[.int .i64 most] 3)).alloc (.cells #[.bool false] 4)).alloc (.cells #[.int .i64 0] 3)) [5, 6] (by decide)
  rw [size_alloc, size_alloc, size_alloc] at hr56
  refine (roped_any [5, 6] _ _ (by decide) hr56).mono ?_
  rintro e w1 ⟨hb1, p1, rfl, ht1⟩
  rw [show ofList [5, 6] = [5, 6] from rfl] at ht1
  have x1 : Boxed w1 w.heap.size 3 (.int .i64 most) := boxed_size (((box_first _ _ _ _ _).alloc _).alloc _) hb1
  have x2 : Boxed w1 (w.heap.size + 1) 4 (.bool false) := boxed_size (((box_second _ _ _ _ _).alloc _).alloc _) hb1
  have x3 : Boxed w1 (w.heap.size + 1 + 1) 3 (.int .i64 0) := boxed_size ((box_third _ _ _ _ _ _ _).alloc _) hb1
  have hB : Below w.heap.size w w1 := below_trans (((((below_alloc w _).alloc (by rw [size_alloc]; omega) _).alloc (by rw [size_alloc, size_alloc]; omega) _)).alloc (by rw [size_alloc, size_alloc, size_alloc]; omega) _) hb1 (by rw [size_alloc, size_alloc, size_alloc, size_alloc]; omega)
  clear hb1 hr56
  go_wp2_with fail
  refine (wpIn_wide (n := 3)).1 ?_
  refine range_each rfl (p := p1) (zs := [5, 6]) (n₀ := w1.heap.size) rfl (by decide) (Nat.le_refl _) ht1 rfl (Vars1 w w.heap.size most) (fun _ _ => False) (vars1_own w _ _ most hB.size) (fun _ _ _ _ _ h _ _ => h) ⟨x2, x3, x1, hB⟩ ?a₁ ?assign ?body ?done ?stop
  case assign =>
    intro l i W K hK
    gi_wp2
    exact hK
  case body =>
    rintro l i X ⟨hr, hn, hm, hB⟩ hi
    have hi2 : i = 0 ∨ i = 1 := by simp at hi; omega
    rcases hi2 with rfl | rfl
    all_goals
      have hc := hn.cell
      have hf := hn.frozen
      gi_wp2
      exact ⟨KeepsOthers.setCell _ _ _, Nodes.set hn _, hr.other (by omega) _, hn.set _, hm.other (by omega) _, hB.setCell (p := ⟨w.heap.size + 1 + 1, 0, none⟩) (by show _ ≤ w.heap.size + 1 + 1; omega) _⟩
  case done =>
    rintro D W hD ⟨hr, hn, hm, hB⟩ hK
    have hc : W.cell? ⟨w.heap.size + 1 + 1, 0, none⟩ = some (.int .i64 2) := hn.cell
    go_wp2_with fail
    have hx2lt := x2.lt
    clear hc hn x1 x2 x3
    refine (of_one l _ W Hlm.out (Hl.out.below hB)).mono ?_
    rintro e w2 ⟨hb2, p, er, zs, rfl, ht2, hcase⟩
    have hlt := (Array.getElem?_eq_some_iff.1 hK).1
    have hD2 : w2.heap[D]? = some (.deferred (some [])) := (hb2.block D hlt).trans hK
    replace hr := (boxed_size hr hb2).alloc (.cells #[.pointer p] 25)
    replace hm := (boxed_size hm hb2).alloc (.cells #[.pointer p] 25)
    replace hB := below_trans hB hb2 hB.size
    have hle2 := hB.size
    replace hB := hB.alloc hB.size (.cells #[.pointer p] 25)
    have r8 := RV.new ht2
    have hlt2 : D < w2.heap.size := (Array.getElem?_eq_some_iff.1 hD2).1
    have hD3 : (w2.alloc (.cells #[.pointer p] 25)).heap[D]? = some (.deferred (some [])) := (Below.heap_alloc _ _ _ hlt2).trans hD2
    have HK : Hid _ := hD3
    clear hb2 hK hD2 hD3 ht2 hlt
    rcases hcase with ⟨hl4, rfl, rfl⟩ | ⟨hl4, rfl, rfl⟩
    · have d8 := r8.cell
      go_wp2_with fail
      clear d8
      have g10 := Boxed.new (w2.alloc (.cells #[.pointer p] 25)) 22 (.slice none 0 0)
      rw [size_alloc] at g10
      replace hr := hr.alloc (.cells #[.slice none 0 0] 22)
      replace hm := hm.alloc (.cells #[.slice none 0 0] 22)
      replace hB := hB.alloc hB.size (.cells #[.slice none 0 0] 22)
      replace r8 := r8.alloc (.cells #[.slice none 0 0] 22)
      have hD4 : ((w2.alloc (.cells #[.pointer p] 25)).alloc (.cells #[.slice none 0 0] 22)).heap[D]? = some (.deferred (some [])) := (Below.heap_alloc _ _ _ (by rw [size_alloc]; omega)).trans HK.out
      have hsz : w2.heap.size + 1 < ((w2.alloc (.cells #[.pointer p] 25)).alloc (.cells #[.slice none 0 0] 22)).heap.size := by rw [size_alloc, size_alloc]; omega
      clear HK
      generalize (w2.alloc (.cells #[.pointer p] 25)).alloc (.cells #[.slice none 0 0] 22) = W3 at *
      refine (wpIn_wide (n := 3)).1 ?_
      refine range_each rfl (p := p) (zs := zs) (n₀ := W3.heap.size) rfl hl4 (Nat.le_refl _) r8.2 rfl (Vars2 w w.heap.size D (w2.heap.size + 1) W3.heap.size most zs) (fun c W => c = .exit 2 ∧ ∃ i : Nat, most ≤ (i : Int) ∧ Vars2 w w.heap.size D (w2.heap.size + 1) W3.heap.size most zs i W)
        (vars2_own w _ D _ _ _ most zs hB.size (Array.getElem?_eq_some_iff.1 hD4).1) (fun c s W W' row hs hg hr => ⟨hs.1, hs.2.choose, hs.2.choose_spec.1, vars2_own w _ D _ _ _ most zs hB.size (Array.getElem?_eq_some_iff.1 hD4).1 _ _ _ _ hs.2.choose_spec.2 hg hr⟩)
        ⟨⟨_, g10, World.ownsRow_nil _ _ _ _, trivial⟩, hr, hm, hB, ⟨hD4, Nat.le_refl _⟩, .inl rfl, Nat.zero_le _⟩ ?a₂ ?assign2 ?body2 ?done2 ?stop2
      case assign2 =>
        intro l i W K hK
        gi_wp2
        exact hK
      case body2 =>
        rintro l i X ⟨⟨v, hv, hrow, _⟩, hrx, hmx, hBx, ⟨hDx, hnx⟩, hix, hiz⟩ hi
        obtain ⟨x, hx⟩ : ∃ x, zs[i]?.getD 0 = x := ⟨_, rfl⟩
        have Hx : Hid (zs[i]?.getD 0 = x) := hx
        try dsimp only
        rw [hx]
        clear hx
        obtain ⟨av, capv, hev⟩ := owned_shape hrow
        have Hrow : Hid (X.ownsRow W3.heap.size 3 1 v i (ints (zs.take i))) := hrow
        have Hv : Hid (Boxed X (w2.heap.size + 1) 22 v) := hv
        have hcv := hv.cell
        rw [hev] at hcv
        have hcm := hmx.cell
        by_cases hst : most ≤ (i : Int)
        · gi_wp2
          exact ⟨KeepsOthers.refl _, rfl, i, hst, ⟨v, hv, hrow, trivial⟩, hrx, hmx, hBx, ⟨hDx, hnx⟩, hix, hiz⟩
        · obtain ⟨i0, hi0, hz0, hz1, hz2⟩ := info_parts info3
          subst hev
          clear hv hrow
          gi_wp2_with (gi_at_builtin; refine wpListIn_append_own _ rfl _ _ 22 rfl W3.heap.size 3 i0 (.int .i64 0) 1 8 Try.underlying22 hi0 hz0 hz1 hz2 rfl (by decide) _ _ _ rfl (Hrow.out.alloc _) ⟨X.heap.size, 0, none⟩ 1 1 [.int .i64 x] rfl rfl (cell_one_new _ _ _) (by simp [Value.oneCell']) (by unfold maxLen; omega) (by omega) (by rw [size_alloc]; omega) ?_; intro v' w4 hown' hgrow _; obtain ⟨g', cap', rfl⟩ := ownsRow_succ hown'; obtain ⟨hv1, hv2, hr2, hk2, hb2, hnn2, hbx2⟩ := gathered Hv.out Hrow.out hB.size hnx (by omega) hown' hgrow; have hc1 := hv1.cell; have hf1 := hv1.frozen)
          refine ⟨hk2, hnn2, ⟨_, hv2, ?_, trivial⟩, hbx2 _ _ _ (by omega) (by omega) hrx, hbx2 _ _ _ (by omega) (by omega) hmx, hBx.trans hb2, ⟨hk2.same _ _ hDx rfl, Nat.le_trans hnx hb2.size⟩, .inr (by omega), hi⟩
          rw [take_more zs i hi, List.getD_eq_getElem?_getD, Hx.out]
          exact hr2
      case done2 =>
        rintro D2 W4 hD2 ⟨⟨v, hv, hrow, _⟩, hrx, hmx, hBx, ⟨hDx, hnx⟩, hix, hiz⟩ hK2
        go_upto_region 19 with fail
        have hmn : max 0 (min most (zs.length : Int)) = (zs.length : Int) := by omega
        obtain ⟨av, capv, hev⟩ := owned_shape hrow
        obtain ⟨hcap, hfr⟩ := reads_front (Hl.out.below hBx) zs.length hiz
        have HEq : Hid (∀ wx, Below W4.heap.size W4 wx → Calls Try.prog 11 #[.slice av zs.length capv, .slice a1 zs.length c1] wx fun e w' => e = .returned (.bool true) ∧ Below W4.heap.size W4 w') := fun wx hbx => by
          subst hev
          refine (equal_same _ _ (zs.take zs.length) wx ((owned_take hrow hiz).below hbx) (hfr.below hbx) (by rw [List.length_take]; have := Hlm.out; omega)).mono ?_
          rintro e w' ⟨rfl, q, rfl⟩
          exact ⟨rfl, below_drewN hbx q⟩
        subst hev
        have mv := hv.lt
        have mm := hmx.lt
        have hlt5 := hrx.lt
        clear hfr hrow
        have hi0 : (0 : Int) ≤ (zs.length : Int) := by omega
        have hi1 : (zs.length : Int) ≤ (c1 : Int) := by omega
        have hS : W4.cell? ⟨w2.heap.size + 1, 0, none⟩ = some (.slice av zs.length capv) ∧ W4.cell? ⟨w.heap.size, 0, none⟩ = some (.int .i64 most) := ⟨hv.cell, hmx.cell⟩
        go_region_held3 (fun w' => w'.cell? ⟨w2.heap.size + 1, 0, none⟩ = some (.slice av zs.length capv) ∧ w'.cell? ⟨w.heap.size, 0, none⟩ = some (.int .i64 most)) (first | exact hS | exact hS5 | exact hS6)
          ((go_at_call 11; refine (HEq.out _ ?_).mono ?_; (exact (Below.refl _ _).drew); rintro e w5 ⟨rfl, hb5⟩; have hrx5 := boxed_size hrx hb5; have hc5 := hrx5.cell; have hf5 := hrx5.frozen; have hS5 := keep2 hb5 mv mm hS; have hS6 : (w5.setCell ⟨w.heap.size + 1, 0, none⟩ (.bool true)).cell? ⟨w2.heap.size + 1, 0, none⟩ = some (.slice av zs.length capv) ∧ (w5.setCell ⟨w.heap.size + 1, 0, none⟩ (.bool true)).cell? ⟨w.heap.size, 0, none⟩ = some (.int .i64 most) := ⟨(World.cell?_setCell_far _ _ _ _ (by show w.heap.size + 1 ≠ w2.heap.size + 1; omega)).trans hS5.1, (World.cell?_setCell_far _ _ _ _ (by show w.heap.size + 1 ≠ w.heap.size; omega)).trans hS5.2⟩))
        have hD5 : (w5.setCell ⟨w.heap.size + 1, 0, none⟩ (.bool true)).heap[D]? = some (.deferred (some [])) := (KeepsOthers.setCell w5 _ _).same _ _ ((hb5.block D (Array.getElem?_eq_some_iff.1 hDx).1).trans hDx) rfl
        have hE5 : (w5.setCell ⟨w.heap.size + 1, 0, none⟩ (.bool true)).heap[D2]? = some (.deferred (some [])) := (KeepsOthers.setCell w5 _ _).same _ _ ((hb5.block D2 (Array.getElem?_eq_some_iff.1 hK2).1).trans hK2) rfl
        have hr5 := hrx5.set (.bool true)
        have hB5 : Below w.heap.size w (w5.setCell ⟨w.heap.size + 1, 0, none⟩ (.bool true)) := (below_trans hBx hb5 hBx.size).setCell (p := ⟨w.heap.size + 1, 0, none⟩) (by show _ ≤ w.heap.size + 1; omega) _
        have hDlt : D < D2 := Nat.lt_of_lt_of_le (Array.getElem?_eq_some_iff.1 hD4).1 hD2
        clear hS hS5 hS6 hc5 hf5 hrx5 HEq
        go_simp
        go_wp2_with fail
        generalize w5.setCell ⟨w.heap.size + 1, 0, none⟩ (.bool true) = W5 at *
        refine ⟨by simp, .inl ⟨_, _, rfl, run_takeDeferred hE5, ?_⟩⟩
        have hD6 : (W5.putObj D2 (.deferred none)).heap[D]? = some (.deferred (some [])) := (World.putObj_heap_other (by omega)).trans hD5
        refine ⟨by simp, .inl ⟨_, _, rfl, run_takeDeferred hD6, ?_⟩⟩
        have hr6 : ((W5.putObj D2 (.deferred none)).putObj D (.deferred none)).cell? ⟨w.heap.size + 1, 0, none⟩ = some (.bool true) := (World.cell?_of_block (World.putObj_heap_other (by show w.heap.size + 1 ≠ D; omega))).trans ((World.cell?_of_block (World.putObj_heap_other (by show w.heap.size + 1 ≠ D2; omega))).trans hr5.cell)
        exact ⟨.bool true, by simp [results, Try.results8, go_sem, hr6], rfl, (hB5.trans (belowK_b (w := w) (Nat.le_refl _) _ D2 _ _ (by omega) hE5 rfl rfl)).trans (belowK_b (w := w) (Nat.le_refl _) _ D _ _ (by omega) hD6 rfl rfl)⟩
      case stop2 =>
        rintro D2 c W4 hD2 ⟨rfl, i, hst, ⟨v, hv, hrow, _⟩, hrx, hmx, hBx, ⟨hDx, hnx⟩, hix, hiz⟩ hK2
        rw [wpIn_wide]
        go_upto_region 19 with fail
        have hmn : max 0 (min most (zs.length : Int)) = (i : Int) := by omega
        obtain ⟨av, capv, hev⟩ := owned_shape hrow
        obtain ⟨hcap, hfr⟩ := reads_front (Hl.out.below hBx) i hiz
        have HEq : Hid (∀ wx, Below W4.heap.size W4 wx → Calls Try.prog 11 #[.slice av i capv, .slice a1 i c1] wx fun e w' => e = .returned (.bool true) ∧ Below W4.heap.size W4 w') := fun wx hbx => by
          subst hev
          refine (equal_same _ _ (zs.take i) wx ((owned_take hrow hiz).below hbx) (hfr.below hbx) (by rw [List.length_take]; have := Hlm.out; omega)).mono ?_
          rintro e w' ⟨rfl, q, rfl⟩
          exact ⟨rfl, below_drewN hbx q⟩
        subst hev
        have mv := hv.lt
        have mm := hmx.lt
        have hlt5 := hrx.lt
        clear hfr hrow
        have hi0 : (0 : Int) ≤ (i : Int) := by omega
        have hi1 : (i : Int) ≤ (c1 : Int) := by omega
        have hS : W4.cell? ⟨w2.heap.size + 1, 0, none⟩ = some (.slice av i capv) ∧ W4.cell? ⟨w.heap.size, 0, none⟩ = some (.int .i64 most) := ⟨hv.cell, hmx.cell⟩
        go_region_held3 (fun w' => w'.cell? ⟨w2.heap.size + 1, 0, none⟩ = some (.slice av i capv) ∧ w'.cell? ⟨w.heap.size, 0, none⟩ = some (.int .i64 most)) (first | exact hS | exact hS5 | exact hS6)
          ((go_at_call 11; refine (HEq.out _ ?_).mono ?_; (exact (Below.refl _ _).drew); rintro e w5 ⟨rfl, hb5⟩; have hrx5 := boxed_size hrx hb5; have hc5 := hrx5.cell; have hf5 := hrx5.frozen; have hS5 := keep2 hb5 mv mm hS; have hS6 : (w5.setCell ⟨w.heap.size + 1, 0, none⟩ (.bool true)).cell? ⟨w2.heap.size + 1, 0, none⟩ = some (.slice av i capv) ∧ (w5.setCell ⟨w.heap.size + 1, 0, none⟩ (.bool true)).cell? ⟨w.heap.size, 0, none⟩ = some (.int .i64 most) := ⟨(World.cell?_setCell_far _ _ _ _ (by show w.heap.size + 1 ≠ w2.heap.size + 1; omega)).trans hS5.1, (World.cell?_setCell_far _ _ _ _ (by show w.heap.size + 1 ≠ w.heap.size; omega)).trans hS5.2⟩))
        have hD5 : (w5.setCell ⟨w.heap.size + 1, 0, none⟩ (.bool true)).heap[D]? = some (.deferred (some [])) := (KeepsOthers.setCell w5 _ _).same _ _ ((hb5.block D (Array.getElem?_eq_some_iff.1 hDx).1).trans hDx) rfl
        have hE5 : (w5.setCell ⟨w.heap.size + 1, 0, none⟩ (.bool true)).heap[D2]? = some (.deferred (some [])) := (KeepsOthers.setCell w5 _ _).same _ _ ((hb5.block D2 (Array.getElem?_eq_some_iff.1 hK2).1).trans hK2) rfl
        have hr5 := hrx5.set (.bool true)
        have hB5 : Below w.heap.size w (w5.setCell ⟨w.heap.size + 1, 0, none⟩ (.bool true)) := (below_trans hBx hb5 hBx.size).setCell (p := ⟨w.heap.size + 1, 0, none⟩) (by show _ ≤ w.heap.size + 1; omega) _
        have hDlt : D < D2 := Nat.lt_of_lt_of_le (Array.getElem?_eq_some_iff.1 hD4).1 hD2
        clear hS hS5 hS6 hc5 hf5 hrx5 HEq
        go_simp
        go_wp2_with fail
        generalize w5.setCell ⟨w.heap.size + 1, 0, none⟩ (.bool true) = W5 at *
        refine ⟨by simp, .inl ⟨_, _, rfl, run_takeDeferred hE5, ?_⟩⟩
        have hD6 : (W5.putObj D2 (.deferred none)).heap[D]? = some (.deferred (some [])) := (World.putObj_heap_other (by omega)).trans hD5
        refine ⟨by simp, .inl ⟨_, _, rfl, run_takeDeferred hD6, ?_⟩⟩
        have hr6 : ((W5.putObj D2 (.deferred none)).putObj D (.deferred none)).cell? ⟨w.heap.size + 1, 0, none⟩ = some (.bool true) := (World.cell?_of_block (World.putObj_heap_other (by show w.heap.size + 1 ≠ D; omega))).trans ((World.cell?_of_block (World.putObj_heap_other (by show w.heap.size + 1 ≠ D2; omega))).trans hr5.cell)
        exact ⟨.bool true, by simp [results, Try.results8, go_sem, hr6], rfl, (hB5.trans (belowK_b (w := w) (Nat.le_refl _) _ D2 _ _ (by omega) hE5 rfl rfl)).trans (belowK_b (w := w) (Nat.le_refl _) _ D _ _ (by omega) hD6 rfl rfl)⟩
    · have hc := hr.cell
      have hf := hr.frozen
      go_wp2_with fail
      have hD4 := (KeepsOthers.setCell (w2.alloc (.cells #[.pointer p] 25)) ⟨w.heap.size + 1, 0, none⟩ (.bool true)).same _ _ HK.out rfl
      refine ⟨by simp, .inl ⟨_, _, rfl, run_takeDeferred hD4, ?_⟩⟩
      have hr5 := hr.set (.bool true)
      have hr6 : (((w2.alloc (.cells #[.pointer p] 25)).setCell ⟨w.heap.size + 1, 0, none⟩ (.bool true)).putObj D (.deferred none)).cell? ⟨w.heap.size + 1, 0, none⟩ = some (.bool true) := (World.cell?_of_block (World.putObj_heap_other (by show w.heap.size + 1 ≠ D; omega))).trans hr5.cell
      exact ⟨.bool true, by simp [results, Try.results8, go_sem, hr6], rfl, (hB.setCell (p := ⟨w.heap.size + 1, 0, none⟩) (by show _ ≤ w.heap.size + 1; omega) _).trans (belowK_b (w := w) (Nat.le_refl _) _ D _ _ (by omega) hD4 rfl rfl)⟩
  case stop =>
    rintro D c W _ h _
    exact h.elim
end Go.Proofs.Ytoopgkgjhbihjaa.Seek
