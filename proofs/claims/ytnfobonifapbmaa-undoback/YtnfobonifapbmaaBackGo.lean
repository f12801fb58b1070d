/- The contracts of undo.Back and Again at numbers. -/
import Derived.Test.YtnfobonifapbmaaHistGo
set_option linter.unusedVariables false
set_option linter.unusedSimpArgs false
namespace Go.Proofs.Ytnfobonifapbmaa.Seek
open Go.RowKit

theorem below_join {W w1 w2 : World} (h : Below W.heap.size W w1) (h2 : Below w1.heap.size w1 w2) : Below W.heap.size W w2 := below_trans h h2 h.size
theorem below_al {W w' : World} (h : Below W.heap.size W w') (o : Obj) : Below W.heap.size W (w'.alloc o) := h.alloc h.size o
theorem BoxH.frozen0 {w : World} {b : Nat} {v u : Value} (h : BoxH w b v u) : w.frozen? ⟨b, 0, none⟩ = false := by simp [World.frozen?, h.2.2]
theorem BoxH.frozen1 {w : World} {b : Nat} {v u : Value} (h : BoxH w b v u) : w.frozen? ⟨b, 1, none⟩ = false := by simp [World.frozen?, h.2.2]
theorem BoxH.drew {w : World} {b : Nat} {v u : Value} (h : BoxH w b v u) : BoxH w.drew b v u := h
theorem below_st {W w' : World} {p : Addr} (h : Below W.heap.size W w') (hp : W.heap.size ≤ p.block) (v : Value) : Below W.heap.size W (w'.setCell p v) := h.setCell hp v
theorem below_dr {W w' : World} (h : Below W.heap.size W w') : Below W.heap.size W w'.drew := h.drew

theorem BoxH.set0 {w : World} {g : Nat} {p q : Value} (h : BoxH w g p q) (a : Option Addr) (n c : Nat) : BoxH (w.setCell ⟨g, 0, none⟩ (.slice a n c)) g (.slice a n c) q := by
  obtain ⟨hlt, hk⟩ := Array.getElem?_eq_some_iff.1 h.2.2
  refine ⟨⟨_, _, _, rfl⟩, h.2.1, ?_⟩
  show (w.heap.modify g _)[g]? = _
  rw [Array.getElem?_eq_getElem (by rw [Array.size_modify]; exact hlt), Array.getElem_modify_self, hk]
  rfl
theorem BoxH.set1 {w : World} {g : Nat} {p q : Value} (h : BoxH w g p q) (a : Option Addr) (n c : Nat) : BoxH (w.setCell ⟨g, 1, none⟩ (.slice a n c)) g p (.slice a n c) := by
  obtain ⟨hlt, hk⟩ := Array.getElem?_eq_some_iff.1 h.2.2
  refine ⟨h.1, ⟨_, _, _, rfl⟩, ?_⟩
  show (w.heap.modify g _)[g]? = _
  rw [Array.getElem?_eq_getElem (by rw [Array.size_modify]; exact hlt), Array.getElem_modify_self, hk]
  rfl
theorem grown_set (w : World) (g o : Nat) (v : Value) : w.grownBy (w.setCell ⟨g, o, none⟩ v) (some g) :=
  ⟨rfl, rfl, rfl, by show _ ≤ (w.heap.modify _ _).size; rw [Array.size_modify]; exact Nat.le_refl _, fun k _ hne => Below.heap_setCell _ _ _ k (fun e => hne (by rw [e]))⟩
theorem BoxH.set {w : World} {g : Nat} {p q : Value} (h : BoxH w g p q) (a b : Option Addr) (n c m d : Nat) :
    BoxH ((w.setCell ⟨g, 0, none⟩ (.slice a n c)).setCell ⟨g, 1, none⟩ (.slice b m d)) g (.slice a n c) (.slice b m d) ∧ w.grownBy ((w.setCell ⟨g, 0, none⟩ (.slice a n c)).setCell ⟨g, 1, none⟩ (.slice b m d)) (some g) :=
  ⟨(h.set0 a n c).set1 b m d, grown_trans (grown_set _ _ _ _) (grown_set _ _ _ _)⟩
/-- What stands behind the making of the two lists. -/
def BackCut (w1 wx : World) (n m : Nat) (xs ys : List Int) (s : Value) : Prop :=
  ∃ g a c b d, s = .pointer (some ⟨g, 0, none⟩) ∧ BoxH wx g (.slice a n c) (.slice b m d) ∧ Below w1.heap.size w1 wx ∧ Own wx w1.heap.size (.slice a n c) xs ∧ Own wx w1.heap.size (.slice b m d) ys
theorem cut_alloc {w1 w3 : World} {a b : Option Addr} {n c m d : Nat} {xs ys : List Int} (hB : Below w1.heap.size w1 w3) (h2 : Own w3 w1.heap.size (.slice a n c) xs) (h3 : Own w3 w1.heap.size (.slice b m d) ys) :
    BackCut w1 (w3.alloc (.cells #[.slice a n c, .slice b m d] 24)) n m xs ys (.pointer (some ⟨w3.heap.size, 0, none⟩)) :=
  ⟨_, a, c, b, d, rfl, BoxH.new _ _ _ _ _ _ _, hB.alloc hB.size _, h2.below (box_below _ _), h3.below (box_below _ _)⟩
theorem cut_set {w1 w3 : World} {a b : Option Addr} {n c m d g : Nat} {p q : Value} {xs ys : List Int} (hB : Below w1.heap.size w1 w3) (h2 : Own w3 w1.heap.size (.slice a n c) xs) (h3 : Own w3 w1.heap.size (.slice b m d) ys) (hz : BoxH w3 g p q) (hg : w1.heap.size ≤ g) :
    BackCut w1 ((w3.setCell ⟨g, 0, none⟩ (.slice a n c)).setCell ⟨g, 1, none⟩ (.slice b m d)) n m xs ys (.pointer (some ⟨g, 0, none⟩)) := by
  obtain ⟨hn, hgr⟩ := hz.set a b n c m d
  exact ⟨g, a, c, b, d, rfl, hn, hB.grown hgr hB.size (fun j hj => by cases hj; exact hg), h2.keptH hgr hz, h3.keptH hgr hz⟩

set_option maxHeartbeats 4000000 in
theorem back_some (v u : Value) (past future : List Int) (now : Int) (w : World) (hv : Reads w v past) (hu : Reads w u future) (h0 : past ≠ []) (hp : past.length * 8 ≤ 140737488355328) (hr : future.length * 8 ≤ 140737488355328) :
    Calls Try.prog 8 #[.agg #[v, u], .int .i64 now] w fun e w' => Below w.heap.size w w' ∧ ∃ a c b d, e = .returned (.tuple #[.agg #[.slice a (past.length - 1) c, .slice b (future.length + 1) d], .int .i64 (past.getD (past.length - 1) 0), .bool true]) ∧
      Own w' w.heap.size (.slice a (past.length - 1) c) past.dropLast ∧ Own w' w.heap.size (.slice b (future.length + 1) d) (future ++ [now]) := by
  obtain ⟨b0, d0, rfl⟩ := hu.shape
  have hlp : 0 < past.length := List.length_pos_iff.2 h0
  have hcell := hv
  obtain ⟨_, _, _, hz⟩ | ⟨blk, off, cap, rfl, hcap, hmx, hlt, hcs⟩ := hcell
  · exact absurd hz h0
  obtain ⟨n, hn⟩ : ∃ n, n + 1 = past.length := ⟨past.length - 1, by omega⟩
  have hlast := hcs n (by omega)
  have hdl : past.dropLast = past.take n := by rw [List.dropLast_eq_take, show past.length - 1 = n by omega]
  have hdn : past.dropLast.length = n := by rw [List.length_dropLast]; omega
  have HV : Hid (∀ wx, Below w.heap.size w wx → Reads wx (.slice (some ⟨blk, off, none⟩) n cap) past.dropLast) := fun wx hb => by
    have := reads_part (fun j hj => (hb.cell (by exact hlt)).trans (hcs j hj)) (Nat.lt_of_lt_of_le hlt hb.size) 0 n cap (by omega) (by omega) hmx
    rw [Nat.add_zero, List.drop_zero, ← hdl] at this
    exact this
  have HU : Hid (∀ wx, Below w.heap.size w wx → Reads wx (.slice b0 future.length d0) future) := fun wx hb => hu.below hb
  obtain ⟨x, hx⟩ : ∃ x, x = past.getD n 0 := ⟨_, rfl⟩
  rw [← hx] at hlast
  have HX : Hid (x = past.getD (past.length - 1) 0) := by show _ = _; rw [hx, show past.length - 1 = n by omega]
  have HL : Hid (∀ wx, Below w.heap.size w wx → wx.cell? ⟨blk, off + n, none⟩ = some (.int .i64 x)) := fun wx hb => (hb.cell (by exact hlt)).trans hlast
  have HN : Hid (past.length - 1 = n) := by show _ = _; omega
  have hnl : (past.length : Int) - 1 = (n : Int) := by omega
  have hmx9 : n + 1 ≤ 9223372036854775807 := by unfold maxLen at hmx; omega
  have hI1 : (0 : Int) ≤ (n : Int) := by omega
  have hI2 : (n : Int) ≤ (cap : Int) := by omega
  clear hv hu hcs hlast hx h0 hlp
  go_enter Try.func8, Try.ntmps8
  go_upto_region 4 with fail
  have HB1 : Hid (Below w.heap.size w ((w.alloc (Obj.cells #[Value.slice (some ⟨blk, off, none⟩) past.length cap, Value.slice b0 future.length d0] 24)).alloc (Obj.cells #[Value.slice none 0 0, Value.slice none 0 0] 24))) := below_two _ _ _
  have HR1 : Hid (BoxH ((w.alloc (Obj.cells #[Value.slice (some ⟨blk, off, none⟩) past.length cap, Value.slice b0 future.length d0] 24)).alloc (Obj.cells #[Value.slice none 0 0, Value.slice none 0 0] 24)) (w.heap.size + 1) (.slice none 0 0) (.slice none 0 0)) := BoxH.next _ _ _ _ _ _ _ _
  have HP1 : Hid (BoxH ((w.alloc (Obj.cells #[Value.slice (some ⟨blk, off, none⟩) past.length cap, Value.slice b0 future.length d0] 24)).alloc (Obj.cells #[Value.slice none 0 0, Value.slice none 0 0] 24)) w.heap.size (Value.slice (some ⟨blk, off, none⟩) past.length cap) (Value.slice b0 future.length d0)) := (BoxH.new _ _ _ _ _ _ _).below (box_below _ _)
  have HS1 : Hid (((w.alloc (Obj.cells #[Value.slice (some ⟨blk, off, none⟩) past.length cap, Value.slice b0 future.length d0] 24)).alloc (Obj.cells #[Value.slice none 0 0, Value.slice none 0 0] 24)).heap.size = w.heap.size + 2) := by show _ = _; rw [size_alloc, size_alloc]
  generalize (w.alloc (Obj.cells #[Value.slice (some ⟨blk, off, none⟩) past.length cap, Value.slice b0 future.length d0] 24)).alloc (Obj.cells #[Value.slice none 0 0, Value.slice none 0 0] 24) = w1 at *
  have HCS : Hid (∀ w', Below w1.heap.size w1 w' → w'.cell? ⟨w.heap.size, 0, none⟩ = some (.slice (some ⟨blk, off, none⟩) past.length cap) ∧ w'.cell? ⟨w.heap.size, 1, none⟩ = some (.slice b0 future.length d0)) := fun w' hb => ⟨(HP1.out.below hb).cell0, (HP1.out.below hb).cell1⟩
  have HV1 : Hid (∀ wx, Below w1.heap.size w1 wx → Reads wx (.slice (some ⟨blk, off, none⟩) n cap) past.dropLast) := fun wx hb => HV.out wx (below_trans HB1.out hb HB1.out.size)
  have HU1 : Hid (∀ wx, Below w1.heap.size w1 wx → Reads wx (.slice b0 future.length d0) future) := fun wx hb => HU.out wx (below_trans HB1.out hb HB1.out.size)
  have HD : Hid (past.dropLast.length = n) := hdn
  go_cut [8] from 20 to 29 (fun s8 wx => Hid (BackCut w1 wx n (future.length + 1) past.dropLast (future ++ [now]) s8))
  case first =>
    go_region_held3 (fun w' => w'.cell? ⟨w.heap.size, 0, none⟩ = some (.slice (some ⟨blk, off, none⟩) past.length cap) ∧ w'.cell? ⟨w.heap.size, 1, none⟩ = some (.slice b0 future.length d0)) ((refine HCS.out _ ?_; (repeat (first | assumption | exact Below.refl _ _ | refine below_dr ?_ | refine below_al ?_ _ | (refine below_st ?_ (by first | exact Nat.le_refl _ | exact hB2.size | exact hB3.size) _)))))
      (first
        | (go_at_call 6; refine (clone_sl _ past.dropLast _ (HV1.out _ (by (repeat (first | assumption | exact Below.refl _ _ | refine below_dr ?_ | refine below_al ?_ _)))) (by rw [HD.out]; omega)).mono ?_; rw [HD.out]; rintro e w2 ⟨hb2, a2, c2, rfl, ho2⟩; have hB2 : Below w1.heap.size w1 w2 := (by refine below_join ?_ hb2; (repeat (first | assumption | exact Below.refl _ _ | refine below_dr ?_ | refine below_al ?_ _))); try (have hz2 : BoxH w2 w1.heap.size (.slice none 0 0) (.slice none 0 0) := (BoxH.drew (BoxH.new w1 none none 0 0 0 0)).below hb2))
        | (go_at_call 11; refine (with_any _ future now _ (HU1.out _ (by (repeat (first | assumption | exact Below.refl _ _ | refine below_dr ?_ | refine below_al ?_ _)))) (by omega)).mono ?_; rintro e w3 ⟨hb3, a3, c3, rfl, ho3⟩; have hB3 : Below w1.heap.size w1 w3 := (by refine below_join ?_ hb3; (repeat (first | assumption | exact Below.refl _ _ | refine below_dr ?_ | refine below_al ?_ _))); first | (have hz3 : BoxH w3 w1.heap.size (.slice none 0 0) (.slice none 0 0) := hz2.below hb3; have z0 := hz3.cell0; have z1 := hz3.cell1; have f0 := hz3.frozen0; have f1 := hz3.frozen1) | (have hz3 : BoxH w3 w2.heap.size (.slice none 0 0) (.slice none 0 0) := (BoxH.new _ _ _ _ _ _ _).below hb3; have z0 := hz3.cell0; have z1 := hz3.cell1; have f0 := hz3.frozen0; have f1 := hz3.frozen1) | skip))
    all_goals (have O2 : Own w3 w1.heap.size (.slice a2 n c2) past.dropLast := by first | exact ho2.below hb3 | exact (ho2.below (box_below _ _)).below hb3 | exact Own.less (ho2.below hb3) (by show w1.heap.size ≤ (w1.alloc _).heap.size; rw [size_alloc]; omega))
    all_goals (have O3 : Own w3 w1.heap.size (.slice a3 (future.length + 1) c3) (future ++ [now]) := by first | exact ho3.less hB2.size | exact ho3.less (Nat.le_trans hB2.size (box_below _ _).size))
    all_goals (clear HV HU HV1 HU1 HCS hb2 hb3 ho2 ho3)
    all_goals (go_wp2_with fail)
    all_goals go_meet
    all_goals (first | exact cut_alloc hB3 O2 O3 | exact cut_set hB3 O2 O3 hz3 (Nat.le_refl _) | exact cut_set hB3 O2 O3 hz3 hB2.size)
  case rest =>
    obtain ⟨g, a2, c2, a3, c3, hs8, hbox, hbc, o2, o3⟩ := hcut.out
    clear hcut
    subst hs8
    have HBc : Hid (Below w1.heap.size w1 wc) := hbc
    have HBw : Hid (Below w.heap.size w wc) := below_trans HB1.out hbc HB1.out.size
    have g0 := hbox.cell0
    have g1 := hbox.cell1
    have HRc : Hid (BoxH wc (w.heap.size + 1) (.slice none 0 0) (.slice none 0 0)) := HR1.out.below hbc
    have r0 := HRc.out.cell0
    have r1 := HRc.out.cell1
    have r2 := HRc.out.frozen0
    have r3 := HRc.out.frozen1
    have p0 := (HP1.out.below hbc).cell0
    have x0 := HL.out wc HBw.out
    have O2 : Hid (Own wc w.heap.size (.slice a2 n c2) past.dropLast) := o2.less HB1.out.size
    have O3 : Hid (Own wc w.heap.size (.slice a3 (future.length + 1) c3) (future ++ [now])) := o3.less HB1.out.size
    clear hbox hbc o2 o3 HV HU HV1 HU1 HCS HL HP1 HR1
    go_wp2_with fail
    go_region
    go_simp
    have HG : Hid (w.heap.size ≤ w.heap.size + 1) := Nat.le_succ _
    generalize w.heap.size + 1 = G at *
    obtain ⟨hn5, hgr⟩ := HRc.out.set a2 a3 n c2 (future.length + 1) c3
    have HB5 : Hid (Below w.heap.size w ((wc.setCell ⟨G, 0, none⟩ (.slice a2 n c2)).setCell ⟨G, 1, none⟩ (.slice a3 (future.length + 1) c3))) := HBw.out.grown hgr HBw.out.size (fun j hj => by have := HG.out; cases hj; omega)
    have P5 : Hid (Own ((wc.setCell ⟨G, 0, none⟩ (.slice a2 n c2)).setCell ⟨G, 1, none⟩ (.slice a3 (future.length + 1) c3)) w.heap.size (.slice a2 n c2) past.dropLast) := O2.out.keptH hgr HRc.out
    have Q5 : Hid (Own ((wc.setCell ⟨G, 0, none⟩ (.slice a2 n c2)).setCell ⟨G, 1, none⟩ (.slice a3 (future.length + 1) c3)) w.heap.size (.slice a3 (future.length + 1) c3) (future ++ [now])) := O3.out.keptH hgr HRc.out
    have HN5 : Hid (BoxH ((wc.setCell ⟨G, 0, none⟩ (.slice a2 n c2)).setCell ⟨G, 1, none⟩ (.slice a3 (future.length + 1) c3)) G (.slice a2 n c2) (.slice a3 (future.length + 1) c3)) := hn5
    generalize (wc.setCell ⟨G, 0, none⟩ (.slice a2 n c2)).setCell ⟨G, 1, none⟩ (.slice a3 (future.length + 1) c3) = w5 at *
    clear hgr g0 g1 r0 r1 r2 r3 p0 x0 O2 O3 HRc HBw HBc hn5
    have h0 : w5.drew.cell? ⟨G, 0, none⟩ = _ := HN5.out.cell0
    have h1 : w5.drew.cell? ⟨G, 1, none⟩ = _ := HN5.out.cell1
    go_wp2_with fail
    refine bodyPost_ret (v := .tuple #[.agg #[.slice a2 n c2, .slice a3 (future.length + 1) c3], .int .i64 x, .bool true]) (by simp [results, Try.results8, go_sem, h0, h1]) rfl ?_
    rw [HN.out, ← HN.out, ← HX.out, HN.out]
    exact ⟨HB5.out.drew, _, _, _, _, rfl, P5.out, Q5.out⟩

/-! Back and Again, whatever the history. -/
/-- The things that are kept, the other list, what is told, and whether. -/
def backF (past future : List Int) (now : Int) : List Int := if past = [] then future else future ++ [now]
def backX (past : List Int) (now : Int) : Int := if past = [] then now else past.getD (past.length - 1) 0
def backB (past : List Int) : Bool := decide (past ≠ [])
theorem back_any (v u : Value) (past future : List Int) (now : Int) (w : World) (hv : Reads w v past) (hu : Reads w u future) (hp : past.length * 8 ≤ 140737488355328) (hr : future.length * 8 ≤ 140737488355328) :
    Calls Try.prog 8 #[.agg #[v, u], .int .i64 now] w fun e w' => Below w.heap.size w w' ∧ ∃ a c b d, e = .returned (.tuple #[.agg #[.slice a past.dropLast.length c, .slice b (backF past future now).length d], .int .i64 (backX past now), .bool (backB past)]) ∧
      Own w' w.heap.size (.slice a past.dropLast.length c) past.dropLast ∧ Own w' w.heap.size (.slice b (backF past future now).length d) (backF past future now) := by
  unfold backF backX backB
  by_cases h0 : past = []
  · subst h0
    obtain ⟨a, c, rfl⟩ := hv.shape
    refine (back_none a c u future now w hu hr).mono ?_
    rintro e w' ⟨hb, b, d, rfl, ho⟩
    exact ⟨hb, none, 0, b, d, rfl, .inl ⟨_, _, rfl, rfl⟩, ho⟩
  · refine (back_some v u past future now w hv hu h0 hp hr).mono ?_
    rintro e w' ⟨hb, a, c, b, d, rfl, ho, hf⟩
    rw [if_neg h0, if_neg h0]
    have h1 : (future ++ [now]).length = future.length + 1 := by simp
    rw [h1, List.length_dropLast]
    exact ⟨hb, a, c, b, d, by simp [h0], ho, hf⟩

set_option maxHeartbeats 2000000 in
theorem again_any (v u : Value) (past future : List Int) (now : Int) (w : World) (hv : Reads w v past) (hu : Reads w u future) (hp : past.length * 8 ≤ 140737488355328) (hr : future.length * 8 ≤ 140737488355328) :
    Calls Try.prog 9 #[.agg #[v, u], .int .i64 now] w fun e w' => Below w.heap.size w w' ∧ ∃ a c b d, e = .returned (.tuple #[.agg #[.slice b (backF future past now).length d, .slice a future.dropLast.length c], .int .i64 (backX future now), .bool (backB future)]) ∧
      Own w' w.heap.size (.slice a future.dropLast.length c) future.dropLast ∧ Own w' w.heap.size (.slice b (backF future past now).length d) (backF future past now) := by
  obtain ⟨a0, c0, rfl⟩ := hv.shape
  obtain ⟨b0, d0, rfl⟩ := hu.shape
  have HV : Hid (∀ wx, Below w.heap.size w wx → Reads wx (.slice a0 past.length c0) past) := fun wx hb => hv.below hb
  have HU : Hid (∀ wx, Below w.heap.size w wx → Reads wx (.slice b0 future.length d0) future) := fun wx hb => hu.below hb
  obtain ⟨bf, hbf⟩ : ∃ bf, bf = backF future past now := ⟨_, rfl⟩
  obtain ⟨bx, hbx⟩ : ∃ bx, bx = backX future now := ⟨_, rfl⟩
  obtain ⟨bb, hbb⟩ : ∃ bb, bb = backB future := ⟨_, rfl⟩
  obtain ⟨dl, hdl⟩ : ∃ dl, dl = future.dropLast := ⟨_, rfl⟩
  have HC : Hid (∀ wx, Below w.heap.size w wx → Calls Try.prog 8 #[.agg #[.slice b0 future.length d0, .slice a0 past.length c0], .int .i64 now] wx fun e w' => Below wx.heap.size wx w' ∧ ∃ a c b d, e = .returned (.tuple #[.agg #[.slice a dl.length c, .slice b bf.length d], .int .i64 bx, .bool bb]) ∧
      Own w' wx.heap.size (.slice a dl.length c) dl ∧ Own w' wx.heap.size (.slice b bf.length d) bf) := fun wx hb => by
    rw [hbf, hbx, hbb, hdl]
    exact back_any _ _ future past now wx (hu.below hb) (hv.below hb) hr hp
  rw [← hbf, ← hbx, ← hbb, ← hdl]
  clear hv hu hbf hbx hbb hdl HV HU
  go_enter Try.func9, Try.ntmps9
  go_wp2_with fail
  have HB1 : Hid (Below w.heap.size w ((w.alloc (Obj.cells #[Value.slice a0 past.length c0, Value.slice b0 future.length d0] 24)).alloc (Obj.cells #[Value.slice none 0 0, Value.slice none 0 0] 24))) := below_two _ _ _
  have HR1 : Hid (BoxH ((w.alloc (Obj.cells #[Value.slice a0 past.length c0, Value.slice b0 future.length d0] 24)).alloc (Obj.cells #[Value.slice none 0 0, Value.slice none 0 0] 24)) (w.heap.size + 1) (.slice none 0 0) (.slice none 0 0)) := BoxH.next _ _ _ _ _ _ _ _
  generalize (w.alloc (Obj.cells #[Value.slice a0 past.length c0, Value.slice b0 future.length d0] 24)).alloc (Obj.cells #[Value.slice none 0 0, Value.slice none 0 0] 24) = w1 at *
  refine (turned_any _ _ _ _ _ _ w1).mono ?_
  rintro e w2 ⟨hb2, rfl⟩
  have HB2 : Hid (Below w.heap.size w w2) := below_trans HB1.out hb2 HB1.out.size
  have HR2 : Hid (BoxH w2 (w.heap.size + 1) (.slice none 0 0) (.slice none 0 0)) := HR1.out.below hb2
  clear hb2 HB1 HR1
  go_wp2_with fail
  refine (HC.out w2 HB2.out).mono ?_
  rintro e w3 ⟨hb3, a3, c3, b3, d3, rfl, o3, f3⟩
  have HB3 : Hid (Below w.heap.size w w3) := below_trans HB2.out hb3 HB2.out.size
  have HR3 : Hid (BoxH w3 (w.heap.size + 1) (.slice none 0 0) (.slice none 0 0)) := HR2.out.below hb3
  have O3 : Hid (Own w3 w.heap.size (.slice a3 dl.length c3) dl) := o3.less HB2.out.size
  have F3 : Hid (Own w3 w.heap.size (.slice b3 bf.length d3) bf) := f3.less HB2.out.size
  clear hb3 o3 f3 HB2 HR2 HC
  go_wp2_with fail
  refine (turned_any _ _ _ _ _ _ _).mono ?_
  rintro e w4 ⟨hb4, rfl⟩
  have hba := box_below w3 (Obj.cells #[Value.slice a3 dl.length c3, Value.slice b3 bf.length d3] 24)
  have hb5 := below_trans hba hb4 hba.size
  have HB4 : Hid (Below w.heap.size w w4) := below_trans HB3.out hb5 HB3.out.size
  have HR4 : Hid (BoxH w4 (w.heap.size + 1) (.slice none 0 0) (.slice none 0 0)) := HR3.out.below hb5
  have O4 : Hid (Own w4 w.heap.size (.slice a3 dl.length c3) dl) := O3.out.below hb5
  have F4 : Hid (Own w4 w.heap.size (.slice b3 bf.length d3) bf) := F3.out.below hb5
  have HG : Hid (w.heap.size ≤ w.heap.size + 1) := Nat.le_succ _
  clear hba hb4 hb5 HB3 HR3 O3 F3
  generalize w.heap.size + 1 = G at *
  go_wp2_with (refine storeH rfl _ _ rfl G rfl _ _ _ _ _ _ _ _ rfl HR4.out ?_)
  intro w5 hz hg
  have HB5 : Hid (Below w.heap.size w w5) := HB4.out.grown hg HB4.out.size (fun j hj => by have := HG.out; cases hj; omega)
  have O5 : Hid (Own w5 w.heap.size (.slice a3 dl.length c3) dl) := O4.out.keptH hg HR4.out
  have F5 : Hid (Own w5 w.heap.size (.slice b3 bf.length d3) bf) := F4.out.keptH hg HR4.out
  have h0 := hz.cell0
  have h1 := hz.cell1
  clear hz hg HB4 HR4 O4 F4
  go_wp2_with fail
  exact bodyPost_ret (v := .tuple #[.agg #[.slice b3 bf.length d3, .slice a3 dl.length c3], .int .i64 bx, .bool bb]) (by simp [results, Try.results9, go_sem, h0, h1]) rfl ⟨HB5.out, _, _, _, _, rfl, O5.out, F5.out⟩
end Go.Proofs.Ytnfobonifapbmaa.Seek
