/- The contract of gathered's stay. -/
import Derived.Test.YtpgecholpbpakabGatherGo
set_option linter.unusedVariables false
set_option linter.unusedSimpArgs false
namespace Go.Proofs.Ytpgecholpbpakab.Seek
open Go.RowKit Plain

theorem stay_zero (gb : Nat) (w : World) : Calls Try.prog 21 #[.pointer (some ⟨gb, 0, none⟩), .int .i64 0] w fun e w' => e = .returned (.tuple #[]) ∧ w' = w := by
  go_enter Try.func21, Try.ntmps21
  go_wp2_with fail
  refine bodyPost_ret (results_none rfl _ _ _) rfl ?_
  exact ⟨rfl, rfl⟩
theorem cells4_new {w : World} {gb : Nat} {ev : Value} {f t : Nat} {tv : Value} (h : w.rowIs gb 47 4 (cells4 ev f t tv)) (k : Nat) :
    (((w.setCell ⟨gb, 1, none⟩ (.int .i64 (k : Int))).setCell ⟨gb, 2, none⟩ (.int .i64 (k : Int))).setCell ⟨gb, 3, none⟩ (.slice none 0 0)).rowIs gb 47 4 (cells4 ev k k (.slice none 0 0)) := by
  have h1 : (w.setCell ⟨gb, 1, none⟩ (.int .i64 (k : Int))).rowIs gb 47 4 (cells4 ev k t tv) := (h.set 1 _).congr fun c hc => by
    unfold cells4
    by_cases h0 : c = 0
    · subst h0; rfl
    · rw [if_neg h0, if_neg h0]
      by_cases h1 : c = 1
      · rw [if_pos h1, if_pos h1]
      · rw [if_neg h1, if_neg h1, if_neg h1]
  exact cells4_set3 (cells4_set2 h1 k) _
set_option maxRecDepth 100000 in
set_option maxHeartbeats 4000000 in
theorem stay_some (gb : Nat) (D D' : List Nsp) (f t c k : Nat) (x : List Int) (w : World) (h : Gath w gb D f t x) (hc : 0 < c) (hk : k = t + c) (hD' : D' = D ++ flush (f, t, x)) (hDl : D.length ≤ 100000) (hx : x.length ≤ 100000) (hkl : k ≤ 1000000) :
    Calls Try.prog 21 #[.pointer (some ⟨gb, 0, none⟩), .int .i64 (c : Int)] w fun e w' => e = .returned (.tuple #[]) ∧ Gath w' gb D' k k [] ∧ Below gb w w' := by
  obtain ⟨ev, a, cap, K, h1, h2, h3, h4, h5⟩ := h
  have c1 : w.cell? ⟨gb, 1, none⟩ = some (.int .i64 (f : Int)) := h1.cell (by decide)
  have c2 : w.cell? ⟨gb, 2, none⟩ = some (.int .i64 (t : Int)) := h1.cell (by decide)
  have c3 : w.cell? ⟨gb, 3, none⟩ = some (.slice a x.length cap) := h1.cell (by decide)
  have H1 : Hid (w.rowIs gb 47 4 (cells4 ev f t (.slice a x.length cap))) := h1
  have H4 : Hid (OwnK w (gb + 1) K ev (ups D)) := h4
  have H5 : Hid (OwnI w K (.slice a x.length cap) x) := h5
  have HD : Hid (D' = D ++ flush (f, t, x)) := hD'
  have hgw : gb < w.heap.size := by omega
  have hcb : ((c : Int) == 0) = false := beq_eq_false_iff_ne.2 (by omega)
  have hcn : (c == 0) = false := beq_eq_false_iff_ne.2 (by omega)
  have hkI : (t : Int) + (c : Int) = (k : Int) := by omega
  clear h1 h4 h5 hD' hk
  go_enter Try.func21, Try.ntmps21
  go_wp2_with fail
  refine (changes_any (f : Int) (t : Int) a x.length cap w).mono ?_
  rintro e w1 ⟨rfl, hb1⟩
  have HB1 : Hid (Below w.heap.size w w1) := hb1
  have HR1 : Hid (w1.rowIs gb 47 4 (cells4 ev f t (.slice a x.length cap))) := H1.out.of_block (hb1.block gb hgw)
  have HK1 : Hid (OwnK w1 (gb + 1) K ev (ups D)) := H4.out.kept hb1.size (fun k _ hk2 => hb1.block k (by omega))
  have HI1 : Hid (OwnI w1 K (.slice a x.length cap) x) := H5.out.below hb1
  have d0 : w1.cell? ⟨gb, 0, none⟩ = some ev := HR1.out.cell (by decide)
  have d1 : w1.cell? ⟨gb, 1, none⟩ = some (.int .i64 (f : Int)) := HR1.out.cell (by decide)
  have d2 : w1.cell? ⟨gb, 2, none⟩ = some (.int .i64 (t : Int)) := HR1.out.cell (by decide)
  have d3 : w1.cell? ⟨gb, 3, none⟩ = some (.slice a x.length cap) := HR1.out.cell (by decide)
  have f1 : w1.frozen? ⟨gb, 1, none⟩ = false := HR1.out.frozen _
  have f2 : w1.frozen? ⟨gb, 2, none⟩ = false := HR1.out.frozen _
  have f3 : w1.frozen? ⟨gb, 3, none⟩ = false := HR1.out.frozen _
  have hs1 := hb1.size
  clear hb1 c1 c2 c3 H1 H4 H5
  by_cases hch : chgN (f, t, x) = true
  · have hz : (decide ((f : Int) < (t : Int)) || decide (0 < x.length)) = true := by
      rw [Bool.or_eq_true]
      rcases (chgN_iff (f, t, x)).1 hch with h | h
      · exact .inl (decide_eq_true (by simp only at h; omega))
      · exact .inr (decide_eq_true h)
    have HE : Hid (ups D' = ups D ++ [((f : Int), (t : Int), x)]) := by
      show _ = _
      rw [HD.out]
      unfold flush
      rw [if_pos hch]
      unfold ups
      rw [List.map_append]
      rfl
    rw [hz]
    clear hz hch HD
    obtain ⟨ae, ce, hev⟩ := HK1.out.own.reads.shape
    have HT : Hid (TextOf w1 (gb + 1) ev.ownBlock (.slice a x.length cap) x) := textOf_new (by show x.length * 8 ≤ _; omega) (own_of HI1.out) h2 (fun g hg => by
      obtain ⟨vs, _, _, h9, _⟩ := HK1.out
      exact h9 g hg)
    have hDl2 : (ups D).length ≤ 1000000 := by rw [ups_len]; omega
    have hevb : ev.ownBlock ≠ some gb := fun h => by have := (HK1.out.own.lt gb h).1; omega
    have hevk : ∀ g, ev.ownBlock = some g → gb + 1 ≤ g ∧ g < K := fun g hg => ⟨(HK1.out.own.lt g hg).1, by
      obtain ⟨vs, _, _, h9, _⟩ := HK1.out
      exact h9 g hg⟩
    subst hev
    have HOE : Hid (OwnE w1 (gb + 1) (.slice ae (ups D).length ce) (ups D)) := HK1.out.own
    clear HI1
    have hgb1 : gb + 1 ≤ w1.heap.size := by omega
    have d0a : ∀ o, (w1.alloc o).cell? ⟨gb, 0, none⟩ = some (.slice ae (ups D).length ce) := fun o => ((box_below w1 o).cell (by exact hgb1)).trans d0
    go_wp2_with fail
    go_region_law (refine step_spl rfl (.tmp 16) (.tmp 21) rfl (gb + 1) (.slice ae (ups D).length ce) (ups D) w1.heap.size 1 (f : Int) (t : Int) (.slice a x.length cap) x (ups D') HE.out (by simp [Act.eval, Act.put]) ((HOE.out.below (below_drewN (Below.refl _ _) 1)).alloc _) (by simp [Act.eval, Act.put]) (boxed_new _ _ _ _) ((HT.out.below (below_drewN (Below.refl _ _) 1)).below (box_below _ _)) hDl2 (Nat.le_trans hgb1 (box_below _ _).size) ?_; intro v6 w6 ho6 hg6 hat6; obtain ⟨a6, c6, hv6⟩ := ho6.reads.shape; subst hv6; have r6 : w6.rowIs gb 47 4 (cells4 (.slice ae (ups D).length ce) f t (.slice a x.length cap)) := ((HR1.out.drew).alloc _).of_block (hg6.block gb (Nat.lt_of_lt_of_le (by exact hgb1) (box_below _ _).size) (Ne.symm hevb)); have g0 : w6.cell? ⟨gb, 0, none⟩ = some (.slice ae (ups D).length ce) := r6.cell (by decide); have g1 : w6.frozen? ⟨gb, 0, none⟩ = false := r6.frozen _)
    all_goals (
      have HB6 : Hid (Below gb w w6) := ((((HB1.out.mono (by omega)).trans (below_drewN (Below.refl gb w1) 1)).alloc (by exact Nat.le_of_lt hgb1) _).grown hg6 (Nat.le_trans (Nat.le_of_lt hgb1) (box_below _ _).size) (fun g hg => Nat.le_of_lt (hevk g hg).1))
      have HO6 : Hid (OwnK w6 (gb + 1) w6.heap.size (.slice a6 (ups D').length c6) (ups D')) := OwnE.ownK ho6
      have hgs : gb < w6.heap.size := r6.lt
      have HR7 : Hid ((w6.setCell ⟨gb, 0, none⟩ (.slice a6 (ups D').length c6)).rowIs gb 47 4 (cells4 (.slice a6 (ups D').length c6) f t (.slice a x.length cap))) := cells4_set0 r6 _
      clear g0 g1 r6 ho6 hg6 hat6 d0a d0 d1 d2 d3 f1 f2 f3 HOE HT HR1
      go_simp
      obtain ⟨W, hW⟩ : ∃ W, W = w6.setCell ⟨gb, 0, none⟩ (.slice a6 (ups D').length c6) := ⟨_, rfl⟩
      have HB7 : Hid (Below gb w W) := by rw [hW]; exact HB6.out.setCell (by exact Nat.le_refl _) _
      have HO7 : Hid (OwnK W (gb + 1) w6.heap.size (.slice a6 (ups D').length c6) (ups D')) := by
        rw [hW]
        exact HO6.out.kept (by rw [size_set]; exact Nat.le_refl _) (fun k hk1 hk2 => blk_other _ _ _ _ (by show k ≠ gb; omega))
      have hWs : W.heap.size = w6.heap.size := by rw [hW, size_set]
      rw [← hW] at HR7 ⊢
      clear hW HB6 HO6
      have d2 : W.cell? ⟨gb, 2, none⟩ = some (.int .i64 (t : Int)) := HR7.out.cell (by decide)
      have d1 : W.cell? ⟨gb, 1, none⟩ = some (.int .i64 (f : Int)) := HR7.out.cell (by decide)
      have d3 : W.cell? ⟨gb, 3, none⟩ = some (.slice a x.length cap) := HR7.out.cell (by decide)
      have f1 : W.frozen? ⟨gb, 1, none⟩ = false := HR7.out.frozen _
      have f2 : W.frozen? ⟨gb, 2, none⟩ = false := HR7.out.frozen _
      have f3 : W.frozen? ⟨gb, 3, none⟩ = false := HR7.out.frozen _
      have HG : Hid (Gath (((W.setCell ⟨gb, 1, none⟩ (.int .i64 (k : Int))).setCell ⟨gb, 2, none⟩ (.int .i64 (k : Int))).setCell ⟨gb, 3, none⟩ (.slice none 0 0)) gb D' k k []) :=
        ⟨_, none, 0, w6.heap.size, cells4_new HR7.out k, hgs, by rw [size_set, size_set, size_set, hWs]; exact Nat.le_refl _, HO7.out.kept (by rw [size_set, size_set, size_set]; exact Nat.le_refl _) (fun k hk1 hk2 => by rw [blk_other _ _ _ _ (by show k ≠ gb; omega), blk_other _ _ _ _ (by show k ≠ gb; omega), blk_other _ _ _ _ (by show k ≠ gb; omega)]), ownI_nil _ _⟩
      have HB8 : Hid (Below gb w (((W.setCell ⟨gb, 1, none⟩ (.int .i64 (k : Int))).setCell ⟨gb, 2, none⟩ (.int .i64 (k : Int))).setCell ⟨gb, 3, none⟩ (.slice none 0 0))) := ((HB7.out.setCell (by exact Nat.le_refl _) _).setCell (by exact Nat.le_refl _) _).setCell (by exact Nat.le_refl _) _
      clear hWs
      go_wp2_with fail
      go_end0
      exact ⟨rfl, HG.out, HB8.out⟩)
  · have hz : (decide ((f : Int) < (t : Int)) || decide (0 < x.length)) = false := by
      have := mt (chgN_iff (f, t, x)).2 hch
      simp only at this
      rw [decide_eq_false (by omega), decide_eq_false (by omega)]
      rfl
    have HE : Hid (D' = D) := by
      show _ = _
      rw [HD.out]
      unfold flush
      rw [if_neg hch, List.append_nil]
    rw [hz]
    clear hz hch HD
    have HG : Hid (Gath (((w1.setCell ⟨gb, 1, none⟩ (.int .i64 (k : Int))).setCell ⟨gb, 2, none⟩ (.int .i64 (k : Int))).setCell ⟨gb, 3, none⟩ (.slice none 0 0)) gb D' k k []) := by
      rw [HE.out]
      exact ⟨ev, none, 0, K, cells4_new HR1.out k, h2, by rw [size_set, size_set, size_set]; omega, HK1.out.kept (by rw [size_set, size_set, size_set]; exact Nat.le_refl _) (fun k hk1 hk2 => by rw [blk_other _ _ _ _ (by show k ≠ gb; omega), blk_other _ _ _ _ (by show k ≠ gb; omega), blk_other _ _ _ _ (by show k ≠ gb; omega)]), ownI_nil _ _⟩
    have HB8 : Hid (Below gb w (((w1.setCell ⟨gb, 1, none⟩ (.int .i64 (k : Int))).setCell ⟨gb, 2, none⟩ (.int .i64 (k : Int))).setCell ⟨gb, 3, none⟩ (.slice none 0 0))) := (((HB1.out.mono (by omega)).setCell (by exact Nat.le_refl _) _).setCell (by exact Nat.le_refl _) _).setCell (by exact Nat.le_refl _) _
    go_wp2_with fail
    go_end0
    exact ⟨rfl, HG.out, HB8.out⟩
end Go.Proofs.Ytpgecholpbpakab.Seek
