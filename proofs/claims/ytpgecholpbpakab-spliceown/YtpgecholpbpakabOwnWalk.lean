/- The walk of SpliceOwn. -/
import Derived.Test.YtpgecholpbpakabOwnAll
import Derived.BigQuiet
set_option linter.unusedVariables false
set_option linter.unusedSimpArgs false
namespace Go.Proofs.Ytpgecholpbpakab.Seek
open Go.RowKit Plain

theorem one_two : ups (btw [1] [2]) = [(0, 1, [2])] := by decide +kernel
set_option maxRecDepth 100000 in
set_option maxHeartbeats 16000000 in
theorem own_walk (v1 v2 v3 v4 : Value) (l m : List Int) (es fs : List Spl) (w : World) (h1 : Reads w v1 l) (h2 : Reads w v2 m) (h3 : ReadsE w v3 es) (h4 : ReadsE w v4 fs) (hl8 : l.length * 8 ≤ 140737488351232) (hm8 : m.length * 8 ≤ 140737488351232) (he40 : es.length * 40 ≤ 140737488351232) (hf40 : fs.length * 40 ≤ 140737488351232) :
    Calls Try.prog 3 #[v1, v2, v3, v4] w fun e w' => e = .returned (.bool true) ∧ Below w.heap.size w w' := by
  obtain ⟨a1, cap1, rfl⟩ := h1.shape
  obtain ⟨a2, cap2, rfl⟩ := h2.shape
  obtain ⟨a3, cap3, rfl⟩ := h3.shape
  have L_w : Hid (Reads w (.slice a1 l.length cap1) l) := h1
  have M_w : Hid (Reads w (.slice a2 m.length cap2) m) := h2
  have E_w : Hid (ReadsE w (.slice a3 es.length cap3) es) := h3
  have F_w : Hid (ReadsE w v4 fs) := h4
  have HLm : Hid (Mild l) := hl8
  have HMm : Hid (Mild m) := hm8
  have HOL : Hid ((appOf l es).length ≤ 4096) := appOf_len l es
  clear h1 h2 h3 h4
  go_enter Try.func3, Try.ntmps3
  go_wp2_with fail
  obtain ⟨w0, hw0⟩ : ∃ w0, w0 = ((w.alloc (.cells #[.int .i64 1] 3)).alloc (.cells #[.int .i64 2] 3)) := ⟨_, rfl⟩
  have hb0 : Below w.heap.size w w0 := by rw [hw0]; exact below2 _ _ _
  have SA_w0 : Hid (Reads w0 (.slice (some ⟨w.heap.size, 0, none⟩) 1 1) [1]) := by
    rw [hw0]
    exact (reads_lit w [1] _ rfl _ rfl _ rfl (by decide)).below (box_below _ _)
  have SB_w0 : Hid (Reads w0 (.slice (some ⟨w.heap.size + 1, 0, none⟩) 1 1) [2]) := by
    rw [hw0]
    exact reads_lit _ [2] _ (by rw [size_alloc]) _ rfl _ rfl (by decide)
  rw [← hw0]
  clear hw0
  have HB_w0 : Hid (Below w.heap.size w w0) := hb0
  have L_w0 : Hid (Reads w0 (.slice a1 l.length cap1) l) := L_w.out.below hb0
  have M_w0 : Hid (Reads w0 (.slice a2 m.length cap2) m) := M_w.out.below hb0
  have E_w0 : Hid (ReadsE w0 (.slice a3 es.length cap3) es) := E_w.out.below hb0
  have F_w0 : Hid (ReadsE w0 v4 fs) := F_w.out.below hb0
  clear L_w M_w E_w F_w
  clear hb0
  refine (between_ok _ _ [1] [2] w0 SA_w0.out SB_w0.out (by decide) (by decide)).mono ?_
  rw [one_two]
  rintro e w1 ⟨hb, v5, rfl, ho⟩
  obtain ⟨a5, c5, hv5⟩ := ho.reads.shape
  have hv5' : v5 = .slice a5 1 c5 := hv5
  clear hv5
  subst hv5'
  have HB_w1 : Hid (Below w.heap.size w w1) := below_trans HB_w0.out hb HB_w0.out.size
  have L_w1 : Hid (Reads w1 (.slice a1 l.length cap1) l) := L_w0.out.below hb
  have M_w1 : Hid (Reads w1 (.slice a2 m.length cap2) m) := M_w0.out.below hb
  have E_w1 : Hid (ReadsE w1 (.slice a3 es.length cap3) es) := E_w0.out.below hb
  have F_w1 : Hid (ReadsE w1 v4 fs) := F_w0.out.below hb
  have SA_w1 : Hid (Reads w1 (.slice (some ⟨w.heap.size, 0, none⟩) 1 1) [1]) := SA_w0.out.below hb
  have SB_w1 : Hid (Reads w1 (.slice (some ⟨w.heap.size + 1, 0, none⟩) 1 1) [2]) := SB_w0.out.below hb
  clear L_w0 M_w0 E_w0 F_w0 SA_w0 SB_w0 HB_w0
  clear ho hb
  clear SA_w1
  clear SB_w1
  go_wp2_with fail
  have hs1 : w.heap.size ≤ w1.heap.size := HB_w1.out.size
  refine (ample_any _ l w1 L_w1.out HLm.out).mono ?_
  rintro e w2 ⟨hb, gx, rfl, ho⟩
  have X_w2 : Hid (Ample w2 w1.heap.size gx l) := ho
  have HB_w2 : Hid (Below w.heap.size w w2) := below_trans HB_w1.out hb HB_w1.out.size
  have L_w2 : Hid (Reads w2 (.slice a1 l.length cap1) l) := L_w1.out.below hb
  have M_w2 : Hid (Reads w2 (.slice a2 m.length cap2) m) := M_w1.out.below hb
  have E_w2 : Hid (ReadsE w2 (.slice a3 es.length cap3) es) := E_w1.out.below hb
  have F_w2 : Hid (ReadsE w2 v4 fs) := F_w1.out.below hb
  clear L_w1 M_w1 E_w1 F_w1 HB_w1
  have hs2 : w.heap.size ≤ w2.heap.size := HB_w2.out.size
  have hgx2 : gx < w2.heap.size := X_w2.out.lt.2
  clear ho hb
  go_wp2_with fail
  refine (ample_any _ m w2 M_w2.out HMm.out).mono ?_
  rintro e w3 ⟨hb, gy, rfl, ho⟩
  have Y_w3 : Hid (Ample w3 w2.heap.size gy m) := ho
  have HB_w3 : Hid (Below w.heap.size w w3) := below_trans HB_w2.out hb HB_w2.out.size
  have L_w3 : Hid (Reads w3 (.slice a1 l.length cap1) l) := L_w2.out.below hb
  have M_w3 : Hid (Reads w3 (.slice a2 m.length cap2) m) := M_w2.out.below hb
  have E_w3 : Hid (ReadsE w3 (.slice a3 es.length cap3) es) := E_w2.out.below hb
  have F_w3 : Hid (ReadsE w3 v4 fs) := F_w2.out.below hb
  have X_w3 : Hid (Ample w3 w1.heap.size gx l) := X_w2.out.below hb
  clear L_w2 M_w2 E_w2 F_w2 X_w2 HB_w2
  clear ho hb
  go_wp2_with fail
  have hs3 : w.heap.size ≤ w3.heap.size := HB_w3.out.size
  have hxy : gx ≠ gy := by
    have h8 := X_w3.out.lt
    have h9 := Y_w3.out.lt
    have h7 := Y_w3.out
    have h6 := hgx2
    omega
  have hgx : w.heap.size ≤ gx ∧ gx < w3.heap.size := ⟨by have := X_w3.out.lt.1; omega, X_w3.out.lt.2⟩
  have hgy : w.heap.size ≤ gy ∧ gy < w3.heap.size := ⟨by have := Y_w3.out.lt.1; omega, Y_w3.out.lt.2⟩
  refine (cloneE_any _ es w3 E_w3.out he40).mono ?_
  rintro e w4 ⟨hb4, v6, vs0, rfl, hrow, hvs⟩
  obtain ⟨a6, c6, hv6⟩ := hrow.shape
  subst hv6
  have HMild : Hid (∀ j, j < es.length → Mild (es.getD j spl0).2.2) := fun j hj => (hvs j hj).1
  have HA0 : Hid (AmpRow w4 w3 w3.heap.size (.slice a6 es.length c6) es 0 vs0 (fun _ => 0)) := ⟨hrow, fun j hj => absurd hj (Nat.not_lt_zero _), fun j _ hj => (hvs j hj).2⟩
  have HB4 : Hid (Below w3.heap.size w3 w4) := hb4
  clear hb4 hrow hvs
  go_wp2_with fail
  go_loopw [53] (fun u53 wr => ∃ (k : Nat) (vs : List Value) (gs : Nat → Nat), u53 = .int .i64 (k : Int) ∧ k ≤ es.length ∧ Hid (AmpRow wr w3 w3.heap.size (.slice a6 es.length c6) es k vs gs) ∧ Hid (Below w3.heap.size w3 wr))
    (fun u53 _ => es.length - (intOf u53).toNat)
  case atStart => exact ⟨0, vs0, fun _ => 0, rfl, Nat.zero_le _, HA0.out, HB4.out⟩
  case round =>
    obtain ⟨k, vs, gs, rfl, hk, HA, Hb⟩ := hrel
    clear HA0 HB4
    by_cases hlt : k < es.length
    · obtain ⟨hr, hd, ho⟩ := HA.out
      obtain ⟨g, c, hv, hBg, hcell, hfz⟩ := hr.text k hlt
      cases hv
      obtain ⟨⟨at_, cat, hva⟩, hrd⟩ := ho k (Nat.le_refl _) hlt
      rw [hva] at hcell hrd
      have hI : (k : Int) < (es.length : Int) := by omega
      obtain ⟨tx, HTX⟩ : ∃ tx, Hid ((es.getD k spl0).2.2 = tx) := ⟨_, rfl⟩
      have HMk : Hid (Mild tx) := by rw [← HTX.out]; exact HMild.out k hlt
      rw [HTX.out] at hcell hrd
      have HRd : Hid (Reads wr (.slice at_ tx.length cat) tx) := Reads.below hrd Hb.out
      have HRow : Hid (RowOf wr w3.heap.size (.slice (some ⟨g, 0, none⟩) es.length c6) es vs) := hr
      clear hr hd ho hrd hva
      go_wp2_with fail
      refine (ample_any (.slice at_ tx.length cat) tx wr HRd.out HMk.out).mono ?_
      rintro e w5 ⟨hb5, g1, rfl, ha5⟩
      obtain ⟨g', c', hv', _, hcell5, hfz5⟩ := (HRow.out.below hb5).text k hlt
      cases hv'
      have HN : Hid (AmpRow (w5.setCell ⟨g, k * 3 + 2, none⟩ (.slice (some ⟨g1, 0, none⟩) tx.length (tx.length + 3))) w3 w3.heap.size (.slice (some ⟨g, 0, none⟩) es.length c6) es (k + 1) (vs.set k (.slice (some ⟨g1, 0, none⟩) tx.length (tx.length + 3))) (fun j => if j = k then g1 else gs j)) := by
        rw [← HTX.out] at ha5 ⊢
        exact HA.out.step hlt hb5 g1 Hb.out.size ha5
      have HB5 : Hid (Below w3.heap.size w3 (w5.setCell ⟨g, k * 3 + 2, none⟩ (.slice (some ⟨g1, 0, none⟩) tx.length (tx.length + 3)))) := (below_trans Hb.out hb5 Hb.out.size).setCell (by exact hBg) _
      generalize vs.getD k undef = old at *
      clear hcell hfz ha5 hb5 HA Hb HRow HRd HTX HMk
      go_wp2_with fail
      go_roundw
      case rel => exact ⟨k + 1, _, _, by go_num, by omega, HN.out, HB5.out⟩
      case measure => simp [intOf] <;> omega
    · obtain rfl : k = es.length := by omega
      obtain ⟨wA, hwA⟩ : ∃ wA, wA = wr := ⟨_, rfl⟩
      subst hwA
      have A_wA : Hid (AmpAll wA w3.heap.size (.slice a6 es.length c6) es vs gs) := ⟨HA.out.1, fun j hj => ⟨HMild.out j hj, (HA.out.2.1 j hj).1, (HA.out.2.1 j hj).2⟩⟩
      have hb := Hb.out
      have HB_wA : Hid (Below w.heap.size w wA) := below_trans HB_w3.out hb HB_w3.out.size
      have hK : w3.heap.size ≤ wA.heap.size := hb.size
      have L_wA : Hid (Reads wA (.slice a1 l.length cap1) l) := L_w3.out.below hb
      have M_wA : Hid (Reads wA (.slice a2 m.length cap2) m) := M_w3.out.below hb
      have E_wA : Hid (ReadsE wA (.slice a3 es.length cap3) es) := E_w3.out.below hb
      have F_wA : Hid (ReadsE wA v4 fs) := F_w3.out.below hb
      have X_wA : Hid (Ample wA w1.heap.size gx l) := X_w3.out.below hb
      have Y_wA : Hid (Ample wA w2.heap.size gy m) := Y_w3.out.below hb
      have W_wA : Hid (Waste wA w3.heap.size w3.heap.size wA.heap.size (.slice a6 es.length c6) es vs gs) := A_wA.out.waste
      clear hb HA Hb HMild L_w3 M_w3 E_w3 F_w3 X_w3 Y_w3 HB_w3
      go_wp2_with fail
      refine (apply_both _ _ l es wA X_wA.out.reads A_wA.out.reads).mono ?_
      rintro e w6 ⟨hb, v7, c7, rfl, ho⟩
      have O1_w6 : Hid (OwnI w6 wA.heap.size v7 (appOf l es)) := ho.less (Nat.le_refl _)
      have HB_w6 : Hid (Below w.heap.size w w6) := below_trans HB_wA.out hb HB_wA.out.size
      have L_w6 : Hid (Reads w6 (.slice a1 l.length cap1) l) := L_wA.out.below hb
      have M_w6 : Hid (Reads w6 (.slice a2 m.length cap2) m) := M_wA.out.below hb
      have E_w6 : Hid (ReadsE w6 (.slice a3 es.length cap3) es) := E_wA.out.below hb
      have F_w6 : Hid (ReadsE w6 v4 fs) := F_wA.out.below hb
      have X_w6 : Hid (Ample w6 w1.heap.size gx l) := X_wA.out.below hb
      have Y_w6 : Hid (Ample w6 w2.heap.size gy m) := Y_wA.out.below hb
      have A_w6 : Hid (AmpAll w6 w3.heap.size (.slice a6 es.length c6) es vs gs) := A_wA.out.below hb
      have W_w6 : Hid (Waste w6 w3.heap.size w3.heap.size wA.heap.size (.slice a6 es.length c6) es vs gs) := W_wA.out.below hb
      clear L_wA M_wA E_wA F_wA X_wA Y_wA A_wA W_wA HB_wA
      have hs_w6 : wA.heap.size ≤ w6.heap.size := hb.size
      clear ho hb
      go_wp2_with fail
      refine (undo_both _ _ l es w6 X_w6.out.reads A_w6.out.reads).mono ?_
      rintro e w7 ⟨hb, v8, c8, rfl, ho⟩
      have U1_w7 : Hid (OwnE w7 wA.heap.size v8 (undOf l es)) := ho.less (hs_w6)
      have HB_w7 : Hid (Below w.heap.size w w7) := below_trans HB_w6.out hb HB_w6.out.size
      have L_w7 : Hid (Reads w7 (.slice a1 l.length cap1) l) := L_w6.out.below hb
      have M_w7 : Hid (Reads w7 (.slice a2 m.length cap2) m) := M_w6.out.below hb
      have E_w7 : Hid (ReadsE w7 (.slice a3 es.length cap3) es) := E_w6.out.below hb
      have F_w7 : Hid (ReadsE w7 v4 fs) := F_w6.out.below hb
      have X_w7 : Hid (Ample w7 w1.heap.size gx l) := X_w6.out.below hb
      have Y_w7 : Hid (Ample w7 w2.heap.size gy m) := Y_w6.out.below hb
      have A_w7 : Hid (AmpAll w7 w3.heap.size (.slice a6 es.length c6) es vs gs) := A_w6.out.below hb
      have W_w7 : Hid (Waste w7 w3.heap.size w3.heap.size wA.heap.size (.slice a6 es.length c6) es vs gs) := W_w6.out.below hb
      have O1_w7 : Hid (OwnI w7 wA.heap.size v7 (appOf l es)) := O1_w6.out.below hb
      clear L_w6 M_w6 E_w6 F_w6 X_w6 Y_w6 A_w6 W_w6 O1_w6 HB_w6
      have hs_w7 : wA.heap.size ≤ w7.heap.size := Nat.le_trans hs_w6 hb.size
      clear ho hb
      go_wp2_with fail
      refine (between_both _ _ l m w7 X_w7.out.reads Y_w7.out.reads).mono ?_
      rintro e w8 ⟨hb, v9, c9, rfl, ho⟩
      have B1_w8 : Hid (OwnE w8 wA.heap.size v9 (btwOf l m)) := ho.less (hs_w7)
      have HB_w8 : Hid (Below w.heap.size w w8) := below_trans HB_w7.out hb HB_w7.out.size
      have L_w8 : Hid (Reads w8 (.slice a1 l.length cap1) l) := L_w7.out.below hb
      have M_w8 : Hid (Reads w8 (.slice a2 m.length cap2) m) := M_w7.out.below hb
      have E_w8 : Hid (ReadsE w8 (.slice a3 es.length cap3) es) := E_w7.out.below hb
      have F_w8 : Hid (ReadsE w8 v4 fs) := F_w7.out.below hb
      have X_w8 : Hid (Ample w8 w1.heap.size gx l) := X_w7.out.below hb
      have Y_w8 : Hid (Ample w8 w2.heap.size gy m) := Y_w7.out.below hb
      have A_w8 : Hid (AmpAll w8 w3.heap.size (.slice a6 es.length c6) es vs gs) := A_w7.out.below hb
      have W_w8 : Hid (Waste w8 w3.heap.size w3.heap.size wA.heap.size (.slice a6 es.length c6) es vs gs) := W_w7.out.below hb
      have O1_w8 : Hid (OwnI w8 wA.heap.size v7 (appOf l es)) := O1_w7.out.below hb
      have U1_w8 : Hid (OwnE w8 wA.heap.size v8 (undOf l es)) := U1_w7.out.below hb
      clear L_w7 M_w7 E_w7 F_w7 X_w7 Y_w7 A_w7 W_w7 O1_w7 U1_w7 HB_w7
      have hs_w8 : wA.heap.size ≤ w8.heap.size := Nat.le_trans hs_w7 hb.size
      clear ho hb
      go_wp2_with fail
      refine (over_both _ _ l.length es fs true w8 A_w8.out.reads F_w8.out).mono ?_
      rintro e w9 ⟨hb, v10, c10, rfl, ho⟩
      have C1_w9 : Hid (OwnE w9 wA.heap.size v10 (ovrOf l.length es fs true)) := ho.less (hs_w8)
      have HB_w9 : Hid (Below w.heap.size w w9) := below_trans HB_w8.out hb HB_w8.out.size
      have L_w9 : Hid (Reads w9 (.slice a1 l.length cap1) l) := L_w8.out.below hb
      have M_w9 : Hid (Reads w9 (.slice a2 m.length cap2) m) := M_w8.out.below hb
      have E_w9 : Hid (ReadsE w9 (.slice a3 es.length cap3) es) := E_w8.out.below hb
      have F_w9 : Hid (ReadsE w9 v4 fs) := F_w8.out.below hb
      have X_w9 : Hid (Ample w9 w1.heap.size gx l) := X_w8.out.below hb
      have Y_w9 : Hid (Ample w9 w2.heap.size gy m) := Y_w8.out.below hb
      have A_w9 : Hid (AmpAll w9 w3.heap.size (.slice a6 es.length c6) es vs gs) := A_w8.out.below hb
      have W_w9 : Hid (Waste w9 w3.heap.size w3.heap.size wA.heap.size (.slice a6 es.length c6) es vs gs) := W_w8.out.below hb
      have O1_w9 : Hid (OwnI w9 wA.heap.size v7 (appOf l es)) := O1_w8.out.below hb
      have U1_w9 : Hid (OwnE w9 wA.heap.size v8 (undOf l es)) := U1_w8.out.below hb
      have B1_w9 : Hid (OwnE w9 wA.heap.size v9 (btwOf l m)) := B1_w8.out.below hb
      clear L_w8 M_w8 E_w8 F_w8 X_w8 Y_w8 A_w8 W_w8 O1_w8 U1_w8 B1_w8 HB_w8
      have hs_w9 : wA.heap.size ≤ w9.heap.size := Nat.le_trans hs_w8 hb.size
      clear ho hb
      go_wp2_with fail
      refine (stays_any gx _ l _ w9 X_w9.out L_w9.out HLm.out).mono ?_
      rintro e w10 ⟨rfl, q, hq⟩
      have hb : Below w9.heap.size w9 w10 := by rw [hq]; exact below_drewN (Below.refl _ _) q
      have HB_w10 : Hid (Below w.heap.size w w10) := below_trans HB_w9.out hb HB_w9.out.size
      have L_w10 : Hid (Reads w10 (.slice a1 l.length cap1) l) := L_w9.out.below hb
      have M_w10 : Hid (Reads w10 (.slice a2 m.length cap2) m) := M_w9.out.below hb
      have E_w10 : Hid (ReadsE w10 (.slice a3 es.length cap3) es) := E_w9.out.below hb
      have F_w10 : Hid (ReadsE w10 v4 fs) := F_w9.out.below hb
      have X_w10 : Hid (Ample w10 w1.heap.size gx l) := X_w9.out.below hb
      have Y_w10 : Hid (Ample w10 w2.heap.size gy m) := Y_w9.out.below hb
      have A_w10 : Hid (AmpAll w10 w3.heap.size (.slice a6 es.length c6) es vs gs) := A_w9.out.below hb
      have W_w10 : Hid (Waste w10 w3.heap.size w3.heap.size wA.heap.size (.slice a6 es.length c6) es vs gs) := W_w9.out.below hb
      have O1_w10 : Hid (OwnI w10 wA.heap.size v7 (appOf l es)) := O1_w9.out.below hb
      have U1_w10 : Hid (OwnE w10 wA.heap.size v8 (undOf l es)) := U1_w9.out.below hb
      have B1_w10 : Hid (OwnE w10 wA.heap.size v9 (btwOf l m)) := B1_w9.out.below hb
      have C1_w10 : Hid (OwnE w10 wA.heap.size v10 (ovrOf l.length es fs true)) := C1_w9.out.below hb
      clear L_w9 M_w9 E_w9 F_w9 X_w9 Y_w9 A_w9 W_w9 O1_w9 U1_w9 B1_w9 C1_w9 HB_w9
      have hs_w10 : wA.heap.size ≤ w10.heap.size := Nat.le_trans hs_w9 hb.size
      clear hb hq q
      go_wp2_with fail
      refine (stays_any gy _ m _ w10 Y_w10.out M_w10.out HMm.out).mono ?_
      rintro e w11 ⟨rfl, q, hq⟩
      have hb : Below w10.heap.size w10 w11 := by rw [hq]; exact below_drewN (Below.refl _ _) q
      have HB_w11 : Hid (Below w.heap.size w w11) := below_trans HB_w10.out hb HB_w10.out.size
      have L_w11 : Hid (Reads w11 (.slice a1 l.length cap1) l) := L_w10.out.below hb
      have M_w11 : Hid (Reads w11 (.slice a2 m.length cap2) m) := M_w10.out.below hb
      have E_w11 : Hid (ReadsE w11 (.slice a3 es.length cap3) es) := E_w10.out.below hb
      have F_w11 : Hid (ReadsE w11 v4 fs) := F_w10.out.below hb
      have X_w11 : Hid (Ample w11 w1.heap.size gx l) := X_w10.out.below hb
      have Y_w11 : Hid (Ample w11 w2.heap.size gy m) := Y_w10.out.below hb
      have A_w11 : Hid (AmpAll w11 w3.heap.size (.slice a6 es.length c6) es vs gs) := A_w10.out.below hb
      have W_w11 : Hid (Waste w11 w3.heap.size w3.heap.size wA.heap.size (.slice a6 es.length c6) es vs gs) := W_w10.out.below hb
      have O1_w11 : Hid (OwnI w11 wA.heap.size v7 (appOf l es)) := O1_w10.out.below hb
      have U1_w11 : Hid (OwnE w11 wA.heap.size v8 (undOf l es)) := U1_w10.out.below hb
      have B1_w11 : Hid (OwnE w11 wA.heap.size v9 (btwOf l m)) := B1_w10.out.below hb
      have C1_w11 : Hid (OwnE w11 wA.heap.size v10 (ovrOf l.length es fs true)) := C1_w10.out.below hb
      clear L_w10 M_w10 E_w10 F_w10 X_w10 Y_w10 A_w10 W_w10 O1_w10 U1_w10 B1_w10 C1_w10 HB_w10
      have hs_w11 : wA.heap.size ≤ w11.heap.size := Nat.le_trans hs_w10 hb.size
      clear hb hq q
      go_wp2_with fail
      go_loopw [105] (fun u105 wr => ∃ (k : Nat), u105 = .int .i64 (k : Int) ∧ k ≤ es.length ∧ Hid (Drawn w11 wr))
        (fun u105 _ => es.length - (intOf u105).toNat)
      case atStart => exact ⟨0, rfl, Nat.zero_le _, ⟨0, rfl⟩⟩
      case round =>
        obtain ⟨k, rfl, hk, HD⟩ := hrel
        by_cases hlt : k < es.length
        · have hbl := HD.out.below
          obtain ⟨g, c, hv, _, hcell, _⟩ := (A_w11.out.below hbl).1.text k hlt
          cases hv
          obtain ⟨hmk, hvk, hak⟩ := (A_w11.out.below hbl).2 k hlt
          rw [hvk] at hcell
          obtain ⟨be, oe, hae, _, hsp⟩ := (E_w11.out.below hbl).each k hlt
          subst hae
          obtain ⟨_, _, _, ae, ce, hec, her⟩ := hsp
          have hI : (k : Int) < (es.length : Int) := by omega
          obtain ⟨tx, HTX⟩ : ∃ tx, Hid ((es.getD k spl0).2.2 = tx) := ⟨_, rfl⟩
          rw [HTX.out] at hcell hmk hak hec her
          have HC : Hid (∀ q, Calls Try.prog 10 #[.slice (some ⟨gs k, 0, none⟩) tx.length (tx.length + 3), .slice ae tx.length ce, .int .i64 77] (wr.drewN q) fun e w' => e = .returned (.bool true) ∧ ∃ q', w' = (wr.drewN q).drewN q') := fun q => stays_any (gs k) _ tx w3.heap.size (wr.drewN q) hak her hmk
          clear hmk hvk hak her hbl HTX
          go_wp2_with fail
          go_quiet ((go_at_call 10; exact Calls.quiet_of (HC.out _)))
          go_wp2_with fail
          go_roundw
          case rel => exact ⟨k + 1, by go_num, by omega, HD.out.more _⟩
          case measure => simp [intOf] <;> omega
        · obtain rfl : k = es.length := by omega
          obtain ⟨wD, hwD⟩ : ∃ wD, wD = wr := ⟨_, rfl⟩
          subst hwD
          have hb := HD.out.below
          have HB_wD : Hid (Below w.heap.size w wD) := below_trans HB_w11.out hb HB_w11.out.size
          have L_wD : Hid (Reads wD (.slice a1 l.length cap1) l) := L_w11.out.below hb
          have M_wD : Hid (Reads wD (.slice a2 m.length cap2) m) := M_w11.out.below hb
          have E_wD : Hid (ReadsE wD (.slice a3 es.length cap3) es) := E_w11.out.below hb
          have F_wD : Hid (ReadsE wD v4 fs) := F_w11.out.below hb
          have X_wD : Hid (Ample wD w1.heap.size gx l) := X_w11.out.below hb
          have Y_wD : Hid (Ample wD w2.heap.size gy m) := Y_w11.out.below hb
          have A_wD : Hid (AmpAll wD w3.heap.size (.slice a6 es.length c6) es vs gs) := A_w11.out.below hb
          have W_wD : Hid (Waste wD w3.heap.size w3.heap.size wA.heap.size (.slice a6 es.length c6) es vs gs) := W_w11.out.below hb
          have O1_wD : Hid (OwnI wD wA.heap.size v7 (appOf l es)) := O1_w11.out.below hb
          have U1_wD : Hid (OwnE wD wA.heap.size v8 (undOf l es)) := U1_w11.out.below hb
          have B1_wD : Hid (OwnE wD wA.heap.size v9 (btwOf l m)) := B1_w11.out.below hb
          have C1_wD : Hid (OwnE wD wA.heap.size v10 (ovrOf l.length es fs true)) := C1_w11.out.below hb
          have hs_wD : wA.heap.size ≤ wD.heap.size := Nat.le_trans hs_w11 hb.size
          clear hb HD L_w11 M_w11 E_w11 F_w11 X_w11 Y_w11 A_w11 W_w11 O1_w11 U1_w11 B1_w11 C1_w11 HB_w11
          go_wp2_with fail
          refine (clone_any v7 (appOf l es) wD O1_wD.out.reads (by have := HOL.out; omega)).mono ?_
          rintro e w12 ⟨hb, v11, rfl, ho⟩
          have O2_w12 : Hid (Own w12 wA.heap.size v11 (appOf l es)) := ho.less (hs_wD)
          have HB_w12 : Hid (Below w.heap.size w w12) := below_trans HB_wD.out hb HB_wD.out.size
          have L_w12 : Hid (Reads w12 (.slice a1 l.length cap1) l) := L_wD.out.below hb
          have M_w12 : Hid (Reads w12 (.slice a2 m.length cap2) m) := M_wD.out.below hb
          have E_w12 : Hid (ReadsE w12 (.slice a3 es.length cap3) es) := E_wD.out.below hb
          have F_w12 : Hid (ReadsE w12 v4 fs) := F_wD.out.below hb
          have X_w12 : Hid (Ample w12 w1.heap.size gx l) := X_wD.out.below hb
          have Y_w12 : Hid (Ample w12 w2.heap.size gy m) := Y_wD.out.below hb
          have A_w12 : Hid (AmpAll w12 w3.heap.size (.slice a6 es.length c6) es vs gs) := A_wD.out.below hb
          have W_w12 : Hid (Waste w12 w3.heap.size w3.heap.size wA.heap.size (.slice a6 es.length c6) es vs gs) := W_wD.out.below hb
          have O1_w12 : Hid (OwnI w12 wA.heap.size v7 (appOf l es)) := O1_wD.out.below hb
          have U1_w12 : Hid (OwnE w12 wA.heap.size v8 (undOf l es)) := U1_wD.out.below hb
          have B1_w12 : Hid (OwnE w12 wA.heap.size v9 (btwOf l m)) := B1_wD.out.below hb
          have C1_w12 : Hid (OwnE w12 wA.heap.size v10 (ovrOf l.length es fs true)) := C1_wD.out.below hb
          clear L_wD M_wD E_wD F_wD X_wD Y_wD A_wD W_wD O1_wD U1_wD B1_wD C1_wD HB_wD
          have hs_w12 : wA.heap.size ≤ w12.heap.size := Nat.le_trans hs_wD hb.size
          clear ho hb
          go_wp2_with fail
          refine (undo_both _ _ l es w12 X_w12.out.reads A_w12.out.reads).mono ?_
          rintro e w13 ⟨hb, v12, c12, rfl, ho⟩
          have U2_w13 : Hid (OwnE w13 wA.heap.size v12 (undOf l es)) := ho.less (hs_w12)
          have HB_w13 : Hid (Below w.heap.size w w13) := below_trans HB_w12.out hb HB_w12.out.size
          have L_w13 : Hid (Reads w13 (.slice a1 l.length cap1) l) := L_w12.out.below hb
          have M_w13 : Hid (Reads w13 (.slice a2 m.length cap2) m) := M_w12.out.below hb
          have E_w13 : Hid (ReadsE w13 (.slice a3 es.length cap3) es) := E_w12.out.below hb
          have F_w13 : Hid (ReadsE w13 v4 fs) := F_w12.out.below hb
          have X_w13 : Hid (Ample w13 w1.heap.size gx l) := X_w12.out.below hb
          have Y_w13 : Hid (Ample w13 w2.heap.size gy m) := Y_w12.out.below hb
          have A_w13 : Hid (AmpAll w13 w3.heap.size (.slice a6 es.length c6) es vs gs) := A_w12.out.below hb
          have W_w13 : Hid (Waste w13 w3.heap.size w3.heap.size wA.heap.size (.slice a6 es.length c6) es vs gs) := W_w12.out.below hb
          have O1_w13 : Hid (OwnI w13 wA.heap.size v7 (appOf l es)) := O1_w12.out.below hb
          have U1_w13 : Hid (OwnE w13 wA.heap.size v8 (undOf l es)) := U1_w12.out.below hb
          have B1_w13 : Hid (OwnE w13 wA.heap.size v9 (btwOf l m)) := B1_w12.out.below hb
          have C1_w13 : Hid (OwnE w13 wA.heap.size v10 (ovrOf l.length es fs true)) := C1_w12.out.below hb
          have O2_w13 : Hid (Own w13 wA.heap.size v11 (appOf l es)) := O2_w12.out.below hb
          clear L_w12 M_w12 E_w12 F_w12 X_w12 Y_w12 A_w12 W_w12 O1_w12 U1_w12 B1_w12 C1_w12 O2_w12 HB_w12
          have hs_w13 : wA.heap.size ≤ w13.heap.size := Nat.le_trans hs_w12 hb.size
          clear ho hb
          go_wp2_with fail
          refine (between_both _ _ l m w13 X_w13.out.reads Y_w13.out.reads).mono ?_
          rintro e w14 ⟨hb, v13, c13, rfl, ho⟩
          have B2_w14 : Hid (OwnE w14 wA.heap.size v13 (btwOf l m)) := ho.less (hs_w13)
          have HB_w14 : Hid (Below w.heap.size w w14) := below_trans HB_w13.out hb HB_w13.out.size
          have L_w14 : Hid (Reads w14 (.slice a1 l.length cap1) l) := L_w13.out.below hb
          have M_w14 : Hid (Reads w14 (.slice a2 m.length cap2) m) := M_w13.out.below hb
          have E_w14 : Hid (ReadsE w14 (.slice a3 es.length cap3) es) := E_w13.out.below hb
          have F_w14 : Hid (ReadsE w14 v4 fs) := F_w13.out.below hb
          have X_w14 : Hid (Ample w14 w1.heap.size gx l) := X_w13.out.below hb
          have Y_w14 : Hid (Ample w14 w2.heap.size gy m) := Y_w13.out.below hb
          have A_w14 : Hid (AmpAll w14 w3.heap.size (.slice a6 es.length c6) es vs gs) := A_w13.out.below hb
          have W_w14 : Hid (Waste w14 w3.heap.size w3.heap.size wA.heap.size (.slice a6 es.length c6) es vs gs) := W_w13.out.below hb
          have O1_w14 : Hid (OwnI w14 wA.heap.size v7 (appOf l es)) := O1_w13.out.below hb
          have U1_w14 : Hid (OwnE w14 wA.heap.size v8 (undOf l es)) := U1_w13.out.below hb
          have B1_w14 : Hid (OwnE w14 wA.heap.size v9 (btwOf l m)) := B1_w13.out.below hb
          have C1_w14 : Hid (OwnE w14 wA.heap.size v10 (ovrOf l.length es fs true)) := C1_w13.out.below hb
          have O2_w14 : Hid (Own w14 wA.heap.size v11 (appOf l es)) := O2_w13.out.below hb
          have U2_w14 : Hid (OwnE w14 wA.heap.size v12 (undOf l es)) := U2_w13.out.below hb
          clear L_w13 M_w13 E_w13 F_w13 X_w13 Y_w13 A_w13 W_w13 O1_w13 U1_w13 B1_w13 C1_w13 O2_w13 U2_w13 HB_w13
          have hs_w14 : wA.heap.size ≤ w14.heap.size := Nat.le_trans hs_w13 hb.size
          clear ho hb
          go_wp2_with fail
          refine (over_both _ _ l.length es fs true w14 A_w14.out.reads F_w14.out).mono ?_
          rintro e w15 ⟨hb, v14, c14, rfl, ho⟩
          have C2_w15 : Hid (OwnE w15 wA.heap.size v14 (ovrOf l.length es fs true)) := ho.less (hs_w14)
          have HB_w15 : Hid (Below w.heap.size w w15) := below_trans HB_w14.out hb HB_w14.out.size
          have L_w15 : Hid (Reads w15 (.slice a1 l.length cap1) l) := L_w14.out.below hb
          have M_w15 : Hid (Reads w15 (.slice a2 m.length cap2) m) := M_w14.out.below hb
          have E_w15 : Hid (ReadsE w15 (.slice a3 es.length cap3) es) := E_w14.out.below hb
          have F_w15 : Hid (ReadsE w15 v4 fs) := F_w14.out.below hb
          have X_w15 : Hid (Ample w15 w1.heap.size gx l) := X_w14.out.below hb
          have Y_w15 : Hid (Ample w15 w2.heap.size gy m) := Y_w14.out.below hb
          have A_w15 : Hid (AmpAll w15 w3.heap.size (.slice a6 es.length c6) es vs gs) := A_w14.out.below hb
          have W_w15 : Hid (Waste w15 w3.heap.size w3.heap.size wA.heap.size (.slice a6 es.length c6) es vs gs) := W_w14.out.below hb
          have O1_w15 : Hid (OwnI w15 wA.heap.size v7 (appOf l es)) := O1_w14.out.below hb
          have U1_w15 : Hid (OwnE w15 wA.heap.size v8 (undOf l es)) := U1_w14.out.below hb
          have B1_w15 : Hid (OwnE w15 wA.heap.size v9 (btwOf l m)) := B1_w14.out.below hb
          have C1_w15 : Hid (OwnE w15 wA.heap.size v10 (ovrOf l.length es fs true)) := C1_w14.out.below hb
          have O2_w15 : Hid (Own w15 wA.heap.size v11 (appOf l es)) := O2_w14.out.below hb
          have U2_w15 : Hid (OwnE w15 wA.heap.size v12 (undOf l es)) := U2_w14.out.below hb
          have B2_w15 : Hid (OwnE w15 wA.heap.size v13 (btwOf l m)) := B2_w14.out.below hb
          clear L_w14 M_w14 E_w14 F_w14 X_w14 Y_w14 A_w14 W_w14 O1_w14 U1_w14 B1_w14 C1_w14 O2_w14 U2_w14 B2_w14 HB_w14
          have hs_w15 : wA.heap.size ≤ w15.heap.size := Nat.le_trans hs_w14 hb.size
          clear ho hb
          have H8 : Hid (Eight w15 wA.heap.size v7 v11 v8 v12 v9 v13 v10 v14 (appOf l es) (undOf l es) (btwOf l m) (ovrOf l.length es fs true)) := ⟨O1_w15.out, O2_w15.out, U1_w15.out, U2_w15.out, B1_w15.out, B2_w15.out, C1_w15.out, C2_w15.out⟩
          have IX : Hid (IntBlock w15 gx (l.length + 3)) := X_w15.out.block
          have IY : Hid (IntBlock w15 gy (m.length + 3)) := Y_w15.out.block
          clear O1_w15 O2_w15 U1_w15 U2_w15 B1_w15 B2_w15 C1_w15 C2_w15 X_w15 Y_w15 A_w15 L_w15 M_w15 E_w15 F_w15
          go_wp2_with fail
          refine (spoil_any gx l.length (l.length + 3) w15 IX.out (by omega) (by omega)).mono ?_
          rintro e x1 ⟨rfl, hg1, hi1⟩
          have H8_1 : Hid (Eight x1 wA.heap.size v7 v11 v8 v12 v9 v13 v10 v14 (appOf l es) (undOf l es) (btwOf l m) (ovrOf l.length es fs true)) := H8.out.spoilt hg1 (by omega)
          have W_1 : Hid (Waste x1 w3.heap.size w3.heap.size wA.heap.size (.slice a6 es.length c6) es vs gs) := W_w15.out.spoilt IX.out hg1 hi1
          have IY_1 : Hid (IntBlock x1 gy (m.length + 3)) := IY.out.grown hg1 (fun e => hxy (Option.some.inj e))
          have HB_1 : Hid (Below w.heap.size w x1) := HB_w15.out.grown hg1 HB_w15.out.size (fun j hj => by cases hj; exact hgx.1)
          clear hg1 hi1 H8 W_w15 IX IY HB_w15
          go_wp2_with fail
          refine (spoil_any gy m.length (m.length + 3) x1 IY_1.out (by omega) (by omega)).mono ?_
          rintro e x2 ⟨rfl, hg2, hi2⟩
          have H8_2 : Hid (Eight x2 wA.heap.size v7 v11 v8 v12 v9 v13 v10 v14 (appOf l es) (undOf l es) (btwOf l m) (ovrOf l.length es fs true)) := H8_1.out.spoilt hg2 (by omega)
          have W_2 : Hid (Waste x2 w3.heap.size w3.heap.size wA.heap.size (.slice a6 es.length c6) es vs gs) := W_1.out.spoilt IY_1.out hg2 hi2
          have HB_2 : Hid (Below w.heap.size w x2) := HB_1.out.grown hg2 HB_1.out.size (fun j hj => by cases hj; exact hgy.1)
          clear hg2 hi2 H8_1 W_1 IY_1 HB_1
          go_wp2_with fail
          go_loopw [149] (fun u149 wr => ∃ (k : Nat), u149 = .int .i64 (k : Int) ∧ k ≤ es.length ∧ Hid (Eight wr wA.heap.size v7 v11 v8 v12 v9 v13 v10 v14 (appOf l es) (undOf l es) (btwOf l m) (ovrOf l.length es fs true)) ∧ Hid (Waste wr w3.heap.size w3.heap.size wA.heap.size (.slice a6 es.length c6) es vs gs) ∧ Hid (Below w.heap.size w wr))
            (fun u149 _ => es.length - (intOf u149).toNat)
          case atStart => exact ⟨0, rfl, Nat.zero_le _, H8_2.out, W_2.out, HB_2.out⟩
          case round =>
            obtain ⟨k, rfl, hk, H8r, Wr, HBr⟩ := hrel
            clear H8_2 W_2 HB_2
            by_cases hlt : k < es.length
            · obtain ⟨g, c, hv, _, hcell, _⟩ := Wr.out.1.text k hlt
              cases hv
              obtain ⟨hmk, hvk, hik, hlo, hhi⟩ := Wr.out.2 k hlt
              rw [hvk] at hcell
              obtain ⟨tl, HTL⟩ : ∃ tl, Hid ((es.getD k spl0).2.2.length = tl) := ⟨_, rfl⟩
              unfold Mild at hmk
              rw [HTL.out] at hcell hik hmk
              have HI : Hid (IntBlock wr (gs k) (tl + 3)) := hik
              have hI : (k : Int) < (es.length : Int) := by omega
              clear hvk hik HTL
              go_wp2_with fail
              refine (spoil_any (gs k) tl (tl + 3) wr HI.out (by omega) (by omega)).mono ?_
              rintro e x3 ⟨rfl, hg3, hi3⟩
              have H8_3 : Hid (Eight x3 wA.heap.size v7 v11 v8 v12 v9 v13 v10 v14 (appOf l es) (undOf l es) (btwOf l m) (ovrOf l.length es fs true)) := H8r.out.spoilt hg3 (by omega)
              have W_3 : Hid (Waste x3 w3.heap.size w3.heap.size wA.heap.size (.slice (some ⟨g, 0, none⟩) es.length c6) es vs gs) := Wr.out.spoilt HI.out hg3 hi3
              have HB_3 : Hid (Below w.heap.size w x3) := HBr.out.grown hg3 HBr.out.size (fun j hj => by cases hj; omega)
              clear hg3 hi3 H8r Wr HBr HI hcell
              go_wp2_with fail
              go_roundw
              case rel => exact ⟨k + 1, by go_num, by omega, H8_3.out, W_3.out, HB_3.out⟩
              case measure => simp [intOf] <;> omega
            · obtain rfl : k = es.length := by omega
              obtain ⟨y0, hy0⟩ : ∃ y0, y0 = wr := ⟨_, rfl⟩
              subst hy0
              clear Wr
              have hlo := HOL.out
              go_wp2_with fail
              refine (equal_any _ _ _ _ y0 H8r.out.o1.reads H8r.out.o2.reads (by unfold maxLen; omega) (by unfold maxLen; omega)).mono ?_
              rw [beq_self_eq_true]
              rintro e y1 ⟨rfl, q, hq⟩
              have hb1 : Below y0.heap.size y0 y1 := by rw [hq]; exact below_drewN (Below.refl _ _) q
              have H8_1 : Hid (Eight y1 wA.heap.size v7 v11 v8 v12 v9 v13 v10 v14 (appOf l es) (undOf l es) (btwOf l m) (ovrOf l.length es fs true)) := H8r.out.below hb1
              have HB_1 : Hid (Below w.heap.size w y1) := below_trans HBr.out hb1 HBr.out.size
              clear hb1 hq q H8r HBr
              go_wp2_with fail
              refine (same_any _ _ _ _ y1 H8_1.out.u1.reads H8_1.out.u2.reads).mono ?_
              rw [decide_eq_true rfl]
              rintro e y2 ⟨rfl, hb2⟩
              have H8_2 : Hid (Eight y2 wA.heap.size v7 v11 v8 v12 v9 v13 v10 v14 (appOf l es) (undOf l es) (btwOf l m) (ovrOf l.length es fs true)) := H8_1.out.below hb2
              have HB_2 : Hid (Below w.heap.size w y2) := below_trans HB_1.out hb2 HB_1.out.size
              clear hb2 H8_1 HB_1
              go_wp2_with fail
              refine (same_any _ _ _ _ y2 H8_2.out.b1.reads H8_2.out.b2.reads).mono ?_
              rw [decide_eq_true rfl]
              rintro e y3 ⟨rfl, hb3⟩
              have H8_3 : Hid (Eight y3 wA.heap.size v7 v11 v8 v12 v9 v13 v10 v14 (appOf l es) (undOf l es) (btwOf l m) (ovrOf l.length es fs true)) := H8_2.out.below hb3
              have HB_3 : Hid (Below w.heap.size w y3) := below_trans HB_2.out hb3 HB_2.out.size
              clear hb3 H8_2 HB_2
              go_wp2_with fail
              refine (same_any _ _ _ _ y3 H8_3.out.c1.reads H8_3.out.c2.reads).mono ?_
              rw [decide_eq_true rfl]
              rintro e y4 ⟨rfl, hb4⟩
              have HB_4 : Hid (Below w.heap.size w y4) := below_trans HB_3.out hb4 HB_3.out.size
              clear hb4 H8_3 HB_3
              go_wp2_with fail
              go_ret
              exact ⟨rfl, HB_4.out⟩
end Go.Proofs.Ytpgecholpbpakab.Seek
