/- The walk of RegOwn. -/
import Derived.Test.YtobmggijdmdidaaOwnParts
set_option linter.unusedVariables false
set_option linter.unusedSimpArgs false
namespace Go.Proofs.Ytobmggijdmdidaa.Seek
open Go.RowKit

set_option maxRecDepth 100000 in
set_option maxHeartbeats 8000000 in
theorem own_walk (v : Value) (x : List Int) (name : Int) (vs : List Value) (ts : List (List Int)) (w : World) (hv : Reads w v x) (hx : x.length * 8 ≤ 140737488351232) (h : ReadsR w vs ts) :
    Calls Try.prog 5 #[arr vs, .int .i64 name, v] w fun e w' => e = .returned (.bool true) ∧ Below w.heap.size w w' := by
  obtain ⟨xa, xc, rfl⟩ := hv.shape
  have hl := h.1
  have HLT : Hid (ts.length = 27) := h.2.1
  have HMT : Hid (∀ i, i < 27 → Mild (ts.getD i [])) := fun i hi => (h.2.2 i hi).2
  obtain ⟨e, tz, hP⟩ := putd_or ts name x
  obtain ⟨f, t, hG⟩ := got_or ts name
  have HP : Hid (Putd ts name x e tz) := hP
  have HG : Hid (Got ts name f t) := hG
  have HMt : Hid (Mild t) := hG.mild h
  have HMX : Hid (Mild x) := hx
  have X_w : Hid (Reads w (.slice xa x.length xc) x) := hv
  have T_w : Hid (ReadsR w vs ts) := h
  clear h hv hP hG hx
  have HP0 : Hid (Putd nilT 97 [7] 0 ((nilT.set 1 [7]).set 0 [7])) := .inr ⟨1, false, .inr (.inl ⟨by decide, by decide, by decide, rfl⟩), .inr ⟨by decide, rfl, rfl⟩⟩
  go_enter Try.func5, Try.ntmps5
  go_wp2_with (refine box24 rfl _ rfl vs rfl hl ?_)
  intro w1 ha hb
  have HB_w1 : Hid (Below w.heap.size w w1) := hb
  have X_w1 : Hid (Reads w1 (.slice xa x.length xc) x) := X_w.out.below hb
  have T_w1 : Hid (ReadsR w1 vs ts) := T_w.out.below hb
  clear X_w T_w
  have V_w1 : Hid (HoldsA w1 w.heap.size vs) := ha
  clear ha hb
  go_wp2_with (first | (refine build24 rfl rfl ?_))
  obtain ⟨w2, hw2⟩ : ∃ w2, w2 = w1.alloc (.cells #[.int .i64 7] 3) := ⟨_, rfl⟩
  have hn : Reads w2 (.slice (some ⟨w1.heap.size, 0, none⟩) 1 1) [7] := by rw [hw2]; exact reads_new w1 [7] (by decide)
  rw [← hw2]
  have hbn : Below w1.heap.size w1 w2 := by rw [hw2]; exact box_below _ _
  have S_w2 : Hid (Reads w2 (.slice (some ⟨w1.heap.size, 0, none⟩) 1 1) [7]) := hn
  clear hw2 hn
  have HB_w2 : Hid (Below w.heap.size w w2) := below_trans HB_w1.out hbn HB_w1.out.size
  have X_w2 : Hid (Reads w2 (.slice xa x.length xc) x) := X_w1.out.below hbn
  have T_w2 : Hid (ReadsR w2 vs ts) := T_w1.out.below hbn
  have V_w2 : Hid (HoldsA w2 w.heap.size vs) := V_w1.out.below hbn
  clear X_w1 T_w1 V_w1 HB_w1
  clear hbn
  refine (put_any nils nilT 97 _ [7] 0 _ w2 (readsR_nil _) S_w2.out (by show ([7] : List Int).length * 8 ≤ _; decide) HP0.out).mono ?_
  rintro e w3 ⟨hb, l0, rfl, ho⟩
  have L0_w3 : Hid (ReadsR w3 l0 ((nilT.set 1 [7]).set 0 [7])) := ho.1
  have HB_w3 : Hid (Below w.heap.size w w3) := below_trans HB_w2.out hb HB_w2.out.size
  have X_w3 : Hid (Reads w3 (.slice xa x.length xc) x) := X_w2.out.below hb
  have T_w3 : Hid (ReadsR w3 vs ts) := T_w2.out.below hb
  have V_w3 : Hid (HoldsA w3 w.heap.size vs) := V_w2.out.below hb
  clear X_w2 T_w2 V_w2 HB_w2
  have hl0 : AllSl l0 := ho.1.1
  clear hb ho HP0 S_w2
  go_wp2_with (refine alloc24 rfl rfl ?_)
  intro w4 ha hb
  have HLG0 : Hid (w.heap.size ≤ w3.heap.size ∧ w.heap.size < w3.heap.size) := ⟨HB_w3.out.size, V_w3.out.lt⟩
  have HB_w4 : Hid (Below w.heap.size w w4) := below_trans HB_w3.out hb HB_w3.out.size
  have X_w4 : Hid (Reads w4 (.slice xa x.length xc) x) := X_w3.out.below hb
  have T_w4 : Hid (ReadsR w4 vs ts) := T_w3.out.below hb
  have V_w4 : Hid (HoldsA w4 w.heap.size vs) := V_w3.out.below hb
  have L0_w4 : Hid (ReadsR w4 l0 ((nilT.set 1 [7]).set 0 [7])) := L0_w3.out.below hb
  clear X_w3 T_w3 V_w3 L0_w3 HB_w3
  have Z0_w4 : Hid (HoldsA w4 w3.heap.size nils) := ha
  clear ha hb
  generalize w3.heap.size = G0 at *
  go_wp2_with (refine store24 rfl _ _ rfl G0 rfl l0 nils rfl Z0_w4.out hl0 ?_)
  intro w5 hz hg
  have HB_w5 : Hid (Below w.heap.size w w5) := HB_w4.out.grown hg HB_w4.out.size (fun j hj => by have := HLG0.out; cases hj; omega)
  have X_w5 : Hid (Reads w5 (.slice xa x.length xc) x) := X_w4.out.keptA hg Z0_w4.out
  have T_w5 : Hid (ReadsR w5 vs ts) := T_w4.out.keptA hg Z0_w4.out
  have V_w5 : Hid (HoldsA w5 w.heap.size vs) := V_w4.out.kept hg (fun e => by have := HLG0.out; have := Option.some.inj e; omega)
  have L0_w5 : Hid (ReadsR w5 l0 ((nilT.set 1 [7]).set 0 [7])) := L0_w4.out.keptA hg Z0_w4.out
  clear X_w4 T_w4 V_w4 L0_w4 Z0_w4 HB_w4
  have Z0_w5 : Hid (HoldsA w5 G0 l0) := hz
  clear hz hg
  obtain ⟨a1, c1, e1, r1, _⟩ := L0_w5.out.at_ 1 (by decide)
  have m1 := Z0_w5.out.cell 1 (by decide)
  rw [e1] at m1
  have hm1 : w5.cell? ⟨G0, 1, none⟩ = some (.slice a1 1 c1) := m1
  clear e1 r1 m1
  go_wp2_with (first | (refine load24 rfl (.tmp 3) rfl w.heap.size rfl vs V_w5.out ?_) | (refine alloc24 rfl rfl ?_))
  intro w6 ha hb
  have HLGI : Hid (w.heap.size ≤ w5.heap.size ∧ w.heap.size < w5.heap.size ∧ G0 < w5.heap.size) := ⟨HB_w5.out.size, V_w5.out.lt, Z0_w5.out.lt⟩
  have HB_w6 : Hid (Below w.heap.size w w6) := below_trans HB_w5.out hb HB_w5.out.size
  have X_w6 : Hid (Reads w6 (.slice xa x.length xc) x) := X_w5.out.below hb
  have T_w6 : Hid (ReadsR w6 vs ts) := T_w5.out.below hb
  have V_w6 : Hid (HoldsA w6 w.heap.size vs) := V_w5.out.below hb
  have L0_w6 : Hid (ReadsR w6 l0 ((nilT.set 1 [7]).set 0 [7])) := L0_w5.out.below hb
  have Z0_w6 : Hid (HoldsA w6 G0 l0) := Z0_w5.out.below hb
  clear X_w5 T_w5 V_w5 L0_w5 Z0_w5 HB_w5
  have I_w6 : Hid (HoldsA w6 w5.heap.size nils) := ha
  clear ha hb
  generalize w5.heap.size = GI at *
  clear L0_w6
  clear Z0_w6
  clear hm1
  go_wp2_with (refine store24 rfl _ _ rfl GI rfl vs nils rfl I_w6.out hl ?_)
  intro w7 hz hg
  have HB_w7 : Hid (Below w.heap.size w w7) := HB_w6.out.grown hg HB_w6.out.size (fun j hj => by have := HLGI.out; cases hj; omega)
  have X_w7 : Hid (Reads w7 (.slice xa x.length xc) x) := X_w6.out.keptA hg I_w6.out
  have T_w7 : Hid (ReadsR w7 vs ts) := T_w6.out.keptA hg I_w6.out
  have V_w7 : Hid (HoldsA w7 w.heap.size vs) := V_w6.out.kept hg (fun e => by have := HLGI.out; have := Option.some.inj e; omega)
  clear X_w6 T_w6 V_w6 I_w6 HB_w6
  have I_w7 : Hid (HoldsA w7 GI vs) := hz
  clear hz hg
  clear HLG0
  have HW5 : Hid (w.heap.size ≤ w7.heap.size) := HB_w7.out.size
  have HGI : Hid (GI < w7.heap.size) := I_w7.out.lt
  go_wp2_with (fail)
  go_loopw [38] (fun u38 wr => ∃ (i : Nat) (ls : List Value) (gs : Nat → Nat), u38 = .int .i64 (i : Int) ∧ i ≤ 27 ∧ Hid (HoldsA wr GI ls) ∧ Hid (HoldsA wr w.heap.size vs) ∧ Hid (Below w.heap.size w wr) ∧ Hid (Amp wr w7.heap.size ls gs ts i) ∧ Hid (∀ j, i ≤ j → j < 27 → ls.getD j undef = vs.getD j undef) ∧ Hid (ReadsR wr vs ts) ∧ Hid (Reads wr (.slice xa x.length xc) x) ∧ Hid (w7.heap.size ≤ wr.heap.size))
    (fun u38 _ => 27 - (intOf u38).toNat)
  case atStart => exact ⟨0, vs, fun _ => 0, rfl, by omega, I_w7.out, V_w7.out, HB_w7.out, fun j hj => by omega, fun _ _ _ => rfl, T_w7.out, X_w7.out, Nat.le_refl _⟩
  case round =>
    obtain ⟨i, ls, gs, rfl, hi, Hi, Hv, Hb, Ha, He, Ht, Hx, Hs⟩ := hrel
    clear I_w7 V_w7 T_w7 X_w7 HB_w7
    by_cases hlt : i < 27
    · have hiI : (i : Int) < 27 := by omega
      obtain ⟨a, c, hv, hr, hm⟩ := Ht.out.at_ i hlt
      have hc1 := Hi.out.cell i hlt
      rw [He.out i (Nat.le_refl _) hlt, hv] at hc1
      obtain ⟨y, hy⟩ : ∃ y, y = ts.getD i [] := ⟨_, rfl⟩
      have HY : Hid (ts.getD i [] = y) := hy.symm
      rw [← hy] at hv hr hm hc1
      have HR : Hid (Reads wr (.slice a y.length c) y) := hr
      have HM : Hid (Mild y) := hm
      clear hr hm hy hv
      go_wp2_with fail
      refine (ample_any _ y wr HR.out HM.out).mono ?_
      rintro e y1 ⟨hb, g, rfl, ho⟩
      have HB1 : Hid (Below w.heap.size w y1) := below_trans Hb.out hb Hb.out.size
      have Hi1 : Hid (HoldsA y1 GI ls) := Hi.out.below hb
      have Hv1 : Hid (HoldsA y1 w.heap.size vs) := Hv.out.below hb
      have Ht1 : Hid (ReadsR y1 vs ts) := Ht.out.below hb
      have Hx1 : Hid (Reads y1 (.slice xa x.length xc) x) := Hx.out.below hb
      have HO1 : Hid (Ample y1 wr.heap.size g y) := ho
      have HBB : Hid (Below wr.heap.size wr y1) := hb
      clear hb ho Hv Hb Ht Hx HR hc1
      go_wp2_with (refine store22 rfl _ _ rfl GI i rfl (some ⟨g, 0, none⟩) y.length (y.length + 3) rfl ls Hi1.out hlt ?_)
      intro y2 hz hg
      have HB2 : Hid (Below w.heap.size w y2) := HB1.out.grown hg HB1.out.size (fun j hj => by have := HLGI.out; cases hj; omega)
      have Hi2 : Hid (HoldsA y2 GI (ls.set i (amp g y))) := hz
      have Hv2 : Hid (HoldsA y2 w.heap.size vs) := Hv1.out.kept hg (fun e => by have := HLGI.out; have := Option.some.inj e; omega)
      have Ht2 : Hid (ReadsR y2 vs ts) := Ht1.out.keptA hg Hi1.out
      have Hx2 : Hid (Reads y2 (.slice xa x.length xc) x) := Hx1.out.keptA hg Hi1.out
      have Ha2 : Hid (Amp y2 w7.heap.size (ls.set i (amp g y)) (fun j => if j = i then g else gs j) ts (i + 1)) := by
        have ho := HO1.out
        rw [← HY.out] at ho ⊢
        exact Ha.out.step Hi.out.1 hlt HBB.out ho Hs.out hg Hi1.out
      have He2 : Hid (∀ j, i + 1 ≤ j → j < 27 → (ls.set i (amp g y)).getD j undef = vs.getD j undef) := fun j h1 h2 => by rw [getD_set_other _ _ _ _ _ (by omega)]; exact He.out j (by omega) h2
      have Hs2 : Hid (w7.heap.size ≤ y2.heap.size) := Nat.le_trans Hs.out (Nat.le_trans HBB.out.size hg.size)
      clear hz hg HB1 Hv1 Ht1 Hx1 HO1 HBB Hi1 Hi Ha He Hs
      go_wp2_with fail
      go_roundw
      case rel => exact ⟨i + 1, _, _, by go_num, by omega, Hi2.out, Hv2.out, HB2.out, Ha2.out, He2.out, Ht2.out, Hx2.out, Hs2.out⟩
      case measure => simp [intOf] <;> omega
    · obtain rfl : i = 27 := by omega
      clear He
      obtain ⟨wq, hwq⟩ : ∃ wq, wq = wr := ⟨_, rfl⟩
      subst hwq
      have I_wq : Hid (HoldsA wq GI ls) := Hi.out
      have V_wq : Hid (HoldsA wq w.heap.size vs) := Hv.out
      have T_wq : Hid (ReadsR wq vs ts) := Ht.out
      have X_wq : Hid (Reads wq (.slice xa x.length xc) x) := Hx.out
      have AM_wq : Hid (Amp wq w7.heap.size ls gs ts 27) := Ha.out
      have HB_wq : Hid (Below w.heap.size w wq) := Hb.out
      have HS5 : Hid (w7.heap.size ≤ wq.heap.size) := Hs.out
      clear Hi Hv Ht Hx Ha Hb Hs
      go_wp2_with (fail)
      refine (ample_any _ x wq X_wq.out HMX.out).mono ?_
      rintro e w8 ⟨hb, gt, rfl, ho⟩
      have XT_w8 : Hid (Ample w8 wq.heap.size gt x) := ho
      have HB_w8 : Hid (Below w.heap.size w w8) := below_trans HB_wq.out hb HB_wq.out.size
      have I_w8 : Hid (HoldsA w8 GI ls) := I_wq.out.below hb
      have V_w8 : Hid (HoldsA w8 w.heap.size vs) := V_wq.out.below hb
      have T_w8 : Hid (ReadsR w8 vs ts) := T_wq.out.below hb
      have X_w8 : Hid (Reads w8 (.slice xa x.length xc) x) := X_wq.out.below hb
      have AM_w8 : Hid (Amp w8 w7.heap.size ls gs ts 27) := AM_wq.out.below hb
      clear I_wq V_wq T_wq X_wq AM_wq HB_wq
      clear hb ho
      go_wp2_with (refine load24 rfl (.tmp 9) rfl GI rfl ls I_w8.out ?_)
      have RL_w8 : Hid (ReadsR w8 ls ts) := AM_w8.out.reads I_w8.out HLT.out HMT.out
      have SA_w8 : Hid (w8.heap.size ≤ w8.heap.size) := Nat.le_refl _
      have HGW : Hid (w.heap.size ≤ gt ∧ ∀ j, j < 27 → w.heap.size ≤ gs j) := ⟨by have := XT_w8.out.lt.1; have := HS5.out; have := HW5.out; omega, fun j hj => by have := (AM_w8.out j hj).2.lt.1; have := HW5.out; omega⟩
      have HBA0 : Hid (w.heap.size ≤ w8.heap.size) := HB_w8.out.size
      have HGS : Hid (gt < w8.heap.size ∧ ∀ j, j < 27 → gs j < w8.heap.size) := ⟨XT_w8.out.lt.2, fun j hj => (AM_w8.out j hj).2.lt.2⟩
      refine (put_any ls ts name _ x e tz w8 RL_w8.out XT_w8.out.reads HMX.out HP.out).mono ?_
      rintro e w9 ⟨hb, la, rfl, ho⟩
      have LA_w9 : Hid (OwnR w9 w8.heap.size la tz) := ho
      have HB_w9 : Hid (Below w.heap.size w w9) := below_trans HB_w8.out hb HB_w8.out.size
      have I_w9 : Hid (HoldsA w9 GI ls) := I_w8.out.below hb
      have V_w9 : Hid (HoldsA w9 w.heap.size vs) := V_w8.out.below hb
      have T_w9 : Hid (ReadsR w9 vs ts) := T_w8.out.below hb
      have X_w9 : Hid (Reads w9 (.slice xa x.length xc) x) := X_w8.out.below hb
      have AM_w9 : Hid (Amp w9 w7.heap.size ls gs ts 27) := AM_w8.out.below hb
      have XT_w9 : Hid (Ample w9 wq.heap.size gt x) := XT_w8.out.below hb
      have RL_w9 : Hid (ReadsR w9 ls ts) := RL_w8.out.below hb
      have SA_w9 : Hid (w8.heap.size ≤ w9.heap.size) := Nat.le_trans SA_w8.out hb.size
      clear I_w8 V_w8 T_w8 X_w8 AM_w8 XT_w8 RL_w8 SA_w8 HB_w8
      have hla : AllSl la := ho.1.1
      clear hb ho
      go_wp2_with (refine alloc24 rfl rfl ?_)
      intro w10 ha hb
      have HLGA : Hid (w.heap.size ≤ w9.heap.size ∧ GI < w9.heap.size ∧ w.heap.size < w9.heap.size) := ⟨HB_w9.out.size, I_w9.out.lt, V_w9.out.lt⟩
      have HB_w10 : Hid (Below w.heap.size w w10) := below_trans HB_w9.out hb HB_w9.out.size
      have I_w10 : Hid (HoldsA w10 GI ls) := I_w9.out.below hb
      have V_w10 : Hid (HoldsA w10 w.heap.size vs) := V_w9.out.below hb
      have T_w10 : Hid (ReadsR w10 vs ts) := T_w9.out.below hb
      have X_w10 : Hid (Reads w10 (.slice xa x.length xc) x) := X_w9.out.below hb
      have AM_w10 : Hid (Amp w10 w7.heap.size ls gs ts 27) := AM_w9.out.below hb
      have XT_w10 : Hid (Ample w10 wq.heap.size gt x) := XT_w9.out.below hb
      have RL_w10 : Hid (ReadsR w10 ls ts) := RL_w9.out.below hb
      have SA_w10 : Hid (w8.heap.size ≤ w10.heap.size) := Nat.le_trans SA_w9.out hb.size
      have LA_w10 : Hid (OwnR w10 w8.heap.size la tz) := LA_w9.out.below hb
      clear I_w9 V_w9 T_w9 X_w9 AM_w9 XT_w9 RL_w9 SA_w9 LA_w9 HB_w9
      have ZA_w10 : Hid (HoldsA w10 w9.heap.size nils) := ha
      clear ha hb
      generalize w9.heap.size = GA at *
      go_wp2_with (refine store24 rfl _ _ rfl GA rfl la nils rfl ZA_w10.out hla ?_)
      intro w11 hz hg
      have HB_w11 : Hid (Below w.heap.size w w11) := HB_w10.out.grown hg HB_w10.out.size (fun j hj => by have := HLGA.out; cases hj; omega)
      have I_w11 : Hid (HoldsA w11 GI ls) := I_w10.out.kept hg (fun e => by have := HLGA.out; have := HLGI.out; have := Option.some.inj e; omega)
      have V_w11 : Hid (HoldsA w11 w.heap.size vs) := V_w10.out.kept hg (fun e => by have := HLGA.out; have := Option.some.inj e; omega)
      have T_w11 : Hid (ReadsR w11 vs ts) := T_w10.out.keptA hg ZA_w10.out
      have X_w11 : Hid (Reads w11 (.slice xa x.length xc) x) := X_w10.out.keptA hg ZA_w10.out
      have AM_w11 : Hid (Amp w11 w7.heap.size ls gs ts 27) := AM_w10.out.keptA hg ZA_w10.out
      have XT_w11 : Hid (Ample w11 wq.heap.size gt x) := XT_w10.out.keptA hg ZA_w10.out
      have RL_w11 : Hid (ReadsR w11 ls ts) := RL_w10.out.keptA hg ZA_w10.out
      have SA_w11 : Hid (w8.heap.size ≤ w11.heap.size) := Nat.le_trans SA_w10.out hg.size
      have LA_w11 : Hid (OwnR w11 w8.heap.size la tz) := LA_w10.out.keptA hg ZA_w10.out
      clear I_w10 V_w10 T_w10 X_w10 AM_w10 XT_w10 RL_w10 SA_w10 LA_w10 ZA_w10 HB_w10
      have ZA_w11 : Hid (HoldsA w11 GA la) := hz
      clear hz hg
      go_wp2_with (refine load24 rfl (.tmp 9) rfl GI rfl ls I_w11.out ?_)
      skip
      have SG : Hid (w8.heap.size ≤ w11.heap.size) := SA_w11.out
      refine (get_any ls ts name f t w11 RL_w11.out HG.out).mono ?_
      rintro e w12 ⟨hb, ga, gc, rfl, ho⟩
      have OG_w12 : Hid (OwnI w12 w11.heap.size (.slice ga t.length gc) t) := ho
      have HB_w12 : Hid (Below w.heap.size w w12) := below_trans HB_w11.out hb HB_w11.out.size
      have I_w12 : Hid (HoldsA w12 GI ls) := I_w11.out.below hb
      have V_w12 : Hid (HoldsA w12 w.heap.size vs) := V_w11.out.below hb
      have T_w12 : Hid (ReadsR w12 vs ts) := T_w11.out.below hb
      have X_w12 : Hid (Reads w12 (.slice xa x.length xc) x) := X_w11.out.below hb
      have AM_w12 : Hid (Amp w12 w7.heap.size ls gs ts 27) := AM_w11.out.below hb
      have XT_w12 : Hid (Ample w12 wq.heap.size gt x) := XT_w11.out.below hb
      have RL_w12 : Hid (ReadsR w12 ls ts) := RL_w11.out.below hb
      have SA_w12 : Hid (w8.heap.size ≤ w12.heap.size) := Nat.le_trans SA_w11.out hb.size
      have LA_w12 : Hid (OwnR w12 w8.heap.size la tz) := LA_w11.out.below hb
      have ZA_w12 : Hid (HoldsA w12 GA la) := ZA_w11.out.below hb
      clear I_w11 V_w11 T_w11 X_w11 AM_w11 XT_w11 RL_w11 SA_w11 LA_w11 ZA_w11 HB_w11
      clear hb ho
      go_wp2_with (fail)
      go_loopw [63] (fun u63 wr => ∃ (i : Nat), u63 = .int .i64 (i : Int) ∧ i ≤ 27 ∧ Hid (Below w12.heap.size w12 wr))
        (fun u63 _ => 27 - (intOf u63).toNat)
      case atStart => exact ⟨0, rfl, by omega, Below.refl _ _⟩
      case round =>
        obtain ⟨i, rfl, hi, Hq⟩ := hrel
        by_cases hlt : i < 27
        · have hiI : (i : Int) < 27 := by omega
          have hAM := AM_w12.out.below Hq.out
          obtain ⟨a, c, hv, hr, hm⟩ := (T_w12.out.below Hq.out).at_ i hlt
          have hc1 := (I_w12.out.below Hq.out).cell i hlt
          have hc2 := (V_w12.out.below Hq.out).cell i hlt
          rw [(hAM i hlt).1] at hc1
          rw [hv] at hc2
          have ha := (hAM i hlt).2
          generalize ts.getD i [] = y at *
          unfold amp at hc1
          have HR : Hid (Reads wr (.slice a y.length c) y) := hr
          have HM : Hid (Mild y) := hm
          have HA : Hid (Ample wr w7.heap.size (gs i) y) := ha
          clear hr hm hv ha hAM
          generalize gs i = g at *
          go_wp2_with fail
          go_quiet ((go_at_call 15; exact Calls.quiet_of (stays_any g _ y _ _ (HA.out.below (below_drewN (Below.refl _ _) _)) (HR.out.drewN _) HM.out)))
          have HQ2 : Hid (Below w12.heap.size w12 (wr.drewN nq)) := below_drewN Hq.out nq
          clear Hq hc1 hc2
          go_wp2_with fail
          go_roundw
          case rel => exact ⟨i + 1, by go_num, by omega, HQ2.out⟩
          case measure => simp [intOf] <;> omega
        · obtain rfl : i = 27 := by omega
          obtain ⟨wh, hwh⟩ : ∃ wh, wh = wr := ⟨_, rfl⟩
          subst hwh
          have hbh := Hq.out
          clear Hq
          have HB_wh : Hid (Below w.heap.size w wh) := below_trans HB_w12.out hbh HB_w12.out.size
          have I_wh : Hid (HoldsA wh GI ls) := I_w12.out.below hbh
          have V_wh : Hid (HoldsA wh w.heap.size vs) := V_w12.out.below hbh
          have T_wh : Hid (ReadsR wh vs ts) := T_w12.out.below hbh
          have X_wh : Hid (Reads wh (.slice xa x.length xc) x) := X_w12.out.below hbh
          have AM_wh : Hid (Amp wh w7.heap.size ls gs ts 27) := AM_w12.out.below hbh
          have XT_wh : Hid (Ample wh wq.heap.size gt x) := XT_w12.out.below hbh
          have RL_wh : Hid (ReadsR wh ls ts) := RL_w12.out.below hbh
          have SA_wh : Hid (w8.heap.size ≤ wh.heap.size) := Nat.le_trans SA_w12.out hbh.size
          have LA_wh : Hid (OwnR wh w8.heap.size la tz) := LA_w12.out.below hbh
          have ZA_wh : Hid (HoldsA wh GA la) := ZA_w12.out.below hbh
          have OG_wh : Hid (OwnI wh w11.heap.size (.slice ga t.length gc) t) := OG_w12.out.below hbh
          clear I_w12 V_w12 T_w12 X_w12 AM_w12 XT_w12 RL_w12 SA_w12 LA_w12 ZA_w12 OG_w12 HB_w12
          have HS6 : Hid (w12.heap.size ≤ wh.heap.size) := hbh.size
          clear hbh
          go_wp2_with (fail)
          refine (stays_any gt _ x _ _ XT_wh.out X_wh.out HMX.out).mono ?_
          rintro e w13 ⟨rfl, q, hq⟩
          have hb : Below wh.heap.size wh w13 := by rw [hq]; exact below_drewN (Below.refl _ _) q
          clear hq
          have HB_w13 : Hid (Below w.heap.size w w13) := below_trans HB_wh.out hb HB_wh.out.size
          have I_w13 : Hid (HoldsA w13 GI ls) := I_wh.out.below hb
          have V_w13 : Hid (HoldsA w13 w.heap.size vs) := V_wh.out.below hb
          have T_w13 : Hid (ReadsR w13 vs ts) := T_wh.out.below hb
          have X_w13 : Hid (Reads w13 (.slice xa x.length xc) x) := X_wh.out.below hb
          have AM_w13 : Hid (Amp w13 w7.heap.size ls gs ts 27) := AM_wh.out.below hb
          have XT_w13 : Hid (Ample w13 wq.heap.size gt x) := XT_wh.out.below hb
          have RL_w13 : Hid (ReadsR w13 ls ts) := RL_wh.out.below hb
          have SA_w13 : Hid (w8.heap.size ≤ w13.heap.size) := Nat.le_trans SA_wh.out hb.size
          have LA_w13 : Hid (OwnR w13 w8.heap.size la tz) := LA_wh.out.below hb
          have ZA_w13 : Hid (HoldsA w13 GA la) := ZA_wh.out.below hb
          have OG_w13 : Hid (OwnI w13 w11.heap.size (.slice ga t.length gc) t) := OG_wh.out.below hb
          clear I_wh V_wh T_wh X_wh AM_wh XT_wh RL_wh SA_wh LA_wh ZA_wh OG_wh HB_wh
          clear hb
          clear V_w13
          clear T_w13
          clear X_w13
          go_wp2_with (refine load24 rfl (.tmp 9) rfl GI rfl ls I_w13.out ?_)
          have HL0 : Hid (∀ q, (la.getD 0 undef).ownBlock = some q → q < w13.heap.size) := fun q hq => ((LA_w13.out.2.1 0 (by decide)).lt q hq).2
          have SB : Hid (w8.heap.size ≤ w13.heap.size) := SA_w13.out
          refine (put_any ls ts name _ x e tz w13 RL_w13.out XT_w13.out.reads HMX.out HP.out).mono ?_
          rintro e w14 ⟨hb, lb, rfl, ho⟩
          have LB_w14 : Hid (OwnR w14 w13.heap.size lb tz) := ho
          have HB_w14 : Hid (Below w.heap.size w w14) := below_trans HB_w13.out hb HB_w13.out.size
          have I_w14 : Hid (HoldsA w14 GI ls) := I_w13.out.below hb
          have AM_w14 : Hid (Amp w14 w7.heap.size ls gs ts 27) := AM_w13.out.below hb
          have XT_w14 : Hid (Ample w14 wq.heap.size gt x) := XT_w13.out.below hb
          have RL_w14 : Hid (ReadsR w14 ls ts) := RL_w13.out.below hb
          have SA_w14 : Hid (w8.heap.size ≤ w14.heap.size) := Nat.le_trans SA_w13.out hb.size
          have LA_w14 : Hid (OwnR w14 w8.heap.size la tz) := LA_w13.out.below hb
          have ZA_w14 : Hid (HoldsA w14 GA la) := ZA_w13.out.below hb
          have OG_w14 : Hid (OwnI w14 w11.heap.size (.slice ga t.length gc) t) := OG_w13.out.below hb
          clear I_w13 AM_w13 XT_w13 RL_w13 SA_w13 LA_w13 ZA_w13 OG_w13 HB_w13
          have hlb : AllSl lb := ho.1.1
          clear hb ho
          clear RL_w14
          go_wp2_with (refine alloc24 rfl rfl ?_)
          intro w15 ha hb
          have HLGB : Hid (w.heap.size ≤ w14.heap.size ∧ GI < w14.heap.size ∧ GA < w14.heap.size) := ⟨HB_w14.out.size, I_w14.out.lt, ZA_w14.out.lt⟩
          have HB_w15 : Hid (Below w.heap.size w w15) := below_trans HB_w14.out hb HB_w14.out.size
          have I_w15 : Hid (HoldsA w15 GI ls) := I_w14.out.below hb
          have AM_w15 : Hid (Amp w15 w7.heap.size ls gs ts 27) := AM_w14.out.below hb
          have XT_w15 : Hid (Ample w15 wq.heap.size gt x) := XT_w14.out.below hb
          have SA_w15 : Hid (w8.heap.size ≤ w15.heap.size) := Nat.le_trans SA_w14.out hb.size
          have LA_w15 : Hid (OwnR w15 w8.heap.size la tz) := LA_w14.out.below hb
          have ZA_w15 : Hid (HoldsA w15 GA la) := ZA_w14.out.below hb
          have OG_w15 : Hid (OwnI w15 w11.heap.size (.slice ga t.length gc) t) := OG_w14.out.below hb
          have LB_w15 : Hid (OwnR w15 w13.heap.size lb tz) := LB_w14.out.below hb
          clear I_w14 AM_w14 XT_w14 SA_w14 LA_w14 ZA_w14 OG_w14 LB_w14 HB_w14
          have ZB_w15 : Hid (HoldsA w15 w14.heap.size nils) := ha
          clear ha hb
          generalize w14.heap.size = GB at *
          go_wp2_with (refine store24 rfl _ _ rfl GB rfl lb nils rfl ZB_w15.out hlb ?_)
          intro w16 hz hg
          have HB_w16 : Hid (Below w.heap.size w w16) := HB_w15.out.grown hg HB_w15.out.size (fun j hj => by have := HLGB.out; cases hj; omega)
          have I_w16 : Hid (HoldsA w16 GI ls) := I_w15.out.kept hg (fun e => by have := HLGB.out; have := HLGI.out; have := Option.some.inj e; omega)
          have AM_w16 : Hid (Amp w16 w7.heap.size ls gs ts 27) := AM_w15.out.keptA hg ZB_w15.out
          have XT_w16 : Hid (Ample w16 wq.heap.size gt x) := XT_w15.out.keptA hg ZB_w15.out
          have SA_w16 : Hid (w8.heap.size ≤ w16.heap.size) := Nat.le_trans SA_w15.out hg.size
          have LA_w16 : Hid (OwnR w16 w8.heap.size la tz) := LA_w15.out.keptA hg ZB_w15.out
          have ZA_w16 : Hid (HoldsA w16 GA la) := ZA_w15.out.kept hg (fun e => by have := HLGB.out; have := HLGA.out; have := Option.some.inj e; omega)
          have OG_w16 : Hid (OwnI w16 w11.heap.size (.slice ga t.length gc) t) := OG_w15.out.keptA hg ZB_w15.out
          have LB_w16 : Hid (OwnR w16 w13.heap.size lb tz) := LB_w15.out.keptA hg ZB_w15.out
          clear I_w15 AM_w15 XT_w15 SA_w15 LA_w15 ZA_w15 OG_w15 LB_w15 ZB_w15 HB_w15
          have ZB_w16 : Hid (HoldsA w16 GB lb) := hz
          clear hz hg
          go_wp2_with (fail)
          have SC : Hid (w8.heap.size ≤ w16.heap.size) := SA_w16.out
          refine (cloneI_any _ t w16 OG_w16.out.reads HMt.out).mono ?_
          rintro e w17 ⟨hb, ha, hc, rfl, ho⟩
          have OH_w17 : Hid (OwnI w17 w16.heap.size (.slice ha t.length hc) t) := ho
          have HB_w17 : Hid (Below w.heap.size w w17) := below_trans HB_w16.out hb HB_w16.out.size
          have I_w17 : Hid (HoldsA w17 GI ls) := I_w16.out.below hb
          have AM_w17 : Hid (Amp w17 w7.heap.size ls gs ts 27) := AM_w16.out.below hb
          have XT_w17 : Hid (Ample w17 wq.heap.size gt x) := XT_w16.out.below hb
          have SA_w17 : Hid (w8.heap.size ≤ w17.heap.size) := Nat.le_trans SA_w16.out hb.size
          have LA_w17 : Hid (OwnR w17 w8.heap.size la tz) := LA_w16.out.below hb
          have ZA_w17 : Hid (HoldsA w17 GA la) := ZA_w16.out.below hb
          have OG_w17 : Hid (OwnI w17 w11.heap.size (.slice ga t.length gc) t) := OG_w16.out.below hb
          have LB_w17 : Hid (OwnR w17 w13.heap.size lb tz) := LB_w16.out.below hb
          have ZB_w17 : Hid (HoldsA w17 GB lb) := ZB_w16.out.below hb
          clear I_w16 AM_w16 XT_w16 SA_w16 LA_w16 ZA_w16 OG_w16 LB_w16 ZB_w16 HB_w16
          clear hb ho
          have ST_w17 : Hid (Stand w17 w8.heap.size w13.heap.size GI GA GB gt (x.length + 3) ls la lb (.slice ga t.length gc) (.slice ha t.length hc) gs ts tz t) := ⟨I_w17.out, ZA_w17.out, ZB_w17.out, LA_w17.out, LB_w17.out, OG_w17.out.less SG.out, OH_w17.out.less SC.out, fun j hj => ⟨(AM_w17.out j hj).2.block, HGS.out.2 j hj⟩, ⟨XT_w17.out.block, HGS.out.1⟩, SB.out⟩
          have HLS : Hid (∀ j, j < 27 → ls.getD j undef = amp (gs j) (ts.getD j [])) := fun j hj => (AM_w17.out j hj).1
          have HBA : Hid (w.heap.size ≤ w8.heap.size) := HBA0.out
          clear I_w17 AM_w17 XT_w17 SA_w17 LA_w17 ZA_w17 OG_w17 LB_w17 ZB_w17 OH_w17
          clear HLGI HLGA HLGB HGI HS5 HS6
          go_wp2_with (fail)
          go_loopw [88] (fun u88 wr => ∃ (i : Nat), u88 = .int .i64 (i : Int) ∧ i ≤ 27 ∧ Hid (Stand wr w8.heap.size w13.heap.size GI GA GB gt (x.length + 3) ls la lb (.slice ga t.length gc) (.slice ha t.length hc) gs ts tz t) ∧ Hid (Below w.heap.size w wr))
            (fun u88 _ => 27 - (intOf u88).toNat)
          case atStart => exact ⟨0, rfl, by omega, ST_w17.out, HB_w17.out⟩
          case round =>
            obtain ⟨i, rfl, hi, Hs, Hb⟩ := hrel
            clear ST_w17 HB_w17
            by_cases hlt : i < 27
            · have hiI : (i : Int) < 27 := by omega
              have hc1 := Hs.out.hi.cell i hlt
              rw [HLS.out i hlt] at hc1
              have hbl := Hs.out.bl i hlt
              have hm := HMT.out i hlt
              have hge := HGW.out.2 i hlt
              obtain ⟨y, hy⟩ : ∃ y, y = ts.getD i [] := ⟨_, rfl⟩
              obtain ⟨g, hgi⟩ : ∃ g, g = gs i := ⟨_, rfl⟩
              rw [← hy] at hc1 hbl hm
              rw [← hgi] at hc1 hbl hge
              clear hy hgi
              unfold amp at hc1
              unfold Mild at hm
              have HBL : Hid (IntBlock wr g (y.length + 3)) := hbl.1
              have hlg : g < w8.heap.size := hbl.2
              clear hbl
              go_wp2_with fail
              refine (spoil_any g y.length (y.length + 3) wr 5 HBL.out (by omega) (by unfold maxLen; omega)).mono ?_
              rintro e y1 ⟨rfl, hg, hi'⟩
              have HS1 : Hid (Stand y1 w8.heap.size w13.heap.size GI GA GB gt (x.length + 3) ls la lb (.slice ga t.length gc) (.slice ha t.length hc) gs ts tz t) := Hs.out.spoilt HBL.out hlg hg hi'
              have HB1 : Hid (Below w.heap.size w y1) := Hb.out.grown hg Hb.out.size (fun j hj => by cases hj; exact hge)
              clear hg hi' Hs Hb HBL hc1
              go_wp2_with fail
              go_roundw
              case rel => exact ⟨i + 1, by go_num, by omega, HS1.out, HB1.out⟩
              case measure => simp [intOf] <;> omega
            · obtain rfl : i = 27 := by omega
              obtain ⟨wk, hwk⟩ : ∃ wk, wk = wr := ⟨_, rfl⟩
              subst hwk
              have hmx := HMX.out
              unfold Mild at hmx
              go_wp2_with (fail)
              refine (spoil_any gt x.length (x.length + 3) wk 5 Hs.out.bt.1 (by omega) (by unfold maxLen; omega)).mono ?_
              rintro e y1 ⟨rfl, hg, hi'⟩
              have HS1 : Hid (Stand y1 w8.heap.size w13.heap.size GI GA GB gt (x.length + 3) ls la lb (.slice ga t.length gc) (.slice ha t.length hc) gs ts tz t) := Hs.out.spoilt Hs.out.bt.1 Hs.out.bt.2 hg hi'
              have HB1 : Hid (Below w.heap.size w y1) := Hb.out.grown hg Hb.out.size (fun j hj => by cases hj; exact HGW.out.1)
              clear hg hi' Hs Hb hmx
              go_wp2_with (first | (refine load24 rfl (.tmp 12) rfl GA rfl la HS1.out.ha ?_) | (refine load24 rfl (.tmp 17) rfl GB rfl lb HS1.out.hb ?_))
              refine (same_any la lb tz y1 HS1.out.oa.1 HS1.out.ob.1).mono ?_
              rintro e y2 ⟨rfl, hb⟩
              have HS2 : Hid (Stand y2 w8.heap.size w13.heap.size GI GA GB gt (x.length + 3) ls la lb (.slice ga t.length gc) (.slice ha t.length hc) gs ts tz t) := HS1.out.below hb
              have HB2 : Hid (Below w.heap.size w y2) := below_trans HB1.out hb HB1.out.size
              clear hb HS1 HB1
              go_wp2_with (fail)
              refine (equal_same _ _ t y2 HS2.out.og.reads HS2.out.oh.reads HMt.out).mono ?_
              rintro e y3 ⟨rfl, q, hq⟩
              have hb : Below y2.heap.size y2 y3 := by rw [hq]; exact below_drewN (Below.refl _ _) q
              have HS3 : Hid (Stand y3 w8.heap.size w13.heap.size GI GA GB gt (x.length + 3) ls la lb (.slice ga t.length gc) (.slice ha t.length hc) gs ts tz t) := HS2.out.below hb
              have HB3 : Hid (Below w.heap.size w y3) := below_trans HB2.out hb HB2.out.size
              clear hb hq q HS2 HB2
              obtain ⟨a0, c0, e0, _, _⟩ := HS3.out.oa.1.at_ 0 (by decide)
              have hc0 := HS3.out.ha.cell 0 (by decide)
              rw [e0] at hc0
              have H0 := spoil_own _ _ _ 9 y3 (HS3.out.oa.2.1 0 (by decide))
              rw [e0] at H0
              have HSP : Hid (Calls Try.prog 17 _ _ _) := H0
              have HE0 : Hid (la.getD 0 undef = .slice a0 (tz.getD 0 []).length c0) := e0
              clear H0 e0
              go_wp2_with (fail)
              refine HSP.out.mono ?_
              rintro e y4 hs
              rw [← HE0.out] at hs
              obtain ⟨rfl, hla4, hb4⟩ := HS3.out.last HL0.out hs
              have HL4 : Hid (Last y4 GA GB la lb tz) := hla4
              have HB4 : Hid (Below w.heap.size w y4) := HB3.out.trans (hb4.mono HBA.out)
              clear hs hla4 hb4 HS3 HB3 HSP HE0 hc0
              go_wp2_with (fail)
              go_loopw [22] (fun u22 wr => ∃ (i : Nat), u22 = .int .i64 (i : Int) ∧ 1 ≤ i ∧ i ≤ 27 ∧ Hid (Last wr GA GB la lb tz) ∧ Hid (Below w.heap.size w wr))
                (fun u22 _ => 27 - (intOf u22).toNat)
              case atStart => exact ⟨1, rfl, by omega, by omega, HL4.out, HB4.out⟩
              case round =>
                obtain ⟨i, rfl, h1, hi, Hl, Hb⟩ := hrel
                clear HL4 HB4
                by_cases hlt : i < 27
                · have hiI : (i : Int) < 27 := by omega
                  obtain ⟨ga1, gb1, hrest⟩ := Hl.out
                  obtain ⟨r1, r2, hm⟩ := hrest i h1 hlt
                  obtain ⟨a, c, e1⟩ := r1.shape
                  obtain ⟨a', c', e2⟩ := r2.shape
                  have hc1 := ga1.cell i hlt
                  have hc2 := gb1.cell i hlt
                  rw [e1] at hc1 r1
                  rw [e2] at hc2 r2
                  generalize tz.getD i [] = y at *
                  have HR1 : Hid (Reads wr (.slice a y.length c) y) := r1
                  have HR2 : Hid (Reads wr (.slice a' y.length c') y) := r2
                  have HM : Hid (Mild y) := hm
                  clear ga1 gb1 hrest r1 r2 hm e1 e2
                  go_wp2_with fail
                  go_quiet ((go_at_call 11; exact Calls.quiet_of (equal_same _ _ y _ (HR1.out.drewN _) (HR2.out.drewN _) HM.out)))
                  have HL5 : Hid (Last (wr.drewN nq) GA GB la lb tz) := Hl.out.below (below_drewN (Below.refl _ _) nq)
                  have HB5 : Hid (Below w.heap.size w (wr.drewN nq)) := below_drewN Hb.out nq
                  clear Hl Hb hc1 hc2
                  go_wp2_with fail
                  go_roundw
                  case rel => exact ⟨i + 1, by go_num, by omega, by omega, HL5.out, HB5.out⟩
                  case measure => simp [intOf] <;> omega
                · obtain rfl : i = 27 := by omega
                  go_wp2_with fail
                  go_ret
                  exact ⟨rfl, Hb.out⟩
end Go.Proofs.Ytobmggijdmdidaa.Seek
