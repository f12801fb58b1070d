/- EditBounds: whatever is done, what comes of it is a line of at most 200 characters, with its place in it (with its end, too, in a mode other than Command); its Edit makes the new text of the old one; where it fails, nothing comes of it. -/
import Derived.Test.YtpgjaoemkadenaaM27
import Derived.Test.YtpgjaoemkadenaaM28
/- The walk of EditBounds. -/
set_option linter.unusedVariables false
set_option linter.unusedSimpArgs false
set_option maxRecDepth 100000
namespace Go.Proofs.Ytpgjaoemkadenaa.Seek
open Go.RowKit Plain

theorem below_len {n : Nat} (h : n ≤ 200) : n ≤ maxLen := by unfold maxLen; omega

theorem ex_bounds (a : Option Addr) (c : Nat) (w : World) (h : Reads w (.slice a 2 c) [97, 98]) :
    Calls Try.prog 11 #[.agg #[.slice a 2 c, .int .i64 0], .agg nils.toArray, .agg #[.int .i64 0, .int .i64 0], .agg #[.int .i64 0, .int .i64 0, .int .i64 0, .int .i64 120, .int .i64 0]] w fun q w' => TellPost (⟨[98], 0, ((nilT.set 0 [97]).set 0 [97]), 0, 0, 0⟩, 0) (ups (btw [97, 98] [98])) w q w' :=
  do_tell a c [97, 98] 0 nils nilT 0 0 0 0 0 120 0 w h (readsR_nil w) _ (by kernel_rfl) _ rfl


set_option maxHeartbeats 4000000 in
theorem boundsW (a : Option Addr) (cap : Nat) (zs : List Int) (k : Int) (vs : List Value) (ts : List (List Int)) (fk fa c r o v g : Int) (w : World) (h : Reads w (.slice a zs.length cap) zs) (hm : Mild zs) (hr : ReadsR w vs ts) :
    Calls Try.prog 4 #[.agg #[.slice a zs.length cap, .int .i64 k], .agg vs.toArray, .agg #[.int .i64 fk, .int .i64 fa], .agg #[.int .i64 c, .int .i64 r, .int .i64 o, .int .i64 v, .int .i64 g]] w fun e w' => e = .returned (.bool true) ∧ Below w.heap.size w w' := by
  obtain ⟨X, hX⟩ : ∃ X, X = doe ⟨zs, k, ts, fk, fa, 0⟩ c r o v g := ⟨_, rfl⟩
  have hin : X.2 = 0 → _ := fun q => doe_in zs k ts fk fa c r o v g X hX q
  have hnul : X.2 ≠ 0 → X.1 = nulR := fun q => by rw [hX] at q ⊢; exact doe_nul _ _ _ _ _ _ q
  obtain ⟨⟨T, L, ts2, fk2, fa2, M⟩, E⟩ := X
  obtain ⟨es, hes⟩ : ∃ es, es = if E = 0 then ups (btw zs T) else [] := ⟨_, rfl⟩
  have HD : Hid (∀ wx, Below w.heap.size w wx → Calls Try.prog 11 #[.agg #[.slice a zs.length cap, .int .i64 k], .agg vs.toArray, .agg #[.int .i64 fk, .int .i64 fa], .agg #[.int .i64 c, .int .i64 r, .int .i64 o, .int .i64 v, .int .i64 g]] wx fun q w' => TellPost (⟨T, L, ts2, fk2, fa2, M⟩, E) es wx q w') := fun wx hx => do_tell a cap zs k vs ts fk fa c r o v g wx (h.below hx) (hr.below hx) _ hX _ hes
  have HIN : Hid (E = 0 → zs.length ≤ 200 ∧ T.length ≤ 200 ∧ 0 ≤ L ∧ L ≤ if M = 0 then lastP T.length else (T.length : Int)) := hin
  have HNUL : Hid (E ≠ 0 → (⟨T, L, ts2, fk2, fa2, M⟩ : Res) = nulR) := hnul
  have HES : Hid (es = if E = 0 then ups (btw zs T) else []) := hes
  clear hX hin hnul hes hm
  have HV : Hid (∀ wx, Below w.heap.size w wx → Reads wx (.slice a zs.length cap) zs) := fun wx hx => h.below hx
  have HRR : Hid (∀ wx, Below w.heap.size w wx → ReadsR wx vs ts) := fun wx hx => hr.below hx
  have hvs : vs.length = 27 := hr.1.1
  have HS : Hid (AllSl vs) := hr.1
  go_enter Try.func4, Try.ntmps4
  go_wp2_with (refine boxC rfl 24 _ rfl [.slice a zs.length cap, .int .i64 k] rfl ?_)
  intro w1 ha hb
  have HB_w1 : Hid (Below w.heap.size w w1) := hb
  have A_w1 : Hid (BoxC w1 24 w.heap.size [.slice a zs.length cap, .int .i64 k]) := ha
  clear ha hb
  go_wp2_with (refine boxC rfl 31 _ rfl vs rfl ?_)
  intro w2 ha hb
  have HLGR : Hid (w.heap.size ≤ w1.heap.size ∧ w.heap.size < w1.heap.size) := ⟨HB_w1.out.size, A_w1.out.lt⟩
  have HB_w2 : Hid (Below w.heap.size w w2) := below_trans HB_w1.out hb HB_w1.out.size
  have A_w2 : Hid (BoxC w2 24 w.heap.size [.slice a zs.length cap, .int .i64 k]) := A_w1.out.below hb
  clear A_w1 HB_w1
  have R_w2 : Hid (BoxC w2 31 w1.heap.size vs) := ha
  clear ha hb
  generalize w1.heap.size = GR at *
  go_wp2_with (refine boxC rfl 33 _ rfl [.int .i64 fk, .int .i64 fa] rfl ?_)
  intro w3 ha hb
  have HLGF : Hid (w.heap.size ≤ w2.heap.size ∧ w.heap.size < w2.heap.size ∧ GR < w2.heap.size) := ⟨HB_w2.out.size, A_w2.out.lt, R_w2.out.lt⟩
  have HB_w3 : Hid (Below w.heap.size w w3) := below_trans HB_w2.out hb HB_w2.out.size
  have A_w3 : Hid (BoxC w3 24 w.heap.size [.slice a zs.length cap, .int .i64 k]) := A_w2.out.below hb
  have R_w3 : Hid (BoxC w3 31 GR vs) := R_w2.out.below hb
  clear A_w2 R_w2 HB_w2
  have F_w3 : Hid (BoxC w3 33 w2.heap.size [.int .i64 fk, .int .i64 fa]) := ha
  clear ha hb
  generalize w2.heap.size = GF at *
  go_wp2_with (refine boxC rfl 35 _ rfl [.int .i64 c, .int .i64 r, .int .i64 o, .int .i64 v, .int .i64 g] rfl ?_)
  intro w4 ha hb
  have HLGC : Hid (w.heap.size ≤ w3.heap.size ∧ w.heap.size < w3.heap.size ∧ GR < w3.heap.size ∧ GF < w3.heap.size) := ⟨HB_w3.out.size, A_w3.out.lt, R_w3.out.lt, F_w3.out.lt⟩
  have HB_w4 : Hid (Below w.heap.size w w4) := below_trans HB_w3.out hb HB_w3.out.size
  have A_w4 : Hid (BoxC w4 24 w.heap.size [.slice a zs.length cap, .int .i64 k]) := A_w3.out.below hb
  have R_w4 : Hid (BoxC w4 31 GR vs) := R_w3.out.below hb
  have F_w4 : Hid (BoxC w4 33 GF [.int .i64 fk, .int .i64 fa]) := F_w3.out.below hb
  clear A_w3 R_w3 F_w3 HB_w3
  have C_w4 : Hid (BoxC w4 35 w3.heap.size [.int .i64 c, .int .i64 r, .int .i64 o, .int .i64 v, .int .i64 g]) := ha
  clear ha hb
  generalize w3.heap.size = GC at *
  clear h hr
  go_wp2_with (fail)
  refine (of_reads _ [97, 98] (by decide) w4 (by decide)).mono ?_
  rintro e w5 ⟨hb, a1, c1, rfl, ho⟩
  have HB_w5 : Hid (Below w.heap.size w w5) := below_trans HB_w4.out hb HB_w4.out.size
  have A_w5 : Hid (BoxC w5 24 w.heap.size [.slice a zs.length cap, .int .i64 k]) := A_w4.out.below hb
  have R_w5 : Hid (BoxC w5 31 GR vs) := R_w4.out.below hb
  have F_w5 : Hid (BoxC w5 33 GF [.int .i64 fk, .int .i64 fa]) := F_w4.out.below hb
  have C_w5 : Hid (BoxC w5 35 GC [.int .i64 c, .int .i64 r, .int .i64 o, .int .i64 v, .int .i64 g]) := C_w4.out.below hb
  clear A_w4 R_w4 F_w4 C_w4 HB_w4
  have O1_w5 : Hid (Reads w5 (.slice a1 2 c1) [97, 98]) := ho.reads
  clear hb ho
  go_wp2_with (first | (refine buildC rfl 31 _ rfl nils (by kernel_rfl) ?_))
  refine (ex_bounds _ _ _ O1_w5.out).mono ?_
  rintro e w6 ⟨hb, aX, cX, uX, eX, dX, a0X, c0X, rfl, hT, hS, hu⟩
  have HB_w6 : Hid (Below w.heap.size w w6) := below_trans HB_w5.out hb HB_w5.out.size
  have A_w6 : Hid (BoxC w6 24 w.heap.size [.slice a zs.length cap, .int .i64 k]) := A_w5.out.below hb
  have R_w6 : Hid (BoxC w6 31 GR vs) := R_w5.out.below hb
  have F_w6 : Hid (BoxC w6 33 GF [.int .i64 fk, .int .i64 fa]) := F_w5.out.below hb
  have C_w6 : Hid (BoxC w6 35 GC [.int .i64 c, .int .i64 r, .int .i64 o, .int .i64 v, .int .i64 g]) := C_w5.out.below hb
  have O1_w6 : Hid (Reads w6 (.slice a1 2 c1) [97, 98]) := O1_w5.out.below hb
  clear A_w5 R_w5 F_w5 C_w5 O1_w5 HB_w5
  have TX_w6 : Hid (Told w6 aX cX uX eX dX ⟨[98], 0, (nilT.set 0 [97]).set 0 [97], 0, 0, 0⟩ (ups (btw [97, 98] [98]))) := hT
  clear hb hT
  have hlX : uX.length = 27 := hS.1
  have HSX : Hid (AllSl uX) := hS
  have HUX : Hid (uX[0]? = some (.slice a0X 1 c0X)) := hu
  clear hS hu
  (try dsimp only)
  go_wp2_with (refine allocC rfl 38 rfl nulL nul_zero ?_)
  intro w7 ha hb
  go_wp2_with (refine storeC rfl 38 _ _ rfl w6.heap.size rfl nulL (resL (.slice aX 1 cX) 0 uX 0 0 0 (.slice eX (ups (btw [97, 98] [98])).length dX)) rfl ha (by rw [resL_len hlX]; exact wide_res) (resL_one HSX.out rfl rfl) (by rw [nul_len, resL_len hlX]) ?_)
  intro w8 hz hg
  have hb8 : Below w6.heap.size w6 w8 := hb.grown hg hb.size (fun j hj => by cases hj; exact Nat.le_refl _)
  have HLGX : Hid (w.heap.size ≤ w6.heap.size ∧ w.heap.size < w6.heap.size ∧ GR < w6.heap.size ∧ GF < w6.heap.size ∧ GC < w6.heap.size) := ⟨HB_w6.out.size, A_w6.out.lt, R_w6.out.lt, F_w6.out.lt, C_w6.out.lt⟩
  have HB_w8 : Hid (Below w.heap.size w w8) := below_trans HB_w6.out hb8 HB_w6.out.size
  have A_w8 : Hid (BoxC w8 24 w.heap.size [.slice a zs.length cap, .int .i64 k]) := A_w6.out.below hb8
  have R_w8 : Hid (BoxC w8 31 GR vs) := R_w6.out.below hb8
  have F_w8 : Hid (BoxC w8 33 GF [.int .i64 fk, .int .i64 fa]) := F_w6.out.below hb8
  have C_w8 : Hid (BoxC w8 35 GC [.int .i64 c, .int .i64 r, .int .i64 o, .int .i64 v, .int .i64 g]) := C_w6.out.below hb8
  have O1_w8 : Hid (Reads w8 (.slice a1 2 c1) [97, 98]) := O1_w6.out.below hb8
  have TX_w8 : Hid (Told w8 aX cX uX eX dX ⟨[98], 0, (nilT.set 0 [97]).set 0 [97], 0, 0, 0⟩ (ups (btw [97, 98] [98]))) := TX_w6.out.below hb8
  clear A_w6 R_w6 F_w6 C_w6 O1_w6 TX_w6 HB_w6
  have X_w8 : Hid (BoxC w8 38 w6.heap.size (resL (.slice aX 1 cX) 0 uX 0 0 0 (.slice eX (ups (btw [97, 98] [98])).length dX))) := hz
  clear ha hb hz hg hb8 w7
  generalize w6.heap.size = GX at *
  clear O1_w8
  go_upto_region 2 with fail
  go_cut [42] from 25 to 42 (fun s42 wx => s42 = .bool false ∧ Hid (Below w8.heap.size w8 wx))
  case first =>
    have y00 : w8.cell? ⟨GX, 0, none⟩ = some (.slice aX 1 cX) := (X_w8.out.cell 0).trans resL_0
    have y20 : w8.cell? ⟨GX, 2, none⟩ = some (.slice a0X 1 c0X) := (X_w8.out.cell 2).trans (resL_r0 hlX HUX.out)
    have HBX0 : Hid (Below w8.heap.size w8 w8.drew) := below_drewN (Below.refl _ _) 1
    have HOF : Hid (∀ (s : ByteArray) (xs : List Int), codes s = xs → s.size ≤ 4096 → ∀ wx, Calls Try.prog 12 #[.string s] wx fun e w' => Below wx.heap.size wx w' ∧ ∃ a c, e = .returned (.slice a xs.length c) ∧ Own w' wx.heap.size (.slice a xs.length c) xs) := fun s xs hx hs wx => of_reads s xs hx wx hs
    have HCS : Hid (∀ w', Below w8.heap.size w8 w' → w'.cell? ⟨GX, 0, none⟩ = some (.slice aX 1 cX) ∧ w'.cell? ⟨GX, 2, none⟩ = some (.slice a0X 1 c0X)) := fun w' hb => ⟨((X_w8.out.below hb).cell 0).trans resL_0, ((X_w8.out.below hb).cell 2).trans (resL_r0 hlX HUX.out)⟩
    clear y00 y20
    go_region_held3 (fun w' => w'.cell? ⟨GX, 0, none⟩ = some (.slice aX 1 cX) ∧ w'.cell? ⟨GX, 2, none⟩ = some (.slice a0X 1 c0X))
      ((refine HCS.out _ ?_; (repeat (first | assumption | exact Below.refl _ _ | refine below_dr ?_ | refine below_al ?_ _ | (refine below_st ?_ (by exact Nat.le_refl _) _)))))
      (first
          | (go_at_call 13; have hqq := hB3; clear hqq; refine HE3.out.mono ?_; rintro e wr4 ⟨rfl, q4, hw4⟩; have hB4 : Below w8.heap.size w8 wr4 := by rw [hw4]; exact below_drewN hB3 q4
             have y04 : wr4.cell? ⟨GX, 0, none⟩ = some (.slice aX 1 cX) := ((X_w8.out.below hB4).cell 0).trans resL_0; have y24 : wr4.cell? ⟨GX, 2, none⟩ = some (.slice a0X 1 c0X) := ((X_w8.out.below hB4).cell 2).trans (resL_r0 hlX HUX.out); (try clear hw4))
          | (go_at_call 12; have hqq := hB2; clear hqq; refine (HOF.out ⟨#[97]⟩ [97] (by decide) (by decide) wr2).mono ?_; rintro e wr3 ⟨hb3, ar3, cr3, rfl, ho3⟩; have hB3 : Below w8.heap.size w8 wr3 := below_trans hB2 hb3 hB2.size; have y03 : wr3.cell? ⟨GX, 0, none⟩ = some (.slice aX 1 cX) := ((X_w8.out.below hB3).cell 0).trans resL_0; have y23 : wr3.cell? ⟨GX, 2, none⟩ = some (.slice a0X 1 c0X) := ((X_w8.out.below hB3).cell 2).trans (resL_r0 hlX HUX.out); have HE3 : Hid (Calls Try.prog 13 #[.slice a0X 1 c0X, .slice ar3 1 cr3] wr3 fun e w' => e = .returned (.bool true) ∧ ∃ q, w' = wr3.drewN q) := equal_any _ _ [97] [97] wr3 ((TX_w8.out.below hB3).zero HUX.out).1 ho3.reads (by decide) (by decide))
          | (go_at_call 13; refine HE1.out.mono ?_; rintro e wr2 ⟨rfl, q2, hw2⟩; have hB2 : Below w8.heap.size w8 wr2 := by rw [hw2]; exact below_drewN hB1 q2
             have y02 : wr2.cell? ⟨GX, 0, none⟩ = some (.slice aX 1 cX) := ((X_w8.out.below hB2).cell 0).trans resL_0; have y22 : wr2.cell? ⟨GX, 2, none⟩ = some (.slice a0X 1 c0X) := ((X_w8.out.below hB2).cell 2).trans (resL_r0 hlX HUX.out); (try clear hw2))
          | (go_at_call 12; refine (HOF.out ⟨#[98]⟩ [98] (by decide) (by decide) w8.drew).mono ?_; rintro e wr1 ⟨hb1, ar1, cr1, rfl, ho1⟩; have hB1 : Below w8.heap.size w8 wr1 := below_trans HBX0.out hb1 (Nat.le_refl _); have y01 : wr1.cell? ⟨GX, 0, none⟩ = some (.slice aX 1 cX) := ((X_w8.out.below hB1).cell 0).trans resL_0; have y21 : wr1.cell? ⟨GX, 2, none⟩ = some (.slice a0X 1 c0X) := ((X_w8.out.below hB1).cell 2).trans (resL_r0 hlX HUX.out); have HE1 : Hid (Calls Try.prog 13 #[.slice aX 1 cX, .slice ar1 1 cr1] wr1 fun e w' => e = .returned (.bool true) ∧ ∃ q, w' = wr1.drewN q) := equal_any _ _ [98] [98] wr1 (TX_w8.out.below hB1).1 ho1.reads (by decide) (by decide)))
    all_goals (
      go_wp2_with fail
      go_meet
      case rel => exact ⟨rfl, hB4⟩)
  case rest =>
    obtain ⟨rfl, Hbc⟩ := hcut
    have HB_wc : Hid (Below w.heap.size w wc) := below_trans HB_w8.out Hbc.out HB_w8.out.size
    have A_wc : Hid (BoxC wc 24 w.heap.size [.slice a zs.length cap, .int .i64 k]) := A_w8.out.below Hbc.out
    have R_wc : Hid (BoxC wc 31 GR vs) := R_w8.out.below Hbc.out
    have F_wc : Hid (BoxC wc 33 GF [.int .i64 fk, .int .i64 fa]) := F_w8.out.below Hbc.out
    have C_wc : Hid (BoxC wc 35 GC [.int .i64 c, .int .i64 r, .int .i64 o, .int .i64 v, .int .i64 g]) := C_w8.out.below Hbc.out
    have TX_wc : Hid (Told wc aX cX uX eX dX ⟨[98], 0, (nilT.set 0 [97]).set 0 [97], 0, 0, 0⟩ (ups (btw [97, 98] [98]))) := TX_w8.out.below Hbc.out
    have X_wc : Hid (BoxC wc 38 GX (resL (.slice aX 1 cX) 0 uX 0 0 0 (.slice eX (ups (btw [97, 98] [98])).length dX))) := X_w8.out.below Hbc.out
    clear A_w8 R_w8 F_w8 C_w8 TX_w8 X_w8 HB_w8
    clear Hbc
    clear TX_wc
    clear X_wc
    go_wp2_with (first | (refine loadC rfl 24 _ rfl w.heap.size rfl [.slice a zs.length cap, .int .i64 k] A_wc.out wide_line ?_) | (refine loadC rfl 31 _ rfl GR rfl vs R_wc.out (by rw [hvs]; exact wide_regs) ?_) | (refine loadC rfl 33 _ rfl GF rfl [.int .i64 fk, .int .i64 fa] F_wc.out wide_find ?_) | (refine loadC rfl 35 _ rfl GC rfl [.int .i64 c, .int .i64 r, .int .i64 o, .int .i64 v, .int .i64 g] C_wc.out wide_cmd ?_))
    refine (HD.out _ HB_wc.out).mono ?_
    rintro e w9 ⟨hb, aY, cY, uY, eY, dY, a0Y, c0Y, rfl, hT, hS, hu⟩
    have HB_w9 : Hid (Below w.heap.size w w9) := below_trans HB_wc.out hb HB_wc.out.size
    have A_w9 : Hid (BoxC w9 24 w.heap.size [.slice a zs.length cap, .int .i64 k]) := A_wc.out.below hb
    have R_w9 : Hid (BoxC w9 31 GR vs) := R_wc.out.below hb
    have F_w9 : Hid (BoxC w9 33 GF [.int .i64 fk, .int .i64 fa]) := F_wc.out.below hb
    have C_w9 : Hid (BoxC w9 35 GC [.int .i64 c, .int .i64 r, .int .i64 o, .int .i64 v, .int .i64 g]) := C_wc.out.below hb
    clear A_wc R_wc F_wc C_wc HB_wc
    have TY_w9 : Hid (Told w9 aY cY uY eY dY ⟨T, L, ts2, fk2, fa2, M⟩ es) := hT
    clear hb hT
    have hlY : uY.length = 27 := hS.1
    have HSY : Hid (AllSl uY) := hS
    have HUY : Hid (uY[0]? = some (.slice a0Y (ts2.getD 0 []).length c0Y)) := hu
    clear hS hu
    (try dsimp only)
    go_wp2_with (refine allocC rfl 38 rfl nulL nul_zero ?_)
    intro w10 ha hb
    go_wp2_with (refine storeC rfl 38 _ _ rfl w9.heap.size rfl nulL (resL (.slice aY T.length cY) L uY fk2 fa2 M (.slice eY es.length dY)) rfl ha (by rw [resL_len hlY]; exact wide_res) (resL_one HSY.out rfl rfl) (by rw [nul_len, resL_len hlY]) ?_)
    intro w11 hz hg
    have hb8 : Below w9.heap.size w9 w11 := hb.grown hg hb.size (fun j hj => by cases hj; exact Nat.le_refl _)
    have HLGY : Hid (w.heap.size ≤ w9.heap.size ∧ w.heap.size < w9.heap.size ∧ GR < w9.heap.size ∧ GF < w9.heap.size ∧ GC < w9.heap.size) := ⟨HB_w9.out.size, A_w9.out.lt, R_w9.out.lt, F_w9.out.lt, C_w9.out.lt⟩
    have HB_w11 : Hid (Below w.heap.size w w11) := below_trans HB_w9.out hb8 HB_w9.out.size
    have A_w11 : Hid (BoxC w11 24 w.heap.size [.slice a zs.length cap, .int .i64 k]) := A_w9.out.below hb8
    have R_w11 : Hid (BoxC w11 31 GR vs) := R_w9.out.below hb8
    have F_w11 : Hid (BoxC w11 33 GF [.int .i64 fk, .int .i64 fa]) := F_w9.out.below hb8
    have C_w11 : Hid (BoxC w11 35 GC [.int .i64 c, .int .i64 r, .int .i64 o, .int .i64 v, .int .i64 g]) := C_w9.out.below hb8
    have TY_w11 : Hid (Told w11 aY cY uY eY dY ⟨T, L, ts2, fk2, fa2, M⟩ es) := TY_w9.out.below hb8
    clear A_w9 R_w9 F_w9 C_w9 TY_w9 HB_w9
    have Y_w11 : Hid (BoxC w11 38 w9.heap.size (resL (.slice aY T.length cY) L uY fk2 fa2 M (.slice eY es.length dY))) := hz
    clear ha hb hz hg hb8 w10
    generalize w9.heap.size = GY at *
    by_cases he : E = 0
    rotate_left
    · have hb1 : (E != 0) = true := by simpa using he
      obtain ⟨rfl, rfl, rfl, rfl, rfl, rfl⟩ : T = [] ∧ L = 0 ∧ ts2 = nilT ∧ fk2 = 0 ∧ fa2 = 0 ∧ M = 0 := by have q := HNUL.out he; unfold nulR at q; simpa using q
      obtain rfl : es = [] := by rw [HES.out, if_neg he]
      have yY0 : w11.cell? ⟨GY, 0, none⟩ = some (.slice aY 0 cY) := (Y_w11.out.cell 0).trans resL_0
      have yY31 : w11.cell? ⟨GY, 31, none⟩ = some (.int .i64 0) := (Y_w11.out.cell 31).trans (resL_end hlY 2)
      have yY32 : w11.cell? ⟨GY, 32, none⟩ = some (.slice eY 0 dY) := (Y_w11.out.cell 32).trans (resL_end hlY 3)
      go_wp2_with (fail)
      go_ret
      exact ⟨rfl, HB_w11.out⟩
    subst he
    obtain ⟨hz, ht, hL0, hL⟩ := HIN.out rfl
    rw [if_pos rfl] at HES
    have HAP : Hid (∀ wx, Below w.heap.size w wx → ReadsE wx (.slice eY es.length dY) es → Calls Try.prog 14 #[.slice a zs.length cap, .slice eY es.length dY] wx fun e w' => ApplyPost T wx e w') := fun wx hx he => by
      have q := apply_ok (.slice a zs.length cap) (.slice eY es.length dY) zs (btw zs T) wx (HV.out _ hx) (HES.out ▸ he) (btw_right zs T (by omega) (by omega))
      rw [btw_app] at q
      exact q
    have hwr : IntKind.i64.wrap ((T.length : Int) - 1) = (T.length : Int) - 1 := by rw [IntKind.wrap_i64]; omega
    have hmax : max 0 ((T.length : Int) - 1) = lastP T.length := by unfold lastP; omega
    have ht2 : (T.length : Int) ≤ 200 := by omega
    have HTL : Hid (T.length ≤ maxLen) := below_len ht
    by_cases hm : M = 0
    · subst hm
      rw [if_pos rfl] at hL
      have yY0 : w11.cell? ⟨GY, 0, none⟩ = some (.slice aY T.length cY) := (Y_w11.out.cell 0).trans resL_0
      have yY1 : w11.cell? ⟨GY, 1, none⟩ = some (.int .i64 L) := (Y_w11.out.cell 1).trans resL_1
      have yY31 : w11.cell? ⟨GY, 31, none⟩ = some (.int .i64 0) := (Y_w11.out.cell 31).trans (resL_end hlY 2)
      have yY32 : w11.cell? ⟨GY, 32, none⟩ = some (.slice eY es.length dY) := (Y_w11.out.cell 32).trans (resL_end hlY 3)
      have cA0 : w11.cell? ⟨w.heap.size, 0, none⟩ = some (.slice a zs.length cap) := (A_w11.out.cell 0).trans rfl
      go_wp2_with (fail)
      refine (HAP.out _ HB_w11.out TY_w11.out.2.2).mono ?_
      rintro e w12 ⟨hb, v5, rfl, ho⟩
      have HB_w12 : Hid (Below w.heap.size w w12) := below_trans HB_w11.out hb HB_w11.out.size
      have A_w12 : Hid (BoxC w12 24 w.heap.size [.slice a zs.length cap, .int .i64 k]) := A_w11.out.below hb
      have R_w12 : Hid (BoxC w12 31 GR vs) := R_w11.out.below hb
      have F_w12 : Hid (BoxC w12 33 GF [.int .i64 fk, .int .i64 fa]) := F_w11.out.below hb
      have C_w12 : Hid (BoxC w12 35 GC [.int .i64 c, .int .i64 r, .int .i64 o, .int .i64 v, .int .i64 g]) := C_w11.out.below hb
      have TY_w12 : Hid (Told w12 aY cY uY eY dY ⟨T, L, ts2, fk2, fa2, 0⟩ es) := TY_w11.out.below hb
      have Y_w12 : Hid (BoxC w12 38 GY (resL (.slice aY T.length cY) L uY fk2 fa2 0 (.slice eY es.length dY))) := Y_w11.out.below hb
      clear A_w11 R_w11 F_w11 C_w11 TY_w11 Y_w11 HB_w11
      clear yY0 yY1 yY31 yY32 cA0
      have hrd := ho.reads
      obtain ⟨a5, c5, rfl⟩ := hrd.shape
      have HE : Hid (Calls Try.prog 13 #[.slice a5 T.length c5, .slice aY T.length cY] w12 fun e w' => e = .returned (.bool true) ∧ ∃ q, w' = w12.drewN q) := by
        have q := equal_any (.slice a5 T.length c5) (.slice aY T.length cY) T T w12 hrd TY_w12.out.1 HTL.out HTL.out
        rw [beq_self_eq_true] at q
        exact q
      clear hb ho hrd
      have yY0 : w12.cell? ⟨GY, 0, none⟩ = some (.slice aY T.length cY) := (Y_w12.out.cell 0).trans resL_0
      have yY1 : w12.cell? ⟨GY, 1, none⟩ = some (.int .i64 L) := (Y_w12.out.cell 1).trans resL_1
      go_wp2_with (fail)
      refine HE.out.mono ?_
      rintro e w9 ⟨rfl, q9, hw9⟩
      have hb9 : Below w12.heap.size w12 w9 := by rw [hw9]; exact below_drewN (Below.refl _ _) q9
      have HB_w9 : Hid (Below w.heap.size w w9) := below_trans HB_w12.out hb9 HB_w12.out.size
      have A_w9 : Hid (BoxC w9 24 w.heap.size [.slice a zs.length cap, .int .i64 k]) := A_w12.out.below hb9
      have R_w9 : Hid (BoxC w9 31 GR vs) := R_w12.out.below hb9
      have F_w9 : Hid (BoxC w9 33 GF [.int .i64 fk, .int .i64 fa]) := F_w12.out.below hb9
      have C_w9 : Hid (BoxC w9 35 GC [.int .i64 c, .int .i64 r, .int .i64 o, .int .i64 v, .int .i64 g]) := C_w12.out.below hb9
      have TY_w9 : Hid (Told w9 aY cY uY eY dY ⟨T, L, ts2, fk2, fa2, 0⟩ es) := TY_w12.out.below hb9
      have Y_w9 : Hid (BoxC w9 38 GY (resL (.slice aY T.length cY) L uY fk2 fa2 0 (.slice eY es.length dY))) := Y_w12.out.below hb9
      clear A_w12 R_w12 F_w12 C_w12 TY_w12 Y_w12 HB_w12
      clear hw9 hb9 HE
      have yY0z : w9.cell? ⟨GY, 0, none⟩ = some (.slice aY T.length cY) := (Y_w9.out.cell 0).trans resL_0
      have yY1z : w9.cell? ⟨GY, 1, none⟩ = some (.int .i64 L) := (Y_w9.out.cell 1).trans resL_1
      have hL2 : L ≤ max 0 ((T.length : Int) - 1) := by rw [hmax]; exact hL
      go_wp2_with (fail)
      go_ret
      exact ⟨by first | rfl | (simp only [Value.bool.injEq, Ending.returned.injEq]; simp; omega), HB_w9.out⟩
    · have hm2 : (M != 0) = true := by simpa using hm
      rw [if_neg hm] at hL
      have yY0 : w11.cell? ⟨GY, 0, none⟩ = some (.slice aY T.length cY) := (Y_w11.out.cell 0).trans resL_0
      have yY1 : w11.cell? ⟨GY, 1, none⟩ = some (.int .i64 L) := (Y_w11.out.cell 1).trans resL_1
      have yY31 : w11.cell? ⟨GY, 31, none⟩ = some (.int .i64 M) := (Y_w11.out.cell 31).trans (resL_end hlY 2)
      have yY32 : w11.cell? ⟨GY, 32, none⟩ = some (.slice eY es.length dY) := (Y_w11.out.cell 32).trans (resL_end hlY 3)
      have cA0 : w11.cell? ⟨w.heap.size, 0, none⟩ = some (.slice a zs.length cap) := (A_w11.out.cell 0).trans rfl
      go_wp2_with (fail)
      refine (HAP.out _ HB_w11.out TY_w11.out.2.2).mono ?_
      rintro e w12 ⟨hb, v5, rfl, ho⟩
      have HB_w12 : Hid (Below w.heap.size w w12) := below_trans HB_w11.out hb HB_w11.out.size
      have A_w12 : Hid (BoxC w12 24 w.heap.size [.slice a zs.length cap, .int .i64 k]) := A_w11.out.below hb
      have R_w12 : Hid (BoxC w12 31 GR vs) := R_w11.out.below hb
      have F_w12 : Hid (BoxC w12 33 GF [.int .i64 fk, .int .i64 fa]) := F_w11.out.below hb
      have C_w12 : Hid (BoxC w12 35 GC [.int .i64 c, .int .i64 r, .int .i64 o, .int .i64 v, .int .i64 g]) := C_w11.out.below hb
      have TY_w12 : Hid (Told w12 aY cY uY eY dY ⟨T, L, ts2, fk2, fa2, M⟩ es) := TY_w11.out.below hb
      have Y_w12 : Hid (BoxC w12 38 GY (resL (.slice aY T.length cY) L uY fk2 fa2 M (.slice eY es.length dY))) := Y_w11.out.below hb
      clear A_w11 R_w11 F_w11 C_w11 TY_w11 Y_w11 HB_w11
      clear yY0 yY1 yY31 yY32 cA0
      have hrd := ho.reads
      obtain ⟨a5, c5, rfl⟩ := hrd.shape
      have HE : Hid (Calls Try.prog 13 #[.slice a5 T.length c5, .slice aY T.length cY] w12 fun e w' => e = .returned (.bool true) ∧ ∃ q, w' = w12.drewN q) := by
        have q := equal_any (.slice a5 T.length c5) (.slice aY T.length cY) T T w12 hrd TY_w12.out.1 HTL.out HTL.out
        rw [beq_self_eq_true] at q
        exact q
      clear hb ho hrd
      have yY0 : w12.cell? ⟨GY, 0, none⟩ = some (.slice aY T.length cY) := (Y_w12.out.cell 0).trans resL_0
      have yY1 : w12.cell? ⟨GY, 1, none⟩ = some (.int .i64 L) := (Y_w12.out.cell 1).trans resL_1
      go_wp2_with (fail)
      refine HE.out.mono ?_
      rintro e w9 ⟨rfl, q9, hw9⟩
      have hb9 : Below w12.heap.size w12 w9 := by rw [hw9]; exact below_drewN (Below.refl _ _) q9
      have HB_w9 : Hid (Below w.heap.size w w9) := below_trans HB_w12.out hb9 HB_w12.out.size
      have A_w9 : Hid (BoxC w9 24 w.heap.size [.slice a zs.length cap, .int .i64 k]) := A_w12.out.below hb9
      have R_w9 : Hid (BoxC w9 31 GR vs) := R_w12.out.below hb9
      have F_w9 : Hid (BoxC w9 33 GF [.int .i64 fk, .int .i64 fa]) := F_w12.out.below hb9
      have C_w9 : Hid (BoxC w9 35 GC [.int .i64 c, .int .i64 r, .int .i64 o, .int .i64 v, .int .i64 g]) := C_w12.out.below hb9
      have TY_w9 : Hid (Told w9 aY cY uY eY dY ⟨T, L, ts2, fk2, fa2, M⟩ es) := TY_w12.out.below hb9
      have Y_w9 : Hid (BoxC w9 38 GY (resL (.slice aY T.length cY) L uY fk2 fa2 M (.slice eY es.length dY))) := Y_w12.out.below hb9
      clear A_w12 R_w12 F_w12 C_w12 TY_w12 Y_w12 HB_w12
      clear hw9 hb9 HE
      have yY0z : w9.cell? ⟨GY, 0, none⟩ = some (.slice aY T.length cY) := (Y_w9.out.cell 0).trans resL_0
      have yY1z : w9.cell? ⟨GY, 1, none⟩ = some (.int .i64 L) := (Y_w9.out.cell 1).trans resL_1
      skip
      go_wp2_with (fail)
      go_ret
      exact ⟨by first | rfl | (simp only [Value.bool.injEq, Ending.returned.injEq]; simp; omega), HB_w9.out⟩
end Go.Proofs.Ytpgjaoemkadenaa.Seek


/- EditBounds: whatever is done, what comes of it is a line of at most 200 characters, with its place in it (with its end, too, in a mode other than Command); its Edit makes the new text of the old one; where it fails, nothing comes of it. -/
set_option linter.unusedVariables false
set_option linter.unusedSimpArgs false
set_option maxRecDepth 100000
namespace Go.Proofs.Ytpgjaoemkadenaa.editBounds
open Go.ChangeShapes Go.WideShapes Go.ChangeAt Go.RowKit
open Seek

theorem lifted (os : Os) (started : os.Started) (H : Type) (enc : TypeId × Value → H) :
    ReturnsInHanded {} Try.checked os 4 .any (Rows.editBoundsSpec.pre6 enc Try.prog Try.f4 Rows.editBoundsRow.domain false) (Rows.editBoundsSpec.post enc Try.prog Try.f4 false true false false) := by
  refine returnsInHanded_of_change_sized (C := Try.checked) own started (by kernel_rfl) Try.func4
    (ChangeSpec.witness6 (enc := enc) (C := Try.checked) false ⟨#[], #[.agg #[.slice none 0 0, .int .i64 0], .agg #[.slice none 0 0, .slice none 0 0, .slice none 0 0, .slice none 0 0, .slice none 0 0, .slice none 0 0, .slice none 0 0, .slice none 0 0, .slice none 0 0, .slice none 0 0, .slice none 0 0, .slice none 0 0, .slice none 0 0, .slice none 0 0, .slice none 0 0, .slice none 0 0, .slice none 0 0, .slice none 0 0, .slice none 0 0, .slice none 0 0, .slice none 0 0, .slice none 0 0, .slice none 0 0, .slice none 0 0, .slice none 0 0, .slice none 0 0, .slice none 0 0], .agg #[.int .i64 0, .int .i64 0], .agg #[.int .i64 0, .int .i64 0, .int .i64 0, .int .i64 0, .int .i64 0]], []⟩ 8 (by kernel_rfl) (by kernel_rfl) (by kernel_rfl) (by kernel_rfl)) ?_
  intro W base args ds gs before hval0 hW _ hsz0 _
  have hsz : (DataW.weightsEach Try.prog (Try.f4.params.toList ++ Rows.editBoundsSpec.plain.varTypes Try.prog) (ds ++ gs)).all (· ≤ reachBytes) = true := hsz0
  clear hsz0
  have hval : ∀ (j : Nat) t v, Try.f4.params[j]? = some t → args[j]? = some v → Value.okWide Try.prog W .any base t v := hval0
  have hW' := hW
  obtain ⟨p, q, hA0, hV, rfl, _, _⟩ := hW
  have hA : DataW.TrodAll enc Try.prog W 0 (fun _ => true) true Try.f4.params.toList args.toList ds p := hA0
  rw [Try.params4] at hA hval hsz
  obtain ⟨v0, vs0, d0, ds0, p0, q0, hargs, rfl, rfl, h0, r0⟩ := trodAll_cons hA
  obtain ⟨v1, vs1, d1, ds1, p1, q1, rfl, rfl, rfl, h1, r1⟩ := trodAll_cons r0
  obtain ⟨v2, vs2, d2, ds2, p2, q2, rfl, rfl, rfl, h2, r2⟩ := trodAll_cons r1
  obtain ⟨v3, vs3, d3, ds3, p3, q3, rfl, rfl, rfl, h3, r3⟩ := trodAll_cons r2
  obtain ⟨rfl, rfl, rfl⟩ := trodAll_nil r3
  obtain rfl : args = #[v0, v1, v2, v3] := by cases args; simp_all
  obtain ⟨rfl, rfl⟩ := trodVars_none hV
  obtain ⟨x2a, x2b, rfl, rfl⟩ := open_find (hval 2 33 v2 rfl rfl) h2
  obtain ⟨x3a, x3b, x3c, x3d, x3e, rfl, rfl⟩ := open_cmd (hval 3 35 v3 rfl rfl) h3
  clear hA0 hval0
  simp only [List.append_nil, List.nil_append] at hW'
  have hlt0 : ∀ y ∈ p0, y.block < W.heap.size := fun y hy => by simpa using hW'.lt y (List.mem_append_left _ hy)
  have hargs0 : ∀ (W' : World), Below W.heap.size W W' → DataW.Trod enc Try.prog W' 0 (fun b => decide (b < W.heap.size)) true 24 v0 d0 p0 :=
    fun W' hn => Below.trod laidOut (by kernel_rfl) (of_decide_eq_true (by kernel_rfl)) h0 hn hlt0
  have hw0 : ∀ n ∈ d0.weights Try.prog 24, n ≤ reachBytes := fun n hn => of_decide_eq_true (List.all_eq_true.1 hsz _ (DataW.weights_mem_each (j := 0) rfl rfl n hn))
  obtain ⟨a0, cap0, zs0, k0, rfl, hr0, hm0⟩ := open_line (hval 0 24 v0 rfl rfl) h0 hlt0 hw0
  have hlt1 : ∀ y ∈ p1, y.block < W.heap.size := fun y hy => by simpa using hW'.lt y (List.mem_append_right _ hy)
  have hargs1 : ∀ (W' : World), Below W.heap.size W W' → DataW.Trod enc Try.prog W' 0 (fun b => decide (b < W.heap.size)) true 31 v1 d1 p1 :=
    fun W' hn => Below.trod laidOut (by kernel_rfl) (of_decide_eq_true (by kernel_rfl)) h1 hn hlt1
  have hw1 : ∀ n ∈ d1.weights Try.prog 31, n ≤ reachBytes := fun n hn => of_decide_eq_true (List.all_eq_true.1 hsz _ (DataW.weights_mem_each (j := 1) rfl rfl n hn))
  obtain ⟨us1, ts1, rfl, hR1⟩ := open_regs (hval 1 31 v1 rfl rfl) h1 hlt1 hw1
  have hargs2 : ∀ (W' : World), Below W.heap.size W W' → DataW.Trod enc Try.prog W' 0 (fun b => decide (b < W.heap.size)) true 33 (.agg #[.int .i64 x2a, .int .i64 x2b]) d2 [] :=
    fun W' hn => Below.trod laidOut (by kernel_rfl) (of_decide_eq_true (by kernel_rfl)) h2 hn (fun y hy => by cases hy)
  have hargs3 : ∀ (W' : World), Below W.heap.size W W' → DataW.Trod enc Try.prog W' 0 (fun b => decide (b < W.heap.size)) true 35 (.agg #[.int .i64 x3a, .int .i64 x3b, .int .i64 x3c, .int .i64 x3d, .int .i64 x3e]) d3 [] :=
    fun W' hn => Below.trod laidOut (by kernel_rfl) (of_decide_eq_true (by kernel_rfl)) h3 hn (fun y hy => by cases hy)
  refine (boundsW a0 cap0 zs0 k0 us1 ts1 x2a x2b x3a x3b x3c x3d x3e W hr0 hm0 hR1).mono fun e W' ⟨he, hb⟩ => ?_
  subst he
  exact ⟨_, rfl, _, _, _, [], p0 ++ p1, [], hW', trodAll_cons_mk (shut_bool Try.underlying4 _) trodAll_mk0,
    by
      have := trodAll_cons_mk (hargs0 _ hb) (trodAll_cons_mk (hargs1 _ hb) (trodAll_cons_mk (hargs2 _ hb) (trodAll_cons_mk (hargs3 _ hb) trodAll_mk0)))
      simp only [List.append_nil, List.nil_append] at this
      exact this,
    rfl, hb.frame _, fun h => by cases h⟩

theorem over : Rows.EditBoundsSaid :=
  OpenClaim.holds_of_wide 4 Try.f4 rfl rfl rfl rfl rfl rfl rfl ⟨rfl, rfl, rfl, rfl, rfl⟩ rfl rfl rfl rfl rfl (by kernel_rfl) Try.func4 (by kernel_rfl)
    (of_decide_eq_true (by kernel_rfl)) (by unfold Func.isWrapper; first | (rw [if_pos (by decide +kernel)]; kernel_rfl) | (rw [if_neg (by decide +kernel)]; exact ⟨rfl, rfl⟩))
    (fun os started H enc _ => lifted os started H enc)
end Go.Proofs.Ytpgjaoemkadenaa.editBounds
namespace Go.Proofs.Ytpgjaoemkadenaa
theorem editBounds_holds : Rows.EditBoundsSaid := editBounds.over
#print axioms editBounds_holds
end Go.Proofs.Ytpgjaoemkadenaa
