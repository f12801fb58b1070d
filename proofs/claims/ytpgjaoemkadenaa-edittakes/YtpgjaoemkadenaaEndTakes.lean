/- EditTakes: whatever comes in, what an operator took out of a line is in the register without a name, and put back where it was it makes the line again; to take a copy changes nothing. -/
import Derived.Test.YtpgjaoemkadenaaM27
import Derived.Test.YtpgjaoemkadenaaM28
import Derived.Deep.RegionHeld3
/- The walk of EditTakes. -/
set_option linter.unusedVariables false
set_option linter.unusedSimpArgs false
set_option maxRecDepth 100000
namespace Go.Proofs.Ytpgjaoemkadenaa.Seek
open Go.RowKit Plain


theorem ex_takes (a : Option Addr) (c : Nat) (w : World) (h : Reads w (.slice a 4 c) [97, 98, 32, 99]) :
    Calls Try.prog 11 #[.agg #[.slice a 4 c, .int .i64 3], .agg nils.toArray, .agg #[.int .i64 0, .int .i64 0], .agg #[.int .i64 0, .int .i64 0, .int .i64 100, .int .i64 98, .int .i64 0]] w fun q w' => TellPost (⟨[99], 0, ((nilT.set 0 [97, 98, 32]).set 0 [97, 98, 32]), 0, 0, 0⟩, 0) (ups (btw [97, 98, 32, 99] [99])) w q w' :=
  do_tell a c [97, 98, 32, 99] 3 nils nilT 0 0 0 0 100 98 0 w h (readsR_nil w) _ (by kernel_rfl) _ rfl


set_option maxHeartbeats 4000000 in
theorem takesW (a : Option Addr) (cap : Nat) (zs : List Int) (k : Int) (fk fa c r o v g : Int) (w : World) (h : Reads w (.slice a zs.length cap) zs) (hm : Mild zs) :
    Calls Try.prog 5 #[.agg #[.slice a zs.length cap, .int .i64 k], .agg #[.int .i64 fk, .int .i64 fa], .agg #[.int .i64 c, .int .i64 r, .int .i64 o, .int .i64 v, .int .i64 g]] w fun e w' => e = .returned (.bool true) ∧ Below w.heap.size w w' := by
  obtain ⟨X, hX⟩ : ∃ X, X = doe ⟨zs, k, nilT, fk, fa, 0⟩ c 0 o v g := ⟨_, rfl⟩
  have hta : o ≠ 0 → X.2 = 0 → _ := fun p q => doe_takes zs k fk fa c o v g p X hX q
  have hin : X.2 = 0 → _ := fun q => doe_in zs k nilT fk fa c 0 o v g X hX q
  obtain ⟨⟨T, L, ts2, fk2, fa2, M⟩, E⟩ := X
  obtain ⟨es, hes⟩ : ∃ es, es = if E = 0 then ups (btw zs T) else [] := ⟨_, rfl⟩
  obtain ⟨K, hK⟩ : ∃ K, K = ts2.getD 0 [] := ⟨_, rfl⟩
  have HD : Hid (∀ wx, Below w.heap.size w wx → Calls Try.prog 11 #[.agg #[.slice a zs.length cap, .int .i64 k], .agg nils.toArray, .agg #[.int .i64 fk, .int .i64 fa], .agg #[.int .i64 c, .int .i64 0, .int .i64 o, .int .i64 v, .int .i64 g]] wx fun q w' => TellPost (⟨T, L, ts2, fk2, fa2, M⟩, E) es wx q w') := fun wx hx => do_tell a cap zs k nils nilT fk fa c 0 o v g wx (h.below hx) (readsR_nil wx) _ hX _ hes
  have HTA : Hid (o ≠ 0 → E = 0 → (o = 121 → T = zs ∧ K ≠ []) ∧ (o ≠ 121 → K.length + T.length = zs.length ∧ ∃ f, f ≤ T.length ∧ T.take f ++ K ++ T.drop f = zs)) := by rw [hK]; exact hta
  have HIN : Hid (E = 0 → zs.length ≤ 200) := fun q => (hin q).1
  have HES : Hid (es = if E = 0 then ups (btw zs T) else []) := hes
  have HK : Hid (ts2.getD 0 [] = K) := hK.symm
  clear hX hta hin hes hK hm
  have HV : Hid (∀ wx, Below w.heap.size w wx → Reads wx (.slice a zs.length cap) zs) := fun wx hx => h.below hx
  go_enter Try.func5, Try.ntmps5
  go_wp2_with (refine boxC rfl 24 _ rfl [.slice a zs.length cap, .int .i64 k] rfl ?_)
  intro w1 ha hb
  have HB_w1 : Hid (Below w.heap.size w w1) := hb
  have A_w1 : Hid (BoxC w1 24 w.heap.size [.slice a zs.length cap, .int .i64 k]) := ha
  clear ha hb
  go_wp2_with (refine boxC rfl 33 _ rfl [.int .i64 fk, .int .i64 fa] rfl ?_)
  intro w2 ha hb
  have HLGF : Hid (w.heap.size ≤ w1.heap.size ∧ w.heap.size < w1.heap.size) := ⟨HB_w1.out.size, A_w1.out.lt⟩
  have HB_w2 : Hid (Below w.heap.size w w2) := below_trans HB_w1.out hb HB_w1.out.size
  have A_w2 : Hid (BoxC w2 24 w.heap.size [.slice a zs.length cap, .int .i64 k]) := A_w1.out.below hb
  clear A_w1 HB_w1
  have F_w2 : Hid (BoxC w2 33 w1.heap.size [.int .i64 fk, .int .i64 fa]) := ha
  clear ha hb
  generalize w1.heap.size = GF at *
  go_wp2_with (refine boxC rfl 35 _ rfl [.int .i64 c, .int .i64 r, .int .i64 o, .int .i64 v, .int .i64 g] rfl ?_)
  intro w3 ha hb
  have HLGC : Hid (w.heap.size ≤ w2.heap.size ∧ w.heap.size < w2.heap.size ∧ GF < w2.heap.size) := ⟨HB_w2.out.size, A_w2.out.lt, F_w2.out.lt⟩
  have HB_w3 : Hid (Below w.heap.size w w3) := below_trans HB_w2.out hb HB_w2.out.size
  have A_w3 : Hid (BoxC w3 24 w.heap.size [.slice a zs.length cap, .int .i64 k]) := A_w2.out.below hb
  have F_w3 : Hid (BoxC w3 33 GF [.int .i64 fk, .int .i64 fa]) := F_w2.out.below hb
  clear A_w2 F_w2 HB_w2
  have C_w3 : Hid (BoxC w3 35 w2.heap.size [.int .i64 c, .int .i64 r, .int .i64 o, .int .i64 v, .int .i64 g]) := ha
  clear ha hb
  generalize w2.heap.size = GC at *
  clear h
  go_wp2_with (fail)
  refine (of_reads _ [97, 98, 32, 99] (by decide) w3 (by decide)).mono ?_
  rintro e w4 ⟨hb, a1, c1, rfl, ho⟩
  have HB_w4 : Hid (Below w.heap.size w w4) := below_trans HB_w3.out hb HB_w3.out.size
  have A_w4 : Hid (BoxC w4 24 w.heap.size [.slice a zs.length cap, .int .i64 k]) := A_w3.out.below hb
  have F_w4 : Hid (BoxC w4 33 GF [.int .i64 fk, .int .i64 fa]) := F_w3.out.below hb
  have C_w4 : Hid (BoxC w4 35 GC [.int .i64 c, .int .i64 r, .int .i64 o, .int .i64 v, .int .i64 g]) := C_w3.out.below hb
  clear A_w3 F_w3 C_w3 HB_w3
  have O1_w4 : Hid (Reads w4 (.slice a1 4 c1) [97, 98, 32, 99]) := ho.reads
  clear hb ho
  go_wp2_with (first | (refine buildC rfl 31 _ rfl nils (by kernel_rfl) ?_))
  refine (ex_takes _ _ _ O1_w4.out).mono ?_
  rintro e w5 ⟨hb, aX, cX, uX, eX, dX, a0X, c0X, rfl, hT, hS, hu⟩
  have HB_w5 : Hid (Below w.heap.size w w5) := below_trans HB_w4.out hb HB_w4.out.size
  have A_w5 : Hid (BoxC w5 24 w.heap.size [.slice a zs.length cap, .int .i64 k]) := A_w4.out.below hb
  have F_w5 : Hid (BoxC w5 33 GF [.int .i64 fk, .int .i64 fa]) := F_w4.out.below hb
  have C_w5 : Hid (BoxC w5 35 GC [.int .i64 c, .int .i64 r, .int .i64 o, .int .i64 v, .int .i64 g]) := C_w4.out.below hb
  have O1_w5 : Hid (Reads w5 (.slice a1 4 c1) [97, 98, 32, 99]) := O1_w4.out.below hb
  clear A_w4 F_w4 C_w4 O1_w4 HB_w4
  have TX_w5 : Hid (Told w5 aX cX uX eX dX ⟨[99], 0, (nilT.set 0 [97, 98, 32]).set 0 [97, 98, 32], 0, 0, 0⟩ (ups (btw [97, 98, 32, 99] [99]))) := hT
  clear hb hT
  have hlX : uX.length = 27 := hS.1
  have HSX : Hid (AllSl uX) := hS
  have HUX : Hid (uX[0]? = some (.slice a0X 3 c0X)) := hu
  clear hS hu
  (try dsimp only)
  go_wp2_with (refine allocC rfl 38 rfl nulL nul_zero ?_)
  intro w6 ha hb
  go_wp2_with (refine storeC rfl 38 _ _ rfl w5.heap.size rfl nulL (resL (.slice aX 1 cX) 0 uX 0 0 0 (.slice eX (ups (btw [97, 98, 32, 99] [99])).length dX)) rfl ha (by rw [resL_len hlX]; exact wide_res) (resL_one HSX.out rfl rfl) (by rw [nul_len, resL_len hlX]) ?_)
  intro w7 hz hg
  have hb8 : Below w5.heap.size w5 w7 := hb.grown hg hb.size (fun j hj => by cases hj; exact Nat.le_refl _)
  have HLGX : Hid (w.heap.size ≤ w5.heap.size ∧ w.heap.size < w5.heap.size ∧ GF < w5.heap.size ∧ GC < w5.heap.size) := ⟨HB_w5.out.size, A_w5.out.lt, F_w5.out.lt, C_w5.out.lt⟩
  have HB_w7 : Hid (Below w.heap.size w w7) := below_trans HB_w5.out hb8 HB_w5.out.size
  have A_w7 : Hid (BoxC w7 24 w.heap.size [.slice a zs.length cap, .int .i64 k]) := A_w5.out.below hb8
  have F_w7 : Hid (BoxC w7 33 GF [.int .i64 fk, .int .i64 fa]) := F_w5.out.below hb8
  have C_w7 : Hid (BoxC w7 35 GC [.int .i64 c, .int .i64 r, .int .i64 o, .int .i64 v, .int .i64 g]) := C_w5.out.below hb8
  have O1_w7 : Hid (Reads w7 (.slice a1 4 c1) [97, 98, 32, 99]) := O1_w5.out.below hb8
  have TX_w7 : Hid (Told w7 aX cX uX eX dX ⟨[99], 0, (nilT.set 0 [97, 98, 32]).set 0 [97, 98, 32], 0, 0, 0⟩ (ups (btw [97, 98, 32, 99] [99]))) := TX_w5.out.below hb8
  clear A_w5 F_w5 C_w5 O1_w5 TX_w5 HB_w5
  have X_w7 : Hid (BoxC w7 38 w5.heap.size (resL (.slice aX 1 cX) 0 uX 0 0 0 (.slice eX (ups (btw [97, 98, 32, 99] [99])).length dX))) := hz
  clear ha hb hz hg hb8 w6
  generalize w5.heap.size = GX at *
  clear O1_w7
  go_upto_region 2 with fail
  go_cut [31] from 22 to 31 (fun s31 wx => s31 = .bool false ∧ Hid (Below w7.heap.size w7 wx))
  case first =>
    have y20 : w7.cell? ⟨GX, 2, none⟩ = some (.slice a0X 3 c0X) := (X_w7.out.cell 2).trans (resL_r0 hlX HUX.out)
    have HBX0 : Hid (Below w7.heap.size w7 w7.drew) := below_drewN (Below.refl _ _) 1
    have HOF : Hid (∀ (s : ByteArray) (xs : List Int), codes s = xs → s.size ≤ 4096 → ∀ wx, Calls Try.prog 12 #[.string s] wx fun e w' => Below wx.heap.size wx w' ∧ ∃ a c, e = .returned (.slice a xs.length c) ∧ Own w' wx.heap.size (.slice a xs.length c) xs) := fun s xs hx hs wx => of_reads s xs hx wx hs
    go_region_with (first
          | (go_at_call 12; refine (HOF.out ⟨#[97, 98, 32]⟩ [97, 98, 32] (by decide) (by decide) w7.drew).mono ?_; rintro e wr1 ⟨hb1, ar1, cr1, rfl, ho1⟩; have hB1 : Below w7.heap.size w7 wr1 := below_trans HBX0.out hb1 (Nat.le_refl _); have y21 : wr1.cell? ⟨GX, 2, none⟩ = some (.slice a0X 3 c0X) := ((X_w7.out.below hB1).cell 2).trans (resL_r0 hlX HUX.out); have HE1 : Hid (Calls Try.prog 13 #[.slice a0X 3 c0X, .slice ar1 3 cr1] wr1 fun e w' => e = .returned (.bool true) ∧ ∃ q, w' = wr1.drewN q) := equal_any _ _ [97, 98, 32] [97, 98, 32] wr1 ((TX_w7.out.below hB1).zero HUX.out).1 ho1.reads (by decide) (by decide))
          | (go_at_call 13; refine HE1.out.mono ?_; rintro e wr2 ⟨rfl, q2, hw2⟩; have hB2 : Below w7.heap.size w7 wr2 := by rw [hw2]; exact below_drewN hB1 q2
             have y22 : wr2.cell? ⟨GX, 2, none⟩ = some (.slice a0X 3 c0X) := ((X_w7.out.below hB2).cell 2).trans (resL_r0 hlX HUX.out); (try clear hw2)))
    all_goals (
      go_wp2_with fail
      go_meet
      case rel => exact ⟨rfl, hB2⟩)
  case rest =>
    obtain ⟨rfl, Hbc⟩ := hcut
    have HB_wc : Hid (Below w.heap.size w wc) := below_trans HB_w7.out Hbc.out HB_w7.out.size
    have A_wc : Hid (BoxC wc 24 w.heap.size [.slice a zs.length cap, .int .i64 k]) := A_w7.out.below Hbc.out
    have F_wc : Hid (BoxC wc 33 GF [.int .i64 fk, .int .i64 fa]) := F_w7.out.below Hbc.out
    have C_wc : Hid (BoxC wc 35 GC [.int .i64 c, .int .i64 r, .int .i64 o, .int .i64 v, .int .i64 g]) := C_w7.out.below Hbc.out
    have TX_wc : Hid (Told wc aX cX uX eX dX ⟨[99], 0, (nilT.set 0 [97, 98, 32]).set 0 [97, 98, 32], 0, 0, 0⟩ (ups (btw [97, 98, 32, 99] [99]))) := TX_w7.out.below Hbc.out
    have X_wc : Hid (BoxC wc 38 GX (resL (.slice aX 1 cX) 0 uX 0 0 0 (.slice eX (ups (btw [97, 98, 32, 99] [99])).length dX))) := X_w7.out.below Hbc.out
    clear A_w7 F_w7 C_w7 TX_w7 X_w7 HB_w7
    clear Hbc
    clear TX_wc
    clear X_wc
    have cC1 : wc.cell? ⟨GC, 1, none⟩ = some (.int .i64 r) := (C_wc.out.cell 1).trans rfl
    have cC2 : wc.cell? ⟨GC, 2, none⟩ = some (.int .i64 o) := (C_wc.out.cell 2).trans rfl
    by_cases ho : o = 0
    · subst ho
      go_wp2_with (fail)
      go_ret
      exact ⟨rfl, HB_wc.out⟩
    have hob : (o == 0) = false := beq_eq_false_iff_ne.2 ho
    by_cases hr : r = 0
    rotate_left
    · have hrb : (r != 0) = true := by simpa using hr
      go_wp2_with (fail)
      go_ret
      exact ⟨rfl, HB_wc.out⟩
    subst hr
    go_wp2_with (first | (refine buildC rfl 31 _ rfl nils (by kernel_rfl) ?_) | (refine loadC rfl 24 _ rfl w.heap.size rfl [.slice a zs.length cap, .int .i64 k] A_wc.out wide_line ?_) | (refine loadC rfl 33 _ rfl GF rfl [.int .i64 fk, .int .i64 fa] F_wc.out wide_find ?_) | (refine loadC rfl 35 _ rfl GC rfl [.int .i64 c, .int .i64 0, .int .i64 o, .int .i64 v, .int .i64 g] C_wc.out wide_cmd ?_))
    clear cC1 cC2
    have HDK : Hid (∀ wx, Below w.heap.size w wx → Calls Try.prog 11 #[.agg #[.slice a zs.length cap, .int .i64 k], .agg nils.toArray, .agg #[.int .i64 fk, .int .i64 fa], .agg #[.int .i64 c, .int .i64 0, .int .i64 o, .int .i64 v, .int .i64 g]] wx fun q w' => Below wx.heap.size wx w' ∧ ∃ a c us ea ec a0 c0, q = .returned (.tuple #[.agg (resL (.slice a T.length c) L us fk2 fa2 M (.slice ea es.length ec)).toArray, .int .i64 E]) ∧ Told w' a c us ea ec ⟨T, L, ts2, fk2, fa2, M⟩ es ∧ AllSl us ∧ us[0]? = some (.slice a0 K.length c0)) := by
      intro wx hx
      have q := HD.out wx hx
      unfold TellPost at q
      dsimp only at q
      rw [HK.out] at q
      exact q
    refine (HDK.out _ HB_wc.out).mono ?_
    rintro e w8 ⟨hb, aY, cY, uY, eY, dY, a0Y, c0Y, rfl, hT, hS, hu⟩
    have HB_w8 : Hid (Below w.heap.size w w8) := below_trans HB_wc.out hb HB_wc.out.size
    have A_w8 : Hid (BoxC w8 24 w.heap.size [.slice a zs.length cap, .int .i64 k]) := A_wc.out.below hb
    have F_w8 : Hid (BoxC w8 33 GF [.int .i64 fk, .int .i64 fa]) := F_wc.out.below hb
    have C_w8 : Hid (BoxC w8 35 GC [.int .i64 c, .int .i64 0, .int .i64 o, .int .i64 v, .int .i64 g]) := C_wc.out.below hb
    clear A_wc F_wc C_wc HB_wc
    have TY_w8 : Hid (Told w8 aY cY uY eY dY ⟨T, L, ts2, fk2, fa2, M⟩ es) := hT
    clear hb hT
    have hlY : uY.length = 27 := hS.1
    have HSY : Hid (AllSl uY) := hS
    have HUY : Hid (uY[0]? = some (.slice a0Y K.length c0Y)) := hu
    clear hS hu
    (try dsimp only)
    go_wp2_with (refine allocC rfl 38 rfl nulL nul_zero ?_)
    intro w9 ha hb
    go_wp2_with (refine storeC rfl 38 _ _ rfl w8.heap.size rfl nulL (resL (.slice aY T.length cY) L uY fk2 fa2 M (.slice eY es.length dY)) rfl ha (by rw [resL_len hlY]; exact wide_res) (resL_one HSY.out rfl rfl) (by rw [nul_len, resL_len hlY]) ?_)
    intro w10 hz hg
    have hb8 : Below w8.heap.size w8 w10 := hb.grown hg hb.size (fun j hj => by cases hj; exact Nat.le_refl _)
    have HLGY : Hid (w.heap.size ≤ w8.heap.size ∧ w.heap.size < w8.heap.size ∧ GF < w8.heap.size ∧ GC < w8.heap.size) := ⟨HB_w8.out.size, A_w8.out.lt, F_w8.out.lt, C_w8.out.lt⟩
    have HB_w10 : Hid (Below w.heap.size w w10) := below_trans HB_w8.out hb8 HB_w8.out.size
    have A_w10 : Hid (BoxC w10 24 w.heap.size [.slice a zs.length cap, .int .i64 k]) := A_w8.out.below hb8
    have F_w10 : Hid (BoxC w10 33 GF [.int .i64 fk, .int .i64 fa]) := F_w8.out.below hb8
    have C_w10 : Hid (BoxC w10 35 GC [.int .i64 c, .int .i64 0, .int .i64 o, .int .i64 v, .int .i64 g]) := C_w8.out.below hb8
    have TY_w10 : Hid (Told w10 aY cY uY eY dY ⟨T, L, ts2, fk2, fa2, M⟩ es) := TY_w8.out.below hb8
    clear A_w8 F_w8 C_w8 TY_w8 HB_w8
    have Y_w10 : Hid (BoxC w10 38 w8.heap.size (resL (.slice aY T.length cY) L uY fk2 fa2 M (.slice eY es.length dY))) := hz
    clear ha hb hz hg hb8 w9
    generalize w8.heap.size = GY at *
    by_cases he : E = 0
    rotate_left
    · have hb1 : (E != 0) = true := by simpa using he
      go_wp2_with (fail)
      go_ret
      exact ⟨rfl, HB_w10.out⟩
    subst he
    have hz := HIN.out rfl
    obtain ⟨htake1, htake2⟩ := HTA.out ho rfl
    rw [if_pos rfl] at HES
    have HRK : Hid (∀ wx, Below w10.heap.size w10 wx → Reads wx (.slice a0Y K.length c0Y) K) := fun wx hx => by have q := ((TY_w10.out.below hx).zero HUY.out).1; dsimp only at q; rw [HK.out] at q; exact q
    have HBY : Hid (w.heap.size ≤ w10.heap.size) := HB_w10.out.size
    have RK_w10 : Hid (Reads w10 (.slice a0Y K.length c0Y) K) := HRK.out _ (Below.refl _ _)
    have cC2 : w10.cell? ⟨GC, 2, none⟩ = some (.int .i64 o) := (C_w10.out.cell 2).trans rfl
    have cA0 : w10.cell? ⟨w.heap.size, 0, none⟩ = some (.slice a zs.length cap) := (A_w10.out.cell 0).trans rfl
    have yY0 : w10.cell? ⟨GY, 0, none⟩ = some (.slice aY T.length cY) := (Y_w10.out.cell 0).trans resL_0
    have yY2 : w10.cell? ⟨GY, 2, none⟩ = some (.slice a0Y K.length c0Y) := (Y_w10.out.cell 2).trans (resL_r0 hlY HUY.out)
    have yY32 : w10.cell? ⟨GY, 32, none⟩ = some (.slice eY es.length dY) := (Y_w10.out.cell 32).trans (resL_end hlY 3)
    by_cases h121 : o = 121
    · subst h121
      obtain ⟨hTz, hKn⟩ := htake1 rfl
      subst hTz
      obtain rfl : es = [] := by rw [HES.out]; unfold btw; rw [if_pos rfl]; rfl
      have hK0 : 0 < K.length := List.length_pos_iff.2 hKn
      have hK1 : (K.length : Int) > 0 := by omega
      have HE : Hid (∀ wx, Below w10.heap.size w10 wx → Calls Try.prog 13 #[.slice aY T.length cY, .slice a T.length cap] wx fun e w' => e = .returned (.bool true) ∧ Below wx.heap.size wx w') := fun wx hx => equal_go _ _ T T wx ((TY_w10.out.1).below hx) (HV.out _ (below_trans HB_w10.out hx HB_w10.out.size)) (by unfold maxLen; omega) (by unfold maxLen; omega) true (by simp)
      go_wp2_with (fail)
      refine (HE.out _ (Below.refl _ _)).mono ?_
      rintro e w11 ⟨rfl, hb⟩
      have HB_w11 : Hid (Below w.heap.size w w11) := below_trans HB_w10.out hb HB_w10.out.size
      have A_w11 : Hid (BoxC w11 24 w.heap.size [.slice a T.length cap, .int .i64 k]) := A_w10.out.below hb
      have F_w11 : Hid (BoxC w11 33 GF [.int .i64 fk, .int .i64 fa]) := F_w10.out.below hb
      have C_w11 : Hid (BoxC w11 35 GC [.int .i64 c, .int .i64 0, .int .i64 121, .int .i64 v, .int .i64 g]) := C_w10.out.below hb
      have TY_w11 : Hid (Told w11 aY cY uY eY dY ⟨T, L, ts2, fk2, fa2, M⟩ ([] : List Spl)) := TY_w10.out.below hb
      have Y_w11 : Hid (BoxC w11 38 GY (resL (.slice aY T.length cY) L uY fk2 fa2 M (.slice eY ([] : List Spl).length dY))) := Y_w10.out.below hb
      have RK_w11 : Hid (Reads w11 (.slice a0Y K.length c0Y) K) := RK_w10.out.below hb
      clear A_w10 F_w10 C_w10 TY_w10 Y_w10 RK_w10 HB_w10
      clear hb
      have yY32z : w11.cell? ⟨GY, 32, none⟩ = some (.slice eY 0 dY) := (Y_w11.out.cell 32).trans (resL_end hlY 3)
      go_wp2_with (fail)
      go_ret
      exact ⟨rfl, HB_w11.out⟩
    obtain ⟨hlen, f, hf, hfz⟩ := htake2 h121
    have HF : Hid (f ≤ T.length ∧ T.take f ++ K ++ T.drop f = zs) := ⟨hf, hfz⟩
    clear hf hfz htake1 htake2
    have hob2 : (o == 121) = false := beq_eq_false_iff_ne.2 h121
    have hw1 : IntKind.i64.wrap ((K.length : Int) + (T.length : Int)) = (zs.length : Int) := by rw [IntKind.wrap_i64]; omega
    have hw2 : IntKind.i64.wrap ((T.length : Int) + 1) = (T.length : Int) + 1 := by rw [IntKind.wrap_i64]; omega
    go_wp2_with (fail)
    clear cC2 cA0 yY0 yY2 yY32
    go_loopw [89] (fun u89 wl => ∃ i : Nat, u89 = .int .i64 (i : Int) ∧ i ≤ f ∧ Hid (Below w.heap.size w wl) ∧ Hid (BoxC wl 24 w.heap.size [.slice a zs.length cap, .int .i64 k]) ∧ Hid (BoxC wl 33 GF [.int .i64 fk, .int .i64 fa]) ∧ Hid (BoxC wl 35 GC [.int .i64 c, .int .i64 0, .int .i64 o, .int .i64 v, .int .i64 g]) ∧ Hid (Told wl aY cY uY eY dY ⟨T, L, ts2, fk2, fa2, M⟩ es) ∧ Hid (BoxC wl 38 GY (resL (.slice aY T.length cY) L uY fk2 fa2 M (.slice eY es.length dY))) ∧ Hid (Reads wl (.slice a0Y K.length c0Y) K)) (fun u89 _ => T.length + 1 - (intOf u89).toNat)
    case atStart => exact ⟨0, rfl, Nat.zero_le _, HB_w10, A_w10, F_w10, C_w10, TY_w10, Y_w10, RK_w10⟩
    case round =>
      obtain ⟨i, rfl, hif, HB_wr, A_wr, F_wr, C_wr, TY_wr, Y_wr, RK_wr⟩ := hrel
      clear A_w10 F_w10 C_w10 TY_w10 Y_w10 RK_w10 HB_w10
      have hfl := HF.out.1
      have hilt : (i : Int) < (T.length : Int) + 1 := by omega
      have hwi : IntKind.i64.wrap ((i : Int) + 1) = (i : Int) + 1 := by rw [IntKind.wrap_i64]; omega
      obtain ⟨A0, hA, hL0, hR0, hcap⟩ := cut_two (TY_wr.out.1) i i (Nat.le_refl _) (by show i ≤ T.length; omega)
      dsimp only at hR0 hcap
      have hic : (i : Int) ≤ (cY : Int) := by omega
      have hin : (i : Int) ≤ (T.length : Int) := by omega
      have HLR : Hid (Reads wr (.slice aY i cY) (T.take i) ∧ Reads wr (.slice A0 (T.length - i) (cY - i)) (T.drop i)) := ⟨hL0, hR0⟩
      clear hL0 hR0 hcap
      obtain ⟨J, hJ⟩ : ∃ J, J = T.take i ++ K ++ T.drop i := ⟨_, rfl⟩
      have HJl : Hid (J.length = zs.length) := by show _ = _; rw [hJ, List.length_append, List.length_append, List.length_take, List.length_drop]; omega
      have HJ : Hid (J = T.take i ++ K ++ T.drop i) := hJ
      have HJf : Hid (i = f → J = zs) := fun q => by rw [hJ, q]; exact HF.out.2
      clear hJ
      obtain ⟨bq, hbq⟩ : ∃ bq, bq = (J == zs) := ⟨_, rfl⟩
      have HQ : Hid ((J == zs) = bq) := hbq.symm
      clear hbq
      have HZl : Hid (zs.length ≤ 200) := hz
      go_upto_region 17 with fail
      have HCS : Hid (∀ w', Below wr.heap.size wr w' → w'.cell? ⟨GY, 0, none⟩ = some (.slice aY T.length cY) ∧ w'.cell? ⟨w.heap.size, 0, none⟩ = some (.slice a zs.length cap)) := fun w' hb => ⟨((Y_wr.out.below hb).cell 0).trans resL_0, ((A_wr.out.below hb).cell 0).trans rfl⟩
      have HCC : Hid (Calls Try.prog 15 #[.slice (some ⟨wr.heap.size, 0, none⟩) 3 3] (wr.alloc (.cells #[.slice aY i cY, .slice a0Y K.length c0Y, .slice A0 (T.length - i) (cY - i)] 22)).drew fun e w' => ConcatPost J (wr.alloc (.cells #[.slice aY i cY, .slice a0Y K.length c0Y, .slice A0 (T.length - i) (cY - i)] 22)).drew e w') := by
        have hB : Below wr.heap.size wr (wr.alloc (.cells #[.slice aY i cY, .slice a0Y K.length c0Y, .slice A0 (T.length - i) (cY - i)] 22)).drew := below_drewN (box_below _ _) 1
        have hj : joined (fun i2 => match i2 with | 0 => T.take i | 1 => K | _ => T.drop i) 3 = J := by rw [HJ.out]; simp [joined]
        have q := concat_any wr.heap.size 3 3 (fun i2 => match i2 with | 0 => .slice aY i cY | 1 => .slice a0Y K.length c0Y | _ => .slice A0 (T.length - i) (cY - i)) (fun i2 => match i2 with | 0 => T.take i | 1 => K | _ => T.drop i) (wr.alloc (.cells #[.slice aY i cY, .slice a0Y K.length c0Y, .slice A0 (T.length - i) (cY - i)] 22)).drew (by decide) (by show wr.heap.size < (wr.alloc _).heap.size; rw [size_alloc]; omega)
          (fun i2 hi => by
            match i2, hi with
            | 0, _ => exact new_cells wr [.slice aY i cY, .slice a0Y K.length c0Y, .slice A0 (T.length - i) (cY - i)] _ 0 _ rfl
            | 1, _ => exact new_cells wr [.slice aY i cY, .slice a0Y K.length c0Y, .slice A0 (T.length - i) (cY - i)] _ 1 _ rfl
            | 2, _ => exact new_cells wr [.slice aY i cY, .slice a0Y K.length c0Y, .slice A0 (T.length - i) (cY - i)] _ 2 _ rfl)
          (fun i2 hi => by
            match i2, hi with
            | 0, _ => exact HLR.out.1.below hB
            | 1, _ => exact RK_wr.out.below hB
            | 2, _ => exact HLR.out.2.below hB) (by rw [hj, HJl.out]; have := HZl.out; omega)
        rw [hj] at q
        exact q
      go_region_held3 (fun w' => w'.cell? ⟨GY, 0, none⟩ = some (.slice aY T.length cY) ∧ w'.cell? ⟨w.heap.size, 0, none⟩ = some (.slice a zs.length cap))
        ((refine HCS.out _ ?_; (repeat (first | assumption | exact Below.refl _ _ | refine below_dr ?_ | refine below_al ?_ _ | (refine below_st ?_ (by exact Nat.le_refl _) _)))))
        (first
        | (go_at_call 15; refine HCC.out.mono ?_; rintro e w9 ⟨hb9, v9, rfl, ho9⟩; have hB9 : Below wr.heap.size wr w9 := below_trans (below_drewN (box_below _ _) 1) hb9 (below_drewN (box_below _ _) 1).size; have hr9 := ho9.reads; obtain ⟨a9, c9, hv9⟩ := hr9.shape; subst hv9; have HEq : Hid (Calls Try.prog 13 #[.slice a9 J.length c9, .slice a zs.length cap] w9 fun e w' => e = .returned (.bool bq) ∧ Below w9.heap.size w9 w') := (equal_go _ _ J zs w9 hr9 (HV.out _ (below_trans HB_wr.out hB9 HB_wr.out.size)) (by rw [HJl.out]; have := HZl.out; unfold maxLen; omega) (by have := HZl.out; unfold maxLen; omega) bq HQ.out))
        | (go_at_call 13; refine HEq.out.mono ?_; rintro e w10 ⟨rfl, hb10⟩; have hB10 : Below wr.heap.size wr w10 := below_trans hB9 hb10 hB9.size))
      all_goals (
        have HB_wz : Hid (Below w.heap.size w w10) := below_trans HB_wr.out hB10 HB_wr.out.size
        have A_wz : Hid (BoxC w10 24 w.heap.size [.slice a zs.length cap, .int .i64 k]) := A_wr.out.below hB10
        have F_wz : Hid (BoxC w10 33 GF [.int .i64 fk, .int .i64 fa]) := F_wr.out.below hB10
        have C_wz : Hid (BoxC w10 35 GC [.int .i64 c, .int .i64 0, .int .i64 o, .int .i64 v, .int .i64 g]) := C_wr.out.below hB10
        have TY_wz : Hid (Told w10 aY cY uY eY dY ⟨T, L, ts2, fk2, fa2, M⟩ es) := TY_wr.out.below hB10
        have Y_wz : Hid (BoxC w10 38 GY (resL (.slice aY T.length cY) L uY fk2 fa2 M (.slice eY es.length dY))) := Y_wr.out.below hB10
        have RK_wz : Hid (Reads w10 (.slice a0Y K.length c0Y) K) := RK_wr.out.below hB10
        cases bq with
        | true =>
          go_wp2_with fail
          go_ret
          exact ⟨rfl, HB_wz.out⟩
        | false =>
          have hne : i ≠ f := fun q => by have h1 := HJf.out q; have h2 := HQ.out; rw [h1, beq_self_eq_true] at h2; cases h2
          go_wp2_with fail
          go_roundw
          case rel => exact ⟨i + 1, by go_num, by omega, HB_wz, A_wz, F_wz, C_wz, TY_wz, Y_wz, RK_wz⟩
          case measure => simp [intOf] <;> omega)
end Go.Proofs.Ytpgjaoemkadenaa.Seek


/- EditTakes: whatever comes in, what an operator took out of a line is in the register without a name, and put back where it was it makes the line again; to take a copy changes nothing. -/
set_option linter.unusedVariables false
set_option linter.unusedSimpArgs false
set_option maxRecDepth 100000
namespace Go.Proofs.Ytpgjaoemkadenaa.editTakes
open Go.ChangeShapes Go.WideShapes Go.ChangeAt Go.RowKit
open Seek

theorem lifted (os : Os) (started : os.Started) (H : Type) (enc : TypeId × Value → H) :
    ReturnsInHanded {} Try.checked os 5 .any (Rows.editTakesSpec.pre6 enc Try.prog Try.f5 Rows.editTakesRow.domain false) (Rows.editTakesSpec.post enc Try.prog Try.f5 false true false false) := by
  refine returnsInHanded_of_change_sized (C := Try.checked) own started (by kernel_rfl) Try.func5
    (ChangeSpec.witness6 (enc := enc) (C := Try.checked) false ⟨#[], #[.agg #[.slice none 0 0, .int .i64 0], .agg #[.int .i64 0, .int .i64 0], .agg #[.int .i64 0, .int .i64 0, .int .i64 0, .int .i64 0, .int .i64 0]], []⟩ 8 (by kernel_rfl) (by kernel_rfl) (by kernel_rfl) (by kernel_rfl)) ?_
  intro W base args ds gs before hval0 hW _ hsz0 _
  have hsz : (DataW.weightsEach Try.prog (Try.f5.params.toList ++ Rows.editTakesSpec.plain.varTypes Try.prog) (ds ++ gs)).all (· ≤ reachBytes) = true := hsz0
  clear hsz0
  have hval : ∀ (j : Nat) t v, Try.f5.params[j]? = some t → args[j]? = some v → Value.okWide Try.prog W .any base t v := hval0
  have hW' := hW
  obtain ⟨p, q, hA0, hV, rfl, _, _⟩ := hW
  have hA : DataW.TrodAll enc Try.prog W 0 (fun _ => true) true Try.f5.params.toList args.toList ds p := hA0
  rw [Try.params5] at hA hval hsz
  obtain ⟨v0, vs0, d0, ds0, p0, q0, hargs, rfl, rfl, h0, r0⟩ := trodAll_cons hA
  obtain ⟨v1, vs1, d1, ds1, p1, q1, rfl, rfl, rfl, h1, r1⟩ := trodAll_cons r0
  obtain ⟨v2, vs2, d2, ds2, p2, q2, rfl, rfl, rfl, h2, r2⟩ := trodAll_cons r1
  obtain ⟨rfl, rfl, rfl⟩ := trodAll_nil r2
  obtain rfl : args = #[v0, v1, v2] := by cases args; simp_all
  obtain ⟨rfl, rfl⟩ := trodVars_none hV
  obtain ⟨x1a, x1b, rfl, rfl⟩ := open_find (hval 1 33 v1 rfl rfl) h1
  obtain ⟨x2a, x2b, x2c, x2d, x2e, rfl, rfl⟩ := open_cmd (hval 2 35 v2 rfl rfl) h2
  clear hA0 hval0
  simp only [List.append_nil, List.nil_append] at hW'
  have hlt0 : ∀ y ∈ p0, y.block < W.heap.size := fun y hy => by simpa using hW'.lt y hy
  have hargs0 : ∀ (W' : World), Below W.heap.size W W' → DataW.Trod enc Try.prog W' 0 (fun b => decide (b < W.heap.size)) true 24 v0 d0 p0 :=
    fun W' hn => Below.trod laidOut (by kernel_rfl) (of_decide_eq_true (by kernel_rfl)) h0 hn hlt0
  have hw0 : ∀ n ∈ d0.weights Try.prog 24, n ≤ reachBytes := fun n hn => of_decide_eq_true (List.all_eq_true.1 hsz _ (DataW.weights_mem_each (j := 0) rfl rfl n hn))
  obtain ⟨a0, cap0, zs0, k0, rfl, hr0, hm0⟩ := open_line (hval 0 24 v0 rfl rfl) h0 hlt0 hw0
  have hargs1 : ∀ (W' : World), Below W.heap.size W W' → DataW.Trod enc Try.prog W' 0 (fun b => decide (b < W.heap.size)) true 33 (.agg #[.int .i64 x1a, .int .i64 x1b]) d1 [] :=
    fun W' hn => Below.trod laidOut (by kernel_rfl) (of_decide_eq_true (by kernel_rfl)) h1 hn (fun y hy => by cases hy)
  have hargs2 : ∀ (W' : World), Below W.heap.size W W' → DataW.Trod enc Try.prog W' 0 (fun b => decide (b < W.heap.size)) true 35 (.agg #[.int .i64 x2a, .int .i64 x2b, .int .i64 x2c, .int .i64 x2d, .int .i64 x2e]) d2 [] :=
    fun W' hn => Below.trod laidOut (by kernel_rfl) (of_decide_eq_true (by kernel_rfl)) h2 hn (fun y hy => by cases hy)
  refine (takesW a0 cap0 zs0 k0 x1a x1b x2a x2b x2c x2d x2e W hr0 hm0).mono fun e W' ⟨he, hb⟩ => ?_
  subst he
  exact ⟨_, rfl, _, _, _, [], p0, [], hW', trodAll_cons_mk (shut_bool Try.underlying4 _) trodAll_mk0,
    by
      have := trodAll_cons_mk (hargs0 _ hb) (trodAll_cons_mk (hargs1 _ hb) (trodAll_cons_mk (hargs2 _ hb) trodAll_mk0))
      simp only [List.append_nil, List.nil_append] at this
      exact this,
    rfl, hb.frame _, fun h => by cases h⟩

theorem over : Rows.EditTakesSaid :=
  OpenClaim.holds_of_wide 5 Try.f5 rfl rfl rfl rfl rfl rfl rfl ⟨rfl, rfl, rfl, rfl, rfl⟩ rfl rfl rfl rfl rfl (by kernel_rfl) Try.func5 (by kernel_rfl)
    (of_decide_eq_true (by kernel_rfl)) (by unfold Func.isWrapper; first | (rw [if_pos (by decide +kernel)]; kernel_rfl) | (rw [if_neg (by decide +kernel)]; exact ⟨rfl, rfl⟩))
    (fun os started H enc _ => lifted os started H enc)
end Go.Proofs.Ytpgjaoemkadenaa.editTakes
namespace Go.Proofs.Ytpgjaoemkadenaa
theorem editTakes_holds : Rows.EditTakesSaid := editTakes.over
#print axioms editTakes_holds
end Go.Proofs.Ytpgjaoemkadenaa
