/- EditPaste: whatever comes in, what was deleted into the register without a name and at once put back makes the line as it was. -/
import Derived.Test.YtpgjaoemkadenaaM27
import Derived.Test.YtpgjaoemkadenaaM28
/- The walk of EditPaste. -/
set_option linter.unusedVariables false
set_option linter.unusedSimpArgs false
set_option maxRecDepth 100000
namespace Go.Proofs.Ytpgjaoemkadenaa.Seek
open Go.RowKit Plain


theorem ex_del (a : Option Addr) (c : Nat) (w : World) (h : Reads w (.slice a 2 c) [97, 98]) :
    Calls Try.prog 11 #[.agg #[.slice a 2 c, .int .i64 0], .agg nils.toArray, .agg #[.int .i64 0, .int .i64 0], .agg #[.int .i64 0, .int .i64 0, .int .i64 100, .int .i64 100, .int .i64 0]] w fun q w' => TellPost (⟨[], 0, ((nilT.set 0 [97, 98]).set 0 [97, 98]), 0, 0, 0⟩, 0) (ups (btw [97, 98] [])) w q w' :=
  do_tell a c [97, 98] 0 nils nilT 0 0 0 0 100 100 0 w h (readsR_nil w) _ (by kernel_rfl) _ rfl


theorem ex_back (a : Option Addr) (c : Nat) (vs : List Value) (w : World) (h : Reads w (.slice a 0 c) []) (hr : ReadsR w vs ((nilT.set 0 [97, 98]).set 0 [97, 98])) :
    Calls Try.prog 11 #[.agg #[.slice a 0 c, .int .i64 0], .agg vs.toArray, .agg #[.int .i64 0, .int .i64 0], .agg #[.int .i64 0, .int .i64 0, .int .i64 0, .int .i64 80, .int .i64 0]] w fun q w' => TellPost (⟨[97, 98], 1, ((nilT.set 0 [97, 98]).set 0 [97, 98]), 0, 0, 0⟩, 0) (ups (btw [] [97, 98])) w q w' :=
  do_tell a c [] 0 vs ((nilT.set 0 [97, 98]).set 0 [97, 98]) 0 0 0 0 0 80 0 w h hr _ (by kernel_rfl) _ rfl


set_option maxHeartbeats 4000000 in
theorem pasteW (a : Option Addr) (cap : Nat) (zs : List Int) (k : Int) (fk fa c r o v g : Int) (w : World) (h : Reads w (.slice a zs.length cap) zs) (hm : Mild zs) :
    Calls Try.prog 6 #[.agg #[.slice a zs.length cap, .int .i64 k], .agg #[.int .i64 fk, .int .i64 fa], .agg #[.int .i64 c, .int .i64 r, .int .i64 o, .int .i64 v, .int .i64 g]] w fun e w' => e = .returned (.bool true) ∧ Below w.heap.size w w' := by
  obtain ⟨X, hX⟩ : ∃ X, X = doe ⟨zs, k, nilT, fk, fa, 0⟩ c 0 100 v g := ⟨_, rfl⟩
  have hpa : X.2 = 0 → ∀ key : Int, _ := fun q key hk => doe_paste zs k fk fa c v g X hX q key hk
  have hta : X.2 = 0 → _ := fun q => (doe_takes zs k fk fa c 100 v g (by decide) X hX q).2 (by decide)
  have hin : X.2 = 0 → _ := fun q => doe_in zs k nilT fk fa c 0 100 v g X hX q
  obtain ⟨⟨T, L, ts2, fk2, fa2, M⟩, E⟩ := X
  obtain ⟨es, hes⟩ : ∃ es, es = if E = 0 then ups (btw zs T) else [] := ⟨_, rfl⟩
  obtain ⟨K, hK⟩ : ∃ K, K = ts2.getD 0 [] := ⟨_, rfl⟩
  have HDK : Hid (∀ wx, Below w.heap.size w wx → Calls Try.prog 11 #[.agg #[.slice a zs.length cap, .int .i64 k], .agg nils.toArray, .agg #[.int .i64 fk, .int .i64 fa], .agg #[.int .i64 c, .int .i64 0, .int .i64 100, .int .i64 v, .int .i64 g]] wx fun q w' => Below wx.heap.size wx w' ∧ ∃ a c us ea ec a0 c0, q = .returned (.tuple #[.agg (resL (.slice a T.length c) L us fk2 fa2 M (.slice ea es.length ec)).toArray, .int .i64 E]) ∧ Told w' a c us ea ec ⟨T, L, ts2, fk2, fa2, M⟩ es ∧ AllSl us ∧ us[0]? = some (.slice a0 K.length c0)) := by
    intro wx hx
    have q := do_tell a cap zs k nils nilT fk fa c 0 100 v g wx (h.below hx) (readsR_nil wx) _ hX _ hes
    unfold TellPost at q
    dsimp only at q
    rw [← hK] at q
    exact q
  have HPA : Hid (E = 0 → ∀ key : Int, (key = if 0 < T.length ∧ L = (T.length : Int) - 1 ∧ T = zs.take T.length ∧ K = zs.drop T.length then 112 else 80) → (doe ⟨T, L, ts2, fk, fa, 0⟩ 0 0 0 key 0).2 = 0 ∧ (doe ⟨T, L, ts2, fk, fa, 0⟩ 0 0 0 key 0).1.text = zs) := by rw [hK]; exact hpa
  have HTA : Hid (E = 0 → K.length + T.length = zs.length) := by rw [hK]; exact fun q => (hta q).1
  have HIN : Hid (E = 0 → zs.length ≤ 200 ∧ 0 ≤ L ∧ L ≤ 200) := fun q => by have h2 := hin q; dsimp only at h2; refine ⟨h2.1, h2.2.2.1, ?_⟩; have h3 := h2.2.2.2; unfold lastP at h3; split at h3 <;> omega
  have HK : Hid (ts2.getD 0 [] = K) := hK.symm
  clear hX hpa hta hin hes hK hm
  have HV : Hid (∀ wx, Below w.heap.size w wx → Reads wx (.slice a zs.length cap) zs) := fun wx hx => h.below hx
  go_enter Try.func6, Try.ntmps6
  go_wp2_with (refine boxC rfl 24 _ rfl [.slice a zs.length cap, .int .i64 k] rfl ?_)
  intro w1 ha hb
  have HB_w1 : Hid (Below w.heap.size w w1) := hb
  have A_w1 : Hid (BoxC w1 24 w.heap.size [.slice a zs.length cap, .int .i64 k]) := ha
  clear ha hb
  go_wp2_with (refine boxC rfl 33 _ rfl [.int .i64 fk, .int .i64 fa] rfl ?_)
  intro w2 ha hb
  have HLGF : Hid (w.heap.size ≤ w1.heap.size ∧ w.heap.size < w1.heap.size) := ⟨HB_w1.out.size, A_w1.out.lt⟩
  have HB_w2 : Hid (Below w.heap.size w w2) := below_trans HB_w1.out hb HB_w1.out.size
  have A_w2 : Hid (BoxC w2 24 w.heap.size [.slice a zs.length cap, .int .i64 k]) := A_w1.out.below hb
  clear A_w1 HB_w1
  have F_w2 : Hid (BoxC w2 33 w1.heap.size [.int .i64 fk, .int .i64 fa]) := ha
  clear ha hb
  generalize w1.heap.size = GF at *
  go_wp2_with (refine boxC rfl 35 _ rfl [.int .i64 c, .int .i64 r, .int .i64 o, .int .i64 v, .int .i64 g] rfl ?_)
  intro w3 ha hb
  have HLGC : Hid (w.heap.size ≤ w2.heap.size ∧ w.heap.size < w2.heap.size ∧ GF < w2.heap.size) := ⟨HB_w2.out.size, A_w2.out.lt, F_w2.out.lt⟩
  have HB_w3 : Hid (Below w.heap.size w w3) := below_trans HB_w2.out hb HB_w2.out.size
  have A_w3 : Hid (BoxC w3 24 w.heap.size [.slice a zs.length cap, .int .i64 k]) := A_w2.out.below hb
  have F_w3 : Hid (BoxC w3 33 GF [.int .i64 fk, .int .i64 fa]) := F_w2.out.below hb
  clear A_w2 F_w2 HB_w2
  have C_w3 : Hid (BoxC w3 35 w2.heap.size [.int .i64 c, .int .i64 r, .int .i64 o, .int .i64 v, .int .i64 g]) := ha
  clear ha hb
  generalize w2.heap.size = GC at *
  clear h
  go_wp2_with (fail)
  refine (of_reads _ [97, 98] (by decide) w3 (by decide)).mono ?_
  rintro e w4 ⟨hb, a1, c1, rfl, ho⟩
  have HB_w4 : Hid (Below w.heap.size w w4) := below_trans HB_w3.out hb HB_w3.out.size
  have A_w4 : Hid (BoxC w4 24 w.heap.size [.slice a zs.length cap, .int .i64 k]) := A_w3.out.below hb
  have F_w4 : Hid (BoxC w4 33 GF [.int .i64 fk, .int .i64 fa]) := F_w3.out.below hb
  have C_w4 : Hid (BoxC w4 35 GC [.int .i64 c, .int .i64 r, .int .i64 o, .int .i64 v, .int .i64 g]) := C_w3.out.below hb
  clear A_w3 F_w3 C_w3 HB_w3
  have O1_w4 : Hid (Reads w4 (.slice a1 2 c1) [97, 98]) := ho.reads
  clear hb ho
  go_wp2_with (first | (refine buildC rfl 31 _ rfl nils (by kernel_rfl) ?_))
  refine (ex_del _ _ _ O1_w4.out).mono ?_
  rintro e w5 ⟨hb, aX, cX, uX, eX, dX, a0X, c0X, rfl, hT, hS, hu⟩
  have HB_w5 : Hid (Below w.heap.size w w5) := below_trans HB_w4.out hb HB_w4.out.size
  have A_w5 : Hid (BoxC w5 24 w.heap.size [.slice a zs.length cap, .int .i64 k]) := A_w4.out.below hb
  have F_w5 : Hid (BoxC w5 33 GF [.int .i64 fk, .int .i64 fa]) := F_w4.out.below hb
  have C_w5 : Hid (BoxC w5 35 GC [.int .i64 c, .int .i64 r, .int .i64 o, .int .i64 v, .int .i64 g]) := C_w4.out.below hb
  have O1_w5 : Hid (Reads w5 (.slice a1 2 c1) [97, 98]) := O1_w4.out.below hb
  clear A_w4 F_w4 C_w4 O1_w4 HB_w4
  have TX_w5 : Hid (Told w5 aX cX uX eX dX ⟨[], 0, ((nilT.set 0 [97, 98]).set 0 [97, 98]), 0, 0, 0⟩ (ups (btw [97, 98] []))) := hT
  clear hb hT
  have hlX : uX.length = 27 := hS.1
  have HSX : Hid (AllSl uX) := hS
  have HUX : Hid (uX[0]? = some (.slice a0X 2 c0X)) := hu
  clear hS hu
  (try dsimp only)
  go_wp2_with (refine allocC rfl 38 rfl nulL nul_zero ?_)
  intro w6 ha hb
  go_wp2_with (refine storeC rfl 38 _ _ rfl w5.heap.size rfl nulL (resL (.slice aX 0 cX) 0 uX 0 0 0 (.slice eX (ups (btw [97, 98] [])).length dX)) rfl ha (by rw [resL_len hlX]; exact wide_res) (resL_one HSX.out rfl rfl) (by rw [nul_len, resL_len hlX]) ?_)
  intro w7 hz hg
  have hb8 : Below w5.heap.size w5 w7 := hb.grown hg hb.size (fun j hj => by cases hj; exact Nat.le_refl _)
  have HLGX : Hid (w.heap.size ≤ w5.heap.size ∧ w.heap.size < w5.heap.size ∧ GF < w5.heap.size ∧ GC < w5.heap.size) := ⟨HB_w5.out.size, A_w5.out.lt, F_w5.out.lt, C_w5.out.lt⟩
  have HB_w7 : Hid (Below w.heap.size w w7) := below_trans HB_w5.out hb8 HB_w5.out.size
  have A_w7 : Hid (BoxC w7 24 w.heap.size [.slice a zs.length cap, .int .i64 k]) := A_w5.out.below hb8
  have F_w7 : Hid (BoxC w7 33 GF [.int .i64 fk, .int .i64 fa]) := F_w5.out.below hb8
  have C_w7 : Hid (BoxC w7 35 GC [.int .i64 c, .int .i64 r, .int .i64 o, .int .i64 v, .int .i64 g]) := C_w5.out.below hb8
  have O1_w7 : Hid (Reads w7 (.slice a1 2 c1) [97, 98]) := O1_w5.out.below hb8
  have TX_w7 : Hid (Told w7 aX cX uX eX dX ⟨[], 0, ((nilT.set 0 [97, 98]).set 0 [97, 98]), 0, 0, 0⟩ (ups (btw [97, 98] []))) := TX_w5.out.below hb8
  clear A_w5 F_w5 C_w5 O1_w5 TX_w5 HB_w5
  have X_w7 : Hid (BoxC w7 38 w5.heap.size (resL (.slice aX 0 cX) 0 uX 0 0 0 (.slice eX (ups (btw [97, 98] [])).length dX))) := hz
  clear ha hb hz hg hb8 w6
  generalize w5.heap.size = GX at *
  clear O1_w7
  go_wp2_with (first | (refine loadP rfl 38 24 _ rfl GX 0 rfl (resL (.slice aX 0 cX) 0 uX 0 0 0 (.slice eX (ups (btw [97, 98] [])).length dX)) [.slice aX 0 cX, .int .i64 0] X_w7.out wide_line (fun j v hv => by rw [Nat.zero_add]; match j with | 0 => exact hv | 1 => exact hv | (j + 2) => simp at hv) ?_) | (refine loadP rfl 38 31 _ rfl GX 2 rfl (resL (.slice aX 0 cX) 0 uX 0 0 0 (.slice eX (ups (btw [97, 98] [])).length dX)) uX X_w7.out (by rw [hlX]; exact wide_regs) (fun j v hv => by rw [resL_reg hlX j (by rw [← hlX]; exact (List.getElem?_eq_some_iff.1 hv).1)]; exact hv) ?_) | (refine loadP rfl 38 33 _ rfl GX 29 rfl (resL (.slice aX 0 cX) 0 uX 0 0 0 (.slice eX (ups (btw [97, 98] [])).length dX)) [.int .i64 0, .int .i64 0] X_w7.out wide_find (fun j v hv => by rw [resL_end hlX j]; match j with | 0 => exact hv | 1 => exact hv | (j + 2) => simp at hv) ?_))
  refine (ex_back _ _ _ _ TX_w7.out.1 TX_w7.out.2.1).mono ?_
  rintro e w8 ⟨hb, aY, cY, uY, eY, dY, a0Y, c0Y, rfl, hT, hS, hu⟩
  have HB_w8 : Hid (Below w.heap.size w w8) := below_trans HB_w7.out hb HB_w7.out.size
  have A_w8 : Hid (BoxC w8 24 w.heap.size [.slice a zs.length cap, .int .i64 k]) := A_w7.out.below hb
  have F_w8 : Hid (BoxC w8 33 GF [.int .i64 fk, .int .i64 fa]) := F_w7.out.below hb
  have C_w8 : Hid (BoxC w8 35 GC [.int .i64 c, .int .i64 r, .int .i64 o, .int .i64 v, .int .i64 g]) := C_w7.out.below hb
  have TX_w8 : Hid (Told w8 aX cX uX eX dX ⟨[], 0, ((nilT.set 0 [97, 98]).set 0 [97, 98]), 0, 0, 0⟩ (ups (btw [97, 98] []))) := TX_w7.out.below hb
  have X_w8 : Hid (BoxC w8 38 GX (resL (.slice aX 0 cX) 0 uX 0 0 0 (.slice eX (ups (btw [97, 98] [])).length dX))) := X_w7.out.below hb
  clear A_w7 F_w7 C_w7 TX_w7 X_w7 HB_w7
  have TY_w8 : Hid (Told w8 aY cY uY eY dY ⟨[97, 98], 1, ((nilT.set 0 [97, 98]).set 0 [97, 98]), 0, 0, 0⟩ (ups (btw [] [97, 98]))) := hT
  clear hb hT
  have hlY : uY.length = 27 := hS.1
  have HSY : Hid (AllSl uY) := hS
  have HUY : Hid (uY[0]? = some (.slice a0Y 2 c0Y)) := hu
  clear hS hu
  (try dsimp only)
  go_wp2_with (refine allocC rfl 38 rfl nulL nul_zero ?_)
  intro w9 ha hb
  go_wp2_with (refine storeC rfl 38 _ _ rfl w8.heap.size rfl nulL (resL (.slice aY 2 cY) 1 uY 0 0 0 (.slice eY (ups (btw [] [97, 98])).length dY)) rfl ha (by rw [resL_len hlY]; exact wide_res) (resL_one HSY.out rfl rfl) (by rw [nul_len, resL_len hlY]) ?_)
  intro w10 hz hg
  have hb8 : Below w8.heap.size w8 w10 := hb.grown hg hb.size (fun j hj => by cases hj; exact Nat.le_refl _)
  have HLGY : Hid (w.heap.size ≤ w8.heap.size ∧ w.heap.size < w8.heap.size ∧ GF < w8.heap.size ∧ GC < w8.heap.size ∧ GX < w8.heap.size) := ⟨HB_w8.out.size, A_w8.out.lt, F_w8.out.lt, C_w8.out.lt, X_w8.out.lt⟩
  have HB_w10 : Hid (Below w.heap.size w w10) := below_trans HB_w8.out hb8 HB_w8.out.size
  have A_w10 : Hid (BoxC w10 24 w.heap.size [.slice a zs.length cap, .int .i64 k]) := A_w8.out.below hb8
  have F_w10 : Hid (BoxC w10 33 GF [.int .i64 fk, .int .i64 fa]) := F_w8.out.below hb8
  have C_w10 : Hid (BoxC w10 35 GC [.int .i64 c, .int .i64 r, .int .i64 o, .int .i64 v, .int .i64 g]) := C_w8.out.below hb8
  have TX_w10 : Hid (Told w10 aX cX uX eX dX ⟨[], 0, ((nilT.set 0 [97, 98]).set 0 [97, 98]), 0, 0, 0⟩ (ups (btw [97, 98] []))) := TX_w8.out.below hb8
  have X_w10 : Hid (BoxC w10 38 GX (resL (.slice aX 0 cX) 0 uX 0 0 0 (.slice eX (ups (btw [97, 98] [])).length dX))) := X_w8.out.below hb8
  have TY_w10 : Hid (Told w10 aY cY uY eY dY ⟨[97, 98], 1, ((nilT.set 0 [97, 98]).set 0 [97, 98]), 0, 0, 0⟩ (ups (btw [] [97, 98]))) := TY_w8.out.below hb8
  clear A_w8 F_w8 C_w8 TX_w8 X_w8 TY_w8 HB_w8
  have Y_w10 : Hid (BoxC w10 38 w8.heap.size (resL (.slice aY 2 cY) 1 uY 0 0 0 (.slice eY (ups (btw [] [97, 98])).length dY))) := hz
  clear ha hb hz hg hb8 w9
  generalize w8.heap.size = GY at *
  clear TX_w10
  clear X_w10
  go_upto_region 3 with fail
  go_cut [48] from 35 to 48 (fun s48 wx => s48 = .bool false ∧ Hid (Below w10.heap.size w10 wx))
  case first =>
    have y00 : w10.cell? ⟨GY, 0, none⟩ = some (.slice aY 2 cY) := (Y_w10.out.cell 0).trans resL_0
    have HBX0 : Hid (Below w10.heap.size w10 w10.drew) := below_drewN (Below.refl _ _) 1
    have HOF : Hid (∀ (s : ByteArray) (xs : List Int), codes s = xs → s.size ≤ 4096 → ∀ wx, Calls Try.prog 12 #[.string s] wx fun e w' => Below wx.heap.size wx w' ∧ ∃ a c, e = .returned (.slice a xs.length c) ∧ Own w' wx.heap.size (.slice a xs.length c) xs) := fun s xs hx hs wx => of_reads s xs hx wx hs
    have HCS : Hid (∀ w', Below w10.heap.size w10 w' → w'.cell? ⟨GY, 0, none⟩ = some (.slice aY 2 cY)) := fun w' hb => ((Y_w10.out.below hb).cell 0).trans resL_0
    clear y00
    go_region_held3 (fun w' => w'.cell? ⟨GY, 0, none⟩ = some (.slice aY 2 cY))
      ((refine HCS.out _ ?_; (repeat (first | assumption | exact Below.refl _ _ | refine below_dr ?_ | refine below_al ?_ _ | (refine below_st ?_ (by exact Nat.le_refl _) _)))))
      (first
          | (go_at_call 13; refine HE1.out.mono ?_; rintro e wr2 ⟨rfl, q2, hw2⟩; have hB2 : Below w10.heap.size w10 wr2 := by rw [hw2]; exact below_drewN hB1 q2
             have y02 : wr2.cell? ⟨GY, 0, none⟩ = some (.slice aY 2 cY) := ((Y_w10.out.below hB2).cell 0).trans resL_0; (try clear hw2))
          | (go_at_call 12; refine (HOF.out ⟨#[97, 98]⟩ [97, 98] (by decide) (by decide) w10.drew).mono ?_; rintro e wr1 ⟨hb1, ar1, cr1, rfl, ho1⟩; have hB1 : Below w10.heap.size w10 wr1 := below_trans HBX0.out hb1 (Nat.le_refl _); have y01 : wr1.cell? ⟨GY, 0, none⟩ = some (.slice aY 2 cY) := ((Y_w10.out.below hB1).cell 0).trans resL_0; have HE1 : Hid (Calls Try.prog 13 #[.slice aY 2 cY, .slice ar1 2 cr1] wr1 fun e w' => e = .returned (.bool true) ∧ ∃ q, w' = wr1.drewN q) := equal_any _ _ [97, 98] [97, 98] wr1 (TY_w10.out.below hB1).1 ho1.reads (by decide) (by decide)))
    all_goals (
      go_wp2_with fail
      go_meet
      case rel => exact ⟨rfl, hB2⟩)
  case rest =>
    obtain ⟨rfl, Hbc⟩ := hcut
    have HB_wc : Hid (Below w.heap.size w wc) := below_trans HB_w10.out Hbc.out HB_w10.out.size
    have A_wc : Hid (BoxC wc 24 w.heap.size [.slice a zs.length cap, .int .i64 k]) := A_w10.out.below Hbc.out
    have F_wc : Hid (BoxC wc 33 GF [.int .i64 fk, .int .i64 fa]) := F_w10.out.below Hbc.out
    have C_wc : Hid (BoxC wc 35 GC [.int .i64 c, .int .i64 r, .int .i64 o, .int .i64 v, .int .i64 g]) := C_w10.out.below Hbc.out
    have TY_wc : Hid (Told wc aY cY uY eY dY ⟨[97, 98], 1, ((nilT.set 0 [97, 98]).set 0 [97, 98]), 0, 0, 0⟩ (ups (btw [] [97, 98]))) := TY_w10.out.below Hbc.out
    have Y_wc : Hid (BoxC wc 38 GY (resL (.slice aY 2 cY) 1 uY 0 0 0 (.slice eY (ups (btw [] [97, 98])).length dY))) := Y_w10.out.below Hbc.out
    clear A_w10 F_w10 C_w10 TY_w10 Y_w10 HB_w10
    clear Hbc
    clear TY_wc
    clear Y_wc
    have cC1 : wc.cell? ⟨GC, 1, none⟩ = some (.int .i64 r) := (C_wc.out.cell 1).trans rfl
    have cC2 : wc.cell? ⟨GC, 2, none⟩ = some (.int .i64 o) := (C_wc.out.cell 2).trans rfl
    by_cases ho : o = 100
    rotate_left
    · have hob : (o != 100) = true := by simpa using ho
      go_wp2_with (fail)
      go_ret
      exact ⟨rfl, HB_wc.out⟩
    subst ho
    by_cases hr : r = 0
    rotate_left
    · have hrb : (r != 0) = true := by simpa using hr
      go_wp2_with (fail)
      go_ret
      exact ⟨rfl, HB_wc.out⟩
    subst hr
    go_wp2_with (first | (refine buildC rfl 31 _ rfl nils (by kernel_rfl) ?_) | (refine loadC rfl 24 _ rfl w.heap.size rfl [.slice a zs.length cap, .int .i64 k] A_wc.out wide_line ?_) | (refine loadC rfl 33 _ rfl GF rfl [.int .i64 fk, .int .i64 fa] F_wc.out wide_find ?_) | (refine loadC rfl 35 _ rfl GC rfl [.int .i64 c, .int .i64 0, .int .i64 100, .int .i64 v, .int .i64 g] C_wc.out wide_cmd ?_))
    clear cC1 cC2
    refine (HDK.out _ HB_wc.out).mono ?_
    rintro e w11 ⟨hb, aZ, cZ, uZ, eZ, dZ, a0Z, c0Z, rfl, hT, hS, hu⟩
    have HB_w11 : Hid (Below w.heap.size w w11) := below_trans HB_wc.out hb HB_wc.out.size
    have A_w11 : Hid (BoxC w11 24 w.heap.size [.slice a zs.length cap, .int .i64 k]) := A_wc.out.below hb
    have F_w11 : Hid (BoxC w11 33 GF [.int .i64 fk, .int .i64 fa]) := F_wc.out.below hb
    have C_w11 : Hid (BoxC w11 35 GC [.int .i64 c, .int .i64 0, .int .i64 100, .int .i64 v, .int .i64 g]) := C_wc.out.below hb
    clear A_wc F_wc C_wc HB_wc
    have TZ_w11 : Hid (Told w11 aZ cZ uZ eZ dZ ⟨T, L, ts2, fk2, fa2, M⟩ es) := hT
    clear hb hT
    have hlZ : uZ.length = 27 := hS.1
    have HSZ : Hid (AllSl uZ) := hS
    have HUZ : Hid (uZ[0]? = some (.slice a0Z K.length c0Z)) := hu
    clear hS hu
    (try dsimp only)
    go_wp2_with (refine allocC rfl 38 rfl nulL nul_zero ?_)
    intro w12 ha hb
    go_wp2_with (refine storeC rfl 38 _ _ rfl w11.heap.size rfl nulL (resL (.slice aZ T.length cZ) L uZ fk2 fa2 M (.slice eZ es.length dZ)) rfl ha (by rw [resL_len hlZ]; exact wide_res) (resL_one HSZ.out rfl rfl) (by rw [nul_len, resL_len hlZ]) ?_)
    intro w13 hz hg
    have hb8 : Below w11.heap.size w11 w13 := hb.grown hg hb.size (fun j hj => by cases hj; exact Nat.le_refl _)
    have HLGZ : Hid (w.heap.size ≤ w11.heap.size ∧ w.heap.size < w11.heap.size ∧ GF < w11.heap.size ∧ GC < w11.heap.size) := ⟨HB_w11.out.size, A_w11.out.lt, F_w11.out.lt, C_w11.out.lt⟩
    have HB_w13 : Hid (Below w.heap.size w w13) := below_trans HB_w11.out hb8 HB_w11.out.size
    have A_w13 : Hid (BoxC w13 24 w.heap.size [.slice a zs.length cap, .int .i64 k]) := A_w11.out.below hb8
    have F_w13 : Hid (BoxC w13 33 GF [.int .i64 fk, .int .i64 fa]) := F_w11.out.below hb8
    have C_w13 : Hid (BoxC w13 35 GC [.int .i64 c, .int .i64 0, .int .i64 100, .int .i64 v, .int .i64 g]) := C_w11.out.below hb8
    have TZ_w13 : Hid (Told w13 aZ cZ uZ eZ dZ ⟨T, L, ts2, fk2, fa2, M⟩ es) := TZ_w11.out.below hb8
    clear A_w11 F_w11 C_w11 TZ_w11 HB_w11
    have Z_w13 : Hid (BoxC w13 38 w11.heap.size (resL (.slice aZ T.length cZ) L uZ fk2 fa2 M (.slice eZ es.length dZ))) := hz
    clear ha hb hz hg hb8 w12
    generalize w11.heap.size = GZ at *
    by_cases he : E = 0
    rotate_left
    · have hb1 : (E != 0) = true := by simpa using he
      go_wp2_with (fail)
      go_ret
      exact ⟨rfl, HB_w13.out⟩
    subst he
    have yZ32 : w13.cell? ⟨GZ, 32, none⟩ = some (.slice eZ es.length dZ) := (Z_w13.out.cell 32).trans (resL_end hlZ 3)
    by_cases hm : es.length = 1
    rotate_left
    · have hmb : ((es.length : Int) != 1) = true := by simpa using (fun q => hm (by omega) : ¬ (es.length : Int) = 1)
      go_wp2_with (fail)
      go_ret
      exact ⟨rfl, HB_w13.out⟩
    have hmb : ((es.length : Int) != 1) = false := by rw [hm]; rfl
    have HZl : Hid (zs.length ≤ 200 ∧ K.length + T.length = zs.length ∧ 0 ≤ L ∧ L ≤ 200) := ⟨(HIN.out rfl).1, HTA.out rfl, (HIN.out rfl).2⟩
    obtain ⟨b1, hb1⟩ : ∃ b1, b1 = decide ((T.length : Int) > 0) := ⟨_, rfl⟩
    obtain ⟨b2, hb2⟩ : ∃ b2, b2 = (L == (T.length : Int) - 1) := ⟨_, rfl⟩
    obtain ⟨b3, hb3⟩ : ∃ b3, b3 = (T == zs.take T.length) := ⟨_, rfl⟩
    obtain ⟨b4, hb4⟩ : ∃ b4, b4 = (K == zs.drop T.length) := ⟨_, rfl⟩
    have HB1 : Hid (b1 = decide ((T.length : Int) > 0)) := hb1
    have HB2 : Hid (b2 = (L == (T.length : Int) - 1)) := hb2
    have HB3 : Hid (b3 = (T == zs.take T.length)) := hb3
    have HB4 : Hid (b4 = (K == zs.drop T.length)) := hb4
    clear hb1 hb2 hb3 hb4
    have yZ0 : w13.cell? ⟨GZ, 0, none⟩ = some (.slice aZ T.length cZ) := (Z_w13.out.cell 0).trans resL_0
    have yZ1 : w13.cell? ⟨GZ, 1, none⟩ = some (.int .i64 L) := (Z_w13.out.cell 1).trans resL_1
    go_upto_region 12 with fail
    clear yZ32 yZ0 yZ1 hm hmb
    go_cut [106] from 77 to 106 (fun s106 wx => s106 = .bool (b1 && b2 && b3 && b4) ∧ Hid (Below w13.heap.size w13 wx))
    case first =>
      obtain ⟨A0, hA, hL0, hR0, hcap⟩ := cut_two (HV.out _ HB_w13.out) T.length T.length (Nat.le_refl _) (by have := HZl.out; omega)
      have hnc : (T.length : Int) ≤ (cap : Int) := by have := HZl.out; omega
      have hnz : (T.length : Int) ≤ (zs.length : Int) := by have := HZl.out; omega
      have hw1 : IntKind.i64.wrap ((T.length : Int) - 1) = (T.length : Int) - 1 := by have := HZl.out; rw [IntKind.wrap_i64]; omega
      have HTK : Hid (Reads w13 (.slice a T.length cap) (zs.take T.length) ∧ Reads w13 (.slice A0 (zs.length - T.length) (cap - T.length)) (zs.drop T.length) ∧ Reads w13 (.slice aZ T.length cZ) T ∧ Reads w13 (.slice a0Z K.length c0Z) K) := ⟨hL0, hR0, TZ_w13.out.1, by have q := (TZ_w13.out.zero HUZ.out).1; dsimp only at q; rw [HK.out] at q; exact q⟩
      clear hL0 hR0 hcap
      have HE3 : Hid (∀ wx, Below w13.heap.size w13 wx → Calls Try.prog 13 #[.slice aZ T.length cZ, .slice a T.length cap] wx fun e w' => e = .returned (.bool b3) ∧ Below wx.heap.size wx w') := fun wx hx => equal_go _ _ T (zs.take T.length) wx (HTK.out.2.2.1.below hx) (HTK.out.1.below hx) (by have := HZl.out; unfold maxLen; omega) (by rw [List.length_take]; have := HZl.out; unfold maxLen; omega) b3 HB3.out.symm
      have HE4 : Hid (∀ wx, Below w13.heap.size w13 wx → Calls Try.prog 13 #[.slice a0Z K.length c0Z, .slice A0 (zs.length - T.length) (cap - T.length)] wx fun e w' => e = .returned (.bool b4) ∧ Below wx.heap.size wx w') := fun wx hx => equal_go _ _ K (zs.drop T.length) wx (HTK.out.2.2.2.below hx) (HTK.out.2.1.below hx) (by have := HZl.out; unfold maxLen; omega) (by rw [List.length_drop]; have := HZl.out; unfold maxLen; omega) b4 HB4.out.symm
      have HBX0 : Hid (Below w13.heap.size w13 w13.drew) := below_drewN (Below.refl _ _) 1
      have HCS : Hid (∀ w', Below w13.heap.size w13 w' → w'.cell? ⟨GZ, 0, none⟩ = some (.slice aZ T.length cZ) ∧ w'.cell? ⟨GZ, 1, none⟩ = some (.int .i64 L) ∧ w'.cell? ⟨GZ, 2, none⟩ = some (.slice a0Z K.length c0Z) ∧ w'.cell? ⟨w.heap.size, 0, none⟩ = some (.slice a zs.length cap)) := fun w' hb => ⟨((Z_w13.out.below hb).cell 0).trans resL_0, ((Z_w13.out.below hb).cell 1).trans resL_1, ((Z_w13.out.below hb).cell 2).trans (resL_r0 hlZ HUZ.out), ((A_w13.out.below hb).cell 0).trans rfl⟩
      cases b1 with
      | false =>
        have hd1 : decide ((T.length : Int) > 0) = false := HB1.out.symm
        have hd2 : ¬ (T.length : Int) > 0 := of_decide_eq_false hd1
        have hd3 : ¬ 0 < (T.length : Int) := hd2
        have hd5 : decide (0 < (T.length : Int)) = false := decide_eq_false hd3
        have hd6 : ¬ 0 < T.length := by omega
        have hd7 : decide (0 < T.length) = false := decide_eq_false hd6
        refine wp_region_held_drew (S := fun w' => w'.cell? ⟨GZ, 0, none⟩ = some (.slice aZ T.length cZ) ∧ w'.cell? ⟨GZ, 1, none⟩ = some (.int .i64 L) ∧ w'.cell? ⟨GZ, 2, none⟩ = some (.slice a0Z K.length c0Z) ∧ w'.cell? ⟨w.heap.size, 0, none⟩ = some (.slice a zs.length cap)) (by kernel_rfl) (HCS.out _ HBX0.out) (fun hHeld => ?_)
        refine wpAnyH_take (i := 0) (oi := ⟨some 77, .move (.tmp 13), _, _, _, _⟩) (v := .int .i64 (T.length : Int)) rfl (by kernel_rfl) (by kernel_rfl) (by kernel_rfl) (fun _ _ _ h => h) (Or.inl ⟨by rfl, fun wx hS => by first | rfl | (obtain ⟨s1, s2, s3, s4⟩ := hS; unfold execOp; go_simp; done) | (obtain ⟨s1, s2, s3, s4⟩ := hS; unfold execOp; go_simp; simp [*]; done)⟩) hHeld ?_
        (try simp only [Act.put, List.setIfInBounds_toArray, List.set_cons_zero, List.set_cons_succ])
        refine wpAnyH_take (i := 1) (oi := ⟨some 78, .binOp BinOp.gtr 3 (.tmp 77) (.const (.int .i64 0)) 3, _, _, _, _⟩) (v := .bool false) rfl (by kernel_rfl) (by kernel_rfl) (by kernel_rfl) (fun _ _ _ h => h) (Or.inl ⟨by rfl, fun wx hS => by first | rfl | (obtain ⟨s1, s2, s3, s4⟩ := hS; unfold execOp; go_simp; done) | (obtain ⟨s1, s2, s3, s4⟩ := hS; unfold execOp; go_simp; simp [*]; done)⟩) hHeld ?_
        (try simp only [Act.put, List.setIfInBounds_toArray, List.set_cons_zero, List.set_cons_succ])
        refine wpAnyH_take (i := 2) (oi := ⟨some 79, .move (.tmp 78), _, _, _, _⟩) (v := .bool false) rfl (by kernel_rfl) (by kernel_rfl) (by kernel_rfl) (fun _ _ _ h => h) (Or.inl ⟨by rfl, fun wx hS => by first | rfl | (obtain ⟨s1, s2, s3, s4⟩ := hS; unfold execOp; go_simp; done) | (obtain ⟨s1, s2, s3, s4⟩ := hS; unfold execOp; go_simp; simp [*]; done)⟩) hHeld ?_
        (try simp only [Act.put, List.setIfInBounds_toArray, List.set_cons_zero, List.set_cons_succ])
        refine wpAnyH_take (i := 3) (oi := ⟨some 80, .fieldAddr 38 (.tmp 11) 0, _, _, _, _⟩) (v := undef) rfl (by kernel_rfl) (by kernel_rfl) (by kernel_rfl) (fun _ _ _ h => h) (Or.inr ⟨by rfl, rfl⟩) hHeld ?_
        (try simp only [Act.put, List.setIfInBounds_toArray, List.set_cons_zero, List.set_cons_succ])
        refine wpAnyH_take (i := 4) (oi := ⟨some 81, .fieldAddr 24 (.tmp 80) 1, _, _, _, _⟩) (v := undef) rfl (by kernel_rfl) (by kernel_rfl) (by kernel_rfl) (fun _ _ _ h => h) (Or.inr ⟨by rfl, rfl⟩) hHeld ?_
        (try simp only [Act.put, List.setIfInBounds_toArray, List.set_cons_zero, List.set_cons_succ])
        refine wpAnyH_take (i := 5) (oi := ⟨some 82, .load 3 (.tmp 81), _, _, _, _⟩) (v := undef) rfl (by kernel_rfl) (by kernel_rfl) (by kernel_rfl) (fun _ _ _ h => h) (Or.inr ⟨by rfl, rfl⟩) hHeld ?_
        (try simp only [Act.put, List.setIfInBounds_toArray, List.set_cons_zero, List.set_cons_succ])
        refine wpAnyH_take (i := 6) (oi := ⟨some 83, .move (.tmp 13), _, _, _, _⟩) (v := undef) rfl (by kernel_rfl) (by kernel_rfl) (by kernel_rfl) (fun _ _ _ h => h) (Or.inr ⟨by rfl, rfl⟩) hHeld ?_
        (try simp only [Act.put, List.setIfInBounds_toArray, List.set_cons_zero, List.set_cons_succ])
        refine wpAnyH_take (i := 7) (oi := ⟨some 84, .binOp BinOp.sub 3 (.tmp 83) (.const (.int .i64 1)) 3, _, _, _, _⟩) (v := undef) rfl (by kernel_rfl) (by kernel_rfl) (by kernel_rfl) (fun _ _ _ h => h) (Or.inr ⟨by rfl, rfl⟩) hHeld ?_
        (try simp only [Act.put, List.setIfInBounds_toArray, List.set_cons_zero, List.set_cons_succ])
        refine wpAnyH_take (i := 8) (oi := ⟨some 85, .binOp BinOp.eql 3 (.tmp 82) (.tmp 84) 3, _, _, _, _⟩) (v := undef) rfl (by kernel_rfl) (by kernel_rfl) (by kernel_rfl) (fun _ _ _ h => h) (Or.inr ⟨by rfl, rfl⟩) hHeld ?_
        (try simp only [Act.put, List.setIfInBounds_toArray, List.set_cons_zero, List.set_cons_succ])
        refine wpAnyH_take (i := 9) (oi := ⟨some 86, .pick (.tmp 79) (.tmp 85) (.const (.bool false)), _, _, _, _⟩) (v := .bool false) rfl (by kernel_rfl) (by kernel_rfl) (by kernel_rfl) (fun _ _ _ h => h) (Or.inl ⟨by rfl, fun wx hS => by first | rfl | (obtain ⟨s1, s2, s3, s4⟩ := hS; unfold execOp; go_simp; done) | (obtain ⟨s1, s2, s3, s4⟩ := hS; unfold execOp; go_simp; simp [*]; done)⟩) hHeld ?_
        (try simp only [Act.put, List.setIfInBounds_toArray, List.set_cons_zero, List.set_cons_succ])
        refine wpAnyH_take (i := 10) (oi := ⟨some 87, .move (.tmp 86), _, _, _, _⟩) (v := .bool false) rfl (by kernel_rfl) (by kernel_rfl) (by kernel_rfl) (fun _ _ _ h => h) (Or.inl ⟨by rfl, fun wx hS => by first | rfl | (obtain ⟨s1, s2, s3, s4⟩ := hS; unfold execOp; go_simp; done) | (obtain ⟨s1, s2, s3, s4⟩ := hS; unfold execOp; go_simp; simp [*]; done)⟩) hHeld ?_
        (try simp only [Act.put, List.setIfInBounds_toArray, List.set_cons_zero, List.set_cons_succ])
        refine wpAnyH_take (i := 11) (oi := ⟨some 88, .fieldAddr 38 (.tmp 11) 0, _, _, _, _⟩) (v := undef) rfl (by kernel_rfl) (by kernel_rfl) (by kernel_rfl) (fun _ _ _ h => h) (Or.inr ⟨by rfl, rfl⟩) hHeld ?_
        (try simp only [Act.put, List.setIfInBounds_toArray, List.set_cons_zero, List.set_cons_succ])
        refine wpAnyH_take (i := 12) (oi := ⟨some 89, .fieldAddr 24 (.tmp 88) 0, _, _, _, _⟩) (v := undef) rfl (by kernel_rfl) (by kernel_rfl) (by kernel_rfl) (fun _ _ _ h => h) (Or.inr ⟨by rfl, rfl⟩) hHeld ?_
        (try simp only [Act.put, List.setIfInBounds_toArray, List.set_cons_zero, List.set_cons_succ])
        refine wpAnyH_take (i := 13) (oi := ⟨some 90, .load 22 (.tmp 89), _, _, _, _⟩) (v := undef) rfl (by kernel_rfl) (by kernel_rfl) (by kernel_rfl) (fun _ _ _ h => h) (Or.inr ⟨by rfl, rfl⟩) hHeld ?_
        (try simp only [Act.put, List.setIfInBounds_toArray, List.set_cons_zero, List.set_cons_succ])
        refine wpAnyH_take (i := 14) (oi := ⟨some 91, .fieldAddr 24 (.tmp 3) 0, _, _, _, _⟩) (v := undef) rfl (by kernel_rfl) (by kernel_rfl) (by kernel_rfl) (fun _ _ _ h => h) (Or.inr ⟨by rfl, rfl⟩) hHeld ?_
        (try simp only [Act.put, List.setIfInBounds_toArray, List.set_cons_zero, List.set_cons_succ])
        refine wpAnyH_take (i := 15) (oi := ⟨some 92, .load 22 (.tmp 91), _, _, _, _⟩) (v := undef) rfl (by kernel_rfl) (by kernel_rfl) (by kernel_rfl) (fun _ _ _ h => h) (Or.inr ⟨by rfl, rfl⟩) hHeld ?_
        (try simp only [Act.put, List.setIfInBounds_toArray, List.set_cons_zero, List.set_cons_succ])
        refine wpAnyH_take (i := 16) (oi := ⟨some 93, .move (.tmp 13), _, _, _, _⟩) (v := undef) rfl (by kernel_rfl) (by kernel_rfl) (by kernel_rfl) (fun _ _ _ h => h) (Or.inr ⟨by rfl, rfl⟩) hHeld ?_
        (try simp only [Act.put, List.setIfInBounds_toArray, List.set_cons_zero, List.set_cons_succ])
        refine wpAnyH_take (i := 17) (oi := ⟨some 94, .slice 22 (.tmp 92) none (some (.tmp 93)) none, _, _, _, _⟩) (v := undef) rfl (by kernel_rfl) (by kernel_rfl) (by kernel_rfl) (fun _ _ _ h => h) (Or.inr ⟨by rfl, rfl⟩) hHeld ?_
        (try simp only [Act.put, List.setIfInBounds_toArray, List.set_cons_zero, List.set_cons_succ])
        refine wpAnyH_ready (rs := [18]) (by kernel_rfl) (by simp) ?_
        refine AllReadyH.cons (o := ⟨some 95, .call { callee := .value (.func 13), args := #[.tmp 90, .tmp 94], argTypes := #[22, 22] }, _, _, _, _⟩) rfl (fun K1 hK1 => ?_) AllReadyH.nil
        refine Eq.mpr (if_neg ?_) ?_
        · exact Bool.eq_false_iff.1 rfl
        refine hK1.out _ _ hHeld (fun hHeld => ?_)
        clear hK1 K1
        (try simp only [Act.put, List.setIfInBounds_toArray, List.set_cons_zero, List.set_cons_succ])
        refine wpAnyH_take (i := 19) (oi := ⟨some 96, .pick (.tmp 87) (.tmp 95) (.const (.bool false)), _, _, _, _⟩) (v := .bool false) rfl (by kernel_rfl) (by kernel_rfl) (by kernel_rfl) (fun _ _ _ h => h) (Or.inl ⟨by rfl, fun wx hS => by first | rfl | (obtain ⟨s1, s2, s3, s4⟩ := hS; unfold execOp; go_simp; done) | (obtain ⟨s1, s2, s3, s4⟩ := hS; unfold execOp; go_simp; simp [*]; done)⟩) hHeld ?_
        (try simp only [Act.put, List.setIfInBounds_toArray, List.set_cons_zero, List.set_cons_succ])
        refine wpAnyH_take (i := 20) (oi := ⟨some 97, .move (.tmp 96), _, _, _, _⟩) (v := .bool false) rfl (by kernel_rfl) (by kernel_rfl) (by kernel_rfl) (fun _ _ _ h => h) (Or.inl ⟨by rfl, fun wx hS => by first | rfl | (obtain ⟨s1, s2, s3, s4⟩ := hS; unfold execOp; go_simp; done) | (obtain ⟨s1, s2, s3, s4⟩ := hS; unfold execOp; go_simp; simp [*]; done)⟩) hHeld ?_
        (try simp only [Act.put, List.setIfInBounds_toArray, List.set_cons_zero, List.set_cons_succ])
        refine wpAnyH_take (i := 21) (oi := ⟨some 98, .fieldAddr 38 (.tmp 11) 1, _, _, _, _⟩) (v := undef) rfl (by kernel_rfl) (by kernel_rfl) (by kernel_rfl) (fun _ _ _ h => h) (Or.inr ⟨by rfl, rfl⟩) hHeld ?_
        (try simp only [Act.put, List.setIfInBounds_toArray, List.set_cons_zero, List.set_cons_succ])
        refine wpAnyH_take (i := 22) (oi := ⟨some 99, .indexAddr 31 (.tmp 98) (.const (.int .i64 0)), _, _, _, _⟩) (v := undef) rfl (by kernel_rfl) (by kernel_rfl) (by kernel_rfl) (fun _ _ _ h => h) (Or.inr ⟨by rfl, rfl⟩) hHeld ?_
        (try simp only [Act.put, List.setIfInBounds_toArray, List.set_cons_zero, List.set_cons_succ])
        refine wpAnyH_take (i := 23) (oi := ⟨some 100, .load 22 (.tmp 99), _, _, _, _⟩) (v := undef) rfl (by kernel_rfl) (by kernel_rfl) (by kernel_rfl) (fun _ _ _ h => h) (Or.inr ⟨by rfl, rfl⟩) hHeld ?_
        (try simp only [Act.put, List.setIfInBounds_toArray, List.set_cons_zero, List.set_cons_succ])
        refine wpAnyH_take (i := 24) (oi := ⟨some 101, .fieldAddr 24 (.tmp 3) 0, _, _, _, _⟩) (v := undef) rfl (by kernel_rfl) (by kernel_rfl) (by kernel_rfl) (fun _ _ _ h => h) (Or.inr ⟨by rfl, rfl⟩) hHeld ?_
        (try simp only [Act.put, List.setIfInBounds_toArray, List.set_cons_zero, List.set_cons_succ])
        refine wpAnyH_take (i := 25) (oi := ⟨some 102, .load 22 (.tmp 101), _, _, _, _⟩) (v := undef) rfl (by kernel_rfl) (by kernel_rfl) (by kernel_rfl) (fun _ _ _ h => h) (Or.inr ⟨by rfl, rfl⟩) hHeld ?_
        (try simp only [Act.put, List.setIfInBounds_toArray, List.set_cons_zero, List.set_cons_succ])
        refine wpAnyH_take (i := 26) (oi := ⟨some 103, .move (.tmp 13), _, _, _, _⟩) (v := undef) rfl (by kernel_rfl) (by kernel_rfl) (by kernel_rfl) (fun _ _ _ h => h) (Or.inr ⟨by rfl, rfl⟩) hHeld ?_
        (try simp only [Act.put, List.setIfInBounds_toArray, List.set_cons_zero, List.set_cons_succ])
        refine wpAnyH_take (i := 27) (oi := ⟨some 104, .slice 22 (.tmp 102) (some (.tmp 103)) none none, _, _, _, _⟩) (v := undef) rfl (by kernel_rfl) (by kernel_rfl) (by kernel_rfl) (fun _ _ _ h => h) (Or.inr ⟨by rfl, rfl⟩) hHeld ?_
        (try simp only [Act.put, List.setIfInBounds_toArray, List.set_cons_zero, List.set_cons_succ])
        refine wpAnyH_ready (rs := [28]) (by kernel_rfl) (by simp) ?_
        refine AllReadyH.cons (o := ⟨some 105, .call { callee := .value (.func 13), args := #[.tmp 100, .tmp 104], argTypes := #[22, 22] }, _, _, _, _⟩) rfl (fun K1 hK1 => ?_) AllReadyH.nil
        refine Eq.mpr (if_neg ?_) ?_
        · exact Bool.eq_false_iff.1 rfl
        refine hK1.out _ _ hHeld (fun hHeld => ?_)
        clear hK1 K1
        (try simp only [Act.put, List.setIfInBounds_toArray, List.set_cons_zero, List.set_cons_succ])
        refine wpAnyH_take (i := 29) (oi := ⟨some 106, .pick (.tmp 97) (.tmp 105) (.const (.bool false)), _, _, _, _⟩) (v := .bool false) rfl (by kernel_rfl) (by kernel_rfl) (by kernel_rfl) (fun _ _ _ h => h) (Or.inl ⟨by rfl, fun wx hS => by first | rfl | (obtain ⟨s1, s2, s3, s4⟩ := hS; unfold execOp; go_simp; done) | (obtain ⟨s1, s2, s3, s4⟩ := hS; unfold execOp; go_simp; simp [*]; done)⟩) hHeld ?_
        (try simp only [Act.put, List.setIfInBounds_toArray, List.set_cons_zero, List.set_cons_succ])
        refine wpAnyH_done (by kernel_rfl) ?_ _
        (try simp only [Act.put, List.setIfInBounds_toArray, List.set_cons_zero, List.set_cons_succ])
        go_wp2_with fail
        go_meet
        case rel => exact ⟨rfl, HBX0.out⟩
      | true =>
        have hd1 : decide ((T.length : Int) > 0) = true := HB1.out.symm
        have hd2 : (T.length : Int) > 0 := of_decide_eq_true hd1
        have hd5 : decide (0 < (T.length : Int)) = true := decide_eq_true hd2
        have hd6 : 0 < T.length := by omega
        have hd7 : decide (0 < T.length) = true := decide_eq_true hd6
        cases b2 with
        | false =>
          have hd4 : (L == (T.length : Int) - 1) = false := HB2.out.symm
          refine wp_region_held_drew (S := fun w' => w'.cell? ⟨GZ, 0, none⟩ = some (.slice aZ T.length cZ) ∧ w'.cell? ⟨GZ, 1, none⟩ = some (.int .i64 L) ∧ w'.cell? ⟨GZ, 2, none⟩ = some (.slice a0Z K.length c0Z) ∧ w'.cell? ⟨w.heap.size, 0, none⟩ = some (.slice a zs.length cap)) (by kernel_rfl) (HCS.out _ HBX0.out) (fun hHeld => ?_)
          refine wpAnyH_take (i := 0) (oi := ⟨some 77, .move (.tmp 13), _, _, _, _⟩) (v := .int .i64 (T.length : Int)) rfl (by kernel_rfl) (by kernel_rfl) (by kernel_rfl) (fun _ _ _ h => h) (Or.inl ⟨by rfl, fun wx hS => by first | rfl | (obtain ⟨s1, s2, s3, s4⟩ := hS; unfold execOp; go_simp; done) | (obtain ⟨s1, s2, s3, s4⟩ := hS; unfold execOp; go_simp; simp [*]; done)⟩) hHeld ?_
          (try simp only [Act.put, List.setIfInBounds_toArray, List.set_cons_zero, List.set_cons_succ])
          refine wpAnyH_take (i := 1) (oi := ⟨some 78, .binOp BinOp.gtr 3 (.tmp 77) (.const (.int .i64 0)) 3, _, _, _, _⟩) (v := .bool true) rfl (by kernel_rfl) (by kernel_rfl) (by kernel_rfl) (fun _ _ _ h => h) (Or.inl ⟨by rfl, fun wx hS => by first | rfl | (obtain ⟨s1, s2, s3, s4⟩ := hS; unfold execOp; go_simp; done) | (obtain ⟨s1, s2, s3, s4⟩ := hS; unfold execOp; go_simp; simp [*]; done)⟩) hHeld ?_
          (try simp only [Act.put, List.setIfInBounds_toArray, List.set_cons_zero, List.set_cons_succ])
          refine wpAnyH_take (i := 2) (oi := ⟨some 79, .move (.tmp 78), _, _, _, _⟩) (v := .bool true) rfl (by kernel_rfl) (by kernel_rfl) (by kernel_rfl) (fun _ _ _ h => h) (Or.inl ⟨by rfl, fun wx hS => by first | rfl | (obtain ⟨s1, s2, s3, s4⟩ := hS; unfold execOp; go_simp; done) | (obtain ⟨s1, s2, s3, s4⟩ := hS; unfold execOp; go_simp; simp [*]; done)⟩) hHeld ?_
          (try simp only [Act.put, List.setIfInBounds_toArray, List.set_cons_zero, List.set_cons_succ])
          refine wpAnyH_take (i := 3) (oi := ⟨some 80, .fieldAddr 38 (.tmp 11) 0, _, _, _, _⟩) (v := .pointer (some ⟨GZ, 0, none⟩)) rfl (by kernel_rfl) (by kernel_rfl) (by kernel_rfl) (fun _ _ _ h => h) (Or.inl ⟨by rfl, fun wx hS => by first | rfl | (obtain ⟨s1, s2, s3, s4⟩ := hS; unfold execOp; go_simp; done) | (obtain ⟨s1, s2, s3, s4⟩ := hS; unfold execOp; go_simp; simp [*]; done)⟩) hHeld ?_
          (try simp only [Act.put, List.setIfInBounds_toArray, List.set_cons_zero, List.set_cons_succ])
          refine wpAnyH_take (i := 4) (oi := ⟨some 81, .fieldAddr 24 (.tmp 80) 1, _, _, _, _⟩) (v := .pointer (some ⟨GZ, 1, none⟩)) rfl (by kernel_rfl) (by kernel_rfl) (by kernel_rfl) (fun _ _ _ h => h) (Or.inl ⟨by rfl, fun wx hS => by first | rfl | (obtain ⟨s1, s2, s3, s4⟩ := hS; unfold execOp; go_simp; done) | (obtain ⟨s1, s2, s3, s4⟩ := hS; unfold execOp; go_simp; simp [*]; done)⟩) hHeld ?_
          (try simp only [Act.put, List.setIfInBounds_toArray, List.set_cons_zero, List.set_cons_succ])
          refine wpAnyH_take (i := 5) (oi := ⟨some 82, .load 3 (.tmp 81), _, _, _, _⟩) (v := .int .i64 L) rfl (by kernel_rfl) (by kernel_rfl) (by kernel_rfl) (fun _ _ _ h => h) (Or.inl ⟨by rfl, fun wx hS => by first | rfl | (obtain ⟨s1, s2, s3, s4⟩ := hS; unfold execOp; go_simp; done) | (obtain ⟨s1, s2, s3, s4⟩ := hS; unfold execOp; go_simp; simp [*]; done)⟩) hHeld ?_
          (try simp only [Act.put, List.setIfInBounds_toArray, List.set_cons_zero, List.set_cons_succ])
          refine wpAnyH_take (i := 6) (oi := ⟨some 83, .move (.tmp 13), _, _, _, _⟩) (v := .int .i64 (T.length : Int)) rfl (by kernel_rfl) (by kernel_rfl) (by kernel_rfl) (fun _ _ _ h => h) (Or.inl ⟨by rfl, fun wx hS => by first | rfl | (obtain ⟨s1, s2, s3, s4⟩ := hS; unfold execOp; go_simp; done) | (obtain ⟨s1, s2, s3, s4⟩ := hS; unfold execOp; go_simp; simp [*]; done)⟩) hHeld ?_
          (try simp only [Act.put, List.setIfInBounds_toArray, List.set_cons_zero, List.set_cons_succ])
          refine wpAnyH_take (i := 7) (oi := ⟨some 84, .binOp BinOp.sub 3 (.tmp 83) (.const (.int .i64 1)) 3, _, _, _, _⟩) (v := .int .i64 ((T.length : Int) - 1)) rfl (by kernel_rfl) (by kernel_rfl) (by kernel_rfl) (fun _ _ _ h => h) (Or.inl ⟨by rfl, fun wx hS => by first | rfl | (obtain ⟨s1, s2, s3, s4⟩ := hS; unfold execOp; go_simp; done) | (obtain ⟨s1, s2, s3, s4⟩ := hS; unfold execOp; go_simp; simp [*]; done)⟩) hHeld ?_
          (try simp only [Act.put, List.setIfInBounds_toArray, List.set_cons_zero, List.set_cons_succ])
          refine wpAnyH_take (i := 8) (oi := ⟨some 85, .binOp BinOp.eql 3 (.tmp 82) (.tmp 84) 3, _, _, _, _⟩) (v := .bool false) rfl (by kernel_rfl) (by kernel_rfl) (by kernel_rfl) (fun _ _ _ h => h) (Or.inl ⟨by rfl, fun wx hS => by first | rfl | (obtain ⟨s1, s2, s3, s4⟩ := hS; unfold execOp; go_simp; done) | (obtain ⟨s1, s2, s3, s4⟩ := hS; unfold execOp; go_simp; simp [*]; done)⟩) hHeld ?_
          (try simp only [Act.put, List.setIfInBounds_toArray, List.set_cons_zero, List.set_cons_succ])
          refine wpAnyH_take (i := 9) (oi := ⟨some 86, .pick (.tmp 79) (.tmp 85) (.const (.bool false)), _, _, _, _⟩) (v := .bool false) rfl (by kernel_rfl) (by kernel_rfl) (by kernel_rfl) (fun _ _ _ h => h) (Or.inl ⟨by rfl, fun wx hS => by first | rfl | (obtain ⟨s1, s2, s3, s4⟩ := hS; unfold execOp; go_simp; done) | (obtain ⟨s1, s2, s3, s4⟩ := hS; unfold execOp; go_simp; simp [*]; done)⟩) hHeld ?_
          (try simp only [Act.put, List.setIfInBounds_toArray, List.set_cons_zero, List.set_cons_succ])
          refine wpAnyH_take (i := 10) (oi := ⟨some 87, .move (.tmp 86), _, _, _, _⟩) (v := .bool false) rfl (by kernel_rfl) (by kernel_rfl) (by kernel_rfl) (fun _ _ _ h => h) (Or.inl ⟨by rfl, fun wx hS => by first | rfl | (obtain ⟨s1, s2, s3, s4⟩ := hS; unfold execOp; go_simp; done) | (obtain ⟨s1, s2, s3, s4⟩ := hS; unfold execOp; go_simp; simp [*]; done)⟩) hHeld ?_
          (try simp only [Act.put, List.setIfInBounds_toArray, List.set_cons_zero, List.set_cons_succ])
          refine wpAnyH_take (i := 11) (oi := ⟨some 88, .fieldAddr 38 (.tmp 11) 0, _, _, _, _⟩) (v := undef) rfl (by kernel_rfl) (by kernel_rfl) (by kernel_rfl) (fun _ _ _ h => h) (Or.inr ⟨by rfl, rfl⟩) hHeld ?_
          (try simp only [Act.put, List.setIfInBounds_toArray, List.set_cons_zero, List.set_cons_succ])
          refine wpAnyH_take (i := 12) (oi := ⟨some 89, .fieldAddr 24 (.tmp 88) 0, _, _, _, _⟩) (v := undef) rfl (by kernel_rfl) (by kernel_rfl) (by kernel_rfl) (fun _ _ _ h => h) (Or.inr ⟨by rfl, rfl⟩) hHeld ?_
          (try simp only [Act.put, List.setIfInBounds_toArray, List.set_cons_zero, List.set_cons_succ])
          refine wpAnyH_take (i := 13) (oi := ⟨some 90, .load 22 (.tmp 89), _, _, _, _⟩) (v := undef) rfl (by kernel_rfl) (by kernel_rfl) (by kernel_rfl) (fun _ _ _ h => h) (Or.inr ⟨by rfl, rfl⟩) hHeld ?_
          (try simp only [Act.put, List.setIfInBounds_toArray, List.set_cons_zero, List.set_cons_succ])
          refine wpAnyH_take (i := 14) (oi := ⟨some 91, .fieldAddr 24 (.tmp 3) 0, _, _, _, _⟩) (v := undef) rfl (by kernel_rfl) (by kernel_rfl) (by kernel_rfl) (fun _ _ _ h => h) (Or.inr ⟨by rfl, rfl⟩) hHeld ?_
          (try simp only [Act.put, List.setIfInBounds_toArray, List.set_cons_zero, List.set_cons_succ])
          refine wpAnyH_take (i := 15) (oi := ⟨some 92, .load 22 (.tmp 91), _, _, _, _⟩) (v := undef) rfl (by kernel_rfl) (by kernel_rfl) (by kernel_rfl) (fun _ _ _ h => h) (Or.inr ⟨by rfl, rfl⟩) hHeld ?_
          (try simp only [Act.put, List.setIfInBounds_toArray, List.set_cons_zero, List.set_cons_succ])
          refine wpAnyH_take (i := 16) (oi := ⟨some 93, .move (.tmp 13), _, _, _, _⟩) (v := undef) rfl (by kernel_rfl) (by kernel_rfl) (by kernel_rfl) (fun _ _ _ h => h) (Or.inr ⟨by rfl, rfl⟩) hHeld ?_
          (try simp only [Act.put, List.setIfInBounds_toArray, List.set_cons_zero, List.set_cons_succ])
          refine wpAnyH_take (i := 17) (oi := ⟨some 94, .slice 22 (.tmp 92) none (some (.tmp 93)) none, _, _, _, _⟩) (v := undef) rfl (by kernel_rfl) (by kernel_rfl) (by kernel_rfl) (fun _ _ _ h => h) (Or.inr ⟨by rfl, rfl⟩) hHeld ?_
          (try simp only [Act.put, List.setIfInBounds_toArray, List.set_cons_zero, List.set_cons_succ])
          refine wpAnyH_ready (rs := [18]) (by kernel_rfl) (by simp) ?_
          refine AllReadyH.cons (o := ⟨some 95, .call { callee := .value (.func 13), args := #[.tmp 90, .tmp 94], argTypes := #[22, 22] }, _, _, _, _⟩) rfl (fun K1 hK1 => ?_) AllReadyH.nil
          refine Eq.mpr (if_neg ?_) ?_
          · exact Bool.eq_false_iff.1 rfl
          refine hK1.out _ _ hHeld (fun hHeld => ?_)
          clear hK1 K1
          (try simp only [Act.put, List.setIfInBounds_toArray, List.set_cons_zero, List.set_cons_succ])
          refine wpAnyH_take (i := 19) (oi := ⟨some 96, .pick (.tmp 87) (.tmp 95) (.const (.bool false)), _, _, _, _⟩) (v := .bool false) rfl (by kernel_rfl) (by kernel_rfl) (by kernel_rfl) (fun _ _ _ h => h) (Or.inl ⟨by rfl, fun wx hS => by first | rfl | (obtain ⟨s1, s2, s3, s4⟩ := hS; unfold execOp; go_simp; done) | (obtain ⟨s1, s2, s3, s4⟩ := hS; unfold execOp; go_simp; simp [*]; done)⟩) hHeld ?_
          (try simp only [Act.put, List.setIfInBounds_toArray, List.set_cons_zero, List.set_cons_succ])
          refine wpAnyH_take (i := 20) (oi := ⟨some 97, .move (.tmp 96), _, _, _, _⟩) (v := .bool false) rfl (by kernel_rfl) (by kernel_rfl) (by kernel_rfl) (fun _ _ _ h => h) (Or.inl ⟨by rfl, fun wx hS => by first | rfl | (obtain ⟨s1, s2, s3, s4⟩ := hS; unfold execOp; go_simp; done) | (obtain ⟨s1, s2, s3, s4⟩ := hS; unfold execOp; go_simp; simp [*]; done)⟩) hHeld ?_
          (try simp only [Act.put, List.setIfInBounds_toArray, List.set_cons_zero, List.set_cons_succ])
          refine wpAnyH_take (i := 21) (oi := ⟨some 98, .fieldAddr 38 (.tmp 11) 1, _, _, _, _⟩) (v := undef) rfl (by kernel_rfl) (by kernel_rfl) (by kernel_rfl) (fun _ _ _ h => h) (Or.inr ⟨by rfl, rfl⟩) hHeld ?_
          (try simp only [Act.put, List.setIfInBounds_toArray, List.set_cons_zero, List.set_cons_succ])
          refine wpAnyH_take (i := 22) (oi := ⟨some 99, .indexAddr 31 (.tmp 98) (.const (.int .i64 0)), _, _, _, _⟩) (v := undef) rfl (by kernel_rfl) (by kernel_rfl) (by kernel_rfl) (fun _ _ _ h => h) (Or.inr ⟨by rfl, rfl⟩) hHeld ?_
          (try simp only [Act.put, List.setIfInBounds_toArray, List.set_cons_zero, List.set_cons_succ])
          refine wpAnyH_take (i := 23) (oi := ⟨some 100, .load 22 (.tmp 99), _, _, _, _⟩) (v := undef) rfl (by kernel_rfl) (by kernel_rfl) (by kernel_rfl) (fun _ _ _ h => h) (Or.inr ⟨by rfl, rfl⟩) hHeld ?_
          (try simp only [Act.put, List.setIfInBounds_toArray, List.set_cons_zero, List.set_cons_succ])
          refine wpAnyH_take (i := 24) (oi := ⟨some 101, .fieldAddr 24 (.tmp 3) 0, _, _, _, _⟩) (v := undef) rfl (by kernel_rfl) (by kernel_rfl) (by kernel_rfl) (fun _ _ _ h => h) (Or.inr ⟨by rfl, rfl⟩) hHeld ?_
          (try simp only [Act.put, List.setIfInBounds_toArray, List.set_cons_zero, List.set_cons_succ])
          refine wpAnyH_take (i := 25) (oi := ⟨some 102, .load 22 (.tmp 101), _, _, _, _⟩) (v := undef) rfl (by kernel_rfl) (by kernel_rfl) (by kernel_rfl) (fun _ _ _ h => h) (Or.inr ⟨by rfl, rfl⟩) hHeld ?_
          (try simp only [Act.put, List.setIfInBounds_toArray, List.set_cons_zero, List.set_cons_succ])
          refine wpAnyH_take (i := 26) (oi := ⟨some 103, .move (.tmp 13), _, _, _, _⟩) (v := undef) rfl (by kernel_rfl) (by kernel_rfl) (by kernel_rfl) (fun _ _ _ h => h) (Or.inr ⟨by rfl, rfl⟩) hHeld ?_
          (try simp only [Act.put, List.setIfInBounds_toArray, List.set_cons_zero, List.set_cons_succ])
          refine wpAnyH_take (i := 27) (oi := ⟨some 104, .slice 22 (.tmp 102) (some (.tmp 103)) none none, _, _, _, _⟩) (v := undef) rfl (by kernel_rfl) (by kernel_rfl) (by kernel_rfl) (fun _ _ _ h => h) (Or.inr ⟨by rfl, rfl⟩) hHeld ?_
          (try simp only [Act.put, List.setIfInBounds_toArray, List.set_cons_zero, List.set_cons_succ])
          refine wpAnyH_ready (rs := [28]) (by kernel_rfl) (by simp) ?_
          refine AllReadyH.cons (o := ⟨some 105, .call { callee := .value (.func 13), args := #[.tmp 100, .tmp 104], argTypes := #[22, 22] }, _, _, _, _⟩) rfl (fun K1 hK1 => ?_) AllReadyH.nil
          refine Eq.mpr (if_neg ?_) ?_
          · exact Bool.eq_false_iff.1 rfl
          refine hK1.out _ _ hHeld (fun hHeld => ?_)
          clear hK1 K1
          (try simp only [Act.put, List.setIfInBounds_toArray, List.set_cons_zero, List.set_cons_succ])
          refine wpAnyH_take (i := 29) (oi := ⟨some 106, .pick (.tmp 97) (.tmp 105) (.const (.bool false)), _, _, _, _⟩) (v := .bool false) rfl (by kernel_rfl) (by kernel_rfl) (by kernel_rfl) (fun _ _ _ h => h) (Or.inl ⟨by rfl, fun wx hS => by first | rfl | (obtain ⟨s1, s2, s3, s4⟩ := hS; unfold execOp; go_simp; done) | (obtain ⟨s1, s2, s3, s4⟩ := hS; unfold execOp; go_simp; simp [*]; done)⟩) hHeld ?_
          (try simp only [Act.put, List.setIfInBounds_toArray, List.set_cons_zero, List.set_cons_succ])
          refine wpAnyH_done (by kernel_rfl) ?_ _
          (try simp only [Act.put, List.setIfInBounds_toArray, List.set_cons_zero, List.set_cons_succ])
          go_wp2_with fail
          go_meet
          case rel => exact ⟨rfl, HBX0.out⟩
        | true =>
          have hd4 : (L == (T.length : Int) - 1) = true := HB2.out.symm
          cases b3 with
          | false =>
            refine wp_region_held_drew (S := fun w' => w'.cell? ⟨GZ, 0, none⟩ = some (.slice aZ T.length cZ) ∧ w'.cell? ⟨GZ, 1, none⟩ = some (.int .i64 L) ∧ w'.cell? ⟨GZ, 2, none⟩ = some (.slice a0Z K.length c0Z) ∧ w'.cell? ⟨w.heap.size, 0, none⟩ = some (.slice a zs.length cap)) (by kernel_rfl) (HCS.out _ HBX0.out) (fun hHeld => ?_)
            refine wpAnyH_take (i := 0) (oi := ⟨some 77, .move (.tmp 13), _, _, _, _⟩) (v := .int .i64 (T.length : Int)) rfl (by kernel_rfl) (by kernel_rfl) (by kernel_rfl) (fun _ _ _ h => h) (Or.inl ⟨by rfl, fun wx hS => by first | rfl | (obtain ⟨s1, s2, s3, s4⟩ := hS; unfold execOp; go_simp; done) | (obtain ⟨s1, s2, s3, s4⟩ := hS; unfold execOp; go_simp; simp [*]; done)⟩) hHeld ?_
            (try simp only [Act.put, List.setIfInBounds_toArray, List.set_cons_zero, List.set_cons_succ])
            refine wpAnyH_take (i := 1) (oi := ⟨some 78, .binOp BinOp.gtr 3 (.tmp 77) (.const (.int .i64 0)) 3, _, _, _, _⟩) (v := .bool true) rfl (by kernel_rfl) (by kernel_rfl) (by kernel_rfl) (fun _ _ _ h => h) (Or.inl ⟨by rfl, fun wx hS => by first | rfl | (obtain ⟨s1, s2, s3, s4⟩ := hS; unfold execOp; go_simp; done) | (obtain ⟨s1, s2, s3, s4⟩ := hS; unfold execOp; go_simp; simp [*]; done)⟩) hHeld ?_
            (try simp only [Act.put, List.setIfInBounds_toArray, List.set_cons_zero, List.set_cons_succ])
            refine wpAnyH_take (i := 2) (oi := ⟨some 79, .move (.tmp 78), _, _, _, _⟩) (v := .bool true) rfl (by kernel_rfl) (by kernel_rfl) (by kernel_rfl) (fun _ _ _ h => h) (Or.inl ⟨by rfl, fun wx hS => by first | rfl | (obtain ⟨s1, s2, s3, s4⟩ := hS; unfold execOp; go_simp; done) | (obtain ⟨s1, s2, s3, s4⟩ := hS; unfold execOp; go_simp; simp [*]; done)⟩) hHeld ?_
            (try simp only [Act.put, List.setIfInBounds_toArray, List.set_cons_zero, List.set_cons_succ])
            refine wpAnyH_take (i := 3) (oi := ⟨some 80, .fieldAddr 38 (.tmp 11) 0, _, _, _, _⟩) (v := .pointer (some ⟨GZ, 0, none⟩)) rfl (by kernel_rfl) (by kernel_rfl) (by kernel_rfl) (fun _ _ _ h => h) (Or.inl ⟨by rfl, fun wx hS => by first | rfl | (obtain ⟨s1, s2, s3, s4⟩ := hS; unfold execOp; go_simp; done) | (obtain ⟨s1, s2, s3, s4⟩ := hS; unfold execOp; go_simp; simp [*]; done)⟩) hHeld ?_
            (try simp only [Act.put, List.setIfInBounds_toArray, List.set_cons_zero, List.set_cons_succ])
            refine wpAnyH_take (i := 4) (oi := ⟨some 81, .fieldAddr 24 (.tmp 80) 1, _, _, _, _⟩) (v := .pointer (some ⟨GZ, 1, none⟩)) rfl (by kernel_rfl) (by kernel_rfl) (by kernel_rfl) (fun _ _ _ h => h) (Or.inl ⟨by rfl, fun wx hS => by first | rfl | (obtain ⟨s1, s2, s3, s4⟩ := hS; unfold execOp; go_simp; done) | (obtain ⟨s1, s2, s3, s4⟩ := hS; unfold execOp; go_simp; simp [*]; done)⟩) hHeld ?_
            (try simp only [Act.put, List.setIfInBounds_toArray, List.set_cons_zero, List.set_cons_succ])
            refine wpAnyH_take (i := 5) (oi := ⟨some 82, .load 3 (.tmp 81), _, _, _, _⟩) (v := .int .i64 L) rfl (by kernel_rfl) (by kernel_rfl) (by kernel_rfl) (fun _ _ _ h => h) (Or.inl ⟨by rfl, fun wx hS => by first | rfl | (obtain ⟨s1, s2, s3, s4⟩ := hS; unfold execOp; go_simp; done) | (obtain ⟨s1, s2, s3, s4⟩ := hS; unfold execOp; go_simp; simp [*]; done)⟩) hHeld ?_
            (try simp only [Act.put, List.setIfInBounds_toArray, List.set_cons_zero, List.set_cons_succ])
            refine wpAnyH_take (i := 6) (oi := ⟨some 83, .move (.tmp 13), _, _, _, _⟩) (v := .int .i64 (T.length : Int)) rfl (by kernel_rfl) (by kernel_rfl) (by kernel_rfl) (fun _ _ _ h => h) (Or.inl ⟨by rfl, fun wx hS => by first | rfl | (obtain ⟨s1, s2, s3, s4⟩ := hS; unfold execOp; go_simp; done) | (obtain ⟨s1, s2, s3, s4⟩ := hS; unfold execOp; go_simp; simp [*]; done)⟩) hHeld ?_
            (try simp only [Act.put, List.setIfInBounds_toArray, List.set_cons_zero, List.set_cons_succ])
            refine wpAnyH_take (i := 7) (oi := ⟨some 84, .binOp BinOp.sub 3 (.tmp 83) (.const (.int .i64 1)) 3, _, _, _, _⟩) (v := .int .i64 ((T.length : Int) - 1)) rfl (by kernel_rfl) (by kernel_rfl) (by kernel_rfl) (fun _ _ _ h => h) (Or.inl ⟨by rfl, fun wx hS => by first | rfl | (obtain ⟨s1, s2, s3, s4⟩ := hS; unfold execOp; go_simp; done) | (obtain ⟨s1, s2, s3, s4⟩ := hS; unfold execOp; go_simp; simp [*]; done)⟩) hHeld ?_
            (try simp only [Act.put, List.setIfInBounds_toArray, List.set_cons_zero, List.set_cons_succ])
            refine wpAnyH_take (i := 8) (oi := ⟨some 85, .binOp BinOp.eql 3 (.tmp 82) (.tmp 84) 3, _, _, _, _⟩) (v := .bool true) rfl (by kernel_rfl) (by kernel_rfl) (by kernel_rfl) (fun _ _ _ h => h) (Or.inl ⟨by rfl, fun wx hS => by first | rfl | (obtain ⟨s1, s2, s3, s4⟩ := hS; unfold execOp; go_simp; done) | (obtain ⟨s1, s2, s3, s4⟩ := hS; unfold execOp; go_simp; simp [*]; done)⟩) hHeld ?_
            (try simp only [Act.put, List.setIfInBounds_toArray, List.set_cons_zero, List.set_cons_succ])
            refine wpAnyH_take (i := 9) (oi := ⟨some 86, .pick (.tmp 79) (.tmp 85) (.const (.bool false)), _, _, _, _⟩) (v := .bool true) rfl (by kernel_rfl) (by kernel_rfl) (by kernel_rfl) (fun _ _ _ h => h) (Or.inl ⟨by rfl, fun wx hS => by first | rfl | (obtain ⟨s1, s2, s3, s4⟩ := hS; unfold execOp; go_simp; done) | (obtain ⟨s1, s2, s3, s4⟩ := hS; unfold execOp; go_simp; simp [*]; done)⟩) hHeld ?_
            (try simp only [Act.put, List.setIfInBounds_toArray, List.set_cons_zero, List.set_cons_succ])
            refine wpAnyH_take (i := 10) (oi := ⟨some 87, .move (.tmp 86), _, _, _, _⟩) (v := .bool true) rfl (by kernel_rfl) (by kernel_rfl) (by kernel_rfl) (fun _ _ _ h => h) (Or.inl ⟨by rfl, fun wx hS => by first | rfl | (obtain ⟨s1, s2, s3, s4⟩ := hS; unfold execOp; go_simp; done) | (obtain ⟨s1, s2, s3, s4⟩ := hS; unfold execOp; go_simp; simp [*]; done)⟩) hHeld ?_
            (try simp only [Act.put, List.setIfInBounds_toArray, List.set_cons_zero, List.set_cons_succ])
            refine wpAnyH_take (i := 11) (oi := ⟨some 88, .fieldAddr 38 (.tmp 11) 0, _, _, _, _⟩) (v := .pointer (some ⟨GZ, 0, none⟩)) rfl (by kernel_rfl) (by kernel_rfl) (by kernel_rfl) (fun _ _ _ h => h) (Or.inl ⟨by rfl, fun wx hS => by first | rfl | (obtain ⟨s1, s2, s3, s4⟩ := hS; unfold execOp; go_simp; done) | (obtain ⟨s1, s2, s3, s4⟩ := hS; unfold execOp; go_simp; simp [*]; done)⟩) hHeld ?_
            (try simp only [Act.put, List.setIfInBounds_toArray, List.set_cons_zero, List.set_cons_succ])
            refine wpAnyH_take (i := 12) (oi := ⟨some 89, .fieldAddr 24 (.tmp 88) 0, _, _, _, _⟩) (v := .pointer (some ⟨GZ, 0, none⟩)) rfl (by kernel_rfl) (by kernel_rfl) (by kernel_rfl) (fun _ _ _ h => h) (Or.inl ⟨by rfl, fun wx hS => by first | rfl | (obtain ⟨s1, s2, s3, s4⟩ := hS; unfold execOp; go_simp; done) | (obtain ⟨s1, s2, s3, s4⟩ := hS; unfold execOp; go_simp; simp [*]; done)⟩) hHeld ?_
            (try simp only [Act.put, List.setIfInBounds_toArray, List.set_cons_zero, List.set_cons_succ])
            refine wpAnyH_take (i := 13) (oi := ⟨some 90, .load 22 (.tmp 89), _, _, _, _⟩) (v := .slice aZ T.length cZ) rfl (by kernel_rfl) (by kernel_rfl) (by kernel_rfl) (fun _ _ _ h => h) (Or.inl ⟨by rfl, fun wx hS => by first | rfl | (obtain ⟨s1, s2, s3, s4⟩ := hS; unfold execOp; go_simp; done) | (obtain ⟨s1, s2, s3, s4⟩ := hS; unfold execOp; go_simp; simp [*]; done)⟩) hHeld ?_
            (try simp only [Act.put, List.setIfInBounds_toArray, List.set_cons_zero, List.set_cons_succ])
            refine wpAnyH_take (i := 14) (oi := ⟨some 91, .fieldAddr 24 (.tmp 3) 0, _, _, _, _⟩) (v := .pointer (some ⟨w.heap.size, 0, none⟩)) rfl (by kernel_rfl) (by kernel_rfl) (by kernel_rfl) (fun _ _ _ h => h) (Or.inl ⟨by rfl, fun wx hS => by first | rfl | (obtain ⟨s1, s2, s3, s4⟩ := hS; unfold execOp; go_simp; done) | (obtain ⟨s1, s2, s3, s4⟩ := hS; unfold execOp; go_simp; simp [*]; done)⟩) hHeld ?_
            (try simp only [Act.put, List.setIfInBounds_toArray, List.set_cons_zero, List.set_cons_succ])
            refine wpAnyH_take (i := 15) (oi := ⟨some 92, .load 22 (.tmp 91), _, _, _, _⟩) (v := .slice a zs.length cap) rfl (by kernel_rfl) (by kernel_rfl) (by kernel_rfl) (fun _ _ _ h => h) (Or.inl ⟨by rfl, fun wx hS => by first | rfl | (obtain ⟨s1, s2, s3, s4⟩ := hS; unfold execOp; go_simp; done) | (obtain ⟨s1, s2, s3, s4⟩ := hS; unfold execOp; go_simp; simp [*]; done)⟩) hHeld ?_
            (try simp only [Act.put, List.setIfInBounds_toArray, List.set_cons_zero, List.set_cons_succ])
            refine wpAnyH_take (i := 16) (oi := ⟨some 93, .move (.tmp 13), _, _, _, _⟩) (v := .int .i64 (T.length : Int)) rfl (by kernel_rfl) (by kernel_rfl) (by kernel_rfl) (fun _ _ _ h => h) (Or.inl ⟨by rfl, fun wx hS => by first | rfl | (obtain ⟨s1, s2, s3, s4⟩ := hS; unfold execOp; go_simp; done) | (obtain ⟨s1, s2, s3, s4⟩ := hS; unfold execOp; go_simp; simp [*]; done)⟩) hHeld ?_
            (try simp only [Act.put, List.setIfInBounds_toArray, List.set_cons_zero, List.set_cons_succ])
            refine wpAnyH_take (i := 17) (oi := ⟨some 94, .slice 22 (.tmp 92) none (some (.tmp 93)) none, _, _, _, _⟩) (v := .slice a T.length cap) rfl (by kernel_rfl) (by kernel_rfl) (by kernel_rfl) (fun _ _ _ h => h) (Or.inl ⟨by rfl, fun wx hS => by first | rfl | (obtain ⟨s1, s2, s3, s4⟩ := hS; unfold execOp; go_simp; done) | (obtain ⟨s1, s2, s3, s4⟩ := hS; unfold execOp; go_simp; simp [*]; done)⟩) hHeld ?_
            (try simp only [Act.put, List.setIfInBounds_toArray, List.set_cons_zero, List.set_cons_succ])
            refine wpAnyH_ready (rs := [18]) (by kernel_rfl) (by simp) ?_
            refine AllReadyH.cons (o := ⟨some 95, .call { callee := .value (.func 13), args := #[.tmp 90, .tmp 94], argTypes := #[22, 22] }, _, _, _, _⟩) rfl (fun K1 hK1 => ?_) AllReadyH.nil
            go_simp
            refine (HE3.out _ HBX0.out).mono ?_
            rintro e wr1 ⟨rfl, hb1⟩
            have hB1 : Below w13.heap.size w13 wr1 := below_trans HBX0.out hb1 HBX0.out.size
            (try dsimp only)
            refine hK1.out _ _ (HCS.out _ hB1) (fun hHeld => ?_)
            clear hK1 K1
            (try simp only [Act.put, List.setIfInBounds_toArray, List.set_cons_zero, List.set_cons_succ])
            refine wpAnyH_take (i := 19) (oi := ⟨some 96, .pick (.tmp 87) (.tmp 95) (.const (.bool false)), _, _, _, _⟩) (v := .bool false) rfl (by kernel_rfl) (by kernel_rfl) (by kernel_rfl) (fun _ _ _ h => h) (Or.inl ⟨by rfl, fun wx hS => by first | rfl | (obtain ⟨s1, s2, s3, s4⟩ := hS; unfold execOp; go_simp; done) | (obtain ⟨s1, s2, s3, s4⟩ := hS; unfold execOp; go_simp; simp [*]; done)⟩) hHeld ?_
            (try simp only [Act.put, List.setIfInBounds_toArray, List.set_cons_zero, List.set_cons_succ])
            refine wpAnyH_take (i := 20) (oi := ⟨some 97, .move (.tmp 96), _, _, _, _⟩) (v := .bool false) rfl (by kernel_rfl) (by kernel_rfl) (by kernel_rfl) (fun _ _ _ h => h) (Or.inl ⟨by rfl, fun wx hS => by first | rfl | (obtain ⟨s1, s2, s3, s4⟩ := hS; unfold execOp; go_simp; done) | (obtain ⟨s1, s2, s3, s4⟩ := hS; unfold execOp; go_simp; simp [*]; done)⟩) hHeld ?_
            (try simp only [Act.put, List.setIfInBounds_toArray, List.set_cons_zero, List.set_cons_succ])
            refine wpAnyH_take (i := 21) (oi := ⟨some 98, .fieldAddr 38 (.tmp 11) 1, _, _, _, _⟩) (v := undef) rfl (by kernel_rfl) (by kernel_rfl) (by kernel_rfl) (fun _ _ _ h => h) (Or.inr ⟨by rfl, rfl⟩) hHeld ?_
            (try simp only [Act.put, List.setIfInBounds_toArray, List.set_cons_zero, List.set_cons_succ])
            refine wpAnyH_take (i := 22) (oi := ⟨some 99, .indexAddr 31 (.tmp 98) (.const (.int .i64 0)), _, _, _, _⟩) (v := undef) rfl (by kernel_rfl) (by kernel_rfl) (by kernel_rfl) (fun _ _ _ h => h) (Or.inr ⟨by rfl, rfl⟩) hHeld ?_
            (try simp only [Act.put, List.setIfInBounds_toArray, List.set_cons_zero, List.set_cons_succ])
            refine wpAnyH_take (i := 23) (oi := ⟨some 100, .load 22 (.tmp 99), _, _, _, _⟩) (v := undef) rfl (by kernel_rfl) (by kernel_rfl) (by kernel_rfl) (fun _ _ _ h => h) (Or.inr ⟨by rfl, rfl⟩) hHeld ?_
            (try simp only [Act.put, List.setIfInBounds_toArray, List.set_cons_zero, List.set_cons_succ])
            refine wpAnyH_take (i := 24) (oi := ⟨some 101, .fieldAddr 24 (.tmp 3) 0, _, _, _, _⟩) (v := undef) rfl (by kernel_rfl) (by kernel_rfl) (by kernel_rfl) (fun _ _ _ h => h) (Or.inr ⟨by rfl, rfl⟩) hHeld ?_
            (try simp only [Act.put, List.setIfInBounds_toArray, List.set_cons_zero, List.set_cons_succ])
            refine wpAnyH_take (i := 25) (oi := ⟨some 102, .load 22 (.tmp 101), _, _, _, _⟩) (v := undef) rfl (by kernel_rfl) (by kernel_rfl) (by kernel_rfl) (fun _ _ _ h => h) (Or.inr ⟨by rfl, rfl⟩) hHeld ?_
            (try simp only [Act.put, List.setIfInBounds_toArray, List.set_cons_zero, List.set_cons_succ])
            refine wpAnyH_take (i := 26) (oi := ⟨some 103, .move (.tmp 13), _, _, _, _⟩) (v := undef) rfl (by kernel_rfl) (by kernel_rfl) (by kernel_rfl) (fun _ _ _ h => h) (Or.inr ⟨by rfl, rfl⟩) hHeld ?_
            (try simp only [Act.put, List.setIfInBounds_toArray, List.set_cons_zero, List.set_cons_succ])
            refine wpAnyH_take (i := 27) (oi := ⟨some 104, .slice 22 (.tmp 102) (some (.tmp 103)) none none, _, _, _, _⟩) (v := undef) rfl (by kernel_rfl) (by kernel_rfl) (by kernel_rfl) (fun _ _ _ h => h) (Or.inr ⟨by rfl, rfl⟩) hHeld ?_
            (try simp only [Act.put, List.setIfInBounds_toArray, List.set_cons_zero, List.set_cons_succ])
            refine wpAnyH_ready (rs := [28]) (by kernel_rfl) (by simp) ?_
            refine AllReadyH.cons (o := ⟨some 105, .call { callee := .value (.func 13), args := #[.tmp 100, .tmp 104], argTypes := #[22, 22] }, _, _, _, _⟩) rfl (fun K1 hK1 => ?_) AllReadyH.nil
            refine Eq.mpr (if_neg ?_) ?_
            · exact Bool.eq_false_iff.1 rfl
            refine hK1.out _ _ hHeld (fun hHeld => ?_)
            clear hK1 K1
            (try simp only [Act.put, List.setIfInBounds_toArray, List.set_cons_zero, List.set_cons_succ])
            refine wpAnyH_take (i := 29) (oi := ⟨some 106, .pick (.tmp 97) (.tmp 105) (.const (.bool false)), _, _, _, _⟩) (v := .bool false) rfl (by kernel_rfl) (by kernel_rfl) (by kernel_rfl) (fun _ _ _ h => h) (Or.inl ⟨by rfl, fun wx hS => by first | rfl | (obtain ⟨s1, s2, s3, s4⟩ := hS; unfold execOp; go_simp; done) | (obtain ⟨s1, s2, s3, s4⟩ := hS; unfold execOp; go_simp; simp [*]; done)⟩) hHeld ?_
            (try simp only [Act.put, List.setIfInBounds_toArray, List.set_cons_zero, List.set_cons_succ])
            refine wpAnyH_done (by kernel_rfl) ?_ _
            (try simp only [Act.put, List.setIfInBounds_toArray, List.set_cons_zero, List.set_cons_succ])
            go_wp2_with fail
            go_meet
            case rel => exact ⟨rfl, hB1⟩
          | true =>
            go_region_held3 (fun w' => w'.cell? ⟨GZ, 0, none⟩ = some (.slice aZ T.length cZ) ∧ w'.cell? ⟨GZ, 1, none⟩ = some (.int .i64 L) ∧ w'.cell? ⟨GZ, 2, none⟩ = some (.slice a0Z K.length c0Z) ∧ w'.cell? ⟨w.heap.size, 0, none⟩ = some (.slice a zs.length cap))
              ((refine HCS.out _ ?_; first | exact HBX0.out | exact hB2 | exact hB1))
              (first
                          | (go_at_call 13; have hqq := hB1; clear hqq; refine (HE4.out _ hB1).mono ?_; rintro e wr2 ⟨rfl, hb2⟩; have hB2 : Below w13.heap.size w13 wr2 := below_trans hB1 hb2 hB1.size)
                          | (go_at_call 13; refine (HE3.out _ HBX0.out).mono ?_; rintro e wr1 ⟨rfl, hb1⟩; have hB1 : Below w13.heap.size w13 wr1 := below_trans HBX0.out hb1 HBX0.out.size))
            all_goals (
              go_wp2_with fail
              go_meet
              case rel => exact ⟨rfl, hB2⟩)
    case rest =>
      obtain ⟨rfl, Hbc⟩ := hcut
      generalize hwd : wc = wd at *
      clear hwd
      have HB_wd : Hid (Below w.heap.size w wd) := below_trans HB_w13.out Hbc.out HB_w13.out.size
      have A_wd : Hid (BoxC wd 24 w.heap.size [.slice a zs.length cap, .int .i64 k]) := A_w13.out.below Hbc.out
      have F_wd : Hid (BoxC wd 33 GF [.int .i64 fk, .int .i64 fa]) := F_w13.out.below Hbc.out
      have C_wd : Hid (BoxC wd 35 GC [.int .i64 c, .int .i64 0, .int .i64 100, .int .i64 v, .int .i64 g]) := C_w13.out.below Hbc.out
      have TZ_wd : Hid (Told wd aZ cZ uZ eZ dZ ⟨T, L, ts2, fk2, fa2, M⟩ es) := TZ_w13.out.below Hbc.out
      have Z_wd : Hid (BoxC wd 38 GZ (resL (.slice aZ T.length cZ) L uZ fk2 fa2 M (.slice eZ es.length dZ))) := Z_w13.out.below Hbc.out
      clear A_w13 F_w13 C_w13 TZ_w13 Z_w13 HB_w13
      clear Hbc
      obtain ⟨bb, hbb⟩ : ∃ bb, bb = (b1 && b2 && b3 && b4) := ⟨_, rfl⟩
      rw [← hbb]
      have HKEY : Hid ((if bb = true then (112 : Int) else 80) = if 0 < T.length ∧ L = (T.length : Int) - 1 ∧ T = zs.take T.length ∧ K = zs.drop T.length then 112 else 80) := by
        show _ = _
        rw [hbb, HB1.out, HB2.out, HB3.out, HB4.out]
        congr 1
        simp only [Bool.and_eq_true, decide_eq_true_eq, beq_iff_eq, eq_iff_iff]
        constructor
        · rintro ⟨⟨⟨q1, q2⟩, q3⟩, q4⟩
          exact ⟨by omega, q2, q3, q4⟩
        · rintro ⟨q1, q2, q3, q4⟩
          exact ⟨⟨⟨by omega, q2⟩, q3⟩, q4⟩
      clear hbb HB1 HB2 HB3 HB4
      obtain ⟨key, hkey⟩ : ∃ key : Int, key = if bb = true then (112 : Int) else 80 := ⟨_, rfl⟩
      obtain ⟨hP1, hP2⟩ := HPA.out rfl key (hkey.trans HKEY.out)
      obtain ⟨X2, hX2⟩ : ∃ X2, X2 = doe ⟨T, L, ts2, fk, fa, 0⟩ 0 0 0 key 0 := ⟨_, rfl⟩
      rw [← hX2] at hP1 hP2
      obtain ⟨⟨T3, L3, ts3, fk3, fa3, M3⟩, E3⟩ := X2
      dsimp only at hP1 hP2
      subst hP1
      obtain ⟨es3, hes3⟩ : ∃ es3, es3 = if (0 : Int) = 0 then ups (btw T T3) else [] := ⟨_, rfl⟩
      have HD2 : Hid (∀ (a : Option Addr) (cap : Nat) (us : List Value) wx, Reads wx (.slice a T.length cap) T → ReadsR wx us ts2 → Calls Try.prog 11 #[.agg #[.slice a T.length cap, .int .i64 L], .agg us.toArray, .agg #[.int .i64 fk, .int .i64 fa], .agg #[.int .i64 0, .int .i64 0, .int .i64 0, .int .i64 key, .int .i64 0]] wx fun q w' => TellPost (⟨T3, L3, ts3, fk3, fa3, M3⟩, 0) es3 wx q w') := fun a cap us wx hx hr => do_tell a cap T L us ts2 fk fa 0 0 0 key 0 wx hx hr _ hX2 _ hes3
      have HT3 : Hid (T3 = zs) := hP2
      clear hX2 hes3 hP2 HPA HKEY HIN HTA
      cases bb with
      | true =>
        have hk2 : key = 112 := hkey
        clear hkey
        subst hk2
        go_wp2_with (first | (refine loadP rfl 38 24 _ rfl GZ 0 rfl (resL (.slice aZ T.length cZ) L uZ fk2 fa2 M (.slice eZ es.length dZ)) [.slice aZ T.length cZ, .int .i64 L] Z_wd.out wide_line (fun j v hv => by rw [Nat.zero_add]; match j with | 0 => exact hv | 1 => exact hv | (j + 2) => simp at hv) ?_) | (refine loadP rfl 38 31 _ rfl GZ 2 rfl (resL (.slice aZ T.length cZ) L uZ fk2 fa2 M (.slice eZ es.length dZ)) uZ Z_wd.out (by rw [hlZ]; exact wide_regs) (fun j v hv => by rw [resL_reg hlZ j (by rw [← hlZ]; exact (List.getElem?_eq_some_iff.1 hv).1)]; exact hv) ?_) | (refine loadC rfl 33 _ rfl GF rfl [.int .i64 fk, .int .i64 fa] F_wd.out wide_find ?_) | (refine buildC rfl 35 _ rfl [.int .i64 0, .int .i64 0, .int .i64 0, .int .i64 112, .int .i64 0] (by kernel_rfl) ?_))
        refine (HD2.out _ _ _ _ TZ_wd.out.1 TZ_wd.out.2.1).mono ?_
        rintro e w14 ⟨hb, aV, cV, uV, eV, dV, a0V, c0V, rfl, hT, hS, hu⟩
        have HB_w14 : Hid (Below w.heap.size w w14) := below_trans HB_wd.out hb HB_wd.out.size
        have A_w14 : Hid (BoxC w14 24 w.heap.size [.slice a zs.length cap, .int .i64 k]) := A_wd.out.below hb
        have F_w14 : Hid (BoxC w14 33 GF [.int .i64 fk, .int .i64 fa]) := F_wd.out.below hb
        have C_w14 : Hid (BoxC w14 35 GC [.int .i64 c, .int .i64 0, .int .i64 100, .int .i64 v, .int .i64 g]) := C_wd.out.below hb
        have TZ_w14 : Hid (Told w14 aZ cZ uZ eZ dZ ⟨T, L, ts2, fk2, fa2, M⟩ es) := TZ_wd.out.below hb
        have Z_w14 : Hid (BoxC w14 38 GZ (resL (.slice aZ T.length cZ) L uZ fk2 fa2 M (.slice eZ es.length dZ))) := Z_wd.out.below hb
        clear A_wd F_wd C_wd TZ_wd Z_wd HB_wd
        have TV_w14 : Hid (Told w14 aV cV uV eV dV ⟨T3, L3, ts3, fk3, fa3, M3⟩ es3) := hT
        clear hb hT
        have hlV : uV.length = 27 := hS.1
        have HSV : Hid (AllSl uV) := hS
        have HUV : Hid (uV[0]? = some (.slice a0V (ts3.getD 0 []).length c0V)) := hu
        clear hS hu
        (try dsimp only)
        go_wp2_with (refine allocC rfl 38 rfl nulL nul_zero ?_)
        intro w15 ha hb
        go_wp2_with (refine storeC rfl 38 _ _ rfl w14.heap.size rfl nulL (resL (.slice aV T3.length cV) L3 uV fk3 fa3 M3 (.slice eV es3.length dV)) rfl ha (by rw [resL_len hlV]; exact wide_res) (resL_one HSV.out rfl rfl) (by rw [nul_len, resL_len hlV]) ?_)
        intro w16 hz hg
        have hb8 : Below w14.heap.size w14 w16 := hb.grown hg hb.size (fun j hj => by cases hj; exact Nat.le_refl _)
        have HLGV : Hid (w.heap.size ≤ w14.heap.size ∧ w.heap.size < w14.heap.size ∧ GF < w14.heap.size ∧ GC < w14.heap.size ∧ GZ < w14.heap.size) := ⟨HB_w14.out.size, A_w14.out.lt, F_w14.out.lt, C_w14.out.lt, Z_w14.out.lt⟩
        have HB_w16 : Hid (Below w.heap.size w w16) := below_trans HB_w14.out hb8 HB_w14.out.size
        have A_w16 : Hid (BoxC w16 24 w.heap.size [.slice a zs.length cap, .int .i64 k]) := A_w14.out.below hb8
        have F_w16 : Hid (BoxC w16 33 GF [.int .i64 fk, .int .i64 fa]) := F_w14.out.below hb8
        have C_w16 : Hid (BoxC w16 35 GC [.int .i64 c, .int .i64 0, .int .i64 100, .int .i64 v, .int .i64 g]) := C_w14.out.below hb8
        have TZ_w16 : Hid (Told w16 aZ cZ uZ eZ dZ ⟨T, L, ts2, fk2, fa2, M⟩ es) := TZ_w14.out.below hb8
        have Z_w16 : Hid (BoxC w16 38 GZ (resL (.slice aZ T.length cZ) L uZ fk2 fa2 M (.slice eZ es.length dZ))) := Z_w14.out.below hb8
        have TV_w16 : Hid (Told w16 aV cV uV eV dV ⟨T3, L3, ts3, fk3, fa3, M3⟩ es3) := TV_w14.out.below hb8
        clear A_w14 F_w14 C_w14 TZ_w14 Z_w14 TV_w14 HB_w14
        have V_w16 : Hid (BoxC w16 38 w14.heap.size (resL (.slice aV T3.length cV) L3 uV fk3 fa3 M3 (.slice eV es3.length dV))) := hz
        clear ha hb hz hg hb8 w15
        generalize w14.heap.size = GV at *
        have yV0 : w16.cell? ⟨GV, 0, none⟩ = some (.slice aV T3.length cV) := (V_w16.out.cell 0).trans resL_0
        have cA0 : w16.cell? ⟨w.heap.size, 0, none⟩ = some (.slice a zs.length cap) := (A_w16.out.cell 0).trans rfl
        have HE : Hid (∀ wx, Below w16.heap.size w16 wx → Calls Try.prog 13 #[.slice aV T3.length cV, .slice a zs.length cap] wx fun e w' => e = .returned (.bool true) ∧ Below wx.heap.size wx w') := fun wx hx => equal_go _ _ T3 zs wx ((TV_w16.out.1).below hx) (HV.out _ (below_trans HB_w16.out hx HB_w16.out.size)) (by show T3.length ≤ _; rw [HT3.out]; have := HZl.out; unfold maxLen; omega) (by have := HZl.out; unfold maxLen; omega) true (by rw [HT3.out]; simp)
        go_wp2_with (fail)
        refine (HE.out _ (Below.refl _ _)).mono ?_
        rintro e w17 ⟨rfl, hb⟩
        have HB_w17 : Hid (Below w.heap.size w w17) := below_trans HB_w16.out hb HB_w16.out.size
        have A_w17 : Hid (BoxC w17 24 w.heap.size [.slice a zs.length cap, .int .i64 k]) := A_w16.out.below hb
        have F_w17 : Hid (BoxC w17 33 GF [.int .i64 fk, .int .i64 fa]) := F_w16.out.below hb
        have C_w17 : Hid (BoxC w17 35 GC [.int .i64 c, .int .i64 0, .int .i64 100, .int .i64 v, .int .i64 g]) := C_w16.out.below hb
        have TZ_w17 : Hid (Told w17 aZ cZ uZ eZ dZ ⟨T, L, ts2, fk2, fa2, M⟩ es) := TZ_w16.out.below hb
        have Z_w17 : Hid (BoxC w17 38 GZ (resL (.slice aZ T.length cZ) L uZ fk2 fa2 M (.slice eZ es.length dZ))) := Z_w16.out.below hb
        have TV_w17 : Hid (Told w17 aV cV uV eV dV ⟨T3, L3, ts3, fk3, fa3, M3⟩ es3) := TV_w16.out.below hb
        have V_w17 : Hid (BoxC w17 38 GV (resL (.slice aV T3.length cV) L3 uV fk3 fa3 M3 (.slice eV es3.length dV))) := V_w16.out.below hb
        clear A_w16 F_w16 C_w16 TZ_w16 Z_w16 TV_w16 V_w16 HB_w16
        clear hb
        go_wp2_with (fail)
        go_ret
        exact ⟨rfl, HB_w17.out⟩
      | false =>
        have hk2 : key = 80 := hkey
        clear hkey
        subst hk2
        go_wp2_with (first | (refine loadP rfl 38 24 _ rfl GZ 0 rfl (resL (.slice aZ T.length cZ) L uZ fk2 fa2 M (.slice eZ es.length dZ)) [.slice aZ T.length cZ, .int .i64 L] Z_wd.out wide_line (fun j v hv => by rw [Nat.zero_add]; match j with | 0 => exact hv | 1 => exact hv | (j + 2) => simp at hv) ?_) | (refine loadP rfl 38 31 _ rfl GZ 2 rfl (resL (.slice aZ T.length cZ) L uZ fk2 fa2 M (.slice eZ es.length dZ)) uZ Z_wd.out (by rw [hlZ]; exact wide_regs) (fun j v hv => by rw [resL_reg hlZ j (by rw [← hlZ]; exact (List.getElem?_eq_some_iff.1 hv).1)]; exact hv) ?_) | (refine loadC rfl 33 _ rfl GF rfl [.int .i64 fk, .int .i64 fa] F_wd.out wide_find ?_) | (refine buildC rfl 35 _ rfl [.int .i64 0, .int .i64 0, .int .i64 0, .int .i64 80, .int .i64 0] (by kernel_rfl) ?_))
        refine (HD2.out _ _ _ _ TZ_wd.out.1 TZ_wd.out.2.1).mono ?_
        rintro e w14 ⟨hb, aV, cV, uV, eV, dV, a0V, c0V, rfl, hT, hS, hu⟩
        have HB_w14 : Hid (Below w.heap.size w w14) := below_trans HB_wd.out hb HB_wd.out.size
        have A_w14 : Hid (BoxC w14 24 w.heap.size [.slice a zs.length cap, .int .i64 k]) := A_wd.out.below hb
        have F_w14 : Hid (BoxC w14 33 GF [.int .i64 fk, .int .i64 fa]) := F_wd.out.below hb
        have C_w14 : Hid (BoxC w14 35 GC [.int .i64 c, .int .i64 0, .int .i64 100, .int .i64 v, .int .i64 g]) := C_wd.out.below hb
        have TZ_w14 : Hid (Told w14 aZ cZ uZ eZ dZ ⟨T, L, ts2, fk2, fa2, M⟩ es) := TZ_wd.out.below hb
        have Z_w14 : Hid (BoxC w14 38 GZ (resL (.slice aZ T.length cZ) L uZ fk2 fa2 M (.slice eZ es.length dZ))) := Z_wd.out.below hb
        clear A_wd F_wd C_wd TZ_wd Z_wd HB_wd
        have TV_w14 : Hid (Told w14 aV cV uV eV dV ⟨T3, L3, ts3, fk3, fa3, M3⟩ es3) := hT
        clear hb hT
        have hlV : uV.length = 27 := hS.1
        have HSV : Hid (AllSl uV) := hS
        have HUV : Hid (uV[0]? = some (.slice a0V (ts3.getD 0 []).length c0V)) := hu
        clear hS hu
        (try dsimp only)
        go_wp2_with (refine allocC rfl 38 rfl nulL nul_zero ?_)
        intro w15 ha hb
        go_wp2_with (refine storeC rfl 38 _ _ rfl w14.heap.size rfl nulL (resL (.slice aV T3.length cV) L3 uV fk3 fa3 M3 (.slice eV es3.length dV)) rfl ha (by rw [resL_len hlV]; exact wide_res) (resL_one HSV.out rfl rfl) (by rw [nul_len, resL_len hlV]) ?_)
        intro w16 hz hg
        have hb8 : Below w14.heap.size w14 w16 := hb.grown hg hb.size (fun j hj => by cases hj; exact Nat.le_refl _)
        have HLGV : Hid (w.heap.size ≤ w14.heap.size ∧ w.heap.size < w14.heap.size ∧ GF < w14.heap.size ∧ GC < w14.heap.size ∧ GZ < w14.heap.size) := ⟨HB_w14.out.size, A_w14.out.lt, F_w14.out.lt, C_w14.out.lt, Z_w14.out.lt⟩
        have HB_w16 : Hid (Below w.heap.size w w16) := below_trans HB_w14.out hb8 HB_w14.out.size
        have A_w16 : Hid (BoxC w16 24 w.heap.size [.slice a zs.length cap, .int .i64 k]) := A_w14.out.below hb8
        have F_w16 : Hid (BoxC w16 33 GF [.int .i64 fk, .int .i64 fa]) := F_w14.out.below hb8
        have C_w16 : Hid (BoxC w16 35 GC [.int .i64 c, .int .i64 0, .int .i64 100, .int .i64 v, .int .i64 g]) := C_w14.out.below hb8
        have TZ_w16 : Hid (Told w16 aZ cZ uZ eZ dZ ⟨T, L, ts2, fk2, fa2, M⟩ es) := TZ_w14.out.below hb8
        have Z_w16 : Hid (BoxC w16 38 GZ (resL (.slice aZ T.length cZ) L uZ fk2 fa2 M (.slice eZ es.length dZ))) := Z_w14.out.below hb8
        have TV_w16 : Hid (Told w16 aV cV uV eV dV ⟨T3, L3, ts3, fk3, fa3, M3⟩ es3) := TV_w14.out.below hb8
        clear A_w14 F_w14 C_w14 TZ_w14 Z_w14 TV_w14 HB_w14
        have V_w16 : Hid (BoxC w16 38 w14.heap.size (resL (.slice aV T3.length cV) L3 uV fk3 fa3 M3 (.slice eV es3.length dV))) := hz
        clear ha hb hz hg hb8 w15
        generalize w14.heap.size = GV at *
        have yV0 : w16.cell? ⟨GV, 0, none⟩ = some (.slice aV T3.length cV) := (V_w16.out.cell 0).trans resL_0
        have cA0 : w16.cell? ⟨w.heap.size, 0, none⟩ = some (.slice a zs.length cap) := (A_w16.out.cell 0).trans rfl
        have HE : Hid (∀ wx, Below w16.heap.size w16 wx → Calls Try.prog 13 #[.slice aV T3.length cV, .slice a zs.length cap] wx fun e w' => e = .returned (.bool true) ∧ Below wx.heap.size wx w') := fun wx hx => equal_go _ _ T3 zs wx ((TV_w16.out.1).below hx) (HV.out _ (below_trans HB_w16.out hx HB_w16.out.size)) (by show T3.length ≤ _; rw [HT3.out]; have := HZl.out; unfold maxLen; omega) (by have := HZl.out; unfold maxLen; omega) true (by rw [HT3.out]; simp)
        go_wp2_with (fail)
        refine (HE.out _ (Below.refl _ _)).mono ?_
        rintro e w17 ⟨rfl, hb⟩
        have HB_w17 : Hid (Below w.heap.size w w17) := below_trans HB_w16.out hb HB_w16.out.size
        have A_w17 : Hid (BoxC w17 24 w.heap.size [.slice a zs.length cap, .int .i64 k]) := A_w16.out.below hb
        have F_w17 : Hid (BoxC w17 33 GF [.int .i64 fk, .int .i64 fa]) := F_w16.out.below hb
        have C_w17 : Hid (BoxC w17 35 GC [.int .i64 c, .int .i64 0, .int .i64 100, .int .i64 v, .int .i64 g]) := C_w16.out.below hb
        have TZ_w17 : Hid (Told w17 aZ cZ uZ eZ dZ ⟨T, L, ts2, fk2, fa2, M⟩ es) := TZ_w16.out.below hb
        have Z_w17 : Hid (BoxC w17 38 GZ (resL (.slice aZ T.length cZ) L uZ fk2 fa2 M (.slice eZ es.length dZ))) := Z_w16.out.below hb
        have TV_w17 : Hid (Told w17 aV cV uV eV dV ⟨T3, L3, ts3, fk3, fa3, M3⟩ es3) := TV_w16.out.below hb
        have V_w17 : Hid (BoxC w17 38 GV (resL (.slice aV T3.length cV) L3 uV fk3 fa3 M3 (.slice eV es3.length dV))) := V_w16.out.below hb
        clear A_w16 F_w16 C_w16 TZ_w16 Z_w16 TV_w16 V_w16 HB_w16
        clear hb
        go_wp2_with (fail)
        go_ret
        exact ⟨rfl, HB_w17.out⟩
end Go.Proofs.Ytpgjaoemkadenaa.Seek


/- EditPaste: whatever comes in, what was deleted into the register without a name and at once put back makes the line as it was. -/
set_option linter.unusedVariables false
set_option linter.unusedSimpArgs false
set_option maxRecDepth 100000
namespace Go.Proofs.Ytpgjaoemkadenaa.editPaste
open Go.ChangeShapes Go.WideShapes Go.ChangeAt Go.RowKit
open Seek

theorem lifted (os : Os) (started : os.Started) (H : Type) (enc : TypeId × Value → H) :
    ReturnsInHanded {} Try.checked os 6 .any (Rows.editPasteSpec.pre6 enc Try.prog Try.f6 Rows.editPasteRow.domain false) (Rows.editPasteSpec.post enc Try.prog Try.f6 false true false false) := by
  refine returnsInHanded_of_change_sized (C := Try.checked) own started (by kernel_rfl) Try.func6
    (ChangeSpec.witness6 (enc := enc) (C := Try.checked) false ⟨#[], #[.agg #[.slice none 0 0, .int .i64 0], .agg #[.int .i64 0, .int .i64 0], .agg #[.int .i64 0, .int .i64 0, .int .i64 0, .int .i64 0, .int .i64 0]], []⟩ 8 (by kernel_rfl) (by kernel_rfl) (by kernel_rfl) (by kernel_rfl)) ?_
  intro W base args ds gs before hval0 hW _ hsz0 _
  have hsz : (DataW.weightsEach Try.prog (Try.f6.params.toList ++ Rows.editPasteSpec.plain.varTypes Try.prog) (ds ++ gs)).all (· ≤ reachBytes) = true := hsz0
  clear hsz0
  have hval : ∀ (j : Nat) t v, Try.f6.params[j]? = some t → args[j]? = some v → Value.okWide Try.prog W .any base t v := hval0
  have hW' := hW
  obtain ⟨p, q, hA0, hV, rfl, _, _⟩ := hW
  have hA : DataW.TrodAll enc Try.prog W 0 (fun _ => true) true Try.f6.params.toList args.toList ds p := hA0
  rw [Try.params6] at hA hval hsz
  obtain ⟨v0, vs0, d0, ds0, p0, q0, hargs, rfl, rfl, h0, r0⟩ := trodAll_cons hA
  obtain ⟨v1, vs1, d1, ds1, p1, q1, rfl, rfl, rfl, h1, r1⟩ := trodAll_cons r0
  obtain ⟨v2, vs2, d2, ds2, p2, q2, rfl, rfl, rfl, h2, r2⟩ := trodAll_cons r1
  obtain ⟨rfl, rfl, rfl⟩ := trodAll_nil r2
  obtain rfl : args = #[v0, v1, v2] := by cases args; simp_all
  obtain ⟨rfl, rfl⟩ := trodVars_none hV
  obtain ⟨x1a, x1b, rfl, rfl⟩ := open_find (hval 1 33 v1 rfl rfl) h1
  obtain ⟨x2a, x2b, x2c, x2d, x2e, rfl, rfl⟩ := open_cmd (hval 2 35 v2 rfl rfl) h2
  clear hA0 hval0
  simp only [List.append_nil, List.nil_append] at hW'
  have hlt0 : ∀ y ∈ p0, y.block < W.heap.size := fun y hy => by simpa using hW'.lt y hy
  have hargs0 : ∀ (W' : World), Below W.heap.size W W' → DataW.Trod enc Try.prog W' 0 (fun b => decide (b < W.heap.size)) true 24 v0 d0 p0 :=
    fun W' hn => Below.trod laidOut (by kernel_rfl) (of_decide_eq_true (by kernel_rfl)) h0 hn hlt0
  have hw0 : ∀ n ∈ d0.weights Try.prog 24, n ≤ reachBytes := fun n hn => of_decide_eq_true (List.all_eq_true.1 hsz _ (DataW.weights_mem_each (j := 0) rfl rfl n hn))
  obtain ⟨a0, cap0, zs0, k0, rfl, hr0, hm0⟩ := open_line (hval 0 24 v0 rfl rfl) h0 hlt0 hw0
  have hargs1 : ∀ (W' : World), Below W.heap.size W W' → DataW.Trod enc Try.prog W' 0 (fun b => decide (b < W.heap.size)) true 33 (.agg #[.int .i64 x1a, .int .i64 x1b]) d1 [] :=
    fun W' hn => Below.trod laidOut (by kernel_rfl) (of_decide_eq_true (by kernel_rfl)) h1 hn (fun y hy => by cases hy)
  have hargs2 : ∀ (W' : World), Below W.heap.size W W' → DataW.Trod enc Try.prog W' 0 (fun b => decide (b < W.heap.size)) true 35 (.agg #[.int .i64 x2a, .int .i64 x2b, .int .i64 x2c, .int .i64 x2d, .int .i64 x2e]) d2 [] :=
    fun W' hn => Below.trod laidOut (by kernel_rfl) (of_decide_eq_true (by kernel_rfl)) h2 hn (fun y hy => by cases hy)
  refine (pasteW a0 cap0 zs0 k0 x1a x1b x2a x2b x2c x2d x2e W hr0 hm0).mono fun e W' ⟨he, hb⟩ => ?_
  subst he
  exact ⟨_, rfl, _, _, _, [], p0, [], hW', trodAll_cons_mk (shut_bool Try.underlying4 _) trodAll_mk0,
    by
      have := trodAll_cons_mk (hargs0 _ hb) (trodAll_cons_mk (hargs1 _ hb) (trodAll_cons_mk (hargs2 _ hb) trodAll_mk0))
      simp only [List.append_nil, List.nil_append] at this
      exact this,
    rfl, hb.frame _, fun h => by cases h⟩

theorem over : Rows.EditPasteSaid :=
  OpenClaim.holds_of_wide 6 Try.f6 rfl rfl rfl rfl rfl rfl rfl ⟨rfl, rfl, rfl, rfl, rfl⟩ rfl rfl rfl rfl rfl (by kernel_rfl) Try.func6 (by kernel_rfl)
    (of_decide_eq_true (by kernel_rfl)) (by unfold Func.isWrapper; first | (rw [if_pos (by decide +kernel)]; kernel_rfl) | (rw [if_neg (by decide +kernel)]; exact ⟨rfl, rfl⟩))
    (fun os started H enc _ => lifted os started H enc)
end Go.Proofs.Ytpgjaoemkadenaa.editPaste
namespace Go.Proofs.Ytpgjaoemkadenaa
theorem editPaste_holds : Rows.EditPasteSaid := editPaste.over
#print axioms editPaste_holds
end Go.Proofs.Ytpgjaoemkadenaa
