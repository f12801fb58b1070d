/- EditCase: whatever comes in, letters that are turned twice are as they were, and nothing but letters is turned. -/
import Derived.Test.YtpgjaoemkadenaaM27
import Derived.Test.YtpgjaoemkadenaaM28
/- The walk of EditCase. -/
set_option linter.unusedVariables false
set_option linter.unusedSimpArgs false
set_option maxRecDepth 100000
namespace Go.Proofs.Ytpgjaoemkadenaa.Seek
open Go.RowKit Plain


theorem ex_case (a : Option Addr) (c : Nat) (w : World) (h : Reads w (.slice a 3 c) [97, 66, 49]) :
    Calls Try.prog 11 #[.agg #[.slice a 3 c, .int .i64 0], .agg nils.toArray, .agg #[.int .i64 0, .int .i64 0], .agg #[.int .i64 3, .int .i64 0, .int .i64 0, .int .i64 126, .int .i64 0]] w fun q w' => TellPost (⟨[65, 98, 49], 2, nilT, 0, 0, 0⟩, 0) (ups (btw [97, 66, 49] [65, 98, 49])) w q w' :=
  do_tell a c [97, 66, 49] 0 nils nilT 0 0 3 0 0 126 0 w h (readsR_nil w) _ (by kernel_rfl) _ rfl

theorem or_small : ∀ d : Fin 26, bits BinOp.or IntKind.i64 (97 + (d.val : Int)) 32 = 97 + (d.val : Int) ∧ bits BinOp.or IntKind.i64 (65 + (d.val : Int)) 32 = 97 + (d.val : Int) := by decide +kernel
/-- A letter that is turned, and its other case. -/
theorem cas_or (x : Int) (h : cas x ≠ x) : ∃ z : Int, 97 ≤ z ∧ z ≤ 122 ∧ bits BinOp.or IntKind.i64 x 32 = z ∧ bits BinOp.or IntKind.i64 (cas x) 32 = z := by
  unfold cas at h ⊢
  by_cases h1 : 65 ≤ x ∧ x ≤ 90
  · rw [if_pos h1]
    have q := or_small ⟨(x - 65).toNat, by omega⟩
    have e : ((x - 65).toNat : Int) = x - 65 := by omega
    dsimp only at q
    rw [e, show 97 + (x - 65) = x - 65 + 97 by omega, show 65 + (x - 65) = x by omega] at q
    exact ⟨x - 65 + 97, by omega, by omega, q.2, q.1⟩
  · rw [if_neg h1] at h ⊢
    by_cases h2 : 97 ≤ x ∧ x ≤ 122
    · rw [if_pos h2]
      have q := or_small ⟨(x - 97).toNat, by omega⟩
      have e : ((x - 97).toNat : Int) = x - 97 := by omega
      dsimp only at q
      rw [e, show 97 + (x - 97) = x by omega, show 65 + (x - 97) = x - 97 + 65 by omega] at q
      exact ⟨x, by omega, by omega, q.1, q.2⟩
    · rw [if_neg h2] at h
      exact absurd rfl h

set_option maxHeartbeats 4000000 in
theorem casedW (a : Option Addr) (cap : Nat) (zs : List Int) (k : Int) (n : Int) (w : World) (h : Reads w (.slice a zs.length cap) zs) (hm : Mild zs) :
    Calls Try.prog 7 #[.agg #[.slice a zs.length cap, .int .i64 k], .int .i64 n] w fun e w' => e = .returned (.bool true) ∧ Below w.heap.size w w' := by
  obtain ⟨X, hX⟩ : ∃ X, X = doe ⟨zs, k, nilT, 0, 0, 0⟩ n 0 0 126 0 := ⟨_, rfl⟩
  have hca : X.2 = 0 → _ := fun q => doe_case zs k n X hX q
  obtain ⟨⟨T, L, ts2, fk2, fa2, M⟩, E⟩ := X
  obtain ⟨es, hes⟩ : ∃ es, es = if E = 0 then ups (btw zs T) else [] := ⟨_, rfl⟩
  have hca2 : E = 0 → 0 ≤ k ∧ k < (zs.length : Int) ∧ zs.length ≤ 200 ∧ 0 ≤ n ∧ n ≤ 999 ∧ T = flp zs k.toNat (times n) ∧ (doe ⟨T, k, nilT, 0, 0, 0⟩ n 0 0 126 0).2 = 0 ∧ (doe ⟨T, k, nilT, 0, 0, 0⟩ n 0 0 126 0).1.text = zs := hca
  obtain ⟨X2, hX2⟩ : ∃ X2, X2 = doe ⟨T, k, nilT, 0, 0, 0⟩ n 0 0 126 0 := ⟨_, rfl⟩
  rw [← hX2] at hca2
  obtain ⟨⟨T3, L3, ts3, fk3, fa3, M3⟩, E3⟩ := X2
  obtain ⟨es3, hes3⟩ : ∃ es3, es3 = if E3 = 0 then ups (btw T T3) else [] := ⟨_, rfl⟩
  have HD : Hid (∀ wx, Below w.heap.size w wx → Calls Try.prog 11 #[.agg #[.slice a zs.length cap, .int .i64 k], .agg nils.toArray, .agg #[.int .i64 0, .int .i64 0], .agg #[.int .i64 n, .int .i64 0, .int .i64 0, .int .i64 126, .int .i64 0]] wx fun q w' => TellPost (⟨T, L, ts2, fk2, fa2, M⟩, E) es wx q w') := fun wx hx => do_tell a cap zs k nils nilT 0 0 n 0 0 126 0 wx (h.below hx) (readsR_nil wx) _ hX _ hes
  have HD2 : Hid (∀ (a : Option Addr) (cap : Nat) wx, Reads wx (.slice a T.length cap) T → Calls Try.prog 11 #[.agg #[.slice a T.length cap, .int .i64 k], .agg nils.toArray, .agg #[.int .i64 0, .int .i64 0], .agg #[.int .i64 n, .int .i64 0, .int .i64 0, .int .i64 126, .int .i64 0]] wx fun q w' => TellPost (⟨T3, L3, ts3, fk3, fa3, M3⟩, E3) es3 wx q w') := fun a cap wx hx => do_tell a cap T k nils nilT 0 0 n 0 0 126 0 wx hx (readsR_nil wx) _ hX2 _ hes3
  have HCA : Hid (E = 0 → 0 ≤ k ∧ k < (zs.length : Int) ∧ zs.length ≤ 200 ∧ 0 ≤ n ∧ n ≤ 999 ∧ T = flp zs k.toNat (times n) ∧ E3 = 0 ∧ T3 = zs) := hca2
  clear hX hca hes hX2 hes3 hca2 hm
  have HV : Hid (∀ wx, Below w.heap.size w wx → Reads wx (.slice a zs.length cap) zs) := fun wx hx => h.below hx
  go_enter Try.func7, Try.ntmps7
  go_wp2_with (refine boxC rfl 24 _ rfl [.slice a zs.length cap, .int .i64 k] rfl ?_)
  intro w1 ha hb
  have HB_w1 : Hid (Below w.heap.size w w1) := hb
  have A_w1 : Hid (BoxC w1 24 w.heap.size [.slice a zs.length cap, .int .i64 k]) := ha
  clear ha hb
  clear h
  go_wp2_with (first | (refine allocC rfl 35 rfl [.int .i64 0, .int .i64 0, .int .i64 0, .int .i64 0, .int .i64 0] (by kernel_rfl) ?_))
  intro w2 ha hb
  have HLGC : Hid (w.heap.size ≤ w1.heap.size ∧ w.heap.size < w1.heap.size) := ⟨HB_w1.out.size, A_w1.out.lt⟩
  have HB_w2 : Hid (Below w.heap.size w w2) := below_trans HB_w1.out hb HB_w1.out.size
  have A_w2 : Hid (BoxC w2 24 w.heap.size [.slice a zs.length cap, .int .i64 k]) := A_w1.out.below hb
  clear A_w1 HB_w1
  have C_w2 : Hid (BoxC w2 35 w1.heap.size [.int .i64 0, .int .i64 0, .int .i64 0, .int .i64 0, .int .i64 0]) := ha
  clear ha hb
  generalize w1.heap.size = GC at *
  go_wp2_with (refine storeC rfl 35 _ _ rfl GC rfl [.int .i64 0, .int .i64 0, .int .i64 0, .int .i64 0, .int .i64 0] [.int .i64 n, .int .i64 0, .int .i64 0, .int .i64 126, .int .i64 0] rfl C_w2.out wide_cmd (by intro v hv; simp only [List.mem_cons, List.not_mem_nil, or_false] at hv; rcases hv with rfl | rfl | rfl | rfl | rfl <;> rfl) rfl ?_)
  intro w3 hz hg
  have HB_w3 : Hid (Below w.heap.size w w3) := HB_w2.out.grown hg HB_w2.out.size (fun j hj => by cases hj; exact (by have := HLGC.out; omega))
  have A_w3 : Hid (BoxC w3 24 w.heap.size [.slice a zs.length cap, .int .i64 k]) := A_w2.out.kept hg (fun e => by have := HLGC.out; have := Option.some.inj e; omega)
  clear A_w2 C_w2 HB_w2
  have C_w3 : Hid (BoxC w3 35 GC [.int .i64 n, .int .i64 0, .int .i64 0, .int .i64 126, .int .i64 0]) := hz
  clear hz hg
  go_wp2_with (fail)
  refine (of_reads _ [97, 66, 49] (by decide) w3 (by decide)).mono ?_
  rintro e w4 ⟨hb, a1, c1, rfl, ho⟩
  have HB_w4 : Hid (Below w.heap.size w w4) := below_trans HB_w3.out hb HB_w3.out.size
  have A_w4 : Hid (BoxC w4 24 w.heap.size [.slice a zs.length cap, .int .i64 k]) := A_w3.out.below hb
  have C_w4 : Hid (BoxC w4 35 GC [.int .i64 n, .int .i64 0, .int .i64 0, .int .i64 126, .int .i64 0]) := C_w3.out.below hb
  clear A_w3 C_w3 HB_w3
  have O1_w4 : Hid (Reads w4 (.slice a1 3 c1) [97, 66, 49]) := ho.reads
  clear hb ho
  go_wp2_with (first | (refine buildC rfl 31 _ rfl nils (by kernel_rfl) ?_))
  refine (ex_case _ _ _ O1_w4.out).mono ?_
  rintro e w5 ⟨hb, aX, cX, uX, eX, dX, a0X, c0X, rfl, hT, hS, hu⟩
  have HB_w5 : Hid (Below w.heap.size w w5) := below_trans HB_w4.out hb HB_w4.out.size
  have A_w5 : Hid (BoxC w5 24 w.heap.size [.slice a zs.length cap, .int .i64 k]) := A_w4.out.below hb
  have C_w5 : Hid (BoxC w5 35 GC [.int .i64 n, .int .i64 0, .int .i64 0, .int .i64 126, .int .i64 0]) := C_w4.out.below hb
  have O1_w5 : Hid (Reads w5 (.slice a1 3 c1) [97, 66, 49]) := O1_w4.out.below hb
  clear A_w4 C_w4 O1_w4 HB_w4
  have TX_w5 : Hid (Told w5 aX cX uX eX dX ⟨[65, 98, 49], 2, nilT, 0, 0, 0⟩ (ups (btw [97, 66, 49] [65, 98, 49]))) := hT
  clear hb hT
  have hlX : uX.length = 27 := hS.1
  have HSX : Hid (AllSl uX) := hS
  have HUX : Hid (uX[0]? = some (.slice a0X 0 c0X)) := hu
  clear hS hu
  (try dsimp only)
  go_wp2_with (refine allocC rfl 38 rfl nulL nul_zero ?_)
  intro w6 ha hb
  go_wp2_with (refine storeC rfl 38 _ _ rfl w5.heap.size rfl nulL (resL (.slice aX 3 cX) 2 uX 0 0 0 (.slice eX (ups (btw [97, 66, 49] [65, 98, 49])).length dX)) rfl ha (by rw [resL_len hlX]; exact wide_res) (resL_one HSX.out rfl rfl) (by rw [nul_len, resL_len hlX]) ?_)
  intro w7 hz hg
  have hb8 : Below w5.heap.size w5 w7 := hb.grown hg hb.size (fun j hj => by cases hj; exact Nat.le_refl _)
  have HLGX : Hid (w.heap.size ≤ w5.heap.size ∧ w.heap.size < w5.heap.size ∧ GC < w5.heap.size) := ⟨HB_w5.out.size, A_w5.out.lt, C_w5.out.lt⟩
  have HB_w7 : Hid (Below w.heap.size w w7) := below_trans HB_w5.out hb8 HB_w5.out.size
  have A_w7 : Hid (BoxC w7 24 w.heap.size [.slice a zs.length cap, .int .i64 k]) := A_w5.out.below hb8
  have C_w7 : Hid (BoxC w7 35 GC [.int .i64 n, .int .i64 0, .int .i64 0, .int .i64 126, .int .i64 0]) := C_w5.out.below hb8
  have O1_w7 : Hid (Reads w7 (.slice a1 3 c1) [97, 66, 49]) := O1_w5.out.below hb8
  have TX_w7 : Hid (Told w7 aX cX uX eX dX ⟨[65, 98, 49], 2, nilT, 0, 0, 0⟩ (ups (btw [97, 66, 49] [65, 98, 49]))) := TX_w5.out.below hb8
  clear A_w5 C_w5 O1_w5 TX_w5 HB_w5
  have X_w7 : Hid (BoxC w7 38 w5.heap.size (resL (.slice aX 3 cX) 2 uX 0 0 0 (.slice eX (ups (btw [97, 66, 49] [65, 98, 49])).length dX))) := hz
  clear ha hb hz hg hb8 w6
  generalize w5.heap.size = GX at *
  clear O1_w7
  go_upto_region 3 with fail
  go_cut [35] from 26 to 35 (fun s35 wx => s35 = .bool false ∧ Hid (Below w7.heap.size w7 wx))
  case first =>
    have y00 : w7.cell? ⟨GX, 0, none⟩ = some (.slice aX 3 cX) := (X_w7.out.cell 0).trans resL_0
    have HBX0 : Hid (Below w7.heap.size w7 w7.drew) := below_drewN (Below.refl _ _) 1
    have HOF : Hid (∀ (s : ByteArray) (xs : List Int), codes s = xs → s.size ≤ 4096 → ∀ wx, Calls Try.prog 12 #[.string s] wx fun e w' => Below wx.heap.size wx w' ∧ ∃ a c, e = .returned (.slice a xs.length c) ∧ Own w' wx.heap.size (.slice a xs.length c) xs) := fun s xs hx hs wx => of_reads s xs hx wx hs
    go_region_with (first
          | (go_at_call 12; refine (HOF.out ⟨#[65, 98, 49]⟩ [65, 98, 49] (by decide) (by decide) w7.drew).mono ?_; rintro e wr1 ⟨hb1, ar1, cr1, rfl, ho1⟩; have hB1 : Below w7.heap.size w7 wr1 := below_trans HBX0.out hb1 (Nat.le_refl _); have y01 : wr1.cell? ⟨GX, 0, none⟩ = some (.slice aX 3 cX) := ((X_w7.out.below hB1).cell 0).trans resL_0; have HE1 : Hid (Calls Try.prog 13 #[.slice aX 3 cX, .slice ar1 3 cr1] wr1 fun e w' => e = .returned (.bool true) ∧ ∃ q, w' = wr1.drewN q) := equal_any _ _ [65, 98, 49] [65, 98, 49] wr1 (TX_w7.out.below hB1).1 ho1.reads (by decide) (by decide))
          | (go_at_call 13; refine HE1.out.mono ?_; rintro e wr2 ⟨rfl, q2, hw2⟩; have hB2 : Below w7.heap.size w7 wr2 := by rw [hw2]; exact below_drewN hB1 q2
             have y02 : wr2.cell? ⟨GX, 0, none⟩ = some (.slice aX 3 cX) := ((X_w7.out.below hB2).cell 0).trans resL_0; (try clear hw2)))
    all_goals (
      go_wp2_with fail
      go_meet
      case rel => exact ⟨rfl, hB2⟩)
  case rest =>
    obtain ⟨rfl, Hbc⟩ := hcut
    have HB_wc : Hid (Below w.heap.size w wc) := below_trans HB_w7.out Hbc.out HB_w7.out.size
    have A_wc : Hid (BoxC wc 24 w.heap.size [.slice a zs.length cap, .int .i64 k]) := A_w7.out.below Hbc.out
    have C_wc : Hid (BoxC wc 35 GC [.int .i64 n, .int .i64 0, .int .i64 0, .int .i64 126, .int .i64 0]) := C_w7.out.below Hbc.out
    have TX_wc : Hid (Told wc aX cX uX eX dX ⟨[65, 98, 49], 2, nilT, 0, 0, 0⟩ (ups (btw [97, 66, 49] [65, 98, 49]))) := TX_w7.out.below Hbc.out
    have X_wc : Hid (BoxC wc 38 GX (resL (.slice aX 3 cX) 2 uX 0 0 0 (.slice eX (ups (btw [97, 66, 49] [65, 98, 49])).length dX))) := X_w7.out.below Hbc.out
    clear A_w7 C_w7 TX_w7 X_w7 HB_w7
    clear Hbc
    clear TX_wc
    clear X_wc
    go_wp2_with (first | (refine buildC rfl 31 _ rfl nils (by kernel_rfl) ?_) | (refine loadC rfl 24 _ rfl w.heap.size rfl [.slice a zs.length cap, .int .i64 k] A_wc.out wide_line ?_) | (refine loadC rfl 35 _ rfl GC rfl [.int .i64 n, .int .i64 0, .int .i64 0, .int .i64 126, .int .i64 0] C_wc.out wide_cmd ?_))
    refine (HD.out _ HB_wc.out).mono ?_
    rintro e w8 ⟨hb, aY, cY, uY, eY, dY, a0Y, c0Y, rfl, hT, hS, hu⟩
    have HB_w8 : Hid (Below w.heap.size w w8) := below_trans HB_wc.out hb HB_wc.out.size
    have A_w8 : Hid (BoxC w8 24 w.heap.size [.slice a zs.length cap, .int .i64 k]) := A_wc.out.below hb
    have C_w8 : Hid (BoxC w8 35 GC [.int .i64 n, .int .i64 0, .int .i64 0, .int .i64 126, .int .i64 0]) := C_wc.out.below hb
    clear A_wc C_wc HB_wc
    have TY_w8 : Hid (Told w8 aY cY uY eY dY ⟨T, L, ts2, fk2, fa2, M⟩ es) := hT
    clear hb hT
    have hlY : uY.length = 27 := hS.1
    have HSY : Hid (AllSl uY) := hS
    have HUY : Hid (uY[0]? = some (.slice a0Y (ts2.getD 0 []).length c0Y)) := hu
    clear hS hu
    (try dsimp only)
    go_wp2_with (refine allocC rfl 38 rfl nulL nul_zero ?_)
    intro w9 ha hb
    go_wp2_with (refine storeC rfl 38 _ _ rfl w8.heap.size rfl nulL (resL (.slice aY T.length cY) L uY fk2 fa2 M (.slice eY es.length dY)) rfl ha (by rw [resL_len hlY]; exact wide_res) (resL_one HSY.out rfl rfl) (by rw [nul_len, resL_len hlY]) ?_)
    intro w10 hz hg
    have hb8 : Below w8.heap.size w8 w10 := hb.grown hg hb.size (fun j hj => by cases hj; exact Nat.le_refl _)
    have HLGY : Hid (w.heap.size ≤ w8.heap.size ∧ w.heap.size < w8.heap.size ∧ GC < w8.heap.size) := ⟨HB_w8.out.size, A_w8.out.lt, C_w8.out.lt⟩
    have HB_w10 : Hid (Below w.heap.size w w10) := below_trans HB_w8.out hb8 HB_w8.out.size
    have A_w10 : Hid (BoxC w10 24 w.heap.size [.slice a zs.length cap, .int .i64 k]) := A_w8.out.below hb8
    have C_w10 : Hid (BoxC w10 35 GC [.int .i64 n, .int .i64 0, .int .i64 0, .int .i64 126, .int .i64 0]) := C_w8.out.below hb8
    have TY_w10 : Hid (Told w10 aY cY uY eY dY ⟨T, L, ts2, fk2, fa2, M⟩ es) := TY_w8.out.below hb8
    clear A_w8 C_w8 TY_w8 HB_w8
    have Y_w10 : Hid (BoxC w10 38 w8.heap.size (resL (.slice aY T.length cY) L uY fk2 fa2 M (.slice eY es.length dY))) := hz
    clear ha hb hz hg hb8 w9
    generalize w8.heap.size = GY at *
    by_cases he : E = 0
    rotate_left
    · have hb1 : (E != 0) = true := by simpa using he
      go_wp2_with (fail)
      go_ret
      exact ⟨rfl, HB_w10.out⟩
    subst he
    obtain ⟨hk0, hk1, hz, hn0, hn9, hT, rfl, rfl⟩ := HCA.out rfl
    have hTl : T.length = T3.length := by rw [hT]; exact flp_len _ _ _ (by omega)
    have HTF : Hid (T = flp T3 k.toNat (times n)) := hT
    clear hT HCA
    have HZl : Hid (T3.length ≤ 200 ∧ T.length = T3.length) := ⟨hz, hTl⟩
    clear hTl
    have cA0 : w10.cell? ⟨w.heap.size, 0, none⟩ = some (.slice a T3.length cap) := (A_w10.out.cell 0).trans rfl
    have cA1 : w10.cell? ⟨w.heap.size, 1, none⟩ = some (.int .i64 k) := (A_w10.out.cell 1).trans rfl
    have yY0 : w10.cell? ⟨GY, 0, none⟩ = some (.slice aY T.length cY) := (Y_w10.out.cell 0).trans resL_0
    go_wp2_with (first | (refine buildC rfl 31 _ rfl nils (by kernel_rfl) ?_) | (refine loadC rfl 35 _ rfl GC rfl [.int .i64 n, .int .i64 0, .int .i64 0, .int .i64 126, .int .i64 0] C_w10.out wide_cmd ?_))
    clear cA0 cA1 yY0
    refine (HD2.out _ _ _ TY_w10.out.1).mono ?_
    rintro e w11 ⟨hb, aZ, cZ, uZ, eZ, dZ, a0Z, c0Z, rfl, hT, hS, hu⟩
    have HB_w11 : Hid (Below w.heap.size w w11) := below_trans HB_w10.out hb HB_w10.out.size
    have A_w11 : Hid (BoxC w11 24 w.heap.size [.slice a T3.length cap, .int .i64 k]) := A_w10.out.below hb
    have C_w11 : Hid (BoxC w11 35 GC [.int .i64 n, .int .i64 0, .int .i64 0, .int .i64 126, .int .i64 0]) := C_w10.out.below hb
    have TY_w11 : Hid (Told w11 aY cY uY eY dY ⟨T, L, ts2, fk2, fa2, M⟩ es) := TY_w10.out.below hb
    have Y_w11 : Hid (BoxC w11 38 GY (resL (.slice aY T.length cY) L uY fk2 fa2 M (.slice eY es.length dY))) := Y_w10.out.below hb
    clear A_w10 C_w10 TY_w10 Y_w10 HB_w10
    have TZ_w11 : Hid (Told w11 aZ cZ uZ eZ dZ ⟨T3, L3, ts3, fk3, fa3, M3⟩ es3) := hT
    clear hb hT
    have hlZ : uZ.length = 27 := hS.1
    have HSZ : Hid (AllSl uZ) := hS
    have HUZ : Hid (uZ[0]? = some (.slice a0Z (ts3.getD 0 []).length c0Z)) := hu
    clear hS hu
    (try dsimp only)
    go_wp2_with (refine allocC rfl 38 rfl nulL nul_zero ?_)
    intro w12 ha hb
    go_wp2_with (refine storeC rfl 38 _ _ rfl w11.heap.size rfl nulL (resL (.slice aZ T3.length cZ) L3 uZ fk3 fa3 M3 (.slice eZ es3.length dZ)) rfl ha (by rw [resL_len hlZ]; exact wide_res) (resL_one HSZ.out rfl rfl) (by rw [nul_len, resL_len hlZ]) ?_)
    intro w13 hz hg
    have hb8 : Below w11.heap.size w11 w13 := hb.grown hg hb.size (fun j hj => by cases hj; exact Nat.le_refl _)
    have HLGZ : Hid (w.heap.size ≤ w11.heap.size ∧ w.heap.size < w11.heap.size ∧ GC < w11.heap.size ∧ GY < w11.heap.size) := ⟨HB_w11.out.size, A_w11.out.lt, C_w11.out.lt, Y_w11.out.lt⟩
    have HB_w13 : Hid (Below w.heap.size w w13) := below_trans HB_w11.out hb8 HB_w11.out.size
    have A_w13 : Hid (BoxC w13 24 w.heap.size [.slice a T3.length cap, .int .i64 k]) := A_w11.out.below hb8
    have C_w13 : Hid (BoxC w13 35 GC [.int .i64 n, .int .i64 0, .int .i64 0, .int .i64 126, .int .i64 0]) := C_w11.out.below hb8
    have TY_w13 : Hid (Told w13 aY cY uY eY dY ⟨T, L, ts2, fk2, fa2, M⟩ es) := TY_w11.out.below hb8
    have Y_w13 : Hid (BoxC w13 38 GY (resL (.slice aY T.length cY) L uY fk2 fa2 M (.slice eY es.length dY))) := Y_w11.out.below hb8
    have TZ_w13 : Hid (Told w13 aZ cZ uZ eZ dZ ⟨T3, L3, ts3, fk3, fa3, M3⟩ es3) := TZ_w11.out.below hb8
    clear A_w11 C_w11 TY_w11 Y_w11 TZ_w11 HB_w11
    have Z_w13 : Hid (BoxC w13 38 w11.heap.size (resL (.slice aZ T3.length cZ) L3 uZ fk3 fa3 M3 (.slice eZ es3.length dZ))) := hz
    clear ha hb hz hg hb8 w12
    generalize w11.heap.size = GZ at *
    have HE : Hid (∀ wx, Below w13.heap.size w13 wx → Calls Try.prog 13 #[.slice aZ T3.length cZ, .slice a T3.length cap] wx fun e w' => e = .returned (.bool true) ∧ Below wx.heap.size wx w') := fun wx hx => equal_go _ _ T3 T3 wx ((TZ_w13.out.1).below hx) (HV.out _ (below_trans HB_w13.out hx HB_w13.out.size)) (by have := HZl.out; unfold maxLen; omega) (by have := HZl.out; unfold maxLen; omega) true (by simp)
    have cA0 : w13.cell? ⟨w.heap.size, 0, none⟩ = some (.slice a T3.length cap) := (A_w13.out.cell 0).trans rfl
    have yZ0 : w13.cell? ⟨GZ, 0, none⟩ = some (.slice aZ T3.length cZ) := (Z_w13.out.cell 0).trans resL_0
    go_wp2_with (fail)
    clear cA0 yZ0
    refine (HE.out _ (Below.refl _ _)).mono ?_
    rintro e w14 ⟨rfl, hb⟩
    have HB_w14 : Hid (Below w.heap.size w w14) := below_trans HB_w13.out hb HB_w13.out.size
    have A_w14 : Hid (BoxC w14 24 w.heap.size [.slice a T3.length cap, .int .i64 k]) := A_w13.out.below hb
    have C_w14 : Hid (BoxC w14 35 GC [.int .i64 n, .int .i64 0, .int .i64 0, .int .i64 126, .int .i64 0]) := C_w13.out.below hb
    have TY_w14 : Hid (Told w14 aY cY uY eY dY ⟨T, L, ts2, fk2, fa2, M⟩ es) := TY_w13.out.below hb
    have Y_w14 : Hid (BoxC w14 38 GY (resL (.slice aY T.length cY) L uY fk2 fa2 M (.slice eY es.length dY))) := Y_w13.out.below hb
    have TZ_w14 : Hid (Told w14 aZ cZ uZ eZ dZ ⟨T3, L3, ts3, fk3, fa3, M3⟩ es3) := TZ_w13.out.below hb
    have Z_w14 : Hid (BoxC w14 38 GZ (resL (.slice aZ T3.length cZ) L3 uZ fk3 fa3 M3 (.slice eZ es3.length dZ))) := Z_w13.out.below hb
    clear A_w13 C_w13 TY_w13 Y_w13 TZ_w13 Z_w13 HB_w13
    clear hb HE
    clear TZ_w14
    clear Z_w14
    have hneq : ((T.length : Int) != (T3.length : Int)) = false := by simp [HZl.out.2]
    have cA0 : w14.cell? ⟨w.heap.size, 0, none⟩ = some (.slice a T3.length cap) := (A_w14.out.cell 0).trans rfl
    have yY0 : w14.cell? ⟨GY, 0, none⟩ = some (.slice aY T.length cY) := (Y_w14.out.cell 0).trans resL_0
    go_wp2_with (fail)
    clear cA0 yY0
    go_loopw [83] (fun u83 wl => ∃ i : Nat, u83 = .int .i64 (i : Int) ∧ i ≤ T3.length ∧ Hid (Below w.heap.size w wl) ∧ Hid (BoxC wl 24 w.heap.size [.slice a T3.length cap, .int .i64 k]) ∧ Hid (BoxC wl 35 GC [.int .i64 n, .int .i64 0, .int .i64 0, .int .i64 126, .int .i64 0]) ∧ Hid (Told wl aY cY uY eY dY ⟨T, L, ts2, fk2, fa2, M⟩ es) ∧ Hid (BoxC wl 38 GY (resL (.slice aY T.length cY) L uY fk2 fa2 M (.slice eY es.length dY)))) (fun u83 _ => T3.length - (intOf u83).toNat)
    case atStart => exact ⟨0, rfl, Nat.zero_le _, HB_w14, A_w14, C_w14, TY_w14, Y_w14⟩
    case round =>
      obtain ⟨i, rfl, hif, HB_wr, A_wr, C_wr, TY_wr, Y_wr⟩ := hrel
      clear A_w14 C_w14 TY_w14 Y_w14 HB_w14
      by_cases hlt : i < T3.length
      rotate_left
      · have hge : ¬ (i : Int) < (T3.length : Int) := by omega
        go_wp2_with (fail)
        go_ret
        exact ⟨rfl, HB_wr.out⟩
      have hlt2 : (i : Int) < (T3.length : Int) := by omega
      have hlt3 : (i : Int) < (T.length : Int) := by have := HZl.out.2; omega
      have hwi : IntKind.i64.wrap ((i : Int) + 1) = (i : Int) + 1 := by rw [IntKind.wrap_i64]; omega
      have hmx : max 1 n = (times n : Int) := by unfold times; omega
      have hkw : IntKind.i64.wrap (k + (times n : Int)) = k + (times n : Int) := by rw [IntKind.wrap_i64]; unfold times; omega
      obtain ⟨x, hx⟩ : ∃ x, x = T3.getD i 0 := ⟨_, rfl⟩
      obtain ⟨y, hy⟩ : ∃ y, y = T.getD i 0 := ⟨_, rfl⟩
      have hxy : y = if k.toNat ≤ i ∧ i < k.toNat + times n then cas x else x := by rw [hy, hx, HTF.out]; exact flp_at _ _ _ _ (by omega) hlt
      have HR1 : Hid (Reads wr (.slice a T3.length cap) T3) := HV.out _ HB_wr.out
      have HR2 : Hid (Reads wr (.slice aY T.length cY) T) := TY_wr.out.1
      have hA0 : wr.cell? ⟨w.heap.size, 0, none⟩ = some (.slice a T3.length cap) := (A_wr.out.cell 0).trans rfl
      have hA1 : wr.cell? ⟨w.heap.size, 1, none⟩ = some (.int .i64 k) := (A_wr.out.cell 1).trans rfl
      have yY0 : wr.cell? ⟨GY, 0, none⟩ = some (.slice aY T.length cY) := (Y_wr.out.cell 0).trans resL_0
      have hTl := HZl.out.2
      rcases HR1.out with ⟨_, _, hv1, hn1⟩ | ⟨b1, o1, cp1, hv1, hcp1, hmx1, hb1, hc1⟩
      · exfalso; rw [hn1] at hlt; exact absurd hlt (by simp)
      rcases HR2.out with ⟨_, _, hv2, hn2⟩ | ⟨b2, o2, cp2, hv2, hcp2, hmx2, hb2, hc2⟩
      · exfalso; rw [hn2] at hTl; simp only [List.length_nil] at hTl; omega
      have hc1i : wr.cell? ⟨b1, o1 + i, none⟩ = some (.int .i64 x) := by rw [hx]; exact hc1 i hlt
      have hc2i : wr.cell? ⟨b2, o2 + i, none⟩ = some (.int .i64 y) := by rw [hy]; exact hc2 i (by omega)
      simp only [Value.slice.injEq] at hv1 hv2
      obtain ⟨rfl, _, rfl⟩ := hv1
      obtain ⟨rfl, _, rfl⟩ := hv2
      clear hc1 hc2 hx hy hTl HR1 HR2 hcp1 hmx1 hb1 hcp2 hmx2 hb2
      have hfin : ∀ (u : Nat), True := fun _ => trivial
      by_cases hxe : x = y
      · have hxb : (x != y) = false := by simp [hxe]
        clear hxy hxe
        go_wp2_with fail
        go_roundw
        case rel => exact ⟨i + 1, by go_num, by omega, HB_wr, A_wr, C_wr, TY_wr, Y_wr⟩
        case measure => simp [intOf] <;> omega
      · have hxb : (x != y) = true := by simpa using hxe
        have hin : k.toNat ≤ i ∧ i < k.toNat + times n := by
          by_cases q : k.toNat ≤ i ∧ i < k.toNat + times n
          · exact q
          · rw [if_neg q] at hxy; exact absurd hxy.symm hxe
        rw [if_pos hin] at hxy
        obtain ⟨z, hz1, hz2, hz3, hz4⟩ := cas_or x (fun q => hxe (by rw [hxy, q]))
        rw [← hxy] at hz4
        have hk2 : ¬ (i : Int) < k := by omega
        have hk3 : ¬ (i : Int) ≥ k + (times n : Int) := by omega
        have hk4 : ¬ k + (times n : Int) ≤ (i : Int) := by omega
        have hz5 : ¬ z < 97 := by omega
        have hz6 : ¬ z > 122 := by omega
        have hz7 : ¬ 122 < z := by omega
        clear hxy hxe hin
        go_wp2_with fail
        go_roundw
        case rel => exact ⟨i + 1, by go_num, by omega, HB_wr, A_wr, C_wr, TY_wr, Y_wr⟩
        case measure => simp [intOf] <;> omega
end Go.Proofs.Ytpgjaoemkadenaa.Seek


/- EditCase: whatever comes in, letters that are turned twice are as they were, and nothing but letters is turned. -/
set_option linter.unusedVariables false
set_option linter.unusedSimpArgs false
set_option maxRecDepth 100000
namespace Go.Proofs.Ytpgjaoemkadenaa.editCase
open Go.ChangeShapes Go.WideShapes Go.ChangeAt Go.RowKit
open Seek

theorem lifted (os : Os) (started : os.Started) (H : Type) (enc : TypeId × Value → H) :
    ReturnsInHanded {} Try.checked os 7 .any (Rows.editCaseSpec.pre6 enc Try.prog Try.f7 Rows.editCaseRow.domain false) (Rows.editCaseSpec.post enc Try.prog Try.f7 false true false false) := by
  refine returnsInHanded_of_change_sized (C := Try.checked) own started (by kernel_rfl) Try.func7
    (ChangeSpec.witness6 (enc := enc) (C := Try.checked) false ⟨#[], #[.agg #[.slice none 0 0, .int .i64 0], .int .i64 0], []⟩ 8 (by kernel_rfl) (by kernel_rfl) (by kernel_rfl) (by kernel_rfl)) ?_
  intro W base args ds gs before hval0 hW _ hsz0 _
  have hsz : (DataW.weightsEach Try.prog (Try.f7.params.toList ++ Rows.editCaseSpec.plain.varTypes Try.prog) (ds ++ gs)).all (· ≤ reachBytes) = true := hsz0
  clear hsz0
  have hval : ∀ (j : Nat) t v, Try.f7.params[j]? = some t → args[j]? = some v → Value.okWide Try.prog W .any base t v := hval0
  have hW' := hW
  obtain ⟨p, q, hA0, hV, rfl, _, _⟩ := hW
  have hA : DataW.TrodAll enc Try.prog W 0 (fun _ => true) true Try.f7.params.toList args.toList ds p := hA0
  rw [Try.params7] at hA hval hsz
  obtain ⟨v0, vs0, d0, ds0, p0, q0, hargs, rfl, rfl, h0, r0⟩ := trodAll_cons hA
  obtain ⟨v1, vs1, d1, ds1, p1, q1, rfl, rfl, rfl, h1, r1⟩ := trodAll_cons r0
  obtain ⟨rfl, rfl, rfl⟩ := trodAll_nil r1
  obtain rfl : args = #[v0, v1] := by cases args; simp_all
  obtain ⟨rfl, rfl⟩ := trodVars_none hV
  obtain ⟨x1, rfl, rfl, rfl, wx1⟩ := open_int Try.underlying3 (hval 1 3 v1 rfl rfl) h1
  clear hA0 hval0
  simp only [List.append_nil, List.nil_append] at hW'
  have hlt0 : ∀ y ∈ p0, y.block < W.heap.size := fun y hy => by simpa using hW'.lt y hy
  have hargs0 : ∀ (W' : World), Below W.heap.size W W' → DataW.Trod enc Try.prog W' 0 (fun b => decide (b < W.heap.size)) true 24 v0 d0 p0 :=
    fun W' hn => Below.trod laidOut (by kernel_rfl) (of_decide_eq_true (by kernel_rfl)) h0 hn hlt0
  have hw0 : ∀ n ∈ d0.weights Try.prog 24, n ≤ reachBytes := fun n hn => of_decide_eq_true (List.all_eq_true.1 hsz _ (DataW.weights_mem_each (j := 0) rfl rfl n hn))
  obtain ⟨a0, cap0, zs0, k0, rfl, hr0, hm0⟩ := open_line (hval 0 24 v0 rfl rfl) h0 hlt0 hw0
  refine (casedW a0 cap0 zs0 k0 x1 W hr0 hm0).mono fun e W' ⟨he, hb⟩ => ?_
  subst he
  exact ⟨_, rfl, _, _, _, [], p0, [], hW', trodAll_cons_mk (shut_bool Try.underlying4 _) trodAll_mk0,
    by
      have := trodAll_cons_mk (hargs0 _ hb) (trodAll_cons_mk (shut_int (enc := enc) (w := W') (base := 0) (spare := fun b => decide (b < W.heap.size)) (held := true) Try.underlying3 wx1) trodAll_mk0)
      simp only [List.append_nil, List.nil_append] at this
      exact this,
    rfl, hb.frame _, fun h => by cases h⟩

theorem over : Rows.EditCaseSaid :=
  OpenClaim.holds_of_wide 7 Try.f7 rfl rfl rfl rfl rfl rfl rfl ⟨rfl, rfl, rfl, rfl, rfl⟩ rfl rfl rfl rfl rfl (by kernel_rfl) Try.func7 (by kernel_rfl)
    (of_decide_eq_true (by kernel_rfl)) (by unfold Func.isWrapper; first | (rw [if_pos (by decide +kernel)]; kernel_rfl) | (rw [if_neg (by decide +kernel)]; exact ⟨rfl, rfl⟩))
    (fun os started H enc _ => lifted os started H enc)
end Go.Proofs.Ytpgjaoemkadenaa.editCase
namespace Go.Proofs.Ytpgjaoemkadenaa
theorem editCase_holds : Rows.EditCaseSaid := editCase.over
#print axioms editCase_holds
end Go.Proofs.Ytpgjaoemkadenaa
