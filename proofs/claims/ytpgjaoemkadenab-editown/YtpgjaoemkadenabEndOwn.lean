/- EditOwn: whatever comes in, a line and registers that are handed in stay, with the memory behind them, and what comes of a command is new memory. -/
import Derived.Test.YtpgjaoemkadenabM47
import Derived.Deep.RegionHeld3
import Derived.Test.YtpgjaoemkadenabM46
/- The walk of EditOwn. -/
set_option linter.unusedVariables false
set_option linter.unusedSimpArgs false
set_option maxRecDepth 100000
namespace Go.Proofs.Ytpgjaoemkadenab.Seek
open Go.RowKit Plain


theorem ex_own (a : Option Addr) (c : Nat) (w : World) (h : Reads w (.slice a 2 c) [97, 98]) :
    Calls Try.prog 13 #[.agg #[.slice a 2 c, .int .i64 0], .agg nils.toArray, .agg #[.int .i64 0, .int .i64 0], .agg #[.int .i64 0, .int .i64 0, .int .i64 0, .int .i64 120, .int .i64 0]] w fun q w' => TellPost (⟨[98], 0, ((nilT.set 0 [97]).set 0 [97]), 0, 0, 0⟩, 0) (ups (btw [97, 98] [98])) w q w' :=
  do_tell a c [97, 98] 0 nils nilT 0 0 0 0 0 120 0 w h (readsR_nil w) _ (by kernel_rfl) _ rfl


set_option maxHeartbeats 8000000 in
theorem ownW (a : Option Addr) (cap : Nat) (zs : List Int) (k : Int) (vs : List Value) (ts : List (List Int)) (c r o v g key : Int) (w : World) (h : Reads w (.slice a zs.length cap) zs) (hm : Mild zs) (hr : ReadsR w vs ts) :
    Calls Try.prog 4 #[.agg #[.slice a zs.length cap, .int .i64 k], .agg vs.toArray, .agg #[.int .i64 c, .int .i64 r, .int .i64 o, .int .i64 v, .int .i64 g], .int .i64 key] w fun e w' => e = .returned (.bool true) ∧ Below w.heap.size w w' := by
  obtain ⟨X, hX⟩ : ∃ X, X = doe ⟨zs, k, ts, 0, 0, 0⟩ c r o v g := ⟨_, rfl⟩
  obtain ⟨⟨T, L, ts2, fk2, fa2, M⟩, E⟩ := X
  obtain ⟨es, hes⟩ : ∃ es, es = if E = 0 then ups (btw zs T) else [] := ⟨_, rfl⟩
  obtain ⟨R, hR⟩ : ∃ R, R = keyd zs k 1 key := ⟨_, rfl⟩
  have HDO : Hid (∀ wx B gx ls, Ample wx B gx zs → ReadsR wx ls ts → Calls Try.prog 13 #[.agg #[amp gx zs, .int .i64 k], .agg ls.toArray, .agg #[.int .i64 0, .int .i64 0], .agg #[.int .i64 c, .int .i64 r, .int .i64 o, .int .i64 v, .int .i64 g]] wx fun q w' => Below wx.heap.size wx w' ∧ ∃ x, q = .returned (.tuple #[x, .int .i64 E]) ∧ OwnRes w' wx.heap.size x ⟨T, L, ts2, fk2, fa2, M⟩ es) := by
    intro wx B gx ls hx hr
    have q := do_go (some ⟨gx, 0, none⟩) (zs.length + 3) zs k ls ts 0 0 c r o v g wx hx.reads hr
    rw [← hX] at q
    unfold DoPost at q
    dsimp only at q
    rw [← hes] at q
    exact q
  have HKY : Hid (∀ wx B gx, Ample wx B gx zs → Calls Try.prog 15 #[.agg #[amp gx zs, .int .i64 k], .int .i64 1, .int .i64 key] wx fun e w' => LinePost R wx e w') := fun wx B gx hx => by rw [hR]; exact key_go _ zs k 1 key wx hx.reads
  have HMZ : Hid (Mild zs) := hm
  have HLT : Hid (ts.length = 27) := hr.2.1
  have HMT : Hid (∀ i, i < 27 → Mild (ts.getD i [])) := fun i hi => (hr.2.2 i hi).2
  clear hX hes hR hm
  have HV : Hid (∀ wx, Below w.heap.size w wx → Reads wx (.slice a zs.length cap) zs) := fun wx hx => h.below hx
  have HRR : Hid (∀ wx, Below w.heap.size w wx → ReadsR wx vs ts) := fun wx hx => hr.below hx
  have hvs : vs.length = 27 := hr.1.1
  have HS : Hid (AllSl vs) := hr.1
  go_enter Try.func4, Try.ntmps4
  go_wp2_with (refine boxC rfl 24 _ rfl [.slice a zs.length cap, .int .i64 k] rfl ?_)
  intro w1 ha hb
  have HB_w1 : Hid (Below w.heap.size w w1) := hb
  have A_w1 : Hid (BoxC w1 24 w.heap.size [.slice a zs.length cap, .int .i64 k]) := ha
  clear ha hb
  go_wp2_with (refine boxC rfl 36 _ rfl vs rfl ?_)
  intro w2 ha hb
  have HLGR : Hid (w.heap.size ≤ w1.heap.size ∧ w.heap.size < w1.heap.size) := ⟨HB_w1.out.size, A_w1.out.lt⟩
  have HB_w2 : Hid (Below w.heap.size w w2) := below_trans HB_w1.out hb HB_w1.out.size
  have A_w2 : Hid (BoxC w2 24 w.heap.size [.slice a zs.length cap, .int .i64 k]) := A_w1.out.below hb
  clear A_w1 HB_w1
  have R_w2 : Hid (BoxC w2 36 w1.heap.size vs) := ha
  clear ha hb
  generalize w1.heap.size = GR at *
  go_wp2_with (refine boxC rfl 38 _ rfl [.int .i64 c, .int .i64 r, .int .i64 o, .int .i64 v, .int .i64 g] rfl ?_)
  intro w3 ha hb
  have HLGC : Hid (w.heap.size ≤ w2.heap.size ∧ w.heap.size < w2.heap.size ∧ GR < w2.heap.size) := ⟨HB_w2.out.size, A_w2.out.lt, R_w2.out.lt⟩
  have HB_w3 : Hid (Below w.heap.size w w3) := below_trans HB_w2.out hb HB_w2.out.size
  have A_w3 : Hid (BoxC w3 24 w.heap.size [.slice a zs.length cap, .int .i64 k]) := A_w2.out.below hb
  have R_w3 : Hid (BoxC w3 36 GR vs) := R_w2.out.below hb
  clear A_w2 R_w2 HB_w2
  have C_w3 : Hid (BoxC w3 38 w2.heap.size [.int .i64 c, .int .i64 r, .int .i64 o, .int .i64 v, .int .i64 g]) := ha
  clear ha hb
  generalize w2.heap.size = GC at *
  clear h hr
  go_wp2_with (fail)
  refine (of_reads _ [97, 98] (by decide) w3 (by decide)).mono ?_
  rintro e w4 ⟨hb, a1, c1, rfl, ho⟩
  have HB_w4 : Hid (Below w.heap.size w w4) := below_trans HB_w3.out hb HB_w3.out.size
  have A_w4 : Hid (BoxC w4 24 w.heap.size [.slice a zs.length cap, .int .i64 k]) := A_w3.out.below hb
  have R_w4 : Hid (BoxC w4 36 GR vs) := R_w3.out.below hb
  have C_w4 : Hid (BoxC w4 38 GC [.int .i64 c, .int .i64 r, .int .i64 o, .int .i64 v, .int .i64 g]) := C_w3.out.below hb
  clear A_w3 R_w3 C_w3 HB_w3
  have O1_w4 : Hid (Reads w4 (.slice a1 2 c1) [97, 98]) := ho.reads
  clear hb ho
  go_wp2_with (first | (refine buildC rfl 36 _ rfl nils (by kernel_rfl) ?_))
  refine (ex_own _ _ _ O1_w4.out).mono ?_
  rintro e w5 ⟨hb, aE9, cE9, uE9, eE9, dE9, a0E9, c0E9, rfl, hT, hS, hu⟩
  have HB_w5 : Hid (Below w.heap.size w w5) := below_trans HB_w4.out hb HB_w4.out.size
  have A_w5 : Hid (BoxC w5 24 w.heap.size [.slice a zs.length cap, .int .i64 k]) := A_w4.out.below hb
  have R_w5 : Hid (BoxC w5 36 GR vs) := R_w4.out.below hb
  have C_w5 : Hid (BoxC w5 38 GC [.int .i64 c, .int .i64 r, .int .i64 o, .int .i64 v, .int .i64 g]) := C_w4.out.below hb
  have O1_w5 : Hid (Reads w5 (.slice a1 2 c1) [97, 98]) := O1_w4.out.below hb
  clear A_w4 R_w4 C_w4 O1_w4 HB_w4
  have TE9_w5 : Hid (Told w5 aE9 cE9 uE9 eE9 dE9 ⟨[98], 0, (nilT.set 0 [97]).set 0 [97], 0, 0, 0⟩ (ups (btw [97, 98] [98]))) := hT
  clear hb hT
  have hlE9 : uE9.length = 27 := hS.1
  have HSE9 : Hid (AllSl uE9) := hS
  have HUE9 : Hid (uE9[0]? = some (.slice a0E9 1 c0E9)) := hu
  clear hS hu
  (try dsimp only)
  go_wp2_with (refine allocC rfl 43 rfl nulL nul_zero ?_)
  intro w6 ha hb
  go_wp2_with (refine storeC rfl 43 _ _ rfl w5.heap.size rfl nulL (resL (.slice aE9 1 cE9) 0 uE9 0 0 0 (.slice eE9 (ups (btw [97, 98] [98])).length dE9)) rfl ha (by rw [resL_len hlE9]; exact wide_res) (resL_one HSE9.out rfl rfl) (by rw [nul_len, resL_len hlE9]) ?_)
  intro w7 hz hg
  have hb8 : Below w5.heap.size w5 w7 := hb.grown hg hb.size (fun j hj => by cases hj; exact Nat.le_refl _)
  have HLGE9 : Hid (w.heap.size ≤ w5.heap.size ∧ w.heap.size < w5.heap.size ∧ GR < w5.heap.size ∧ GC < w5.heap.size) := ⟨HB_w5.out.size, A_w5.out.lt, R_w5.out.lt, C_w5.out.lt⟩
  have HB_w7 : Hid (Below w.heap.size w w7) := below_trans HB_w5.out hb8 HB_w5.out.size
  have A_w7 : Hid (BoxC w7 24 w.heap.size [.slice a zs.length cap, .int .i64 k]) := A_w5.out.below hb8
  have R_w7 : Hid (BoxC w7 36 GR vs) := R_w5.out.below hb8
  have C_w7 : Hid (BoxC w7 38 GC [.int .i64 c, .int .i64 r, .int .i64 o, .int .i64 v, .int .i64 g]) := C_w5.out.below hb8
  have O1_w7 : Hid (Reads w7 (.slice a1 2 c1) [97, 98]) := O1_w5.out.below hb8
  have TE9_w7 : Hid (Told w7 aE9 cE9 uE9 eE9 dE9 ⟨[98], 0, (nilT.set 0 [97]).set 0 [97], 0, 0, 0⟩ (ups (btw [97, 98] [98]))) := TE9_w5.out.below hb8
  clear A_w5 R_w5 C_w5 O1_w5 TE9_w5 HB_w5
  have E9_w7 : Hid (BoxC w7 43 w5.heap.size (resL (.slice aE9 1 cE9) 0 uE9 0 0 0 (.slice eE9 (ups (btw [97, 98] [98])).length dE9))) := hz
  clear ha hb hz hg hb8 w6
  generalize w5.heap.size = GE9 at *
  clear O1_w7
  clear TE9_w7
  have yE90 : w7.cell? ⟨GE9, 0, none⟩ = some (.slice aE9 1 cE9) := (E9_w7.out.cell 0).trans resL_0
  go_upto_region 4 with fail
  go_cut [11, 12] from 43 to 49 (fun s11 s12 wx => ∃ GI GJ gx : Nat, s11 = .pointer (some ⟨GI, 0, none⟩) ∧ s12 = .pointer (some ⟨GJ, 0, none⟩) ∧ Hid (Below w7.heap.size w7 wx) ∧ Hid (w7.heap.size ≤ GI ∧ w7.heap.size ≤ GJ ∧ GI ≠ GJ) ∧ Hid (BoxC wx 24 GI [amp gx zs, .int .i64 k]) ∧ Hid (BoxC wx 36 GJ vs) ∧ Hid (Ample wx w7.heap.size gx zs))
  case first =>
    have HAM : Hid (∀ wx, Below w7.heap.size w7 wx → Calls Try.prog 14 #[.slice a zs.length cap, .int .i64 77] wx fun e w' => Below wx.heap.size wx w' ∧ ∃ g, e = .returned (.slice (some ⟨g, 0, none⟩) zs.length (zs.length + 3)) ∧ Ample w' wx.heap.size g zs) := fun wx hx => ample_any _ zs wx (HV.out _ (below_trans HB_w7.out hx HB_w7.out.size)) HMZ.out
    have HA0 : Hid (BoxC w7 24 w.heap.size [.slice a zs.length cap, .int .i64 k]) := A_w7.out
    have HR0 : Hid (BoxC w7 36 GR vs) := R_w7.out
    refine wp_region_held_drew (S := fun wx => Below w7.heap.size w7 wx) (by kernel_rfl) (below_drewN (Below.refl _ _) 1) (fun hHeld => ?_)
    refine wpAnyH_take (i := 0) (oi := ⟨some 43, .fieldAddr 24 (.tmp 4) 0, _, _, _, _⟩) (v := .pointer (some ⟨w.heap.size, 0, none⟩)) rfl (by kernel_rfl) (by kernel_rfl) (by kernel_rfl) (fun _ _ _ h => h) (Or.inl ⟨by rfl, fun wx hS => by first | rfl | (unfold execOp; go_simp; done)⟩) hHeld ?_
    (try simp only [Act.put, List.setIfInBounds_toArray, List.set_cons_zero, List.set_cons_succ])
    refine wpAnyH_take (i := 1) (oi := ⟨some 44, .load 22 (.tmp 43), _, _, _, _⟩) (v := .slice a zs.length cap) rfl (by kernel_rfl) (by kernel_rfl) (by kernel_rfl) (fun _ _ _ h => h) (Or.inl ⟨by rfl, fun wx hS => exec_load1 24 22 _ rfl w.heap.size 0 rfl [.slice a zs.length cap, .int .i64 k] _ (HA0.out.below hS) rfl (fun w => by go_simp)⟩) hHeld ?_
    (try simp only [Act.put, List.setIfInBounds_toArray, List.set_cons_zero, List.set_cons_succ])
    refine wpAnyH_take (i := 3) (oi := ⟨some 46, .fieldAddr 24 (.tmp 4) 1, _, _, _, _⟩) (v := .pointer (some ⟨w.heap.size, 1, none⟩)) rfl (by kernel_rfl) (by kernel_rfl) (by kernel_rfl) (fun _ _ _ h => h) (Or.inl ⟨by rfl, fun wx hS => by first | rfl | (unfold execOp; go_simp; done)⟩) hHeld ?_
    (try simp only [Act.put, List.setIfInBounds_toArray, List.set_cons_zero, List.set_cons_succ])
    refine wpAnyH_take (i := 4) (oi := ⟨some 47, .load 3 (.tmp 46), _, _, _, _⟩) (v := .int .i64 k) rfl (by kernel_rfl) (by kernel_rfl) (by kernel_rfl) (fun _ _ _ h => h) (Or.inl ⟨by rfl, fun wx hS => exec_load1 24 3 _ rfl w.heap.size 1 rfl [.slice a zs.length cap, .int .i64 k] _ (HA0.out.below hS) rfl (fun w => by go_simp)⟩) hHeld ?_
    (try simp only [Act.put, List.setIfInBounds_toArray, List.set_cons_zero, List.set_cons_succ])
    refine wpAnyH_take (i := 6) (oi := ⟨some 49, .load 36 (.tmp 5), _, _, _, _⟩) (v := .agg vs.toArray) rfl (by kernel_rfl) (by kernel_rfl) (by kernel_rfl) (fun _ _ _ h => h) (Or.inl ⟨by rfl, fun wx hS => exec_loadC 36 _ rfl GR rfl vs (HR0.out.below hS) (by rw [hvs]; exact wide_regs)⟩) hHeld ?_
    (try simp only [Act.put, List.setIfInBounds_toArray, List.set_cons_zero, List.set_cons_succ])
    refine wpAnyH_ready (rs := [2, 7, 8]) (by kernel_rfl) (by simp) ?_
    refine AllReadyH.cons (o := ⟨some 45, .call { callee := .value (.func 14), args := #[.tmp 44, .const (.int .i64 77)], argTypes := #[22, 3] }, _, _, _, _⟩) rfl (fun K1 hK1 => ?_) (AllReadyH.cons (o := ⟨some 11, .alloc 24, _, _, _, none⟩) rfl (fun K1 hK1 => ?_) (AllReadyH.cons (o := ⟨some 12, .alloc 36, _, _, _, none⟩) rfl (fun K1 hK1 => ?_) AllReadyH.nil))
    · skip
      go_simp
      refine (HAM.out _ hHeld).mono ?_
      rintro e v1 ⟨hb1, gx, rfl, ho1⟩
      (try dsimp only)
      have hA1 : Ample v1 w7.heap.size gx zs := ho1.less hHeld.size
      have hB1 := below_trans hHeld hb1 hHeld.size
      clear ho1
      refine hK1.out _ _ hB1 (fun hHeld => ?_)
      clear hK1 K1 hb1 hB1
      (try simp only [Act.put, List.setIfInBounds_toArray, List.set_cons_zero, List.set_cons_succ])
      refine wpAnyH_take (i := 5) (oi := ⟨some 48, .build 24 #[(0, .tmp 45), (1, .tmp 47)], _, _, _, _⟩) (v := .agg #[amp gx zs, .int .i64 k]) rfl (by kernel_rfl) (by kernel_rfl) (by kernel_rfl) (fun _ _ _ h => h) (Or.inl ⟨by rfl, fun wx hS => by first | rfl | (unfold execOp; go_simp; done) | (unfold execOp amp; go_simp; done)⟩) hHeld ?_
      (try simp only [Act.put, List.setIfInBounds_toArray, List.set_cons_zero, List.set_cons_succ])
      refine wpAnyH_ready (rs := [7, 8]) (by kernel_rfl) (by simp) ?_
      refine AllReadyH.cons (o := ⟨some 11, .alloc 24, _, _, _, none⟩) rfl (fun K1 hK1 => ?_) (AllReadyH.cons (o := ⟨some 12, .alloc 36, _, _, _, none⟩) rfl (fun K1 hK1 => ?_) AllReadyH.nil)
      · skip
        refine step_allocC rfl 24 rfl [.slice none 0 0, .int .i64 0] (by kernel_rfl) ?_
        intro v2 hn2 hb2
        have hB2 := below_trans hHeld hb2 hHeld.size
        obtain ⟨GI, hG2⟩ : ∃ GI, GI = v1.heap.size := ⟨_, rfl⟩
        rw [← hG2] at hn2 ⊢
        have hLGI : w7.heap.size ≤ GI := by rw [hG2]; exact hHeld.size
        clear hG2
        have hA1_2 := hA1.below hb2
        refine hK1.out _ _ hB2 (fun hHeld => ?_)
        clear hK1 K1 hb2 hB2
        (try simp only [Act.put, List.setIfInBounds_toArray, List.set_cons_zero, List.set_cons_succ])
        refine wpAnyH_ready (rs := [8]) (by kernel_rfl) (by simp) ?_
        refine AllReadyH.cons (o := ⟨some 12, .alloc 36, _, _, _, none⟩) rfl (fun K1 hK1 => ?_) AllReadyH.nil
        · skip
          refine step_allocC rfl 36 rfl nils (by kernel_rfl) ?_
          intro v3 hn3 hb3
          have hB3 := below_trans hHeld hb3 hHeld.size
          obtain ⟨GJ, hG3⟩ : ∃ GJ, GJ = v2.heap.size := ⟨_, rfl⟩
          rw [← hG3] at hn3 ⊢
          have hLGJ : w7.heap.size ≤ GJ := by rw [hG3]; exact hHeld.size
          have hNE : GI ≠ GJ := by have := hn2.lt; omega
          clear hG3
          have hn2_3 := hn2.below hb3
          have hA1_2_3 := hA1_2.below hb3
          refine hK1.out _ _ hB3 (fun hHeld => ?_)
          clear hK1 K1 hb3 hB3
          (try simp only [Act.put, List.setIfInBounds_toArray, List.set_cons_zero, List.set_cons_succ])
          refine wpAnyH_ready (rs := [9]) (by kernel_rfl) (by simp) ?_
          refine AllReadyH.cons (o := ⟨none, .store 24 (.tmp 11) (.tmp 48), _, _, _, none⟩) rfl (fun K1 hK1 => ?_) AllReadyH.nil
          refine step_storeC rfl 24 (.tmp 11) (.tmp 48) rfl GI rfl [.slice none 0 0, .int .i64 0] [amp gx zs, .int .i64 k] rfl hn2_3 wide_line (fun v hv => by simp at hv; rcases hv with rfl | rfl <;> rfl) rfl ?_
          intro v4 hn4 hg4
          have hB4 := hHeld.grown hg4 hHeld.size (fun j hj => by cases hj; exact hLGI)
          have hr4 := hn3.kept hg4 (fun e => hNE (Option.some.inj e).symm)
          have ha4 := hA1_2_3.kept hg4 (hA1_2_3.block.neB hn2_3 (by decide))
          refine hK1.out _ _ hB4 (fun hHeld => ?_)
          clear hK1 K1
          (try simp only [Act.put, List.setIfInBounds_toArray, List.set_cons_zero, List.set_cons_succ])
          refine wpAnyH_ready (rs := [10]) (by kernel_rfl) (by simp) ?_
          refine AllReadyH.cons (o := ⟨none, .store 36 (.tmp 12) (.tmp 49), _, _, _, none⟩) rfl (fun K1 hK1 => ?_) AllReadyH.nil
          refine step_storeC rfl 36 (.tmp 12) (.tmp 49) rfl GJ rfl nils vs rfl hr4 (by rw [hvs]; exact wide_regs) (fun v hv => by obtain ⟨x, y, z, rfl⟩ := HS.out.2 v hv; rfl) (by rw [hvs]; rfl) ?_
          intro v5 hn5 hg5
          have hB5 := hHeld.grown hg5 hHeld.size (fun j hj => by cases hj; exact hLGJ)
          have hl5 := hn4.kept hg5 (fun e => hNE (Option.some.inj e))
          have ha5 := ha4.kept hg5 (ha4.block.neB hr4 (by decide))
          refine hK1.out _ _ hB5 (fun hHeld => ?_)
          clear hK1 K1
          (try simp only [Act.put, List.setIfInBounds_toArray, List.set_cons_zero, List.set_cons_succ])
          refine wpAnyH_done (by kernel_rfl) ?_ _
          (try simp only [Act.put, List.setIfInBounds_toArray, List.set_cons_zero, List.set_cons_succ])
          go_wp2_with fail
          go_meet
          case rel => exact ⟨GI, GJ, gx, rfl, rfl, hB5, ⟨hLGI, hLGJ, hNE⟩, hl5, hn5, ha5⟩
      · skip
        refine step_allocC rfl 36 rfl nils (by kernel_rfl) ?_
        intro v6 hn6 hb6
        have hB6 := below_trans hHeld hb6 hHeld.size
        obtain ⟨GJ, hG6⟩ : ∃ GJ, GJ = v1.heap.size := ⟨_, rfl⟩
        rw [← hG6] at hn6 ⊢
        have hLGJ : w7.heap.size ≤ GJ := by rw [hG6]; exact hHeld.size
        clear hG6
        have hA1_6 := hA1.below hb6
        refine hK1.out _ _ hB6 (fun hHeld => ?_)
        clear hK1 K1 hb6 hB6
        (try simp only [Act.put, List.setIfInBounds_toArray, List.set_cons_zero, List.set_cons_succ])
        refine wpAnyH_ready (rs := [7]) (by kernel_rfl) (by simp) ?_
        refine AllReadyH.cons (o := ⟨some 11, .alloc 24, _, _, _, none⟩) rfl (fun K1 hK1 => ?_) AllReadyH.nil
        · skip
          refine step_allocC rfl 24 rfl [.slice none 0 0, .int .i64 0] (by kernel_rfl) ?_
          intro v7 hn7 hb7
          have hB7 := below_trans hHeld hb7 hHeld.size
          obtain ⟨GI, hG7⟩ : ∃ GI, GI = v6.heap.size := ⟨_, rfl⟩
          rw [← hG7] at hn7 ⊢
          have hLGI : w7.heap.size ≤ GI := by rw [hG7]; exact hHeld.size
          have hNE : GI ≠ GJ := by have := hn6.lt; omega
          clear hG7
          have hn6_7 := hn6.below hb7
          have hA1_6_7 := hA1_6.below hb7
          refine hK1.out _ _ hB7 (fun hHeld => ?_)
          clear hK1 K1 hb7 hB7
          (try simp only [Act.put, List.setIfInBounds_toArray, List.set_cons_zero, List.set_cons_succ])
          refine wpAnyH_ready (rs := [9]) (by kernel_rfl) (by simp) ?_
          refine AllReadyH.cons (o := ⟨none, .store 24 (.tmp 11) (.tmp 48), _, _, _, none⟩) rfl (fun K1 hK1 => ?_) AllReadyH.nil
          refine step_storeC rfl 24 (.tmp 11) (.tmp 48) rfl GI rfl [.slice none 0 0, .int .i64 0] [amp gx zs, .int .i64 k] rfl hn7 wide_line (fun v hv => by simp at hv; rcases hv with rfl | rfl <;> rfl) rfl ?_
          intro v8 hn8 hg8
          have hB8 := hHeld.grown hg8 hHeld.size (fun j hj => by cases hj; exact hLGI)
          have hr8 := hn6_7.kept hg8 (fun e => hNE (Option.some.inj e).symm)
          have ha8 := hA1_6_7.kept hg8 (hA1_6_7.block.neB hn7 (by decide))
          refine hK1.out _ _ hB8 (fun hHeld => ?_)
          clear hK1 K1
          (try simp only [Act.put, List.setIfInBounds_toArray, List.set_cons_zero, List.set_cons_succ])
          refine wpAnyH_ready (rs := [10]) (by kernel_rfl) (by simp) ?_
          refine AllReadyH.cons (o := ⟨none, .store 36 (.tmp 12) (.tmp 49), _, _, _, none⟩) rfl (fun K1 hK1 => ?_) AllReadyH.nil
          refine step_storeC rfl 36 (.tmp 12) (.tmp 49) rfl GJ rfl nils vs rfl hr8 (by rw [hvs]; exact wide_regs) (fun v hv => by obtain ⟨x, y, z, rfl⟩ := HS.out.2 v hv; rfl) (by rw [hvs]; rfl) ?_
          intro v9 hn9 hg9
          have hB9 := hHeld.grown hg9 hHeld.size (fun j hj => by cases hj; exact hLGJ)
          have hl9 := hn8.kept hg9 (fun e => hNE (Option.some.inj e))
          have ha9 := ha8.kept hg9 (ha8.block.neB hr8 (by decide))
          refine hK1.out _ _ hB9 (fun hHeld => ?_)
          clear hK1 K1
          (try simp only [Act.put, List.setIfInBounds_toArray, List.set_cons_zero, List.set_cons_succ])
          refine wpAnyH_done (by kernel_rfl) ?_ _
          (try simp only [Act.put, List.setIfInBounds_toArray, List.set_cons_zero, List.set_cons_succ])
          go_wp2_with fail
          go_meet
          case rel => exact ⟨GI, GJ, gx, rfl, rfl, hB9, ⟨hLGI, hLGJ, hNE⟩, hl9, hn9, ha9⟩
    · skip
      refine step_allocC rfl 24 rfl [.slice none 0 0, .int .i64 0] (by kernel_rfl) ?_
      intro v10 hn10 hb10
      have hB10 := below_trans hHeld hb10 hHeld.size
      obtain ⟨GI, hG10⟩ : ∃ GI, GI = w7.drew.heap.size := ⟨_, rfl⟩
      rw [← hG10] at hn10 ⊢
      have hLGI : w7.heap.size ≤ GI := by rw [hG10]; exact hHeld.size
      clear hG10
      refine hK1.out _ _ hB10 (fun hHeld => ?_)
      clear hK1 K1 hb10 hB10
      (try simp only [Act.put, List.setIfInBounds_toArray, List.set_cons_zero, List.set_cons_succ])
      refine wpAnyH_ready (rs := [2, 8]) (by kernel_rfl) (by simp) ?_
      refine AllReadyH.cons (o := ⟨some 45, .call { callee := .value (.func 14), args := #[.tmp 44, .const (.int .i64 77)], argTypes := #[22, 3] }, _, _, _, _⟩) rfl (fun K1 hK1 => ?_) (AllReadyH.cons (o := ⟨some 12, .alloc 36, _, _, _, none⟩) rfl (fun K1 hK1 => ?_) AllReadyH.nil)
      · skip
        go_simp
        refine (HAM.out _ hHeld).mono ?_
        rintro e v11 ⟨hb11, gx, rfl, ho11⟩
        (try dsimp only)
        have hA11 : Ample v11 w7.heap.size gx zs := ho11.less hHeld.size
        have hB11 := below_trans hHeld hb11 hHeld.size
        clear ho11
        have hn10_11 := hn10.below hb11
        refine hK1.out _ _ hB11 (fun hHeld => ?_)
        clear hK1 K1 hb11 hB11
        (try simp only [Act.put, List.setIfInBounds_toArray, List.set_cons_zero, List.set_cons_succ])
        refine wpAnyH_take (i := 5) (oi := ⟨some 48, .build 24 #[(0, .tmp 45), (1, .tmp 47)], _, _, _, _⟩) (v := .agg #[amp gx zs, .int .i64 k]) rfl (by kernel_rfl) (by kernel_rfl) (by kernel_rfl) (fun _ _ _ h => h) (Or.inl ⟨by rfl, fun wx hS => by first | rfl | (unfold execOp; go_simp; done) | (unfold execOp amp; go_simp; done)⟩) hHeld ?_
        (try simp only [Act.put, List.setIfInBounds_toArray, List.set_cons_zero, List.set_cons_succ])
        refine wpAnyH_ready (rs := [8]) (by kernel_rfl) (by simp) ?_
        refine AllReadyH.cons (o := ⟨some 12, .alloc 36, _, _, _, none⟩) rfl (fun K1 hK1 => ?_) AllReadyH.nil
        · skip
          refine step_allocC rfl 36 rfl nils (by kernel_rfl) ?_
          intro v12 hn12 hb12
          have hB12 := below_trans hHeld hb12 hHeld.size
          obtain ⟨GJ, hG12⟩ : ∃ GJ, GJ = v11.heap.size := ⟨_, rfl⟩
          rw [← hG12] at hn12 ⊢
          have hLGJ : w7.heap.size ≤ GJ := by rw [hG12]; exact hHeld.size
          have hNE : GI ≠ GJ := by have := hn10_11.lt; omega
          clear hG12
          have hA11_12 := hA11.below hb12
          have hn10_11_12 := hn10_11.below hb12
          refine hK1.out _ _ hB12 (fun hHeld => ?_)
          clear hK1 K1 hb12 hB12
          (try simp only [Act.put, List.setIfInBounds_toArray, List.set_cons_zero, List.set_cons_succ])
          refine wpAnyH_ready (rs := [9]) (by kernel_rfl) (by simp) ?_
          refine AllReadyH.cons (o := ⟨none, .store 24 (.tmp 11) (.tmp 48), _, _, _, none⟩) rfl (fun K1 hK1 => ?_) AllReadyH.nil
          refine step_storeC rfl 24 (.tmp 11) (.tmp 48) rfl GI rfl [.slice none 0 0, .int .i64 0] [amp gx zs, .int .i64 k] rfl hn10_11_12 wide_line (fun v hv => by simp at hv; rcases hv with rfl | rfl <;> rfl) rfl ?_
          intro v13 hn13 hg13
          have hB13 := hHeld.grown hg13 hHeld.size (fun j hj => by cases hj; exact hLGI)
          have hr13 := hn12.kept hg13 (fun e => hNE (Option.some.inj e).symm)
          have ha13 := hA11_12.kept hg13 (hA11_12.block.neB hn10_11_12 (by decide))
          refine hK1.out _ _ hB13 (fun hHeld => ?_)
          clear hK1 K1
          (try simp only [Act.put, List.setIfInBounds_toArray, List.set_cons_zero, List.set_cons_succ])
          refine wpAnyH_ready (rs := [10]) (by kernel_rfl) (by simp) ?_
          refine AllReadyH.cons (o := ⟨none, .store 36 (.tmp 12) (.tmp 49), _, _, _, none⟩) rfl (fun K1 hK1 => ?_) AllReadyH.nil
          refine step_storeC rfl 36 (.tmp 12) (.tmp 49) rfl GJ rfl nils vs rfl hr13 (by rw [hvs]; exact wide_regs) (fun v hv => by obtain ⟨x, y, z, rfl⟩ := HS.out.2 v hv; rfl) (by rw [hvs]; rfl) ?_
          intro v14 hn14 hg14
          have hB14 := hHeld.grown hg14 hHeld.size (fun j hj => by cases hj; exact hLGJ)
          have hl14 := hn13.kept hg14 (fun e => hNE (Option.some.inj e))
          have ha14 := ha13.kept hg14 (ha13.block.neB hr13 (by decide))
          refine hK1.out _ _ hB14 (fun hHeld => ?_)
          clear hK1 K1
          (try simp only [Act.put, List.setIfInBounds_toArray, List.set_cons_zero, List.set_cons_succ])
          refine wpAnyH_done (by kernel_rfl) ?_ _
          (try simp only [Act.put, List.setIfInBounds_toArray, List.set_cons_zero, List.set_cons_succ])
          go_wp2_with fail
          go_meet
          case rel => exact ⟨GI, GJ, gx, rfl, rfl, hB14, ⟨hLGI, hLGJ, hNE⟩, hl14, hn14, ha14⟩
      · skip
        refine step_allocC rfl 36 rfl nils (by kernel_rfl) ?_
        intro v15 hn15 hb15
        have hB15 := below_trans hHeld hb15 hHeld.size
        obtain ⟨GJ, hG15⟩ : ∃ GJ, GJ = v10.heap.size := ⟨_, rfl⟩
        rw [← hG15] at hn15 ⊢
        have hLGJ : w7.heap.size ≤ GJ := by rw [hG15]; exact hHeld.size
        have hNE : GI ≠ GJ := by have := hn10.lt; omega
        clear hG15
        have hn10_15 := hn10.below hb15
        refine hK1.out _ _ hB15 (fun hHeld => ?_)
        clear hK1 K1 hb15 hB15
        (try simp only [Act.put, List.setIfInBounds_toArray, List.set_cons_zero, List.set_cons_succ])
        refine wpAnyH_ready (rs := [2]) (by kernel_rfl) (by simp) ?_
        refine AllReadyH.cons (o := ⟨some 45, .call { callee := .value (.func 14), args := #[.tmp 44, .const (.int .i64 77)], argTypes := #[22, 3] }, _, _, _, _⟩) rfl (fun K1 hK1 => ?_) AllReadyH.nil
        · skip
          go_simp
          refine (HAM.out _ hHeld).mono ?_
          rintro e v16 ⟨hb16, gx, rfl, ho16⟩
          (try dsimp only)
          have hA16 : Ample v16 w7.heap.size gx zs := ho16.less hHeld.size
          have hB16 := below_trans hHeld hb16 hHeld.size
          clear ho16
          have hn15_16 := hn15.below hb16
          have hn10_15_16 := hn10_15.below hb16
          refine hK1.out _ _ hB16 (fun hHeld => ?_)
          clear hK1 K1 hb16 hB16
          (try simp only [Act.put, List.setIfInBounds_toArray, List.set_cons_zero, List.set_cons_succ])
          refine wpAnyH_take (i := 5) (oi := ⟨some 48, .build 24 #[(0, .tmp 45), (1, .tmp 47)], _, _, _, _⟩) (v := .agg #[amp gx zs, .int .i64 k]) rfl (by kernel_rfl) (by kernel_rfl) (by kernel_rfl) (fun _ _ _ h => h) (Or.inl ⟨by rfl, fun wx hS => by first | rfl | (unfold execOp; go_simp; done) | (unfold execOp amp; go_simp; done)⟩) hHeld ?_
          (try simp only [Act.put, List.setIfInBounds_toArray, List.set_cons_zero, List.set_cons_succ])
          refine wpAnyH_ready (rs := [9]) (by kernel_rfl) (by simp) ?_
          refine AllReadyH.cons (o := ⟨none, .store 24 (.tmp 11) (.tmp 48), _, _, _, none⟩) rfl (fun K1 hK1 => ?_) AllReadyH.nil
          refine step_storeC rfl 24 (.tmp 11) (.tmp 48) rfl GI rfl [.slice none 0 0, .int .i64 0] [amp gx zs, .int .i64 k] rfl hn10_15_16 wide_line (fun v hv => by simp at hv; rcases hv with rfl | rfl <;> rfl) rfl ?_
          intro v17 hn17 hg17
          have hB17 := hHeld.grown hg17 hHeld.size (fun j hj => by cases hj; exact hLGI)
          have hr17 := hn15_16.kept hg17 (fun e => hNE (Option.some.inj e).symm)
          have ha17 := hA16.kept hg17 (hA16.block.neB hn10_15_16 (by decide))
          refine hK1.out _ _ hB17 (fun hHeld => ?_)
          clear hK1 K1
          (try simp only [Act.put, List.setIfInBounds_toArray, List.set_cons_zero, List.set_cons_succ])
          refine wpAnyH_ready (rs := [10]) (by kernel_rfl) (by simp) ?_
          refine AllReadyH.cons (o := ⟨none, .store 36 (.tmp 12) (.tmp 49), _, _, _, none⟩) rfl (fun K1 hK1 => ?_) AllReadyH.nil
          refine step_storeC rfl 36 (.tmp 12) (.tmp 49) rfl GJ rfl nils vs rfl hr17 (by rw [hvs]; exact wide_regs) (fun v hv => by obtain ⟨x, y, z, rfl⟩ := HS.out.2 v hv; rfl) (by rw [hvs]; rfl) ?_
          intro v18 hn18 hg18
          have hB18 := hHeld.grown hg18 hHeld.size (fun j hj => by cases hj; exact hLGJ)
          have hl18 := hn17.kept hg18 (fun e => hNE (Option.some.inj e))
          have ha18 := ha17.kept hg18 (ha17.block.neB hr17 (by decide))
          refine hK1.out _ _ hB18 (fun hHeld => ?_)
          clear hK1 K1
          (try simp only [Act.put, List.setIfInBounds_toArray, List.set_cons_zero, List.set_cons_succ])
          refine wpAnyH_done (by kernel_rfl) ?_ _
          (try simp only [Act.put, List.setIfInBounds_toArray, List.set_cons_zero, List.set_cons_succ])
          go_wp2_with fail
          go_meet
          case rel => exact ⟨GI, GJ, gx, rfl, rfl, hB18, ⟨hLGI, hLGJ, hNE⟩, hl18, hn18, ha18⟩
    · skip
      refine step_allocC rfl 36 rfl nils (by kernel_rfl) ?_
      intro v19 hn19 hb19
      have hB19 := below_trans hHeld hb19 hHeld.size
      obtain ⟨GJ, hG19⟩ : ∃ GJ, GJ = w7.drew.heap.size := ⟨_, rfl⟩
      rw [← hG19] at hn19 ⊢
      have hLGJ : w7.heap.size ≤ GJ := by rw [hG19]; exact hHeld.size
      clear hG19
      refine hK1.out _ _ hB19 (fun hHeld => ?_)
      clear hK1 K1 hb19 hB19
      (try simp only [Act.put, List.setIfInBounds_toArray, List.set_cons_zero, List.set_cons_succ])
      refine wpAnyH_ready (rs := [2, 7]) (by kernel_rfl) (by simp) ?_
      refine AllReadyH.cons (o := ⟨some 45, .call { callee := .value (.func 14), args := #[.tmp 44, .const (.int .i64 77)], argTypes := #[22, 3] }, _, _, _, _⟩) rfl (fun K1 hK1 => ?_) (AllReadyH.cons (o := ⟨some 11, .alloc 24, _, _, _, none⟩) rfl (fun K1 hK1 => ?_) AllReadyH.nil)
      · skip
        go_simp
        refine (HAM.out _ hHeld).mono ?_
        rintro e v20 ⟨hb20, gx, rfl, ho20⟩
        (try dsimp only)
        have hA20 : Ample v20 w7.heap.size gx zs := ho20.less hHeld.size
        have hB20 := below_trans hHeld hb20 hHeld.size
        clear ho20
        have hn19_20 := hn19.below hb20
        refine hK1.out _ _ hB20 (fun hHeld => ?_)
        clear hK1 K1 hb20 hB20
        (try simp only [Act.put, List.setIfInBounds_toArray, List.set_cons_zero, List.set_cons_succ])
        refine wpAnyH_take (i := 5) (oi := ⟨some 48, .build 24 #[(0, .tmp 45), (1, .tmp 47)], _, _, _, _⟩) (v := .agg #[amp gx zs, .int .i64 k]) rfl (by kernel_rfl) (by kernel_rfl) (by kernel_rfl) (fun _ _ _ h => h) (Or.inl ⟨by rfl, fun wx hS => by first | rfl | (unfold execOp; go_simp; done) | (unfold execOp amp; go_simp; done)⟩) hHeld ?_
        (try simp only [Act.put, List.setIfInBounds_toArray, List.set_cons_zero, List.set_cons_succ])
        refine wpAnyH_ready (rs := [7]) (by kernel_rfl) (by simp) ?_
        refine AllReadyH.cons (o := ⟨some 11, .alloc 24, _, _, _, none⟩) rfl (fun K1 hK1 => ?_) AllReadyH.nil
        · skip
          refine step_allocC rfl 24 rfl [.slice none 0 0, .int .i64 0] (by kernel_rfl) ?_
          intro v21 hn21 hb21
          have hB21 := below_trans hHeld hb21 hHeld.size
          obtain ⟨GI, hG21⟩ : ∃ GI, GI = v20.heap.size := ⟨_, rfl⟩
          rw [← hG21] at hn21 ⊢
          have hLGI : w7.heap.size ≤ GI := by rw [hG21]; exact hHeld.size
          have hNE : GI ≠ GJ := by have := hn19_20.lt; omega
          clear hG21
          have hA20_21 := hA20.below hb21
          have hn19_20_21 := hn19_20.below hb21
          refine hK1.out _ _ hB21 (fun hHeld => ?_)
          clear hK1 K1 hb21 hB21
          (try simp only [Act.put, List.setIfInBounds_toArray, List.set_cons_zero, List.set_cons_succ])
          refine wpAnyH_ready (rs := [9]) (by kernel_rfl) (by simp) ?_
          refine AllReadyH.cons (o := ⟨none, .store 24 (.tmp 11) (.tmp 48), _, _, _, none⟩) rfl (fun K1 hK1 => ?_) AllReadyH.nil
          refine step_storeC rfl 24 (.tmp 11) (.tmp 48) rfl GI rfl [.slice none 0 0, .int .i64 0] [amp gx zs, .int .i64 k] rfl hn21 wide_line (fun v hv => by simp at hv; rcases hv with rfl | rfl <;> rfl) rfl ?_
          intro v22 hn22 hg22
          have hB22 := hHeld.grown hg22 hHeld.size (fun j hj => by cases hj; exact hLGI)
          have hr22 := hn19_20_21.kept hg22 (fun e => hNE (Option.some.inj e).symm)
          have ha22 := hA20_21.kept hg22 (hA20_21.block.neB hn21 (by decide))
          refine hK1.out _ _ hB22 (fun hHeld => ?_)
          clear hK1 K1
          (try simp only [Act.put, List.setIfInBounds_toArray, List.set_cons_zero, List.set_cons_succ])
          refine wpAnyH_ready (rs := [10]) (by kernel_rfl) (by simp) ?_
          refine AllReadyH.cons (o := ⟨none, .store 36 (.tmp 12) (.tmp 49), _, _, _, none⟩) rfl (fun K1 hK1 => ?_) AllReadyH.nil
          refine step_storeC rfl 36 (.tmp 12) (.tmp 49) rfl GJ rfl nils vs rfl hr22 (by rw [hvs]; exact wide_regs) (fun v hv => by obtain ⟨x, y, z, rfl⟩ := HS.out.2 v hv; rfl) (by rw [hvs]; rfl) ?_
          intro v23 hn23 hg23
          have hB23 := hHeld.grown hg23 hHeld.size (fun j hj => by cases hj; exact hLGJ)
          have hl23 := hn22.kept hg23 (fun e => hNE (Option.some.inj e))
          have ha23 := ha22.kept hg23 (ha22.block.neB hr22 (by decide))
          refine hK1.out _ _ hB23 (fun hHeld => ?_)
          clear hK1 K1
          (try simp only [Act.put, List.setIfInBounds_toArray, List.set_cons_zero, List.set_cons_succ])
          refine wpAnyH_done (by kernel_rfl) ?_ _
          (try simp only [Act.put, List.setIfInBounds_toArray, List.set_cons_zero, List.set_cons_succ])
          go_wp2_with fail
          go_meet
          case rel => exact ⟨GI, GJ, gx, rfl, rfl, hB23, ⟨hLGI, hLGJ, hNE⟩, hl23, hn23, ha23⟩
      · skip
        refine step_allocC rfl 24 rfl [.slice none 0 0, .int .i64 0] (by kernel_rfl) ?_
        intro v24 hn24 hb24
        have hB24 := below_trans hHeld hb24 hHeld.size
        obtain ⟨GI, hG24⟩ : ∃ GI, GI = v19.heap.size := ⟨_, rfl⟩
        rw [← hG24] at hn24 ⊢
        have hLGI : w7.heap.size ≤ GI := by rw [hG24]; exact hHeld.size
        have hNE : GI ≠ GJ := by have := hn19.lt; omega
        clear hG24
        have hn19_24 := hn19.below hb24
        refine hK1.out _ _ hB24 (fun hHeld => ?_)
        clear hK1 K1 hb24 hB24
        (try simp only [Act.put, List.setIfInBounds_toArray, List.set_cons_zero, List.set_cons_succ])
        refine wpAnyH_ready (rs := [2]) (by kernel_rfl) (by simp) ?_
        refine AllReadyH.cons (o := ⟨some 45, .call { callee := .value (.func 14), args := #[.tmp 44, .const (.int .i64 77)], argTypes := #[22, 3] }, _, _, _, _⟩) rfl (fun K1 hK1 => ?_) AllReadyH.nil
        · skip
          go_simp
          refine (HAM.out _ hHeld).mono ?_
          rintro e v25 ⟨hb25, gx, rfl, ho25⟩
          (try dsimp only)
          have hA25 : Ample v25 w7.heap.size gx zs := ho25.less hHeld.size
          have hB25 := below_trans hHeld hb25 hHeld.size
          clear ho25
          have hn24_25 := hn24.below hb25
          have hn19_24_25 := hn19_24.below hb25
          refine hK1.out _ _ hB25 (fun hHeld => ?_)
          clear hK1 K1 hb25 hB25
          (try simp only [Act.put, List.setIfInBounds_toArray, List.set_cons_zero, List.set_cons_succ])
          refine wpAnyH_take (i := 5) (oi := ⟨some 48, .build 24 #[(0, .tmp 45), (1, .tmp 47)], _, _, _, _⟩) (v := .agg #[amp gx zs, .int .i64 k]) rfl (by kernel_rfl) (by kernel_rfl) (by kernel_rfl) (fun _ _ _ h => h) (Or.inl ⟨by rfl, fun wx hS => by first | rfl | (unfold execOp; go_simp; done) | (unfold execOp amp; go_simp; done)⟩) hHeld ?_
          (try simp only [Act.put, List.setIfInBounds_toArray, List.set_cons_zero, List.set_cons_succ])
          refine wpAnyH_ready (rs := [9]) (by kernel_rfl) (by simp) ?_
          refine AllReadyH.cons (o := ⟨none, .store 24 (.tmp 11) (.tmp 48), _, _, _, none⟩) rfl (fun K1 hK1 => ?_) AllReadyH.nil
          refine step_storeC rfl 24 (.tmp 11) (.tmp 48) rfl GI rfl [.slice none 0 0, .int .i64 0] [amp gx zs, .int .i64 k] rfl hn24_25 wide_line (fun v hv => by simp at hv; rcases hv with rfl | rfl <;> rfl) rfl ?_
          intro v26 hn26 hg26
          have hB26 := hHeld.grown hg26 hHeld.size (fun j hj => by cases hj; exact hLGI)
          have hr26 := hn19_24_25.kept hg26 (fun e => hNE (Option.some.inj e).symm)
          have ha26 := hA25.kept hg26 (hA25.block.neB hn24_25 (by decide))
          refine hK1.out _ _ hB26 (fun hHeld => ?_)
          clear hK1 K1
          (try simp only [Act.put, List.setIfInBounds_toArray, List.set_cons_zero, List.set_cons_succ])
          refine wpAnyH_ready (rs := [10]) (by kernel_rfl) (by simp) ?_
          refine AllReadyH.cons (o := ⟨none, .store 36 (.tmp 12) (.tmp 49), _, _, _, none⟩) rfl (fun K1 hK1 => ?_) AllReadyH.nil
          refine step_storeC rfl 36 (.tmp 12) (.tmp 49) rfl GJ rfl nils vs rfl hr26 (by rw [hvs]; exact wide_regs) (fun v hv => by obtain ⟨x, y, z, rfl⟩ := HS.out.2 v hv; rfl) (by rw [hvs]; rfl) ?_
          intro v27 hn27 hg27
          have hB27 := hHeld.grown hg27 hHeld.size (fun j hj => by cases hj; exact hLGJ)
          have hl27 := hn26.kept hg27 (fun e => hNE (Option.some.inj e))
          have ha27 := ha26.kept hg27 (ha26.block.neB hr26 (by decide))
          refine hK1.out _ _ hB27 (fun hHeld => ?_)
          clear hK1 K1
          (try simp only [Act.put, List.setIfInBounds_toArray, List.set_cons_zero, List.set_cons_succ])
          refine wpAnyH_done (by kernel_rfl) ?_ _
          (try simp only [Act.put, List.setIfInBounds_toArray, List.set_cons_zero, List.set_cons_succ])
          go_wp2_with fail
          go_meet
          case rel => exact ⟨GI, GJ, gx, rfl, rfl, hB27, ⟨hLGI, hLGJ, hNE⟩, hl27, hn27, ha27⟩
  case rest =>
    obtain ⟨GI, GJ, gx, rfl, rfl, Hbc, HGG, HI, HJ, HAX⟩ := hcut
    generalize hwd : wc = wd at *
    clear hwd
    have HLW : Hid (w.heap.size ≤ w7.heap.size ∧ w.heap.size < w7.heap.size ∧ GR < w7.heap.size ∧ GC < w7.heap.size ∧ GE9 < w7.heap.size) := ⟨HB_w7.out.size, A_w7.out.lt, R_w7.out.lt, C_w7.out.lt, E9_w7.out.lt⟩
    have HB_wd : Hid (Below w.heap.size w wd) := below_trans HB_w7.out Hbc.out HB_w7.out.size
    have A_wd : Hid (BoxC wd 24 w.heap.size [.slice a zs.length cap, .int .i64 k]) := A_w7.out.below Hbc.out
    have R_wd : Hid (BoxC wd 36 GR vs) := R_w7.out.below Hbc.out
    have C_wd : Hid (BoxC wd 38 GC [.int .i64 c, .int .i64 r, .int .i64 o, .int .i64 v, .int .i64 g]) := C_w7.out.below Hbc.out
    have E9_wd : Hid (BoxC wd 43 GE9 (resL (.slice aE9 1 cE9) 0 uE9 0 0 0 (.slice eE9 (ups (btw [97, 98] [98])).length dE9))) := E9_w7.out.below Hbc.out
    clear A_w7 R_w7 C_w7 E9_w7 HB_w7
    obtain ⟨B4, hB4⟩ : ∃ B4, B4 = w7.heap.size := ⟨_, rfl⟩
    rw [← hB4] at HGG HAX HLW
    have HLGI : Hid (w.heap.size ≤ GI ∧ w.heap.size < GI ∧ GR < GI ∧ GC < GI ∧ GE9 < GI) := by have h1 := HLW.out; have h2 := HGG.out; refine ⟨?_, ?_, ?_, ?_, ?_⟩ <;> omega
    have HLGJ : Hid (w.heap.size ≤ GJ ∧ w.heap.size < GJ ∧ GR < GJ ∧ GC < GJ ∧ GE9 < GJ ∧ GI ≠ GJ) := by have h1 := HLW.out; have h2 := HGG.out; refine ⟨?_, ?_, ?_, ?_, ?_, ?_⟩ <;> omega
    have I_wd := HI
    have J_wd := HJ
    have AX_wd := HAX
    clear Hbc HI HJ HAX hB4
    clear E9_wd
    have hslL : ∀ j, j < 27 → vs.getD j undef = vs.getD j undef := fun _ _ => rfl
    clear hslL
    go_wp2_with (fail)
    obtain ⟨B5, hB5⟩ : ∃ B5, B5 = wd.heap.size := ⟨_, rfl⟩
    have HL5 : Hid (GI < B5 ∧ GJ < B5 ∧ w.heap.size ≤ B5) := by show _ ∧ _ ∧ _; rw [hB5]; exact ⟨I_wd.out.lt, J_wd.out.lt, HB_wd.out.size⟩
    have S5_wd : Hid (B5 ≤ wd.heap.size) := by show B5 ≤ _; rw [hB5]; exact Nat.le_refl _
    clear hB5
    go_loopw [50] (fun u50 wl => ∃ (i : Nat) (ls : List Value) (gs : Nat → Nat), u50 = .int .i64 (i : Int) ∧ i ≤ 27 ∧ Hid (AllSl ls) ∧ Hid (∀ j, i ≤ j → j < 27 → ls.getD j undef = vs.getD j undef) ∧ Hid (Amp wl B5 ls gs ts i) ∧ Hid (BoxC wl 36 GJ ls) ∧ Hid (Below w.heap.size w wl) ∧ Hid (BoxC wl 24 w.heap.size [.slice a zs.length cap, .int .i64 k]) ∧ Hid (BoxC wl 36 GR vs) ∧ Hid (BoxC wl 38 GC [.int .i64 c, .int .i64 r, .int .i64 o, .int .i64 v, .int .i64 g]) ∧ Hid (BoxC wl 24 GI [amp gx zs, .int .i64 k]) ∧ Hid (Ample wl B4 gx zs) ∧ Hid (B5 ≤ wl.heap.size)) (fun u50 _ => 27 - (intOf u50).toNat)
    case atStart => exact ⟨0, vs, fun _ => 0, rfl, Nat.zero_le _, HS, fun _ _ _ => rfl, (fun j hj => by omega), J_wd, HB_wd, A_wd, R_wd, C_wd, I_wd, AX_wd, S5_wd⟩
    case round =>
      obtain ⟨i, ls, gs, rfl, hi, HLS, HE, AM_wr, J_wr, HB_wr, A_wr, R_wr, C_wr, I_wr, AX_wr, S5_wr⟩ := hrel
      clear A_wd R_wd C_wd I_wd AX_wd S5_wd J_wd HB_wd
      have hls : ls.length = 27 := HLS.out.1
      by_cases hlt : i < 27
      · have hiI : (i : Int) < 27 := by omega
        obtain ⟨ai, ci, hv, hrd, hm⟩ := (HRR.out wr HB_wr.out).at_ i hlt
        obtain ⟨y, hy⟩ : ∃ y, y = ts.getD i [] := ⟨_, rfl⟩
        have HY : Hid (ts.getD i [] = y) := hy.symm
        rw [← hy] at hv hrd hm
        have hlsi : ls[i]? = some (.slice ai y.length ci) := by rw [← hv, ← HE.out i (Nat.le_refl _) hlt, List.getD_eq_getElem?_getD, List.getElem?_eq_getElem (by omega)]; rfl
        have HLI : Hid (ls[i]? = some (.slice ai y.length ci)) := hlsi
        have hc1 : wr.cell? ⟨GJ, i, none⟩ = some (.slice ai y.length ci) := (J_wr.out.cell i).trans hlsi
        have HRd : Hid (Reads wr (.slice ai y.length ci) y) := hrd
        have HM : Hid (Mild y) := hm
        clear hv hrd hm hy hlsi
        go_wp2_with (fail)
        refine (ample_any _ y wr HRd.out HM.out).mono ?_
        rintro e w8 ⟨hb, gi, rfl, ho⟩
        have HBB : Hid (Below wr.heap.size wr w8) := hb
        have HO : Hid (Ample w8 wr.heap.size gi y) := ho
        have HSR : Hid (B5 ≤ wr.heap.size) := S5_wr
        have AM0 := AM_wr
        clear ho hc1 HRd
        have HB_w8 : Hid (Below w.heap.size w w8) := below_trans HB_wr.out hb HB_wr.out.size
        have A_w8 : Hid (BoxC w8 24 w.heap.size [.slice a zs.length cap, .int .i64 k]) := A_wr.out.below hb
        have R_w8 : Hid (BoxC w8 36 GR vs) := R_wr.out.below hb
        have C_w8 : Hid (BoxC w8 38 GC [.int .i64 c, .int .i64 r, .int .i64 o, .int .i64 v, .int .i64 g]) := C_wr.out.below hb
        have I_w8 : Hid (BoxC w8 24 GI [amp gx zs, .int .i64 k]) := I_wr.out.below hb
        have J_w8 : Hid (BoxC w8 36 GJ ls) := J_wr.out.below hb
        have AX_w8 : Hid (Ample w8 B4 gx zs) := AX_wr.out.below hb
        have S5_w8 : Hid (B5 ≤ w8.heap.size) := Nat.le_trans S5_wr.out hb.size
        have AM_w8 : Hid (Amp w8 B5 ls gs ts i) := AM_wr.out.below hb
        clear A_wr R_wr C_wr I_wr J_wr AX_wr S5_wr AM_wr HB_wr
        clear hb
        go_wp2_with (refine storeO rfl 36 22 _ _ rfl GJ i rfl ls (ls.set i (amp gi y)) (amp gi y) (.slice ai y.length ci) rfl J_w8.out rfl (fun xs hx => by cases hx) HLI.out one_slice rfl ?_)
        intro w9 hz hg
        have AMn : Hid (Amp w9 B5 (ls.set i (amp gi y)) (fun j => if j = i then gi else gs j) ts (i + 1)) := by
          have ho := HO.out
          rw [← HY.out] at ho ⊢
          exact AM0.out.step HLS.out.1 hlt HBB.out ho HSR.out hg J_w8.out (by decide)
        clear AM_w8 AM0
        have HB_w9 : Hid (Below w.heap.size w w9) := HB_w8.out.grown hg HB_w8.out.size (fun j hj => by cases hj; exact (by have := HLGJ.out; omega))
        have A_w9 : Hid (BoxC w9 24 w.heap.size [.slice a zs.length cap, .int .i64 k]) := A_w8.out.kept hg (fun e => by have := HLGJ.out; have := Option.some.inj e; omega)
        have R_w9 : Hid (BoxC w9 36 GR vs) := R_w8.out.kept hg (fun e => by have := HLGJ.out; have := HLGR.out; have := Option.some.inj e; omega)
        have C_w9 : Hid (BoxC w9 38 GC [.int .i64 c, .int .i64 r, .int .i64 o, .int .i64 v, .int .i64 g]) := C_w8.out.kept hg (fun e => by have := HLGJ.out; have := HLGC.out; have := Option.some.inj e; omega)
        have I_w9 : Hid (BoxC w9 24 GI [amp gx zs, .int .i64 k]) := I_w8.out.kept hg (fun e => by have := HLGJ.out; have := HLGI.out; have := Option.some.inj e; omega)
        have AX_w9 : Hid (Ample w9 B4 gx zs) := AX_w8.out.kept hg (AX_w8.out.block.neB J_w8.out (by decide))
        have S5_w9 : Hid (B5 ≤ w9.heap.size) := Nat.le_trans S5_w8.out hg.size
        clear A_w8 R_w8 C_w8 I_w8 J_w8 AX_w8 S5_w8 HB_w8
        have J_w9 : Hid (BoxC w9 36 GJ (ls.set i (amp gi y))) := hz
        have HEn : Hid (∀ j, i + 1 ≤ j → j < 27 → (ls.set i (amp gi y)).getD j undef = vs.getD j undef) := fun j h1 h2 => by rw [getD_set_other _ _ _ _ _ (by omega)]; exact HE.out j (by omega) h2
        have HLn : Hid (AllSl (ls.set i (amp gi y))) := HLS.out.set i _ _ _
        clear hz hg HO HBB HE HLS HSR
        go_wp2_with (fail)
        go_roundw
        case rel => exact ⟨i + 1, _, _, by go_num, by omega, HLn, HEn, AMn, J_w9, HB_w9, A_w9, R_w9, C_w9, I_w9, AX_w9, S5_w9⟩
        case measure => simp [intOf] <;> omega
      obtain rfl : i = 27 := by omega
      have hiI : ¬ ((27 : Nat) : Int) < 27 := by omega
      clear HE hlt
      clear S5_wr
      obtain ⟨BX, hBn⟩ : ∃ BX, BX = wr.heap.size := ⟨_, rfl⟩
      have HXW : Hid (w.heap.size ≤ wr.heap.size) := HB_wr.out.size
      have HGB : Hid (gx < BX ∧ ∀ j, j < 27 → gs j < BX) := by rw [hBn]; exact ⟨AX_wr.out.lt.2, fun j hj => (AM_wr.out j hj).2.lt.2⟩
      have HGW : Hid (w.heap.size ≤ gx ∧ ∀ j, j < 27 → w.heap.size ≤ gs j) := by have h1 := HL5.out; have h2 := HLW.out; exact ⟨Nat.le_trans h2.1 AX_wr.out.lt.1, fun j hj => Nat.le_trans h1.2.2 (AM_wr.out j hj).2.lt.1⟩
      have SB_wr : Hid (BX ≤ wr.heap.size) := by show BX ≤ _; rw [hBn]; exact Nat.le_refl _
      go_wp2_with (first | (refine buildC rfl 40 _ rfl [.int .i64 0, .int .i64 0] (by kernel_rfl) ?_) | (refine loadC rfl 24 _ rfl GI rfl [amp gx zs, .int .i64 k] I_wr.out wide_line ?_) | (refine loadC rfl 36 _ rfl GJ rfl ls J_wr.out (by rw [hls]; exact wide_regs) ?_) | (refine loadC rfl 38 _ rfl GC rfl [.int .i64 c, .int .i64 r, .int .i64 o, .int .i64 v, .int .i64 g] C_wr.out wide_cmd ?_))
      have HRL : ReadsR wr ls ts := AM_wr.out.reads HLS.out HLT.out HMT.out
      refine (HDO.out _ _ _ _ AX_wr.out HRL).mono ?_
      rintro e w18 ⟨hb, xX, rfl, aX, cX, uX, evX, pX, qX, rfl, hp, hq, hT, hQ, hE⟩
      clear HRL
      have hEr := hE.owns.reads
      obtain ⟨eX, dX, rfl⟩ := hEr.shape
      clear hEr
      have HXP : Hid (wr.heap.size ≤ pX ∧ pX ≤ qX) := ⟨hp, hq⟩
      clear hp hq
      have HB_w18 : Hid (Below w.heap.size w w18) := below_trans HB_wr.out hb HB_wr.out.size
      have A_w18 : Hid (BoxC w18 24 w.heap.size [.slice a zs.length cap, .int .i64 k]) := A_wr.out.below hb
      have R_w18 : Hid (BoxC w18 36 GR vs) := R_wr.out.below hb
      have C_w18 : Hid (BoxC w18 38 GC [.int .i64 c, .int .i64 r, .int .i64 o, .int .i64 v, .int .i64 g]) := C_wr.out.below hb
      have I_w18 : Hid (BoxC w18 24 GI [amp gx zs, .int .i64 k]) := I_wr.out.below hb
      have J_w18 : Hid (BoxC w18 36 GJ ls) := J_wr.out.below hb
      have AX_w18 : Hid (Ample w18 B4 gx zs) := AX_wr.out.below hb
      have AM_w18 : Hid (Amp w18 B5 ls gs ts 27) := AM_wr.out.below hb
      have SB_w18 : Hid (BX ≤ w18.heap.size) := Nat.le_trans SB_wr.out hb.size
      clear A_wr R_wr C_wr I_wr J_wr AX_wr AM_wr SB_wr HB_wr
      clear hb
      have hlX : uX.length = 27 := hQ.1.1.1
      have HSX : Hid (AllSl uX) := hQ.1.1
      have TX_w18 : Hid (AvT w18 (fun b => pX ≤ b ∧ b < qX) (.slice aX T.length cX) T) := hT
      have QX_w18 : Hid (AvR w18 (fun b => qX ≤ b) uX ts2) := hQ
      have EX_w18 : Hid (AvE w18 (fun b => BX ≤ b ∧ b < pX) (.slice eX es.length dX) es) := (by rw [hBn]; exact hE)
      clear hT hQ hE
      (try dsimp only)
      go_wp2_with (refine allocC rfl 43 rfl nulL nul_zero ?_)
      intro w19 ha hb
      go_wp2_with (refine storeC rfl 43 _ _ rfl w18.heap.size rfl nulL (resL (.slice aX T.length cX) L uX fk2 fa2 M (.slice eX es.length dX)) rfl ha (by rw [resL_len hlX]; exact wide_res) (resL_one HSX.out rfl rfl) (by rw [nul_len, resL_len hlX]) ?_)
      intro w20 hz hg
      have hb8 : Below w18.heap.size w18 w20 := hb.grown hg hb.size (fun j hj => by cases hj; exact Nat.le_refl _)
      have HBX : Hid (w.heap.size ≤ BX ∧ BX ≤ pX ∧ pX ≤ qX) := ⟨by rw [hBn]; exact HXW.out, by rw [hBn]; exact HXP.out.1, HXP.out.2⟩
      clear HXP
      have HB_w20 : Hid (Below w.heap.size w w20) := below_trans HB_w18.out hb8 HB_w18.out.size
      have A_w20 : Hid (BoxC w20 24 w.heap.size [.slice a zs.length cap, .int .i64 k]) := A_w18.out.below hb8
      have R_w20 : Hid (BoxC w20 36 GR vs) := R_w18.out.below hb8
      have C_w20 : Hid (BoxC w20 38 GC [.int .i64 c, .int .i64 r, .int .i64 o, .int .i64 v, .int .i64 g]) := C_w18.out.below hb8
      have I_w20 : Hid (BoxC w20 24 GI [amp gx zs, .int .i64 k]) := I_w18.out.below hb8
      have J_w20 : Hid (BoxC w20 36 GJ ls) := J_w18.out.below hb8
      have AX_w20 : Hid (Ample w20 B4 gx zs) := AX_w18.out.below hb8
      have AM_w20 : Hid (Amp w20 B5 ls gs ts 27) := AM_w18.out.below hb8
      have SB_w20 : Hid (BX ≤ w20.heap.size) := Nat.le_trans SB_w18.out hb8.size
      have TX_w20 : Hid (AvT w20 (fun b => pX ≤ b ∧ b < qX) (.slice aX T.length cX) T) := TX_w18.out.below hb8
      have QX_w20 : Hid (AvR w20 (fun b => qX ≤ b) uX ts2) := QX_w18.out.below hb8
      have EX_w20 : Hid (AvE w20 (fun b => BX ≤ b ∧ b < pX) (.slice eX es.length dX) es) := EX_w18.out.below hb8
      clear A_w18 R_w18 C_w18 I_w18 J_w18 AX_w18 AM_w18 SB_w18 TX_w18 QX_w18 EX_w18 HB_w18
      have X_w20 : Hid (BoxC w20 43 w18.heap.size (resL (.slice aX T.length cX) L uX fk2 fa2 M (.slice eX es.length dX))) := hz
      clear ha hb hz hg hb8 w19
      generalize w18.heap.size = GX at *
      have HBT : Hid (∀ k, (Value.slice aX T.length cX).ownBlock = some k → k < w20.heap.size) := fun k hk => (TX_w20.out.lt k hk).1
      obtain ⟨NX, hNX⟩ : ∃ NX, NX = w20.heap.size := ⟨_, rfl⟩
      rw [← hNX] at HBT
      have SX_w20 : Hid (NX ≤ w20.heap.size) := by show NX ≤ _; rw [hNX]; exact Nat.le_refl _
      clear hNX
      clear hBn HXW
      go_wp2_with ((refine loadC rfl 24 _ rfl GI rfl [amp gx zs, .int .i64 k] I_w20.out wide_line ?_))
      refine (HKY.out _ _ _ AX_w20.out).mono ?_
      rintro e w21 ⟨hb, tvK, rfl, ho⟩
      have hor := ho.reads
      obtain ⟨aK, cK, rfl⟩ := hor.shape
      clear hor
      obtain ⟨BK, hBn⟩ : ∃ BK, BK = w20.heap.size := ⟨_, rfl⟩
      rw [← hBn] at ho
      have HBK : Hid (w.heap.size ≤ BK ∧ BX ≤ BK) := by have h1 := HB_w20.out.size; have h2 := SB_w20.out; show _ ∧ _; omega
      clear hBn
      have HB_w21 : Hid (Below w.heap.size w w21) := below_trans HB_w20.out hb HB_w20.out.size
      have A_w21 : Hid (BoxC w21 24 w.heap.size [.slice a zs.length cap, .int .i64 k]) := A_w20.out.below hb
      have R_w21 : Hid (BoxC w21 36 GR vs) := R_w20.out.below hb
      have C_w21 : Hid (BoxC w21 38 GC [.int .i64 c, .int .i64 r, .int .i64 o, .int .i64 v, .int .i64 g]) := C_w20.out.below hb
      have I_w21 : Hid (BoxC w21 24 GI [amp gx zs, .int .i64 k]) := I_w20.out.below hb
      have J_w21 : Hid (BoxC w21 36 GJ ls) := J_w20.out.below hb
      have AX_w21 : Hid (Ample w21 B4 gx zs) := AX_w20.out.below hb
      have AM_w21 : Hid (Amp w21 B5 ls gs ts 27) := AM_w20.out.below hb
      have SB_w21 : Hid (BX ≤ w21.heap.size) := Nat.le_trans SB_w20.out hb.size
      have TX_w21 : Hid (AvT w21 (fun b => pX ≤ b ∧ b < qX) (.slice aX T.length cX) T) := TX_w20.out.below hb
      have QX_w21 : Hid (AvR w21 (fun b => qX ≤ b) uX ts2) := QX_w20.out.below hb
      have EX_w21 : Hid (AvE w21 (fun b => BX ≤ b ∧ b < pX) (.slice eX es.length dX) es) := EX_w20.out.below hb
      have X_w21 : Hid (BoxC w21 43 GX (resL (.slice aX T.length cX) L uX fk2 fa2 M (.slice eX es.length dX))) := X_w20.out.below hb
      have SX_w21 : Hid (NX ≤ w21.heap.size) := Nat.le_trans SX_w20.out hb.size
      clear A_w20 R_w20 C_w20 I_w20 J_w20 AX_w20 AM_w20 SB_w20 TX_w20 QX_w20 EX_w20 X_w20 SX_w20 HB_w20
      have TK_w21 : Hid (Av w21 (fun b => BK ≤ b) (.slice aK R.1.length cK) R.1) := (av_own ho)
      clear hb ho
      (try dsimp only)
      go_wp2_with (refine allocC rfl 24 rfl [.slice none 0 0, .int .i64 0] (by kernel_rfl) ?_)
      intro w22 ha hb
      go_wp2_with (refine storeC rfl 24 _ _ rfl w21.heap.size rfl [.slice none 0 0, .int .i64 0] [.slice aK R.1.length cK, .int .i64 R.2.1] rfl ha wide_line (fun v hv => by simp at hv; rcases hv with rfl | rfl <;> rfl) rfl ?_)
      intro w23 hz hg
      have hb8 : Below w21.heap.size w21 w23 := hb.grown hg hb.size (fun j hj => by cases hj; exact Nat.le_refl _)
      have HB_w23 : Hid (Below w.heap.size w w23) := below_trans HB_w21.out hb8 HB_w21.out.size
      have A_w23 : Hid (BoxC w23 24 w.heap.size [.slice a zs.length cap, .int .i64 k]) := A_w21.out.below hb8
      have R_w23 : Hid (BoxC w23 36 GR vs) := R_w21.out.below hb8
      have C_w23 : Hid (BoxC w23 38 GC [.int .i64 c, .int .i64 r, .int .i64 o, .int .i64 v, .int .i64 g]) := C_w21.out.below hb8
      have I_w23 : Hid (BoxC w23 24 GI [amp gx zs, .int .i64 k]) := I_w21.out.below hb8
      have J_w23 : Hid (BoxC w23 36 GJ ls) := J_w21.out.below hb8
      have AX_w23 : Hid (Ample w23 B4 gx zs) := AX_w21.out.below hb8
      have AM_w23 : Hid (Amp w23 B5 ls gs ts 27) := AM_w21.out.below hb8
      have SB_w23 : Hid (BX ≤ w23.heap.size) := Nat.le_trans SB_w21.out hb8.size
      have TX_w23 : Hid (AvT w23 (fun b => pX ≤ b ∧ b < qX) (.slice aX T.length cX) T) := TX_w21.out.below hb8
      have QX_w23 : Hid (AvR w23 (fun b => qX ≤ b) uX ts2) := QX_w21.out.below hb8
      have EX_w23 : Hid (AvE w23 (fun b => BX ≤ b ∧ b < pX) (.slice eX es.length dX) es) := EX_w21.out.below hb8
      have X_w23 : Hid (BoxC w23 43 GX (resL (.slice aX T.length cX) L uX fk2 fa2 M (.slice eX es.length dX))) := X_w21.out.below hb8
      have SX_w23 : Hid (NX ≤ w23.heap.size) := Nat.le_trans SX_w21.out hb8.size
      have TK_w23 : Hid (Av w23 (fun b => BK ≤ b) (.slice aK R.1.length cK) R.1) := TK_w21.out.below hb8
      clear A_w21 R_w21 C_w21 I_w21 J_w21 AX_w21 AM_w21 SB_w21 TX_w21 QX_w21 EX_w21 X_w21 SX_w21 TK_w21 HB_w21
      have K_w23 : Hid (BoxC w23 24 w21.heap.size [.slice aK R.1.length cK, .int .i64 R.2.1]) := hz
      clear ha hb hz hg hb8 w22
      generalize w21.heap.size = GK at *
      have cI0 : w23.cell? ⟨GI, 0, none⟩ = some (.slice (some ⟨gx, 0, none⟩) zs.length (zs.length + 3)) := (I_w23.out.cell 0).trans rfl
      have cA0 : w23.cell? ⟨w.heap.size, 0, none⟩ = some (.slice a zs.length cap) := (A_w23.out.cell 0).trans rfl
      go_wp2_with (fail)
      refine (stays_any gx _ zs B4 w23 AX_w23.out (HV.out _ HB_w23.out) HMZ.out).mono ?_
      rintro e w24 ⟨rfl, q, hq⟩
      have hb : Below w23.heap.size w23 w24 := by rw [hq]; exact below_drewN (Below.refl _ _) q
      clear hq cI0 cA0
      have HB_w24 : Hid (Below w.heap.size w w24) := below_trans HB_w23.out hb HB_w23.out.size
      have A_w24 : Hid (BoxC w24 24 w.heap.size [.slice a zs.length cap, .int .i64 k]) := A_w23.out.below hb
      have R_w24 : Hid (BoxC w24 36 GR vs) := R_w23.out.below hb
      have C_w24 : Hid (BoxC w24 38 GC [.int .i64 c, .int .i64 r, .int .i64 o, .int .i64 v, .int .i64 g]) := C_w23.out.below hb
      have I_w24 : Hid (BoxC w24 24 GI [amp gx zs, .int .i64 k]) := I_w23.out.below hb
      have J_w24 : Hid (BoxC w24 36 GJ ls) := J_w23.out.below hb
      have AX_w24 : Hid (Ample w24 B4 gx zs) := AX_w23.out.below hb
      have AM_w24 : Hid (Amp w24 B5 ls gs ts 27) := AM_w23.out.below hb
      have SB_w24 : Hid (BX ≤ w24.heap.size) := Nat.le_trans SB_w23.out hb.size
      have TX_w24 : Hid (AvT w24 (fun b => pX ≤ b ∧ b < qX) (.slice aX T.length cX) T) := TX_w23.out.below hb
      have QX_w24 : Hid (AvR w24 (fun b => qX ≤ b) uX ts2) := QX_w23.out.below hb
      have EX_w24 : Hid (AvE w24 (fun b => BX ≤ b ∧ b < pX) (.slice eX es.length dX) es) := EX_w23.out.below hb
      have X_w24 : Hid (BoxC w24 43 GX (resL (.slice aX T.length cX) L uX fk2 fa2 M (.slice eX es.length dX))) := X_w23.out.below hb
      have SX_w24 : Hid (NX ≤ w24.heap.size) := Nat.le_trans SX_w23.out hb.size
      have TK_w24 : Hid (Av w24 (fun b => BK ≤ b) (.slice aK R.1.length cK) R.1) := TK_w23.out.below hb
      have K_w24 : Hid (BoxC w24 24 GK [.slice aK R.1.length cK, .int .i64 R.2.1]) := K_w23.out.below hb
      clear A_w23 R_w23 C_w23 I_w23 J_w23 AX_w23 AM_w23 SB_w23 TX_w23 QX_w23 EX_w23 X_w23 SX_w23 TK_w23 K_w23 HB_w23
      clear hb
      go_wp2_with (fail)
      go_loopw [80] (fun u80 wr => ∃ (i : Nat), u80 = .int .i64 (i : Int) ∧ i ≤ 27 ∧ Hid (Below w24.heap.size w24 wr)) (fun u80 _ => 27 - (intOf u80).toNat)
      case atStart => exact ⟨0, rfl, by omega, Below.refl _ _⟩
      case round =>
        obtain ⟨i, rfl, hi, Hq⟩ := hrel
        by_cases hlt : i < 27
        · have hiI : (i : Int) < 27 := by omega
          have hAM := AM_w24.out.below Hq.out
          obtain ⟨ai, ci, hv, hr, hm⟩ := (HRR.out wr (below_trans HB_w24.out Hq.out HB_w24.out.size)).at_ i hlt
          have hc1 : wr.cell? ⟨GJ, i, none⟩ = ls[i]? := (J_w24.out.below Hq.out).cell i
          have hc2 : wr.cell? ⟨GR, i, none⟩ = vs[i]? := (R_w24.out.below Hq.out).cell i
          rw [show ls[i]? = some (ls.getD i undef) by rw [List.getD_eq_getElem?_getD, List.getElem?_eq_getElem (by omega)]; rfl, (hAM i hlt).1] at hc1
          rw [show vs[i]? = some (vs.getD i undef) by rw [List.getD_eq_getElem?_getD, List.getElem?_eq_getElem (by omega)]; rfl, hv] at hc2
          have ha := (hAM i hlt).2
          generalize ts.getD i [] = y at *
          unfold amp at hc1
          have HR : Hid (Reads wr (.slice ai y.length ci) y) := hr
          have HM : Hid (Mild y) := hm
          have HA : Hid (Ample wr B5 (gs i) y) := ha
          clear hr hm hv ha hAM
          generalize gs i = gi at *
          go_wp2_with fail
          go_quiet ((go_at_call 16; exact Calls.quiet_of (stays_any gi _ y _ _ (HA.out.below (below_drewN (Below.refl _ _) _)) (HR.out.drewN _) HM.out)))
          have HQ2 : Hid (Below w24.heap.size w24 (wr.drewN nq)) := below_drewN Hq.out nq
          clear Hq hc1 hc2
          go_wp2_with fail
          go_roundw
          case rel => exact ⟨i + 1, by go_num, by omega, HQ2.out⟩
          case measure => simp [intOf] <;> omega
        obtain rfl : i = 27 := by omega
        have hiI2 : ¬ ((27 : Nat) : Int) < 27 := by omega
        clear hlt
        have HB_wr : Hid (Below w.heap.size w wr) := below_trans HB_w24.out Hq.out HB_w24.out.size
        have A_wr : Hid (BoxC wr 24 w.heap.size [.slice a zs.length cap, .int .i64 k]) := A_w24.out.below Hq.out
        have R_wr : Hid (BoxC wr 36 GR vs) := R_w24.out.below Hq.out
        have C_wr : Hid (BoxC wr 38 GC [.int .i64 c, .int .i64 r, .int .i64 o, .int .i64 v, .int .i64 g]) := C_w24.out.below Hq.out
        have I_wr : Hid (BoxC wr 24 GI [amp gx zs, .int .i64 k]) := I_w24.out.below Hq.out
        have J_wr : Hid (BoxC wr 36 GJ ls) := J_w24.out.below Hq.out
        have AX_wr : Hid (Ample wr B4 gx zs) := AX_w24.out.below Hq.out
        have AM_wr : Hid (Amp wr B5 ls gs ts 27) := AM_w24.out.below Hq.out
        have SB_wr : Hid (BX ≤ wr.heap.size) := Nat.le_trans SB_w24.out Hq.out.size
        have TX_wr : Hid (AvT wr (fun b => pX ≤ b ∧ b < qX) (.slice aX T.length cX) T) := TX_w24.out.below Hq.out
        have QX_wr : Hid (AvR wr (fun b => qX ≤ b) uX ts2) := QX_w24.out.below Hq.out
        have EX_wr : Hid (AvE wr (fun b => BX ≤ b ∧ b < pX) (.slice eX es.length dX) es) := EX_w24.out.below Hq.out
        have X_wr : Hid (BoxC wr 43 GX (resL (.slice aX T.length cX) L uX fk2 fa2 M (.slice eX es.length dX))) := X_w24.out.below Hq.out
        have SX_wr : Hid (NX ≤ wr.heap.size) := Nat.le_trans SX_w24.out Hq.out.size
        have TK_wr : Hid (Av wr (fun b => BK ≤ b) (.slice aK R.1.length cK) R.1) := TK_w24.out.below Hq.out
        have K_wr : Hid (BoxC wr 24 GK [.slice aK R.1.length cK, .int .i64 R.2.1]) := K_w24.out.below Hq.out
        clear A_w24 R_w24 C_w24 I_w24 J_w24 AX_w24 AM_w24 SB_w24 TX_w24 QX_w24 EX_w24 X_w24 SX_w24 TK_w24 K_w24 HB_w24
        clear Hq
        obtain ⟨BY, hBn⟩ : ∃ BY, BY = wr.heap.size := ⟨_, rfl⟩
        have HYW : Hid (w.heap.size ≤ wr.heap.size) := HB_wr.out.size
        have HXY : Hid (NX ≤ BY ∧ BX ≤ BY) := by rw [hBn]; exact ⟨SX_wr.out, SB_wr.out⟩
        clear SX_wr
        go_wp2_with (first | (refine buildC rfl 40 _ rfl [.int .i64 0, .int .i64 0] (by kernel_rfl) ?_) | (refine loadC rfl 24 _ rfl GI rfl [amp gx zs, .int .i64 k] I_wr.out wide_line ?_) | (refine loadC rfl 36 _ rfl GJ rfl ls J_wr.out (by rw [hls]; exact wide_regs) ?_) | (refine loadC rfl 38 _ rfl GC rfl [.int .i64 c, .int .i64 r, .int .i64 o, .int .i64 v, .int .i64 g] C_wr.out wide_cmd ?_))
        have HRL : ReadsR wr ls ts := AM_wr.out.reads HLS.out HLT.out HMT.out
        refine (HDO.out _ _ _ _ AX_wr.out HRL).mono ?_
        rintro e w25 ⟨hb, xY, rfl, aY, cY, uY, evY, pY, qY, rfl, hp, hq, hT, hQ, hE⟩
        clear HRL
        have hEr := hE.owns.reads
        obtain ⟨eY, dY, rfl⟩ := hEr.shape
        clear hEr
        have HYP : Hid (wr.heap.size ≤ pY ∧ pY ≤ qY) := ⟨hp, hq⟩
        clear hp hq
        have HB_w25 : Hid (Below w.heap.size w w25) := below_trans HB_wr.out hb HB_wr.out.size
        have A_w25 : Hid (BoxC w25 24 w.heap.size [.slice a zs.length cap, .int .i64 k]) := A_wr.out.below hb
        have R_w25 : Hid (BoxC w25 36 GR vs) := R_wr.out.below hb
        have C_w25 : Hid (BoxC w25 38 GC [.int .i64 c, .int .i64 r, .int .i64 o, .int .i64 v, .int .i64 g]) := C_wr.out.below hb
        have I_w25 : Hid (BoxC w25 24 GI [amp gx zs, .int .i64 k]) := I_wr.out.below hb
        have J_w25 : Hid (BoxC w25 36 GJ ls) := J_wr.out.below hb
        have AX_w25 : Hid (Ample w25 B4 gx zs) := AX_wr.out.below hb
        have AM_w25 : Hid (Amp w25 B5 ls gs ts 27) := AM_wr.out.below hb
        have SB_w25 : Hid (BX ≤ w25.heap.size) := Nat.le_trans SB_wr.out hb.size
        have TX_w25 : Hid (AvT w25 (fun b => pX ≤ b ∧ b < qX) (.slice aX T.length cX) T) := TX_wr.out.below hb
        have QX_w25 : Hid (AvR w25 (fun b => qX ≤ b) uX ts2) := QX_wr.out.below hb
        have EX_w25 : Hid (AvE w25 (fun b => BX ≤ b ∧ b < pX) (.slice eX es.length dX) es) := EX_wr.out.below hb
        have X_w25 : Hid (BoxC w25 43 GX (resL (.slice aX T.length cX) L uX fk2 fa2 M (.slice eX es.length dX))) := X_wr.out.below hb
        have TK_w25 : Hid (Av w25 (fun b => BK ≤ b) (.slice aK R.1.length cK) R.1) := TK_wr.out.below hb
        have K_w25 : Hid (BoxC w25 24 GK [.slice aK R.1.length cK, .int .i64 R.2.1]) := K_wr.out.below hb
        clear A_wr R_wr C_wr I_wr J_wr AX_wr AM_wr SB_wr TX_wr QX_wr EX_wr X_wr TK_wr K_wr HB_wr
        clear hb
        have hlY : uY.length = 27 := hQ.1.1.1
        have HSY : Hid (AllSl uY) := hQ.1.1
        have TY_w25 : Hid (AvT w25 (fun b => pY ≤ b ∧ b < qY) (.slice aY T.length cY) T) := hT
        have QY_w25 : Hid (AvR w25 (fun b => qY ≤ b) uY ts2) := hQ
        have EY_w25 : Hid (AvE w25 (fun b => BY ≤ b ∧ b < pY) (.slice eY es.length dY) es) := (by rw [hBn]; exact hE)
        clear hT hQ hE
        (try dsimp only)
        go_wp2_with (refine allocC rfl 43 rfl nulL nul_zero ?_)
        intro w26 ha hb
        go_wp2_with (refine storeC rfl 43 _ _ rfl w25.heap.size rfl nulL (resL (.slice aY T.length cY) L uY fk2 fa2 M (.slice eY es.length dY)) rfl ha (by rw [resL_len hlY]; exact wide_res) (resL_one HSY.out rfl rfl) (by rw [nul_len, resL_len hlY]) ?_)
        intro w27 hz hg
        have hb8 : Below w25.heap.size w25 w27 := hb.grown hg hb.size (fun j hj => by cases hj; exact Nat.le_refl _)
        have HBY : Hid (w.heap.size ≤ BY ∧ BY ≤ pY ∧ pY ≤ qY) := ⟨by rw [hBn]; exact HYW.out, by rw [hBn]; exact HYP.out.1, HYP.out.2⟩
        clear HYP
        have HB_w27 : Hid (Below w.heap.size w w27) := below_trans HB_w25.out hb8 HB_w25.out.size
        have A_w27 : Hid (BoxC w27 24 w.heap.size [.slice a zs.length cap, .int .i64 k]) := A_w25.out.below hb8
        have R_w27 : Hid (BoxC w27 36 GR vs) := R_w25.out.below hb8
        have C_w27 : Hid (BoxC w27 38 GC [.int .i64 c, .int .i64 r, .int .i64 o, .int .i64 v, .int .i64 g]) := C_w25.out.below hb8
        have I_w27 : Hid (BoxC w27 24 GI [amp gx zs, .int .i64 k]) := I_w25.out.below hb8
        have J_w27 : Hid (BoxC w27 36 GJ ls) := J_w25.out.below hb8
        have AX_w27 : Hid (Ample w27 B4 gx zs) := AX_w25.out.below hb8
        have AM_w27 : Hid (Amp w27 B5 ls gs ts 27) := AM_w25.out.below hb8
        have SB_w27 : Hid (BX ≤ w27.heap.size) := Nat.le_trans SB_w25.out hb8.size
        have TX_w27 : Hid (AvT w27 (fun b => pX ≤ b ∧ b < qX) (.slice aX T.length cX) T) := TX_w25.out.below hb8
        have QX_w27 : Hid (AvR w27 (fun b => qX ≤ b) uX ts2) := QX_w25.out.below hb8
        have EX_w27 : Hid (AvE w27 (fun b => BX ≤ b ∧ b < pX) (.slice eX es.length dX) es) := EX_w25.out.below hb8
        have X_w27 : Hid (BoxC w27 43 GX (resL (.slice aX T.length cX) L uX fk2 fa2 M (.slice eX es.length dX))) := X_w25.out.below hb8
        have TK_w27 : Hid (Av w27 (fun b => BK ≤ b) (.slice aK R.1.length cK) R.1) := TK_w25.out.below hb8
        have K_w27 : Hid (BoxC w27 24 GK [.slice aK R.1.length cK, .int .i64 R.2.1]) := K_w25.out.below hb8
        have TY_w27 : Hid (AvT w27 (fun b => pY ≤ b ∧ b < qY) (.slice aY T.length cY) T) := TY_w25.out.below hb8
        have QY_w27 : Hid (AvR w27 (fun b => qY ≤ b) uY ts2) := QY_w25.out.below hb8
        have EY_w27 : Hid (AvE w27 (fun b => BY ≤ b ∧ b < pY) (.slice eY es.length dY) es) := EY_w25.out.below hb8
        clear A_w25 R_w25 C_w25 I_w25 J_w25 AX_w25 AM_w25 SB_w25 TX_w25 QX_w25 EX_w25 X_w25 TK_w25 K_w25 TY_w25 QY_w25 EY_w25 HB_w25
        have Y_w27 : Hid (BoxC w27 43 w25.heap.size (resL (.slice aY T.length cY) L uY fk2 fa2 M (.slice eY es.length dY))) := hz
        clear ha hb hz hg hb8 w26
        generalize w25.heap.size = GY at *
        clear hBn HYW
        go_wp2_with ((refine loadC rfl 24 _ rfl GI rfl [amp gx zs, .int .i64 k] I_w27.out wide_line ?_))
        refine (HKY.out _ _ _ AX_w27.out).mono ?_
        rintro e w28 ⟨hb, tvM, rfl, ho⟩
        have hor := ho.reads
        obtain ⟨aM, cM, rfl⟩ := hor.shape
        clear hor
        obtain ⟨BM, hBn⟩ : ∃ BM, BM = w27.heap.size := ⟨_, rfl⟩
        rw [← hBn] at ho
        have HBM : Hid (w.heap.size ≤ BM ∧ BX ≤ BM) := by have h1 := HB_w27.out.size; have h2 := SB_w27.out; show _ ∧ _; omega
        clear hBn
        have HB_w28 : Hid (Below w.heap.size w w28) := below_trans HB_w27.out hb HB_w27.out.size
        have A_w28 : Hid (BoxC w28 24 w.heap.size [.slice a zs.length cap, .int .i64 k]) := A_w27.out.below hb
        have R_w28 : Hid (BoxC w28 36 GR vs) := R_w27.out.below hb
        have C_w28 : Hid (BoxC w28 38 GC [.int .i64 c, .int .i64 r, .int .i64 o, .int .i64 v, .int .i64 g]) := C_w27.out.below hb
        have I_w28 : Hid (BoxC w28 24 GI [amp gx zs, .int .i64 k]) := I_w27.out.below hb
        have J_w28 : Hid (BoxC w28 36 GJ ls) := J_w27.out.below hb
        have AX_w28 : Hid (Ample w28 B4 gx zs) := AX_w27.out.below hb
        have AM_w28 : Hid (Amp w28 B5 ls gs ts 27) := AM_w27.out.below hb
        have SB_w28 : Hid (BX ≤ w28.heap.size) := Nat.le_trans SB_w27.out hb.size
        have TX_w28 : Hid (AvT w28 (fun b => pX ≤ b ∧ b < qX) (.slice aX T.length cX) T) := TX_w27.out.below hb
        have QX_w28 : Hid (AvR w28 (fun b => qX ≤ b) uX ts2) := QX_w27.out.below hb
        have EX_w28 : Hid (AvE w28 (fun b => BX ≤ b ∧ b < pX) (.slice eX es.length dX) es) := EX_w27.out.below hb
        have X_w28 : Hid (BoxC w28 43 GX (resL (.slice aX T.length cX) L uX fk2 fa2 M (.slice eX es.length dX))) := X_w27.out.below hb
        have TK_w28 : Hid (Av w28 (fun b => BK ≤ b) (.slice aK R.1.length cK) R.1) := TK_w27.out.below hb
        have K_w28 : Hid (BoxC w28 24 GK [.slice aK R.1.length cK, .int .i64 R.2.1]) := K_w27.out.below hb
        have TY_w28 : Hid (AvT w28 (fun b => pY ≤ b ∧ b < qY) (.slice aY T.length cY) T) := TY_w27.out.below hb
        have QY_w28 : Hid (AvR w28 (fun b => qY ≤ b) uY ts2) := QY_w27.out.below hb
        have EY_w28 : Hid (AvE w28 (fun b => BY ≤ b ∧ b < pY) (.slice eY es.length dY) es) := EY_w27.out.below hb
        have Y_w28 : Hid (BoxC w28 43 GY (resL (.slice aY T.length cY) L uY fk2 fa2 M (.slice eY es.length dY))) := Y_w27.out.below hb
        clear A_w27 R_w27 C_w27 I_w27 J_w27 AX_w27 AM_w27 SB_w27 TX_w27 QX_w27 EX_w27 X_w27 TK_w27 K_w27 TY_w27 QY_w27 EY_w27 Y_w27 HB_w27
        have TM_w28 : Hid (Av w28 (fun b => BM ≤ b) (.slice aM R.1.length cM) R.1) := (av_own ho)
        clear hb ho
        (try dsimp only)
        go_wp2_with (refine allocC rfl 24 rfl [.slice none 0 0, .int .i64 0] (by kernel_rfl) ?_)
        intro w29 ha hb
        go_wp2_with (refine storeC rfl 24 _ _ rfl w28.heap.size rfl [.slice none 0 0, .int .i64 0] [.slice aM R.1.length cM, .int .i64 R.2.1] rfl ha wide_line (fun v hv => by simp at hv; rcases hv with rfl | rfl <;> rfl) rfl ?_)
        intro w30 hz hg
        have hb8 : Below w28.heap.size w28 w30 := hb.grown hg hb.size (fun j hj => by cases hj; exact Nat.le_refl _)
        have HB_w30 : Hid (Below w.heap.size w w30) := below_trans HB_w28.out hb8 HB_w28.out.size
        have A_w30 : Hid (BoxC w30 24 w.heap.size [.slice a zs.length cap, .int .i64 k]) := A_w28.out.below hb8
        have R_w30 : Hid (BoxC w30 36 GR vs) := R_w28.out.below hb8
        have C_w30 : Hid (BoxC w30 38 GC [.int .i64 c, .int .i64 r, .int .i64 o, .int .i64 v, .int .i64 g]) := C_w28.out.below hb8
        have I_w30 : Hid (BoxC w30 24 GI [amp gx zs, .int .i64 k]) := I_w28.out.below hb8
        have J_w30 : Hid (BoxC w30 36 GJ ls) := J_w28.out.below hb8
        have AX_w30 : Hid (Ample w30 B4 gx zs) := AX_w28.out.below hb8
        have AM_w30 : Hid (Amp w30 B5 ls gs ts 27) := AM_w28.out.below hb8
        have SB_w30 : Hid (BX ≤ w30.heap.size) := Nat.le_trans SB_w28.out hb8.size
        have TX_w30 : Hid (AvT w30 (fun b => pX ≤ b ∧ b < qX) (.slice aX T.length cX) T) := TX_w28.out.below hb8
        have QX_w30 : Hid (AvR w30 (fun b => qX ≤ b) uX ts2) := QX_w28.out.below hb8
        have EX_w30 : Hid (AvE w30 (fun b => BX ≤ b ∧ b < pX) (.slice eX es.length dX) es) := EX_w28.out.below hb8
        have X_w30 : Hid (BoxC w30 43 GX (resL (.slice aX T.length cX) L uX fk2 fa2 M (.slice eX es.length dX))) := X_w28.out.below hb8
        have TK_w30 : Hid (Av w30 (fun b => BK ≤ b) (.slice aK R.1.length cK) R.1) := TK_w28.out.below hb8
        have K_w30 : Hid (BoxC w30 24 GK [.slice aK R.1.length cK, .int .i64 R.2.1]) := K_w28.out.below hb8
        have TY_w30 : Hid (AvT w30 (fun b => pY ≤ b ∧ b < qY) (.slice aY T.length cY) T) := TY_w28.out.below hb8
        have QY_w30 : Hid (AvR w30 (fun b => qY ≤ b) uY ts2) := QY_w28.out.below hb8
        have EY_w30 : Hid (AvE w30 (fun b => BY ≤ b ∧ b < pY) (.slice eY es.length dY) es) := EY_w28.out.below hb8
        have Y_w30 : Hid (BoxC w30 43 GY (resL (.slice aY T.length cY) L uY fk2 fa2 M (.slice eY es.length dY))) := Y_w28.out.below hb8
        have TM_w30 : Hid (Av w30 (fun b => BM ≤ b) (.slice aM R.1.length cM) R.1) := TM_w28.out.below hb8
        clear A_w28 R_w28 C_w28 I_w28 J_w28 AX_w28 AM_w28 SB_w28 TX_w28 QX_w28 EX_w28 X_w28 TK_w28 K_w28 TY_w28 QY_w28 EY_w28 Y_w28 TM_w28 HB_w28
        have M_w30 : Hid (BoxC w30 24 w28.heap.size [.slice aM R.1.length cM, .int .i64 R.2.1]) := hz
        clear ha hb hz hg hb8 w29
        generalize w28.heap.size = GM at *
        have ST_w30 : Hid (St w30 BX gx (zs.length + 3) gs ts) := ⟨⟨AX_w30.out.block, HGB.out.1⟩, fun j hj => ⟨(AM_w30.out j hj).2.block, HGB.out.2 j hj⟩⟩
        have HLA : Hid (∀ j, j < 27 → ls.getD j undef = amp (gs j) (ts.getD j [])) := fun j hj => (AM_w30.out j hj).1
        clear AX_w30
        clear AM_w30
        clear A_w30
        clear R_w30
        clear C_w30
        clear SB_w30
        have HMX : Hid (∀ y : List Int, Mild y → y.length + 3 ≤ maxLen) := fun y hy => by unfold Mild at hy; unfold maxLen; omega
        have cI0 : w30.cell? ⟨GI, 0, none⟩ = some (.slice (some ⟨gx, 0, none⟩) zs.length (zs.length + 3)) := (I_w30.out.cell 0).trans rfl
        go_wp2_with (fail)
        refine (spoil_any gx zs.length (zs.length + 3) w30 5 ST_w30.out.1.1 (Nat.le_add_right _ _) (HMX.out zs HMZ.out)).mono ?_
        rintro e w31 ⟨rfl, hgr, hi'⟩
        have hI := ST_w30.out.1.1
        have hglt := HGB.out.1
        have hgw := HGW.out.1
        clear cI0
        obtain ⟨gq, hgq⟩ : ∃ gq, gq = gx := ⟨_, rfl⟩
        rw [← hgq] at hgr hi' hI hglt hgw
        have HB_w31 : Hid (Below w.heap.size w w31) := HB_w30.out.grown hgr HB_w30.out.size (fun j hj => by cases hj; exact hgw)
        have I_w31 : Hid (BoxC w31 24 GI [amp gx zs, .int .i64 k]) := I_w30.out.kept hgr (fun e => (hI).neB I_w30.out (by decide) (Option.some.inj e).symm)
        have J_w31 : Hid (BoxC w31 36 GJ ls) := J_w30.out.kept hgr (fun e => (hI).neB J_w30.out (by decide) (Option.some.inj e).symm)
        have TX_w31 : Hid (AvT w31 (fun b => pX ≤ b ∧ b < qX) (.slice aX T.length cX) T) := TX_w30.out.stored hgr (by have h1 := hglt; have h2 := HBX.out; have h3 := HXY.out; show ¬ (pX ≤ gq ∧ gq < qX); omega)
        have QX_w31 : Hid (AvR w31 (fun b => qX ≤ b) uX ts2) := QX_w30.out.stored hgr (by have h1 := hglt; have h2 := HBX.out; have h3 := HXY.out; show ¬ qX ≤ gq; omega)
        have EX_w31 : Hid (AvE w31 (fun b => BX ≤ b ∧ b < pX) (.slice eX es.length dX) es) := EX_w30.out.stored hgr (by have h1 := hglt; have h2 := HBX.out; have h3 := HXY.out; show ¬ (BX ≤ gq ∧ gq < pX); omega)
        have X_w31 : Hid (BoxC w31 43 GX (resL (.slice aX T.length cX) L uX fk2 fa2 M (.slice eX es.length dX))) := X_w30.out.kept hgr (fun e => (hI).neB X_w30.out (by decide) (Option.some.inj e).symm)
        have TK_w31 : Hid (Av w31 (fun b => BK ≤ b) (.slice aK R.1.length cK) R.1) := TK_w30.out.stored hgr (by have h1 := hglt; have h2 := HBK.out; have h3 := HXY.out; show ¬ BK ≤ gq; omega)
        have K_w31 : Hid (BoxC w31 24 GK [.slice aK R.1.length cK, .int .i64 R.2.1]) := K_w30.out.kept hgr (fun e => (hI).neB K_w30.out (by decide) (Option.some.inj e).symm)
        have TY_w31 : Hid (AvT w31 (fun b => pY ≤ b ∧ b < qY) (.slice aY T.length cY) T) := TY_w30.out.stored hgr (by have h1 := hglt; have h2 := HBY.out; have h3 := HXY.out; show ¬ (pY ≤ gq ∧ gq < qY); omega)
        have QY_w31 : Hid (AvR w31 (fun b => qY ≤ b) uY ts2) := QY_w30.out.stored hgr (by have h1 := hglt; have h2 := HBY.out; have h3 := HXY.out; show ¬ qY ≤ gq; omega)
        have EY_w31 : Hid (AvE w31 (fun b => BY ≤ b ∧ b < pY) (.slice eY es.length dY) es) := EY_w30.out.stored hgr (by have h1 := hglt; have h2 := HBY.out; have h3 := HXY.out; show ¬ (BY ≤ gq ∧ gq < pY); omega)
        have Y_w31 : Hid (BoxC w31 43 GY (resL (.slice aY T.length cY) L uY fk2 fa2 M (.slice eY es.length dY))) := Y_w30.out.kept hgr (fun e => (hI).neB Y_w30.out (by decide) (Option.some.inj e).symm)
        have TM_w31 : Hid (Av w31 (fun b => BM ≤ b) (.slice aM R.1.length cM) R.1) := TM_w30.out.stored hgr (by have h1 := hglt; have h2 := HBM.out; have h3 := HXY.out; show ¬ BM ≤ gq; omega)
        have M_w31 : Hid (BoxC w31 24 GM [.slice aM R.1.length cM, .int .i64 R.2.1]) := M_w30.out.kept hgr (fun e => (hI).neB M_w30.out (by decide) (Option.some.inj e).symm)
        have ST_w31 : Hid (St w31 BX gx (zs.length + 3) gs ts) := ST_w30.out.spoilt hI hgr hi'
        clear I_w30 J_w30 TX_w30 QX_w30 EX_w30 X_w30 TK_w30 K_w30 TY_w30 QY_w30 EY_w30 Y_w30 TM_w30 M_w30 ST_w30 HB_w30
        clear hgr hi' hI hglt hgw hgq gq
        clear I_w31
        go_wp2_with (fail)
        go_loopw [109] (fun u109 wl => ∃ (i : Nat), u109 = .int .i64 (i : Int) ∧ i ≤ 27 ∧ Hid (Below w.heap.size w wl) ∧ Hid (BoxC wl 36 GJ ls) ∧ Hid (AvT wl (fun b => pX ≤ b ∧ b < qX) (.slice aX T.length cX) T) ∧ Hid (AvR wl (fun b => qX ≤ b) uX ts2) ∧ Hid (AvE wl (fun b => BX ≤ b ∧ b < pX) (.slice eX es.length dX) es) ∧ Hid (BoxC wl 43 GX (resL (.slice aX T.length cX) L uX fk2 fa2 M (.slice eX es.length dX))) ∧ Hid (Av wl (fun b => BK ≤ b) (.slice aK R.1.length cK) R.1) ∧ Hid (BoxC wl 24 GK [.slice aK R.1.length cK, .int .i64 R.2.1]) ∧ Hid (AvT wl (fun b => pY ≤ b ∧ b < qY) (.slice aY T.length cY) T) ∧ Hid (AvR wl (fun b => qY ≤ b) uY ts2) ∧ Hid (AvE wl (fun b => BY ≤ b ∧ b < pY) (.slice eY es.length dY) es) ∧ Hid (BoxC wl 43 GY (resL (.slice aY T.length cY) L uY fk2 fa2 M (.slice eY es.length dY))) ∧ Hid (Av wl (fun b => BM ≤ b) (.slice aM R.1.length cM) R.1) ∧ Hid (BoxC wl 24 GM [.slice aM R.1.length cM, .int .i64 R.2.1]) ∧ Hid (St wl BX gx (zs.length + 3) gs ts)) (fun u109 _ => 27 - (intOf u109).toNat)
        case atStart => exact ⟨0, rfl, by omega, HB_w31, J_w31, TX_w31, QX_w31, EX_w31, X_w31, TK_w31, K_w31, TY_w31, QY_w31, EY_w31, Y_w31, TM_w31, M_w31, ST_w31⟩
        case round =>
          obtain ⟨i, rfl, hi, HB_wr, J_wr, TX_wr, QX_wr, EX_wr, X_wr, TK_wr, K_wr, TY_wr, QY_wr, EY_wr, Y_wr, TM_wr, M_wr, ST_wr⟩ := hrel
          clear J_w31 TX_w31 QX_w31 EX_w31 X_w31 TK_w31 K_w31 TY_w31 QY_w31 EY_w31 Y_w31 TM_w31 M_w31 ST_w31 HB_w31
          by_cases hlt : i < 27
          · have hiI : (i : Int) < 27 := by omega
            have hc1 : wr.cell? ⟨GJ, i, none⟩ = ls[i]? := J_wr.out.cell i
            rw [show ls[i]? = some (ls.getD i undef) by rw [List.getD_eq_getElem?_getD, List.getElem?_eq_getElem (by omega)]; rfl, HLA.out i hlt] at hc1
            have hI0 := (ST_wr.out.2 i hlt).1
            have hglt0 := HGB.out.2 i hlt
            have hgw0 := HGW.out.2 i hlt
            have hmi := HMX.out _ (HMT.out i hlt)
            unfold amp at hc1
            obtain ⟨y, hy⟩ : ∃ y, y = ts.getD i [] := ⟨_, rfl⟩
            obtain ⟨gq, hgq⟩ : ∃ gq, gq = gs i := ⟨_, rfl⟩
            rw [← hy, ← hgq] at hc1 hI0
            rw [← hy] at hmi
            rw [← hgq] at hglt0 hgw0
            have HI0 : Hid (IntBlock wr gq (y.length + 3)) := hI0
            have HG0 : Hid (gq < BX ∧ w.heap.size ≤ gq ∧ y.length + 3 ≤ maxLen) := ⟨hglt0, hgw0, hmi⟩
            clear hI0 hglt0 hgw0 hmi hy hgq
            go_wp2_with (fail)
            refine (spoil_any gq y.length (y.length + 3) wr 5 HI0.out (Nat.le_add_right _ _) HG0.out.2.2).mono ?_
            rintro e w32 ⟨rfl, hgr, hi'⟩
            clear hc1
            have HB_w32 : Hid (Below w.heap.size w w32) := HB_wr.out.grown hgr HB_wr.out.size (fun j hj => by cases hj; exact HG0.out.2.1)
            have J_w32 : Hid (BoxC w32 36 GJ ls) := J_wr.out.kept hgr (fun e => (HI0.out).neB J_wr.out (by decide) (Option.some.inj e).symm)
            have TX_w32 : Hid (AvT w32 (fun b => pX ≤ b ∧ b < qX) (.slice aX T.length cX) T) := TX_wr.out.stored hgr (by have h1 := HG0.out.1; have h2 := HBX.out; have h3 := HXY.out; show ¬ (pX ≤ gq ∧ gq < qX); omega)
            have QX_w32 : Hid (AvR w32 (fun b => qX ≤ b) uX ts2) := QX_wr.out.stored hgr (by have h1 := HG0.out.1; have h2 := HBX.out; have h3 := HXY.out; show ¬ qX ≤ gq; omega)
            have EX_w32 : Hid (AvE w32 (fun b => BX ≤ b ∧ b < pX) (.slice eX es.length dX) es) := EX_wr.out.stored hgr (by have h1 := HG0.out.1; have h2 := HBX.out; have h3 := HXY.out; show ¬ (BX ≤ gq ∧ gq < pX); omega)
            have X_w32 : Hid (BoxC w32 43 GX (resL (.slice aX T.length cX) L uX fk2 fa2 M (.slice eX es.length dX))) := X_wr.out.kept hgr (fun e => (HI0.out).neB X_wr.out (by decide) (Option.some.inj e).symm)
            have TK_w32 : Hid (Av w32 (fun b => BK ≤ b) (.slice aK R.1.length cK) R.1) := TK_wr.out.stored hgr (by have h1 := HG0.out.1; have h2 := HBK.out; have h3 := HXY.out; show ¬ BK ≤ gq; omega)
            have K_w32 : Hid (BoxC w32 24 GK [.slice aK R.1.length cK, .int .i64 R.2.1]) := K_wr.out.kept hgr (fun e => (HI0.out).neB K_wr.out (by decide) (Option.some.inj e).symm)
            have TY_w32 : Hid (AvT w32 (fun b => pY ≤ b ∧ b < qY) (.slice aY T.length cY) T) := TY_wr.out.stored hgr (by have h1 := HG0.out.1; have h2 := HBY.out; have h3 := HXY.out; show ¬ (pY ≤ gq ∧ gq < qY); omega)
            have QY_w32 : Hid (AvR w32 (fun b => qY ≤ b) uY ts2) := QY_wr.out.stored hgr (by have h1 := HG0.out.1; have h2 := HBY.out; have h3 := HXY.out; show ¬ qY ≤ gq; omega)
            have EY_w32 : Hid (AvE w32 (fun b => BY ≤ b ∧ b < pY) (.slice eY es.length dY) es) := EY_wr.out.stored hgr (by have h1 := HG0.out.1; have h2 := HBY.out; have h3 := HXY.out; show ¬ (BY ≤ gq ∧ gq < pY); omega)
            have Y_w32 : Hid (BoxC w32 43 GY (resL (.slice aY T.length cY) L uY fk2 fa2 M (.slice eY es.length dY))) := Y_wr.out.kept hgr (fun e => (HI0.out).neB Y_wr.out (by decide) (Option.some.inj e).symm)
            have TM_w32 : Hid (Av w32 (fun b => BM ≤ b) (.slice aM R.1.length cM) R.1) := TM_wr.out.stored hgr (by have h1 := HG0.out.1; have h2 := HBM.out; have h3 := HXY.out; show ¬ BM ≤ gq; omega)
            have M_w32 : Hid (BoxC w32 24 GM [.slice aM R.1.length cM, .int .i64 R.2.1]) := M_wr.out.kept hgr (fun e => (HI0.out).neB M_wr.out (by decide) (Option.some.inj e).symm)
            have ST_w32 : Hid (St w32 BX gx (zs.length + 3) gs ts) := ST_wr.out.spoilt HI0.out hgr hi'
            clear J_wr TX_wr QX_wr EX_wr X_wr TK_wr K_wr TY_wr QY_wr EY_wr Y_wr TM_wr M_wr ST_wr HB_wr
            clear hgr hi' HI0 HG0
            go_wp2_with (fail)
            go_roundw
            case rel => exact ⟨i + 1, by go_num, by omega, HB_w32, J_w32, TX_w32, QX_w32, EX_w32, X_w32, TK_w32, K_w32, TY_w32, QY_w32, EY_w32, Y_w32, TM_w32, M_w32, ST_w32⟩
            case measure => simp [intOf] <;> omega
          obtain rfl : i = 27 := by omega
          have hiI3 : ¬ ((27 : Nat) : Int) < 27 := by omega
          clear hlt
          clear J_wr
          clear ST_wr
          go_wp2_with (first | (refine loadP rfl 43 24 _ rfl GX 0 rfl (resL (.slice aX T.length cX) L uX fk2 fa2 M (.slice eX es.length dX)) [.slice aX T.length cX, .int .i64 L] X_wr.out wide_line (fun j v hv => by rw [Nat.zero_add]; match j with | 0 => exact hv | 1 => exact hv | (j + 2) => simp at hv) ?_) | (refine loadP rfl 43 24 _ rfl GY 0 rfl (resL (.slice aY T.length cY) L uY fk2 fa2 M (.slice eY es.length dY)) [.slice aY T.length cY, .int .i64 L] Y_wr.out wide_line (fun j v hv => by rw [Nat.zero_add]; match j with | 0 => exact hv | 1 => exact hv | (j + 2) => simp at hv) ?_))
          refine (sameLine_yes _ _ T L wr TX_wr.out.1.reads TY_wr.out.1.reads).mono ?_
          rintro e w42 ⟨rfl, hb⟩
          have HB_w42 : Hid (Below w.heap.size w w42) := below_trans HB_wr.out hb HB_wr.out.size
          have TX_w42 : Hid (AvT w42 (fun b => pX ≤ b ∧ b < qX) (.slice aX T.length cX) T) := TX_wr.out.below hb
          have QX_w42 : Hid (AvR w42 (fun b => qX ≤ b) uX ts2) := QX_wr.out.below hb
          have EX_w42 : Hid (AvE w42 (fun b => BX ≤ b ∧ b < pX) (.slice eX es.length dX) es) := EX_wr.out.below hb
          have X_w42 : Hid (BoxC w42 43 GX (resL (.slice aX T.length cX) L uX fk2 fa2 M (.slice eX es.length dX))) := X_wr.out.below hb
          have TK_w42 : Hid (Av w42 (fun b => BK ≤ b) (.slice aK R.1.length cK) R.1) := TK_wr.out.below hb
          have K_w42 : Hid (BoxC w42 24 GK [.slice aK R.1.length cK, .int .i64 R.2.1]) := K_wr.out.below hb
          have TY_w42 : Hid (AvT w42 (fun b => pY ≤ b ∧ b < qY) (.slice aY T.length cY) T) := TY_wr.out.below hb
          have QY_w42 : Hid (AvR w42 (fun b => qY ≤ b) uY ts2) := QY_wr.out.below hb
          have EY_w42 : Hid (AvE w42 (fun b => BY ≤ b ∧ b < pY) (.slice eY es.length dY) es) := EY_wr.out.below hb
          have Y_w42 : Hid (BoxC w42 43 GY (resL (.slice aY T.length cY) L uY fk2 fa2 M (.slice eY es.length dY))) := Y_wr.out.below hb
          have TM_w42 : Hid (Av w42 (fun b => BM ≤ b) (.slice aM R.1.length cM) R.1) := TM_wr.out.below hb
          have M_w42 : Hid (BoxC w42 24 GM [.slice aM R.1.length cM, .int .i64 R.2.1]) := M_wr.out.below hb
          clear TX_wr QX_wr EX_wr X_wr TK_wr K_wr TY_wr QY_wr EY_wr Y_wr TM_wr M_wr HB_wr
          clear hb
          go_wp2_with (first | (refine loadP rfl 43 36 _ rfl GX 2 rfl (resL (.slice aX T.length cX) L uX fk2 fa2 M (.slice eX es.length dX)) uX X_w42.out (by rw [hlX]; exact wide_regs) (fun j v hv => by rw [resL_reg hlX j (by rw [← hlX]; exact (List.getElem?_eq_some_iff.1 hv).1)]; exact hv) ?_) | (refine loadP rfl 43 36 _ rfl GY 2 rfl (resL (.slice aY T.length cY) L uY fk2 fa2 M (.slice eY es.length dY)) uY Y_w42.out (by rw [hlY]; exact wide_regs) (fun j v hv => by rw [resL_reg hlY j (by rw [← hlY]; exact (List.getElem?_eq_some_iff.1 hv).1)]; exact hv) ?_))
          refine (same_any uX uY ts2 w42 QX_w42.out.1 QY_w42.out.1).mono ?_
          rintro e w43 ⟨rfl, hb⟩
          have HB_w43 : Hid (Below w.heap.size w w43) := below_trans HB_w42.out hb HB_w42.out.size
          have TX_w43 : Hid (AvT w43 (fun b => pX ≤ b ∧ b < qX) (.slice aX T.length cX) T) := TX_w42.out.below hb
          have QX_w43 : Hid (AvR w43 (fun b => qX ≤ b) uX ts2) := QX_w42.out.below hb
          have EX_w43 : Hid (AvE w43 (fun b => BX ≤ b ∧ b < pX) (.slice eX es.length dX) es) := EX_w42.out.below hb
          have X_w43 : Hid (BoxC w43 43 GX (resL (.slice aX T.length cX) L uX fk2 fa2 M (.slice eX es.length dX))) := X_w42.out.below hb
          have TK_w43 : Hid (Av w43 (fun b => BK ≤ b) (.slice aK R.1.length cK) R.1) := TK_w42.out.below hb
          have K_w43 : Hid (BoxC w43 24 GK [.slice aK R.1.length cK, .int .i64 R.2.1]) := K_w42.out.below hb
          have TY_w43 : Hid (AvT w43 (fun b => pY ≤ b ∧ b < qY) (.slice aY T.length cY) T) := TY_w42.out.below hb
          have QY_w43 : Hid (AvR w43 (fun b => qY ≤ b) uY ts2) := QY_w42.out.below hb
          have EY_w43 : Hid (AvE w43 (fun b => BY ≤ b ∧ b < pY) (.slice eY es.length dY) es) := EY_w42.out.below hb
          have Y_w43 : Hid (BoxC w43 43 GY (resL (.slice aY T.length cY) L uY fk2 fa2 M (.slice eY es.length dY))) := Y_w42.out.below hb
          have TM_w43 : Hid (Av w43 (fun b => BM ≤ b) (.slice aM R.1.length cM) R.1) := TM_w42.out.below hb
          have M_w43 : Hid (BoxC w43 24 GM [.slice aM R.1.length cM, .int .i64 R.2.1]) := M_w42.out.below hb
          clear TX_w42 QX_w42 EX_w42 X_w42 TK_w42 K_w42 TY_w42 QY_w42 EY_w42 Y_w42 TM_w42 M_w42 HB_w42
          clear hb
          have yX32 : w43.cell? ⟨GX, 32, none⟩ = some (.slice eX es.length dX) := (X_w43.out.cell 32).trans (resL_end hlX 3)
          have yY32 : w43.cell? ⟨GY, 32, none⟩ = some (.slice eY es.length dY) := (Y_w43.out.cell 32).trans (resL_end hlY 3)
          go_wp2_with (fail)
          refine (sameEdit_any _ _ es es w43 EX_w43.out.owns.reads EY_w43.out.owns.reads).mono ?_
          rintro e w44 ⟨rfl, hb⟩
          clear yX32 yY32
          rw [decide_eq_true (rfl : es = es)]
          have HB_w44 : Hid (Below w.heap.size w w44) := below_trans HB_w43.out hb HB_w43.out.size
          have TX_w44 : Hid (AvT w44 (fun b => pX ≤ b ∧ b < qX) (.slice aX T.length cX) T) := TX_w43.out.below hb
          have QX_w44 : Hid (AvR w44 (fun b => qX ≤ b) uX ts2) := QX_w43.out.below hb
          have EX_w44 : Hid (AvE w44 (fun b => BX ≤ b ∧ b < pX) (.slice eX es.length dX) es) := EX_w43.out.below hb
          have X_w44 : Hid (BoxC w44 43 GX (resL (.slice aX T.length cX) L uX fk2 fa2 M (.slice eX es.length dX))) := X_w43.out.below hb
          have TK_w44 : Hid (Av w44 (fun b => BK ≤ b) (.slice aK R.1.length cK) R.1) := TK_w43.out.below hb
          have K_w44 : Hid (BoxC w44 24 GK [.slice aK R.1.length cK, .int .i64 R.2.1]) := K_w43.out.below hb
          have TY_w44 : Hid (AvT w44 (fun b => pY ≤ b ∧ b < qY) (.slice aY T.length cY) T) := TY_w43.out.below hb
          have QY_w44 : Hid (AvR w44 (fun b => qY ≤ b) uY ts2) := QY_w43.out.below hb
          have EY_w44 : Hid (AvE w44 (fun b => BY ≤ b ∧ b < pY) (.slice eY es.length dY) es) := EY_w43.out.below hb
          have Y_w44 : Hid (BoxC w44 43 GY (resL (.slice aY T.length cY) L uY fk2 fa2 M (.slice eY es.length dY))) := Y_w43.out.below hb
          have TM_w44 : Hid (Av w44 (fun b => BM ≤ b) (.slice aM R.1.length cM) R.1) := TM_w43.out.below hb
          have M_w44 : Hid (BoxC w44 24 GM [.slice aM R.1.length cM, .int .i64 R.2.1]) := M_w43.out.below hb
          clear TX_w43 QX_w43 EX_w43 X_w43 TK_w43 K_w43 TY_w43 QY_w43 EY_w43 Y_w43 TM_w43 M_w43 HB_w43
          clear hb
          go_wp2_with (first | (refine loadC rfl 24 _ rfl GK rfl [.slice aK R.1.length cK, .int .i64 R.2.1] K_w44.out wide_line ?_) | (refine loadC rfl 24 _ rfl GM rfl [.slice aM R.1.length cM, .int .i64 R.2.1] M_w44.out wide_line ?_))
          refine (sameLine_yes _ _ R.1 R.2.1 w44 TK_w44.out.1 TM_w44.out.1).mono ?_
          rintro e w45 ⟨rfl, hb⟩
          have HB_w45 : Hid (Below w.heap.size w w45) := below_trans HB_w44.out hb HB_w44.out.size
          have TX_w45 : Hid (AvT w45 (fun b => pX ≤ b ∧ b < qX) (.slice aX T.length cX) T) := TX_w44.out.below hb
          have QX_w45 : Hid (AvR w45 (fun b => qX ≤ b) uX ts2) := QX_w44.out.below hb
          have EX_w45 : Hid (AvE w45 (fun b => BX ≤ b ∧ b < pX) (.slice eX es.length dX) es) := EX_w44.out.below hb
          have X_w45 : Hid (BoxC w45 43 GX (resL (.slice aX T.length cX) L uX fk2 fa2 M (.slice eX es.length dX))) := X_w44.out.below hb
          have TK_w45 : Hid (Av w45 (fun b => BK ≤ b) (.slice aK R.1.length cK) R.1) := TK_w44.out.below hb
          have K_w45 : Hid (BoxC w45 24 GK [.slice aK R.1.length cK, .int .i64 R.2.1]) := K_w44.out.below hb
          have TY_w45 : Hid (AvT w45 (fun b => pY ≤ b ∧ b < qY) (.slice aY T.length cY) T) := TY_w44.out.below hb
          have QY_w45 : Hid (AvR w45 (fun b => qY ≤ b) uY ts2) := QY_w44.out.below hb
          have EY_w45 : Hid (AvE w45 (fun b => BY ≤ b ∧ b < pY) (.slice eY es.length dY) es) := EY_w44.out.below hb
          have Y_w45 : Hid (BoxC w45 43 GY (resL (.slice aY T.length cY) L uY fk2 fa2 M (.slice eY es.length dY))) := Y_w44.out.below hb
          have TM_w45 : Hid (Av w45 (fun b => BM ≤ b) (.slice aM R.1.length cM) R.1) := TM_w44.out.below hb
          have M_w45 : Hid (BoxC w45 24 GM [.slice aM R.1.length cM, .int .i64 R.2.1]) := M_w44.out.below hb
          clear TX_w44 QX_w44 EX_w44 X_w44 TK_w44 K_w44 TY_w44 QY_w44 EY_w44 Y_w44 TM_w44 M_w44 HB_w44
          clear hb
          clear K_w45
          clear M_w45
          clear TK_w45
          clear TM_w45
          have cX0 : w45.cell? ⟨GX, 0, none⟩ = some (.slice aX T.length cX) := (X_w45.out.cell 0).trans resL_0
          go_wp2_with (fail)
          refine (spoil_own _ 0 T 9 w45 TX_w45.out.ownI).mono ?_
          rintro e w46 hsp
          clear cX0
          rcases hsp with ⟨rfl, q, hq⟩ | ⟨rfl, gq, cq, hgk, hI, hgr, hi'⟩
          · skip
            have hb : Below w45.heap.size w45 w46 := by rw [hq]; exact below_drewN (Below.refl _ _) q
            clear hq
            have HB_w46 : Hid (Below w.heap.size w w46) := below_trans HB_w45.out hb HB_w45.out.size
            have TX_w46 : Hid (AvT w46 (fun b => pX ≤ b ∧ b < qX) (.slice aX T.length cX) T) := TX_w45.out.below hb
            have QX_w46 : Hid (AvR w46 (fun b => qX ≤ b) uX ts2) := QX_w45.out.below hb
            have EX_w46 : Hid (AvE w46 (fun b => BX ≤ b ∧ b < pX) (.slice eX es.length dX) es) := EX_w45.out.below hb
            have X_w46 : Hid (BoxC w46 43 GX (resL (.slice aX T.length cX) L uX fk2 fa2 M (.slice eX es.length dX))) := X_w45.out.below hb
            have TY_w46 : Hid (AvT w46 (fun b => pY ≤ b ∧ b < qY) (.slice aY T.length cY) T) := TY_w45.out.below hb
            have QY_w46 : Hid (AvR w46 (fun b => qY ≤ b) uY ts2) := QY_w45.out.below hb
            have EY_w46 : Hid (AvE w46 (fun b => BY ≤ b ∧ b < pY) (.slice eY es.length dY) es) := EY_w45.out.below hb
            have Y_w46 : Hid (BoxC w46 43 GY (resL (.slice aY T.length cY) L uY fk2 fa2 M (.slice eY es.length dY))) := Y_w45.out.below hb
            clear TX_w45 QX_w45 EX_w45 X_w45 TY_w45 QY_w45 EY_w45 Y_w45 HB_w45
            clear hb
            go_wp2_with (first | (refine loadP rfl 43 36 _ rfl GX 2 rfl (resL (.slice aX T.length cX) L uX fk2 fa2 M (.slice eX es.length dX)) uX X_w46.out (by rw [hlX]; exact wide_regs) (fun j v hv => by rw [resL_reg hlX j (by rw [← hlX]; exact (List.getElem?_eq_some_iff.1 hv).1)]; exact hv) ?_) | (refine loadP rfl 43 36 _ rfl GY 2 rfl (resL (.slice aY T.length cY) L uY fk2 fa2 M (.slice eY es.length dY)) uY Y_w46.out (by rw [hlY]; exact wide_regs) (fun j v hv => by rw [resL_reg hlY j (by rw [← hlY]; exact (List.getElem?_eq_some_iff.1 hv).1)]; exact hv) ?_))
            refine (same_any uX uY ts2 w46 QX_w46.out.1 QY_w46.out.1).mono ?_
            rintro e w47 ⟨rfl, hb⟩
            have HB_w47 : Hid (Below w.heap.size w w47) := below_trans HB_w46.out hb HB_w46.out.size
            have TX_w47 : Hid (AvT w47 (fun b => pX ≤ b ∧ b < qX) (.slice aX T.length cX) T) := TX_w46.out.below hb
            have QX_w47 : Hid (AvR w47 (fun b => qX ≤ b) uX ts2) := QX_w46.out.below hb
            have EX_w47 : Hid (AvE w47 (fun b => BX ≤ b ∧ b < pX) (.slice eX es.length dX) es) := EX_w46.out.below hb
            have X_w47 : Hid (BoxC w47 43 GX (resL (.slice aX T.length cX) L uX fk2 fa2 M (.slice eX es.length dX))) := X_w46.out.below hb
            have TY_w47 : Hid (AvT w47 (fun b => pY ≤ b ∧ b < qY) (.slice aY T.length cY) T) := TY_w46.out.below hb
            have QY_w47 : Hid (AvR w47 (fun b => qY ≤ b) uY ts2) := QY_w46.out.below hb
            have EY_w47 : Hid (AvE w47 (fun b => BY ≤ b ∧ b < pY) (.slice eY es.length dY) es) := EY_w46.out.below hb
            have Y_w47 : Hid (BoxC w47 43 GY (resL (.slice aY T.length cY) L uY fk2 fa2 M (.slice eY es.length dY))) := Y_w46.out.below hb
            clear TX_w46 QX_w46 EX_w46 X_w46 TY_w46 QY_w46 EY_w46 Y_w46 HB_w46
            clear hb
            have yX32 : w47.cell? ⟨GX, 32, none⟩ = some (.slice eX es.length dX) := (X_w47.out.cell 32).trans (resL_end hlX 3)
            have yY32 : w47.cell? ⟨GY, 32, none⟩ = some (.slice eY es.length dY) := (Y_w47.out.cell 32).trans (resL_end hlY 3)
            go_wp2_with (fail)
            refine (sameEdit_any _ _ es es w47 EX_w47.out.owns.reads EY_w47.out.owns.reads).mono ?_
            rintro e w48 ⟨rfl, hb⟩
            clear yX32 yY32
            rw [decide_eq_true (rfl : es = es)]
            have HB_w48 : Hid (Below w.heap.size w w48) := below_trans HB_w47.out hb HB_w47.out.size
            have TX_w48 : Hid (AvT w48 (fun b => pX ≤ b ∧ b < qX) (.slice aX T.length cX) T) := TX_w47.out.below hb
            have QX_w48 : Hid (AvR w48 (fun b => qX ≤ b) uX ts2) := QX_w47.out.below hb
            have EX_w48 : Hid (AvE w48 (fun b => BX ≤ b ∧ b < pX) (.slice eX es.length dX) es) := EX_w47.out.below hb
            have X_w48 : Hid (BoxC w48 43 GX (resL (.slice aX T.length cX) L uX fk2 fa2 M (.slice eX es.length dX))) := X_w47.out.below hb
            have TY_w48 : Hid (AvT w48 (fun b => pY ≤ b ∧ b < qY) (.slice aY T.length cY) T) := TY_w47.out.below hb
            have QY_w48 : Hid (AvR w48 (fun b => qY ≤ b) uY ts2) := QY_w47.out.below hb
            have EY_w48 : Hid (AvE w48 (fun b => BY ≤ b ∧ b < pY) (.slice eY es.length dY) es) := EY_w47.out.below hb
            have Y_w48 : Hid (BoxC w48 43 GY (resL (.slice aY T.length cY) L uY fk2 fa2 M (.slice eY es.length dY))) := Y_w47.out.below hb
            clear TX_w47 QX_w47 EX_w47 X_w47 TY_w47 QY_w47 EY_w47 Y_w47 HB_w47
            clear hb
            go_wp2_with (fail)
            go_ret
            exact ⟨rfl, HB_w48.out⟩
          · skip
            have hP := (TX_w45.out.lt gq hgk).2
            have hNX := HBT.out gq hgk
            have hwg : w.heap.size ≤ gq := by have := HBX.out; omega
            have HB_w46 : Hid (Below w.heap.size w w46) := HB_w45.out.grown hgr HB_w45.out.size (fun j hj => by cases hj; exact hwg)
            have X_w46 : Hid (BoxC w46 43 GX (resL (.slice aX T.length cX) L uX fk2 fa2 M (.slice eX es.length dX))) := X_w45.out.kept hgr (fun e => hI.neB X_w45.out (by decide) (Option.some.inj e).symm)
            have Y_w46 : Hid (BoxC w46 43 GY (resL (.slice aY T.length cY) L uY fk2 fa2 M (.slice eY es.length dY))) := Y_w45.out.kept hgr (fun e => hI.neB Y_w45.out (by decide) (Option.some.inj e).symm)
            have QX_w46 : Hid (AvR w46 (fun b => qX ≤ b) uX ts2) := QX_w45.out.stored hgr (by have h1 := HBX.out; have h2 := HBY.out; have h3 := HXY.out; show ¬ qX ≤ gq; omega)
            have EX_w46 : Hid (AvE w46 (fun b => BX ≤ b ∧ b < pX) (.slice eX es.length dX) es) := EX_w45.out.stored hgr (by have h1 := HBX.out; have h2 := HBY.out; have h3 := HXY.out; show ¬ (BX ≤ gq ∧ gq < pX); omega)
            have QY_w46 : Hid (AvR w46 (fun b => qY ≤ b) uY ts2) := QY_w45.out.stored hgr (by have h1 := HBX.out; have h2 := HBY.out; have h3 := HXY.out; show ¬ qY ≤ gq; omega)
            have EY_w46 : Hid (AvE w46 (fun b => BY ≤ b ∧ b < pY) (.slice eY es.length dY) es) := EY_w45.out.stored hgr (by have h1 := HBX.out; have h2 := HBY.out; have h3 := HXY.out; show ¬ (BY ≤ gq ∧ gq < pY); omega)
            clear TX_w45 QX_w45 EX_w45 X_w45 TY_w45 QY_w45 EY_w45 Y_w45 HB_w45 hI hgr hi' hP hNX hwg hgk
            go_wp2_with (first | (refine loadP rfl 43 36 _ rfl GX 2 rfl (resL (.slice aX T.length cX) L uX fk2 fa2 M (.slice eX es.length dX)) uX X_w46.out (by rw [hlX]; exact wide_regs) (fun j v hv => by rw [resL_reg hlX j (by rw [← hlX]; exact (List.getElem?_eq_some_iff.1 hv).1)]; exact hv) ?_) | (refine loadP rfl 43 36 _ rfl GY 2 rfl (resL (.slice aY T.length cY) L uY fk2 fa2 M (.slice eY es.length dY)) uY Y_w46.out (by rw [hlY]; exact wide_regs) (fun j v hv => by rw [resL_reg hlY j (by rw [← hlY]; exact (List.getElem?_eq_some_iff.1 hv).1)]; exact hv) ?_))
            refine (same_any uX uY ts2 w46 QX_w46.out.1 QY_w46.out.1).mono ?_
            rintro e w52 ⟨rfl, hb⟩
            have HB_w52 : Hid (Below w.heap.size w w52) := below_trans HB_w46.out hb HB_w46.out.size
            have QX_w52 : Hid (AvR w52 (fun b => qX ≤ b) uX ts2) := QX_w46.out.below hb
            have EX_w52 : Hid (AvE w52 (fun b => BX ≤ b ∧ b < pX) (.slice eX es.length dX) es) := EX_w46.out.below hb
            have X_w52 : Hid (BoxC w52 43 GX (resL (.slice aX T.length cX) L uX fk2 fa2 M (.slice eX es.length dX))) := X_w46.out.below hb
            have QY_w52 : Hid (AvR w52 (fun b => qY ≤ b) uY ts2) := QY_w46.out.below hb
            have EY_w52 : Hid (AvE w52 (fun b => BY ≤ b ∧ b < pY) (.slice eY es.length dY) es) := EY_w46.out.below hb
            have Y_w52 : Hid (BoxC w52 43 GY (resL (.slice aY T.length cY) L uY fk2 fa2 M (.slice eY es.length dY))) := Y_w46.out.below hb
            clear QX_w46 EX_w46 X_w46 QY_w46 EY_w46 Y_w46 HB_w46
            clear hb
            have yX32 : w52.cell? ⟨GX, 32, none⟩ = some (.slice eX es.length dX) := (X_w52.out.cell 32).trans (resL_end hlX 3)
            have yY32 : w52.cell? ⟨GY, 32, none⟩ = some (.slice eY es.length dY) := (Y_w52.out.cell 32).trans (resL_end hlY 3)
            go_wp2_with (fail)
            refine (sameEdit_any _ _ es es w52 EX_w52.out.owns.reads EY_w52.out.owns.reads).mono ?_
            rintro e w53 ⟨rfl, hb⟩
            clear yX32 yY32
            rw [decide_eq_true (rfl : es = es)]
            have HB_w53 : Hid (Below w.heap.size w w53) := below_trans HB_w52.out hb HB_w52.out.size
            have QX_w53 : Hid (AvR w53 (fun b => qX ≤ b) uX ts2) := QX_w52.out.below hb
            have EX_w53 : Hid (AvE w53 (fun b => BX ≤ b ∧ b < pX) (.slice eX es.length dX) es) := EX_w52.out.below hb
            have X_w53 : Hid (BoxC w53 43 GX (resL (.slice aX T.length cX) L uX fk2 fa2 M (.slice eX es.length dX))) := X_w52.out.below hb
            have QY_w53 : Hid (AvR w53 (fun b => qY ≤ b) uY ts2) := QY_w52.out.below hb
            have EY_w53 : Hid (AvE w53 (fun b => BY ≤ b ∧ b < pY) (.slice eY es.length dY) es) := EY_w52.out.below hb
            have Y_w53 : Hid (BoxC w53 43 GY (resL (.slice aY T.length cY) L uY fk2 fa2 M (.slice eY es.length dY))) := Y_w52.out.below hb
            clear QX_w52 EX_w52 X_w52 QY_w52 EY_w52 Y_w52 HB_w52
            clear hb
            go_wp2_with (fail)
            go_ret
            exact ⟨rfl, HB_w53.out⟩
end Go.Proofs.Ytpgjaoemkadenab.Seek


/- EditOwn: whatever comes in, a line and registers that are handed in stay, with the memory behind them, and what comes of a command is new memory. -/
set_option linter.unusedVariables false
set_option linter.unusedSimpArgs false
set_option maxRecDepth 100000
namespace Go.Proofs.Ytpgjaoemkadenab.editOwn
open Go.ChangeShapes Go.WideShapes Go.ChangeAt Go.RowKit
open Seek

theorem lifted (os : Os) (started : os.Started) (H : Type) (enc : TypeId × Value → H) :
    ReturnsInHanded {} Try.checked os 4 .any (Rows.editOwnSpec.pre6 enc Try.prog Try.f4 Rows.editOwnRow.domain false) (Rows.editOwnSpec.post enc Try.prog Try.f4 false true false false) := by
  refine returnsInHanded_of_change_sized (C := Try.checked) own started (by kernel_rfl) Try.func4
    (ChangeSpec.witness6 (enc := enc) (C := Try.checked) false ⟨#[], #[.agg #[.slice none 0 0, .int .i64 0], .agg #[.slice none 0 0, .slice none 0 0, .slice none 0 0, .slice none 0 0, .slice none 0 0, .slice none 0 0, .slice none 0 0, .slice none 0 0, .slice none 0 0, .slice none 0 0, .slice none 0 0, .slice none 0 0, .slice none 0 0, .slice none 0 0, .slice none 0 0, .slice none 0 0, .slice none 0 0, .slice none 0 0, .slice none 0 0, .slice none 0 0, .slice none 0 0, .slice none 0 0, .slice none 0 0, .slice none 0 0, .slice none 0 0, .slice none 0 0, .slice none 0 0], .agg #[.int .i64 0, .int .i64 0, .int .i64 0, .int .i64 0, .int .i64 0], .int .i64 0], []⟩ 8 (by kernel_rfl) (by kernel_rfl) (by kernel_rfl) (by kernel_rfl)) ?_
  intro W base args ds gs before hval0 hW _ hsz0 _
  have hsz : (DataW.weightsEach Try.prog (Try.f4.params.toList ++ Rows.editOwnSpec.plain.varTypes Try.prog) (ds ++ gs)).all (· ≤ reachBytes) = true := hsz0
  clear hsz0
  have hval : ∀ (j : Nat) t v, Try.f4.params[j]? = some t → args[j]? = some v → Value.okWide Try.prog W .any base t v := hval0
  have hW' := hW
  obtain ⟨p, q, hA0, hV, rfl, _, _⟩ := hW
  have hA : DataW.TrodAll enc Try.prog W 0 (fun _ => true) true Try.f4.params.toList args.toList ds p := hA0
  rw [Try.params4] at hA hval hsz
  obtain ⟨v0, vs0, d0, ds0, p0, q0, hargs, rfl, rfl, h0, r0⟩ := trodAll_cons hA
  obtain ⟨v1, vs1, d1, ds1, p1, q1, rfl, rfl, rfl, h1, r1⟩ := trodAll_cons r0
  obtain ⟨v2, vs2, d2, ds2, p2, q2, rfl, rfl, rfl, h2, r2⟩ := trodAll_cons r1
  obtain ⟨v3, vs3, d3, ds3, p3, q3, rfl, rfl, rfl, h3, r3⟩ := trodAll_cons r2
  obtain ⟨rfl, rfl, rfl⟩ := trodAll_nil r3
  obtain rfl : args = #[v0, v1, v2, v3] := by cases args; simp_all
  obtain ⟨rfl, rfl⟩ := trodVars_none hV
  obtain ⟨x2a, x2b, x2c, x2d, x2e, rfl, rfl⟩ := open_cmd (hval 2 38 v2 rfl rfl) h2
  obtain ⟨x3, rfl, rfl, rfl, wx3⟩ := open_int Try.underlying3 (hval 3 3 v3 rfl rfl) h3
  clear hA0 hval0
  simp only [List.append_nil, List.nil_append] at hW'
  have hlt0 : ∀ y ∈ p0, y.block < W.heap.size := fun y hy => by simpa using hW'.lt y (List.mem_append_left _ hy)
  have hargs0 : ∀ (W' : World), Below W.heap.size W W' → DataW.Trod enc Try.prog W' 0 (fun b => decide (b < W.heap.size)) true 24 v0 d0 p0 :=
    fun W' hn => Below.trod laidOut (by kernel_rfl) (of_decide_eq_true (by kernel_rfl)) h0 hn hlt0
  have hw0 : ∀ n ∈ d0.weights Try.prog 24, n ≤ reachBytes := fun n hn => of_decide_eq_true (List.all_eq_true.1 hsz _ (DataW.weights_mem_each (j := 0) rfl rfl n hn))
  obtain ⟨a0, cap0, zs0, k0, rfl, hr0, hm0⟩ := open_line (hval 0 24 v0 rfl rfl) h0 hlt0 hw0
  have hlt1 : ∀ y ∈ p1, y.block < W.heap.size := fun y hy => by simpa using hW'.lt y (List.mem_append_right _ hy)
  have hargs1 : ∀ (W' : World), Below W.heap.size W W' → DataW.Trod enc Try.prog W' 0 (fun b => decide (b < W.heap.size)) true 36 v1 d1 p1 :=
    fun W' hn => Below.trod laidOut (by kernel_rfl) (of_decide_eq_true (by kernel_rfl)) h1 hn hlt1
  have hw1 : ∀ n ∈ d1.weights Try.prog 36, n ≤ reachBytes := fun n hn => of_decide_eq_true (List.all_eq_true.1 hsz _ (DataW.weights_mem_each (j := 1) rfl rfl n hn))
  obtain ⟨us1, ts1, rfl, hR1⟩ := open_regs (hval 1 36 v1 rfl rfl) h1 hlt1 hw1
  have hargs2 : ∀ (W' : World), Below W.heap.size W W' → DataW.Trod enc Try.prog W' 0 (fun b => decide (b < W.heap.size)) true 38 (.agg #[.int .i64 x2a, .int .i64 x2b, .int .i64 x2c, .int .i64 x2d, .int .i64 x2e]) d2 [] :=
    fun W' hn => Below.trod laidOut (by kernel_rfl) (of_decide_eq_true (by kernel_rfl)) h2 hn (fun y hy => by cases hy)
  refine (ownW a0 cap0 zs0 k0 us1 ts1 x2a x2b x2c x2d x2e x3 W hr0 hm0 hR1).mono fun e W' ⟨he, hb⟩ => ?_
  subst he
  exact ⟨_, rfl, _, _, _, [], p0 ++ p1, [], hW', trodAll_cons_mk (shut_bool Try.underlying4 _) trodAll_mk0,
    by
      have := trodAll_cons_mk (hargs0 _ hb) (trodAll_cons_mk (hargs1 _ hb) (trodAll_cons_mk (hargs2 _ hb) (trodAll_cons_mk (shut_int (enc := enc) (w := W') (base := 0) (spare := fun b => decide (b < W.heap.size)) (held := true) Try.underlying3 wx3) trodAll_mk0)))
      simp only [List.append_nil, List.nil_append] at this
      exact this,
    rfl, hb.frame _, fun h => by cases h⟩

theorem over : Rows.EditOwnSaid :=
  OpenClaim.holds_of_wide 4 Try.f4 rfl rfl rfl rfl rfl rfl rfl ⟨rfl, rfl, rfl, rfl, rfl⟩ rfl rfl rfl rfl rfl (by kernel_rfl) Try.func4 (by kernel_rfl)
    (of_decide_eq_true (by kernel_rfl)) (by unfold Func.isWrapper; first | (rw [if_pos (by decide +kernel)]; kernel_rfl) | (rw [if_neg (by decide +kernel)]; exact ⟨rfl, rfl⟩))
    (fun os started H enc _ => lifted os started H enc)
end Go.Proofs.Ytpgjaoemkadenab.editOwn
namespace Go.Proofs.Ytpgjaoemkadenab
theorem editOwn_holds : Rows.EditOwnSaid := editOwn.over
#print axioms editOwn_holds
end Go.Proofs.Ytpgjaoemkadenab
