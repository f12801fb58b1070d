/- The contract of edit.begun. -/
import Derived.Test.YtpgjaoemkadenabM31
import Derived.Deep.RegionHeld3
set_option linter.unusedVariables false
set_option linter.unusedSimpArgs false
set_option maxRecDepth 100000
namespace Go.Proofs.Ytpgjaoemkadenab.Seek
open Go.RowKit Plain


set_option maxHeartbeats 2000000 in
theorem begun_i (a : Option Addr) (cap : Nat) (vs : List Value) (R : Res) (w : World) (P : Nat → Prop) (hP : ∀ b, w.heap.size ≤ b → P b) (h : Av w P (.slice a R.text.length cap) R.text) (hr : AvR w P vs R.regs) :
    Calls Try.prog 41 #[.agg (resL (.slice a R.text.length cap) R.loc vs R.fk R.fa R.mode (.slice none 0 0)).toArray, .int .i64 105] w fun q w' => Below w.heap.size w w' ∧ ∃ x, q = .returned x ∧ ResAv w' P x { R with loc := R.loc, mode := 1 } := by
  have hvs : vs.length = 27 := hr.len
  have HT : Hid (∀ wx, Below w.heap.size w wx → Av wx (fun b => P b ∧ b < w.heap.size) (.slice a R.text.length cap) R.text) := fun wx hx => (h.both (av_arg h.1)).below hx
  have HRg : Hid (∀ wx, Below w.heap.size w wx → AvR wx (fun b => P b ∧ b < w.heap.size) vs R.regs) := fun wx hx => (hr.both (avR_arg hr.1)).below hx
  have HP : Hid (∀ b, w.heap.size ≤ b → P b) := hP
  have HS : Hid (AllSl vs) := hr.1.1
  clear h hr hP
  go_enter Try.func41, Try.ntmps41
  go_wp2_with (refine boxC rfl 43 _ rfl (resL (.slice a R.text.length cap) R.loc vs R.fk R.fa R.mode (.slice none 0 0)) rfl ?_)
  intro w1 ha hb
  have HB_w1 : Hid (Below w.heap.size w w1) := hb
  have A_w1 : Hid (BoxC w1 43 w.heap.size (resL (.slice a R.text.length cap) R.loc vs R.fk R.fa R.mode (.slice none 0 0))) := ha
  clear ha hb
  go_wp2_with (refine allocC rfl 43 rfl nulL nul_zero ?_)
  intro w2 ha hb
  have HLGZ : Hid (w.heap.size ≤ w1.heap.size ∧ w.heap.size < w1.heap.size) := ⟨HB_w1.out.size, A_w1.out.lt⟩
  have HB_w2 : Hid (Below w.heap.size w w2) := below_trans HB_w1.out hb HB_w1.out.size
  have A_w2 : Hid (BoxC w2 43 w.heap.size (resL (.slice a R.text.length cap) R.loc vs R.fk R.fa R.mode (.slice none 0 0))) := A_w1.out.below hb
  clear A_w1 HB_w1
  have Z_w2 : Hid (BoxC w2 43 w1.heap.size nulL) := ha
  clear ha hb
  generalize w1.heap.size = GZ at *
  have HS3 : Hid ((fun wx => BoxC wx 43 w.heap.size (resL (.slice a R.text.length cap) R.loc vs R.fk R.fa R.mode (.slice none 0 0)) ∧ BoxC wx 43 GZ nulL ∧ Below w.heap.size w wx) w2.drew) := ⟨A_w2.out, Z_w2.out, below_drewN HB_w2.out 1⟩
  go_wp2_with (fail)
  refine wp_region_held_drew (S := (fun wx => BoxC wx 43 w.heap.size (resL (.slice a R.text.length cap) R.loc vs R.fk R.fa R.mode (.slice none 0 0)) ∧ BoxC wx 43 GZ nulL ∧ Below w.heap.size w wx)) (by kernel_rfl) HS3.out (fun hHeld => ?_)
  refine wpAnyH_take (i := 0) (oi := ⟨some 7, .load 43 (.tmp 2), 43, _, _, none⟩) (v := .agg (resL (.slice a R.text.length cap) R.loc vs R.fk R.fa R.mode (.slice none 0 0)).toArray) rfl (by kernel_rfl) (by kernel_rfl) (by kernel_rfl) (fun _ _ _ h => h) (Or.inl ⟨by rfl, fun wx hS => exec_loadC 43 _ rfl w.heap.size rfl (resL (.slice a R.text.length cap) R.loc vs R.fk R.fa R.mode (.slice none 0 0)) hS.1 (by rw [resL_len (by assumption)]; exact wide_res)⟩) hHeld ?_
  (try simp only [Act.put, List.setIfInBounds_toArray, List.set_cons_zero, List.set_cons_succ])
  refine wpAnyH_take (i := 1) (oi := ⟨some 8, .fieldAddr 43 (.tmp 2) 0, 0, _, _, none⟩) (v := .pointer (some ⟨w.heap.size, 0, none⟩)) rfl (by kernel_rfl) (by kernel_rfl) (by kernel_rfl) (fun _ _ _ h => h) (Or.inl ⟨by rfl, fun wx hS => by unfold execOp; go_simp⟩) hHeld ?_
  (try simp only [Act.put, List.setIfInBounds_toArray, List.set_cons_zero, List.set_cons_succ])
  refine wpAnyH_take (i := 2) (oi := ⟨some 9, .fieldAddr 24 (.tmp 8) 0, 0, _, _, none⟩) (v := .pointer (some ⟨w.heap.size, 0, none⟩)) rfl (by kernel_rfl) (by kernel_rfl) (by kernel_rfl) (fun _ _ _ h => h) (Or.inl ⟨by rfl, fun wx hS => by unfold execOp; go_simp⟩) hHeld ?_
  (try simp only [Act.put, List.setIfInBounds_toArray, List.set_cons_zero, List.set_cons_succ])
  refine wpAnyH_take (i := 3) (oi := ⟨some 10, .load 22 (.tmp 9), 22, _, _, none⟩) (v := .slice a R.text.length cap) rfl (by kernel_rfl) (by kernel_rfl) (by kernel_rfl) (fun _ _ _ h => h) (Or.inl ⟨by rfl, fun wx hS => exec_load1 43 22 _ rfl w.heap.size 0 rfl (resL (.slice a R.text.length cap) R.loc vs R.fk R.fa R.mode (.slice none 0 0)) _ hS.1 resL_0 (fun w => by go_simp)⟩) hHeld ?_
  (try simp only [Act.put, List.setIfInBounds_toArray, List.set_cons_zero, List.set_cons_succ])
  refine wpAnyH_ready (rs := [4]) (by kernel_rfl) (by simp) ?_
  refine AllReadyH.cons (o := ⟨some 5, .alloc 43, 0, _, _, none⟩) rfl (fun K1 hK1 => ?_) AllReadyH.nil
  refine step_allocC rfl 43 rfl nulL nul_zero ?_
  intro w5 hn5 hb5
  have hA5 := hHeld.1.below hb5
  have hZ5 := hHeld.2.1.below hb5
  have hB5 := below_trans hHeld.2.2 hb5 hHeld.2.2.size
  obtain ⟨GN, hGN⟩ : ∃ GN, GN = w2.drew.heap.size := ⟨_, rfl⟩
  rw [← hGN] at hn5 ⊢
  have HLGN : Hid (w.heap.size < GN ∧ GZ < GN) := by rw [hGN]; exact ⟨hHeld.1.lt, hHeld.2.1.lt⟩
  clear hGN hb5
  refine hK1.out _ _ ⟨hA5, hZ5, hB5⟩ (fun hHeld => ?_)
  clear hK1 K1
  (try simp only [Act.put, List.setIfInBounds_toArray, List.set_cons_zero, List.set_cons_succ])
  refine wpAnyH_ready (rs := [5]) (by kernel_rfl) (by simp) ?_
  refine AllReadyH.cons (o := ⟨none, .store 43 (.tmp 5) (.tmp 7), 0, _, _, none⟩) rfl (fun K1 hK1 => ?_) AllReadyH.nil
  refine step_storeC rfl 43 (.tmp 5) (.tmp 7) rfl GN rfl nulL (resL (.slice a R.text.length cap) R.loc vs R.fk R.fa R.mode (.slice none 0 0)) rfl hn5 (by rw [resL_len (by assumption)]; exact wide_res) (resL_one HS.out rfl rfl) (by rw [nul_len, resL_len (by assumption)]) ?_
  intro w6 hn6 hg6
  have hA6 := hA5.kept hg6 (fun e => by have := HLGN.out; have := Option.some.inj e; omega)
  have hZ6 := hZ5.kept hg6 (fun e => by have := HLGN.out; have := Option.some.inj e; omega)
  have hB6 := hB5.grown hg6 hB5.size (fun j hj => by cases hj; have := HLGN.out; omega)
  refine hK1.out _ _ ⟨hA6, hZ6, hB6⟩ (fun hHeld => ?_)
  clear hK1 K1
  (try simp only [Act.put, List.setIfInBounds_toArray, List.set_cons_zero, List.set_cons_succ])
  refine wpAnyH_take (i := 6) (oi := ⟨some 6, .assign (.tmp 10), 22, _, _, none⟩) (v := .slice a R.text.length cap) rfl (by kernel_rfl) (by kernel_rfl) (by kernel_rfl) (fun _ _ _ h => h) (Or.inl ⟨by rfl, fun wx hS => rfl⟩) hHeld ?_
  (try simp only [Act.put, List.setIfInBounds_toArray, List.set_cons_zero, List.set_cons_succ])
  refine wpAnyH_done (by kernel_rfl) ?_ _
  (try simp only [Act.put, List.setIfInBounds_toArray, List.set_cons_zero, List.set_cons_succ])
  have HB_w6 : Hid (Below w.heap.size w w6) := hB6
  have A_w6 : Hid (BoxC w6 43 w.heap.size (resL (.slice a R.text.length cap) R.loc vs R.fk R.fa R.mode (.slice none 0 0))) := hA6
  have Z_w6 : Hid (BoxC w6 43 GZ nulL) := hZ6
  have N_w6 : Hid (BoxC w6 43 GN (resL (.slice a R.text.length cap) R.loc vs R.fk R.fa R.mode (.slice none 0 0))) := hn6
  clear hHeld hA5 hZ5 hB5 hn5 hA6 hZ6 hB6 hn6 hg6 HS3 A_w2 Z_w2 HB_w2
  have HLGN2 : Hid (w.heap.size ≤ GN ∧ w.heap.size < GN ∧ GZ < GN) := ⟨Nat.le_of_lt HLGN.out.1, HLGN.out⟩
  clear HLGN
  have HLGN : Hid (w.heap.size ≤ GN ∧ w.heap.size < GN ∧ GZ < GN) := HLGN2
  clear HLGN2
  go_wp2_with (refine storeO rfl 43 3 _ _ rfl GN 31 rfl (resL (.slice a R.text.length cap) R.loc vs R.fk R.fa R.mode (.slice none 0 0)) (resL (.slice a R.text.length cap) R.loc vs R.fk R.fa 1 (.slice none 0 0)) (.int .i64 1) (.int .i64 R.mode) rfl N_w6.out rfl (fun xs hx => by cases hx) (resL_end (by assumption) 2) one_int (resL_mode _ (by assumption)) ?_)
  intro w7 hz hg
  have HB_w7 : Hid (Below w.heap.size w w7) := HB_w6.out.grown hg HB_w6.out.size (fun j hj => by cases hj; exact (by have := HLGN.out; omega))
  have A_w7 : Hid (BoxC w7 43 w.heap.size (resL (.slice a R.text.length cap) R.loc vs R.fk R.fa R.mode (.slice none 0 0))) := A_w6.out.kept hg (fun e => by have := HLGN.out; have := Option.some.inj e; omega)
  have Z_w7 : Hid (BoxC w7 43 GZ nulL) := Z_w6.out.kept hg (fun e => by have := HLGN.out; have := HLGZ.out; have := Option.some.inj e; omega)
  clear A_w6 Z_w6 N_w6 HB_w6
  have N_w7 : Hid (BoxC w7 43 GN (resL (.slice a R.text.length cap) R.loc vs R.fk R.fa 1 (.slice none 0 0))) := hz
  clear hz hg
  go_wp2_with (first | (refine loadC rfl 43 _ rfl GN rfl (resL (.slice a R.text.length cap) R.loc vs R.fk R.fa 1 (.slice none 0 0)) N_w7.out (by rw [resL_len (by assumption)]; exact wide_res) ?_) | (refine storeC rfl 43 _ _ rfl GZ rfl nulL (resL (.slice a R.text.length cap) R.loc vs R.fk R.fa 1 (.slice none 0 0)) rfl Z_w7.out (by rw [resL_len (by assumption)]; exact wide_res) (resL_one HS.out rfl rfl) (by rw [nul_len, resL_len (by assumption)]) ?_))
  intro w8 hz hg
  have HB_w8 : Hid (Below w.heap.size w w8) := HB_w7.out.grown hg HB_w7.out.size (fun j hj => by cases hj; exact (by have := HLGZ.out; omega))
  have A_w8 : Hid (BoxC w8 43 w.heap.size (resL (.slice a R.text.length cap) R.loc vs R.fk R.fa R.mode (.slice none 0 0))) := A_w7.out.kept hg (fun e => by have := HLGZ.out; have := Option.some.inj e; omega)
  have N_w8 : Hid (BoxC w8 43 GN (resL (.slice a R.text.length cap) R.loc vs R.fk R.fa 1 (.slice none 0 0))) := N_w7.out.kept hg (fun e => by have := HLGZ.out; have := HLGN.out; have := Option.some.inj e; omega)
  clear A_w7 Z_w7 N_w7 HB_w7
  have Z_w8 : Hid (BoxC w8 43 GZ (resL (.slice a R.text.length cap) R.loc vs R.fk R.fa 1 (.slice none 0 0))) := hz
  clear hz hg
  go_wp2_with (fail)
  (try simp only [Exit.inBlock, Exit.then])
  refine bodyPost_ret (ret_box1 rfl _ _ GZ (resL (.slice a R.text.length cap) R.loc vs R.fk R.fa 1 (.slice none 0 0)) rfl Z_w8.out (by rw [resL_len (by assumption)]; exact wide_res)) rfl ?_
  exact ⟨HB_w8.out, _, rfl, ⟨a, cap, vs, rfl, ((HT.out _ HB_w8.out).weak (fun b hb => hb.1)), ((HRg.out _ HB_w8.out).weak (fun b hb => hb.1))⟩⟩

set_option maxHeartbeats 2000000 in
theorem begun_gI (a : Option Addr) (cap : Nat) (vs : List Value) (R : Res) (w : World) (P : Nat → Prop) (hP : ∀ b, w.heap.size ≤ b → P b) (h : Av w P (.slice a R.text.length cap) R.text) (hr : AvR w P vs R.regs) (X : Int × Bool × Int) (hX : goes R.text R.loc 0 94 0 false = X) :
    Calls Try.prog 41 #[.agg (resL (.slice a R.text.length cap) R.loc vs R.fk R.fa R.mode (.slice none 0 0)).toArray, .int .i64 73] w fun q w' => Below w.heap.size w w' ∧ ∃ x, q = .returned x ∧ ResAv w' P x { R with loc := X.1, mode := 1 } := by
  have HX : Hid (goes R.text R.loc 0 94 0 false = X) := hX
  clear hX
  have hvs : vs.length = 27 := hr.len
  have HT : Hid (∀ wx, Below w.heap.size w wx → Av wx (fun b => P b ∧ b < w.heap.size) (.slice a R.text.length cap) R.text) := fun wx hx => (h.both (av_arg h.1)).below hx
  have HRg : Hid (∀ wx, Below w.heap.size w wx → AvR wx (fun b => P b ∧ b < w.heap.size) vs R.regs) := fun wx hx => (hr.both (avR_arg hr.1)).below hx
  have HP : Hid (∀ b, w.heap.size ≤ b → P b) := hP
  have HS : Hid (AllSl vs) := hr.1.1
  clear h hr hP
  go_enter Try.func41, Try.ntmps41
  go_wp2_with (refine boxC rfl 43 _ rfl (resL (.slice a R.text.length cap) R.loc vs R.fk R.fa R.mode (.slice none 0 0)) rfl ?_)
  intro w1 ha hb
  have HB_w1 : Hid (Below w.heap.size w w1) := hb
  have A_w1 : Hid (BoxC w1 43 w.heap.size (resL (.slice a R.text.length cap) R.loc vs R.fk R.fa R.mode (.slice none 0 0))) := ha
  clear ha hb
  go_wp2_with (refine allocC rfl 43 rfl nulL nul_zero ?_)
  intro w2 ha hb
  have HLGZ : Hid (w.heap.size ≤ w1.heap.size ∧ w.heap.size < w1.heap.size) := ⟨HB_w1.out.size, A_w1.out.lt⟩
  have HB_w2 : Hid (Below w.heap.size w w2) := below_trans HB_w1.out hb HB_w1.out.size
  have A_w2 : Hid (BoxC w2 43 w.heap.size (resL (.slice a R.text.length cap) R.loc vs R.fk R.fa R.mode (.slice none 0 0))) := A_w1.out.below hb
  clear A_w1 HB_w1
  have Z_w2 : Hid (BoxC w2 43 w1.heap.size nulL) := ha
  clear ha hb
  generalize w1.heap.size = GZ at *
  have HS3 : Hid ((fun wx => BoxC wx 43 w.heap.size (resL (.slice a R.text.length cap) R.loc vs R.fk R.fa R.mode (.slice none 0 0)) ∧ BoxC wx 43 GZ nulL ∧ Below w.heap.size w wx) w2.drew) := ⟨A_w2.out, Z_w2.out, below_drewN HB_w2.out 1⟩
  go_wp2_with (fail)
  refine wp_region_held_drew (S := (fun wx => BoxC wx 43 w.heap.size (resL (.slice a R.text.length cap) R.loc vs R.fk R.fa R.mode (.slice none 0 0)) ∧ BoxC wx 43 GZ nulL ∧ Below w.heap.size w wx)) (by kernel_rfl) HS3.out (fun hHeld => ?_)
  refine wpAnyH_take (i := 0) (oi := ⟨some 7, .load 43 (.tmp 2), 43, _, _, none⟩) (v := .agg (resL (.slice a R.text.length cap) R.loc vs R.fk R.fa R.mode (.slice none 0 0)).toArray) rfl (by kernel_rfl) (by kernel_rfl) (by kernel_rfl) (fun _ _ _ h => h) (Or.inl ⟨by rfl, fun wx hS => exec_loadC 43 _ rfl w.heap.size rfl (resL (.slice a R.text.length cap) R.loc vs R.fk R.fa R.mode (.slice none 0 0)) hS.1 (by rw [resL_len (by assumption)]; exact wide_res)⟩) hHeld ?_
  (try simp only [Act.put, List.setIfInBounds_toArray, List.set_cons_zero, List.set_cons_succ])
  refine wpAnyH_take (i := 1) (oi := ⟨some 8, .fieldAddr 43 (.tmp 2) 0, 0, _, _, none⟩) (v := .pointer (some ⟨w.heap.size, 0, none⟩)) rfl (by kernel_rfl) (by kernel_rfl) (by kernel_rfl) (fun _ _ _ h => h) (Or.inl ⟨by rfl, fun wx hS => by unfold execOp; go_simp⟩) hHeld ?_
  (try simp only [Act.put, List.setIfInBounds_toArray, List.set_cons_zero, List.set_cons_succ])
  refine wpAnyH_take (i := 2) (oi := ⟨some 9, .fieldAddr 24 (.tmp 8) 0, 0, _, _, none⟩) (v := .pointer (some ⟨w.heap.size, 0, none⟩)) rfl (by kernel_rfl) (by kernel_rfl) (by kernel_rfl) (fun _ _ _ h => h) (Or.inl ⟨by rfl, fun wx hS => by unfold execOp; go_simp⟩) hHeld ?_
  (try simp only [Act.put, List.setIfInBounds_toArray, List.set_cons_zero, List.set_cons_succ])
  refine wpAnyH_take (i := 3) (oi := ⟨some 10, .load 22 (.tmp 9), 22, _, _, none⟩) (v := .slice a R.text.length cap) rfl (by kernel_rfl) (by kernel_rfl) (by kernel_rfl) (fun _ _ _ h => h) (Or.inl ⟨by rfl, fun wx hS => exec_load1 43 22 _ rfl w.heap.size 0 rfl (resL (.slice a R.text.length cap) R.loc vs R.fk R.fa R.mode (.slice none 0 0)) _ hS.1 resL_0 (fun w => by go_simp)⟩) hHeld ?_
  (try simp only [Act.put, List.setIfInBounds_toArray, List.set_cons_zero, List.set_cons_succ])
  refine wpAnyH_ready (rs := [4]) (by kernel_rfl) (by simp) ?_
  refine AllReadyH.cons (o := ⟨some 5, .alloc 43, 0, _, _, none⟩) rfl (fun K1 hK1 => ?_) AllReadyH.nil
  refine step_allocC rfl 43 rfl nulL nul_zero ?_
  intro w5 hn5 hb5
  have hA5 := hHeld.1.below hb5
  have hZ5 := hHeld.2.1.below hb5
  have hB5 := below_trans hHeld.2.2 hb5 hHeld.2.2.size
  obtain ⟨GN, hGN⟩ : ∃ GN, GN = w2.drew.heap.size := ⟨_, rfl⟩
  rw [← hGN] at hn5 ⊢
  have HLGN : Hid (w.heap.size < GN ∧ GZ < GN) := by rw [hGN]; exact ⟨hHeld.1.lt, hHeld.2.1.lt⟩
  clear hGN hb5
  refine hK1.out _ _ ⟨hA5, hZ5, hB5⟩ (fun hHeld => ?_)
  clear hK1 K1
  (try simp only [Act.put, List.setIfInBounds_toArray, List.set_cons_zero, List.set_cons_succ])
  refine wpAnyH_ready (rs := [5]) (by kernel_rfl) (by simp) ?_
  refine AllReadyH.cons (o := ⟨none, .store 43 (.tmp 5) (.tmp 7), 0, _, _, none⟩) rfl (fun K1 hK1 => ?_) AllReadyH.nil
  refine step_storeC rfl 43 (.tmp 5) (.tmp 7) rfl GN rfl nulL (resL (.slice a R.text.length cap) R.loc vs R.fk R.fa R.mode (.slice none 0 0)) rfl hn5 (by rw [resL_len (by assumption)]; exact wide_res) (resL_one HS.out rfl rfl) (by rw [nul_len, resL_len (by assumption)]) ?_
  intro w6 hn6 hg6
  have hA6 := hA5.kept hg6 (fun e => by have := HLGN.out; have := Option.some.inj e; omega)
  have hZ6 := hZ5.kept hg6 (fun e => by have := HLGN.out; have := Option.some.inj e; omega)
  have hB6 := hB5.grown hg6 hB5.size (fun j hj => by cases hj; have := HLGN.out; omega)
  refine hK1.out _ _ ⟨hA6, hZ6, hB6⟩ (fun hHeld => ?_)
  clear hK1 K1
  (try simp only [Act.put, List.setIfInBounds_toArray, List.set_cons_zero, List.set_cons_succ])
  refine wpAnyH_take (i := 6) (oi := ⟨some 6, .assign (.tmp 10), 22, _, _, none⟩) (v := .slice a R.text.length cap) rfl (by kernel_rfl) (by kernel_rfl) (by kernel_rfl) (fun _ _ _ h => h) (Or.inl ⟨by rfl, fun wx hS => rfl⟩) hHeld ?_
  (try simp only [Act.put, List.setIfInBounds_toArray, List.set_cons_zero, List.set_cons_succ])
  refine wpAnyH_done (by kernel_rfl) ?_ _
  (try simp only [Act.put, List.setIfInBounds_toArray, List.set_cons_zero, List.set_cons_succ])
  have HB_w6 : Hid (Below w.heap.size w w6) := hB6
  have A_w6 : Hid (BoxC w6 43 w.heap.size (resL (.slice a R.text.length cap) R.loc vs R.fk R.fa R.mode (.slice none 0 0))) := hA6
  have Z_w6 : Hid (BoxC w6 43 GZ nulL) := hZ6
  have N_w6 : Hid (BoxC w6 43 GN (resL (.slice a R.text.length cap) R.loc vs R.fk R.fa R.mode (.slice none 0 0))) := hn6
  clear hHeld hA5 hZ5 hB5 hn5 hA6 hZ6 hB6 hn6 hg6 HS3 A_w2 Z_w2 HB_w2
  have HLGN2 : Hid (w.heap.size ≤ GN ∧ w.heap.size < GN ∧ GZ < GN) := ⟨Nat.le_of_lt HLGN.out.1, HLGN.out⟩
  clear HLGN
  have HLGN : Hid (w.heap.size ≤ GN ∧ w.heap.size < GN ∧ GZ < GN) := HLGN2
  clear HLGN2
  go_wp2_with (refine storeO rfl 43 3 _ _ rfl GN 31 rfl (resL (.slice a R.text.length cap) R.loc vs R.fk R.fa R.mode (.slice none 0 0)) (resL (.slice a R.text.length cap) R.loc vs R.fk R.fa 1 (.slice none 0 0)) (.int .i64 1) (.int .i64 R.mode) rfl N_w6.out rfl (fun xs hx => by cases hx) (resL_end (by assumption) 2) one_int (resL_mode _ (by assumption)) ?_)
  intro w7 hz hg
  have HB_w7 : Hid (Below w.heap.size w w7) := HB_w6.out.grown hg HB_w6.out.size (fun j hj => by cases hj; exact (by have := HLGN.out; omega))
  have A_w7 : Hid (BoxC w7 43 w.heap.size (resL (.slice a R.text.length cap) R.loc vs R.fk R.fa R.mode (.slice none 0 0))) := A_w6.out.kept hg (fun e => by have := HLGN.out; have := Option.some.inj e; omega)
  have Z_w7 : Hid (BoxC w7 43 GZ nulL) := Z_w6.out.kept hg (fun e => by have := HLGN.out; have := HLGZ.out; have := Option.some.inj e; omega)
  clear A_w6 Z_w6 N_w6 HB_w6
  have N_w7 : Hid (BoxC w7 43 GN (resL (.slice a R.text.length cap) R.loc vs R.fk R.fa 1 (.slice none 0 0))) := hz
  clear hz hg
  have a0 : w7.cell? ⟨w.heap.size, 0, none⟩ = some (.slice a R.text.length cap) := (A_w7.out.cell 0).trans resL_0
  have a1 : w7.cell? ⟨w.heap.size, 1, none⟩ = some (.int .i64 R.loc) := (A_w7.out.cell 1).trans resL_1
  have a29 : w7.cell? ⟨w.heap.size, 29, none⟩ = some (.int .i64 R.fk) := (A_w7.out.cell 29).trans (resL_end (by assumption) 0)
  have a30 : w7.cell? ⟨w.heap.size, 30, none⟩ = some (.int .i64 R.fa) := (A_w7.out.cell 30).trans (resL_end (by assumption) 1)
  go_wp2_with (fail)
  refine (go_go (.slice a R.text.length cap) R.text R.loc 0 94 0 false _ (HT.out _ HB_w7.out).1).mono ?_
  rintro q w8 ⟨rfl, hb8⟩
  rw [HX.out]
  clear a0 a1 a29 a30
  have HB_w8 : Hid (Below w.heap.size w w8) := below_trans HB_w7.out hb8 HB_w7.out.size
  have A_w8 : Hid (BoxC w8 43 w.heap.size (resL (.slice a R.text.length cap) R.loc vs R.fk R.fa R.mode (.slice none 0 0))) := A_w7.out.below hb8
  have Z_w8 : Hid (BoxC w8 43 GZ nulL) := Z_w7.out.below hb8
  have N_w8 : Hid (BoxC w8 43 GN (resL (.slice a R.text.length cap) R.loc vs R.fk R.fa 1 (.slice none 0 0))) := N_w7.out.below hb8
  clear A_w7 Z_w7 N_w7 HB_w7
  clear hb8
  go_wp2_with (refine storeO rfl 43 3 _ _ rfl GN 1 rfl (resL (.slice a R.text.length cap) R.loc vs R.fk R.fa 1 (.slice none 0 0)) (resL (.slice a R.text.length cap) X.1 vs R.fk R.fa 1 (.slice none 0 0)) (.int .i64 X.1) (.int .i64 R.loc) rfl N_w8.out rfl (fun xs hx => by cases hx) resL_1 one_int (resL_at _) ?_)
  intro w9 hz hg
  have HB_w9 : Hid (Below w.heap.size w w9) := HB_w8.out.grown hg HB_w8.out.size (fun j hj => by cases hj; exact (by have := HLGN.out; omega))
  have A_w9 : Hid (BoxC w9 43 w.heap.size (resL (.slice a R.text.length cap) R.loc vs R.fk R.fa R.mode (.slice none 0 0))) := A_w8.out.kept hg (fun e => by have := HLGN.out; have := Option.some.inj e; omega)
  have Z_w9 : Hid (BoxC w9 43 GZ nulL) := Z_w8.out.kept hg (fun e => by have := HLGN.out; have := HLGZ.out; have := Option.some.inj e; omega)
  clear A_w8 Z_w8 N_w8 HB_w8
  have N_w9 : Hid (BoxC w9 43 GN (resL (.slice a R.text.length cap) X.1 vs R.fk R.fa 1 (.slice none 0 0))) := hz
  clear hz hg
  go_wp2_with (first | (refine loadC rfl 43 _ rfl GN rfl (resL (.slice a R.text.length cap) X.1 vs R.fk R.fa 1 (.slice none 0 0)) N_w9.out (by rw [resL_len (by assumption)]; exact wide_res) ?_) | (refine storeC rfl 43 _ _ rfl GZ rfl nulL (resL (.slice a R.text.length cap) X.1 vs R.fk R.fa 1 (.slice none 0 0)) rfl Z_w9.out (by rw [resL_len (by assumption)]; exact wide_res) (resL_one HS.out rfl rfl) (by rw [nul_len, resL_len (by assumption)]) ?_))
  intro w10 hz hg
  have HB_w10 : Hid (Below w.heap.size w w10) := HB_w9.out.grown hg HB_w9.out.size (fun j hj => by cases hj; exact (by have := HLGZ.out; omega))
  have A_w10 : Hid (BoxC w10 43 w.heap.size (resL (.slice a R.text.length cap) R.loc vs R.fk R.fa R.mode (.slice none 0 0))) := A_w9.out.kept hg (fun e => by have := HLGZ.out; have := Option.some.inj e; omega)
  have N_w10 : Hid (BoxC w10 43 GN (resL (.slice a R.text.length cap) X.1 vs R.fk R.fa 1 (.slice none 0 0))) := N_w9.out.kept hg (fun e => by have := HLGZ.out; have := HLGN.out; have := Option.some.inj e; omega)
  clear A_w9 Z_w9 N_w9 HB_w9
  have Z_w10 : Hid (BoxC w10 43 GZ (resL (.slice a R.text.length cap) X.1 vs R.fk R.fa 1 (.slice none 0 0))) := hz
  clear hz hg
  go_wp2_with (fail)
  (try simp only [Exit.inBlock, Exit.then])
  refine bodyPost_ret (ret_box1 rfl _ _ GZ (resL (.slice a R.text.length cap) X.1 vs R.fk R.fa 1 (.slice none 0 0)) rfl Z_w10.out (by rw [resL_len (by assumption)]; exact wide_res)) rfl ?_
  exact ⟨HB_w10.out, _, rfl, ⟨a, cap, vs, rfl, ((HT.out _ HB_w10.out).weak (fun b hb => hb.1)), ((HRg.out _ HB_w10.out).weak (fun b hb => hb.1))⟩⟩

set_option maxHeartbeats 2000000 in
theorem begun_a (a : Option Addr) (cap : Nat) (vs : List Value) (R : Res) (w : World) (P : Nat → Prop) (hP : ∀ b, w.heap.size ≤ b → P b) (h : Av w P (.slice a R.text.length cap) R.text) (hr : AvR w P vs R.regs) (K : Int) (hK : min (R.loc + 1) (R.text.length : Int) = K) (hk0 : 0 ≤ R.loc) (hk1 : R.loc ≤ 4096) :
    Calls Try.prog 41 #[.agg (resL (.slice a R.text.length cap) R.loc vs R.fk R.fa R.mode (.slice none 0 0)).toArray, .int .i64 97] w fun q w' => Below w.heap.size w w' ∧ ∃ x, q = .returned x ∧ ResAv w' P x { R with loc := K, mode := 1 } := by
  have hw1 : IntKind.i64.wrap (R.loc + 1) = R.loc + 1 := by rw [IntKind.wrap_i64]; omega
  have hvs : vs.length = 27 := hr.len
  have HT : Hid (∀ wx, Below w.heap.size w wx → Av wx (fun b => P b ∧ b < w.heap.size) (.slice a R.text.length cap) R.text) := fun wx hx => (h.both (av_arg h.1)).below hx
  have HRg : Hid (∀ wx, Below w.heap.size w wx → AvR wx (fun b => P b ∧ b < w.heap.size) vs R.regs) := fun wx hx => (hr.both (avR_arg hr.1)).below hx
  have HP : Hid (∀ b, w.heap.size ≤ b → P b) := hP
  have HS : Hid (AllSl vs) := hr.1.1
  clear h hr hP
  go_enter Try.func41, Try.ntmps41
  go_wp2_with (refine boxC rfl 43 _ rfl (resL (.slice a R.text.length cap) R.loc vs R.fk R.fa R.mode (.slice none 0 0)) rfl ?_)
  intro w1 ha hb
  have HB_w1 : Hid (Below w.heap.size w w1) := hb
  have A_w1 : Hid (BoxC w1 43 w.heap.size (resL (.slice a R.text.length cap) R.loc vs R.fk R.fa R.mode (.slice none 0 0))) := ha
  clear ha hb
  go_wp2_with (refine allocC rfl 43 rfl nulL nul_zero ?_)
  intro w2 ha hb
  have HLGZ : Hid (w.heap.size ≤ w1.heap.size ∧ w.heap.size < w1.heap.size) := ⟨HB_w1.out.size, A_w1.out.lt⟩
  have HB_w2 : Hid (Below w.heap.size w w2) := below_trans HB_w1.out hb HB_w1.out.size
  have A_w2 : Hid (BoxC w2 43 w.heap.size (resL (.slice a R.text.length cap) R.loc vs R.fk R.fa R.mode (.slice none 0 0))) := A_w1.out.below hb
  clear A_w1 HB_w1
  have Z_w2 : Hid (BoxC w2 43 w1.heap.size nulL) := ha
  clear ha hb
  generalize w1.heap.size = GZ at *
  have HS3 : Hid ((fun wx => BoxC wx 43 w.heap.size (resL (.slice a R.text.length cap) R.loc vs R.fk R.fa R.mode (.slice none 0 0)) ∧ BoxC wx 43 GZ nulL ∧ Below w.heap.size w wx) w2.drew) := ⟨A_w2.out, Z_w2.out, below_drewN HB_w2.out 1⟩
  go_wp2_with (fail)
  refine wp_region_held_drew (S := (fun wx => BoxC wx 43 w.heap.size (resL (.slice a R.text.length cap) R.loc vs R.fk R.fa R.mode (.slice none 0 0)) ∧ BoxC wx 43 GZ nulL ∧ Below w.heap.size w wx)) (by kernel_rfl) HS3.out (fun hHeld => ?_)
  refine wpAnyH_take (i := 0) (oi := ⟨some 7, .load 43 (.tmp 2), 43, _, _, none⟩) (v := .agg (resL (.slice a R.text.length cap) R.loc vs R.fk R.fa R.mode (.slice none 0 0)).toArray) rfl (by kernel_rfl) (by kernel_rfl) (by kernel_rfl) (fun _ _ _ h => h) (Or.inl ⟨by rfl, fun wx hS => exec_loadC 43 _ rfl w.heap.size rfl (resL (.slice a R.text.length cap) R.loc vs R.fk R.fa R.mode (.slice none 0 0)) hS.1 (by rw [resL_len (by assumption)]; exact wide_res)⟩) hHeld ?_
  (try simp only [Act.put, List.setIfInBounds_toArray, List.set_cons_zero, List.set_cons_succ])
  refine wpAnyH_take (i := 1) (oi := ⟨some 8, .fieldAddr 43 (.tmp 2) 0, 0, _, _, none⟩) (v := .pointer (some ⟨w.heap.size, 0, none⟩)) rfl (by kernel_rfl) (by kernel_rfl) (by kernel_rfl) (fun _ _ _ h => h) (Or.inl ⟨by rfl, fun wx hS => by unfold execOp; go_simp⟩) hHeld ?_
  (try simp only [Act.put, List.setIfInBounds_toArray, List.set_cons_zero, List.set_cons_succ])
  refine wpAnyH_take (i := 2) (oi := ⟨some 9, .fieldAddr 24 (.tmp 8) 0, 0, _, _, none⟩) (v := .pointer (some ⟨w.heap.size, 0, none⟩)) rfl (by kernel_rfl) (by kernel_rfl) (by kernel_rfl) (fun _ _ _ h => h) (Or.inl ⟨by rfl, fun wx hS => by unfold execOp; go_simp⟩) hHeld ?_
  (try simp only [Act.put, List.setIfInBounds_toArray, List.set_cons_zero, List.set_cons_succ])
  refine wpAnyH_take (i := 3) (oi := ⟨some 10, .load 22 (.tmp 9), 22, _, _, none⟩) (v := .slice a R.text.length cap) rfl (by kernel_rfl) (by kernel_rfl) (by kernel_rfl) (fun _ _ _ h => h) (Or.inl ⟨by rfl, fun wx hS => exec_load1 43 22 _ rfl w.heap.size 0 rfl (resL (.slice a R.text.length cap) R.loc vs R.fk R.fa R.mode (.slice none 0 0)) _ hS.1 resL_0 (fun w => by go_simp)⟩) hHeld ?_
  (try simp only [Act.put, List.setIfInBounds_toArray, List.set_cons_zero, List.set_cons_succ])
  refine wpAnyH_ready (rs := [4]) (by kernel_rfl) (by simp) ?_
  refine AllReadyH.cons (o := ⟨some 5, .alloc 43, 0, _, _, none⟩) rfl (fun K1 hK1 => ?_) AllReadyH.nil
  refine step_allocC rfl 43 rfl nulL nul_zero ?_
  intro w5 hn5 hb5
  have hA5 := hHeld.1.below hb5
  have hZ5 := hHeld.2.1.below hb5
  have hB5 := below_trans hHeld.2.2 hb5 hHeld.2.2.size
  obtain ⟨GN, hGN⟩ : ∃ GN, GN = w2.drew.heap.size := ⟨_, rfl⟩
  rw [← hGN] at hn5 ⊢
  have HLGN : Hid (w.heap.size < GN ∧ GZ < GN) := by rw [hGN]; exact ⟨hHeld.1.lt, hHeld.2.1.lt⟩
  clear hGN hb5
  refine hK1.out _ _ ⟨hA5, hZ5, hB5⟩ (fun hHeld => ?_)
  clear hK1 K1
  (try simp only [Act.put, List.setIfInBounds_toArray, List.set_cons_zero, List.set_cons_succ])
  refine wpAnyH_ready (rs := [5]) (by kernel_rfl) (by simp) ?_
  refine AllReadyH.cons (o := ⟨none, .store 43 (.tmp 5) (.tmp 7), 0, _, _, none⟩) rfl (fun K1 hK1 => ?_) AllReadyH.nil
  refine step_storeC rfl 43 (.tmp 5) (.tmp 7) rfl GN rfl nulL (resL (.slice a R.text.length cap) R.loc vs R.fk R.fa R.mode (.slice none 0 0)) rfl hn5 (by rw [resL_len (by assumption)]; exact wide_res) (resL_one HS.out rfl rfl) (by rw [nul_len, resL_len (by assumption)]) ?_
  intro w6 hn6 hg6
  have hA6 := hA5.kept hg6 (fun e => by have := HLGN.out; have := Option.some.inj e; omega)
  have hZ6 := hZ5.kept hg6 (fun e => by have := HLGN.out; have := Option.some.inj e; omega)
  have hB6 := hB5.grown hg6 hB5.size (fun j hj => by cases hj; have := HLGN.out; omega)
  refine hK1.out _ _ ⟨hA6, hZ6, hB6⟩ (fun hHeld => ?_)
  clear hK1 K1
  (try simp only [Act.put, List.setIfInBounds_toArray, List.set_cons_zero, List.set_cons_succ])
  refine wpAnyH_take (i := 6) (oi := ⟨some 6, .assign (.tmp 10), 22, _, _, none⟩) (v := .slice a R.text.length cap) rfl (by kernel_rfl) (by kernel_rfl) (by kernel_rfl) (fun _ _ _ h => h) (Or.inl ⟨by rfl, fun wx hS => rfl⟩) hHeld ?_
  (try simp only [Act.put, List.setIfInBounds_toArray, List.set_cons_zero, List.set_cons_succ])
  refine wpAnyH_done (by kernel_rfl) ?_ _
  (try simp only [Act.put, List.setIfInBounds_toArray, List.set_cons_zero, List.set_cons_succ])
  have HB_w6 : Hid (Below w.heap.size w w6) := hB6
  have A_w6 : Hid (BoxC w6 43 w.heap.size (resL (.slice a R.text.length cap) R.loc vs R.fk R.fa R.mode (.slice none 0 0))) := hA6
  have Z_w6 : Hid (BoxC w6 43 GZ nulL) := hZ6
  have N_w6 : Hid (BoxC w6 43 GN (resL (.slice a R.text.length cap) R.loc vs R.fk R.fa R.mode (.slice none 0 0))) := hn6
  clear hHeld hA5 hZ5 hB5 hn5 hA6 hZ6 hB6 hn6 hg6 HS3 A_w2 Z_w2 HB_w2
  have HLGN2 : Hid (w.heap.size ≤ GN ∧ w.heap.size < GN ∧ GZ < GN) := ⟨Nat.le_of_lt HLGN.out.1, HLGN.out⟩
  clear HLGN
  have HLGN : Hid (w.heap.size ≤ GN ∧ w.heap.size < GN ∧ GZ < GN) := HLGN2
  clear HLGN2
  go_wp2_with (refine storeO rfl 43 3 _ _ rfl GN 31 rfl (resL (.slice a R.text.length cap) R.loc vs R.fk R.fa R.mode (.slice none 0 0)) (resL (.slice a R.text.length cap) R.loc vs R.fk R.fa 1 (.slice none 0 0)) (.int .i64 1) (.int .i64 R.mode) rfl N_w6.out rfl (fun xs hx => by cases hx) (resL_end (by assumption) 2) one_int (resL_mode _ (by assumption)) ?_)
  intro w7 hz hg
  have HB_w7 : Hid (Below w.heap.size w w7) := HB_w6.out.grown hg HB_w6.out.size (fun j hj => by cases hj; exact (by have := HLGN.out; omega))
  have A_w7 : Hid (BoxC w7 43 w.heap.size (resL (.slice a R.text.length cap) R.loc vs R.fk R.fa R.mode (.slice none 0 0))) := A_w6.out.kept hg (fun e => by have := HLGN.out; have := Option.some.inj e; omega)
  have Z_w7 : Hid (BoxC w7 43 GZ nulL) := Z_w6.out.kept hg (fun e => by have := HLGN.out; have := HLGZ.out; have := Option.some.inj e; omega)
  clear A_w6 Z_w6 N_w6 HB_w6
  have N_w7 : Hid (BoxC w7 43 GN (resL (.slice a R.text.length cap) R.loc vs R.fk R.fa 1 (.slice none 0 0))) := hz
  clear hz hg
  have a0 : w7.cell? ⟨w.heap.size, 0, none⟩ = some (.slice a R.text.length cap) := (A_w7.out.cell 0).trans resL_0
  have a1 : w7.cell? ⟨w.heap.size, 1, none⟩ = some (.int .i64 R.loc) := (A_w7.out.cell 1).trans resL_1
  have a29 : w7.cell? ⟨w.heap.size, 29, none⟩ = some (.int .i64 R.fk) := (A_w7.out.cell 29).trans (resL_end (by assumption) 0)
  have a30 : w7.cell? ⟨w.heap.size, 30, none⟩ = some (.int .i64 R.fa) := (A_w7.out.cell 30).trans (resL_end (by assumption) 1)
  go_wp2_with (refine storeO rfl 43 3 _ _ rfl GN 1 rfl (resL (.slice a R.text.length cap) R.loc vs R.fk R.fa 1 (.slice none 0 0)) (resL (.slice a R.text.length cap) K vs R.fk R.fa 1 (.slice none 0 0)) (.int .i64 K) (.int .i64 R.loc) rfl N_w7.out rfl (fun xs hx => by cases hx) resL_1 one_int (resL_at _) ?_)
  intro w8 hz hg
  have HB_w8 : Hid (Below w.heap.size w w8) := HB_w7.out.grown hg HB_w7.out.size (fun j hj => by cases hj; exact (by have := HLGN.out; omega))
  have A_w8 : Hid (BoxC w8 43 w.heap.size (resL (.slice a R.text.length cap) R.loc vs R.fk R.fa R.mode (.slice none 0 0))) := A_w7.out.kept hg (fun e => by have := HLGN.out; have := Option.some.inj e; omega)
  have Z_w8 : Hid (BoxC w8 43 GZ nulL) := Z_w7.out.kept hg (fun e => by have := HLGN.out; have := HLGZ.out; have := Option.some.inj e; omega)
  clear A_w7 Z_w7 N_w7 HB_w7
  have N_w8 : Hid (BoxC w8 43 GN (resL (.slice a R.text.length cap) K vs R.fk R.fa 1 (.slice none 0 0))) := hz
  clear hz hg
  clear a0 a1 a29 a30
  go_wp2_with (first | (refine loadC rfl 43 _ rfl GN rfl (resL (.slice a R.text.length cap) K vs R.fk R.fa 1 (.slice none 0 0)) N_w8.out (by rw [resL_len (by assumption)]; exact wide_res) ?_) | (refine storeC rfl 43 _ _ rfl GZ rfl nulL (resL (.slice a R.text.length cap) K vs R.fk R.fa 1 (.slice none 0 0)) rfl Z_w8.out (by rw [resL_len (by assumption)]; exact wide_res) (resL_one HS.out rfl rfl) (by rw [nul_len, resL_len (by assumption)]) ?_))
  intro w9 hz hg
  have HB_w9 : Hid (Below w.heap.size w w9) := HB_w8.out.grown hg HB_w8.out.size (fun j hj => by cases hj; exact (by have := HLGZ.out; omega))
  have A_w9 : Hid (BoxC w9 43 w.heap.size (resL (.slice a R.text.length cap) R.loc vs R.fk R.fa R.mode (.slice none 0 0))) := A_w8.out.kept hg (fun e => by have := HLGZ.out; have := Option.some.inj e; omega)
  have N_w9 : Hid (BoxC w9 43 GN (resL (.slice a R.text.length cap) K vs R.fk R.fa 1 (.slice none 0 0))) := N_w8.out.kept hg (fun e => by have := HLGZ.out; have := HLGN.out; have := Option.some.inj e; omega)
  clear A_w8 Z_w8 N_w8 HB_w8
  have Z_w9 : Hid (BoxC w9 43 GZ (resL (.slice a R.text.length cap) K vs R.fk R.fa 1 (.slice none 0 0))) := hz
  clear hz hg
  go_wp2_with (fail)
  (try simp only [Exit.inBlock, Exit.then])
  refine bodyPost_ret (ret_box1 rfl _ _ GZ (resL (.slice a R.text.length cap) K vs R.fk R.fa 1 (.slice none 0 0)) rfl Z_w9.out (by rw [resL_len (by assumption)]; exact wide_res)) rfl ?_
  exact ⟨HB_w9.out, _, rfl, ⟨a, cap, vs, rfl, ((HT.out _ HB_w9.out).weak (fun b hb => hb.1)), ((HRg.out _ HB_w9.out).weak (fun b hb => hb.1))⟩⟩

set_option maxHeartbeats 2000000 in
theorem begun_gA (a : Option Addr) (cap : Nat) (vs : List Value) (R : Res) (w : World) (P : Nat → Prop) (hP : ∀ b, w.heap.size ≤ b → P b) (h : Av w P (.slice a R.text.length cap) R.text) (hr : AvR w P vs R.regs) :
    Calls Try.prog 41 #[.agg (resL (.slice a R.text.length cap) R.loc vs R.fk R.fa R.mode (.slice none 0 0)).toArray, .int .i64 65] w fun q w' => Below w.heap.size w w' ∧ ∃ x, q = .returned x ∧ ResAv w' P x { R with loc := (R.text.length : Int), mode := 1 } := by
  have hvs : vs.length = 27 := hr.len
  have HT : Hid (∀ wx, Below w.heap.size w wx → Av wx (fun b => P b ∧ b < w.heap.size) (.slice a R.text.length cap) R.text) := fun wx hx => (h.both (av_arg h.1)).below hx
  have HRg : Hid (∀ wx, Below w.heap.size w wx → AvR wx (fun b => P b ∧ b < w.heap.size) vs R.regs) := fun wx hx => (hr.both (avR_arg hr.1)).below hx
  have HP : Hid (∀ b, w.heap.size ≤ b → P b) := hP
  have HS : Hid (AllSl vs) := hr.1.1
  clear h hr hP
  go_enter Try.func41, Try.ntmps41
  go_wp2_with (refine boxC rfl 43 _ rfl (resL (.slice a R.text.length cap) R.loc vs R.fk R.fa R.mode (.slice none 0 0)) rfl ?_)
  intro w1 ha hb
  have HB_w1 : Hid (Below w.heap.size w w1) := hb
  have A_w1 : Hid (BoxC w1 43 w.heap.size (resL (.slice a R.text.length cap) R.loc vs R.fk R.fa R.mode (.slice none 0 0))) := ha
  clear ha hb
  go_wp2_with (refine allocC rfl 43 rfl nulL nul_zero ?_)
  intro w2 ha hb
  have HLGZ : Hid (w.heap.size ≤ w1.heap.size ∧ w.heap.size < w1.heap.size) := ⟨HB_w1.out.size, A_w1.out.lt⟩
  have HB_w2 : Hid (Below w.heap.size w w2) := below_trans HB_w1.out hb HB_w1.out.size
  have A_w2 : Hid (BoxC w2 43 w.heap.size (resL (.slice a R.text.length cap) R.loc vs R.fk R.fa R.mode (.slice none 0 0))) := A_w1.out.below hb
  clear A_w1 HB_w1
  have Z_w2 : Hid (BoxC w2 43 w1.heap.size nulL) := ha
  clear ha hb
  generalize w1.heap.size = GZ at *
  have HS3 : Hid ((fun wx => BoxC wx 43 w.heap.size (resL (.slice a R.text.length cap) R.loc vs R.fk R.fa R.mode (.slice none 0 0)) ∧ BoxC wx 43 GZ nulL ∧ Below w.heap.size w wx) w2.drew) := ⟨A_w2.out, Z_w2.out, below_drewN HB_w2.out 1⟩
  go_wp2_with (fail)
  refine wp_region_held_drew (S := (fun wx => BoxC wx 43 w.heap.size (resL (.slice a R.text.length cap) R.loc vs R.fk R.fa R.mode (.slice none 0 0)) ∧ BoxC wx 43 GZ nulL ∧ Below w.heap.size w wx)) (by kernel_rfl) HS3.out (fun hHeld => ?_)
  refine wpAnyH_take (i := 0) (oi := ⟨some 7, .load 43 (.tmp 2), 43, _, _, none⟩) (v := .agg (resL (.slice a R.text.length cap) R.loc vs R.fk R.fa R.mode (.slice none 0 0)).toArray) rfl (by kernel_rfl) (by kernel_rfl) (by kernel_rfl) (fun _ _ _ h => h) (Or.inl ⟨by rfl, fun wx hS => exec_loadC 43 _ rfl w.heap.size rfl (resL (.slice a R.text.length cap) R.loc vs R.fk R.fa R.mode (.slice none 0 0)) hS.1 (by rw [resL_len (by assumption)]; exact wide_res)⟩) hHeld ?_
  (try simp only [Act.put, List.setIfInBounds_toArray, List.set_cons_zero, List.set_cons_succ])
  refine wpAnyH_take (i := 1) (oi := ⟨some 8, .fieldAddr 43 (.tmp 2) 0, 0, _, _, none⟩) (v := .pointer (some ⟨w.heap.size, 0, none⟩)) rfl (by kernel_rfl) (by kernel_rfl) (by kernel_rfl) (fun _ _ _ h => h) (Or.inl ⟨by rfl, fun wx hS => by unfold execOp; go_simp⟩) hHeld ?_
  (try simp only [Act.put, List.setIfInBounds_toArray, List.set_cons_zero, List.set_cons_succ])
  refine wpAnyH_take (i := 2) (oi := ⟨some 9, .fieldAddr 24 (.tmp 8) 0, 0, _, _, none⟩) (v := .pointer (some ⟨w.heap.size, 0, none⟩)) rfl (by kernel_rfl) (by kernel_rfl) (by kernel_rfl) (fun _ _ _ h => h) (Or.inl ⟨by rfl, fun wx hS => by unfold execOp; go_simp⟩) hHeld ?_
  (try simp only [Act.put, List.setIfInBounds_toArray, List.set_cons_zero, List.set_cons_succ])
  refine wpAnyH_take (i := 3) (oi := ⟨some 10, .load 22 (.tmp 9), 22, _, _, none⟩) (v := .slice a R.text.length cap) rfl (by kernel_rfl) (by kernel_rfl) (by kernel_rfl) (fun _ _ _ h => h) (Or.inl ⟨by rfl, fun wx hS => exec_load1 43 22 _ rfl w.heap.size 0 rfl (resL (.slice a R.text.length cap) R.loc vs R.fk R.fa R.mode (.slice none 0 0)) _ hS.1 resL_0 (fun w => by go_simp)⟩) hHeld ?_
  (try simp only [Act.put, List.setIfInBounds_toArray, List.set_cons_zero, List.set_cons_succ])
  refine wpAnyH_ready (rs := [4]) (by kernel_rfl) (by simp) ?_
  refine AllReadyH.cons (o := ⟨some 5, .alloc 43, 0, _, _, none⟩) rfl (fun K1 hK1 => ?_) AllReadyH.nil
  refine step_allocC rfl 43 rfl nulL nul_zero ?_
  intro w5 hn5 hb5
  have hA5 := hHeld.1.below hb5
  have hZ5 := hHeld.2.1.below hb5
  have hB5 := below_trans hHeld.2.2 hb5 hHeld.2.2.size
  obtain ⟨GN, hGN⟩ : ∃ GN, GN = w2.drew.heap.size := ⟨_, rfl⟩
  rw [← hGN] at hn5 ⊢
  have HLGN : Hid (w.heap.size < GN ∧ GZ < GN) := by rw [hGN]; exact ⟨hHeld.1.lt, hHeld.2.1.lt⟩
  clear hGN hb5
  refine hK1.out _ _ ⟨hA5, hZ5, hB5⟩ (fun hHeld => ?_)
  clear hK1 K1
  (try simp only [Act.put, List.setIfInBounds_toArray, List.set_cons_zero, List.set_cons_succ])
  refine wpAnyH_ready (rs := [5]) (by kernel_rfl) (by simp) ?_
  refine AllReadyH.cons (o := ⟨none, .store 43 (.tmp 5) (.tmp 7), 0, _, _, none⟩) rfl (fun K1 hK1 => ?_) AllReadyH.nil
  refine step_storeC rfl 43 (.tmp 5) (.tmp 7) rfl GN rfl nulL (resL (.slice a R.text.length cap) R.loc vs R.fk R.fa R.mode (.slice none 0 0)) rfl hn5 (by rw [resL_len (by assumption)]; exact wide_res) (resL_one HS.out rfl rfl) (by rw [nul_len, resL_len (by assumption)]) ?_
  intro w6 hn6 hg6
  have hA6 := hA5.kept hg6 (fun e => by have := HLGN.out; have := Option.some.inj e; omega)
  have hZ6 := hZ5.kept hg6 (fun e => by have := HLGN.out; have := Option.some.inj e; omega)
  have hB6 := hB5.grown hg6 hB5.size (fun j hj => by cases hj; have := HLGN.out; omega)
  refine hK1.out _ _ ⟨hA6, hZ6, hB6⟩ (fun hHeld => ?_)
  clear hK1 K1
  (try simp only [Act.put, List.setIfInBounds_toArray, List.set_cons_zero, List.set_cons_succ])
  refine wpAnyH_take (i := 6) (oi := ⟨some 6, .assign (.tmp 10), 22, _, _, none⟩) (v := .slice a R.text.length cap) rfl (by kernel_rfl) (by kernel_rfl) (by kernel_rfl) (fun _ _ _ h => h) (Or.inl ⟨by rfl, fun wx hS => rfl⟩) hHeld ?_
  (try simp only [Act.put, List.setIfInBounds_toArray, List.set_cons_zero, List.set_cons_succ])
  refine wpAnyH_done (by kernel_rfl) ?_ _
  (try simp only [Act.put, List.setIfInBounds_toArray, List.set_cons_zero, List.set_cons_succ])
  have HB_w6 : Hid (Below w.heap.size w w6) := hB6
  have A_w6 : Hid (BoxC w6 43 w.heap.size (resL (.slice a R.text.length cap) R.loc vs R.fk R.fa R.mode (.slice none 0 0))) := hA6
  have Z_w6 : Hid (BoxC w6 43 GZ nulL) := hZ6
  have N_w6 : Hid (BoxC w6 43 GN (resL (.slice a R.text.length cap) R.loc vs R.fk R.fa R.mode (.slice none 0 0))) := hn6
  clear hHeld hA5 hZ5 hB5 hn5 hA6 hZ6 hB6 hn6 hg6 HS3 A_w2 Z_w2 HB_w2
  have HLGN2 : Hid (w.heap.size ≤ GN ∧ w.heap.size < GN ∧ GZ < GN) := ⟨Nat.le_of_lt HLGN.out.1, HLGN.out⟩
  clear HLGN
  have HLGN : Hid (w.heap.size ≤ GN ∧ w.heap.size < GN ∧ GZ < GN) := HLGN2
  clear HLGN2
  go_wp2_with (refine storeO rfl 43 3 _ _ rfl GN 31 rfl (resL (.slice a R.text.length cap) R.loc vs R.fk R.fa R.mode (.slice none 0 0)) (resL (.slice a R.text.length cap) R.loc vs R.fk R.fa 1 (.slice none 0 0)) (.int .i64 1) (.int .i64 R.mode) rfl N_w6.out rfl (fun xs hx => by cases hx) (resL_end (by assumption) 2) one_int (resL_mode _ (by assumption)) ?_)
  intro w7 hz hg
  have HB_w7 : Hid (Below w.heap.size w w7) := HB_w6.out.grown hg HB_w6.out.size (fun j hj => by cases hj; exact (by have := HLGN.out; omega))
  have A_w7 : Hid (BoxC w7 43 w.heap.size (resL (.slice a R.text.length cap) R.loc vs R.fk R.fa R.mode (.slice none 0 0))) := A_w6.out.kept hg (fun e => by have := HLGN.out; have := Option.some.inj e; omega)
  have Z_w7 : Hid (BoxC w7 43 GZ nulL) := Z_w6.out.kept hg (fun e => by have := HLGN.out; have := HLGZ.out; have := Option.some.inj e; omega)
  clear A_w6 Z_w6 N_w6 HB_w6
  have N_w7 : Hid (BoxC w7 43 GN (resL (.slice a R.text.length cap) R.loc vs R.fk R.fa 1 (.slice none 0 0))) := hz
  clear hz hg
  go_wp2_with (refine storeO rfl 43 3 _ _ rfl GN 1 rfl (resL (.slice a R.text.length cap) R.loc vs R.fk R.fa 1 (.slice none 0 0)) (resL (.slice a R.text.length cap) (R.text.length : Int) vs R.fk R.fa 1 (.slice none 0 0)) (.int .i64 (R.text.length : Int)) (.int .i64 R.loc) rfl N_w7.out rfl (fun xs hx => by cases hx) resL_1 one_int (resL_at _) ?_)
  intro w8 hz hg
  have HB_w8 : Hid (Below w.heap.size w w8) := HB_w7.out.grown hg HB_w7.out.size (fun j hj => by cases hj; exact (by have := HLGN.out; omega))
  have A_w8 : Hid (BoxC w8 43 w.heap.size (resL (.slice a R.text.length cap) R.loc vs R.fk R.fa R.mode (.slice none 0 0))) := A_w7.out.kept hg (fun e => by have := HLGN.out; have := Option.some.inj e; omega)
  have Z_w8 : Hid (BoxC w8 43 GZ nulL) := Z_w7.out.kept hg (fun e => by have := HLGN.out; have := HLGZ.out; have := Option.some.inj e; omega)
  clear A_w7 Z_w7 N_w7 HB_w7
  have N_w8 : Hid (BoxC w8 43 GN (resL (.slice a R.text.length cap) (R.text.length : Int) vs R.fk R.fa 1 (.slice none 0 0))) := hz
  clear hz hg
  go_wp2_with (first | (refine loadC rfl 43 _ rfl GN rfl (resL (.slice a R.text.length cap) (R.text.length : Int) vs R.fk R.fa 1 (.slice none 0 0)) N_w8.out (by rw [resL_len (by assumption)]; exact wide_res) ?_) | (refine storeC rfl 43 _ _ rfl GZ rfl nulL (resL (.slice a R.text.length cap) (R.text.length : Int) vs R.fk R.fa 1 (.slice none 0 0)) rfl Z_w8.out (by rw [resL_len (by assumption)]; exact wide_res) (resL_one HS.out rfl rfl) (by rw [nul_len, resL_len (by assumption)]) ?_))
  intro w9 hz hg
  have HB_w9 : Hid (Below w.heap.size w w9) := HB_w8.out.grown hg HB_w8.out.size (fun j hj => by cases hj; exact (by have := HLGZ.out; omega))
  have A_w9 : Hid (BoxC w9 43 w.heap.size (resL (.slice a R.text.length cap) R.loc vs R.fk R.fa R.mode (.slice none 0 0))) := A_w8.out.kept hg (fun e => by have := HLGZ.out; have := Option.some.inj e; omega)
  have N_w9 : Hid (BoxC w9 43 GN (resL (.slice a R.text.length cap) (R.text.length : Int) vs R.fk R.fa 1 (.slice none 0 0))) := N_w8.out.kept hg (fun e => by have := HLGZ.out; have := HLGN.out; have := Option.some.inj e; omega)
  clear A_w8 Z_w8 N_w8 HB_w8
  have Z_w9 : Hid (BoxC w9 43 GZ (resL (.slice a R.text.length cap) (R.text.length : Int) vs R.fk R.fa 1 (.slice none 0 0))) := hz
  clear hz hg
  go_wp2_with (fail)
  (try simp only [Exit.inBlock, Exit.then])
  refine bodyPost_ret (ret_box1 rfl _ _ GZ (resL (.slice a R.text.length cap) (R.text.length : Int) vs R.fk R.fa 1 (.slice none 0 0)) rfl Z_w9.out (by rw [resL_len (by assumption)]; exact wide_res)) rfl ?_
  exact ⟨HB_w9.out, _, rfl, ⟨a, cap, vs, rfl, ((HT.out _ HB_w9.out).weak (fun b hb => hb.1)), ((HRg.out _ HB_w9.out).weak (fun b hb => hb.1))⟩⟩

set_option maxHeartbeats 2000000 in
theorem begun_gR (a : Option Addr) (cap : Nat) (vs : List Value) (R : Res) (w : World) (P : Nat → Prop) (hP : ∀ b, w.heap.size ≤ b → P b) (h : Av w P (.slice a R.text.length cap) R.text) (hr : AvR w P vs R.regs) :
    Calls Try.prog 41 #[.agg (resL (.slice a R.text.length cap) R.loc vs R.fk R.fa R.mode (.slice none 0 0)).toArray, .int .i64 82] w fun q w' => Below w.heap.size w w' ∧ ∃ x, q = .returned x ∧ ResAv w' P x { R with loc := R.loc, mode := 2 } := by
  have hvs : vs.length = 27 := hr.len
  have HT : Hid (∀ wx, Below w.heap.size w wx → Av wx (fun b => P b ∧ b < w.heap.size) (.slice a R.text.length cap) R.text) := fun wx hx => (h.both (av_arg h.1)).below hx
  have HRg : Hid (∀ wx, Below w.heap.size w wx → AvR wx (fun b => P b ∧ b < w.heap.size) vs R.regs) := fun wx hx => (hr.both (avR_arg hr.1)).below hx
  have HP : Hid (∀ b, w.heap.size ≤ b → P b) := hP
  have HS : Hid (AllSl vs) := hr.1.1
  clear h hr hP
  go_enter Try.func41, Try.ntmps41
  go_wp2_with (refine boxC rfl 43 _ rfl (resL (.slice a R.text.length cap) R.loc vs R.fk R.fa R.mode (.slice none 0 0)) rfl ?_)
  intro w1 ha hb
  have HB_w1 : Hid (Below w.heap.size w w1) := hb
  have A_w1 : Hid (BoxC w1 43 w.heap.size (resL (.slice a R.text.length cap) R.loc vs R.fk R.fa R.mode (.slice none 0 0))) := ha
  clear ha hb
  go_wp2_with (refine allocC rfl 43 rfl nulL nul_zero ?_)
  intro w2 ha hb
  have HLGZ : Hid (w.heap.size ≤ w1.heap.size ∧ w.heap.size < w1.heap.size) := ⟨HB_w1.out.size, A_w1.out.lt⟩
  have HB_w2 : Hid (Below w.heap.size w w2) := below_trans HB_w1.out hb HB_w1.out.size
  have A_w2 : Hid (BoxC w2 43 w.heap.size (resL (.slice a R.text.length cap) R.loc vs R.fk R.fa R.mode (.slice none 0 0))) := A_w1.out.below hb
  clear A_w1 HB_w1
  have Z_w2 : Hid (BoxC w2 43 w1.heap.size nulL) := ha
  clear ha hb
  generalize w1.heap.size = GZ at *
  have HS3 : Hid ((fun wx => BoxC wx 43 w.heap.size (resL (.slice a R.text.length cap) R.loc vs R.fk R.fa R.mode (.slice none 0 0)) ∧ BoxC wx 43 GZ nulL ∧ Below w.heap.size w wx) w2.drew) := ⟨A_w2.out, Z_w2.out, below_drewN HB_w2.out 1⟩
  go_wp2_with (fail)
  refine wp_region_held_drew (S := (fun wx => BoxC wx 43 w.heap.size (resL (.slice a R.text.length cap) R.loc vs R.fk R.fa R.mode (.slice none 0 0)) ∧ BoxC wx 43 GZ nulL ∧ Below w.heap.size w wx)) (by kernel_rfl) HS3.out (fun hHeld => ?_)
  refine wpAnyH_take (i := 0) (oi := ⟨some 7, .load 43 (.tmp 2), 43, _, _, none⟩) (v := .agg (resL (.slice a R.text.length cap) R.loc vs R.fk R.fa R.mode (.slice none 0 0)).toArray) rfl (by kernel_rfl) (by kernel_rfl) (by kernel_rfl) (fun _ _ _ h => h) (Or.inl ⟨by rfl, fun wx hS => exec_loadC 43 _ rfl w.heap.size rfl (resL (.slice a R.text.length cap) R.loc vs R.fk R.fa R.mode (.slice none 0 0)) hS.1 (by rw [resL_len (by assumption)]; exact wide_res)⟩) hHeld ?_
  (try simp only [Act.put, List.setIfInBounds_toArray, List.set_cons_zero, List.set_cons_succ])
  refine wpAnyH_take (i := 1) (oi := ⟨some 8, .fieldAddr 43 (.tmp 2) 0, 0, _, _, none⟩) (v := .pointer (some ⟨w.heap.size, 0, none⟩)) rfl (by kernel_rfl) (by kernel_rfl) (by kernel_rfl) (fun _ _ _ h => h) (Or.inl ⟨by rfl, fun wx hS => by unfold execOp; go_simp⟩) hHeld ?_
  (try simp only [Act.put, List.setIfInBounds_toArray, List.set_cons_zero, List.set_cons_succ])
  refine wpAnyH_take (i := 2) (oi := ⟨some 9, .fieldAddr 24 (.tmp 8) 0, 0, _, _, none⟩) (v := .pointer (some ⟨w.heap.size, 0, none⟩)) rfl (by kernel_rfl) (by kernel_rfl) (by kernel_rfl) (fun _ _ _ h => h) (Or.inl ⟨by rfl, fun wx hS => by unfold execOp; go_simp⟩) hHeld ?_
  (try simp only [Act.put, List.setIfInBounds_toArray, List.set_cons_zero, List.set_cons_succ])
  refine wpAnyH_take (i := 3) (oi := ⟨some 10, .load 22 (.tmp 9), 22, _, _, none⟩) (v := .slice a R.text.length cap) rfl (by kernel_rfl) (by kernel_rfl) (by kernel_rfl) (fun _ _ _ h => h) (Or.inl ⟨by rfl, fun wx hS => exec_load1 43 22 _ rfl w.heap.size 0 rfl (resL (.slice a R.text.length cap) R.loc vs R.fk R.fa R.mode (.slice none 0 0)) _ hS.1 resL_0 (fun w => by go_simp)⟩) hHeld ?_
  (try simp only [Act.put, List.setIfInBounds_toArray, List.set_cons_zero, List.set_cons_succ])
  refine wpAnyH_ready (rs := [4]) (by kernel_rfl) (by simp) ?_
  refine AllReadyH.cons (o := ⟨some 5, .alloc 43, 0, _, _, none⟩) rfl (fun K1 hK1 => ?_) AllReadyH.nil
  refine step_allocC rfl 43 rfl nulL nul_zero ?_
  intro w5 hn5 hb5
  have hA5 := hHeld.1.below hb5
  have hZ5 := hHeld.2.1.below hb5
  have hB5 := below_trans hHeld.2.2 hb5 hHeld.2.2.size
  obtain ⟨GN, hGN⟩ : ∃ GN, GN = w2.drew.heap.size := ⟨_, rfl⟩
  rw [← hGN] at hn5 ⊢
  have HLGN : Hid (w.heap.size < GN ∧ GZ < GN) := by rw [hGN]; exact ⟨hHeld.1.lt, hHeld.2.1.lt⟩
  clear hGN hb5
  refine hK1.out _ _ ⟨hA5, hZ5, hB5⟩ (fun hHeld => ?_)
  clear hK1 K1
  (try simp only [Act.put, List.setIfInBounds_toArray, List.set_cons_zero, List.set_cons_succ])
  refine wpAnyH_ready (rs := [5]) (by kernel_rfl) (by simp) ?_
  refine AllReadyH.cons (o := ⟨none, .store 43 (.tmp 5) (.tmp 7), 0, _, _, none⟩) rfl (fun K1 hK1 => ?_) AllReadyH.nil
  refine step_storeC rfl 43 (.tmp 5) (.tmp 7) rfl GN rfl nulL (resL (.slice a R.text.length cap) R.loc vs R.fk R.fa R.mode (.slice none 0 0)) rfl hn5 (by rw [resL_len (by assumption)]; exact wide_res) (resL_one HS.out rfl rfl) (by rw [nul_len, resL_len (by assumption)]) ?_
  intro w6 hn6 hg6
  have hA6 := hA5.kept hg6 (fun e => by have := HLGN.out; have := Option.some.inj e; omega)
  have hZ6 := hZ5.kept hg6 (fun e => by have := HLGN.out; have := Option.some.inj e; omega)
  have hB6 := hB5.grown hg6 hB5.size (fun j hj => by cases hj; have := HLGN.out; omega)
  refine hK1.out _ _ ⟨hA6, hZ6, hB6⟩ (fun hHeld => ?_)
  clear hK1 K1
  (try simp only [Act.put, List.setIfInBounds_toArray, List.set_cons_zero, List.set_cons_succ])
  refine wpAnyH_take (i := 6) (oi := ⟨some 6, .assign (.tmp 10), 22, _, _, none⟩) (v := .slice a R.text.length cap) rfl (by kernel_rfl) (by kernel_rfl) (by kernel_rfl) (fun _ _ _ h => h) (Or.inl ⟨by rfl, fun wx hS => rfl⟩) hHeld ?_
  (try simp only [Act.put, List.setIfInBounds_toArray, List.set_cons_zero, List.set_cons_succ])
  refine wpAnyH_done (by kernel_rfl) ?_ _
  (try simp only [Act.put, List.setIfInBounds_toArray, List.set_cons_zero, List.set_cons_succ])
  have HB_w6 : Hid (Below w.heap.size w w6) := hB6
  have A_w6 : Hid (BoxC w6 43 w.heap.size (resL (.slice a R.text.length cap) R.loc vs R.fk R.fa R.mode (.slice none 0 0))) := hA6
  have Z_w6 : Hid (BoxC w6 43 GZ nulL) := hZ6
  have N_w6 : Hid (BoxC w6 43 GN (resL (.slice a R.text.length cap) R.loc vs R.fk R.fa R.mode (.slice none 0 0))) := hn6
  clear hHeld hA5 hZ5 hB5 hn5 hA6 hZ6 hB6 hn6 hg6 HS3 A_w2 Z_w2 HB_w2
  have HLGN2 : Hid (w.heap.size ≤ GN ∧ w.heap.size < GN ∧ GZ < GN) := ⟨Nat.le_of_lt HLGN.out.1, HLGN.out⟩
  clear HLGN
  have HLGN : Hid (w.heap.size ≤ GN ∧ w.heap.size < GN ∧ GZ < GN) := HLGN2
  clear HLGN2
  go_wp2_with (refine storeO rfl 43 3 _ _ rfl GN 31 rfl (resL (.slice a R.text.length cap) R.loc vs R.fk R.fa R.mode (.slice none 0 0)) (resL (.slice a R.text.length cap) R.loc vs R.fk R.fa 1 (.slice none 0 0)) (.int .i64 1) (.int .i64 R.mode) rfl N_w6.out rfl (fun xs hx => by cases hx) (resL_end (by assumption) 2) one_int (resL_mode _ (by assumption)) ?_)
  intro w7 hz hg
  have HB_w7 : Hid (Below w.heap.size w w7) := HB_w6.out.grown hg HB_w6.out.size (fun j hj => by cases hj; exact (by have := HLGN.out; omega))
  have A_w7 : Hid (BoxC w7 43 w.heap.size (resL (.slice a R.text.length cap) R.loc vs R.fk R.fa R.mode (.slice none 0 0))) := A_w6.out.kept hg (fun e => by have := HLGN.out; have := Option.some.inj e; omega)
  have Z_w7 : Hid (BoxC w7 43 GZ nulL) := Z_w6.out.kept hg (fun e => by have := HLGN.out; have := HLGZ.out; have := Option.some.inj e; omega)
  clear A_w6 Z_w6 N_w6 HB_w6
  have N_w7 : Hid (BoxC w7 43 GN (resL (.slice a R.text.length cap) R.loc vs R.fk R.fa 1 (.slice none 0 0))) := hz
  clear hz hg
  go_wp2_with (refine storeO rfl 43 3 _ _ rfl GN 31 rfl (resL (.slice a R.text.length cap) R.loc vs R.fk R.fa 1 (.slice none 0 0)) (resL (.slice a R.text.length cap) R.loc vs R.fk R.fa 2 (.slice none 0 0)) (.int .i64 2) (.int .i64 1) rfl N_w7.out rfl (fun xs hx => by cases hx) (resL_end (by assumption) 2) one_int (resL_mode _ (by assumption)) ?_)
  intro w8 hz hg
  have HB_w8 : Hid (Below w.heap.size w w8) := HB_w7.out.grown hg HB_w7.out.size (fun j hj => by cases hj; exact (by have := HLGN.out; omega))
  have A_w8 : Hid (BoxC w8 43 w.heap.size (resL (.slice a R.text.length cap) R.loc vs R.fk R.fa R.mode (.slice none 0 0))) := A_w7.out.kept hg (fun e => by have := HLGN.out; have := Option.some.inj e; omega)
  have Z_w8 : Hid (BoxC w8 43 GZ nulL) := Z_w7.out.kept hg (fun e => by have := HLGN.out; have := HLGZ.out; have := Option.some.inj e; omega)
  clear A_w7 Z_w7 N_w7 HB_w7
  have N_w8 : Hid (BoxC w8 43 GN (resL (.slice a R.text.length cap) R.loc vs R.fk R.fa 2 (.slice none 0 0))) := hz
  clear hz hg
  go_wp2_with (first | (refine loadC rfl 43 _ rfl GN rfl (resL (.slice a R.text.length cap) R.loc vs R.fk R.fa 2 (.slice none 0 0)) N_w8.out (by rw [resL_len (by assumption)]; exact wide_res) ?_) | (refine storeC rfl 43 _ _ rfl GZ rfl nulL (resL (.slice a R.text.length cap) R.loc vs R.fk R.fa 2 (.slice none 0 0)) rfl Z_w8.out (by rw [resL_len (by assumption)]; exact wide_res) (resL_one HS.out rfl rfl) (by rw [nul_len, resL_len (by assumption)]) ?_))
  intro w9 hz hg
  have HB_w9 : Hid (Below w.heap.size w w9) := HB_w8.out.grown hg HB_w8.out.size (fun j hj => by cases hj; exact (by have := HLGZ.out; omega))
  have A_w9 : Hid (BoxC w9 43 w.heap.size (resL (.slice a R.text.length cap) R.loc vs R.fk R.fa R.mode (.slice none 0 0))) := A_w8.out.kept hg (fun e => by have := HLGZ.out; have := Option.some.inj e; omega)
  have N_w9 : Hid (BoxC w9 43 GN (resL (.slice a R.text.length cap) R.loc vs R.fk R.fa 2 (.slice none 0 0))) := N_w8.out.kept hg (fun e => by have := HLGZ.out; have := HLGN.out; have := Option.some.inj e; omega)
  clear A_w8 Z_w8 N_w8 HB_w8
  have Z_w9 : Hid (BoxC w9 43 GZ (resL (.slice a R.text.length cap) R.loc vs R.fk R.fa 2 (.slice none 0 0))) := hz
  clear hz hg
  go_wp2_with (fail)
  (try simp only [Exit.inBlock, Exit.then])
  refine bodyPost_ret (ret_box1 rfl _ _ GZ (resL (.slice a R.text.length cap) R.loc vs R.fk R.fa 2 (.slice none 0 0)) rfl Z_w9.out (by rw [resL_len (by assumption)]; exact wide_res)) rfl ?_
  exact ⟨HB_w9.out, _, rfl, ⟨a, cap, vs, rfl, ((HT.out _ HB_w9.out).weak (fun b hb => hb.1)), ((HRg.out _ HB_w9.out).weak (fun b hb => hb.1))⟩⟩
end Go.Proofs.Ytpgjaoemkadenab.Seek
