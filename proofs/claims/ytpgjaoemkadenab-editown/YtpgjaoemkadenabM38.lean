/- Texts of one claim, one behind the other: DoRepl, DoTurned. -/
import Derived.Test.YtpgjaoemkadenabM33
import Derived.Test.YtpgjaoemkadenabM37
import Derived.BigQuiet
import Derived.Deep.RegionHeld3
/- The contract of edit.replaced. -/
set_option linter.unusedVariables false
set_option linter.unusedSimpArgs false
set_option maxRecDepth 100000
namespace Go.Proofs.Ytpgjaoemkadenab.Seek
open Go.RowKit Plain


set_option maxHeartbeats 2000000 in
theorem replaced_no (a : Option Addr) (cap : Nat) (vs : List Value) (R : Res) (w : World) (P : Nat → Prop) (hP : ∀ b, w.heap.size ≤ b → P b) (h : Av w P (.slice a R.text.length cap) R.text) (hr : AvR w P vs R.regs) (n : Nat) (g : Int) (hk0 : 0 ≤ R.loc) (hk1 : R.loc ≤ 4096) (hn : n ≤ 999) (hz : R.text.length ≤ 200) (hb : (R.text.length : Int) < R.loc + (n : Int)) :
    Calls Try.prog 40 #[.agg (resL (.slice a R.text.length cap) R.loc vs R.fk R.fa R.mode (.slice none 0 0)).toArray, .int .i64 (n : Int), .int .i64 g] w fun q w' => DonePost P (nulR, 5) w q w' := by
  have hw1 : IntKind.i64.wrap (R.loc + (n : Int)) = R.loc + (n : Int) := by rw [IntKind.wrap_i64]; omega
  have hvs : vs.length = 27 := hr.len
  have HT : Hid (∀ wx, Below w.heap.size w wx → Av wx (fun b => P b ∧ b < w.heap.size) (.slice a R.text.length cap) R.text) := fun wx hx => (h.both (av_arg h.1)).below hx
  have HRg : Hid (∀ wx, Below w.heap.size w wx → AvR wx (fun b => P b ∧ b < w.heap.size) vs R.regs) := fun wx hx => (hr.both (avR_arg hr.1)).below hx
  have HP : Hid (∀ b, w.heap.size ≤ b → P b) := hP
  have HS : Hid (AllSl vs) := hr.1.1
  clear h hr hP
  go_enter Try.func40, Try.ntmps40
  go_wp2_with (refine boxC rfl 43 _ rfl (resL (.slice a R.text.length cap) R.loc vs R.fk R.fa R.mode (.slice none 0 0)) rfl ?_)
  intro w1 ha hb
  have HB_w1 : Hid (Below w.heap.size w w1) := hb
  have A_w1 : Hid (BoxC w1 43 w.heap.size (resL (.slice a R.text.length cap) R.loc vs R.fk R.fa R.mode (.slice none 0 0))) := ha
  clear ha hb
  go_wp2_with (refine allocC rfl 43 rfl nulL nul_zero ?_)
  intro w2 ha hb
  have HLGZ : Hid (w.heap.size ≤ w1.heap.size ∧ w.heap.size < w1.heap.size) := ⟨HB_w1.out.size, A_w1.out.lt⟩
  have HB_w2 : Hid (Below w.heap.size w w2) := below_trans HB_w1.out hb HB_w1.out.size
  have A_w2 : Hid (BoxC w2 43 w.heap.size (resL (.slice a R.text.length cap) R.loc vs R.fk R.fa R.mode (.slice none 0 0))) := A_w1.out.below hb
  clear A_w1 HB_w1
  have Z_w2 : Hid (BoxC w2 43 w1.heap.size nulL) := ha
  clear ha hb
  generalize w1.heap.size = GZ at *
  have a0 : w2.cell? ⟨w.heap.size, 0, none⟩ = some (.slice a R.text.length cap) := (A_w2.out.cell 0).trans resL_0
  have a1 : w2.cell? ⟨w.heap.size, 1, none⟩ = some (.int .i64 R.loc) := (A_w2.out.cell 1).trans resL_1
  have a29 : w2.cell? ⟨w.heap.size, 29, none⟩ = some (.int .i64 R.fk) := (A_w2.out.cell 29).trans (resL_end (by assumption) 0)
  have a30 : w2.cell? ⟨w.heap.size, 30, none⟩ = some (.int .i64 R.fa) := (A_w2.out.cell 30).trans (resL_end (by assumption) 1)
  go_wp2_with (fail)
  go_quiet (fail)
  generalize hq_w3 : w2.drewN _ = w3
  have hb : Below w2.heap.size w2 w3 := by rw [← hq_w3]; exact below_drewN (Below.refl _ _) _
  clear hq_w3
  have HB_w3 : Hid (Below w.heap.size w w3) := below_trans HB_w2.out hb HB_w2.out.size
  have A_w3 : Hid (BoxC w3 43 w.heap.size (resL (.slice a R.text.length cap) R.loc vs R.fk R.fa R.mode (.slice none 0 0))) := A_w2.out.below hb
  have Z_w3 : Hid (BoxC w3 43 GZ nulL) := Z_w2.out.below hb
  clear A_w2 Z_w2 HB_w2
  clear hb
  clear a0 a1 a29 a30
  go_wp2_with (refine storeC rfl 43 _ _ rfl GZ rfl nulL nulL rfl Z_w3.out wide_res nul_one rfl ?_)
  intro w4 hz hg
  have HB_w4 : Hid (Below w.heap.size w w4) := HB_w3.out.grown hg HB_w3.out.size (fun j hj => by cases hj; exact (by have := HLGZ.out; omega))
  have A_w4 : Hid (BoxC w4 43 w.heap.size (resL (.slice a R.text.length cap) R.loc vs R.fk R.fa R.mode (.slice none 0 0))) := A_w3.out.kept hg (fun e => by have := HLGZ.out; have := Option.some.inj e; omega)
  clear A_w3 Z_w3 HB_w3
  have Z_w4 : Hid (BoxC w4 43 GZ nulL) := hz
  clear hz hg
  go_wp2_with (fail)
  (try simp only [Exit.inBlock, Exit.then])
  refine bodyPost_ret (ret_box rfl _ _ GZ nulL _ rfl rfl Z_w4.out (by first | exact wide_res | (rw [resL_len (by assumption)]; exact wide_res))) rfl ?_
  exact ⟨HB_w4.out, _, nulR, rfl, resAv_nul _ _, fun h => rfl⟩

set_option maxHeartbeats 2000000 in
theorem replaced_ok (a : Option Addr) (cap : Nat) (vs : List Value) (R : Res) (w : World) (P : Nat → Prop) (hP : ∀ b, w.heap.size ≤ b → P b) (h : Av w P (.slice a R.text.length cap) R.text) (hr : AvR w P vs R.regs) (n : Nat) (g : Int) (hk0 : 0 ≤ R.loc) (hk1 : R.loc ≤ 4096) (hn : n ≤ 999) (hz : R.text.length ≤ 200) (hb : R.loc + (n : Int) ≤ (R.text.length : Int)) (X : List Int) (hX : rep n [g] = X) (T : List Int) (hT : wit R.text R.loc.toNat (R.loc.toNat + n) X = T) (hTl : T.length ≤ 200) :
    Calls Try.prog 40 #[.agg (resL (.slice a R.text.length cap) R.loc vs R.fk R.fa R.mode (.slice none 0 0)).toArray, .int .i64 (n : Int), .int .i64 g] w fun q w' => DonePost P ({ R with text := T, loc := R.loc + (n : Int) - 1 }, 0) w q w' := by
  have hw1 : IntKind.i64.wrap (R.loc + (n : Int)) = R.loc + (n : Int) := by rw [IntKind.wrap_i64]; omega
  have hw2 : IntKind.i64.wrap (R.loc + (n : Int) - 1) = R.loc + (n : Int) - 1 := by rw [IntKind.wrap_i64]; omega
  have hb2 : ¬ ((R.text.length : Int) < R.loc + (n : Int)) := by omega
  have hXl : X.length = n := by rw [← hX, rep_len]; show n * 1 = n; omega
  have HRP : Hid (∀ (wx : World) pv, Reads wx pv [g] → Calls Try.prog 11 #[pv, .int .i64 (n : Int)] wx fun e w' => ConcatPost X wx e w') := fun wx pv hp => by rw [← hX]; exact repeat_any _ [g] n wx hp (by show n * 1 ≤ 1000000; omega) (by omega)
  have HWC : Hid (∀ wx, Below w.heap.size w wx → ∀ pv, Reads wx pv X → Calls Try.prog 45 #[.slice a R.text.length cap, .int .i64 R.loc, .int .i64 (R.loc + (n : Int)), pv] wx fun e w' => ConcatPost T wx e w') := fun wx hx pv hp => by
    have q := with_go _ _ R.text X R.loc.toNat (R.loc.toNat + n) wx (h.below hx).1 hp (by omega) (by omega) (by omega) (by omega)
    rw [hT, show ((R.loc.toNat : Nat) : Int) = R.loc by omega, show ((R.loc.toNat + n : Nat) : Int) = R.loc + (n : Int) by omega] at q
    exact q
  clear hT hX hb hXl
  have hvs : vs.length = 27 := hr.len
  have HT : Hid (∀ wx, Below w.heap.size w wx → Av wx (fun b => P b ∧ b < w.heap.size) (.slice a R.text.length cap) R.text) := fun wx hx => (h.both (av_arg h.1)).below hx
  have HRg : Hid (∀ wx, Below w.heap.size w wx → AvR wx (fun b => P b ∧ b < w.heap.size) vs R.regs) := fun wx hx => (hr.both (avR_arg hr.1)).below hx
  have HP : Hid (∀ b, w.heap.size ≤ b → P b) := hP
  have HS : Hid (AllSl vs) := hr.1.1
  clear h hr hP
  go_enter Try.func40, Try.ntmps40
  go_wp2_with (refine boxC rfl 43 _ rfl (resL (.slice a R.text.length cap) R.loc vs R.fk R.fa R.mode (.slice none 0 0)) rfl ?_)
  intro w1 ha hb
  have HB_w1 : Hid (Below w.heap.size w w1) := hb
  have A_w1 : Hid (BoxC w1 43 w.heap.size (resL (.slice a R.text.length cap) R.loc vs R.fk R.fa R.mode (.slice none 0 0))) := ha
  clear ha hb
  go_wp2_with (refine allocC rfl 43 rfl nulL nul_zero ?_)
  intro w2 ha hb
  have HLGZ : Hid (w.heap.size ≤ w1.heap.size ∧ w.heap.size < w1.heap.size) := ⟨HB_w1.out.size, A_w1.out.lt⟩
  have HB_w2 : Hid (Below w.heap.size w w2) := below_trans HB_w1.out hb HB_w1.out.size
  have A_w2 : Hid (BoxC w2 43 w.heap.size (resL (.slice a R.text.length cap) R.loc vs R.fk R.fa R.mode (.slice none 0 0))) := A_w1.out.below hb
  clear A_w1 HB_w1
  have Z_w2 : Hid (BoxC w2 43 w1.heap.size nulL) := ha
  clear ha hb
  generalize w1.heap.size = GZ at *
  have a0 : w2.cell? ⟨w.heap.size, 0, none⟩ = some (.slice a R.text.length cap) := (A_w2.out.cell 0).trans resL_0
  have a1 : w2.cell? ⟨w.heap.size, 1, none⟩ = some (.int .i64 R.loc) := (A_w2.out.cell 1).trans resL_1
  have a29 : w2.cell? ⟨w.heap.size, 29, none⟩ = some (.int .i64 R.fk) := (A_w2.out.cell 29).trans (resL_end (by assumption) 0)
  have a30 : w2.cell? ⟨w.heap.size, 30, none⟩ = some (.int .i64 R.fa) := (A_w2.out.cell 30).trans (resL_end (by assumption) 1)
  go_wp2_with (fail)
  go_quiet (fail)
  generalize hq_w3 : w2.drewN _ = w3
  have hb : Below w2.heap.size w2 w3 := by rw [← hq_w3]; exact below_drewN (Below.refl _ _) _
  clear hq_w3
  have HB_w3 : Hid (Below w.heap.size w w3) := below_trans HB_w2.out hb HB_w2.out.size
  have A_w3 : Hid (BoxC w3 43 w.heap.size (resL (.slice a R.text.length cap) R.loc vs R.fk R.fa R.mode (.slice none 0 0))) := A_w2.out.below hb
  have Z_w3 : Hid (BoxC w3 43 GZ nulL) := Z_w2.out.below hb
  clear A_w2 Z_w2 HB_w2
  clear hb
  clear a0 a1 a29 a30
  go_wp2_with (first | (refine loadC rfl 43 _ rfl w.heap.size rfl (resL (.slice a R.text.length cap) R.loc vs R.fk R.fa R.mode (.slice none 0 0)) A_w3.out (by rw [resL_len (by assumption)]; exact wide_res) ?_) | (refine allocC rfl 43 rfl nulL nul_zero ?_))
  intro w4 ha hb
  have HLGN : Hid (w.heap.size ≤ w3.heap.size ∧ w.heap.size < w3.heap.size ∧ GZ < w3.heap.size) := ⟨HB_w3.out.size, A_w3.out.lt, Z_w3.out.lt⟩
  have HB_w4 : Hid (Below w.heap.size w w4) := below_trans HB_w3.out hb HB_w3.out.size
  have A_w4 : Hid (BoxC w4 43 w.heap.size (resL (.slice a R.text.length cap) R.loc vs R.fk R.fa R.mode (.slice none 0 0))) := A_w3.out.below hb
  have Z_w4 : Hid (BoxC w4 43 GZ nulL) := Z_w3.out.below hb
  clear A_w3 Z_w3 HB_w3
  have N_w4 : Hid (BoxC w4 43 w3.heap.size nulL) := ha
  clear ha hb
  generalize w3.heap.size = GN at *
  go_wp2_with (refine storeC rfl 43 _ _ rfl GN rfl nulL (resL (.slice a R.text.length cap) R.loc vs R.fk R.fa R.mode (.slice none 0 0)) rfl N_w4.out (by rw [resL_len (by assumption)]; exact wide_res) (resL_one HS.out rfl rfl) (by rw [nul_len, resL_len (by assumption)]) ?_)
  intro w5 hz hg
  have HB_w5 : Hid (Below w.heap.size w w5) := HB_w4.out.grown hg HB_w4.out.size (fun j hj => by cases hj; exact (by have := HLGN.out; omega))
  have A_w5 : Hid (BoxC w5 43 w.heap.size (resL (.slice a R.text.length cap) R.loc vs R.fk R.fa R.mode (.slice none 0 0))) := A_w4.out.kept hg (fun e => by have := HLGN.out; have := Option.some.inj e; omega)
  have Z_w5 : Hid (BoxC w5 43 GZ nulL) := Z_w4.out.kept hg (fun e => by have := HLGN.out; have := HLGZ.out; have := Option.some.inj e; omega)
  clear A_w4 Z_w4 N_w4 HB_w4
  have N_w5 : Hid (BoxC w5 43 GN (resL (.slice a R.text.length cap) R.loc vs R.fk R.fa R.mode (.slice none 0 0))) := hz
  clear hz hg
  go_wp2_with (fail)
  have HNW : Hid (Reads (w5.alloc (.cells #[.int .i64 g] 3)) (.slice (some ⟨w5.heap.size, 0, none⟩) 1 1) [g]) := new_one w5 g
  refine (HRP.out _ _ HNW.out).mono ?_
  rintro q w7 ⟨hb7, v7, rfl, ho7⟩
  have hb : Below w5.heap.size w5 w7 := below_trans (box_below _ _) hb7 (box_below _ _).size
  have hr7 := ho7.reads
  obtain ⟨a7, c7, rfl⟩ := hr7.shape
  clear ho7 hb7 HNW
  have HB_w7 : Hid (Below w.heap.size w w7) := below_trans HB_w5.out hb HB_w5.out.size
  have A_w7 : Hid (BoxC w7 43 w.heap.size (resL (.slice a R.text.length cap) R.loc vs R.fk R.fa R.mode (.slice none 0 0))) := A_w5.out.below hb
  have Z_w7 : Hid (BoxC w7 43 GZ nulL) := Z_w5.out.below hb
  have N_w7 : Hid (BoxC w7 43 GN (resL (.slice a R.text.length cap) R.loc vs R.fk R.fa R.mode (.slice none 0 0))) := N_w5.out.below hb
  clear A_w5 Z_w5 N_w5 HB_w5
  clear hb
  have X_w7 : Hid (Reads w7 (.slice a7 X.length c7) X) := hr7
  clear hr7
  go_wp2_with (fail)
  refine (HWC.out _ HB_w7.out _ X_w7.out).mono ?_
  rintro q w8 ⟨hb, vo, rfl, ho⟩
  obtain ⟨a2, c2, rfl⟩ := ho.reads.shape
  obtain ⟨B0, hB0⟩ : ∃ B0, B0 = w7.heap.size := ⟨_, rfl⟩
  have HLB0 : Hid (w.heap.size ≤ B0 ∧ w.heap.size < B0 ∧ GZ < B0 ∧ GN < B0) := by rw [hB0]; exact ⟨HB_w7.out.size, A_w7.out.lt, Z_w7.out.lt, N_w7.out.lt⟩
  have ho2 := av_own ho
  rw [← hB0] at ho2
  clear ho hB0
  have HB_w8 : Hid (Below w.heap.size w w8) := below_trans HB_w7.out hb HB_w7.out.size
  have A_w8 : Hid (BoxC w8 43 w.heap.size (resL (.slice a R.text.length cap) R.loc vs R.fk R.fa R.mode (.slice none 0 0))) := A_w7.out.below hb
  have Z_w8 : Hid (BoxC w8 43 GZ nulL) := Z_w7.out.below hb
  have N_w8 : Hid (BoxC w8 43 GN (resL (.slice a R.text.length cap) R.loc vs R.fk R.fa R.mode (.slice none 0 0))) := N_w7.out.below hb
  have X_w8 : Hid (Reads w8 (.slice a7 X.length c7) X) := X_w7.out.below hb
  clear A_w7 Z_w7 N_w7 X_w7 HB_w7
  clear hb
  have O_w8 : Hid (Av w8 (fun b => B0 ≤ b) (.slice a2 T.length c2) T) := ho2
  clear ho2
  clear X_w8
  go_wp2_with (refine storeP rfl 43 24 _ _ rfl GN 0 rfl (resL (.slice a R.text.length cap) R.loc vs R.fk R.fa R.mode (.slice none 0 0)) [(.slice a2 T.length c2), .int .i64 (R.loc + (n : Int) - 1)] (resL (.slice a2 T.length c2) (R.loc + (n : Int) - 1) vs R.fk R.fa R.mode (.slice none 0 0)) rfl N_w8.out wide_line (fun v hv => by simp at hv; rcases hv with rfl | rfl <;> rfl) (by rw [resL_len (by assumption)]; show 0 + 2 ≤ 33; decide) (resL_line _ _) ?_)
  intro w9 hz hg
  have HB_w9 : Hid (Below w.heap.size w w9) := HB_w8.out.grown hg HB_w8.out.size (fun j hj => by cases hj; exact (by have := HLGN.out; omega))
  have A_w9 : Hid (BoxC w9 43 w.heap.size (resL (.slice a R.text.length cap) R.loc vs R.fk R.fa R.mode (.slice none 0 0))) := A_w8.out.kept hg (fun e => by have := HLGN.out; have := Option.some.inj e; omega)
  have Z_w9 : Hid (BoxC w9 43 GZ nulL) := Z_w8.out.kept hg (fun e => by have := HLGN.out; have := HLGZ.out; have := Option.some.inj e; omega)
  have O_w9 : Hid (Av w9 (fun b => B0 ≤ b) (.slice a2 T.length c2) T) := O_w8.out.stored hg (by have := HLB0.out; show ¬ (B0 ≤ GN); omega)
  clear A_w8 Z_w8 N_w8 O_w8 HB_w8
  have N_w9 : Hid (BoxC w9 43 GN (resL (.slice a2 T.length c2) (R.loc + (n : Int) - 1) vs R.fk R.fa R.mode (.slice none 0 0))) := hz
  clear hz hg
  go_wp2_with (first | (refine loadC rfl 43 _ rfl GN rfl (resL (.slice a2 T.length c2) (R.loc + (n : Int) - 1) vs R.fk R.fa R.mode (.slice none 0 0)) N_w9.out (by rw [resL_len (by assumption)]; exact wide_res) ?_) | (refine storeC rfl 43 _ _ rfl GZ rfl nulL (resL (.slice a2 T.length c2) (R.loc + (n : Int) - 1) vs R.fk R.fa R.mode (.slice none 0 0)) rfl Z_w9.out (by rw [resL_len (by assumption)]; exact wide_res) (resL_one HS.out rfl rfl) (by rw [nul_len, resL_len (by assumption)]) ?_))
  intro w10 hz hg
  have HB_w10 : Hid (Below w.heap.size w w10) := HB_w9.out.grown hg HB_w9.out.size (fun j hj => by cases hj; exact (by have := HLGZ.out; omega))
  have A_w10 : Hid (BoxC w10 43 w.heap.size (resL (.slice a R.text.length cap) R.loc vs R.fk R.fa R.mode (.slice none 0 0))) := A_w9.out.kept hg (fun e => by have := HLGZ.out; have := Option.some.inj e; omega)
  have N_w10 : Hid (BoxC w10 43 GN (resL (.slice a2 T.length c2) (R.loc + (n : Int) - 1) vs R.fk R.fa R.mode (.slice none 0 0))) := N_w9.out.kept hg (fun e => by have := HLGZ.out; have := HLGN.out; have := Option.some.inj e; omega)
  have O_w10 : Hid (Av w10 (fun b => B0 ≤ b) (.slice a2 T.length c2) T) := O_w9.out.stored hg (by have := HLB0.out; show ¬ (B0 ≤ GZ); omega)
  clear A_w9 Z_w9 N_w9 O_w9 HB_w9
  have Z_w10 : Hid (BoxC w10 43 GZ (resL (.slice a2 T.length c2) (R.loc + (n : Int) - 1) vs R.fk R.fa R.mode (.slice none 0 0))) := hz
  clear hz hg
  go_wp2_with (fail)
  (try simp only [Exit.inBlock, Exit.then])
  refine bodyPost_ret (ret_box rfl _ _ GZ (resL (.slice a2 T.length c2) (R.loc + (n : Int) - 1) vs R.fk R.fa R.mode (.slice none 0 0)) _ rfl rfl Z_w10.out (by first | exact wide_res | (rw [resL_len (by assumption)]; exact wide_res))) rfl ?_
  exact ⟨HB_w10.out, _, { R with text := T, loc := R.loc + (n : Int) - 1 }, rfl, ⟨a2, c2, vs, rfl, (O_w10.out.weak (fun b hb => HP.out _ (Nat.le_trans HLB0.out.1 hb))), ((HRg.out _ HB_w10.out).weak (fun b hb => hb.1))⟩, fun _ => rfl⟩

theorem replaced_go (a : Option Addr) (cap : Nat) (vs : List Value) (R : Res) (w : World) (P : Nat → Prop) (hP : ∀ b, w.heap.size ≤ b → P b) (h : Av w P (.slice a R.text.length cap) R.text) (hr : AvR w P vs R.regs) (n : Nat) (g : Int) (hk0 : 0 ≤ R.loc) (hk1 : R.loc ≤ 4096) (hn : n ≤ 999) (hz : R.text.length ≤ 200) :
    Calls Try.prog 40 #[.agg (resL (.slice a R.text.length cap) R.loc vs R.fk R.fa R.mode (.slice none 0 0)).toArray, .int .i64 (n : Int), .int .i64 g] w fun q w' => DonePost P (rpl R n g) w q w' := by
  unfold rpl
  by_cases hb : (R.text.length : Int) < R.loc + (n : Int)
  · rw [if_pos hb]
    exact replaced_no a cap vs R w P hP h hr n g hk0 hk1 hn hz hb
  · rw [if_neg hb]
    refine replaced_ok a cap vs R w P hP h hr n g hk0 hk1 hn hz (by omega) _ rfl _ rfl ?_
    rw [wit_len _ _ _ _ (by omega) (by omega), rep_len]
    show R.loc.toNat + n * 1 + _ ≤ 200
    omega
end Go.Proofs.Ytpgjaoemkadenab.Seek

/- The contract of edit.turned. -/
set_option linter.unusedVariables false
set_option linter.unusedSimpArgs false
set_option maxRecDepth 100000
namespace Go.Proofs.Ytpgjaoemkadenab.Seek
open Go.RowKit Plain


set_option maxHeartbeats 2000000 in
theorem turned_no (a : Option Addr) (cap : Nat) (vs : List Value) (R : Res) (w : World) (P : Nat → Prop) (hP : ∀ b, w.heap.size ≤ b → P b) (h : Av w P (.slice a R.text.length cap) R.text) (hr : AvR w P vs R.regs) (n : Nat) (hk0 : 0 ≤ R.loc) (hkl : R.loc ≤ lastP R.text.length) (hn : n ≤ 999) (hz : R.text.length ≤ 200) (hne : R.text = []) :
    Calls Try.prog 39 #[.agg (resL (.slice a R.text.length cap) R.loc vs R.fk R.fa R.mode (.slice none 0 0)).toArray, .int .i64 (n : Int)] w fun q w' => DonePost P (nulR, 5) w q w' := by
  have HCP : Hid (∀ wx, Below w.heap.size w wx → Calls Try.prog 44 #[.slice a R.text.length cap] wx fun e w' => ConcatPost R.text wx e w') := fun wx hx => copied_go _ _ wx (h.below hx).1 (by unfold Mild; omega)
  have hl0 : R.text.length = 0 := by rw [hne]; rfl
  have hb0 : ((R.text.length : Int) == 0) = true := by simp [hl0]
  clear hne hl0
  have hvs : vs.length = 27 := hr.len
  have HT : Hid (∀ wx, Below w.heap.size w wx → Av wx (fun b => P b ∧ b < w.heap.size) (.slice a R.text.length cap) R.text) := fun wx hx => (h.both (av_arg h.1)).below hx
  have HRg : Hid (∀ wx, Below w.heap.size w wx → AvR wx (fun b => P b ∧ b < w.heap.size) vs R.regs) := fun wx hx => (hr.both (avR_arg hr.1)).below hx
  have HP : Hid (∀ b, w.heap.size ≤ b → P b) := hP
  have HS : Hid (AllSl vs) := hr.1.1
  clear h hr hP
  go_enter Try.func39, Try.ntmps39
  go_wp2_with (refine boxC rfl 43 _ rfl (resL (.slice a R.text.length cap) R.loc vs R.fk R.fa R.mode (.slice none 0 0)) rfl ?_)
  intro w1 ha hb
  have HB_w1 : Hid (Below w.heap.size w w1) := hb
  have A_w1 : Hid (BoxC w1 43 w.heap.size (resL (.slice a R.text.length cap) R.loc vs R.fk R.fa R.mode (.slice none 0 0))) := ha
  clear ha hb
  go_wp2_with (refine allocC rfl 43 rfl nulL nul_zero ?_)
  intro w2 ha hb
  have HLGZ : Hid (w.heap.size ≤ w1.heap.size ∧ w.heap.size < w1.heap.size) := ⟨HB_w1.out.size, A_w1.out.lt⟩
  have HB_w2 : Hid (Below w.heap.size w w2) := below_trans HB_w1.out hb HB_w1.out.size
  have A_w2 : Hid (BoxC w2 43 w.heap.size (resL (.slice a R.text.length cap) R.loc vs R.fk R.fa R.mode (.slice none 0 0))) := A_w1.out.below hb
  clear A_w1 HB_w1
  have Z_w2 : Hid (BoxC w2 43 w1.heap.size nulL) := ha
  clear ha hb
  generalize w1.heap.size = GZ at *
  go_wp2_with (fail)
  have HCS : Hid (∀ wx, Below w2.heap.size w2 wx → wx.cell? ⟨w.heap.size, 0, none⟩ = some (.slice a R.text.length cap) ∧ wx.cell? ⟨w.heap.size, 1, none⟩ = some (.int .i64 R.loc)) := fun wx hx => ⟨((A_w2.out.below hx).cell 0).trans resL_0, ((A_w2.out.below hx).cell 1).trans resL_1⟩
  have HCQ : Hid (∀ wx, Below w2.heap.size w2 wx → Calls Try.prog 44 #[.slice a R.text.length cap] wx fun e w' => ConcatPost R.text wx e w') := fun wx hx => HCP.out wx (below_trans HB_w2.out hx HB_w2.out.size)
  have HD : Hid (Below w2.heap.size w2 w2.drew) := below_drewN (Below.refl _ _) 1
  go_region_held3 (fun wx => wx.cell? ⟨w.heap.size, 0, none⟩ = some (.slice a R.text.length cap) ∧ wx.cell? ⟨w.heap.size, 1, none⟩ = some (.int .i64 R.loc))
    ((refine HCS.out _ ?_; first | exact HD.out | exact hB5))
    (first | (go_at_call 44; refine (HCQ.out _ HD.out).mono ?_; rintro q w5 ⟨hb5, v5, rfl, ho5⟩; have hB5 : Below w2.heap.size w2 w5 := below_trans HD.out hb5 HD.out.size; obtain ⟨a5, c5, hv5⟩ := ho5.reads.shape; subst hv5))
  clear HCS HCQ HCP HD
  clear ho5 hb5
  have HB_w5 : Hid (Below w.heap.size w w5) := below_trans HB_w2.out hB5 HB_w2.out.size
  have A_w5 : Hid (BoxC w5 43 w.heap.size (resL (.slice a R.text.length cap) R.loc vs R.fk R.fa R.mode (.slice none 0 0))) := A_w2.out.below hB5
  have Z_w5 : Hid (BoxC w5 43 GZ nulL) := Z_w2.out.below hB5
  clear A_w2 Z_w2 HB_w2
  clear hB5
  go_wp2_with (refine storeC rfl 43 _ _ rfl GZ rfl nulL nulL rfl Z_w5.out wide_res nul_one rfl ?_)
  intro w6 hz hg
  have HB_w6 : Hid (Below w.heap.size w w6) := HB_w5.out.grown hg HB_w5.out.size (fun j hj => by cases hj; exact (by have := HLGZ.out; omega))
  have A_w6 : Hid (BoxC w6 43 w.heap.size (resL (.slice a R.text.length cap) R.loc vs R.fk R.fa R.mode (.slice none 0 0))) := A_w5.out.kept hg (fun e => by have := HLGZ.out; have := Option.some.inj e; omega)
  clear A_w5 Z_w5 HB_w5
  have Z_w6 : Hid (BoxC w6 43 GZ nulL) := hz
  clear hz hg
  go_wp2_with (fail)
  (try simp only [Exit.inBlock, Exit.then])
  refine bodyPost_ret (ret_box rfl _ _ GZ nulL _ rfl rfl Z_w6.out (by first | exact wide_res | (rw [resL_len (by assumption)]; exact wide_res))) rfl ?_
  exact ⟨HB_w6.out, _, nulR, rfl, resAv_nul _ _, fun h => rfl⟩

set_option maxHeartbeats 2000000 in
theorem turned_ok (a : Option Addr) (cap : Nat) (vs : List Value) (R : Res) (w : World) (P : Nat → Prop) (hP : ∀ b, w.heap.size ≤ b → P b) (h : Av w P (.slice a R.text.length cap) R.text) (hr : AvR w P vs R.regs) (n : Nat) (hk0 : 0 ≤ R.loc) (hkl : R.loc ≤ lastP R.text.length) (hn : n ≤ 999) (hz : R.text.length ≤ 200) (hne : R.text ≠ []) (l e : Nat) (hl : R.loc = (l : Int)) (he : min (R.loc + (n : Int)) (R.text.length : Int) = (e : Int)) (T : List Int) (hT : flp R.text l (e - l) = T) (K : Int) (hK : min (R.loc + (n : Int)) (lastP R.text.length) = K) :
    Calls Try.prog 39 #[.agg (resL (.slice a R.text.length cap) R.loc vs R.fk R.fa R.mode (.slice none 0 0)).toArray, .int .i64 (n : Int)] w fun q w' => DonePost P ({ R with text := T, loc := K }, 0) w q w' := by
  have HCP : Hid (∀ wx, Below w.heap.size w wx → Calls Try.prog 44 #[.slice a R.text.length cap] wx fun e w' => ConcatPost R.text wx e w') := fun wx hx => copied_go _ _ wx (h.below hx).1 (by unfold Mild; omega)
  have hlp : lastP R.text.length = ((R.text.length - 1 : Nat) : Int) := rfl
  have hlen : R.text.length ≠ 0 := fun e => hne (List.length_eq_zero_iff.1 e)
  have hw1 : IntKind.i64.wrap (R.loc + (n : Int)) = R.loc + (n : Int) := by rw [IntKind.wrap_i64]; omega
  have hb0 : ((R.text.length : Int) == 0) = false := by simp; exact hne
  have HLE : Hid (l ≤ e ∧ e ≤ R.text.length ∧ l < R.text.length) := by show _ ∧ _; omega
  have HLo : Hid (R.loc = (l : Int)) := hl
  have HTl : Hid (T.length = R.text.length) := by rw [← hT]; exact flp_len _ _ _ (by omega)
  have HT1 : Hid (flp R.text l (e - l) = T) := hT
  have HNE : Hid (R.text ≠ []) := hne
  clear hl hT hlp hlen hne
  have hvs : vs.length = 27 := hr.len
  have HT : Hid (∀ wx, Below w.heap.size w wx → Av wx (fun b => P b ∧ b < w.heap.size) (.slice a R.text.length cap) R.text) := fun wx hx => (h.both (av_arg h.1)).below hx
  have HRg : Hid (∀ wx, Below w.heap.size w wx → AvR wx (fun b => P b ∧ b < w.heap.size) vs R.regs) := fun wx hx => (hr.both (avR_arg hr.1)).below hx
  have HP : Hid (∀ b, w.heap.size ≤ b → P b) := hP
  have HS : Hid (AllSl vs) := hr.1.1
  clear h hr hP
  go_enter Try.func39, Try.ntmps39
  go_wp2_with (refine boxC rfl 43 _ rfl (resL (.slice a R.text.length cap) R.loc vs R.fk R.fa R.mode (.slice none 0 0)) rfl ?_)
  intro w1 ha hb
  have HB_w1 : Hid (Below w.heap.size w w1) := hb
  have A_w1 : Hid (BoxC w1 43 w.heap.size (resL (.slice a R.text.length cap) R.loc vs R.fk R.fa R.mode (.slice none 0 0))) := ha
  clear ha hb
  go_wp2_with (refine allocC rfl 43 rfl nulL nul_zero ?_)
  intro w2 ha hb
  have HLGZ : Hid (w.heap.size ≤ w1.heap.size ∧ w.heap.size < w1.heap.size) := ⟨HB_w1.out.size, A_w1.out.lt⟩
  have HB_w2 : Hid (Below w.heap.size w w2) := below_trans HB_w1.out hb HB_w1.out.size
  have A_w2 : Hid (BoxC w2 43 w.heap.size (resL (.slice a R.text.length cap) R.loc vs R.fk R.fa R.mode (.slice none 0 0))) := A_w1.out.below hb
  clear A_w1 HB_w1
  have Z_w2 : Hid (BoxC w2 43 w1.heap.size nulL) := ha
  clear ha hb
  generalize w1.heap.size = GZ at *
  go_wp2_with (fail)
  have HCS : Hid (∀ wx, Below w2.heap.size w2 wx → wx.cell? ⟨w.heap.size, 0, none⟩ = some (.slice a R.text.length cap) ∧ wx.cell? ⟨w.heap.size, 1, none⟩ = some (.int .i64 R.loc)) := fun wx hx => ⟨((A_w2.out.below hx).cell 0).trans resL_0, ((A_w2.out.below hx).cell 1).trans resL_1⟩
  have HCQ : Hid (∀ wx, Below w2.heap.size w2 wx → Calls Try.prog 44 #[.slice a R.text.length cap] wx fun e w' => ConcatPost R.text wx e w') := fun wx hx => HCP.out wx (below_trans HB_w2.out hx HB_w2.out.size)
  have HD : Hid (Below w2.heap.size w2 w2.drew) := below_drewN (Below.refl _ _) 1
  go_region_held3 (fun wx => wx.cell? ⟨w.heap.size, 0, none⟩ = some (.slice a R.text.length cap) ∧ wx.cell? ⟨w.heap.size, 1, none⟩ = some (.int .i64 R.loc))
    ((refine HCS.out _ ?_; first | exact HD.out | exact hB5))
    (first | (go_at_call 44; refine (HCQ.out _ HD.out).mono ?_; rintro q w5 ⟨hb5, v5, rfl, ho5⟩; have hB5 : Below w2.heap.size w2 w5 := below_trans HD.out hb5 HD.out.size; obtain ⟨a5, c5, hv5⟩ := ho5.reads.shape; subst hv5))
  clear HCS HCQ HCP HD
  obtain ⟨g, c6, hv5, hBg, hrow⟩ := row_of ho5 HNE.out
  cases hv5
  clear ho5 hb5
  have HLg : Hid (w.heap.size ≤ g ∧ w.heap.size < g ∧ GZ < g) := ⟨Nat.le_trans HB_w2.out.size hBg, Nat.lt_of_lt_of_le A_w2.out.lt hBg, Nat.lt_of_lt_of_le Z_w2.out.lt hBg⟩
  clear hBg
  have HB_w5 : Hid (Below w.heap.size w w5) := below_trans HB_w2.out hB5 HB_w2.out.size
  have A_w5 : Hid (BoxC w5 43 w.heap.size (resL (.slice a R.text.length cap) R.loc vs R.fk R.fa R.mode (.slice none 0 0))) := A_w2.out.below hB5
  have Z_w5 : Hid (BoxC w5 43 GZ nulL) := Z_w2.out.below hB5
  clear A_w2 Z_w2 HB_w2
  clear hB5
  have HR5 : Hid (RowI w5 g c5 R.text) := hrow
  clear hrow
  go_wp2_with (fail)
  go_loopw [9] (fun u9 wl => ∃ k : Nat, u9 = .int .i64 (k : Int) ∧ l ≤ k ∧ k ≤ e ∧ Hid (Below w.heap.size w wl) ∧ Hid (BoxC wl 43 w.heap.size (resL (.slice a R.text.length cap) R.loc vs R.fk R.fa R.mode (.slice none 0 0))) ∧ Hid (BoxC wl 43 GZ nulL) ∧ Hid (RowI wl g c5 (flp R.text l (k - l)))) (fun u9 _ => e - (intOf u9).toNat)
  case atStart => exact ⟨l, by rw [HLo.out], Nat.le_refl _, HLE.out.1, HB_w5, A_w5, Z_w5, by rw [Nat.sub_self, flp_zero]; exact HR5⟩
  case round =>
    obtain ⟨k, rfl, hk, hke, HB_wr, A_wr, Z_wr, HR⟩ := hrel
    clear HR5 A_w5 Z_w5 HB_w5
    by_cases hlt : k < e
    · have hlk := HLE.out
      have hI : (k : Int) < (e : Int) := by omega
      have hI2 : (k : Int) < (R.text.length : Int) := by omega
      have e0 := HR.out.cell k (by rw [flp_len _ _ _ (by omega)]; omega)
      have e1 := HR.out.fr k
      rw [show (flp R.text l (k - l)).getD k 0 = R.text.getD k 0 by have q := flp_get R.text l (k - l) (by omega); rw [show l + (k - l) = k by omega] at q; exact q] at e0
      have HR2 : Hid (RowI (wr.setCell ⟨g, k, none⟩ (.int .i64 (cas (R.text.getD k 0)))) g c5 (flp R.text l (k + 1 - l))) := by
        have q := HR.out.set k (by rw [flp_len _ _ _ (by omega)]; omega) (cas (R.text.getD k 0))
        have q2 := flp_step R.text l (k - l) (by omega)
        rw [show l + (k - l) = k by omega, show k - l + 1 = k + 1 - l by omega] at q2
        rw [q2] at q
        exact q
      have hg := grown_cell wr g k (.int .i64 (cas (R.text.getD k 0)))
      have HB2 : Hid (Below w.heap.size w (wr.setCell ⟨g, k, none⟩ (.int .i64 (cas (R.text.getD k 0))))) := HB_wr.out.grown hg HB_wr.out.size (fun j hj => by cases hj; exact HLg.out.1)
      have A2 : Hid (BoxC (wr.setCell ⟨g, k, none⟩ (.int .i64 (cas (R.text.getD k 0)))) 43 w.heap.size (resL (.slice a R.text.length cap) R.loc vs R.fk R.fa R.mode (.slice none 0 0))) := A_wr.out.kept hg (fun e => by have := HLg.out; have := Option.some.inj e; omega)
      have Z2 : Hid (BoxC (wr.setCell ⟨g, k, none⟩ (.int .i64 (cas (R.text.getD k 0)))) 43 GZ nulL) := Z_wr.out.kept hg (fun e => by have := HLg.out; have := Option.some.inj e; omega)
      generalize R.text.getD k 0 = x at *
      clear hg hlk HR HB_wr A_wr Z_wr
      have hwk : IntKind.i64.wrap ((k : Int) + 1) = (k : Int) + 1 := by rw [IntKind.wrap_i64]; omega
      go_wp2_with (fail)
      refine (cas_go x _).mono ?_
      rintro q wz ⟨rfl, hwz⟩
      subst hwz
      go_wp2_with (fail)
      go_roundw
      case rel => exact ⟨k + 1, by go_num, by omega, by omega, HB2, A2, Z2, HR2⟩
      case measure => simp [intOf] <;> omega
    · obtain rfl : k = e := by omega
      have HgN : Hid (g < wr.heap.size) := HR.out.lt
      rw [HT1.out] at HR
      have ho2 : Av wr (fun b => b = g) (.slice (some ⟨g, 0, none⟩) R.text.length c5) T := by have q := HR.out.reads; rw [HTl.out] at q; exact ⟨q, .inr fun b o n c e => by cases e; rfl⟩
      clear HR
      have hI : ¬ (k : Int) < (k : Int) := by omega
      have O_wr : Hid (Av wr (fun b => b = g) (.slice (some ⟨g, 0, none⟩) R.text.length c5) T) := ho2
      clear ho2
      go_wp2_with (first | (refine loadC rfl 43 _ rfl w.heap.size rfl (resL (.slice a R.text.length cap) R.loc vs R.fk R.fa R.mode (.slice none 0 0)) A_wr.out (by rw [resL_len (by assumption)]; exact wide_res) ?_) | (refine allocC rfl 43 rfl nulL nul_zero ?_))
      intro w6 ha hb
      have HLGN : Hid (w.heap.size ≤ wr.heap.size ∧ w.heap.size < wr.heap.size ∧ GZ < wr.heap.size) := ⟨HB_wr.out.size, A_wr.out.lt, Z_wr.out.lt⟩
      have HB_w6 : Hid (Below w.heap.size w w6) := below_trans HB_wr.out hb HB_wr.out.size
      have A_w6 : Hid (BoxC w6 43 w.heap.size (resL (.slice a R.text.length cap) R.loc vs R.fk R.fa R.mode (.slice none 0 0))) := A_wr.out.below hb
      have Z_w6 : Hid (BoxC w6 43 GZ nulL) := Z_wr.out.below hb
      have O_w6 : Hid (Av w6 (fun b => b = g) (.slice (some ⟨g, 0, none⟩) R.text.length c5) T) := O_wr.out.below hb
      clear A_wr Z_wr O_wr HB_wr
      have N_w6 : Hid (BoxC w6 43 wr.heap.size nulL) := ha
      clear ha hb
      generalize wr.heap.size = GN at *
      go_wp2_with (refine storeC rfl 43 _ _ rfl GN rfl nulL (resL (.slice a R.text.length cap) R.loc vs R.fk R.fa R.mode (.slice none 0 0)) rfl N_w6.out (by rw [resL_len (by assumption)]; exact wide_res) (resL_one HS.out rfl rfl) (by rw [nul_len, resL_len (by assumption)]) ?_)
      intro w7 hz hg
      have HB_w7 : Hid (Below w.heap.size w w7) := HB_w6.out.grown hg HB_w6.out.size (fun j hj => by cases hj; exact (by have := HLGN.out; omega))
      have A_w7 : Hid (BoxC w7 43 w.heap.size (resL (.slice a R.text.length cap) R.loc vs R.fk R.fa R.mode (.slice none 0 0))) := A_w6.out.kept hg (fun e => by have := HLGN.out; have := Option.some.inj e; omega)
      have Z_w7 : Hid (BoxC w7 43 GZ nulL) := Z_w6.out.kept hg (fun e => by have := HLGN.out; have := HLGZ.out; have := Option.some.inj e; omega)
      have O_w7 : Hid (Av w7 (fun b => b = g) (.slice (some ⟨g, 0, none⟩) R.text.length c5) T) := O_w6.out.stored hg (by have := HLg.out; have := HgN.out; show ¬ (GN = g); omega)
      clear A_w6 Z_w6 O_w6 N_w6 HB_w6
      have N_w7 : Hid (BoxC w7 43 GN (resL (.slice a R.text.length cap) R.loc vs R.fk R.fa R.mode (.slice none 0 0))) := hz
      clear hz hg
      go_wp2_with (fail)
      refine (lastPlace_go (some ⟨g, 0, none⟩) R.text.length c5 _ (by omega)).mono ?_
      rintro q wz ⟨rfl, hwz⟩
      subst hwz
      go_wp2_with (refine storeP rfl 43 24 _ _ rfl GN 0 rfl (resL (.slice a R.text.length cap) R.loc vs R.fk R.fa R.mode (.slice none 0 0)) [(.slice (some ⟨g, 0, none⟩) R.text.length c5), .int .i64 K] (resL (.slice (some ⟨g, 0, none⟩) R.text.length c5) K vs R.fk R.fa R.mode (.slice none 0 0)) rfl N_w7.out wide_line (fun v hv => by simp at hv; rcases hv with rfl | rfl <;> rfl) (by rw [resL_len (by assumption)]; show 0 + 2 ≤ 33; decide) (resL_line _ _) ?_)
      intro w8 hz hg
      have HB_w8 : Hid (Below w.heap.size w w8) := HB_w7.out.grown hg HB_w7.out.size (fun j hj => by cases hj; exact (by have := HLGN.out; omega))
      have A_w8 : Hid (BoxC w8 43 w.heap.size (resL (.slice a R.text.length cap) R.loc vs R.fk R.fa R.mode (.slice none 0 0))) := A_w7.out.kept hg (fun e => by have := HLGN.out; have := Option.some.inj e; omega)
      have Z_w8 : Hid (BoxC w8 43 GZ nulL) := Z_w7.out.kept hg (fun e => by have := HLGN.out; have := HLGZ.out; have := Option.some.inj e; omega)
      have O_w8 : Hid (Av w8 (fun b => b = g) (.slice (some ⟨g, 0, none⟩) R.text.length c5) T) := O_w7.out.stored hg (by have := HLg.out; have := HgN.out; show ¬ (GN = g); omega)
      clear A_w7 Z_w7 O_w7 N_w7 HB_w7
      have N_w8 : Hid (BoxC w8 43 GN (resL (.slice (some ⟨g, 0, none⟩) R.text.length c5) K vs R.fk R.fa R.mode (.slice none 0 0))) := hz
      clear hz hg
      go_wp2_with (first | (refine loadC rfl 43 _ rfl GN rfl (resL (.slice (some ⟨g, 0, none⟩) R.text.length c5) K vs R.fk R.fa R.mode (.slice none 0 0)) N_w8.out (by rw [resL_len (by assumption)]; exact wide_res) ?_) | (refine storeC rfl 43 _ _ rfl GZ rfl nulL (resL (.slice (some ⟨g, 0, none⟩) R.text.length c5) K vs R.fk R.fa R.mode (.slice none 0 0)) rfl Z_w8.out (by rw [resL_len (by assumption)]; exact wide_res) (resL_one HS.out rfl rfl) (by rw [nul_len, resL_len (by assumption)]) ?_))
      intro w9 hz hg
      have HB_w9 : Hid (Below w.heap.size w w9) := HB_w8.out.grown hg HB_w8.out.size (fun j hj => by cases hj; exact (by have := HLGZ.out; omega))
      have A_w9 : Hid (BoxC w9 43 w.heap.size (resL (.slice a R.text.length cap) R.loc vs R.fk R.fa R.mode (.slice none 0 0))) := A_w8.out.kept hg (fun e => by have := HLGZ.out; have := Option.some.inj e; omega)
      have O_w9 : Hid (Av w9 (fun b => b = g) (.slice (some ⟨g, 0, none⟩) R.text.length c5) T) := O_w8.out.stored hg (by have := HLg.out; have := HgN.out; show ¬ (GZ = g); omega)
      have N_w9 : Hid (BoxC w9 43 GN (resL (.slice (some ⟨g, 0, none⟩) R.text.length c5) K vs R.fk R.fa R.mode (.slice none 0 0))) := N_w8.out.kept hg (fun e => by have := HLGZ.out; have := HLGN.out; have := Option.some.inj e; omega)
      clear A_w8 Z_w8 O_w8 N_w8 HB_w8
      have Z_w9 : Hid (BoxC w9 43 GZ (resL (.slice (some ⟨g, 0, none⟩) R.text.length c5) K vs R.fk R.fa R.mode (.slice none 0 0))) := hz
      clear hz hg
      go_wp2_with (fail)
      (try simp only [Exit.inBlock, Exit.then])
      refine bodyPost_ret (ret_box rfl _ _ GZ (resL (.slice (some ⟨g, 0, none⟩) R.text.length c5) K vs R.fk R.fa R.mode (.slice none 0 0)) _ rfl rfl Z_w9.out (by first | exact wide_res | (rw [resL_len (by assumption)]; exact wide_res))) rfl ?_
      refine ⟨HB_w9.out, _, { R with text := T, loc := K }, rfl, ⟨some ⟨g, 0, none⟩, c5, vs, ?_, ?_, ((HRg.out _ HB_w9.out).weak (fun b hb => hb.1))⟩, fun _ => rfl⟩
      · show _ = Value.agg (resL (.slice _ T.length _) _ _ _ _ _ _).toArray
        rw [HTl.out]
      · show Av _ _ (.slice _ T.length _) T
        rw [HTl.out]
        exact O_w9.out.weak (fun b hb => by subst hb; exact HP.out _ HLg.out.1)

theorem turned_go (a : Option Addr) (cap : Nat) (vs : List Value) (R : Res) (w : World) (P : Nat → Prop) (hP : ∀ b, w.heap.size ≤ b → P b) (h : Av w P (.slice a R.text.length cap) R.text) (hr : AvR w P vs R.regs) (n : Nat) (hk0 : 0 ≤ R.loc) (hkl : R.loc ≤ lastP R.text.length) (hn : n ≤ 999) (hz : R.text.length ≤ 200) :
    Calls Try.prog 39 #[.agg (resL (.slice a R.text.length cap) R.loc vs R.fk R.fa R.mode (.slice none 0 0)).toArray, .int .i64 (n : Int)] w fun q w' => DonePost P (trn R n) w q w' := by
  unfold trn
  by_cases hne : R.text = []
  · rw [if_pos hne]
    exact turned_no a cap vs R w P hP h hr n hk0 hkl hn hz hne
  · rw [if_neg hne]
    have hlen : R.text.length ≠ 0 := fun e => hne (List.length_eq_zero_iff.1 e)
    have hlp : lastP R.text.length = ((R.text.length - 1 : Nat) : Int) := rfl
    exact turned_ok a cap vs R w P hP h hr n hk0 hkl hn hz hne R.loc.toNat (min (R.loc.toNat + n) R.text.length) (by omega) (by omega) _ (flp_all' _ _ _ (by omega)) _ rfl
end Go.Proofs.Ytpgjaoemkadenab.Seek
