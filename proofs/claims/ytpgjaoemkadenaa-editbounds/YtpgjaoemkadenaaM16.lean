/- Texts of one claim, one behind the other: DoActed, DoActs. -/
import Derived.Test.YtpgjaoemkadenaaM15
import Derived.BigQuiet
/- The contract of edit.acted. -/
set_option linter.unusedVariables false
set_option linter.unusedSimpArgs false
set_option maxRecDepth 100000
namespace Go.Proofs.Ytpgjaoemkadenaa.Seek
open Go.RowKit Plain


set_option maxHeartbeats 2000000 in
theorem acted_d (a : Option Addr) (cap : Nat) (vs : List Value) (R : Res) (c r v g : Int) (w : World) (P : Nat → Prop) (hP : ∀ b, w.heap.size ≤ b → P b) (h : Av w P (.slice a R.text.length cap) R.text) (hr : AvR w P vs R.regs) (f t : Nat) (h1 : f ≤ t) (h2 : t ≤ R.text.length) (hz : R.text.length ≤ 200) (T : List Int) (hT : wit R.text f t [] = T) (hTl : T.length ≤ 200) (K : Int) (hK : min (f : Int) (lastP T.length) = K) :
    Calls Try.prog 48 #[.agg (resL (.slice a R.text.length cap) R.loc vs R.fk R.fa R.mode (.slice none 0 0)).toArray, .agg #[.int .i64 c, .int .i64 r, .int .i64 100, .int .i64 v, .int .i64 g], .int .i64 (f : Int), .int .i64 (t : Int)] w fun q w' => Below w.heap.size w w' ∧ ∃ x, q = .returned x ∧ ResAv w' P x { R with text := T, loc := K } := by
  have HWC : Hid (∀ wx, Below w.heap.size w wx → Calls Try.prog 28 #[.slice a R.text.length cap, .int .i64 (f : Int), .int .i64 (t : Int), .slice none 0 0] wx fun e w' => ConcatPost T wx e w') := fun wx hx => by rw [← hT]; exact with_go _ _ R.text [] f t wx (h.below hx).1 (.inl ⟨_, _, rfl, rfl⟩) h1 h2 (by omega) (Nat.zero_le _)
  clear hT
  have hvs : vs.length = 27 := hr.len
  have HT : Hid (∀ wx, Below w.heap.size w wx → Av wx (fun b => P b ∧ b < w.heap.size) (.slice a R.text.length cap) R.text) := fun wx hx => (h.both (av_arg h.1)).below hx
  have HRg : Hid (∀ wx, Below w.heap.size w wx → AvR wx (fun b => P b ∧ b < w.heap.size) vs R.regs) := fun wx hx => (hr.both (avR_arg hr.1)).below hx
  have HP : Hid (∀ b, w.heap.size ≤ b → P b) := hP
  have HS : Hid (AllSl vs) := hr.1.1
  clear h hr hP
  go_enter Try.func48, Try.ntmps48
  go_wp2_with (refine boxC rfl 38 _ rfl (resL (.slice a R.text.length cap) R.loc vs R.fk R.fa R.mode (.slice none 0 0)) rfl ?_)
  intro w1 ha hb
  have HB_w1 : Hid (Below w.heap.size w w1) := hb
  have A_w1 : Hid (BoxC w1 38 w.heap.size (resL (.slice a R.text.length cap) R.loc vs R.fk R.fa R.mode (.slice none 0 0))) := ha
  clear ha hb
  go_wp2_with (refine boxC rfl 35 _ rfl [.int .i64 c, .int .i64 r, .int .i64 100, .int .i64 v, .int .i64 g] rfl ?_)
  intro w2 ha hb
  have HLGC : Hid (w.heap.size ≤ w1.heap.size ∧ w.heap.size < w1.heap.size) := ⟨HB_w1.out.size, A_w1.out.lt⟩
  have HB_w2 : Hid (Below w.heap.size w w2) := below_trans HB_w1.out hb HB_w1.out.size
  have A_w2 : Hid (BoxC w2 38 w.heap.size (resL (.slice a R.text.length cap) R.loc vs R.fk R.fa R.mode (.slice none 0 0))) := A_w1.out.below hb
  clear A_w1 HB_w1
  have C_w2 : Hid (BoxC w2 35 w1.heap.size [.int .i64 c, .int .i64 r, .int .i64 100, .int .i64 v, .int .i64 g]) := ha
  clear ha hb
  generalize w1.heap.size = GC at *
  go_wp2_with (refine allocC rfl 38 rfl nulL nul_zero ?_)
  intro w3 ha hb
  have HLGZ : Hid (w.heap.size ≤ w2.heap.size ∧ w.heap.size < w2.heap.size ∧ GC < w2.heap.size) := ⟨HB_w2.out.size, A_w2.out.lt, C_w2.out.lt⟩
  have HB_w3 : Hid (Below w.heap.size w w3) := below_trans HB_w2.out hb HB_w2.out.size
  have A_w3 : Hid (BoxC w3 38 w.heap.size (resL (.slice a R.text.length cap) R.loc vs R.fk R.fa R.mode (.slice none 0 0))) := A_w2.out.below hb
  have C_w3 : Hid (BoxC w3 35 GC [.int .i64 c, .int .i64 r, .int .i64 100, .int .i64 v, .int .i64 g]) := C_w2.out.below hb
  clear A_w2 C_w2 HB_w2
  have Z_w3 : Hid (BoxC w3 38 w2.heap.size nulL) := ha
  clear ha hb
  generalize w2.heap.size = GZ at *
  have a0 : w3.cell? ⟨w.heap.size, 0, none⟩ = some (.slice a R.text.length cap) := (A_w3.out.cell 0).trans resL_0
  have a1 : w3.cell? ⟨w.heap.size, 1, none⟩ = some (.int .i64 R.loc) := (A_w3.out.cell 1).trans resL_1
  have a29 : w3.cell? ⟨w.heap.size, 29, none⟩ = some (.int .i64 R.fk) := (A_w3.out.cell 29).trans (resL_end (by assumption) 0)
  have a30 : w3.cell? ⟨w.heap.size, 30, none⟩ = some (.int .i64 R.fa) := (A_w3.out.cell 30).trans (resL_end (by assumption) 1)
  go_wp2_with (fail)
  go_quiet (fail)
  generalize hq_w4 : w3.drewN _ = w4
  have hb : Below w3.heap.size w3 w4 := by rw [← hq_w4]; exact below_drewN (Below.refl _ _) _
  clear hq_w4
  have HB_w4 : Hid (Below w.heap.size w w4) := below_trans HB_w3.out hb HB_w3.out.size
  have A_w4 : Hid (BoxC w4 38 w.heap.size (resL (.slice a R.text.length cap) R.loc vs R.fk R.fa R.mode (.slice none 0 0))) := A_w3.out.below hb
  have C_w4 : Hid (BoxC w4 35 GC [.int .i64 c, .int .i64 r, .int .i64 100, .int .i64 v, .int .i64 g]) := C_w3.out.below hb
  have Z_w4 : Hid (BoxC w4 38 GZ nulL) := Z_w3.out.below hb
  clear A_w3 C_w3 Z_w3 HB_w3
  clear hb
  clear a0 a1 a29 a30
  have cC2 : w4.cell? ⟨GC, 2, none⟩ = some (.int .i64 100) := (C_w4.out.cell 2).trans rfl
  have cC3 : w4.cell? ⟨GC, 3, none⟩ = some (.int .i64 v) := (C_w4.out.cell 3).trans rfl
  go_wp2_with (fail)
  refine (HWC.out _ HB_w4.out).mono ?_
  rintro q w5 ⟨hb, vo, rfl, ho⟩
  obtain ⟨a2, c2, rfl⟩ := ho.reads.shape
  obtain ⟨B0, hB0⟩ : ∃ B0, B0 = w4.heap.size := ⟨_, rfl⟩
  have HLB0 : Hid (w.heap.size ≤ B0 ∧ w.heap.size < B0 ∧ GC < B0 ∧ GZ < B0) := by rw [hB0]; exact ⟨HB_w4.out.size, A_w4.out.lt, C_w4.out.lt, Z_w4.out.lt⟩
  have ho2 := av_own ho
  rw [← hB0] at ho2
  clear ho hB0
  have HB_w5 : Hid (Below w.heap.size w w5) := below_trans HB_w4.out hb HB_w4.out.size
  have A_w5 : Hid (BoxC w5 38 w.heap.size (resL (.slice a R.text.length cap) R.loc vs R.fk R.fa R.mode (.slice none 0 0))) := A_w4.out.below hb
  have C_w5 : Hid (BoxC w5 35 GC [.int .i64 c, .int .i64 r, .int .i64 100, .int .i64 v, .int .i64 g]) := C_w4.out.below hb
  have Z_w5 : Hid (BoxC w5 38 GZ nulL) := Z_w4.out.below hb
  clear A_w4 C_w4 Z_w4 HB_w4
  clear hb
  have O_w5 : Hid (Av w5 (fun b => B0 ≤ b) (.slice a2 T.length c2) T) := ho2
  clear ho2
  clear cC2 cC3
  clear C_w5
  go_wp2_with (fail)
  refine (lastPlace_go a2 T.length c2 _ (by omega)).mono ?_
  rintro q wz ⟨rfl, hwz⟩
  subst hwz
  go_wp2_with (refine storeP rfl 38 24 _ _ rfl w.heap.size 0 rfl (resL (.slice a R.text.length cap) R.loc vs R.fk R.fa R.mode (.slice none 0 0)) [(.slice a2 T.length c2), .int .i64 K] (resL (.slice a2 T.length c2) K vs R.fk R.fa R.mode (.slice none 0 0)) rfl A_w5.out wide_line (fun v hv => by simp at hv; rcases hv with rfl | rfl <;> rfl) (by rw [resL_len (by assumption)]; show 0 + 2 ≤ 33; decide) (resL_line _ _) ?_)
  intro w6 hz hg
  have HB_w6 : Hid (Below w.heap.size w w6) := HB_w5.out.grown hg HB_w5.out.size (fun j hj => by cases hj; exact Nat.le_refl _)
  have Z_w6 : Hid (BoxC w6 38 GZ nulL) := Z_w5.out.kept hg (fun e => by have := HLGZ.out; have := Option.some.inj e; omega)
  have O_w6 : Hid (Av w6 (fun b => B0 ≤ b) (.slice a2 T.length c2) T) := O_w5.out.stored hg (by have := HLB0.out; show ¬ (B0 ≤ w.heap.size); omega)
  clear A_w5 Z_w5 O_w5 HB_w5
  have A_w6 : Hid (BoxC w6 38 w.heap.size (resL (.slice a2 T.length c2) K vs R.fk R.fa R.mode (.slice none 0 0))) := hz
  clear hz hg
  go_wp2_with (first | (refine loadC rfl 38 _ rfl w.heap.size rfl (resL (.slice a2 T.length c2) K vs R.fk R.fa R.mode (.slice none 0 0)) A_w6.out (by rw [resL_len (by assumption)]; exact wide_res) ?_) | (refine storeC rfl 38 _ _ rfl GZ rfl nulL (resL (.slice a2 T.length c2) K vs R.fk R.fa R.mode (.slice none 0 0)) rfl Z_w6.out (by rw [resL_len (by assumption)]; exact wide_res) (resL_one HS.out rfl rfl) (by rw [nul_len, resL_len (by assumption)]) ?_))
  intro w7 hz hg
  have HB_w7 : Hid (Below w.heap.size w w7) := HB_w6.out.grown hg HB_w6.out.size (fun j hj => by cases hj; exact (by have := HLGZ.out; omega))
  have A_w7 : Hid (BoxC w7 38 w.heap.size (resL (.slice a2 T.length c2) K vs R.fk R.fa R.mode (.slice none 0 0))) := A_w6.out.kept hg (fun e => by have := HLGZ.out; have := Option.some.inj e; omega)
  have O_w7 : Hid (Av w7 (fun b => B0 ≤ b) (.slice a2 T.length c2) T) := O_w6.out.stored hg (by have := HLB0.out; show ¬ (B0 ≤ GZ); omega)
  clear A_w6 Z_w6 O_w6 HB_w6
  have Z_w7 : Hid (BoxC w7 38 GZ (resL (.slice a2 T.length c2) K vs R.fk R.fa R.mode (.slice none 0 0))) := hz
  clear hz hg
  go_wp2_with (fail)
  (try simp only [Exit.inBlock, Exit.then])
  refine bodyPost_ret (ret_box1 rfl _ _ GZ (resL (.slice a2 T.length c2) K vs R.fk R.fa R.mode (.slice none 0 0)) rfl Z_w7.out (by rw [resL_len (by assumption)]; exact wide_res)) rfl ?_
  exact ⟨HB_w7.out, _, rfl, ⟨a2, c2, vs, rfl, (O_w7.out.weak (fun b hb => HP.out _ (Nat.le_trans HLB0.out.1 hb))), ((HRg.out _ HB_w7.out).weak (fun b hb => hb.1))⟩⟩

set_option maxHeartbeats 2000000 in
theorem acted_c (a : Option Addr) (cap : Nat) (vs : List Value) (R : Res) (c r v g : Int) (w : World) (P : Nat → Prop) (hP : ∀ b, w.heap.size ≤ b → P b) (h : Av w P (.slice a R.text.length cap) R.text) (hr : AvR w P vs R.regs) (f t : Nat) (h1 : f ≤ t) (h2 : t ≤ R.text.length) (hz : R.text.length ≤ 200) (T : List Int) (hT : wit R.text f t [] = T) (hTl : T.length ≤ 200) :
    Calls Try.prog 48 #[.agg (resL (.slice a R.text.length cap) R.loc vs R.fk R.fa R.mode (.slice none 0 0)).toArray, .agg #[.int .i64 c, .int .i64 r, .int .i64 99, .int .i64 v, .int .i64 g], .int .i64 (f : Int), .int .i64 (t : Int)] w fun q w' => Below w.heap.size w w' ∧ ∃ x, q = .returned x ∧ ResAv w' P x { R with text := T, loc := (f : Int), mode := 1 } := by
  have HWC : Hid (∀ wx, Below w.heap.size w wx → Calls Try.prog 28 #[.slice a R.text.length cap, .int .i64 (f : Int), .int .i64 (t : Int), .slice none 0 0] wx fun e w' => ConcatPost T wx e w') := fun wx hx => by rw [← hT]; exact with_go _ _ R.text [] f t wx (h.below hx).1 (.inl ⟨_, _, rfl, rfl⟩) h1 h2 (by omega) (Nat.zero_le _)
  clear hT
  have hvs : vs.length = 27 := hr.len
  have HT : Hid (∀ wx, Below w.heap.size w wx → Av wx (fun b => P b ∧ b < w.heap.size) (.slice a R.text.length cap) R.text) := fun wx hx => (h.both (av_arg h.1)).below hx
  have HRg : Hid (∀ wx, Below w.heap.size w wx → AvR wx (fun b => P b ∧ b < w.heap.size) vs R.regs) := fun wx hx => (hr.both (avR_arg hr.1)).below hx
  have HP : Hid (∀ b, w.heap.size ≤ b → P b) := hP
  have HS : Hid (AllSl vs) := hr.1.1
  clear h hr hP
  go_enter Try.func48, Try.ntmps48
  go_wp2_with (refine boxC rfl 38 _ rfl (resL (.slice a R.text.length cap) R.loc vs R.fk R.fa R.mode (.slice none 0 0)) rfl ?_)
  intro w1 ha hb
  have HB_w1 : Hid (Below w.heap.size w w1) := hb
  have A_w1 : Hid (BoxC w1 38 w.heap.size (resL (.slice a R.text.length cap) R.loc vs R.fk R.fa R.mode (.slice none 0 0))) := ha
  clear ha hb
  go_wp2_with (refine boxC rfl 35 _ rfl [.int .i64 c, .int .i64 r, .int .i64 99, .int .i64 v, .int .i64 g] rfl ?_)
  intro w2 ha hb
  have HLGC : Hid (w.heap.size ≤ w1.heap.size ∧ w.heap.size < w1.heap.size) := ⟨HB_w1.out.size, A_w1.out.lt⟩
  have HB_w2 : Hid (Below w.heap.size w w2) := below_trans HB_w1.out hb HB_w1.out.size
  have A_w2 : Hid (BoxC w2 38 w.heap.size (resL (.slice a R.text.length cap) R.loc vs R.fk R.fa R.mode (.slice none 0 0))) := A_w1.out.below hb
  clear A_w1 HB_w1
  have C_w2 : Hid (BoxC w2 35 w1.heap.size [.int .i64 c, .int .i64 r, .int .i64 99, .int .i64 v, .int .i64 g]) := ha
  clear ha hb
  generalize w1.heap.size = GC at *
  go_wp2_with (refine allocC rfl 38 rfl nulL nul_zero ?_)
  intro w3 ha hb
  have HLGZ : Hid (w.heap.size ≤ w2.heap.size ∧ w.heap.size < w2.heap.size ∧ GC < w2.heap.size) := ⟨HB_w2.out.size, A_w2.out.lt, C_w2.out.lt⟩
  have HB_w3 : Hid (Below w.heap.size w w3) := below_trans HB_w2.out hb HB_w2.out.size
  have A_w3 : Hid (BoxC w3 38 w.heap.size (resL (.slice a R.text.length cap) R.loc vs R.fk R.fa R.mode (.slice none 0 0))) := A_w2.out.below hb
  have C_w3 : Hid (BoxC w3 35 GC [.int .i64 c, .int .i64 r, .int .i64 99, .int .i64 v, .int .i64 g]) := C_w2.out.below hb
  clear A_w2 C_w2 HB_w2
  have Z_w3 : Hid (BoxC w3 38 w2.heap.size nulL) := ha
  clear ha hb
  generalize w2.heap.size = GZ at *
  have a0 : w3.cell? ⟨w.heap.size, 0, none⟩ = some (.slice a R.text.length cap) := (A_w3.out.cell 0).trans resL_0
  have a1 : w3.cell? ⟨w.heap.size, 1, none⟩ = some (.int .i64 R.loc) := (A_w3.out.cell 1).trans resL_1
  have a29 : w3.cell? ⟨w.heap.size, 29, none⟩ = some (.int .i64 R.fk) := (A_w3.out.cell 29).trans (resL_end (by assumption) 0)
  have a30 : w3.cell? ⟨w.heap.size, 30, none⟩ = some (.int .i64 R.fa) := (A_w3.out.cell 30).trans (resL_end (by assumption) 1)
  go_wp2_with (fail)
  go_quiet (fail)
  generalize hq_w4 : w3.drewN _ = w4
  have hb : Below w3.heap.size w3 w4 := by rw [← hq_w4]; exact below_drewN (Below.refl _ _) _
  clear hq_w4
  have HB_w4 : Hid (Below w.heap.size w w4) := below_trans HB_w3.out hb HB_w3.out.size
  have A_w4 : Hid (BoxC w4 38 w.heap.size (resL (.slice a R.text.length cap) R.loc vs R.fk R.fa R.mode (.slice none 0 0))) := A_w3.out.below hb
  have C_w4 : Hid (BoxC w4 35 GC [.int .i64 c, .int .i64 r, .int .i64 99, .int .i64 v, .int .i64 g]) := C_w3.out.below hb
  have Z_w4 : Hid (BoxC w4 38 GZ nulL) := Z_w3.out.below hb
  clear A_w3 C_w3 Z_w3 HB_w3
  clear hb
  clear a0 a1 a29 a30
  have cC2 : w4.cell? ⟨GC, 2, none⟩ = some (.int .i64 99) := (C_w4.out.cell 2).trans rfl
  have cC3 : w4.cell? ⟨GC, 3, none⟩ = some (.int .i64 v) := (C_w4.out.cell 3).trans rfl
  go_wp2_with (fail)
  refine (HWC.out _ HB_w4.out).mono ?_
  rintro q w5 ⟨hb, vo, rfl, ho⟩
  obtain ⟨a2, c2, rfl⟩ := ho.reads.shape
  obtain ⟨B0, hB0⟩ : ∃ B0, B0 = w4.heap.size := ⟨_, rfl⟩
  have HLB0 : Hid (w.heap.size ≤ B0 ∧ w.heap.size < B0 ∧ GC < B0 ∧ GZ < B0) := by rw [hB0]; exact ⟨HB_w4.out.size, A_w4.out.lt, C_w4.out.lt, Z_w4.out.lt⟩
  have ho2 := av_own ho
  rw [← hB0] at ho2
  clear ho hB0
  have HB_w5 : Hid (Below w.heap.size w w5) := below_trans HB_w4.out hb HB_w4.out.size
  have A_w5 : Hid (BoxC w5 38 w.heap.size (resL (.slice a R.text.length cap) R.loc vs R.fk R.fa R.mode (.slice none 0 0))) := A_w4.out.below hb
  have C_w5 : Hid (BoxC w5 35 GC [.int .i64 c, .int .i64 r, .int .i64 99, .int .i64 v, .int .i64 g]) := C_w4.out.below hb
  have Z_w5 : Hid (BoxC w5 38 GZ nulL) := Z_w4.out.below hb
  clear A_w4 C_w4 Z_w4 HB_w4
  clear hb
  have O_w5 : Hid (Av w5 (fun b => B0 ≤ b) (.slice a2 T.length c2) T) := ho2
  clear ho2
  clear cC2 cC3
  clear C_w5
  go_wp2_with (refine storeP rfl 38 24 _ _ rfl w.heap.size 0 rfl (resL (.slice a R.text.length cap) R.loc vs R.fk R.fa R.mode (.slice none 0 0)) [(.slice a2 T.length c2), .int .i64 (f : Int)] (resL (.slice a2 T.length c2) (f : Int) vs R.fk R.fa R.mode (.slice none 0 0)) rfl A_w5.out wide_line (fun v hv => by simp at hv; rcases hv with rfl | rfl <;> rfl) (by rw [resL_len (by assumption)]; show 0 + 2 ≤ 33; decide) (resL_line _ _) ?_)
  intro w6 hz hg
  have HB_w6 : Hid (Below w.heap.size w w6) := HB_w5.out.grown hg HB_w5.out.size (fun j hj => by cases hj; exact Nat.le_refl _)
  have Z_w6 : Hid (BoxC w6 38 GZ nulL) := Z_w5.out.kept hg (fun e => by have := HLGZ.out; have := Option.some.inj e; omega)
  have O_w6 : Hid (Av w6 (fun b => B0 ≤ b) (.slice a2 T.length c2) T) := O_w5.out.stored hg (by have := HLB0.out; show ¬ (B0 ≤ w.heap.size); omega)
  clear A_w5 Z_w5 O_w5 HB_w5
  have A_w6 : Hid (BoxC w6 38 w.heap.size (resL (.slice a2 T.length c2) (f : Int) vs R.fk R.fa R.mode (.slice none 0 0))) := hz
  clear hz hg
  go_wp2_with (refine storeO rfl 38 3 _ _ rfl w.heap.size 31 rfl (resL (.slice a2 T.length c2) (f : Int) vs R.fk R.fa R.mode (.slice none 0 0)) (resL (.slice a2 T.length c2) (f : Int) vs R.fk R.fa 1 (.slice none 0 0)) (.int .i64 1) (.int .i64 R.mode) rfl A_w6.out rfl (fun xs hx => by cases hx) (resL_end (by assumption) 2) one_int (resL_mode _ (by assumption)) ?_)
  intro w7 hz hg
  have HB_w7 : Hid (Below w.heap.size w w7) := HB_w6.out.grown hg HB_w6.out.size (fun j hj => by cases hj; exact Nat.le_refl _)
  have Z_w7 : Hid (BoxC w7 38 GZ nulL) := Z_w6.out.kept hg (fun e => by have := HLGZ.out; have := Option.some.inj e; omega)
  have O_w7 : Hid (Av w7 (fun b => B0 ≤ b) (.slice a2 T.length c2) T) := O_w6.out.stored hg (by have := HLB0.out; show ¬ (B0 ≤ w.heap.size); omega)
  clear A_w6 Z_w6 O_w6 HB_w6
  have A_w7 : Hid (BoxC w7 38 w.heap.size (resL (.slice a2 T.length c2) (f : Int) vs R.fk R.fa 1 (.slice none 0 0))) := hz
  clear hz hg
  go_wp2_with (first | (refine loadC rfl 38 _ rfl w.heap.size rfl (resL (.slice a2 T.length c2) (f : Int) vs R.fk R.fa 1 (.slice none 0 0)) A_w7.out (by rw [resL_len (by assumption)]; exact wide_res) ?_) | (refine storeC rfl 38 _ _ rfl GZ rfl nulL (resL (.slice a2 T.length c2) (f : Int) vs R.fk R.fa 1 (.slice none 0 0)) rfl Z_w7.out (by rw [resL_len (by assumption)]; exact wide_res) (resL_one HS.out rfl rfl) (by rw [nul_len, resL_len (by assumption)]) ?_))
  intro w8 hz hg
  have HB_w8 : Hid (Below w.heap.size w w8) := HB_w7.out.grown hg HB_w7.out.size (fun j hj => by cases hj; exact (by have := HLGZ.out; omega))
  have A_w8 : Hid (BoxC w8 38 w.heap.size (resL (.slice a2 T.length c2) (f : Int) vs R.fk R.fa 1 (.slice none 0 0))) := A_w7.out.kept hg (fun e => by have := HLGZ.out; have := Option.some.inj e; omega)
  have O_w8 : Hid (Av w8 (fun b => B0 ≤ b) (.slice a2 T.length c2) T) := O_w7.out.stored hg (by have := HLB0.out; show ¬ (B0 ≤ GZ); omega)
  clear A_w7 Z_w7 O_w7 HB_w7
  have Z_w8 : Hid (BoxC w8 38 GZ (resL (.slice a2 T.length c2) (f : Int) vs R.fk R.fa 1 (.slice none 0 0))) := hz
  clear hz hg
  go_wp2_with (fail)
  (try simp only [Exit.inBlock, Exit.then])
  refine bodyPost_ret (ret_box1 rfl _ _ GZ (resL (.slice a2 T.length c2) (f : Int) vs R.fk R.fa 1 (.slice none 0 0)) rfl Z_w8.out (by rw [resL_len (by assumption)]; exact wide_res)) rfl ?_
  exact ⟨HB_w8.out, _, rfl, ⟨a2, c2, vs, rfl, (O_w8.out.weak (fun b hb => HP.out _ (Nat.le_trans HLB0.out.1 hb))), ((HRg.out _ HB_w8.out).weak (fun b hb => hb.1))⟩⟩

set_option maxHeartbeats 2000000 in
theorem acted_yy (a : Option Addr) (cap : Nat) (vs : List Value) (R : Res) (c r g : Int) (w : World) (P : Nat → Prop) (hP : ∀ b, w.heap.size ≤ b → P b) (h : Av w P (.slice a R.text.length cap) R.text) (hr : AvR w P vs R.regs) (f t : Nat) (h1 : f ≤ t) (h2 : t ≤ R.text.length) (hz : R.text.length ≤ 200) :
    Calls Try.prog 48 #[.agg (resL (.slice a R.text.length cap) R.loc vs R.fk R.fa R.mode (.slice none 0 0)).toArray, .agg #[.int .i64 c, .int .i64 r, .int .i64 121, .int .i64 121, .int .i64 g], .int .i64 (f : Int), .int .i64 (t : Int)] w fun q w' => Below w.heap.size w w' ∧ ∃ x, q = .returned x ∧ ResAv w' P x { R with loc := R.loc } := by
  have hvs : vs.length = 27 := hr.len
  have HT : Hid (∀ wx, Below w.heap.size w wx → Av wx (fun b => P b ∧ b < w.heap.size) (.slice a R.text.length cap) R.text) := fun wx hx => (h.both (av_arg h.1)).below hx
  have HRg : Hid (∀ wx, Below w.heap.size w wx → AvR wx (fun b => P b ∧ b < w.heap.size) vs R.regs) := fun wx hx => (hr.both (avR_arg hr.1)).below hx
  have HP : Hid (∀ b, w.heap.size ≤ b → P b) := hP
  have HS : Hid (AllSl vs) := hr.1.1
  clear h hr hP
  go_enter Try.func48, Try.ntmps48
  go_wp2_with (refine boxC rfl 38 _ rfl (resL (.slice a R.text.length cap) R.loc vs R.fk R.fa R.mode (.slice none 0 0)) rfl ?_)
  intro w1 ha hb
  have HB_w1 : Hid (Below w.heap.size w w1) := hb
  have A_w1 : Hid (BoxC w1 38 w.heap.size (resL (.slice a R.text.length cap) R.loc vs R.fk R.fa R.mode (.slice none 0 0))) := ha
  clear ha hb
  go_wp2_with (refine boxC rfl 35 _ rfl [.int .i64 c, .int .i64 r, .int .i64 121, .int .i64 121, .int .i64 g] rfl ?_)
  intro w2 ha hb
  have HLGC : Hid (w.heap.size ≤ w1.heap.size ∧ w.heap.size < w1.heap.size) := ⟨HB_w1.out.size, A_w1.out.lt⟩
  have HB_w2 : Hid (Below w.heap.size w w2) := below_trans HB_w1.out hb HB_w1.out.size
  have A_w2 : Hid (BoxC w2 38 w.heap.size (resL (.slice a R.text.length cap) R.loc vs R.fk R.fa R.mode (.slice none 0 0))) := A_w1.out.below hb
  clear A_w1 HB_w1
  have C_w2 : Hid (BoxC w2 35 w1.heap.size [.int .i64 c, .int .i64 r, .int .i64 121, .int .i64 121, .int .i64 g]) := ha
  clear ha hb
  generalize w1.heap.size = GC at *
  go_wp2_with (refine allocC rfl 38 rfl nulL nul_zero ?_)
  intro w3 ha hb
  have HLGZ : Hid (w.heap.size ≤ w2.heap.size ∧ w.heap.size < w2.heap.size ∧ GC < w2.heap.size) := ⟨HB_w2.out.size, A_w2.out.lt, C_w2.out.lt⟩
  have HB_w3 : Hid (Below w.heap.size w w3) := below_trans HB_w2.out hb HB_w2.out.size
  have A_w3 : Hid (BoxC w3 38 w.heap.size (resL (.slice a R.text.length cap) R.loc vs R.fk R.fa R.mode (.slice none 0 0))) := A_w2.out.below hb
  have C_w3 : Hid (BoxC w3 35 GC [.int .i64 c, .int .i64 r, .int .i64 121, .int .i64 121, .int .i64 g]) := C_w2.out.below hb
  clear A_w2 C_w2 HB_w2
  have Z_w3 : Hid (BoxC w3 38 w2.heap.size nulL) := ha
  clear ha hb
  generalize w2.heap.size = GZ at *
  have a0 : w3.cell? ⟨w.heap.size, 0, none⟩ = some (.slice a R.text.length cap) := (A_w3.out.cell 0).trans resL_0
  have a1 : w3.cell? ⟨w.heap.size, 1, none⟩ = some (.int .i64 R.loc) := (A_w3.out.cell 1).trans resL_1
  have a29 : w3.cell? ⟨w.heap.size, 29, none⟩ = some (.int .i64 R.fk) := (A_w3.out.cell 29).trans (resL_end (by assumption) 0)
  have a30 : w3.cell? ⟨w.heap.size, 30, none⟩ = some (.int .i64 R.fa) := (A_w3.out.cell 30).trans (resL_end (by assumption) 1)
  go_wp2_with (fail)
  go_quiet (fail)
  generalize hq_w4 : w3.drewN _ = w4
  have hb : Below w3.heap.size w3 w4 := by rw [← hq_w4]; exact below_drewN (Below.refl _ _) _
  clear hq_w4
  have HB_w4 : Hid (Below w.heap.size w w4) := below_trans HB_w3.out hb HB_w3.out.size
  have A_w4 : Hid (BoxC w4 38 w.heap.size (resL (.slice a R.text.length cap) R.loc vs R.fk R.fa R.mode (.slice none 0 0))) := A_w3.out.below hb
  have C_w4 : Hid (BoxC w4 35 GC [.int .i64 c, .int .i64 r, .int .i64 121, .int .i64 121, .int .i64 g]) := C_w3.out.below hb
  have Z_w4 : Hid (BoxC w4 38 GZ nulL) := Z_w3.out.below hb
  clear A_w3 C_w3 Z_w3 HB_w3
  clear hb
  clear a0 a1 a29 a30
  have cC2 : w4.cell? ⟨GC, 2, none⟩ = some (.int .i64 121) := (C_w4.out.cell 2).trans rfl
  have cC3 : w4.cell? ⟨GC, 3, none⟩ = some (.int .i64 121) := (C_w4.out.cell 3).trans rfl
  go_wp2_with (first | (refine loadC rfl 38 _ rfl w.heap.size rfl (resL (.slice a R.text.length cap) R.loc vs R.fk R.fa R.mode (.slice none 0 0)) A_w4.out (by rw [resL_len (by assumption)]; exact wide_res) ?_) | (refine storeC rfl 38 _ _ rfl GZ rfl nulL (resL (.slice a R.text.length cap) R.loc vs R.fk R.fa R.mode (.slice none 0 0)) rfl Z_w4.out (by rw [resL_len (by assumption)]; exact wide_res) (resL_one HS.out rfl rfl) (by rw [nul_len, resL_len (by assumption)]) ?_))
  intro w5 hz hg
  have HB_w5 : Hid (Below w.heap.size w w5) := HB_w4.out.grown hg HB_w4.out.size (fun j hj => by cases hj; exact (by have := HLGZ.out; omega))
  have A_w5 : Hid (BoxC w5 38 w.heap.size (resL (.slice a R.text.length cap) R.loc vs R.fk R.fa R.mode (.slice none 0 0))) := A_w4.out.kept hg (fun e => by have := HLGZ.out; have := Option.some.inj e; omega)
  have C_w5 : Hid (BoxC w5 35 GC [.int .i64 c, .int .i64 r, .int .i64 121, .int .i64 121, .int .i64 g]) := C_w4.out.kept hg (fun e => by have := HLGZ.out; have := HLGC.out; have := Option.some.inj e; omega)
  clear A_w4 C_w4 Z_w4 HB_w4
  have Z_w5 : Hid (BoxC w5 38 GZ (resL (.slice a R.text.length cap) R.loc vs R.fk R.fa R.mode (.slice none 0 0))) := hz
  clear hz hg
  go_wp2_with (fail)
  (try simp only [Exit.inBlock, Exit.then])
  refine bodyPost_ret (ret_box1 rfl _ _ GZ (resL (.slice a R.text.length cap) R.loc vs R.fk R.fa R.mode (.slice none 0 0)) rfl Z_w5.out (by rw [resL_len (by assumption)]; exact wide_res)) rfl ?_
  exact ⟨HB_w5.out, _, rfl, ⟨a, cap, vs, rfl, ((HT.out _ HB_w5.out).weak (fun b hb => hb.1)), ((HRg.out _ HB_w5.out).weak (fun b hb => hb.1))⟩⟩

set_option maxHeartbeats 2000000 in
theorem acted_y (a : Option Addr) (cap : Nat) (vs : List Value) (R : Res) (c r v g : Int) (w : World) (P : Nat → Prop) (hP : ∀ b, w.heap.size ≤ b → P b) (h : Av w P (.slice a R.text.length cap) R.text) (hr : AvR w P vs R.regs) (f t : Nat) (h1 : f ≤ t) (h2 : t ≤ R.text.length) (hz : R.text.length ≤ 200) (hv : v ≠ 121) (K : Int) (hK : min R.loc (f : Int) = K) :
    Calls Try.prog 48 #[.agg (resL (.slice a R.text.length cap) R.loc vs R.fk R.fa R.mode (.slice none 0 0)).toArray, .agg #[.int .i64 c, .int .i64 r, .int .i64 121, .int .i64 v, .int .i64 g], .int .i64 (f : Int), .int .i64 (t : Int)] w fun q w' => Below w.heap.size w w' ∧ ∃ x, q = .returned x ∧ ResAv w' P x { R with loc := K } := by
  have hb : (v != 121) = true := by simpa using hv
  clear hv
  have hvs : vs.length = 27 := hr.len
  have HT : Hid (∀ wx, Below w.heap.size w wx → Av wx (fun b => P b ∧ b < w.heap.size) (.slice a R.text.length cap) R.text) := fun wx hx => (h.both (av_arg h.1)).below hx
  have HRg : Hid (∀ wx, Below w.heap.size w wx → AvR wx (fun b => P b ∧ b < w.heap.size) vs R.regs) := fun wx hx => (hr.both (avR_arg hr.1)).below hx
  have HP : Hid (∀ b, w.heap.size ≤ b → P b) := hP
  have HS : Hid (AllSl vs) := hr.1.1
  clear h hr hP
  go_enter Try.func48, Try.ntmps48
  go_wp2_with (refine boxC rfl 38 _ rfl (resL (.slice a R.text.length cap) R.loc vs R.fk R.fa R.mode (.slice none 0 0)) rfl ?_)
  intro w1 ha hb
  have HB_w1 : Hid (Below w.heap.size w w1) := hb
  have A_w1 : Hid (BoxC w1 38 w.heap.size (resL (.slice a R.text.length cap) R.loc vs R.fk R.fa R.mode (.slice none 0 0))) := ha
  clear ha hb
  go_wp2_with (refine boxC rfl 35 _ rfl [.int .i64 c, .int .i64 r, .int .i64 121, .int .i64 v, .int .i64 g] rfl ?_)
  intro w2 ha hb
  have HLGC : Hid (w.heap.size ≤ w1.heap.size ∧ w.heap.size < w1.heap.size) := ⟨HB_w1.out.size, A_w1.out.lt⟩
  have HB_w2 : Hid (Below w.heap.size w w2) := below_trans HB_w1.out hb HB_w1.out.size
  have A_w2 : Hid (BoxC w2 38 w.heap.size (resL (.slice a R.text.length cap) R.loc vs R.fk R.fa R.mode (.slice none 0 0))) := A_w1.out.below hb
  clear A_w1 HB_w1
  have C_w2 : Hid (BoxC w2 35 w1.heap.size [.int .i64 c, .int .i64 r, .int .i64 121, .int .i64 v, .int .i64 g]) := ha
  clear ha hb
  generalize w1.heap.size = GC at *
  go_wp2_with (refine allocC rfl 38 rfl nulL nul_zero ?_)
  intro w3 ha hb
  have HLGZ : Hid (w.heap.size ≤ w2.heap.size ∧ w.heap.size < w2.heap.size ∧ GC < w2.heap.size) := ⟨HB_w2.out.size, A_w2.out.lt, C_w2.out.lt⟩
  have HB_w3 : Hid (Below w.heap.size w w3) := below_trans HB_w2.out hb HB_w2.out.size
  have A_w3 : Hid (BoxC w3 38 w.heap.size (resL (.slice a R.text.length cap) R.loc vs R.fk R.fa R.mode (.slice none 0 0))) := A_w2.out.below hb
  have C_w3 : Hid (BoxC w3 35 GC [.int .i64 c, .int .i64 r, .int .i64 121, .int .i64 v, .int .i64 g]) := C_w2.out.below hb
  clear A_w2 C_w2 HB_w2
  have Z_w3 : Hid (BoxC w3 38 w2.heap.size nulL) := ha
  clear ha hb
  generalize w2.heap.size = GZ at *
  have a0 : w3.cell? ⟨w.heap.size, 0, none⟩ = some (.slice a R.text.length cap) := (A_w3.out.cell 0).trans resL_0
  have a1 : w3.cell? ⟨w.heap.size, 1, none⟩ = some (.int .i64 R.loc) := (A_w3.out.cell 1).trans resL_1
  have a29 : w3.cell? ⟨w.heap.size, 29, none⟩ = some (.int .i64 R.fk) := (A_w3.out.cell 29).trans (resL_end (by assumption) 0)
  have a30 : w3.cell? ⟨w.heap.size, 30, none⟩ = some (.int .i64 R.fa) := (A_w3.out.cell 30).trans (resL_end (by assumption) 1)
  go_wp2_with (fail)
  go_quiet (fail)
  generalize hq_w4 : w3.drewN _ = w4
  have hb : Below w3.heap.size w3 w4 := by rw [← hq_w4]; exact below_drewN (Below.refl _ _) _
  clear hq_w4
  have HB_w4 : Hid (Below w.heap.size w w4) := below_trans HB_w3.out hb HB_w3.out.size
  have A_w4 : Hid (BoxC w4 38 w.heap.size (resL (.slice a R.text.length cap) R.loc vs R.fk R.fa R.mode (.slice none 0 0))) := A_w3.out.below hb
  have C_w4 : Hid (BoxC w4 35 GC [.int .i64 c, .int .i64 r, .int .i64 121, .int .i64 v, .int .i64 g]) := C_w3.out.below hb
  have Z_w4 : Hid (BoxC w4 38 GZ nulL) := Z_w3.out.below hb
  clear A_w3 C_w3 Z_w3 HB_w3
  clear hb
  clear a0 a1 a29 a30
  have cC2 : w4.cell? ⟨GC, 2, none⟩ = some (.int .i64 121) := (C_w4.out.cell 2).trans rfl
  have cC3 : w4.cell? ⟨GC, 3, none⟩ = some (.int .i64 v) := (C_w4.out.cell 3).trans rfl
  go_wp2_with (refine storeO rfl 38 3 _ _ rfl w.heap.size 1 rfl (resL (.slice a R.text.length cap) R.loc vs R.fk R.fa R.mode (.slice none 0 0)) (resL (.slice a R.text.length cap) K vs R.fk R.fa R.mode (.slice none 0 0)) (.int .i64 K) (.int .i64 R.loc) rfl A_w4.out rfl (fun xs hx => by cases hx) resL_1 one_int (resL_at _) ?_)
  intro w5 hz hg
  have HB_w5 : Hid (Below w.heap.size w w5) := HB_w4.out.grown hg HB_w4.out.size (fun j hj => by cases hj; exact Nat.le_refl _)
  have C_w5 : Hid (BoxC w5 35 GC [.int .i64 c, .int .i64 r, .int .i64 121, .int .i64 v, .int .i64 g]) := C_w4.out.kept hg (fun e => by have := HLGC.out; have := Option.some.inj e; omega)
  have Z_w5 : Hid (BoxC w5 38 GZ nulL) := Z_w4.out.kept hg (fun e => by have := HLGZ.out; have := Option.some.inj e; omega)
  clear A_w4 C_w4 Z_w4 HB_w4
  have A_w5 : Hid (BoxC w5 38 w.heap.size (resL (.slice a R.text.length cap) K vs R.fk R.fa R.mode (.slice none 0 0))) := hz
  clear hz hg
  clear cC2 cC3
  go_wp2_with (first | (refine loadC rfl 38 _ rfl w.heap.size rfl (resL (.slice a R.text.length cap) K vs R.fk R.fa R.mode (.slice none 0 0)) A_w5.out (by rw [resL_len (by assumption)]; exact wide_res) ?_) | (refine storeC rfl 38 _ _ rfl GZ rfl nulL (resL (.slice a R.text.length cap) K vs R.fk R.fa R.mode (.slice none 0 0)) rfl Z_w5.out (by rw [resL_len (by assumption)]; exact wide_res) (resL_one HS.out rfl rfl) (by rw [nul_len, resL_len (by assumption)]) ?_))
  intro w6 hz hg
  have HB_w6 : Hid (Below w.heap.size w w6) := HB_w5.out.grown hg HB_w5.out.size (fun j hj => by cases hj; exact (by have := HLGZ.out; omega))
  have A_w6 : Hid (BoxC w6 38 w.heap.size (resL (.slice a R.text.length cap) K vs R.fk R.fa R.mode (.slice none 0 0))) := A_w5.out.kept hg (fun e => by have := HLGZ.out; have := Option.some.inj e; omega)
  have C_w6 : Hid (BoxC w6 35 GC [.int .i64 c, .int .i64 r, .int .i64 121, .int .i64 v, .int .i64 g]) := C_w5.out.kept hg (fun e => by have := HLGZ.out; have := HLGC.out; have := Option.some.inj e; omega)
  clear A_w5 C_w5 Z_w5 HB_w5
  have Z_w6 : Hid (BoxC w6 38 GZ (resL (.slice a R.text.length cap) K vs R.fk R.fa R.mode (.slice none 0 0))) := hz
  clear hz hg
  go_wp2_with (fail)
  (try simp only [Exit.inBlock, Exit.then])
  refine bodyPost_ret (ret_box1 rfl _ _ GZ (resL (.slice a R.text.length cap) K vs R.fk R.fa R.mode (.slice none 0 0)) rfl Z_w6.out (by rw [resL_len (by assumption)]; exact wide_res)) rfl ?_
  exact ⟨HB_w6.out, _, rfl, ⟨a, cap, vs, rfl, ((HT.out _ HB_w6.out).weak (fun b hb => hb.1)), ((HRg.out _ HB_w6.out).weak (fun b hb => hb.1))⟩⟩
end Go.Proofs.Ytpgjaoemkadenaa.Seek

/- The contracts of edit.begun and edit.acted, whole. -/
set_option linter.unusedVariables false
set_option linter.unusedSimpArgs false
set_option maxRecDepth 100000
namespace Go.Proofs.Ytpgjaoemkadenaa.Seek
open Go.RowKit Plain
/-- A call that answers a result alone. -/
def OnePost (P : Nat → Prop) (R : Res) (w : World) (q : Ending) (w' : World) : Prop := Below w.heap.size w w' ∧ ∃ x, q = .returned x ∧ ResAv w' P x R
theorem begun_go (a : Option Addr) (cap : Nat) (vs : List Value) (R : Res) (w : World) (P : Nat → Prop) (hP : ∀ b, w.heap.size ≤ b → P b) (h : Av w P (.slice a R.text.length cap) R.text) (hr : AvR w P vs R.regs) (hk0 : 0 ≤ R.loc) (hk1 : R.loc ≤ 4096) (v : Int) (hv : v = 105 ∨ v = 73 ∨ v = 97 ∨ v = 65 ∨ v = 82) :
    Calls Try.prog 37 #[.agg (resL (.slice a R.text.length cap) R.loc vs R.fk R.fa R.mode (.slice none 0 0)).toArray, .int .i64 v] w fun q w' => OnePost P (bgn' R v) w q w' := by
  rcases hv with rfl | rfl | rfl | rfl | rfl
  · exact begun_i a cap vs R w P hP h hr
  · exact begun_gI a cap vs R w P hP h hr _ rfl
  · exact begun_a a cap vs R w P hP h hr _ rfl hk0 hk1
  · exact begun_gA a cap vs R w P hP h hr
  · exact begun_gR a cap vs R w P hP h hr
theorem acted_go (a : Option Addr) (cap : Nat) (vs : List Value) (R : Res) (c r o v g : Int) (w : World) (P : Nat → Prop) (hP : ∀ b, w.heap.size ≤ b → P b) (h : Av w P (.slice a R.text.length cap) R.text) (hr : AvR w P vs R.regs) (f t : Nat) (h1 : f ≤ t) (h2 : t ≤ R.text.length) (hz : R.text.length ≤ 200) (ho : o = 100 ∨ o = 99 ∨ o = 121) :
    Calls Try.prog 48 #[.agg (resL (.slice a R.text.length cap) R.loc vs R.fk R.fa R.mode (.slice none 0 0)).toArray, .agg #[.int .i64 c, .int .i64 r, .int .i64 o, .int .i64 v, .int .i64 g], .int .i64 (f : Int), .int .i64 (t : Int)] w fun q w' => OnePost P (act R o v f t) w q w' := by
  have hl : (wit R.text f t []).length ≤ 200 := by rw [wit_len _ _ _ _ h1 h2]; show f + 0 + _ ≤ 200; omega
  rcases ho with rfl | rfl | rfl
  · exact acted_d a cap vs R c r v g w P hP h hr f t h1 h2 hz _ rfl hl _ rfl
  · exact acted_c a cap vs R c r v g w P hP h hr f t h1 h2 hz _ rfl hl
  · by_cases hv : v = 121
    · subst hv
      exact acted_yy a cap vs R c r g w P hP h hr f t h1 h2 hz
    · have q := acted_y a cap vs R c r v g w P hP h hr f t h1 h2 hz hv _ rfl
      refine q.mono ?_
      rintro q w' ⟨hb, x, e, hx⟩
      refine ⟨hb, x, e, ?_⟩
      have : act R 121 v f t = { R with loc := min R.loc (f : Int) } := by unfold act; rw [if_neg (by decide), if_neg (by decide), if_pos rfl, if_pos hv]
      rw [this]
      exact hx
end Go.Proofs.Ytpgjaoemkadenaa.Seek
