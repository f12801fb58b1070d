/- Texts of one claim, one behind the other: DoActed, DoActs, DoTurn. -/
import Derived.Test.YtpgjaoemkadenabM32
import Derived.BigQuiet
/- The contract of edit.acted. -/
set_option linter.unusedVariables false
set_option linter.unusedSimpArgs false
set_option maxRecDepth 100000
namespace Go.Proofs.Ytpgjaoemkadenab.Seek
open Go.RowKit Plain


set_option maxHeartbeats 2000000 in
theorem acted_d (a : Option Addr) (cap : Nat) (vs : List Value) (R : Res) (c r v g : Int) (w : World) (P : Nat → Prop) (hP : ∀ b, w.heap.size ≤ b → P b) (h : Av w P (.slice a R.text.length cap) R.text) (hr : AvR w P vs R.regs) (f t : Nat) (h1 : f ≤ t) (h2 : t ≤ R.text.length) (hz : R.text.length ≤ 200) (T : List Int) (hT : wit R.text f t [] = T) (hTl : T.length ≤ 200) (K : Int) (hK : min (f : Int) (lastP T.length) = K) :
    Calls Try.prog 50 #[.agg (resL (.slice a R.text.length cap) R.loc vs R.fk R.fa R.mode (.slice none 0 0)).toArray, .agg #[.int .i64 c, .int .i64 r, .int .i64 100, .int .i64 v, .int .i64 g], .int .i64 (f : Int), .int .i64 (t : Int)] w fun q w' => Below w.heap.size w w' ∧ ∃ x, q = .returned x ∧ ResAv w' P x { R with text := T, loc := K } := by
  have HWC : Hid (∀ wx, Below w.heap.size w wx → Calls Try.prog 45 #[.slice a R.text.length cap, .int .i64 (f : Int), .int .i64 (t : Int), .slice none 0 0] wx fun e w' => ConcatPost T wx e w') := fun wx hx => by rw [← hT]; exact with_go _ _ R.text [] f t wx (h.below hx).1 (.inl ⟨_, _, rfl, rfl⟩) h1 h2 (by omega) (Nat.zero_le _)
  clear hT
  have hvs : vs.length = 27 := hr.len
  have HT : Hid (∀ wx, Below w.heap.size w wx → Av wx (fun b => P b ∧ b < w.heap.size) (.slice a R.text.length cap) R.text) := fun wx hx => (h.both (av_arg h.1)).below hx
  have HRg : Hid (∀ wx, Below w.heap.size w wx → AvR wx (fun b => P b ∧ b < w.heap.size) vs R.regs) := fun wx hx => (hr.both (avR_arg hr.1)).below hx
  have HP : Hid (∀ b, w.heap.size ≤ b → P b) := hP
  have HS : Hid (AllSl vs) := hr.1.1
  clear h hr hP
  go_enter Try.func50, Try.ntmps50
  go_wp2_with (refine boxC rfl 43 _ rfl (resL (.slice a R.text.length cap) R.loc vs R.fk R.fa R.mode (.slice none 0 0)) rfl ?_)
  intro w1 ha hb
  have HB_w1 : Hid (Below w.heap.size w w1) := hb
  have A_w1 : Hid (BoxC w1 43 w.heap.size (resL (.slice a R.text.length cap) R.loc vs R.fk R.fa R.mode (.slice none 0 0))) := ha
  clear ha hb
  go_wp2_with (refine boxC rfl 38 _ rfl [.int .i64 c, .int .i64 r, .int .i64 100, .int .i64 v, .int .i64 g] rfl ?_)
  intro w2 ha hb
  have HLGC : Hid (w.heap.size ≤ w1.heap.size ∧ w.heap.size < w1.heap.size) := ⟨HB_w1.out.size, A_w1.out.lt⟩
  have HB_w2 : Hid (Below w.heap.size w w2) := below_trans HB_w1.out hb HB_w1.out.size
  have A_w2 : Hid (BoxC w2 43 w.heap.size (resL (.slice a R.text.length cap) R.loc vs R.fk R.fa R.mode (.slice none 0 0))) := A_w1.out.below hb
  clear A_w1 HB_w1
  have C_w2 : Hid (BoxC w2 38 w1.heap.size [.int .i64 c, .int .i64 r, .int .i64 100, .int .i64 v, .int .i64 g]) := ha
  clear ha hb
  generalize w1.heap.size = GC at *
  go_wp2_with (refine allocC rfl 43 rfl nulL nul_zero ?_)
  intro w3 ha hb
  have HLGZ : Hid (w.heap.size ≤ w2.heap.size ∧ w.heap.size < w2.heap.size ∧ GC < w2.heap.size) := ⟨HB_w2.out.size, A_w2.out.lt, C_w2.out.lt⟩
  have HB_w3 : Hid (Below w.heap.size w w3) := below_trans HB_w2.out hb HB_w2.out.size
  have A_w3 : Hid (BoxC w3 43 w.heap.size (resL (.slice a R.text.length cap) R.loc vs R.fk R.fa R.mode (.slice none 0 0))) := A_w2.out.below hb
  have C_w3 : Hid (BoxC w3 38 GC [.int .i64 c, .int .i64 r, .int .i64 100, .int .i64 v, .int .i64 g]) := C_w2.out.below hb
  clear A_w2 C_w2 HB_w2
  have Z_w3 : Hid (BoxC w3 43 w2.heap.size nulL) := ha
  clear ha hb
  generalize w2.heap.size = GZ at *
  have a0 : w3.cell? ⟨w.heap.size, 0, none⟩ = some (.slice a R.text.length cap) := (A_w3.out.cell 0).trans resL_0
  have a1 : w3.cell? ⟨w.heap.size, 1, none⟩ = some (.int .i64 R.loc) := (A_w3.out.cell 1).trans resL_1
  have a29 : w3.cell? ⟨w.heap.size, 29, none⟩ = some (.int .i64 R.fk) := (A_w3.out.cell 29).trans (resL_end (by assumption) 0)
  have a30 : w3.cell? ⟨w.heap.size, 30, none⟩ = some (.int .i64 R.fa) := (A_w3.out.cell 30).trans (resL_end (by assumption) 1)
  go_wp2_with (fail)
  go_quiet (fail)
  generalize hq_w4 : w3.drewN _ = w4
  have hb : Below w3.heap.size w3 w4 := by rw [← hq_w4]; exact below_drewN (Below.refl _ _) _
  clear hq_w4
  have HB_w4 : Hid (Below w.heap.size w w4) := below_trans HB_w3.out hb HB_w3.out.size
  have A_w4 : Hid (BoxC w4 43 w.heap.size (resL (.slice a R.text.length cap) R.loc vs R.fk R.fa R.mode (.slice none 0 0))) := A_w3.out.below hb
  have C_w4 : Hid (BoxC w4 38 GC [.int .i64 c, .int .i64 r, .int .i64 100, .int .i64 v, .int .i64 g]) := C_w3.out.below hb
  have Z_w4 : Hid (BoxC w4 43 GZ nulL) := Z_w3.out.below hb
  clear A_w3 C_w3 Z_w3 HB_w3
  clear hb
  clear a0 a1 a29 a30
  have cC2 : w4.cell? ⟨GC, 2, none⟩ = some (.int .i64 100) := (C_w4.out.cell 2).trans rfl
  have cC3 : w4.cell? ⟨GC, 3, none⟩ = some (.int .i64 v) := (C_w4.out.cell 3).trans rfl
  go_wp2_with (fail)
  refine (HWC.out _ HB_w4.out).mono ?_
  rintro q w5 ⟨hb, vo, rfl, ho⟩
  obtain ⟨a2, c2, rfl⟩ := ho.reads.shape
  obtain ⟨B0, hB0⟩ : ∃ B0, B0 = w4.heap.size := ⟨_, rfl⟩
  have HLB0 : Hid (w.heap.size ≤ B0 ∧ w.heap.size < B0 ∧ GC < B0 ∧ GZ < B0) := by rw [hB0]; exact ⟨HB_w4.out.size, A_w4.out.lt, C_w4.out.lt, Z_w4.out.lt⟩
  have ho2 := av_own ho
  rw [← hB0] at ho2
  clear ho hB0
  have HB_w5 : Hid (Below w.heap.size w w5) := below_trans HB_w4.out hb HB_w4.out.size
  have A_w5 : Hid (BoxC w5 43 w.heap.size (resL (.slice a R.text.length cap) R.loc vs R.fk R.fa R.mode (.slice none 0 0))) := A_w4.out.below hb
  have C_w5 : Hid (BoxC w5 38 GC [.int .i64 c, .int .i64 r, .int .i64 100, .int .i64 v, .int .i64 g]) := C_w4.out.below hb
  have Z_w5 : Hid (BoxC w5 43 GZ nulL) := Z_w4.out.below hb
  clear A_w4 C_w4 Z_w4 HB_w4
  clear hb
  have O_w5 : Hid (Av w5 (fun b => B0 ≤ b) (.slice a2 T.length c2) T) := ho2
  clear ho2
  clear cC2 cC3
  clear C_w5
  go_wp2_with (fail)
  refine (lastPlace_go a2 T.length c2 _ (by omega)).mono ?_
  rintro q wz ⟨rfl, hwz⟩
  subst hwz
  go_wp2_with (refine storeP rfl 43 24 _ _ rfl w.heap.size 0 rfl (resL (.slice a R.text.length cap) R.loc vs R.fk R.fa R.mode (.slice none 0 0)) [(.slice a2 T.length c2), .int .i64 K] (resL (.slice a2 T.length c2) K vs R.fk R.fa R.mode (.slice none 0 0)) rfl A_w5.out wide_line (fun v hv => by simp at hv; rcases hv with rfl | rfl <;> rfl) (by rw [resL_len (by assumption)]; show 0 + 2 ≤ 33; decide) (resL_line _ _) ?_)
  intro w6 hz hg
  have HB_w6 : Hid (Below w.heap.size w w6) := HB_w5.out.grown hg HB_w5.out.size (fun j hj => by cases hj; exact Nat.le_refl _)
  have Z_w6 : Hid (BoxC w6 43 GZ nulL) := Z_w5.out.kept hg (fun e => by have := HLGZ.out; have := Option.some.inj e; omega)
  have O_w6 : Hid (Av w6 (fun b => B0 ≤ b) (.slice a2 T.length c2) T) := O_w5.out.stored hg (by have := HLB0.out; show ¬ (B0 ≤ w.heap.size); omega)
  clear A_w5 Z_w5 O_w5 HB_w5
  have A_w6 : Hid (BoxC w6 43 w.heap.size (resL (.slice a2 T.length c2) K vs R.fk R.fa R.mode (.slice none 0 0))) := hz
  clear hz hg
  go_wp2_with (first | (refine loadC rfl 43 _ rfl w.heap.size rfl (resL (.slice a2 T.length c2) K vs R.fk R.fa R.mode (.slice none 0 0)) A_w6.out (by rw [resL_len (by assumption)]; exact wide_res) ?_) | (refine storeC rfl 43 _ _ rfl GZ rfl nulL (resL (.slice a2 T.length c2) K vs R.fk R.fa R.mode (.slice none 0 0)) rfl Z_w6.out (by rw [resL_len (by assumption)]; exact wide_res) (resL_one HS.out rfl rfl) (by rw [nul_len, resL_len (by assumption)]) ?_))
  intro w7 hz hg
  have HB_w7 : Hid (Below w.heap.size w w7) := HB_w6.out.grown hg HB_w6.out.size (fun j hj => by cases hj; exact (by have := HLGZ.out; omega))
  have A_w7 : Hid (BoxC w7 43 w.heap.size (resL (.slice a2 T.length c2) K vs R.fk R.fa R.mode (.slice none 0 0))) := A_w6.out.kept hg (fun e => by have := HLGZ.out; have := Option.some.inj e; omega)
  have O_w7 : Hid (Av w7 (fun b => B0 ≤ b) (.slice a2 T.length c2) T) := O_w6.out.stored hg (by have := HLB0.out; show ¬ (B0 ≤ GZ); omega)
  clear A_w6 Z_w6 O_w6 HB_w6
  have Z_w7 : Hid (BoxC w7 43 GZ (resL (.slice a2 T.length c2) K vs R.fk R.fa R.mode (.slice none 0 0))) := hz
  clear hz hg
  go_wp2_with (fail)
  (try simp only [Exit.inBlock, Exit.then])
  refine bodyPost_ret (ret_box1 rfl _ _ GZ (resL (.slice a2 T.length c2) K vs R.fk R.fa R.mode (.slice none 0 0)) rfl Z_w7.out (by rw [resL_len (by assumption)]; exact wide_res)) rfl ?_
  exact ⟨HB_w7.out, _, rfl, ⟨a2, c2, vs, rfl, (O_w7.out.weak (fun b hb => HP.out _ (Nat.le_trans HLB0.out.1 hb))), ((HRg.out _ HB_w7.out).weak (fun b hb => hb.1))⟩⟩

set_option maxHeartbeats 2000000 in
theorem acted_c (a : Option Addr) (cap : Nat) (vs : List Value) (R : Res) (c r v g : Int) (w : World) (P : Nat → Prop) (hP : ∀ b, w.heap.size ≤ b → P b) (h : Av w P (.slice a R.text.length cap) R.text) (hr : AvR w P vs R.regs) (f t : Nat) (h1 : f ≤ t) (h2 : t ≤ R.text.length) (hz : R.text.length ≤ 200) (T : List Int) (hT : wit R.text f t [] = T) (hTl : T.length ≤ 200) :
    Calls Try.prog 50 #[.agg (resL (.slice a R.text.length cap) R.loc vs R.fk R.fa R.mode (.slice none 0 0)).toArray, .agg #[.int .i64 c, .int .i64 r, .int .i64 99, .int .i64 v, .int .i64 g], .int .i64 (f : Int), .int .i64 (t : Int)] w fun q w' => Below w.heap.size w w' ∧ ∃ x, q = .returned x ∧ ResAv w' P x { R with text := T, loc := (f : Int), mode := 1 } := by
  have HWC : Hid (∀ wx, Below w.heap.size w wx → Calls Try.prog 45 #[.slice a R.text.length cap, .int .i64 (f : Int), .int .i64 (t : Int), .slice none 0 0] wx fun e w' => ConcatPost T wx e w') := fun wx hx => by rw [← hT]; exact with_go _ _ R.text [] f t wx (h.below hx).1 (.inl ⟨_, _, rfl, rfl⟩) h1 h2 (by omega) (Nat.zero_le _)
  clear hT
  have hvs : vs.length = 27 := hr.len
  have HT : Hid (∀ wx, Below w.heap.size w wx → Av wx (fun b => P b ∧ b < w.heap.size) (.slice a R.text.length cap) R.text) := fun wx hx => (h.both (av_arg h.1)).below hx
  have HRg : Hid (∀ wx, Below w.heap.size w wx → AvR wx (fun b => P b ∧ b < w.heap.size) vs R.regs) := fun wx hx => (hr.both (avR_arg hr.1)).below hx
  have HP : Hid (∀ b, w.heap.size ≤ b → P b) := hP
  have HS : Hid (AllSl vs) := hr.1.1
  clear h hr hP
  go_enter Try.func50, Try.ntmps50
  go_wp2_with (refine boxC rfl 43 _ rfl (resL (.slice a R.text.length cap) R.loc vs R.fk R.fa R.mode (.slice none 0 0)) rfl ?_)
  intro w1 ha hb
  have HB_w1 : Hid (Below w.heap.size w w1) := hb
  have A_w1 : Hid (BoxC w1 43 w.heap.size (resL (.slice a R.text.length cap) R.loc vs R.fk R.fa R.mode (.slice none 0 0))) := ha
  clear ha hb
  go_wp2_with (refine boxC rfl 38 _ rfl [.int .i64 c, .int .i64 r, .int .i64 99, .int .i64 v, .int .i64 g] rfl ?_)
  intro w2 ha hb
  have HLGC : Hid (w.heap.size ≤ w1.heap.size ∧ w.heap.size < w1.heap.size) := ⟨HB_w1.out.size, A_w1.out.lt⟩
  have HB_w2 : Hid (Below w.heap.size w w2) := below_trans HB_w1.out hb HB_w1.out.size
  have A_w2 : Hid (BoxC w2 43 w.heap.size (resL (.slice a R.text.length cap) R.loc vs R.fk R.fa R.mode (.slice none 0 0))) := A_w1.out.below hb
  clear A_w1 HB_w1
  have C_w2 : Hid (BoxC w2 38 w1.heap.size [.int .i64 c, .int .i64 r, .int .i64 99, .int .i64 v, .int .i64 g]) := ha
  clear ha hb
  generalize w1.heap.size = GC at *
  go_wp2_with (refine allocC rfl 43 rfl nulL nul_zero ?_)
  intro w3 ha hb
  have HLGZ : Hid (w.heap.size ≤ w2.heap.size ∧ w.heap.size < w2.heap.size ∧ GC < w2.heap.size) := ⟨HB_w2.out.size, A_w2.out.lt, C_w2.out.lt⟩
  have HB_w3 : Hid (Below w.heap.size w w3) := below_trans HB_w2.out hb HB_w2.out.size
  have A_w3 : Hid (BoxC w3 43 w.heap.size (resL (.slice a R.text.length cap) R.loc vs R.fk R.fa R.mode (.slice none 0 0))) := A_w2.out.below hb
  have C_w3 : Hid (BoxC w3 38 GC [.int .i64 c, .int .i64 r, .int .i64 99, .int .i64 v, .int .i64 g]) := C_w2.out.below hb
  clear A_w2 C_w2 HB_w2
  have Z_w3 : Hid (BoxC w3 43 w2.heap.size nulL) := ha
  clear ha hb
  generalize w2.heap.size = GZ at *
  have a0 : w3.cell? ⟨w.heap.size, 0, none⟩ = some (.slice a R.text.length cap) := (A_w3.out.cell 0).trans resL_0
  have a1 : w3.cell? ⟨w.heap.size, 1, none⟩ = some (.int .i64 R.loc) := (A_w3.out.cell 1).trans resL_1
  have a29 : w3.cell? ⟨w.heap.size, 29, none⟩ = some (.int .i64 R.fk) := (A_w3.out.cell 29).trans (resL_end (by assumption) 0)
  have a30 : w3.cell? ⟨w.heap.size, 30, none⟩ = some (.int .i64 R.fa) := (A_w3.out.cell 30).trans (resL_end (by assumption) 1)
  go_wp2_with (fail)
  go_quiet (fail)
  generalize hq_w4 : w3.drewN _ = w4
  have hb : Below w3.heap.size w3 w4 := by rw [← hq_w4]; exact below_drewN (Below.refl _ _) _
  clear hq_w4
  have HB_w4 : Hid (Below w.heap.size w w4) := below_trans HB_w3.out hb HB_w3.out.size
  have A_w4 : Hid (BoxC w4 43 w.heap.size (resL (.slice a R.text.length cap) R.loc vs R.fk R.fa R.mode (.slice none 0 0))) := A_w3.out.below hb
  have C_w4 : Hid (BoxC w4 38 GC [.int .i64 c, .int .i64 r, .int .i64 99, .int .i64 v, .int .i64 g]) := C_w3.out.below hb
  have Z_w4 : Hid (BoxC w4 43 GZ nulL) := Z_w3.out.below hb
  clear A_w3 C_w3 Z_w3 HB_w3
  clear hb
  clear a0 a1 a29 a30
  have cC2 : w4.cell? ⟨GC, 2, none⟩ = some (.int .i64 99) := (C_w4.out.cell 2).trans rfl
  have cC3 : w4.cell? ⟨GC, 3, none⟩ = some (.int .i64 v) := (C_w4.out.cell 3).trans rfl
  go_wp2_with (fail)
  refine (HWC.out _ HB_w4.out).mono ?_
  rintro q w5 ⟨hb, vo, rfl, ho⟩
  obtain ⟨a2, c2, rfl⟩ := ho.reads.shape
  obtain ⟨B0, hB0⟩ : ∃ B0, B0 = w4.heap.size := ⟨_, rfl⟩
  have HLB0 : Hid (w.heap.size ≤ B0 ∧ w.heap.size < B0 ∧ GC < B0 ∧ GZ < B0) := by rw [hB0]; exact ⟨HB_w4.out.size, A_w4.out.lt, C_w4.out.lt, Z_w4.out.lt⟩
  have ho2 := av_own ho
  rw [← hB0] at ho2
  clear ho hB0
  have HB_w5 : Hid (Below w.heap.size w w5) := below_trans HB_w4.out hb HB_w4.out.size
  have A_w5 : Hid (BoxC w5 43 w.heap.size (resL (.slice a R.text.length cap) R.loc vs R.fk R.fa R.mode (.slice none 0 0))) := A_w4.out.below hb
  have C_w5 : Hid (BoxC w5 38 GC [.int .i64 c, .int .i64 r, .int .i64 99, .int .i64 v, .int .i64 g]) := C_w4.out.below hb
  have Z_w5 : Hid (BoxC w5 43 GZ nulL) := Z_w4.out.below hb
  clear A_w4 C_w4 Z_w4 HB_w4
  clear hb
  have O_w5 : Hid (Av w5 (fun b => B0 ≤ b) (.slice a2 T.length c2) T) := ho2
  clear ho2
  clear cC2 cC3
  clear C_w5
  go_wp2_with (refine storeP rfl 43 24 _ _ rfl w.heap.size 0 rfl (resL (.slice a R.text.length cap) R.loc vs R.fk R.fa R.mode (.slice none 0 0)) [(.slice a2 T.length c2), .int .i64 (f : Int)] (resL (.slice a2 T.length c2) (f : Int) vs R.fk R.fa R.mode (.slice none 0 0)) rfl A_w5.out wide_line (fun v hv => by simp at hv; rcases hv with rfl | rfl <;> rfl) (by rw [resL_len (by assumption)]; show 0 + 2 ≤ 33; decide) (resL_line _ _) ?_)
  intro w6 hz hg
  have HB_w6 : Hid (Below w.heap.size w w6) := HB_w5.out.grown hg HB_w5.out.size (fun j hj => by cases hj; exact Nat.le_refl _)
  have Z_w6 : Hid (BoxC w6 43 GZ nulL) := Z_w5.out.kept hg (fun e => by have := HLGZ.out; have := Option.some.inj e; omega)
  have O_w6 : Hid (Av w6 (fun b => B0 ≤ b) (.slice a2 T.length c2) T) := O_w5.out.stored hg (by have := HLB0.out; show ¬ (B0 ≤ w.heap.size); omega)
  clear A_w5 Z_w5 O_w5 HB_w5
  have A_w6 : Hid (BoxC w6 43 w.heap.size (resL (.slice a2 T.length c2) (f : Int) vs R.fk R.fa R.mode (.slice none 0 0))) := hz
  clear hz hg
  go_wp2_with (refine storeO rfl 43 3 _ _ rfl w.heap.size 31 rfl (resL (.slice a2 T.length c2) (f : Int) vs R.fk R.fa R.mode (.slice none 0 0)) (resL (.slice a2 T.length c2) (f : Int) vs R.fk R.fa 1 (.slice none 0 0)) (.int .i64 1) (.int .i64 R.mode) rfl A_w6.out rfl (fun xs hx => by cases hx) (resL_end (by assumption) 2) one_int (resL_mode _ (by assumption)) ?_)
  intro w7 hz hg
  have HB_w7 : Hid (Below w.heap.size w w7) := HB_w6.out.grown hg HB_w6.out.size (fun j hj => by cases hj; exact Nat.le_refl _)
  have Z_w7 : Hid (BoxC w7 43 GZ nulL) := Z_w6.out.kept hg (fun e => by have := HLGZ.out; have := Option.some.inj e; omega)
  have O_w7 : Hid (Av w7 (fun b => B0 ≤ b) (.slice a2 T.length c2) T) := O_w6.out.stored hg (by have := HLB0.out; show ¬ (B0 ≤ w.heap.size); omega)
  clear A_w6 Z_w6 O_w6 HB_w6
  have A_w7 : Hid (BoxC w7 43 w.heap.size (resL (.slice a2 T.length c2) (f : Int) vs R.fk R.fa 1 (.slice none 0 0))) := hz
  clear hz hg
  go_wp2_with (first | (refine loadC rfl 43 _ rfl w.heap.size rfl (resL (.slice a2 T.length c2) (f : Int) vs R.fk R.fa 1 (.slice none 0 0)) A_w7.out (by rw [resL_len (by assumption)]; exact wide_res) ?_) | (refine storeC rfl 43 _ _ rfl GZ rfl nulL (resL (.slice a2 T.length c2) (f : Int) vs R.fk R.fa 1 (.slice none 0 0)) rfl Z_w7.out (by rw [resL_len (by assumption)]; exact wide_res) (resL_one HS.out rfl rfl) (by rw [nul_len, resL_len (by assumption)]) ?_))
  intro w8 hz hg
  have HB_w8 : Hid (Below w.heap.size w w8) := HB_w7.out.grown hg HB_w7.out.size (fun j hj => by cases hj; exact (by have := HLGZ.out; omega))
  have A_w8 : Hid (BoxC w8 43 w.heap.size (resL (.slice a2 T.length c2) (f : Int) vs R.fk R.fa 1 (.slice none 0 0))) := A_w7.out.kept hg (fun e => by have := HLGZ.out; have := Option.some.inj e; omega)
  have O_w8 : Hid (Av w8 (fun b => B0 ≤ b) (.slice a2 T.length c2) T) := O_w7.out.stored hg (by have := HLB0.out; show ¬ (B0 ≤ GZ); omega)
  clear A_w7 Z_w7 O_w7 HB_w7
  have Z_w8 : Hid (BoxC w8 43 GZ (resL (.slice a2 T.length c2) (f : Int) vs R.fk R.fa 1 (.slice none 0 0))) := hz
  clear hz hg
  go_wp2_with (fail)
  (try simp only [Exit.inBlock, Exit.then])
  refine bodyPost_ret (ret_box1 rfl _ _ GZ (resL (.slice a2 T.length c2) (f : Int) vs R.fk R.fa 1 (.slice none 0 0)) rfl Z_w8.out (by rw [resL_len (by assumption)]; exact wide_res)) rfl ?_
  exact ⟨HB_w8.out, _, rfl, ⟨a2, c2, vs, rfl, (O_w8.out.weak (fun b hb => HP.out _ (Nat.le_trans HLB0.out.1 hb))), ((HRg.out _ HB_w8.out).weak (fun b hb => hb.1))⟩⟩

set_option maxHeartbeats 2000000 in
theorem acted_yy (a : Option Addr) (cap : Nat) (vs : List Value) (R : Res) (c r g : Int) (w : World) (P : Nat → Prop) (hP : ∀ b, w.heap.size ≤ b → P b) (h : Av w P (.slice a R.text.length cap) R.text) (hr : AvR w P vs R.regs) (f t : Nat) (h1 : f ≤ t) (h2 : t ≤ R.text.length) (hz : R.text.length ≤ 200) :
    Calls Try.prog 50 #[.agg (resL (.slice a R.text.length cap) R.loc vs R.fk R.fa R.mode (.slice none 0 0)).toArray, .agg #[.int .i64 c, .int .i64 r, .int .i64 121, .int .i64 121, .int .i64 g], .int .i64 (f : Int), .int .i64 (t : Int)] w fun q w' => Below w.heap.size w w' ∧ ∃ x, q = .returned x ∧ ResAv w' P x { R with loc := R.loc } := by
  have hvs : vs.length = 27 := hr.len
  have HT : Hid (∀ wx, Below w.heap.size w wx → Av wx (fun b => P b ∧ b < w.heap.size) (.slice a R.text.length cap) R.text) := fun wx hx => (h.both (av_arg h.1)).below hx
  have HRg : Hid (∀ wx, Below w.heap.size w wx → AvR wx (fun b => P b ∧ b < w.heap.size) vs R.regs) := fun wx hx => (hr.both (avR_arg hr.1)).below hx
  have HP : Hid (∀ b, w.heap.size ≤ b → P b) := hP
  have HS : Hid (AllSl vs) := hr.1.1
  clear h hr hP
  go_enter Try.func50, Try.ntmps50
  go_wp2_with (refine boxC rfl 43 _ rfl (resL (.slice a R.text.length cap) R.loc vs R.fk R.fa R.mode (.slice none 0 0)) rfl ?_)
  intro w1 ha hb
  have HB_w1 : Hid (Below w.heap.size w w1) := hb
  have A_w1 : Hid (BoxC w1 43 w.heap.size (resL (.slice a R.text.length cap) R.loc vs R.fk R.fa R.mode (.slice none 0 0))) := ha
  clear ha hb
  go_wp2_with (refine boxC rfl 38 _ rfl [.int .i64 c, .int .i64 r, .int .i64 121, .int .i64 121, .int .i64 g] rfl ?_)
  intro w2 ha hb
  have HLGC : Hid (w.heap.size ≤ w1.heap.size ∧ w.heap.size < w1.heap.size) := ⟨HB_w1.out.size, A_w1.out.lt⟩
  have HB_w2 : Hid (Below w.heap.size w w2) := below_trans HB_w1.out hb HB_w1.out.size
  have A_w2 : Hid (BoxC w2 43 w.heap.size (resL (.slice a R.text.length cap) R.loc vs R.fk R.fa R.mode (.slice none 0 0))) := A_w1.out.below hb
  clear A_w1 HB_w1
  have C_w2 : Hid (BoxC w2 38 w1.heap.size [.int .i64 c, .int .i64 r, .int .i64 121, .int .i64 121, .int .i64 g]) := ha
  clear ha hb
  generalize w1.heap.size = GC at *
  go_wp2_with (refine allocC rfl 43 rfl nulL nul_zero ?_)
  intro w3 ha hb
  have HLGZ : Hid (w.heap.size ≤ w2.heap.size ∧ w.heap.size < w2.heap.size ∧ GC < w2.heap.size) := ⟨HB_w2.out.size, A_w2.out.lt, C_w2.out.lt⟩
  have HB_w3 : Hid (Below w.heap.size w w3) := below_trans HB_w2.out hb HB_w2.out.size
  have A_w3 : Hid (BoxC w3 43 w.heap.size (resL (.slice a R.text.length cap) R.loc vs R.fk R.fa R.mode (.slice none 0 0))) := A_w2.out.below hb
  have C_w3 : Hid (BoxC w3 38 GC [.int .i64 c, .int .i64 r, .int .i64 121, .int .i64 121, .int .i64 g]) := C_w2.out.below hb
  clear A_w2 C_w2 HB_w2
  have Z_w3 : Hid (BoxC w3 43 w2.heap.size nulL) := ha
  clear ha hb
  generalize w2.heap.size = GZ at *
  have a0 : w3.cell? ⟨w.heap.size, 0, none⟩ = some (.slice a R.text.length cap) := (A_w3.out.cell 0).trans resL_0
  have a1 : w3.cell? ⟨w.heap.size, 1, none⟩ = some (.int .i64 R.loc) := (A_w3.out.cell 1).trans resL_1
  have a29 : w3.cell? ⟨w.heap.size, 29, none⟩ = some (.int .i64 R.fk) := (A_w3.out.cell 29).trans (resL_end (by assumption) 0)
  have a30 : w3.cell? ⟨w.heap.size, 30, none⟩ = some (.int .i64 R.fa) := (A_w3.out.cell 30).trans (resL_end (by assumption) 1)
  go_wp2_with (fail)
  go_quiet (fail)
  generalize hq_w4 : w3.drewN _ = w4
  have hb : Below w3.heap.size w3 w4 := by rw [← hq_w4]; exact below_drewN (Below.refl _ _) _
  clear hq_w4
  have HB_w4 : Hid (Below w.heap.size w w4) := below_trans HB_w3.out hb HB_w3.out.size
  have A_w4 : Hid (BoxC w4 43 w.heap.size (resL (.slice a R.text.length cap) R.loc vs R.fk R.fa R.mode (.slice none 0 0))) := A_w3.out.below hb
  have C_w4 : Hid (BoxC w4 38 GC [.int .i64 c, .int .i64 r, .int .i64 121, .int .i64 121, .int .i64 g]) := C_w3.out.below hb
  have Z_w4 : Hid (BoxC w4 43 GZ nulL) := Z_w3.out.below hb
  clear A_w3 C_w3 Z_w3 HB_w3
  clear hb
  clear a0 a1 a29 a30
  have cC2 : w4.cell? ⟨GC, 2, none⟩ = some (.int .i64 121) := (C_w4.out.cell 2).trans rfl
  have cC3 : w4.cell? ⟨GC, 3, none⟩ = some (.int .i64 121) := (C_w4.out.cell 3).trans rfl
  go_wp2_with (first | (refine loadC rfl 43 _ rfl w.heap.size rfl (resL (.slice a R.text.length cap) R.loc vs R.fk R.fa R.mode (.slice none 0 0)) A_w4.out (by rw [resL_len (by assumption)]; exact wide_res) ?_) | (refine storeC rfl 43 _ _ rfl GZ rfl nulL (resL (.slice a R.text.length cap) R.loc vs R.fk R.fa R.mode (.slice none 0 0)) rfl Z_w4.out (by rw [resL_len (by assumption)]; exact wide_res) (resL_one HS.out rfl rfl) (by rw [nul_len, resL_len (by assumption)]) ?_))
  intro w5 hz hg
  have HB_w5 : Hid (Below w.heap.size w w5) := HB_w4.out.grown hg HB_w4.out.size (fun j hj => by cases hj; exact (by have := HLGZ.out; omega))
  have A_w5 : Hid (BoxC w5 43 w.heap.size (resL (.slice a R.text.length cap) R.loc vs R.fk R.fa R.mode (.slice none 0 0))) := A_w4.out.kept hg (fun e => by have := HLGZ.out; have := Option.some.inj e; omega)
  have C_w5 : Hid (BoxC w5 38 GC [.int .i64 c, .int .i64 r, .int .i64 121, .int .i64 121, .int .i64 g]) := C_w4.out.kept hg (fun e => by have := HLGZ.out; have := HLGC.out; have := Option.some.inj e; omega)
  clear A_w4 C_w4 Z_w4 HB_w4
  have Z_w5 : Hid (BoxC w5 43 GZ (resL (.slice a R.text.length cap) R.loc vs R.fk R.fa R.mode (.slice none 0 0))) := hz
  clear hz hg
  go_wp2_with (fail)
  (try simp only [Exit.inBlock, Exit.then])
  refine bodyPost_ret (ret_box1 rfl _ _ GZ (resL (.slice a R.text.length cap) R.loc vs R.fk R.fa R.mode (.slice none 0 0)) rfl Z_w5.out (by rw [resL_len (by assumption)]; exact wide_res)) rfl ?_
  exact ⟨HB_w5.out, _, rfl, ⟨a, cap, vs, rfl, ((HT.out _ HB_w5.out).weak (fun b hb => hb.1)), ((HRg.out _ HB_w5.out).weak (fun b hb => hb.1))⟩⟩

set_option maxHeartbeats 2000000 in
theorem acted_y (a : Option Addr) (cap : Nat) (vs : List Value) (R : Res) (c r v g : Int) (w : World) (P : Nat → Prop) (hP : ∀ b, w.heap.size ≤ b → P b) (h : Av w P (.slice a R.text.length cap) R.text) (hr : AvR w P vs R.regs) (f t : Nat) (h1 : f ≤ t) (h2 : t ≤ R.text.length) (hz : R.text.length ≤ 200) (hv : v ≠ 121) (K : Int) (hK : min R.loc (f : Int) = K) :
    Calls Try.prog 50 #[.agg (resL (.slice a R.text.length cap) R.loc vs R.fk R.fa R.mode (.slice none 0 0)).toArray, .agg #[.int .i64 c, .int .i64 r, .int .i64 121, .int .i64 v, .int .i64 g], .int .i64 (f : Int), .int .i64 (t : Int)] w fun q w' => Below w.heap.size w w' ∧ ∃ x, q = .returned x ∧ ResAv w' P x { R with loc := K } := by
  have hb : (v != 121) = true := by simpa using hv
  clear hv
  have hvs : vs.length = 27 := hr.len
  have HT : Hid (∀ wx, Below w.heap.size w wx → Av wx (fun b => P b ∧ b < w.heap.size) (.slice a R.text.length cap) R.text) := fun wx hx => (h.both (av_arg h.1)).below hx
  have HRg : Hid (∀ wx, Below w.heap.size w wx → AvR wx (fun b => P b ∧ b < w.heap.size) vs R.regs) := fun wx hx => (hr.both (avR_arg hr.1)).below hx
  have HP : Hid (∀ b, w.heap.size ≤ b → P b) := hP
  have HS : Hid (AllSl vs) := hr.1.1
  clear h hr hP
  go_enter Try.func50, Try.ntmps50
  go_wp2_with (refine boxC rfl 43 _ rfl (resL (.slice a R.text.length cap) R.loc vs R.fk R.fa R.mode (.slice none 0 0)) rfl ?_)
  intro w1 ha hb
  have HB_w1 : Hid (Below w.heap.size w w1) := hb
  have A_w1 : Hid (BoxC w1 43 w.heap.size (resL (.slice a R.text.length cap) R.loc vs R.fk R.fa R.mode (.slice none 0 0))) := ha
  clear ha hb
  go_wp2_with (refine boxC rfl 38 _ rfl [.int .i64 c, .int .i64 r, .int .i64 121, .int .i64 v, .int .i64 g] rfl ?_)
  intro w2 ha hb
  have HLGC : Hid (w.heap.size ≤ w1.heap.size ∧ w.heap.size < w1.heap.size) := ⟨HB_w1.out.size, A_w1.out.lt⟩
  have HB_w2 : Hid (Below w.heap.size w w2) := below_trans HB_w1.out hb HB_w1.out.size
  have A_w2 : Hid (BoxC w2 43 w.heap.size (resL (.slice a R.text.length cap) R.loc vs R.fk R.fa R.mode (.slice none 0 0))) := A_w1.out.below hb
  clear A_w1 HB_w1
  have C_w2 : Hid (BoxC w2 38 w1.heap.size [.int .i64 c, .int .i64 r, .int .i64 121, .int .i64 v, .int .i64 g]) := ha
  clear ha hb
  generalize w1.heap.size = GC at *
  go_wp2_with (refine allocC rfl 43 rfl nulL nul_zero ?_)
  intro w3 ha hb
  have HLGZ : Hid (w.heap.size ≤ w2.heap.size ∧ w.heap.size < w2.heap.size ∧ GC < w2.heap.size) := ⟨HB_w2.out.size, A_w2.out.lt, C_w2.out.lt⟩
  have HB_w3 : Hid (Below w.heap.size w w3) := below_trans HB_w2.out hb HB_w2.out.size
  have A_w3 : Hid (BoxC w3 43 w.heap.size (resL (.slice a R.text.length cap) R.loc vs R.fk R.fa R.mode (.slice none 0 0))) := A_w2.out.below hb
  have C_w3 : Hid (BoxC w3 38 GC [.int .i64 c, .int .i64 r, .int .i64 121, .int .i64 v, .int .i64 g]) := C_w2.out.below hb
  clear A_w2 C_w2 HB_w2
  have Z_w3 : Hid (BoxC w3 43 w2.heap.size nulL) := ha
  clear ha hb
  generalize w2.heap.size = GZ at *
  have a0 : w3.cell? ⟨w.heap.size, 0, none⟩ = some (.slice a R.text.length cap) := (A_w3.out.cell 0).trans resL_0
  have a1 : w3.cell? ⟨w.heap.size, 1, none⟩ = some (.int .i64 R.loc) := (A_w3.out.cell 1).trans resL_1
  have a29 : w3.cell? ⟨w.heap.size, 29, none⟩ = some (.int .i64 R.fk) := (A_w3.out.cell 29).trans (resL_end (by assumption) 0)
  have a30 : w3.cell? ⟨w.heap.size, 30, none⟩ = some (.int .i64 R.fa) := (A_w3.out.cell 30).trans (resL_end (by assumption) 1)
  go_wp2_with (fail)
  go_quiet (fail)
  generalize hq_w4 : w3.drewN _ = w4
  have hb : Below w3.heap.size w3 w4 := by rw [← hq_w4]; exact below_drewN (Below.refl _ _) _
  clear hq_w4
  have HB_w4 : Hid (Below w.heap.size w w4) := below_trans HB_w3.out hb HB_w3.out.size
  have A_w4 : Hid (BoxC w4 43 w.heap.size (resL (.slice a R.text.length cap) R.loc vs R.fk R.fa R.mode (.slice none 0 0))) := A_w3.out.below hb
  have C_w4 : Hid (BoxC w4 38 GC [.int .i64 c, .int .i64 r, .int .i64 121, .int .i64 v, .int .i64 g]) := C_w3.out.below hb
  have Z_w4 : Hid (BoxC w4 43 GZ nulL) := Z_w3.out.below hb
  clear A_w3 C_w3 Z_w3 HB_w3
  clear hb
  clear a0 a1 a29 a30
  have cC2 : w4.cell? ⟨GC, 2, none⟩ = some (.int .i64 121) := (C_w4.out.cell 2).trans rfl
  have cC3 : w4.cell? ⟨GC, 3, none⟩ = some (.int .i64 v) := (C_w4.out.cell 3).trans rfl
  go_wp2_with (refine storeO rfl 43 3 _ _ rfl w.heap.size 1 rfl (resL (.slice a R.text.length cap) R.loc vs R.fk R.fa R.mode (.slice none 0 0)) (resL (.slice a R.text.length cap) K vs R.fk R.fa R.mode (.slice none 0 0)) (.int .i64 K) (.int .i64 R.loc) rfl A_w4.out rfl (fun xs hx => by cases hx) resL_1 one_int (resL_at _) ?_)
  intro w5 hz hg
  have HB_w5 : Hid (Below w.heap.size w w5) := HB_w4.out.grown hg HB_w4.out.size (fun j hj => by cases hj; exact Nat.le_refl _)
  have C_w5 : Hid (BoxC w5 38 GC [.int .i64 c, .int .i64 r, .int .i64 121, .int .i64 v, .int .i64 g]) := C_w4.out.kept hg (fun e => by have := HLGC.out; have := Option.some.inj e; omega)
  have Z_w5 : Hid (BoxC w5 43 GZ nulL) := Z_w4.out.kept hg (fun e => by have := HLGZ.out; have := Option.some.inj e; omega)
  clear A_w4 C_w4 Z_w4 HB_w4
  have A_w5 : Hid (BoxC w5 43 w.heap.size (resL (.slice a R.text.length cap) K vs R.fk R.fa R.mode (.slice none 0 0))) := hz
  clear hz hg
  clear cC2 cC3
  go_wp2_with (first | (refine loadC rfl 43 _ rfl w.heap.size rfl (resL (.slice a R.text.length cap) K vs R.fk R.fa R.mode (.slice none 0 0)) A_w5.out (by rw [resL_len (by assumption)]; exact wide_res) ?_) | (refine storeC rfl 43 _ _ rfl GZ rfl nulL (resL (.slice a R.text.length cap) K vs R.fk R.fa R.mode (.slice none 0 0)) rfl Z_w5.out (by rw [resL_len (by assumption)]; exact wide_res) (resL_one HS.out rfl rfl) (by rw [nul_len, resL_len (by assumption)]) ?_))
  intro w6 hz hg
  have HB_w6 : Hid (Below w.heap.size w w6) := HB_w5.out.grown hg HB_w5.out.size (fun j hj => by cases hj; exact (by have := HLGZ.out; omega))
  have A_w6 : Hid (BoxC w6 43 w.heap.size (resL (.slice a R.text.length cap) K vs R.fk R.fa R.mode (.slice none 0 0))) := A_w5.out.kept hg (fun e => by have := HLGZ.out; have := Option.some.inj e; omega)
  have C_w6 : Hid (BoxC w6 38 GC [.int .i64 c, .int .i64 r, .int .i64 121, .int .i64 v, .int .i64 g]) := C_w5.out.kept hg (fun e => by have := HLGZ.out; have := HLGC.out; have := Option.some.inj e; omega)
  clear A_w5 C_w5 Z_w5 HB_w5
  have Z_w6 : Hid (BoxC w6 43 GZ (resL (.slice a R.text.length cap) K vs R.fk R.fa R.mode (.slice none 0 0))) := hz
  clear hz hg
  go_wp2_with (fail)
  (try simp only [Exit.inBlock, Exit.then])
  refine bodyPost_ret (ret_box1 rfl _ _ GZ (resL (.slice a R.text.length cap) K vs R.fk R.fa R.mode (.slice none 0 0)) rfl Z_w6.out (by rw [resL_len (by assumption)]; exact wide_res)) rfl ?_
  exact ⟨HB_w6.out, _, rfl, ⟨a, cap, vs, rfl, ((HT.out _ HB_w6.out).weak (fun b hb => hb.1)), ((HRg.out _ HB_w6.out).weak (fun b hb => hb.1))⟩⟩
end Go.Proofs.Ytpgjaoemkadenab.Seek

/- The contracts of edit.begun and edit.acted, whole. -/
set_option linter.unusedVariables false
set_option linter.unusedSimpArgs false
set_option maxRecDepth 100000
namespace Go.Proofs.Ytpgjaoemkadenab.Seek
open Go.RowKit Plain
/-- A call that answers a result alone. -/
def OnePost (P : Nat → Prop) (R : Res) (w : World) (q : Ending) (w' : World) : Prop := Below w.heap.size w w' ∧ ∃ x, q = .returned x ∧ ResAv w' P x R
theorem begun_go (a : Option Addr) (cap : Nat) (vs : List Value) (R : Res) (w : World) (P : Nat → Prop) (hP : ∀ b, w.heap.size ≤ b → P b) (h : Av w P (.slice a R.text.length cap) R.text) (hr : AvR w P vs R.regs) (hk0 : 0 ≤ R.loc) (hk1 : R.loc ≤ 4096) (v : Int) (hv : v = 105 ∨ v = 73 ∨ v = 97 ∨ v = 65 ∨ v = 82) :
    Calls Try.prog 41 #[.agg (resL (.slice a R.text.length cap) R.loc vs R.fk R.fa R.mode (.slice none 0 0)).toArray, .int .i64 v] w fun q w' => OnePost P (bgn' R v) w q w' := by
  rcases hv with rfl | rfl | rfl | rfl | rfl
  · exact begun_i a cap vs R w P hP h hr
  · exact begun_gI a cap vs R w P hP h hr _ rfl
  · exact begun_a a cap vs R w P hP h hr _ rfl hk0 hk1
  · exact begun_gA a cap vs R w P hP h hr
  · exact begun_gR a cap vs R w P hP h hr
theorem acted_go (a : Option Addr) (cap : Nat) (vs : List Value) (R : Res) (c r o v g : Int) (w : World) (P : Nat → Prop) (hP : ∀ b, w.heap.size ≤ b → P b) (h : Av w P (.slice a R.text.length cap) R.text) (hr : AvR w P vs R.regs) (f t : Nat) (h1 : f ≤ t) (h2 : t ≤ R.text.length) (hz : R.text.length ≤ 200) (ho : o = 100 ∨ o = 99 ∨ o = 121) :
    Calls Try.prog 50 #[.agg (resL (.slice a R.text.length cap) R.loc vs R.fk R.fa R.mode (.slice none 0 0)).toArray, .agg #[.int .i64 c, .int .i64 r, .int .i64 o, .int .i64 v, .int .i64 g], .int .i64 (f : Int), .int .i64 (t : Int)] w fun q w' => OnePost P (act R o v f t) w q w' := by
  have hl : (wit R.text f t []).length ≤ 200 := by rw [wit_len _ _ _ _ h1 h2]; show f + 0 + _ ≤ 200; omega
  rcases ho with rfl | rfl | rfl
  · exact acted_d a cap vs R c r v g w P hP h hr f t h1 h2 hz _ rfl hl _ rfl
  · exact acted_c a cap vs R c r v g w P hP h hr f t h1 h2 hz _ rfl hl
  · by_cases hv : v = 121
    · subst hv
      exact acted_yy a cap vs R c r g w P hP h hr f t h1 h2 hz
    · have q := acted_y a cap vs R c r v g w P hP h hr f t h1 h2 hz hv _ rfl
      refine q.mono ?_
      rintro q w' ⟨hb, x, e, hx⟩
      refine ⟨hb, x, e, ?_⟩
      have : act R 121 v f t = { R with loc := min R.loc (f : Int) } := by unfold act; rw [if_neg (by decide), if_neg (by decide), if_pos rfl, if_pos hv]
      rw [this]
      exact hx
end Go.Proofs.Ytpgjaoemkadenab.Seek

/- Letters turned: rows of numbers that are written into; edit.otherCase. -/
set_option linter.unusedVariables false
set_option linter.unusedSimpArgs false
set_option maxRecDepth 100000
namespace Go.Proofs.Ytpgjaoemkadenab.Seek
open Go.RowKit Plain

/-- The numbers zs at the beginning of block g. -/
def RowI (w : World) (g c : Nat) (zs : List Int) : Prop := ∃ cur : List Value, BoxC w 3 g cur ∧ zs.length ≤ c ∧ c ≤ maxLen ∧ ∀ j, j < zs.length → cur[j]? = some (.int .i64 (zs.getD j 0))
section
variable {w w' : World} {g c : Nat} {zs : List Int}
theorem RowI.lt (h : RowI w g c zs) : g < w.heap.size := h.elim fun _ h => h.1.lt
theorem RowI.below (h : RowI w g c zs) (hb : Below w.heap.size w w') : RowI w' g c zs := by
  obtain ⟨cur, h1, h2, h3, h4⟩ := h
  exact ⟨cur, h1.below hb, h2, h3, h4⟩
theorem RowI.cell (h : RowI w g c zs) (j : Nat) (hj : j < zs.length) : w.cell? ⟨g, j, none⟩ = some (.int .i64 (zs.getD j 0)) := by
  obtain ⟨cur, h1, h2, h3, h4⟩ := h
  exact (h1.cell j).trans (h4 j hj)
theorem RowI.fr (h : RowI w g c zs) (j : Nat) : w.frozen? ⟨g, j, none⟩ = false := h.elim fun _ h => h.1.fr j
theorem RowI.reads (h : RowI w g c zs) : Reads w (.slice (some ⟨g, 0, none⟩) zs.length c) zs := by
  have hl := h.lt
  have hc := h.cell
  obtain ⟨cur, h1, h2, h3, h4⟩ := h
  exact .inr ⟨g, 0, c, rfl, h2, h3, hl, fun j hj => by rw [Nat.zero_add]; exact hc j hj⟩
theorem RowI.set (h : RowI w g c zs) (j : Nat) (hj : j < zs.length) (x : Int) : RowI (w.setCell ⟨g, j, none⟩ (.int .i64 x)) g c (zs.set j x) := by
  obtain ⟨cur, h1, h2, h3, h4⟩ := h
  refine ⟨_, h1.set j _, by rw [List.length_set]; exact h2, h3, fun i hi => ?_⟩
  rw [List.length_set] at hi
  have hcl : j < cur.length := by
    rcases Nat.lt_or_ge j cur.length with h | h
    · exact h
    · have := h4 j hj
      rw [List.getElem?_eq_none h] at this
      cases this
  rw [List.getElem?_set, List.getD_eq_getElem?_getD, List.getElem?_set]
  by_cases e : j = i
  · subst e
    rw [if_pos rfl, if_pos rfl, if_pos hcl, if_pos hj]
    rfl
  · rw [if_neg e, if_neg e, ← List.getD_eq_getElem?_getD]
    exact h4 i hi
end
theorem row_of {w : World} {B : Nat} {v : Value} {zs : List Int} (h : Own w B v zs) (hz : zs ≠ []) : ∃ g c, v = .slice (some ⟨g, 0, none⟩) zs.length c ∧ B ≤ g ∧ RowI w g c zs := by
  rcases h with ⟨_, _, _, h0⟩ | ⟨_, g, cap, hv, hB, hg, h⟩
  · exact absurd h0 hz
  · have hh := h
    rcases h.2 with ⟨h0, _⟩ | ⟨g', c, cur, hv', hB', hg', hle, hm, hs, hc⟩
    · rw [hv] at h0
      cases h0
    · rw [hv] at hv'
      cases hv'
      have hb : BoxC w 3 g cur.toList := by show w.heap[g]? = _; rw [hg', Array.toArray_toList]
      refine ⟨g, cap, hv, hB, cur.toList, hb, hle, hm, fun j hj => ?_⟩
      rw [← hb.cell j]
      have q := owned_cells hg' hc j hj
      rw [Nat.zero_add] at q
      exact q
theorem cas_go (x : Int) (w : World) : Calls Try.prog 52 #[.int .i64 x] w fun e w' => e = .returned (.int .i64 (cas x)) ∧ w' = w := by
  by_cases h1 : 65 ≤ x ∧ x ≤ 90
  · have e : cas x = x - 65 + 97 := by unfold cas; rw [if_pos h1]
    have hw1 : IntKind.i64.wrap (x - 65) = x - 65 := by rw [IntKind.wrap_i64]; omega
    have hw2 : IntKind.i64.wrap (x - 65 + 97) = x - 65 + 97 := by rw [IntKind.wrap_i64]; omega
    obtain ⟨a1, a2⟩ := h1
    rw [e]
    clear e
    go_enter Try.func52, Try.ntmps52
    go_wp2_with fail
    go_ret
    exact ⟨rfl, rfl⟩
  · by_cases h2 : 97 ≤ x ∧ x ≤ 122
    · have e : cas x = x - 97 + 65 := by unfold cas; rw [if_neg h1, if_pos h2]
      have hw1 : IntKind.i64.wrap (x - 97) = x - 97 := by rw [IntKind.wrap_i64]; omega
      have hw2 : IntKind.i64.wrap (x - 97 + 65) = x - 97 + 65 := by rw [IntKind.wrap_i64]; omega
      have a1 : 65 ≤ x := by omega
      have a2 : ¬ x ≤ 90 := by omega
      obtain ⟨a3, a4⟩ := h2
      rw [e]
      clear e h1
      go_enter Try.func52, Try.ntmps52
      go_wp2_with fail
      go_ret
      exact ⟨rfl, rfl⟩
    · have e : cas x = x := by unfold cas; rw [if_neg h1, if_neg h2]
      rw [e]
      clear e
      by_cases a1 : 65 ≤ x
      · have a2 : ¬ x ≤ 90 := by omega
        by_cases a3 : 97 ≤ x
        · have a4 : ¬ x ≤ 122 := by omega
          clear h1 h2
          go_enter Try.func52, Try.ntmps52
          go_wp2_with fail
          go_ret
          exact ⟨rfl, rfl⟩
        · clear h1 h2
          go_enter Try.func52, Try.ntmps52
          go_wp2_with fail
          go_ret
          exact ⟨rfl, rfl⟩
      · have a3 : ¬ 97 ≤ x := by omega
        clear h1 h2
        go_enter Try.func52, Try.ntmps52
        go_wp2_with fail
        go_ret
        exact ⟨rfl, rfl⟩

theorem flp_len (zs : List Int) (l n : Nat) (h : l ≤ zs.length) : (flp zs l n).length = zs.length := by
  unfold flp
  simp only [List.length_append, List.length_take, List.length_map, List.length_drop]
  omega
theorem flp_zero (zs : List Int) (l : Nat) : flp zs l 0 = zs := by unfold flp; simp
theorem flp_get (zs : List Int) (l n : Nat) (h : l + n < zs.length) : (flp zs l n).getD (l + n) 0 = zs.getD (l + n) 0 := by
  unfold flp
  have e : (zs.take l ++ ((zs.drop l).take n).map cas).length = l + n := by
    simp only [List.length_append, List.length_take, List.length_map, List.length_drop]
    omega
  rw [List.getD_eq_getElem?_getD, List.getElem?_append_right (by omega), e, Nat.sub_self, List.getElem?_drop, Nat.add_zero, ← List.getD_eq_getElem?_getD]
theorem flp_step (zs : List Int) (l n : Nat) (h : l + n < zs.length) : (flp zs l n).set (l + n) (cas (zs.getD (l + n) 0)) = flp zs l (n + 1) := by
  unfold flp
  have e : (zs.take l ++ ((zs.drop l).take n).map cas).length = l + n := by
    simp only [List.length_append, List.length_take, List.length_map, List.length_drop]
    omega
  have hx : zs.getD (l + n) 0 = zs[l + n] := by rw [List.getD_eq_getElem?_getD, List.getElem?_eq_getElem h]; rfl
  rw [List.set_append_right _ _ (by omega), e, Nat.sub_self, hx, List.drop_eq_getElem_cons h, List.set_cons_zero, List.take_add_one, List.getElem?_drop, List.getElem?_eq_getElem h, Option.toList_some, List.map_append, List.map_singleton]
  simp only [List.append_assoc, List.singleton_append, Nat.add_assoc]
theorem flp_all (zs : List Int) (l n m : Nat) (h : zs.length ≤ l + m) (hm : m ≤ n) : flp zs l m = flp zs l n := by
  unfold flp
  rw [List.take_of_length_le (i := m) (by rw [List.length_drop]; omega), List.take_of_length_le (i := n) (by rw [List.length_drop]; omega), List.drop_of_length_le h, List.drop_of_length_le (i := l + n) (by omega)]
theorem flp_all' (zs : List Int) (l n : Nat) (h : l ≤ zs.length) : flp zs l (min (l + n) zs.length - l) = flp zs l n := by
  by_cases hb : l + n ≤ zs.length
  · rw [show min (l + n) zs.length - l = n by omega]
  · exact flp_all zs l n _ (by omega) (by omega)
end Go.Proofs.Ytpgjaoemkadenab.Seek
