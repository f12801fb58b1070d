/- The contract of edit.operated. -/
import Derived.Test.YtpgjaoemkadenabM34
import Derived.Deep.RegionHeld3
set_option linter.unusedVariables false
set_option linter.unusedSimpArgs false
set_option maxRecDepth 100000
namespace Go.Proofs.Ytpgjaoemkadenab.Seek
open Go.RowKit Plain


set_option maxHeartbeats 2000000 in
theorem opd_err (a : Option Addr) (cap : Nat) (vs : List Value) (R : Res) (c r o v g : Int) (w : World) (P : Nat → Prop) (hP : ∀ b, w.heap.size ≤ b → P b) (h : Av w P (.slice a R.text.length cap) R.text) (hr : AvR w P vs R.regs) (hz : R.text.length ≤ 200) (ho : o = 100 ∨ o = 99 ∨ o = 121) (S : Int × Int × Int) (hS : spn R c o v g = S) (he : S.2.2 ≠ 0) :
    Calls Try.prog 37 #[.agg (resL (.slice a R.text.length cap) R.loc vs R.fk R.fa R.mode (.slice none 0 0)).toArray, .agg #[.int .i64 c, .int .i64 r, .int .i64 o, .int .i64 v, .int .i64 g]] w fun q w' => DonePost P (nulR, S.2.2) w q w' := by
  have HSP : Hid (∀ wx, Below w.heap.size w wx → Calls Try.prog 48 #[.agg (resL (.slice a R.text.length cap) R.loc vs R.fk R.fa R.mode (.slice none 0 0)).toArray, .agg #[.int .i64 c, .int .i64 r, .int .i64 o, .int .i64 v, .int .i64 g]] wx fun q w' => q = .returned (.tuple #[.int .i64 S.1, .int .i64 S.2.1, .int .i64 S.2.2]) ∧ Below wx.heap.size wx w') := fun wx hx => by
    have q := span_go a cap vs R c r o v g wx (fun b => P b) (fun b hb => hP b (Nat.le_trans hx.size hb)) (h.below hx) (hr.below hx) hz
    rw [hS] at q
    exact q
  clear hS
  have hb1 : (S.2.2 != 0) = true := by simpa using he
  clear he
  have hvs : vs.length = 27 := hr.len
  have HT : Hid (∀ wx, Below w.heap.size w wx → Av wx (fun b => P b ∧ b < w.heap.size) (.slice a R.text.length cap) R.text) := fun wx hx => (h.both (av_arg h.1)).below hx
  have HRg : Hid (∀ wx, Below w.heap.size w wx → AvR wx (fun b => P b ∧ b < w.heap.size) vs R.regs) := fun wx hx => (hr.both (avR_arg hr.1)).below hx
  have HP : Hid (∀ b, w.heap.size ≤ b → P b) := hP
  have HS : Hid (AllSl vs) := hr.1.1
  clear h hr hP
  go_enter Try.func37, Try.ntmps37
  go_wp2_with (refine boxC rfl 43 _ rfl (resL (.slice a R.text.length cap) R.loc vs R.fk R.fa R.mode (.slice none 0 0)) rfl ?_)
  intro w1 ha hb
  have HB_w1 : Hid (Below w.heap.size w w1) := hb
  have A_w1 : Hid (BoxC w1 43 w.heap.size (resL (.slice a R.text.length cap) R.loc vs R.fk R.fa R.mode (.slice none 0 0))) := ha
  clear ha hb
  go_wp2_with (refine boxC rfl 38 _ rfl [.int .i64 c, .int .i64 r, .int .i64 o, .int .i64 v, .int .i64 g] rfl ?_)
  intro w2 ha hb
  have HLGC : Hid (w.heap.size ≤ w1.heap.size ∧ w.heap.size < w1.heap.size) := ⟨HB_w1.out.size, A_w1.out.lt⟩
  have HB_w2 : Hid (Below w.heap.size w w2) := below_trans HB_w1.out hb HB_w1.out.size
  have A_w2 : Hid (BoxC w2 43 w.heap.size (resL (.slice a R.text.length cap) R.loc vs R.fk R.fa R.mode (.slice none 0 0))) := A_w1.out.below hb
  clear A_w1 HB_w1
  have C_w2 : Hid (BoxC w2 38 w1.heap.size [.int .i64 c, .int .i64 r, .int .i64 o, .int .i64 v, .int .i64 g]) := ha
  clear ha hb
  generalize w1.heap.size = GC at *
  go_wp2_with (refine allocC rfl 43 rfl nulL nul_zero ?_)
  intro w3 ha hb
  have HLGZ : Hid (w.heap.size ≤ w2.heap.size ∧ w.heap.size < w2.heap.size ∧ GC < w2.heap.size) := ⟨HB_w2.out.size, A_w2.out.lt, C_w2.out.lt⟩
  have HB_w3 : Hid (Below w.heap.size w w3) := below_trans HB_w2.out hb HB_w2.out.size
  have A_w3 : Hid (BoxC w3 43 w.heap.size (resL (.slice a R.text.length cap) R.loc vs R.fk R.fa R.mode (.slice none 0 0))) := A_w2.out.below hb
  have C_w3 : Hid (BoxC w3 38 GC [.int .i64 c, .int .i64 r, .int .i64 o, .int .i64 v, .int .i64 g]) := C_w2.out.below hb
  clear A_w2 C_w2 HB_w2
  have Z_w3 : Hid (BoxC w3 43 w2.heap.size nulL) := ha
  clear ha hb
  generalize w2.heap.size = GZ at *
  have cC0 : w3.cell? ⟨GC, 0, none⟩ = some (.int .i64 c) := (C_w3.out.cell 0).trans rfl
  have cC1 : w3.cell? ⟨GC, 1, none⟩ = some (.int .i64 r) := (C_w3.out.cell 1).trans rfl
  have cC2 : w3.cell? ⟨GC, 2, none⟩ = some (.int .i64 o) := (C_w3.out.cell 2).trans rfl
  have cC3 : w3.cell? ⟨GC, 3, none⟩ = some (.int .i64 v) := (C_w3.out.cell 3).trans rfl
  have cC4 : w3.cell? ⟨GC, 4, none⟩ = some (.int .i64 g) := (C_w3.out.cell 4).trans rfl
  go_wp2_with ((refine loadC rfl 43 _ rfl w.heap.size rfl (resL (.slice a R.text.length cap) R.loc vs R.fk R.fa R.mode (.slice none 0 0)) A_w3.out (by rw [resL_len (by assumption)]; exact wide_res) ?_))
  refine (HSP.out _ HB_w3.out).mono ?_
  rintro q w4 ⟨rfl, hb4⟩
  clear cC0 cC1 cC2 cC3 cC4
  have HB_w4 : Hid (Below w.heap.size w w4) := below_trans HB_w3.out hb4 HB_w3.out.size
  have A_w4 : Hid (BoxC w4 43 w.heap.size (resL (.slice a R.text.length cap) R.loc vs R.fk R.fa R.mode (.slice none 0 0))) := A_w3.out.below hb4
  have C_w4 : Hid (BoxC w4 38 GC [.int .i64 c, .int .i64 r, .int .i64 o, .int .i64 v, .int .i64 g]) := C_w3.out.below hb4
  have Z_w4 : Hid (BoxC w4 43 GZ nulL) := Z_w3.out.below hb4
  clear A_w3 C_w3 Z_w3 HB_w3
  clear hb4
  go_wp2_with (refine storeC rfl 43 _ _ rfl GZ rfl nulL nulL rfl Z_w4.out wide_res nul_one rfl ?_)
  intro w5 hz hg
  have HB_w5 : Hid (Below w.heap.size w w5) := HB_w4.out.grown hg HB_w4.out.size (fun j hj => by cases hj; exact (by have := HLGZ.out; omega))
  have A_w5 : Hid (BoxC w5 43 w.heap.size (resL (.slice a R.text.length cap) R.loc vs R.fk R.fa R.mode (.slice none 0 0))) := A_w4.out.kept hg (fun e => by have := HLGZ.out; have := Option.some.inj e; omega)
  have C_w5 : Hid (BoxC w5 38 GC [.int .i64 c, .int .i64 r, .int .i64 o, .int .i64 v, .int .i64 g]) := C_w4.out.kept hg (fun e => by have := HLGZ.out; have := HLGC.out; have := Option.some.inj e; omega)
  clear A_w4 C_w4 Z_w4 HB_w4
  have Z_w5 : Hid (BoxC w5 43 GZ nulL) := hz
  clear hz hg
  go_wp2_with (fail)
  (try simp only [Exit.inBlock, Exit.then])
  refine bodyPost_ret (ret_box rfl _ _ GZ nulL _ rfl rfl Z_w5.out (by first | exact wide_res | (rw [resL_len (by assumption)]; exact wide_res))) rfl ?_
  exact ⟨HB_w5.out, _, nulR, rfl, resAv_nul _ _, fun h => rfl⟩

set_option maxHeartbeats 2000000 in
theorem opd_none (a : Option Addr) (cap : Nat) (vs : List Value) (R : Res) (c r o v g : Int) (w : World) (P : Nat → Prop) (hP : ∀ b, w.heap.size ≤ b → P b) (h : Av w P (.slice a R.text.length cap) R.text) (hr : AvR w P vs R.regs) (hz : R.text.length ≤ 200) (ho : o = 100 ∨ o = 99 ∨ o = 121) (f : Nat) (hS : spn R c o v g = ((f : Int), (f : Int), 0)) (ho9 : o ≠ 99) :
    Calls Try.prog 37 #[.agg (resL (.slice a R.text.length cap) R.loc vs R.fk R.fa R.mode (.slice none 0 0)).toArray, .agg #[.int .i64 c, .int .i64 r, .int .i64 o, .int .i64 v, .int .i64 g]] w fun q w' => DonePost P (nulR, 5) w q w' := by
  have HSP : Hid (∀ wx, Below w.heap.size w wx → Calls Try.prog 48 #[.agg (resL (.slice a R.text.length cap) R.loc vs R.fk R.fa R.mode (.slice none 0 0)).toArray, .agg #[.int .i64 c, .int .i64 r, .int .i64 o, .int .i64 v, .int .i64 g]] wx fun q w' => q = .returned (.tuple #[.int .i64 (f : Int), .int .i64 (f : Int), .int .i64 0]) ∧ Below wx.heap.size wx w') := fun wx hx => by
    have q := span_go a cap vs R c r o v g wx (fun b => P b) (fun b hb => hP b (Nat.le_trans hx.size hb)) (h.below hx) (hr.below hx) hz
    rw [hS] at q
    exact q
  clear hS
  have hb1 : (o != 99) = true := by simpa using ho9
  clear ho9
  have hvs : vs.length = 27 := hr.len
  have HT : Hid (∀ wx, Below w.heap.size w wx → Av wx (fun b => P b ∧ b < w.heap.size) (.slice a R.text.length cap) R.text) := fun wx hx => (h.both (av_arg h.1)).below hx
  have HRg : Hid (∀ wx, Below w.heap.size w wx → AvR wx (fun b => P b ∧ b < w.heap.size) vs R.regs) := fun wx hx => (hr.both (avR_arg hr.1)).below hx
  have HP : Hid (∀ b, w.heap.size ≤ b → P b) := hP
  have HS : Hid (AllSl vs) := hr.1.1
  clear h hr hP
  go_enter Try.func37, Try.ntmps37
  go_wp2_with (refine boxC rfl 43 _ rfl (resL (.slice a R.text.length cap) R.loc vs R.fk R.fa R.mode (.slice none 0 0)) rfl ?_)
  intro w1 ha hb
  have HB_w1 : Hid (Below w.heap.size w w1) := hb
  have A_w1 : Hid (BoxC w1 43 w.heap.size (resL (.slice a R.text.length cap) R.loc vs R.fk R.fa R.mode (.slice none 0 0))) := ha
  clear ha hb
  go_wp2_with (refine boxC rfl 38 _ rfl [.int .i64 c, .int .i64 r, .int .i64 o, .int .i64 v, .int .i64 g] rfl ?_)
  intro w2 ha hb
  have HLGC : Hid (w.heap.size ≤ w1.heap.size ∧ w.heap.size < w1.heap.size) := ⟨HB_w1.out.size, A_w1.out.lt⟩
  have HB_w2 : Hid (Below w.heap.size w w2) := below_trans HB_w1.out hb HB_w1.out.size
  have A_w2 : Hid (BoxC w2 43 w.heap.size (resL (.slice a R.text.length cap) R.loc vs R.fk R.fa R.mode (.slice none 0 0))) := A_w1.out.below hb
  clear A_w1 HB_w1
  have C_w2 : Hid (BoxC w2 38 w1.heap.size [.int .i64 c, .int .i64 r, .int .i64 o, .int .i64 v, .int .i64 g]) := ha
  clear ha hb
  generalize w1.heap.size = GC at *
  go_wp2_with (refine allocC rfl 43 rfl nulL nul_zero ?_)
  intro w3 ha hb
  have HLGZ : Hid (w.heap.size ≤ w2.heap.size ∧ w.heap.size < w2.heap.size ∧ GC < w2.heap.size) := ⟨HB_w2.out.size, A_w2.out.lt, C_w2.out.lt⟩
  have HB_w3 : Hid (Below w.heap.size w w3) := below_trans HB_w2.out hb HB_w2.out.size
  have A_w3 : Hid (BoxC w3 43 w.heap.size (resL (.slice a R.text.length cap) R.loc vs R.fk R.fa R.mode (.slice none 0 0))) := A_w2.out.below hb
  have C_w3 : Hid (BoxC w3 38 GC [.int .i64 c, .int .i64 r, .int .i64 o, .int .i64 v, .int .i64 g]) := C_w2.out.below hb
  clear A_w2 C_w2 HB_w2
  have Z_w3 : Hid (BoxC w3 43 w2.heap.size nulL) := ha
  clear ha hb
  generalize w2.heap.size = GZ at *
  have cC0 : w3.cell? ⟨GC, 0, none⟩ = some (.int .i64 c) := (C_w3.out.cell 0).trans rfl
  have cC1 : w3.cell? ⟨GC, 1, none⟩ = some (.int .i64 r) := (C_w3.out.cell 1).trans rfl
  have cC2 : w3.cell? ⟨GC, 2, none⟩ = some (.int .i64 o) := (C_w3.out.cell 2).trans rfl
  have cC3 : w3.cell? ⟨GC, 3, none⟩ = some (.int .i64 v) := (C_w3.out.cell 3).trans rfl
  have cC4 : w3.cell? ⟨GC, 4, none⟩ = some (.int .i64 g) := (C_w3.out.cell 4).trans rfl
  go_wp2_with ((refine loadC rfl 43 _ rfl w.heap.size rfl (resL (.slice a R.text.length cap) R.loc vs R.fk R.fa R.mode (.slice none 0 0)) A_w3.out (by rw [resL_len (by assumption)]; exact wide_res) ?_))
  refine (HSP.out _ HB_w3.out).mono ?_
  rintro q w4 ⟨rfl, hb4⟩
  clear cC0 cC1 cC2 cC3 cC4
  have HB_w4 : Hid (Below w.heap.size w w4) := below_trans HB_w3.out hb4 HB_w3.out.size
  have A_w4 : Hid (BoxC w4 43 w.heap.size (resL (.slice a R.text.length cap) R.loc vs R.fk R.fa R.mode (.slice none 0 0))) := A_w3.out.below hb4
  have C_w4 : Hid (BoxC w4 38 GC [.int .i64 c, .int .i64 r, .int .i64 o, .int .i64 v, .int .i64 g]) := C_w3.out.below hb4
  have Z_w4 : Hid (BoxC w4 43 GZ nulL) := Z_w3.out.below hb4
  clear A_w3 C_w3 Z_w3 HB_w3
  clear hb4
  have cC0 : w4.cell? ⟨GC, 0, none⟩ = some (.int .i64 c) := (C_w4.out.cell 0).trans rfl
  have cC1 : w4.cell? ⟨GC, 1, none⟩ = some (.int .i64 r) := (C_w4.out.cell 1).trans rfl
  have cC2 : w4.cell? ⟨GC, 2, none⟩ = some (.int .i64 o) := (C_w4.out.cell 2).trans rfl
  have cC3 : w4.cell? ⟨GC, 3, none⟩ = some (.int .i64 v) := (C_w4.out.cell 3).trans rfl
  have cC4 : w4.cell? ⟨GC, 4, none⟩ = some (.int .i64 g) := (C_w4.out.cell 4).trans rfl
  go_wp2_with (refine storeC rfl 43 _ _ rfl GZ rfl nulL nulL rfl Z_w4.out wide_res nul_one rfl ?_)
  intro w5 hz hg
  have HB_w5 : Hid (Below w.heap.size w w5) := HB_w4.out.grown hg HB_w4.out.size (fun j hj => by cases hj; exact (by have := HLGZ.out; omega))
  have A_w5 : Hid (BoxC w5 43 w.heap.size (resL (.slice a R.text.length cap) R.loc vs R.fk R.fa R.mode (.slice none 0 0))) := A_w4.out.kept hg (fun e => by have := HLGZ.out; have := Option.some.inj e; omega)
  have C_w5 : Hid (BoxC w5 38 GC [.int .i64 c, .int .i64 r, .int .i64 o, .int .i64 v, .int .i64 g]) := C_w4.out.kept hg (fun e => by have := HLGZ.out; have := HLGC.out; have := Option.some.inj e; omega)
  clear A_w4 C_w4 Z_w4 HB_w4
  have Z_w5 : Hid (BoxC w5 43 GZ nulL) := hz
  clear hz hg
  go_wp2_with (fail)
  (try simp only [Exit.inBlock, Exit.then])
  refine bodyPost_ret (ret_box rfl _ _ GZ nulL _ rfl rfl Z_w5.out (by first | exact wide_res | (rw [resL_len (by assumption)]; exact wide_res))) rfl ?_
  exact ⟨HB_w5.out, _, nulR, rfl, resAv_nul _ _, fun h => rfl⟩

set_option maxHeartbeats 2000000 in
theorem opd_same (a : Option Addr) (cap : Nat) (vs : List Value) (R : Res) (c r o v g : Int) (w : World) (P : Nat → Prop) (hP : ∀ b, w.heap.size ≤ b → P b) (h : Av w P (.slice a R.text.length cap) R.text) (hr : AvR w P vs R.regs) (hz : R.text.length ≤ 200) (ho : o = 100 ∨ o = 99 ∨ o = 121) (f : Nat) (hS : spn R c o v g = ((f : Int), (f : Int), 0)) (h2 : f ≤ R.text.length) (ho9 : o = 99) (R9 : Res) (hR9 : act R o v f f = R9) :
    Calls Try.prog 37 #[.agg (resL (.slice a R.text.length cap) R.loc vs R.fk R.fa R.mode (.slice none 0 0)).toArray, .agg #[.int .i64 c, .int .i64 r, .int .i64 o, .int .i64 v, .int .i64 g]] w fun q w' => DonePost P (R9, 0) w q w' := by
  have HSP : Hid (∀ wx, Below w.heap.size w wx → Calls Try.prog 48 #[.agg (resL (.slice a R.text.length cap) R.loc vs R.fk R.fa R.mode (.slice none 0 0)).toArray, .agg #[.int .i64 c, .int .i64 r, .int .i64 o, .int .i64 v, .int .i64 g]] wx fun q w' => q = .returned (.tuple #[.int .i64 (f : Int), .int .i64 (f : Int), .int .i64 0]) ∧ Below wx.heap.size wx w') := fun wx hx => by
    have q := span_go a cap vs R c r o v g wx (fun b => P b) (fun b hb => hP b (Nat.le_trans hx.size hb)) (h.below hx) (hr.below hx) hz
    rw [hS] at q
    exact q
  clear hS
  subst ho9
  have HAC : Hid (∀ wx, Below w.heap.size w wx → ∀ G, G < wx.heap.size → w.heap.size ≤ G → AvR wx (fun b => P b ∧ b ≠ G) vs R.regs → Calls Try.prog 50 #[.agg (resL (.slice a R.text.length cap) R.loc vs R.fk R.fa R.mode (.slice none 0 0)).toArray, .agg #[.int .i64 c, .int .i64 r, .int .i64 99, .int .i64 v, .int .i64 g], .int .i64 (f : Int), .int .i64 (f : Int)] wx fun q w' => OnePost (fun b => P b ∧ b ≠ G) R9 wx q w') := fun wx hx G hG hGl hrg => by
    rw [← hR9]
    exact acted_go a cap vs R c r 99 v g wx _ (fun b hb => ⟨hP b (Nat.le_trans hx.size hb), by omega⟩) (((h.both (av_arg h.1)).below hx).weak (fun b hb => ⟨hb.1, by omega⟩)) hrg f f (Nat.le_refl _) h2 hz (.inr (.inl rfl))
  clear hR9
  have hvs : vs.length = 27 := hr.len
  have HT : Hid (∀ wx, Below w.heap.size w wx → Av wx (fun b => P b ∧ b < w.heap.size) (.slice a R.text.length cap) R.text) := fun wx hx => (h.both (av_arg h.1)).below hx
  have HRg : Hid (∀ wx, Below w.heap.size w wx → AvR wx (fun b => P b ∧ b < w.heap.size) vs R.regs) := fun wx hx => (hr.both (avR_arg hr.1)).below hx
  have HP : Hid (∀ b, w.heap.size ≤ b → P b) := hP
  have HS : Hid (AllSl vs) := hr.1.1
  clear h hr hP
  go_enter Try.func37, Try.ntmps37
  go_wp2_with (refine boxC rfl 43 _ rfl (resL (.slice a R.text.length cap) R.loc vs R.fk R.fa R.mode (.slice none 0 0)) rfl ?_)
  intro w1 ha hb
  have HB_w1 : Hid (Below w.heap.size w w1) := hb
  have A_w1 : Hid (BoxC w1 43 w.heap.size (resL (.slice a R.text.length cap) R.loc vs R.fk R.fa R.mode (.slice none 0 0))) := ha
  clear ha hb
  go_wp2_with (refine boxC rfl 38 _ rfl [.int .i64 c, .int .i64 r, .int .i64 99, .int .i64 v, .int .i64 g] rfl ?_)
  intro w2 ha hb
  have HLGC : Hid (w.heap.size ≤ w1.heap.size ∧ w.heap.size < w1.heap.size) := ⟨HB_w1.out.size, A_w1.out.lt⟩
  have HB_w2 : Hid (Below w.heap.size w w2) := below_trans HB_w1.out hb HB_w1.out.size
  have A_w2 : Hid (BoxC w2 43 w.heap.size (resL (.slice a R.text.length cap) R.loc vs R.fk R.fa R.mode (.slice none 0 0))) := A_w1.out.below hb
  clear A_w1 HB_w1
  have C_w2 : Hid (BoxC w2 38 w1.heap.size [.int .i64 c, .int .i64 r, .int .i64 99, .int .i64 v, .int .i64 g]) := ha
  clear ha hb
  generalize w1.heap.size = GC at *
  go_wp2_with (refine allocC rfl 43 rfl nulL nul_zero ?_)
  intro w3 ha hb
  have HLGZ : Hid (w.heap.size ≤ w2.heap.size ∧ w.heap.size < w2.heap.size ∧ GC < w2.heap.size) := ⟨HB_w2.out.size, A_w2.out.lt, C_w2.out.lt⟩
  have HB_w3 : Hid (Below w.heap.size w w3) := below_trans HB_w2.out hb HB_w2.out.size
  have A_w3 : Hid (BoxC w3 43 w.heap.size (resL (.slice a R.text.length cap) R.loc vs R.fk R.fa R.mode (.slice none 0 0))) := A_w2.out.below hb
  have C_w3 : Hid (BoxC w3 38 GC [.int .i64 c, .int .i64 r, .int .i64 99, .int .i64 v, .int .i64 g]) := C_w2.out.below hb
  clear A_w2 C_w2 HB_w2
  have Z_w3 : Hid (BoxC w3 43 w2.heap.size nulL) := ha
  clear ha hb
  generalize w2.heap.size = GZ at *
  have cC0 : w3.cell? ⟨GC, 0, none⟩ = some (.int .i64 c) := (C_w3.out.cell 0).trans rfl
  have cC1 : w3.cell? ⟨GC, 1, none⟩ = some (.int .i64 r) := (C_w3.out.cell 1).trans rfl
  have cC2 : w3.cell? ⟨GC, 2, none⟩ = some (.int .i64 99) := (C_w3.out.cell 2).trans rfl
  have cC3 : w3.cell? ⟨GC, 3, none⟩ = some (.int .i64 v) := (C_w3.out.cell 3).trans rfl
  have cC4 : w3.cell? ⟨GC, 4, none⟩ = some (.int .i64 g) := (C_w3.out.cell 4).trans rfl
  go_wp2_with ((refine loadC rfl 43 _ rfl w.heap.size rfl (resL (.slice a R.text.length cap) R.loc vs R.fk R.fa R.mode (.slice none 0 0)) A_w3.out (by rw [resL_len (by assumption)]; exact wide_res) ?_))
  refine (HSP.out _ HB_w3.out).mono ?_
  rintro q w4 ⟨rfl, hb4⟩
  clear cC0 cC1 cC2 cC3 cC4
  have HB_w4 : Hid (Below w.heap.size w w4) := below_trans HB_w3.out hb4 HB_w3.out.size
  have A_w4 : Hid (BoxC w4 43 w.heap.size (resL (.slice a R.text.length cap) R.loc vs R.fk R.fa R.mode (.slice none 0 0))) := A_w3.out.below hb4
  have C_w4 : Hid (BoxC w4 38 GC [.int .i64 c, .int .i64 r, .int .i64 99, .int .i64 v, .int .i64 g]) := C_w3.out.below hb4
  have Z_w4 : Hid (BoxC w4 43 GZ nulL) := Z_w3.out.below hb4
  clear A_w3 C_w3 Z_w3 HB_w3
  clear hb4
  have cC0 : w4.cell? ⟨GC, 0, none⟩ = some (.int .i64 c) := (C_w4.out.cell 0).trans rfl
  have cC1 : w4.cell? ⟨GC, 1, none⟩ = some (.int .i64 r) := (C_w4.out.cell 1).trans rfl
  have cC2 : w4.cell? ⟨GC, 2, none⟩ = some (.int .i64 99) := (C_w4.out.cell 2).trans rfl
  have cC3 : w4.cell? ⟨GC, 3, none⟩ = some (.int .i64 v) := (C_w4.out.cell 3).trans rfl
  have cC4 : w4.cell? ⟨GC, 4, none⟩ = some (.int .i64 g) := (C_w4.out.cell 4).trans rfl
  go_wp2_with (first | (refine loadC rfl 43 _ rfl w.heap.size rfl (resL (.slice a R.text.length cap) R.loc vs R.fk R.fa R.mode (.slice none 0 0)) A_w4.out (by rw [resL_len (by assumption)]; exact wide_res) ?_) | (refine allocC rfl 43 rfl nulL nul_zero ?_))
  intro w5 ha hb
  have HLGN : Hid (w.heap.size ≤ w4.heap.size ∧ w.heap.size < w4.heap.size ∧ GC < w4.heap.size ∧ GZ < w4.heap.size) := ⟨HB_w4.out.size, A_w4.out.lt, C_w4.out.lt, Z_w4.out.lt⟩
  have HB_w5 : Hid (Below w.heap.size w w5) := below_trans HB_w4.out hb HB_w4.out.size
  have A_w5 : Hid (BoxC w5 43 w.heap.size (resL (.slice a R.text.length cap) R.loc vs R.fk R.fa R.mode (.slice none 0 0))) := A_w4.out.below hb
  have C_w5 : Hid (BoxC w5 38 GC [.int .i64 c, .int .i64 r, .int .i64 99, .int .i64 v, .int .i64 g]) := C_w4.out.below hb
  have Z_w5 : Hid (BoxC w5 43 GZ nulL) := Z_w4.out.below hb
  clear A_w4 C_w4 Z_w4 HB_w4
  have N_w5 : Hid (BoxC w5 43 w4.heap.size nulL) := ha
  clear ha hb
  generalize w4.heap.size = GN at *
  go_wp2_with (refine storeC rfl 43 _ _ rfl GN rfl nulL (resL (.slice a R.text.length cap) R.loc vs R.fk R.fa R.mode (.slice none 0 0)) rfl N_w5.out (by rw [resL_len (by assumption)]; exact wide_res) (resL_one HS.out rfl rfl) (by rw [nul_len, resL_len (by assumption)]) ?_)
  intro w6 hz hg
  have HB_w6 : Hid (Below w.heap.size w w6) := HB_w5.out.grown hg HB_w5.out.size (fun j hj => by cases hj; exact (by have := HLGN.out; omega))
  have A_w6 : Hid (BoxC w6 43 w.heap.size (resL (.slice a R.text.length cap) R.loc vs R.fk R.fa R.mode (.slice none 0 0))) := A_w5.out.kept hg (fun e => by have := HLGN.out; have := Option.some.inj e; omega)
  have C_w6 : Hid (BoxC w6 38 GC [.int .i64 c, .int .i64 r, .int .i64 99, .int .i64 v, .int .i64 g]) := C_w5.out.kept hg (fun e => by have := HLGN.out; have := HLGC.out; have := Option.some.inj e; omega)
  have Z_w6 : Hid (BoxC w6 43 GZ nulL) := Z_w5.out.kept hg (fun e => by have := HLGN.out; have := HLGZ.out; have := Option.some.inj e; omega)
  clear A_w5 C_w5 Z_w5 N_w5 HB_w5
  have N_w6 : Hid (BoxC w6 43 GN (resL (.slice a R.text.length cap) R.loc vs R.fk R.fa R.mode (.slice none 0 0))) := hz
  clear hz hg
  clear cC0 cC1 cC2 cC3 cC4
  have cC0 : w6.cell? ⟨GC, 0, none⟩ = some (.int .i64 c) := (C_w6.out.cell 0).trans rfl
  have cC1 : w6.cell? ⟨GC, 1, none⟩ = some (.int .i64 r) := (C_w6.out.cell 1).trans rfl
  have cC2 : w6.cell? ⟨GC, 2, none⟩ = some (.int .i64 99) := (C_w6.out.cell 2).trans rfl
  have cC3 : w6.cell? ⟨GC, 3, none⟩ = some (.int .i64 v) := (C_w6.out.cell 3).trans rfl
  have cC4 : w6.cell? ⟨GC, 4, none⟩ = some (.int .i64 g) := (C_w6.out.cell 4).trans rfl
  go_wp2_with ((refine loadC rfl 43 _ rfl GN rfl (resL (.slice a R.text.length cap) R.loc vs R.fk R.fa R.mode (.slice none 0 0)) N_w6.out (by rw [resL_len (by assumption)]; exact wide_res) ?_))
  refine (HAC.out _ HB_w6.out GZ Z_w6.out.lt (by have := HLGZ.out; omega) ((HRg.out _ HB_w6.out).weak (fun b hb => ⟨hb.1, by have := HLGZ.out; omega⟩))).mono ?_
  rintro q w9 ⟨hb9, x9, rfl, a9, c9, vs9, rfl, ht9, hr9⟩
  clear cC0 cC1 cC2 cC3 cC4
  have HB_w9 : Hid (Below w.heap.size w w9) := below_trans HB_w6.out hb9 HB_w6.out.size
  have A_w9 : Hid (BoxC w9 43 w.heap.size (resL (.slice a R.text.length cap) R.loc vs R.fk R.fa R.mode (.slice none 0 0))) := A_w6.out.below hb9
  have C_w9 : Hid (BoxC w9 38 GC [.int .i64 c, .int .i64 r, .int .i64 99, .int .i64 v, .int .i64 g]) := C_w6.out.below hb9
  have Z_w9 : Hid (BoxC w9 43 GZ nulL) := Z_w6.out.below hb9
  have N_w9 : Hid (BoxC w9 43 GN (resL (.slice a R.text.length cap) R.loc vs R.fk R.fa R.mode (.slice none 0 0))) := N_w6.out.below hb9
  clear A_w6 C_w6 Z_w6 N_w6 HB_w6
  clear hb9
  have hv9 : vs9.length = 27 := hr9.len
  have HS9 : Hid (AllSl vs9) := hr9.1.1
  have T9_w9 : Hid (Av w9 (fun b => P b ∧ b ≠ GZ) (.slice a9 R9.text.length c9) R9.text) := ht9
  have R9_w9 : Hid (AvR w9 (fun b => P b ∧ b ≠ GZ) vs9 R9.regs) := hr9
  clear ht9 hr9
  go_wp2_with (refine storeC rfl 43 _ _ rfl GZ rfl nulL (resL (.slice a9 R9.text.length c9) R9.loc vs9 R9.fk R9.fa R9.mode (.slice none 0 0)) rfl Z_w9.out (by rw [resL_len hv9]; exact wide_res) (resL_one HS9.out rfl rfl) (by rw [nul_len, resL_len hv9]) ?_)
  intro w10 hz hg
  have HB_w10 : Hid (Below w.heap.size w w10) := HB_w9.out.grown hg HB_w9.out.size (fun j hj => by cases hj; exact (by have := HLGZ.out; omega))
  have A_w10 : Hid (BoxC w10 43 w.heap.size (resL (.slice a R.text.length cap) R.loc vs R.fk R.fa R.mode (.slice none 0 0))) := A_w9.out.kept hg (fun e => by have := HLGZ.out; have := Option.some.inj e; omega)
  have C_w10 : Hid (BoxC w10 38 GC [.int .i64 c, .int .i64 r, .int .i64 99, .int .i64 v, .int .i64 g]) := C_w9.out.kept hg (fun e => by have := HLGZ.out; have := HLGC.out; have := Option.some.inj e; omega)
  have N_w10 : Hid (BoxC w10 43 GN (resL (.slice a R.text.length cap) R.loc vs R.fk R.fa R.mode (.slice none 0 0))) := N_w9.out.kept hg (fun e => by have := HLGZ.out; have := HLGN.out; have := Option.some.inj e; omega)
  have T9_w10 : Hid (Av w10 (fun b => P b ∧ b ≠ GZ) (.slice a9 R9.text.length c9) R9.text) := T9_w9.out.stored hg (fun h => h.2 rfl)
  have R9_w10 : Hid (AvR w10 (fun b => P b ∧ b ≠ GZ) vs9 R9.regs) := R9_w9.out.stored hg (fun h => h.2 rfl)
  clear A_w9 C_w9 Z_w9 N_w9 T9_w9 R9_w9 HB_w9
  have Z_w10 : Hid (BoxC w10 43 GZ (resL (.slice a9 R9.text.length c9) R9.loc vs9 R9.fk R9.fa R9.mode (.slice none 0 0))) := hz
  clear hz hg
  go_wp2_with (fail)
  (try simp only [Exit.inBlock, Exit.then])
  refine bodyPost_ret (ret_box rfl _ _ GZ (resL (.slice a9 R9.text.length c9) R9.loc vs9 R9.fk R9.fa R9.mode (.slice none 0 0)) _ rfl rfl Z_w10.out (by rw [resL_len hv9]; exact wide_res)) rfl ?_
  exact ⟨HB_w10.out, _, R9, rfl, ⟨a9, c9, vs9, rfl, T9_w10.out.weak (fun b hb => hb.1), R9_w10.out.weak (fun b hb => hb.1)⟩, fun _ => rfl⟩

set_option maxHeartbeats 2000000 in
theorem opd_bad (a : Option Addr) (cap : Nat) (vs : List Value) (R : Res) (c r o v g : Int) (w : World) (P : Nat → Prop) (hP : ∀ b, w.heap.size ≤ b → P b) (h : Av w P (.slice a R.text.length cap) R.text) (hr : AvR w P vs R.regs) (hz : R.text.length ≤ 200) (ho : o = 100 ∨ o = 99 ∨ o = 121) (f t : Nat) (hS : spn R c o v g = ((f : Int), (t : Int), 0)) (h1 : f ≤ t) (h2 : t ≤ R.text.length) (hlt : f < t) (Q : List (List Int) × Int) (hQ : putR R.regs r ((R.text.drop f).take (t - f)) = Q) (hq : Q.2 ≠ 0) :
    Calls Try.prog 37 #[.agg (resL (.slice a R.text.length cap) R.loc vs R.fk R.fa R.mode (.slice none 0 0)).toArray, .agg #[.int .i64 c, .int .i64 r, .int .i64 o, .int .i64 v, .int .i64 g]] w fun q w' => DonePost P (nulR, Q.2) w q w' := by
  have HSP : Hid (∀ wx, Below w.heap.size w wx → Calls Try.prog 48 #[.agg (resL (.slice a R.text.length cap) R.loc vs R.fk R.fa R.mode (.slice none 0 0)).toArray, .agg #[.int .i64 c, .int .i64 r, .int .i64 o, .int .i64 v, .int .i64 g]] wx fun q w' => q = .returned (.tuple #[.int .i64 (f : Int), .int .i64 (t : Int), .int .i64 0]) ∧ Below wx.heap.size wx w') := fun wx hx => by
    have q := span_go a cap vs R c r o v g wx (fun b => P b) (fun b hb => hP b (Nat.le_trans hx.size hb)) (h.below hx) (hr.below hx) hz
    rw [hS] at q
    exact q
  clear hS
  have hb1 : ((f : Int) == (t : Int)) = false := by simp; omega
  have hI : (f : Int) < (t : Int) := by omega
  obtain ⟨hpc, htc⟩ := reads_piece h.1 f t h1 h2
  obtain ⟨A, hA⟩ : ∃ A, (if cap = f then a else Option.map (fun x => x.add f) a) = A := ⟨_, rfl⟩
  rw [hA] at hpc
  have HPT : Hid (∀ wx, Below w.heap.size w wx → Calls Try.prog 49 #[.agg vs.toArray, .int .i64 r, .slice A (t - f) (cap - f)] wx fun q w' => Below wx.heap.size wx w' ∧ ∃ ls, q = .returned (.tuple #[.agg ls.toArray, .int .i64 Q.2]) ∧ AvR w' (fun b => wx.heap.size ≤ b) ls Q.1) := fun wx hx => by
    refine (put_any vs R.regs r _ ((R.text.drop f).take (t - f)) Q.2 Q.1 wx (hr.1.below hx) (hpc.below hx) (by unfold Mild; rw [List.length_take, List.length_drop]; omega) (by rw [← hQ]; exact putR_is _ _ _)).mono ?_
    rintro q w' ⟨hb, ls, e, ho⟩
    exact ⟨hb, ls, e, avR_own ho⟩
  have i1 : (f : Int) ≤ (t : Int) := by omega
  have i2 : (t : Int) ≤ (cap : Int) := by omega
  have i3 : (0 : Int) ≤ (f : Int) := by omega
  clear hpc hQ
  have hb2 : (Q.2 != 0) = true := by simpa using hq
  clear hq
  have hvs : vs.length = 27 := hr.len
  have HT : Hid (∀ wx, Below w.heap.size w wx → Av wx (fun b => P b ∧ b < w.heap.size) (.slice a R.text.length cap) R.text) := fun wx hx => (h.both (av_arg h.1)).below hx
  have HRg : Hid (∀ wx, Below w.heap.size w wx → AvR wx (fun b => P b ∧ b < w.heap.size) vs R.regs) := fun wx hx => (hr.both (avR_arg hr.1)).below hx
  have HP : Hid (∀ b, w.heap.size ≤ b → P b) := hP
  have HS : Hid (AllSl vs) := hr.1.1
  clear h hr hP
  go_enter Try.func37, Try.ntmps37
  go_wp2_with (refine boxC rfl 43 _ rfl (resL (.slice a R.text.length cap) R.loc vs R.fk R.fa R.mode (.slice none 0 0)) rfl ?_)
  intro w1 ha hb
  have HB_w1 : Hid (Below w.heap.size w w1) := hb
  have A_w1 : Hid (BoxC w1 43 w.heap.size (resL (.slice a R.text.length cap) R.loc vs R.fk R.fa R.mode (.slice none 0 0))) := ha
  clear ha hb
  go_wp2_with (refine boxC rfl 38 _ rfl [.int .i64 c, .int .i64 r, .int .i64 o, .int .i64 v, .int .i64 g] rfl ?_)
  intro w2 ha hb
  have HLGC : Hid (w.heap.size ≤ w1.heap.size ∧ w.heap.size < w1.heap.size) := ⟨HB_w1.out.size, A_w1.out.lt⟩
  have HB_w2 : Hid (Below w.heap.size w w2) := below_trans HB_w1.out hb HB_w1.out.size
  have A_w2 : Hid (BoxC w2 43 w.heap.size (resL (.slice a R.text.length cap) R.loc vs R.fk R.fa R.mode (.slice none 0 0))) := A_w1.out.below hb
  clear A_w1 HB_w1
  have C_w2 : Hid (BoxC w2 38 w1.heap.size [.int .i64 c, .int .i64 r, .int .i64 o, .int .i64 v, .int .i64 g]) := ha
  clear ha hb
  generalize w1.heap.size = GC at *
  go_wp2_with (refine allocC rfl 43 rfl nulL nul_zero ?_)
  intro w3 ha hb
  have HLGZ : Hid (w.heap.size ≤ w2.heap.size ∧ w.heap.size < w2.heap.size ∧ GC < w2.heap.size) := ⟨HB_w2.out.size, A_w2.out.lt, C_w2.out.lt⟩
  have HB_w3 : Hid (Below w.heap.size w w3) := below_trans HB_w2.out hb HB_w2.out.size
  have A_w3 : Hid (BoxC w3 43 w.heap.size (resL (.slice a R.text.length cap) R.loc vs R.fk R.fa R.mode (.slice none 0 0))) := A_w2.out.below hb
  have C_w3 : Hid (BoxC w3 38 GC [.int .i64 c, .int .i64 r, .int .i64 o, .int .i64 v, .int .i64 g]) := C_w2.out.below hb
  clear A_w2 C_w2 HB_w2
  have Z_w3 : Hid (BoxC w3 43 w2.heap.size nulL) := ha
  clear ha hb
  generalize w2.heap.size = GZ at *
  have cC0 : w3.cell? ⟨GC, 0, none⟩ = some (.int .i64 c) := (C_w3.out.cell 0).trans rfl
  have cC1 : w3.cell? ⟨GC, 1, none⟩ = some (.int .i64 r) := (C_w3.out.cell 1).trans rfl
  have cC2 : w3.cell? ⟨GC, 2, none⟩ = some (.int .i64 o) := (C_w3.out.cell 2).trans rfl
  have cC3 : w3.cell? ⟨GC, 3, none⟩ = some (.int .i64 v) := (C_w3.out.cell 3).trans rfl
  have cC4 : w3.cell? ⟨GC, 4, none⟩ = some (.int .i64 g) := (C_w3.out.cell 4).trans rfl
  go_wp2_with ((refine loadC rfl 43 _ rfl w.heap.size rfl (resL (.slice a R.text.length cap) R.loc vs R.fk R.fa R.mode (.slice none 0 0)) A_w3.out (by rw [resL_len (by assumption)]; exact wide_res) ?_))
  refine (HSP.out _ HB_w3.out).mono ?_
  rintro q w4 ⟨rfl, hb4⟩
  clear cC0 cC1 cC2 cC3 cC4
  have HB_w4 : Hid (Below w.heap.size w w4) := below_trans HB_w3.out hb4 HB_w3.out.size
  have A_w4 : Hid (BoxC w4 43 w.heap.size (resL (.slice a R.text.length cap) R.loc vs R.fk R.fa R.mode (.slice none 0 0))) := A_w3.out.below hb4
  have C_w4 : Hid (BoxC w4 38 GC [.int .i64 c, .int .i64 r, .int .i64 o, .int .i64 v, .int .i64 g]) := C_w3.out.below hb4
  have Z_w4 : Hid (BoxC w4 43 GZ nulL) := Z_w3.out.below hb4
  clear A_w3 C_w3 Z_w3 HB_w3
  clear hb4
  have cC0 : w4.cell? ⟨GC, 0, none⟩ = some (.int .i64 c) := (C_w4.out.cell 0).trans rfl
  have cC1 : w4.cell? ⟨GC, 1, none⟩ = some (.int .i64 r) := (C_w4.out.cell 1).trans rfl
  have cC2 : w4.cell? ⟨GC, 2, none⟩ = some (.int .i64 o) := (C_w4.out.cell 2).trans rfl
  have cC3 : w4.cell? ⟨GC, 3, none⟩ = some (.int .i64 v) := (C_w4.out.cell 3).trans rfl
  have cC4 : w4.cell? ⟨GC, 4, none⟩ = some (.int .i64 g) := (C_w4.out.cell 4).trans rfl
  go_wp2_with (first | (refine loadC rfl 43 _ rfl w.heap.size rfl (resL (.slice a R.text.length cap) R.loc vs R.fk R.fa R.mode (.slice none 0 0)) A_w4.out (by rw [resL_len (by assumption)]; exact wide_res) ?_) | (refine allocC rfl 43 rfl nulL nul_zero ?_))
  intro w5 ha hb
  have HLGN : Hid (w.heap.size ≤ w4.heap.size ∧ w.heap.size < w4.heap.size ∧ GC < w4.heap.size ∧ GZ < w4.heap.size) := ⟨HB_w4.out.size, A_w4.out.lt, C_w4.out.lt, Z_w4.out.lt⟩
  have HB_w5 : Hid (Below w.heap.size w w5) := below_trans HB_w4.out hb HB_w4.out.size
  have A_w5 : Hid (BoxC w5 43 w.heap.size (resL (.slice a R.text.length cap) R.loc vs R.fk R.fa R.mode (.slice none 0 0))) := A_w4.out.below hb
  have C_w5 : Hid (BoxC w5 38 GC [.int .i64 c, .int .i64 r, .int .i64 o, .int .i64 v, .int .i64 g]) := C_w4.out.below hb
  have Z_w5 : Hid (BoxC w5 43 GZ nulL) := Z_w4.out.below hb
  clear A_w4 C_w4 Z_w4 HB_w4
  have N_w5 : Hid (BoxC w5 43 w4.heap.size nulL) := ha
  clear ha hb
  generalize w4.heap.size = GN at *
  go_wp2_with (refine storeC rfl 43 _ _ rfl GN rfl nulL (resL (.slice a R.text.length cap) R.loc vs R.fk R.fa R.mode (.slice none 0 0)) rfl N_w5.out (by rw [resL_len (by assumption)]; exact wide_res) (resL_one HS.out rfl rfl) (by rw [nul_len, resL_len (by assumption)]) ?_)
  intro w6 hz hg
  have HB_w6 : Hid (Below w.heap.size w w6) := HB_w5.out.grown hg HB_w5.out.size (fun j hj => by cases hj; exact (by have := HLGN.out; omega))
  have A_w6 : Hid (BoxC w6 43 w.heap.size (resL (.slice a R.text.length cap) R.loc vs R.fk R.fa R.mode (.slice none 0 0))) := A_w5.out.kept hg (fun e => by have := HLGN.out; have := Option.some.inj e; omega)
  have C_w6 : Hid (BoxC w6 38 GC [.int .i64 c, .int .i64 r, .int .i64 o, .int .i64 v, .int .i64 g]) := C_w5.out.kept hg (fun e => by have := HLGN.out; have := HLGC.out; have := Option.some.inj e; omega)
  have Z_w6 : Hid (BoxC w6 43 GZ nulL) := Z_w5.out.kept hg (fun e => by have := HLGN.out; have := HLGZ.out; have := Option.some.inj e; omega)
  clear A_w5 C_w5 Z_w5 N_w5 HB_w5
  have N_w6 : Hid (BoxC w6 43 GN (resL (.slice a R.text.length cap) R.loc vs R.fk R.fa R.mode (.slice none 0 0))) := hz
  clear hz hg
  clear cC0 cC1 cC2 cC3 cC4
  go_wp2_with (fail)
  have HS3 : Hid ((fun wx => BoxC wx 43 w.heap.size (resL (.slice a R.text.length cap) R.loc vs R.fk R.fa R.mode (.slice none 0 0)) ∧ BoxC wx 38 GC [.int .i64 c, .int .i64 r, .int .i64 o, .int .i64 v, .int .i64 g] ∧ BoxC wx 43 GZ nulL ∧ Below w.heap.size w wx) w6.drew) := ⟨A_w6.out, C_w6.out, Z_w6.out, below_drewN HB_w6.out 1⟩
  have hN4 : BoxC w6.drew 43 GN (resL (.slice a R.text.length cap) R.loc vs R.fk R.fa R.mode (.slice none 0 0)) := N_w6.out
  refine wp_region_held_drew (S := (fun wx => BoxC wx 43 w.heap.size (resL (.slice a R.text.length cap) R.loc vs R.fk R.fa R.mode (.slice none 0 0)) ∧ BoxC wx 38 GC [.int .i64 c, .int .i64 r, .int .i64 o, .int .i64 v, .int .i64 g] ∧ BoxC wx 43 GZ nulL ∧ Below w.heap.size w wx)) (by kernel_rfl) HS3.out (fun hHeld => ?_)
  refine wpAnyH_take (i := 0) (oi := ⟨some 37, .fieldAddr 43 (.tmp 2) 1, _, _, _, none⟩) (v := .pointer (some ⟨w.heap.size, 2, none⟩)) rfl (by kernel_rfl) (by kernel_rfl) (by kernel_rfl) (fun _ _ _ h => h) (Or.inl ⟨by rfl, fun wx hS => by unfold execOp; go_simp⟩) hHeld ?_
  (try simp only [Act.put, List.setIfInBounds_toArray, List.set_cons_zero, List.set_cons_succ])
  refine wpAnyH_take (i := 1) (oi := ⟨some 38, .load 36 (.tmp 37), _, _, _, none⟩) (v := .agg vs.toArray) rfl (by kernel_rfl) (by kernel_rfl) (by kernel_rfl) (fun _ _ _ h => h) (Or.inl ⟨by rfl, fun wx hS => exec_loadP 43 36 _ rfl w.heap.size 2 rfl (resL (.slice a R.text.length cap) R.loc vs R.fk R.fa R.mode (.slice none 0 0)) vs hS.1 (by rw [hvs]; exact wide_regs) (fun j v hv => by rw [resL_reg (by assumption) j (by rw [← hvs]; exact (List.getElem?_eq_some_iff.1 hv).1)]; exact hv)⟩) hHeld ?_
  (try simp only [Act.put, List.setIfInBounds_toArray, List.set_cons_zero, List.set_cons_succ])
  refine wpAnyH_take (i := 2) (oi := ⟨some 39, .fieldAddr 38 (.tmp 3) 1, _, _, _, none⟩) (v := .pointer (some ⟨GC, 1, none⟩)) rfl (by kernel_rfl) (by kernel_rfl) (by kernel_rfl) (fun _ _ _ h => h) (Or.inl ⟨by rfl, fun wx hS => by unfold execOp; go_simp⟩) hHeld ?_
  (try simp only [Act.put, List.setIfInBounds_toArray, List.set_cons_zero, List.set_cons_succ])
  refine wpAnyH_take (i := 3) (oi := ⟨some 40, .load 3 (.tmp 39), _, _, _, none⟩) (v := .int .i64 r) rfl (by kernel_rfl) (by kernel_rfl) (by kernel_rfl) (fun _ _ _ h => h) (Or.inl ⟨by rfl, fun wx hS => exec_load1 38 3 _ rfl GC 1 rfl [.int .i64 c, .int .i64 r, .int .i64 o, .int .i64 v, .int .i64 g] _ hS.2.1 rfl (fun w => by go_simp)⟩) hHeld ?_
  (try simp only [Act.put, List.setIfInBounds_toArray, List.set_cons_zero, List.set_cons_succ])
  refine wpAnyH_take (i := 4) (oi := ⟨some 41, .fieldAddr 43 (.tmp 2) 0, _, _, _, none⟩) (v := .pointer (some ⟨w.heap.size, 0, none⟩)) rfl (by kernel_rfl) (by kernel_rfl) (by kernel_rfl) (fun _ _ _ h => h) (Or.inl ⟨by rfl, fun wx hS => by unfold execOp; go_simp⟩) hHeld ?_
  (try simp only [Act.put, List.setIfInBounds_toArray, List.set_cons_zero, List.set_cons_succ])
  refine wpAnyH_take (i := 5) (oi := ⟨some 42, .fieldAddr 24 (.tmp 41) 0, _, _, _, none⟩) (v := .pointer (some ⟨w.heap.size, 0, none⟩)) rfl (by kernel_rfl) (by kernel_rfl) (by kernel_rfl) (fun _ _ _ h => h) (Or.inl ⟨by rfl, fun wx hS => by unfold execOp; go_simp⟩) hHeld ?_
  (try simp only [Act.put, List.setIfInBounds_toArray, List.set_cons_zero, List.set_cons_succ])
  refine wpAnyH_take (i := 6) (oi := ⟨some 43, .load 22 (.tmp 42), _, _, _, none⟩) (v := .slice a R.text.length cap) rfl (by kernel_rfl) (by kernel_rfl) (by kernel_rfl) (fun _ _ _ h => h) (Or.inl ⟨by rfl, fun wx hS => exec_load1 43 22 _ rfl w.heap.size 0 rfl (resL (.slice a R.text.length cap) R.loc vs R.fk R.fa R.mode (.slice none 0 0)) _ hS.1 resL_0 (fun w => by go_simp)⟩) hHeld ?_
  (try simp only [Act.put, List.setIfInBounds_toArray, List.set_cons_zero, List.set_cons_succ])
  refine wpAnyH_take (i := 7) (oi := ⟨some 44, .move (.tmp 6), _, _, _, none⟩) (v := .int .i64 (f : Int)) rfl (by kernel_rfl) (by kernel_rfl) (by kernel_rfl) (fun _ _ _ h => h) (Or.inl ⟨by rfl, fun wx hS => rfl⟩) hHeld ?_
  (try simp only [Act.put, List.setIfInBounds_toArray, List.set_cons_zero, List.set_cons_succ])
  refine wpAnyH_take (i := 8) (oi := ⟨some 45, .move (.tmp 7), _, _, _, none⟩) (v := .int .i64 (t : Int)) rfl (by kernel_rfl) (by kernel_rfl) (by kernel_rfl) (fun _ _ _ h => h) (Or.inl ⟨by rfl, fun wx hS => rfl⟩) hHeld ?_
  (try simp only [Act.put, List.setIfInBounds_toArray, List.set_cons_zero, List.set_cons_succ])
  refine wpAnyH_take (i := 9) (oi := ⟨some 46, .slice 22 (.tmp 43) (some (.tmp 44)) (some (.tmp 45)) none, _, _, _, none⟩) (v := .slice A (t - f) (cap - f)) rfl (by kernel_rfl) (by kernel_rfl) (by kernel_rfl) (fun _ _ _ h => h) (Or.inl ⟨by rfl, fun wx hS => by unfold execOp; go_simp⟩) hHeld ?_
  (try simp only [Act.put, List.setIfInBounds_toArray, List.set_cons_zero, List.set_cons_succ])
  refine wpAnyH_ready (rs := [10]) (by kernel_rfl) (by simp) ?_
  refine AllReadyH.cons (o := ⟨some 47, .call _, _, _, _, none⟩) rfl (fun K1 hK1 => ?_) AllReadyH.nil
  go_simp
  refine (HPT.out _ (below_drewN HB_w6.out 1)).mono ?_
  rintro q w7 ⟨hb7, ls, rfl, hl7⟩
  go_wp2_with fail
  have hA7 := hHeld.1.below hb7
  have hC7 := hHeld.2.1.below hb7
  have hZ7 := hHeld.2.2.1.below hb7
  have hB7 := below_trans hHeld.2.2.2 hb7 hHeld.2.2.2.size
  have hN7 := hN4.below hb7
  refine hK1.out _ _ ⟨hA7, hC7, hZ7, hB7⟩ (fun hHeld => ?_)
  clear hK1 K1
  (try simp only [Act.put, List.setIfInBounds_toArray, List.set_cons_zero, List.set_cons_succ])
  refine wpAnyH_take (i := 11) (oi := ⟨some 36, .move (.tmp 47), _, _, _, none⟩) (v := .tuple #[.agg ls.toArray, .int .i64 Q.2]) rfl (by kernel_rfl) (by kernel_rfl) (by kernel_rfl) (fun _ _ _ h => h) (Or.inl ⟨by rfl, fun wx hS => rfl⟩) hHeld ?_
  (try simp only [Act.put, List.setIfInBounds_toArray, List.set_cons_zero, List.set_cons_succ])
  refine wpAnyH_take (i := 12) (oi := ⟨some 48, .extract (.tmp 36) 0, _, _, _, none⟩) (v := .agg ls.toArray) rfl (by kernel_rfl) (by kernel_rfl) (by kernel_rfl) (fun _ _ _ h => h) (Or.inl ⟨by rfl, fun wx hS => by unfold execOp; go_simp⟩) hHeld ?_
  (try simp only [Act.put, List.setIfInBounds_toArray, List.set_cons_zero, List.set_cons_succ])
  refine wpAnyH_take (i := 13) (oi := ⟨some 49, .extract (.tmp 36) 1, _, _, _, none⟩) (v := .int .i64 Q.2) rfl (by kernel_rfl) (by kernel_rfl) (by kernel_rfl) (fun _ _ _ h => h) (Or.inl ⟨by rfl, fun wx hS => by unfold execOp; go_simp⟩) hHeld ?_
  (try simp only [Act.put, List.setIfInBounds_toArray, List.set_cons_zero, List.set_cons_succ])
  refine wpAnyH_take (i := 14) (oi := ⟨some 50, .fieldAddr 43 (.tmp 9) 1, _, _, _, none⟩) (v := .pointer (some ⟨GN, 2, none⟩)) rfl (by kernel_rfl) (by kernel_rfl) (by kernel_rfl) (fun _ _ _ h => h) (Or.inl ⟨by rfl, fun wx hS => by unfold execOp; go_simp⟩) hHeld ?_
  (try simp only [Act.put, List.setIfInBounds_toArray, List.set_cons_zero, List.set_cons_succ])
  have hls : ls.length = 27 := hl7.len
  refine wpAnyH_ready (rs := [15]) (by kernel_rfl) (by simp) ?_
  refine AllReadyH.cons (o := ⟨none, .store 36 (.tmp 50) (.tmp 48), _, _, _, none⟩) rfl (fun K1 hK1 => ?_) AllReadyH.nil
  refine step_storeP rfl 43 36 (.tmp 50) (.tmp 48) rfl GN 2 rfl (resL (.slice a R.text.length cap) R.loc vs R.fk R.fa R.mode (.slice none 0 0)) ls (resL (.slice a R.text.length cap) R.loc ls R.fk R.fa R.mode (.slice none 0 0)) rfl hN7 (by rw [hls]; exact wide_regs) (fun v hv => by obtain ⟨_, _, _, rfl⟩ := hl7.1.1.2 v hv; rfl) (by rw [hls, resL_len (by assumption)]; decide) (resL_regs ls (by assumption) hls) ?_
  intro w8 hn8 hg8
  have hA8 := hA7.kept hg8 (fun e => by have := HLGN.out; have := Option.some.inj e; omega)
  have hC8 := hC7.kept hg8 (fun e => by have := HLGN.out; have := Option.some.inj e; omega)
  have hZ8 := hZ7.kept hg8 (fun e => by have := HLGN.out; have := Option.some.inj e; omega)
  have hB8 := hB7.grown hg8 hB7.size (fun j hj => by cases hj; have := HLGN.out; omega)
  refine hK1.out _ _ ⟨hA8, hC8, hZ8, hB8⟩ (fun hHeld => ?_)
  clear hK1 K1
  (try simp only [Act.put, List.setIfInBounds_toArray, List.set_cons_zero, List.set_cons_succ])
  refine wpAnyH_take (i := 16) (oi := ⟨some 8, .assign (.tmp 49), _, _, _, none⟩) (v := .int .i64 Q.2) rfl (by kernel_rfl) (by kernel_rfl) (by kernel_rfl) (fun _ _ _ h => h) (Or.inl ⟨by rfl, fun wx hS => rfl⟩) hHeld ?_
  (try simp only [Act.put, List.setIfInBounds_toArray, List.set_cons_zero, List.set_cons_succ])
  refine wpAnyH_done (by kernel_rfl) ?_ _
  (try simp only [Act.put, List.setIfInBounds_toArray, List.set_cons_zero, List.set_cons_succ])
  have hl8 : AvR w8 (fun b => P b ∧ b ≠ GZ) ls Q.1 := (hl7.stored hg8 (by have := N_w6.out.lt; show ¬ (w6.heap.size ≤ GN); omega)).weak (fun b hb => ⟨HP.out _ (Nat.le_trans HB_w6.out.size hb), by have := Z_w6.out.lt; have : w6.heap.size ≤ b := hb; omega⟩)
  have HB_w8 : Hid (Below w.heap.size w w8) := hB8
  have A_w8 : Hid (BoxC w8 43 w.heap.size (resL (.slice a R.text.length cap) R.loc vs R.fk R.fa R.mode (.slice none 0 0))) := hA8
  have C_w8 : Hid (BoxC w8 38 GC [.int .i64 c, .int .i64 r, .int .i64 o, .int .i64 v, .int .i64 g]) := hC8
  have Z_w8 : Hid (BoxC w8 43 GZ nulL) := hZ8
  have N_w8 : Hid (BoxC w8 43 GN (resL (.slice a R.text.length cap) R.loc ls R.fk R.fa R.mode (.slice none 0 0))) := hn8
  have HLs : Hid (AvR w8 (fun b => P b ∧ b ≠ GZ) ls Q.1) := hl8
  clear hHeld hA7 hC7 hZ7 hB7 hN7 hN4 hA8 hC8 hZ8 hB8 hn8 hg8 hb7 hl7 hl8 HS3 A_w6 C_w6 Z_w6 N_w6 HB_w6 HPT HSP
  go_wp2_with (refine storeC rfl 43 _ _ rfl GZ rfl nulL nulL rfl Z_w8.out wide_res nul_one rfl ?_)
  intro w9 hz hg
  have HB_w9 : Hid (Below w.heap.size w w9) := HB_w8.out.grown hg HB_w8.out.size (fun j hj => by cases hj; exact (by have := HLGZ.out; omega))
  have A_w9 : Hid (BoxC w9 43 w.heap.size (resL (.slice a R.text.length cap) R.loc vs R.fk R.fa R.mode (.slice none 0 0))) := A_w8.out.kept hg (fun e => by have := HLGZ.out; have := Option.some.inj e; omega)
  have C_w9 : Hid (BoxC w9 38 GC [.int .i64 c, .int .i64 r, .int .i64 o, .int .i64 v, .int .i64 g]) := C_w8.out.kept hg (fun e => by have := HLGZ.out; have := HLGC.out; have := Option.some.inj e; omega)
  have N_w9 : Hid (BoxC w9 43 GN (resL (.slice a R.text.length cap) R.loc ls R.fk R.fa R.mode (.slice none 0 0))) := N_w8.out.kept hg (fun e => by have := HLGZ.out; have := HLGN.out; have := Option.some.inj e; omega)
  clear A_w8 C_w8 Z_w8 N_w8 HB_w8
  have Z_w9 : Hid (BoxC w9 43 GZ nulL) := hz
  clear hz hg
  go_wp2_with (fail)
  (try simp only [Exit.inBlock, Exit.then])
  refine bodyPost_ret (ret_box rfl _ _ GZ nulL _ rfl rfl Z_w9.out (by first | exact wide_res | (rw [resL_len (by assumption)]; exact wide_res))) rfl ?_
  exact ⟨HB_w9.out, _, nulR, rfl, resAv_nul _ _, fun h => rfl⟩

set_option maxHeartbeats 2000000 in
theorem opd_ok (a : Option Addr) (cap : Nat) (vs : List Value) (R : Res) (c r o v g : Int) (w : World) (P : Nat → Prop) (hP : ∀ b, w.heap.size ≤ b → P b) (h : Av w P (.slice a R.text.length cap) R.text) (hr : AvR w P vs R.regs) (hz : R.text.length ≤ 200) (ho : o = 100 ∨ o = 99 ∨ o = 121) (f t : Nat) (hS : spn R c o v g = ((f : Int), (t : Int), 0)) (h1 : f ≤ t) (h2 : t ≤ R.text.length) (hlt : f < t) (Q : List (List Int) × Int) (hQ : putR R.regs r ((R.text.drop f).take (t - f)) = Q) (hq : Q.2 = 0) (R9 : Res) (hR9 : act { R with regs := Q.1 } o v f t = R9) :
    Calls Try.prog 37 #[.agg (resL (.slice a R.text.length cap) R.loc vs R.fk R.fa R.mode (.slice none 0 0)).toArray, .agg #[.int .i64 c, .int .i64 r, .int .i64 o, .int .i64 v, .int .i64 g]] w fun q w' => DonePost P (R9, 0) w q w' := by
  have HSP : Hid (∀ wx, Below w.heap.size w wx → Calls Try.prog 48 #[.agg (resL (.slice a R.text.length cap) R.loc vs R.fk R.fa R.mode (.slice none 0 0)).toArray, .agg #[.int .i64 c, .int .i64 r, .int .i64 o, .int .i64 v, .int .i64 g]] wx fun q w' => q = .returned (.tuple #[.int .i64 (f : Int), .int .i64 (t : Int), .int .i64 0]) ∧ Below wx.heap.size wx w') := fun wx hx => by
    have q := span_go a cap vs R c r o v g wx (fun b => P b) (fun b hb => hP b (Nat.le_trans hx.size hb)) (h.below hx) (hr.below hx) hz
    rw [hS] at q
    exact q
  clear hS
  have hb1 : ((f : Int) == (t : Int)) = false := by simp; omega
  have hI : (f : Int) < (t : Int) := by omega
  obtain ⟨hpc, htc⟩ := reads_piece h.1 f t h1 h2
  obtain ⟨A, hA⟩ : ∃ A, (if cap = f then a else Option.map (fun x => x.add f) a) = A := ⟨_, rfl⟩
  rw [hA] at hpc
  have HPT : Hid (∀ wx, Below w.heap.size w wx → Calls Try.prog 49 #[.agg vs.toArray, .int .i64 r, .slice A (t - f) (cap - f)] wx fun q w' => Below wx.heap.size wx w' ∧ ∃ ls, q = .returned (.tuple #[.agg ls.toArray, .int .i64 Q.2]) ∧ AvR w' (fun b => wx.heap.size ≤ b) ls Q.1) := fun wx hx => by
    refine (put_any vs R.regs r _ ((R.text.drop f).take (t - f)) Q.2 Q.1 wx (hr.1.below hx) (hpc.below hx) (by unfold Mild; rw [List.length_take, List.length_drop]; omega) (by rw [← hQ]; exact putR_is _ _ _)).mono ?_
    rintro q w' ⟨hb, ls, e, ho⟩
    exact ⟨hb, ls, e, avR_own ho⟩
  have i1 : (f : Int) ≤ (t : Int) := by omega
  have i2 : (t : Int) ≤ (cap : Int) := by omega
  have i3 : (0 : Int) ≤ (f : Int) := by omega
  clear hpc hQ
  have HQ0 : Hid (Q.2 = 0) := hq
  clear hq
  have HAC : Hid (∀ wx, Below w.heap.size w wx → ∀ G, G < wx.heap.size → w.heap.size ≤ G → ∀ ls, AvR wx (fun b => P b ∧ b ≠ G) ls Q.1 → Calls Try.prog 50 #[.agg (resL (.slice a R.text.length cap) R.loc ls R.fk R.fa R.mode (.slice none 0 0)).toArray, .agg #[.int .i64 c, .int .i64 r, .int .i64 o, .int .i64 v, .int .i64 g], .int .i64 (f : Int), .int .i64 (t : Int)] wx fun q w' => OnePost (fun b => P b ∧ b ≠ G) R9 wx q w') := fun wx hx G hG hGl ls hrg => by
    rw [← hR9]
    exact acted_go a cap ls { R with regs := Q.1 } c r o v g wx _ (fun b hb => ⟨hP b (Nat.le_trans hx.size hb), by omega⟩) (((h.both (av_arg h.1)).below hx).weak (fun b hb => ⟨hb.1, by omega⟩)) hrg f t h1 h2 hz ho
  clear hR9
  have hvs : vs.length = 27 := hr.len
  have HT : Hid (∀ wx, Below w.heap.size w wx → Av wx (fun b => P b ∧ b < w.heap.size) (.slice a R.text.length cap) R.text) := fun wx hx => (h.both (av_arg h.1)).below hx
  have HRg : Hid (∀ wx, Below w.heap.size w wx → AvR wx (fun b => P b ∧ b < w.heap.size) vs R.regs) := fun wx hx => (hr.both (avR_arg hr.1)).below hx
  have HP : Hid (∀ b, w.heap.size ≤ b → P b) := hP
  have HS : Hid (AllSl vs) := hr.1.1
  clear h hr hP
  go_enter Try.func37, Try.ntmps37
  go_wp2_with (refine boxC rfl 43 _ rfl (resL (.slice a R.text.length cap) R.loc vs R.fk R.fa R.mode (.slice none 0 0)) rfl ?_)
  intro w1 ha hb
  have HB_w1 : Hid (Below w.heap.size w w1) := hb
  have A_w1 : Hid (BoxC w1 43 w.heap.size (resL (.slice a R.text.length cap) R.loc vs R.fk R.fa R.mode (.slice none 0 0))) := ha
  clear ha hb
  go_wp2_with (refine boxC rfl 38 _ rfl [.int .i64 c, .int .i64 r, .int .i64 o, .int .i64 v, .int .i64 g] rfl ?_)
  intro w2 ha hb
  have HLGC : Hid (w.heap.size ≤ w1.heap.size ∧ w.heap.size < w1.heap.size) := ⟨HB_w1.out.size, A_w1.out.lt⟩
  have HB_w2 : Hid (Below w.heap.size w w2) := below_trans HB_w1.out hb HB_w1.out.size
  have A_w2 : Hid (BoxC w2 43 w.heap.size (resL (.slice a R.text.length cap) R.loc vs R.fk R.fa R.mode (.slice none 0 0))) := A_w1.out.below hb
  clear A_w1 HB_w1
  have C_w2 : Hid (BoxC w2 38 w1.heap.size [.int .i64 c, .int .i64 r, .int .i64 o, .int .i64 v, .int .i64 g]) := ha
  clear ha hb
  generalize w1.heap.size = GC at *
  go_wp2_with (refine allocC rfl 43 rfl nulL nul_zero ?_)
  intro w3 ha hb
  have HLGZ : Hid (w.heap.size ≤ w2.heap.size ∧ w.heap.size < w2.heap.size ∧ GC < w2.heap.size) := ⟨HB_w2.out.size, A_w2.out.lt, C_w2.out.lt⟩
  have HB_w3 : Hid (Below w.heap.size w w3) := below_trans HB_w2.out hb HB_w2.out.size
  have A_w3 : Hid (BoxC w3 43 w.heap.size (resL (.slice a R.text.length cap) R.loc vs R.fk R.fa R.mode (.slice none 0 0))) := A_w2.out.below hb
  have C_w3 : Hid (BoxC w3 38 GC [.int .i64 c, .int .i64 r, .int .i64 o, .int .i64 v, .int .i64 g]) := C_w2.out.below hb
  clear A_w2 C_w2 HB_w2
  have Z_w3 : Hid (BoxC w3 43 w2.heap.size nulL) := ha
  clear ha hb
  generalize w2.heap.size = GZ at *
  have cC0 : w3.cell? ⟨GC, 0, none⟩ = some (.int .i64 c) := (C_w3.out.cell 0).trans rfl
  have cC1 : w3.cell? ⟨GC, 1, none⟩ = some (.int .i64 r) := (C_w3.out.cell 1).trans rfl
  have cC2 : w3.cell? ⟨GC, 2, none⟩ = some (.int .i64 o) := (C_w3.out.cell 2).trans rfl
  have cC3 : w3.cell? ⟨GC, 3, none⟩ = some (.int .i64 v) := (C_w3.out.cell 3).trans rfl
  have cC4 : w3.cell? ⟨GC, 4, none⟩ = some (.int .i64 g) := (C_w3.out.cell 4).trans rfl
  go_wp2_with ((refine loadC rfl 43 _ rfl w.heap.size rfl (resL (.slice a R.text.length cap) R.loc vs R.fk R.fa R.mode (.slice none 0 0)) A_w3.out (by rw [resL_len (by assumption)]; exact wide_res) ?_))
  refine (HSP.out _ HB_w3.out).mono ?_
  rintro q w4 ⟨rfl, hb4⟩
  clear cC0 cC1 cC2 cC3 cC4
  have HB_w4 : Hid (Below w.heap.size w w4) := below_trans HB_w3.out hb4 HB_w3.out.size
  have A_w4 : Hid (BoxC w4 43 w.heap.size (resL (.slice a R.text.length cap) R.loc vs R.fk R.fa R.mode (.slice none 0 0))) := A_w3.out.below hb4
  have C_w4 : Hid (BoxC w4 38 GC [.int .i64 c, .int .i64 r, .int .i64 o, .int .i64 v, .int .i64 g]) := C_w3.out.below hb4
  have Z_w4 : Hid (BoxC w4 43 GZ nulL) := Z_w3.out.below hb4
  clear A_w3 C_w3 Z_w3 HB_w3
  clear hb4
  have cC0 : w4.cell? ⟨GC, 0, none⟩ = some (.int .i64 c) := (C_w4.out.cell 0).trans rfl
  have cC1 : w4.cell? ⟨GC, 1, none⟩ = some (.int .i64 r) := (C_w4.out.cell 1).trans rfl
  have cC2 : w4.cell? ⟨GC, 2, none⟩ = some (.int .i64 o) := (C_w4.out.cell 2).trans rfl
  have cC3 : w4.cell? ⟨GC, 3, none⟩ = some (.int .i64 v) := (C_w4.out.cell 3).trans rfl
  have cC4 : w4.cell? ⟨GC, 4, none⟩ = some (.int .i64 g) := (C_w4.out.cell 4).trans rfl
  go_wp2_with (first | (refine loadC rfl 43 _ rfl w.heap.size rfl (resL (.slice a R.text.length cap) R.loc vs R.fk R.fa R.mode (.slice none 0 0)) A_w4.out (by rw [resL_len (by assumption)]; exact wide_res) ?_) | (refine allocC rfl 43 rfl nulL nul_zero ?_))
  intro w5 ha hb
  have HLGN : Hid (w.heap.size ≤ w4.heap.size ∧ w.heap.size < w4.heap.size ∧ GC < w4.heap.size ∧ GZ < w4.heap.size) := ⟨HB_w4.out.size, A_w4.out.lt, C_w4.out.lt, Z_w4.out.lt⟩
  have HB_w5 : Hid (Below w.heap.size w w5) := below_trans HB_w4.out hb HB_w4.out.size
  have A_w5 : Hid (BoxC w5 43 w.heap.size (resL (.slice a R.text.length cap) R.loc vs R.fk R.fa R.mode (.slice none 0 0))) := A_w4.out.below hb
  have C_w5 : Hid (BoxC w5 38 GC [.int .i64 c, .int .i64 r, .int .i64 o, .int .i64 v, .int .i64 g]) := C_w4.out.below hb
  have Z_w5 : Hid (BoxC w5 43 GZ nulL) := Z_w4.out.below hb
  clear A_w4 C_w4 Z_w4 HB_w4
  have N_w5 : Hid (BoxC w5 43 w4.heap.size nulL) := ha
  clear ha hb
  generalize w4.heap.size = GN at *
  go_wp2_with (refine storeC rfl 43 _ _ rfl GN rfl nulL (resL (.slice a R.text.length cap) R.loc vs R.fk R.fa R.mode (.slice none 0 0)) rfl N_w5.out (by rw [resL_len (by assumption)]; exact wide_res) (resL_one HS.out rfl rfl) (by rw [nul_len, resL_len (by assumption)]) ?_)
  intro w6 hz hg
  have HB_w6 : Hid (Below w.heap.size w w6) := HB_w5.out.grown hg HB_w5.out.size (fun j hj => by cases hj; exact (by have := HLGN.out; omega))
  have A_w6 : Hid (BoxC w6 43 w.heap.size (resL (.slice a R.text.length cap) R.loc vs R.fk R.fa R.mode (.slice none 0 0))) := A_w5.out.kept hg (fun e => by have := HLGN.out; have := Option.some.inj e; omega)
  have C_w6 : Hid (BoxC w6 38 GC [.int .i64 c, .int .i64 r, .int .i64 o, .int .i64 v, .int .i64 g]) := C_w5.out.kept hg (fun e => by have := HLGN.out; have := HLGC.out; have := Option.some.inj e; omega)
  have Z_w6 : Hid (BoxC w6 43 GZ nulL) := Z_w5.out.kept hg (fun e => by have := HLGN.out; have := HLGZ.out; have := Option.some.inj e; omega)
  clear A_w5 C_w5 Z_w5 N_w5 HB_w5
  have N_w6 : Hid (BoxC w6 43 GN (resL (.slice a R.text.length cap) R.loc vs R.fk R.fa R.mode (.slice none 0 0))) := hz
  clear hz hg
  clear cC0 cC1 cC2 cC3 cC4
  go_wp2_with (fail)
  have HS3 : Hid ((fun wx => BoxC wx 43 w.heap.size (resL (.slice a R.text.length cap) R.loc vs R.fk R.fa R.mode (.slice none 0 0)) ∧ BoxC wx 38 GC [.int .i64 c, .int .i64 r, .int .i64 o, .int .i64 v, .int .i64 g] ∧ BoxC wx 43 GZ nulL ∧ Below w.heap.size w wx) w6.drew) := ⟨A_w6.out, C_w6.out, Z_w6.out, below_drewN HB_w6.out 1⟩
  have hN4 : BoxC w6.drew 43 GN (resL (.slice a R.text.length cap) R.loc vs R.fk R.fa R.mode (.slice none 0 0)) := N_w6.out
  refine wp_region_held_drew (S := (fun wx => BoxC wx 43 w.heap.size (resL (.slice a R.text.length cap) R.loc vs R.fk R.fa R.mode (.slice none 0 0)) ∧ BoxC wx 38 GC [.int .i64 c, .int .i64 r, .int .i64 o, .int .i64 v, .int .i64 g] ∧ BoxC wx 43 GZ nulL ∧ Below w.heap.size w wx)) (by kernel_rfl) HS3.out (fun hHeld => ?_)
  refine wpAnyH_take (i := 0) (oi := ⟨some 37, .fieldAddr 43 (.tmp 2) 1, _, _, _, none⟩) (v := .pointer (some ⟨w.heap.size, 2, none⟩)) rfl (by kernel_rfl) (by kernel_rfl) (by kernel_rfl) (fun _ _ _ h => h) (Or.inl ⟨by rfl, fun wx hS => by unfold execOp; go_simp⟩) hHeld ?_
  (try simp only [Act.put, List.setIfInBounds_toArray, List.set_cons_zero, List.set_cons_succ])
  refine wpAnyH_take (i := 1) (oi := ⟨some 38, .load 36 (.tmp 37), _, _, _, none⟩) (v := .agg vs.toArray) rfl (by kernel_rfl) (by kernel_rfl) (by kernel_rfl) (fun _ _ _ h => h) (Or.inl ⟨by rfl, fun wx hS => exec_loadP 43 36 _ rfl w.heap.size 2 rfl (resL (.slice a R.text.length cap) R.loc vs R.fk R.fa R.mode (.slice none 0 0)) vs hS.1 (by rw [hvs]; exact wide_regs) (fun j v hv => by rw [resL_reg (by assumption) j (by rw [← hvs]; exact (List.getElem?_eq_some_iff.1 hv).1)]; exact hv)⟩) hHeld ?_
  (try simp only [Act.put, List.setIfInBounds_toArray, List.set_cons_zero, List.set_cons_succ])
  refine wpAnyH_take (i := 2) (oi := ⟨some 39, .fieldAddr 38 (.tmp 3) 1, _, _, _, none⟩) (v := .pointer (some ⟨GC, 1, none⟩)) rfl (by kernel_rfl) (by kernel_rfl) (by kernel_rfl) (fun _ _ _ h => h) (Or.inl ⟨by rfl, fun wx hS => by unfold execOp; go_simp⟩) hHeld ?_
  (try simp only [Act.put, List.setIfInBounds_toArray, List.set_cons_zero, List.set_cons_succ])
  refine wpAnyH_take (i := 3) (oi := ⟨some 40, .load 3 (.tmp 39), _, _, _, none⟩) (v := .int .i64 r) rfl (by kernel_rfl) (by kernel_rfl) (by kernel_rfl) (fun _ _ _ h => h) (Or.inl ⟨by rfl, fun wx hS => exec_load1 38 3 _ rfl GC 1 rfl [.int .i64 c, .int .i64 r, .int .i64 o, .int .i64 v, .int .i64 g] _ hS.2.1 rfl (fun w => by go_simp)⟩) hHeld ?_
  (try simp only [Act.put, List.setIfInBounds_toArray, List.set_cons_zero, List.set_cons_succ])
  refine wpAnyH_take (i := 4) (oi := ⟨some 41, .fieldAddr 43 (.tmp 2) 0, _, _, _, none⟩) (v := .pointer (some ⟨w.heap.size, 0, none⟩)) rfl (by kernel_rfl) (by kernel_rfl) (by kernel_rfl) (fun _ _ _ h => h) (Or.inl ⟨by rfl, fun wx hS => by unfold execOp; go_simp⟩) hHeld ?_
  (try simp only [Act.put, List.setIfInBounds_toArray, List.set_cons_zero, List.set_cons_succ])
  refine wpAnyH_take (i := 5) (oi := ⟨some 42, .fieldAddr 24 (.tmp 41) 0, _, _, _, none⟩) (v := .pointer (some ⟨w.heap.size, 0, none⟩)) rfl (by kernel_rfl) (by kernel_rfl) (by kernel_rfl) (fun _ _ _ h => h) (Or.inl ⟨by rfl, fun wx hS => by unfold execOp; go_simp⟩) hHeld ?_
  (try simp only [Act.put, List.setIfInBounds_toArray, List.set_cons_zero, List.set_cons_succ])
  refine wpAnyH_take (i := 6) (oi := ⟨some 43, .load 22 (.tmp 42), _, _, _, none⟩) (v := .slice a R.text.length cap) rfl (by kernel_rfl) (by kernel_rfl) (by kernel_rfl) (fun _ _ _ h => h) (Or.inl ⟨by rfl, fun wx hS => exec_load1 43 22 _ rfl w.heap.size 0 rfl (resL (.slice a R.text.length cap) R.loc vs R.fk R.fa R.mode (.slice none 0 0)) _ hS.1 resL_0 (fun w => by go_simp)⟩) hHeld ?_
  (try simp only [Act.put, List.setIfInBounds_toArray, List.set_cons_zero, List.set_cons_succ])
  refine wpAnyH_take (i := 7) (oi := ⟨some 44, .move (.tmp 6), _, _, _, none⟩) (v := .int .i64 (f : Int)) rfl (by kernel_rfl) (by kernel_rfl) (by kernel_rfl) (fun _ _ _ h => h) (Or.inl ⟨by rfl, fun wx hS => rfl⟩) hHeld ?_
  (try simp only [Act.put, List.setIfInBounds_toArray, List.set_cons_zero, List.set_cons_succ])
  refine wpAnyH_take (i := 8) (oi := ⟨some 45, .move (.tmp 7), _, _, _, none⟩) (v := .int .i64 (t : Int)) rfl (by kernel_rfl) (by kernel_rfl) (by kernel_rfl) (fun _ _ _ h => h) (Or.inl ⟨by rfl, fun wx hS => rfl⟩) hHeld ?_
  (try simp only [Act.put, List.setIfInBounds_toArray, List.set_cons_zero, List.set_cons_succ])
  refine wpAnyH_take (i := 9) (oi := ⟨some 46, .slice 22 (.tmp 43) (some (.tmp 44)) (some (.tmp 45)) none, _, _, _, none⟩) (v := .slice A (t - f) (cap - f)) rfl (by kernel_rfl) (by kernel_rfl) (by kernel_rfl) (fun _ _ _ h => h) (Or.inl ⟨by rfl, fun wx hS => by unfold execOp; go_simp⟩) hHeld ?_
  (try simp only [Act.put, List.setIfInBounds_toArray, List.set_cons_zero, List.set_cons_succ])
  refine wpAnyH_ready (rs := [10]) (by kernel_rfl) (by simp) ?_
  refine AllReadyH.cons (o := ⟨some 47, .call _, _, _, _, none⟩) rfl (fun K1 hK1 => ?_) AllReadyH.nil
  go_simp
  refine (HPT.out _ (below_drewN HB_w6.out 1)).mono ?_
  rintro q w7 ⟨hb7, ls, rfl, hl7⟩
  go_wp2_with fail
  have hA7 := hHeld.1.below hb7
  have hC7 := hHeld.2.1.below hb7
  have hZ7 := hHeld.2.2.1.below hb7
  have hB7 := below_trans hHeld.2.2.2 hb7 hHeld.2.2.2.size
  have hN7 := hN4.below hb7
  refine hK1.out _ _ ⟨hA7, hC7, hZ7, hB7⟩ (fun hHeld => ?_)
  clear hK1 K1
  (try simp only [Act.put, List.setIfInBounds_toArray, List.set_cons_zero, List.set_cons_succ])
  refine wpAnyH_take (i := 11) (oi := ⟨some 36, .move (.tmp 47), _, _, _, none⟩) (v := .tuple #[.agg ls.toArray, .int .i64 Q.2]) rfl (by kernel_rfl) (by kernel_rfl) (by kernel_rfl) (fun _ _ _ h => h) (Or.inl ⟨by rfl, fun wx hS => rfl⟩) hHeld ?_
  (try simp only [Act.put, List.setIfInBounds_toArray, List.set_cons_zero, List.set_cons_succ])
  refine wpAnyH_take (i := 12) (oi := ⟨some 48, .extract (.tmp 36) 0, _, _, _, none⟩) (v := .agg ls.toArray) rfl (by kernel_rfl) (by kernel_rfl) (by kernel_rfl) (fun _ _ _ h => h) (Or.inl ⟨by rfl, fun wx hS => by unfold execOp; go_simp⟩) hHeld ?_
  (try simp only [Act.put, List.setIfInBounds_toArray, List.set_cons_zero, List.set_cons_succ])
  refine wpAnyH_take (i := 13) (oi := ⟨some 49, .extract (.tmp 36) 1, _, _, _, none⟩) (v := .int .i64 Q.2) rfl (by kernel_rfl) (by kernel_rfl) (by kernel_rfl) (fun _ _ _ h => h) (Or.inl ⟨by rfl, fun wx hS => by unfold execOp; go_simp⟩) hHeld ?_
  (try simp only [Act.put, List.setIfInBounds_toArray, List.set_cons_zero, List.set_cons_succ])
  refine wpAnyH_take (i := 14) (oi := ⟨some 50, .fieldAddr 43 (.tmp 9) 1, _, _, _, none⟩) (v := .pointer (some ⟨GN, 2, none⟩)) rfl (by kernel_rfl) (by kernel_rfl) (by kernel_rfl) (fun _ _ _ h => h) (Or.inl ⟨by rfl, fun wx hS => by unfold execOp; go_simp⟩) hHeld ?_
  (try simp only [Act.put, List.setIfInBounds_toArray, List.set_cons_zero, List.set_cons_succ])
  have hls : ls.length = 27 := hl7.len
  refine wpAnyH_ready (rs := [15]) (by kernel_rfl) (by simp) ?_
  refine AllReadyH.cons (o := ⟨none, .store 36 (.tmp 50) (.tmp 48), _, _, _, none⟩) rfl (fun K1 hK1 => ?_) AllReadyH.nil
  refine step_storeP rfl 43 36 (.tmp 50) (.tmp 48) rfl GN 2 rfl (resL (.slice a R.text.length cap) R.loc vs R.fk R.fa R.mode (.slice none 0 0)) ls (resL (.slice a R.text.length cap) R.loc ls R.fk R.fa R.mode (.slice none 0 0)) rfl hN7 (by rw [hls]; exact wide_regs) (fun v hv => by obtain ⟨_, _, _, rfl⟩ := hl7.1.1.2 v hv; rfl) (by rw [hls, resL_len (by assumption)]; decide) (resL_regs ls (by assumption) hls) ?_
  intro w8 hn8 hg8
  have hA8 := hA7.kept hg8 (fun e => by have := HLGN.out; have := Option.some.inj e; omega)
  have hC8 := hC7.kept hg8 (fun e => by have := HLGN.out; have := Option.some.inj e; omega)
  have hZ8 := hZ7.kept hg8 (fun e => by have := HLGN.out; have := Option.some.inj e; omega)
  have hB8 := hB7.grown hg8 hB7.size (fun j hj => by cases hj; have := HLGN.out; omega)
  refine hK1.out _ _ ⟨hA8, hC8, hZ8, hB8⟩ (fun hHeld => ?_)
  clear hK1 K1
  (try simp only [Act.put, List.setIfInBounds_toArray, List.set_cons_zero, List.set_cons_succ])
  refine wpAnyH_take (i := 16) (oi := ⟨some 8, .assign (.tmp 49), _, _, _, none⟩) (v := .int .i64 Q.2) rfl (by kernel_rfl) (by kernel_rfl) (by kernel_rfl) (fun _ _ _ h => h) (Or.inl ⟨by rfl, fun wx hS => rfl⟩) hHeld ?_
  (try simp only [Act.put, List.setIfInBounds_toArray, List.set_cons_zero, List.set_cons_succ])
  refine wpAnyH_done (by kernel_rfl) ?_ _
  (try simp only [Act.put, List.setIfInBounds_toArray, List.set_cons_zero, List.set_cons_succ])
  have hl8 : AvR w8 (fun b => P b ∧ b ≠ GZ) ls Q.1 := (hl7.stored hg8 (by have := N_w6.out.lt; show ¬ (w6.heap.size ≤ GN); omega)).weak (fun b hb => ⟨HP.out _ (Nat.le_trans HB_w6.out.size hb), by have := Z_w6.out.lt; have : w6.heap.size ≤ b := hb; omega⟩)
  have HB_w8 : Hid (Below w.heap.size w w8) := hB8
  have A_w8 : Hid (BoxC w8 43 w.heap.size (resL (.slice a R.text.length cap) R.loc vs R.fk R.fa R.mode (.slice none 0 0))) := hA8
  have C_w8 : Hid (BoxC w8 38 GC [.int .i64 c, .int .i64 r, .int .i64 o, .int .i64 v, .int .i64 g]) := hC8
  have Z_w8 : Hid (BoxC w8 43 GZ nulL) := hZ8
  have N_w8 : Hid (BoxC w8 43 GN (resL (.slice a R.text.length cap) R.loc ls R.fk R.fa R.mode (.slice none 0 0))) := hn8
  have HLs : Hid (AvR w8 (fun b => P b ∧ b ≠ GZ) ls Q.1) := hl8
  clear hHeld hA7 hC7 hZ7 hB7 hN7 hN4 hA8 hC8 hZ8 hB8 hn8 hg8 hb7 hl7 hl8 HS3 A_w6 C_w6 Z_w6 N_w6 HB_w6 HPT HSP
  rw [HQ0.out]
  have cC0 : w8.cell? ⟨GC, 0, none⟩ = some (.int .i64 c) := (C_w8.out.cell 0).trans rfl
  have cC1 : w8.cell? ⟨GC, 1, none⟩ = some (.int .i64 r) := (C_w8.out.cell 1).trans rfl
  have cC2 : w8.cell? ⟨GC, 2, none⟩ = some (.int .i64 o) := (C_w8.out.cell 2).trans rfl
  have cC3 : w8.cell? ⟨GC, 3, none⟩ = some (.int .i64 v) := (C_w8.out.cell 3).trans rfl
  have cC4 : w8.cell? ⟨GC, 4, none⟩ = some (.int .i64 g) := (C_w8.out.cell 4).trans rfl
  go_wp2_with ((refine loadC rfl 43 _ rfl GN rfl (resL (.slice a R.text.length cap) R.loc ls R.fk R.fa R.mode (.slice none 0 0)) N_w8.out (by rw [resL_len (by assumption)]; exact wide_res) ?_))
  refine (HAC.out _ HB_w8.out GZ Z_w8.out.lt (by have := HLGZ.out; omega) _ HLs.out).mono ?_
  rintro q w9 ⟨hb9, x9, rfl, a9, c9, vs9, rfl, ht9, hr9⟩
  clear cC0 cC1 cC2 cC3 cC4 HLs
  have HB_w9 : Hid (Below w.heap.size w w9) := below_trans HB_w8.out hb9 HB_w8.out.size
  have A_w9 : Hid (BoxC w9 43 w.heap.size (resL (.slice a R.text.length cap) R.loc vs R.fk R.fa R.mode (.slice none 0 0))) := A_w8.out.below hb9
  have C_w9 : Hid (BoxC w9 38 GC [.int .i64 c, .int .i64 r, .int .i64 o, .int .i64 v, .int .i64 g]) := C_w8.out.below hb9
  have Z_w9 : Hid (BoxC w9 43 GZ nulL) := Z_w8.out.below hb9
  have N_w9 : Hid (BoxC w9 43 GN (resL (.slice a R.text.length cap) R.loc ls R.fk R.fa R.mode (.slice none 0 0))) := N_w8.out.below hb9
  clear A_w8 C_w8 Z_w8 N_w8 HB_w8
  clear hb9
  have hv9 : vs9.length = 27 := hr9.len
  have HS9 : Hid (AllSl vs9) := hr9.1.1
  have T9_w9 : Hid (Av w9 (fun b => P b ∧ b ≠ GZ) (.slice a9 R9.text.length c9) R9.text) := ht9
  have R9_w9 : Hid (AvR w9 (fun b => P b ∧ b ≠ GZ) vs9 R9.regs) := hr9
  clear ht9 hr9
  go_wp2_with (refine storeC rfl 43 _ _ rfl GZ rfl nulL (resL (.slice a9 R9.text.length c9) R9.loc vs9 R9.fk R9.fa R9.mode (.slice none 0 0)) rfl Z_w9.out (by rw [resL_len hv9]; exact wide_res) (resL_one HS9.out rfl rfl) (by rw [nul_len, resL_len hv9]) ?_)
  intro w10 hz hg
  have HB_w10 : Hid (Below w.heap.size w w10) := HB_w9.out.grown hg HB_w9.out.size (fun j hj => by cases hj; exact (by have := HLGZ.out; omega))
  have A_w10 : Hid (BoxC w10 43 w.heap.size (resL (.slice a R.text.length cap) R.loc vs R.fk R.fa R.mode (.slice none 0 0))) := A_w9.out.kept hg (fun e => by have := HLGZ.out; have := Option.some.inj e; omega)
  have C_w10 : Hid (BoxC w10 38 GC [.int .i64 c, .int .i64 r, .int .i64 o, .int .i64 v, .int .i64 g]) := C_w9.out.kept hg (fun e => by have := HLGZ.out; have := HLGC.out; have := Option.some.inj e; omega)
  have N_w10 : Hid (BoxC w10 43 GN (resL (.slice a R.text.length cap) R.loc ls R.fk R.fa R.mode (.slice none 0 0))) := N_w9.out.kept hg (fun e => by have := HLGZ.out; have := HLGN.out; have := Option.some.inj e; omega)
  have T9_w10 : Hid (Av w10 (fun b => P b ∧ b ≠ GZ) (.slice a9 R9.text.length c9) R9.text) := T9_w9.out.stored hg (fun h => h.2 rfl)
  have R9_w10 : Hid (AvR w10 (fun b => P b ∧ b ≠ GZ) vs9 R9.regs) := R9_w9.out.stored hg (fun h => h.2 rfl)
  clear A_w9 C_w9 Z_w9 N_w9 T9_w9 R9_w9 HB_w9
  have Z_w10 : Hid (BoxC w10 43 GZ (resL (.slice a9 R9.text.length c9) R9.loc vs9 R9.fk R9.fa R9.mode (.slice none 0 0))) := hz
  clear hz hg
  go_wp2_with (fail)
  (try simp only [Exit.inBlock, Exit.then])
  refine bodyPost_ret (ret_box rfl _ _ GZ (resL (.slice a9 R9.text.length c9) R9.loc vs9 R9.fk R9.fa R9.mode (.slice none 0 0)) _ rfl rfl Z_w10.out (by rw [resL_len hv9]; exact wide_res)) rfl ?_
  exact ⟨HB_w10.out, _, R9, rfl, ⟨a9, c9, vs9, rfl, T9_w10.out.weak (fun b hb => hb.1), R9_w10.out.weak (fun b hb => hb.1)⟩, fun _ => rfl⟩

theorem operated_go (a : Option Addr) (cap : Nat) (vs : List Value) (R : Res) (c r o v g : Int) (w : World) (P : Nat → Prop) (hP : ∀ b, w.heap.size ≤ b → P b) (h : Av w P (.slice a R.text.length cap) R.text) (hr : AvR w P vs R.regs) (hz : R.text.length ≤ 200) (ho : o = 100 ∨ o = 99 ∨ o = 121) :
    Calls Try.prog 37 #[.agg (resL (.slice a R.text.length cap) R.loc vs R.fk R.fa R.mode (.slice none 0 0)).toArray, .agg #[.int .i64 c, .int .i64 r, .int .i64 o, .int .i64 v, .int .i64 g]] w fun q w' => DonePost P (opd R c r o v g) w q w' := by
  unfold opd
  rcases spn_in R c o v g with he | ⟨f, t, hS, h1, h2⟩
  · rw [if_pos he]
    exact opd_err a cap vs R c r o v g w P hP h hr hz ho _ rfl he
  · rw [hS, if_neg (fun h => h rfl)]
    by_cases hft : f = t
    · subst hft
      by_cases h9 : o = 99
      · rw [if_neg (by rintro ⟨_, h⟩; exact h h9), if_neg (by show ¬ (f : Int) < (f : Int); omega)]
        exact opd_same a cap vs R c r o v g w P hP h hr hz ho f hS h2 h9 _ rfl
      · rw [if_pos ⟨rfl, h9⟩]
        exact opd_none a cap vs R c r o v g w P hP h hr hz ho f hS h9
    · have hlt : f < t := by omega
      rw [if_neg (by rintro ⟨h, _⟩; have : (f : Int) = (t : Int) := h; omega), if_pos (by show (f : Int) < (t : Int); omega)]
      show Calls _ _ _ _ fun q w' => DonePost P (if (putR R.regs r ((R.text.drop f).take (t - f))).2 ≠ 0 then _ else _) w q w'
      by_cases hq : (putR R.regs r ((R.text.drop f).take (t - f))).2 = 0
      · rw [if_neg (by rw [hq]; decide)]
        exact opd_ok a cap vs R c r o v g w P hP h hr hz ho f t hS h1 h2 hlt _ rfl hq _ rfl
      · rw [if_pos hq]
        exact opd_bad a cap vs R c r o v g w P hP h hr hz ho f t hS h1 h2 hlt _ rfl hq
end Go.Proofs.Ytpgjaoemkadenab.Seek
