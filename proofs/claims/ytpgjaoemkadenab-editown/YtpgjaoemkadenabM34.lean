/- Texts of one claim, one behind the other: DoSpan, SpanIn. -/
import Derived.Test.YtpgjaoemkadenabM33
import Derived.BigQuiet
/- The contract of edit.span. -/
set_option linter.unusedVariables false
set_option linter.unusedSimpArgs false
set_option maxRecDepth 100000
namespace Go.Proofs.Ytpgjaoemkadenab.Seek
open Go.RowKit Plain


set_option maxHeartbeats 2000000 in
theorem span_all (a : Option Addr) (cap : Nat) (vs : List Value) (R : Res) (c r o g : Int) (w : World) (P : Nat → Prop) (hP : ∀ b, w.heap.size ≤ b → P b) (h : Av w P (.slice a R.text.length cap) R.text) (hr : AvR w P vs R.regs) (hz : R.text.length ≤ 200)  :
    Calls Try.prog 48 #[.agg (resL (.slice a R.text.length cap) R.loc vs R.fk R.fa R.mode (.slice none 0 0)).toArray, .agg #[.int .i64 c, .int .i64 r, .int .i64 o, .int .i64 o, .int .i64 g]] w fun q w' => RangePost (0, (R.text.length : Int), 0) w q w' := by
  have hvs : vs.length = 27 := hr.len
  have HT : Hid (∀ wx, Below w.heap.size w wx → Av wx (fun b => P b ∧ b < w.heap.size) (.slice a R.text.length cap) R.text) := fun wx hx => (h.both (av_arg h.1)).below hx
  have HRg : Hid (∀ wx, Below w.heap.size w wx → AvR wx (fun b => P b ∧ b < w.heap.size) vs R.regs) := fun wx hx => (hr.both (avR_arg hr.1)).below hx
  have HP : Hid (∀ b, w.heap.size ≤ b → P b) := hP
  have HS : Hid (AllSl vs) := hr.1.1
  clear h hr hP
  go_enter Try.func48, Try.ntmps48
  go_wp2_with (refine boxC rfl 43 _ rfl (resL (.slice a R.text.length cap) R.loc vs R.fk R.fa R.mode (.slice none 0 0)) rfl ?_)
  intro w1 ha hb
  have HB_w1 : Hid (Below w.heap.size w w1) := hb
  have A_w1 : Hid (BoxC w1 43 w.heap.size (resL (.slice a R.text.length cap) R.loc vs R.fk R.fa R.mode (.slice none 0 0))) := ha
  clear ha hb
  go_wp2_with (refine boxC rfl 38 _ rfl [.int .i64 c, .int .i64 r, .int .i64 o, .int .i64 o, .int .i64 g] rfl ?_)
  intro w2 ha hb
  have HLGC : Hid (w.heap.size ≤ w1.heap.size ∧ w.heap.size < w1.heap.size) := ⟨HB_w1.out.size, A_w1.out.lt⟩
  have HB_w2 : Hid (Below w.heap.size w w2) := below_trans HB_w1.out hb HB_w1.out.size
  have A_w2 : Hid (BoxC w2 43 w.heap.size (resL (.slice a R.text.length cap) R.loc vs R.fk R.fa R.mode (.slice none 0 0))) := A_w1.out.below hb
  clear A_w1 HB_w1
  have C_w2 : Hid (BoxC w2 38 w1.heap.size [.int .i64 c, .int .i64 r, .int .i64 o, .int .i64 o, .int .i64 g]) := ha
  clear ha hb
  generalize w1.heap.size = GC at *
  go_wp2_with (first | (refine loadP rfl 43 24 _ rfl w.heap.size 0 rfl (resL (.slice a R.text.length cap) R.loc vs R.fk R.fa R.mode (.slice none 0 0)) [.slice a R.text.length cap, .int .i64 R.loc] A_w2.out wide_line (fun j v hv => by rcases j with _ | _ | j <;> first | exact hv | (simp at hv)) ?_) | (refine allocC rfl 24 rfl [.slice none 0 0, .int .i64 0] (by kernel_rfl) ?_))
  intro w3 ha hb
  have HLGL : Hid (w.heap.size ≤ w2.heap.size ∧ w.heap.size < w2.heap.size ∧ GC < w2.heap.size) := ⟨HB_w2.out.size, A_w2.out.lt, C_w2.out.lt⟩
  have HB_w3 : Hid (Below w.heap.size w w3) := below_trans HB_w2.out hb HB_w2.out.size
  have A_w3 : Hid (BoxC w3 43 w.heap.size (resL (.slice a R.text.length cap) R.loc vs R.fk R.fa R.mode (.slice none 0 0))) := A_w2.out.below hb
  have C_w3 : Hid (BoxC w3 38 GC [.int .i64 c, .int .i64 r, .int .i64 o, .int .i64 o, .int .i64 g]) := C_w2.out.below hb
  clear A_w2 C_w2 HB_w2
  have L_w3 : Hid (BoxC w3 24 w2.heap.size [.slice none 0 0, .int .i64 0]) := ha
  clear ha hb
  generalize w2.heap.size = GL at *
  go_wp2_with (refine storeC rfl 24 _ _ rfl GL rfl [.slice none 0 0, .int .i64 0] [.slice a R.text.length cap, .int .i64 R.loc] rfl L_w3.out wide_line (fun v hv => by simp at hv; rcases hv with rfl | rfl <;> rfl) rfl ?_)
  intro w4 hz hg
  have HB_w4 : Hid (Below w.heap.size w w4) := HB_w3.out.grown hg HB_w3.out.size (fun j hj => by cases hj; exact (by have := HLGL.out; omega))
  have A_w4 : Hid (BoxC w4 43 w.heap.size (resL (.slice a R.text.length cap) R.loc vs R.fk R.fa R.mode (.slice none 0 0))) := A_w3.out.kept hg (fun e => by have := HLGL.out; have := Option.some.inj e; omega)
  have C_w4 : Hid (BoxC w4 38 GC [.int .i64 c, .int .i64 r, .int .i64 o, .int .i64 o, .int .i64 g]) := C_w3.out.kept hg (fun e => by have := HLGL.out; have := HLGC.out; have := Option.some.inj e; omega)
  clear A_w3 C_w3 L_w3 HB_w3
  have L_w4 : Hid (BoxC w4 24 GL [.slice a R.text.length cap, .int .i64 R.loc]) := hz
  clear hz hg
  have a0 : w4.cell? ⟨w.heap.size, 0, none⟩ = some (.slice a R.text.length cap) := (A_w4.out.cell 0).trans resL_0
  have a1 : w4.cell? ⟨w.heap.size, 1, none⟩ = some (.int .i64 R.loc) := (A_w4.out.cell 1).trans resL_1
  have a29 : w4.cell? ⟨w.heap.size, 29, none⟩ = some (.int .i64 R.fk) := (A_w4.out.cell 29).trans (resL_end (by assumption) 0)
  have a30 : w4.cell? ⟨w.heap.size, 30, none⟩ = some (.int .i64 R.fa) := (A_w4.out.cell 30).trans (resL_end (by assumption) 1)
  have cC0 : w4.cell? ⟨GC, 0, none⟩ = some (.int .i64 c) := (C_w4.out.cell 0).trans rfl
  have cC1 : w4.cell? ⟨GC, 1, none⟩ = some (.int .i64 r) := (C_w4.out.cell 1).trans rfl
  have cC2 : w4.cell? ⟨GC, 2, none⟩ = some (.int .i64 o) := (C_w4.out.cell 2).trans rfl
  have cC3 : w4.cell? ⟨GC, 3, none⟩ = some (.int .i64 o) := (C_w4.out.cell 3).trans rfl
  have cC4 : w4.cell? ⟨GC, 4, none⟩ = some (.int .i64 g) := (C_w4.out.cell 4).trans rfl
  have cL0 : w4.cell? ⟨GL, 0, none⟩ = some (.slice a R.text.length cap) := (L_w4.out.cell 0).trans rfl
  have cL1 : w4.cell? ⟨GL, 1, none⟩ = some (.int .i64 R.loc) := (L_w4.out.cell 1).trans rfl
  go_wp2_with (fail)
  go_quiet (fail)
  generalize hq_w5 : w4.drewN _ = w5
  have hb : Below w4.heap.size w4 w5 := by rw [← hq_w5]; exact below_drewN (Below.refl _ _) _
  clear hq_w5
  have HB_w5 : Hid (Below w.heap.size w w5) := below_trans HB_w4.out hb HB_w4.out.size
  have A_w5 : Hid (BoxC w5 43 w.heap.size (resL (.slice a R.text.length cap) R.loc vs R.fk R.fa R.mode (.slice none 0 0))) := A_w4.out.below hb
  have C_w5 : Hid (BoxC w5 38 GC [.int .i64 c, .int .i64 r, .int .i64 o, .int .i64 o, .int .i64 g]) := C_w4.out.below hb
  have L_w5 : Hid (BoxC w5 24 GL [.slice a R.text.length cap, .int .i64 R.loc]) := L_w4.out.below hb
  clear A_w4 C_w4 L_w4 HB_w4
  clear hb
  go_wp2_with (fail)
  go_ret3
  exact ⟨rfl, HB_w5.out⟩

set_option maxHeartbeats 2000000 in
theorem span_in (a : Option Addr) (cap : Nat) (vs : List Value) (R : Res) (c r o g : Int) (w : World) (P : Nat → Prop) (hP : ∀ b, w.heap.size ≤ b → P b) (h : Av w P (.slice a R.text.length cap) R.text) (hr : AvR w P vs R.regs) (hz : R.text.length ≤ 200) (hb : ((105 : Int) == o) = false) (X : Int × Int × Int) (hX : thing R.text R.loc false g = X) :
    Calls Try.prog 48 #[.agg (resL (.slice a R.text.length cap) R.loc vs R.fk R.fa R.mode (.slice none 0 0)).toArray, .agg #[.int .i64 c, .int .i64 r, .int .i64 o, .int .i64 105, .int .i64 g]] w fun q w' => RangePost X w q w' := by
  have HX : Hid (∀ wx, Below w.heap.size w wx → Calls Try.prog 59 #[.slice a R.text.length cap, .int .i64 R.loc, .bool false, .int .i64 g] wx fun q w' => ThingPost X wx q w') := fun wx hx => by rw [← hX]; exact thing_go _ R.text R.loc false g wx (h.below hx).1
  clear hX
  have hvs : vs.length = 27 := hr.len
  have HT : Hid (∀ wx, Below w.heap.size w wx → Av wx (fun b => P b ∧ b < w.heap.size) (.slice a R.text.length cap) R.text) := fun wx hx => (h.both (av_arg h.1)).below hx
  have HRg : Hid (∀ wx, Below w.heap.size w wx → AvR wx (fun b => P b ∧ b < w.heap.size) vs R.regs) := fun wx hx => (hr.both (avR_arg hr.1)).below hx
  have HP : Hid (∀ b, w.heap.size ≤ b → P b) := hP
  have HS : Hid (AllSl vs) := hr.1.1
  clear h hr hP
  go_enter Try.func48, Try.ntmps48
  go_wp2_with (refine boxC rfl 43 _ rfl (resL (.slice a R.text.length cap) R.loc vs R.fk R.fa R.mode (.slice none 0 0)) rfl ?_)
  intro w1 ha hb
  have HB_w1 : Hid (Below w.heap.size w w1) := hb
  have A_w1 : Hid (BoxC w1 43 w.heap.size (resL (.slice a R.text.length cap) R.loc vs R.fk R.fa R.mode (.slice none 0 0))) := ha
  clear ha hb
  go_wp2_with (refine boxC rfl 38 _ rfl [.int .i64 c, .int .i64 r, .int .i64 o, .int .i64 105, .int .i64 g] rfl ?_)
  intro w2 ha hb
  have HLGC : Hid (w.heap.size ≤ w1.heap.size ∧ w.heap.size < w1.heap.size) := ⟨HB_w1.out.size, A_w1.out.lt⟩
  have HB_w2 : Hid (Below w.heap.size w w2) := below_trans HB_w1.out hb HB_w1.out.size
  have A_w2 : Hid (BoxC w2 43 w.heap.size (resL (.slice a R.text.length cap) R.loc vs R.fk R.fa R.mode (.slice none 0 0))) := A_w1.out.below hb
  clear A_w1 HB_w1
  have C_w2 : Hid (BoxC w2 38 w1.heap.size [.int .i64 c, .int .i64 r, .int .i64 o, .int .i64 105, .int .i64 g]) := ha
  clear ha hb
  generalize w1.heap.size = GC at *
  go_wp2_with (first | (refine loadP rfl 43 24 _ rfl w.heap.size 0 rfl (resL (.slice a R.text.length cap) R.loc vs R.fk R.fa R.mode (.slice none 0 0)) [.slice a R.text.length cap, .int .i64 R.loc] A_w2.out wide_line (fun j v hv => by rcases j with _ | _ | j <;> first | exact hv | (simp at hv)) ?_) | (refine allocC rfl 24 rfl [.slice none 0 0, .int .i64 0] (by kernel_rfl) ?_))
  intro w3 ha hb
  have HLGL : Hid (w.heap.size ≤ w2.heap.size ∧ w.heap.size < w2.heap.size ∧ GC < w2.heap.size) := ⟨HB_w2.out.size, A_w2.out.lt, C_w2.out.lt⟩
  have HB_w3 : Hid (Below w.heap.size w w3) := below_trans HB_w2.out hb HB_w2.out.size
  have A_w3 : Hid (BoxC w3 43 w.heap.size (resL (.slice a R.text.length cap) R.loc vs R.fk R.fa R.mode (.slice none 0 0))) := A_w2.out.below hb
  have C_w3 : Hid (BoxC w3 38 GC [.int .i64 c, .int .i64 r, .int .i64 o, .int .i64 105, .int .i64 g]) := C_w2.out.below hb
  clear A_w2 C_w2 HB_w2
  have L_w3 : Hid (BoxC w3 24 w2.heap.size [.slice none 0 0, .int .i64 0]) := ha
  clear ha hb
  generalize w2.heap.size = GL at *
  go_wp2_with (refine storeC rfl 24 _ _ rfl GL rfl [.slice none 0 0, .int .i64 0] [.slice a R.text.length cap, .int .i64 R.loc] rfl L_w3.out wide_line (fun v hv => by simp at hv; rcases hv with rfl | rfl <;> rfl) rfl ?_)
  intro w4 hz hg
  have HB_w4 : Hid (Below w.heap.size w w4) := HB_w3.out.grown hg HB_w3.out.size (fun j hj => by cases hj; exact (by have := HLGL.out; omega))
  have A_w4 : Hid (BoxC w4 43 w.heap.size (resL (.slice a R.text.length cap) R.loc vs R.fk R.fa R.mode (.slice none 0 0))) := A_w3.out.kept hg (fun e => by have := HLGL.out; have := Option.some.inj e; omega)
  have C_w4 : Hid (BoxC w4 38 GC [.int .i64 c, .int .i64 r, .int .i64 o, .int .i64 105, .int .i64 g]) := C_w3.out.kept hg (fun e => by have := HLGL.out; have := HLGC.out; have := Option.some.inj e; omega)
  clear A_w3 C_w3 L_w3 HB_w3
  have L_w4 : Hid (BoxC w4 24 GL [.slice a R.text.length cap, .int .i64 R.loc]) := hz
  clear hz hg
  have a0 : w4.cell? ⟨w.heap.size, 0, none⟩ = some (.slice a R.text.length cap) := (A_w4.out.cell 0).trans resL_0
  have a1 : w4.cell? ⟨w.heap.size, 1, none⟩ = some (.int .i64 R.loc) := (A_w4.out.cell 1).trans resL_1
  have a29 : w4.cell? ⟨w.heap.size, 29, none⟩ = some (.int .i64 R.fk) := (A_w4.out.cell 29).trans (resL_end (by assumption) 0)
  have a30 : w4.cell? ⟨w.heap.size, 30, none⟩ = some (.int .i64 R.fa) := (A_w4.out.cell 30).trans (resL_end (by assumption) 1)
  have cC0 : w4.cell? ⟨GC, 0, none⟩ = some (.int .i64 c) := (C_w4.out.cell 0).trans rfl
  have cC1 : w4.cell? ⟨GC, 1, none⟩ = some (.int .i64 r) := (C_w4.out.cell 1).trans rfl
  have cC2 : w4.cell? ⟨GC, 2, none⟩ = some (.int .i64 o) := (C_w4.out.cell 2).trans rfl
  have cC3 : w4.cell? ⟨GC, 3, none⟩ = some (.int .i64 105) := (C_w4.out.cell 3).trans rfl
  have cC4 : w4.cell? ⟨GC, 4, none⟩ = some (.int .i64 g) := (C_w4.out.cell 4).trans rfl
  have cL0 : w4.cell? ⟨GL, 0, none⟩ = some (.slice a R.text.length cap) := (L_w4.out.cell 0).trans rfl
  have cL1 : w4.cell? ⟨GL, 1, none⟩ = some (.int .i64 R.loc) := (L_w4.out.cell 1).trans rfl
  go_wp2_with (fail)
  refine (HX.out _ HB_w4.out).mono ?_
  rintro q w9 ⟨rfl, hb9⟩
  clear a0 a1 a29 a30 cC0 cC1 cC2 cC3 cC4 cL0 cL1
  have HB_w9 : Hid (Below w.heap.size w w9) := below_trans HB_w4.out hb9 HB_w4.out.size
  have A_w9 : Hid (BoxC w9 43 w.heap.size (resL (.slice a R.text.length cap) R.loc vs R.fk R.fa R.mode (.slice none 0 0))) := A_w4.out.below hb9
  have C_w9 : Hid (BoxC w9 38 GC [.int .i64 c, .int .i64 r, .int .i64 o, .int .i64 105, .int .i64 g]) := C_w4.out.below hb9
  have L_w9 : Hid (BoxC w9 24 GL [.slice a R.text.length cap, .int .i64 R.loc]) := L_w4.out.below hb9
  clear A_w4 C_w4 L_w4 HB_w4
  clear hb9
  go_wp2_with (fail)
  go_ret3
  exact ⟨rfl, HB_w9.out⟩

set_option maxHeartbeats 2000000 in
theorem span_ar (a : Option Addr) (cap : Nat) (vs : List Value) (R : Res) (c r o g : Int) (w : World) (P : Nat → Prop) (hP : ∀ b, w.heap.size ≤ b → P b) (h : Av w P (.slice a R.text.length cap) R.text) (hr : AvR w P vs R.regs) (hz : R.text.length ≤ 200) (hb : ((97 : Int) == o) = false) (X : Int × Int × Int) (hX : thing R.text R.loc true g = X) :
    Calls Try.prog 48 #[.agg (resL (.slice a R.text.length cap) R.loc vs R.fk R.fa R.mode (.slice none 0 0)).toArray, .agg #[.int .i64 c, .int .i64 r, .int .i64 o, .int .i64 97, .int .i64 g]] w fun q w' => RangePost X w q w' := by
  have HX : Hid (∀ wx, Below w.heap.size w wx → Calls Try.prog 59 #[.slice a R.text.length cap, .int .i64 R.loc, .bool true, .int .i64 g] wx fun q w' => ThingPost X wx q w') := fun wx hx => by rw [← hX]; exact thing_go _ R.text R.loc true g wx (h.below hx).1
  clear hX
  have hvs : vs.length = 27 := hr.len
  have HT : Hid (∀ wx, Below w.heap.size w wx → Av wx (fun b => P b ∧ b < w.heap.size) (.slice a R.text.length cap) R.text) := fun wx hx => (h.both (av_arg h.1)).below hx
  have HRg : Hid (∀ wx, Below w.heap.size w wx → AvR wx (fun b => P b ∧ b < w.heap.size) vs R.regs) := fun wx hx => (hr.both (avR_arg hr.1)).below hx
  have HP : Hid (∀ b, w.heap.size ≤ b → P b) := hP
  have HS : Hid (AllSl vs) := hr.1.1
  clear h hr hP
  go_enter Try.func48, Try.ntmps48
  go_wp2_with (refine boxC rfl 43 _ rfl (resL (.slice a R.text.length cap) R.loc vs R.fk R.fa R.mode (.slice none 0 0)) rfl ?_)
  intro w1 ha hb
  have HB_w1 : Hid (Below w.heap.size w w1) := hb
  have A_w1 : Hid (BoxC w1 43 w.heap.size (resL (.slice a R.text.length cap) R.loc vs R.fk R.fa R.mode (.slice none 0 0))) := ha
  clear ha hb
  go_wp2_with (refine boxC rfl 38 _ rfl [.int .i64 c, .int .i64 r, .int .i64 o, .int .i64 97, .int .i64 g] rfl ?_)
  intro w2 ha hb
  have HLGC : Hid (w.heap.size ≤ w1.heap.size ∧ w.heap.size < w1.heap.size) := ⟨HB_w1.out.size, A_w1.out.lt⟩
  have HB_w2 : Hid (Below w.heap.size w w2) := below_trans HB_w1.out hb HB_w1.out.size
  have A_w2 : Hid (BoxC w2 43 w.heap.size (resL (.slice a R.text.length cap) R.loc vs R.fk R.fa R.mode (.slice none 0 0))) := A_w1.out.below hb
  clear A_w1 HB_w1
  have C_w2 : Hid (BoxC w2 38 w1.heap.size [.int .i64 c, .int .i64 r, .int .i64 o, .int .i64 97, .int .i64 g]) := ha
  clear ha hb
  generalize w1.heap.size = GC at *
  go_wp2_with (first | (refine loadP rfl 43 24 _ rfl w.heap.size 0 rfl (resL (.slice a R.text.length cap) R.loc vs R.fk R.fa R.mode (.slice none 0 0)) [.slice a R.text.length cap, .int .i64 R.loc] A_w2.out wide_line (fun j v hv => by rcases j with _ | _ | j <;> first | exact hv | (simp at hv)) ?_) | (refine allocC rfl 24 rfl [.slice none 0 0, .int .i64 0] (by kernel_rfl) ?_))
  intro w3 ha hb
  have HLGL : Hid (w.heap.size ≤ w2.heap.size ∧ w.heap.size < w2.heap.size ∧ GC < w2.heap.size) := ⟨HB_w2.out.size, A_w2.out.lt, C_w2.out.lt⟩
  have HB_w3 : Hid (Below w.heap.size w w3) := below_trans HB_w2.out hb HB_w2.out.size
  have A_w3 : Hid (BoxC w3 43 w.heap.size (resL (.slice a R.text.length cap) R.loc vs R.fk R.fa R.mode (.slice none 0 0))) := A_w2.out.below hb
  have C_w3 : Hid (BoxC w3 38 GC [.int .i64 c, .int .i64 r, .int .i64 o, .int .i64 97, .int .i64 g]) := C_w2.out.below hb
  clear A_w2 C_w2 HB_w2
  have L_w3 : Hid (BoxC w3 24 w2.heap.size [.slice none 0 0, .int .i64 0]) := ha
  clear ha hb
  generalize w2.heap.size = GL at *
  go_wp2_with (refine storeC rfl 24 _ _ rfl GL rfl [.slice none 0 0, .int .i64 0] [.slice a R.text.length cap, .int .i64 R.loc] rfl L_w3.out wide_line (fun v hv => by simp at hv; rcases hv with rfl | rfl <;> rfl) rfl ?_)
  intro w4 hz hg
  have HB_w4 : Hid (Below w.heap.size w w4) := HB_w3.out.grown hg HB_w3.out.size (fun j hj => by cases hj; exact (by have := HLGL.out; omega))
  have A_w4 : Hid (BoxC w4 43 w.heap.size (resL (.slice a R.text.length cap) R.loc vs R.fk R.fa R.mode (.slice none 0 0))) := A_w3.out.kept hg (fun e => by have := HLGL.out; have := Option.some.inj e; omega)
  have C_w4 : Hid (BoxC w4 38 GC [.int .i64 c, .int .i64 r, .int .i64 o, .int .i64 97, .int .i64 g]) := C_w3.out.kept hg (fun e => by have := HLGL.out; have := HLGC.out; have := Option.some.inj e; omega)
  clear A_w3 C_w3 L_w3 HB_w3
  have L_w4 : Hid (BoxC w4 24 GL [.slice a R.text.length cap, .int .i64 R.loc]) := hz
  clear hz hg
  have a0 : w4.cell? ⟨w.heap.size, 0, none⟩ = some (.slice a R.text.length cap) := (A_w4.out.cell 0).trans resL_0
  have a1 : w4.cell? ⟨w.heap.size, 1, none⟩ = some (.int .i64 R.loc) := (A_w4.out.cell 1).trans resL_1
  have a29 : w4.cell? ⟨w.heap.size, 29, none⟩ = some (.int .i64 R.fk) := (A_w4.out.cell 29).trans (resL_end (by assumption) 0)
  have a30 : w4.cell? ⟨w.heap.size, 30, none⟩ = some (.int .i64 R.fa) := (A_w4.out.cell 30).trans (resL_end (by assumption) 1)
  have cC0 : w4.cell? ⟨GC, 0, none⟩ = some (.int .i64 c) := (C_w4.out.cell 0).trans rfl
  have cC1 : w4.cell? ⟨GC, 1, none⟩ = some (.int .i64 r) := (C_w4.out.cell 1).trans rfl
  have cC2 : w4.cell? ⟨GC, 2, none⟩ = some (.int .i64 o) := (C_w4.out.cell 2).trans rfl
  have cC3 : w4.cell? ⟨GC, 3, none⟩ = some (.int .i64 97) := (C_w4.out.cell 3).trans rfl
  have cC4 : w4.cell? ⟨GC, 4, none⟩ = some (.int .i64 g) := (C_w4.out.cell 4).trans rfl
  have cL0 : w4.cell? ⟨GL, 0, none⟩ = some (.slice a R.text.length cap) := (L_w4.out.cell 0).trans rfl
  have cL1 : w4.cell? ⟨GL, 1, none⟩ = some (.int .i64 R.loc) := (L_w4.out.cell 1).trans rfl
  go_wp2_with (fail)
  refine (HX.out _ HB_w4.out).mono ?_
  rintro q w9 ⟨rfl, hb9⟩
  clear a0 a1 a29 a30 cC0 cC1 cC2 cC3 cC4 cL0 cL1
  have HB_w9 : Hid (Below w.heap.size w w9) := below_trans HB_w4.out hb9 HB_w4.out.size
  have A_w9 : Hid (BoxC w9 43 w.heap.size (resL (.slice a R.text.length cap) R.loc vs R.fk R.fa R.mode (.slice none 0 0))) := A_w4.out.below hb9
  have C_w9 : Hid (BoxC w9 38 GC [.int .i64 c, .int .i64 r, .int .i64 o, .int .i64 97, .int .i64 g]) := C_w4.out.below hb9
  have L_w9 : Hid (BoxC w9 24 GL [.slice a R.text.length cap, .int .i64 R.loc]) := L_w4.out.below hb9
  clear A_w4 C_w4 L_w4 HB_w4
  clear hb9
  go_wp2_with (fail)
  go_ret3
  exact ⟨rfl, HB_w9.out⟩

set_option maxHeartbeats 2000000 in
theorem span_bad (a : Option Addr) (cap : Nat) (vs : List Value) (R : Res) (c r o v g : Int) (w : World) (P : Nat → Prop) (hP : ∀ b, w.heap.size ≤ b → P b) (h : Av w P (.slice a R.text.length cap) R.text) (hr : AvR w P vs R.regs) (hz : R.text.length ≤ 200) (hb : (v == o) = false) (hb1 : (v == 105) = false) (hb2 : (v == 97) = false) (M : Int × Int × Int) (hM : mot v g R.fk R.fa = M) (he0 : M.2.2 ≠ 0) :
    Calls Try.prog 48 #[.agg (resL (.slice a R.text.length cap) R.loc vs R.fk R.fa R.mode (.slice none 0 0)).toArray, .agg #[.int .i64 c, .int .i64 r, .int .i64 o, .int .i64 v, .int .i64 g]] w fun q w' => RangePost (0, 0, M.2.2) w q w' := by
  have HM : Hid (∀ wx, Calls Try.prog 54 #[.agg #[.int .i64 c, .int .i64 r, .int .i64 o, .int .i64 v, .int .i64 g], .agg #[.int .i64 R.fk, .int .i64 R.fa]] wx fun q w' => MovePost c M wx q w') := fun wx => by rw [← hM]; exact moveOf_go c r o v g R.fk R.fa wx
  clear hM
  have hb3 : (M.2.2 != 0) = true := by simpa using he0
  clear he0
  have hvs : vs.length = 27 := hr.len
  have HT : Hid (∀ wx, Below w.heap.size w wx → Av wx (fun b => P b ∧ b < w.heap.size) (.slice a R.text.length cap) R.text) := fun wx hx => (h.both (av_arg h.1)).below hx
  have HRg : Hid (∀ wx, Below w.heap.size w wx → AvR wx (fun b => P b ∧ b < w.heap.size) vs R.regs) := fun wx hx => (hr.both (avR_arg hr.1)).below hx
  have HP : Hid (∀ b, w.heap.size ≤ b → P b) := hP
  have HS : Hid (AllSl vs) := hr.1.1
  clear h hr hP
  go_enter Try.func48, Try.ntmps48
  go_wp2_with (refine boxC rfl 43 _ rfl (resL (.slice a R.text.length cap) R.loc vs R.fk R.fa R.mode (.slice none 0 0)) rfl ?_)
  intro w1 ha hb
  have HB_w1 : Hid (Below w.heap.size w w1) := hb
  have A_w1 : Hid (BoxC w1 43 w.heap.size (resL (.slice a R.text.length cap) R.loc vs R.fk R.fa R.mode (.slice none 0 0))) := ha
  clear ha hb
  go_wp2_with (refine boxC rfl 38 _ rfl [.int .i64 c, .int .i64 r, .int .i64 o, .int .i64 v, .int .i64 g] rfl ?_)
  intro w2 ha hb
  have HLGC : Hid (w.heap.size ≤ w1.heap.size ∧ w.heap.size < w1.heap.size) := ⟨HB_w1.out.size, A_w1.out.lt⟩
  have HB_w2 : Hid (Below w.heap.size w w2) := below_trans HB_w1.out hb HB_w1.out.size
  have A_w2 : Hid (BoxC w2 43 w.heap.size (resL (.slice a R.text.length cap) R.loc vs R.fk R.fa R.mode (.slice none 0 0))) := A_w1.out.below hb
  clear A_w1 HB_w1
  have C_w2 : Hid (BoxC w2 38 w1.heap.size [.int .i64 c, .int .i64 r, .int .i64 o, .int .i64 v, .int .i64 g]) := ha
  clear ha hb
  generalize w1.heap.size = GC at *
  go_wp2_with (first | (refine loadP rfl 43 24 _ rfl w.heap.size 0 rfl (resL (.slice a R.text.length cap) R.loc vs R.fk R.fa R.mode (.slice none 0 0)) [.slice a R.text.length cap, .int .i64 R.loc] A_w2.out wide_line (fun j v hv => by rcases j with _ | _ | j <;> first | exact hv | (simp at hv)) ?_) | (refine allocC rfl 24 rfl [.slice none 0 0, .int .i64 0] (by kernel_rfl) ?_))
  intro w3 ha hb
  have HLGL : Hid (w.heap.size ≤ w2.heap.size ∧ w.heap.size < w2.heap.size ∧ GC < w2.heap.size) := ⟨HB_w2.out.size, A_w2.out.lt, C_w2.out.lt⟩
  have HB_w3 : Hid (Below w.heap.size w w3) := below_trans HB_w2.out hb HB_w2.out.size
  have A_w3 : Hid (BoxC w3 43 w.heap.size (resL (.slice a R.text.length cap) R.loc vs R.fk R.fa R.mode (.slice none 0 0))) := A_w2.out.below hb
  have C_w3 : Hid (BoxC w3 38 GC [.int .i64 c, .int .i64 r, .int .i64 o, .int .i64 v, .int .i64 g]) := C_w2.out.below hb
  clear A_w2 C_w2 HB_w2
  have L_w3 : Hid (BoxC w3 24 w2.heap.size [.slice none 0 0, .int .i64 0]) := ha
  clear ha hb
  generalize w2.heap.size = GL at *
  go_wp2_with (refine storeC rfl 24 _ _ rfl GL rfl [.slice none 0 0, .int .i64 0] [.slice a R.text.length cap, .int .i64 R.loc] rfl L_w3.out wide_line (fun v hv => by simp at hv; rcases hv with rfl | rfl <;> rfl) rfl ?_)
  intro w4 hz hg
  have HB_w4 : Hid (Below w.heap.size w w4) := HB_w3.out.grown hg HB_w3.out.size (fun j hj => by cases hj; exact (by have := HLGL.out; omega))
  have A_w4 : Hid (BoxC w4 43 w.heap.size (resL (.slice a R.text.length cap) R.loc vs R.fk R.fa R.mode (.slice none 0 0))) := A_w3.out.kept hg (fun e => by have := HLGL.out; have := Option.some.inj e; omega)
  have C_w4 : Hid (BoxC w4 38 GC [.int .i64 c, .int .i64 r, .int .i64 o, .int .i64 v, .int .i64 g]) := C_w3.out.kept hg (fun e => by have := HLGL.out; have := HLGC.out; have := Option.some.inj e; omega)
  clear A_w3 C_w3 L_w3 HB_w3
  have L_w4 : Hid (BoxC w4 24 GL [.slice a R.text.length cap, .int .i64 R.loc]) := hz
  clear hz hg
  have a0 : w4.cell? ⟨w.heap.size, 0, none⟩ = some (.slice a R.text.length cap) := (A_w4.out.cell 0).trans resL_0
  have a1 : w4.cell? ⟨w.heap.size, 1, none⟩ = some (.int .i64 R.loc) := (A_w4.out.cell 1).trans resL_1
  have a29 : w4.cell? ⟨w.heap.size, 29, none⟩ = some (.int .i64 R.fk) := (A_w4.out.cell 29).trans (resL_end (by assumption) 0)
  have a30 : w4.cell? ⟨w.heap.size, 30, none⟩ = some (.int .i64 R.fa) := (A_w4.out.cell 30).trans (resL_end (by assumption) 1)
  have cC0 : w4.cell? ⟨GC, 0, none⟩ = some (.int .i64 c) := (C_w4.out.cell 0).trans rfl
  have cC1 : w4.cell? ⟨GC, 1, none⟩ = some (.int .i64 r) := (C_w4.out.cell 1).trans rfl
  have cC2 : w4.cell? ⟨GC, 2, none⟩ = some (.int .i64 o) := (C_w4.out.cell 2).trans rfl
  have cC3 : w4.cell? ⟨GC, 3, none⟩ = some (.int .i64 v) := (C_w4.out.cell 3).trans rfl
  have cC4 : w4.cell? ⟨GC, 4, none⟩ = some (.int .i64 g) := (C_w4.out.cell 4).trans rfl
  have cL0 : w4.cell? ⟨GL, 0, none⟩ = some (.slice a R.text.length cap) := (L_w4.out.cell 0).trans rfl
  have cL1 : w4.cell? ⟨GL, 1, none⟩ = some (.int .i64 R.loc) := (L_w4.out.cell 1).trans rfl
  go_wp2_with (fail)
  refine (HM.out _).mono ?_
  rintro q w6 ⟨hb6, cc, hcc, rfl⟩
  clear a0 a1 a29 a30 cC0 cC1 cC2 cC3 cC4 cL0 cL1
  have HB_w6 : Hid (Below w.heap.size w w6) := below_trans HB_w4.out hb6 HB_w4.out.size
  have A_w6 : Hid (BoxC w6 43 w.heap.size (resL (.slice a R.text.length cap) R.loc vs R.fk R.fa R.mode (.slice none 0 0))) := A_w4.out.below hb6
  have C_w6 : Hid (BoxC w6 38 GC [.int .i64 c, .int .i64 r, .int .i64 o, .int .i64 v, .int .i64 g]) := C_w4.out.below hb6
  have L_w6 : Hid (BoxC w6 24 GL [.slice a R.text.length cap, .int .i64 R.loc]) := L_w4.out.below hb6
  clear A_w4 C_w4 L_w4 HB_w4
  clear hb6
  clear C_w6
  go_wp2_with (refine allocC rfl 99 rfl [.int .i64 0, .int .i64 0, .int .i64 0] (by kernel_rfl) ?_)
  intro w7 ha hb
  have HLGM : Hid (w.heap.size ≤ w6.heap.size ∧ w.heap.size < w6.heap.size ∧ GL < w6.heap.size) := ⟨HB_w6.out.size, A_w6.out.lt, L_w6.out.lt⟩
  have HB_w7 : Hid (Below w.heap.size w w7) := below_trans HB_w6.out hb HB_w6.out.size
  have A_w7 : Hid (BoxC w7 43 w.heap.size (resL (.slice a R.text.length cap) R.loc vs R.fk R.fa R.mode (.slice none 0 0))) := A_w6.out.below hb
  have L_w7 : Hid (BoxC w7 24 GL [.slice a R.text.length cap, .int .i64 R.loc]) := L_w6.out.below hb
  clear A_w6 L_w6 HB_w6
  have M_w7 : Hid (BoxC w7 99 w6.heap.size [.int .i64 0, .int .i64 0, .int .i64 0]) := ha
  clear ha hb
  generalize w6.heap.size = GM at *
  go_wp2_with (refine storeC rfl 99 _ _ rfl GM rfl [.int .i64 0, .int .i64 0, .int .i64 0] [.int .i64 M.1, .int .i64 cc, .int .i64 M.2.1] rfl M_w7.out wide_move (fun v hv => by simp at hv; rcases hv with rfl | rfl | rfl <;> rfl) rfl ?_)
  intro w8 hz hg
  have HB_w8 : Hid (Below w.heap.size w w8) := HB_w7.out.grown hg HB_w7.out.size (fun j hj => by cases hj; exact (by have := HLGM.out; omega))
  have A_w8 : Hid (BoxC w8 43 w.heap.size (resL (.slice a R.text.length cap) R.loc vs R.fk R.fa R.mode (.slice none 0 0))) := A_w7.out.kept hg (fun e => by have := HLGM.out; have := Option.some.inj e; omega)
  have L_w8 : Hid (BoxC w8 24 GL [.slice a R.text.length cap, .int .i64 R.loc]) := L_w7.out.kept hg (fun e => by have := HLGM.out; have := HLGL.out; have := Option.some.inj e; omega)
  clear A_w7 L_w7 M_w7 HB_w7
  have M_w8 : Hid (BoxC w8 99 GM [.int .i64 M.1, .int .i64 cc, .int .i64 M.2.1]) := hz
  clear hz hg
  go_wp2_with (fail)
  go_ret3
  exact ⟨rfl, HB_w8.out⟩

set_option maxHeartbeats 2000000 in
theorem span_ok (a : Option Addr) (cap : Nat) (vs : List Value) (R : Res) (c r o v g : Int) (w : World) (P : Nat → Prop) (hP : ∀ b, w.heap.size ≤ b → P b) (h : Av w P (.slice a R.text.length cap) R.text) (hr : AvR w P vs R.regs) (hz : R.text.length ≤ 200) (hb : (v == o) = false) (hb1 : (v == 105) = false) (hb2 : (v == 97) = false) (M : Int × Int × Int) (hM : mot v g R.fk R.fa = M) (he0 : M.2.2 = 0) (X : Int × Int × Int) (hX : ranges R.text R.loc c M.1 M.2.1 = X) :
    Calls Try.prog 48 #[.agg (resL (.slice a R.text.length cap) R.loc vs R.fk R.fa R.mode (.slice none 0 0)).toArray, .agg #[.int .i64 c, .int .i64 r, .int .i64 o, .int .i64 v, .int .i64 g]] w fun q w' => RangePost X w q w' := by
  have HM : Hid (∀ wx, Calls Try.prog 54 #[.agg #[.int .i64 c, .int .i64 r, .int .i64 o, .int .i64 v, .int .i64 g], .agg #[.int .i64 R.fk, .int .i64 R.fa]] wx fun q w' => MovePost c M wx q w') := fun wx => by rw [← hM]; exact moveOf_go c r o v g R.fk R.fa wx
  clear hM
  have HX : Hid (∀ wx, Below w.heap.size w wx → Calls Try.prog 60 #[.slice a R.text.length cap, .int .i64 R.loc, .agg #[.int .i64 M.1, .int .i64 c, .int .i64 M.2.1]] wx fun q w' => RangePost X wx q w') := fun wx hx => by rw [← hX]; exact range_go _ R.text R.loc c M.1 M.2.1 wx (h.below hx).1 (fun x y hg => goes_in2 hg)
  clear hX
  have HE0 : Hid (M.2.2 = 0) := he0
  clear he0
  have hvs : vs.length = 27 := hr.len
  have HT : Hid (∀ wx, Below w.heap.size w wx → Av wx (fun b => P b ∧ b < w.heap.size) (.slice a R.text.length cap) R.text) := fun wx hx => (h.both (av_arg h.1)).below hx
  have HRg : Hid (∀ wx, Below w.heap.size w wx → AvR wx (fun b => P b ∧ b < w.heap.size) vs R.regs) := fun wx hx => (hr.both (avR_arg hr.1)).below hx
  have HP : Hid (∀ b, w.heap.size ≤ b → P b) := hP
  have HS : Hid (AllSl vs) := hr.1.1
  clear h hr hP
  go_enter Try.func48, Try.ntmps48
  go_wp2_with (refine boxC rfl 43 _ rfl (resL (.slice a R.text.length cap) R.loc vs R.fk R.fa R.mode (.slice none 0 0)) rfl ?_)
  intro w1 ha hb
  have HB_w1 : Hid (Below w.heap.size w w1) := hb
  have A_w1 : Hid (BoxC w1 43 w.heap.size (resL (.slice a R.text.length cap) R.loc vs R.fk R.fa R.mode (.slice none 0 0))) := ha
  clear ha hb
  go_wp2_with (refine boxC rfl 38 _ rfl [.int .i64 c, .int .i64 r, .int .i64 o, .int .i64 v, .int .i64 g] rfl ?_)
  intro w2 ha hb
  have HLGC : Hid (w.heap.size ≤ w1.heap.size ∧ w.heap.size < w1.heap.size) := ⟨HB_w1.out.size, A_w1.out.lt⟩
  have HB_w2 : Hid (Below w.heap.size w w2) := below_trans HB_w1.out hb HB_w1.out.size
  have A_w2 : Hid (BoxC w2 43 w.heap.size (resL (.slice a R.text.length cap) R.loc vs R.fk R.fa R.mode (.slice none 0 0))) := A_w1.out.below hb
  clear A_w1 HB_w1
  have C_w2 : Hid (BoxC w2 38 w1.heap.size [.int .i64 c, .int .i64 r, .int .i64 o, .int .i64 v, .int .i64 g]) := ha
  clear ha hb
  generalize w1.heap.size = GC at *
  go_wp2_with (first | (refine loadP rfl 43 24 _ rfl w.heap.size 0 rfl (resL (.slice a R.text.length cap) R.loc vs R.fk R.fa R.mode (.slice none 0 0)) [.slice a R.text.length cap, .int .i64 R.loc] A_w2.out wide_line (fun j v hv => by rcases j with _ | _ | j <;> first | exact hv | (simp at hv)) ?_) | (refine allocC rfl 24 rfl [.slice none 0 0, .int .i64 0] (by kernel_rfl) ?_))
  intro w3 ha hb
  have HLGL : Hid (w.heap.size ≤ w2.heap.size ∧ w.heap.size < w2.heap.size ∧ GC < w2.heap.size) := ⟨HB_w2.out.size, A_w2.out.lt, C_w2.out.lt⟩
  have HB_w3 : Hid (Below w.heap.size w w3) := below_trans HB_w2.out hb HB_w2.out.size
  have A_w3 : Hid (BoxC w3 43 w.heap.size (resL (.slice a R.text.length cap) R.loc vs R.fk R.fa R.mode (.slice none 0 0))) := A_w2.out.below hb
  have C_w3 : Hid (BoxC w3 38 GC [.int .i64 c, .int .i64 r, .int .i64 o, .int .i64 v, .int .i64 g]) := C_w2.out.below hb
  clear A_w2 C_w2 HB_w2
  have L_w3 : Hid (BoxC w3 24 w2.heap.size [.slice none 0 0, .int .i64 0]) := ha
  clear ha hb
  generalize w2.heap.size = GL at *
  go_wp2_with (refine storeC rfl 24 _ _ rfl GL rfl [.slice none 0 0, .int .i64 0] [.slice a R.text.length cap, .int .i64 R.loc] rfl L_w3.out wide_line (fun v hv => by simp at hv; rcases hv with rfl | rfl <;> rfl) rfl ?_)
  intro w4 hz hg
  have HB_w4 : Hid (Below w.heap.size w w4) := HB_w3.out.grown hg HB_w3.out.size (fun j hj => by cases hj; exact (by have := HLGL.out; omega))
  have A_w4 : Hid (BoxC w4 43 w.heap.size (resL (.slice a R.text.length cap) R.loc vs R.fk R.fa R.mode (.slice none 0 0))) := A_w3.out.kept hg (fun e => by have := HLGL.out; have := Option.some.inj e; omega)
  have C_w4 : Hid (BoxC w4 38 GC [.int .i64 c, .int .i64 r, .int .i64 o, .int .i64 v, .int .i64 g]) := C_w3.out.kept hg (fun e => by have := HLGL.out; have := HLGC.out; have := Option.some.inj e; omega)
  clear A_w3 C_w3 L_w3 HB_w3
  have L_w4 : Hid (BoxC w4 24 GL [.slice a R.text.length cap, .int .i64 R.loc]) := hz
  clear hz hg
  have a0 : w4.cell? ⟨w.heap.size, 0, none⟩ = some (.slice a R.text.length cap) := (A_w4.out.cell 0).trans resL_0
  have a1 : w4.cell? ⟨w.heap.size, 1, none⟩ = some (.int .i64 R.loc) := (A_w4.out.cell 1).trans resL_1
  have a29 : w4.cell? ⟨w.heap.size, 29, none⟩ = some (.int .i64 R.fk) := (A_w4.out.cell 29).trans (resL_end (by assumption) 0)
  have a30 : w4.cell? ⟨w.heap.size, 30, none⟩ = some (.int .i64 R.fa) := (A_w4.out.cell 30).trans (resL_end (by assumption) 1)
  have cC0 : w4.cell? ⟨GC, 0, none⟩ = some (.int .i64 c) := (C_w4.out.cell 0).trans rfl
  have cC1 : w4.cell? ⟨GC, 1, none⟩ = some (.int .i64 r) := (C_w4.out.cell 1).trans rfl
  have cC2 : w4.cell? ⟨GC, 2, none⟩ = some (.int .i64 o) := (C_w4.out.cell 2).trans rfl
  have cC3 : w4.cell? ⟨GC, 3, none⟩ = some (.int .i64 v) := (C_w4.out.cell 3).trans rfl
  have cC4 : w4.cell? ⟨GC, 4, none⟩ = some (.int .i64 g) := (C_w4.out.cell 4).trans rfl
  have cL0 : w4.cell? ⟨GL, 0, none⟩ = some (.slice a R.text.length cap) := (L_w4.out.cell 0).trans rfl
  have cL1 : w4.cell? ⟨GL, 1, none⟩ = some (.int .i64 R.loc) := (L_w4.out.cell 1).trans rfl
  go_wp2_with (fail)
  refine (HM.out _).mono ?_
  rintro q w6 ⟨hb6, cc, hcc, rfl⟩
  clear a0 a1 a29 a30 cC0 cC1 cC2 cC3 cC4 cL0 cL1
  have HB_w6 : Hid (Below w.heap.size w w6) := below_trans HB_w4.out hb6 HB_w4.out.size
  have A_w6 : Hid (BoxC w6 43 w.heap.size (resL (.slice a R.text.length cap) R.loc vs R.fk R.fa R.mode (.slice none 0 0))) := A_w4.out.below hb6
  have C_w6 : Hid (BoxC w6 38 GC [.int .i64 c, .int .i64 r, .int .i64 o, .int .i64 v, .int .i64 g]) := C_w4.out.below hb6
  have L_w6 : Hid (BoxC w6 24 GL [.slice a R.text.length cap, .int .i64 R.loc]) := L_w4.out.below hb6
  clear A_w4 C_w4 L_w4 HB_w4
  clear hb6
  obtain rfl := hcc HE0.out
  rw [HE0.out]
  clear C_w6
  go_wp2_with (refine allocC rfl 99 rfl [.int .i64 0, .int .i64 0, .int .i64 0] (by kernel_rfl) ?_)
  intro w7 ha hb
  have HLGM : Hid (w.heap.size ≤ w6.heap.size ∧ w.heap.size < w6.heap.size ∧ GL < w6.heap.size) := ⟨HB_w6.out.size, A_w6.out.lt, L_w6.out.lt⟩
  have HB_w7 : Hid (Below w.heap.size w w7) := below_trans HB_w6.out hb HB_w6.out.size
  have A_w7 : Hid (BoxC w7 43 w.heap.size (resL (.slice a R.text.length cap) R.loc vs R.fk R.fa R.mode (.slice none 0 0))) := A_w6.out.below hb
  have L_w7 : Hid (BoxC w7 24 GL [.slice a R.text.length cap, .int .i64 R.loc]) := L_w6.out.below hb
  clear A_w6 L_w6 HB_w6
  have M_w7 : Hid (BoxC w7 99 w6.heap.size [.int .i64 0, .int .i64 0, .int .i64 0]) := ha
  clear ha hb
  generalize w6.heap.size = GM at *
  go_wp2_with (refine storeC rfl 99 _ _ rfl GM rfl [.int .i64 0, .int .i64 0, .int .i64 0] [.int .i64 M.1, .int .i64 cc, .int .i64 M.2.1] rfl M_w7.out wide_move (fun v hv => by simp at hv; rcases hv with rfl | rfl | rfl <;> rfl) rfl ?_)
  intro w8 hz hg
  have HB_w8 : Hid (Below w.heap.size w w8) := HB_w7.out.grown hg HB_w7.out.size (fun j hj => by cases hj; exact (by have := HLGM.out; omega))
  have A_w8 : Hid (BoxC w8 43 w.heap.size (resL (.slice a R.text.length cap) R.loc vs R.fk R.fa R.mode (.slice none 0 0))) := A_w7.out.kept hg (fun e => by have := HLGM.out; have := Option.some.inj e; omega)
  have L_w8 : Hid (BoxC w8 24 GL [.slice a R.text.length cap, .int .i64 R.loc]) := L_w7.out.kept hg (fun e => by have := HLGM.out; have := HLGL.out; have := Option.some.inj e; omega)
  clear A_w7 L_w7 M_w7 HB_w7
  have M_w8 : Hid (BoxC w8 99 GM [.int .i64 M.1, .int .i64 cc, .int .i64 M.2.1]) := hz
  clear hz hg
  have cL0 : w8.cell? ⟨GL, 0, none⟩ = some (.slice a R.text.length cap) := (L_w8.out.cell 0).trans rfl
  have cL1 : w8.cell? ⟨GL, 1, none⟩ = some (.int .i64 R.loc) := (L_w8.out.cell 1).trans rfl
  have cM0 : w8.cell? ⟨GM, 0, none⟩ = some (.int .i64 M.1) := (M_w8.out.cell 0).trans rfl
  have cM1 : w8.cell? ⟨GM, 1, none⟩ = some (.int .i64 cc) := (M_w8.out.cell 1).trans rfl
  have cM2 : w8.cell? ⟨GM, 2, none⟩ = some (.int .i64 M.2.1) := (M_w8.out.cell 2).trans rfl
  go_wp2_with (fail)
  refine (HX.out _ HB_w8.out).mono ?_
  rintro q w9 ⟨rfl, hb9⟩
  clear cL0 cL1 cM0 cM1 cM2
  have HB_w9 : Hid (Below w.heap.size w w9) := below_trans HB_w8.out hb9 HB_w8.out.size
  have A_w9 : Hid (BoxC w9 43 w.heap.size (resL (.slice a R.text.length cap) R.loc vs R.fk R.fa R.mode (.slice none 0 0))) := A_w8.out.below hb9
  have L_w9 : Hid (BoxC w9 24 GL [.slice a R.text.length cap, .int .i64 R.loc]) := L_w8.out.below hb9
  have M_w9 : Hid (BoxC w9 99 GM [.int .i64 M.1, .int .i64 cc, .int .i64 M.2.1]) := M_w8.out.below hb9
  clear A_w8 L_w8 M_w8 HB_w8
  clear hb9
  go_wp2_with (fail)
  go_ret3
  exact ⟨rfl, HB_w9.out⟩

theorem span_go (a : Option Addr) (cap : Nat) (vs : List Value) (R : Res) (c r o v g : Int) (w : World) (P : Nat → Prop) (hP : ∀ b, w.heap.size ≤ b → P b) (h : Av w P (.slice a R.text.length cap) R.text) (hr : AvR w P vs R.regs) (hz : R.text.length ≤ 200) :
    Calls Try.prog 48 #[.agg (resL (.slice a R.text.length cap) R.loc vs R.fk R.fa R.mode (.slice none 0 0)).toArray, .agg #[.int .i64 c, .int .i64 r, .int .i64 o, .int .i64 v, .int .i64 g]] w fun q w' => RangePost (spn R c o v g) w q w' := by
  unfold spn
  by_cases hv : v = o
  · subst hv
    rw [if_pos rfl]
    exact span_all a cap vs R c r v g w P hP h hr hz
  · rw [if_neg hv]
    by_cases h1 : v = 105
    · subst h1
      rw [if_pos (.inl rfl)]
      exact span_in a cap vs R c r o g w P hP h hr hz (by simpa using hv) _ rfl
    · by_cases h2 : v = 97
      · subst h2
        rw [if_pos (.inr rfl)]
        exact span_ar a cap vs R c r o g w P hP h hr hz (by simpa using hv) _ rfl
      · rw [if_neg (by rintro (h | h); exact h1 h; exact h2 h)]
        by_cases he : (mot v g R.fk R.fa).2.2 = 0
        · rw [if_neg (by rw [he]; decide)]
          exact span_ok a cap vs R c r o v g w P hP h hr hz (by simpa using hv) (by simpa using h1) (by simpa using h2) _ rfl he _ rfl
        · rw [if_pos he]
          exact span_bad a cap vs R c r o v g w P hP h hr hz (by simpa using hv) (by simpa using h1) (by simpa using h2) _ rfl he
end Go.Proofs.Ytpgjaoemkadenab.Seek

/- Where a span lies; a piece of a list. -/
set_option linter.unusedVariables false
set_option linter.unusedSimpArgs false
set_option maxRecDepth 100000
namespace Go.Proofs.Ytpgjaoemkadenab.Seek
open Go.RowKit Plain
theorem thing_in (zs : List Int) (k : Int) (ar : Bool) (key : Int) : (thing zs k ar key).2.2 ≠ 0 ∨ ∃ f t : Nat, thing zs k ar key = ((f : Int), (t : Int), 0) ∧ f ≤ t ∧ t ≤ zs.length := by
  rcases thing_cases zs k key with ⟨e, he, h1, h2⟩ | ⟨_, hl, j, A, Z, C, D, rfl, h1, h2, g1, g2, g3, g4, g5, _⟩ | ⟨_, hl, j, p, z, rfl, h1, h2, g1, g2, g3⟩
  · cases ar
    · rw [h1]; exact .inl he
    · rw [h2]; exact .inl he
  · cases ar
    · exact .inr ⟨A, Z, h1, by omega, by omega⟩
    · exact .inr ⟨C, D, h2, by omega, by omega⟩
  · cases ar
    · exact .inr ⟨p + 1, z, by rw [h1]; rfl, by omega, by omega⟩
    · exact .inr ⟨p, z + 1, by rw [h2]; rfl, by omega, by omega⟩
theorem spn_in (R : Res) (c o v g : Int) : (spn R c o v g).2.2 ≠ 0 ∨ ∃ f t : Nat, spn R c o v g = ((f : Int), (t : Int), 0) ∧ f ≤ t ∧ t ≤ R.text.length := by
  unfold spn
  by_cases h1 : v = o
  · rw [if_pos h1]
    exact .inr ⟨0, R.text.length, rfl, Nat.zero_le _, Nat.le_refl _⟩
  · rw [if_neg h1]
    by_cases h2 : v = 105 ∨ v = 97
    · rw [if_pos h2]
      exact thing_in _ _ _ _
    · rw [if_neg h2]
      by_cases h3 : (mot v g R.fk R.fa).2.2 ≠ 0
      · rw [if_pos h3]
        exact .inl h3
      · rw [if_neg h3]
        rcases ranges_in R.text R.loc c (mot v g R.fk R.fa).1 (mot v g R.fk R.fa).2.1 with ⟨h, _⟩ | ⟨h, g1, g2, g3, g4⟩
        · exact .inl h
        · obtain ⟨X, hX⟩ : ∃ X, X = ranges R.text R.loc c (mot v g R.fk R.fa).1 (mot v g R.fk R.fa).2.1 := ⟨_, rfl⟩
          rw [← hX] at h g1 g2 g3 g4 ⊢
          obtain ⟨x, y, z⟩ := X
          refine .inr ⟨x.toNat, y.toNat, ?_, ?_, ?_⟩
          · simp only at h g1 g2 g3 g4
            rw [h, Int.toNat_of_nonneg g1, Int.toNat_of_nonneg (by omega)]
          · simp only at h g1 g2 g3 g4; omega
          · simp only at h g1 g2 g3 g4; omega
theorem reads_piece {w : World} {a : Option Addr} {zs : List Int} {cap : Nat} (h : Reads w (.slice a zs.length cap) zs) (f t : Nat) (h1 : f ≤ t) (h2 : t ≤ zs.length) :
    Reads w (.slice (if cap = f then a else Option.map (fun x => x.add f) a) (t - f) (cap - f)) ((zs.drop f).take (t - f)) ∧ t ≤ cap := by
  obtain ⟨_, hr, hle⟩ := reads_cut h f f (Nat.le_refl _) (by omega)
  have hd : (zs.drop f).length = zs.length - f := List.length_drop
  rw [← hd] at hr
  obtain ⟨hl, _, _⟩ := reads_cut hr (t - f) (t - f) (Nat.le_refl _) (by omega)
  exact ⟨hl, by omega⟩
end Go.Proofs.Ytpgjaoemkadenab.Seek
