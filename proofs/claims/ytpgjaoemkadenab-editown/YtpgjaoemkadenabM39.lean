/- The contract of edit.done. -/
import Derived.Test.YtpgjaoemkadenabM35
import Derived.Test.YtpgjaoemkadenabM36
import Derived.Test.YtpgjaoemkadenabM38
import Derived.Test.YtpgjaoemkadenabM31
set_option linter.unusedVariables false
set_option linter.unusedSimpArgs false
set_option maxRecDepth 100000
namespace Go.Proofs.Ytpgjaoemkadenab.Seek
open Go.RowKit Plain


set_option maxHeartbeats 2000000 in
theorem dn_op (a : Option Addr) (cap : Nat) (vs : List Value) (R : Res) (c r o v g : Int) (w : World) (P : Nat → Prop) (hP : ∀ b, w.heap.size ≤ b → P b) (h : Av w P (.slice a R.text.length cap) R.text) (hr : AvR w P vs R.regs) (hk0 : 0 ≤ R.loc) (hkl : R.loc ≤ lastP R.text.length) (hz : R.text.length ≤ 200) (ho : o = 100 ∨ o = 99 ∨ o = 121) (X : Res × Int) (hX : opd R c r o v g = X) :
    Calls Try.prog 24 #[.agg (resL (.slice a R.text.length cap) R.loc vs R.fk R.fa R.mode (.slice none 0 0)).toArray, .agg #[.int .i64 c, .int .i64 r, .int .i64 o, .int .i64 v, .int .i64 g]] w fun q w' => DonePost P X w q w' := by
  have hlp : lastP R.text.length = ((R.text.length - 1 : Nat) : Int) := rfl
  have HXC : Hid (∀ wx, Below w.heap.size w wx → ∀ G, G < wx.heap.size → w.heap.size ≤ G → Calls Try.prog 37 #[.agg (resL (.slice a R.text.length cap) R.loc vs R.fk R.fa R.mode (.slice none 0 0)).toArray, .agg #[.int .i64 c, .int .i64 r, .int .i64 o, .int .i64 v, .int .i64 g]] wx fun q w' => DonePost (fun b => P b ∧ b ≠ G) X wx q w') := fun wx hx G hG hGl => by
    rw [← hX]
    exact operated_go a cap vs R c r o v g wx _ (fun b hb => ⟨hP b (Nat.le_trans hx.size hb), by omega⟩) (((h.both (av_arg h.1)).below hx).weak (fun b hb => ⟨hb.1, by omega⟩)) (((hr.both (avR_arg hr.1)).below hx).weak (fun b hb => ⟨hb.1, by omega⟩)) hz ho
  clear hX hlp
  have hb1 : (o != 0) = true := by simp; omega
  have hvs : vs.length = 27 := hr.len
  have HT : Hid (∀ wx, Below w.heap.size w wx → Av wx (fun b => P b ∧ b < w.heap.size) (.slice a R.text.length cap) R.text) := fun wx hx => (h.both (av_arg h.1)).below hx
  have HRg : Hid (∀ wx, Below w.heap.size w wx → AvR wx (fun b => P b ∧ b < w.heap.size) vs R.regs) := fun wx hx => (hr.both (avR_arg hr.1)).below hx
  have HP : Hid (∀ b, w.heap.size ≤ b → P b) := hP
  have HS : Hid (AllSl vs) := hr.1.1
  clear h hr hP
  go_enter Try.func24, Try.ntmps24
  go_wp2_with (refine boxC rfl 43 _ rfl (resL (.slice a R.text.length cap) R.loc vs R.fk R.fa R.mode (.slice none 0 0)) rfl ?_)
  intro w1 ha hb
  have HB_w1 : Hid (Below w.heap.size w w1) := hb
  have A_w1 : Hid (BoxC w1 43 w.heap.size (resL (.slice a R.text.length cap) R.loc vs R.fk R.fa R.mode (.slice none 0 0))) := ha
  clear ha hb
  go_wp2_with (refine boxC rfl 38 _ rfl [.int .i64 c, .int .i64 r, .int .i64 o, .int .i64 v, .int .i64 g] rfl ?_)
  intro w2 ha hb
  have HLGC : Hid (w.heap.size ≤ w1.heap.size ∧ w.heap.size < w1.heap.size) := ⟨HB_w1.out.size, A_w1.out.lt⟩
  have HB_w2 : Hid (Below w.heap.size w w2) := below_trans HB_w1.out hb HB_w1.out.size
  have A_w2 : Hid (BoxC w2 43 w.heap.size (resL (.slice a R.text.length cap) R.loc vs R.fk R.fa R.mode (.slice none 0 0))) := A_w1.out.below hb
  clear A_w1 HB_w1
  have C_w2 : Hid (BoxC w2 38 w1.heap.size [.int .i64 c, .int .i64 r, .int .i64 o, .int .i64 v, .int .i64 g]) := ha
  clear ha hb
  generalize w1.heap.size = GC at *
  go_wp2_with (refine allocC rfl 43 rfl nulL nul_zero ?_)
  intro w3 ha hb
  have HLGZ : Hid (w.heap.size ≤ w2.heap.size ∧ w.heap.size < w2.heap.size ∧ GC < w2.heap.size) := ⟨HB_w2.out.size, A_w2.out.lt, C_w2.out.lt⟩
  have HB_w3 : Hid (Below w.heap.size w w3) := below_trans HB_w2.out hb HB_w2.out.size
  have A_w3 : Hid (BoxC w3 43 w.heap.size (resL (.slice a R.text.length cap) R.loc vs R.fk R.fa R.mode (.slice none 0 0))) := A_w2.out.below hb
  have C_w3 : Hid (BoxC w3 38 GC [.int .i64 c, .int .i64 r, .int .i64 o, .int .i64 v, .int .i64 g]) := C_w2.out.below hb
  clear A_w2 C_w2 HB_w2
  have Z_w3 : Hid (BoxC w3 43 w2.heap.size nulL) := ha
  clear ha hb
  generalize w2.heap.size = GZ at *
  have cC0 : w3.cell? ⟨GC, 0, none⟩ = some (.int .i64 c) := (C_w3.out.cell 0).trans rfl
  have cC1 : w3.cell? ⟨GC, 1, none⟩ = some (.int .i64 r) := (C_w3.out.cell 1).trans rfl
  have cC2 : w3.cell? ⟨GC, 2, none⟩ = some (.int .i64 o) := (C_w3.out.cell 2).trans rfl
  have cC3 : w3.cell? ⟨GC, 3, none⟩ = some (.int .i64 v) := (C_w3.out.cell 3).trans rfl
  have cC4 : w3.cell? ⟨GC, 4, none⟩ = some (.int .i64 g) := (C_w3.out.cell 4).trans rfl
  go_wp2_with ((refine loadC rfl 43 _ rfl w.heap.size rfl (resL (.slice a R.text.length cap) R.loc vs R.fk R.fa R.mode (.slice none 0 0)) A_w3.out (by rw [resL_len (by assumption)]; exact wide_res) ?_))
  refine (HXC.out _ HB_w3.out GZ Z_w3.out.lt (by have := HLGZ.out; omega)).mono ?_
  rintro q w9 ⟨hb9, x9, R9, rfl, ⟨a9, c9, vs9, rfl, ht9, hr9⟩, hR9⟩
  clear cC0 cC1 cC2 cC3 cC4
  have HR9 : Hid (X.2 = 0 → R9 = X.1) := hR9
  clear hR9
  have HB_w9 : Hid (Below w.heap.size w w9) := below_trans HB_w3.out hb9 HB_w3.out.size
  have A_w9 : Hid (BoxC w9 43 w.heap.size (resL (.slice a R.text.length cap) R.loc vs R.fk R.fa R.mode (.slice none 0 0))) := A_w3.out.below hb9
  have C_w9 : Hid (BoxC w9 38 GC [.int .i64 c, .int .i64 r, .int .i64 o, .int .i64 v, .int .i64 g]) := C_w3.out.below hb9
  have Z_w9 : Hid (BoxC w9 43 GZ nulL) := Z_w3.out.below hb9
  clear A_w3 C_w3 Z_w3 HB_w3
  clear hb9
  have hv9 : vs9.length = 27 := hr9.len
  have HS9 : Hid (AllSl vs9) := hr9.1.1
  have T9_w9 : Hid (Av w9 (fun b => P b ∧ b ≠ GZ) (.slice a9 R9.text.length c9) R9.text) := ht9
  have R9_w9 : Hid (AvR w9 (fun b => P b ∧ b ≠ GZ) vs9 R9.regs) := hr9
  clear ht9 hr9
  go_wp2_with (refine storeC rfl 43 _ _ rfl GZ rfl nulL (resL (.slice a9 R9.text.length c9) R9.loc vs9 R9.fk R9.fa R9.mode (.slice none 0 0)) rfl Z_w9.out (by rw [resL_len hv9]; exact wide_res) (resL_one HS9.out rfl rfl) (by rw [nul_len, resL_len hv9]) ?_)
  intro w10 hz hg
  have HB_w10 : Hid (Below w.heap.size w w10) := HB_w9.out.grown hg HB_w9.out.size (fun j hj => by cases hj; exact (by have := HLGZ.out; omega))
  have A_w10 : Hid (BoxC w10 43 w.heap.size (resL (.slice a R.text.length cap) R.loc vs R.fk R.fa R.mode (.slice none 0 0))) := A_w9.out.kept hg (fun e => by have := HLGZ.out; have := Option.some.inj e; omega)
  have C_w10 : Hid (BoxC w10 38 GC [.int .i64 c, .int .i64 r, .int .i64 o, .int .i64 v, .int .i64 g]) := C_w9.out.kept hg (fun e => by have := HLGZ.out; have := HLGC.out; have := Option.some.inj e; omega)
  have T9_w10 : Hid (Av w10 (fun b => P b ∧ b ≠ GZ) (.slice a9 R9.text.length c9) R9.text) := T9_w9.out.stored hg (fun h => h.2 rfl)
  have R9_w10 : Hid (AvR w10 (fun b => P b ∧ b ≠ GZ) vs9 R9.regs) := R9_w9.out.stored hg (fun h => h.2 rfl)
  clear A_w9 C_w9 Z_w9 T9_w9 R9_w9 HB_w9
  have Z_w10 : Hid (BoxC w10 43 GZ (resL (.slice a9 R9.text.length c9) R9.loc vs9 R9.fk R9.fa R9.mode (.slice none 0 0))) := hz
  clear hz hg
  go_wp2_with (fail)
  (try simp only [Exit.inBlock, Exit.then])
  refine bodyPost_ret (ret_box rfl _ _ GZ (resL (.slice a9 R9.text.length c9) R9.loc vs9 R9.fk R9.fa R9.mode (.slice none 0 0)) _ rfl rfl Z_w10.out (by rw [resL_len hv9]; exact wide_res)) rfl ?_
  exact ⟨HB_w10.out, _, R9, rfl, ⟨a9, c9, vs9, rfl, T9_w10.out.weak (fun b hb => hb.1), R9_w10.out.weak (fun b hb => hb.1)⟩, HR9.out⟩

set_option maxHeartbeats 2000000 in
theorem dn_p (a : Option Addr) (cap : Nat) (vs : List Value) (R : Res) (c r g : Int) (w : World) (P : Nat → Prop) (hP : ∀ b, w.heap.size ≤ b → P b) (h : Av w P (.slice a R.text.length cap) R.text) (hr : AvR w P vs R.regs) (hk0 : 0 ≤ R.loc) (hkl : R.loc ≤ lastP R.text.length) (hz : R.text.length ≤ 200) (N : Nat) (hmx : max c 1 = (N : Int)) (hN : N ≤ 999) (X : Res × Int) (hX : pst R r N true = X) :
    Calls Try.prog 24 #[.agg (resL (.slice a R.text.length cap) R.loc vs R.fk R.fa R.mode (.slice none 0 0)).toArray, .agg #[.int .i64 c, .int .i64 r, .int .i64 0, .int .i64 112, .int .i64 g]] w fun q w' => DonePost P X w q w' := by
  have hlp : lastP R.text.length = ((R.text.length - 1 : Nat) : Int) := rfl
  have HXC : Hid (∀ wx, Below w.heap.size w wx → ∀ G, G < wx.heap.size → w.heap.size ≤ G → Calls Try.prog 38 #[.agg (resL (.slice a R.text.length cap) R.loc vs R.fk R.fa R.mode (.slice none 0 0)).toArray, .int .i64 r, .int .i64 (N : Int), .bool true] wx fun q w' => DonePost (fun b => P b ∧ b ≠ G) X wx q w') := fun wx hx G hG hGl => by
    rw [← hX]
    exact laid_go a cap vs R wx _ (fun b hb => ⟨hP b (Nat.le_trans hx.size hb), by omega⟩) (((h.both (av_arg h.1)).below hx).weak (fun b hb => ⟨hb.1, by omega⟩)) (((hr.both (avR_arg hr.1)).below hx).weak (fun b hb => ⟨hb.1, by omega⟩)) N r true hk0 (by omega) hkl hN hz
  clear hX hlp
  have hvs : vs.length = 27 := hr.len
  have HT : Hid (∀ wx, Below w.heap.size w wx → Av wx (fun b => P b ∧ b < w.heap.size) (.slice a R.text.length cap) R.text) := fun wx hx => (h.both (av_arg h.1)).below hx
  have HRg : Hid (∀ wx, Below w.heap.size w wx → AvR wx (fun b => P b ∧ b < w.heap.size) vs R.regs) := fun wx hx => (hr.both (avR_arg hr.1)).below hx
  have HP : Hid (∀ b, w.heap.size ≤ b → P b) := hP
  have HS : Hid (AllSl vs) := hr.1.1
  clear h hr hP
  go_enter Try.func24, Try.ntmps24
  go_wp2_with (refine boxC rfl 43 _ rfl (resL (.slice a R.text.length cap) R.loc vs R.fk R.fa R.mode (.slice none 0 0)) rfl ?_)
  intro w1 ha hb
  have HB_w1 : Hid (Below w.heap.size w w1) := hb
  have A_w1 : Hid (BoxC w1 43 w.heap.size (resL (.slice a R.text.length cap) R.loc vs R.fk R.fa R.mode (.slice none 0 0))) := ha
  clear ha hb
  go_wp2_with (refine boxC rfl 38 _ rfl [.int .i64 c, .int .i64 r, .int .i64 0, .int .i64 112, .int .i64 g] rfl ?_)
  intro w2 ha hb
  have HLGC : Hid (w.heap.size ≤ w1.heap.size ∧ w.heap.size < w1.heap.size) := ⟨HB_w1.out.size, A_w1.out.lt⟩
  have HB_w2 : Hid (Below w.heap.size w w2) := below_trans HB_w1.out hb HB_w1.out.size
  have A_w2 : Hid (BoxC w2 43 w.heap.size (resL (.slice a R.text.length cap) R.loc vs R.fk R.fa R.mode (.slice none 0 0))) := A_w1.out.below hb
  clear A_w1 HB_w1
  have C_w2 : Hid (BoxC w2 38 w1.heap.size [.int .i64 c, .int .i64 r, .int .i64 0, .int .i64 112, .int .i64 g]) := ha
  clear ha hb
  generalize w1.heap.size = GC at *
  go_wp2_with (refine allocC rfl 43 rfl nulL nul_zero ?_)
  intro w3 ha hb
  have HLGZ : Hid (w.heap.size ≤ w2.heap.size ∧ w.heap.size < w2.heap.size ∧ GC < w2.heap.size) := ⟨HB_w2.out.size, A_w2.out.lt, C_w2.out.lt⟩
  have HB_w3 : Hid (Below w.heap.size w w3) := below_trans HB_w2.out hb HB_w2.out.size
  have A_w3 : Hid (BoxC w3 43 w.heap.size (resL (.slice a R.text.length cap) R.loc vs R.fk R.fa R.mode (.slice none 0 0))) := A_w2.out.below hb
  have C_w3 : Hid (BoxC w3 38 GC [.int .i64 c, .int .i64 r, .int .i64 0, .int .i64 112, .int .i64 g]) := C_w2.out.below hb
  clear A_w2 C_w2 HB_w2
  have Z_w3 : Hid (BoxC w3 43 w2.heap.size nulL) := ha
  clear ha hb
  generalize w2.heap.size = GZ at *
  have cC0 : w3.cell? ⟨GC, 0, none⟩ = some (.int .i64 c) := (C_w3.out.cell 0).trans rfl
  have cC1 : w3.cell? ⟨GC, 1, none⟩ = some (.int .i64 r) := (C_w3.out.cell 1).trans rfl
  have cC2 : w3.cell? ⟨GC, 2, none⟩ = some (.int .i64 0) := (C_w3.out.cell 2).trans rfl
  have cC3 : w3.cell? ⟨GC, 3, none⟩ = some (.int .i64 112) := (C_w3.out.cell 3).trans rfl
  have cC4 : w3.cell? ⟨GC, 4, none⟩ = some (.int .i64 g) := (C_w3.out.cell 4).trans rfl
  go_wp2_with ((refine loadC rfl 43 _ rfl w.heap.size rfl (resL (.slice a R.text.length cap) R.loc vs R.fk R.fa R.mode (.slice none 0 0)) A_w3.out (by rw [resL_len (by assumption)]; exact wide_res) ?_))
  refine (HXC.out _ HB_w3.out GZ Z_w3.out.lt (by have := HLGZ.out; omega)).mono ?_
  rintro q w9 ⟨hb9, x9, R9, rfl, ⟨a9, c9, vs9, rfl, ht9, hr9⟩, hR9⟩
  clear cC0 cC1 cC2 cC3 cC4
  have HR9 : Hid (X.2 = 0 → R9 = X.1) := hR9
  clear hR9
  have HB_w9 : Hid (Below w.heap.size w w9) := below_trans HB_w3.out hb9 HB_w3.out.size
  have A_w9 : Hid (BoxC w9 43 w.heap.size (resL (.slice a R.text.length cap) R.loc vs R.fk R.fa R.mode (.slice none 0 0))) := A_w3.out.below hb9
  have C_w9 : Hid (BoxC w9 38 GC [.int .i64 c, .int .i64 r, .int .i64 0, .int .i64 112, .int .i64 g]) := C_w3.out.below hb9
  have Z_w9 : Hid (BoxC w9 43 GZ nulL) := Z_w3.out.below hb9
  clear A_w3 C_w3 Z_w3 HB_w3
  clear hb9
  have hv9 : vs9.length = 27 := hr9.len
  have HS9 : Hid (AllSl vs9) := hr9.1.1
  have T9_w9 : Hid (Av w9 (fun b => P b ∧ b ≠ GZ) (.slice a9 R9.text.length c9) R9.text) := ht9
  have R9_w9 : Hid (AvR w9 (fun b => P b ∧ b ≠ GZ) vs9 R9.regs) := hr9
  clear ht9 hr9
  go_wp2_with (refine storeC rfl 43 _ _ rfl GZ rfl nulL (resL (.slice a9 R9.text.length c9) R9.loc vs9 R9.fk R9.fa R9.mode (.slice none 0 0)) rfl Z_w9.out (by rw [resL_len hv9]; exact wide_res) (resL_one HS9.out rfl rfl) (by rw [nul_len, resL_len hv9]) ?_)
  intro w10 hz hg
  have HB_w10 : Hid (Below w.heap.size w w10) := HB_w9.out.grown hg HB_w9.out.size (fun j hj => by cases hj; exact (by have := HLGZ.out; omega))
  have A_w10 : Hid (BoxC w10 43 w.heap.size (resL (.slice a R.text.length cap) R.loc vs R.fk R.fa R.mode (.slice none 0 0))) := A_w9.out.kept hg (fun e => by have := HLGZ.out; have := Option.some.inj e; omega)
  have C_w10 : Hid (BoxC w10 38 GC [.int .i64 c, .int .i64 r, .int .i64 0, .int .i64 112, .int .i64 g]) := C_w9.out.kept hg (fun e => by have := HLGZ.out; have := HLGC.out; have := Option.some.inj e; omega)
  have T9_w10 : Hid (Av w10 (fun b => P b ∧ b ≠ GZ) (.slice a9 R9.text.length c9) R9.text) := T9_w9.out.stored hg (fun h => h.2 rfl)
  have R9_w10 : Hid (AvR w10 (fun b => P b ∧ b ≠ GZ) vs9 R9.regs) := R9_w9.out.stored hg (fun h => h.2 rfl)
  clear A_w9 C_w9 Z_w9 T9_w9 R9_w9 HB_w9
  have Z_w10 : Hid (BoxC w10 43 GZ (resL (.slice a9 R9.text.length c9) R9.loc vs9 R9.fk R9.fa R9.mode (.slice none 0 0))) := hz
  clear hz hg
  go_wp2_with (fail)
  (try simp only [Exit.inBlock, Exit.then])
  refine bodyPost_ret (ret_box rfl _ _ GZ (resL (.slice a9 R9.text.length c9) R9.loc vs9 R9.fk R9.fa R9.mode (.slice none 0 0)) _ rfl rfl Z_w10.out (by rw [resL_len hv9]; exact wide_res)) rfl ?_
  exact ⟨HB_w10.out, _, R9, rfl, ⟨a9, c9, vs9, rfl, T9_w10.out.weak (fun b hb => hb.1), R9_w10.out.weak (fun b hb => hb.1)⟩, HR9.out⟩

set_option maxHeartbeats 2000000 in
theorem dn_gP (a : Option Addr) (cap : Nat) (vs : List Value) (R : Res) (c r g : Int) (w : World) (P : Nat → Prop) (hP : ∀ b, w.heap.size ≤ b → P b) (h : Av w P (.slice a R.text.length cap) R.text) (hr : AvR w P vs R.regs) (hk0 : 0 ≤ R.loc) (hkl : R.loc ≤ lastP R.text.length) (hz : R.text.length ≤ 200) (N : Nat) (hmx : max c 1 = (N : Int)) (hN : N ≤ 999) (X : Res × Int) (hX : pst R r N false = X) :
    Calls Try.prog 24 #[.agg (resL (.slice a R.text.length cap) R.loc vs R.fk R.fa R.mode (.slice none 0 0)).toArray, .agg #[.int .i64 c, .int .i64 r, .int .i64 0, .int .i64 80, .int .i64 g]] w fun q w' => DonePost P X w q w' := by
  have hlp : lastP R.text.length = ((R.text.length - 1 : Nat) : Int) := rfl
  have HXC : Hid (∀ wx, Below w.heap.size w wx → ∀ G, G < wx.heap.size → w.heap.size ≤ G → Calls Try.prog 38 #[.agg (resL (.slice a R.text.length cap) R.loc vs R.fk R.fa R.mode (.slice none 0 0)).toArray, .int .i64 r, .int .i64 (N : Int), .bool false] wx fun q w' => DonePost (fun b => P b ∧ b ≠ G) X wx q w') := fun wx hx G hG hGl => by
    rw [← hX]
    exact laid_go a cap vs R wx _ (fun b hb => ⟨hP b (Nat.le_trans hx.size hb), by omega⟩) (((h.both (av_arg h.1)).below hx).weak (fun b hb => ⟨hb.1, by omega⟩)) (((hr.both (avR_arg hr.1)).below hx).weak (fun b hb => ⟨hb.1, by omega⟩)) N r false hk0 (by omega) hkl hN hz
  clear hX hlp
  have hvs : vs.length = 27 := hr.len
  have HT : Hid (∀ wx, Below w.heap.size w wx → Av wx (fun b => P b ∧ b < w.heap.size) (.slice a R.text.length cap) R.text) := fun wx hx => (h.both (av_arg h.1)).below hx
  have HRg : Hid (∀ wx, Below w.heap.size w wx → AvR wx (fun b => P b ∧ b < w.heap.size) vs R.regs) := fun wx hx => (hr.both (avR_arg hr.1)).below hx
  have HP : Hid (∀ b, w.heap.size ≤ b → P b) := hP
  have HS : Hid (AllSl vs) := hr.1.1
  clear h hr hP
  go_enter Try.func24, Try.ntmps24
  go_wp2_with (refine boxC rfl 43 _ rfl (resL (.slice a R.text.length cap) R.loc vs R.fk R.fa R.mode (.slice none 0 0)) rfl ?_)
  intro w1 ha hb
  have HB_w1 : Hid (Below w.heap.size w w1) := hb
  have A_w1 : Hid (BoxC w1 43 w.heap.size (resL (.slice a R.text.length cap) R.loc vs R.fk R.fa R.mode (.slice none 0 0))) := ha
  clear ha hb
  go_wp2_with (refine boxC rfl 38 _ rfl [.int .i64 c, .int .i64 r, .int .i64 0, .int .i64 80, .int .i64 g] rfl ?_)
  intro w2 ha hb
  have HLGC : Hid (w.heap.size ≤ w1.heap.size ∧ w.heap.size < w1.heap.size) := ⟨HB_w1.out.size, A_w1.out.lt⟩
  have HB_w2 : Hid (Below w.heap.size w w2) := below_trans HB_w1.out hb HB_w1.out.size
  have A_w2 : Hid (BoxC w2 43 w.heap.size (resL (.slice a R.text.length cap) R.loc vs R.fk R.fa R.mode (.slice none 0 0))) := A_w1.out.below hb
  clear A_w1 HB_w1
  have C_w2 : Hid (BoxC w2 38 w1.heap.size [.int .i64 c, .int .i64 r, .int .i64 0, .int .i64 80, .int .i64 g]) := ha
  clear ha hb
  generalize w1.heap.size = GC at *
  go_wp2_with (refine allocC rfl 43 rfl nulL nul_zero ?_)
  intro w3 ha hb
  have HLGZ : Hid (w.heap.size ≤ w2.heap.size ∧ w.heap.size < w2.heap.size ∧ GC < w2.heap.size) := ⟨HB_w2.out.size, A_w2.out.lt, C_w2.out.lt⟩
  have HB_w3 : Hid (Below w.heap.size w w3) := below_trans HB_w2.out hb HB_w2.out.size
  have A_w3 : Hid (BoxC w3 43 w.heap.size (resL (.slice a R.text.length cap) R.loc vs R.fk R.fa R.mode (.slice none 0 0))) := A_w2.out.below hb
  have C_w3 : Hid (BoxC w3 38 GC [.int .i64 c, .int .i64 r, .int .i64 0, .int .i64 80, .int .i64 g]) := C_w2.out.below hb
  clear A_w2 C_w2 HB_w2
  have Z_w3 : Hid (BoxC w3 43 w2.heap.size nulL) := ha
  clear ha hb
  generalize w2.heap.size = GZ at *
  have cC0 : w3.cell? ⟨GC, 0, none⟩ = some (.int .i64 c) := (C_w3.out.cell 0).trans rfl
  have cC1 : w3.cell? ⟨GC, 1, none⟩ = some (.int .i64 r) := (C_w3.out.cell 1).trans rfl
  have cC2 : w3.cell? ⟨GC, 2, none⟩ = some (.int .i64 0) := (C_w3.out.cell 2).trans rfl
  have cC3 : w3.cell? ⟨GC, 3, none⟩ = some (.int .i64 80) := (C_w3.out.cell 3).trans rfl
  have cC4 : w3.cell? ⟨GC, 4, none⟩ = some (.int .i64 g) := (C_w3.out.cell 4).trans rfl
  go_wp2_with ((refine loadC rfl 43 _ rfl w.heap.size rfl (resL (.slice a R.text.length cap) R.loc vs R.fk R.fa R.mode (.slice none 0 0)) A_w3.out (by rw [resL_len (by assumption)]; exact wide_res) ?_))
  refine (HXC.out _ HB_w3.out GZ Z_w3.out.lt (by have := HLGZ.out; omega)).mono ?_
  rintro q w9 ⟨hb9, x9, R9, rfl, ⟨a9, c9, vs9, rfl, ht9, hr9⟩, hR9⟩
  clear cC0 cC1 cC2 cC3 cC4
  have HR9 : Hid (X.2 = 0 → R9 = X.1) := hR9
  clear hR9
  have HB_w9 : Hid (Below w.heap.size w w9) := below_trans HB_w3.out hb9 HB_w3.out.size
  have A_w9 : Hid (BoxC w9 43 w.heap.size (resL (.slice a R.text.length cap) R.loc vs R.fk R.fa R.mode (.slice none 0 0))) := A_w3.out.below hb9
  have C_w9 : Hid (BoxC w9 38 GC [.int .i64 c, .int .i64 r, .int .i64 0, .int .i64 80, .int .i64 g]) := C_w3.out.below hb9
  have Z_w9 : Hid (BoxC w9 43 GZ nulL) := Z_w3.out.below hb9
  clear A_w3 C_w3 Z_w3 HB_w3
  clear hb9
  have hv9 : vs9.length = 27 := hr9.len
  have HS9 : Hid (AllSl vs9) := hr9.1.1
  have T9_w9 : Hid (Av w9 (fun b => P b ∧ b ≠ GZ) (.slice a9 R9.text.length c9) R9.text) := ht9
  have R9_w9 : Hid (AvR w9 (fun b => P b ∧ b ≠ GZ) vs9 R9.regs) := hr9
  clear ht9 hr9
  go_wp2_with (refine storeC rfl 43 _ _ rfl GZ rfl nulL (resL (.slice a9 R9.text.length c9) R9.loc vs9 R9.fk R9.fa R9.mode (.slice none 0 0)) rfl Z_w9.out (by rw [resL_len hv9]; exact wide_res) (resL_one HS9.out rfl rfl) (by rw [nul_len, resL_len hv9]) ?_)
  intro w10 hz hg
  have HB_w10 : Hid (Below w.heap.size w w10) := HB_w9.out.grown hg HB_w9.out.size (fun j hj => by cases hj; exact (by have := HLGZ.out; omega))
  have A_w10 : Hid (BoxC w10 43 w.heap.size (resL (.slice a R.text.length cap) R.loc vs R.fk R.fa R.mode (.slice none 0 0))) := A_w9.out.kept hg (fun e => by have := HLGZ.out; have := Option.some.inj e; omega)
  have C_w10 : Hid (BoxC w10 38 GC [.int .i64 c, .int .i64 r, .int .i64 0, .int .i64 80, .int .i64 g]) := C_w9.out.kept hg (fun e => by have := HLGZ.out; have := HLGC.out; have := Option.some.inj e; omega)
  have T9_w10 : Hid (Av w10 (fun b => P b ∧ b ≠ GZ) (.slice a9 R9.text.length c9) R9.text) := T9_w9.out.stored hg (fun h => h.2 rfl)
  have R9_w10 : Hid (AvR w10 (fun b => P b ∧ b ≠ GZ) vs9 R9.regs) := R9_w9.out.stored hg (fun h => h.2 rfl)
  clear A_w9 C_w9 Z_w9 T9_w9 R9_w9 HB_w9
  have Z_w10 : Hid (BoxC w10 43 GZ (resL (.slice a9 R9.text.length c9) R9.loc vs9 R9.fk R9.fa R9.mode (.slice none 0 0))) := hz
  clear hz hg
  go_wp2_with (fail)
  (try simp only [Exit.inBlock, Exit.then])
  refine bodyPost_ret (ret_box rfl _ _ GZ (resL (.slice a9 R9.text.length c9) R9.loc vs9 R9.fk R9.fa R9.mode (.slice none 0 0)) _ rfl rfl Z_w10.out (by rw [resL_len hv9]; exact wide_res)) rfl ?_
  exact ⟨HB_w10.out, _, R9, rfl, ⟨a9, c9, vs9, rfl, T9_w10.out.weak (fun b hb => hb.1), R9_w10.out.weak (fun b hb => hb.1)⟩, HR9.out⟩

set_option maxHeartbeats 2000000 in
theorem dn_t (a : Option Addr) (cap : Nat) (vs : List Value) (R : Res) (c r g : Int) (w : World) (P : Nat → Prop) (hP : ∀ b, w.heap.size ≤ b → P b) (h : Av w P (.slice a R.text.length cap) R.text) (hr : AvR w P vs R.regs) (hk0 : 0 ≤ R.loc) (hkl : R.loc ≤ lastP R.text.length) (hz : R.text.length ≤ 200) (N : Nat) (hmx : max c 1 = (N : Int)) (hN : N ≤ 999) (X : Res × Int) (hX : trn R N = X) :
    Calls Try.prog 24 #[.agg (resL (.slice a R.text.length cap) R.loc vs R.fk R.fa R.mode (.slice none 0 0)).toArray, .agg #[.int .i64 c, .int .i64 r, .int .i64 0, .int .i64 126, .int .i64 g]] w fun q w' => DonePost P X w q w' := by
  have hlp : lastP R.text.length = ((R.text.length - 1 : Nat) : Int) := rfl
  have HXC : Hid (∀ wx, Below w.heap.size w wx → ∀ G, G < wx.heap.size → w.heap.size ≤ G → Calls Try.prog 39 #[.agg (resL (.slice a R.text.length cap) R.loc vs R.fk R.fa R.mode (.slice none 0 0)).toArray, .int .i64 (N : Int)] wx fun q w' => DonePost (fun b => P b ∧ b ≠ G) X wx q w') := fun wx hx G hG hGl => by
    rw [← hX]
    exact turned_go a cap vs R wx _ (fun b hb => ⟨hP b (Nat.le_trans hx.size hb), by omega⟩) (((h.both (av_arg h.1)).below hx).weak (fun b hb => ⟨hb.1, by omega⟩)) (((hr.both (avR_arg hr.1)).below hx).weak (fun b hb => ⟨hb.1, by omega⟩)) N hk0 hkl hN hz
  clear hX hlp
  have hvs : vs.length = 27 := hr.len
  have HT : Hid (∀ wx, Below w.heap.size w wx → Av wx (fun b => P b ∧ b < w.heap.size) (.slice a R.text.length cap) R.text) := fun wx hx => (h.both (av_arg h.1)).below hx
  have HRg : Hid (∀ wx, Below w.heap.size w wx → AvR wx (fun b => P b ∧ b < w.heap.size) vs R.regs) := fun wx hx => (hr.both (avR_arg hr.1)).below hx
  have HP : Hid (∀ b, w.heap.size ≤ b → P b) := hP
  have HS : Hid (AllSl vs) := hr.1.1
  clear h hr hP
  go_enter Try.func24, Try.ntmps24
  go_wp2_with (refine boxC rfl 43 _ rfl (resL (.slice a R.text.length cap) R.loc vs R.fk R.fa R.mode (.slice none 0 0)) rfl ?_)
  intro w1 ha hb
  have HB_w1 : Hid (Below w.heap.size w w1) := hb
  have A_w1 : Hid (BoxC w1 43 w.heap.size (resL (.slice a R.text.length cap) R.loc vs R.fk R.fa R.mode (.slice none 0 0))) := ha
  clear ha hb
  go_wp2_with (refine boxC rfl 38 _ rfl [.int .i64 c, .int .i64 r, .int .i64 0, .int .i64 126, .int .i64 g] rfl ?_)
  intro w2 ha hb
  have HLGC : Hid (w.heap.size ≤ w1.heap.size ∧ w.heap.size < w1.heap.size) := ⟨HB_w1.out.size, A_w1.out.lt⟩
  have HB_w2 : Hid (Below w.heap.size w w2) := below_trans HB_w1.out hb HB_w1.out.size
  have A_w2 : Hid (BoxC w2 43 w.heap.size (resL (.slice a R.text.length cap) R.loc vs R.fk R.fa R.mode (.slice none 0 0))) := A_w1.out.below hb
  clear A_w1 HB_w1
  have C_w2 : Hid (BoxC w2 38 w1.heap.size [.int .i64 c, .int .i64 r, .int .i64 0, .int .i64 126, .int .i64 g]) := ha
  clear ha hb
  generalize w1.heap.size = GC at *
  go_wp2_with (refine allocC rfl 43 rfl nulL nul_zero ?_)
  intro w3 ha hb
  have HLGZ : Hid (w.heap.size ≤ w2.heap.size ∧ w.heap.size < w2.heap.size ∧ GC < w2.heap.size) := ⟨HB_w2.out.size, A_w2.out.lt, C_w2.out.lt⟩
  have HB_w3 : Hid (Below w.heap.size w w3) := below_trans HB_w2.out hb HB_w2.out.size
  have A_w3 : Hid (BoxC w3 43 w.heap.size (resL (.slice a R.text.length cap) R.loc vs R.fk R.fa R.mode (.slice none 0 0))) := A_w2.out.below hb
  have C_w3 : Hid (BoxC w3 38 GC [.int .i64 c, .int .i64 r, .int .i64 0, .int .i64 126, .int .i64 g]) := C_w2.out.below hb
  clear A_w2 C_w2 HB_w2
  have Z_w3 : Hid (BoxC w3 43 w2.heap.size nulL) := ha
  clear ha hb
  generalize w2.heap.size = GZ at *
  have cC0 : w3.cell? ⟨GC, 0, none⟩ = some (.int .i64 c) := (C_w3.out.cell 0).trans rfl
  have cC1 : w3.cell? ⟨GC, 1, none⟩ = some (.int .i64 r) := (C_w3.out.cell 1).trans rfl
  have cC2 : w3.cell? ⟨GC, 2, none⟩ = some (.int .i64 0) := (C_w3.out.cell 2).trans rfl
  have cC3 : w3.cell? ⟨GC, 3, none⟩ = some (.int .i64 126) := (C_w3.out.cell 3).trans rfl
  have cC4 : w3.cell? ⟨GC, 4, none⟩ = some (.int .i64 g) := (C_w3.out.cell 4).trans rfl
  go_wp2_with ((refine loadC rfl 43 _ rfl w.heap.size rfl (resL (.slice a R.text.length cap) R.loc vs R.fk R.fa R.mode (.slice none 0 0)) A_w3.out (by rw [resL_len (by assumption)]; exact wide_res) ?_))
  refine (HXC.out _ HB_w3.out GZ Z_w3.out.lt (by have := HLGZ.out; omega)).mono ?_
  rintro q w9 ⟨hb9, x9, R9, rfl, ⟨a9, c9, vs9, rfl, ht9, hr9⟩, hR9⟩
  clear cC0 cC1 cC2 cC3 cC4
  have HR9 : Hid (X.2 = 0 → R9 = X.1) := hR9
  clear hR9
  have HB_w9 : Hid (Below w.heap.size w w9) := below_trans HB_w3.out hb9 HB_w3.out.size
  have A_w9 : Hid (BoxC w9 43 w.heap.size (resL (.slice a R.text.length cap) R.loc vs R.fk R.fa R.mode (.slice none 0 0))) := A_w3.out.below hb9
  have C_w9 : Hid (BoxC w9 38 GC [.int .i64 c, .int .i64 r, .int .i64 0, .int .i64 126, .int .i64 g]) := C_w3.out.below hb9
  have Z_w9 : Hid (BoxC w9 43 GZ nulL) := Z_w3.out.below hb9
  clear A_w3 C_w3 Z_w3 HB_w3
  clear hb9
  have hv9 : vs9.length = 27 := hr9.len
  have HS9 : Hid (AllSl vs9) := hr9.1.1
  have T9_w9 : Hid (Av w9 (fun b => P b ∧ b ≠ GZ) (.slice a9 R9.text.length c9) R9.text) := ht9
  have R9_w9 : Hid (AvR w9 (fun b => P b ∧ b ≠ GZ) vs9 R9.regs) := hr9
  clear ht9 hr9
  go_wp2_with (refine storeC rfl 43 _ _ rfl GZ rfl nulL (resL (.slice a9 R9.text.length c9) R9.loc vs9 R9.fk R9.fa R9.mode (.slice none 0 0)) rfl Z_w9.out (by rw [resL_len hv9]; exact wide_res) (resL_one HS9.out rfl rfl) (by rw [nul_len, resL_len hv9]) ?_)
  intro w10 hz hg
  have HB_w10 : Hid (Below w.heap.size w w10) := HB_w9.out.grown hg HB_w9.out.size (fun j hj => by cases hj; exact (by have := HLGZ.out; omega))
  have A_w10 : Hid (BoxC w10 43 w.heap.size (resL (.slice a R.text.length cap) R.loc vs R.fk R.fa R.mode (.slice none 0 0))) := A_w9.out.kept hg (fun e => by have := HLGZ.out; have := Option.some.inj e; omega)
  have C_w10 : Hid (BoxC w10 38 GC [.int .i64 c, .int .i64 r, .int .i64 0, .int .i64 126, .int .i64 g]) := C_w9.out.kept hg (fun e => by have := HLGZ.out; have := HLGC.out; have := Option.some.inj e; omega)
  have T9_w10 : Hid (Av w10 (fun b => P b ∧ b ≠ GZ) (.slice a9 R9.text.length c9) R9.text) := T9_w9.out.stored hg (fun h => h.2 rfl)
  have R9_w10 : Hid (AvR w10 (fun b => P b ∧ b ≠ GZ) vs9 R9.regs) := R9_w9.out.stored hg (fun h => h.2 rfl)
  clear A_w9 C_w9 Z_w9 T9_w9 R9_w9 HB_w9
  have Z_w10 : Hid (BoxC w10 43 GZ (resL (.slice a9 R9.text.length c9) R9.loc vs9 R9.fk R9.fa R9.mode (.slice none 0 0))) := hz
  clear hz hg
  go_wp2_with (fail)
  (try simp only [Exit.inBlock, Exit.then])
  refine bodyPost_ret (ret_box rfl _ _ GZ (resL (.slice a9 R9.text.length c9) R9.loc vs9 R9.fk R9.fa R9.mode (.slice none 0 0)) _ rfl rfl Z_w10.out (by rw [resL_len hv9]; exact wide_res)) rfl ?_
  exact ⟨HB_w10.out, _, R9, rfl, ⟨a9, c9, vs9, rfl, T9_w10.out.weak (fun b hb => hb.1), R9_w10.out.weak (fun b hb => hb.1)⟩, HR9.out⟩

set_option maxHeartbeats 2000000 in
theorem dn_r (a : Option Addr) (cap : Nat) (vs : List Value) (R : Res) (c r g : Int) (w : World) (P : Nat → Prop) (hP : ∀ b, w.heap.size ≤ b → P b) (h : Av w P (.slice a R.text.length cap) R.text) (hr : AvR w P vs R.regs) (hk0 : 0 ≤ R.loc) (hkl : R.loc ≤ lastP R.text.length) (hz : R.text.length ≤ 200) (N : Nat) (hmx : max c 1 = (N : Int)) (hN : N ≤ 999) (X : Res × Int) (hX : rpl R N g = X) :
    Calls Try.prog 24 #[.agg (resL (.slice a R.text.length cap) R.loc vs R.fk R.fa R.mode (.slice none 0 0)).toArray, .agg #[.int .i64 c, .int .i64 r, .int .i64 0, .int .i64 114, .int .i64 g]] w fun q w' => DonePost P X w q w' := by
  have hlp : lastP R.text.length = ((R.text.length - 1 : Nat) : Int) := rfl
  have HXC : Hid (∀ wx, Below w.heap.size w wx → ∀ G, G < wx.heap.size → w.heap.size ≤ G → Calls Try.prog 40 #[.agg (resL (.slice a R.text.length cap) R.loc vs R.fk R.fa R.mode (.slice none 0 0)).toArray, .int .i64 (N : Int), .int .i64 g] wx fun q w' => DonePost (fun b => P b ∧ b ≠ G) X wx q w') := fun wx hx G hG hGl => by
    rw [← hX]
    exact replaced_go a cap vs R wx _ (fun b hb => ⟨hP b (Nat.le_trans hx.size hb), by omega⟩) (((h.both (av_arg h.1)).below hx).weak (fun b hb => ⟨hb.1, by omega⟩)) (((hr.both (avR_arg hr.1)).below hx).weak (fun b hb => ⟨hb.1, by omega⟩)) N g hk0 (by omega) hN hz
  clear hX hlp
  have hvs : vs.length = 27 := hr.len
  have HT : Hid (∀ wx, Below w.heap.size w wx → Av wx (fun b => P b ∧ b < w.heap.size) (.slice a R.text.length cap) R.text) := fun wx hx => (h.both (av_arg h.1)).below hx
  have HRg : Hid (∀ wx, Below w.heap.size w wx → AvR wx (fun b => P b ∧ b < w.heap.size) vs R.regs) := fun wx hx => (hr.both (avR_arg hr.1)).below hx
  have HP : Hid (∀ b, w.heap.size ≤ b → P b) := hP
  have HS : Hid (AllSl vs) := hr.1.1
  clear h hr hP
  go_enter Try.func24, Try.ntmps24
  go_wp2_with (refine boxC rfl 43 _ rfl (resL (.slice a R.text.length cap) R.loc vs R.fk R.fa R.mode (.slice none 0 0)) rfl ?_)
  intro w1 ha hb
  have HB_w1 : Hid (Below w.heap.size w w1) := hb
  have A_w1 : Hid (BoxC w1 43 w.heap.size (resL (.slice a R.text.length cap) R.loc vs R.fk R.fa R.mode (.slice none 0 0))) := ha
  clear ha hb
  go_wp2_with (refine boxC rfl 38 _ rfl [.int .i64 c, .int .i64 r, .int .i64 0, .int .i64 114, .int .i64 g] rfl ?_)
  intro w2 ha hb
  have HLGC : Hid (w.heap.size ≤ w1.heap.size ∧ w.heap.size < w1.heap.size) := ⟨HB_w1.out.size, A_w1.out.lt⟩
  have HB_w2 : Hid (Below w.heap.size w w2) := below_trans HB_w1.out hb HB_w1.out.size
  have A_w2 : Hid (BoxC w2 43 w.heap.size (resL (.slice a R.text.length cap) R.loc vs R.fk R.fa R.mode (.slice none 0 0))) := A_w1.out.below hb
  clear A_w1 HB_w1
  have C_w2 : Hid (BoxC w2 38 w1.heap.size [.int .i64 c, .int .i64 r, .int .i64 0, .int .i64 114, .int .i64 g]) := ha
  clear ha hb
  generalize w1.heap.size = GC at *
  go_wp2_with (refine allocC rfl 43 rfl nulL nul_zero ?_)
  intro w3 ha hb
  have HLGZ : Hid (w.heap.size ≤ w2.heap.size ∧ w.heap.size < w2.heap.size ∧ GC < w2.heap.size) := ⟨HB_w2.out.size, A_w2.out.lt, C_w2.out.lt⟩
  have HB_w3 : Hid (Below w.heap.size w w3) := below_trans HB_w2.out hb HB_w2.out.size
  have A_w3 : Hid (BoxC w3 43 w.heap.size (resL (.slice a R.text.length cap) R.loc vs R.fk R.fa R.mode (.slice none 0 0))) := A_w2.out.below hb
  have C_w3 : Hid (BoxC w3 38 GC [.int .i64 c, .int .i64 r, .int .i64 0, .int .i64 114, .int .i64 g]) := C_w2.out.below hb
  clear A_w2 C_w2 HB_w2
  have Z_w3 : Hid (BoxC w3 43 w2.heap.size nulL) := ha
  clear ha hb
  generalize w2.heap.size = GZ at *
  have cC0 : w3.cell? ⟨GC, 0, none⟩ = some (.int .i64 c) := (C_w3.out.cell 0).trans rfl
  have cC1 : w3.cell? ⟨GC, 1, none⟩ = some (.int .i64 r) := (C_w3.out.cell 1).trans rfl
  have cC2 : w3.cell? ⟨GC, 2, none⟩ = some (.int .i64 0) := (C_w3.out.cell 2).trans rfl
  have cC3 : w3.cell? ⟨GC, 3, none⟩ = some (.int .i64 114) := (C_w3.out.cell 3).trans rfl
  have cC4 : w3.cell? ⟨GC, 4, none⟩ = some (.int .i64 g) := (C_w3.out.cell 4).trans rfl
  go_wp2_with ((refine loadC rfl 43 _ rfl w.heap.size rfl (resL (.slice a R.text.length cap) R.loc vs R.fk R.fa R.mode (.slice none 0 0)) A_w3.out (by rw [resL_len (by assumption)]; exact wide_res) ?_))
  refine (HXC.out _ HB_w3.out GZ Z_w3.out.lt (by have := HLGZ.out; omega)).mono ?_
  rintro q w9 ⟨hb9, x9, R9, rfl, ⟨a9, c9, vs9, rfl, ht9, hr9⟩, hR9⟩
  clear cC0 cC1 cC2 cC3 cC4
  have HR9 : Hid (X.2 = 0 → R9 = X.1) := hR9
  clear hR9
  have HB_w9 : Hid (Below w.heap.size w w9) := below_trans HB_w3.out hb9 HB_w3.out.size
  have A_w9 : Hid (BoxC w9 43 w.heap.size (resL (.slice a R.text.length cap) R.loc vs R.fk R.fa R.mode (.slice none 0 0))) := A_w3.out.below hb9
  have C_w9 : Hid (BoxC w9 38 GC [.int .i64 c, .int .i64 r, .int .i64 0, .int .i64 114, .int .i64 g]) := C_w3.out.below hb9
  have Z_w9 : Hid (BoxC w9 43 GZ nulL) := Z_w3.out.below hb9
  clear A_w3 C_w3 Z_w3 HB_w3
  clear hb9
  have hv9 : vs9.length = 27 := hr9.len
  have HS9 : Hid (AllSl vs9) := hr9.1.1
  have T9_w9 : Hid (Av w9 (fun b => P b ∧ b ≠ GZ) (.slice a9 R9.text.length c9) R9.text) := ht9
  have R9_w9 : Hid (AvR w9 (fun b => P b ∧ b ≠ GZ) vs9 R9.regs) := hr9
  clear ht9 hr9
  go_wp2_with (refine storeC rfl 43 _ _ rfl GZ rfl nulL (resL (.slice a9 R9.text.length c9) R9.loc vs9 R9.fk R9.fa R9.mode (.slice none 0 0)) rfl Z_w9.out (by rw [resL_len hv9]; exact wide_res) (resL_one HS9.out rfl rfl) (by rw [nul_len, resL_len hv9]) ?_)
  intro w10 hz hg
  have HB_w10 : Hid (Below w.heap.size w w10) := HB_w9.out.grown hg HB_w9.out.size (fun j hj => by cases hj; exact (by have := HLGZ.out; omega))
  have A_w10 : Hid (BoxC w10 43 w.heap.size (resL (.slice a R.text.length cap) R.loc vs R.fk R.fa R.mode (.slice none 0 0))) := A_w9.out.kept hg (fun e => by have := HLGZ.out; have := Option.some.inj e; omega)
  have C_w10 : Hid (BoxC w10 38 GC [.int .i64 c, .int .i64 r, .int .i64 0, .int .i64 114, .int .i64 g]) := C_w9.out.kept hg (fun e => by have := HLGZ.out; have := HLGC.out; have := Option.some.inj e; omega)
  have T9_w10 : Hid (Av w10 (fun b => P b ∧ b ≠ GZ) (.slice a9 R9.text.length c9) R9.text) := T9_w9.out.stored hg (fun h => h.2 rfl)
  have R9_w10 : Hid (AvR w10 (fun b => P b ∧ b ≠ GZ) vs9 R9.regs) := R9_w9.out.stored hg (fun h => h.2 rfl)
  clear A_w9 C_w9 Z_w9 T9_w9 R9_w9 HB_w9
  have Z_w10 : Hid (BoxC w10 43 GZ (resL (.slice a9 R9.text.length c9) R9.loc vs9 R9.fk R9.fa R9.mode (.slice none 0 0))) := hz
  clear hz hg
  go_wp2_with (fail)
  (try simp only [Exit.inBlock, Exit.then])
  refine bodyPost_ret (ret_box rfl _ _ GZ (resL (.slice a9 R9.text.length c9) R9.loc vs9 R9.fk R9.fa R9.mode (.slice none 0 0)) _ rfl rfl Z_w10.out (by rw [resL_len hv9]; exact wide_res)) rfl ?_
  exact ⟨HB_w10.out, _, R9, rfl, ⟨a9, c9, vs9, rfl, T9_w10.out.weak (fun b hb => hb.1), R9_w10.out.weak (fun b hb => hb.1)⟩, HR9.out⟩

set_option maxHeartbeats 2000000 in
theorem dn_i (a : Option Addr) (cap : Nat) (vs : List Value) (R : Res) (c r g : Int) (w : World) (P : Nat → Prop) (hP : ∀ b, w.heap.size ≤ b → P b) (h : Av w P (.slice a R.text.length cap) R.text) (hr : AvR w P vs R.regs) (hk0 : 0 ≤ R.loc) (hkl : R.loc ≤ lastP R.text.length) (hz : R.text.length ≤ 200) (R9 : Res) (hX : bgn' R 105 = R9) :
    Calls Try.prog 24 #[.agg (resL (.slice a R.text.length cap) R.loc vs R.fk R.fa R.mode (.slice none 0 0)).toArray, .agg #[.int .i64 c, .int .i64 r, .int .i64 0, .int .i64 105, .int .i64 g]] w fun q w' => DonePost P (R9, 0) w q w' := by
  have hlp : lastP R.text.length = ((R.text.length - 1 : Nat) : Int) := rfl
  have HXC : Hid (∀ wx, Below w.heap.size w wx → ∀ G, G < wx.heap.size → w.heap.size ≤ G → Calls Try.prog 41 #[.agg (resL (.slice a R.text.length cap) R.loc vs R.fk R.fa R.mode (.slice none 0 0)).toArray, .int .i64 105] wx fun q w' => OnePost (fun b => P b ∧ b ≠ G) R9 wx q w') := fun wx hx G hG hGl => by
    rw [← hX]
    exact begun_go a cap vs R wx _ (fun b hb => ⟨hP b (Nat.le_trans hx.size hb), by omega⟩) (((h.both (av_arg h.1)).below hx).weak (fun b hb => ⟨hb.1, by omega⟩)) (((hr.both (avR_arg hr.1)).below hx).weak (fun b hb => ⟨hb.1, by omega⟩)) hk0 (by omega) 105 (by decide)
  clear hX hlp
  have hvs : vs.length = 27 := hr.len
  have HT : Hid (∀ wx, Below w.heap.size w wx → Av wx (fun b => P b ∧ b < w.heap.size) (.slice a R.text.length cap) R.text) := fun wx hx => (h.both (av_arg h.1)).below hx
  have HRg : Hid (∀ wx, Below w.heap.size w wx → AvR wx (fun b => P b ∧ b < w.heap.size) vs R.regs) := fun wx hx => (hr.both (avR_arg hr.1)).below hx
  have HP : Hid (∀ b, w.heap.size ≤ b → P b) := hP
  have HS : Hid (AllSl vs) := hr.1.1
  clear h hr hP
  go_enter Try.func24, Try.ntmps24
  go_wp2_with (refine boxC rfl 43 _ rfl (resL (.slice a R.text.length cap) R.loc vs R.fk R.fa R.mode (.slice none 0 0)) rfl ?_)
  intro w1 ha hb
  have HB_w1 : Hid (Below w.heap.size w w1) := hb
  have A_w1 : Hid (BoxC w1 43 w.heap.size (resL (.slice a R.text.length cap) R.loc vs R.fk R.fa R.mode (.slice none 0 0))) := ha
  clear ha hb
  go_wp2_with (refine boxC rfl 38 _ rfl [.int .i64 c, .int .i64 r, .int .i64 0, .int .i64 105, .int .i64 g] rfl ?_)
  intro w2 ha hb
  have HLGC : Hid (w.heap.size ≤ w1.heap.size ∧ w.heap.size < w1.heap.size) := ⟨HB_w1.out.size, A_w1.out.lt⟩
  have HB_w2 : Hid (Below w.heap.size w w2) := below_trans HB_w1.out hb HB_w1.out.size
  have A_w2 : Hid (BoxC w2 43 w.heap.size (resL (.slice a R.text.length cap) R.loc vs R.fk R.fa R.mode (.slice none 0 0))) := A_w1.out.below hb
  clear A_w1 HB_w1
  have C_w2 : Hid (BoxC w2 38 w1.heap.size [.int .i64 c, .int .i64 r, .int .i64 0, .int .i64 105, .int .i64 g]) := ha
  clear ha hb
  generalize w1.heap.size = GC at *
  go_wp2_with (refine allocC rfl 43 rfl nulL nul_zero ?_)
  intro w3 ha hb
  have HLGZ : Hid (w.heap.size ≤ w2.heap.size ∧ w.heap.size < w2.heap.size ∧ GC < w2.heap.size) := ⟨HB_w2.out.size, A_w2.out.lt, C_w2.out.lt⟩
  have HB_w3 : Hid (Below w.heap.size w w3) := below_trans HB_w2.out hb HB_w2.out.size
  have A_w3 : Hid (BoxC w3 43 w.heap.size (resL (.slice a R.text.length cap) R.loc vs R.fk R.fa R.mode (.slice none 0 0))) := A_w2.out.below hb
  have C_w3 : Hid (BoxC w3 38 GC [.int .i64 c, .int .i64 r, .int .i64 0, .int .i64 105, .int .i64 g]) := C_w2.out.below hb
  clear A_w2 C_w2 HB_w2
  have Z_w3 : Hid (BoxC w3 43 w2.heap.size nulL) := ha
  clear ha hb
  generalize w2.heap.size = GZ at *
  have cC0 : w3.cell? ⟨GC, 0, none⟩ = some (.int .i64 c) := (C_w3.out.cell 0).trans rfl
  have cC1 : w3.cell? ⟨GC, 1, none⟩ = some (.int .i64 r) := (C_w3.out.cell 1).trans rfl
  have cC2 : w3.cell? ⟨GC, 2, none⟩ = some (.int .i64 0) := (C_w3.out.cell 2).trans rfl
  have cC3 : w3.cell? ⟨GC, 3, none⟩ = some (.int .i64 105) := (C_w3.out.cell 3).trans rfl
  have cC4 : w3.cell? ⟨GC, 4, none⟩ = some (.int .i64 g) := (C_w3.out.cell 4).trans rfl
  go_wp2_with ((refine loadC rfl 43 _ rfl w.heap.size rfl (resL (.slice a R.text.length cap) R.loc vs R.fk R.fa R.mode (.slice none 0 0)) A_w3.out (by rw [resL_len (by assumption)]; exact wide_res) ?_))
  refine (HXC.out _ HB_w3.out GZ Z_w3.out.lt (by have := HLGZ.out; omega)).mono ?_
  rintro q w9 ⟨hb9, x9, rfl, a9, c9, vs9, rfl, ht9, hr9⟩
  clear cC0 cC1 cC2 cC3 cC4
  have HB_w9 : Hid (Below w.heap.size w w9) := below_trans HB_w3.out hb9 HB_w3.out.size
  have A_w9 : Hid (BoxC w9 43 w.heap.size (resL (.slice a R.text.length cap) R.loc vs R.fk R.fa R.mode (.slice none 0 0))) := A_w3.out.below hb9
  have C_w9 : Hid (BoxC w9 38 GC [.int .i64 c, .int .i64 r, .int .i64 0, .int .i64 105, .int .i64 g]) := C_w3.out.below hb9
  have Z_w9 : Hid (BoxC w9 43 GZ nulL) := Z_w3.out.below hb9
  clear A_w3 C_w3 Z_w3 HB_w3
  clear hb9
  have hv9 : vs9.length = 27 := hr9.len
  have HS9 : Hid (AllSl vs9) := hr9.1.1
  have T9_w9 : Hid (Av w9 (fun b => P b ∧ b ≠ GZ) (.slice a9 R9.text.length c9) R9.text) := ht9
  have R9_w9 : Hid (AvR w9 (fun b => P b ∧ b ≠ GZ) vs9 R9.regs) := hr9
  clear ht9 hr9
  go_wp2_with (refine storeC rfl 43 _ _ rfl GZ rfl nulL (resL (.slice a9 R9.text.length c9) R9.loc vs9 R9.fk R9.fa R9.mode (.slice none 0 0)) rfl Z_w9.out (by rw [resL_len hv9]; exact wide_res) (resL_one HS9.out rfl rfl) (by rw [nul_len, resL_len hv9]) ?_)
  intro w10 hz hg
  have HB_w10 : Hid (Below w.heap.size w w10) := HB_w9.out.grown hg HB_w9.out.size (fun j hj => by cases hj; exact (by have := HLGZ.out; omega))
  have A_w10 : Hid (BoxC w10 43 w.heap.size (resL (.slice a R.text.length cap) R.loc vs R.fk R.fa R.mode (.slice none 0 0))) := A_w9.out.kept hg (fun e => by have := HLGZ.out; have := Option.some.inj e; omega)
  have C_w10 : Hid (BoxC w10 38 GC [.int .i64 c, .int .i64 r, .int .i64 0, .int .i64 105, .int .i64 g]) := C_w9.out.kept hg (fun e => by have := HLGZ.out; have := HLGC.out; have := Option.some.inj e; omega)
  have T9_w10 : Hid (Av w10 (fun b => P b ∧ b ≠ GZ) (.slice a9 R9.text.length c9) R9.text) := T9_w9.out.stored hg (fun h => h.2 rfl)
  have R9_w10 : Hid (AvR w10 (fun b => P b ∧ b ≠ GZ) vs9 R9.regs) := R9_w9.out.stored hg (fun h => h.2 rfl)
  clear A_w9 C_w9 Z_w9 T9_w9 R9_w9 HB_w9
  have Z_w10 : Hid (BoxC w10 43 GZ (resL (.slice a9 R9.text.length c9) R9.loc vs9 R9.fk R9.fa R9.mode (.slice none 0 0))) := hz
  clear hz hg
  go_wp2_with (fail)
  (try simp only [Exit.inBlock, Exit.then])
  refine bodyPost_ret (ret_box rfl _ _ GZ (resL (.slice a9 R9.text.length c9) R9.loc vs9 R9.fk R9.fa R9.mode (.slice none 0 0)) _ rfl rfl Z_w10.out (by rw [resL_len hv9]; exact wide_res)) rfl ?_
  exact ⟨HB_w10.out, _, R9, rfl, ⟨a9, c9, vs9, rfl, T9_w10.out.weak (fun b hb => hb.1), R9_w10.out.weak (fun b hb => hb.1)⟩, fun _ => rfl⟩

set_option maxHeartbeats 2000000 in
theorem dn_gI (a : Option Addr) (cap : Nat) (vs : List Value) (R : Res) (c r g : Int) (w : World) (P : Nat → Prop) (hP : ∀ b, w.heap.size ≤ b → P b) (h : Av w P (.slice a R.text.length cap) R.text) (hr : AvR w P vs R.regs) (hk0 : 0 ≤ R.loc) (hkl : R.loc ≤ lastP R.text.length) (hz : R.text.length ≤ 200) (R9 : Res) (hX : bgn' R 73 = R9) :
    Calls Try.prog 24 #[.agg (resL (.slice a R.text.length cap) R.loc vs R.fk R.fa R.mode (.slice none 0 0)).toArray, .agg #[.int .i64 c, .int .i64 r, .int .i64 0, .int .i64 73, .int .i64 g]] w fun q w' => DonePost P (R9, 0) w q w' := by
  have hlp : lastP R.text.length = ((R.text.length - 1 : Nat) : Int) := rfl
  have HXC : Hid (∀ wx, Below w.heap.size w wx → ∀ G, G < wx.heap.size → w.heap.size ≤ G → Calls Try.prog 41 #[.agg (resL (.slice a R.text.length cap) R.loc vs R.fk R.fa R.mode (.slice none 0 0)).toArray, .int .i64 73] wx fun q w' => OnePost (fun b => P b ∧ b ≠ G) R9 wx q w') := fun wx hx G hG hGl => by
    rw [← hX]
    exact begun_go a cap vs R wx _ (fun b hb => ⟨hP b (Nat.le_trans hx.size hb), by omega⟩) (((h.both (av_arg h.1)).below hx).weak (fun b hb => ⟨hb.1, by omega⟩)) (((hr.both (avR_arg hr.1)).below hx).weak (fun b hb => ⟨hb.1, by omega⟩)) hk0 (by omega) 73 (by decide)
  clear hX hlp
  have hvs : vs.length = 27 := hr.len
  have HT : Hid (∀ wx, Below w.heap.size w wx → Av wx (fun b => P b ∧ b < w.heap.size) (.slice a R.text.length cap) R.text) := fun wx hx => (h.both (av_arg h.1)).below hx
  have HRg : Hid (∀ wx, Below w.heap.size w wx → AvR wx (fun b => P b ∧ b < w.heap.size) vs R.regs) := fun wx hx => (hr.both (avR_arg hr.1)).below hx
  have HP : Hid (∀ b, w.heap.size ≤ b → P b) := hP
  have HS : Hid (AllSl vs) := hr.1.1
  clear h hr hP
  go_enter Try.func24, Try.ntmps24
  go_wp2_with (refine boxC rfl 43 _ rfl (resL (.slice a R.text.length cap) R.loc vs R.fk R.fa R.mode (.slice none 0 0)) rfl ?_)
  intro w1 ha hb
  have HB_w1 : Hid (Below w.heap.size w w1) := hb
  have A_w1 : Hid (BoxC w1 43 w.heap.size (resL (.slice a R.text.length cap) R.loc vs R.fk R.fa R.mode (.slice none 0 0))) := ha
  clear ha hb
  go_wp2_with (refine boxC rfl 38 _ rfl [.int .i64 c, .int .i64 r, .int .i64 0, .int .i64 73, .int .i64 g] rfl ?_)
  intro w2 ha hb
  have HLGC : Hid (w.heap.size ≤ w1.heap.size ∧ w.heap.size < w1.heap.size) := ⟨HB_w1.out.size, A_w1.out.lt⟩
  have HB_w2 : Hid (Below w.heap.size w w2) := below_trans HB_w1.out hb HB_w1.out.size
  have A_w2 : Hid (BoxC w2 43 w.heap.size (resL (.slice a R.text.length cap) R.loc vs R.fk R.fa R.mode (.slice none 0 0))) := A_w1.out.below hb
  clear A_w1 HB_w1
  have C_w2 : Hid (BoxC w2 38 w1.heap.size [.int .i64 c, .int .i64 r, .int .i64 0, .int .i64 73, .int .i64 g]) := ha
  clear ha hb
  generalize w1.heap.size = GC at *
  go_wp2_with (refine allocC rfl 43 rfl nulL nul_zero ?_)
  intro w3 ha hb
  have HLGZ : Hid (w.heap.size ≤ w2.heap.size ∧ w.heap.size < w2.heap.size ∧ GC < w2.heap.size) := ⟨HB_w2.out.size, A_w2.out.lt, C_w2.out.lt⟩
  have HB_w3 : Hid (Below w.heap.size w w3) := below_trans HB_w2.out hb HB_w2.out.size
  have A_w3 : Hid (BoxC w3 43 w.heap.size (resL (.slice a R.text.length cap) R.loc vs R.fk R.fa R.mode (.slice none 0 0))) := A_w2.out.below hb
  have C_w3 : Hid (BoxC w3 38 GC [.int .i64 c, .int .i64 r, .int .i64 0, .int .i64 73, .int .i64 g]) := C_w2.out.below hb
  clear A_w2 C_w2 HB_w2
  have Z_w3 : Hid (BoxC w3 43 w2.heap.size nulL) := ha
  clear ha hb
  generalize w2.heap.size = GZ at *
  have cC0 : w3.cell? ⟨GC, 0, none⟩ = some (.int .i64 c) := (C_w3.out.cell 0).trans rfl
  have cC1 : w3.cell? ⟨GC, 1, none⟩ = some (.int .i64 r) := (C_w3.out.cell 1).trans rfl
  have cC2 : w3.cell? ⟨GC, 2, none⟩ = some (.int .i64 0) := (C_w3.out.cell 2).trans rfl
  have cC3 : w3.cell? ⟨GC, 3, none⟩ = some (.int .i64 73) := (C_w3.out.cell 3).trans rfl
  have cC4 : w3.cell? ⟨GC, 4, none⟩ = some (.int .i64 g) := (C_w3.out.cell 4).trans rfl
  go_wp2_with ((refine loadC rfl 43 _ rfl w.heap.size rfl (resL (.slice a R.text.length cap) R.loc vs R.fk R.fa R.mode (.slice none 0 0)) A_w3.out (by rw [resL_len (by assumption)]; exact wide_res) ?_))
  refine (HXC.out _ HB_w3.out GZ Z_w3.out.lt (by have := HLGZ.out; omega)).mono ?_
  rintro q w9 ⟨hb9, x9, rfl, a9, c9, vs9, rfl, ht9, hr9⟩
  clear cC0 cC1 cC2 cC3 cC4
  have HB_w9 : Hid (Below w.heap.size w w9) := below_trans HB_w3.out hb9 HB_w3.out.size
  have A_w9 : Hid (BoxC w9 43 w.heap.size (resL (.slice a R.text.length cap) R.loc vs R.fk R.fa R.mode (.slice none 0 0))) := A_w3.out.below hb9
  have C_w9 : Hid (BoxC w9 38 GC [.int .i64 c, .int .i64 r, .int .i64 0, .int .i64 73, .int .i64 g]) := C_w3.out.below hb9
  have Z_w9 : Hid (BoxC w9 43 GZ nulL) := Z_w3.out.below hb9
  clear A_w3 C_w3 Z_w3 HB_w3
  clear hb9
  have hv9 : vs9.length = 27 := hr9.len
  have HS9 : Hid (AllSl vs9) := hr9.1.1
  have T9_w9 : Hid (Av w9 (fun b => P b ∧ b ≠ GZ) (.slice a9 R9.text.length c9) R9.text) := ht9
  have R9_w9 : Hid (AvR w9 (fun b => P b ∧ b ≠ GZ) vs9 R9.regs) := hr9
  clear ht9 hr9
  go_wp2_with (refine storeC rfl 43 _ _ rfl GZ rfl nulL (resL (.slice a9 R9.text.length c9) R9.loc vs9 R9.fk R9.fa R9.mode (.slice none 0 0)) rfl Z_w9.out (by rw [resL_len hv9]; exact wide_res) (resL_one HS9.out rfl rfl) (by rw [nul_len, resL_len hv9]) ?_)
  intro w10 hz hg
  have HB_w10 : Hid (Below w.heap.size w w10) := HB_w9.out.grown hg HB_w9.out.size (fun j hj => by cases hj; exact (by have := HLGZ.out; omega))
  have A_w10 : Hid (BoxC w10 43 w.heap.size (resL (.slice a R.text.length cap) R.loc vs R.fk R.fa R.mode (.slice none 0 0))) := A_w9.out.kept hg (fun e => by have := HLGZ.out; have := Option.some.inj e; omega)
  have C_w10 : Hid (BoxC w10 38 GC [.int .i64 c, .int .i64 r, .int .i64 0, .int .i64 73, .int .i64 g]) := C_w9.out.kept hg (fun e => by have := HLGZ.out; have := HLGC.out; have := Option.some.inj e; omega)
  have T9_w10 : Hid (Av w10 (fun b => P b ∧ b ≠ GZ) (.slice a9 R9.text.length c9) R9.text) := T9_w9.out.stored hg (fun h => h.2 rfl)
  have R9_w10 : Hid (AvR w10 (fun b => P b ∧ b ≠ GZ) vs9 R9.regs) := R9_w9.out.stored hg (fun h => h.2 rfl)
  clear A_w9 C_w9 Z_w9 T9_w9 R9_w9 HB_w9
  have Z_w10 : Hid (BoxC w10 43 GZ (resL (.slice a9 R9.text.length c9) R9.loc vs9 R9.fk R9.fa R9.mode (.slice none 0 0))) := hz
  clear hz hg
  go_wp2_with (fail)
  (try simp only [Exit.inBlock, Exit.then])
  refine bodyPost_ret (ret_box rfl _ _ GZ (resL (.slice a9 R9.text.length c9) R9.loc vs9 R9.fk R9.fa R9.mode (.slice none 0 0)) _ rfl rfl Z_w10.out (by rw [resL_len hv9]; exact wide_res)) rfl ?_
  exact ⟨HB_w10.out, _, R9, rfl, ⟨a9, c9, vs9, rfl, T9_w10.out.weak (fun b hb => hb.1), R9_w10.out.weak (fun b hb => hb.1)⟩, fun _ => rfl⟩

set_option maxHeartbeats 2000000 in
theorem dn_a (a : Option Addr) (cap : Nat) (vs : List Value) (R : Res) (c r g : Int) (w : World) (P : Nat → Prop) (hP : ∀ b, w.heap.size ≤ b → P b) (h : Av w P (.slice a R.text.length cap) R.text) (hr : AvR w P vs R.regs) (hk0 : 0 ≤ R.loc) (hkl : R.loc ≤ lastP R.text.length) (hz : R.text.length ≤ 200) (R9 : Res) (hX : bgn' R 97 = R9) :
    Calls Try.prog 24 #[.agg (resL (.slice a R.text.length cap) R.loc vs R.fk R.fa R.mode (.slice none 0 0)).toArray, .agg #[.int .i64 c, .int .i64 r, .int .i64 0, .int .i64 97, .int .i64 g]] w fun q w' => DonePost P (R9, 0) w q w' := by
  have hlp : lastP R.text.length = ((R.text.length - 1 : Nat) : Int) := rfl
  have HXC : Hid (∀ wx, Below w.heap.size w wx → ∀ G, G < wx.heap.size → w.heap.size ≤ G → Calls Try.prog 41 #[.agg (resL (.slice a R.text.length cap) R.loc vs R.fk R.fa R.mode (.slice none 0 0)).toArray, .int .i64 97] wx fun q w' => OnePost (fun b => P b ∧ b ≠ G) R9 wx q w') := fun wx hx G hG hGl => by
    rw [← hX]
    exact begun_go a cap vs R wx _ (fun b hb => ⟨hP b (Nat.le_trans hx.size hb), by omega⟩) (((h.both (av_arg h.1)).below hx).weak (fun b hb => ⟨hb.1, by omega⟩)) (((hr.both (avR_arg hr.1)).below hx).weak (fun b hb => ⟨hb.1, by omega⟩)) hk0 (by omega) 97 (by decide)
  clear hX hlp
  have hvs : vs.length = 27 := hr.len
  have HT : Hid (∀ wx, Below w.heap.size w wx → Av wx (fun b => P b ∧ b < w.heap.size) (.slice a R.text.length cap) R.text) := fun wx hx => (h.both (av_arg h.1)).below hx
  have HRg : Hid (∀ wx, Below w.heap.size w wx → AvR wx (fun b => P b ∧ b < w.heap.size) vs R.regs) := fun wx hx => (hr.both (avR_arg hr.1)).below hx
  have HP : Hid (∀ b, w.heap.size ≤ b → P b) := hP
  have HS : Hid (AllSl vs) := hr.1.1
  clear h hr hP
  go_enter Try.func24, Try.ntmps24
  go_wp2_with (refine boxC rfl 43 _ rfl (resL (.slice a R.text.length cap) R.loc vs R.fk R.fa R.mode (.slice none 0 0)) rfl ?_)
  intro w1 ha hb
  have HB_w1 : Hid (Below w.heap.size w w1) := hb
  have A_w1 : Hid (BoxC w1 43 w.heap.size (resL (.slice a R.text.length cap) R.loc vs R.fk R.fa R.mode (.slice none 0 0))) := ha
  clear ha hb
  go_wp2_with (refine boxC rfl 38 _ rfl [.int .i64 c, .int .i64 r, .int .i64 0, .int .i64 97, .int .i64 g] rfl ?_)
  intro w2 ha hb
  have HLGC : Hid (w.heap.size ≤ w1.heap.size ∧ w.heap.size < w1.heap.size) := ⟨HB_w1.out.size, A_w1.out.lt⟩
  have HB_w2 : Hid (Below w.heap.size w w2) := below_trans HB_w1.out hb HB_w1.out.size
  have A_w2 : Hid (BoxC w2 43 w.heap.size (resL (.slice a R.text.length cap) R.loc vs R.fk R.fa R.mode (.slice none 0 0))) := A_w1.out.below hb
  clear A_w1 HB_w1
  have C_w2 : Hid (BoxC w2 38 w1.heap.size [.int .i64 c, .int .i64 r, .int .i64 0, .int .i64 97, .int .i64 g]) := ha
  clear ha hb
  generalize w1.heap.size = GC at *
  go_wp2_with (refine allocC rfl 43 rfl nulL nul_zero ?_)
  intro w3 ha hb
  have HLGZ : Hid (w.heap.size ≤ w2.heap.size ∧ w.heap.size < w2.heap.size ∧ GC < w2.heap.size) := ⟨HB_w2.out.size, A_w2.out.lt, C_w2.out.lt⟩
  have HB_w3 : Hid (Below w.heap.size w w3) := below_trans HB_w2.out hb HB_w2.out.size
  have A_w3 : Hid (BoxC w3 43 w.heap.size (resL (.slice a R.text.length cap) R.loc vs R.fk R.fa R.mode (.slice none 0 0))) := A_w2.out.below hb
  have C_w3 : Hid (BoxC w3 38 GC [.int .i64 c, .int .i64 r, .int .i64 0, .int .i64 97, .int .i64 g]) := C_w2.out.below hb
  clear A_w2 C_w2 HB_w2
  have Z_w3 : Hid (BoxC w3 43 w2.heap.size nulL) := ha
  clear ha hb
  generalize w2.heap.size = GZ at *
  have cC0 : w3.cell? ⟨GC, 0, none⟩ = some (.int .i64 c) := (C_w3.out.cell 0).trans rfl
  have cC1 : w3.cell? ⟨GC, 1, none⟩ = some (.int .i64 r) := (C_w3.out.cell 1).trans rfl
  have cC2 : w3.cell? ⟨GC, 2, none⟩ = some (.int .i64 0) := (C_w3.out.cell 2).trans rfl
  have cC3 : w3.cell? ⟨GC, 3, none⟩ = some (.int .i64 97) := (C_w3.out.cell 3).trans rfl
  have cC4 : w3.cell? ⟨GC, 4, none⟩ = some (.int .i64 g) := (C_w3.out.cell 4).trans rfl
  go_wp2_with ((refine loadC rfl 43 _ rfl w.heap.size rfl (resL (.slice a R.text.length cap) R.loc vs R.fk R.fa R.mode (.slice none 0 0)) A_w3.out (by rw [resL_len (by assumption)]; exact wide_res) ?_))
  refine (HXC.out _ HB_w3.out GZ Z_w3.out.lt (by have := HLGZ.out; omega)).mono ?_
  rintro q w9 ⟨hb9, x9, rfl, a9, c9, vs9, rfl, ht9, hr9⟩
  clear cC0 cC1 cC2 cC3 cC4
  have HB_w9 : Hid (Below w.heap.size w w9) := below_trans HB_w3.out hb9 HB_w3.out.size
  have A_w9 : Hid (BoxC w9 43 w.heap.size (resL (.slice a R.text.length cap) R.loc vs R.fk R.fa R.mode (.slice none 0 0))) := A_w3.out.below hb9
  have C_w9 : Hid (BoxC w9 38 GC [.int .i64 c, .int .i64 r, .int .i64 0, .int .i64 97, .int .i64 g]) := C_w3.out.below hb9
  have Z_w9 : Hid (BoxC w9 43 GZ nulL) := Z_w3.out.below hb9
  clear A_w3 C_w3 Z_w3 HB_w3
  clear hb9
  have hv9 : vs9.length = 27 := hr9.len
  have HS9 : Hid (AllSl vs9) := hr9.1.1
  have T9_w9 : Hid (Av w9 (fun b => P b ∧ b ≠ GZ) (.slice a9 R9.text.length c9) R9.text) := ht9
  have R9_w9 : Hid (AvR w9 (fun b => P b ∧ b ≠ GZ) vs9 R9.regs) := hr9
  clear ht9 hr9
  go_wp2_with (refine storeC rfl 43 _ _ rfl GZ rfl nulL (resL (.slice a9 R9.text.length c9) R9.loc vs9 R9.fk R9.fa R9.mode (.slice none 0 0)) rfl Z_w9.out (by rw [resL_len hv9]; exact wide_res) (resL_one HS9.out rfl rfl) (by rw [nul_len, resL_len hv9]) ?_)
  intro w10 hz hg
  have HB_w10 : Hid (Below w.heap.size w w10) := HB_w9.out.grown hg HB_w9.out.size (fun j hj => by cases hj; exact (by have := HLGZ.out; omega))
  have A_w10 : Hid (BoxC w10 43 w.heap.size (resL (.slice a R.text.length cap) R.loc vs R.fk R.fa R.mode (.slice none 0 0))) := A_w9.out.kept hg (fun e => by have := HLGZ.out; have := Option.some.inj e; omega)
  have C_w10 : Hid (BoxC w10 38 GC [.int .i64 c, .int .i64 r, .int .i64 0, .int .i64 97, .int .i64 g]) := C_w9.out.kept hg (fun e => by have := HLGZ.out; have := HLGC.out; have := Option.some.inj e; omega)
  have T9_w10 : Hid (Av w10 (fun b => P b ∧ b ≠ GZ) (.slice a9 R9.text.length c9) R9.text) := T9_w9.out.stored hg (fun h => h.2 rfl)
  have R9_w10 : Hid (AvR w10 (fun b => P b ∧ b ≠ GZ) vs9 R9.regs) := R9_w9.out.stored hg (fun h => h.2 rfl)
  clear A_w9 C_w9 Z_w9 T9_w9 R9_w9 HB_w9
  have Z_w10 : Hid (BoxC w10 43 GZ (resL (.slice a9 R9.text.length c9) R9.loc vs9 R9.fk R9.fa R9.mode (.slice none 0 0))) := hz
  clear hz hg
  go_wp2_with (fail)
  (try simp only [Exit.inBlock, Exit.then])
  refine bodyPost_ret (ret_box rfl _ _ GZ (resL (.slice a9 R9.text.length c9) R9.loc vs9 R9.fk R9.fa R9.mode (.slice none 0 0)) _ rfl rfl Z_w10.out (by rw [resL_len hv9]; exact wide_res)) rfl ?_
  exact ⟨HB_w10.out, _, R9, rfl, ⟨a9, c9, vs9, rfl, T9_w10.out.weak (fun b hb => hb.1), R9_w10.out.weak (fun b hb => hb.1)⟩, fun _ => rfl⟩

set_option maxHeartbeats 2000000 in
theorem dn_gA (a : Option Addr) (cap : Nat) (vs : List Value) (R : Res) (c r g : Int) (w : World) (P : Nat → Prop) (hP : ∀ b, w.heap.size ≤ b → P b) (h : Av w P (.slice a R.text.length cap) R.text) (hr : AvR w P vs R.regs) (hk0 : 0 ≤ R.loc) (hkl : R.loc ≤ lastP R.text.length) (hz : R.text.length ≤ 200) (R9 : Res) (hX : bgn' R 65 = R9) :
    Calls Try.prog 24 #[.agg (resL (.slice a R.text.length cap) R.loc vs R.fk R.fa R.mode (.slice none 0 0)).toArray, .agg #[.int .i64 c, .int .i64 r, .int .i64 0, .int .i64 65, .int .i64 g]] w fun q w' => DonePost P (R9, 0) w q w' := by
  have hlp : lastP R.text.length = ((R.text.length - 1 : Nat) : Int) := rfl
  have HXC : Hid (∀ wx, Below w.heap.size w wx → ∀ G, G < wx.heap.size → w.heap.size ≤ G → Calls Try.prog 41 #[.agg (resL (.slice a R.text.length cap) R.loc vs R.fk R.fa R.mode (.slice none 0 0)).toArray, .int .i64 65] wx fun q w' => OnePost (fun b => P b ∧ b ≠ G) R9 wx q w') := fun wx hx G hG hGl => by
    rw [← hX]
    exact begun_go a cap vs R wx _ (fun b hb => ⟨hP b (Nat.le_trans hx.size hb), by omega⟩) (((h.both (av_arg h.1)).below hx).weak (fun b hb => ⟨hb.1, by omega⟩)) (((hr.both (avR_arg hr.1)).below hx).weak (fun b hb => ⟨hb.1, by omega⟩)) hk0 (by omega) 65 (by decide)
  clear hX hlp
  have hvs : vs.length = 27 := hr.len
  have HT : Hid (∀ wx, Below w.heap.size w wx → Av wx (fun b => P b ∧ b < w.heap.size) (.slice a R.text.length cap) R.text) := fun wx hx => (h.both (av_arg h.1)).below hx
  have HRg : Hid (∀ wx, Below w.heap.size w wx → AvR wx (fun b => P b ∧ b < w.heap.size) vs R.regs) := fun wx hx => (hr.both (avR_arg hr.1)).below hx
  have HP : Hid (∀ b, w.heap.size ≤ b → P b) := hP
  have HS : Hid (AllSl vs) := hr.1.1
  clear h hr hP
  go_enter Try.func24, Try.ntmps24
  go_wp2_with (refine boxC rfl 43 _ rfl (resL (.slice a R.text.length cap) R.loc vs R.fk R.fa R.mode (.slice none 0 0)) rfl ?_)
  intro w1 ha hb
  have HB_w1 : Hid (Below w.heap.size w w1) := hb
  have A_w1 : Hid (BoxC w1 43 w.heap.size (resL (.slice a R.text.length cap) R.loc vs R.fk R.fa R.mode (.slice none 0 0))) := ha
  clear ha hb
  go_wp2_with (refine boxC rfl 38 _ rfl [.int .i64 c, .int .i64 r, .int .i64 0, .int .i64 65, .int .i64 g] rfl ?_)
  intro w2 ha hb
  have HLGC : Hid (w.heap.size ≤ w1.heap.size ∧ w.heap.size < w1.heap.size) := ⟨HB_w1.out.size, A_w1.out.lt⟩
  have HB_w2 : Hid (Below w.heap.size w w2) := below_trans HB_w1.out hb HB_w1.out.size
  have A_w2 : Hid (BoxC w2 43 w.heap.size (resL (.slice a R.text.length cap) R.loc vs R.fk R.fa R.mode (.slice none 0 0))) := A_w1.out.below hb
  clear A_w1 HB_w1
  have C_w2 : Hid (BoxC w2 38 w1.heap.size [.int .i64 c, .int .i64 r, .int .i64 0, .int .i64 65, .int .i64 g]) := ha
  clear ha hb
  generalize w1.heap.size = GC at *
  go_wp2_with (refine allocC rfl 43 rfl nulL nul_zero ?_)
  intro w3 ha hb
  have HLGZ : Hid (w.heap.size ≤ w2.heap.size ∧ w.heap.size < w2.heap.size ∧ GC < w2.heap.size) := ⟨HB_w2.out.size, A_w2.out.lt, C_w2.out.lt⟩
  have HB_w3 : Hid (Below w.heap.size w w3) := below_trans HB_w2.out hb HB_w2.out.size
  have A_w3 : Hid (BoxC w3 43 w.heap.size (resL (.slice a R.text.length cap) R.loc vs R.fk R.fa R.mode (.slice none 0 0))) := A_w2.out.below hb
  have C_w3 : Hid (BoxC w3 38 GC [.int .i64 c, .int .i64 r, .int .i64 0, .int .i64 65, .int .i64 g]) := C_w2.out.below hb
  clear A_w2 C_w2 HB_w2
  have Z_w3 : Hid (BoxC w3 43 w2.heap.size nulL) := ha
  clear ha hb
  generalize w2.heap.size = GZ at *
  have cC0 : w3.cell? ⟨GC, 0, none⟩ = some (.int .i64 c) := (C_w3.out.cell 0).trans rfl
  have cC1 : w3.cell? ⟨GC, 1, none⟩ = some (.int .i64 r) := (C_w3.out.cell 1).trans rfl
  have cC2 : w3.cell? ⟨GC, 2, none⟩ = some (.int .i64 0) := (C_w3.out.cell 2).trans rfl
  have cC3 : w3.cell? ⟨GC, 3, none⟩ = some (.int .i64 65) := (C_w3.out.cell 3).trans rfl
  have cC4 : w3.cell? ⟨GC, 4, none⟩ = some (.int .i64 g) := (C_w3.out.cell 4).trans rfl
  go_wp2_with ((refine loadC rfl 43 _ rfl w.heap.size rfl (resL (.slice a R.text.length cap) R.loc vs R.fk R.fa R.mode (.slice none 0 0)) A_w3.out (by rw [resL_len (by assumption)]; exact wide_res) ?_))
  refine (HXC.out _ HB_w3.out GZ Z_w3.out.lt (by have := HLGZ.out; omega)).mono ?_
  rintro q w9 ⟨hb9, x9, rfl, a9, c9, vs9, rfl, ht9, hr9⟩
  clear cC0 cC1 cC2 cC3 cC4
  have HB_w9 : Hid (Below w.heap.size w w9) := below_trans HB_w3.out hb9 HB_w3.out.size
  have A_w9 : Hid (BoxC w9 43 w.heap.size (resL (.slice a R.text.length cap) R.loc vs R.fk R.fa R.mode (.slice none 0 0))) := A_w3.out.below hb9
  have C_w9 : Hid (BoxC w9 38 GC [.int .i64 c, .int .i64 r, .int .i64 0, .int .i64 65, .int .i64 g]) := C_w3.out.below hb9
  have Z_w9 : Hid (BoxC w9 43 GZ nulL) := Z_w3.out.below hb9
  clear A_w3 C_w3 Z_w3 HB_w3
  clear hb9
  have hv9 : vs9.length = 27 := hr9.len
  have HS9 : Hid (AllSl vs9) := hr9.1.1
  have T9_w9 : Hid (Av w9 (fun b => P b ∧ b ≠ GZ) (.slice a9 R9.text.length c9) R9.text) := ht9
  have R9_w9 : Hid (AvR w9 (fun b => P b ∧ b ≠ GZ) vs9 R9.regs) := hr9
  clear ht9 hr9
  go_wp2_with (refine storeC rfl 43 _ _ rfl GZ rfl nulL (resL (.slice a9 R9.text.length c9) R9.loc vs9 R9.fk R9.fa R9.mode (.slice none 0 0)) rfl Z_w9.out (by rw [resL_len hv9]; exact wide_res) (resL_one HS9.out rfl rfl) (by rw [nul_len, resL_len hv9]) ?_)
  intro w10 hz hg
  have HB_w10 : Hid (Below w.heap.size w w10) := HB_w9.out.grown hg HB_w9.out.size (fun j hj => by cases hj; exact (by have := HLGZ.out; omega))
  have A_w10 : Hid (BoxC w10 43 w.heap.size (resL (.slice a R.text.length cap) R.loc vs R.fk R.fa R.mode (.slice none 0 0))) := A_w9.out.kept hg (fun e => by have := HLGZ.out; have := Option.some.inj e; omega)
  have C_w10 : Hid (BoxC w10 38 GC [.int .i64 c, .int .i64 r, .int .i64 0, .int .i64 65, .int .i64 g]) := C_w9.out.kept hg (fun e => by have := HLGZ.out; have := HLGC.out; have := Option.some.inj e; omega)
  have T9_w10 : Hid (Av w10 (fun b => P b ∧ b ≠ GZ) (.slice a9 R9.text.length c9) R9.text) := T9_w9.out.stored hg (fun h => h.2 rfl)
  have R9_w10 : Hid (AvR w10 (fun b => P b ∧ b ≠ GZ) vs9 R9.regs) := R9_w9.out.stored hg (fun h => h.2 rfl)
  clear A_w9 C_w9 Z_w9 T9_w9 R9_w9 HB_w9
  have Z_w10 : Hid (BoxC w10 43 GZ (resL (.slice a9 R9.text.length c9) R9.loc vs9 R9.fk R9.fa R9.mode (.slice none 0 0))) := hz
  clear hz hg
  go_wp2_with (fail)
  (try simp only [Exit.inBlock, Exit.then])
  refine bodyPost_ret (ret_box rfl _ _ GZ (resL (.slice a9 R9.text.length c9) R9.loc vs9 R9.fk R9.fa R9.mode (.slice none 0 0)) _ rfl rfl Z_w10.out (by rw [resL_len hv9]; exact wide_res)) rfl ?_
  exact ⟨HB_w10.out, _, R9, rfl, ⟨a9, c9, vs9, rfl, T9_w10.out.weak (fun b hb => hb.1), R9_w10.out.weak (fun b hb => hb.1)⟩, fun _ => rfl⟩

set_option maxHeartbeats 2000000 in
theorem dn_gR (a : Option Addr) (cap : Nat) (vs : List Value) (R : Res) (c r g : Int) (w : World) (P : Nat → Prop) (hP : ∀ b, w.heap.size ≤ b → P b) (h : Av w P (.slice a R.text.length cap) R.text) (hr : AvR w P vs R.regs) (hk0 : 0 ≤ R.loc) (hkl : R.loc ≤ lastP R.text.length) (hz : R.text.length ≤ 200) (R9 : Res) (hX : bgn' R 82 = R9) :
    Calls Try.prog 24 #[.agg (resL (.slice a R.text.length cap) R.loc vs R.fk R.fa R.mode (.slice none 0 0)).toArray, .agg #[.int .i64 c, .int .i64 r, .int .i64 0, .int .i64 82, .int .i64 g]] w fun q w' => DonePost P (R9, 0) w q w' := by
  have hlp : lastP R.text.length = ((R.text.length - 1 : Nat) : Int) := rfl
  have HXC : Hid (∀ wx, Below w.heap.size w wx → ∀ G, G < wx.heap.size → w.heap.size ≤ G → Calls Try.prog 41 #[.agg (resL (.slice a R.text.length cap) R.loc vs R.fk R.fa R.mode (.slice none 0 0)).toArray, .int .i64 82] wx fun q w' => OnePost (fun b => P b ∧ b ≠ G) R9 wx q w') := fun wx hx G hG hGl => by
    rw [← hX]
    exact begun_go a cap vs R wx _ (fun b hb => ⟨hP b (Nat.le_trans hx.size hb), by omega⟩) (((h.both (av_arg h.1)).below hx).weak (fun b hb => ⟨hb.1, by omega⟩)) (((hr.both (avR_arg hr.1)).below hx).weak (fun b hb => ⟨hb.1, by omega⟩)) hk0 (by omega) 82 (by decide)
  clear hX hlp
  have hvs : vs.length = 27 := hr.len
  have HT : Hid (∀ wx, Below w.heap.size w wx → Av wx (fun b => P b ∧ b < w.heap.size) (.slice a R.text.length cap) R.text) := fun wx hx => (h.both (av_arg h.1)).below hx
  have HRg : Hid (∀ wx, Below w.heap.size w wx → AvR wx (fun b => P b ∧ b < w.heap.size) vs R.regs) := fun wx hx => (hr.both (avR_arg hr.1)).below hx
  have HP : Hid (∀ b, w.heap.size ≤ b → P b) := hP
  have HS : Hid (AllSl vs) := hr.1.1
  clear h hr hP
  go_enter Try.func24, Try.ntmps24
  go_wp2_with (refine boxC rfl 43 _ rfl (resL (.slice a R.text.length cap) R.loc vs R.fk R.fa R.mode (.slice none 0 0)) rfl ?_)
  intro w1 ha hb
  have HB_w1 : Hid (Below w.heap.size w w1) := hb
  have A_w1 : Hid (BoxC w1 43 w.heap.size (resL (.slice a R.text.length cap) R.loc vs R.fk R.fa R.mode (.slice none 0 0))) := ha
  clear ha hb
  go_wp2_with (refine boxC rfl 38 _ rfl [.int .i64 c, .int .i64 r, .int .i64 0, .int .i64 82, .int .i64 g] rfl ?_)
  intro w2 ha hb
  have HLGC : Hid (w.heap.size ≤ w1.heap.size ∧ w.heap.size < w1.heap.size) := ⟨HB_w1.out.size, A_w1.out.lt⟩
  have HB_w2 : Hid (Below w.heap.size w w2) := below_trans HB_w1.out hb HB_w1.out.size
  have A_w2 : Hid (BoxC w2 43 w.heap.size (resL (.slice a R.text.length cap) R.loc vs R.fk R.fa R.mode (.slice none 0 0))) := A_w1.out.below hb
  clear A_w1 HB_w1
  have C_w2 : Hid (BoxC w2 38 w1.heap.size [.int .i64 c, .int .i64 r, .int .i64 0, .int .i64 82, .int .i64 g]) := ha
  clear ha hb
  generalize w1.heap.size = GC at *
  go_wp2_with (refine allocC rfl 43 rfl nulL nul_zero ?_)
  intro w3 ha hb
  have HLGZ : Hid (w.heap.size ≤ w2.heap.size ∧ w.heap.size < w2.heap.size ∧ GC < w2.heap.size) := ⟨HB_w2.out.size, A_w2.out.lt, C_w2.out.lt⟩
  have HB_w3 : Hid (Below w.heap.size w w3) := below_trans HB_w2.out hb HB_w2.out.size
  have A_w3 : Hid (BoxC w3 43 w.heap.size (resL (.slice a R.text.length cap) R.loc vs R.fk R.fa R.mode (.slice none 0 0))) := A_w2.out.below hb
  have C_w3 : Hid (BoxC w3 38 GC [.int .i64 c, .int .i64 r, .int .i64 0, .int .i64 82, .int .i64 g]) := C_w2.out.below hb
  clear A_w2 C_w2 HB_w2
  have Z_w3 : Hid (BoxC w3 43 w2.heap.size nulL) := ha
  clear ha hb
  generalize w2.heap.size = GZ at *
  have cC0 : w3.cell? ⟨GC, 0, none⟩ = some (.int .i64 c) := (C_w3.out.cell 0).trans rfl
  have cC1 : w3.cell? ⟨GC, 1, none⟩ = some (.int .i64 r) := (C_w3.out.cell 1).trans rfl
  have cC2 : w3.cell? ⟨GC, 2, none⟩ = some (.int .i64 0) := (C_w3.out.cell 2).trans rfl
  have cC3 : w3.cell? ⟨GC, 3, none⟩ = some (.int .i64 82) := (C_w3.out.cell 3).trans rfl
  have cC4 : w3.cell? ⟨GC, 4, none⟩ = some (.int .i64 g) := (C_w3.out.cell 4).trans rfl
  go_wp2_with ((refine loadC rfl 43 _ rfl w.heap.size rfl (resL (.slice a R.text.length cap) R.loc vs R.fk R.fa R.mode (.slice none 0 0)) A_w3.out (by rw [resL_len (by assumption)]; exact wide_res) ?_))
  refine (HXC.out _ HB_w3.out GZ Z_w3.out.lt (by have := HLGZ.out; omega)).mono ?_
  rintro q w9 ⟨hb9, x9, rfl, a9, c9, vs9, rfl, ht9, hr9⟩
  clear cC0 cC1 cC2 cC3 cC4
  have HB_w9 : Hid (Below w.heap.size w w9) := below_trans HB_w3.out hb9 HB_w3.out.size
  have A_w9 : Hid (BoxC w9 43 w.heap.size (resL (.slice a R.text.length cap) R.loc vs R.fk R.fa R.mode (.slice none 0 0))) := A_w3.out.below hb9
  have C_w9 : Hid (BoxC w9 38 GC [.int .i64 c, .int .i64 r, .int .i64 0, .int .i64 82, .int .i64 g]) := C_w3.out.below hb9
  have Z_w9 : Hid (BoxC w9 43 GZ nulL) := Z_w3.out.below hb9
  clear A_w3 C_w3 Z_w3 HB_w3
  clear hb9
  have hv9 : vs9.length = 27 := hr9.len
  have HS9 : Hid (AllSl vs9) := hr9.1.1
  have T9_w9 : Hid (Av w9 (fun b => P b ∧ b ≠ GZ) (.slice a9 R9.text.length c9) R9.text) := ht9
  have R9_w9 : Hid (AvR w9 (fun b => P b ∧ b ≠ GZ) vs9 R9.regs) := hr9
  clear ht9 hr9
  go_wp2_with (refine storeC rfl 43 _ _ rfl GZ rfl nulL (resL (.slice a9 R9.text.length c9) R9.loc vs9 R9.fk R9.fa R9.mode (.slice none 0 0)) rfl Z_w9.out (by rw [resL_len hv9]; exact wide_res) (resL_one HS9.out rfl rfl) (by rw [nul_len, resL_len hv9]) ?_)
  intro w10 hz hg
  have HB_w10 : Hid (Below w.heap.size w w10) := HB_w9.out.grown hg HB_w9.out.size (fun j hj => by cases hj; exact (by have := HLGZ.out; omega))
  have A_w10 : Hid (BoxC w10 43 w.heap.size (resL (.slice a R.text.length cap) R.loc vs R.fk R.fa R.mode (.slice none 0 0))) := A_w9.out.kept hg (fun e => by have := HLGZ.out; have := Option.some.inj e; omega)
  have C_w10 : Hid (BoxC w10 38 GC [.int .i64 c, .int .i64 r, .int .i64 0, .int .i64 82, .int .i64 g]) := C_w9.out.kept hg (fun e => by have := HLGZ.out; have := HLGC.out; have := Option.some.inj e; omega)
  have T9_w10 : Hid (Av w10 (fun b => P b ∧ b ≠ GZ) (.slice a9 R9.text.length c9) R9.text) := T9_w9.out.stored hg (fun h => h.2 rfl)
  have R9_w10 : Hid (AvR w10 (fun b => P b ∧ b ≠ GZ) vs9 R9.regs) := R9_w9.out.stored hg (fun h => h.2 rfl)
  clear A_w9 C_w9 Z_w9 T9_w9 R9_w9 HB_w9
  have Z_w10 : Hid (BoxC w10 43 GZ (resL (.slice a9 R9.text.length c9) R9.loc vs9 R9.fk R9.fa R9.mode (.slice none 0 0))) := hz
  clear hz hg
  go_wp2_with (fail)
  (try simp only [Exit.inBlock, Exit.then])
  refine bodyPost_ret (ret_box rfl _ _ GZ (resL (.slice a9 R9.text.length c9) R9.loc vs9 R9.fk R9.fa R9.mode (.slice none 0 0)) _ rfl rfl Z_w10.out (by rw [resL_len hv9]; exact wide_res)) rfl ?_
  exact ⟨HB_w10.out, _, R9, rfl, ⟨a9, c9, vs9, rfl, T9_w10.out.weak (fun b hb => hb.1), R9_w10.out.weak (fun b hb => hb.1)⟩, fun _ => rfl⟩

set_option maxHeartbeats 2000000 in
theorem dn_mv (a : Option Addr) (cap : Nat) (vs : List Value) (R : Res) (c r v g : Int) (w : World) (P : Nat → Prop) (hP : ∀ b, w.heap.size ≤ b → P b) (h : Av w P (.slice a R.text.length cap) R.text) (hr : AvR w P vs R.regs) (hk0 : 0 ≤ R.loc) (hkl : R.loc ≤ lastP R.text.length) (hz : R.text.length ≤ 200) (b112 : (v == 112) = false) (b80 : (v == 80) = false) (b126 : (v == 126) = false) (b114 : (v == 114) = false) (b105 : (v == 105) = false) (b73 : (v == 73) = false) (b97 : (v == 97) = false) (b65 : (v == 65) = false) (b82 : (v == 82) = false) (X : Res × Int) (hX : mvd R c v g = X) :
    Calls Try.prog 24 #[.agg (resL (.slice a R.text.length cap) R.loc vs R.fk R.fa R.mode (.slice none 0 0)).toArray, .agg #[.int .i64 c, .int .i64 r, .int .i64 0, .int .i64 v, .int .i64 g]] w fun q w' => DonePost P X w q w' := by
  have hlp : lastP R.text.length = ((R.text.length - 1 : Nat) : Int) := rfl
  have HXC : Hid (∀ wx, Below w.heap.size w wx → ∀ G, G < wx.heap.size → w.heap.size ≤ G → Calls Try.prog 42 #[.agg (resL (.slice a R.text.length cap) R.loc vs R.fk R.fa R.mode (.slice none 0 0)).toArray, .agg #[.int .i64 c, .int .i64 r, .int .i64 0, .int .i64 v, .int .i64 g]] wx fun q w' => DonePost (fun b => P b ∧ b ≠ G) X wx q w') := fun wx hx G hG hGl => by
    rw [← hX]
    exact moved_go a cap vs R c r 0 v g wx _ (fun b hb => ⟨hP b (Nat.le_trans hx.size hb), by omega⟩) (((h.both (av_arg h.1)).below hx).weak (fun b hb => ⟨hb.1, by omega⟩)) (((hr.both (avR_arg hr.1)).below hx).weak (fun b hb => ⟨hb.1, by omega⟩))
  clear hX hlp
  have hvs : vs.length = 27 := hr.len
  have HT : Hid (∀ wx, Below w.heap.size w wx → Av wx (fun b => P b ∧ b < w.heap.size) (.slice a R.text.length cap) R.text) := fun wx hx => (h.both (av_arg h.1)).below hx
  have HRg : Hid (∀ wx, Below w.heap.size w wx → AvR wx (fun b => P b ∧ b < w.heap.size) vs R.regs) := fun wx hx => (hr.both (avR_arg hr.1)).below hx
  have HP : Hid (∀ b, w.heap.size ≤ b → P b) := hP
  have HS : Hid (AllSl vs) := hr.1.1
  clear h hr hP
  go_enter Try.func24, Try.ntmps24
  go_wp2_with (refine boxC rfl 43 _ rfl (resL (.slice a R.text.length cap) R.loc vs R.fk R.fa R.mode (.slice none 0 0)) rfl ?_)
  intro w1 ha hb
  have HB_w1 : Hid (Below w.heap.size w w1) := hb
  have A_w1 : Hid (BoxC w1 43 w.heap.size (resL (.slice a R.text.length cap) R.loc vs R.fk R.fa R.mode (.slice none 0 0))) := ha
  clear ha hb
  go_wp2_with (refine boxC rfl 38 _ rfl [.int .i64 c, .int .i64 r, .int .i64 0, .int .i64 v, .int .i64 g] rfl ?_)
  intro w2 ha hb
  have HLGC : Hid (w.heap.size ≤ w1.heap.size ∧ w.heap.size < w1.heap.size) := ⟨HB_w1.out.size, A_w1.out.lt⟩
  have HB_w2 : Hid (Below w.heap.size w w2) := below_trans HB_w1.out hb HB_w1.out.size
  have A_w2 : Hid (BoxC w2 43 w.heap.size (resL (.slice a R.text.length cap) R.loc vs R.fk R.fa R.mode (.slice none 0 0))) := A_w1.out.below hb
  clear A_w1 HB_w1
  have C_w2 : Hid (BoxC w2 38 w1.heap.size [.int .i64 c, .int .i64 r, .int .i64 0, .int .i64 v, .int .i64 g]) := ha
  clear ha hb
  generalize w1.heap.size = GC at *
  go_wp2_with (refine allocC rfl 43 rfl nulL nul_zero ?_)
  intro w3 ha hb
  have HLGZ : Hid (w.heap.size ≤ w2.heap.size ∧ w.heap.size < w2.heap.size ∧ GC < w2.heap.size) := ⟨HB_w2.out.size, A_w2.out.lt, C_w2.out.lt⟩
  have HB_w3 : Hid (Below w.heap.size w w3) := below_trans HB_w2.out hb HB_w2.out.size
  have A_w3 : Hid (BoxC w3 43 w.heap.size (resL (.slice a R.text.length cap) R.loc vs R.fk R.fa R.mode (.slice none 0 0))) := A_w2.out.below hb
  have C_w3 : Hid (BoxC w3 38 GC [.int .i64 c, .int .i64 r, .int .i64 0, .int .i64 v, .int .i64 g]) := C_w2.out.below hb
  clear A_w2 C_w2 HB_w2
  have Z_w3 : Hid (BoxC w3 43 w2.heap.size nulL) := ha
  clear ha hb
  generalize w2.heap.size = GZ at *
  have cC0 : w3.cell? ⟨GC, 0, none⟩ = some (.int .i64 c) := (C_w3.out.cell 0).trans rfl
  have cC1 : w3.cell? ⟨GC, 1, none⟩ = some (.int .i64 r) := (C_w3.out.cell 1).trans rfl
  have cC2 : w3.cell? ⟨GC, 2, none⟩ = some (.int .i64 0) := (C_w3.out.cell 2).trans rfl
  have cC3 : w3.cell? ⟨GC, 3, none⟩ = some (.int .i64 v) := (C_w3.out.cell 3).trans rfl
  have cC4 : w3.cell? ⟨GC, 4, none⟩ = some (.int .i64 g) := (C_w3.out.cell 4).trans rfl
  go_wp2_with ((refine loadC rfl 43 _ rfl w.heap.size rfl (resL (.slice a R.text.length cap) R.loc vs R.fk R.fa R.mode (.slice none 0 0)) A_w3.out (by rw [resL_len (by assumption)]; exact wide_res) ?_))
  refine (HXC.out _ HB_w3.out GZ Z_w3.out.lt (by have := HLGZ.out; omega)).mono ?_
  rintro q w9 ⟨hb9, x9, R9, rfl, ⟨a9, c9, vs9, rfl, ht9, hr9⟩, hR9⟩
  clear cC0 cC1 cC2 cC3 cC4
  have HR9 : Hid (X.2 = 0 → R9 = X.1) := hR9
  clear hR9
  have HB_w9 : Hid (Below w.heap.size w w9) := below_trans HB_w3.out hb9 HB_w3.out.size
  have A_w9 : Hid (BoxC w9 43 w.heap.size (resL (.slice a R.text.length cap) R.loc vs R.fk R.fa R.mode (.slice none 0 0))) := A_w3.out.below hb9
  have C_w9 : Hid (BoxC w9 38 GC [.int .i64 c, .int .i64 r, .int .i64 0, .int .i64 v, .int .i64 g]) := C_w3.out.below hb9
  have Z_w9 : Hid (BoxC w9 43 GZ nulL) := Z_w3.out.below hb9
  clear A_w3 C_w3 Z_w3 HB_w3
  clear hb9
  have hv9 : vs9.length = 27 := hr9.len
  have HS9 : Hid (AllSl vs9) := hr9.1.1
  have T9_w9 : Hid (Av w9 (fun b => P b ∧ b ≠ GZ) (.slice a9 R9.text.length c9) R9.text) := ht9
  have R9_w9 : Hid (AvR w9 (fun b => P b ∧ b ≠ GZ) vs9 R9.regs) := hr9
  clear ht9 hr9
  go_wp2_with (refine storeC rfl 43 _ _ rfl GZ rfl nulL (resL (.slice a9 R9.text.length c9) R9.loc vs9 R9.fk R9.fa R9.mode (.slice none 0 0)) rfl Z_w9.out (by rw [resL_len hv9]; exact wide_res) (resL_one HS9.out rfl rfl) (by rw [nul_len, resL_len hv9]) ?_)
  intro w10 hz hg
  have HB_w10 : Hid (Below w.heap.size w w10) := HB_w9.out.grown hg HB_w9.out.size (fun j hj => by cases hj; exact (by have := HLGZ.out; omega))
  have A_w10 : Hid (BoxC w10 43 w.heap.size (resL (.slice a R.text.length cap) R.loc vs R.fk R.fa R.mode (.slice none 0 0))) := A_w9.out.kept hg (fun e => by have := HLGZ.out; have := Option.some.inj e; omega)
  have C_w10 : Hid (BoxC w10 38 GC [.int .i64 c, .int .i64 r, .int .i64 0, .int .i64 v, .int .i64 g]) := C_w9.out.kept hg (fun e => by have := HLGZ.out; have := HLGC.out; have := Option.some.inj e; omega)
  have T9_w10 : Hid (Av w10 (fun b => P b ∧ b ≠ GZ) (.slice a9 R9.text.length c9) R9.text) := T9_w9.out.stored hg (fun h => h.2 rfl)
  have R9_w10 : Hid (AvR w10 (fun b => P b ∧ b ≠ GZ) vs9 R9.regs) := R9_w9.out.stored hg (fun h => h.2 rfl)
  clear A_w9 C_w9 Z_w9 T9_w9 R9_w9 HB_w9
  have Z_w10 : Hid (BoxC w10 43 GZ (resL (.slice a9 R9.text.length c9) R9.loc vs9 R9.fk R9.fa R9.mode (.slice none 0 0))) := hz
  clear hz hg
  go_wp2_with (fail)
  (try simp only [Exit.inBlock, Exit.then])
  refine bodyPost_ret (ret_box rfl _ _ GZ (resL (.slice a9 R9.text.length c9) R9.loc vs9 R9.fk R9.fa R9.mode (.slice none 0 0)) _ rfl rfl Z_w10.out (by rw [resL_len hv9]; exact wide_res)) rfl ?_
  exact ⟨HB_w10.out, _, R9, rfl, ⟨a9, c9, vs9, rfl, T9_w10.out.weak (fun b hb => hb.1), R9_w10.out.weak (fun b hb => hb.1)⟩, HR9.out⟩

theorem done_go (a : Option Addr) (cap : Nat) (vs : List Value) (R : Res) (c r o v g : Int) (w : World) (P : Nat → Prop) (hP : ∀ b, w.heap.size ≤ b → P b) (h : Av w P (.slice a R.text.length cap) R.text) (hr : AvR w P vs R.regs) (hk0 : 0 ≤ R.loc) (hkl : R.loc ≤ lastP R.text.length) (hz : R.text.length ≤ 200) (hc : c ≤ 999) (ho : o = 0 ∨ o = 100 ∨ o = 99 ∨ o = 121) :
    Calls Try.prog 24 #[.agg (resL (.slice a R.text.length cap) R.loc vs R.fk R.fa R.mode (.slice none 0 0)).toArray, .agg #[.int .i64 c, .int .i64 r, .int .i64 o, .int .i64 v, .int .i64 g]] w fun q w' => DonePost P (dne R c r o v g) w q w' := by
  have hmx : max c 1 = ((times c : Nat) : Int) := by unfold times; omega
  have hN : times c ≤ 999 := by unfold times; omega
  unfold dne
  by_cases h0 : o = 0
  · subst h0
    rw [if_neg (by decide)]
    by_cases h1 : v = 112
    · subst h1
      rw [if_pos (.inl rfl)]
      exact dn_p a cap vs R c r g w P hP h hr hk0 hkl hz _ hmx hN _ rfl
    by_cases h2 : v = 80
    · subst h2
      rw [if_pos (.inr rfl)]
      exact dn_gP a cap vs R c r g w P hP h hr hk0 hkl hz _ hmx hN _ rfl
    rw [if_neg (by omega)]
    by_cases h3 : v = 126
    · subst h3
      rw [if_pos rfl]
      exact dn_t a cap vs R c r g w P hP h hr hk0 hkl hz _ hmx hN _ rfl
    rw [if_neg h3]
    by_cases h4 : v = 114
    · subst h4
      rw [if_pos rfl]
      exact dn_r a cap vs R c r g w P hP h hr hk0 hkl hz _ hmx hN _ rfl
    rw [if_neg h4]
    by_cases h5 : v = 105
    · subst h5
      rw [if_pos (by decide)]
      exact dn_i a cap vs R c r g w P hP h hr hk0 hkl hz _ rfl
    by_cases h6 : v = 73
    · subst h6
      rw [if_pos (by decide)]
      exact dn_gI a cap vs R c r g w P hP h hr hk0 hkl hz _ rfl
    by_cases h7 : v = 97
    · subst h7
      rw [if_pos (by decide)]
      exact dn_a a cap vs R c r g w P hP h hr hk0 hkl hz _ rfl
    by_cases h8 : v = 65
    · subst h8
      rw [if_pos (by decide)]
      exact dn_gA a cap vs R c r g w P hP h hr hk0 hkl hz _ rfl
    by_cases h9 : v = 82
    · subst h9
      rw [if_pos (by decide)]
      exact dn_gR a cap vs R c r g w P hP h hr hk0 hkl hz _ rfl
    rw [if_neg (by omega)]
    exact dn_mv a cap vs R c r v g w P hP h hr hk0 hkl hz (by simpa using h1) (by simpa using h2) (by simpa using h3) (by simpa using h4) (by simpa using h5) (by simpa using h6) (by simpa using h7) (by simpa using h8) (by simpa using h9) _ rfl
  · rw [if_pos h0]
    exact dn_op a cap vs R c r o v g w P hP h hr hk0 hkl hz (by omega) _ rfl
end Go.Proofs.Ytpgjaoemkadenab.Seek
