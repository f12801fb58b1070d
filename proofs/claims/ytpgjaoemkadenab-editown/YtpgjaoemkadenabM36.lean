/- The contract of edit.laid. -/
import Derived.Test.YtpgjaoemkadenabM33
import Derived.BigQuiet
set_option linter.unusedVariables false
set_option linter.unusedSimpArgs false
set_option maxRecDepth 100000
namespace Go.Proofs.Ytpgjaoemkadenab.Seek
open Go.RowKit Plain


set_option maxHeartbeats 2000000 in
theorem laid_none (a : Option Addr) (cap : Nat) (vs : List Value) (R : Res) (w : World) (P : Nat → Prop) (hP : ∀ b, w.heap.size ≤ b → P b) (h : Av w P (.slice a R.text.length cap) R.text) (hr : AvR w P vs R.regs) (n : Nat) (nm : Int) (bh : Bool) (hk0 : 0 ≤ R.loc) (hk1 : R.loc ≤ 4096) (hkl : R.loc ≤ lastP R.text.length) (hn : n ≤ 999) (hz : R.text.length ≤ 200) (G : List Int × Int) (hG : getR R.regs nm = G) (he : G.2 ≠ 0) :
    Calls Try.prog 38 #[.agg (resL (.slice a R.text.length cap) R.loc vs R.fk R.fa R.mode (.slice none 0 0)).toArray, .int .i64 nm, .int .i64 (n : Int), .bool bh] w fun q w' => DonePost P (nulR, G.2) w q w' := by
  have HGT : Hid (∀ wx, Below w.heap.size w wx → Calls Try.prog 51 #[arr vs, .int .i64 nm] wx fun q w' => Below wx.heap.size wx w' ∧ ∃ a c, q = .returned (.tuple #[.slice a G.1.length c, .int .i64 G.2]) ∧ Reads w' (.slice a G.1.length c) G.1) := fun wx hx => by
    refine (get_any vs R.regs nm G.2 G.1 wx (hr.1.below hx) (by rw [← hG]; exact getR_is _ _)).mono ?_
    rintro q w' ⟨hb, a, c, e, ho⟩
    exact ⟨hb, a, c, e, ho.reads⟩
  have hGm : G.1.length * 8 ≤ 140737488351232 := (by rw [← hG]; exact getR_is R.regs nm : Got R.regs nm G.2 G.1).mild hr.1
  clear hG
  have hb : (G.2 != 0) = true := by simpa using he
  clear he
  have hvs : vs.length = 27 := hr.len
  have HT : Hid (∀ wx, Below w.heap.size w wx → Av wx (fun b => P b ∧ b < w.heap.size) (.slice a R.text.length cap) R.text) := fun wx hx => (h.both (av_arg h.1)).below hx
  have HRg : Hid (∀ wx, Below w.heap.size w wx → AvR wx (fun b => P b ∧ b < w.heap.size) vs R.regs) := fun wx hx => (hr.both (avR_arg hr.1)).below hx
  have HP : Hid (∀ b, w.heap.size ≤ b → P b) := hP
  have HS : Hid (AllSl vs) := hr.1.1
  clear h hr hP
  go_enter Try.func38, Try.ntmps38
  go_wp2_with (refine boxC rfl 43 _ rfl (resL (.slice a R.text.length cap) R.loc vs R.fk R.fa R.mode (.slice none 0 0)) rfl ?_)
  intro w1 ha hb
  have HB_w1 : Hid (Below w.heap.size w w1) := hb
  have A_w1 : Hid (BoxC w1 43 w.heap.size (resL (.slice a R.text.length cap) R.loc vs R.fk R.fa R.mode (.slice none 0 0))) := ha
  clear ha hb
  go_wp2_with (refine allocC rfl 43 rfl nulL nul_zero ?_)
  intro w2 ha hb
  have HLGZ : Hid (w.heap.size ≤ w1.heap.size ∧ w.heap.size < w1.heap.size) := ⟨HB_w1.out.size, A_w1.out.lt⟩
  have HB_w2 : Hid (Below w.heap.size w w2) := below_trans HB_w1.out hb HB_w1.out.size
  have A_w2 : Hid (BoxC w2 43 w.heap.size (resL (.slice a R.text.length cap) R.loc vs R.fk R.fa R.mode (.slice none 0 0))) := A_w1.out.below hb
  clear A_w1 HB_w1
  have Z_w2 : Hid (BoxC w2 43 w1.heap.size nulL) := ha
  clear ha hb
  generalize w1.heap.size = GZ at *
  have a0 : w2.cell? ⟨w.heap.size, 0, none⟩ = some (.slice a R.text.length cap) := (A_w2.out.cell 0).trans resL_0
  have a1 : w2.cell? ⟨w.heap.size, 1, none⟩ = some (.int .i64 R.loc) := (A_w2.out.cell 1).trans resL_1
  have a29 : w2.cell? ⟨w.heap.size, 29, none⟩ = some (.int .i64 R.fk) := (A_w2.out.cell 29).trans (resL_end (by assumption) 0)
  have a30 : w2.cell? ⟨w.heap.size, 30, none⟩ = some (.int .i64 R.fa) := (A_w2.out.cell 30).trans (resL_end (by assumption) 1)
  go_wp2_with ((refine loadP rfl 43 36 _ rfl w.heap.size 2 rfl (resL (.slice a R.text.length cap) R.loc vs R.fk R.fa R.mode (.slice none 0 0)) vs A_w2.out (by rw [hvs]; exact wide_regs) (fun j v hv => by rw [resL_reg (by assumption) j (by rw [← hvs]; exact (List.getElem?_eq_some_iff.1 hv).1)]; exact hv) ?_))
  go_wp2_with (fail)
  refine (HGT.out _ HB_w2.out).mono ?_
  rintro q w4 ⟨hb4', a4, c4, rfl, hr4⟩
  clear a0 a1 a29 a30
  have HB_w4 : Hid (Below w.heap.size w w4) := below_trans HB_w2.out hb4' HB_w2.out.size
  have A_w4 : Hid (BoxC w4 43 w.heap.size (resL (.slice a R.text.length cap) R.loc vs R.fk R.fa R.mode (.slice none 0 0))) := A_w2.out.below hb4'
  have Z_w4 : Hid (BoxC w4 43 GZ nulL) := Z_w2.out.below hb4'
  clear A_w2 Z_w2 HB_w2
  clear hb4'
  have Y_w4 : Hid (Reads w4 (.slice a4 G.1.length c4) G.1) := hr4
  clear hr4
  clear Y_w4
  go_wp2_with (refine storeC rfl 43 _ _ rfl GZ rfl nulL nulL rfl Z_w4.out wide_res nul_one rfl ?_)
  intro w5 hz hg
  have HB_w5 : Hid (Below w.heap.size w w5) := HB_w4.out.grown hg HB_w4.out.size (fun j hj => by cases hj; exact (by have := HLGZ.out; omega))
  have A_w5 : Hid (BoxC w5 43 w.heap.size (resL (.slice a R.text.length cap) R.loc vs R.fk R.fa R.mode (.slice none 0 0))) := A_w4.out.kept hg (fun e => by have := HLGZ.out; have := Option.some.inj e; omega)
  clear A_w4 Z_w4 HB_w4
  have Z_w5 : Hid (BoxC w5 43 GZ nulL) := hz
  clear hz hg
  go_wp2_with (fail)
  (try simp only [Exit.inBlock, Exit.then])
  refine bodyPost_ret (ret_box rfl _ _ GZ nulL _ rfl rfl Z_w5.out (by first | exact wide_res | (rw [resL_len (by assumption)]; exact wide_res))) rfl ?_
  exact ⟨HB_w5.out, _, nulR, rfl, resAv_nul _ _, fun h => rfl⟩

set_option maxHeartbeats 2000000 in
theorem laid_large (a : Option Addr) (cap : Nat) (vs : List Value) (R : Res) (w : World) (P : Nat → Prop) (hP : ∀ b, w.heap.size ≤ b → P b) (h : Av w P (.slice a R.text.length cap) R.text) (hr : AvR w P vs R.regs) (n : Nat) (nm : Int) (bh : Bool) (hk0 : 0 ≤ R.loc) (hk1 : R.loc ≤ 4096) (hkl : R.loc ≤ lastP R.text.length) (hn : n ≤ 999) (hz : R.text.length ≤ 200) (G : List Int × Int) (hG : getR R.regs nm = G) (he : G.2 = 0) (hl : 200 < R.text.length + n * G.1.length) :
    Calls Try.prog 38 #[.agg (resL (.slice a R.text.length cap) R.loc vs R.fk R.fa R.mode (.slice none 0 0)).toArray, .int .i64 nm, .int .i64 (n : Int), .bool bh] w fun q w' => DonePost P (nulR, 2) w q w' := by
  have HGT : Hid (∀ wx, Below w.heap.size w wx → Calls Try.prog 51 #[arr vs, .int .i64 nm] wx fun q w' => Below wx.heap.size wx w' ∧ ∃ a c, q = .returned (.tuple #[.slice a G.1.length c, .int .i64 G.2]) ∧ Reads w' (.slice a G.1.length c) G.1) := fun wx hx => by
    refine (get_any vs R.regs nm G.2 G.1 wx (hr.1.below hx) (by rw [← hG]; exact getR_is _ _)).mono ?_
    rintro q w' ⟨hb, a, c, e, ho⟩
    exact ⟨hb, a, c, e, ho.reads⟩
  have hGm : G.1.length * 8 ≤ 140737488351232 := (by rw [← hG]; exact getR_is R.regs nm : Got R.regs nm G.2 G.1).mild hr.1
  clear hG
  have HE0 : Hid (G.2 = 0) := he
  clear he
  have hnl : n * G.1.length ≤ 999 * 17592186044416 := Nat.mul_le_mul hn (by omega)
  have hcast : (n : Int) * (G.1.length : Int) = ((n * G.1.length : Nat) : Int) := by rw [Int.natCast_mul]
  have hw1 : IntKind.i64.wrap ((n : Int) * (G.1.length : Int)) = ((n * G.1.length : Nat) : Int) := by rw [IntKind.wrap_i64, hcast]; omega
  obtain ⟨L, hL⟩ : ∃ L, L = n * G.1.length := ⟨_, rfl⟩
  rw [← hL] at hw1 hl hnl
  clear hcast
  have HL : Hid (L = n * G.1.length) := hL
  clear hL
  have hw2 : IntKind.i64.wrap ((R.text.length : Int) + (L : Int)) = (R.text.length : Int) + (L : Int) := by rw [IntKind.wrap_i64]; omega
  have hb2 : (200 : Int) < (R.text.length : Int) + (L : Int) := by omega
  have hvs : vs.length = 27 := hr.len
  have HT : Hid (∀ wx, Below w.heap.size w wx → Av wx (fun b => P b ∧ b < w.heap.size) (.slice a R.text.length cap) R.text) := fun wx hx => (h.both (av_arg h.1)).below hx
  have HRg : Hid (∀ wx, Below w.heap.size w wx → AvR wx (fun b => P b ∧ b < w.heap.size) vs R.regs) := fun wx hx => (hr.both (avR_arg hr.1)).below hx
  have HP : Hid (∀ b, w.heap.size ≤ b → P b) := hP
  have HS : Hid (AllSl vs) := hr.1.1
  clear h hr hP
  go_enter Try.func38, Try.ntmps38
  go_wp2_with (refine boxC rfl 43 _ rfl (resL (.slice a R.text.length cap) R.loc vs R.fk R.fa R.mode (.slice none 0 0)) rfl ?_)
  intro w1 ha hb
  have HB_w1 : Hid (Below w.heap.size w w1) := hb
  have A_w1 : Hid (BoxC w1 43 w.heap.size (resL (.slice a R.text.length cap) R.loc vs R.fk R.fa R.mode (.slice none 0 0))) := ha
  clear ha hb
  go_wp2_with (refine allocC rfl 43 rfl nulL nul_zero ?_)
  intro w2 ha hb
  have HLGZ : Hid (w.heap.size ≤ w1.heap.size ∧ w.heap.size < w1.heap.size) := ⟨HB_w1.out.size, A_w1.out.lt⟩
  have HB_w2 : Hid (Below w.heap.size w w2) := below_trans HB_w1.out hb HB_w1.out.size
  have A_w2 : Hid (BoxC w2 43 w.heap.size (resL (.slice a R.text.length cap) R.loc vs R.fk R.fa R.mode (.slice none 0 0))) := A_w1.out.below hb
  clear A_w1 HB_w1
  have Z_w2 : Hid (BoxC w2 43 w1.heap.size nulL) := ha
  clear ha hb
  generalize w1.heap.size = GZ at *
  have a0 : w2.cell? ⟨w.heap.size, 0, none⟩ = some (.slice a R.text.length cap) := (A_w2.out.cell 0).trans resL_0
  have a1 : w2.cell? ⟨w.heap.size, 1, none⟩ = some (.int .i64 R.loc) := (A_w2.out.cell 1).trans resL_1
  have a29 : w2.cell? ⟨w.heap.size, 29, none⟩ = some (.int .i64 R.fk) := (A_w2.out.cell 29).trans (resL_end (by assumption) 0)
  have a30 : w2.cell? ⟨w.heap.size, 30, none⟩ = some (.int .i64 R.fa) := (A_w2.out.cell 30).trans (resL_end (by assumption) 1)
  go_wp2_with ((refine loadP rfl 43 36 _ rfl w.heap.size 2 rfl (resL (.slice a R.text.length cap) R.loc vs R.fk R.fa R.mode (.slice none 0 0)) vs A_w2.out (by rw [hvs]; exact wide_regs) (fun j v hv => by rw [resL_reg (by assumption) j (by rw [← hvs]; exact (List.getElem?_eq_some_iff.1 hv).1)]; exact hv) ?_))
  go_wp2_with (fail)
  refine (HGT.out _ HB_w2.out).mono ?_
  rintro q w4 ⟨hb4', a4, c4, rfl, hr4⟩
  clear a0 a1 a29 a30
  have HB_w4 : Hid (Below w.heap.size w w4) := below_trans HB_w2.out hb4' HB_w2.out.size
  have A_w4 : Hid (BoxC w4 43 w.heap.size (resL (.slice a R.text.length cap) R.loc vs R.fk R.fa R.mode (.slice none 0 0))) := A_w2.out.below hb4'
  have Z_w4 : Hid (BoxC w4 43 GZ nulL) := Z_w2.out.below hb4'
  clear A_w2 Z_w2 HB_w2
  clear hb4'
  have Y_w4 : Hid (Reads w4 (.slice a4 G.1.length c4) G.1) := hr4
  clear hr4
  rw [HE0.out]
  have a0 : w4.cell? ⟨w.heap.size, 0, none⟩ = some (.slice a R.text.length cap) := (A_w4.out.cell 0).trans resL_0
  have a1 : w4.cell? ⟨w.heap.size, 1, none⟩ = some (.int .i64 R.loc) := (A_w4.out.cell 1).trans resL_1
  have a29 : w4.cell? ⟨w.heap.size, 29, none⟩ = some (.int .i64 R.fk) := (A_w4.out.cell 29).trans (resL_end (by assumption) 0)
  have a30 : w4.cell? ⟨w.heap.size, 30, none⟩ = some (.int .i64 R.fa) := (A_w4.out.cell 30).trans (resL_end (by assumption) 1)
  go_wp2_with (fail)
  go_quiet (fail)
  generalize hq_w5 : w4.drewN _ = w5
  have hb : Below w4.heap.size w4 w5 := by rw [← hq_w5]; exact below_drewN (Below.refl _ _) _
  clear hq_w5
  have HB_w5 : Hid (Below w.heap.size w w5) := below_trans HB_w4.out hb HB_w4.out.size
  have A_w5 : Hid (BoxC w5 43 w.heap.size (resL (.slice a R.text.length cap) R.loc vs R.fk R.fa R.mode (.slice none 0 0))) := A_w4.out.below hb
  have Z_w5 : Hid (BoxC w5 43 GZ nulL) := Z_w4.out.below hb
  have Y_w5 : Hid (Reads w5 (.slice a4 G.1.length c4) G.1) := Y_w4.out.below hb
  clear A_w4 Z_w4 Y_w4 HB_w4
  clear hb
  clear a0 a1 a29 a30
  clear Y_w5
  go_wp2_with (refine storeC rfl 43 _ _ rfl GZ rfl nulL nulL rfl Z_w5.out wide_res nul_one rfl ?_)
  intro w6 hz hg
  have HB_w6 : Hid (Below w.heap.size w w6) := HB_w5.out.grown hg HB_w5.out.size (fun j hj => by cases hj; exact (by have := HLGZ.out; omega))
  have A_w6 : Hid (BoxC w6 43 w.heap.size (resL (.slice a R.text.length cap) R.loc vs R.fk R.fa R.mode (.slice none 0 0))) := A_w5.out.kept hg (fun e => by have := HLGZ.out; have := Option.some.inj e; omega)
  clear A_w5 Z_w5 HB_w5
  have Z_w6 : Hid (BoxC w6 43 GZ nulL) := hz
  clear hz hg
  go_wp2_with (fail)
  (try simp only [Exit.inBlock, Exit.then])
  refine bodyPost_ret (ret_box rfl _ _ GZ nulL _ rfl rfl Z_w6.out (by first | exact wide_res | (rw [resL_len (by assumption)]; exact wide_res))) rfl ?_
  exact ⟨HB_w6.out, _, nulR, rfl, resAv_nul _ _, fun h => rfl⟩

set_option maxHeartbeats 2000000 in
theorem laid_behind (a : Option Addr) (cap : Nat) (vs : List Value) (R : Res) (w : World) (P : Nat → Prop) (hP : ∀ b, w.heap.size ≤ b → P b) (h : Av w P (.slice a R.text.length cap) R.text) (hr : AvR w P vs R.regs) (n : Nat) (nm : Int) (hk0 : 0 ≤ R.loc) (hk1 : R.loc ≤ 4096) (hkl : R.loc ≤ lastP R.text.length) (hn : n ≤ 999) (hz : R.text.length ≤ 200) (G : List Int × Int) (hG : getR R.regs nm = G) (he : G.2 = 0) (hl : R.text.length + n * G.1.length ≤ 200) (hne : R.text ≠ []) (T : List Int) (hT : wit R.text (R.loc.toNat + 1) (R.loc.toNat + 1) (rep n G.1) = T) (hTl : T.length ≤ 200) :
    Calls Try.prog 38 #[.agg (resL (.slice a R.text.length cap) R.loc vs R.fk R.fa R.mode (.slice none 0 0)).toArray, .int .i64 nm, .int .i64 (n : Int), .bool true] w fun q w' => DonePost P ({ R with text := T, loc := ((R.loc.toNat + 1 : Nat) : Int) + ((n * G.1.length : Nat) : Int) - 1 }, 0) w q w' := by
  have HGT : Hid (∀ wx, Below w.heap.size w wx → Calls Try.prog 51 #[arr vs, .int .i64 nm] wx fun q w' => Below wx.heap.size wx w' ∧ ∃ a c, q = .returned (.tuple #[.slice a G.1.length c, .int .i64 G.2]) ∧ Reads w' (.slice a G.1.length c) G.1) := fun wx hx => by
    refine (get_any vs R.regs nm G.2 G.1 wx (hr.1.below hx) (by rw [← hG]; exact getR_is _ _)).mono ?_
    rintro q w' ⟨hb, a, c, e, ho⟩
    exact ⟨hb, a, c, e, ho.reads⟩
  have hGm : G.1.length * 8 ≤ 140737488351232 := (by rw [← hG]; exact getR_is R.regs nm : Got R.regs nm G.2 G.1).mild hr.1
  clear hG
  have HE0 : Hid (G.2 = 0) := he
  clear he
  have hnl : n * G.1.length ≤ 999 * 17592186044416 := Nat.mul_le_mul hn (by omega)
  have hcast : (n : Int) * (G.1.length : Int) = ((n * G.1.length : Nat) : Int) := by rw [Int.natCast_mul]
  have hw1 : IntKind.i64.wrap ((n : Int) * (G.1.length : Int)) = ((n * G.1.length : Nat) : Int) := by rw [IntKind.wrap_i64, hcast]; omega
  obtain ⟨L, hL⟩ : ∃ L, L = n * G.1.length := ⟨_, rfl⟩
  rw [← hL] at hw1 hl hnl ⊢
  clear hcast
  have HL : Hid (L = n * G.1.length) := hL
  clear hL
  have hw2 : IntKind.i64.wrap ((R.text.length : Int) + (L : Int)) = (R.text.length : Int) + (L : Int) := by rw [IntKind.wrap_i64]; omega
  have hb2 : ¬ (200 : Int) < (R.text.length : Int) + (L : Int) := by omega
  have hlen : R.text.length ≠ 0 := fun e => hne (List.length_eq_zero_iff.1 e)
  have hb3 : decide ((0 : Int) < (R.text.length : Int)) = true := decide_eq_true (by omega)
  have hb4 : (0 : Int) < (R.text.length : Int) := by omega
  have hw3 : IntKind.i64.wrap (R.loc + 1) = R.loc + 1 := by rw [IntKind.wrap_i64]; omega
  have hbd : R.loc.toNat + 1 ≤ R.text.length := by have : lastP R.text.length = ((R.text.length - 1 : Nat) : Int) := rfl; omega
  have hw4 : IntKind.i64.wrap ((R.loc + 1) + (L : Int)) = (R.loc + 1) + (L : Int) := by rw [IntKind.wrap_i64]; omega
  have hw5 : IntKind.i64.wrap ((R.loc + 1) + (L : Int) - 1) = (R.loc + 1) + (L : Int) - 1 := by rw [IntKind.wrap_i64]; omega
  obtain ⟨X, hX⟩ : ∃ X, X = rep n G.1 := ⟨_, rfl⟩
  rw [← hX] at hT
  have hXl : X.length = L := by rw [hX, rep_len]; exact HL.out.symm
  have HRP : Hid (∀ (wx : World) pv, Reads wx pv G.1 → Calls Try.prog 11 #[pv, .int .i64 (n : Int)] wx fun e w' => ConcatPost X wx e w') := fun wx pv hp => by rw [hX]; exact repeat_any _ G.1 n wx hp (by have := HL.out; omega) (by omega)
  have HWC : Hid (∀ wx, Below w.heap.size w wx → ∀ pv, Reads wx pv X → Calls Try.prog 45 #[.slice a R.text.length cap, .int .i64 (R.loc + 1), .int .i64 (R.loc + 1), pv] wx fun e w' => ConcatPost T wx e w') := fun wx hx pv hp => by
    have q := with_go _ _ R.text X (R.loc.toNat + 1) (R.loc.toNat + 1) wx (h.below hx).1 hp (Nat.le_refl _) hbd (by omega) (by omega)
    rw [hT, show (((R.loc.toNat + 1) : Nat) : Int) = (R.loc + 1) by omega] at q
    exact q
  have HAT : Hid ((((R.loc.toNat + 1) : Nat) : Int) = (R.loc + 1)) := by show _ = _; omega
  clear hT hX hXl hne hlen
  rw [HAT.out]
  clear HAT
  have hvs : vs.length = 27 := hr.len
  have HT : Hid (∀ wx, Below w.heap.size w wx → Av wx (fun b => P b ∧ b < w.heap.size) (.slice a R.text.length cap) R.text) := fun wx hx => (h.both (av_arg h.1)).below hx
  have HRg : Hid (∀ wx, Below w.heap.size w wx → AvR wx (fun b => P b ∧ b < w.heap.size) vs R.regs) := fun wx hx => (hr.both (avR_arg hr.1)).below hx
  have HP : Hid (∀ b, w.heap.size ≤ b → P b) := hP
  have HS : Hid (AllSl vs) := hr.1.1
  clear h hr hP
  go_enter Try.func38, Try.ntmps38
  go_wp2_with (refine boxC rfl 43 _ rfl (resL (.slice a R.text.length cap) R.loc vs R.fk R.fa R.mode (.slice none 0 0)) rfl ?_)
  intro w1 ha hb
  have HB_w1 : Hid (Below w.heap.size w w1) := hb
  have A_w1 : Hid (BoxC w1 43 w.heap.size (resL (.slice a R.text.length cap) R.loc vs R.fk R.fa R.mode (.slice none 0 0))) := ha
  clear ha hb
  go_wp2_with (refine allocC rfl 43 rfl nulL nul_zero ?_)
  intro w2 ha hb
  have HLGZ : Hid (w.heap.size ≤ w1.heap.size ∧ w.heap.size < w1.heap.size) := ⟨HB_w1.out.size, A_w1.out.lt⟩
  have HB_w2 : Hid (Below w.heap.size w w2) := below_trans HB_w1.out hb HB_w1.out.size
  have A_w2 : Hid (BoxC w2 43 w.heap.size (resL (.slice a R.text.length cap) R.loc vs R.fk R.fa R.mode (.slice none 0 0))) := A_w1.out.below hb
  clear A_w1 HB_w1
  have Z_w2 : Hid (BoxC w2 43 w1.heap.size nulL) := ha
  clear ha hb
  generalize w1.heap.size = GZ at *
  have a0 : w2.cell? ⟨w.heap.size, 0, none⟩ = some (.slice a R.text.length cap) := (A_w2.out.cell 0).trans resL_0
  have a1 : w2.cell? ⟨w.heap.size, 1, none⟩ = some (.int .i64 R.loc) := (A_w2.out.cell 1).trans resL_1
  have a29 : w2.cell? ⟨w.heap.size, 29, none⟩ = some (.int .i64 R.fk) := (A_w2.out.cell 29).trans (resL_end (by assumption) 0)
  have a30 : w2.cell? ⟨w.heap.size, 30, none⟩ = some (.int .i64 R.fa) := (A_w2.out.cell 30).trans (resL_end (by assumption) 1)
  go_wp2_with ((refine loadP rfl 43 36 _ rfl w.heap.size 2 rfl (resL (.slice a R.text.length cap) R.loc vs R.fk R.fa R.mode (.slice none 0 0)) vs A_w2.out (by rw [hvs]; exact wide_regs) (fun j v hv => by rw [resL_reg (by assumption) j (by rw [← hvs]; exact (List.getElem?_eq_some_iff.1 hv).1)]; exact hv) ?_))
  go_wp2_with (fail)
  refine (HGT.out _ HB_w2.out).mono ?_
  rintro q w4 ⟨hb4', a4, c4, rfl, hr4⟩
  clear a0 a1 a29 a30
  have HB_w4 : Hid (Below w.heap.size w w4) := below_trans HB_w2.out hb4' HB_w2.out.size
  have A_w4 : Hid (BoxC w4 43 w.heap.size (resL (.slice a R.text.length cap) R.loc vs R.fk R.fa R.mode (.slice none 0 0))) := A_w2.out.below hb4'
  have Z_w4 : Hid (BoxC w4 43 GZ nulL) := Z_w2.out.below hb4'
  clear A_w2 Z_w2 HB_w2
  clear hb4'
  have Y_w4 : Hid (Reads w4 (.slice a4 G.1.length c4) G.1) := hr4
  clear hr4
  rw [HE0.out]
  have a0 : w4.cell? ⟨w.heap.size, 0, none⟩ = some (.slice a R.text.length cap) := (A_w4.out.cell 0).trans resL_0
  have a1 : w4.cell? ⟨w.heap.size, 1, none⟩ = some (.int .i64 R.loc) := (A_w4.out.cell 1).trans resL_1
  have a29 : w4.cell? ⟨w.heap.size, 29, none⟩ = some (.int .i64 R.fk) := (A_w4.out.cell 29).trans (resL_end (by assumption) 0)
  have a30 : w4.cell? ⟨w.heap.size, 30, none⟩ = some (.int .i64 R.fa) := (A_w4.out.cell 30).trans (resL_end (by assumption) 1)
  go_wp2_with (fail)
  go_quiet (fail)
  generalize hq_w5 : w4.drewN _ = w5
  have hb : Below w4.heap.size w4 w5 := by rw [← hq_w5]; exact below_drewN (Below.refl _ _) _
  clear hq_w5
  have HB_w5 : Hid (Below w.heap.size w w5) := below_trans HB_w4.out hb HB_w4.out.size
  have A_w5 : Hid (BoxC w5 43 w.heap.size (resL (.slice a R.text.length cap) R.loc vs R.fk R.fa R.mode (.slice none 0 0))) := A_w4.out.below hb
  have Z_w5 : Hid (BoxC w5 43 GZ nulL) := Z_w4.out.below hb
  have Y_w5 : Hid (Reads w5 (.slice a4 G.1.length c4) G.1) := Y_w4.out.below hb
  clear A_w4 Z_w4 Y_w4 HB_w4
  clear hb
  clear a0 a1 a29 a30
  obtain ⟨B4, hB4⟩ : ∃ B4, B4 = w5.heap.size := ⟨_, rfl⟩
  have H4N : Hid (B4 ≤ w5.heap.size) := Nat.le_of_eq hB4
  have hy := av_arg Y_w5.out
  rw [← hB4] at hy
  clear hB4
  clear Y_w5
  have Y_w5 : Hid (Av w5 (fun b => b < B4) (.slice a4 G.1.length c4) G.1) := hy
  clear hy
  go_wp2_with (first | (refine loadC rfl 43 _ rfl w.heap.size rfl (resL (.slice a R.text.length cap) R.loc vs R.fk R.fa R.mode (.slice none 0 0)) A_w5.out (by rw [resL_len (by assumption)]; exact wide_res) ?_) | (refine allocC rfl 43 rfl nulL nul_zero ?_))
  intro w6 ha hb
  have HLGN : Hid (w.heap.size ≤ w5.heap.size ∧ w.heap.size < w5.heap.size ∧ GZ < w5.heap.size) := ⟨HB_w5.out.size, A_w5.out.lt, Z_w5.out.lt⟩
  have HB_w6 : Hid (Below w.heap.size w w6) := below_trans HB_w5.out hb HB_w5.out.size
  have A_w6 : Hid (BoxC w6 43 w.heap.size (resL (.slice a R.text.length cap) R.loc vs R.fk R.fa R.mode (.slice none 0 0))) := A_w5.out.below hb
  have Z_w6 : Hid (BoxC w6 43 GZ nulL) := Z_w5.out.below hb
  have Y_w6 : Hid (Av w6 (fun b => b < B4) (.slice a4 G.1.length c4) G.1) := Y_w5.out.below hb
  clear A_w5 Z_w5 Y_w5 HB_w5
  have N_w6 : Hid (BoxC w6 43 w5.heap.size nulL) := ha
  clear ha hb
  generalize w5.heap.size = GN at *
  go_wp2_with (refine storeC rfl 43 _ _ rfl GN rfl nulL (resL (.slice a R.text.length cap) R.loc vs R.fk R.fa R.mode (.slice none 0 0)) rfl N_w6.out (by rw [resL_len (by assumption)]; exact wide_res) (resL_one HS.out rfl rfl) (by rw [nul_len, resL_len (by assumption)]) ?_)
  intro w7 hz hg
  have HB_w7 : Hid (Below w.heap.size w w7) := HB_w6.out.grown hg HB_w6.out.size (fun j hj => by cases hj; exact (by have := HLGN.out; omega))
  have A_w7 : Hid (BoxC w7 43 w.heap.size (resL (.slice a R.text.length cap) R.loc vs R.fk R.fa R.mode (.slice none 0 0))) := A_w6.out.kept hg (fun e => by have := HLGN.out; have := Option.some.inj e; omega)
  have Z_w7 : Hid (BoxC w7 43 GZ nulL) := Z_w6.out.kept hg (fun e => by have := HLGN.out; have := HLGZ.out; have := Option.some.inj e; omega)
  have Y_w7 : Hid (Av w7 (fun b => b < B4) (.slice a4 G.1.length c4) G.1) := Y_w6.out.stored hg (by have := H4N.out; show ¬ (GN < B4); omega)
  clear A_w6 Z_w6 Y_w6 N_w6 HB_w6
  have N_w7 : Hid (BoxC w7 43 GN (resL (.slice a R.text.length cap) R.loc vs R.fk R.fa R.mode (.slice none 0 0))) := hz
  clear hz hg
  go_wp2_with (fail)
  refine (HRP.out _ _ Y_w7.out.1).mono ?_
  rintro q w8 ⟨hb, v7, rfl, ho7⟩
  have hr7 := ho7.reads
  obtain ⟨a7, c7, rfl⟩ := hr7.shape
  clear ho7
  clear Y_w7
  have HB_w8 : Hid (Below w.heap.size w w8) := below_trans HB_w7.out hb HB_w7.out.size
  have A_w8 : Hid (BoxC w8 43 w.heap.size (resL (.slice a R.text.length cap) R.loc vs R.fk R.fa R.mode (.slice none 0 0))) := A_w7.out.below hb
  have Z_w8 : Hid (BoxC w8 43 GZ nulL) := Z_w7.out.below hb
  have N_w8 : Hid (BoxC w8 43 GN (resL (.slice a R.text.length cap) R.loc vs R.fk R.fa R.mode (.slice none 0 0))) := N_w7.out.below hb
  clear A_w7 Z_w7 N_w7 HB_w7
  clear hb
  have X_w8 : Hid (Reads w8 (.slice a7 X.length c7) X) := hr7
  clear hr7
  go_wp2_with (fail)
  refine (HWC.out _ HB_w8.out _ X_w8.out).mono ?_
  rintro q w9 ⟨hb, vo, rfl, ho⟩
  obtain ⟨a2, c2, rfl⟩ := ho.reads.shape
  obtain ⟨B0, hB0⟩ : ∃ B0, B0 = w8.heap.size := ⟨_, rfl⟩
  have HLB0 : Hid (w.heap.size ≤ B0 ∧ w.heap.size < B0 ∧ GZ < B0 ∧ GN < B0) := by rw [hB0]; exact ⟨HB_w8.out.size, A_w8.out.lt, Z_w8.out.lt, N_w8.out.lt⟩
  have ho2 := av_own ho
  rw [← hB0] at ho2
  clear ho hB0
  have HB_w9 : Hid (Below w.heap.size w w9) := below_trans HB_w8.out hb HB_w8.out.size
  have A_w9 : Hid (BoxC w9 43 w.heap.size (resL (.slice a R.text.length cap) R.loc vs R.fk R.fa R.mode (.slice none 0 0))) := A_w8.out.below hb
  have Z_w9 : Hid (BoxC w9 43 GZ nulL) := Z_w8.out.below hb
  have N_w9 : Hid (BoxC w9 43 GN (resL (.slice a R.text.length cap) R.loc vs R.fk R.fa R.mode (.slice none 0 0))) := N_w8.out.below hb
  have X_w9 : Hid (Reads w9 (.slice a7 X.length c7) X) := X_w8.out.below hb
  clear A_w8 Z_w8 N_w8 X_w8 HB_w8
  clear hb
  have O_w9 : Hid (Av w9 (fun b => B0 ≤ b) (.slice a2 T.length c2) T) := ho2
  clear ho2
  clear X_w9
  go_wp2_with (refine storeP rfl 43 24 _ _ rfl GN 0 rfl (resL (.slice a R.text.length cap) R.loc vs R.fk R.fa R.mode (.slice none 0 0)) [(.slice a2 T.length c2), .int .i64 ((R.loc + 1) + (L : Int) - 1)] (resL (.slice a2 T.length c2) ((R.loc + 1) + (L : Int) - 1) vs R.fk R.fa R.mode (.slice none 0 0)) rfl N_w9.out wide_line (fun v hv => by simp at hv; rcases hv with rfl | rfl <;> rfl) (by rw [resL_len (by assumption)]; show 0 + 2 ≤ 33; decide) (resL_line _ _) ?_)
  intro w10 hz hg
  have HB_w10 : Hid (Below w.heap.size w w10) := HB_w9.out.grown hg HB_w9.out.size (fun j hj => by cases hj; exact (by have := HLGN.out; omega))
  have A_w10 : Hid (BoxC w10 43 w.heap.size (resL (.slice a R.text.length cap) R.loc vs R.fk R.fa R.mode (.slice none 0 0))) := A_w9.out.kept hg (fun e => by have := HLGN.out; have := Option.some.inj e; omega)
  have Z_w10 : Hid (BoxC w10 43 GZ nulL) := Z_w9.out.kept hg (fun e => by have := HLGN.out; have := HLGZ.out; have := Option.some.inj e; omega)
  have O_w10 : Hid (Av w10 (fun b => B0 ≤ b) (.slice a2 T.length c2) T) := O_w9.out.stored hg (by have := HLB0.out; show ¬ (B0 ≤ GN); omega)
  clear A_w9 Z_w9 N_w9 O_w9 HB_w9
  have N_w10 : Hid (BoxC w10 43 GN (resL (.slice a2 T.length c2) ((R.loc + 1) + (L : Int) - 1) vs R.fk R.fa R.mode (.slice none 0 0))) := hz
  clear hz hg
  go_wp2_with (first | (refine loadC rfl 43 _ rfl GN rfl (resL (.slice a2 T.length c2) ((R.loc + 1) + (L : Int) - 1) vs R.fk R.fa R.mode (.slice none 0 0)) N_w10.out (by rw [resL_len (by assumption)]; exact wide_res) ?_) | (refine storeC rfl 43 _ _ rfl GZ rfl nulL (resL (.slice a2 T.length c2) ((R.loc + 1) + (L : Int) - 1) vs R.fk R.fa R.mode (.slice none 0 0)) rfl Z_w10.out (by rw [resL_len (by assumption)]; exact wide_res) (resL_one HS.out rfl rfl) (by rw [nul_len, resL_len (by assumption)]) ?_))
  intro w11 hz hg
  have HB_w11 : Hid (Below w.heap.size w w11) := HB_w10.out.grown hg HB_w10.out.size (fun j hj => by cases hj; exact (by have := HLGZ.out; omega))
  have A_w11 : Hid (BoxC w11 43 w.heap.size (resL (.slice a R.text.length cap) R.loc vs R.fk R.fa R.mode (.slice none 0 0))) := A_w10.out.kept hg (fun e => by have := HLGZ.out; have := Option.some.inj e; omega)
  have N_w11 : Hid (BoxC w11 43 GN (resL (.slice a2 T.length c2) ((R.loc + 1) + (L : Int) - 1) vs R.fk R.fa R.mode (.slice none 0 0))) := N_w10.out.kept hg (fun e => by have := HLGZ.out; have := HLGN.out; have := Option.some.inj e; omega)
  have O_w11 : Hid (Av w11 (fun b => B0 ≤ b) (.slice a2 T.length c2) T) := O_w10.out.stored hg (by have := HLB0.out; show ¬ (B0 ≤ GZ); omega)
  clear A_w10 Z_w10 N_w10 O_w10 HB_w10
  have Z_w11 : Hid (BoxC w11 43 GZ (resL (.slice a2 T.length c2) ((R.loc + 1) + (L : Int) - 1) vs R.fk R.fa R.mode (.slice none 0 0))) := hz
  clear hz hg
  go_wp2_with (fail)
  (try simp only [Exit.inBlock, Exit.then])
  refine bodyPost_ret (ret_box rfl _ _ GZ (resL (.slice a2 T.length c2) ((R.loc + 1) + (L : Int) - 1) vs R.fk R.fa R.mode (.slice none 0 0)) _ rfl rfl Z_w11.out (by first | exact wide_res | (rw [resL_len (by assumption)]; exact wide_res))) rfl ?_
  exact ⟨HB_w11.out, _, { R with text := T, loc := ((R.loc + 1) + (L : Int) - 1) }, rfl, ⟨a2, c2, vs, rfl, (O_w11.out.weak (fun b hb => HP.out _ (Nat.le_trans HLB0.out.1 hb))), ((HRg.out _ HB_w11.out).weak (fun b hb => hb.1))⟩, fun _ => rfl⟩

set_option maxHeartbeats 2000000 in
theorem laid_empty (a : Option Addr) (cap : Nat) (vs : List Value) (R : Res) (w : World) (P : Nat → Prop) (hP : ∀ b, w.heap.size ≤ b → P b) (h : Av w P (.slice a R.text.length cap) R.text) (hr : AvR w P vs R.regs) (n : Nat) (nm : Int) (hk0 : 0 ≤ R.loc) (hk1 : R.loc ≤ 4096) (hkl : R.loc ≤ lastP R.text.length) (hn : n ≤ 999) (hz : R.text.length ≤ 200) (G : List Int × Int) (hG : getR R.regs nm = G) (he : G.2 = 0) (hl : R.text.length + n * G.1.length ≤ 200) (hem : R.text.length = 0) (T : List Int) (hT : wit R.text R.loc.toNat R.loc.toNat (rep n G.1) = T) (hTl : T.length ≤ 200) :
    Calls Try.prog 38 #[.agg (resL (.slice a R.text.length cap) R.loc vs R.fk R.fa R.mode (.slice none 0 0)).toArray, .int .i64 nm, .int .i64 (n : Int), .bool true] w fun q w' => DonePost P ({ R with text := T, loc := ((R.loc.toNat : Nat) : Int) + ((n * G.1.length : Nat) : Int) - 1 }, 0) w q w' := by
  have HGT : Hid (∀ wx, Below w.heap.size w wx → Calls Try.prog 51 #[arr vs, .int .i64 nm] wx fun q w' => Below wx.heap.size wx w' ∧ ∃ a c, q = .returned (.tuple #[.slice a G.1.length c, .int .i64 G.2]) ∧ Reads w' (.slice a G.1.length c) G.1) := fun wx hx => by
    refine (get_any vs R.regs nm G.2 G.1 wx (hr.1.below hx) (by rw [← hG]; exact getR_is _ _)).mono ?_
    rintro q w' ⟨hb, a, c, e, ho⟩
    exact ⟨hb, a, c, e, ho.reads⟩
  have hGm : G.1.length * 8 ≤ 140737488351232 := (by rw [← hG]; exact getR_is R.regs nm : Got R.regs nm G.2 G.1).mild hr.1
  clear hG
  have HE0 : Hid (G.2 = 0) := he
  clear he
  have hnl : n * G.1.length ≤ 999 * 17592186044416 := Nat.mul_le_mul hn (by omega)
  have hcast : (n : Int) * (G.1.length : Int) = ((n * G.1.length : Nat) : Int) := by rw [Int.natCast_mul]
  have hw1 : IntKind.i64.wrap ((n : Int) * (G.1.length : Int)) = ((n * G.1.length : Nat) : Int) := by rw [IntKind.wrap_i64, hcast]; omega
  obtain ⟨L, hL⟩ : ∃ L, L = n * G.1.length := ⟨_, rfl⟩
  rw [← hL] at hw1 hl hnl ⊢
  clear hcast
  have HL : Hid (L = n * G.1.length) := hL
  clear hL
  have hw2 : IntKind.i64.wrap ((R.text.length : Int) + (L : Int)) = (R.text.length : Int) + (L : Int) := by rw [IntKind.wrap_i64]; omega
  have hb2 : ¬ (200 : Int) < (R.text.length : Int) + (L : Int) := by omega
  have hb3 : decide ((0 : Int) < (R.text.length : Int)) = false := decide_eq_false (by omega)
  have hb4 : ¬ (0 : Int) < (R.text.length : Int) := by omega
  have hbd : R.loc.toNat ≤ R.text.length := by have : lastP R.text.length = ((R.text.length - 1 : Nat) : Int) := rfl; omega
  have hw4 : IntKind.i64.wrap (R.loc + (L : Int)) = R.loc + (L : Int) := by rw [IntKind.wrap_i64]; omega
  have hw5 : IntKind.i64.wrap (R.loc + (L : Int) - 1) = R.loc + (L : Int) - 1 := by rw [IntKind.wrap_i64]; omega
  obtain ⟨X, hX⟩ : ∃ X, X = rep n G.1 := ⟨_, rfl⟩
  rw [← hX] at hT
  have hXl : X.length = L := by rw [hX, rep_len]; exact HL.out.symm
  have HRP : Hid (∀ (wx : World) pv, Reads wx pv G.1 → Calls Try.prog 11 #[pv, .int .i64 (n : Int)] wx fun e w' => ConcatPost X wx e w') := fun wx pv hp => by rw [hX]; exact repeat_any _ G.1 n wx hp (by have := HL.out; omega) (by omega)
  have HWC : Hid (∀ wx, Below w.heap.size w wx → ∀ pv, Reads wx pv X → Calls Try.prog 45 #[.slice a R.text.length cap, .int .i64 R.loc, .int .i64 R.loc, pv] wx fun e w' => ConcatPost T wx e w') := fun wx hx pv hp => by
    have q := with_go _ _ R.text X R.loc.toNat R.loc.toNat wx (h.below hx).1 hp (Nat.le_refl _) hbd (by omega) (by omega)
    rw [hT, show ((R.loc.toNat : Nat) : Int) = R.loc by omega] at q
    exact q
  have HAT : Hid (((R.loc.toNat : Nat) : Int) = R.loc) := by show _ = _; omega
  clear hT hX hXl hem
  rw [HAT.out]
  clear HAT
  have hvs : vs.length = 27 := hr.len
  have HT : Hid (∀ wx, Below w.heap.size w wx → Av wx (fun b => P b ∧ b < w.heap.size) (.slice a R.text.length cap) R.text) := fun wx hx => (h.both (av_arg h.1)).below hx
  have HRg : Hid (∀ wx, Below w.heap.size w wx → AvR wx (fun b => P b ∧ b < w.heap.size) vs R.regs) := fun wx hx => (hr.both (avR_arg hr.1)).below hx
  have HP : Hid (∀ b, w.heap.size ≤ b → P b) := hP
  have HS : Hid (AllSl vs) := hr.1.1
  clear h hr hP
  go_enter Try.func38, Try.ntmps38
  go_wp2_with (refine boxC rfl 43 _ rfl (resL (.slice a R.text.length cap) R.loc vs R.fk R.fa R.mode (.slice none 0 0)) rfl ?_)
  intro w1 ha hb
  have HB_w1 : Hid (Below w.heap.size w w1) := hb
  have A_w1 : Hid (BoxC w1 43 w.heap.size (resL (.slice a R.text.length cap) R.loc vs R.fk R.fa R.mode (.slice none 0 0))) := ha
  clear ha hb
  go_wp2_with (refine allocC rfl 43 rfl nulL nul_zero ?_)
  intro w2 ha hb
  have HLGZ : Hid (w.heap.size ≤ w1.heap.size ∧ w.heap.size < w1.heap.size) := ⟨HB_w1.out.size, A_w1.out.lt⟩
  have HB_w2 : Hid (Below w.heap.size w w2) := below_trans HB_w1.out hb HB_w1.out.size
  have A_w2 : Hid (BoxC w2 43 w.heap.size (resL (.slice a R.text.length cap) R.loc vs R.fk R.fa R.mode (.slice none 0 0))) := A_w1.out.below hb
  clear A_w1 HB_w1
  have Z_w2 : Hid (BoxC w2 43 w1.heap.size nulL) := ha
  clear ha hb
  generalize w1.heap.size = GZ at *
  have a0 : w2.cell? ⟨w.heap.size, 0, none⟩ = some (.slice a R.text.length cap) := (A_w2.out.cell 0).trans resL_0
  have a1 : w2.cell? ⟨w.heap.size, 1, none⟩ = some (.int .i64 R.loc) := (A_w2.out.cell 1).trans resL_1
  have a29 : w2.cell? ⟨w.heap.size, 29, none⟩ = some (.int .i64 R.fk) := (A_w2.out.cell 29).trans (resL_end (by assumption) 0)
  have a30 : w2.cell? ⟨w.heap.size, 30, none⟩ = some (.int .i64 R.fa) := (A_w2.out.cell 30).trans (resL_end (by assumption) 1)
  go_wp2_with ((refine loadP rfl 43 36 _ rfl w.heap.size 2 rfl (resL (.slice a R.text.length cap) R.loc vs R.fk R.fa R.mode (.slice none 0 0)) vs A_w2.out (by rw [hvs]; exact wide_regs) (fun j v hv => by rw [resL_reg (by assumption) j (by rw [← hvs]; exact (List.getElem?_eq_some_iff.1 hv).1)]; exact hv) ?_))
  go_wp2_with (fail)
  refine (HGT.out _ HB_w2.out).mono ?_
  rintro q w4 ⟨hb4', a4, c4, rfl, hr4⟩
  clear a0 a1 a29 a30
  have HB_w4 : Hid (Below w.heap.size w w4) := below_trans HB_w2.out hb4' HB_w2.out.size
  have A_w4 : Hid (BoxC w4 43 w.heap.size (resL (.slice a R.text.length cap) R.loc vs R.fk R.fa R.mode (.slice none 0 0))) := A_w2.out.below hb4'
  have Z_w4 : Hid (BoxC w4 43 GZ nulL) := Z_w2.out.below hb4'
  clear A_w2 Z_w2 HB_w2
  clear hb4'
  have Y_w4 : Hid (Reads w4 (.slice a4 G.1.length c4) G.1) := hr4
  clear hr4
  rw [HE0.out]
  have a0 : w4.cell? ⟨w.heap.size, 0, none⟩ = some (.slice a R.text.length cap) := (A_w4.out.cell 0).trans resL_0
  have a1 : w4.cell? ⟨w.heap.size, 1, none⟩ = some (.int .i64 R.loc) := (A_w4.out.cell 1).trans resL_1
  have a29 : w4.cell? ⟨w.heap.size, 29, none⟩ = some (.int .i64 R.fk) := (A_w4.out.cell 29).trans (resL_end (by assumption) 0)
  have a30 : w4.cell? ⟨w.heap.size, 30, none⟩ = some (.int .i64 R.fa) := (A_w4.out.cell 30).trans (resL_end (by assumption) 1)
  go_wp2_with (fail)
  go_quiet (fail)
  generalize hq_w5 : w4.drewN _ = w5
  have hb : Below w4.heap.size w4 w5 := by rw [← hq_w5]; exact below_drewN (Below.refl _ _) _
  clear hq_w5
  have HB_w5 : Hid (Below w.heap.size w w5) := below_trans HB_w4.out hb HB_w4.out.size
  have A_w5 : Hid (BoxC w5 43 w.heap.size (resL (.slice a R.text.length cap) R.loc vs R.fk R.fa R.mode (.slice none 0 0))) := A_w4.out.below hb
  have Z_w5 : Hid (BoxC w5 43 GZ nulL) := Z_w4.out.below hb
  have Y_w5 : Hid (Reads w5 (.slice a4 G.1.length c4) G.1) := Y_w4.out.below hb
  clear A_w4 Z_w4 Y_w4 HB_w4
  clear hb
  clear a0 a1 a29 a30
  obtain ⟨B4, hB4⟩ : ∃ B4, B4 = w5.heap.size := ⟨_, rfl⟩
  have H4N : Hid (B4 ≤ w5.heap.size) := Nat.le_of_eq hB4
  have hy := av_arg Y_w5.out
  rw [← hB4] at hy
  clear hB4
  clear Y_w5
  have Y_w5 : Hid (Av w5 (fun b => b < B4) (.slice a4 G.1.length c4) G.1) := hy
  clear hy
  go_wp2_with (first | (refine loadC rfl 43 _ rfl w.heap.size rfl (resL (.slice a R.text.length cap) R.loc vs R.fk R.fa R.mode (.slice none 0 0)) A_w5.out (by rw [resL_len (by assumption)]; exact wide_res) ?_) | (refine allocC rfl 43 rfl nulL nul_zero ?_))
  intro w6 ha hb
  have HLGN : Hid (w.heap.size ≤ w5.heap.size ∧ w.heap.size < w5.heap.size ∧ GZ < w5.heap.size) := ⟨HB_w5.out.size, A_w5.out.lt, Z_w5.out.lt⟩
  have HB_w6 : Hid (Below w.heap.size w w6) := below_trans HB_w5.out hb HB_w5.out.size
  have A_w6 : Hid (BoxC w6 43 w.heap.size (resL (.slice a R.text.length cap) R.loc vs R.fk R.fa R.mode (.slice none 0 0))) := A_w5.out.below hb
  have Z_w6 : Hid (BoxC w6 43 GZ nulL) := Z_w5.out.below hb
  have Y_w6 : Hid (Av w6 (fun b => b < B4) (.slice a4 G.1.length c4) G.1) := Y_w5.out.below hb
  clear A_w5 Z_w5 Y_w5 HB_w5
  have N_w6 : Hid (BoxC w6 43 w5.heap.size nulL) := ha
  clear ha hb
  generalize w5.heap.size = GN at *
  go_wp2_with (refine storeC rfl 43 _ _ rfl GN rfl nulL (resL (.slice a R.text.length cap) R.loc vs R.fk R.fa R.mode (.slice none 0 0)) rfl N_w6.out (by rw [resL_len (by assumption)]; exact wide_res) (resL_one HS.out rfl rfl) (by rw [nul_len, resL_len (by assumption)]) ?_)
  intro w7 hz hg
  have HB_w7 : Hid (Below w.heap.size w w7) := HB_w6.out.grown hg HB_w6.out.size (fun j hj => by cases hj; exact (by have := HLGN.out; omega))
  have A_w7 : Hid (BoxC w7 43 w.heap.size (resL (.slice a R.text.length cap) R.loc vs R.fk R.fa R.mode (.slice none 0 0))) := A_w6.out.kept hg (fun e => by have := HLGN.out; have := Option.some.inj e; omega)
  have Z_w7 : Hid (BoxC w7 43 GZ nulL) := Z_w6.out.kept hg (fun e => by have := HLGN.out; have := HLGZ.out; have := Option.some.inj e; omega)
  have Y_w7 : Hid (Av w7 (fun b => b < B4) (.slice a4 G.1.length c4) G.1) := Y_w6.out.stored hg (by have := H4N.out; show ¬ (GN < B4); omega)
  clear A_w6 Z_w6 Y_w6 N_w6 HB_w6
  have N_w7 : Hid (BoxC w7 43 GN (resL (.slice a R.text.length cap) R.loc vs R.fk R.fa R.mode (.slice none 0 0))) := hz
  clear hz hg
  go_wp2_with (fail)
  refine (HRP.out _ _ Y_w7.out.1).mono ?_
  rintro q w8 ⟨hb, v7, rfl, ho7⟩
  have hr7 := ho7.reads
  obtain ⟨a7, c7, rfl⟩ := hr7.shape
  clear ho7
  clear Y_w7
  have HB_w8 : Hid (Below w.heap.size w w8) := below_trans HB_w7.out hb HB_w7.out.size
  have A_w8 : Hid (BoxC w8 43 w.heap.size (resL (.slice a R.text.length cap) R.loc vs R.fk R.fa R.mode (.slice none 0 0))) := A_w7.out.below hb
  have Z_w8 : Hid (BoxC w8 43 GZ nulL) := Z_w7.out.below hb
  have N_w8 : Hid (BoxC w8 43 GN (resL (.slice a R.text.length cap) R.loc vs R.fk R.fa R.mode (.slice none 0 0))) := N_w7.out.below hb
  clear A_w7 Z_w7 N_w7 HB_w7
  clear hb
  have X_w8 : Hid (Reads w8 (.slice a7 X.length c7) X) := hr7
  clear hr7
  go_wp2_with (fail)
  refine (HWC.out _ HB_w8.out _ X_w8.out).mono ?_
  rintro q w9 ⟨hb, vo, rfl, ho⟩
  obtain ⟨a2, c2, rfl⟩ := ho.reads.shape
  obtain ⟨B0, hB0⟩ : ∃ B0, B0 = w8.heap.size := ⟨_, rfl⟩
  have HLB0 : Hid (w.heap.size ≤ B0 ∧ w.heap.size < B0 ∧ GZ < B0 ∧ GN < B0) := by rw [hB0]; exact ⟨HB_w8.out.size, A_w8.out.lt, Z_w8.out.lt, N_w8.out.lt⟩
  have ho2 := av_own ho
  rw [← hB0] at ho2
  clear ho hB0
  have HB_w9 : Hid (Below w.heap.size w w9) := below_trans HB_w8.out hb HB_w8.out.size
  have A_w9 : Hid (BoxC w9 43 w.heap.size (resL (.slice a R.text.length cap) R.loc vs R.fk R.fa R.mode (.slice none 0 0))) := A_w8.out.below hb
  have Z_w9 : Hid (BoxC w9 43 GZ nulL) := Z_w8.out.below hb
  have N_w9 : Hid (BoxC w9 43 GN (resL (.slice a R.text.length cap) R.loc vs R.fk R.fa R.mode (.slice none 0 0))) := N_w8.out.below hb
  have X_w9 : Hid (Reads w9 (.slice a7 X.length c7) X) := X_w8.out.below hb
  clear A_w8 Z_w8 N_w8 X_w8 HB_w8
  clear hb
  have O_w9 : Hid (Av w9 (fun b => B0 ≤ b) (.slice a2 T.length c2) T) := ho2
  clear ho2
  clear X_w9
  go_wp2_with (refine storeP rfl 43 24 _ _ rfl GN 0 rfl (resL (.slice a R.text.length cap) R.loc vs R.fk R.fa R.mode (.slice none 0 0)) [(.slice a2 T.length c2), .int .i64 (R.loc + (L : Int) - 1)] (resL (.slice a2 T.length c2) (R.loc + (L : Int) - 1) vs R.fk R.fa R.mode (.slice none 0 0)) rfl N_w9.out wide_line (fun v hv => by simp at hv; rcases hv with rfl | rfl <;> rfl) (by rw [resL_len (by assumption)]; show 0 + 2 ≤ 33; decide) (resL_line _ _) ?_)
  intro w10 hz hg
  have HB_w10 : Hid (Below w.heap.size w w10) := HB_w9.out.grown hg HB_w9.out.size (fun j hj => by cases hj; exact (by have := HLGN.out; omega))
  have A_w10 : Hid (BoxC w10 43 w.heap.size (resL (.slice a R.text.length cap) R.loc vs R.fk R.fa R.mode (.slice none 0 0))) := A_w9.out.kept hg (fun e => by have := HLGN.out; have := Option.some.inj e; omega)
  have Z_w10 : Hid (BoxC w10 43 GZ nulL) := Z_w9.out.kept hg (fun e => by have := HLGN.out; have := HLGZ.out; have := Option.some.inj e; omega)
  have O_w10 : Hid (Av w10 (fun b => B0 ≤ b) (.slice a2 T.length c2) T) := O_w9.out.stored hg (by have := HLB0.out; show ¬ (B0 ≤ GN); omega)
  clear A_w9 Z_w9 N_w9 O_w9 HB_w9
  have N_w10 : Hid (BoxC w10 43 GN (resL (.slice a2 T.length c2) (R.loc + (L : Int) - 1) vs R.fk R.fa R.mode (.slice none 0 0))) := hz
  clear hz hg
  go_wp2_with (first | (refine loadC rfl 43 _ rfl GN rfl (resL (.slice a2 T.length c2) (R.loc + (L : Int) - 1) vs R.fk R.fa R.mode (.slice none 0 0)) N_w10.out (by rw [resL_len (by assumption)]; exact wide_res) ?_) | (refine storeC rfl 43 _ _ rfl GZ rfl nulL (resL (.slice a2 T.length c2) (R.loc + (L : Int) - 1) vs R.fk R.fa R.mode (.slice none 0 0)) rfl Z_w10.out (by rw [resL_len (by assumption)]; exact wide_res) (resL_one HS.out rfl rfl) (by rw [nul_len, resL_len (by assumption)]) ?_))
  intro w11 hz hg
  have HB_w11 : Hid (Below w.heap.size w w11) := HB_w10.out.grown hg HB_w10.out.size (fun j hj => by cases hj; exact (by have := HLGZ.out; omega))
  have A_w11 : Hid (BoxC w11 43 w.heap.size (resL (.slice a R.text.length cap) R.loc vs R.fk R.fa R.mode (.slice none 0 0))) := A_w10.out.kept hg (fun e => by have := HLGZ.out; have := Option.some.inj e; omega)
  have N_w11 : Hid (BoxC w11 43 GN (resL (.slice a2 T.length c2) (R.loc + (L : Int) - 1) vs R.fk R.fa R.mode (.slice none 0 0))) := N_w10.out.kept hg (fun e => by have := HLGZ.out; have := HLGN.out; have := Option.some.inj e; omega)
  have O_w11 : Hid (Av w11 (fun b => B0 ≤ b) (.slice a2 T.length c2) T) := O_w10.out.stored hg (by have := HLB0.out; show ¬ (B0 ≤ GZ); omega)
  clear A_w10 Z_w10 N_w10 O_w10 HB_w10
  have Z_w11 : Hid (BoxC w11 43 GZ (resL (.slice a2 T.length c2) (R.loc + (L : Int) - 1) vs R.fk R.fa R.mode (.slice none 0 0))) := hz
  clear hz hg
  go_wp2_with (fail)
  (try simp only [Exit.inBlock, Exit.then])
  refine bodyPost_ret (ret_box rfl _ _ GZ (resL (.slice a2 T.length c2) (R.loc + (L : Int) - 1) vs R.fk R.fa R.mode (.slice none 0 0)) _ rfl rfl Z_w11.out (by first | exact wide_res | (rw [resL_len (by assumption)]; exact wide_res))) rfl ?_
  exact ⟨HB_w11.out, _, { R with text := T, loc := (R.loc + (L : Int) - 1) }, rfl, ⟨a2, c2, vs, rfl, (O_w11.out.weak (fun b hb => HP.out _ (Nat.le_trans HLB0.out.1 hb))), ((HRg.out _ HB_w11.out).weak (fun b hb => hb.1))⟩, fun _ => rfl⟩

set_option maxHeartbeats 2000000 in
theorem laid_ahead (a : Option Addr) (cap : Nat) (vs : List Value) (R : Res) (w : World) (P : Nat → Prop) (hP : ∀ b, w.heap.size ≤ b → P b) (h : Av w P (.slice a R.text.length cap) R.text) (hr : AvR w P vs R.regs) (n : Nat) (nm : Int) (hk0 : 0 ≤ R.loc) (hk1 : R.loc ≤ 4096) (hkl : R.loc ≤ lastP R.text.length) (hn : n ≤ 999) (hz : R.text.length ≤ 200) (G : List Int × Int) (hG : getR R.regs nm = G) (he : G.2 = 0) (hl : R.text.length + n * G.1.length ≤ 200) (T : List Int) (hT : wit R.text R.loc.toNat R.loc.toNat (rep n G.1) = T) (hTl : T.length ≤ 200) :
    Calls Try.prog 38 #[.agg (resL (.slice a R.text.length cap) R.loc vs R.fk R.fa R.mode (.slice none 0 0)).toArray, .int .i64 nm, .int .i64 (n : Int), .bool false] w fun q w' => DonePost P ({ R with text := T, loc := ((R.loc.toNat : Nat) : Int) + ((n * G.1.length : Nat) : Int) - 1 }, 0) w q w' := by
  have HGT : Hid (∀ wx, Below w.heap.size w wx → Calls Try.prog 51 #[arr vs, .int .i64 nm] wx fun q w' => Below wx.heap.size wx w' ∧ ∃ a c, q = .returned (.tuple #[.slice a G.1.length c, .int .i64 G.2]) ∧ Reads w' (.slice a G.1.length c) G.1) := fun wx hx => by
    refine (get_any vs R.regs nm G.2 G.1 wx (hr.1.below hx) (by rw [← hG]; exact getR_is _ _)).mono ?_
    rintro q w' ⟨hb, a, c, e, ho⟩
    exact ⟨hb, a, c, e, ho.reads⟩
  have hGm : G.1.length * 8 ≤ 140737488351232 := (by rw [← hG]; exact getR_is R.regs nm : Got R.regs nm G.2 G.1).mild hr.1
  clear hG
  have HE0 : Hid (G.2 = 0) := he
  clear he
  have hnl : n * G.1.length ≤ 999 * 17592186044416 := Nat.mul_le_mul hn (by omega)
  have hcast : (n : Int) * (G.1.length : Int) = ((n * G.1.length : Nat) : Int) := by rw [Int.natCast_mul]
  have hw1 : IntKind.i64.wrap ((n : Int) * (G.1.length : Int)) = ((n * G.1.length : Nat) : Int) := by rw [IntKind.wrap_i64, hcast]; omega
  obtain ⟨L, hL⟩ : ∃ L, L = n * G.1.length := ⟨_, rfl⟩
  rw [← hL] at hw1 hl hnl ⊢
  clear hcast
  have HL : Hid (L = n * G.1.length) := hL
  clear hL
  have hw2 : IntKind.i64.wrap ((R.text.length : Int) + (L : Int)) = (R.text.length : Int) + (L : Int) := by rw [IntKind.wrap_i64]; omega
  have hb2 : ¬ (200 : Int) < (R.text.length : Int) + (L : Int) := by omega
  have hbd : R.loc.toNat ≤ R.text.length := by have : lastP R.text.length = ((R.text.length - 1 : Nat) : Int) := rfl; omega
  have hw4 : IntKind.i64.wrap (R.loc + (L : Int)) = R.loc + (L : Int) := by rw [IntKind.wrap_i64]; omega
  have hw5 : IntKind.i64.wrap (R.loc + (L : Int) - 1) = R.loc + (L : Int) - 1 := by rw [IntKind.wrap_i64]; omega
  obtain ⟨X, hX⟩ : ∃ X, X = rep n G.1 := ⟨_, rfl⟩
  rw [← hX] at hT
  have hXl : X.length = L := by rw [hX, rep_len]; exact HL.out.symm
  have HRP : Hid (∀ (wx : World) pv, Reads wx pv G.1 → Calls Try.prog 11 #[pv, .int .i64 (n : Int)] wx fun e w' => ConcatPost X wx e w') := fun wx pv hp => by rw [hX]; exact repeat_any _ G.1 n wx hp (by have := HL.out; omega) (by omega)
  have HWC : Hid (∀ wx, Below w.heap.size w wx → ∀ pv, Reads wx pv X → Calls Try.prog 45 #[.slice a R.text.length cap, .int .i64 R.loc, .int .i64 R.loc, pv] wx fun e w' => ConcatPost T wx e w') := fun wx hx pv hp => by
    have q := with_go _ _ R.text X R.loc.toNat R.loc.toNat wx (h.below hx).1 hp (Nat.le_refl _) hbd (by omega) (by omega)
    rw [hT, show ((R.loc.toNat : Nat) : Int) = R.loc by omega] at q
    exact q
  have HAT : Hid (((R.loc.toNat : Nat) : Int) = R.loc) := by show _ = _; omega
  clear hT hX hXl
  rw [HAT.out]
  clear HAT
  have hvs : vs.length = 27 := hr.len
  have HT : Hid (∀ wx, Below w.heap.size w wx → Av wx (fun b => P b ∧ b < w.heap.size) (.slice a R.text.length cap) R.text) := fun wx hx => (h.both (av_arg h.1)).below hx
  have HRg : Hid (∀ wx, Below w.heap.size w wx → AvR wx (fun b => P b ∧ b < w.heap.size) vs R.regs) := fun wx hx => (hr.both (avR_arg hr.1)).below hx
  have HP : Hid (∀ b, w.heap.size ≤ b → P b) := hP
  have HS : Hid (AllSl vs) := hr.1.1
  clear h hr hP
  go_enter Try.func38, Try.ntmps38
  go_wp2_with (refine boxC rfl 43 _ rfl (resL (.slice a R.text.length cap) R.loc vs R.fk R.fa R.mode (.slice none 0 0)) rfl ?_)
  intro w1 ha hb
  have HB_w1 : Hid (Below w.heap.size w w1) := hb
  have A_w1 : Hid (BoxC w1 43 w.heap.size (resL (.slice a R.text.length cap) R.loc vs R.fk R.fa R.mode (.slice none 0 0))) := ha
  clear ha hb
  go_wp2_with (refine allocC rfl 43 rfl nulL nul_zero ?_)
  intro w2 ha hb
  have HLGZ : Hid (w.heap.size ≤ w1.heap.size ∧ w.heap.size < w1.heap.size) := ⟨HB_w1.out.size, A_w1.out.lt⟩
  have HB_w2 : Hid (Below w.heap.size w w2) := below_trans HB_w1.out hb HB_w1.out.size
  have A_w2 : Hid (BoxC w2 43 w.heap.size (resL (.slice a R.text.length cap) R.loc vs R.fk R.fa R.mode (.slice none 0 0))) := A_w1.out.below hb
  clear A_w1 HB_w1
  have Z_w2 : Hid (BoxC w2 43 w1.heap.size nulL) := ha
  clear ha hb
  generalize w1.heap.size = GZ at *
  have a0 : w2.cell? ⟨w.heap.size, 0, none⟩ = some (.slice a R.text.length cap) := (A_w2.out.cell 0).trans resL_0
  have a1 : w2.cell? ⟨w.heap.size, 1, none⟩ = some (.int .i64 R.loc) := (A_w2.out.cell 1).trans resL_1
  have a29 : w2.cell? ⟨w.heap.size, 29, none⟩ = some (.int .i64 R.fk) := (A_w2.out.cell 29).trans (resL_end (by assumption) 0)
  have a30 : w2.cell? ⟨w.heap.size, 30, none⟩ = some (.int .i64 R.fa) := (A_w2.out.cell 30).trans (resL_end (by assumption) 1)
  go_wp2_with ((refine loadP rfl 43 36 _ rfl w.heap.size 2 rfl (resL (.slice a R.text.length cap) R.loc vs R.fk R.fa R.mode (.slice none 0 0)) vs A_w2.out (by rw [hvs]; exact wide_regs) (fun j v hv => by rw [resL_reg (by assumption) j (by rw [← hvs]; exact (List.getElem?_eq_some_iff.1 hv).1)]; exact hv) ?_))
  go_wp2_with (fail)
  refine (HGT.out _ HB_w2.out).mono ?_
  rintro q w4 ⟨hb4', a4, c4, rfl, hr4⟩
  clear a0 a1 a29 a30
  have HB_w4 : Hid (Below w.heap.size w w4) := below_trans HB_w2.out hb4' HB_w2.out.size
  have A_w4 : Hid (BoxC w4 43 w.heap.size (resL (.slice a R.text.length cap) R.loc vs R.fk R.fa R.mode (.slice none 0 0))) := A_w2.out.below hb4'
  have Z_w4 : Hid (BoxC w4 43 GZ nulL) := Z_w2.out.below hb4'
  clear A_w2 Z_w2 HB_w2
  clear hb4'
  have Y_w4 : Hid (Reads w4 (.slice a4 G.1.length c4) G.1) := hr4
  clear hr4
  rw [HE0.out]
  have a0 : w4.cell? ⟨w.heap.size, 0, none⟩ = some (.slice a R.text.length cap) := (A_w4.out.cell 0).trans resL_0
  have a1 : w4.cell? ⟨w.heap.size, 1, none⟩ = some (.int .i64 R.loc) := (A_w4.out.cell 1).trans resL_1
  have a29 : w4.cell? ⟨w.heap.size, 29, none⟩ = some (.int .i64 R.fk) := (A_w4.out.cell 29).trans (resL_end (by assumption) 0)
  have a30 : w4.cell? ⟨w.heap.size, 30, none⟩ = some (.int .i64 R.fa) := (A_w4.out.cell 30).trans (resL_end (by assumption) 1)
  go_wp2_with (fail)
  go_quiet (fail)
  generalize hq_w5 : w4.drewN _ = w5
  have hb : Below w4.heap.size w4 w5 := by rw [← hq_w5]; exact below_drewN (Below.refl _ _) _
  clear hq_w5
  have HB_w5 : Hid (Below w.heap.size w w5) := below_trans HB_w4.out hb HB_w4.out.size
  have A_w5 : Hid (BoxC w5 43 w.heap.size (resL (.slice a R.text.length cap) R.loc vs R.fk R.fa R.mode (.slice none 0 0))) := A_w4.out.below hb
  have Z_w5 : Hid (BoxC w5 43 GZ nulL) := Z_w4.out.below hb
  have Y_w5 : Hid (Reads w5 (.slice a4 G.1.length c4) G.1) := Y_w4.out.below hb
  clear A_w4 Z_w4 Y_w4 HB_w4
  clear hb
  clear a0 a1 a29 a30
  obtain ⟨B4, hB4⟩ : ∃ B4, B4 = w5.heap.size := ⟨_, rfl⟩
  have H4N : Hid (B4 ≤ w5.heap.size) := Nat.le_of_eq hB4
  have hy := av_arg Y_w5.out
  rw [← hB4] at hy
  clear hB4
  clear Y_w5
  have Y_w5 : Hid (Av w5 (fun b => b < B4) (.slice a4 G.1.length c4) G.1) := hy
  clear hy
  go_wp2_with (first | (refine loadC rfl 43 _ rfl w.heap.size rfl (resL (.slice a R.text.length cap) R.loc vs R.fk R.fa R.mode (.slice none 0 0)) A_w5.out (by rw [resL_len (by assumption)]; exact wide_res) ?_) | (refine allocC rfl 43 rfl nulL nul_zero ?_))
  intro w6 ha hb
  have HLGN : Hid (w.heap.size ≤ w5.heap.size ∧ w.heap.size < w5.heap.size ∧ GZ < w5.heap.size) := ⟨HB_w5.out.size, A_w5.out.lt, Z_w5.out.lt⟩
  have HB_w6 : Hid (Below w.heap.size w w6) := below_trans HB_w5.out hb HB_w5.out.size
  have A_w6 : Hid (BoxC w6 43 w.heap.size (resL (.slice a R.text.length cap) R.loc vs R.fk R.fa R.mode (.slice none 0 0))) := A_w5.out.below hb
  have Z_w6 : Hid (BoxC w6 43 GZ nulL) := Z_w5.out.below hb
  have Y_w6 : Hid (Av w6 (fun b => b < B4) (.slice a4 G.1.length c4) G.1) := Y_w5.out.below hb
  clear A_w5 Z_w5 Y_w5 HB_w5
  have N_w6 : Hid (BoxC w6 43 w5.heap.size nulL) := ha
  clear ha hb
  generalize w5.heap.size = GN at *
  go_wp2_with (refine storeC rfl 43 _ _ rfl GN rfl nulL (resL (.slice a R.text.length cap) R.loc vs R.fk R.fa R.mode (.slice none 0 0)) rfl N_w6.out (by rw [resL_len (by assumption)]; exact wide_res) (resL_one HS.out rfl rfl) (by rw [nul_len, resL_len (by assumption)]) ?_)
  intro w7 hz hg
  have HB_w7 : Hid (Below w.heap.size w w7) := HB_w6.out.grown hg HB_w6.out.size (fun j hj => by cases hj; exact (by have := HLGN.out; omega))
  have A_w7 : Hid (BoxC w7 43 w.heap.size (resL (.slice a R.text.length cap) R.loc vs R.fk R.fa R.mode (.slice none 0 0))) := A_w6.out.kept hg (fun e => by have := HLGN.out; have := Option.some.inj e; omega)
  have Z_w7 : Hid (BoxC w7 43 GZ nulL) := Z_w6.out.kept hg (fun e => by have := HLGN.out; have := HLGZ.out; have := Option.some.inj e; omega)
  have Y_w7 : Hid (Av w7 (fun b => b < B4) (.slice a4 G.1.length c4) G.1) := Y_w6.out.stored hg (by have := H4N.out; show ¬ (GN < B4); omega)
  clear A_w6 Z_w6 Y_w6 N_w6 HB_w6
  have N_w7 : Hid (BoxC w7 43 GN (resL (.slice a R.text.length cap) R.loc vs R.fk R.fa R.mode (.slice none 0 0))) := hz
  clear hz hg
  go_wp2_with (fail)
  refine (HRP.out _ _ Y_w7.out.1).mono ?_
  rintro q w8 ⟨hb, v7, rfl, ho7⟩
  have hr7 := ho7.reads
  obtain ⟨a7, c7, rfl⟩ := hr7.shape
  clear ho7
  clear Y_w7
  have HB_w8 : Hid (Below w.heap.size w w8) := below_trans HB_w7.out hb HB_w7.out.size
  have A_w8 : Hid (BoxC w8 43 w.heap.size (resL (.slice a R.text.length cap) R.loc vs R.fk R.fa R.mode (.slice none 0 0))) := A_w7.out.below hb
  have Z_w8 : Hid (BoxC w8 43 GZ nulL) := Z_w7.out.below hb
  have N_w8 : Hid (BoxC w8 43 GN (resL (.slice a R.text.length cap) R.loc vs R.fk R.fa R.mode (.slice none 0 0))) := N_w7.out.below hb
  clear A_w7 Z_w7 N_w7 HB_w7
  clear hb
  have X_w8 : Hid (Reads w8 (.slice a7 X.length c7) X) := hr7
  clear hr7
  go_wp2_with (fail)
  refine (HWC.out _ HB_w8.out _ X_w8.out).mono ?_
  rintro q w9 ⟨hb, vo, rfl, ho⟩
  obtain ⟨a2, c2, rfl⟩ := ho.reads.shape
  obtain ⟨B0, hB0⟩ : ∃ B0, B0 = w8.heap.size := ⟨_, rfl⟩
  have HLB0 : Hid (w.heap.size ≤ B0 ∧ w.heap.size < B0 ∧ GZ < B0 ∧ GN < B0) := by rw [hB0]; exact ⟨HB_w8.out.size, A_w8.out.lt, Z_w8.out.lt, N_w8.out.lt⟩
  have ho2 := av_own ho
  rw [← hB0] at ho2
  clear ho hB0
  have HB_w9 : Hid (Below w.heap.size w w9) := below_trans HB_w8.out hb HB_w8.out.size
  have A_w9 : Hid (BoxC w9 43 w.heap.size (resL (.slice a R.text.length cap) R.loc vs R.fk R.fa R.mode (.slice none 0 0))) := A_w8.out.below hb
  have Z_w9 : Hid (BoxC w9 43 GZ nulL) := Z_w8.out.below hb
  have N_w9 : Hid (BoxC w9 43 GN (resL (.slice a R.text.length cap) R.loc vs R.fk R.fa R.mode (.slice none 0 0))) := N_w8.out.below hb
  have X_w9 : Hid (Reads w9 (.slice a7 X.length c7) X) := X_w8.out.below hb
  clear A_w8 Z_w8 N_w8 X_w8 HB_w8
  clear hb
  have O_w9 : Hid (Av w9 (fun b => B0 ≤ b) (.slice a2 T.length c2) T) := ho2
  clear ho2
  clear X_w9
  go_wp2_with (refine storeP rfl 43 24 _ _ rfl GN 0 rfl (resL (.slice a R.text.length cap) R.loc vs R.fk R.fa R.mode (.slice none 0 0)) [(.slice a2 T.length c2), .int .i64 (R.loc + (L : Int) - 1)] (resL (.slice a2 T.length c2) (R.loc + (L : Int) - 1) vs R.fk R.fa R.mode (.slice none 0 0)) rfl N_w9.out wide_line (fun v hv => by simp at hv; rcases hv with rfl | rfl <;> rfl) (by rw [resL_len (by assumption)]; show 0 + 2 ≤ 33; decide) (resL_line _ _) ?_)
  intro w10 hz hg
  have HB_w10 : Hid (Below w.heap.size w w10) := HB_w9.out.grown hg HB_w9.out.size (fun j hj => by cases hj; exact (by have := HLGN.out; omega))
  have A_w10 : Hid (BoxC w10 43 w.heap.size (resL (.slice a R.text.length cap) R.loc vs R.fk R.fa R.mode (.slice none 0 0))) := A_w9.out.kept hg (fun e => by have := HLGN.out; have := Option.some.inj e; omega)
  have Z_w10 : Hid (BoxC w10 43 GZ nulL) := Z_w9.out.kept hg (fun e => by have := HLGN.out; have := HLGZ.out; have := Option.some.inj e; omega)
  have O_w10 : Hid (Av w10 (fun b => B0 ≤ b) (.slice a2 T.length c2) T) := O_w9.out.stored hg (by have := HLB0.out; show ¬ (B0 ≤ GN); omega)
  clear A_w9 Z_w9 N_w9 O_w9 HB_w9
  have N_w10 : Hid (BoxC w10 43 GN (resL (.slice a2 T.length c2) (R.loc + (L : Int) - 1) vs R.fk R.fa R.mode (.slice none 0 0))) := hz
  clear hz hg
  go_wp2_with (first | (refine loadC rfl 43 _ rfl GN rfl (resL (.slice a2 T.length c2) (R.loc + (L : Int) - 1) vs R.fk R.fa R.mode (.slice none 0 0)) N_w10.out (by rw [resL_len (by assumption)]; exact wide_res) ?_) | (refine storeC rfl 43 _ _ rfl GZ rfl nulL (resL (.slice a2 T.length c2) (R.loc + (L : Int) - 1) vs R.fk R.fa R.mode (.slice none 0 0)) rfl Z_w10.out (by rw [resL_len (by assumption)]; exact wide_res) (resL_one HS.out rfl rfl) (by rw [nul_len, resL_len (by assumption)]) ?_))
  intro w11 hz hg
  have HB_w11 : Hid (Below w.heap.size w w11) := HB_w10.out.grown hg HB_w10.out.size (fun j hj => by cases hj; exact (by have := HLGZ.out; omega))
  have A_w11 : Hid (BoxC w11 43 w.heap.size (resL (.slice a R.text.length cap) R.loc vs R.fk R.fa R.mode (.slice none 0 0))) := A_w10.out.kept hg (fun e => by have := HLGZ.out; have := Option.some.inj e; omega)
  have N_w11 : Hid (BoxC w11 43 GN (resL (.slice a2 T.length c2) (R.loc + (L : Int) - 1) vs R.fk R.fa R.mode (.slice none 0 0))) := N_w10.out.kept hg (fun e => by have := HLGZ.out; have := HLGN.out; have := Option.some.inj e; omega)
  have O_w11 : Hid (Av w11 (fun b => B0 ≤ b) (.slice a2 T.length c2) T) := O_w10.out.stored hg (by have := HLB0.out; show ¬ (B0 ≤ GZ); omega)
  clear A_w10 Z_w10 N_w10 O_w10 HB_w10
  have Z_w11 : Hid (BoxC w11 43 GZ (resL (.slice a2 T.length c2) (R.loc + (L : Int) - 1) vs R.fk R.fa R.mode (.slice none 0 0))) := hz
  clear hz hg
  go_wp2_with (fail)
  (try simp only [Exit.inBlock, Exit.then])
  refine bodyPost_ret (ret_box rfl _ _ GZ (resL (.slice a2 T.length c2) (R.loc + (L : Int) - 1) vs R.fk R.fa R.mode (.slice none 0 0)) _ rfl rfl Z_w11.out (by first | exact wide_res | (rw [resL_len (by assumption)]; exact wide_res))) rfl ?_
  exact ⟨HB_w11.out, _, { R with text := T, loc := (R.loc + (L : Int) - 1) }, rfl, ⟨a2, c2, vs, rfl, (O_w11.out.weak (fun b hb => HP.out _ (Nat.le_trans HLB0.out.1 hb))), ((HRg.out _ HB_w11.out).weak (fun b hb => hb.1))⟩, fun _ => rfl⟩

theorem laid_go (a : Option Addr) (cap : Nat) (vs : List Value) (R : Res) (w : World) (P : Nat → Prop) (hP : ∀ b, w.heap.size ≤ b → P b) (h : Av w P (.slice a R.text.length cap) R.text) (hr : AvR w P vs R.regs) (n : Nat) (nm : Int) (bh : Bool) (hk0 : 0 ≤ R.loc) (hk1 : R.loc ≤ 4096) (hkl : R.loc ≤ lastP R.text.length) (hn : n ≤ 999) (hz : R.text.length ≤ 200) :
    Calls Try.prog 38 #[.agg (resL (.slice a R.text.length cap) R.loc vs R.fk R.fa R.mode (.slice none 0 0)).toArray, .int .i64 nm, .int .i64 (n : Int), .bool bh] w fun q w' => DonePost P (pst R nm n bh) w q w' := by
  unfold pst
  by_cases he : (getR R.regs nm).2 = 0
  · rw [if_neg (by rw [he]; decide)]
    by_cases hl : 200 < R.text.length + n * (getR R.regs nm).1.length
    · rw [if_pos hl]
      exact laid_large a cap vs R w P hP h hr n nm bh hk0 hk1 hkl hn hz _ rfl he hl
    · rw [if_neg hl]
      have hlp : lastP R.text.length = ((R.text.length - 1 : Nat) : Int) := rfl
      have hll : ∀ k, k ≤ R.text.length → (wit R.text k k (rep n (getR R.regs nm).1)).length ≤ 200 := fun k hk => by rw [wit_len _ _ _ _ (Nat.le_refl _) hk, rep_len]; omega
      cases bh with
      | false =>
        rw [if_neg (by rintro ⟨h, _⟩; cases h)]
        exact laid_ahead a cap vs R w P hP h hr n nm hk0 hk1 hkl hn hz _ rfl he (by omega) _ rfl (hll _ (by omega))
      | true =>
        by_cases hne : R.text = []
        · rw [if_neg (by rintro ⟨_, h⟩; exact h hne)]
          exact laid_empty a cap vs R w P hP h hr n nm hk0 hk1 hkl hn hz _ rfl he (by omega) (by rw [hne]; rfl) _ rfl (hll _ (by omega))
        · have hlen : R.text.length ≠ 0 := fun e => hne (List.length_eq_zero_iff.1 e)
          rw [if_pos ⟨rfl, hne⟩]
          exact laid_behind a cap vs R w P hP h hr n nm hk0 hk1 hkl hn hz _ rfl he (by omega) hne _ rfl (hll _ (by omega))
  · rw [if_pos he]
    exact laid_none a cap vs R w P hP h hr n nm bh hk0 hk1 hkl hn hz _ rfl he
end Go.Proofs.Ytpgjaoemkadenab.Seek
