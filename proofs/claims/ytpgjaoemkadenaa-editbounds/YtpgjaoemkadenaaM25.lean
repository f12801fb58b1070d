/- The contract of edit.checkAll. -/
import Derived.Test.YtpgjaoemkadenaaM14
set_option linter.unusedVariables false
set_option linter.unusedSimpArgs false
set_option maxRecDepth 100000
namespace Go.Proofs.Ytpgjaoemkadenaa.Seek
open Go.RowKit Plain


set_option maxHeartbeats 1000000 in
theorem checkAll_line (a : Option Addr) (n cap : Nat) (k fk fa c r o v g e : Int) (w : World) (hn : n ≤ maxLen) (hl : lchk n k = e) (he : e ≠ 0) :
    Calls Try.prog 21 #[.agg #[.slice a n cap, .int .i64 k], .agg #[.int .i64 fk, .int .i64 fa], .agg #[.int .i64 c, .int .i64 r, .int .i64 o, .int .i64 v, .int .i64 g]] w fun q w' => q = .returned (.int .i64 e) ∧ Below w.heap.size w w' := by
  have HL : Hid (∀ wx, Calls Try.prog 32 #[.agg #[.slice a n cap, .int .i64 k]] wx fun q w' => q = .returned (.int .i64 e) ∧ Below wx.heap.size wx w') := fun wx => by rw [← hl]; exact check_edit a n cap k wx hn
  clear hl hn
  have hb : (e != 0) = true := by simpa using he
  go_enter Try.func21, Try.ntmps21
  go_wp2_with (fail)
  refine (HL.out _).mono ?_
  rintro q w1 ⟨rfl, hb1⟩
  obtain ⟨h0, h1, h2, hbb⟩ := start3 w 24 33 35 [.slice a n cap, .int .i64 k] [.int .i64 fk, .int .i64 fa] [.int .i64 c, .int .i64 r, .int .i64 o, .int .i64 v, .int .i64 g]
  have HB1 : Hid (Below w.heap.size w w1) := below_trans hbb hb1 hbb.size
  have HF1 := h1.below hb1
  have HC1 := h2.below hb1
  have f0 : w1.cell? ⟨w.heap.size + 1, 0, none⟩ = some (.int .i64 fk) := (HF1.cell 0).trans rfl
  have c0 : w1.cell? ⟨w.heap.size + 1 + 1, 0, none⟩ = some (.int .i64 c) := (HC1.cell 0).trans rfl
  have c2 : w1.cell? ⟨w.heap.size + 1 + 1, 2, none⟩ = some (.int .i64 o) := (HC1.cell 2).trans rfl
  clear h0 h1 h2 hbb hb1 HF1 HC1
  go_wp2_with (fail)
  go_ret
  exact ⟨rfl, HB1.out⟩

set_option maxHeartbeats 1000000 in
theorem checkAll_low (a : Option Addr) (n cap : Nat) (k fk fa c r o v g : Int) (w : World) (hn : n ≤ maxLen) (hl : lchk n k = 0) (hc : c < 0) :
    Calls Try.prog 21 #[.agg #[.slice a n cap, .int .i64 k], .agg #[.int .i64 fk, .int .i64 fa], .agg #[.int .i64 c, .int .i64 r, .int .i64 o, .int .i64 v, .int .i64 g]] w fun q w' => q = .returned (.int .i64 1) ∧ Below w.heap.size w w' := by
  have HL : Hid (∀ wx, Calls Try.prog 32 #[.agg #[.slice a n cap, .int .i64 k]] wx fun q w' => q = .returned (.int .i64 0) ∧ Below wx.heap.size wx w') := fun wx => by rw [← hl]; exact check_edit a n cap k wx hn
  clear hl hn
  go_enter Try.func21, Try.ntmps21
  go_wp2_with (fail)
  refine (HL.out _).mono ?_
  rintro q w1 ⟨rfl, hb1⟩
  obtain ⟨h0, h1, h2, hbb⟩ := start3 w 24 33 35 [.slice a n cap, .int .i64 k] [.int .i64 fk, .int .i64 fa] [.int .i64 c, .int .i64 r, .int .i64 o, .int .i64 v, .int .i64 g]
  have HB1 : Hid (Below w.heap.size w w1) := below_trans hbb hb1 hbb.size
  have HF1 := h1.below hb1
  have HC1 := h2.below hb1
  have f0 : w1.cell? ⟨w.heap.size + 1, 0, none⟩ = some (.int .i64 fk) := (HF1.cell 0).trans rfl
  have c0 : w1.cell? ⟨w.heap.size + 1 + 1, 0, none⟩ = some (.int .i64 c) := (HC1.cell 0).trans rfl
  have c2 : w1.cell? ⟨w.heap.size + 1 + 1, 2, none⟩ = some (.int .i64 o) := (HC1.cell 2).trans rfl
  clear h0 h1 h2 hbb hb1 HF1 HC1
  go_wp2_with (fail)
  go_ret
  exact ⟨rfl, HB1.out⟩

set_option maxHeartbeats 1000000 in
theorem checkAll_high (a : Option Addr) (n cap : Nat) (k fk fa c r o v g : Int) (w : World) (hn : n ≤ maxLen) (hl : lchk n k = 0) (hc : ¬ c < 0) (hc2 : 999 < c) :
    Calls Try.prog 21 #[.agg #[.slice a n cap, .int .i64 k], .agg #[.int .i64 fk, .int .i64 fa], .agg #[.int .i64 c, .int .i64 r, .int .i64 o, .int .i64 v, .int .i64 g]] w fun q w' => q = .returned (.int .i64 1) ∧ Below w.heap.size w w' := by
  have HL : Hid (∀ wx, Calls Try.prog 32 #[.agg #[.slice a n cap, .int .i64 k]] wx fun q w' => q = .returned (.int .i64 0) ∧ Below wx.heap.size wx w') := fun wx => by rw [← hl]; exact check_edit a n cap k wx hn
  clear hl hn
  go_enter Try.func21, Try.ntmps21
  go_wp2_with (fail)
  refine (HL.out _).mono ?_
  rintro q w1 ⟨rfl, hb1⟩
  obtain ⟨h0, h1, h2, hbb⟩ := start3 w 24 33 35 [.slice a n cap, .int .i64 k] [.int .i64 fk, .int .i64 fa] [.int .i64 c, .int .i64 r, .int .i64 o, .int .i64 v, .int .i64 g]
  have HB1 : Hid (Below w.heap.size w w1) := below_trans hbb hb1 hbb.size
  have HF1 := h1.below hb1
  have HC1 := h2.below hb1
  have f0 : w1.cell? ⟨w.heap.size + 1, 0, none⟩ = some (.int .i64 fk) := (HF1.cell 0).trans rfl
  have c0 : w1.cell? ⟨w.heap.size + 1 + 1, 0, none⟩ = some (.int .i64 c) := (HC1.cell 0).trans rfl
  have c2 : w1.cell? ⟨w.heap.size + 1 + 1, 2, none⟩ = some (.int .i64 o) := (HC1.cell 2).trans rfl
  clear h0 h1 h2 hbb hb1 HF1 HC1
  go_wp2_with (fail)
  go_ret
  exact ⟨rfl, HB1.out⟩

set_option maxHeartbeats 1000000 in
theorem checkAll_find (a : Option Addr) (n cap : Nat) (k fk fa c r o v g : Int) (w : World) (hn : n ≤ maxLen) (hl : lchk n k = 0) (hc : ¬ c < 0) (hc2 : ¬ 999 < c) (hf : fk ≠ 0) (hf2 : isF fk = false) :
    Calls Try.prog 21 #[.agg #[.slice a n cap, .int .i64 k], .agg #[.int .i64 fk, .int .i64 fa], .agg #[.int .i64 c, .int .i64 r, .int .i64 o, .int .i64 v, .int .i64 g]] w fun q w' => q = .returned (.int .i64 1) ∧ Below w.heap.size w w' := by
  have HL : Hid (∀ wx, Calls Try.prog 32 #[.agg #[.slice a n cap, .int .i64 k]] wx fun q w' => q = .returned (.int .i64 0) ∧ Below wx.heap.size wx w') := fun wx => by rw [← hl]; exact check_edit a n cap k wx hn
  clear hl hn
  have hb : (fk != 0) = true := by simpa using hf
  have HF : Hid (isF fk = false) := hf2
  clear hf2
  go_enter Try.func21, Try.ntmps21
  go_wp2_with (fail)
  refine (HL.out _).mono ?_
  rintro q w1 ⟨rfl, hb1⟩
  obtain ⟨h0, h1, h2, hbb⟩ := start3 w 24 33 35 [.slice a n cap, .int .i64 k] [.int .i64 fk, .int .i64 fa] [.int .i64 c, .int .i64 r, .int .i64 o, .int .i64 v, .int .i64 g]
  have HB1 : Hid (Below w.heap.size w w1) := below_trans hbb hb1 hbb.size
  have HF1 := h1.below hb1
  have HC1 := h2.below hb1
  have f0 : w1.cell? ⟨w.heap.size + 1, 0, none⟩ = some (.int .i64 fk) := (HF1.cell 0).trans rfl
  have c0 : w1.cell? ⟨w.heap.size + 1 + 1, 0, none⟩ = some (.int .i64 c) := (HC1.cell 0).trans rfl
  have c2 : w1.cell? ⟨w.heap.size + 1 + 1, 2, none⟩ = some (.int .i64 o) := (HC1.cell 2).trans rfl
  clear h0 h1 h2 hbb hb1 HF1 HC1
  go_wp2_with (fail)
  refine (isFind_go fk _).mono ?_
  rintro q wz ⟨rfl, hwz⟩
  rw [hwz, HF.out]
  clear hwz wz
  go_wp2_with (fail)
  go_ret
  exact ⟨rfl, HB1.out⟩

set_option maxHeartbeats 1000000 in
theorem checkAll_opa0 (a : Option Addr) (n cap : Nat) (k fk fa c r v g : Int) (w : World) (hn : n ≤ maxLen) (hl : lchk n k = 0) (hc : ¬ c < 0) (hc2 : ¬ 999 < c) (hf : fk = 0) :
    Calls Try.prog 21 #[.agg #[.slice a n cap, .int .i64 k], .agg #[.int .i64 fk, .int .i64 fa], .agg #[.int .i64 c, .int .i64 r, .int .i64 0, .int .i64 v, .int .i64 g]] w fun q w' => q = .returned (.int .i64 0) ∧ Below w.heap.size w w' := by
  have HL : Hid (∀ wx, Calls Try.prog 32 #[.agg #[.slice a n cap, .int .i64 k]] wx fun q w' => q = .returned (.int .i64 0) ∧ Below wx.heap.size wx w') := fun wx => by rw [← hl]; exact check_edit a n cap k wx hn
  clear hl hn
  subst hf
  go_enter Try.func21, Try.ntmps21
  go_wp2_with (fail)
  refine (HL.out _).mono ?_
  rintro q w1 ⟨rfl, hb1⟩
  obtain ⟨h0, h1, h2, hbb⟩ := start3 w 24 33 35 [.slice a n cap, .int .i64 k] [.int .i64 0, .int .i64 fa] [.int .i64 c, .int .i64 r, .int .i64 0, .int .i64 v, .int .i64 g]
  have HB1 : Hid (Below w.heap.size w w1) := below_trans hbb hb1 hbb.size
  have HF1 := h1.below hb1
  have HC1 := h2.below hb1
  have f0 : w1.cell? ⟨w.heap.size + 1, 0, none⟩ = some (.int .i64 0) := (HF1.cell 0).trans rfl
  have c0 : w1.cell? ⟨w.heap.size + 1 + 1, 0, none⟩ = some (.int .i64 c) := (HC1.cell 0).trans rfl
  have c2 : w1.cell? ⟨w.heap.size + 1 + 1, 2, none⟩ = some (.int .i64 0) := (HC1.cell 2).trans rfl
  clear h0 h1 h2 hbb hb1 HF1 HC1
  go_wp2_with (fail)
  go_ret
  exact ⟨rfl, HB1.out⟩

set_option maxHeartbeats 1000000 in
theorem checkAll_opb0 (a : Option Addr) (n cap : Nat) (k fk fa c r v g : Int) (w : World) (hn : n ≤ maxLen) (hl : lchk n k = 0) (hc : ¬ c < 0) (hc2 : ¬ 999 < c) (hf : fk ≠ 0) (hf2 : isF fk = true) :
    Calls Try.prog 21 #[.agg #[.slice a n cap, .int .i64 k], .agg #[.int .i64 fk, .int .i64 fa], .agg #[.int .i64 c, .int .i64 r, .int .i64 0, .int .i64 v, .int .i64 g]] w fun q w' => q = .returned (.int .i64 0) ∧ Below w.heap.size w w' := by
  have HL : Hid (∀ wx, Calls Try.prog 32 #[.agg #[.slice a n cap, .int .i64 k]] wx fun q w' => q = .returned (.int .i64 0) ∧ Below wx.heap.size wx w') := fun wx => by rw [← hl]; exact check_edit a n cap k wx hn
  clear hl hn
  have hb : (fk != 0) = true := by simpa using hf
  have HF : Hid (isF fk = true) := hf2
  clear hf2
  go_enter Try.func21, Try.ntmps21
  go_wp2_with (fail)
  refine (HL.out _).mono ?_
  rintro q w1 ⟨rfl, hb1⟩
  obtain ⟨h0, h1, h2, hbb⟩ := start3 w 24 33 35 [.slice a n cap, .int .i64 k] [.int .i64 fk, .int .i64 fa] [.int .i64 c, .int .i64 r, .int .i64 0, .int .i64 v, .int .i64 g]
  have HB1 : Hid (Below w.heap.size w w1) := below_trans hbb hb1 hbb.size
  have HF1 := h1.below hb1
  have HC1 := h2.below hb1
  have f0 : w1.cell? ⟨w.heap.size + 1, 0, none⟩ = some (.int .i64 fk) := (HF1.cell 0).trans rfl
  have c0 : w1.cell? ⟨w.heap.size + 1 + 1, 0, none⟩ = some (.int .i64 c) := (HC1.cell 0).trans rfl
  have c2 : w1.cell? ⟨w.heap.size + 1 + 1, 2, none⟩ = some (.int .i64 0) := (HC1.cell 2).trans rfl
  clear h0 h1 h2 hbb hb1 HF1 HC1
  go_wp2_with (fail)
  refine (isFind_go fk _).mono ?_
  rintro q wz ⟨rfl, hwz⟩
  rw [hwz, HF.out]
  clear hwz wz
  go_wp2_with (fail)
  go_ret
  exact ⟨rfl, HB1.out⟩

set_option maxHeartbeats 1000000 in
theorem checkAll_opa100 (a : Option Addr) (n cap : Nat) (k fk fa c r v g : Int) (w : World) (hn : n ≤ maxLen) (hl : lchk n k = 0) (hc : ¬ c < 0) (hc2 : ¬ 999 < c) (hf : fk = 0) :
    Calls Try.prog 21 #[.agg #[.slice a n cap, .int .i64 k], .agg #[.int .i64 fk, .int .i64 fa], .agg #[.int .i64 c, .int .i64 r, .int .i64 100, .int .i64 v, .int .i64 g]] w fun q w' => q = .returned (.int .i64 0) ∧ Below w.heap.size w w' := by
  have HL : Hid (∀ wx, Calls Try.prog 32 #[.agg #[.slice a n cap, .int .i64 k]] wx fun q w' => q = .returned (.int .i64 0) ∧ Below wx.heap.size wx w') := fun wx => by rw [← hl]; exact check_edit a n cap k wx hn
  clear hl hn
  subst hf
  go_enter Try.func21, Try.ntmps21
  go_wp2_with (fail)
  refine (HL.out _).mono ?_
  rintro q w1 ⟨rfl, hb1⟩
  obtain ⟨h0, h1, h2, hbb⟩ := start3 w 24 33 35 [.slice a n cap, .int .i64 k] [.int .i64 0, .int .i64 fa] [.int .i64 c, .int .i64 r, .int .i64 100, .int .i64 v, .int .i64 g]
  have HB1 : Hid (Below w.heap.size w w1) := below_trans hbb hb1 hbb.size
  have HF1 := h1.below hb1
  have HC1 := h2.below hb1
  have f0 : w1.cell? ⟨w.heap.size + 1, 0, none⟩ = some (.int .i64 0) := (HF1.cell 0).trans rfl
  have c0 : w1.cell? ⟨w.heap.size + 1 + 1, 0, none⟩ = some (.int .i64 c) := (HC1.cell 0).trans rfl
  have c2 : w1.cell? ⟨w.heap.size + 1 + 1, 2, none⟩ = some (.int .i64 100) := (HC1.cell 2).trans rfl
  clear h0 h1 h2 hbb hb1 HF1 HC1
  go_wp2_with (fail)
  go_ret
  exact ⟨rfl, HB1.out⟩

set_option maxHeartbeats 1000000 in
theorem checkAll_opb100 (a : Option Addr) (n cap : Nat) (k fk fa c r v g : Int) (w : World) (hn : n ≤ maxLen) (hl : lchk n k = 0) (hc : ¬ c < 0) (hc2 : ¬ 999 < c) (hf : fk ≠ 0) (hf2 : isF fk = true) :
    Calls Try.prog 21 #[.agg #[.slice a n cap, .int .i64 k], .agg #[.int .i64 fk, .int .i64 fa], .agg #[.int .i64 c, .int .i64 r, .int .i64 100, .int .i64 v, .int .i64 g]] w fun q w' => q = .returned (.int .i64 0) ∧ Below w.heap.size w w' := by
  have HL : Hid (∀ wx, Calls Try.prog 32 #[.agg #[.slice a n cap, .int .i64 k]] wx fun q w' => q = .returned (.int .i64 0) ∧ Below wx.heap.size wx w') := fun wx => by rw [← hl]; exact check_edit a n cap k wx hn
  clear hl hn
  have hb : (fk != 0) = true := by simpa using hf
  have HF : Hid (isF fk = true) := hf2
  clear hf2
  go_enter Try.func21, Try.ntmps21
  go_wp2_with (fail)
  refine (HL.out _).mono ?_
  rintro q w1 ⟨rfl, hb1⟩
  obtain ⟨h0, h1, h2, hbb⟩ := start3 w 24 33 35 [.slice a n cap, .int .i64 k] [.int .i64 fk, .int .i64 fa] [.int .i64 c, .int .i64 r, .int .i64 100, .int .i64 v, .int .i64 g]
  have HB1 : Hid (Below w.heap.size w w1) := below_trans hbb hb1 hbb.size
  have HF1 := h1.below hb1
  have HC1 := h2.below hb1
  have f0 : w1.cell? ⟨w.heap.size + 1, 0, none⟩ = some (.int .i64 fk) := (HF1.cell 0).trans rfl
  have c0 : w1.cell? ⟨w.heap.size + 1 + 1, 0, none⟩ = some (.int .i64 c) := (HC1.cell 0).trans rfl
  have c2 : w1.cell? ⟨w.heap.size + 1 + 1, 2, none⟩ = some (.int .i64 100) := (HC1.cell 2).trans rfl
  clear h0 h1 h2 hbb hb1 HF1 HC1
  go_wp2_with (fail)
  refine (isFind_go fk _).mono ?_
  rintro q wz ⟨rfl, hwz⟩
  rw [hwz, HF.out]
  clear hwz wz
  go_wp2_with (fail)
  go_ret
  exact ⟨rfl, HB1.out⟩

set_option maxHeartbeats 1000000 in
theorem checkAll_opa99 (a : Option Addr) (n cap : Nat) (k fk fa c r v g : Int) (w : World) (hn : n ≤ maxLen) (hl : lchk n k = 0) (hc : ¬ c < 0) (hc2 : ¬ 999 < c) (hf : fk = 0) :
    Calls Try.prog 21 #[.agg #[.slice a n cap, .int .i64 k], .agg #[.int .i64 fk, .int .i64 fa], .agg #[.int .i64 c, .int .i64 r, .int .i64 99, .int .i64 v, .int .i64 g]] w fun q w' => q = .returned (.int .i64 0) ∧ Below w.heap.size w w' := by
  have HL : Hid (∀ wx, Calls Try.prog 32 #[.agg #[.slice a n cap, .int .i64 k]] wx fun q w' => q = .returned (.int .i64 0) ∧ Below wx.heap.size wx w') := fun wx => by rw [← hl]; exact check_edit a n cap k wx hn
  clear hl hn
  subst hf
  go_enter Try.func21, Try.ntmps21
  go_wp2_with (fail)
  refine (HL.out _).mono ?_
  rintro q w1 ⟨rfl, hb1⟩
  obtain ⟨h0, h1, h2, hbb⟩ := start3 w 24 33 35 [.slice a n cap, .int .i64 k] [.int .i64 0, .int .i64 fa] [.int .i64 c, .int .i64 r, .int .i64 99, .int .i64 v, .int .i64 g]
  have HB1 : Hid (Below w.heap.size w w1) := below_trans hbb hb1 hbb.size
  have HF1 := h1.below hb1
  have HC1 := h2.below hb1
  have f0 : w1.cell? ⟨w.heap.size + 1, 0, none⟩ = some (.int .i64 0) := (HF1.cell 0).trans rfl
  have c0 : w1.cell? ⟨w.heap.size + 1 + 1, 0, none⟩ = some (.int .i64 c) := (HC1.cell 0).trans rfl
  have c2 : w1.cell? ⟨w.heap.size + 1 + 1, 2, none⟩ = some (.int .i64 99) := (HC1.cell 2).trans rfl
  clear h0 h1 h2 hbb hb1 HF1 HC1
  go_wp2_with (fail)
  go_ret
  exact ⟨rfl, HB1.out⟩

set_option maxHeartbeats 1000000 in
theorem checkAll_opb99 (a : Option Addr) (n cap : Nat) (k fk fa c r v g : Int) (w : World) (hn : n ≤ maxLen) (hl : lchk n k = 0) (hc : ¬ c < 0) (hc2 : ¬ 999 < c) (hf : fk ≠ 0) (hf2 : isF fk = true) :
    Calls Try.prog 21 #[.agg #[.slice a n cap, .int .i64 k], .agg #[.int .i64 fk, .int .i64 fa], .agg #[.int .i64 c, .int .i64 r, .int .i64 99, .int .i64 v, .int .i64 g]] w fun q w' => q = .returned (.int .i64 0) ∧ Below w.heap.size w w' := by
  have HL : Hid (∀ wx, Calls Try.prog 32 #[.agg #[.slice a n cap, .int .i64 k]] wx fun q w' => q = .returned (.int .i64 0) ∧ Below wx.heap.size wx w') := fun wx => by rw [← hl]; exact check_edit a n cap k wx hn
  clear hl hn
  have hb : (fk != 0) = true := by simpa using hf
  have HF : Hid (isF fk = true) := hf2
  clear hf2
  go_enter Try.func21, Try.ntmps21
  go_wp2_with (fail)
  refine (HL.out _).mono ?_
  rintro q w1 ⟨rfl, hb1⟩
  obtain ⟨h0, h1, h2, hbb⟩ := start3 w 24 33 35 [.slice a n cap, .int .i64 k] [.int .i64 fk, .int .i64 fa] [.int .i64 c, .int .i64 r, .int .i64 99, .int .i64 v, .int .i64 g]
  have HB1 : Hid (Below w.heap.size w w1) := below_trans hbb hb1 hbb.size
  have HF1 := h1.below hb1
  have HC1 := h2.below hb1
  have f0 : w1.cell? ⟨w.heap.size + 1, 0, none⟩ = some (.int .i64 fk) := (HF1.cell 0).trans rfl
  have c0 : w1.cell? ⟨w.heap.size + 1 + 1, 0, none⟩ = some (.int .i64 c) := (HC1.cell 0).trans rfl
  have c2 : w1.cell? ⟨w.heap.size + 1 + 1, 2, none⟩ = some (.int .i64 99) := (HC1.cell 2).trans rfl
  clear h0 h1 h2 hbb hb1 HF1 HC1
  go_wp2_with (fail)
  refine (isFind_go fk _).mono ?_
  rintro q wz ⟨rfl, hwz⟩
  rw [hwz, HF.out]
  clear hwz wz
  go_wp2_with (fail)
  go_ret
  exact ⟨rfl, HB1.out⟩

set_option maxHeartbeats 1000000 in
theorem checkAll_opa121 (a : Option Addr) (n cap : Nat) (k fk fa c r v g : Int) (w : World) (hn : n ≤ maxLen) (hl : lchk n k = 0) (hc : ¬ c < 0) (hc2 : ¬ 999 < c) (hf : fk = 0) :
    Calls Try.prog 21 #[.agg #[.slice a n cap, .int .i64 k], .agg #[.int .i64 fk, .int .i64 fa], .agg #[.int .i64 c, .int .i64 r, .int .i64 121, .int .i64 v, .int .i64 g]] w fun q w' => q = .returned (.int .i64 0) ∧ Below w.heap.size w w' := by
  have HL : Hid (∀ wx, Calls Try.prog 32 #[.agg #[.slice a n cap, .int .i64 k]] wx fun q w' => q = .returned (.int .i64 0) ∧ Below wx.heap.size wx w') := fun wx => by rw [← hl]; exact check_edit a n cap k wx hn
  clear hl hn
  subst hf
  go_enter Try.func21, Try.ntmps21
  go_wp2_with (fail)
  refine (HL.out _).mono ?_
  rintro q w1 ⟨rfl, hb1⟩
  obtain ⟨h0, h1, h2, hbb⟩ := start3 w 24 33 35 [.slice a n cap, .int .i64 k] [.int .i64 0, .int .i64 fa] [.int .i64 c, .int .i64 r, .int .i64 121, .int .i64 v, .int .i64 g]
  have HB1 : Hid (Below w.heap.size w w1) := below_trans hbb hb1 hbb.size
  have HF1 := h1.below hb1
  have HC1 := h2.below hb1
  have f0 : w1.cell? ⟨w.heap.size + 1, 0, none⟩ = some (.int .i64 0) := (HF1.cell 0).trans rfl
  have c0 : w1.cell? ⟨w.heap.size + 1 + 1, 0, none⟩ = some (.int .i64 c) := (HC1.cell 0).trans rfl
  have c2 : w1.cell? ⟨w.heap.size + 1 + 1, 2, none⟩ = some (.int .i64 121) := (HC1.cell 2).trans rfl
  clear h0 h1 h2 hbb hb1 HF1 HC1
  go_wp2_with (fail)
  go_ret
  exact ⟨rfl, HB1.out⟩

set_option maxHeartbeats 1000000 in
theorem checkAll_opb121 (a : Option Addr) (n cap : Nat) (k fk fa c r v g : Int) (w : World) (hn : n ≤ maxLen) (hl : lchk n k = 0) (hc : ¬ c < 0) (hc2 : ¬ 999 < c) (hf : fk ≠ 0) (hf2 : isF fk = true) :
    Calls Try.prog 21 #[.agg #[.slice a n cap, .int .i64 k], .agg #[.int .i64 fk, .int .i64 fa], .agg #[.int .i64 c, .int .i64 r, .int .i64 121, .int .i64 v, .int .i64 g]] w fun q w' => q = .returned (.int .i64 0) ∧ Below w.heap.size w w' := by
  have HL : Hid (∀ wx, Calls Try.prog 32 #[.agg #[.slice a n cap, .int .i64 k]] wx fun q w' => q = .returned (.int .i64 0) ∧ Below wx.heap.size wx w') := fun wx => by rw [← hl]; exact check_edit a n cap k wx hn
  clear hl hn
  have hb : (fk != 0) = true := by simpa using hf
  have HF : Hid (isF fk = true) := hf2
  clear hf2
  go_enter Try.func21, Try.ntmps21
  go_wp2_with (fail)
  refine (HL.out _).mono ?_
  rintro q w1 ⟨rfl, hb1⟩
  obtain ⟨h0, h1, h2, hbb⟩ := start3 w 24 33 35 [.slice a n cap, .int .i64 k] [.int .i64 fk, .int .i64 fa] [.int .i64 c, .int .i64 r, .int .i64 121, .int .i64 v, .int .i64 g]
  have HB1 : Hid (Below w.heap.size w w1) := below_trans hbb hb1 hbb.size
  have HF1 := h1.below hb1
  have HC1 := h2.below hb1
  have f0 : w1.cell? ⟨w.heap.size + 1, 0, none⟩ = some (.int .i64 fk) := (HF1.cell 0).trans rfl
  have c0 : w1.cell? ⟨w.heap.size + 1 + 1, 0, none⟩ = some (.int .i64 c) := (HC1.cell 0).trans rfl
  have c2 : w1.cell? ⟨w.heap.size + 1 + 1, 2, none⟩ = some (.int .i64 121) := (HC1.cell 2).trans rfl
  clear h0 h1 h2 hbb hb1 HF1 HC1
  go_wp2_with (fail)
  refine (isFind_go fk _).mono ?_
  rintro q wz ⟨rfl, hwz⟩
  rw [hwz, HF.out]
  clear hwz wz
  go_wp2_with (fail)
  go_ret
  exact ⟨rfl, HB1.out⟩

set_option maxHeartbeats 1000000 in
theorem checkAll_bada (a : Option Addr) (n cap : Nat) (k fk fa c r o v g : Int) (w : World) (hn : n ≤ maxLen) (hl : lchk n k = 0) (hc : ¬ c < 0) (hc2 : ¬ 999 < c) (hf : fk = 0) (o1 : (o == 0) = false) (o2 : (o == 100) = false) (o3 : (o == 99) = false) (o4 : (o == 121) = false) :
    Calls Try.prog 21 #[.agg #[.slice a n cap, .int .i64 k], .agg #[.int .i64 fk, .int .i64 fa], .agg #[.int .i64 c, .int .i64 r, .int .i64 o, .int .i64 v, .int .i64 g]] w fun q w' => q = .returned (.int .i64 9) ∧ Below w.heap.size w w' := by
  have HL : Hid (∀ wx, Calls Try.prog 32 #[.agg #[.slice a n cap, .int .i64 k]] wx fun q w' => q = .returned (.int .i64 0) ∧ Below wx.heap.size wx w') := fun wx => by rw [← hl]; exact check_edit a n cap k wx hn
  clear hl hn
  subst hf
  go_enter Try.func21, Try.ntmps21
  go_wp2_with (fail)
  refine (HL.out _).mono ?_
  rintro q w1 ⟨rfl, hb1⟩
  obtain ⟨h0, h1, h2, hbb⟩ := start3 w 24 33 35 [.slice a n cap, .int .i64 k] [.int .i64 0, .int .i64 fa] [.int .i64 c, .int .i64 r, .int .i64 o, .int .i64 v, .int .i64 g]
  have HB1 : Hid (Below w.heap.size w w1) := below_trans hbb hb1 hbb.size
  have HF1 := h1.below hb1
  have HC1 := h2.below hb1
  have f0 : w1.cell? ⟨w.heap.size + 1, 0, none⟩ = some (.int .i64 0) := (HF1.cell 0).trans rfl
  have c0 : w1.cell? ⟨w.heap.size + 1 + 1, 0, none⟩ = some (.int .i64 c) := (HC1.cell 0).trans rfl
  have c2 : w1.cell? ⟨w.heap.size + 1 + 1, 2, none⟩ = some (.int .i64 o) := (HC1.cell 2).trans rfl
  clear h0 h1 h2 hbb hb1 HF1 HC1
  go_wp2_with (fail)
  go_ret
  exact ⟨rfl, HB1.out⟩

set_option maxHeartbeats 1000000 in
theorem checkAll_badb (a : Option Addr) (n cap : Nat) (k fk fa c r o v g : Int) (w : World) (hn : n ≤ maxLen) (hl : lchk n k = 0) (hc : ¬ c < 0) (hc2 : ¬ 999 < c) (hf : fk ≠ 0) (hf2 : isF fk = true) (o1 : (o == 0) = false) (o2 : (o == 100) = false) (o3 : (o == 99) = false) (o4 : (o == 121) = false) :
    Calls Try.prog 21 #[.agg #[.slice a n cap, .int .i64 k], .agg #[.int .i64 fk, .int .i64 fa], .agg #[.int .i64 c, .int .i64 r, .int .i64 o, .int .i64 v, .int .i64 g]] w fun q w' => q = .returned (.int .i64 9) ∧ Below w.heap.size w w' := by
  have HL : Hid (∀ wx, Calls Try.prog 32 #[.agg #[.slice a n cap, .int .i64 k]] wx fun q w' => q = .returned (.int .i64 0) ∧ Below wx.heap.size wx w') := fun wx => by rw [← hl]; exact check_edit a n cap k wx hn
  clear hl hn
  have hb : (fk != 0) = true := by simpa using hf
  have HF : Hid (isF fk = true) := hf2
  clear hf2
  go_enter Try.func21, Try.ntmps21
  go_wp2_with (fail)
  refine (HL.out _).mono ?_
  rintro q w1 ⟨rfl, hb1⟩
  obtain ⟨h0, h1, h2, hbb⟩ := start3 w 24 33 35 [.slice a n cap, .int .i64 k] [.int .i64 fk, .int .i64 fa] [.int .i64 c, .int .i64 r, .int .i64 o, .int .i64 v, .int .i64 g]
  have HB1 : Hid (Below w.heap.size w w1) := below_trans hbb hb1 hbb.size
  have HF1 := h1.below hb1
  have HC1 := h2.below hb1
  have f0 : w1.cell? ⟨w.heap.size + 1, 0, none⟩ = some (.int .i64 fk) := (HF1.cell 0).trans rfl
  have c0 : w1.cell? ⟨w.heap.size + 1 + 1, 0, none⟩ = some (.int .i64 c) := (HC1.cell 0).trans rfl
  have c2 : w1.cell? ⟨w.heap.size + 1 + 1, 2, none⟩ = some (.int .i64 o) := (HC1.cell 2).trans rfl
  clear h0 h1 h2 hbb hb1 HF1 HC1
  go_wp2_with (fail)
  refine (isFind_go fk _).mono ?_
  rintro q wz ⟨rfl, hwz⟩
  rw [hwz, HF.out]
  clear hwz wz
  go_wp2_with (fail)
  go_ret
  exact ⟨rfl, HB1.out⟩

theorem checkAll_go (a : Option Addr) (n cap : Nat) (k fk fa c r o v g : Int) (w : World) (hn : n ≤ maxLen) :
    Calls Try.prog 21 #[.agg #[.slice a n cap, .int .i64 k], .agg #[.int .i64 fk, .int .i64 fa], .agg #[.int .i64 c, .int .i64 r, .int .i64 o, .int .i64 v, .int .i64 g]] w fun q w' => q = .returned (.int .i64 (achk n k fk c o)) ∧ Below w.heap.size w w' := by
  unfold achk
  by_cases hl : lchk n k = 0
  · rw [if_neg (by rw [hl]; decide)]
    by_cases h1 : c < 0
    · rw [if_pos (.inl h1)]
      exact checkAll_low a n cap k fk fa c r o v g w hn hl h1
    by_cases h2 : 999 < c
    · rw [if_pos (.inr (.inl h2))]
      exact checkAll_high a n cap k fk fa c r o v g w hn hl h1 h2
    by_cases hf : fk = 0
    · rw [if_neg (by omega)]
      by_cases ho : o = 0 ∨ o = 100 ∨ o = 99 ∨ o = 121
      · have hio : isO o = true := decide_eq_true ho
        rw [if_pos hio]
        rcases ho with rfl | rfl | rfl | rfl
        · exact checkAll_opa0 a n cap k fk fa c r v g w hn hl h1 h2 hf
        · exact checkAll_opa100 a n cap k fk fa c r v g w hn hl h1 h2 hf
        · exact checkAll_opa99 a n cap k fk fa c r v g w hn hl h1 h2 hf
        · exact checkAll_opa121 a n cap k fk fa c r v g w hn hl h1 h2 hf
      · rw [if_neg (by unfold isO; rw [decide_eq_false ho]; decide)]
        exact checkAll_bada a n cap k fk fa c r o v g w hn hl h1 h2 hf (by simp; omega) (by simp; omega) (by simp; omega) (by simp; omega)
    · cases hf2 : isF fk with
      | false =>
        rw [if_pos (.inr (.inr ⟨hf, rfl⟩))]
        exact checkAll_find a n cap k fk fa c r o v g w hn hl h1 h2 hf hf2
      | true =>
        rw [if_neg (by rintro (h | h | ⟨_, h⟩) <;> first | exact h1 h | exact h2 h | cases h)]
        by_cases ho : o = 0 ∨ o = 100 ∨ o = 99 ∨ o = 121
        · have hio : isO o = true := decide_eq_true ho
          rw [if_pos hio]
          rcases ho with rfl | rfl | rfl | rfl
          · exact checkAll_opb0 a n cap k fk fa c r v g w hn hl h1 h2 hf hf2
          · exact checkAll_opb100 a n cap k fk fa c r v g w hn hl h1 h2 hf hf2
          · exact checkAll_opb99 a n cap k fk fa c r v g w hn hl h1 h2 hf hf2
          · exact checkAll_opb121 a n cap k fk fa c r v g w hn hl h1 h2 hf hf2
        · rw [if_neg (by unfold isO; rw [decide_eq_false ho]; decide)]
          exact checkAll_badb a n cap k fk fa c r o v g w hn hl h1 h2 hf hf2 (by simp; omega) (by simp; omega) (by simp; omega) (by simp; omega)
  · rw [if_pos hl]
    exact checkAll_line a n cap k fk fa c r o v g _ w hn rfl hl
end Go.Proofs.Ytpgjaoemkadenaa.Seek
