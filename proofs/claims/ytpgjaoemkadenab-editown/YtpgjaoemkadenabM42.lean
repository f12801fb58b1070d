/- The contract of edit.Do. -/
import Derived.Test.YtpgjaoemkadenabM39
import Derived.Test.YtpgjaoemkadenabM41
import Derived.Deep.RegionHeld3
set_option linter.unusedVariables false
set_option linter.unusedSimpArgs false
set_option maxRecDepth 100000
namespace Go.Proofs.Ytpgjaoemkadenab.Seek
open Go.RowKit Plain


/-- What Do answers: zs is the text ahead. -/
def DoPost (zs : List Int) (X : Res × Int) (w : World) (q : Ending) (w' : World) : Prop :=
  Below w.heap.size w w' ∧ ∃ x, q = .returned (.tuple #[x, .int .i64 X.2]) ∧ OwnRes w' w.heap.size x X.1 (if X.2 = 0 then ups (btw zs X.1.text) else [])
theorem ownRes_nul (w : World) (B : Nat) : OwnRes w B (.agg nulL.toArray) nulR [] := ⟨none, 0, nils, .slice none 0 0, B, B, rfl, Nat.le_refl _, Nat.le_refl _, avT_nil w _, avR_nil w _, avE_nil _ _⟩
theorem built27 (tv : Value) (k fk fa : Int) (v0 v1 v2 v3 v4 v5 v6 v7 v8 v9 v10 v11 v12 v13 v14 v15 v16 v17 v18 v19 v20 v21 v22 v23 v24 v25 v26 : Value) :
    Try.prog.built 43 [(0, .agg #[tv, .int .i64 k]), (1, .agg ([v0, v1, v2, v3, v4, v5, v6, v7, v8, v9, v10, v11, v12, v13, v14, v15, v16, v17, v18, v19, v20, v21, v22, v23, v24, v25, v26] : List Value).toArray), (2, .agg #[.int .i64 fk, .int .i64 fa])] = some (resL tv k [v0, v1, v2, v3, v4, v5, v6, v7, v8, v9, v10, v11, v12, v13, v14, v15, v16, v17, v18, v19, v20, v21, v22, v23, v24, v25, v26] fk fa 0 (.slice none 0 0)).toArray := by kernel_rfl
theorem built_res (f : Operand → Value) (tv : Value) (k fk fa : Int) (vs : List Value) (hvs : vs.length = 27) (h1 : f (.tmp 22) = .agg #[tv, .int .i64 k]) (h2 : f (.tmp 23) = .agg vs.toArray) (h3 : f (.tmp 24) = .agg #[.int .i64 fk, .int .i64 fa]) :
    Try.prog.built 43 ((#[(0, .tmp 22), (1, .tmp 23), (2, .tmp 24)] : Array (Nat × Operand)).map fun (i, x) => (i, f x)).toList = some (resL tv k vs fk fa 0 (.slice none 0 0)).toArray := by
  have e : ((#[(0, .tmp 22), (1, .tmp 23), (2, .tmp 24)] : Array (Nat × Operand)).map fun (i, x) => (i, f x)).toList = [(0, .agg #[tv, .int .i64 k]), (1, .agg vs.toArray), (2, .agg #[.int .i64 fk, .int .i64 fa])] := by simp [h1, h2, h3]
  rw [e]
  clear e h1 h2 h3
  match vs, hvs with
  | [v0, v1, v2, v3, v4, v5, v6, v7, v8, v9, v10, v11, v12, v13, v14, v15, v16, v17, v18, v19, v20, v21, v22, v23, v24, v25, v26], _ => exact built27 tv k fk fa v0 v1 v2 v3 v4 v5 v6 v7 v8 v9 v10 v11 v12 v13 v14 v15 v16 v17 v18 v19 v20 v21 v22 v23 v24 v25 v26
theorem exec_buildC {f : Operand → Value} {o : Oper} (t : TypeId) (parts : Array (Nat × Operand)) (ho : o.op = .build t parts) (cs : List Value) (hb : Try.prog.built t (parts.map fun (i, x) => (i, f x)).toList = some cs.toArray) (w : World) : (execOp f o).run Try.prog w = .ok (.value (.agg cs.toArray)) w := by
  unfold execOp
  have := run_build (P := Try.prog) w t (parts.map fun (i, x) => (i, f x)) cs.toArray hb
  simp only [ho, Sem.run_bind, this, Result.andThen_ok, Sem.run_pure]

set_option maxHeartbeats 4000000 in
theorem do_bad (a : Option Addr) (cap : Nat) (zs : List Int) (k : Int) (vs : List Value) (ts : List (List Int)) (fk fa c r o v g : Int) (w : World) (h : Reads w (.slice a zs.length cap) zs) (hr : ReadsR w vs ts) (hm : zs.length ≤ maxLen) (E : Int) (hE : achk zs.length k fk c o = E) (he : E ≠ 0) :
    Calls Try.prog 13 #[.agg #[.slice a zs.length cap, .int .i64 k], .agg vs.toArray, .agg #[.int .i64 fk, .int .i64 fa], .agg #[.int .i64 c, .int .i64 r, .int .i64 o, .int .i64 v, .int .i64 g]] w fun q w' => DoPost zs (nulR, E) w q w' := by
  have HCK : Hid (∀ wx, Calls Try.prog 23 #[.agg #[.slice a zs.length cap, .int .i64 k], .agg #[.int .i64 fk, .int .i64 fa], .agg #[.int .i64 c, .int .i64 r, .int .i64 o, .int .i64 v, .int .i64 g]] wx fun q w' => q = .returned (.int .i64 E) ∧ Below wx.heap.size wx w') := fun wx => by rw [← hE]; exact checkAll_go a zs.length cap k fk fa c r o v g wx (by exact hm)
  have hvs : vs.length = 27 := hr.1.1
  have HS : Hid (AllSl vs) := hr.1
  have hb1 : (E != 0) = true := by simpa using he
  clear he hE h hr hm
  go_enter Try.func13, Try.ntmps13
  go_wp2_with (refine boxC rfl 24 _ rfl [.slice a zs.length cap, .int .i64 k] rfl ?_)
  intro w1 ha hb
  have HB_w1 : Hid (Below w.heap.size w w1) := hb
  have A_w1 : Hid (BoxC w1 24 w.heap.size [.slice a zs.length cap, .int .i64 k]) := ha
  clear ha hb
  go_wp2_with (refine boxC rfl 36 _ rfl vs rfl ?_)
  intro w2 ha hb
  have HLGR : Hid (w.heap.size ≤ w1.heap.size ∧ w.heap.size < w1.heap.size) := ⟨HB_w1.out.size, A_w1.out.lt⟩
  have HB_w2 : Hid (Below w.heap.size w w2) := below_trans HB_w1.out hb HB_w1.out.size
  have A_w2 : Hid (BoxC w2 24 w.heap.size [.slice a zs.length cap, .int .i64 k]) := A_w1.out.below hb
  clear A_w1 HB_w1
  have R_w2 : Hid (BoxC w2 36 w1.heap.size vs) := ha
  clear ha hb
  generalize w1.heap.size = GR at *
  go_wp2_with (refine boxC rfl 40 _ rfl [.int .i64 fk, .int .i64 fa] rfl ?_)
  intro w3 ha hb
  have HLGF : Hid (w.heap.size ≤ w2.heap.size ∧ w.heap.size < w2.heap.size ∧ GR < w2.heap.size) := ⟨HB_w2.out.size, A_w2.out.lt, R_w2.out.lt⟩
  have HB_w3 : Hid (Below w.heap.size w w3) := below_trans HB_w2.out hb HB_w2.out.size
  have A_w3 : Hid (BoxC w3 24 w.heap.size [.slice a zs.length cap, .int .i64 k]) := A_w2.out.below hb
  have R_w3 : Hid (BoxC w3 36 GR vs) := R_w2.out.below hb
  clear A_w2 R_w2 HB_w2
  have F_w3 : Hid (BoxC w3 40 w2.heap.size [.int .i64 fk, .int .i64 fa]) := ha
  clear ha hb
  generalize w2.heap.size = GF at *
  go_wp2_with (refine boxC rfl 38 _ rfl [.int .i64 c, .int .i64 r, .int .i64 o, .int .i64 v, .int .i64 g] rfl ?_)
  intro w4 ha hb
  have HLGC : Hid (w.heap.size ≤ w3.heap.size ∧ w.heap.size < w3.heap.size ∧ GR < w3.heap.size ∧ GF < w3.heap.size) := ⟨HB_w3.out.size, A_w3.out.lt, R_w3.out.lt, F_w3.out.lt⟩
  have HB_w4 : Hid (Below w.heap.size w w4) := below_trans HB_w3.out hb HB_w3.out.size
  have A_w4 : Hid (BoxC w4 24 w.heap.size [.slice a zs.length cap, .int .i64 k]) := A_w3.out.below hb
  have R_w4 : Hid (BoxC w4 36 GR vs) := R_w3.out.below hb
  have F_w4 : Hid (BoxC w4 40 GF [.int .i64 fk, .int .i64 fa]) := F_w3.out.below hb
  clear A_w3 R_w3 F_w3 HB_w3
  have C_w4 : Hid (BoxC w4 38 w3.heap.size [.int .i64 c, .int .i64 r, .int .i64 o, .int .i64 v, .int .i64 g]) := ha
  clear ha hb
  generalize w3.heap.size = GC at *
  go_wp2_with (refine allocC rfl 43 rfl nulL nul_zero ?_)
  intro w5 ha hb
  have HLGZ : Hid (w.heap.size ≤ w4.heap.size ∧ w.heap.size < w4.heap.size ∧ GR < w4.heap.size ∧ GF < w4.heap.size ∧ GC < w4.heap.size) := ⟨HB_w4.out.size, A_w4.out.lt, R_w4.out.lt, F_w4.out.lt, C_w4.out.lt⟩
  have HB_w5 : Hid (Below w.heap.size w w5) := below_trans HB_w4.out hb HB_w4.out.size
  have A_w5 : Hid (BoxC w5 24 w.heap.size [.slice a zs.length cap, .int .i64 k]) := A_w4.out.below hb
  have R_w5 : Hid (BoxC w5 36 GR vs) := R_w4.out.below hb
  have F_w5 : Hid (BoxC w5 40 GF [.int .i64 fk, .int .i64 fa]) := F_w4.out.below hb
  have C_w5 : Hid (BoxC w5 38 GC [.int .i64 c, .int .i64 r, .int .i64 o, .int .i64 v, .int .i64 g]) := C_w4.out.below hb
  clear A_w4 R_w4 F_w4 C_w4 HB_w4
  have Z_w5 : Hid (BoxC w5 43 w4.heap.size nulL) := ha
  clear ha hb
  generalize w4.heap.size = GZ at *
  have cA0 : w5.cell? ⟨w.heap.size, 0, none⟩ = some (.slice a zs.length cap) := (A_w5.out.cell 0).trans rfl
  have cA1 : w5.cell? ⟨w.heap.size, 1, none⟩ = some (.int .i64 k) := (A_w5.out.cell 1).trans rfl
  have cF0 : w5.cell? ⟨GF, 0, none⟩ = some (.int .i64 fk) := (F_w5.out.cell 0).trans rfl
  have cF1 : w5.cell? ⟨GF, 1, none⟩ = some (.int .i64 fa) := (F_w5.out.cell 1).trans rfl
  have cC0 : w5.cell? ⟨GC, 0, none⟩ = some (.int .i64 c) := (C_w5.out.cell 0).trans rfl
  have cC1 : w5.cell? ⟨GC, 1, none⟩ = some (.int .i64 r) := (C_w5.out.cell 1).trans rfl
  have cC2 : w5.cell? ⟨GC, 2, none⟩ = some (.int .i64 o) := (C_w5.out.cell 2).trans rfl
  have cC3 : w5.cell? ⟨GC, 3, none⟩ = some (.int .i64 v) := (C_w5.out.cell 3).trans rfl
  have cC4 : w5.cell? ⟨GC, 4, none⟩ = some (.int .i64 g) := (C_w5.out.cell 4).trans rfl
  go_wp2_with (fail)
  refine (HCK.out _).mono ?_
  rintro q w6 ⟨rfl, hb6⟩
  clear HCK cA0 cA1 cF0 cF1 cC0 cC1 cC2 cC3 cC4
  have HB_w6 : Hid (Below w.heap.size w w6) := below_trans HB_w5.out hb6 HB_w5.out.size
  have A_w6 : Hid (BoxC w6 24 w.heap.size [.slice a zs.length cap, .int .i64 k]) := A_w5.out.below hb6
  have R_w6 : Hid (BoxC w6 36 GR vs) := R_w5.out.below hb6
  have F_w6 : Hid (BoxC w6 40 GF [.int .i64 fk, .int .i64 fa]) := F_w5.out.below hb6
  have C_w6 : Hid (BoxC w6 38 GC [.int .i64 c, .int .i64 r, .int .i64 o, .int .i64 v, .int .i64 g]) := C_w5.out.below hb6
  have Z_w6 : Hid (BoxC w6 43 GZ nulL) := Z_w5.out.below hb6
  clear A_w5 R_w5 F_w5 C_w5 Z_w5 HB_w5
  clear hb6
  go_wp2_with (refine storeC rfl 43 _ _ rfl GZ rfl nulL nulL rfl Z_w6.out wide_res nul_one rfl ?_)
  intro w7 hz hg
  have HB_w7 : Hid (Below w.heap.size w w7) := HB_w6.out.grown hg HB_w6.out.size (fun j hj => by cases hj; exact (by have := HLGZ.out; omega))
  have A_w7 : Hid (BoxC w7 24 w.heap.size [.slice a zs.length cap, .int .i64 k]) := A_w6.out.kept hg (fun e => by have := HLGZ.out; have := Option.some.inj e; omega)
  have R_w7 : Hid (BoxC w7 36 GR vs) := R_w6.out.kept hg (fun e => by have := HLGZ.out; have := HLGR.out; have := Option.some.inj e; omega)
  have F_w7 : Hid (BoxC w7 40 GF [.int .i64 fk, .int .i64 fa]) := F_w6.out.kept hg (fun e => by have := HLGZ.out; have := HLGF.out; have := Option.some.inj e; omega)
  have C_w7 : Hid (BoxC w7 38 GC [.int .i64 c, .int .i64 r, .int .i64 o, .int .i64 v, .int .i64 g]) := C_w6.out.kept hg (fun e => by have := HLGZ.out; have := HLGC.out; have := Option.some.inj e; omega)
  clear A_w6 R_w6 F_w6 C_w6 Z_w6 HB_w6
  have Z_w7 : Hid (BoxC w7 43 GZ nulL) := hz
  clear hz hg
  go_wp2_with (fail)
  (try simp only [Exit.inBlock, Exit.then])
  refine bodyPost_ret (ret_box rfl _ _ GZ nulL _ rfl rfl Z_w7.out wide_res) rfl ?_
  refine ⟨HB_w7.out, _, rfl, ?_⟩
  show OwnRes _ _ _ _ (if E = 0 then _ else [])
  rw [if_neg (by simpa using hb1)]
  exact ownRes_nul _ _

set_option maxHeartbeats 4000000 in
theorem do_fail (a : Option Addr) (cap : Nat) (zs : List Int) (k : Int) (vs : List Value) (ts : List (List Int)) (fk fa c r o v g : Int) (w : World) (h : Reads w (.slice a zs.length cap) zs) (hr : ReadsR w vs ts) (hz : zs.length ≤ 200) (hE : achk zs.length k fk c o = 0) (hk0 : 0 ≤ k) (hkl : k ≤ lastP zs.length) (hc : c ≤ 999) (O V : Int) (hO : whl o v = (O, V)) (ho : O = 0 ∨ O = 100 ∨ O = 99 ∨ O = 121) (X : Res × Int) (hX : dne (⟨zs, k, ts, fk, fa, 0⟩ : Res) c r O V g = X) (he : X.2 ≠ 0) :
    Calls Try.prog 13 #[.agg #[.slice a zs.length cap, .int .i64 k], .agg vs.toArray, .agg #[.int .i64 fk, .int .i64 fa], .agg #[.int .i64 c, .int .i64 r, .int .i64 o, .int .i64 v, .int .i64 g]] w fun q w' => DoPost zs (nulR, X.2) w q w' := by
  have HCK : Hid (∀ wx, Calls Try.prog 23 #[.agg #[.slice a zs.length cap, .int .i64 k], .agg #[.int .i64 fk, .int .i64 fa], .agg #[.int .i64 c, .int .i64 r, .int .i64 o, .int .i64 v, .int .i64 g]] wx fun q w' => q = .returned (.int .i64 0) ∧ Below wx.heap.size wx w') := fun wx => by rw [← hE]; exact checkAll_go a zs.length cap k fk fa c r o v g wx (by unfold maxLen; omega)
  have hvs : vs.length = 27 := hr.1.1
  have HS : Hid (AllSl vs) := hr.1
  have HWH : Hid (∀ wx, Calls Try.prog 25 #[.agg #[.int .i64 c, .int .i64 r, .int .i64 o, .int .i64 v, .int .i64 g]] wx fun q w' => q = .returned (.agg #[.int .i64 c, .int .i64 r, .int .i64 O, .int .i64 V, .int .i64 g]) ∧ Below wx.heap.size wx w') := fun wx => by have q := whole_go c r o v g wx; rw [hO] at q; exact q
  have HDT : Hid (∀ wx, Below w.heap.size w wx → ∀ P : Nat → Prop, (∀ b, wx.heap.size ≤ b → P b) → (∀ b, b < w.heap.size → P b) → Calls Try.prog 24 #[.agg (resL (.slice a zs.length cap) k vs fk fa 0 (.slice none 0 0)).toArray, .agg #[.int .i64 c, .int .i64 r, .int .i64 O, .int .i64 V, .int .i64 g]] wx fun q w' => DonePost P X wx q w') := fun wx hx P hP1 hP2 => by
    rw [← hX]
    exact done_go a cap vs (⟨zs, k, ts, fk, fa, 0⟩ : Res) c r O V g wx P hP1 (((av_arg h).below hx).weak hP2) (((avR_arg hr).below hx).weak hP2) hk0 hkl hz hc ho
  have HZl : Hid (zs.length ≤ 4096) := by show _ ≤ _; omega
  clear hE hX hO ho hk0 hkl hc hz
  have hb1 : (X.2 != 0) = true := by simpa using he
  clear he h hr
  go_enter Try.func13, Try.ntmps13
  go_wp2_with (refine boxC rfl 24 _ rfl [.slice a zs.length cap, .int .i64 k] rfl ?_)
  intro w1 ha hb
  have HB_w1 : Hid (Below w.heap.size w w1) := hb
  have A_w1 : Hid (BoxC w1 24 w.heap.size [.slice a zs.length cap, .int .i64 k]) := ha
  clear ha hb
  go_wp2_with (refine boxC rfl 36 _ rfl vs rfl ?_)
  intro w2 ha hb
  have HLGR : Hid (w.heap.size ≤ w1.heap.size ∧ w.heap.size < w1.heap.size) := ⟨HB_w1.out.size, A_w1.out.lt⟩
  have HB_w2 : Hid (Below w.heap.size w w2) := below_trans HB_w1.out hb HB_w1.out.size
  have A_w2 : Hid (BoxC w2 24 w.heap.size [.slice a zs.length cap, .int .i64 k]) := A_w1.out.below hb
  clear A_w1 HB_w1
  have R_w2 : Hid (BoxC w2 36 w1.heap.size vs) := ha
  clear ha hb
  generalize w1.heap.size = GR at *
  go_wp2_with (refine boxC rfl 40 _ rfl [.int .i64 fk, .int .i64 fa] rfl ?_)
  intro w3 ha hb
  have HLGF : Hid (w.heap.size ≤ w2.heap.size ∧ w.heap.size < w2.heap.size ∧ GR < w2.heap.size) := ⟨HB_w2.out.size, A_w2.out.lt, R_w2.out.lt⟩
  have HB_w3 : Hid (Below w.heap.size w w3) := below_trans HB_w2.out hb HB_w2.out.size
  have A_w3 : Hid (BoxC w3 24 w.heap.size [.slice a zs.length cap, .int .i64 k]) := A_w2.out.below hb
  have R_w3 : Hid (BoxC w3 36 GR vs) := R_w2.out.below hb
  clear A_w2 R_w2 HB_w2
  have F_w3 : Hid (BoxC w3 40 w2.heap.size [.int .i64 fk, .int .i64 fa]) := ha
  clear ha hb
  generalize w2.heap.size = GF at *
  go_wp2_with (refine boxC rfl 38 _ rfl [.int .i64 c, .int .i64 r, .int .i64 o, .int .i64 v, .int .i64 g] rfl ?_)
  intro w4 ha hb
  have HLGC : Hid (w.heap.size ≤ w3.heap.size ∧ w.heap.size < w3.heap.size ∧ GR < w3.heap.size ∧ GF < w3.heap.size) := ⟨HB_w3.out.size, A_w3.out.lt, R_w3.out.lt, F_w3.out.lt⟩
  have HB_w4 : Hid (Below w.heap.size w w4) := below_trans HB_w3.out hb HB_w3.out.size
  have A_w4 : Hid (BoxC w4 24 w.heap.size [.slice a zs.length cap, .int .i64 k]) := A_w3.out.below hb
  have R_w4 : Hid (BoxC w4 36 GR vs) := R_w3.out.below hb
  have F_w4 : Hid (BoxC w4 40 GF [.int .i64 fk, .int .i64 fa]) := F_w3.out.below hb
  clear A_w3 R_w3 F_w3 HB_w3
  have C_w4 : Hid (BoxC w4 38 w3.heap.size [.int .i64 c, .int .i64 r, .int .i64 o, .int .i64 v, .int .i64 g]) := ha
  clear ha hb
  generalize w3.heap.size = GC at *
  go_wp2_with (refine allocC rfl 43 rfl nulL nul_zero ?_)
  intro w5 ha hb
  have HLGZ : Hid (w.heap.size ≤ w4.heap.size ∧ w.heap.size < w4.heap.size ∧ GR < w4.heap.size ∧ GF < w4.heap.size ∧ GC < w4.heap.size) := ⟨HB_w4.out.size, A_w4.out.lt, R_w4.out.lt, F_w4.out.lt, C_w4.out.lt⟩
  have HB_w5 : Hid (Below w.heap.size w w5) := below_trans HB_w4.out hb HB_w4.out.size
  have A_w5 : Hid (BoxC w5 24 w.heap.size [.slice a zs.length cap, .int .i64 k]) := A_w4.out.below hb
  have R_w5 : Hid (BoxC w5 36 GR vs) := R_w4.out.below hb
  have F_w5 : Hid (BoxC w5 40 GF [.int .i64 fk, .int .i64 fa]) := F_w4.out.below hb
  have C_w5 : Hid (BoxC w5 38 GC [.int .i64 c, .int .i64 r, .int .i64 o, .int .i64 v, .int .i64 g]) := C_w4.out.below hb
  clear A_w4 R_w4 F_w4 C_w4 HB_w4
  have Z_w5 : Hid (BoxC w5 43 w4.heap.size nulL) := ha
  clear ha hb
  generalize w4.heap.size = GZ at *
  have cA0 : w5.cell? ⟨w.heap.size, 0, none⟩ = some (.slice a zs.length cap) := (A_w5.out.cell 0).trans rfl
  have cA1 : w5.cell? ⟨w.heap.size, 1, none⟩ = some (.int .i64 k) := (A_w5.out.cell 1).trans rfl
  have cF0 : w5.cell? ⟨GF, 0, none⟩ = some (.int .i64 fk) := (F_w5.out.cell 0).trans rfl
  have cF1 : w5.cell? ⟨GF, 1, none⟩ = some (.int .i64 fa) := (F_w5.out.cell 1).trans rfl
  have cC0 : w5.cell? ⟨GC, 0, none⟩ = some (.int .i64 c) := (C_w5.out.cell 0).trans rfl
  have cC1 : w5.cell? ⟨GC, 1, none⟩ = some (.int .i64 r) := (C_w5.out.cell 1).trans rfl
  have cC2 : w5.cell? ⟨GC, 2, none⟩ = some (.int .i64 o) := (C_w5.out.cell 2).trans rfl
  have cC3 : w5.cell? ⟨GC, 3, none⟩ = some (.int .i64 v) := (C_w5.out.cell 3).trans rfl
  have cC4 : w5.cell? ⟨GC, 4, none⟩ = some (.int .i64 g) := (C_w5.out.cell 4).trans rfl
  go_wp2_with (fail)
  refine (HCK.out _).mono ?_
  rintro q w6 ⟨rfl, hb6⟩
  clear HCK cA0 cA1 cF0 cF1 cC0 cC1 cC2 cC3 cC4
  have HB_w6 : Hid (Below w.heap.size w w6) := below_trans HB_w5.out hb6 HB_w5.out.size
  have A_w6 : Hid (BoxC w6 24 w.heap.size [.slice a zs.length cap, .int .i64 k]) := A_w5.out.below hb6
  have R_w6 : Hid (BoxC w6 36 GR vs) := R_w5.out.below hb6
  have F_w6 : Hid (BoxC w6 40 GF [.int .i64 fk, .int .i64 fa]) := F_w5.out.below hb6
  have C_w6 : Hid (BoxC w6 38 GC [.int .i64 c, .int .i64 r, .int .i64 o, .int .i64 v, .int .i64 g]) := C_w5.out.below hb6
  have Z_w6 : Hid (BoxC w6 43 GZ nulL) := Z_w5.out.below hb6
  clear A_w5 R_w5 F_w5 C_w5 Z_w5 HB_w5
  clear hb6
  go_wp2_with (fail)
  go_cut [11, 12] from 21 to 31 (fun s11 s12 wx => ∃ (GN : Nat) (a9 : Option Addr) (c9 : Nat) (vs9 : List Value) (R9 : Res), s11 = .pointer (some ⟨GN, 0, none⟩) ∧ s12 = .int .i64 X.2 ∧ Hid ((fun wx => BoxC wx 24 w.heap.size [.slice a zs.length cap, .int .i64 k] ∧ BoxC wx 36 GR vs ∧ BoxC wx 40 GF [.int .i64 fk, .int .i64 fa] ∧ BoxC wx 38 GC [.int .i64 c, .int .i64 r, .int .i64 o, .int .i64 v, .int .i64 g] ∧ BoxC wx 43 GZ nulL ∧ Below w.heap.size w wx) wx) ∧ Hid (w.heap.size < GN ∧ GR < GN ∧ GF < GN ∧ GC < GN ∧ GZ < GN) ∧ Hid (BoxC wx 43 GN (resL (.slice a9 R9.text.length c9) R9.loc vs9 R9.fk R9.fa R9.mode (.slice none 0 0))) ∧ Hid (Av wx (fun b => b ≠ GN) (.slice a9 R9.text.length c9) R9.text) ∧ Hid (AvR wx (fun b => b ≠ GN) vs9 R9.regs) ∧ Hid (X.2 = 0 → R9 = X.1))
  case first =>
    have HS3 : Hid ((fun wx => BoxC wx 24 w.heap.size [.slice a zs.length cap, .int .i64 k] ∧ BoxC wx 36 GR vs ∧ BoxC wx 40 GF [.int .i64 fk, .int .i64 fa] ∧ BoxC wx 38 GC [.int .i64 c, .int .i64 r, .int .i64 o, .int .i64 v, .int .i64 g] ∧ BoxC wx 43 GZ nulL ∧ Below w.heap.size w wx) w6.drew) := ⟨A_w6.out, R_w6.out, F_w6.out, C_w6.out, Z_w6.out, below_drewN HB_w6.out 1⟩
    have HKS : Hid (∀ wx wy, (fun wx => BoxC wx 24 w.heap.size [.slice a zs.length cap, .int .i64 k] ∧ BoxC wx 36 GR vs ∧ BoxC wx 40 GF [.int .i64 fk, .int .i64 fa] ∧ BoxC wx 38 GC [.int .i64 c, .int .i64 r, .int .i64 o, .int .i64 v, .int .i64 g] ∧ BoxC wx 43 GZ nulL ∧ Below w.heap.size w wx) wx → Below wx.heap.size wx wy → (fun wx => BoxC wx 24 w.heap.size [.slice a zs.length cap, .int .i64 k] ∧ BoxC wx 36 GR vs ∧ BoxC wx 40 GF [.int .i64 fk, .int .i64 fa] ∧ BoxC wx 38 GC [.int .i64 c, .int .i64 r, .int .i64 o, .int .i64 v, .int .i64 g] ∧ BoxC wx 43 GZ nulL ∧ Below w.heap.size w wx) wy) := fun wx wy h hb => ⟨h.1.below hb, h.2.1.below hb, h.2.2.1.below hb, h.2.2.2.1.below hb, h.2.2.2.2.1.below hb, below_trans h.2.2.2.2.2 hb h.2.2.2.2.2.size⟩
    have HKG : Hid (∀ wx wy G, (fun wx => BoxC wx 24 w.heap.size [.slice a zs.length cap, .int .i64 k] ∧ BoxC wx 36 GR vs ∧ BoxC wx 40 GF [.int .i64 fk, .int .i64 fa] ∧ BoxC wx 38 GC [.int .i64 c, .int .i64 r, .int .i64 o, .int .i64 v, .int .i64 g] ∧ BoxC wx 43 GZ nulL ∧ Below w.heap.size w wx) wx → wx.grownBy wy (some G) → (w.heap.size < G ∧ GR < G ∧ GF < G ∧ GC < G ∧ GZ < G) → (fun wx => BoxC wx 24 w.heap.size [.slice a zs.length cap, .int .i64 k] ∧ BoxC wx 36 GR vs ∧ BoxC wx 40 GF [.int .i64 fk, .int .i64 fa] ∧ BoxC wx 38 GC [.int .i64 c, .int .i64 r, .int .i64 o, .int .i64 v, .int .i64 g] ∧ BoxC wx 43 GZ nulL ∧ Below w.heap.size w wx) wy) := fun wx wy G h hg hl => ⟨h.1.kept hg (fun e => by have := Option.some.inj e; omega), h.2.1.kept hg (fun e => by have := Option.some.inj e; omega), h.2.2.1.kept hg (fun e => by have := Option.some.inj e; omega), h.2.2.2.1.kept hg (fun e => by have := Option.some.inj e; omega), h.2.2.2.2.1.kept hg (fun e => by have := Option.some.inj e; omega), h.2.2.2.2.2.grown hg h.2.2.2.2.2.size (fun j hj => by cases hj; omega)⟩
    refine wp_region_held_drew (S := (fun wx => BoxC wx 24 w.heap.size [.slice a zs.length cap, .int .i64 k] ∧ BoxC wx 36 GR vs ∧ BoxC wx 40 GF [.int .i64 fk, .int .i64 fa] ∧ BoxC wx 38 GC [.int .i64 c, .int .i64 r, .int .i64 o, .int .i64 v, .int .i64 g] ∧ BoxC wx 43 GZ nulL ∧ Below w.heap.size w wx)) (by kernel_rfl) HS3.out (fun hHeld => ?_)
    refine wpAnyH_take (i := 0) (oi := ⟨some 22, .load 24 (.tmp 4), _, _, _, none⟩) (v := .agg [.slice a zs.length cap, .int .i64 k].toArray) rfl (by kernel_rfl) (by kernel_rfl) (by kernel_rfl) (fun _ _ _ h => h) (Or.inl ⟨by rfl, fun wx hS => exec_loadC 24 _ rfl w.heap.size rfl [.slice a zs.length cap, .int .i64 k] hS.1 wide_line⟩) hHeld ?_
    (try simp only [Act.put, List.setIfInBounds_toArray, List.set_cons_zero, List.set_cons_succ])
    refine wpAnyH_take (i := 1) (oi := ⟨some 23, .load 36 (.tmp 5), _, _, _, none⟩) (v := .agg vs.toArray) rfl (by kernel_rfl) (by kernel_rfl) (by kernel_rfl) (fun _ _ _ h => h) (Or.inl ⟨by rfl, fun wx hS => exec_loadC 36 _ rfl GR rfl vs hS.2.1 (by rw [hvs]; exact wide_regs)⟩) hHeld ?_
    (try simp only [Act.put, List.setIfInBounds_toArray, List.set_cons_zero, List.set_cons_succ])
    refine wpAnyH_take (i := 2) (oi := ⟨some 24, .load 40 (.tmp 6), _, _, _, none⟩) (v := .agg [.int .i64 fk, .int .i64 fa].toArray) rfl (by kernel_rfl) (by kernel_rfl) (by kernel_rfl) (fun _ _ _ h => h) (Or.inl ⟨by rfl, fun wx hS => exec_loadC 40 _ rfl GF rfl [.int .i64 fk, .int .i64 fa] hS.2.2.1 wide_find⟩) hHeld ?_
    (try simp only [Act.put, List.setIfInBounds_toArray, List.set_cons_zero, List.set_cons_succ])
    refine wpAnyH_take (i := 3) (oi := ⟨some 25, .build 43 #[(0, .tmp 22), (1, .tmp 23), (2, .tmp 24)], _, _, _, none⟩) (v := .agg (resL (.slice a zs.length cap) k vs fk fa 0 (.slice none 0 0)).toArray) rfl (by kernel_rfl) (by kernel_rfl) (by kernel_rfl) (fun _ _ _ h => h) (Or.inl ⟨by rfl, fun wx hS => exec_buildC 43 _ rfl (resL (.slice a zs.length cap) k vs fk fa 0 (.slice none 0 0)) (built_res _ _ _ _ _ _ hvs rfl rfl rfl) wx⟩) hHeld ?_
    (try simp only [Act.put, List.setIfInBounds_toArray, List.set_cons_zero, List.set_cons_succ])
    refine wpAnyH_take (i := 4) (oi := ⟨some 26, .load 38 (.tmp 7), _, _, _, none⟩) (v := .agg [.int .i64 c, .int .i64 r, .int .i64 o, .int .i64 v, .int .i64 g].toArray) rfl (by kernel_rfl) (by kernel_rfl) (by kernel_rfl) (fun _ _ _ h => h) (Or.inl ⟨by rfl, fun wx hS => exec_loadC 38 _ rfl GC rfl [.int .i64 c, .int .i64 r, .int .i64 o, .int .i64 v, .int .i64 g] hS.2.2.2.1 wide_cmd⟩) hHeld ?_
    (try simp only [Act.put, List.setIfInBounds_toArray, List.set_cons_zero, List.set_cons_succ])
    refine wpAnyH_ready (rs := [5, 10]) (by kernel_rfl) (by simp) ?_
    refine AllReadyH.cons (o := ⟨some 27, .call _, _, _, _, none⟩) rfl (fun K1 hK1 => ?_) (AllReadyH.cons (o := ⟨some 11, .alloc 43, _, _, _, none⟩) rfl (fun K2 hK2 => ?_) AllReadyH.nil)
    · go_simp
      refine (HWH.out _).mono ?_
      rintro q w21 ⟨rfl, hb21⟩
      go_wp2_with fail
      refine hK1.out _ _ (HKS.out _ _ hHeld hb21) (fun hHeld => ?_)
      (try simp only [Act.put, List.setIfInBounds_toArray, List.set_cons_zero, List.set_cons_succ])
      refine wpAnyH_ready (rs := [6, 10]) (by kernel_rfl) (by simp) ?_
      refine AllReadyH.cons (o := ⟨some 28, .call _, _, _, _, none⟩) rfl (fun K1 hK1 => ?_) (AllReadyH.cons (o := ⟨some 11, .alloc 43, _, _, _, none⟩) rfl (fun K2 hK2 => ?_) AllReadyH.nil)
      · go_simp
        refine (HDT.out _ hHeld.2.2.2.2.2 (fun _ => True) (fun _ _ => trivial) (fun _ _ => trivial)).mono ?_
        rintro q w22 ⟨hb22, x9, R9, rfl, ⟨a9, c9, vs9, rfl, ht9, hr9⟩, hR9⟩
        go_wp2_with fail
        refine hK1.out _ _ (HKS.out _ _ hHeld hb22) (fun hHeld => ?_)
        (try simp only [Act.put, List.setIfInBounds_toArray, List.set_cons_zero, List.set_cons_succ])
        refine wpAnyH_take (i := 7) (oi := ⟨some 21, .move (.tmp 28), _, _, _, none⟩) (v := .tuple #[.agg (resL (.slice a9 R9.text.length c9) R9.loc vs9 R9.fk R9.fa R9.mode (.slice none 0 0)).toArray, .int .i64 X.2]) rfl (by kernel_rfl) (by kernel_rfl) (by kernel_rfl) (fun _ _ _ h => h) (Or.inl ⟨by rfl, fun wx hS => rfl⟩) hHeld ?_
        (try simp only [Act.put, List.setIfInBounds_toArray, List.set_cons_zero, List.set_cons_succ])
        refine wpAnyH_take (i := 8) (oi := ⟨some 29, .extract (.tmp 21) 0, _, _, _, none⟩) (v := .agg (resL (.slice a9 R9.text.length c9) R9.loc vs9 R9.fk R9.fa R9.mode (.slice none 0 0)).toArray) rfl (by kernel_rfl) (by kernel_rfl) (by kernel_rfl) (fun _ _ _ h => h) (Or.inl ⟨by rfl, fun wx hS => by unfold execOp; go_simp⟩) hHeld ?_
        (try simp only [Act.put, List.setIfInBounds_toArray, List.set_cons_zero, List.set_cons_succ])
        refine wpAnyH_take (i := 9) (oi := ⟨some 30, .extract (.tmp 21) 1, _, _, _, none⟩) (v := .int .i64 X.2) rfl (by kernel_rfl) (by kernel_rfl) (by kernel_rfl) (fun _ _ _ h => h) (Or.inl ⟨by rfl, fun wx hS => by unfold execOp; go_simp⟩) hHeld ?_
        (try simp only [Act.put, List.setIfInBounds_toArray, List.set_cons_zero, List.set_cons_succ])
        refine wpAnyH_ready (rs := [10]) (by kernel_rfl) (by simp) ?_
        refine AllReadyH.cons (o := ⟨some 11, .alloc 43, _, _, _, none⟩) rfl (fun K1 hK1 => ?_) AllReadyH.nil
        refine step_allocC rfl 43 rfl nulL nul_zero ?_
        intro w23 hn hb23
        obtain ⟨GN, hGN⟩ : ∃ GN, GN = w22.heap.size := ⟨_, rfl⟩
        have hls : Hid (GN = w22.heap.size) := hGN
        rw [← hGN] at hn ⊢
        have hlt : w.heap.size < GN ∧ GR < GN ∧ GF < GN ∧ GC < GN ∧ GZ < GN := by rw [hGN]; exact ⟨hHeld.1.lt, hHeld.2.1.lt, hHeld.2.2.1.lt, hHeld.2.2.2.1.lt, hHeld.2.2.2.2.1.lt⟩
        clear hGN
        refine hK1.out _ _ (HKS.out _ _ hHeld hb23) (fun hHeld => ?_)
        (try simp only [Act.put, List.setIfInBounds_toArray, List.set_cons_zero, List.set_cons_succ])
        replace ht9 := ((av_arg ht9.1).below hb23).weak (Q := fun b => b ≠ GN) (fun b hb => by have := hls.out; omega)
        replace hr9 := ((avR_arg hr9.1).below hb23).weak (Q := fun b => b ≠ GN) (fun b hb => by have := hls.out; omega)
        have hl9 : vs9.length = 27 := hr9.len
        refine wpAnyH_ready (rs := [11]) (by kernel_rfl) (by simp) ?_
        refine AllReadyH.cons (o := ⟨none, .store 43 (.tmp 11) (.tmp 29), _, _, _, none⟩) rfl (fun K1 hK1 => ?_) AllReadyH.nil
        refine step_storeC rfl 43 (.tmp 11) (.tmp 29) rfl GN rfl nulL (resL (.slice a9 R9.text.length c9) R9.loc vs9 R9.fk R9.fa R9.mode (.slice none 0 0)) rfl hn (by rw [resL_len hl9]; exact wide_res) (resL_one hr9.1.1 rfl rfl) (by rw [nul_len, resL_len hl9]) ?_
        intro w24 hn2 hg2
        have ht2 := ht9.stored hg2 (fun h => h rfl)
        have hr2 := hr9.stored hg2 (fun h => h rfl)
        refine hK1.out _ _ (HKG.out _ _ _ hHeld hg2 hlt) (fun hHeld => ?_)
        (try simp only [Act.put, List.setIfInBounds_toArray, List.set_cons_zero, List.set_cons_succ])
        refine wpAnyH_take (i := 12) (oi := ⟨some 12, .assign (.tmp 30), _, _, _, none⟩) (v := .int .i64 X.2) rfl (by kernel_rfl) (by kernel_rfl) (by kernel_rfl) (fun _ _ _ h => h) (Or.inl ⟨by rfl, fun wx hS => rfl⟩) hHeld ?_
        (try simp only [Act.put, List.setIfInBounds_toArray, List.set_cons_zero, List.set_cons_succ])
        refine wpAnyH_done (by kernel_rfl) ?_ _
        (try simp only [Act.put, List.setIfInBounds_toArray, List.set_cons_zero, List.set_cons_succ])
        go_wp2_with fail
        go_meet
        case rel => exact ⟨GN, a9, c9, vs9, R9, rfl, rfl, hHeld, hlt, hn2, ht2, hr2, hR9⟩
      · refine step_allocC rfl 43 rfl nulL nul_zero ?_
        intro w25 hn hb25
        obtain ⟨GN, hGN⟩ : ∃ GN, GN = w21.heap.size := ⟨_, rfl⟩
        have hls : Hid (GN = w21.heap.size) := hGN
        rw [← hGN] at hn ⊢
        have hlt : w.heap.size < GN ∧ GR < GN ∧ GF < GN ∧ GC < GN ∧ GZ < GN := by rw [hGN]; exact ⟨hHeld.1.lt, hHeld.2.1.lt, hHeld.2.2.1.lt, hHeld.2.2.2.1.lt, hHeld.2.2.2.2.1.lt⟩
        clear hGN
        refine hK2.out _ _ (HKS.out _ _ hHeld hb25) (fun hHeld => ?_)
        (try simp only [Act.put, List.setIfInBounds_toArray, List.set_cons_zero, List.set_cons_succ])
        have hlw : GN < w25.heap.size := hn.lt
        refine wpAnyH_ready (rs := [6]) (by kernel_rfl) (by simp) ?_
        refine AllReadyH.cons (o := ⟨some 28, .call _, _, _, _, none⟩) rfl (fun K1 hK1 => ?_) AllReadyH.nil
        go_simp
        refine (HDT.out _ hHeld.2.2.2.2.2 (fun b => b ≠ GN) (fun b hb => by omega) (fun b hb => by omega)).mono ?_
        rintro q w26 ⟨hb26, x9, R9, rfl, ⟨a9, c9, vs9, rfl, ht9, hr9⟩, hR9⟩
        go_wp2_with fail
        refine hK1.out _ _ (HKS.out _ _ hHeld hb26) (fun hHeld => ?_)
        (try simp only [Act.put, List.setIfInBounds_toArray, List.set_cons_zero, List.set_cons_succ])
        replace hn := hn.below hb26
        refine wpAnyH_take (i := 7) (oi := ⟨some 21, .move (.tmp 28), _, _, _, none⟩) (v := .tuple #[.agg (resL (.slice a9 R9.text.length c9) R9.loc vs9 R9.fk R9.fa R9.mode (.slice none 0 0)).toArray, .int .i64 X.2]) rfl (by kernel_rfl) (by kernel_rfl) (by kernel_rfl) (fun _ _ _ h => h) (Or.inl ⟨by rfl, fun wx hS => rfl⟩) hHeld ?_
        (try simp only [Act.put, List.setIfInBounds_toArray, List.set_cons_zero, List.set_cons_succ])
        refine wpAnyH_take (i := 8) (oi := ⟨some 29, .extract (.tmp 21) 0, _, _, _, none⟩) (v := .agg (resL (.slice a9 R9.text.length c9) R9.loc vs9 R9.fk R9.fa R9.mode (.slice none 0 0)).toArray) rfl (by kernel_rfl) (by kernel_rfl) (by kernel_rfl) (fun _ _ _ h => h) (Or.inl ⟨by rfl, fun wx hS => by unfold execOp; go_simp⟩) hHeld ?_
        (try simp only [Act.put, List.setIfInBounds_toArray, List.set_cons_zero, List.set_cons_succ])
        refine wpAnyH_take (i := 9) (oi := ⟨some 30, .extract (.tmp 21) 1, _, _, _, none⟩) (v := .int .i64 X.2) rfl (by kernel_rfl) (by kernel_rfl) (by kernel_rfl) (fun _ _ _ h => h) (Or.inl ⟨by rfl, fun wx hS => by unfold execOp; go_simp⟩) hHeld ?_
        (try simp only [Act.put, List.setIfInBounds_toArray, List.set_cons_zero, List.set_cons_succ])
        have hl9 : vs9.length = 27 := hr9.len
        refine wpAnyH_ready (rs := [11]) (by kernel_rfl) (by simp) ?_
        refine AllReadyH.cons (o := ⟨none, .store 43 (.tmp 11) (.tmp 29), _, _, _, none⟩) rfl (fun K1 hK1 => ?_) AllReadyH.nil
        refine step_storeC rfl 43 (.tmp 11) (.tmp 29) rfl GN rfl nulL (resL (.slice a9 R9.text.length c9) R9.loc vs9 R9.fk R9.fa R9.mode (.slice none 0 0)) rfl hn (by rw [resL_len hl9]; exact wide_res) (resL_one hr9.1.1 rfl rfl) (by rw [nul_len, resL_len hl9]) ?_
        intro w27 hn2 hg2
        have ht2 := ht9.stored hg2 (fun h => h rfl)
        have hr2 := hr9.stored hg2 (fun h => h rfl)
        refine hK1.out _ _ (HKG.out _ _ _ hHeld hg2 hlt) (fun hHeld => ?_)
        (try simp only [Act.put, List.setIfInBounds_toArray, List.set_cons_zero, List.set_cons_succ])
        refine wpAnyH_take (i := 12) (oi := ⟨some 12, .assign (.tmp 30), _, _, _, none⟩) (v := .int .i64 X.2) rfl (by kernel_rfl) (by kernel_rfl) (by kernel_rfl) (fun _ _ _ h => h) (Or.inl ⟨by rfl, fun wx hS => rfl⟩) hHeld ?_
        (try simp only [Act.put, List.setIfInBounds_toArray, List.set_cons_zero, List.set_cons_succ])
        refine wpAnyH_done (by kernel_rfl) ?_ _
        (try simp only [Act.put, List.setIfInBounds_toArray, List.set_cons_zero, List.set_cons_succ])
        go_wp2_with fail
        go_meet
        case rel => exact ⟨GN, a9, c9, vs9, R9, rfl, rfl, hHeld, hlt, hn2, ht2, hr2, hR9⟩
    · refine step_allocC rfl 43 rfl nulL nul_zero ?_
      intro w28 hn hb28
      obtain ⟨GN, hGN⟩ : ∃ GN, GN = w6.drew.heap.size := ⟨_, rfl⟩
      have hls : Hid (GN = w6.drew.heap.size) := hGN
      rw [← hGN] at hn ⊢
      have hlt : w.heap.size < GN ∧ GR < GN ∧ GF < GN ∧ GC < GN ∧ GZ < GN := by rw [hGN]; exact ⟨hHeld.1.lt, hHeld.2.1.lt, hHeld.2.2.1.lt, hHeld.2.2.2.1.lt, hHeld.2.2.2.2.1.lt⟩
      clear hGN
      refine hK2.out _ _ (HKS.out _ _ hHeld hb28) (fun hHeld => ?_)
      (try simp only [Act.put, List.setIfInBounds_toArray, List.set_cons_zero, List.set_cons_succ])
      refine wpAnyH_ready (rs := [5]) (by kernel_rfl) (by simp) ?_
      refine AllReadyH.cons (o := ⟨some 27, .call _, _, _, _, none⟩) rfl (fun K1 hK1 => ?_) AllReadyH.nil
      go_simp
      refine (HWH.out _).mono ?_
      rintro q w29 ⟨rfl, hb29⟩
      go_wp2_with fail
      refine hK1.out _ _ (HKS.out _ _ hHeld hb29) (fun hHeld => ?_)
      (try simp only [Act.put, List.setIfInBounds_toArray, List.set_cons_zero, List.set_cons_succ])
      replace hn := hn.below hb29
      have hlw : GN < w29.heap.size := hn.lt
      refine wpAnyH_ready (rs := [6]) (by kernel_rfl) (by simp) ?_
      refine AllReadyH.cons (o := ⟨some 28, .call _, _, _, _, none⟩) rfl (fun K1 hK1 => ?_) AllReadyH.nil
      go_simp
      refine (HDT.out _ hHeld.2.2.2.2.2 (fun b => b ≠ GN) (fun b hb => by omega) (fun b hb => by omega)).mono ?_
      rintro q w30 ⟨hb30, x9, R9, rfl, ⟨a9, c9, vs9, rfl, ht9, hr9⟩, hR9⟩
      go_wp2_with fail
      refine hK1.out _ _ (HKS.out _ _ hHeld hb30) (fun hHeld => ?_)
      (try simp only [Act.put, List.setIfInBounds_toArray, List.set_cons_zero, List.set_cons_succ])
      replace hn := hn.below hb30
      refine wpAnyH_take (i := 7) (oi := ⟨some 21, .move (.tmp 28), _, _, _, none⟩) (v := .tuple #[.agg (resL (.slice a9 R9.text.length c9) R9.loc vs9 R9.fk R9.fa R9.mode (.slice none 0 0)).toArray, .int .i64 X.2]) rfl (by kernel_rfl) (by kernel_rfl) (by kernel_rfl) (fun _ _ _ h => h) (Or.inl ⟨by rfl, fun wx hS => rfl⟩) hHeld ?_
      (try simp only [Act.put, List.setIfInBounds_toArray, List.set_cons_zero, List.set_cons_succ])
      refine wpAnyH_take (i := 8) (oi := ⟨some 29, .extract (.tmp 21) 0, _, _, _, none⟩) (v := .agg (resL (.slice a9 R9.text.length c9) R9.loc vs9 R9.fk R9.fa R9.mode (.slice none 0 0)).toArray) rfl (by kernel_rfl) (by kernel_rfl) (by kernel_rfl) (fun _ _ _ h => h) (Or.inl ⟨by rfl, fun wx hS => by unfold execOp; go_simp⟩) hHeld ?_
      (try simp only [Act.put, List.setIfInBounds_toArray, List.set_cons_zero, List.set_cons_succ])
      refine wpAnyH_take (i := 9) (oi := ⟨some 30, .extract (.tmp 21) 1, _, _, _, none⟩) (v := .int .i64 X.2) rfl (by kernel_rfl) (by kernel_rfl) (by kernel_rfl) (fun _ _ _ h => h) (Or.inl ⟨by rfl, fun wx hS => by unfold execOp; go_simp⟩) hHeld ?_
      (try simp only [Act.put, List.setIfInBounds_toArray, List.set_cons_zero, List.set_cons_succ])
      have hl9 : vs9.length = 27 := hr9.len
      refine wpAnyH_ready (rs := [11]) (by kernel_rfl) (by simp) ?_
      refine AllReadyH.cons (o := ⟨none, .store 43 (.tmp 11) (.tmp 29), _, _, _, none⟩) rfl (fun K1 hK1 => ?_) AllReadyH.nil
      refine step_storeC rfl 43 (.tmp 11) (.tmp 29) rfl GN rfl nulL (resL (.slice a9 R9.text.length c9) R9.loc vs9 R9.fk R9.fa R9.mode (.slice none 0 0)) rfl hn (by rw [resL_len hl9]; exact wide_res) (resL_one hr9.1.1 rfl rfl) (by rw [nul_len, resL_len hl9]) ?_
      intro w31 hn2 hg2
      have ht2 := ht9.stored hg2 (fun h => h rfl)
      have hr2 := hr9.stored hg2 (fun h => h rfl)
      refine hK1.out _ _ (HKG.out _ _ _ hHeld hg2 hlt) (fun hHeld => ?_)
      (try simp only [Act.put, List.setIfInBounds_toArray, List.set_cons_zero, List.set_cons_succ])
      refine wpAnyH_take (i := 12) (oi := ⟨some 12, .assign (.tmp 30), _, _, _, none⟩) (v := .int .i64 X.2) rfl (by kernel_rfl) (by kernel_rfl) (by kernel_rfl) (fun _ _ _ h => h) (Or.inl ⟨by rfl, fun wx hS => rfl⟩) hHeld ?_
      (try simp only [Act.put, List.setIfInBounds_toArray, List.set_cons_zero, List.set_cons_succ])
      refine wpAnyH_done (by kernel_rfl) ?_ _
      (try simp only [Act.put, List.setIfInBounds_toArray, List.set_cons_zero, List.set_cons_succ])
      go_wp2_with fail
      go_meet
      case rel => exact ⟨GN, a9, c9, vs9, R9, rfl, rfl, hHeld, hlt, hn2, ht2, hr2, hR9⟩
  case rest =>
    obtain ⟨GN, a9, c9, vs9, R9, rfl, rfl, HSc, HLGN, N_wc, T_wc, Q_wc, HRX⟩ := hcut
    have HB_wc : Hid (Below w.heap.size w wc) := HSc.out.2.2.2.2.2
    have A_wc : Hid (BoxC wc 24 w.heap.size [.slice a zs.length cap, .int .i64 k]) := HSc.out.1
    have C_wc : Hid (BoxC wc 38 GC [.int .i64 c, .int .i64 r, .int .i64 o, .int .i64 v, .int .i64 g]) := HSc.out.2.2.2.1
    have Z_wc : Hid (BoxC wc 43 GZ nulL) := HSc.out.2.2.2.2.1
    clear HSc A_w6 R_w6 F_w6 C_w6 Z_w6 HB_w6 HDT HWH
    clear N_wc T_wc Q_wc HRX
    go_wp2_with (refine storeC rfl 43 _ _ rfl GZ rfl nulL nulL rfl Z_wc.out wide_res nul_one rfl ?_)
    intro w41 hz hg
    have HB_w41 : Hid (Below w.heap.size w w41) := HB_wc.out.grown hg HB_wc.out.size (fun j hj => by cases hj; exact (by have := HLGZ.out; omega))
    have A_w41 : Hid (BoxC w41 24 w.heap.size [.slice a zs.length cap, .int .i64 k]) := A_wc.out.kept hg (fun e => by have := HLGZ.out; have := Option.some.inj e; omega)
    have C_w41 : Hid (BoxC w41 38 GC [.int .i64 c, .int .i64 r, .int .i64 o, .int .i64 v, .int .i64 g]) := C_wc.out.kept hg (fun e => by have := HLGZ.out; have := HLGC.out; have := Option.some.inj e; omega)
    clear A_wc C_wc Z_wc HB_wc
    have Z_w41 : Hid (BoxC w41 43 GZ nulL) := hz
    clear hz hg
    go_wp2_with (fail)
    (try simp only [Exit.inBlock, Exit.then])
    refine bodyPost_ret (ret_box rfl _ _ GZ nulL _ rfl rfl Z_w41.out wide_res) rfl ?_
    refine ⟨HB_w41.out, _, rfl, ?_⟩
    show OwnRes _ _ _ _ (if X.2 = 0 then _ else [])
    rw [if_neg (by simpa using hb1)]
    exact ownRes_nul _ _

set_option maxHeartbeats 4000000 in
theorem do_ok (a : Option Addr) (cap : Nat) (zs : List Int) (k : Int) (vs : List Value) (ts : List (List Int)) (fk fa c r o v g : Int) (w : World) (h : Reads w (.slice a zs.length cap) zs) (hr : ReadsR w vs ts) (hz : zs.length ≤ 200) (hE : achk zs.length k fk c o = 0) (hk0 : 0 ≤ k) (hkl : k ≤ lastP zs.length) (hc : c ≤ 999) (O V : Int) (hO : whl o v = (O, V)) (ho : O = 0 ∨ O = 100 ∨ O = 99 ∨ O = 121) (X : Res × Int) (hX : dne (⟨zs, k, ts, fk, fa, 0⟩ : Res) c r O V g = X) (he : X.2 = 0) (hxl : X.1.text.length ≤ 4096) (hf : isF v = false) :
    Calls Try.prog 13 #[.agg #[.slice a zs.length cap, .int .i64 k], .agg vs.toArray, .agg #[.int .i64 fk, .int .i64 fa], .agg #[.int .i64 c, .int .i64 r, .int .i64 o, .int .i64 v, .int .i64 g]] w fun q w' => DoPost zs (X.1, 0) w q w' := by
  have HCK : Hid (∀ wx, Calls Try.prog 23 #[.agg #[.slice a zs.length cap, .int .i64 k], .agg #[.int .i64 fk, .int .i64 fa], .agg #[.int .i64 c, .int .i64 r, .int .i64 o, .int .i64 v, .int .i64 g]] wx fun q w' => q = .returned (.int .i64 0) ∧ Below wx.heap.size wx w') := fun wx => by rw [← hE]; exact checkAll_go a zs.length cap k fk fa c r o v g wx (by unfold maxLen; omega)
  have hvs : vs.length = 27 := hr.1.1
  have HS : Hid (AllSl vs) := hr.1
  have HWH : Hid (∀ wx, Calls Try.prog 25 #[.agg #[.int .i64 c, .int .i64 r, .int .i64 o, .int .i64 v, .int .i64 g]] wx fun q w' => q = .returned (.agg #[.int .i64 c, .int .i64 r, .int .i64 O, .int .i64 V, .int .i64 g]) ∧ Below wx.heap.size wx w') := fun wx => by have q := whole_go c r o v g wx; rw [hO] at q; exact q
  have HDT : Hid (∀ wx, Below w.heap.size w wx → ∀ P : Nat → Prop, (∀ b, wx.heap.size ≤ b → P b) → (∀ b, b < w.heap.size → P b) → Calls Try.prog 24 #[.agg (resL (.slice a zs.length cap) k vs fk fa 0 (.slice none 0 0)).toArray, .agg #[.int .i64 c, .int .i64 r, .int .i64 O, .int .i64 V, .int .i64 g]] wx fun q w' => DonePost P X wx q w') := fun wx hx P hP1 hP2 => by
    rw [← hX]
    exact done_go a cap vs (⟨zs, k, ts, fk, fa, 0⟩ : Res) c r O V g wx P hP1 (((av_arg h).below hx).weak hP2) (((avR_arg hr).below hx).weak hP2) hk0 hkl hz hc ho
  have HZl : Hid (zs.length ≤ 4096) := by show _ ≤ _; omega
  clear hE hX hO ho hk0 hkl hc hz
  have HX0 : Hid (X.2 = 0) := he
  have HXl : Hid (X.1.text.length ≤ 4096) := hxl
  have HF : Hid (isF v = false) := hf
  have HZ : Hid (∀ wx, Below w.heap.size w wx → Reads wx (.slice a zs.length cap) zs) := fun wx hx => h.below hx
  clear he hxl hf h hr
  go_enter Try.func13, Try.ntmps13
  go_wp2_with (refine boxC rfl 24 _ rfl [.slice a zs.length cap, .int .i64 k] rfl ?_)
  intro w1 ha hb
  have HB_w1 : Hid (Below w.heap.size w w1) := hb
  have A_w1 : Hid (BoxC w1 24 w.heap.size [.slice a zs.length cap, .int .i64 k]) := ha
  clear ha hb
  go_wp2_with (refine boxC rfl 36 _ rfl vs rfl ?_)
  intro w2 ha hb
  have HLGR : Hid (w.heap.size ≤ w1.heap.size ∧ w.heap.size < w1.heap.size) := ⟨HB_w1.out.size, A_w1.out.lt⟩
  have HB_w2 : Hid (Below w.heap.size w w2) := below_trans HB_w1.out hb HB_w1.out.size
  have A_w2 : Hid (BoxC w2 24 w.heap.size [.slice a zs.length cap, .int .i64 k]) := A_w1.out.below hb
  clear A_w1 HB_w1
  have R_w2 : Hid (BoxC w2 36 w1.heap.size vs) := ha
  clear ha hb
  generalize w1.heap.size = GR at *
  go_wp2_with (refine boxC rfl 40 _ rfl [.int .i64 fk, .int .i64 fa] rfl ?_)
  intro w3 ha hb
  have HLGF : Hid (w.heap.size ≤ w2.heap.size ∧ w.heap.size < w2.heap.size ∧ GR < w2.heap.size) := ⟨HB_w2.out.size, A_w2.out.lt, R_w2.out.lt⟩
  have HB_w3 : Hid (Below w.heap.size w w3) := below_trans HB_w2.out hb HB_w2.out.size
  have A_w3 : Hid (BoxC w3 24 w.heap.size [.slice a zs.length cap, .int .i64 k]) := A_w2.out.below hb
  have R_w3 : Hid (BoxC w3 36 GR vs) := R_w2.out.below hb
  clear A_w2 R_w2 HB_w2
  have F_w3 : Hid (BoxC w3 40 w2.heap.size [.int .i64 fk, .int .i64 fa]) := ha
  clear ha hb
  generalize w2.heap.size = GF at *
  go_wp2_with (refine boxC rfl 38 _ rfl [.int .i64 c, .int .i64 r, .int .i64 o, .int .i64 v, .int .i64 g] rfl ?_)
  intro w4 ha hb
  have HLGC : Hid (w.heap.size ≤ w3.heap.size ∧ w.heap.size < w3.heap.size ∧ GR < w3.heap.size ∧ GF < w3.heap.size) := ⟨HB_w3.out.size, A_w3.out.lt, R_w3.out.lt, F_w3.out.lt⟩
  have HB_w4 : Hid (Below w.heap.size w w4) := below_trans HB_w3.out hb HB_w3.out.size
  have A_w4 : Hid (BoxC w4 24 w.heap.size [.slice a zs.length cap, .int .i64 k]) := A_w3.out.below hb
  have R_w4 : Hid (BoxC w4 36 GR vs) := R_w3.out.below hb
  have F_w4 : Hid (BoxC w4 40 GF [.int .i64 fk, .int .i64 fa]) := F_w3.out.below hb
  clear A_w3 R_w3 F_w3 HB_w3
  have C_w4 : Hid (BoxC w4 38 w3.heap.size [.int .i64 c, .int .i64 r, .int .i64 o, .int .i64 v, .int .i64 g]) := ha
  clear ha hb
  generalize w3.heap.size = GC at *
  go_wp2_with (refine allocC rfl 43 rfl nulL nul_zero ?_)
  intro w5 ha hb
  have HLGZ : Hid (w.heap.size ≤ w4.heap.size ∧ w.heap.size < w4.heap.size ∧ GR < w4.heap.size ∧ GF < w4.heap.size ∧ GC < w4.heap.size) := ⟨HB_w4.out.size, A_w4.out.lt, R_w4.out.lt, F_w4.out.lt, C_w4.out.lt⟩
  have HB_w5 : Hid (Below w.heap.size w w5) := below_trans HB_w4.out hb HB_w4.out.size
  have A_w5 : Hid (BoxC w5 24 w.heap.size [.slice a zs.length cap, .int .i64 k]) := A_w4.out.below hb
  have R_w5 : Hid (BoxC w5 36 GR vs) := R_w4.out.below hb
  have F_w5 : Hid (BoxC w5 40 GF [.int .i64 fk, .int .i64 fa]) := F_w4.out.below hb
  have C_w5 : Hid (BoxC w5 38 GC [.int .i64 c, .int .i64 r, .int .i64 o, .int .i64 v, .int .i64 g]) := C_w4.out.below hb
  clear A_w4 R_w4 F_w4 C_w4 HB_w4
  have Z_w5 : Hid (BoxC w5 43 w4.heap.size nulL) := ha
  clear ha hb
  generalize w4.heap.size = GZ at *
  have cA0 : w5.cell? ⟨w.heap.size, 0, none⟩ = some (.slice a zs.length cap) := (A_w5.out.cell 0).trans rfl
  have cA1 : w5.cell? ⟨w.heap.size, 1, none⟩ = some (.int .i64 k) := (A_w5.out.cell 1).trans rfl
  have cF0 : w5.cell? ⟨GF, 0, none⟩ = some (.int .i64 fk) := (F_w5.out.cell 0).trans rfl
  have cF1 : w5.cell? ⟨GF, 1, none⟩ = some (.int .i64 fa) := (F_w5.out.cell 1).trans rfl
  have cC0 : w5.cell? ⟨GC, 0, none⟩ = some (.int .i64 c) := (C_w5.out.cell 0).trans rfl
  have cC1 : w5.cell? ⟨GC, 1, none⟩ = some (.int .i64 r) := (C_w5.out.cell 1).trans rfl
  have cC2 : w5.cell? ⟨GC, 2, none⟩ = some (.int .i64 o) := (C_w5.out.cell 2).trans rfl
  have cC3 : w5.cell? ⟨GC, 3, none⟩ = some (.int .i64 v) := (C_w5.out.cell 3).trans rfl
  have cC4 : w5.cell? ⟨GC, 4, none⟩ = some (.int .i64 g) := (C_w5.out.cell 4).trans rfl
  go_wp2_with (fail)
  refine (HCK.out _).mono ?_
  rintro q w6 ⟨rfl, hb6⟩
  clear HCK cA0 cA1 cF0 cF1 cC0 cC1 cC2 cC3 cC4
  have HB_w6 : Hid (Below w.heap.size w w6) := below_trans HB_w5.out hb6 HB_w5.out.size
  have A_w6 : Hid (BoxC w6 24 w.heap.size [.slice a zs.length cap, .int .i64 k]) := A_w5.out.below hb6
  have R_w6 : Hid (BoxC w6 36 GR vs) := R_w5.out.below hb6
  have F_w6 : Hid (BoxC w6 40 GF [.int .i64 fk, .int .i64 fa]) := F_w5.out.below hb6
  have C_w6 : Hid (BoxC w6 38 GC [.int .i64 c, .int .i64 r, .int .i64 o, .int .i64 v, .int .i64 g]) := C_w5.out.below hb6
  have Z_w6 : Hid (BoxC w6 43 GZ nulL) := Z_w5.out.below hb6
  clear A_w5 R_w5 F_w5 C_w5 Z_w5 HB_w5
  clear hb6
  go_wp2_with (fail)
  go_cut [11, 12] from 21 to 31 (fun s11 s12 wx => ∃ (GN : Nat) (a9 : Option Addr) (c9 : Nat) (vs9 : List Value) (R9 : Res), s11 = .pointer (some ⟨GN, 0, none⟩) ∧ s12 = .int .i64 X.2 ∧ Hid ((fun wx => BoxC wx 24 w.heap.size [.slice a zs.length cap, .int .i64 k] ∧ BoxC wx 36 GR vs ∧ BoxC wx 40 GF [.int .i64 fk, .int .i64 fa] ∧ BoxC wx 38 GC [.int .i64 c, .int .i64 r, .int .i64 o, .int .i64 v, .int .i64 g] ∧ BoxC wx 43 GZ nulL ∧ Below w.heap.size w wx) wx) ∧ Hid (w.heap.size < GN ∧ GR < GN ∧ GF < GN ∧ GC < GN ∧ GZ < GN) ∧ Hid (BoxC wx 43 GN (resL (.slice a9 R9.text.length c9) R9.loc vs9 R9.fk R9.fa R9.mode (.slice none 0 0))) ∧ Hid (Av wx (fun b => b ≠ GN) (.slice a9 R9.text.length c9) R9.text) ∧ Hid (AvR wx (fun b => b ≠ GN) vs9 R9.regs) ∧ Hid (X.2 = 0 → R9 = X.1))
  case first =>
    have HS3 : Hid ((fun wx => BoxC wx 24 w.heap.size [.slice a zs.length cap, .int .i64 k] ∧ BoxC wx 36 GR vs ∧ BoxC wx 40 GF [.int .i64 fk, .int .i64 fa] ∧ BoxC wx 38 GC [.int .i64 c, .int .i64 r, .int .i64 o, .int .i64 v, .int .i64 g] ∧ BoxC wx 43 GZ nulL ∧ Below w.heap.size w wx) w6.drew) := ⟨A_w6.out, R_w6.out, F_w6.out, C_w6.out, Z_w6.out, below_drewN HB_w6.out 1⟩
    have HKS : Hid (∀ wx wy, (fun wx => BoxC wx 24 w.heap.size [.slice a zs.length cap, .int .i64 k] ∧ BoxC wx 36 GR vs ∧ BoxC wx 40 GF [.int .i64 fk, .int .i64 fa] ∧ BoxC wx 38 GC [.int .i64 c, .int .i64 r, .int .i64 o, .int .i64 v, .int .i64 g] ∧ BoxC wx 43 GZ nulL ∧ Below w.heap.size w wx) wx → Below wx.heap.size wx wy → (fun wx => BoxC wx 24 w.heap.size [.slice a zs.length cap, .int .i64 k] ∧ BoxC wx 36 GR vs ∧ BoxC wx 40 GF [.int .i64 fk, .int .i64 fa] ∧ BoxC wx 38 GC [.int .i64 c, .int .i64 r, .int .i64 o, .int .i64 v, .int .i64 g] ∧ BoxC wx 43 GZ nulL ∧ Below w.heap.size w wx) wy) := fun wx wy h hb => ⟨h.1.below hb, h.2.1.below hb, h.2.2.1.below hb, h.2.2.2.1.below hb, h.2.2.2.2.1.below hb, below_trans h.2.2.2.2.2 hb h.2.2.2.2.2.size⟩
    have HKG : Hid (∀ wx wy G, (fun wx => BoxC wx 24 w.heap.size [.slice a zs.length cap, .int .i64 k] ∧ BoxC wx 36 GR vs ∧ BoxC wx 40 GF [.int .i64 fk, .int .i64 fa] ∧ BoxC wx 38 GC [.int .i64 c, .int .i64 r, .int .i64 o, .int .i64 v, .int .i64 g] ∧ BoxC wx 43 GZ nulL ∧ Below w.heap.size w wx) wx → wx.grownBy wy (some G) → (w.heap.size < G ∧ GR < G ∧ GF < G ∧ GC < G ∧ GZ < G) → (fun wx => BoxC wx 24 w.heap.size [.slice a zs.length cap, .int .i64 k] ∧ BoxC wx 36 GR vs ∧ BoxC wx 40 GF [.int .i64 fk, .int .i64 fa] ∧ BoxC wx 38 GC [.int .i64 c, .int .i64 r, .int .i64 o, .int .i64 v, .int .i64 g] ∧ BoxC wx 43 GZ nulL ∧ Below w.heap.size w wx) wy) := fun wx wy G h hg hl => ⟨h.1.kept hg (fun e => by have := Option.some.inj e; omega), h.2.1.kept hg (fun e => by have := Option.some.inj e; omega), h.2.2.1.kept hg (fun e => by have := Option.some.inj e; omega), h.2.2.2.1.kept hg (fun e => by have := Option.some.inj e; omega), h.2.2.2.2.1.kept hg (fun e => by have := Option.some.inj e; omega), h.2.2.2.2.2.grown hg h.2.2.2.2.2.size (fun j hj => by cases hj; omega)⟩
    refine wp_region_held_drew (S := (fun wx => BoxC wx 24 w.heap.size [.slice a zs.length cap, .int .i64 k] ∧ BoxC wx 36 GR vs ∧ BoxC wx 40 GF [.int .i64 fk, .int .i64 fa] ∧ BoxC wx 38 GC [.int .i64 c, .int .i64 r, .int .i64 o, .int .i64 v, .int .i64 g] ∧ BoxC wx 43 GZ nulL ∧ Below w.heap.size w wx)) (by kernel_rfl) HS3.out (fun hHeld => ?_)
    refine wpAnyH_take (i := 0) (oi := ⟨some 22, .load 24 (.tmp 4), _, _, _, none⟩) (v := .agg [.slice a zs.length cap, .int .i64 k].toArray) rfl (by kernel_rfl) (by kernel_rfl) (by kernel_rfl) (fun _ _ _ h => h) (Or.inl ⟨by rfl, fun wx hS => exec_loadC 24 _ rfl w.heap.size rfl [.slice a zs.length cap, .int .i64 k] hS.1 wide_line⟩) hHeld ?_
    (try simp only [Act.put, List.setIfInBounds_toArray, List.set_cons_zero, List.set_cons_succ])
    refine wpAnyH_take (i := 1) (oi := ⟨some 23, .load 36 (.tmp 5), _, _, _, none⟩) (v := .agg vs.toArray) rfl (by kernel_rfl) (by kernel_rfl) (by kernel_rfl) (fun _ _ _ h => h) (Or.inl ⟨by rfl, fun wx hS => exec_loadC 36 _ rfl GR rfl vs hS.2.1 (by rw [hvs]; exact wide_regs)⟩) hHeld ?_
    (try simp only [Act.put, List.setIfInBounds_toArray, List.set_cons_zero, List.set_cons_succ])
    refine wpAnyH_take (i := 2) (oi := ⟨some 24, .load 40 (.tmp 6), _, _, _, none⟩) (v := .agg [.int .i64 fk, .int .i64 fa].toArray) rfl (by kernel_rfl) (by kernel_rfl) (by kernel_rfl) (fun _ _ _ h => h) (Or.inl ⟨by rfl, fun wx hS => exec_loadC 40 _ rfl GF rfl [.int .i64 fk, .int .i64 fa] hS.2.2.1 wide_find⟩) hHeld ?_
    (try simp only [Act.put, List.setIfInBounds_toArray, List.set_cons_zero, List.set_cons_succ])
    refine wpAnyH_take (i := 3) (oi := ⟨some 25, .build 43 #[(0, .tmp 22), (1, .tmp 23), (2, .tmp 24)], _, _, _, none⟩) (v := .agg (resL (.slice a zs.length cap) k vs fk fa 0 (.slice none 0 0)).toArray) rfl (by kernel_rfl) (by kernel_rfl) (by kernel_rfl) (fun _ _ _ h => h) (Or.inl ⟨by rfl, fun wx hS => exec_buildC 43 _ rfl (resL (.slice a zs.length cap) k vs fk fa 0 (.slice none 0 0)) (built_res _ _ _ _ _ _ hvs rfl rfl rfl) wx⟩) hHeld ?_
    (try simp only [Act.put, List.setIfInBounds_toArray, List.set_cons_zero, List.set_cons_succ])
    refine wpAnyH_take (i := 4) (oi := ⟨some 26, .load 38 (.tmp 7), _, _, _, none⟩) (v := .agg [.int .i64 c, .int .i64 r, .int .i64 o, .int .i64 v, .int .i64 g].toArray) rfl (by kernel_rfl) (by kernel_rfl) (by kernel_rfl) (fun _ _ _ h => h) (Or.inl ⟨by rfl, fun wx hS => exec_loadC 38 _ rfl GC rfl [.int .i64 c, .int .i64 r, .int .i64 o, .int .i64 v, .int .i64 g] hS.2.2.2.1 wide_cmd⟩) hHeld ?_
    (try simp only [Act.put, List.setIfInBounds_toArray, List.set_cons_zero, List.set_cons_succ])
    refine wpAnyH_ready (rs := [5, 10]) (by kernel_rfl) (by simp) ?_
    refine AllReadyH.cons (o := ⟨some 27, .call _, _, _, _, none⟩) rfl (fun K1 hK1 => ?_) (AllReadyH.cons (o := ⟨some 11, .alloc 43, _, _, _, none⟩) rfl (fun K2 hK2 => ?_) AllReadyH.nil)
    · go_simp
      refine (HWH.out _).mono ?_
      rintro q w21 ⟨rfl, hb21⟩
      go_wp2_with fail
      refine hK1.out _ _ (HKS.out _ _ hHeld hb21) (fun hHeld => ?_)
      (try simp only [Act.put, List.setIfInBounds_toArray, List.set_cons_zero, List.set_cons_succ])
      refine wpAnyH_ready (rs := [6, 10]) (by kernel_rfl) (by simp) ?_
      refine AllReadyH.cons (o := ⟨some 28, .call _, _, _, _, none⟩) rfl (fun K1 hK1 => ?_) (AllReadyH.cons (o := ⟨some 11, .alloc 43, _, _, _, none⟩) rfl (fun K2 hK2 => ?_) AllReadyH.nil)
      · go_simp
        refine (HDT.out _ hHeld.2.2.2.2.2 (fun _ => True) (fun _ _ => trivial) (fun _ _ => trivial)).mono ?_
        rintro q w22 ⟨hb22, x9, R9, rfl, ⟨a9, c9, vs9, rfl, ht9, hr9⟩, hR9⟩
        go_wp2_with fail
        refine hK1.out _ _ (HKS.out _ _ hHeld hb22) (fun hHeld => ?_)
        (try simp only [Act.put, List.setIfInBounds_toArray, List.set_cons_zero, List.set_cons_succ])
        refine wpAnyH_take (i := 7) (oi := ⟨some 21, .move (.tmp 28), _, _, _, none⟩) (v := .tuple #[.agg (resL (.slice a9 R9.text.length c9) R9.loc vs9 R9.fk R9.fa R9.mode (.slice none 0 0)).toArray, .int .i64 X.2]) rfl (by kernel_rfl) (by kernel_rfl) (by kernel_rfl) (fun _ _ _ h => h) (Or.inl ⟨by rfl, fun wx hS => rfl⟩) hHeld ?_
        (try simp only [Act.put, List.setIfInBounds_toArray, List.set_cons_zero, List.set_cons_succ])
        refine wpAnyH_take (i := 8) (oi := ⟨some 29, .extract (.tmp 21) 0, _, _, _, none⟩) (v := .agg (resL (.slice a9 R9.text.length c9) R9.loc vs9 R9.fk R9.fa R9.mode (.slice none 0 0)).toArray) rfl (by kernel_rfl) (by kernel_rfl) (by kernel_rfl) (fun _ _ _ h => h) (Or.inl ⟨by rfl, fun wx hS => by unfold execOp; go_simp⟩) hHeld ?_
        (try simp only [Act.put, List.setIfInBounds_toArray, List.set_cons_zero, List.set_cons_succ])
        refine wpAnyH_take (i := 9) (oi := ⟨some 30, .extract (.tmp 21) 1, _, _, _, none⟩) (v := .int .i64 X.2) rfl (by kernel_rfl) (by kernel_rfl) (by kernel_rfl) (fun _ _ _ h => h) (Or.inl ⟨by rfl, fun wx hS => by unfold execOp; go_simp⟩) hHeld ?_
        (try simp only [Act.put, List.setIfInBounds_toArray, List.set_cons_zero, List.set_cons_succ])
        refine wpAnyH_ready (rs := [10]) (by kernel_rfl) (by simp) ?_
        refine AllReadyH.cons (o := ⟨some 11, .alloc 43, _, _, _, none⟩) rfl (fun K1 hK1 => ?_) AllReadyH.nil
        refine step_allocC rfl 43 rfl nulL nul_zero ?_
        intro w23 hn hb23
        obtain ⟨GN, hGN⟩ : ∃ GN, GN = w22.heap.size := ⟨_, rfl⟩
        have hls : Hid (GN = w22.heap.size) := hGN
        rw [← hGN] at hn ⊢
        have hlt : w.heap.size < GN ∧ GR < GN ∧ GF < GN ∧ GC < GN ∧ GZ < GN := by rw [hGN]; exact ⟨hHeld.1.lt, hHeld.2.1.lt, hHeld.2.2.1.lt, hHeld.2.2.2.1.lt, hHeld.2.2.2.2.1.lt⟩
        clear hGN
        refine hK1.out _ _ (HKS.out _ _ hHeld hb23) (fun hHeld => ?_)
        (try simp only [Act.put, List.setIfInBounds_toArray, List.set_cons_zero, List.set_cons_succ])
        replace ht9 := ((av_arg ht9.1).below hb23).weak (Q := fun b => b ≠ GN) (fun b hb => by have := hls.out; omega)
        replace hr9 := ((avR_arg hr9.1).below hb23).weak (Q := fun b => b ≠ GN) (fun b hb => by have := hls.out; omega)
        have hl9 : vs9.length = 27 := hr9.len
        refine wpAnyH_ready (rs := [11]) (by kernel_rfl) (by simp) ?_
        refine AllReadyH.cons (o := ⟨none, .store 43 (.tmp 11) (.tmp 29), _, _, _, none⟩) rfl (fun K1 hK1 => ?_) AllReadyH.nil
        refine step_storeC rfl 43 (.tmp 11) (.tmp 29) rfl GN rfl nulL (resL (.slice a9 R9.text.length c9) R9.loc vs9 R9.fk R9.fa R9.mode (.slice none 0 0)) rfl hn (by rw [resL_len hl9]; exact wide_res) (resL_one hr9.1.1 rfl rfl) (by rw [nul_len, resL_len hl9]) ?_
        intro w24 hn2 hg2
        have ht2 := ht9.stored hg2 (fun h => h rfl)
        have hr2 := hr9.stored hg2 (fun h => h rfl)
        refine hK1.out _ _ (HKG.out _ _ _ hHeld hg2 hlt) (fun hHeld => ?_)
        (try simp only [Act.put, List.setIfInBounds_toArray, List.set_cons_zero, List.set_cons_succ])
        refine wpAnyH_take (i := 12) (oi := ⟨some 12, .assign (.tmp 30), _, _, _, none⟩) (v := .int .i64 X.2) rfl (by kernel_rfl) (by kernel_rfl) (by kernel_rfl) (fun _ _ _ h => h) (Or.inl ⟨by rfl, fun wx hS => rfl⟩) hHeld ?_
        (try simp only [Act.put, List.setIfInBounds_toArray, List.set_cons_zero, List.set_cons_succ])
        refine wpAnyH_done (by kernel_rfl) ?_ _
        (try simp only [Act.put, List.setIfInBounds_toArray, List.set_cons_zero, List.set_cons_succ])
        go_wp2_with fail
        go_meet
        case rel => exact ⟨GN, a9, c9, vs9, R9, rfl, rfl, hHeld, hlt, hn2, ht2, hr2, hR9⟩
      · refine step_allocC rfl 43 rfl nulL nul_zero ?_
        intro w25 hn hb25
        obtain ⟨GN, hGN⟩ : ∃ GN, GN = w21.heap.size := ⟨_, rfl⟩
        have hls : Hid (GN = w21.heap.size) := hGN
        rw [← hGN] at hn ⊢
        have hlt : w.heap.size < GN ∧ GR < GN ∧ GF < GN ∧ GC < GN ∧ GZ < GN := by rw [hGN]; exact ⟨hHeld.1.lt, hHeld.2.1.lt, hHeld.2.2.1.lt, hHeld.2.2.2.1.lt, hHeld.2.2.2.2.1.lt⟩
        clear hGN
        refine hK2.out _ _ (HKS.out _ _ hHeld hb25) (fun hHeld => ?_)
        (try simp only [Act.put, List.setIfInBounds_toArray, List.set_cons_zero, List.set_cons_succ])
        have hlw : GN < w25.heap.size := hn.lt
        refine wpAnyH_ready (rs := [6]) (by kernel_rfl) (by simp) ?_
        refine AllReadyH.cons (o := ⟨some 28, .call _, _, _, _, none⟩) rfl (fun K1 hK1 => ?_) AllReadyH.nil
        go_simp
        refine (HDT.out _ hHeld.2.2.2.2.2 (fun b => b ≠ GN) (fun b hb => by omega) (fun b hb => by omega)).mono ?_
        rintro q w26 ⟨hb26, x9, R9, rfl, ⟨a9, c9, vs9, rfl, ht9, hr9⟩, hR9⟩
        go_wp2_with fail
        refine hK1.out _ _ (HKS.out _ _ hHeld hb26) (fun hHeld => ?_)
        (try simp only [Act.put, List.setIfInBounds_toArray, List.set_cons_zero, List.set_cons_succ])
        replace hn := hn.below hb26
        refine wpAnyH_take (i := 7) (oi := ⟨some 21, .move (.tmp 28), _, _, _, none⟩) (v := .tuple #[.agg (resL (.slice a9 R9.text.length c9) R9.loc vs9 R9.fk R9.fa R9.mode (.slice none 0 0)).toArray, .int .i64 X.2]) rfl (by kernel_rfl) (by kernel_rfl) (by kernel_rfl) (fun _ _ _ h => h) (Or.inl ⟨by rfl, fun wx hS => rfl⟩) hHeld ?_
        (try simp only [Act.put, List.setIfInBounds_toArray, List.set_cons_zero, List.set_cons_succ])
        refine wpAnyH_take (i := 8) (oi := ⟨some 29, .extract (.tmp 21) 0, _, _, _, none⟩) (v := .agg (resL (.slice a9 R9.text.length c9) R9.loc vs9 R9.fk R9.fa R9.mode (.slice none 0 0)).toArray) rfl (by kernel_rfl) (by kernel_rfl) (by kernel_rfl) (fun _ _ _ h => h) (Or.inl ⟨by rfl, fun wx hS => by unfold execOp; go_simp⟩) hHeld ?_
        (try simp only [Act.put, List.setIfInBounds_toArray, List.set_cons_zero, List.set_cons_succ])
        refine wpAnyH_take (i := 9) (oi := ⟨some 30, .extract (.tmp 21) 1, _, _, _, none⟩) (v := .int .i64 X.2) rfl (by kernel_rfl) (by kernel_rfl) (by kernel_rfl) (fun _ _ _ h => h) (Or.inl ⟨by rfl, fun wx hS => by unfold execOp; go_simp⟩) hHeld ?_
        (try simp only [Act.put, List.setIfInBounds_toArray, List.set_cons_zero, List.set_cons_succ])
        have hl9 : vs9.length = 27 := hr9.len
        refine wpAnyH_ready (rs := [11]) (by kernel_rfl) (by simp) ?_
        refine AllReadyH.cons (o := ⟨none, .store 43 (.tmp 11) (.tmp 29), _, _, _, none⟩) rfl (fun K1 hK1 => ?_) AllReadyH.nil
        refine step_storeC rfl 43 (.tmp 11) (.tmp 29) rfl GN rfl nulL (resL (.slice a9 R9.text.length c9) R9.loc vs9 R9.fk R9.fa R9.mode (.slice none 0 0)) rfl hn (by rw [resL_len hl9]; exact wide_res) (resL_one hr9.1.1 rfl rfl) (by rw [nul_len, resL_len hl9]) ?_
        intro w27 hn2 hg2
        have ht2 := ht9.stored hg2 (fun h => h rfl)
        have hr2 := hr9.stored hg2 (fun h => h rfl)
        refine hK1.out _ _ (HKG.out _ _ _ hHeld hg2 hlt) (fun hHeld => ?_)
        (try simp only [Act.put, List.setIfInBounds_toArray, List.set_cons_zero, List.set_cons_succ])
        refine wpAnyH_take (i := 12) (oi := ⟨some 12, .assign (.tmp 30), _, _, _, none⟩) (v := .int .i64 X.2) rfl (by kernel_rfl) (by kernel_rfl) (by kernel_rfl) (fun _ _ _ h => h) (Or.inl ⟨by rfl, fun wx hS => rfl⟩) hHeld ?_
        (try simp only [Act.put, List.setIfInBounds_toArray, List.set_cons_zero, List.set_cons_succ])
        refine wpAnyH_done (by kernel_rfl) ?_ _
        (try simp only [Act.put, List.setIfInBounds_toArray, List.set_cons_zero, List.set_cons_succ])
        go_wp2_with fail
        go_meet
        case rel => exact ⟨GN, a9, c9, vs9, R9, rfl, rfl, hHeld, hlt, hn2, ht2, hr2, hR9⟩
    · refine step_allocC rfl 43 rfl nulL nul_zero ?_
      intro w28 hn hb28
      obtain ⟨GN, hGN⟩ : ∃ GN, GN = w6.drew.heap.size := ⟨_, rfl⟩
      have hls : Hid (GN = w6.drew.heap.size) := hGN
      rw [← hGN] at hn ⊢
      have hlt : w.heap.size < GN ∧ GR < GN ∧ GF < GN ∧ GC < GN ∧ GZ < GN := by rw [hGN]; exact ⟨hHeld.1.lt, hHeld.2.1.lt, hHeld.2.2.1.lt, hHeld.2.2.2.1.lt, hHeld.2.2.2.2.1.lt⟩
      clear hGN
      refine hK2.out _ _ (HKS.out _ _ hHeld hb28) (fun hHeld => ?_)
      (try simp only [Act.put, List.setIfInBounds_toArray, List.set_cons_zero, List.set_cons_succ])
      refine wpAnyH_ready (rs := [5]) (by kernel_rfl) (by simp) ?_
      refine AllReadyH.cons (o := ⟨some 27, .call _, _, _, _, none⟩) rfl (fun K1 hK1 => ?_) AllReadyH.nil
      go_simp
      refine (HWH.out _).mono ?_
      rintro q w29 ⟨rfl, hb29⟩
      go_wp2_with fail
      refine hK1.out _ _ (HKS.out _ _ hHeld hb29) (fun hHeld => ?_)
      (try simp only [Act.put, List.setIfInBounds_toArray, List.set_cons_zero, List.set_cons_succ])
      replace hn := hn.below hb29
      have hlw : GN < w29.heap.size := hn.lt
      refine wpAnyH_ready (rs := [6]) (by kernel_rfl) (by simp) ?_
      refine AllReadyH.cons (o := ⟨some 28, .call _, _, _, _, none⟩) rfl (fun K1 hK1 => ?_) AllReadyH.nil
      go_simp
      refine (HDT.out _ hHeld.2.2.2.2.2 (fun b => b ≠ GN) (fun b hb => by omega) (fun b hb => by omega)).mono ?_
      rintro q w30 ⟨hb30, x9, R9, rfl, ⟨a9, c9, vs9, rfl, ht9, hr9⟩, hR9⟩
      go_wp2_with fail
      refine hK1.out _ _ (HKS.out _ _ hHeld hb30) (fun hHeld => ?_)
      (try simp only [Act.put, List.setIfInBounds_toArray, List.set_cons_zero, List.set_cons_succ])
      replace hn := hn.below hb30
      refine wpAnyH_take (i := 7) (oi := ⟨some 21, .move (.tmp 28), _, _, _, none⟩) (v := .tuple #[.agg (resL (.slice a9 R9.text.length c9) R9.loc vs9 R9.fk R9.fa R9.mode (.slice none 0 0)).toArray, .int .i64 X.2]) rfl (by kernel_rfl) (by kernel_rfl) (by kernel_rfl) (fun _ _ _ h => h) (Or.inl ⟨by rfl, fun wx hS => rfl⟩) hHeld ?_
      (try simp only [Act.put, List.setIfInBounds_toArray, List.set_cons_zero, List.set_cons_succ])
      refine wpAnyH_take (i := 8) (oi := ⟨some 29, .extract (.tmp 21) 0, _, _, _, none⟩) (v := .agg (resL (.slice a9 R9.text.length c9) R9.loc vs9 R9.fk R9.fa R9.mode (.slice none 0 0)).toArray) rfl (by kernel_rfl) (by kernel_rfl) (by kernel_rfl) (fun _ _ _ h => h) (Or.inl ⟨by rfl, fun wx hS => by unfold execOp; go_simp⟩) hHeld ?_
      (try simp only [Act.put, List.setIfInBounds_toArray, List.set_cons_zero, List.set_cons_succ])
      refine wpAnyH_take (i := 9) (oi := ⟨some 30, .extract (.tmp 21) 1, _, _, _, none⟩) (v := .int .i64 X.2) rfl (by kernel_rfl) (by kernel_rfl) (by kernel_rfl) (fun _ _ _ h => h) (Or.inl ⟨by rfl, fun wx hS => by unfold execOp; go_simp⟩) hHeld ?_
      (try simp only [Act.put, List.setIfInBounds_toArray, List.set_cons_zero, List.set_cons_succ])
      have hl9 : vs9.length = 27 := hr9.len
      refine wpAnyH_ready (rs := [11]) (by kernel_rfl) (by simp) ?_
      refine AllReadyH.cons (o := ⟨none, .store 43 (.tmp 11) (.tmp 29), _, _, _, none⟩) rfl (fun K1 hK1 => ?_) AllReadyH.nil
      refine step_storeC rfl 43 (.tmp 11) (.tmp 29) rfl GN rfl nulL (resL (.slice a9 R9.text.length c9) R9.loc vs9 R9.fk R9.fa R9.mode (.slice none 0 0)) rfl hn (by rw [resL_len hl9]; exact wide_res) (resL_one hr9.1.1 rfl rfl) (by rw [nul_len, resL_len hl9]) ?_
      intro w31 hn2 hg2
      have ht2 := ht9.stored hg2 (fun h => h rfl)
      have hr2 := hr9.stored hg2 (fun h => h rfl)
      refine hK1.out _ _ (HKG.out _ _ _ hHeld hg2 hlt) (fun hHeld => ?_)
      (try simp only [Act.put, List.setIfInBounds_toArray, List.set_cons_zero, List.set_cons_succ])
      refine wpAnyH_take (i := 12) (oi := ⟨some 12, .assign (.tmp 30), _, _, _, none⟩) (v := .int .i64 X.2) rfl (by kernel_rfl) (by kernel_rfl) (by kernel_rfl) (fun _ _ _ h => h) (Or.inl ⟨by rfl, fun wx hS => rfl⟩) hHeld ?_
      (try simp only [Act.put, List.setIfInBounds_toArray, List.set_cons_zero, List.set_cons_succ])
      refine wpAnyH_done (by kernel_rfl) ?_ _
      (try simp only [Act.put, List.setIfInBounds_toArray, List.set_cons_zero, List.set_cons_succ])
      go_wp2_with fail
      go_meet
      case rel => exact ⟨GN, a9, c9, vs9, R9, rfl, rfl, hHeld, hlt, hn2, ht2, hr2, hR9⟩
  case rest =>
    obtain ⟨GN, a9, c9, vs9, R9, rfl, rfl, HSc, HLGN, N_wc, T_wc, Q_wc, HRX⟩ := hcut
    have HB_wc : Hid (Below w.heap.size w wc) := HSc.out.2.2.2.2.2
    have A_wc : Hid (BoxC wc 24 w.heap.size [.slice a zs.length cap, .int .i64 k]) := HSc.out.1
    have C_wc : Hid (BoxC wc 38 GC [.int .i64 c, .int .i64 r, .int .i64 o, .int .i64 v, .int .i64 g]) := HSc.out.2.2.2.1
    have Z_wc : Hid (BoxC wc 43 GZ nulL) := HSc.out.2.2.2.2.1
    clear HSc A_w6 R_w6 F_w6 C_w6 Z_w6 HB_w6 HDT HWH
    have e9 := HRX.out HX0.out
    subst e9
    clear HRX
    rw [HX0.out]
    have hv9 : vs9.length = 27 := Q_wc.out.len
    have HS9 : Hid (AllSl vs9) := Q_wc.out.1.1
    have cA0 : wc.cell? ⟨w.heap.size, 0, none⟩ = some (.slice a zs.length cap) := (A_wc.out.cell 0).trans rfl
    have cC0 : wc.cell? ⟨GC, 0, none⟩ = some (.int .i64 c) := (C_wc.out.cell 0).trans rfl
    have cC1 : wc.cell? ⟨GC, 1, none⟩ = some (.int .i64 r) := (C_wc.out.cell 1).trans rfl
    have cC2 : wc.cell? ⟨GC, 2, none⟩ = some (.int .i64 o) := (C_wc.out.cell 2).trans rfl
    have cC3 : wc.cell? ⟨GC, 3, none⟩ = some (.int .i64 v) := (C_wc.out.cell 3).trans rfl
    have cC4 : wc.cell? ⟨GC, 4, none⟩ = some (.int .i64 g) := (C_wc.out.cell 4).trans rfl
    go_wp2_with (fail)
    refine (isFind_go v _).mono ?_
    rintro q wz ⟨rfl, hwz⟩
    rw [hwz, HF.out]
    clear hwz wz
    go_wp2_with ((refine loadC rfl 43 _ rfl GN rfl (resL (.slice a9 X.1.text.length c9) X.1.loc vs9 X.1.fk X.1.fa X.1.mode (.slice none 0 0)) N_wc.out (by rw [resL_len hv9]; exact wide_res) ?_))
    refine (ofItsOwn_go a9 c9 vs9 X.1 _ T_wc.out.1 Q_wc.out.1 (.slice a zs.length cap) zs (HZ.out _ HB_wc.out) HXl.out HZl.out).mono ?_
    rintro q w50 ⟨hb, x50, rfl, a5, c5, v5, ev, m1, m2, rfl, hm1, hm2, ht5, hr5, he5⟩
    clear cA0 cC0 cC1 cC2 cC3 cC4
    have HLB : Hid (w.heap.size ≤ wc.heap.size ∧ GZ < wc.heap.size) := ⟨HB_wc.out.size, Z_wc.out.lt⟩
    generalize wc.heap.size = B5 at hm1 ht5 hr5 he5 HLB
    have HMM : Hid (B5 ≤ m1 ∧ m1 ≤ m2) := ⟨hm1, hm2⟩
    clear hm1 hm2
    have hv5 : v5.length = 27 := hr5.len
    have HS5 : Hid (AllSl v5) := hr5.1.1
    have HE5 : Hid (ev.oneCell' = true ∧ ∀ xs, ev ≠ .agg xs) := he5.owns.one
    clear T_wc
    clear Q_wc
    have HB_w50 : Hid (Below w.heap.size w w50) := below_trans HB_wc.out hb HB_wc.out.size
    have A_w50 : Hid (BoxC w50 24 w.heap.size [.slice a zs.length cap, .int .i64 k]) := A_wc.out.below hb
    have C_w50 : Hid (BoxC w50 38 GC [.int .i64 c, .int .i64 r, .int .i64 o, .int .i64 v, .int .i64 g]) := C_wc.out.below hb
    have Z_w50 : Hid (BoxC w50 43 GZ nulL) := Z_wc.out.below hb
    have N_w50 : Hid (BoxC w50 43 GN (resL (.slice a9 X.1.text.length c9) X.1.loc vs9 X.1.fk X.1.fa X.1.mode (.slice none 0 0))) := N_wc.out.below hb
    clear A_wc C_wc Z_wc N_wc HB_wc
    clear hb
    have T_w50 : Hid (AvT w50 (fun b => m1 ≤ b ∧ b < m2) (.slice a5 X.1.text.length c5) X.1.text) := ht5
    have Q_w50 : Hid (AvR w50 (fun b => m2 ≤ b) v5 X.1.regs) := hr5
    have E_w50 : Hid (AvE w50 (fun b => B5 ≤ b ∧ b < m1) ev (ups (btw zs X.1.text))) := he5
    clear ht5 hr5 he5
    go_wp2_with (refine storeC rfl 43 _ _ rfl GZ rfl nulL (resL (.slice a5 X.1.text.length c5) X.1.loc v5 X.1.fk X.1.fa X.1.mode ev) rfl Z_w50.out (by rw [resL_len hv5]; exact wide_res) (resL_one HS5.out rfl HE5.out.1) (by rw [nul_len, resL_len hv5]) ?_)
    intro w51 hz hg
    have HB_w51 : Hid (Below w.heap.size w w51) := HB_w50.out.grown hg HB_w50.out.size (fun j hj => by cases hj; exact (by have := HLGZ.out; omega))
    have A_w51 : Hid (BoxC w51 24 w.heap.size [.slice a zs.length cap, .int .i64 k]) := A_w50.out.kept hg (fun e => by have := HLGZ.out; have := Option.some.inj e; omega)
    have C_w51 : Hid (BoxC w51 38 GC [.int .i64 c, .int .i64 r, .int .i64 o, .int .i64 v, .int .i64 g]) := C_w50.out.kept hg (fun e => by have := HLGZ.out; have := HLGC.out; have := Option.some.inj e; omega)
    have N_w51 : Hid (BoxC w51 43 GN (resL (.slice a9 X.1.text.length c9) X.1.loc vs9 X.1.fk X.1.fa X.1.mode (.slice none 0 0))) := N_w50.out.kept hg (fun e => by have := HLGZ.out; have := HLGN.out; have := Option.some.inj e; omega)
    have T_w51 : Hid (AvT w51 (fun b => m1 ≤ b ∧ b < m2) (.slice a5 X.1.text.length c5) X.1.text) := T_w50.out.stored hg (by have := HLB.out; have := HMM.out; show ¬ (m1 ≤ GZ ∧ GZ < m2); omega)
    have Q_w51 : Hid (AvR w51 (fun b => m2 ≤ b) v5 X.1.regs) := Q_w50.out.stored hg (by have := HLB.out; have := HMM.out; show ¬ m2 ≤ GZ; omega)
    have E_w51 : Hid (AvE w51 (fun b => B5 ≤ b ∧ b < m1) ev (ups (btw zs X.1.text))) := E_w50.out.stored hg (by have := HLB.out; show ¬ (B5 ≤ GZ ∧ GZ < m1); omega)
    clear A_w50 C_w50 Z_w50 N_w50 T_w50 Q_w50 E_w50 HB_w50
    have Z_w51 : Hid (BoxC w51 43 GZ (resL (.slice a5 X.1.text.length c5) X.1.loc v5 X.1.fk X.1.fa X.1.mode ev)) := hz
    clear hz hg
    go_wp2_with (fail)
    (try simp only [Exit.inBlock, Exit.then])
    refine bodyPost_ret (ret_box rfl _ _ GZ (resL (.slice a5 X.1.text.length c5) X.1.loc v5 X.1.fk X.1.fa X.1.mode ev) _ rfl rfl Z_w51.out (by rw [resL_len hv5]; exact wide_res)) rfl ?_
    refine ⟨HB_w51.out, _, rfl, ?_⟩
    show OwnRes _ _ _ _ (if (0 : Int) = 0 then _ else _)
    rw [if_pos rfl]
    exact ⟨a5, c5, v5, ev, m1, m2, rfl, Nat.le_trans HLB.out.1 HMM.out.1, HMM.out.2, T_w51.out, Q_w51.out, E_w51.out.weak (fun b hb => ⟨Nat.le_trans HLB.out.1 hb.1, hb.2⟩)⟩

set_option maxHeartbeats 4000000 in
theorem do_find (a : Option Addr) (cap : Nat) (zs : List Int) (k : Int) (vs : List Value) (ts : List (List Int)) (fk fa c r o v g : Int) (w : World) (h : Reads w (.slice a zs.length cap) zs) (hr : ReadsR w vs ts) (hz : zs.length ≤ 200) (hE : achk zs.length k fk c o = 0) (hk0 : 0 ≤ k) (hkl : k ≤ lastP zs.length) (hc : c ≤ 999) (O V : Int) (hO : whl o v = (O, V)) (ho : O = 0 ∨ O = 100 ∨ O = 99 ∨ O = 121) (X : Res × Int) (hX : dne (⟨zs, k, ts, fk, fa, 0⟩ : Res) c r O V g = X) (he : X.2 = 0) (hxl : X.1.text.length ≤ 4096) (hf : isF v = true) :
    Calls Try.prog 13 #[.agg #[.slice a zs.length cap, .int .i64 k], .agg vs.toArray, .agg #[.int .i64 fk, .int .i64 fa], .agg #[.int .i64 c, .int .i64 r, .int .i64 o, .int .i64 v, .int .i64 g]] w fun q w' => DoPost zs ({ X.1 with fk := v, fa := g }, 0) w q w' := by
  have HCK : Hid (∀ wx, Calls Try.prog 23 #[.agg #[.slice a zs.length cap, .int .i64 k], .agg #[.int .i64 fk, .int .i64 fa], .agg #[.int .i64 c, .int .i64 r, .int .i64 o, .int .i64 v, .int .i64 g]] wx fun q w' => q = .returned (.int .i64 0) ∧ Below wx.heap.size wx w') := fun wx => by rw [← hE]; exact checkAll_go a zs.length cap k fk fa c r o v g wx (by unfold maxLen; omega)
  have hvs : vs.length = 27 := hr.1.1
  have HS : Hid (AllSl vs) := hr.1
  have HWH : Hid (∀ wx, Calls Try.prog 25 #[.agg #[.int .i64 c, .int .i64 r, .int .i64 o, .int .i64 v, .int .i64 g]] wx fun q w' => q = .returned (.agg #[.int .i64 c, .int .i64 r, .int .i64 O, .int .i64 V, .int .i64 g]) ∧ Below wx.heap.size wx w') := fun wx => by have q := whole_go c r o v g wx; rw [hO] at q; exact q
  have HDT : Hid (∀ wx, Below w.heap.size w wx → ∀ P : Nat → Prop, (∀ b, wx.heap.size ≤ b → P b) → (∀ b, b < w.heap.size → P b) → Calls Try.prog 24 #[.agg (resL (.slice a zs.length cap) k vs fk fa 0 (.slice none 0 0)).toArray, .agg #[.int .i64 c, .int .i64 r, .int .i64 O, .int .i64 V, .int .i64 g]] wx fun q w' => DonePost P X wx q w') := fun wx hx P hP1 hP2 => by
    rw [← hX]
    exact done_go a cap vs (⟨zs, k, ts, fk, fa, 0⟩ : Res) c r O V g wx P hP1 (((av_arg h).below hx).weak hP2) (((avR_arg hr).below hx).weak hP2) hk0 hkl hz hc ho
  have HZl : Hid (zs.length ≤ 4096) := by show _ ≤ _; omega
  clear hE hX hO ho hk0 hkl hc hz
  have HX0 : Hid (X.2 = 0) := he
  have HXl : Hid (X.1.text.length ≤ 4096) := hxl
  have HF : Hid (isF v = true) := hf
  have HZ : Hid (∀ wx, Below w.heap.size w wx → Reads wx (.slice a zs.length cap) zs) := fun wx hx => h.below hx
  clear he hxl hf h hr
  go_enter Try.func13, Try.ntmps13
  go_wp2_with (refine boxC rfl 24 _ rfl [.slice a zs.length cap, .int .i64 k] rfl ?_)
  intro w1 ha hb
  have HB_w1 : Hid (Below w.heap.size w w1) := hb
  have A_w1 : Hid (BoxC w1 24 w.heap.size [.slice a zs.length cap, .int .i64 k]) := ha
  clear ha hb
  go_wp2_with (refine boxC rfl 36 _ rfl vs rfl ?_)
  intro w2 ha hb
  have HLGR : Hid (w.heap.size ≤ w1.heap.size ∧ w.heap.size < w1.heap.size) := ⟨HB_w1.out.size, A_w1.out.lt⟩
  have HB_w2 : Hid (Below w.heap.size w w2) := below_trans HB_w1.out hb HB_w1.out.size
  have A_w2 : Hid (BoxC w2 24 w.heap.size [.slice a zs.length cap, .int .i64 k]) := A_w1.out.below hb
  clear A_w1 HB_w1
  have R_w2 : Hid (BoxC w2 36 w1.heap.size vs) := ha
  clear ha hb
  generalize w1.heap.size = GR at *
  go_wp2_with (refine boxC rfl 40 _ rfl [.int .i64 fk, .int .i64 fa] rfl ?_)
  intro w3 ha hb
  have HLGF : Hid (w.heap.size ≤ w2.heap.size ∧ w.heap.size < w2.heap.size ∧ GR < w2.heap.size) := ⟨HB_w2.out.size, A_w2.out.lt, R_w2.out.lt⟩
  have HB_w3 : Hid (Below w.heap.size w w3) := below_trans HB_w2.out hb HB_w2.out.size
  have A_w3 : Hid (BoxC w3 24 w.heap.size [.slice a zs.length cap, .int .i64 k]) := A_w2.out.below hb
  have R_w3 : Hid (BoxC w3 36 GR vs) := R_w2.out.below hb
  clear A_w2 R_w2 HB_w2
  have F_w3 : Hid (BoxC w3 40 w2.heap.size [.int .i64 fk, .int .i64 fa]) := ha
  clear ha hb
  generalize w2.heap.size = GF at *
  go_wp2_with (refine boxC rfl 38 _ rfl [.int .i64 c, .int .i64 r, .int .i64 o, .int .i64 v, .int .i64 g] rfl ?_)
  intro w4 ha hb
  have HLGC : Hid (w.heap.size ≤ w3.heap.size ∧ w.heap.size < w3.heap.size ∧ GR < w3.heap.size ∧ GF < w3.heap.size) := ⟨HB_w3.out.size, A_w3.out.lt, R_w3.out.lt, F_w3.out.lt⟩
  have HB_w4 : Hid (Below w.heap.size w w4) := below_trans HB_w3.out hb HB_w3.out.size
  have A_w4 : Hid (BoxC w4 24 w.heap.size [.slice a zs.length cap, .int .i64 k]) := A_w3.out.below hb
  have R_w4 : Hid (BoxC w4 36 GR vs) := R_w3.out.below hb
  have F_w4 : Hid (BoxC w4 40 GF [.int .i64 fk, .int .i64 fa]) := F_w3.out.below hb
  clear A_w3 R_w3 F_w3 HB_w3
  have C_w4 : Hid (BoxC w4 38 w3.heap.size [.int .i64 c, .int .i64 r, .int .i64 o, .int .i64 v, .int .i64 g]) := ha
  clear ha hb
  generalize w3.heap.size = GC at *
  go_wp2_with (refine allocC rfl 43 rfl nulL nul_zero ?_)
  intro w5 ha hb
  have HLGZ : Hid (w.heap.size ≤ w4.heap.size ∧ w.heap.size < w4.heap.size ∧ GR < w4.heap.size ∧ GF < w4.heap.size ∧ GC < w4.heap.size) := ⟨HB_w4.out.size, A_w4.out.lt, R_w4.out.lt, F_w4.out.lt, C_w4.out.lt⟩
  have HB_w5 : Hid (Below w.heap.size w w5) := below_trans HB_w4.out hb HB_w4.out.size
  have A_w5 : Hid (BoxC w5 24 w.heap.size [.slice a zs.length cap, .int .i64 k]) := A_w4.out.below hb
  have R_w5 : Hid (BoxC w5 36 GR vs) := R_w4.out.below hb
  have F_w5 : Hid (BoxC w5 40 GF [.int .i64 fk, .int .i64 fa]) := F_w4.out.below hb
  have C_w5 : Hid (BoxC w5 38 GC [.int .i64 c, .int .i64 r, .int .i64 o, .int .i64 v, .int .i64 g]) := C_w4.out.below hb
  clear A_w4 R_w4 F_w4 C_w4 HB_w4
  have Z_w5 : Hid (BoxC w5 43 w4.heap.size nulL) := ha
  clear ha hb
  generalize w4.heap.size = GZ at *
  have cA0 : w5.cell? ⟨w.heap.size, 0, none⟩ = some (.slice a zs.length cap) := (A_w5.out.cell 0).trans rfl
  have cA1 : w5.cell? ⟨w.heap.size, 1, none⟩ = some (.int .i64 k) := (A_w5.out.cell 1).trans rfl
  have cF0 : w5.cell? ⟨GF, 0, none⟩ = some (.int .i64 fk) := (F_w5.out.cell 0).trans rfl
  have cF1 : w5.cell? ⟨GF, 1, none⟩ = some (.int .i64 fa) := (F_w5.out.cell 1).trans rfl
  have cC0 : w5.cell? ⟨GC, 0, none⟩ = some (.int .i64 c) := (C_w5.out.cell 0).trans rfl
  have cC1 : w5.cell? ⟨GC, 1, none⟩ = some (.int .i64 r) := (C_w5.out.cell 1).trans rfl
  have cC2 : w5.cell? ⟨GC, 2, none⟩ = some (.int .i64 o) := (C_w5.out.cell 2).trans rfl
  have cC3 : w5.cell? ⟨GC, 3, none⟩ = some (.int .i64 v) := (C_w5.out.cell 3).trans rfl
  have cC4 : w5.cell? ⟨GC, 4, none⟩ = some (.int .i64 g) := (C_w5.out.cell 4).trans rfl
  go_wp2_with (fail)
  refine (HCK.out _).mono ?_
  rintro q w6 ⟨rfl, hb6⟩
  clear HCK cA0 cA1 cF0 cF1 cC0 cC1 cC2 cC3 cC4
  have HB_w6 : Hid (Below w.heap.size w w6) := below_trans HB_w5.out hb6 HB_w5.out.size
  have A_w6 : Hid (BoxC w6 24 w.heap.size [.slice a zs.length cap, .int .i64 k]) := A_w5.out.below hb6
  have R_w6 : Hid (BoxC w6 36 GR vs) := R_w5.out.below hb6
  have F_w6 : Hid (BoxC w6 40 GF [.int .i64 fk, .int .i64 fa]) := F_w5.out.below hb6
  have C_w6 : Hid (BoxC w6 38 GC [.int .i64 c, .int .i64 r, .int .i64 o, .int .i64 v, .int .i64 g]) := C_w5.out.below hb6
  have Z_w6 : Hid (BoxC w6 43 GZ nulL) := Z_w5.out.below hb6
  clear A_w5 R_w5 F_w5 C_w5 Z_w5 HB_w5
  clear hb6
  go_wp2_with (fail)
  go_cut [11, 12] from 21 to 31 (fun s11 s12 wx => ∃ (GN : Nat) (a9 : Option Addr) (c9 : Nat) (vs9 : List Value) (R9 : Res), s11 = .pointer (some ⟨GN, 0, none⟩) ∧ s12 = .int .i64 X.2 ∧ Hid ((fun wx => BoxC wx 24 w.heap.size [.slice a zs.length cap, .int .i64 k] ∧ BoxC wx 36 GR vs ∧ BoxC wx 40 GF [.int .i64 fk, .int .i64 fa] ∧ BoxC wx 38 GC [.int .i64 c, .int .i64 r, .int .i64 o, .int .i64 v, .int .i64 g] ∧ BoxC wx 43 GZ nulL ∧ Below w.heap.size w wx) wx) ∧ Hid (w.heap.size < GN ∧ GR < GN ∧ GF < GN ∧ GC < GN ∧ GZ < GN) ∧ Hid (BoxC wx 43 GN (resL (.slice a9 R9.text.length c9) R9.loc vs9 R9.fk R9.fa R9.mode (.slice none 0 0))) ∧ Hid (Av wx (fun b => b ≠ GN) (.slice a9 R9.text.length c9) R9.text) ∧ Hid (AvR wx (fun b => b ≠ GN) vs9 R9.regs) ∧ Hid (X.2 = 0 → R9 = X.1))
  case first =>
    have HS3 : Hid ((fun wx => BoxC wx 24 w.heap.size [.slice a zs.length cap, .int .i64 k] ∧ BoxC wx 36 GR vs ∧ BoxC wx 40 GF [.int .i64 fk, .int .i64 fa] ∧ BoxC wx 38 GC [.int .i64 c, .int .i64 r, .int .i64 o, .int .i64 v, .int .i64 g] ∧ BoxC wx 43 GZ nulL ∧ Below w.heap.size w wx) w6.drew) := ⟨A_w6.out, R_w6.out, F_w6.out, C_w6.out, Z_w6.out, below_drewN HB_w6.out 1⟩
    have HKS : Hid (∀ wx wy, (fun wx => BoxC wx 24 w.heap.size [.slice a zs.length cap, .int .i64 k] ∧ BoxC wx 36 GR vs ∧ BoxC wx 40 GF [.int .i64 fk, .int .i64 fa] ∧ BoxC wx 38 GC [.int .i64 c, .int .i64 r, .int .i64 o, .int .i64 v, .int .i64 g] ∧ BoxC wx 43 GZ nulL ∧ Below w.heap.size w wx) wx → Below wx.heap.size wx wy → (fun wx => BoxC wx 24 w.heap.size [.slice a zs.length cap, .int .i64 k] ∧ BoxC wx 36 GR vs ∧ BoxC wx 40 GF [.int .i64 fk, .int .i64 fa] ∧ BoxC wx 38 GC [.int .i64 c, .int .i64 r, .int .i64 o, .int .i64 v, .int .i64 g] ∧ BoxC wx 43 GZ nulL ∧ Below w.heap.size w wx) wy) := fun wx wy h hb => ⟨h.1.below hb, h.2.1.below hb, h.2.2.1.below hb, h.2.2.2.1.below hb, h.2.2.2.2.1.below hb, below_trans h.2.2.2.2.2 hb h.2.2.2.2.2.size⟩
    have HKG : Hid (∀ wx wy G, (fun wx => BoxC wx 24 w.heap.size [.slice a zs.length cap, .int .i64 k] ∧ BoxC wx 36 GR vs ∧ BoxC wx 40 GF [.int .i64 fk, .int .i64 fa] ∧ BoxC wx 38 GC [.int .i64 c, .int .i64 r, .int .i64 o, .int .i64 v, .int .i64 g] ∧ BoxC wx 43 GZ nulL ∧ Below w.heap.size w wx) wx → wx.grownBy wy (some G) → (w.heap.size < G ∧ GR < G ∧ GF < G ∧ GC < G ∧ GZ < G) → (fun wx => BoxC wx 24 w.heap.size [.slice a zs.length cap, .int .i64 k] ∧ BoxC wx 36 GR vs ∧ BoxC wx 40 GF [.int .i64 fk, .int .i64 fa] ∧ BoxC wx 38 GC [.int .i64 c, .int .i64 r, .int .i64 o, .int .i64 v, .int .i64 g] ∧ BoxC wx 43 GZ nulL ∧ Below w.heap.size w wx) wy) := fun wx wy G h hg hl => ⟨h.1.kept hg (fun e => by have := Option.some.inj e; omega), h.2.1.kept hg (fun e => by have := Option.some.inj e; omega), h.2.2.1.kept hg (fun e => by have := Option.some.inj e; omega), h.2.2.2.1.kept hg (fun e => by have := Option.some.inj e; omega), h.2.2.2.2.1.kept hg (fun e => by have := Option.some.inj e; omega), h.2.2.2.2.2.grown hg h.2.2.2.2.2.size (fun j hj => by cases hj; omega)⟩
    refine wp_region_held_drew (S := (fun wx => BoxC wx 24 w.heap.size [.slice a zs.length cap, .int .i64 k] ∧ BoxC wx 36 GR vs ∧ BoxC wx 40 GF [.int .i64 fk, .int .i64 fa] ∧ BoxC wx 38 GC [.int .i64 c, .int .i64 r, .int .i64 o, .int .i64 v, .int .i64 g] ∧ BoxC wx 43 GZ nulL ∧ Below w.heap.size w wx)) (by kernel_rfl) HS3.out (fun hHeld => ?_)
    refine wpAnyH_take (i := 0) (oi := ⟨some 22, .load 24 (.tmp 4), _, _, _, none⟩) (v := .agg [.slice a zs.length cap, .int .i64 k].toArray) rfl (by kernel_rfl) (by kernel_rfl) (by kernel_rfl) (fun _ _ _ h => h) (Or.inl ⟨by rfl, fun wx hS => exec_loadC 24 _ rfl w.heap.size rfl [.slice a zs.length cap, .int .i64 k] hS.1 wide_line⟩) hHeld ?_
    (try simp only [Act.put, List.setIfInBounds_toArray, List.set_cons_zero, List.set_cons_succ])
    refine wpAnyH_take (i := 1) (oi := ⟨some 23, .load 36 (.tmp 5), _, _, _, none⟩) (v := .agg vs.toArray) rfl (by kernel_rfl) (by kernel_rfl) (by kernel_rfl) (fun _ _ _ h => h) (Or.inl ⟨by rfl, fun wx hS => exec_loadC 36 _ rfl GR rfl vs hS.2.1 (by rw [hvs]; exact wide_regs)⟩) hHeld ?_
    (try simp only [Act.put, List.setIfInBounds_toArray, List.set_cons_zero, List.set_cons_succ])
    refine wpAnyH_take (i := 2) (oi := ⟨some 24, .load 40 (.tmp 6), _, _, _, none⟩) (v := .agg [.int .i64 fk, .int .i64 fa].toArray) rfl (by kernel_rfl) (by kernel_rfl) (by kernel_rfl) (fun _ _ _ h => h) (Or.inl ⟨by rfl, fun wx hS => exec_loadC 40 _ rfl GF rfl [.int .i64 fk, .int .i64 fa] hS.2.2.1 wide_find⟩) hHeld ?_
    (try simp only [Act.put, List.setIfInBounds_toArray, List.set_cons_zero, List.set_cons_succ])
    refine wpAnyH_take (i := 3) (oi := ⟨some 25, .build 43 #[(0, .tmp 22), (1, .tmp 23), (2, .tmp 24)], _, _, _, none⟩) (v := .agg (resL (.slice a zs.length cap) k vs fk fa 0 (.slice none 0 0)).toArray) rfl (by kernel_rfl) (by kernel_rfl) (by kernel_rfl) (fun _ _ _ h => h) (Or.inl ⟨by rfl, fun wx hS => exec_buildC 43 _ rfl (resL (.slice a zs.length cap) k vs fk fa 0 (.slice none 0 0)) (built_res _ _ _ _ _ _ hvs rfl rfl rfl) wx⟩) hHeld ?_
    (try simp only [Act.put, List.setIfInBounds_toArray, List.set_cons_zero, List.set_cons_succ])
    refine wpAnyH_take (i := 4) (oi := ⟨some 26, .load 38 (.tmp 7), _, _, _, none⟩) (v := .agg [.int .i64 c, .int .i64 r, .int .i64 o, .int .i64 v, .int .i64 g].toArray) rfl (by kernel_rfl) (by kernel_rfl) (by kernel_rfl) (fun _ _ _ h => h) (Or.inl ⟨by rfl, fun wx hS => exec_loadC 38 _ rfl GC rfl [.int .i64 c, .int .i64 r, .int .i64 o, .int .i64 v, .int .i64 g] hS.2.2.2.1 wide_cmd⟩) hHeld ?_
    (try simp only [Act.put, List.setIfInBounds_toArray, List.set_cons_zero, List.set_cons_succ])
    refine wpAnyH_ready (rs := [5, 10]) (by kernel_rfl) (by simp) ?_
    refine AllReadyH.cons (o := ⟨some 27, .call _, _, _, _, none⟩) rfl (fun K1 hK1 => ?_) (AllReadyH.cons (o := ⟨some 11, .alloc 43, _, _, _, none⟩) rfl (fun K2 hK2 => ?_) AllReadyH.nil)
    · go_simp
      refine (HWH.out _).mono ?_
      rintro q w21 ⟨rfl, hb21⟩
      go_wp2_with fail
      refine hK1.out _ _ (HKS.out _ _ hHeld hb21) (fun hHeld => ?_)
      (try simp only [Act.put, List.setIfInBounds_toArray, List.set_cons_zero, List.set_cons_succ])
      refine wpAnyH_ready (rs := [6, 10]) (by kernel_rfl) (by simp) ?_
      refine AllReadyH.cons (o := ⟨some 28, .call _, _, _, _, none⟩) rfl (fun K1 hK1 => ?_) (AllReadyH.cons (o := ⟨some 11, .alloc 43, _, _, _, none⟩) rfl (fun K2 hK2 => ?_) AllReadyH.nil)
      · go_simp
        refine (HDT.out _ hHeld.2.2.2.2.2 (fun _ => True) (fun _ _ => trivial) (fun _ _ => trivial)).mono ?_
        rintro q w22 ⟨hb22, x9, R9, rfl, ⟨a9, c9, vs9, rfl, ht9, hr9⟩, hR9⟩
        go_wp2_with fail
        refine hK1.out _ _ (HKS.out _ _ hHeld hb22) (fun hHeld => ?_)
        (try simp only [Act.put, List.setIfInBounds_toArray, List.set_cons_zero, List.set_cons_succ])
        refine wpAnyH_take (i := 7) (oi := ⟨some 21, .move (.tmp 28), _, _, _, none⟩) (v := .tuple #[.agg (resL (.slice a9 R9.text.length c9) R9.loc vs9 R9.fk R9.fa R9.mode (.slice none 0 0)).toArray, .int .i64 X.2]) rfl (by kernel_rfl) (by kernel_rfl) (by kernel_rfl) (fun _ _ _ h => h) (Or.inl ⟨by rfl, fun wx hS => rfl⟩) hHeld ?_
        (try simp only [Act.put, List.setIfInBounds_toArray, List.set_cons_zero, List.set_cons_succ])
        refine wpAnyH_take (i := 8) (oi := ⟨some 29, .extract (.tmp 21) 0, _, _, _, none⟩) (v := .agg (resL (.slice a9 R9.text.length c9) R9.loc vs9 R9.fk R9.fa R9.mode (.slice none 0 0)).toArray) rfl (by kernel_rfl) (by kernel_rfl) (by kernel_rfl) (fun _ _ _ h => h) (Or.inl ⟨by rfl, fun wx hS => by unfold execOp; go_simp⟩) hHeld ?_
        (try simp only [Act.put, List.setIfInBounds_toArray, List.set_cons_zero, List.set_cons_succ])
        refine wpAnyH_take (i := 9) (oi := ⟨some 30, .extract (.tmp 21) 1, _, _, _, none⟩) (v := .int .i64 X.2) rfl (by kernel_rfl) (by kernel_rfl) (by kernel_rfl) (fun _ _ _ h => h) (Or.inl ⟨by rfl, fun wx hS => by unfold execOp; go_simp⟩) hHeld ?_
        (try simp only [Act.put, List.setIfInBounds_toArray, List.set_cons_zero, List.set_cons_succ])
        refine wpAnyH_ready (rs := [10]) (by kernel_rfl) (by simp) ?_
        refine AllReadyH.cons (o := ⟨some 11, .alloc 43, _, _, _, none⟩) rfl (fun K1 hK1 => ?_) AllReadyH.nil
        refine step_allocC rfl 43 rfl nulL nul_zero ?_
        intro w23 hn hb23
        obtain ⟨GN, hGN⟩ : ∃ GN, GN = w22.heap.size := ⟨_, rfl⟩
        have hls : Hid (GN = w22.heap.size) := hGN
        rw [← hGN] at hn ⊢
        have hlt : w.heap.size < GN ∧ GR < GN ∧ GF < GN ∧ GC < GN ∧ GZ < GN := by rw [hGN]; exact ⟨hHeld.1.lt, hHeld.2.1.lt, hHeld.2.2.1.lt, hHeld.2.2.2.1.lt, hHeld.2.2.2.2.1.lt⟩
        clear hGN
        refine hK1.out _ _ (HKS.out _ _ hHeld hb23) (fun hHeld => ?_)
        (try simp only [Act.put, List.setIfInBounds_toArray, List.set_cons_zero, List.set_cons_succ])
        replace ht9 := ((av_arg ht9.1).below hb23).weak (Q := fun b => b ≠ GN) (fun b hb => by have := hls.out; omega)
        replace hr9 := ((avR_arg hr9.1).below hb23).weak (Q := fun b => b ≠ GN) (fun b hb => by have := hls.out; omega)
        have hl9 : vs9.length = 27 := hr9.len
        refine wpAnyH_ready (rs := [11]) (by kernel_rfl) (by simp) ?_
        refine AllReadyH.cons (o := ⟨none, .store 43 (.tmp 11) (.tmp 29), _, _, _, none⟩) rfl (fun K1 hK1 => ?_) AllReadyH.nil
        refine step_storeC rfl 43 (.tmp 11) (.tmp 29) rfl GN rfl nulL (resL (.slice a9 R9.text.length c9) R9.loc vs9 R9.fk R9.fa R9.mode (.slice none 0 0)) rfl hn (by rw [resL_len hl9]; exact wide_res) (resL_one hr9.1.1 rfl rfl) (by rw [nul_len, resL_len hl9]) ?_
        intro w24 hn2 hg2
        have ht2 := ht9.stored hg2 (fun h => h rfl)
        have hr2 := hr9.stored hg2 (fun h => h rfl)
        refine hK1.out _ _ (HKG.out _ _ _ hHeld hg2 hlt) (fun hHeld => ?_)
        (try simp only [Act.put, List.setIfInBounds_toArray, List.set_cons_zero, List.set_cons_succ])
        refine wpAnyH_take (i := 12) (oi := ⟨some 12, .assign (.tmp 30), _, _, _, none⟩) (v := .int .i64 X.2) rfl (by kernel_rfl) (by kernel_rfl) (by kernel_rfl) (fun _ _ _ h => h) (Or.inl ⟨by rfl, fun wx hS => rfl⟩) hHeld ?_
        (try simp only [Act.put, List.setIfInBounds_toArray, List.set_cons_zero, List.set_cons_succ])
        refine wpAnyH_done (by kernel_rfl) ?_ _
        (try simp only [Act.put, List.setIfInBounds_toArray, List.set_cons_zero, List.set_cons_succ])
        go_wp2_with fail
        go_meet
        case rel => exact ⟨GN, a9, c9, vs9, R9, rfl, rfl, hHeld, hlt, hn2, ht2, hr2, hR9⟩
      · refine step_allocC rfl 43 rfl nulL nul_zero ?_
        intro w25 hn hb25
        obtain ⟨GN, hGN⟩ : ∃ GN, GN = w21.heap.size := ⟨_, rfl⟩
        have hls : Hid (GN = w21.heap.size) := hGN
        rw [← hGN] at hn ⊢
        have hlt : w.heap.size < GN ∧ GR < GN ∧ GF < GN ∧ GC < GN ∧ GZ < GN := by rw [hGN]; exact ⟨hHeld.1.lt, hHeld.2.1.lt, hHeld.2.2.1.lt, hHeld.2.2.2.1.lt, hHeld.2.2.2.2.1.lt⟩
        clear hGN
        refine hK2.out _ _ (HKS.out _ _ hHeld hb25) (fun hHeld => ?_)
        (try simp only [Act.put, List.setIfInBounds_toArray, List.set_cons_zero, List.set_cons_succ])
        have hlw : GN < w25.heap.size := hn.lt
        refine wpAnyH_ready (rs := [6]) (by kernel_rfl) (by simp) ?_
        refine AllReadyH.cons (o := ⟨some 28, .call _, _, _, _, none⟩) rfl (fun K1 hK1 => ?_) AllReadyH.nil
        go_simp
        refine (HDT.out _ hHeld.2.2.2.2.2 (fun b => b ≠ GN) (fun b hb => by omega) (fun b hb => by omega)).mono ?_
        rintro q w26 ⟨hb26, x9, R9, rfl, ⟨a9, c9, vs9, rfl, ht9, hr9⟩, hR9⟩
        go_wp2_with fail
        refine hK1.out _ _ (HKS.out _ _ hHeld hb26) (fun hHeld => ?_)
        (try simp only [Act.put, List.setIfInBounds_toArray, List.set_cons_zero, List.set_cons_succ])
        replace hn := hn.below hb26
        refine wpAnyH_take (i := 7) (oi := ⟨some 21, .move (.tmp 28), _, _, _, none⟩) (v := .tuple #[.agg (resL (.slice a9 R9.text.length c9) R9.loc vs9 R9.fk R9.fa R9.mode (.slice none 0 0)).toArray, .int .i64 X.2]) rfl (by kernel_rfl) (by kernel_rfl) (by kernel_rfl) (fun _ _ _ h => h) (Or.inl ⟨by rfl, fun wx hS => rfl⟩) hHeld ?_
        (try simp only [Act.put, List.setIfInBounds_toArray, List.set_cons_zero, List.set_cons_succ])
        refine wpAnyH_take (i := 8) (oi := ⟨some 29, .extract (.tmp 21) 0, _, _, _, none⟩) (v := .agg (resL (.slice a9 R9.text.length c9) R9.loc vs9 R9.fk R9.fa R9.mode (.slice none 0 0)).toArray) rfl (by kernel_rfl) (by kernel_rfl) (by kernel_rfl) (fun _ _ _ h => h) (Or.inl ⟨by rfl, fun wx hS => by unfold execOp; go_simp⟩) hHeld ?_
        (try simp only [Act.put, List.setIfInBounds_toArray, List.set_cons_zero, List.set_cons_succ])
        refine wpAnyH_take (i := 9) (oi := ⟨some 30, .extract (.tmp 21) 1, _, _, _, none⟩) (v := .int .i64 X.2) rfl (by kernel_rfl) (by kernel_rfl) (by kernel_rfl) (fun _ _ _ h => h) (Or.inl ⟨by rfl, fun wx hS => by unfold execOp; go_simp⟩) hHeld ?_
        (try simp only [Act.put, List.setIfInBounds_toArray, List.set_cons_zero, List.set_cons_succ])
        have hl9 : vs9.length = 27 := hr9.len
        refine wpAnyH_ready (rs := [11]) (by kernel_rfl) (by simp) ?_
        refine AllReadyH.cons (o := ⟨none, .store 43 (.tmp 11) (.tmp 29), _, _, _, none⟩) rfl (fun K1 hK1 => ?_) AllReadyH.nil
        refine step_storeC rfl 43 (.tmp 11) (.tmp 29) rfl GN rfl nulL (resL (.slice a9 R9.text.length c9) R9.loc vs9 R9.fk R9.fa R9.mode (.slice none 0 0)) rfl hn (by rw [resL_len hl9]; exact wide_res) (resL_one hr9.1.1 rfl rfl) (by rw [nul_len, resL_len hl9]) ?_
        intro w27 hn2 hg2
        have ht2 := ht9.stored hg2 (fun h => h rfl)
        have hr2 := hr9.stored hg2 (fun h => h rfl)
        refine hK1.out _ _ (HKG.out _ _ _ hHeld hg2 hlt) (fun hHeld => ?_)
        (try simp only [Act.put, List.setIfInBounds_toArray, List.set_cons_zero, List.set_cons_succ])
        refine wpAnyH_take (i := 12) (oi := ⟨some 12, .assign (.tmp 30), _, _, _, none⟩) (v := .int .i64 X.2) rfl (by kernel_rfl) (by kernel_rfl) (by kernel_rfl) (fun _ _ _ h => h) (Or.inl ⟨by rfl, fun wx hS => rfl⟩) hHeld ?_
        (try simp only [Act.put, List.setIfInBounds_toArray, List.set_cons_zero, List.set_cons_succ])
        refine wpAnyH_done (by kernel_rfl) ?_ _
        (try simp only [Act.put, List.setIfInBounds_toArray, List.set_cons_zero, List.set_cons_succ])
        go_wp2_with fail
        go_meet
        case rel => exact ⟨GN, a9, c9, vs9, R9, rfl, rfl, hHeld, hlt, hn2, ht2, hr2, hR9⟩
    · refine step_allocC rfl 43 rfl nulL nul_zero ?_
      intro w28 hn hb28
      obtain ⟨GN, hGN⟩ : ∃ GN, GN = w6.drew.heap.size := ⟨_, rfl⟩
      have hls : Hid (GN = w6.drew.heap.size) := hGN
      rw [← hGN] at hn ⊢
      have hlt : w.heap.size < GN ∧ GR < GN ∧ GF < GN ∧ GC < GN ∧ GZ < GN := by rw [hGN]; exact ⟨hHeld.1.lt, hHeld.2.1.lt, hHeld.2.2.1.lt, hHeld.2.2.2.1.lt, hHeld.2.2.2.2.1.lt⟩
      clear hGN
      refine hK2.out _ _ (HKS.out _ _ hHeld hb28) (fun hHeld => ?_)
      (try simp only [Act.put, List.setIfInBounds_toArray, List.set_cons_zero, List.set_cons_succ])
      refine wpAnyH_ready (rs := [5]) (by kernel_rfl) (by simp) ?_
      refine AllReadyH.cons (o := ⟨some 27, .call _, _, _, _, none⟩) rfl (fun K1 hK1 => ?_) AllReadyH.nil
      go_simp
      refine (HWH.out _).mono ?_
      rintro q w29 ⟨rfl, hb29⟩
      go_wp2_with fail
      refine hK1.out _ _ (HKS.out _ _ hHeld hb29) (fun hHeld => ?_)
      (try simp only [Act.put, List.setIfInBounds_toArray, List.set_cons_zero, List.set_cons_succ])
      replace hn := hn.below hb29
      have hlw : GN < w29.heap.size := hn.lt
      refine wpAnyH_ready (rs := [6]) (by kernel_rfl) (by simp) ?_
      refine AllReadyH.cons (o := ⟨some 28, .call _, _, _, _, none⟩) rfl (fun K1 hK1 => ?_) AllReadyH.nil
      go_simp
      refine (HDT.out _ hHeld.2.2.2.2.2 (fun b => b ≠ GN) (fun b hb => by omega) (fun b hb => by omega)).mono ?_
      rintro q w30 ⟨hb30, x9, R9, rfl, ⟨a9, c9, vs9, rfl, ht9, hr9⟩, hR9⟩
      go_wp2_with fail
      refine hK1.out _ _ (HKS.out _ _ hHeld hb30) (fun hHeld => ?_)
      (try simp only [Act.put, List.setIfInBounds_toArray, List.set_cons_zero, List.set_cons_succ])
      replace hn := hn.below hb30
      refine wpAnyH_take (i := 7) (oi := ⟨some 21, .move (.tmp 28), _, _, _, none⟩) (v := .tuple #[.agg (resL (.slice a9 R9.text.length c9) R9.loc vs9 R9.fk R9.fa R9.mode (.slice none 0 0)).toArray, .int .i64 X.2]) rfl (by kernel_rfl) (by kernel_rfl) (by kernel_rfl) (fun _ _ _ h => h) (Or.inl ⟨by rfl, fun wx hS => rfl⟩) hHeld ?_
      (try simp only [Act.put, List.setIfInBounds_toArray, List.set_cons_zero, List.set_cons_succ])
      refine wpAnyH_take (i := 8) (oi := ⟨some 29, .extract (.tmp 21) 0, _, _, _, none⟩) (v := .agg (resL (.slice a9 R9.text.length c9) R9.loc vs9 R9.fk R9.fa R9.mode (.slice none 0 0)).toArray) rfl (by kernel_rfl) (by kernel_rfl) (by kernel_rfl) (fun _ _ _ h => h) (Or.inl ⟨by rfl, fun wx hS => by unfold execOp; go_simp⟩) hHeld ?_
      (try simp only [Act.put, List.setIfInBounds_toArray, List.set_cons_zero, List.set_cons_succ])
      refine wpAnyH_take (i := 9) (oi := ⟨some 30, .extract (.tmp 21) 1, _, _, _, none⟩) (v := .int .i64 X.2) rfl (by kernel_rfl) (by kernel_rfl) (by kernel_rfl) (fun _ _ _ h => h) (Or.inl ⟨by rfl, fun wx hS => by unfold execOp; go_simp⟩) hHeld ?_
      (try simp only [Act.put, List.setIfInBounds_toArray, List.set_cons_zero, List.set_cons_succ])
      have hl9 : vs9.length = 27 := hr9.len
      refine wpAnyH_ready (rs := [11]) (by kernel_rfl) (by simp) ?_
      refine AllReadyH.cons (o := ⟨none, .store 43 (.tmp 11) (.tmp 29), _, _, _, none⟩) rfl (fun K1 hK1 => ?_) AllReadyH.nil
      refine step_storeC rfl 43 (.tmp 11) (.tmp 29) rfl GN rfl nulL (resL (.slice a9 R9.text.length c9) R9.loc vs9 R9.fk R9.fa R9.mode (.slice none 0 0)) rfl hn (by rw [resL_len hl9]; exact wide_res) (resL_one hr9.1.1 rfl rfl) (by rw [nul_len, resL_len hl9]) ?_
      intro w31 hn2 hg2
      have ht2 := ht9.stored hg2 (fun h => h rfl)
      have hr2 := hr9.stored hg2 (fun h => h rfl)
      refine hK1.out _ _ (HKG.out _ _ _ hHeld hg2 hlt) (fun hHeld => ?_)
      (try simp only [Act.put, List.setIfInBounds_toArray, List.set_cons_zero, List.set_cons_succ])
      refine wpAnyH_take (i := 12) (oi := ⟨some 12, .assign (.tmp 30), _, _, _, none⟩) (v := .int .i64 X.2) rfl (by kernel_rfl) (by kernel_rfl) (by kernel_rfl) (fun _ _ _ h => h) (Or.inl ⟨by rfl, fun wx hS => rfl⟩) hHeld ?_
      (try simp only [Act.put, List.setIfInBounds_toArray, List.set_cons_zero, List.set_cons_succ])
      refine wpAnyH_done (by kernel_rfl) ?_ _
      (try simp only [Act.put, List.setIfInBounds_toArray, List.set_cons_zero, List.set_cons_succ])
      go_wp2_with fail
      go_meet
      case rel => exact ⟨GN, a9, c9, vs9, R9, rfl, rfl, hHeld, hlt, hn2, ht2, hr2, hR9⟩
  case rest =>
    obtain ⟨GN, a9, c9, vs9, R9, rfl, rfl, HSc, HLGN, N_wc, T_wc, Q_wc, HRX⟩ := hcut
    have HB_wc : Hid (Below w.heap.size w wc) := HSc.out.2.2.2.2.2
    have A_wc : Hid (BoxC wc 24 w.heap.size [.slice a zs.length cap, .int .i64 k]) := HSc.out.1
    have C_wc : Hid (BoxC wc 38 GC [.int .i64 c, .int .i64 r, .int .i64 o, .int .i64 v, .int .i64 g]) := HSc.out.2.2.2.1
    have Z_wc : Hid (BoxC wc 43 GZ nulL) := HSc.out.2.2.2.2.1
    clear HSc A_w6 R_w6 F_w6 C_w6 Z_w6 HB_w6 HDT HWH
    have e9 := HRX.out HX0.out
    subst e9
    clear HRX
    rw [HX0.out]
    have hv9 : vs9.length = 27 := Q_wc.out.len
    have HS9 : Hid (AllSl vs9) := Q_wc.out.1.1
    have cA0 : wc.cell? ⟨w.heap.size, 0, none⟩ = some (.slice a zs.length cap) := (A_wc.out.cell 0).trans rfl
    have cC0 : wc.cell? ⟨GC, 0, none⟩ = some (.int .i64 c) := (C_wc.out.cell 0).trans rfl
    have cC1 : wc.cell? ⟨GC, 1, none⟩ = some (.int .i64 r) := (C_wc.out.cell 1).trans rfl
    have cC2 : wc.cell? ⟨GC, 2, none⟩ = some (.int .i64 o) := (C_wc.out.cell 2).trans rfl
    have cC3 : wc.cell? ⟨GC, 3, none⟩ = some (.int .i64 v) := (C_wc.out.cell 3).trans rfl
    have cC4 : wc.cell? ⟨GC, 4, none⟩ = some (.int .i64 g) := (C_wc.out.cell 4).trans rfl
    go_wp2_with (fail)
    refine (isFind_go v _).mono ?_
    rintro q wz ⟨rfl, hwz⟩
    rw [hwz, HF.out]
    clear hwz wz
    go_wp2_with (refine storeP rfl 43 40 _ _ rfl GN 29 rfl (resL (.slice a9 X.1.text.length c9) X.1.loc vs9 X.1.fk X.1.fa X.1.mode (.slice none 0 0)) [.int .i64 v, .int .i64 g] (resL (.slice a9 X.1.text.length c9) X.1.loc vs9 v g X.1.mode (.slice none 0 0)) rfl N_wc.out wide_find (fun v hv => by simp at hv; rcases hv with rfl | rfl <;> rfl) (by rw [resL_len hv9]; show 29 + 2 ≤ 33; decide) (resL_find v g hv9) ?_)
    intro w41 hz hg
    have HB_w41 : Hid (Below w.heap.size w w41) := HB_wc.out.grown hg HB_wc.out.size (fun j hj => by cases hj; exact (by have := HLGN.out; omega))
    have A_w41 : Hid (BoxC w41 24 w.heap.size [.slice a zs.length cap, .int .i64 k]) := A_wc.out.kept hg (fun e => by have := HLGN.out; have := Option.some.inj e; omega)
    have C_w41 : Hid (BoxC w41 38 GC [.int .i64 c, .int .i64 r, .int .i64 o, .int .i64 v, .int .i64 g]) := C_wc.out.kept hg (fun e => by have := HLGN.out; have := HLGC.out; have := Option.some.inj e; omega)
    have Z_w41 : Hid (BoxC w41 43 GZ nulL) := Z_wc.out.kept hg (fun e => by have := HLGN.out; have := HLGZ.out; have := Option.some.inj e; omega)
    have T_w41 : Hid (Av w41 (fun b => b ≠ GN) (.slice a9 X.1.text.length c9) X.1.text) := T_wc.out.stored hg (fun h => h rfl)
    have Q_w41 : Hid (AvR w41 (fun b => b ≠ GN) vs9 X.1.regs) := Q_wc.out.stored hg (fun h => h rfl)
    clear A_wc C_wc Z_wc N_wc T_wc Q_wc HB_wc
    have N_w41 : Hid (BoxC w41 43 GN (resL (.slice a9 X.1.text.length c9) X.1.loc vs9 v g X.1.mode (.slice none 0 0))) := hz
    clear hz hg
    clear cA0 cC0 cC1 cC2 cC3 cC4
    have cA0 : w41.cell? ⟨w.heap.size, 0, none⟩ = some (.slice a zs.length cap) := (A_w41.out.cell 0).trans rfl
    go_wp2_with ((refine loadC rfl 43 _ rfl GN rfl (resL (.slice a9 X.1.text.length c9) X.1.loc vs9 v g X.1.mode (.slice none 0 0)) N_w41.out (by rw [resL_len hv9]; exact wide_res) ?_))
    refine (ofItsOwn_go a9 c9 vs9 { X.1 with fk := v, fa := g } _ T_w41.out.1 Q_w41.out.1 (.slice a zs.length cap) zs (HZ.out _ HB_w41.out) HXl.out HZl.out).mono ?_
    rintro q w50 ⟨hb, x50, rfl, a5, c5, v5, ev, m1, m2, rfl, hm1, hm2, ht5, hr5, he5⟩
    clear cA0
    have HLB : Hid (w.heap.size ≤ w41.heap.size ∧ GZ < w41.heap.size) := ⟨HB_w41.out.size, Z_w41.out.lt⟩
    generalize w41.heap.size = B5 at hm1 ht5 hr5 he5 HLB
    have HMM : Hid (B5 ≤ m1 ∧ m1 ≤ m2) := ⟨hm1, hm2⟩
    clear hm1 hm2
    have hv5 : v5.length = 27 := hr5.len
    have HS5 : Hid (AllSl v5) := hr5.1.1
    have HE5 : Hid (ev.oneCell' = true ∧ ∀ xs, ev ≠ .agg xs) := he5.owns.one
    clear T_w41
    clear Q_w41
    have HB_w50 : Hid (Below w.heap.size w w50) := below_trans HB_w41.out hb HB_w41.out.size
    have A_w50 : Hid (BoxC w50 24 w.heap.size [.slice a zs.length cap, .int .i64 k]) := A_w41.out.below hb
    have C_w50 : Hid (BoxC w50 38 GC [.int .i64 c, .int .i64 r, .int .i64 o, .int .i64 v, .int .i64 g]) := C_w41.out.below hb
    have Z_w50 : Hid (BoxC w50 43 GZ nulL) := Z_w41.out.below hb
    have N_w50 : Hid (BoxC w50 43 GN (resL (.slice a9 X.1.text.length c9) X.1.loc vs9 v g X.1.mode (.slice none 0 0))) := N_w41.out.below hb
    clear A_w41 C_w41 Z_w41 N_w41 HB_w41
    clear hb
    have T_w50 : Hid (AvT w50 (fun b => m1 ≤ b ∧ b < m2) (.slice a5 X.1.text.length c5) X.1.text) := ht5
    have Q_w50 : Hid (AvR w50 (fun b => m2 ≤ b) v5 X.1.regs) := hr5
    have E_w50 : Hid (AvE w50 (fun b => B5 ≤ b ∧ b < m1) ev (ups (btw zs X.1.text))) := he5
    clear ht5 hr5 he5
    go_wp2_with (refine storeC rfl 43 _ _ rfl GZ rfl nulL (resL (.slice a5 X.1.text.length c5) X.1.loc v5 v g X.1.mode ev) rfl Z_w50.out (by rw [resL_len hv5]; exact wide_res) (resL_one HS5.out rfl HE5.out.1) (by rw [nul_len, resL_len hv5]) ?_)
    intro w51 hz hg
    have HB_w51 : Hid (Below w.heap.size w w51) := HB_w50.out.grown hg HB_w50.out.size (fun j hj => by cases hj; exact (by have := HLGZ.out; omega))
    have A_w51 : Hid (BoxC w51 24 w.heap.size [.slice a zs.length cap, .int .i64 k]) := A_w50.out.kept hg (fun e => by have := HLGZ.out; have := Option.some.inj e; omega)
    have C_w51 : Hid (BoxC w51 38 GC [.int .i64 c, .int .i64 r, .int .i64 o, .int .i64 v, .int .i64 g]) := C_w50.out.kept hg (fun e => by have := HLGZ.out; have := HLGC.out; have := Option.some.inj e; omega)
    have N_w51 : Hid (BoxC w51 43 GN (resL (.slice a9 X.1.text.length c9) X.1.loc vs9 v g X.1.mode (.slice none 0 0))) := N_w50.out.kept hg (fun e => by have := HLGZ.out; have := HLGN.out; have := Option.some.inj e; omega)
    have T_w51 : Hid (AvT w51 (fun b => m1 ≤ b ∧ b < m2) (.slice a5 X.1.text.length c5) X.1.text) := T_w50.out.stored hg (by have := HLB.out; have := HMM.out; show ¬ (m1 ≤ GZ ∧ GZ < m2); omega)
    have Q_w51 : Hid (AvR w51 (fun b => m2 ≤ b) v5 X.1.regs) := Q_w50.out.stored hg (by have := HLB.out; have := HMM.out; show ¬ m2 ≤ GZ; omega)
    have E_w51 : Hid (AvE w51 (fun b => B5 ≤ b ∧ b < m1) ev (ups (btw zs X.1.text))) := E_w50.out.stored hg (by have := HLB.out; show ¬ (B5 ≤ GZ ∧ GZ < m1); omega)
    clear A_w50 C_w50 Z_w50 N_w50 T_w50 Q_w50 E_w50 HB_w50
    have Z_w51 : Hid (BoxC w51 43 GZ (resL (.slice a5 X.1.text.length c5) X.1.loc v5 v g X.1.mode ev)) := hz
    clear hz hg
    go_wp2_with (fail)
    (try simp only [Exit.inBlock, Exit.then])
    refine bodyPost_ret (ret_box rfl _ _ GZ (resL (.slice a5 X.1.text.length c5) X.1.loc v5 v g X.1.mode ev) _ rfl rfl Z_w51.out (by rw [resL_len hv5]; exact wide_res)) rfl ?_
    refine ⟨HB_w51.out, _, rfl, ?_⟩
    show OwnRes _ _ _ _ (if (0 : Int) = 0 then _ else _)
    rw [if_pos rfl]
    exact ⟨a5, c5, v5, ev, m1, m2, rfl, Nat.le_trans HLB.out.1 HMM.out.1, HMM.out.2, T_w51.out, Q_w51.out, E_w51.out.weak (fun b hb => ⟨Nat.le_trans HLB.out.1 hb.1, hb.2⟩)⟩
end Go.Proofs.Ytpgjaoemkadenab.Seek
