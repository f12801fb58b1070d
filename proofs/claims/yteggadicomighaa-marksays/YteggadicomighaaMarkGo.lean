/- The contracts of mark.isName, isSet, Set and Get. -/
import Derived.Test.YteggadicomighaaArrays
import Derived.Laws.ResultCell
set_option linter.unusedVariables false
set_option linter.unusedSimpArgs false
namespace Go.Proofs.Yteggadicomighaa.Seek
open Go.RowKit Plain

theorem isName_in (i : Nat) (w : World) (hi : i < 26) : Calls Try.prog 20 #[.int .i64 (97 + (i : Int))] w fun e w' => e = .returned (.bool true) ∧ w' = w := by
  have h1 : 97 + (i : Int) ≥ 97 := by omega
  have h2 : 97 + (i : Int) ≤ 122 := by omega
  go_enter Try.func20, Try.ntmps20
  go_wp2_with fail
  all_goals first
    | (exfalso; omega)
    | (go_ret; exact ⟨by first | rfl | (simp; omega), rfl⟩)
theorem isName_out (name : Int) (w : World) (h : name < 97 ∨ 122 < name) : Calls Try.prog 20 #[.int .i64 name] w fun e w' => e = .returned (.bool false) ∧ w' = w := by
  rcases h with h | h
  · go_enter Try.func20, Try.ntmps20
    go_wp2_with fail
    all_goals first
      | (exfalso; omega)
      | (go_ret; exact ⟨by first | rfl | (simp; omega), rfl⟩)
  · have h1 : name ≥ 97 := by omega
    go_enter Try.func20, Try.ntmps20
    go_wp2_with fail
    all_goals first
      | (exfalso; omega)
      | (go_ret; exact ⟨by first | rfl | (simp; omega), rfl⟩)
theorem isSet_in (x : Int) (n : Nat) (w : World) (hn : n ≤ 4096) (h1 : 1 ≤ x) (h2 : x ≤ (n : Int) + 1) : Calls Try.prog 21 #[.int .i64 x, .int .i64 (n : Int)] w fun e w' => e = .returned (.bool true) ∧ w' = w := by
  go_enter Try.func21, Try.ntmps21
  go_wp2_with fail
  all_goals first
    | (exfalso; omega)
    | (go_ret; exact ⟨by first | rfl | (simp; omega), rfl⟩)
theorem isSet_out (x : Int) (n : Nat) (w : World) (hn : n ≤ 4096) (h : x < 1 ∨ (n : Int) + 1 < x) : Calls Try.prog 21 #[.int .i64 x, .int .i64 (n : Int)] w fun e w' => e = .returned (.bool false) ∧ w' = w := by
  rcases h with h | h
  · go_enter Try.func21, Try.ntmps21
    go_wp2_with fail
    all_goals first
      | (exfalso; omega)
      | (go_ret; exact ⟨by first | rfl | (simp; omega), rfl⟩)
  · have h1 : 1 ≤ x := by omega
    go_enter Try.func21, Try.ntmps21
    go_wp2_with fail
    all_goals first
      | (exfalso; omega)
      | (go_ret; exact ⟨by first | rfl | (simp; omega), rfl⟩)

theorem get_key (ms : List Int) (name : Int) (w : World) (hl : ms.length = 26) (h : name < 97 ∨ 122 < name) :
    Calls Try.prog 9 #[arr ms, .int .i64 name] w fun e w' => e = .returned (.tuple #[.int .i64 0, .int .i64 9]) ∧ Below w.heap.size w w' := by
  have H : Hid (name < 97 ∨ 122 < name) := h
  clear h
  go_enter Try.func9, Try.ntmps9
  go_wp2_with (refine box24 rfl _ rfl ms rfl hl ?_)
  intro w1 ha hb
  have HB : Hid (Below w.heap.size w w1) := hb
  clear hb
  go_wp2_with fail
  refine (isName_out name _ H.out).mono ?_
  rintro e w2 ⟨rfl, hw2⟩
  rw [hw2]
  clear hw2 w2
  go_wp2_with fail
  go_ret2
  exact ⟨rfl, HB.out⟩
theorem get_ok (ms : List Int) (i : Nat) (w : World) (hl : ms.length = 26) (hi : i < 26) (x : Int) (hx : ms.getD i 0 = x) (h1 : 1 ≤ x) (h2 : x ≤ 4097) :
    Calls Try.prog 9 #[arr ms, .int .i64 (97 + (i : Int))] w fun e w' => e = .returned (.tuple #[.int .i64 (x - 1), .int .i64 0]) ∧ Below w.heap.size w w' := by
  have hsub : (97 + (i : Int)) - 97 = (i : Int) := by omega
  have hiI : (i : Int) < 26 := by omega
  have HX : Hid (ms.getD i 0 = x) := hx
  clear hx
  go_enter Try.func9, Try.ntmps9
  go_wp2_with (refine box24 rfl _ rfl ms rfl hl ?_)
  intro w1 ha hb
  have HB : Hid (Below w.heap.size w w1) := hb
  have hc := ha.cell i hi
  rw [HX.out] at hc
  clear hb ha
  go_wp2_with fail
  refine (isName_in i _ hi).mono ?_
  rintro e w2 ⟨rfl, hw2⟩
  rw [hw2]
  clear hw2 w2
  go_wp2_with fail
  refine (isSet_in x 4096 _ (by decide) h1 (by omega)).mono ?_
  rintro e w2 ⟨rfl, hw2⟩
  rw [hw2]
  clear hw2 w2
  go_wp2_with fail
  go_ret2
  exact ⟨rfl, HB.out⟩
theorem get_none (ms : List Int) (i : Nat) (w : World) (hl : ms.length = 26) (hi : i < 26) (x : Int) (hx : ms.getD i 0 = x) (h : x < 1 ∨ 4097 < x) :
    Calls Try.prog 9 #[arr ms, .int .i64 (97 + (i : Int))] w fun e w' => e = .returned (.tuple #[.int .i64 0, .int .i64 6]) ∧ Below w.heap.size w w' := by
  have hsub : (97 + (i : Int)) - 97 = (i : Int) := by omega
  have hiI : (i : Int) < 26 := by omega
  have HX : Hid (ms.getD i 0 = x) := hx
  clear hx
  go_enter Try.func9, Try.ntmps9
  go_wp2_with (refine box24 rfl _ rfl ms rfl hl ?_)
  intro w1 ha hb
  have HB : Hid (Below w.heap.size w w1) := hb
  have hc := ha.cell i hi
  rw [HX.out] at hc
  clear hb ha
  go_wp2_with fail
  refine (isName_in i _ hi).mono ?_
  rintro e w2 ⟨rfl, hw2⟩
  rw [hw2]
  clear hw2 w2
  go_wp2_with fail
  refine (isSet_out x 4096 _ (by decide) (by omega)).mono ?_
  rintro e w2 ⟨rfl, hw2⟩
  rw [hw2]
  clear hw2 w2
  go_wp2_with fail
  go_ret2
  exact ⟨rfl, HB.out⟩
/-- How a call ends whose results are an array's variable and a number. -/
theorem ret_arr {fn : Func} {p u : Tmp} (h : fn.results = #[.cell p 24, .tmp u]) (tmps : Array Value) (w : World) (g : Nat) (ms : List Int) (v : Value) (hp : tmps.getD p undef = .pointer (some ⟨g, 0, none⟩)) (hv : tmps.getD u undef = v) (hg : HoldsA w g ms) :
    (results fn tmps).run Try.prog w = .ok (.tuple #[arr ms, v]) w := by
  rw [results_cell_tmp h, hp, hv]
  have := run_loadVar_row (P := Try.prog) w g 24 24 _ (0, 0) _ hg.2 Try.underlying24 rfl (size24 ms hg.1)
  simp only [asAddr, Sem.run_pure, Result.andThen_ok, this]
  rfl
theorem zeros_len : zeros.length = 26 := by decide
set_option maxHeartbeats 1000000 in
theorem set_key (ms : List Int) (name : Int) (k : Int) (w : World) (hl : ms.length = 26) (h : name < 97 ∨ 122 < name) :
    Calls Try.prog 8 #[arr ms, .int .i64 name, .int .i64 k] w fun e w' => e = .returned (.tuple #[arr zeros, .int .i64 9]) ∧ Below w.heap.size w w' := by
  have H : Hid (name < 97 ∨ 122 < name) := h
  clear h
  go_enter Try.func8, Try.ntmps8
  go_wp2_with (refine box24 rfl _ rfl ms rfl hl ?_)
  intro w1 ha hb
  have HB1 : Hid (Below w.heap.size w w1) := hb
  have HA1 : Hid (HoldsA w1 w.heap.size ms) := ha
  clear ha hb
  go_wp2_with (refine alloc24 rfl rfl ?_)
  intro w2 ha hb
  have HB2 : Hid (Below w.heap.size w w2) := below_trans HB1.out hb HB1.out.size
  have HM2 : Hid (HoldsA w2 w.heap.size ms) := HA1.out.below hb
  have HZ2 : Hid (HoldsA w2 w1.heap.size zeros) := ha
  have HN : Hid (w.heap.size < w1.heap.size) := HA1.out.lt
  clear ha hb HB1 HA1
  generalize w1.heap.size = B6 at *
  go_wp2_with fail
  refine (isName_out name _ H.out).mono ?_
  rintro e w3 ⟨rfl, hw3⟩
  rw [hw3]
  clear hw3 w3
  go_wp2_with (first | (refine build24 rfl rfl ?_) | (refine store24 rfl _ _ rfl B6 rfl zeros zeros rfl HZ2.out zeros_len ?_))
  intro w4 hz hg
  have HB4 : Hid (Below w.heap.size w w4) := HB2.out.grown hg HB2.out.size (fun j hj => by have := HN.out; cases hj; omega)
  have HZ4 : Hid (HoldsA w4 B6 zeros) := hz
  clear hz hg HB2 HM2 HZ2
  go_wp2_with fail
  (try simp only [Exit.inBlock, Exit.then])
  refine bodyPost_ret (ret_arr rfl _ _ B6 zeros _ rfl rfl HZ4.out) rfl ?_
  exact ⟨rfl, HB4.out⟩
set_option maxHeartbeats 1000000 in
theorem set_arg (ms : List Int) (i : Nat) (k : Int) (w : World) (hl : ms.length = 26) (hi : i < 26) (h : k < 0 ∨ 4096 < k) :
    Calls Try.prog 8 #[arr ms, .int .i64 (97 + (i : Int)), .int .i64 k] w fun e w' => e = .returned (.tuple #[arr zeros, .int .i64 1]) ∧ Below w.heap.size w w' := by
  rcases h with h | h
  all_goals (
    go_enter Try.func8, Try.ntmps8
    go_wp2_with (refine box24 rfl _ rfl ms rfl hl ?_)
    intro w1 ha hb
    have HB1 : Hid (Below w.heap.size w w1) := hb
    have HA1 : Hid (HoldsA w1 w.heap.size ms) := ha
    clear ha hb
    go_wp2_with (refine alloc24 rfl rfl ?_)
    intro w2 ha hb
    have HB2 : Hid (Below w.heap.size w w2) := below_trans HB1.out hb HB1.out.size
    have HM2 : Hid (HoldsA w2 w.heap.size ms) := HA1.out.below hb
    have HZ2 : Hid (HoldsA w2 w1.heap.size zeros) := ha
    have HN : Hid (w.heap.size < w1.heap.size) := HA1.out.lt
    clear ha hb HB1 HA1
    generalize w1.heap.size = B6 at *
    go_wp2_with fail
    refine (isName_in i _ hi).mono ?_
    rintro e w3 ⟨rfl, hw3⟩
    rw [hw3]
    clear hw3 w3
    go_wp2_with (first | (refine build24 rfl rfl ?_) | (refine store24 rfl _ _ rfl B6 rfl zeros zeros rfl HZ2.out zeros_len ?_))
    intro w4 hz hg
    have HB4 : Hid (Below w.heap.size w w4) := HB2.out.grown hg HB2.out.size (fun j hj => by have := HN.out; cases hj; omega)
    have HZ4 : Hid (HoldsA w4 B6 zeros) := hz
    clear hz hg HB2 HM2 HZ2
    go_wp2_with fail
    (try simp only [Exit.inBlock, Exit.then])
    refine bodyPost_ret (ret_arr rfl _ _ B6 zeros _ rfl rfl HZ4.out) rfl ?_
    exact ⟨rfl, HB4.out⟩)
set_option maxHeartbeats 1000000 in
theorem set_ok (ms : List Int) (i : Nat) (k : Int) (w : World) (hl : ms.length = 26) (hi : i < 26) (h1 : 0 ≤ k) (h2 : k ≤ 4096) :
    Calls Try.prog 8 #[arr ms, .int .i64 (97 + (i : Int)), .int .i64 k] w fun e w' => e = .returned (.tuple #[arr (ms.set i (k + 1)), .int .i64 0]) ∧ Below w.heap.size w w' := by
  have hsub : (97 + (i : Int)) - 97 = (i : Int) := by omega
  have hiI : (i : Int) < 26 := by omega
  have HSL : Hid ((ms.set i (k + 1)).length = 26) := by show _ = _; rw [List.length_set]; exact hl
  go_enter Try.func8, Try.ntmps8
  go_wp2_with (refine box24 rfl _ rfl ms rfl hl ?_)
  intro w1 ha hb
  have HB1 : Hid (Below w.heap.size w w1) := hb
  have HA1 : Hid (HoldsA w1 w.heap.size ms) := ha
  clear ha hb
  go_wp2_with (refine alloc24 rfl rfl ?_)
  intro w2 ha hb
  have HB2 : Hid (Below w.heap.size w w2) := below_trans HB1.out hb HB1.out.size
  have HM2 : Hid (HoldsA w2 w.heap.size ms) := HA1.out.below hb
  have HZ2 : Hid (HoldsA w2 w1.heap.size zeros) := ha
  have HN : Hid (w.heap.size < w1.heap.size) := HA1.out.lt
  clear ha hb HB1 HA1
  generalize w1.heap.size = B6 at *
  go_wp2_with fail
  refine (isName_in i _ hi).mono ?_
  rintro e w3 ⟨rfl, hw3⟩
  rw [hw3]
  clear hw3 w3
  go_wp2_with (refine store3 rfl _ _ rfl w.heap.size i rfl (k + 1) rfl ms HM2.out hi ?_)
  intro w4 hz hg
  have HB4 : Hid (Below w.heap.size w w4) := HB2.out.grown hg HB2.out.size (fun j hj => by cases hj; exact Nat.le_refl _)
  have HM4 : Hid (HoldsA w4 w.heap.size (ms.set i (k + 1))) := hz
  have HZ4 : Hid (HoldsA w4 B6 zeros) := HZ2.out.kept hg (fun e => by have := HN.out; have := Option.some.inj e; omega)
  clear hz hg HB2 HM2 HZ2
  go_wp2_with (first | (refine load24 rfl _ rfl w.heap.size rfl (ms.set i (k + 1)) HM4.out ?_) | (refine store24 rfl _ _ rfl B6 rfl (ms.set i (k + 1)) zeros rfl HZ4.out HSL.out ?_))
  intro w5 hz hg
  have HB5 : Hid (Below w.heap.size w w5) := HB4.out.grown hg HB4.out.size (fun j hj => by have := HN.out; cases hj; omega)
  have HZ5 : Hid (HoldsA w5 B6 (ms.set i (k + 1))) := hz
  clear hz hg HB4 HM4 HZ4
  go_wp2_with fail
  (try simp only [Exit.inBlock, Exit.then])
  refine bodyPost_ret (ret_arr rfl _ _ B6 (ms.set i (k + 1)) _ rfl rfl HZ5.out) rfl ?_
  exact ⟨rfl, HB5.out⟩
end Go.Proofs.Yteggadicomighaa.Seek
