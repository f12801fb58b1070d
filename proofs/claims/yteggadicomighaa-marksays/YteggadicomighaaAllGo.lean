/- The contract of mark.Moved. -/
import Derived.Test.YteggadicomighaaMarkGo
import Derived.Test.YteggadicomighaaMoveGo
set_option linter.unusedVariables false
set_option linter.unusedSimpArgs false
namespace Go.Proofs.Yteggadicomighaa.Seek
open Go.RowKit Plain

/-- One mark, moved. -/
def mvOne (n : Nat) (ns : List Nsp) (x : Int) : Int := if 1 ≤ x ∧ x ≤ (n : Int) + 1 then mvd ns (x - 1).toNat false + 1 else 0
def mvAll (n : Nat) (ns : List Nsp) (ms : List Int) : List Int := ms.map (mvOne n ns)
theorem mvAll_len (n : Nat) (ns : List Nsp) (ms : List Int) : (mvAll n ns ms).length = ms.length := List.length_map ..
theorem mvAll_at (n : Nat) (ns : List Nsp) (ms : List Int) (i : Nat) (h : i < ms.length) : (mvAll n ns ms).getD i 0 = mvOne n ns (ms.getD i 0) := by
  unfold mvAll
  simp [List.getD_eq_getElem?_getD, h]
/-- The first i marks moved. -/
def done (L : List Int) (i : Nat) : List Int := L.take i ++ List.replicate (26 - i) 0
theorem done_zero (L : List Int) : done L 0 = zeros := rfl
theorem done_all (L : List Int) (h : L.length = 26) : done L 26 = L := by
  unfold done
  rw [List.take_of_length_le (by omega)]
  exact List.append_nil _
theorem done_len (L : List Int) (h : L.length = 26) (i : Nat) (hi : i ≤ 26) : (done L i).length = 26 := by
  unfold done
  rw [List.length_append, List.length_take, List.length_replicate]
  omega
theorem done_step (L : List Int) (h : L.length = 26) (i : Nat) (hi : i < 26) : (done L i).set i (L.getD i 0) = done L (i + 1) := by
  have ht : (L.take i).length = i := by rw [List.length_take]; omega
  unfold done
  rw [List.set_append_right _ _ (by omega), ht, Nat.sub_self, show 26 - i = (26 - (i + 1)) + 1 by omega, List.replicate_succ, List.set_cons_zero, List.take_add_one, List.getElem?_eq_getElem (by omega), List.append_assoc]
  congr 2
  rw [List.getD_eq_getElem?_getD, List.getElem?_eq_getElem (by omega)]
  rfl
theorem done_same (L : List Int) (h : L.length = 26) (i : Nat) (hi : i < 26) (h0 : L.getD i 0 = 0) : done L i = done L (i + 1) := by
  unfold done
  rw [show 26 - i = (26 - (i + 1)) + 1 by omega, List.replicate_succ, List.take_add_one, List.getElem?_eq_getElem (by omega), List.append_assoc]
  congr 1
  rw [List.getD_eq_getElem?_getD, List.getElem?_eq_getElem (show i < L.length by omega)] at h0
  simp only [Option.getD_some] at h0
  rw [h0]
  rfl

set_option maxHeartbeats 2000000 in
theorem all_err (n : Int) (v : Value) (es : List Spl) (ms : List Int) (w : World) (h2 : ReadsE w v es) (hl : ms.length = 26) (hc : chk n es ≠ 0) :
    Calls Try.prog 10 #[.int .i64 n, v, arr ms] w fun e w' => e = .returned (.tuple #[arr zeros, .int .i64 (chk n es)]) ∧ Below w.heap.size w w' := by
  obtain ⟨c, hC⟩ : ∃ c, c = chk n es := ⟨_, rfl⟩
  rw [← hC] at hc ⊢
  have HC : Hid (c = chk n es) := hC
  have H2 : Hid (ReadsE w v es) := h2
  have hcb : (c != 0) = true := by simpa using hc
  clear h2 hC hc
  go_enter Try.func10, Try.ntmps10
  go_wp2_with (refine box24 rfl _ rfl ms rfl hl ?_)
  intro w1 ha hb
  have HB1 : Hid (Below w.heap.size w w1) := hb
  have HA1 : Hid (HoldsA w1 w.heap.size ms) := ha
  clear ha hb
  go_wp2_with (refine alloc24 rfl rfl ?_)
  intro w2 ha hb
  have HB2 : Hid (Below w.heap.size w w2) := below_trans HB1.out hb HB1.out.size
  have HZ2 : Hid (HoldsA w2 w1.heap.size zeros) := ha
  have HN : Hid (w.heap.size < w1.heap.size) := HA1.out.lt
  have H22 : Hid (ReadsE w2 v es) := H2.out.below HB2.out
  clear ha hb HB1 HA1 H2
  generalize w1.heap.size = B6 at *
  go_wp2_with fail
  refine (check_any _ _ es w2 H22.out).mono ?_
  rw [← HC.out]
  rintro e w3 ⟨rfl, hb⟩
  have HB3 : Hid (Below w.heap.size w w3) := below_trans HB2.out hb HB2.out.size
  have HZ3 : Hid (HoldsA w3 B6 zeros) := HZ2.out.below hb
  clear hb HB2 HZ2 H22
  go_wp2_with (first | (refine build24 rfl rfl ?_) | (refine store24 rfl _ _ rfl B6 rfl zeros zeros rfl HZ3.out zeros_len ?_))
  intro w4 hz hg
  have HB4 : Hid (Below w.heap.size w w4) := HB3.out.grown hg HB3.out.size (fun j hj => by have := HN.out; cases hj; omega)
  have HZ4 : Hid (HoldsA w4 B6 zeros) := hz
  clear hz hg HB3 HZ3
  go_wp2_with fail
  (try simp only [Exit.inBlock, Exit.then])
  refine bodyPost_ret (ret_arr rfl _ _ B6 zeros _ rfl rfl HZ4.out) rfl ?_
  exact ⟨rfl, HB4.out⟩

set_option maxHeartbeats 4000000 in
theorem all_ok (v : Value) (ns : List Nsp) (n : Nat) (ms : List Int) (w : World) (h2 : ReadsE w v (ups ns)) (hl : ms.length = 26) (hF : Fits n ns) :
    Calls Try.prog 10 #[.int .i64 (n : Int), v, arr ms] w fun e w' => e = .returned (.tuple #[arr (mvAll n ns ms), .int .i64 0]) ∧ Below w.heap.size w w' := by
  have HC : Hid (chk (n : Int) (ups ns) = 0) := hF.chk
  have H2 : Hid (∀ wx, Below w.heap.size w wx → ReadsE wx v (ups ns)) := fun wx h => h2.below h
  have HF : Hid (Fits n ns) := hF
  have hn := hF.1
  obtain ⟨L, hL⟩ : ∃ L, L = mvAll n ns ms := ⟨_, rfl⟩
  have HLL : Hid (L.length = 26) := by rw [hL, mvAll_len]; exact hl
  have HLA : Hid (∀ i, i < 26 → L.getD i 0 = mvOne n ns (ms.getD i 0)) := fun i hi => by rw [hL]; exact mvAll_at n ns ms i (by omega)
  rw [← hL]
  clear h2 hL hF
  go_enter Try.func10, Try.ntmps10
  go_wp2_with (refine box24 rfl _ rfl ms rfl hl ?_)
  intro w1 ha hb
  have HB1 : Hid (Below w.heap.size w w1) := hb
  have HA1 : Hid (HoldsA w1 w.heap.size ms) := ha
  clear ha hb
  go_wp2_with (refine alloc24 rfl rfl ?_)
  intro w2 ha hb
  have HB2 : Hid (Below w.heap.size w w2) := below_trans HB1.out hb HB1.out.size
  have HZ2 : Hid (HoldsA w2 w1.heap.size zeros) := ha
  have HN : Hid (w.heap.size < w1.heap.size) := HA1.out.lt
  have HM2 : Hid (HoldsA w2 w.heap.size ms) := HA1.out.below hb
  clear ha hb HB1 HA1
  generalize w1.heap.size = B6 at *
  go_wp2_with fail
  refine (check_any _ _ (ups ns) w2 (H2.out _ HB2.out)).mono ?_
  rw [HC.out]
  rintro e w3 ⟨rfl, hb⟩
  have HB3 : Hid (Below w.heap.size w w3) := below_trans HB2.out hb HB2.out.size
  have HZ3 : Hid (HoldsA w3 B6 zeros) := HZ2.out.below hb
  have HM3 : Hid (HoldsA w3 w.heap.size ms) := HM2.out.below hb
  clear hb HB2 HZ2 HM2
  go_wp2_with (refine alloc24 rfl rfl ?_)
  intro w4 ha hb
  have HB4 : Hid (Below w.heap.size w w4) := below_trans HB3.out hb HB3.out.size
  have HZ4 : Hid (HoldsA w4 B6 zeros) := HZ3.out.below hb
  have HM4 : Hid (HoldsA w4 w.heap.size ms) := HM3.out.below hb
  have HD4 : Hid (HoldsA w4 w3.heap.size (done L 0)) := ha
  have HN9 : Hid (B6 < w3.heap.size) := HZ3.out.lt
  clear ha hb HB3 HZ3 HM3
  generalize w3.heap.size = B9 at *
  clear HC
  go_wp2_with (refine load24 rfl _ rfl w.heap.size rfl ms HM4.out ?_)
  clear HM4
  go_loopw [20] (fun u20 wr => ∃ (i : Nat), u20 = .int .i64 (i : Int) ∧ i ≤ 26 ∧ Hid (HoldsA wr B6 zeros) ∧ Hid (HoldsA wr B9 (done L i)) ∧ Hid (Below w.heap.size w wr))
    (fun u20 _ => 26 - (intOf u20).toNat)
  case atStart => exact ⟨0, rfl, by omega, HZ4.out, HD4.out, HB4.out⟩
  case round =>
    obtain ⟨i, rfl, hi, Hz, Hd, Hb⟩ := hrel
    by_cases hlt : i < 26
    · have hiI : (i : Int) < 26 := by omega
      have HV := HLA.out i hlt
      obtain ⟨x, hx⟩ : ∃ x, x = ms.getD i 0 := ⟨_, rfl⟩
      have HX : Hid (ms.getD i 0 = x) := hx.symm
      rw [← hx] at HV
      clear hx
      by_cases hin : 1 ≤ x ∧ x ≤ (n : Int) + 1
      · have HV2 : Hid (L.getD i 0 = mvd ns (x - 1).toNat false + 1) := by
          show _ = _
          rw [HV]
          unfold mvOne
          rw [if_pos hin]
        clear HV
        obtain ⟨h1, h2⟩ := hin
        obtain ⟨k, hk⟩ : ∃ k : Nat, x - 1 = (k : Int) := ⟨(x - 1).toNat, by omega⟩
        rw [show (x - 1).toNat = k by omega] at HV2
        have hkn : k ≤ n := by omega
        have hrg := mvd_range HF.out k false
        obtain ⟨R, hR⟩ : ∃ R, R = mvd ns k false := ⟨_, rfl⟩
        have HR : Hid (mvd ns k false = R) := hR.symm
        rw [← hR] at hrg HV2
        clear hR
        obtain ⟨r1, r2⟩ := hrg
        go_wp2_with (refine index24 rfl _ _ rfl ms rfl i rfl hl hlt ?_; rw [HX.out])
        refine (isSet_in x n _ hn h1 h2).mono ?_
        rintro e w5 ⟨rfl, hw5⟩
        rw [hw5]
        clear hw5 w5
        go_wp2_with fail
        refine (moved_any v ns n k false wr (H2.out _ Hb.out) HF.out hkn).mono ?_
        rw [HR.out]
        rintro e w5 ⟨rfl, hb⟩
        have HB5 : Hid (Below w.heap.size w w5) := below_trans Hb.out hb Hb.out.size
        have HZ5 : Hid (HoldsA w5 B6 zeros) := Hz.out.below hb
        have HD5 : Hid (HoldsA w5 B9 (done L i)) := Hd.out.below hb
        clear hb Hb Hz Hd
        go_wp2_with (refine store3 rfl _ _ rfl B9 i rfl (R + 1) rfl (done L i) HD5.out hlt ?_)
        intro w6 hz hg
        have HB6 : Hid (Below w.heap.size w w6) := HB5.out.grown hg HB5.out.size (fun j hj => by have := HN.out; have := HN9.out; cases hj; omega)
        have HZ6 : Hid (HoldsA w6 B6 zeros) := HZ5.out.kept hg (fun e => by have := HN9.out; have := Option.some.inj e; omega)
        have HD6 : Hid (HoldsA w6 B9 (done L (i + 1))) := by
          rw [← done_step L HLL.out i hlt, HV2.out]
          exact hz
        clear hz hg HB5 HZ5 HD5
        go_wp2_with fail
        go_roundw
        case rel => exact ⟨i + 1, by go_num, by omega, HZ6.out, HD6.out, HB6.out⟩
        case measure => simp [intOf] <;> omega
      · have HV2 : Hid (L.getD i 0 = 0) := by
          show _ = _
          rw [HV]
          unfold mvOne
          rw [if_neg hin]
        clear HV
        have HD6 : Hid (HoldsA wr B9 (done L (i + 1))) := by
          rw [← done_same L HLL.out i hlt HV2.out]
          exact Hd.out
        have HIN : Hid (x < 1 ∨ (n : Int) + 1 < x) := by show _ ∨ _; omega
        clear hin
        go_wp2_with (refine index24 rfl _ _ rfl ms rfl i rfl hl hlt ?_; rw [HX.out])
        refine (isSet_out x n _ hn HIN.out).mono ?_
        rintro e w5 ⟨rfl, hw5⟩
        rw [hw5]
        clear hw5 w5
        go_wp2_with fail
        go_roundw
        case rel => exact ⟨i + 1, by go_num, by omega, Hz.out, HD6.out, Hb.out⟩
        case measure => simp [intOf] <;> omega
    · obtain rfl : i = 26 := by omega
      rw [done_all L HLL.out] at Hd
      go_wp2_with (first | (refine load24 rfl _ rfl B9 rfl L Hd.out ?_) | (refine store24 rfl _ _ rfl B6 rfl L zeros rfl Hz.out HLL.out ?_))
      intro w6 hz hg
      have HB6 : Hid (Below w.heap.size w w6) := Hb.out.grown hg Hb.out.size (fun j hj => by have := HN.out; cases hj; omega)
      have HZ6 : Hid (HoldsA w6 B6 L) := hz
      clear hz hg Hb Hz Hd
      go_wp2_with fail
      (try simp only [Exit.inBlock, Exit.then])
      refine bodyPost_ret (ret_arr rfl _ _ B6 L _ rfl rfl HZ6.out) rfl ?_
      exact ⟨rfl, HB6.out⟩
end Go.Proofs.Yteggadicomighaa.Seek
