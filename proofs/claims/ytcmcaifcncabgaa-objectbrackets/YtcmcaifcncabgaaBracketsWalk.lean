/- The walk of ObjectBrackets. -/
import Derived.Test.YtcmcaifcncabgaaInMath
import Derived.BigQuiet
import Derived.Deep.QuietTactic
set_option linter.unusedVariables false
set_option linter.unusedSimpArgs false
namespace Go.Proofs.Ytcmcaifcncabgaa.Seek
open Go.RowKit Plain
theorem thing_br : thing (codes ⟨#[40, 97, 40, 98, 41, 99, 41]⟩) 1 false 40 = (1, 6, 0) := by decide +kernel
def Drew (w w1 : World) : Prop := ∃ q, w1 = w.drewN q
theorem Drew.next {w w1 : World} (h : Drew w w1) (q : Nat) : Drew w (w1.drewN q) := by
  obtain ⟨q0, rfl⟩ := h
  exact ⟨q0 + q, by rw [World.drewN_drewN]⟩

set_option maxRecDepth 100000 in
set_option maxHeartbeats 8000000 in
theorem brackets_walk (v : Value) (zs : List Int) (k key : Int) (w : World) (hp : Reads w v zs) (hr : zs.length * 8 ≤ 140737488351232) :
    Calls Try.prog 5 #[v, .int .i64 k, .int .i64 key] w fun e w' => e = .returned (.bool true) ∧ Below w.heap.size w w' := by
  obtain ⟨a, cap, hv⟩ := hp.shape
  subst hv
  have Hp : Hid (Reads w (.slice a zs.length cap) zs) := hp
  clear hp hr
  go_enter Try.func5, Try.ntmps5
  go_wp2_with fail
  refine (of_any _ w (by decide)).mono ?_
  rintro e w1 ⟨hb1, u, rfl, hown⟩
  have HB1 : Hid (Below w.heap.size w w1) := hb1
  have Hu : Hid (Reads w1 u (codes ⟨#[40, 97, 40, 98, 41, 99, 41]⟩)) := owned_reads hown
  clear hown hb1
  go_wp2_with fail
  refine (thing_go u _ 1 false 40 w1 Hu.out).mono ?_
  rw [thing_br]
  rintro e w2 ⟨rfl, hb2⟩
  have HB2 : Hid (Below w.heap.size w w2) := below_trans HB1.out hb2 HB1.out.size
  clear hb2 Hu HB1
  go_wp2_with fail
  refine (brk_go key w2).mono ?_
  rintro e w3 ⟨rfl, hw3⟩
  rw [hw3]
  clear hw3 w3
  by_cases h0 : brk key = 0
  · rw [h0]
    clear h0
    generalize shuts key = t
    go_wp2_with fail
    go_ret
    exact ⟨rfl, HB2.out⟩
  have hcs := pair_cases zs k key h0
  have ho : (brk key == 0) = false := by simpa using h0
  clear h0
  generalize brk key = o at ho ⊢
  generalize shuts key = t
  have HT : Hid (Calls Try.prog 6 #[.slice a zs.length cap, .int .i64 k, .bool false, .int .i64 key] w2 fun e w' => ThingPost (thing zs k false key) w2 e w') := thing_go _ zs k false key w2 (Hp.out.below HB2.out)
  rcases hcs with ⟨e, he, h1⟩ | ⟨hn, j, p, z, rfl, h1, s1, s2, s3, s4, s5, s6, s7⟩
  · rw [h1] at HT
    have heb : (e != 0) = true := by simpa using he
    clear he h1
    go_wp2_with fail
    refine HT.out.mono ?_
    rintro e w3 ⟨rfl, hb3⟩
    have HB3 : Hid (Below w.heap.size w w3) := below_trans HB2.out hb3 HB2.out.size
    clear hb3
    go_wp2_with fail
    go_ret
    exact ⟨rfl, HB3.out⟩
  rw [h1] at HT
  clear h1
  go_wp2_with fail
  refine HT.out.mono ?_
  clear HT
  rintro e w3 ⟨rfl, hb3⟩
  have HB3 : Hid (Below w.heap.size w w3) := below_trans HB2.out hb3 HB2.out.size
  clear hb3 HB2
  have HP : Hid (Calls Try.prog 13 #[.slice a zs.length cap] w3 fun e w' => PairsPost zs w3 e w') := pairs_any _ zs w3 (Hp.out.below HB3.out) (by unfold maxLen; omega)
  have s8 : zs.length ≠ 0 := by omega
  have S5 : Hid (par (fn zs) zs.length p = (z : Int)) := s5
  have S6 : Hid (∀ i, p < i → i < z → zs.getD i 0 = zs.getD p 0 ∨ zs.getD i 0 = zs.getD z 0 → ((p : Int) < par (fn zs) zs.length i ∧ par (fn zs) zs.length i < (z : Int))) := s6
  have S7 : Hid (∀ i, p < i → i < z → zs.getD i 0 = zs.getD p 0 → ¬ (i ≤ j ∧ (j : Int) ≤ par (fn zs) zs.length i)) := s7
  clear s5 s6 s7
  go_wp2_with fail
  refine HP.out.mono ?_
  clear HP
  rintro e w4 ⟨hbel, ⟨hlarge, _⟩ | ⟨_, pv, rfl, hpv⟩⟩
  · exact absurd hlarge (by omega)
  rcases hpv with ⟨_, _, _, hz⟩ | ⟨pb, po, pc, rfl, hpc, hpm, hpb, hpcell⟩
  · exact absurd (congrArg List.length hz) (by rw [pairs_len]; intro h; exact s8 (by simpa using h))
  rw [pairs_len] at hpc hpcell ⊢
  have HB4 : Hid (Below w.heap.size w w4) := below_trans HB3.out hbel HB3.out.size
  rcases Hp.out.below HB4.out with ⟨_, _, _, hz⟩ | ⟨bl, off, cap', hv, hcap, hcm, hb, hc⟩
  · exact absurd (congrArg List.length hz) s8
  cases hv
  have HC : Hid (∀ wx, Drew w4 wx → (∀ i, i < zs.length → wx.cell? ⟨bl, off + i, none⟩ = some (.int .i64 (zs.getD i 0))) ∧ (∀ i, i < zs.length → wx.cell? ⟨pb, po + i, none⟩ = some (.int .i64 (par (fn zs) zs.length i))) ∧ Below w.heap.size w wx) := by
    rintro wx ⟨q, rfl⟩
    exact ⟨hc, fun i hi => (hpcell i hi).trans (by unfold pairs; rw [rowOf_get _ _ _ hi]), below_drewN HB4.out q⟩
  clear hbel HB3 HB4 hpcell hc hpm hpb hcm hb Hp s8 hpc hcap
  have hW : IntKind.i64.wrap ((p : Int) + 1 - 1) = (p : Int) := by rw [IntWalk.i64_in _ ⟨by omega, by omega⟩]; omega
  have i1 : (p : Int) < (zs.length : Int) := by omega
  have i2 : (z : Int) < (zs.length : Int) := by omega
  have i3 : (p : Int) ≤ (j : Int) := by omega
  have i4 : (j : Int) ≤ (z : Int) := by omega
  have i5 : (p : Int) < (z : Int) := by omega
  have hpp : w4.cell? ⟨pb, po + p, none⟩ = some (.int .i64 (z : Int)) := by
    rw [(HC.out w4 ⟨0, rfl⟩).2.1 p (by omega), S5.out]
  go_wp2_with fail
  clear hpp S5
  go_loopw [17] (fun u17 wr => ∃ m : Nat, u17 = .int .i64 (m : Int) ∧ p < m ∧ m ≤ z ∧ Hid (Drew w4 wr)) (fun u17 _ => z - (intOf u17).toNat)
  case atStart => exact ⟨p + 1, by go_num, by omega, by omega, 0, rfl⟩
  case round =>
    obtain ⟨m, rfl, hm1, hm2, HD⟩ := hrel
    by_cases hlt : m < z
    · have hI : (m : Int) < (z : Int) := by omega
      have hI2 : (m : Int) < (zs.length : Int) := by omega
      have hcm := (HC.out wr HD.out).1 m (by omega)
      have hcp := (HC.out wr HD.out).1 p (by omega)
      have hcz := (HC.out wr HD.out).1 z (by omega)
      have hpm := (HC.out wr HD.out).2.1 m (by omega)
      have t6 := S6.out m hm1 hlt
      have t7 := S7.out m hm1 hlt
      have HCX : Hid (∀ wx, Drew w4 wx → wx.cell? ⟨bl, off + m, none⟩ = some (.int .i64 (zs.getD m 0)) ∧ wx.cell? ⟨bl, off + p, none⟩ = some (.int .i64 (zs.getD p 0)) ∧ wx.cell? ⟨pb, po + m, none⟩ = some (.int .i64 (par (fn zs) zs.length m))) := fun wx hd => ⟨(HC.out wx hd).1 m (by omega), (HC.out wx hd).1 p (by omega), (HC.out wx hd).2.1 m (by omega)⟩
      generalize zs.getD m 0 = Y at *
      generalize zs.getD p 0 = O at *
      generalize zs.getD z 0 = S at *
      generalize par (fn zs) zs.length m = P at *
      have T6 : Hid (Y = O ∨ Y = S → (p : Int) < P ∧ P < (z : Int)) := t6
      have T7 : Hid (Y = O → ¬ (m ≤ j ∧ (j : Int) ≤ P)) := t7
      clear t6 t7
      cases hYO : Y == O with
      | true =>
        have hP := T6.out (.inl (by simpa using hYO))
        have q1 : decide (P < (p : Int) + 1) = false := decide_eq_false (by omega)
        have q2 : decide (P ≥ (z : Int)) = false := decide_eq_false (by omega)
        have T8 : Hid (¬ (m ≤ j ∧ (j : Int) ≤ P)) := T7.out (by simpa using hYO)
        clear hP T6 T7
        go_wp2_with fail
        go_quiet (fail)
        obtain ⟨wq, hwq⟩ : ∃ wq, wq = wr.drewN nq := ⟨_, rfl⟩
        rw [← hwq]
        have HD2 : Hid (Drew w4 wq) := by rw [hwq]; exact HD.out.next nq
        obtain ⟨k1, k2, k3⟩ := HCX.out wq HD2.out
        clear hwq nq hcm hcp hcz hpm
        by_cases hPm : P > (m : Int)
        · have q3 : decide (P > (m : Int)) = true := decide_eq_true hPm
          by_cases hmj : m ≤ j
          · have q4 : decide (m ≤ j) = true := decide_eq_true hmj
            have q5 : decide ((j : Int) ≤ P) = false := decide_eq_false (fun h => T8.out ⟨hmj, h⟩)
            clear T8 hPm hmj
            go_wp2_with fail
            go_quiet (fail)
            go_wp2_with fail
            go_roundw
            case rel => exact ⟨m + 1, by go_num, by omega, by omega, HD2.out.next nq⟩
            case measure => simp [intOf]; omega
          · have q4 : decide (m ≤ j) = false := decide_eq_false hmj
            clear T8 hPm hmj
            go_wp2_with fail
            go_quiet (fail)
            go_wp2_with fail
            go_roundw
            case rel => exact ⟨m + 1, by go_num, by omega, by omega, HD2.out.next nq⟩
            case measure => simp [intOf]; omega
        · have q3 : decide (P > (m : Int)) = false := decide_eq_false hPm
          clear T8 hPm
          go_wp2_with fail
          go_quiet (fail)
          go_wp2_with fail
          go_roundw
          case rel => exact ⟨m + 1, by go_num, by omega, by omega, HD2.out.next nq⟩
          case measure => simp [intOf]; omega
      | false =>
        clear T7
        cases hYS : Y == S with
        | true =>
          have hP := T6.out (.inr (by simpa using hYS))
          have q1 : decide (P < (p : Int) + 1) = false := decide_eq_false (by omega)
          have q2 : decide (P ≥ (z : Int)) = false := decide_eq_false (by omega)
          clear hP T6
          go_wp2_with fail
          go_quiet (fail)
          obtain ⟨wq, hwq⟩ : ∃ wq, wq = wr.drewN nq := ⟨_, rfl⟩
          rw [← hwq]
          have HD2 : Hid (Drew w4 wq) := by rw [hwq]; exact HD.out.next nq
          obtain ⟨k1, k2, k3⟩ := HCX.out wq HD2.out
          clear hwq nq hcm hcp hcz hpm
          by_cases hPm : P > (m : Int)
          · have q3 : decide (P > (m : Int)) = true := decide_eq_true hPm
            clear hPm
            go_wp2_with fail
            go_quiet (fail)
            go_wp2_with fail
            go_roundw
            case rel => exact ⟨m + 1, by go_num, by omega, by omega, HD2.out.next nq⟩
            case measure => simp [intOf]; omega
          · have q3 : decide (P > (m : Int)) = false := decide_eq_false hPm
            clear hPm
            go_wp2_with fail
            go_quiet (fail)
            go_wp2_with fail
            go_roundw
            case rel => exact ⟨m + 1, by go_num, by omega, by omega, HD2.out.next nq⟩
            case measure => simp [intOf]; omega
        | false =>
          clear T6
          go_wp2_with fail
          go_quiet (fail)
          obtain ⟨wq, hwq⟩ : ∃ wq, wq = wr.drewN nq := ⟨_, rfl⟩
          rw [← hwq]
          have HD2 : Hid (Drew w4 wq) := by rw [hwq]; exact HD.out.next nq
          obtain ⟨k1, k2, k3⟩ := HCX.out wq HD2.out
          clear hwq nq hcm hcp hcz hpm
          by_cases hPm : P > (m : Int)
          · have q3 : decide (P > (m : Int)) = true := decide_eq_true hPm
            clear hPm
            go_wp2_with fail
            go_quiet (fail)
            go_wp2_with fail
            go_roundw
            case rel => exact ⟨m + 1, by go_num, by omega, by omega, HD2.out.next nq⟩
            case measure => simp [intOf]; omega
          · have q3 : decide (P > (m : Int)) = false := decide_eq_false hPm
            clear hPm
            go_wp2_with fail
            go_quiet (fail)
            go_wp2_with fail
            go_roundw
            case rel => exact ⟨m + 1, by go_num, by omega, by omega, HD2.out.next nq⟩
            case measure => simp [intOf]; omega
    · obtain rfl : m = z := by omega
      have HBr : Hid (Below w.heap.size w wr) := (HC.out wr HD.out).2.2
      go_wp2_with fail
      go_ret
      exact ⟨rfl, HBr.out⟩
end Go.Proofs.Ytcmcaifcncabgaa.Seek
