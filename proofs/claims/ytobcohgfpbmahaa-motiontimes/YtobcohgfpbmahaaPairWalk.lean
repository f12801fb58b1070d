/- The walk of MotionPair. -/
import Derived.Test.YtobcohgfpbmahaaInWalk
set_option linter.unusedVariables false
set_option linter.unusedSimpArgs false
namespace Go.Proofs.Ytobcohgfpbmahaa.Plain
open Seek
theorem goes_err {zs : List Int} {k c key arg : Int} {op : Bool} {x z : Int} {y : Bool} (h : goes zs k c key arg op = (x, y, z)) (hz : z ≠ 0) : x = 0 ∧ y = false := by
  by_cases hm : mchk zs.length k c key = 0
  · unfold goes at h
    rw [if_pos hm] at h
    split at h
    · cases h
      exact absurd rfl hz
    · cases h
      exact ⟨rfl, rfl⟩
  · rw [goes_bad hm] at h
    cases h
    exact ⟨rfl, rfl⟩
theorem goes_pair {zs : List Int} {k x : Int} {y : Bool} (h : goes zs k 0 37 0 false = (x, y, 0)) :
    y = true ∧ ∃ m i j : Nat, k = (m : Int) ∧ x = (j : Int) ∧ m ≤ i ∧ i < zs.length ∧ j < zs.length ∧ zs.length ≤ 4096 ∧ brk (zs.getD j 0) = zs.getD i 0 ∧ goes zs (j : Int) 0 37 0 false = ((i : Int), true, 0) ∧ (∀ q, m ≤ q → q < i → brk (zs.getD q 0) = 0) := by
  by_cases hm : mchk zs.length k 0 37 = 0
  · obtain ⟨hl, ⟨m, rfl, hj⟩, _, _, _⟩ := mchk_zero hm
    by_cases hz : zs.length = 0
    · rw [goes_good hm, lead_none hz (by omega)] at h
      cases h
    · rw [goes_good hm, lead_line hz (by omega)] at h
      have h2 : (if (mate zs m).2 = true then ((mate zs m).1, true, (0 : Int)) else ((0 : Int), false, (5 : Int))) = (x, y, 0) := h
      by_cases h3 : (mate zs m).2 = true
      · rw [if_pos h3] at h2
        obtain ⟨i, j, g1, g2, g3, g4, g5, g6, g7, g8⟩ := mate_in h3
        rw [g4] at h2
        cases h2
        have hm2 : mchk zs.length (j : Int) 0 37 = 0 := mchk_right hl (by omega) (by omega) (by omega) (by decide)
        refine ⟨rfl, m, i, j, rfl, rfl, g1, g2, g3, hl, g6, ?_, g8⟩
        rw [goes_good hm2, lead_line hz (by omega)]
        show (if (mate zs j).2 = true then ((mate zs j).1, true, (0 : Int)) else ((0 : Int), false, (5 : Int))) = _
        rw [mate_of g3 g7 g5]
        rfl
      · rw [if_neg h3] at h2
        cases h2
  · rw [goes_bad hm] at h
    exact absurd (congrArg (fun q => q.2.2) h) hm
theorem goes_a : goes (codes ⟨#[40, 97, 41]⟩) 0 0 37 0 false = (2, true, 0) := by decide +kernel
end Go.Proofs.Ytobcohgfpbmahaa.Plain
namespace Go.Proofs.Ytobcohgfpbmahaa.Seek
open Go.RowKit Plain

theorem fun16_go (z : Int) (w : World) (h : brk z = 0) : Calls Try.prog 16 #[.int .i64 z] w fun e w' => e = .returned (.bool false) ∧ w' = w := by
  have H : Hid (brk z = 0) := h
  clear h
  go_enter Try.func16, Try.ntmps16
  go_wp2_with fail
  refine (brk_go z w).mono ?_
  rintro e w1 ⟨rfl, hw1⟩
  rw [hw1, H.out]
  clear hw1 w1
  go_wp2_with fail
  go_ret
  exact ⟨rfl, rfl⟩

set_option maxHeartbeats 1000000 in
theorem index_none (b off n cap : Nat) (f : Nat → Int) (w : World) (hn : n ≤ 4096) (hc : ∀ j, j < n → w.cell? ⟨b, off + j, none⟩ = some (.int .i64 (f j))) (hf : ∀ j, j < n → brk (f j) = 0) :
    Calls Try.prog 30 #[.slice (some ⟨b, off, none⟩) n cap, .func (.func 16) #[] #[]] w fun e w' => e = .returned (.int .i64 (-1)) ∧ w' = w := by
  have Hc : Hid (∀ j, j < n → w.cell? ⟨b, off + j, none⟩ = some (.int .i64 (f j))) := hc
  have Hf : Hid (∀ j, j < n → brk (f j) = 0) := hf
  clear hc hf
  go_enter Try.func30, Try.ntmps30
  go_wp2_with fail
  go_loop [8] (fun u8 => ∃ m : Nat, u8 = .int .i64 (m : Int) ∧ m ≤ n) (fun u8 => n - (intOf u8).toNat)
  case atStart => exact ⟨0, rfl, by omega⟩
  case round =>
    obtain ⟨m, rfl, hm⟩ := hrel
    by_cases hlt : m < n
    · have hI : (m : Int) < (n : Int) := by omega
      have hcx := Hc.out m hlt
      have Hz : Hid (brk (f m) = 0) := Hf.out m hlt
      generalize f m = z at *
      go_wp2_with fail
      refine (fun16_go z w Hz.out).mono ?_
      rintro e w1 ⟨rfl, hw1⟩
      rw [hw1]
      clear hw1 w1
      go_wp2_with fail
      go_round
      case rel => exact ⟨m + 1, by go_num, by omega⟩
      case measure => simp [intOf]; omega
    · have hI : (n : Int) ≤ (m : Int) := by omega
      go_wp2_with fail
      all_goals (
        go_ret
        exact ⟨rfl, rfl⟩)

theorem contains_none (b off n cap : Nat) (f : Nat → Int) (w : World) (hn : n ≤ 4096) (hc : ∀ j, j < n → w.cell? ⟨b, off + j, none⟩ = some (.int .i64 (f j))) (hf : ∀ j, j < n → brk (f j) = 0) :
    Calls Try.prog 15 #[.slice (some ⟨b, off, none⟩) n cap, .func (.func 16) #[] #[]] w fun e w' => e = .returned (.bool false) ∧ w' = w := by
  have H : Hid (Calls Try.prog 30 #[.slice (some ⟨b, off, none⟩) n cap, .func (.func 16) #[] #[]] w fun e w' => e = .returned (.int .i64 (-1)) ∧ w' = w) := index_none b off n cap f w hn hc hf
  clear hc hf
  go_enter Try.func15, Try.ntmps15
  go_wp2_with fail
  refine H.out.mono ?_
  rintro e w1 ⟨rfl, hw1⟩
  rw [hw1]
  clear hw1 w1
  go_wp2_with fail
  go_ret
  exact ⟨rfl, rfl⟩

set_option maxHeartbeats 2000000 in
theorem pair_walk (v : Value) (zs : List Int) (k : Int) (w : World) (hp : Reads w v zs) (hr : zs.length * 8 ≤ 140737488351232) :
    Calls Try.prog 6 #[v, .int .i64 k] w fun e w' => e = .returned (.bool true) ∧ Below w.heap.size w w' := by
  obtain ⟨a, cap, rfl⟩ := hp.shape
  have Hp : Hid (Reads w (.slice a zs.length cap) zs) := hp
  clear hp hr
  go_enter Try.func6, Try.ntmps6
  go_wp2_with fail
  refine (of_any _ _ (by decide)).mono ?_
  rintro e w1 ⟨hb1, u, rfl, hown⟩
  have Hu : Hid (Reads w1 u (codes ⟨#[40, 97, 41]⟩)) := owned_reads hown
  clear hown
  go_wp2_with fail
  refine (go_go u _ 0 0 37 0 false w1 Hu.out).mono ?_
  rw [goes_a]
  rintro e w2 ⟨rfl, hb2⟩
  have HB2 : Hid (Below w.heap.size w w2) := below_trans hb1 hb2 hb1.size
  clear Hu hb2 hb1
  go_wp2_with fail
  have HB3 : Hid (Below w.heap.size w (w2.alloc (.cells #[.int .i64 37, .int .i64 0, .int .i64 0] 24))) := HB2.out.alloc HB2.out.size _
  have HM3 : Hid (Moved (w2.alloc (.cells #[.int .i64 37, .int .i64 0, .int .i64 0] 24)) w2.heap.size 37 0 0) := moved_new _ _ _ _
  have Hsz : Hid (w.heap.size ≤ w2.heap.size) := HB2.out.size
  generalize w2.alloc (.cells #[.int .i64 37, .int .i64 0, .int .i64 0] 24) = w3 at *
  generalize w2.heap.size = mb at *
  clear HB2
  obtain ⟨G, hG⟩ : ∃ G, G = goes zs k 0 37 0 false := ⟨_, rfl⟩
  have HG : Hid (G = goes zs k 0 37 0 false) := hG
  refine (go_go _ zs k 0 37 0 false w3 (Hp.out.below HB3.out)).mono ?_
  rw [← hG]
  clear hG
  rintro e w4 ⟨rfl, hb4⟩
  have HB4 : Hid (Below w.heap.size w w4) := below_trans HB3.out hb4 HB3.out.size
  have HM4 : Hid (Moved w4 mb 37 0 0) := HM3.out.below hb4
  clear HB3 HM3 hb4
  obtain ⟨x, y, z⟩ := G
  by_cases h0 : z = 0
  · subst h0
    obtain ⟨rfl, m, i, j, rfl, rfl, g1, g2, g3, hl, g4, g5, g6⟩ := goes_pair HG.out.symm
    have Hg5 : Hid (goes zs (j : Int) 0 37 0 false = ((i : Int), true, 0)) := g5
    rcases Hp.out with ⟨_, _, _, hz⟩ | ⟨b, off, cap', hv, hcap, hcm, hb, hcell⟩
    · exact absurd g2 (by rw [hz]; simp)
    cases hv
    obtain ⟨m0, c0, c1, c2⟩ := HM4.out
    clear m0 g5 HG
    go_wp2_with fail
    refine (go_go _ zs (j : Int) 0 37 0 false w4 (Hp.out.below HB4.out)).mono ?_
    rw [Hg5.out]
    rintro e w5 ⟨rfl, hb5⟩
    have HB5 : Hid (Below w.heap.size w w5) := below_trans HB4.out hb5 HB4.out.size
    have HC5 : Hid (∀ q, q < zs.length → w5.cell? ⟨b, off + q, none⟩ = some (.int .i64 (zs.getD q 0))) := cells_alloc hb HB5.out hcell
    clear c0 c1 c2 HM4 HB4 hb5 Hg5 hcell Hp hb
    have hcj := HC5.out j g3
    have hci := HC5.out i g2
    obtain ⟨zj, hzj⟩ : ∃ zj, zj = zs.getD j 0 := ⟨_, rfl⟩
    obtain ⟨zi, hzi⟩ : ∃ zi, zi = zs.getD i 0 := ⟨_, rfl⟩
    rw [← hzj] at hcj g4
    rw [← hzi] at hci g4
    have Hk : Hid (brk zj = zi) := g4
    have HK : Hid (Calls Try.prog 15 #[.slice (some ⟨b, off + m, none⟩) (i - m) (cap - m), .func (.func 16) #[] #[]] w5 fun e w' => e = .returned (.bool false) ∧ w' = w5) :=
      contains_none b (off + m) (i - m) (cap - m) (fun q => zs.getD (m + q) 0) w5 (by omega) (fun q hq => by rw [Nat.add_assoc]; exact HC5.out (m + q) (by omega)) (fun q hq => g6 (m + q) (by omega) (by omega))
    have hne : (cap = m) = False := eq_false (by omega)
    have hI1 : (j : Int) < (zs.length : Int) := by omega
    have hI2 : (i : Int) < (zs.length : Int) := by omega
    have hI3 : (m : Int) ≤ (i : Int) := by omega
    have hI4 : (i : Int) ≤ (cap : Int) := by omega
    clear hzj hzi g4 g6 HC5
    go_wp2_with fail
    refine (brk_go zj w5).mono ?_
    rintro e w6 ⟨rfl, hw6⟩
    rw [hw6, Hk.out]
    clear hw6 w6
    go_wp2_with fail
    refine HK.out.mono ?_
    rintro e w6 ⟨rfl, hw6⟩
    rw [hw6]
    clear hw6 w6
    go_wp2_with fail
    go_ret
    exact ⟨rfl, HB5.out⟩
  · obtain ⟨rfl, rfl⟩ := goes_err HG.out.symm h0
    have hzb : (z != 0) = true := by simpa using h0
    clear h0 HG
    go_wp2_with fail
    go_ret
    exact ⟨rfl, HB4.out⟩
end Go.Proofs.Ytobcohgfpbmahaa.Seek
