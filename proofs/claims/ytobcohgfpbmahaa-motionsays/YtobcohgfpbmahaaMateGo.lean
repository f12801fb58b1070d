/- The contract of motion.partner. -/
import Derived.Test.YtobcohgfpbmahaaMoves
import Derived.BigQuiet
set_option linter.unusedVariables false
set_option linter.unusedSimpArgs false
namespace Go.Proofs.Ytobcohgfpbmahaa.Seek
open Go.RowKit Plain

theorem mate_at {zs : List Int} {k i : Nat} (h : up (fun i => brk (zs.getD i 0) != 0) (-1) zs.length k = (i : Int)) : mate zs k = (par (fn zs) zs.length i, decide (0 ≤ par (fn zs) zs.length i)) := by
  unfold mate
  rw [h]
theorem mate_none {zs : List Int} {k : Nat} (h : up (fun i => brk (zs.getD i 0) != 0) (-1) zs.length k = -1) : mate zs k = (0, false) := by
  unfold mate
  rw [h]
  rfl

set_option maxHeartbeats 1000000 in
theorem partner_some (b off cap : Nat) (zs : List Int) (k : Nat) (w : World) (hl : zs.length ≤ 4096) (hb : b < w.heap.size) (hcap : zs.length ≤ cap) (hcm : cap ≤ maxLen) (hk : k ≤ 4096) (hne : 0 < zs.length)
    (hc : ∀ j, j < zs.length → w.cell? ⟨b, off + j, none⟩ = some (.int .i64 (zs.getD j 0))) :
    Calls Try.prog 43 #[.slice (some ⟨b, off, none⟩) zs.length cap, .int .i64 (k : Int)] w fun e w' =>
      e = .returned (.tuple #[.int .i64 (mate zs k).1, .bool (mate zs k).2]) ∧ Below w.heap.size w w' := by
  obtain ⟨U, hU⟩ : ∃ U, U = up (fun i => brk (zs.getD i 0) != 0) (-1) zs.length k := ⟨_, rfl⟩
  obtain ⟨r1, h1⟩ : ∃ r1, r1 = (mate zs k).1 := ⟨_, rfl⟩
  obtain ⟨r2, h2⟩ : ∃ r2, r2 = (mate zs k).2 := ⟨_, rfl⟩
  have H1 : Hid (r1 = (mate zs k).1) := h1
  have H2 : Hid (r2 = (mate zs k).2) := h2
  have HU : Hid (up (fun i => brk (zs.getD i 0) != 0) (-1) zs.length k = U) := hU.symm
  have HU0 : Hid (up (fun i => brk (zs.getD i 0) != 0) (-1) zs.length k = U) := hU.symm
  have HP : Hid (Calls Try.prog 49 #[.slice (some ⟨b, off, none⟩) zs.length cap] w fun e w' => PairsPost zs w e w') := pairs_any _ zs w (.inr ⟨b, off, cap, rfl, hcap, hcm, hb, hc⟩) (by omega)
  rw [← h1, ← h2]
  have Hc : Hid (∀ j, j < zs.length → w.cell? ⟨b, off + j, none⟩ = some (.int .i64 (zs.getD j 0))) := hc
  clear h1 h2 hU hc
  go_enter Try.func43, Try.ntmps43
  go_wp2_with fail
  refine HP.out.mono ?_
  clear HP
  rintro e w1 ⟨hbel, ⟨hlarge, _⟩ | ⟨_, pv, rfl, hpv⟩⟩
  · exact absurd hlarge (by omega)
  rcases hpv with ⟨_, _, _, hz⟩ | ⟨pb, po, pc, rfl, hpc, hpm, hpb, hpcell⟩
  · exact absurd (congrArg List.length hz) (by rw [pairs_len]; intro h; simp at h; rw [h] at hne; exact absurd hne (by simp))
  rw [pairs_len] at hpc hpcell ⊢
  have HC1 : Hid (∀ j, j < zs.length → w1.cell? ⟨b, off + j, none⟩ = some (.int .i64 (zs.getD j 0))) := fun j hj => (hbel.cell hb).trans (Hc.out j hj)
  have HC2 : Hid (∀ j, j < zs.length → w1.cell? ⟨pb, po + j, none⟩ = some (.int .i64 (par (fn zs) zs.length j))) := fun j hj => (hpcell j hj).trans (by unfold pairs; rw [rowOf_get _ _ _ hj])
  have Hbel : Hid (Below w.heap.size w w1) := hbel
  clear Hc hpcell hbel hpm hcm hpb hpc hcap hb
  go_wp2_with fail
  go_loop [8] (fun u8 => ∃ m : Nat, u8 = .int .i64 (m : Int) ∧ m ≤ 4096 ∧ Hid (up (fun i => brk (zs.getD i 0) != 0) (-1) zs.length m = U)) (fun u8 => 4097 - (intOf u8).toNat)
  case atStart => exact ⟨k, rfl, hk, HU.out⟩
  case round =>
    obtain ⟨m, rfl, hm, Hm⟩ := hrel
    by_cases hlt : m < zs.length
    · have hI : (m : Int) < (zs.length : Int) := by omega
      have hcx := HC1.out m hlt
      obtain ⟨z, hz⟩ : ∃ z, z = zs.getD m 0 := ⟨_, rfl⟩
      rw [← hz] at hcx
      obtain ⟨q, hq⟩ : ∃ q, q = brk z := ⟨_, rfl⟩
      have Hq : Hid (brk z = q) := hq.symm
      have Hk : Hid (brk (zs.getD m 0) = q) := (congrArg brk hz.symm).trans hq.symm
      clear hz hq
      by_cases h0 : q = 0
      · have Hm2 : Hid (up (fun i => brk (zs.getD i 0) != 0) (-1) zs.length (m + 1) = U) := (up_miss hlt (by rw [Hk.out, h0]; rfl)).symm.trans Hm.out
        clear Hm Hk
        subst h0
        go_wp2_with fail
        refine (brk_go z w1).mono ?_
        rintro e w2 ⟨rfl, hw2⟩
        rw [hw2, Hq.out]
        clear hw2 w2
        go_wp2_with fail
        go_round
        case rel => exact ⟨m + 1, by go_num, by omega, Hm2.out⟩
        case measure => simp [intOf]; omega
      · have hqb : (q != 0) = true := by simpa using h0
        have hu : U = (m : Int) := Hm.out.symm.trans (up_hit hlt (by rw [Hk.out]; exact hqb))
        have hmt := mate_at (HU0.out.trans hu)
        obtain ⟨x, hx⟩ : ∃ x, x = par (fn zs) zs.length m := ⟨_, rfl⟩
        have hcp := HC2.out m hlt
        rw [← hx] at hcp hmt
        have Ha : Hid (r1 = x ∧ r2 = decide (0 ≤ x)) := ⟨by rw [H1.out, hmt], by rw [H2.out, hmt]⟩
        clear Hm Hk h0 hu hmt hx
        go_wp2_with fail
        refine (brk_go z w1).mono ?_
        rintro e w2 ⟨rfl, hw2⟩
        rw [hw2, Hq.out]
        clear hw2 w2
        go_wp2_with fail
        go_quiet (fail)
        go_wp2_with fail
        go_ret2
        rw [Ha.out.1, Ha.out.2]
        exact ⟨rfl, below_drewN Hbel.out _⟩
    · have hI : (zs.length : Int) ≤ (m : Int) := by omega
      have hu : U = -1 := Hm.out.symm.trans (up_done (by omega))
      have hmt := mate_none (HU0.out.trans hu)
      have Ha : Hid (r1 = 0 ∧ r2 = false) := ⟨by rw [H1.out, hmt], by rw [H2.out, hmt]⟩
      clear Hm hu hmt
      go_wp2_with fail
      go_ret2
      rw [Ha.out.1, Ha.out.2]
      exact ⟨rfl, Hbel.out⟩
end Go.Proofs.Ytobcohgfpbmahaa.Seek
