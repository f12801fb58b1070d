/- The document's Object at quotes. -/
import Derived.Test.YtcmcaifcncabgaaPlacesGo
import Derived.Test.YtcmcaifcncabgaaOfGo
import Derived.Deep.CutRange
set_option linter.unusedVariables false
set_option linter.unusedSimpArgs false
namespace Go.Proofs.Ytcmcaifcncabgaa.Plain
open Seek
theorem plist_one (key : Int) (zs : List Int) : plist [key] zs = (spotsOf (fn zs) key zs.length 0).map fun (k : Nat) => (k : Int) := by
  unfold plist places spots spotsOf
  rw [List.length_singleton, Nat.add_sub_cancel, List.range_eq_range']
  refine congrArg (List.map _) (List.filter_congr ?_)
  intro j _
  show ((List.range 1).all fun i => fn [key] i == fn zs (j + i)) = (fn zs j == key)
  rw [show List.range 1 = [0] from rfl]
  simp only [List.all_cons, List.all_nil, Bool.and_true, Nat.add_zero]
  show (key == fn zs j) = _
  rw [Bool.eq_iff_iff, beq_iff_eq, beq_iff_eq]
  exact eq_comm
theorem spotsOf_len (f : Nat → Int) (s : Int) (n i : Nat) : (spotsOf f s n i).length ≤ n := by
  unfold spotsOf
  exact Nat.le_trans (List.length_filter_le _ _) (by rw [List.length_range']; exact Nat.le_refl _)
theorem spotsOf_lt {f : Nat → Int} {s : Int} {n x : Nat} (h : x ∈ spotsOf f s n 0) : x < n := by
  unfold spotsOf at h
  have := List.mem_range'_1.1 (List.mem_filter.1 h).1
  omega
theorem two_in {k : Int} {P : List Nat} {m : Nat} (h : m + 1 < P.length) : two k (P.drop m) = if k ≤ ((P.getD (m + 1) 0 : Nat) : Int) then some (P.getD m 0, P.getD (m + 1) 0) else two k (P.drop (m + 2)) := by
  rw [List.drop_eq_getElem_cons (show m < P.length by omega), List.drop_eq_getElem_cons h]
  show (if k ≤ ((P[m + 1] : Nat) : Int) then some (P[m], P[m + 1]) else two k (P.drop (m + 1 + 1))) = _
  rw [List.getD_eq_getElem?_getD, List.getD_eq_getElem?_getD, List.getElem?_eq_getElem h, List.getElem?_eq_getElem (show m < P.length by omega)]
  rfl
theorem two_out {k : Int} {P : List Nat} {m : Nat} (h : ¬ m + 1 < P.length) : two k (P.drop m) = none := by
  have h2 : (P.drop m).length ≤ 1 := by rw [List.length_drop]; omega
  generalize P.drop m = Q at h2
  match Q, h2 with
  | [], _ => rfl
  | [_], _ => rfl
  | _ :: _ :: _, h2 => exact absurd h2 (by simp)
end Go.Proofs.Ytcmcaifcncabgaa.Plain
namespace Go.Proofs.Ytcmcaifcncabgaa.Seek
open Go.RowKit Plain

theorem places_key (v : Value) (zs : List Int) (key : Int) (b1 : Nat) (w : World) (hr : Reads w v zs) (hn : zs.length ≤ 4096) (hb1 : b1 < w.heap.size) (h1 : w.cell? ⟨b1, 0, none⟩ = some (.int .i64 key)) :
    Calls Try.prog 20 #[.slice (some ⟨b1, 0, none⟩) 1 1, v] w fun e w' => PlacesPost [key] zs w e w' := by
  rcases hr with ⟨a, cap, rfl, rfl⟩ | ⟨b, off, cap, rfl, hcap, hcm, hb, hc⟩
  · exact places_none _ a 1 cap [key] w (by simp) (by simp)
  · refine places_some b1 0 1 b off cap [key] zs w (by simp) (by simp) hn (Nat.le_refl _) (by decide) hcap hcm hb1 hb ?_ hc
    intro j hj
    obtain rfl : j = 0 := by simpa using hj
    exact h1

set_option maxRecDepth 100000 in
set_option maxHeartbeats 8000000 in
theorem refquote (a : Option Addr) (cap : Nat) (zs : List Int) (k : Nat) (ar : Bool) (key : Int) (w : World) (hr : Reads w (.slice a zs.length cap) zs) (hn : zs.length ≤ 4096) (hk : k ≤ zs.length - 1) (hkey : key = 34 ∨ key = 39 ∨ key = 96) :
    Calls Try.prog 7 #[.slice a zs.length cap, .int .i64 (k : Int), .bool ar, .int .i64 key] w fun e w' => ThingPost (told ar (qfind (fn zs) key k zs.length 0 none)) w e w' := by
  have hr2 : Reads (w.alloc (.cells #[.int .i64 key] 3)) (.slice a zs.length cap) zs := hr.below ((Below.refl _ _).alloc (Nat.le_refl _) _)
  have HP : Hid (Calls Try.prog 20 #[.slice (some ⟨w.heap.size, 0, none⟩) 1 1, .slice a zs.length cap] (w.alloc (.cells #[.int .i64 key] 3)) fun e w' => PlacesPost [key] zs (w.alloc (.cells #[.int .i64 key] 3)) e w') :=
    places_key _ zs key w.heap.size _ hr2 hn (by show w.heap.size < (w.heap.push _).size; simp) (by
      unfold World.cell?
      simp only
      rw [show ∀ o, (w.alloc o).heap[w.heap.size]? = some o from fun o => by show (w.heap.push o)[w.heap.size]? = _; simp]
      rfl)
  obtain ⟨T, hT⟩ : ∃ T, T = qfind (fn zs) key k zs.length 0 none := ⟨_, rfl⟩
  rw [← hT]
  rw [qfind_two] at hT
  have HL : Hid (plist [key] zs = (spotsOf (fn zs) key zs.length 0).map fun (k : Nat) => (k : Int)) := plist_one key zs
  have hPl := spotsOf_len (fn zs) key zs.length 0
  have HPm : Hid (∀ x, x ∈ spotsOf (fn zs) key zs.length 0 → x < zs.length) := fun x hx => spotsOf_lt hx
  have HT : Hid (two k ((spotsOf (fn zs) key zs.length 0).drop 0) = T) := hT.symm
  generalize spotsOf (fn zs) key zs.length 0 = P at *
  clear hT hr hr2
  cases ar with
  | true =>
    rcases hkey with rfl | rfl | rfl
    all_goals (
      go_enter Try.func7, Try.ntmps7
      go_upto_region 3 with fail
      go_cut [37] from 26 to 37 (fun s37 wx => s37 = .bool false ∧ wx = w)
      case first =>
        by_cases hk0 : k = 0
        · subst hk0
          go_wp2_with fail
          go_meet
          exact ⟨rfl, rfl⟩
        · have hk1 : (0 : Int) < (k : Int) := by omega
          go_wp2_with fail
          go_meet
          exact ⟨by rw [decide_eq_false (by omega), decide_eq_false (by omega)]; rfl, rfl⟩
      case rest =>
      obtain ⟨rfl, hwc⟩ := hcut
      replace hwc := hwc.symm
      subst hwc
      go_wp2_with fail
      refine HP.out.mono ?_
      rintro e w2 ⟨hb, v2, rfl, hown⟩
      have hb0 : Below w.heap.size w w2 := ((Below.refl _ _).alloc (Nat.le_refl _) _).trans (hb.mono (by show w.heap.size ≤ (w.heap.push _).size; simp))
      have hrd := owned_reads hown
      rw [HL.out] at hrd
      obtain ⟨a2, cap2, rfl⟩ := hrd.shape
      rw [List.length_map] at hrd ⊢
      have Hrd : Hid (Reads w2 (.slice a2 P.length cap2) (P.map fun (k : Nat) => (k : Int))) := hrd
      have HB : Hid (Below w.heap.size w w2) := hb0
      clear hb hb0 hown hrd HP HL
      go_wp2_with fail
      go_loop [17] (fun u17 => ∃ m : Nat, u17 = .int .i64 (m : Int) ∧ m ≤ P.length + 1 ∧ Hid (two k (P.drop m) = T)) (fun u17 => P.length + 2 - (intOf u17).toNat)
      case atStart => exact ⟨0, rfl, by omega, HT.out⟩
      case round =>
        obtain ⟨m, rfl, hm, Hm⟩ := hrel
        by_cases hlt : m + 1 < P.length
        · rcases Hrd.out with ⟨_, _, _, hz⟩ | ⟨pb, po, pc, hv, hpc, hpm, hpb, hcell⟩
          · exact absurd (congrArg List.length hz) (by rw [List.length_map]; simp only [List.length_nil]; omega)
          rw [List.length_map] at hv hpc hcell
          cases hv
          have hm2 := two_in (k := (k : Int)) hlt
          have hc1 := hcell m (by omega)
          have hc2 := hcell (m + 1) hlt
          have e1 : (P.map fun (k : Nat) => (k : Int)).getD m 0 = ((P.getD m 0 : Nat) : Int) := by simp [List.getD_eq_getElem?_getD, show m < P.length by omega]
          have e2 : (P.map fun (k : Nat) => (k : Int)).getD (m + 1) 0 = ((P.getD (m + 1) 0 : Nat) : Int) := by simp [List.getD_eq_getElem?_getD, hlt]
          rw [e1] at hc1
          rw [e2] at hc2
          have hx : P.getD m 0 < zs.length := HPm.out _ (by rw [List.getD_eq_getElem?_getD, List.getElem?_eq_getElem (show m < P.length by omega)]; exact List.getElem_mem _)
          have hy : P.getD (m + 1) 0 < zs.length := HPm.out _ (by rw [List.getD_eq_getElem?_getD, List.getElem?_eq_getElem hlt]; exact List.getElem_mem _)
          generalize P.getD m 0 = x at *
          generalize P.getD (m + 1) 0 = y at *
          clear e1 e2 hcell hpm hpb
          have hI : (m : Int) + 1 < (P.length : Int) := by omega
          have hT1 : ((m : Int) + 1).toNat = m + 1 := by omega
          by_cases hky : (k : Int) ≤ (y : Int)
          · rw [if_pos hky] at hm2
            have HT2 : Hid (T = some (x, y)) := Hm.out.symm.trans hm2
            clear hm2 Hm
            go_wp2_with fail
            go_quiet (fail)
            go_wp2_with fail
            go_ret3
            rw [HT2.out]
            refine ⟨?_, below_drewN HB.out _⟩
            show Ending.returned (.tuple #[.int .i64 _, .int .i64 _, .int .i64 0]) = Ending.returned (.tuple #[.int .i64 (x : Int), .int .i64 ((y : Int) + 1), .int .i64 0])
            congr <;> omega
          · rw [if_neg hky] at hm2
            have HT2 : Hid (two k (P.drop (m + 2)) = T) := hm2.symm.trans Hm.out
            have hky2 : (y : Int) < (k : Int) := by omega
            clear hm2 Hm hky
            go_wp2_with fail
            go_round
            case rel => exact ⟨m + 2, by go_num, by omega, HT2.out⟩
            case measure => simp [intOf]; omega
        · have HT2 : Hid (T = none) := Hm.out.symm.trans (two_out hlt)
          have hI : (P.length : Int) ≤ (m : Int) + 1 := by omega
          clear Hm
          go_wp2_with fail
          go_ret3
          rw [HT2.out]
          exact ⟨rfl, HB.out⟩)
  | false =>
    rcases hkey with rfl | rfl | rfl
    all_goals (
      go_enter Try.func7, Try.ntmps7
      go_upto_region 3 with fail
      go_cut [37] from 26 to 37 (fun s37 wx => s37 = .bool false ∧ wx = w)
      case first =>
        by_cases hk0 : k = 0
        · subst hk0
          go_wp2_with fail
          go_meet
          exact ⟨rfl, rfl⟩
        · have hk1 : (0 : Int) < (k : Int) := by omega
          go_wp2_with fail
          go_meet
          exact ⟨by rw [decide_eq_false (by omega), decide_eq_false (by omega)]; rfl, rfl⟩
      case rest =>
      obtain ⟨rfl, hwc⟩ := hcut
      replace hwc := hwc.symm
      subst hwc
      go_wp2_with fail
      refine HP.out.mono ?_
      rintro e w2 ⟨hb, v2, rfl, hown⟩
      have hb0 : Below w.heap.size w w2 := ((Below.refl _ _).alloc (Nat.le_refl _) _).trans (hb.mono (by show w.heap.size ≤ (w.heap.push _).size; simp))
      have hrd := owned_reads hown
      rw [HL.out] at hrd
      obtain ⟨a2, cap2, rfl⟩ := hrd.shape
      rw [List.length_map] at hrd ⊢
      have Hrd : Hid (Reads w2 (.slice a2 P.length cap2) (P.map fun (k : Nat) => (k : Int))) := hrd
      have HB : Hid (Below w.heap.size w w2) := hb0
      clear hb hb0 hown hrd HP HL
      go_wp2_with fail
      go_loop [17] (fun u17 => ∃ m : Nat, u17 = .int .i64 (m : Int) ∧ m ≤ P.length + 1 ∧ Hid (two k (P.drop m) = T)) (fun u17 => P.length + 2 - (intOf u17).toNat)
      case atStart => exact ⟨0, rfl, by omega, HT.out⟩
      case round =>
        obtain ⟨m, rfl, hm, Hm⟩ := hrel
        by_cases hlt : m + 1 < P.length
        · rcases Hrd.out with ⟨_, _, _, hz⟩ | ⟨pb, po, pc, hv, hpc, hpm, hpb, hcell⟩
          · exact absurd (congrArg List.length hz) (by rw [List.length_map]; simp only [List.length_nil]; omega)
          rw [List.length_map] at hv hpc hcell
          cases hv
          have hm2 := two_in (k := (k : Int)) hlt
          have hc1 := hcell m (by omega)
          have hc2 := hcell (m + 1) hlt
          have e1 : (P.map fun (k : Nat) => (k : Int)).getD m 0 = ((P.getD m 0 : Nat) : Int) := by simp [List.getD_eq_getElem?_getD, show m < P.length by omega]
          have e2 : (P.map fun (k : Nat) => (k : Int)).getD (m + 1) 0 = ((P.getD (m + 1) 0 : Nat) : Int) := by simp [List.getD_eq_getElem?_getD, hlt]
          rw [e1] at hc1
          rw [e2] at hc2
          have hx : P.getD m 0 < zs.length := HPm.out _ (by rw [List.getD_eq_getElem?_getD, List.getElem?_eq_getElem (show m < P.length by omega)]; exact List.getElem_mem _)
          have hy : P.getD (m + 1) 0 < zs.length := HPm.out _ (by rw [List.getD_eq_getElem?_getD, List.getElem?_eq_getElem hlt]; exact List.getElem_mem _)
          generalize P.getD m 0 = x at *
          generalize P.getD (m + 1) 0 = y at *
          clear e1 e2 hcell hpm hpb
          have hI : (m : Int) + 1 < (P.length : Int) := by omega
          have hT1 : ((m : Int) + 1).toNat = m + 1 := by omega
          by_cases hky : (k : Int) ≤ (y : Int)
          · rw [if_pos hky] at hm2
            have HT2 : Hid (T = some (x, y)) := Hm.out.symm.trans hm2
            clear hm2 Hm
            go_wp2_with fail
            go_quiet (fail)
            go_wp2_with fail
            go_ret3
            rw [HT2.out]
            refine ⟨?_, below_drewN HB.out _⟩
            show Ending.returned (.tuple #[.int .i64 _, .int .i64 _, .int .i64 0]) = Ending.returned (.tuple #[.int .i64 ((x : Int) + 1), .int .i64 (y : Int), .int .i64 0])
            congr <;> omega
          · rw [if_neg hky] at hm2
            have HT2 : Hid (two k (P.drop (m + 2)) = T) := hm2.symm.trans Hm.out
            have hky2 : (y : Int) < (k : Int) := by omega
            clear hm2 Hm hky
            go_wp2_with fail
            go_round
            case rel => exact ⟨m + 2, by go_num, by omega, HT2.out⟩
            case measure => simp [intOf]; omega
        · have HT2 : Hid (T = none) := Hm.out.symm.trans (two_out hlt)
          have hI : (P.length : Int) ≤ (m : Int) + 1 := by omega
          clear Hm
          go_wp2_with fail
          go_ret3
          rw [HT2.out]
          exact ⟨rfl, HB.out⟩)
end Go.Proofs.Ytcmcaifcncabgaa.Seek
