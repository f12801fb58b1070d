/- The contract of the document's WriteCmd. -/
import Derived.Test.YtjpgjhdkgmddfaaDoorTells
import Derived.Test.YtjpgjhdkgmddfaaDoorRefAll
set_option linter.unusedVariables false
set_option linter.unusedSimpArgs false
namespace Go.Proofs.YtjpgjhdkgmddfaaDoor.Seek
open Go.RowKit Plain
def fndr : List Int := [102, 70, 116, 84, 114]
theorem has_fndr (v : Int) : has fndr v = (has fnds v || v == 114) := by
  unfold has fndr fnds
  simp only [List.any_cons, List.any_nil, Bool.or_false]
  rw [Bool.eq_iff_iff]
  simp only [Bool.or_eq_true, beq_iff_eq]
  omega
theorem dgs_step (i : Nat) (h0 : 0 < i) (h : i ≤ 999) : dgs i = dgs (i / 10) ++ [48 + ((i % 10 : Nat) : Int)] := by
  unfold dgs
  rw [if_neg (by omega)]
  by_cases h1 : i < 10
  · rw [if_pos h1, if_pos (show i / 10 = 0 by omega), show i % 10 = i by omega]; rfl
  rw [if_neg h1, if_neg (show ¬ i / 10 = 0 by omega)]
  by_cases h2 : i < 100
  · rw [if_pos h2, if_pos (show i / 10 < 10 by omega)]; rfl
  · rw [if_neg h2, if_neg (show ¬ i / 10 < 10 by omega), if_pos (show i / 10 < 100 by omega), show i / 10 / 10 = i / 100 by omega]; rfl
theorem own_one (w : World) (B : Nat) (x : Int) (hB : B ≤ w.heap.size) : OwnI (w.alloc (.cells #[.int .i64 x] 3)) B (.slice (some ⟨w.heap.size, 0, none⟩) 1 1) [x] :=
  ⟨rfl, .inr ⟨w.heap.size, 1, #[.int .i64 x], rfl, hB, heap_new _ _, Nat.le_refl _, by decide, rfl, rfl⟩⟩
theorem tmod_ten (i : Nat) : Int.tmod (i : Int) 10 = ((i % 10 : Nat) : Int) := by
  rw [Int.tmod_eq_emod_of_nonneg (by omega)]; omega
theorem tdiv_ten (i : Nat) : Int.tdiv (i : Int) 10 = ((i / 10 : Nat) : Int) := by
  rw [Int.tdiv_eq_ediv_of_nonneg (by omega)]; omega

set_option maxRecDepth 100000 in
set_option maxHeartbeats 4000000 in
theorem writeCmd_bad (n r o v a : Int) (w : World) (h : count n = false) : Calls Tryd.prog 9 #[.agg #[.int .i64 n, .int .i64 r, .int .i64 o, .int .i64 v, .int .i64 a]] w fun e w' => Below w.heap.size w w' ∧ ∃ u, e = .returned (.tuple #[u, .int .i64 1]) ∧ Reads w' u [] := by
  have h2 : ¬ (0 ≤ n ∧ n ≤ 999) := of_decide_eq_false h
  clear h
  by_cases h3 : n < 0
  · clear h2
    go_enter Tryd.func9, Tryd.ntmps9
    go_wp2_with fail
    go_ret2
    exact ⟨box_below _ _, _, rfl, .inl ⟨_, _, rfl, rfl⟩⟩
  · have h4 : 999 < n := by omega
    have h5 : 0 ≤ n := by omega
    clear h2 h3
    go_enter Tryd.func9, Tryd.ntmps9
    go_wp2_with fail
    go_ret2
    exact ⟨box_below _ _, _, rfl, .inl ⟨_, _, rfl, rfl⟩⟩

set_option maxRecDepth 100000 in
set_option maxHeartbeats 4000000 in
theorem writeCmd_good (n r o v a : Int) (w : World) (hn : 0 ≤ n ∧ n ≤ 999) (ht : Tab w) : Calls Tryd.prog 9 #[.agg #[.int .i64 n, .int .i64 r, .int .i64 o, .int .i64 v, .int .i64 a]] w fun e w' => Below w.heap.size w w' ∧ ∃ u, e = .returned (.tuple #[u, .int .i64 (if allk (keysOf n r o v a) = ([(n, r, o, v, a)], zer, 0) then 0 else 4)]) ∧ Reads w' u (if allk (keysOf n r o v a) = ([(n, r, o, v, a)], zer, 0) then keysOf n r o v a else []) := by
  have HT0 : Hid (0 < w.heap.size) := ht.lt
  have HTW : Hid (Tab w) := ht
  have HN : Hid (0 ≤ n ∧ n ≤ 999) := hn
  obtain ⟨hn0, hn9⟩ := hn
  obtain ⟨j, hj⟩ : ∃ j, j = decide (allk (keysOf n r o v a) = ([(n, r, o, v, a)], zer, 0)) := ⟨_, rfl⟩
  obtain ⟨E, hE⟩ : ∃ E : Int, E = if allk (keysOf n r o v a) = ([(n, r, o, v, a)], zer, 0) then 0 else 4 := ⟨_, rfl⟩
  obtain ⟨L, hL⟩ : ∃ L : List Int, L = if allk (keysOf n r o v a) = ([(n, r, o, v, a)], zer, 0) then keysOf n r o v a else [] := ⟨_, rfl⟩
  rw [← hE, ← hL]
  have HJ : Hid (j = decide (allk (keysOf n r o v a) = ([(n, r, o, v, a)], zer, 0))) := hj
  have HE : Hid (E = if j = true then 0 else 4) := by show _ = _; rw [hE, hj]; simp
  have HL : Hid (L = if j = true then keysOf n r o v a else []) := by show _ = _; rw [hL, hj]; simp
  clear ht hj hE hL
  go_enter Tryd.func9, Tryd.ntmps9
  go_upto_if 20 with fail
  have HW1 : Hid (Wr w (w.alloc (.cells #[.int .i64 n, .int .i64 r, .int .i64 o, .int .i64 v, .int .i64 a] 24)) (n, r, o, v, a) (.slice none 0 0) []) := ⟨ownI_nil _ _, (oneC_new w n r o v a).1, box_below _ _, HTW.out.below (box_below _ _), by rw [size_alloc]; exact Nat.le_refl _⟩
  generalize (w.alloc (.cells #[.int .i64 n, .int .i64 r, .int .i64 o, .int .i64 v, .int .i64 a] 24)) = w1 at *
  clear hn0 hn9
  go_cut [4] from 18 to 23 (fun s4 wx => Hid (Wr w wx (n, r, o, v, a) s4 (keysR r)))
  case first =>
    obtain ⟨c0, c1, c2, c3, c4⟩ := HW1.out.cells
    by_cases hr : r = 0
    · have h1 : (r != 0) = false := by simpa using hr
      have HK : Hid (keysR r = []) := if_pos hr
      clear hr
      go_wp2_with fail
      go_meet
      case rel => rw [HK.out]; exact HW1
    · have h1 : (r != 0) = true := by simpa using hr
      have HK : Hid (keysR r = [34, r]) := if_neg hr
      clear hr
      go_wp2_with fail
      go_meet
      case rel =>
        rw [HK.out]
        have h2 := HW1.out.below (box_below w1 (.cells #[.int .i64 34, .int .i64 r] 3))
        refine ⟨?_, h2.2.1, h2.2.2.1, h2.2.2.2.1, h2.2.2.2.2⟩
        refine ⟨rfl, .inr ⟨w1.heap.size, 2, #[.int .i64 34, .int .i64 r], rfl, HW1.out.2.2.2.2, heap_new _ _, Nat.le_refl _, by decide, rfl, rfl⟩⟩
  case rest =>
    have HA : Hid (Wr w wc (n, r, o, v, a) u4 (keysR r)) := hcut
    clear hcut HW1
    obtain ⟨c0, c1, c2, c3, c4⟩ := HA.out.cells
    obtain ⟨m, hm⟩ : ∃ m : Nat, n = (m : Int) := ⟨n.toNat, by have := HN.out; omega⟩
    subst hm
    have HM : Hid (m ≤ 999) := by have := HN.out; show _ ≤ _; omega
    have HKR : Hid ((keysR r).length ≤ 2) := by show _ ≤ _; unfold keysR; split <;> simp
    go_wp2_with fail
    have HC0 : Hid (Wr w wc ((m : Int), r, o, v, a) u4 (keysR r)) := HA.out
    clear HA c0 c1 c2 c3 c4
    go_loopw [5, 6] (fun q5 q6 wr => ∃ (i : Nat) (D : List Int), q6 = .int .i64 (i : Int) ∧ i ≤ 999 ∧ Hid (dgs i ++ D = dgs m) ∧ Hid (OwnI wr wc.heap.size q5 D) ∧ Hid (Below wc.heap.size wc wr))
      (fun _ q6 _ => (intOf q6).toNat)
    case atStart => exact ⟨m, [], rfl, HM.out, List.append_nil _, ownI_nil _ _, Below.refl _ _⟩
    case round =>
      obtain ⟨i, D, rfl, hi, Hd, Ho, Hb⟩ := hrel
      have HDL : Hid (D.length ≤ 3) := by
        have h1 := dgs_len m
        rw [← Hd.out, List.length_append] at h1
        show _ ≤ _
        omega
      by_cases h0 : 0 < i
      · have hi0 : (0 : Int) < (i : Int) := by omega
        have hi9 : (i : Int) ≤ 999 := by omega
        have ht := tmod_ten i
        have hq := tdiv_ten i
        have HDD : Hid (dgs (i / 10) ++ ([48 + ((i % 10 : Nat) : Int)] ++ D) = dgs m) := by
          have h1 := Hd.out
          rw [dgs_step i h0 hi, List.append_assoc] at h1
          exact h1
        have hx0 : (0 : Int) ≤ ((i % 10 : Nat) : Int) := by omega
        have hx9 : ((i % 10 : Nat) : Int) ≤ 9 := by omega
        have hmeas : i / 10 < i := by omega
        have hd9 : i / 10 ≤ 999 := by omega
        clear Hd
        generalize hgx : ((i % 10 : Nat) : Int) = x at *
        generalize hgy : i / 10 = y at *
        clear hgx hgy
        go_wp2_with (first | (at_builtin; refine append_any rfl _ _ rfl (wc.heap.size) (.slice (some ⟨wr.heap.size, 0, none⟩) 1 1) _ [48 + x] D ([48 + x] ++ D) rfl rfl (own_one wr wc.heap.size (48 + x) Hb.out.size) rfl (Ho.out.reads.below (box_below wr _)) (by have := HDL.out; simp only [List.length_singleton]; omega) (by rw [size_alloc]; have := Hb.out.size; omega) ?_))
        intro z1 y1 ho hg _
        have hoz : Hid (OwnI y1 wc.heap.size z1 ([48 + x] ++ D)) := ho
        have Hb2 : Hid (Below wc.heap.size wc y1) := by
          have hB1 : Below wc.heap.size wc (wr.alloc (.cells #[.int .i64 (48 + x)] 3)) := Hb.out.alloc Hb.out.size _
          exact hB1.grown hg hB1.size (fun k hk => by have h1 : wr.heap.size = k := Option.some.inj hk; have := Hb.out.size; omega)
        clear ho hg Hb Ho HDL
        go_wp2_with fail
        go_roundw
        case rel => exact ⟨y, [48 + x] ++ D, by go_num, hd9, HDD.out, hoz.out, Hb2.out⟩
        case measure => simp [intOf]; omega
      · obtain rfl : i = 0 := by omega
        obtain rfl : D = dgs m := by
          have h1 := Hd.out
          simpa [dgs] using h1
        have HCr : Hid (Wr w wr ((m : Int), r, o, v, a) u4 (keysR r)) := HC0.out.below Hb.out
        have HDR : Hid (OwnI wr wc.heap.size u5 (dgs m)) := Ho.out
        clear Hd Ho Hb HC0
        go_wp2_with (first | (at_builtin; refine append_any rfl _ _ rfl (w.heap.size + 1) u4 _ (keysR r) (dgs m) (keysR r ++ dgs m) rfl rfl HCr.out.1 rfl HDR.out.reads (by have := HDL.out; have := HKR.out; omega) HCr.out.2.2.2.2 ?_))
        intro z1 y1 ho hg _
        have HB : Hid (Wr w y1 ((m : Int), r, o, v, a) z1 (keysR r ++ dgs m)) := Wr.next HCr.out ho hg HT0.out
        clear ho hg HCr HDR
        have HLEN : Hid ((keysR r ++ dgs m).length ≤ 100) := by show _ ≤ _; have := HDL.out; have := HKR.out; rw [List.length_append]; omega
        clear HDL HKR
        obtain ⟨K2, hK2⟩ : ∃ K2, K2 = keysR r ++ dgs m := ⟨_, rfl⟩
        have HK2 : Hid (K2 = keysR r ++ dgs m) := hK2
        rw [← hK2] at HB HLEN
        clear hK2
        generalize z1 = u4 at *
        generalize y1 = w2 at *
        obtain ⟨c0, c1, c2, c3, c4⟩ := HB.out.cells
        go_upto_if 41 with fail
        go_cut [4] from 39 to 46 (fun s4 wx => Hid (Wr w wx ((m : Int), r, o, v, a) s4 (K2 ++ keysO o)))
        case first =>
          by_cases ho0 : o = 0
          · have h1 : (o != 0) = false := by simpa using ho0
            have HK : Hid (K2 ++ keysO o = K2) := by show _ = _; unfold keysO; rw [if_pos ho0, List.append_nil]
            clear ho0
            go_wp2_with fail
            go_meet
            case rel => rw [HK.out]; exact HB
          · have h1 : (o != 0) = true := by simpa using ho0
            have HK : Hid (K2 ++ keysO o = K2 ++ [o]) := by show _ = _; unfold keysO; rw [if_neg ho0]
            clear ho0
            go_wp2_with (first | (at_builtin; refine append_any rfl _ _ rfl (w.heap.size + 1) _ _ K2 [o] (K2 ++ [o]) rfl rfl (OwnI.alloc HB.out.1 _) rfl (reads_one _ o) (by have := HLEN.out; simp only [List.length_singleton]; omega) (by rw [size_alloc]; have := HB.out.2.2.2.2; omega) ?_))
            intro z1 y1 ho hg _
            have HW2 : Hid (Wr w y1 ((m : Int), r, o, v, a) z1 (K2 ++ [o])) := Wr.next (HB.out.below (box_below _ _)) ho hg HT0.out
            clear ho hg c0 c1 c2 c3 c4
            go_wp2_with fail
            go_meet
            case rel => rw [HK.out]; exact HW2
        case rest =>
          have HD : Hid (Wr w wc ((m : Int), r, o, v, a) u4 (K2 ++ keysO o)) := hcut
          clear hcut HB c0 c1 c2 c3 c4
          have HLEN3 : Hid ((K2 ++ keysO o).length ≤ 101) := by show _ ≤ _; have := HLEN.out; rw [List.length_append]; unfold keysO; split <;> simp <;> omega
          obtain ⟨K3, hK3⟩ : ∃ K3, K3 = K2 ++ keysO o := ⟨_, rfl⟩
          have HK3 : Hid (K3 = K2 ++ keysO o) := hK3
          rw [← hK3] at HD HLEN3
          clear hK3 HLEN
          obtain ⟨c0, c1, c2, c3, c4⟩ := HD.out.cells
          go_wp2_with (first | (at_builtin; refine append_any rfl _ _ rfl (w.heap.size + 1) _ _ K3 [v] (K3 ++ [v]) rfl rfl (OwnI.alloc HD.out.1 _) rfl (reads_one _ v) (by have := HLEN3.out; simp only [List.length_singleton]; omega) (by rw [size_alloc]; have := HD.out.2.2.2.2; omega) ?_))
          intro z1 y1 ho hg _
          have HE4 : Hid (Wr w y1 ((m : Int), r, o, v, a) z1 (K3 ++ [v])) := Wr.next (HD.out.below (box_below _ _)) ho hg HT0.out
          clear ho hg c0 c1 c2 c3 c4
          obtain ⟨K4, hK4⟩ : ∃ K4, K4 = K3 ++ [v] := ⟨_, rfl⟩
          have HK4 : Hid (K4 = K3 ++ [v]) := hK4
          rw [← hK4] at HE4
          clear hK4 HD
          have HLEN4 : Hid (K4.length ≤ 102) := by show _ ≤ _; rw [HK4.out, List.length_append, List.length_singleton]; have := HLEN3.out; omega
          have HKO : Hid (keysOf (m : Int) r o v a = K4 ++ keysA o v a) := by show _ = _; unfold keysOf; rw [HK4.out, HK3.out, HK2.out, Int.toNat_natCast]
          clear HK4 HK3 HK2 HLEN3
          rw [HKO.out] at HJ HL
          have HHA : Hid (hasA o v = (has fndr v || (!(o == 0) && has sids v))) := by show _ = _; unfold hasA; rw [has_fndr]
          obtain ⟨c0, c1, c2, c3, c4⟩ := HE4.out.cells
          generalize z1 = u4 at *
          generalize y1 = w2 at *
          go_upto_region 15 with fail
          go_cut [64] from 52 to 64 (fun s64 wx => s64 = .bool (hasA o v) ∧ Hid (Wr w wx ((m : Int), r, o, v, a) u4 K4))
          case first =>
            cases hf : has fndr v
            case true =>
              have HF : Hid (has (codes ⟨#[102, 70, 116, 84, 114]⟩) v = true) := hf
              have HK : Hid (hasA o v = true) := by show _ = _; rw [HHA.out, hf, Bool.true_or]
              clear hf
              go_wp2_with fail
              refine (in_go ⟨#[102, 70, 116, 84, 114]⟩ v true _ (by decide) HF.out).mono ?_
              rintro e w3 ⟨rfl, hb⟩
              have HF3 : Hid (Wr w w3 ((m : Int), r, o, v, a) u4 (K4)) := HE4.out.below hb
              clear hb HE4 c0 c1 c2 c3 c4
              obtain ⟨c0, c1, c2, c3, c4⟩ := HF3.out.cells
              go_wp2_with fail
              go_meet
              case rel => exact ⟨by rw [HK.out], HF3⟩
            case false =>
              have HF : Hid (has (codes ⟨#[102, 70, 116, 84, 114]⟩) v = false) := hf
              by_cases ho0 : o = 0
              · have h1 : (o != 0) = false := by simpa using ho0
                have HK : Hid (hasA o v = false) := by show _ = _; rw [HHA.out, hf, ho0]; rfl
                clear hf ho0
                go_wp2_with fail
                refine (in_go ⟨#[102, 70, 116, 84, 114]⟩ v false _ (by decide) HF.out).mono ?_
                rintro e w3 ⟨rfl, hb⟩
                have HF3 : Hid (Wr w w3 ((m : Int), r, o, v, a) u4 (K4)) := HE4.out.below hb
                clear hb HE4 c0 c1 c2 c3 c4
                obtain ⟨c0, c1, c2, c3, c4⟩ := HF3.out.cells
                go_wp2_with fail
                go_meet
                case rel => exact ⟨by rw [HK.out], HF3⟩
              · have h1 : (o != 0) = true := by simpa using ho0
                have h2 : (o == 0) = false := by simpa using ho0
                cases hs : has sids v
                case true =>
                  have HS : Hid (has (codes ⟨#[105, 97]⟩) v = true) := hs
                  have HK : Hid (hasA o v = true) := by show _ = _; rw [HHA.out, hf, hs, h2]; rfl
                  clear hf ho0 hs h2
                  go_wp2_with fail
                  refine (in_go ⟨#[102, 70, 116, 84, 114]⟩ v false _ (by decide) HF.out).mono ?_
                  rintro e w3 ⟨rfl, hb⟩
                  have HF3 : Hid (Wr w w3 ((m : Int), r, o, v, a) u4 (K4)) := HE4.out.below hb
                  clear hb HE4 c0 c1 c2 c3 c4
                  obtain ⟨c0, c1, c2, c3, c4⟩ := HF3.out.cells
                  go_wp2_with fail
                  refine (in_go ⟨#[105, 97]⟩ v true _ (by decide) HS.out).mono ?_
                  rintro e w4 ⟨rfl, hb⟩
                  have HF4 : Hid (Wr w w4 ((m : Int), r, o, v, a) u4 (K4)) := HF3.out.below hb
                  clear hb HF3 c0 c1 c2 c3 c4
                  obtain ⟨c0, c1, c2, c3, c4⟩ := HF4.out.cells
                  go_wp2_with fail
                  go_meet
                  case rel => exact ⟨by rw [HK.out], HF4⟩
                case false =>
                  have HS : Hid (has (codes ⟨#[105, 97]⟩) v = false) := hs
                  have HK : Hid (hasA o v = false) := by show _ = _; rw [HHA.out, hf, hs, h2]; rfl
                  clear hf ho0 hs h2
                  go_wp2_with fail
                  refine (in_go ⟨#[102, 70, 116, 84, 114]⟩ v false _ (by decide) HF.out).mono ?_
                  rintro e w3 ⟨rfl, hb⟩
                  have HF3 : Hid (Wr w w3 ((m : Int), r, o, v, a) u4 (K4)) := HE4.out.below hb
                  clear hb HE4 c0 c1 c2 c3 c4
                  obtain ⟨c0, c1, c2, c3, c4⟩ := HF3.out.cells
                  go_wp2_with fail
                  refine (in_go ⟨#[105, 97]⟩ v false _ (by decide) HS.out).mono ?_
                  rintro e w4 ⟨rfl, hb⟩
                  have HF4 : Hid (Wr w w4 ((m : Int), r, o, v, a) u4 (K4)) := HF3.out.below hb
                  clear hb HF3 c0 c1 c2 c3 c4
                  obtain ⟨c0, c1, c2, c3, c4⟩ := HF4.out.cells
                  go_wp2_with fail
                  go_meet
                  case rel => exact ⟨by rw [HK.out], HF4⟩
          case rest =>
            obtain ⟨rfl, hcw⟩ := hcut
            have HF : Hid (Wr w wc ((m : Int), r, o, v, a) u4 K4) := hcw
            clear hcw HE4 c0 c1 c2 c3 c4 HHA
            obtain ⟨c0, c1, c2, c3, c4⟩ := HF.out.cells
            obtain ⟨K5, hK5⟩ : ∃ K5, K5 = K4 ++ keysA o v a := ⟨_, rfl⟩
            have HK5 : Hid (K5 = K4 ++ keysA o v a) := hK5
            rw [← hK5] at HJ HL
            have HLEN5 : Hid (K5.length ≤ 103) := by show _ ≤ _; rw [hK5, List.length_append]; have := HLEN4.out; unfold keysA; split <;> simp <;> omega
            clear hK5
            go_upto_if 64 with fail
            go_cut [4, 64] from 65 to 69 (fun s4 s64 wx => Hid (Wr w wx ((m : Int), r, o, v, a) s4 K5))
            case first =>
              cases hA : hasA o v
              case false =>
                have HZ : Hid (K5 = K4) := by show _ = _; rw [HK5.out]; unfold keysA; rw [hA]; simp
                clear hA
                go_wp2_with fail
                go_meet
                case rel => rw [HZ.out]; exact HF
              case true =>
                have HZ : Hid (K5 = K4 ++ [a]) := by show _ = _; rw [HK5.out]; unfold keysA; rw [hA]; simp
                clear hA
                go_wp2_with (first | (at_builtin; refine append_any rfl _ _ rfl (w.heap.size + 1) _ _ K4 [a] (K4 ++ [a]) rfl rfl (OwnI.alloc HF.out.1 _) rfl (reads_one _ a) (by have := HLEN4.out; simp only [List.length_singleton]; omega) (by rw [size_alloc]; have := HF.out.2.2.2.2; omega) ?_))
                intro z2 y2 ho hg _
                have HG : Hid (Wr w y2 ((m : Int), r, o, v, a) z2 (K4 ++ [a])) := Wr.next (HF.out.below (box_below _ _)) ho hg HT0.out
                clear ho hg c0 c1 c2 c3 c4
                go_wp2_with fail
                go_meet
                case rel => rw [HZ.out]; exact HG
            case rest =>
              have HH : Hid (Wr w wc ((m : Int), r, o, v, a) u4 K5) := hcut
              clear hcut HF c0 c1 c2 c3 c4 HK5 HKO
              have HRD : Hid (Reads wc u4 K5) := HH.out.1.reads
              obtain ⟨ua, uc, rfl⟩ := HRD.out.shape
              go_wp2_with fail
              refine (refAll_go _ K5 wc HRD.out (by have := HLEN5.out; omega)).mono ?_
              obtain ⟨X, hX⟩ : ∃ X, X = allk K5 := ⟨_, rfl⟩
              have HI : Hid (X.2.2 ≤ K5.length) := by rw [hX]; exact (allk_inv K5).2.2
              unfold AllPost
              rw [← hX] at HJ ⊢
              clear hX
              rintro e w2 ⟨vv, rfl, ho, hb2⟩
              have HO2 : Hid (Wr w w2 ((m : Int), r, o, v, a) (.slice ua K5.length uc) K5) := HH.out.below hb2
              have HR : Hid (ReadsC w2 vv X.1) := ho.reads
              clear HH HRD ho hb2
              obtain ⟨cs, ⟨p0, p1, p2, p3, p4⟩, k⟩ := X
              obtain ⟨va, vc, rfl⟩ := HR.out.shape
              have hm9 : (k : Int) ≤ 1048576 := by have := HI.out; have := HLEN5.out; simp only at *; omega
              simp only [fv]
              by_cases hl : cs.length = 1
              · obtain ⟨d, hd⟩ := List.length_eq_one_iff.1 hl
                subst hd
                clear hl
                obtain ⟨bb, cap, hv, e0, e1, e2, e3, e4⟩ := HR.out.one
                obtain ⟨rfl, rfl⟩ : va = some ⟨bb, 0, none⟩ ∧ vc = cap := by
                  cases hv
                  exact ⟨rfl, rfl⟩
                clear hv
                obtain ⟨d0, d1, d2, d3, d4⟩ := d
                simp only at e0 e1 e2 e3 e4
                go_wp2_with fail
                have HBX : Hid (BoxF (w2.alloc (.cells #[.int .i64 p0, .int .i64 p1, .int .i64 p2, .int .i64 p3, .int .i64 p4] 27)) 27 w2.heap.size (p0, p1, p2, p3, p4)) := box_prt w2 _ _ _ _ _
                have HO3 : Hid (Wr w (w2.alloc (.cells #[.int .i64 p0, .int .i64 p1, .int .i64 p2, .int .i64 p3, .int .i64 p4] 27)) ((m : Int), r, o, v, a) (.slice ua K5.length uc) K5) := HO2.out.below (box_below _ _)
                have HR3 : Hid (ReadsC (w2.alloc (.cells #[.int .i64 p0, .int .i64 p1, .int .i64 p2, .int .i64 p3, .int .i64 p4] 27)) (.slice (some ⟨bb, 0, none⟩) 1 vc) [(d0, d1, d2, d3, d4)]) := HR.out.below (box_below _ _)
                clear HR HO2 e0 e1 e2 e3 e4
                generalize (w2.alloc (.cells #[.int .i64 p0, .int .i64 p1, .int .i64 p2, .int .i64 p3, .int .i64 p4] 27)) = w3 at *
                generalize w2.heap.size = G at *
                obtain ⟨b3, c3, hv3, e0, e1, e2, e3, e4⟩ := HR3.out.one
                cases hv3
                obtain ⟨x0, x1, x2, x3, x4⟩ := HO3.out.cells
                obtain ⟨y0, y1, y2, y3, y4⟩ : w3.cell? ⟨G, 0, none⟩ = some (.int .i64 p0) ∧ w3.cell? ⟨G, 1, none⟩ = some (.int .i64 p1) ∧ w3.cell? ⟨G, 2, none⟩ = some (.int .i64 p2) ∧ w3.cell? ⟨G, 3, none⟩ = some (.int .i64 p3) ∧ w3.cell? ⟨G, 4, none⟩ = some (.int .i64 p4) := ⟨HBX.out.c0, HBX.out.c1, HBX.out.c2, HBX.out.c3, HBX.out.c4⟩
                simp only at e0 e1 e2 e3 e4
                have gd := fun x y xs ys w' => guard_lit .neq (.inr rfl : (24 : TypeId) = 27 ∨ (24 : TypeId) = 24) x y xs ys w'
                have gp := fun x y xs ys w' => guard_lit .neq (.inl rfl : (27 : TypeId) = 27 ∨ (27 : TypeId) = 24) x y xs ys w'
                obtain ⟨q1, hq1⟩ : ∃ q1, q1 = !decide (((d0, d1, d2, d3, d4) : Five) = ((m : Int), r, o, v, a)) := ⟨_, rfl⟩
                obtain ⟨q2, hq2⟩ : ∃ q2, q2 = !decide (((p0, p1, p2, p3, p4) : Five) = (0, 0, 0, 0, 0)) := ⟨_, rfl⟩
                have r1 := fun w' => neq_lit (.inr rfl) d0 d1 d2 d3 d4 (m : Int) r o v a q1 hq1.symm w'
                have r2 := fun w' => neq_lit (.inl rfl) p0 p1 p2 p3 p4 0 0 0 0 0 q2 hq2.symm w'
                have HBV : Hid (j = (!q1 && (!q2 && !decide ((0 : Int) < (k : Int))))) := by
                  show j = _
                  rw [HJ.out, hq1, hq2, Bool.eq_iff_iff]
                  simp [zer]
                clear hq1 hq2 HJ HBX HR3
                cases q1 with
                | true =>
                  have hbv : j = false := HBV.out
                  subst hbv
                  go_wp2_with fail
                  go_quiet (fail)
                  go_wp2_with fail
                  go_ret2
                  rw [HE.out, HL.out]
                  exact ⟨below_drewN HO3.out.2.2.1 _, _, rfl, .inl ⟨_, _, rfl, rfl⟩⟩
                | false =>
                  cases q2 with
                  | true =>
                    have hbv : j = false := HBV.out
                    subst hbv
                    go_wp2_with fail
                    go_quiet (fail)
                    go_wp2_with fail
                    go_ret2
                    rw [HE.out, HL.out]
                    exact ⟨below_drewN HO3.out.2.2.1 _, _, rfl, .inl ⟨_, _, rfl, rfl⟩⟩
                  | false =>
                    by_cases hk0 : (0 : Int) < (k : Int)
                    · have hbv : j = false := by rw [HBV.out, decide_eq_true hk0]; rfl
                      subst hbv
                      go_wp2_with fail
                      go_quiet (fail)
                      go_wp2_with fail
                      go_ret2
                      rw [HE.out, HL.out]
                      exact ⟨below_drewN HO3.out.2.2.1 _, _, rfl, .inl ⟨_, _, rfl, rfl⟩⟩
                    · have hbv : j = true := by rw [HBV.out, decide_eq_false hk0]; rfl
                      subst hbv
                      go_wp2_with fail
                      go_quiet (fail)
                      go_wp2_with fail
                      go_ret2
                      rw [HE.out, HL.out]
                      exact ⟨below_drewN HO3.out.2.2.1 _, _, rfl, HO3.out.1.reads.below (below_drewN (Below.refl _ _) _)⟩
              · have hbv : j = false := by
                  show j = false
                  rw [HJ.out]
                  exact decide_eq_false (fun h => hl (congrArg (fun q : Sofar => q.1.length) h))
                subst hbv
                have hlb : ((cs.length : Int) != 1) = true := by simp only [bne_iff_ne, ne_eq]; omega
                have hmx : (cs.length : Int) ≤ 9223372036854775807 := by have h9 : cs.length ≤ maxLen := HR.out.len; unfold maxLen at h9; omega
                clear hl HJ
                go_wp2_with fail
                have HBX : Hid (Below w.heap.size w (w2.alloc (.cells #[.int .i64 p0, .int .i64 p1, .int .i64 p2, .int .i64 p3, .int .i64 p4] 27))) := HO2.out.2.2.1.alloc HO2.out.2.2.1.size _
                generalize (w2.alloc (.cells #[.int .i64 p0, .int .i64 p1, .int .i64 p2, .int .i64 p3, .int .i64 p4] 27)) = w3 at *
                generalize cs.length = nl at *
                go_quiet (fail)
                go_wp2_with fail
                go_ret2
                rw [HE.out, HL.out]
                exact ⟨below_drewN HBX.out _, _, rfl, .inl ⟨_, _, rfl, rfl⟩⟩
end Go.Proofs.YtjpgjhdkgmddfaaDoor.Seek
