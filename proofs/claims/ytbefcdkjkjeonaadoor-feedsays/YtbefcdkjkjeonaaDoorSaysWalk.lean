/- The walk of FeedSays. -/
import Derived.Test.YtbefcdkjkjeonaaDoorDecode
import Derived.Test.YtbefcdkjkjeonaaDoorWaitsWalk
set_option linter.unusedVariables false
set_option linter.unusedSimpArgs false
namespace Go.Proofs.YtbefcdkjkjeonaaDoor.feedSays
open Go.RowKit Utf

theorem World.lt_of_cell {w : World} {g j : Nat} {v : Value} (h : w.cell? ⟨g, j, none⟩ = some v) : g < w.heap.size := by
  unfold World.cell? at h
  simp only at h
  rcases Nat.lt_or_ge g w.heap.size with h2 | h2
  · exact h2
  · rw [Array.getElem?_eq_none h2] at h
    cases h

set_option maxHeartbeats 4000000 in
set_option maxRecDepth 100000 in
/-- What is neither empty nor pending. -/
theorem walk_wrong (p s : ByteArray) (w : World) (h0 : 0 < p.size) (hp : p.size ≤ 9223372036854775807) (hs : s.size ≤ 9223372036854775807) (hT : Tabs w) (Hf : Hid (Plain.full p.data.toList = true)) :
    Calls Tryd.prog 3 #[.string p, .string s] w fun e w' => e = .returned (.bool true) ∧ Below w.heap.size w w' := by
  have hne := not_nil p h0
  go_enter Tryd.func3, Tryd.ntmps3
  go_wp2_with fail
  refine (begins_any p _ true hp h0 Hf).mono ?_
  rintro e w1 ⟨rfl, hbw1⟩
  simp only [Bool.not_true]
  go_wp2_with fail
  refine (feed_any p s _ hp hs (hT.below hbw1)).mono ?_
  rintro e w2 ⟨hb2, h2⟩
  have hbw2 := below_trans hbw1 hb2
  clear hb2 hbw1
  rcases h2 with ⟨_, rfl⟩ | ⟨hx, _, _⟩ | ⟨hx, _, _⟩
  · go_wp2_with fail
    refine (end_any p _ hp (hT.below hbw2)).mono ?_
    rintro e w3 ⟨hb3, h3⟩
    have hbw3 := below_trans hbw2 hb3
    clear hb3 hbw2
    rcases h3 with ⟨_, rfl⟩ | ⟨hx, _⟩
    · go_wp2_with fail
      refine (check_any p _ true Hf hp (hT.below hbw3).1).mono ?_
      rintro e w4 ⟨rfl, hb4⟩
      have hbw4 := below_trans hbw3 hb4
      clear hb4 hbw3
      unfold chk
      simp only [cond_true]
      go_wp2_with fail
      go_ret
      exact ⟨rfl, hbw4⟩
    · rw [Hf.out] at hx
      cases hx
  · rw [Hf.out] at hx
    cases hx
  · rw [Hf.out] at hx
    cases hx

set_option maxHeartbeats 4000000 in
set_option maxRecDepth 100000 in
/-- Nothing is pending. -/
theorem walk_empty (s : ByteArray) (w : World) (hs : s.size ≤ 9223372036854775807) (hT : Tabs w) :
    Calls Tryd.prog 3 #[.string ⟨#[]⟩, .string s] w fun e w' => e = .returned (.bool true) ∧ Below w.heap.size w w' := by
  have Hf : Hid (Plain.full (⟨#[]⟩ : ByteArray).data.toList = false) := rfl
  have Hz : Hid ((⟨#[]⟩ : ByteArray).size = 0) := rfl
  have hmin : min (1 : Int) (0 : Int) = 0 := rfl
  go_enter Tryd.func3, Tryd.ntmps3
  go_wp2_with fail
  refine (feed_any ⟨#[]⟩ s _ (by decide) hs hT).mono ?_
  rintro e w2 ⟨hbw2, h2⟩
  rcases h2 with ⟨hx, _⟩ | ⟨_, h96, rfl⟩ | ⟨_, h96, cs, m, v2, hdec, rfl, hown2⟩
  · rw [Hf.out] at hx
    cases hx
  · have h97 : 4096 < s.size := by rw [← size_list]; exact h96
    clear h96
    go_wp2_with fail
    refine (end_any (⟨#[]⟩ : ByteArray) _ (by decide) (hT.below hbw2)).mono ?_
    rintro e w3 ⟨hb3, h3⟩
    have hbw3 := below_trans hbw2 hb3
    rcases h3 with ⟨hx, _⟩ | ⟨_, v3, ds, hds, rfl, hown3⟩
    · rw [Hf.out] at hx
      cases hx
    obtain rfl : ds = [] := hds
    obtain ⟨a3, cap3, rfl⟩ := feedWaits.owned_zero hown3
    clear hb3 hbw2 hown3
    go_wp2_with fail
    refine (check_any (⟨#[]⟩ : ByteArray) _ false Hf (by decide) (hT.below hbw3).1).mono ?_
    rintro e w4 ⟨rfl, hb4⟩
    have hbw4 := below_trans hbw3 hb4
    clear hb4 hbw3
    unfold chk
    simp only [cond_false]
    go_wp2_with fail
    go_ret
    exact ⟨rfl, hbw4⟩
  · have h97 : s.size ≤ 4096 := by rw [← size_list]; exact h96
    have hr2 := owned_reads hown2
    have hlen := hdec.1.facts.2.1
    have hrm : (casts cs).length * 8 ≤ 140737488355328 := by
      rw [casts_len]
      rw [List.length_append, size_list, size_list, Hz.out] at hlen
      omega
    obtain ⟨r, hr, _, hst⟩ := feedWaits.str_some m
    have Hdec : Hid (Plain.Dec cs ((⟨#[]⟩ : ByteArray).data.toList ++ s.data.toList) m) := hdec
    have Hr : Hid (r.data.toList = m) := hr
    rw [hst]
    clear h96 hdec hlen hr hst hown2
    go_wp2_with fail
    refine (end_any (⟨#[]⟩ : ByteArray) _ (by decide) (hT.below hbw2)).mono ?_
    rintro e w3 ⟨hb3, h3⟩
    have hbw3 := below_trans hbw2 hb3
    have hr3 := hr2.below hb3
    clear hr2
    rcases h3 with ⟨hx, _⟩ | ⟨_, v3, ds, hds, rfl, hown3⟩
    · rw [Hf.out] at hx
      cases hx
    obtain rfl : ds = [] := hds
    obtain ⟨a3, cap3, rfl⟩ := feedWaits.owned_zero hown3
    clear hb3 hbw2 hown3
    go_wp2_with fail
    refine (check_any (⟨#[]⟩ : ByteArray) _ false Hf (by decide) (hT.below hbw3).1).mono ?_
    rintro e w4 ⟨rfl, hb4⟩
    have hbw4 := below_trans hbw3 hb4
    have hr4 := hr3.below hb4
    clear hb4 hbw3 hr3
    unfold chk
    simp only [cond_false]
    go_wp2_with fail
    refine (decode_any ((⟨#[]⟩ : ByteArray) ++ s) _ (by rw [ByteArray.size_append, Hz.out]; omega)).mono ?_
    rintro e w5 ⟨hb5, cs5, m5, v5, hdec5, rfl, hown5⟩
    have hbw5 := below_trans hbw4 hb5
    have hr5 := hr4.below hb5
    have hq5 := owned_reads hown5
    rw [append_list] at hdec5
    obtain ⟨e1, e2⟩ := Hdec.out.one hdec5
    subst e1
    subst e2
    have hst : str m = .string r := by rw [← Hr.out, ← str_of]
    rw [hst]
    clear hst hdec5 Hdec hown5 hb5 hbw4 hr4
    generalize casts cs = zs at hr5 hq5 hrm
    go_wp2_with fail
    refine (equal_same _ _ zs _ hr5 hq5 hrm).mono ?_
    rintro e w6 ⟨rfl, hw6⟩
    have hbw6 : Below w.heap.size w w6 := by obtain ⟨q, rfl⟩ := hw6; exact below_drewN hbw5 q
    clear hw6 hr5 hq5 hbw5
    go_wp2_with fail
    go_ret
    exact ⟨rfl, hbw6⟩

set_option maxHeartbeats 4000000 in
set_option maxRecDepth 100000 in
/-- Something is pending. -/
theorem walk_pend (p s : ByteArray) (w : World) (h0 : 0 < p.size) (hs : s.size ≤ 9223372036854775807) (hT : Tabs w) (Hf : Hid (Plain.full p.data.toList = false)) :
    Calls Tryd.prog 3 #[.string p, .string s] w fun e w' => e = .returned (.bool true) ∧ Below w.heap.size w w' := by
  have hne := not_nil p h0
  have hp3 : p.size ≤ 3 := by rw [← size_list]; exact Plain.pend_len _ Hf.out
  have hpn : ¬ p.data.toList = [] := fun h => by rw [← size_list, h] at h0; exact absurd h0 (by decide)
  have hmin : min (1 : Int) (p.size : Int) = 1 := by omega
  go_enter Tryd.func3, Tryd.ntmps3
  go_wp2_with fail
  refine (begins_any p _ false (by omega) h0 Hf).mono ?_
  rintro e w1 ⟨rfl, hbw1⟩
  simp only [Bool.not_false]
  go_wp2_with fail
  refine (feed_any p s _ (by omega) hs (hT.below hbw1)).mono ?_
  rintro e w2 ⟨hb2, h2⟩
  have hbw2 := below_trans hbw1 hb2
  clear hb2 hbw1
  rcases h2 with ⟨hx, _⟩ | ⟨_, h96, rfl⟩ | ⟨_, h96, cs, m, v2, hdec, rfl, hown2⟩
  · rw [Hf.out] at hx
    cases hx
  · have h97 : 4096 < s.size := by rw [← size_list]; exact h96
    clear h96
    go_wp2_with fail
    refine (end_any p _ (by omega) (hT.below hbw2)).mono ?_
    rintro e w3 ⟨hb3, h3⟩
    have hbw3 := below_trans hbw2 hb3
    rcases h3 with ⟨hx, _⟩ | ⟨_, v3, ds, hds, rfl, hown3⟩
    · rw [Hf.out] at hx
      cases hx
    obtain rfl : ds = [65533] := by rw [hds, if_neg hpn]
    obtain ⟨a3, cap3, rfl, hcell3⟩ := feedWaits.owned_one hown3
    have hlt3 := World.lt_of_cell hcell3
    clear hb3 hbw2 hds hown3
    go_wp2_with fail
    refine (check_any p _ false Hf (by omega) (hT.below hbw3).1).mono ?_
    rintro e w4 ⟨rfl, hb4⟩
    have hbw4 := below_trans hbw3 hb4
    have hcell4 : w4.cell? ⟨a3, 0, none⟩ = some (.int .i64 ((65533 : Nat) : Int)) := (hb4.cell (by exact hlt3)).trans hcell3
    clear hcell3 hlt3
    clear hb4 hbw3
    unfold chk
    simp only [cond_false]
    go_wp2_with fail
    go_ret
    exact ⟨rfl, hbw4⟩
  · have h97 : s.size ≤ 4096 := by rw [← size_list]; exact h96
    have hr2 := owned_reads hown2
    have hlen := hdec.1.facts.2.1
    have hrm : (casts cs).length * 8 ≤ 140737488355328 := by
      rw [casts_len]
      rw [List.length_append, size_list, size_list] at hlen
      omega
    obtain ⟨r, hr, _, hst⟩ := feedWaits.str_some m
    have Hdec : Hid (Plain.Dec cs (p.data.toList ++ s.data.toList) m) := hdec
    have Hr : Hid (r.data.toList = m) := hr
    rw [hst]
    clear h96 hdec hlen hr hst hown2
    go_wp2_with fail
    refine (end_any p _ (by omega) (hT.below hbw2)).mono ?_
    rintro e w3 ⟨hb3, h3⟩
    have hbw3 := below_trans hbw2 hb3
    have hr3 := hr2.below hb3
    clear hr2
    rcases h3 with ⟨hx, _⟩ | ⟨_, v3, ds, hds, rfl, hown3⟩
    · rw [Hf.out] at hx
      cases hx
    obtain rfl : ds = [65533] := by rw [hds, if_neg hpn]
    obtain ⟨a3, cap3, rfl, hcell3⟩ := feedWaits.owned_one hown3
    have hlt3 := World.lt_of_cell hcell3
    clear hb3 hbw2 hds hown3
    go_wp2_with fail
    refine (check_any p _ false Hf (by omega) (hT.below hbw3).1).mono ?_
    rintro e w4 ⟨rfl, hb4⟩
    have hbw4 := below_trans hbw3 hb4
    have hr4 := hr3.below hb4
    have hcell4 : w4.cell? ⟨a3, 0, none⟩ = some (.int .i64 ((65533 : Nat) : Int)) := (hb4.cell (by exact hlt3)).trans hcell3
    clear hcell3 hlt3
    clear hb4 hbw3 hr3
    unfold chk
    simp only [cond_false]
    go_wp2_with fail
    refine (decode_any (p ++ s) _ (by rw [ByteArray.size_append]; omega)).mono ?_
    rintro e w5 ⟨hb5, cs5, m5, v5, hdec5, rfl, hown5⟩
    have hbw5 := below_trans hbw4 hb5
    have hr5 := hr4.below hb5
    have hq5 := owned_reads hown5
    rw [append_list] at hdec5
    obtain ⟨e1, e2⟩ := Hdec.out.one hdec5
    subst e1
    subst e2
    have hst : str m = .string r := by rw [← Hr.out, ← str_of]
    rw [hst]
    clear hst hdec5 Hdec hown5 hb5 hbw4 hr4 hcell4
    generalize casts cs = zs at hr5 hq5 hrm
    go_wp2_with fail
    refine (equal_same _ _ zs _ hr5 hq5 hrm).mono ?_
    rintro e w6 ⟨rfl, hw6⟩
    have hbw6 : Below w.heap.size w w6 := by obtain ⟨q, rfl⟩ := hw6; exact below_drewN hbw5 q
    clear hw6 hr5 hq5 hbw5
    go_wp2_with fail
    go_ret
    exact ⟨rfl, hbw6⟩

theorem walk (p s : ByteArray) (w : World) (hp : p.size ≤ 9223372036854775807) (hs : s.size ≤ 9223372036854775807) (hT : Tabs w) :
    Calls Tryd.prog 3 #[.string p, .string s] w fun e w' => e = .returned (.bool true) ∧ Below w.heap.size w w' := by
  by_cases h0 : p.size = 0
  · obtain rfl := is_nil p h0
    exact walk_empty s w hs hT
  · cases hf : Plain.full p.data.toList with
    | true => exact walk_wrong p s w (by omega) hp hs hT hf
    | false => exact walk_pend p s w (by omega) hs hT hf
end Go.Proofs.YtbefcdkjkjeonaaDoor.feedSays
