/- The walk of FeedGood. -/
import Derived.Test.YtbefcdkjkjeonaaDoorFed
import Derived.Test.YtbefcdkjkjeonaaDoorWaitsWalk
set_option linter.unusedVariables false
set_option linter.unusedSimpArgs false
namespace Go.Proofs.YtbefcdkjkjeonaaDoor.Utf
open Go.RowKit
theorem mk_list (s : ByteArray) : (⟨s.data.toList.toArray⟩ : ByteArray) = s := by cases s; rfl
theorem tabs_alloc {w : World} (h : Tabs w) (o : Obj) : Tabs (w.alloc o) := h.below ((Below.refl _ _).alloc (Nat.le_refl _) o)
/-- fed of one piece. -/
theorem fed_one (u : ByteArray) (w : World) (hT : Tabs w) (hu : u.size ≤ 9223372036854775807) :
    Calls Tryd.prog 13 #[.slice (some ⟨w.heap.size, 0, none⟩) 1 1] (w.alloc (.cells #[.string u] 9)) fun e w' => FedPost [u.data.toList] (w.alloc (.cells #[.string u] 9)) e w' := by
  refine fed_any w.heap.size 1 1 [u.data.toList] _ (tabs_alloc hT _) rfl (by omega) (by simp) ?_ ?_
  · intro j hj
    obtain rfl : j = 0 := by simp at hj; omega
    show u.data.toList.length ≤ _
    rw [size_list]; exact hu
  · intro j hj
    obtain rfl : j = 0 := by simp at hj; omega
    show _ = some (Value.string ⟨u.data.toList.toArray⟩)
    rw [mk_list]
    simp
theorem fed_good1 {s : List UInt8} {ds : List Nat} {m : List UInt8} (hs : s.length ≤ 4096) (hd : Plain.Dec ds s m) {w w' : World} {e : Ending} (h : FedPost [s] w e w') :
    Below w.heap.size w w' ∧ ∃ v, e = .returned (.tuple #[v, .bool true]) ∧ w'.ownsRow w.heap.size 3 1 v (Plain.closed ds m).length (ints (Plain.closed ds m)) := by
  obtain ⟨hb, h⟩ := h
  rcases h with ⟨⟨t, ht, h1⟩, _⟩ | ⟨_, cs, m', v, hdec, rfl, hown⟩
  · simp at ht
    subst ht
    omega
  · simp only [List.flatten_cons, List.flatten_nil, List.append_nil] at hdec
    obtain ⟨rfl, rfl⟩ := hdec.one hd
    exact ⟨hb, v, rfl, hown⟩
theorem below_after {w w1 : World} {o : Obj} (h : Below (w.alloc o).heap.size (w.alloc o) w1) : Below w.heap.size w w1 := below_trans ((Below.refl _ _).alloc (Nat.le_refl _) o) h
end Go.Proofs.YtbefcdkjkjeonaaDoor.Utf
namespace Go.Proofs.YtbefcdkjkjeonaaDoor.feedGood
open Go.RowKit Utf

theorem dec_ff : Plain.Dec [65533, 97] [255, 97] [] := ⟨⟨by decide +kernel, by decide +kernel, by decide +kernel, by decide +kernel, by show _ = _; decide +kernel⟩, by decide +kernel⟩
theorem closed_nil (cs : List Nat) : Plain.closed cs [] = cs := by simp [Plain.closed]
theorem size2 : (⟨#[255, 97]⟩ : ByteArray).size = 2 := rfl
theorem closed_oks {cs : List Nat} {m : List UInt8} (h : Plain.Oks cs) : Plain.Oks (Plain.closed cs m) := by
  unfold Plain.closed
  split
  · rw [List.append_nil]; exact h
  · exact h.append fun x hx => by simp at hx; subst hx; exact Plain.ok_bad
theorem closed_len {cs : List Nat} {m : List UInt8} {n : Nat} (h : cs.length + m.length ≤ n) : (Plain.closed cs m).length ≤ n := by
  unfold Plain.closed
  split
  · simp; omega
  · rename_i hm
    have : 0 < m.length := List.length_pos_iff.2 hm
    simp
    omega
theorem new_reads (w : World) (a b : Int) : Reads (w.alloc (.cells #[.int .i64 a, .int .i64 b] 3)) (.slice (some ⟨w.heap.size, 0, none⟩) 2 2) [a, b] := by
  refine .inr ⟨w.heap.size, 0, 2, rfl, by simp, fun j hj => ?_⟩
  simp at hj
  rcases (by omega : j = 0 ∨ j = 1) with rfl | rfl <;> simp

set_option maxHeartbeats 4000000 in
set_option maxRecDepth 100000 in
theorem walk (v : Value) (zs : List Int) (s : ByteArray) (w : World) (hv : Reads w v zs) (hroom : zs.length * 8 ≤ 140737488355328) (hs : s.size ≤ 9223372036854775807) (hT : Tabs w) :
    Calls Tryd.prog 5 #[v, .string s] w fun e w' => e = .returned (.bool true) ∧ Below w.heap.size w w' := by
  go_enter Tryd.func5, Tryd.ntmps5
  go_wp2_with fail
  refine (fed_one ⟨#[255, 97]⟩ w hT (by rw [size2]; decide)).mono ?_
  intro e w1 h
  obtain ⟨hb1, v1, rfl, hown1⟩ := fed_good1 (s := [255, 97]) (by decide) dec_ff h
  rw [closed_nil] at hown1
  have hr1 := owned_reads hown1
  have hbw1 := below_after hb1
  clear h hb1 hown1
  go_wp2_with fail
  refine (equal_same _ _ [65533, 97] _ (hr1.below ((Below.refl _ _).alloc (Nat.le_refl _) _)) (new_reads w1 65533 97) (by decide)).mono ?_
  rintro e w2 ⟨rfl, hw2⟩
  have hbw2 : Below w.heap.size w w2 := by obtain ⟨q, rfl⟩ := hw2; exact below_drewN (hbw1.alloc hbw1.size _) q
  clear hw2 hr1 hbw1
  go_wp2_with fail
  refine (text_reads v zs _ (hv.below hbw2) hroom).mono ?_
  rintro e w3 ⟨hb3, h3⟩
  have hbw3 := below_trans hbw2 hb3
  clear hb3 hbw2
  rcases h3 with ⟨hval, rfl⟩ | ⟨_, rfl⟩
  · obtain ⟨t, ht1, ht2, ht3⟩ := feedWaits.str_some (Plain.text (nats zs))
    unfold str at ht3
    rw [ht3]
    have Ht1 : Hid (t.data.toList = Plain.text (nats zs)) := ht1
    have hts : t.size ≤ 9223372036854775807 := by
      have := Plain.text_le (nats zs)
      rw [nats_len] at this
      omega
    clear ht1 ht2 ht3
    by_cases hsz : t.size ≤ 4096
    · go_wp2_with fail
      refine (fed_one t _ (hT.below hbw3) hts).mono ?_
      intro e w4 h4
      obtain ⟨hb4, v4, rfl, hown4⟩ := fed_good1 (by rw [size_list]; exact hsz) (by rw [Ht1.out]; exact Plain.dec_text (nats zs) (nats_oks hval)) h4
      rw [closed_nil] at hown4
      have hr4 := owned_reads hown4
      rw [casts_nats hval] at hr4
      have hbw4 := below_trans hbw3 (below_after hb4)
      clear h4 hb4 hown4 hbw3
      go_wp2_with fail
      refine (equal_same _ _ zs _ hr4 (hv.below hbw4) hroom).mono ?_
      rintro e w5 ⟨rfl, hw5⟩
      have hbw5 : Below w.heap.size w w5 := by obtain ⟨q, rfl⟩ := hw5; exact below_drewN hbw4 q
      clear hw5 hr4 hbw4
      go_wp2_with fail
      refine (fed_one s w5 (hT.below hbw5) hs).mono ?_
      rintro e w6 ⟨hb6, h6⟩
      have hbw6 := below_trans hbw5 (below_after hb6)
      clear hb6
      rcases h6 with ⟨⟨t, ht, h1⟩, rfl⟩ | ⟨h1, cs, m, v6, hdec, rfl, hown6⟩
      · simp at ht
        subst ht
        rw [size_list] at h1
        go_wp2_with fail
        go_ret
        exact ⟨by simp; omega, hbw6⟩
      · simp only [List.flatten_cons, List.flatten_nil, List.append_nil] at hdec
        have h96 : s.size ≤ 4096 := by rw [← size_list]; exact h1 _ (by simp)
        obtain ⟨hoks, hlen, hdrop⟩ := hdec.1.facts
        clear hdrop
        rw [size_list] at hlen
        have hcl := closed_len hlen
        have hco : Hid (Plain.Oks (Plain.closed cs m)) := closed_oks (m := m) hoks
        have hr6 := owned_reads hown6
        obtain ⟨a6, cap6, hv6⟩ := feedWaits.owned_any hown6
        obtain ⟨nc, hnc⟩ : ∃ nc, (Plain.closed cs m).length = nc := ⟨_, rfl⟩
        rw [hnc] at hcl hv6
        have Hnc : Hid ((Plain.closed cs m).length = nc) := hnc
        clear hnc
        subst hv6
        have Hdec : Hid (Plain.Dec cs s.data.toList m) := hdec
        clear h1 hdec hoks hlen hown6
        go_wp2_with fail
        refine (text_reads _ _ _ hr6 (by rw [casts_len, Hnc.out]; omega)).mono ?_
        intro e w7 h7
        obtain ⟨hb7, rfl⟩ := text_good hco.out h7
        have hbw7 := below_trans hbw6 hb7
        clear h7 hb7 hr6 hbw6
        obtain ⟨r, hr1, hr2, hr3⟩ := feedWaits.str_some (Plain.text (Plain.closed cs m))
        unfold str at hr3
        rw [hr3]
        have Hr1 : Hid (r.data.toList = Plain.text (Plain.closed cs m)) := hr1
        clear hr1 hr2 hr3
        clear hco
        go_wp2_with fail
        refine (all_any s _ hs (fun ds q hq => by have h8 := hq.len; have h9 := hq.le; rw [size_list] at h9; omega)).mono ?_
        rintro e w8 ⟨hb8, ds, q, er, v8, hq, rfl, hc8⟩
        have hbw8 := below_trans hbw7 hb8
        clear hb8 hbw7
        rcases hc8 with ⟨rfl, hqe, hx0⟩ | ⟨her, hx1, hx2, hx3⟩
        · have hsd : s.data.toList = Plain.text ds := by
            have := hq.eq
            rw [hqe, List.drop_of_length_le (Nat.le_refl _), List.append_nil] at this
            exact this
          have hdt : Plain.Dec ds s.data.toList [] := by rw [hsd]; exact Plain.dec_text ds hq.oks
          obtain ⟨hcd, hmd⟩ := Hdec.out.one hdt
          have hrs : r = s := by
            apply ByteArray.ext
            apply Array.ext'
            rw [Hr1.out, hcd, hmd, closed_nil, ← hsd]
          clear hsd hdt hcd hmd hq hqe hx0
          subst hrs
          go_wp2_with fail
          go_ret
          exact ⟨by simp; try omega, hbw8⟩
        · have he0 : ((er : Int) == 0) = false := by simp; omega
          clear hq hx1 hx2 hx3
          go_wp2_with fail
          go_ret
          exact ⟨by simp; try omega, hbw8⟩
    · go_wp2_with fail
      refine (fed_one s w3 (hT.below hbw3) hs).mono ?_
      rintro e w6 ⟨hb6, h6⟩
      have hbw6 := below_trans hbw3 (below_after hb6)
      clear hb6
      rcases h6 with ⟨⟨t, ht, h1⟩, rfl⟩ | ⟨h1, cs, m, v6, hdec, rfl, hown6⟩
      · simp at ht
        subst ht
        rw [size_list] at h1
        go_wp2_with fail
        go_ret
        exact ⟨by simp; omega, hbw6⟩
      · simp only [List.flatten_cons, List.flatten_nil, List.append_nil] at hdec
        have h96 : s.size ≤ 4096 := by rw [← size_list]; exact h1 _ (by simp)
        obtain ⟨hoks, hlen, hdrop⟩ := hdec.1.facts
        clear hdrop
        rw [size_list] at hlen
        have hcl := closed_len hlen
        have hco : Hid (Plain.Oks (Plain.closed cs m)) := closed_oks (m := m) hoks
        have hr6 := owned_reads hown6
        obtain ⟨a6, cap6, hv6⟩ := feedWaits.owned_any hown6
        obtain ⟨nc, hnc⟩ : ∃ nc, (Plain.closed cs m).length = nc := ⟨_, rfl⟩
        rw [hnc] at hcl hv6
        have Hnc : Hid ((Plain.closed cs m).length = nc) := hnc
        clear hnc
        subst hv6
        have Hdec : Hid (Plain.Dec cs s.data.toList m) := hdec
        clear h1 hdec hoks hlen hown6
        go_wp2_with fail
        refine (text_reads _ _ _ hr6 (by rw [casts_len, Hnc.out]; omega)).mono ?_
        intro e w7 h7
        obtain ⟨hb7, rfl⟩ := text_good hco.out h7
        have hbw7 := below_trans hbw6 hb7
        clear h7 hb7 hr6 hbw6
        obtain ⟨r, hr1, hr2, hr3⟩ := feedWaits.str_some (Plain.text (Plain.closed cs m))
        unfold str at hr3
        rw [hr3]
        have Hr1 : Hid (r.data.toList = Plain.text (Plain.closed cs m)) := hr1
        clear hr1 hr2 hr3
        clear hco
        go_wp2_with fail
        refine (all_any s _ hs (fun ds q hq => by have h8 := hq.len; have h9 := hq.le; rw [size_list] at h9; omega)).mono ?_
        rintro e w8 ⟨hb8, ds, q, er, v8, hq, rfl, hc8⟩
        have hbw8 := below_trans hbw7 hb8
        clear hb8 hbw7
        rcases hc8 with ⟨rfl, hqe, hx0⟩ | ⟨her, hx1, hx2, hx3⟩
        · have hsd : s.data.toList = Plain.text ds := by
            have := hq.eq
            rw [hqe, List.drop_of_length_le (Nat.le_refl _), List.append_nil] at this
            exact this
          have hdt : Plain.Dec ds s.data.toList [] := by rw [hsd]; exact Plain.dec_text ds hq.oks
          obtain ⟨hcd, hmd⟩ := Hdec.out.one hdt
          have hrs : r = s := by
            apply ByteArray.ext
            apply Array.ext'
            rw [Hr1.out, hcd, hmd, closed_nil, ← hsd]
          clear hsd hdt hcd hmd hq hqe hx0
          subst hrs
          go_wp2_with fail
          go_ret
          exact ⟨by simp; try omega, hbw8⟩
        · have he0 : ((er : Int) == 0) = false := by simp; omega
          clear hq hx1 hx2 hx3
          go_wp2_with fail
          go_ret
          exact ⟨by simp; try omega, hbw8⟩
  · go_wp2_with fail
    refine (fed_one s w3 (hT.below hbw3) hs).mono ?_
    rintro e w6 ⟨hb6, h6⟩
    have hbw6 := below_trans hbw3 (below_after hb6)
    clear hb6
    rcases h6 with ⟨⟨t, ht, h1⟩, rfl⟩ | ⟨h1, cs, m, v6, hdec, rfl, hown6⟩
    · simp at ht
      subst ht
      rw [size_list] at h1
      go_wp2_with fail
      go_ret
      exact ⟨by simp; omega, hbw6⟩
    · simp only [List.flatten_cons, List.flatten_nil, List.append_nil] at hdec
      have h96 : s.size ≤ 4096 := by rw [← size_list]; exact h1 _ (by simp)
      obtain ⟨hoks, hlen, hdrop⟩ := hdec.1.facts
      clear hdrop
      rw [size_list] at hlen
      have hcl := closed_len hlen
      have hco : Hid (Plain.Oks (Plain.closed cs m)) := closed_oks (m := m) hoks
      have hr6 := owned_reads hown6
      obtain ⟨a6, cap6, hv6⟩ := feedWaits.owned_any hown6
      obtain ⟨nc, hnc⟩ : ∃ nc, (Plain.closed cs m).length = nc := ⟨_, rfl⟩
      rw [hnc] at hcl hv6
      have Hnc : Hid ((Plain.closed cs m).length = nc) := hnc
      clear hnc
      subst hv6
      have Hdec : Hid (Plain.Dec cs s.data.toList m) := hdec
      clear h1 hdec hoks hlen hown6
      go_wp2_with fail
      refine (text_reads _ _ _ hr6 (by rw [casts_len, Hnc.out]; omega)).mono ?_
      intro e w7 h7
      obtain ⟨hb7, rfl⟩ := text_good hco.out h7
      have hbw7 := below_trans hbw6 hb7
      clear h7 hb7 hr6 hbw6
      obtain ⟨r, hr1, hr2, hr3⟩ := feedWaits.str_some (Plain.text (Plain.closed cs m))
      unfold str at hr3
      rw [hr3]
      have Hr1 : Hid (r.data.toList = Plain.text (Plain.closed cs m)) := hr1
      clear hr1 hr2 hr3
      clear hco
      go_wp2_with fail
      refine (all_any s _ hs (fun ds q hq => by have h8 := hq.len; have h9 := hq.le; rw [size_list] at h9; omega)).mono ?_
      rintro e w8 ⟨hb8, ds, q, er, v8, hq, rfl, hc8⟩
      have hbw8 := below_trans hbw7 hb8
      clear hb8 hbw7
      rcases hc8 with ⟨rfl, hqe, hx0⟩ | ⟨her, hx1, hx2, hx3⟩
      · have hsd : s.data.toList = Plain.text ds := by
          have := hq.eq
          rw [hqe, List.drop_of_length_le (Nat.le_refl _), List.append_nil] at this
          exact this
        have hdt : Plain.Dec ds s.data.toList [] := by rw [hsd]; exact Plain.dec_text ds hq.oks
        obtain ⟨hcd, hmd⟩ := Hdec.out.one hdt
        have hrs : r = s := by
          apply ByteArray.ext
          apply Array.ext'
          rw [Hr1.out, hcd, hmd, closed_nil, ← hsd]
        clear hsd hdt hcd hmd hq hqe hx0
        subst hrs
        go_wp2_with fail
        go_ret
        exact ⟨by simp; try omega, hbw8⟩
      · have he0 : ((er : Int) == 0) = false := by simp; omega
        clear hq hx1 hx2 hx3
        go_wp2_with fail
        go_ret
        exact ⟨by simp; try omega, hbw8⟩
end Go.Proofs.YtbefcdkjkjeonaaDoor.feedGood
