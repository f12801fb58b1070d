/- The walk of FeedCuts. -/
import Derived.Test.YtbefcdkjkjeonaaDoorGoodWalk
set_option linter.unusedVariables false
set_option linter.unusedSimpArgs false
namespace Go.Proofs.YtbefcdkjkjeonaaDoor.feedCuts
open Go.RowKit Utf

theorem dec_e2 : Plain.Dec [] [226, 130] [226, 130] := ⟨rfl, by decide +kernel⟩
/-- What fed says, in one shape. -/
theorem fed_shape {parts : List (List UInt8)} {w w' : World} {e : Ending} (h : FedPost parts w e w') :
    Below w.heap.size w w' ∧ ∃ v ok, e = .returned (.tuple #[v, .bool ok]) ∧
      ((ok = false ∧ ∃ s ∈ parts, 4096 < s.length) ∨ (ok = true ∧ (∀ s ∈ parts, s.length ≤ 4096) ∧ ∃ cs m, Plain.Dec cs parts.flatten m ∧ Reads w' v (casts (Plain.closed cs m)))) := by
  obtain ⟨hb, h⟩ := h
  rcases h with ⟨h1, rfl⟩ | ⟨h1, cs, m, v, hdec, rfl, hown⟩
  · exact ⟨hb, _, _, rfl, .inl ⟨rfl, h1⟩⟩
  · exact ⟨hb, _, _, rfl, .inr ⟨rfl, h1, cs, m, hdec, owned_reads hown⟩⟩
theorem fed_two (a b : ByteArray) (w : World) (hT : Tabs w) (ha : a.size ≤ 9223372036854775807) (hb : b.size ≤ 9223372036854775807) :
    Calls Tryd.prog 13 #[.slice (some ⟨w.heap.size, 0, none⟩) 2 2] (w.alloc (.cells #[.string a, .string b] 9)) fun e w' => FedPost [a.data.toList, b.data.toList] (w.alloc (.cells #[.string a, .string b] 9)) e w' := by
  refine fed_any w.heap.size 2 2 [a.data.toList, b.data.toList] _ (tabs_alloc hT _) rfl (by omega) (by simp) ?_ ?_
  · intro j hj
    simp at hj
    rcases (by omega : j = 0 ∨ j = 1) with rfl | rfl
    · show a.data.toList.length ≤ _
      rw [size_list]; exact ha
    · show b.data.toList.length ≤ _
      rw [size_list]; exact hb
  · intro j hj
    simp at hj
    rcases (by omega : j = 0 ∨ j = 1) with rfl | rfl
    · show _ = some (Value.string ⟨a.data.toList.toArray⟩)
      rw [mk_list]; simp
    · show _ = some (Value.string ⟨b.data.toList.toArray⟩)
      rw [mk_list]; simp
theorem fed_three (a b c : ByteArray) (w : World) (hT : Tabs w) (ha : a.size ≤ 9223372036854775807) (hb : b.size ≤ 9223372036854775807) (hc : c.size ≤ 9223372036854775807) :
    Calls Tryd.prog 13 #[.slice (some ⟨w.heap.size, 0, none⟩) 3 3] (w.alloc (.cells #[.string a, .string b, .string c] 9)) fun e w' => FedPost [a.data.toList, b.data.toList, c.data.toList] (w.alloc (.cells #[.string a, .string b, .string c] 9)) e w' := by
  refine fed_any w.heap.size 3 3 [a.data.toList, b.data.toList, c.data.toList] _ (tabs_alloc hT _) rfl (by omega) (by simp) ?_ ?_
  · intro j hj
    simp at hj
    rcases (by omega : j = 0 ∨ j = 1 ∨ j = 2) with rfl | rfl | rfl
    · show a.data.toList.length ≤ _
      rw [size_list]; exact ha
    · show b.data.toList.length ≤ _
      rw [size_list]; exact hb
    · show c.data.toList.length ≤ _
      rw [size_list]; exact hc
  · intro j hj
    simp at hj
    rcases (by omega : j = 0 ∨ j = 1 ∨ j = 2) with rfl | rfl | rfl
    · show _ = some (Value.string ⟨a.data.toList.toArray⟩)
      rw [mk_list]; simp
    · show _ = some (Value.string ⟨b.data.toList.toArray⟩)
      rw [mk_list]; simp
    · show _ = some (Value.string ⟨c.data.toList.toArray⟩)
      rw [mk_list]; simp
theorem room {cs : List Nat} {m l : List UInt8} (hd : Plain.Dec cs l m) (hl : l.length ≤ 4096) : (casts (Plain.closed cs m)).length * 8 ≤ 140737488355328 := by
  have := feedGood.closed_len hd.1.facts.2.1
  rw [casts_len]
  omega

set_option maxHeartbeats 4000000 in
set_option maxRecDepth 100000 in
theorem walk (a b c : ByteArray) (w : World) (ha : a.size ≤ 140737488351232) (hb : b.size ≤ 140737488351232) (hc : c.size ≤ 140737488351232) (hT : Tabs w) :
    Calls Tryd.prog 4 #[.string a, .string b, .string c] w fun e w' => e = .returned (.bool true) ∧ Below w.heap.size w w' := by
  go_enter Tryd.func4, Tryd.ntmps4
  go_wp2_with fail
  refine (feed_any ⟨#[226]⟩ ⟨#[130]⟩ _ (by decide) (by decide) hT).mono ?_
  intro e w1 h
  obtain ⟨hb1, v1, rfl, hown1⟩ := feedWaits.feed_good (p := [226]) (s := [130]) (by decide +kernel) (by decide) dec_e2 h
  obtain ⟨a1, cap1, rfl⟩ := feedWaits.owned_zero hown1
  clear h hown1
  unfold str
  go_wp2_with fail
  refine (fed_three a b c _ (hT.below hb1) (by omega) (by omega) (by omega)).mono ?_
  intro e w2 h
  obtain ⟨hb2, v2, ok2, rfl, h2⟩ := fed_shape h
  have hbw2 := below_trans hb1 (below_after hb2)
  clear h hb2 hb1
  have H2 : Hid _ := h2
  clear h2
  go_wp2_with fail
  refine (fed_one (a ++ b ++ c) _ (hT.below hbw2) (by rw [ByteArray.size_append, ByteArray.size_append]; omega)).mono ?_
  intro e w3 h
  obtain ⟨hb3, v3, ok3, rfl, h3⟩ := fed_shape h
  have hb3' := below_after hb3
  have hbw3 := below_trans hbw2 hb3'
  clear h hb3 hbw2
  have H3 : Hid _ := h3
  clear h3
  go_wp2_with fail
  refine (fed_two a (b ++ c) _ (hT.below hbw3) (by omega) (by rw [ByteArray.size_append]; omega)).mono ?_
  intro e w4 h
  obtain ⟨hb4, v4, ok4, rfl, h4⟩ := fed_shape h
  have hb4' := below_after hb4
  have hbw4 := below_trans hbw3 hb4'
  clear h hb4 hbw3
  have H4 : Hid _ := h4
  clear h4
  rcases H3.out with ⟨rfl, _⟩ | ⟨rfl, h3, cs, m, hd3, hr3⟩
  · clear H2 H3 H4
    go_wp2_with fail
    go_ret
    exact ⟨rfl, hbw4⟩
  · have hlen : a.size + b.size + c.size ≤ 4096 := by
      have := h3 _ (List.mem_cons_self ..)
      rw [size_list, ByteArray.size_append, ByteArray.size_append] at this
      exact this
    have hl : (a ++ b ++ c).data.toList = a.data.toList ++ (b.data.toList ++ c.data.toList) := by
      rw [append_list, append_list, List.append_assoc]
    simp only [List.flatten_cons, List.flatten_nil, List.append_nil] at hd3
    rw [hl] at hd3
    have hroom := room hd3 (by rw [List.length_append, List.length_append, size_list, size_list, size_list]; omega)
    rcases H2.out with ⟨_, s, hs, h96⟩ | ⟨rfl, _, cs2, m2, hd2, hr2⟩
    · exfalso
      simp at hs
      rcases hs with rfl | rfl | rfl <;> (rw [size_list] at h96; omega)
    · rcases H4.out with ⟨_, s, hs, h96⟩ | ⟨rfl, _, cs4, m4, hd4, hr4⟩
      · exfalso
        simp only [List.mem_cons, List.not_mem_nil, or_false] at hs
        rcases hs with rfl | rfl
        · rw [size_list] at h96; omega
        · rw [size_list, ByteArray.size_append] at h96; omega
      · simp only [List.flatten_cons, List.flatten_nil, List.append_nil] at hd2 hd4
        rw [append_list] at hd4
        obtain ⟨rfl, rfl⟩ := hd3.one hd2
        obtain ⟨rfl, rfl⟩ := hd3.one hd4
        have hr2' := (hr2.below hb3').below hb4'
        have hr3' := hr3.below hb4'
        generalize casts (Plain.closed cs m) = zs at hroom hr2' hr3' hr4
        clear hd3 hd2 hd4 hl hr2 hr3 H2 H3 H4 h3 hb3' hb4' hlen
        go_wp2_with fail
        refine (equal_same _ _ zs _ hr2' hr3' hroom).mono ?_
        rintro e w5 ⟨rfl, hw5⟩
        have hb5 : Below w4.heap.size w4 w5 := by obtain ⟨q, rfl⟩ := hw5; exact below_drewN (Below.refl _ _) q
        have hbw5 := below_trans hbw4 hb5
        have hr3b := hr3'.below hb5
        have hr4b := hr4.below hb5
        clear hw5 hr2' hr3' hr4 hbw4
        go_wp2_with fail
        refine (equal_same _ _ zs _ hr3b hr4b hroom).mono ?_
        rintro e w6 ⟨rfl, hw6⟩
        have hbw6 : Below w.heap.size w w6 := by obtain ⟨q, rfl⟩ := hw6; exact below_drewN hbw5 q
        clear hw6 hr3b hr4b hbw5
        go_wp2_with fail
        go_ret
        exact ⟨rfl, hbw6⟩
end Go.Proofs.YtbefcdkjkjeonaaDoor.feedCuts
