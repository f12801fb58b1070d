/- The contracts of utf8.FullRuneInString and of feed's isDecided and Check. -/
import Derived.Test.YtbefcdkjkjeonaaDoorFullRune
set_option linter.unusedVariables false
set_option linter.unusedSimpArgs false
namespace Go.Proofs.YtbefcdkjkjeonaaDoor.Utf
open Go.RowKit

theorem tabs_below {w w' : World} (h : Lib.Utf8Tabs 0 1 w) (h1 : 1 < w.heap.size) (hb : Below w.heap.size w w') : Lib.Utf8Tabs 0 1 w' :=
  ⟨fun c hc => (hb.cell (by show 0 < _; omega)).trans (h.1 c hc), fun i hi => ⟨(hb.cell (by show 1 < _; omega)).trans (h.2 i hi).1, (hb.cell (by show 1 < _; omega)).trans (h.2 i hi).2⟩⟩
theorem list0 (s : ByteArray) (h : s.size = 0) : s.data.toList = [] := List.eq_nil_of_length_eq_zero (by rw [Array.length_toList]; exact h)
theorem list1 (s : ByteArray) (h : s.size = 1) : s.data.toList = [s[0]] := by
  have h0 := drop_one s 0 (by omega)
  rw [List.drop_zero, drop_all s 1 (by omega)] at h0
  exact h0
theorem list2 (s : ByteArray) (h : s.size = 2) : s.data.toList = [s[0], s[1]] := by
  have h0 := drop_one s 0 (by omega)
  rw [List.drop_zero, drop_one s 1 (by omega), drop_all s 2 (by omega)] at h0
  exact h0
theorem list3 (s : ByteArray) (h : 2 < s.size) : s.data.toList = s[0] :: s[1] :: s[2] :: s.data.toList.drop 3 := by
  have h0 := drop_one s 0 (by omega)
  rw [List.drop_zero, drop_one s 1 (by omega), drop_one s 2 (by omega)] at h0
  exact h0
/-- Where the bytes are as many as the first one asks for. -/
theorem full_long (s : ByteArray) (h0 : 0 < s.size) (h : Lib.firstT s[0].toNat % 8 ≤ s.size) : Plain.full s.data.toList = true := by
  have e := drop_one s 0 (by omega)
  rw [List.drop_zero] at e
  have hl : (s.data.toList.drop 1).length + 1 = s.size := by rw [List.length_drop, Array.length_toList]; show s.size - 1 + 1 = _; omega
  rw [e]
  show (if Lib.firstT s[0].toNat % 8 ≤ (s.data.toList.drop 1).length + 1 then true else _) = true
  rw [if_pos (by rw [hl]; exact h)]
/-- utf8.FullRuneInString, of any string. -/
theorem fullrune_any (s : ByteArray) (w : World) (hs : s.size ≤ 9223372036854775807) (hT : Lib.Utf8Tabs 0 1 w) :
    Calls Tryd.prog 27 #[.string s] w fun e w' => e = .returned (.bool (Plain.full s.data.toList)) ∧ Below w.heap.size w w' := by
  by_cases h00 : s.size = 0
  · rw [list0 s h00]
    obtain rfl := is_nil s h00
    go_enter Tryd.func27, Tryd.ntmps27
    go_wp2_with fail
    go_ret
    exact ⟨rfl, Below.refl _ _⟩
  · have h0 : 0 < s.size := by omega
    obtain ⟨x0, hx0⟩ : ∃ x0, s[0].toNat = x0 := ⟨_, rfl⟩
    have hc0 := hT.1 x0 (by rw [← hx0]; exact UInt8.toNat_lt _)
    rcases Lib.firstT_cases x0 with hX | hX | hX | hX | hX | hX | hX | hX | hX
    · -- 240
      rw [hX] at hc0
      rw [full_long s h0 (by rw [hx0, hX]; omega)]
      exact fr240_all s w x0 h0 (by omega) hx0 hc0
    · -- 241
      rw [hX] at hc0
      rw [full_long s h0 (by rw [hx0, hX]; omega)]
      exact fr241_all s w x0 h0 (by omega) hx0 hc0
    · -- 2
      rw [hX] at hc0
      have ha0 := (hT.2 0 (by omega)).1
      have ha1 := (hT.2 0 (by omega)).2
      simp only [Lib.accLo, Lib.accHi, Nat.reduceMul, Nat.reduceAdd, Nat.reduceEqDiff, if_true, if_false] at ha0 ha1
      by_cases hk : 2 ≤ s.size
      · rw [full_long s h0 (by rw [hx0, hX]; omega)]
        exact fr2_all s w x0 h0 hk hx0 hc0
      · by_cases n1 : s.size = 1
        · rw [list1 s n1, Plain.full1, hx0, hX]
          exact fr2_1 s w x0 h0 (by omega) hx0 hc0 ha0 ha1
        · omega
    · -- 19
      rw [hX] at hc0
      have ha0 := (hT.2 1 (by omega)).1
      have ha1 := (hT.2 1 (by omega)).2
      simp only [Lib.accLo, Lib.accHi, Nat.reduceMul, Nat.reduceAdd, Nat.reduceEqDiff, if_true, if_false] at ha0 ha1
      by_cases hk : 3 ≤ s.size
      · rw [full_long s h0 (by rw [hx0, hX]; omega)]
        exact fr19_all s w x0 h0 hk hx0 hc0
      · by_cases n1 : s.size = 1
        · rw [list1 s n1, Plain.full1, hx0, hX]
          exact fr19_1 s w x0 h0 (by omega) hx0 hc0 ha0 ha1
        · by_cases n2 : s.size = 2
          · rw [list2 s n2, Plain.full2, hx0, hX]
            have := fr19_2 s w x0 s[1].toNat (by omega) (by omega) hx0 rfl hc0 ha0 ha1
            simpa [Lib.accLo, Lib.accHi] using this
          · omega
    · -- 3
      rw [hX] at hc0
      have ha0 := (hT.2 0 (by omega)).1
      have ha1 := (hT.2 0 (by omega)).2
      simp only [Lib.accLo, Lib.accHi, Nat.reduceMul, Nat.reduceAdd, Nat.reduceEqDiff, if_true, if_false] at ha0 ha1
      by_cases hk : 3 ≤ s.size
      · rw [full_long s h0 (by rw [hx0, hX]; omega)]
        exact fr3_all s w x0 h0 hk hx0 hc0
      · by_cases n1 : s.size = 1
        · rw [list1 s n1, Plain.full1, hx0, hX]
          exact fr3_1 s w x0 h0 (by omega) hx0 hc0 ha0 ha1
        · by_cases n2 : s.size = 2
          · rw [list2 s n2, Plain.full2, hx0, hX]
            have := fr3_2 s w x0 s[1].toNat (by omega) (by omega) hx0 rfl hc0 ha0 ha1
            simpa [Lib.accLo, Lib.accHi] using this
          · omega
    · -- 35
      rw [hX] at hc0
      have ha0 := (hT.2 2 (by omega)).1
      have ha1 := (hT.2 2 (by omega)).2
      simp only [Lib.accLo, Lib.accHi, Nat.reduceMul, Nat.reduceAdd, Nat.reduceEqDiff, if_true, if_false] at ha0 ha1
      by_cases hk : 3 ≤ s.size
      · rw [full_long s h0 (by rw [hx0, hX]; omega)]
        exact fr35_all s w x0 h0 hk hx0 hc0
      · by_cases n1 : s.size = 1
        · rw [list1 s n1, Plain.full1, hx0, hX]
          exact fr35_1 s w x0 h0 (by omega) hx0 hc0 ha0 ha1
        · by_cases n2 : s.size = 2
          · rw [list2 s n2, Plain.full2, hx0, hX]
            have := fr35_2 s w x0 s[1].toNat (by omega) (by omega) hx0 rfl hc0 ha0 ha1
            simpa [Lib.accLo, Lib.accHi] using this
          · omega
    · -- 52
      rw [hX] at hc0
      have ha0 := (hT.2 3 (by omega)).1
      have ha1 := (hT.2 3 (by omega)).2
      simp only [Lib.accLo, Lib.accHi, Nat.reduceMul, Nat.reduceAdd, Nat.reduceEqDiff, if_true, if_false] at ha0 ha1
      by_cases hk : 4 ≤ s.size
      · rw [full_long s h0 (by rw [hx0, hX]; omega)]
        exact fr52_all s w x0 h0 hk hx0 hc0
      · by_cases n1 : s.size = 1
        · rw [list1 s n1, Plain.full1, hx0, hX]
          exact fr52_1 s w x0 h0 (by omega) hx0 hc0 ha0 ha1
        · by_cases n2 : s.size = 2
          · rw [list2 s n2, Plain.full2, hx0, hX]
            have := fr52_2 s w x0 s[1].toNat (by omega) (by omega) hx0 rfl hc0 ha0 ha1
            simpa [Lib.accLo, Lib.accHi] using this
          · rw [list3 s (by omega), Plain.full3, hx0, hX, drop_all s 3 (by omega)]
            have := fr52_3 s w x0 s[1].toNat s[2].toNat (by omega) (by omega) hx0 rfl rfl hc0 ha0 ha1
            simpa [Lib.accLo, Lib.accHi] using this
    · -- 4
      rw [hX] at hc0
      have ha0 := (hT.2 0 (by omega)).1
      have ha1 := (hT.2 0 (by omega)).2
      simp only [Lib.accLo, Lib.accHi, Nat.reduceMul, Nat.reduceAdd, Nat.reduceEqDiff, if_true, if_false] at ha0 ha1
      by_cases hk : 4 ≤ s.size
      · rw [full_long s h0 (by rw [hx0, hX]; omega)]
        exact fr4_all s w x0 h0 hk hx0 hc0
      · by_cases n1 : s.size = 1
        · rw [list1 s n1, Plain.full1, hx0, hX]
          exact fr4_1 s w x0 h0 (by omega) hx0 hc0 ha0 ha1
        · by_cases n2 : s.size = 2
          · rw [list2 s n2, Plain.full2, hx0, hX]
            have := fr4_2 s w x0 s[1].toNat (by omega) (by omega) hx0 rfl hc0 ha0 ha1
            simpa [Lib.accLo, Lib.accHi] using this
          · rw [list3 s (by omega), Plain.full3, hx0, hX, drop_all s 3 (by omega)]
            have := fr4_3 s w x0 s[1].toNat s[2].toNat (by omega) (by omega) hx0 rfl rfl hc0 ha0 ha1
            simpa [Lib.accLo, Lib.accHi] using this
    · -- 68
      rw [hX] at hc0
      have ha0 := (hT.2 4 (by omega)).1
      have ha1 := (hT.2 4 (by omega)).2
      simp only [Lib.accLo, Lib.accHi, Nat.reduceMul, Nat.reduceAdd, Nat.reduceEqDiff, if_true, if_false] at ha0 ha1
      by_cases hk : 4 ≤ s.size
      · rw [full_long s h0 (by rw [hx0, hX]; omega)]
        exact fr68_all s w x0 h0 hk hx0 hc0
      · by_cases n1 : s.size = 1
        · rw [list1 s n1, Plain.full1, hx0, hX]
          exact fr68_1 s w x0 h0 (by omega) hx0 hc0 ha0 ha1
        · by_cases n2 : s.size = 2
          · rw [list2 s n2, Plain.full2, hx0, hX]
            have := fr68_2 s w x0 s[1].toNat (by omega) (by omega) hx0 rfl hc0 ha0 ha1
            simpa [Lib.accLo, Lib.accHi] using this
          · rw [list3 s (by omega), Plain.full3, hx0, hX, drop_all s 3 (by omega)]
            have := fr68_3 s w x0 s[1].toNat s[2].toNat (by omega) (by omega) hx0 rfl rfl hc0 ha0 ha1
            simpa [Lib.accLo, Lib.accHi] using this

/-- feed.isDecided. -/
theorem decided_any (s : ByteArray) (w : World) (hs : s.size ≤ 9223372036854775807) (hT : Lib.Utf8Tabs 0 1 w) :
    Calls Tryd.prog 17 #[.string s] w fun e w' => e = .returned (.bool (Plain.full s.data.toList)) ∧ Below w.heap.size w w' := by
  go_enter Tryd.func17, Tryd.ntmps17
  go_wp2_with fail
  refine (fullrune_any s _ hs hT).mono ?_
  rintro e w1 ⟨rfl, hb⟩
  go_wp2_with fail
  go_ret
  exact ⟨rfl, hb⟩
/-- What Check says of bytes that are decided, or not. -/
def chk (b : Bool) : Int := cond b 4 0
/-- feed.Check. -/
theorem check_any (s : ByteArray) (w : World) (b : Bool) (hf : Hid (Plain.full s.data.toList = b)) (hs : s.size ≤ 9223372036854775807) (hT : Lib.Utf8Tabs 0 1 w) :
    Calls Tryd.prog 10 #[.string s] w fun e w' => e = .returned (.int .i64 (chk b)) ∧ Below w.heap.size w w' := by
  go_enter Tryd.func10, Tryd.ntmps10
  go_wp2_with fail
  refine (decided_any s _ hs hT).mono ?_
  rintro e w1 ⟨rfl, hb⟩
  rw [hf.out]
  cases b with
  | true =>
    go_wp2_with fail
    go_ret
    exact ⟨rfl, hb⟩
  | false =>
    go_wp2_with fail
    go_ret
    exact ⟨rfl, hb⟩
end Go.Proofs.YtbefcdkjkjeonaaDoor.Utf
