/- The contract of Get over the translation: whatever string is handed in, Get answers what 'Plain.get' says of its bytes, and leaves memory as it was. -/
import Derived.Test.YtbefcdkjkjeonaaDoorRows
import Derived.Test.YtbefcdkjkjeonaaDoorShelf
import Derived.Test.YtbefcdkjkjeonaaDoorCode
import Derived.WalkKit
import Derived.BigQuiet
import Derived.Deep.QuietTactic
set_option linter.unusedVariables false
namespace Go.Proofs.YtbefcdkjkjeonaaDoor.Utf
open Go.RowKit
theorem not_nil (s : ByteArray) (h0 : 0 < s.size) : (s.toList == []) = false := by
  rw [Lib.toList_data]
  cases hd : s.data.toList with
  | nil => exfalso; have h := congrArg List.length hd; rw [Array.length_toList] at h; have : s.size = s.data.size := rfl; simp only [List.length_nil] at h; omega
  | cons => rfl
theorem drop_one (s : ByteArray) (j : Nat) (h : j < s.size) : s.data.toList.drop j = s[j] :: s.data.toList.drop (j + 1) := by
  rw [List.drop_eq_getElem_cons (by simpa using h)]; rfl
theorem drop_all (s : ByteArray) (j : Nat) (h : s.size ≤ j) : s.data.toList.drop j = [] := List.drop_eq_nil_of_le (by simpa using h)
/-- What Get answers, as a value. -/
def out (p : Nat × Nat × Nat) : Ending := .returned (.tuple #[.int .i64 p.1, .int .i64 p.2.1, .int .i64 p.2.2])

set_option maxHeartbeats 1000000 in
theorem get2 (s : ByteArray) (x : Nat) (tl : List UInt8) (ht : Hid (s.data.toList.drop 1 = tl)) (w : World) (hs : s.size ≤ 9223372036854775807) (h0 : 0 < s.size) (hx : s[0].toNat = x) (hx2 : 192 ≤ x) (hx3 : x < 224) :
    Calls Tryd.prog 23 #[.string s] w fun e w' => e = out (Plain.fin 2 (Plain.cont 1 (x % 32) tl)) ∧ ∃ n, w' = w.drewN n := by
  have hne := not_nil s h0
  have hn := Plain.not8 x (by omega)
  have ha := Plain.and31F ⟨x, by omega⟩
  simp only at ha
  go_enter Tryd.func23, Tryd.ntmps23
  go_wp2_with fail
  refine (Tryd.bits_LeadingZeros8 _ _ (by omega) (by omega)).mono ?_
  rintro e w' ⟨rfl, rfl⟩
  rw [Plain.len8 x (by omega), if_neg (by omega), if_neg (by omega), if_pos hx3]
  go_wp2_with fail
  go_quiet (fail)
  go_wp2_with fail
  go_loop [6, 7] (fun c at' => ∃ j c' : Nat, 1 ≤ j ∧ j ≤ 2 ∧ j ≤ s.size ∧ c = .int .i64 (c' : Int) ∧ at' = .int .i64 (j : Int) ∧ c' < Plain.bd j ∧ Hid (Plain.cont 1 (x % 32) tl = Plain.cont (2 - j) c' (s.data.toList.drop j))) (fun _ at' => (2 - intOf at').toNat)
  case atStart => exact ⟨1, x % 32, by omega, by omega, by omega, by go_num, rfl, by show _ < 32; omega, congrArg _ ht.out.symm⟩
  case round =>
    obtain ⟨j, c', hj1, hj2, hj3, rfl, rfl, hc, Hc⟩ := hrel
    by_cases hlt : j < 2
    · by_cases hsz : j < s.size
      · have hd : Hid (s.data.toList.drop j = s[j] :: s.data.toList.drop (j + 1)) := drop_one s j hsz
        obtain ⟨y, hy⟩ : ∃ y, s[j].toNat = y := ⟨_, rfl⟩
        have hy2 : y < 256 := by rw [← hy]; exact UInt8.toNat_lt _
        have hb := Plain.bd_le j hj1 (by omega)
        have hA := Plain.and192 y hy2
        have hB := Plain.and63 y hy2
        have hC := Plain.or6 c' (y % 64) (by omega) (by omega)
        by_cases hq : y / 64 = 2
        · have hE : Hid (Plain.cont (2 - j) c' (s.data.toList.drop j) = Plain.cont (2 - (j + 1)) (c' * 64 + y % 64) (s.data.toList.drop (j + 1))) := by
            rw [hd.out, show 2 - j = (2 - (j + 1)) + 1 from by omega]
            show (if s[j].toNat / 64 = 2 then _ else _) = _
            rw [hy, if_pos hq]
          have hbd : c' * 64 + y % 64 < Plain.bd (j + 1) := by rw [Plain.bd_succ j hj1]; omega
          go_wp2_with fail
          refine ⟨⟨j + 1, c' * 64 + y % 64, by omega, by omega, by omega, ?_, by go_num, hbd, Hc.out.trans hE.out⟩, by simp [intOf]; omega⟩
          rw [← hC]; go_num
        · have hE : Hid (Plain.cont (2 - j) c' (s.data.toList.drop j) = (0, 4)) := by
            rw [hd.out, show 2 - j = (2 - (j + 1)) + 1 from by omega]
            show (if s[j].toNat / 64 = 2 then _ else _) = _
            rw [hy, if_neg hq]
          go_wp2_with fail
          go_ret3
          refine ⟨?_, _, rfl⟩
          rw [Hc.out, hE.out]
          rfl
      · have hE : Hid (Plain.cont (2 - j) c' (s.data.toList.drop j) = (0, 3)) := by
          rw [drop_all s j (by omega), show 2 - j = (2 - (j + 1)) + 1 from by omega]
          rfl
        go_wp2_with fail
        go_ret3
        refine ⟨?_, _, rfl⟩
        rw [Hc.out, hE.out]
        rfl
    · obtain rfl : j = 2 := by omega
      have hE : Hid (Plain.cont (2 - 2) c' (s.data.toList.drop 2) = (c', 0)) := rfl
      have hb := Plain.bd_le 2 (by omega) (by omega)
      go_wp2_with fail
      refine (Tryd.utf8_RuneLen _ _).mono ?_
      rintro e w2 ⟨rfl, rfl⟩
      by_cases hr : Lib.runeLen (c' : Int) = 2
      · have hE2 : Hid (Plain.fin 2 (c', 0) = (c', 2, 0)) := by
          unfold Plain.fin
          rw [if_pos rfl]
          exact if_pos hr
        have hr2 : (Lib.runeLen (c' : Int) == 2) = true := by simp [hr]
        clear hr
        go_wp2_with fail
        go_ret3
        refine ⟨?_, _, rfl⟩
        rw [Hc.out, hE.out, hE2.out]
        rfl
      · have hE2 : Hid (Plain.fin 2 (c', 0) = (0, 0, 4)) := by
          unfold Plain.fin
          rw [if_pos rfl]
          exact if_neg hr
        have hr2 : (Lib.runeLen (c' : Int) == 2) = false := by simp [hr]
        clear hr
        go_wp2_with fail
        go_ret3
        refine ⟨?_, _, rfl⟩
        rw [Hc.out, hE.out, hE2.out]
        rfl

set_option maxHeartbeats 1000000 in
theorem get3 (s : ByteArray) (x : Nat) (tl : List UInt8) (ht : Hid (s.data.toList.drop 1 = tl)) (w : World) (hs : s.size ≤ 9223372036854775807) (h0 : 0 < s.size) (hx : s[0].toNat = x) (hx2 : 224 ≤ x) (hx3 : x < 240) :
    Calls Tryd.prog 23 #[.string s] w fun e w' => e = out (Plain.fin 3 (Plain.cont 2 (x % 16) tl)) ∧ ∃ n, w' = w.drewN n := by
  have hne := not_nil s h0
  have hn := Plain.not8 x (by omega)
  have ha := Plain.and15F ⟨x, by omega⟩
  simp only at ha
  go_enter Tryd.func23, Tryd.ntmps23
  go_wp2_with fail
  refine (Tryd.bits_LeadingZeros8 _ _ (by omega) (by omega)).mono ?_
  rintro e w' ⟨rfl, rfl⟩
  rw [Plain.len8 x (by omega), if_neg (by omega), if_neg (by omega), if_neg (by omega), if_pos hx3]
  go_wp2_with fail
  go_quiet (fail)
  go_wp2_with fail
  go_loop [6, 7] (fun c at' => ∃ j c' : Nat, 1 ≤ j ∧ j ≤ 3 ∧ j ≤ s.size ∧ c = .int .i64 (c' : Int) ∧ at' = .int .i64 (j : Int) ∧ c' < Plain.bd j ∧ Hid (Plain.cont 2 (x % 16) tl = Plain.cont (3 - j) c' (s.data.toList.drop j))) (fun _ at' => (3 - intOf at').toNat)
  case atStart => exact ⟨1, x % 16, by omega, by omega, by omega, by go_num, rfl, by show _ < 32; omega, congrArg _ ht.out.symm⟩
  case round =>
    obtain ⟨j, c', hj1, hj2, hj3, rfl, rfl, hc, Hc⟩ := hrel
    by_cases hlt : j < 3
    · by_cases hsz : j < s.size
      · have hd : Hid (s.data.toList.drop j = s[j] :: s.data.toList.drop (j + 1)) := drop_one s j hsz
        obtain ⟨y, hy⟩ : ∃ y, s[j].toNat = y := ⟨_, rfl⟩
        have hy2 : y < 256 := by rw [← hy]; exact UInt8.toNat_lt _
        have hb := Plain.bd_le j hj1 (by omega)
        have hA := Plain.and192 y hy2
        have hB := Plain.and63 y hy2
        have hC := Plain.or6 c' (y % 64) (by omega) (by omega)
        by_cases hq : y / 64 = 2
        · have hE : Hid (Plain.cont (3 - j) c' (s.data.toList.drop j) = Plain.cont (3 - (j + 1)) (c' * 64 + y % 64) (s.data.toList.drop (j + 1))) := by
            rw [hd.out, show 3 - j = (3 - (j + 1)) + 1 from by omega]
            show (if s[j].toNat / 64 = 2 then _ else _) = _
            rw [hy, if_pos hq]
          have hbd : c' * 64 + y % 64 < Plain.bd (j + 1) := by rw [Plain.bd_succ j hj1]; omega
          go_wp2_with fail
          refine ⟨⟨j + 1, c' * 64 + y % 64, by omega, by omega, by omega, ?_, by go_num, hbd, Hc.out.trans hE.out⟩, by simp [intOf]; omega⟩
          rw [← hC]; go_num
        · have hE : Hid (Plain.cont (3 - j) c' (s.data.toList.drop j) = (0, 4)) := by
            rw [hd.out, show 3 - j = (3 - (j + 1)) + 1 from by omega]
            show (if s[j].toNat / 64 = 2 then _ else _) = _
            rw [hy, if_neg hq]
          go_wp2_with fail
          go_ret3
          refine ⟨?_, _, rfl⟩
          rw [Hc.out, hE.out]
          rfl
      · have hE : Hid (Plain.cont (3 - j) c' (s.data.toList.drop j) = (0, 3)) := by
          rw [drop_all s j (by omega), show 3 - j = (3 - (j + 1)) + 1 from by omega]
          rfl
        go_wp2_with fail
        go_ret3
        refine ⟨?_, _, rfl⟩
        rw [Hc.out, hE.out]
        rfl
    · obtain rfl : j = 3 := by omega
      have hE : Hid (Plain.cont (3 - 3) c' (s.data.toList.drop 3) = (c', 0)) := rfl
      have hb := Plain.bd_le 3 (by omega) (by omega)
      go_wp2_with fail
      refine (Tryd.utf8_RuneLen _ _).mono ?_
      rintro e w2 ⟨rfl, rfl⟩
      by_cases hr : Lib.runeLen (c' : Int) = 3
      · have hE2 : Hid (Plain.fin 3 (c', 0) = (c', 3, 0)) := by
          unfold Plain.fin
          rw [if_pos rfl]
          exact if_pos hr
        have hr2 : (Lib.runeLen (c' : Int) == 3) = true := by simp [hr]
        clear hr
        go_wp2_with fail
        go_ret3
        refine ⟨?_, _, rfl⟩
        rw [Hc.out, hE.out, hE2.out]
        rfl
      · have hE2 : Hid (Plain.fin 3 (c', 0) = (0, 0, 4)) := by
          unfold Plain.fin
          rw [if_pos rfl]
          exact if_neg hr
        have hr2 : (Lib.runeLen (c' : Int) == 3) = false := by simp [hr]
        clear hr
        go_wp2_with fail
        go_ret3
        refine ⟨?_, _, rfl⟩
        rw [Hc.out, hE.out, hE2.out]
        rfl

set_option maxHeartbeats 1000000 in
theorem get4 (s : ByteArray) (x : Nat) (tl : List UInt8) (ht : Hid (s.data.toList.drop 1 = tl)) (w : World) (hs : s.size ≤ 9223372036854775807) (h0 : 0 < s.size) (hx : s[0].toNat = x) (hx2 : 240 ≤ x) (hx3 : x < 248) :
    Calls Tryd.prog 23 #[.string s] w fun e w' => e = out (Plain.fin 4 (Plain.cont 3 (x % 8) tl)) ∧ ∃ n, w' = w.drewN n := by
  have hne := not_nil s h0
  have hn := Plain.not8 x (by omega)
  have ha := Plain.and7F ⟨x, by omega⟩
  simp only at ha
  go_enter Tryd.func23, Tryd.ntmps23
  go_wp2_with fail
  refine (Tryd.bits_LeadingZeros8 _ _ (by omega) (by omega)).mono ?_
  rintro e w' ⟨rfl, rfl⟩
  rw [Plain.len8 x (by omega), if_neg (by omega), if_neg (by omega), if_neg (by omega), if_neg (by omega), if_pos hx3]
  go_wp2_with fail
  go_quiet (fail)
  go_wp2_with fail
  go_loop [6, 7] (fun c at' => ∃ j c' : Nat, 1 ≤ j ∧ j ≤ 4 ∧ j ≤ s.size ∧ c = .int .i64 (c' : Int) ∧ at' = .int .i64 (j : Int) ∧ c' < Plain.bd j ∧ Hid (Plain.cont 3 (x % 8) tl = Plain.cont (4 - j) c' (s.data.toList.drop j))) (fun _ at' => (4 - intOf at').toNat)
  case atStart => exact ⟨1, x % 8, by omega, by omega, by omega, by go_num, rfl, by show _ < 32; omega, congrArg _ ht.out.symm⟩
  case round =>
    obtain ⟨j, c', hj1, hj2, hj3, rfl, rfl, hc, Hc⟩ := hrel
    by_cases hlt : j < 4
    · by_cases hsz : j < s.size
      · have hd : Hid (s.data.toList.drop j = s[j] :: s.data.toList.drop (j + 1)) := drop_one s j hsz
        obtain ⟨y, hy⟩ : ∃ y, s[j].toNat = y := ⟨_, rfl⟩
        have hy2 : y < 256 := by rw [← hy]; exact UInt8.toNat_lt _
        have hb := Plain.bd_le j hj1 (by omega)
        have hA := Plain.and192 y hy2
        have hB := Plain.and63 y hy2
        have hC := Plain.or6 c' (y % 64) (by omega) (by omega)
        by_cases hq : y / 64 = 2
        · have hE : Hid (Plain.cont (4 - j) c' (s.data.toList.drop j) = Plain.cont (4 - (j + 1)) (c' * 64 + y % 64) (s.data.toList.drop (j + 1))) := by
            rw [hd.out, show 4 - j = (4 - (j + 1)) + 1 from by omega]
            show (if s[j].toNat / 64 = 2 then _ else _) = _
            rw [hy, if_pos hq]
          have hbd : c' * 64 + y % 64 < Plain.bd (j + 1) := by rw [Plain.bd_succ j hj1]; omega
          go_wp2_with fail
          refine ⟨⟨j + 1, c' * 64 + y % 64, by omega, by omega, by omega, ?_, by go_num, hbd, Hc.out.trans hE.out⟩, by simp [intOf]; omega⟩
          rw [← hC]; go_num
        · have hE : Hid (Plain.cont (4 - j) c' (s.data.toList.drop j) = (0, 4)) := by
            rw [hd.out, show 4 - j = (4 - (j + 1)) + 1 from by omega]
            show (if s[j].toNat / 64 = 2 then _ else _) = _
            rw [hy, if_neg hq]
          go_wp2_with fail
          go_ret3
          refine ⟨?_, _, rfl⟩
          rw [Hc.out, hE.out]
          rfl
      · have hE : Hid (Plain.cont (4 - j) c' (s.data.toList.drop j) = (0, 3)) := by
          rw [drop_all s j (by omega), show 4 - j = (4 - (j + 1)) + 1 from by omega]
          rfl
        go_wp2_with fail
        go_ret3
        refine ⟨?_, _, rfl⟩
        rw [Hc.out, hE.out]
        rfl
    · obtain rfl : j = 4 := by omega
      have hE : Hid (Plain.cont (4 - 4) c' (s.data.toList.drop 4) = (c', 0)) := rfl
      have hb := Plain.bd_le 4 (by omega) (by omega)
      go_wp2_with fail
      refine (Tryd.utf8_RuneLen _ _).mono ?_
      rintro e w2 ⟨rfl, rfl⟩
      by_cases hr : Lib.runeLen (c' : Int) = 4
      · have hE2 : Hid (Plain.fin 4 (c', 0) = (c', 4, 0)) := by
          unfold Plain.fin
          rw [if_pos rfl]
          exact if_pos hr
        have hr2 : (Lib.runeLen (c' : Int) == 4) = true := by simp [hr]
        clear hr
        go_wp2_with fail
        go_ret3
        refine ⟨?_, _, rfl⟩
        rw [Hc.out, hE.out, hE2.out]
        rfl
      · have hE2 : Hid (Plain.fin 4 (c', 0) = (0, 0, 4)) := by
          unfold Plain.fin
          rw [if_pos rfl]
          exact if_neg hr
        have hr2 : (Lib.runeLen (c' : Int) == 4) = false := by simp [hr]
        clear hr
        go_wp2_with fail
        go_ret3
        refine ⟨?_, _, rfl⟩
        rw [Hc.out, hE.out, hE2.out]
        rfl

theorem is_nil (s : ByteArray) (h0 : s.size = 0) : s = ⟨#[]⟩ := by
  cases s with
  | mk d => cases d with
    | mk l => cases l with
      | nil => rfl
      | cons a r => exact absurd h0 (Nat.succ_ne_zero _)

set_option maxHeartbeats 400000 in
theorem get_nil (w : World) :
    Calls Tryd.prog 23 #[.string ⟨#[]⟩] w fun e w' => e = out (0, 0, 3) ∧ ∃ n, w' = w.drewN n := by
  go_enter Tryd.func23, Tryd.ntmps23
  go_wp2
  go_ret3
  exact ⟨rfl, 0, rfl⟩

set_option maxHeartbeats 400000 in
theorem get_ascii (s : ByteArray) (x : Nat) (w : World) (hs : s.size ≤ 9223372036854775807) (h0 : 0 < s.size) (hx : s[0].toNat = x) (hx3 : x < 128) :
    Calls Tryd.prog 23 #[.string s] w fun e w' => e = out (x, 1, 0) ∧ ∃ n, w' = w.drewN n := by
  have hne := not_nil s h0
  have hn := Plain.not8 x (by omega)
  go_enter Tryd.func23, Tryd.ntmps23
  go_wp2_with fail
  refine (Tryd.bits_LeadingZeros8 _ _ (by omega) (by omega)).mono ?_
  rintro e w' ⟨rfl, rfl⟩
  rw [Plain.len8 x (by omega), if_pos hx3]
  go_wp2_with fail
  go_ret3
  exact ⟨rfl, 0, rfl⟩

set_option maxHeartbeats 400000 in
theorem get_bad (s : ByteArray) (x : Nat) (w : World) (hs : s.size ≤ 9223372036854775807) (h0 : 0 < s.size) (hx : s[0].toNat = x) (hx2 : 128 ≤ x) (hx4 : x < 256) (hx3 : x < 192 ∨ 248 ≤ x) :
    Calls Tryd.prog 23 #[.string s] w fun e w' => e = out (0, 0, 4) ∧ ∃ n, w' = w.drewN n := by
  have hne := not_nil s h0
  have hn := Plain.not8 x (by omega)
  go_enter Tryd.func23, Tryd.ntmps23
  go_wp2_with fail
  refine (Tryd.bits_LeadingZeros8 _ _ (by omega) (by omega)).mono ?_
  rintro e w' ⟨rfl, rfl⟩
  have hv := Plain.len8 x (by omega)
  generalize (8 - (Lib.bitLen (255 - (x : Int)).toNat : Int)) = v at hv ⊢
  have hv2 : v = 1 ∨ 4 < v := by
    rw [hv]
    rcases hx3 with h | h
    · rw [if_neg (by omega), if_pos h]; exact .inl rfl
    · rw [if_neg (by omega), if_neg (by omega), if_neg (by omega), if_neg (by omega), if_neg (by omega)]
      right
      split
      · decide
      · split
        · decide
        · split <;> decide
  clear hv
  rcases hv2 with rfl | hv2
  · go_wp2_with fail
    go_ret3
    exact ⟨rfl, 0, rfl⟩
  · have h1 : (v == 0) = false := by simp; omega
    have h2 : (v == 1) = false := by simp; omega
    go_wp2_with fail
    go_ret3
    exact ⟨rfl, 0, rfl⟩

/-- Get, whatever is handed in. -/
theorem get_any (s : ByteArray) (w : World) (hs : s.size ≤ 9223372036854775807) :
    Calls Tryd.prog 23 #[.string s] w fun e w' => e = out (Plain.get s.data.toList) ∧ ∃ n, w' = w.drewN n := by
  by_cases h0 : 0 < s.size
  · have hl : s.data.toList = s[0] :: s.data.toList.drop 1 := by
      have := drop_one s 0 h0
      simpa using this
    rw [hl]
    obtain ⟨x, hx⟩ : ∃ x, s[0].toNat = x := ⟨_, rfl⟩
    have hx4 : x < 256 := by rw [← hx]; exact UInt8.toNat_lt _
    have hg : Plain.get (s[0] :: s.data.toList.drop 1) = if x < 128 then (x, 1, 0) else if x < 192 ∨ 248 ≤ x then (0, 0, 4) else Plain.fin (Plain.need x) (Plain.cont (Plain.need x - 1) (Plain.low x) (s.data.toList.drop 1)) := by
      rw [← hx]; rfl
    rw [hg]
    by_cases h1 : x < 128
    · rw [if_pos h1]; exact get_ascii s x w hs h0 hx h1
    · rw [if_neg h1]
      by_cases h2 : x < 192 ∨ 248 ≤ x
      · rw [if_pos h2]; exact get_bad s x w hs h0 hx (by omega) hx4 h2
      · rw [if_neg h2]
        unfold Plain.need Plain.low
        by_cases h3 : x < 224
        · rw [if_pos h3, if_pos h3]; exact get2 s x _ rfl w hs h0 hx (by omega) h3
        · rw [if_neg h3, if_neg h3]
          by_cases h4 : x < 240
          · rw [if_pos h4, if_pos h4]; exact get3 s x _ rfl w hs h0 hx (by omega) h4
          · rw [if_neg h4, if_neg h4]; exact get4 s x _ rfl w hs h0 hx (by omega) (by omega)
  · obtain rfl := is_nil s (by omega)
    exact get_nil w
end Go.Proofs.YtbefcdkjkjeonaaDoor.Utf
