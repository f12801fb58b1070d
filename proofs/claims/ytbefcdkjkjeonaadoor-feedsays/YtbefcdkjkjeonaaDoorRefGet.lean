/- The contract of the document's answer for Get: the same as Get's own. -/
import Derived.Test.YtbefcdkjkjeonaaDoorRef
set_option linter.unusedVariables false
set_option linter.unusedSimpArgs false
namespace Go.Proofs.YtbefcdkjkjeonaaDoor.Utf
open Go.RowKit

theorem fin_ref (o c : Nat) (h : ¬ (Utf8.valid (c : Int) = true ∧ (Plain.bytes c).length = o)) : Plain.fin o (c, 0) = (0, 0, 4) := by
  unfold Plain.fin
  rw [if_pos rfl]
  refine if_neg fun hr => h ?_
  obtain ⟨h1, h2⟩ := Plain.runeLen_inv c o hr
  refine ⟨Plain.ok_valid h1, ?_⟩
  rw [h2]
  unfold Plain.bytes
  repeat' split
  all_goals rfl
theorem fin_ref_ok (o c : Nat) (h : Utf8.valid (c : Int) = true) (hl : (Plain.bytes c).length = o) : Plain.fin o (c, 0) = (c, o, 0) := by
  refine Plain.fin_ok o c c (Plain.runeLen_nat c o ?_ ?_) rfl
  · have := Plain.valid_ok h
    simpa using this
  · rw [← hl]
    unfold Plain.bytes
    repeat' split
    all_goals rfl
theorem mods6 {x : Nat} : (x : Int) % 128 % 64 = (x : Int) % 64 := by omega
theorem mods5 {x : Nat} : (x : Int) % 64 % 32 = (x : Int) % 32 := by omega
theorem mods4 {x : Nat} : (x : Int) % 32 % 16 = (x : Int) % 16 := by omega
theorem mods3 {x : Nat} : (x : Int) % 16 % 8 = (x : Int) % 8 := by omega
theorem int_eq {a b : Int} (h : a = b) : Value.int .i64 a = .int .i64 b := by rw [h]
theorem ones_not1 (y : Nat) (h : ¬ y / 64 = 2) : ¬ (ones y : Int) = 1 := by
  unfold ones
  repeat' split
  all_goals omega
theorem encode_len (c : Int) (h : Utf8.valid c = true) : (Utf8.encode c).size = (Plain.bytes c.toNat).length := by
  rw [← Plain.encode_bytes c h, Array.length_toList]; rfl

set_option maxRecDepth 100000 in
set_option maxHeartbeats 1000000 in
theorem rget2 (s : ByteArray) (x : Nat) (tl : List UInt8) (ht : Hid (s.data.toList.drop 1 = tl)) (w : World) (hs : s.size ≤ 9223372036854775807) (h0 : 0 < s.size) (hx : s[0].toNat = x) (hx2 : 192 ≤ x) (hx3 : x < 224) :
    Calls Tryd.prog 16 #[.string s] w fun e w' => e = out (Plain.fin 2 (Plain.cont 1 (x % 32) tl)) ∧ Below w.heap.size w w' := by
  have hz : ((s.size : Int) == 0) = false := beq_eq_false_iff_ne.2 (by omega)
  have ho : ones x = 2 := ones_of x 2 (by omega) (by omega) (by show 192 ≤ x; omega) (.inr (by show x < 224; omega))
  go_enter Tryd.func16, Tryd.ntmps16
  go_wp2_with fail
  refine (ones_any x _ (by omega)).mono ?_
  rintro e w1 ⟨rfl, hw1⟩
  rw [hw1, ho]
  clear ho hw1 w1
  go_wp2_with fail
  refine wp_loop_rounds 4 ?_
  rw [rounds_succ]
  go_wp2_with fail
  rw [rounds_succ]
  go_wp2_with fail
  rw [rounds_succ]
  go_wp2_with fail
  rw [rounds_succ]
  go_wp2_with fail
  simp only [mods6, mods5, mods4, mods3]
  go_loopw [6, 8] (fun c at' wr => ∃ j c' : Nat, wr = w ∧ 1 ≤ j ∧ j ≤ 2 ∧ j ≤ s.size ∧ c = .int .i64 (c' : Int) ∧ at' = .int .i64 (j : Int) ∧ c' < Plain.bd j ∧ Hid (Plain.cont 1 (x % 32) tl = Plain.cont (2 - j) c' (s.data.toList.drop j))) (fun _ at' _ => (2 - intOf at').toNat)
  case atStart => exact ⟨1, x % 32, rfl, by omega, by omega, by omega, int_eq (by omega), rfl, by show _ < 32; omega, congrArg _ ht.out.symm⟩
  case round =>
    obtain ⟨j, c', rfl, hj1, hj2, hj3, rfl, rfl, hc, Hc⟩ := hrel
    by_cases hlt : j < 2
    · by_cases hsz : j < s.size
      · have hd : Hid (s.data.toList.drop j = s[j] :: s.data.toList.drop (j + 1)) := drop_one s j hsz
        obtain ⟨y, hy⟩ : ∃ y, s[j].toNat = y := ⟨_, rfl⟩
        have hy2 : y < 256 := by rw [← hy]; exact UInt8.toNat_lt _
        have hb := Plain.bd_le j hj1 (by omega)
        by_cases hq : y / 64 = 2
        · have hE : Hid (Plain.cont (2 - j) c' (s.data.toList.drop j) = Plain.cont (2 - (j + 1)) (c' * 64 + y % 64) (s.data.toList.drop (j + 1))) := by
            rw [hd.out, show 2 - j = (2 - (j + 1)) + 1 from by omega]
            show (if s[j].toNat / 64 = 2 then _ else _) = _
            rw [hy, if_pos hq]
          have hbd : c' * 64 + y % 64 < Plain.bd (j + 1) := by rw [Plain.bd_succ j hj1]; omega
          have hoy : ones y = 1 := ones_of y 1 (by omega) hy2 (by show 128 ≤ y; omega) (.inr (by show y < 192; omega))
          go_wp2_with fail
          refine (ones_any y _ hy2).mono ?_
          rintro e w2 ⟨rfl, hw2⟩
          rw [hw2]
          clear hw2 w2
          rw [hoy]
          clear hoy
          go_wp2_with fail
          go_roundw
          case rel => exact ⟨j + 1, c' * 64 + y % 64, by first | rfl | trivial, by omega, by omega, by omega, int_eq (by omega), by go_num, hbd, Hc.out.trans hE.out⟩
          case measure => simp [intOf]; omega
        · have hE : Hid (Plain.cont (2 - j) c' (s.data.toList.drop j) = (0, 4)) := by
            rw [hd.out, show 2 - j = (2 - (j + 1)) + 1 from by omega]
            show (if s[j].toNat / 64 = 2 then _ else _) = _
            rw [hy, if_neg hq]
          have hoy : ((ones y : Int) == 1) = false := beq_eq_false_iff_ne.2 (ones_not1 y hq)
          go_wp2_with fail
          refine (ones_any y _ hy2).mono ?_
          rintro e w2 ⟨rfl, hw2⟩
          rw [hw2]
          clear hw2 w2
          go_wp2_with fail
          go_ret3
          refine ⟨?_, Below.refl _ _⟩
          rw [Hc.out, hE.out]
          rfl
      · have hE : Hid (Plain.cont (2 - j) c' (s.data.toList.drop j) = (0, 3)) := by
          rw [drop_all s j (by omega), show 2 - j = (2 - (j + 1)) + 1 from by omega]
          rfl
        go_wp2_with fail
        go_ret3
        refine ⟨?_, Below.refl _ _⟩
        rw [Hc.out, hE.out]
        rfl
    · obtain rfl : j = 2 := by omega
      have hE : Hid (Plain.cont (2 - 2) c' (s.data.toList.drop 2) = (c', 0)) := rfl
      have hb := Plain.bd_le 2 (by omega) (by omega)
      go_wp2_with fail
      refine (char_any _ _).mono ?_
      rintro e w2 ⟨rfl, hw2⟩
      rw [hw2]
      clear hw2 w2
      cases hv : Utf8.valid (c' : Int) with
      | false =>
        have hE2 : Hid (Plain.fin 2 (c', 0) = (0, 0, 4)) := fin_ref 2 c' (fun h => by rw [hv] at h; exact absurd h.1 (by decide))
        go_wp2_with fail
        go_ret3
        refine ⟨?_, Below.refl _ _⟩
        rw [Hc.out, hE.out, hE2.out]
        rfl
      | true =>
        have hel := encode_len (c' : Int) hv
        rw [Int.toNat_natCast] at hel
        obtain ⟨ln, hln⟩ : ∃ ln, (Utf8.encode (c' : Int)).size = ln := ⟨_, rfl⟩
        have Hln : Hid ((Plain.bytes c').length = ln) := hel.symm.trans hln
        have hln4 : ln ≤ 4 := by rw [← Hln.out]; exact Plain.bytes_le _
        have Hv : Hid (Utf8.valid (c' : Int) = true) := hv
        clear hel
        go_wp2_with fail
        refine (rput_any _ _ Hv.out).mono ?_
        rintro e w3 ⟨rfl, hb3⟩
        clear hv
        by_cases hr : ln = 2
        · have hE2 : Hid (Plain.fin 2 (c', 0) = (c', 2, 0)) := fin_ref_ok 2 c' Hv.out (Hln.out.trans hr)
          subst hr
          go_wp2_with fail
          go_ret3
          refine ⟨?_, hb3⟩
          rw [Hc.out, hE.out, hE2.out]
          rfl
        · have hE2 : Hid (Plain.fin 2 (c', 0) = (0, 0, 4)) := fin_ref 2 c' (fun h => hr (Hln.out.symm.trans h.2))
          have hr2 : ln = 0 ∨ ln = 1 ∨ ln = 3 ∨ ln = 4 := by omega
          clear hr
          rcases hr2 with rfl | rfl | rfl | rfl
          all_goals
            go_wp2_with fail
            go_ret3
            refine ⟨?_, hb3⟩
            rw [Hc.out, hE.out, hE2.out]
            rfl

set_option maxRecDepth 100000 in
set_option maxHeartbeats 1000000 in
theorem rget3 (s : ByteArray) (x : Nat) (tl : List UInt8) (ht : Hid (s.data.toList.drop 1 = tl)) (w : World) (hs : s.size ≤ 9223372036854775807) (h0 : 0 < s.size) (hx : s[0].toNat = x) (hx2 : 224 ≤ x) (hx3 : x < 240) :
    Calls Tryd.prog 16 #[.string s] w fun e w' => e = out (Plain.fin 3 (Plain.cont 2 (x % 16) tl)) ∧ Below w.heap.size w w' := by
  have hz : ((s.size : Int) == 0) = false := beq_eq_false_iff_ne.2 (by omega)
  have ho : ones x = 3 := ones_of x 3 (by omega) (by omega) (by show 224 ≤ x; omega) (.inr (by show x < 240; omega))
  go_enter Tryd.func16, Tryd.ntmps16
  go_wp2_with fail
  refine (ones_any x _ (by omega)).mono ?_
  rintro e w1 ⟨rfl, hw1⟩
  rw [hw1, ho]
  clear ho hw1 w1
  go_wp2_with fail
  refine wp_loop_rounds 5 ?_
  rw [rounds_succ]
  go_wp2_with fail
  rw [rounds_succ]
  go_wp2_with fail
  rw [rounds_succ]
  go_wp2_with fail
  rw [rounds_succ]
  go_wp2_with fail
  rw [rounds_succ]
  go_wp2_with fail
  simp only [mods6, mods5, mods4, mods3]
  go_loopw [6, 8] (fun c at' wr => ∃ j c' : Nat, wr = w ∧ 1 ≤ j ∧ j ≤ 3 ∧ j ≤ s.size ∧ c = .int .i64 (c' : Int) ∧ at' = .int .i64 (j : Int) ∧ c' < Plain.bd j ∧ Hid (Plain.cont 2 (x % 16) tl = Plain.cont (3 - j) c' (s.data.toList.drop j))) (fun _ at' _ => (3 - intOf at').toNat)
  case atStart => exact ⟨1, x % 16, rfl, by omega, by omega, by omega, int_eq (by omega), rfl, by show _ < 32; omega, congrArg _ ht.out.symm⟩
  case round =>
    obtain ⟨j, c', rfl, hj1, hj2, hj3, rfl, rfl, hc, Hc⟩ := hrel
    by_cases hlt : j < 3
    · by_cases hsz : j < s.size
      · have hd : Hid (s.data.toList.drop j = s[j] :: s.data.toList.drop (j + 1)) := drop_one s j hsz
        obtain ⟨y, hy⟩ : ∃ y, s[j].toNat = y := ⟨_, rfl⟩
        have hy2 : y < 256 := by rw [← hy]; exact UInt8.toNat_lt _
        have hb := Plain.bd_le j hj1 (by omega)
        by_cases hq : y / 64 = 2
        · have hE : Hid (Plain.cont (3 - j) c' (s.data.toList.drop j) = Plain.cont (3 - (j + 1)) (c' * 64 + y % 64) (s.data.toList.drop (j + 1))) := by
            rw [hd.out, show 3 - j = (3 - (j + 1)) + 1 from by omega]
            show (if s[j].toNat / 64 = 2 then _ else _) = _
            rw [hy, if_pos hq]
          have hbd : c' * 64 + y % 64 < Plain.bd (j + 1) := by rw [Plain.bd_succ j hj1]; omega
          have hoy : ones y = 1 := ones_of y 1 (by omega) hy2 (by show 128 ≤ y; omega) (.inr (by show y < 192; omega))
          go_wp2_with fail
          refine (ones_any y _ hy2).mono ?_
          rintro e w2 ⟨rfl, hw2⟩
          rw [hw2]
          clear hw2 w2
          rw [hoy]
          clear hoy
          go_wp2_with fail
          go_roundw
          case rel => exact ⟨j + 1, c' * 64 + y % 64, by first | rfl | trivial, by omega, by omega, by omega, int_eq (by omega), by go_num, hbd, Hc.out.trans hE.out⟩
          case measure => simp [intOf]; omega
        · have hE : Hid (Plain.cont (3 - j) c' (s.data.toList.drop j) = (0, 4)) := by
            rw [hd.out, show 3 - j = (3 - (j + 1)) + 1 from by omega]
            show (if s[j].toNat / 64 = 2 then _ else _) = _
            rw [hy, if_neg hq]
          have hoy : ((ones y : Int) == 1) = false := beq_eq_false_iff_ne.2 (ones_not1 y hq)
          go_wp2_with fail
          refine (ones_any y _ hy2).mono ?_
          rintro e w2 ⟨rfl, hw2⟩
          rw [hw2]
          clear hw2 w2
          go_wp2_with fail
          go_ret3
          refine ⟨?_, Below.refl _ _⟩
          rw [Hc.out, hE.out]
          rfl
      · have hE : Hid (Plain.cont (3 - j) c' (s.data.toList.drop j) = (0, 3)) := by
          rw [drop_all s j (by omega), show 3 - j = (3 - (j + 1)) + 1 from by omega]
          rfl
        go_wp2_with fail
        go_ret3
        refine ⟨?_, Below.refl _ _⟩
        rw [Hc.out, hE.out]
        rfl
    · obtain rfl : j = 3 := by omega
      have hE : Hid (Plain.cont (3 - 3) c' (s.data.toList.drop 3) = (c', 0)) := rfl
      have hb := Plain.bd_le 3 (by omega) (by omega)
      go_wp2_with fail
      refine (char_any _ _).mono ?_
      rintro e w2 ⟨rfl, hw2⟩
      rw [hw2]
      clear hw2 w2
      cases hv : Utf8.valid (c' : Int) with
      | false =>
        have hE2 : Hid (Plain.fin 3 (c', 0) = (0, 0, 4)) := fin_ref 3 c' (fun h => by rw [hv] at h; exact absurd h.1 (by decide))
        go_wp2_with fail
        go_ret3
        refine ⟨?_, Below.refl _ _⟩
        rw [Hc.out, hE.out, hE2.out]
        rfl
      | true =>
        have hel := encode_len (c' : Int) hv
        rw [Int.toNat_natCast] at hel
        obtain ⟨ln, hln⟩ : ∃ ln, (Utf8.encode (c' : Int)).size = ln := ⟨_, rfl⟩
        have Hln : Hid ((Plain.bytes c').length = ln) := hel.symm.trans hln
        have hln4 : ln ≤ 4 := by rw [← Hln.out]; exact Plain.bytes_le _
        have Hv : Hid (Utf8.valid (c' : Int) = true) := hv
        clear hel
        go_wp2_with fail
        refine (rput_any _ _ Hv.out).mono ?_
        rintro e w3 ⟨rfl, hb3⟩
        clear hv
        by_cases hr : ln = 3
        · have hE2 : Hid (Plain.fin 3 (c', 0) = (c', 3, 0)) := fin_ref_ok 3 c' Hv.out (Hln.out.trans hr)
          subst hr
          go_wp2_with fail
          go_ret3
          refine ⟨?_, hb3⟩
          rw [Hc.out, hE.out, hE2.out]
          rfl
        · have hE2 : Hid (Plain.fin 3 (c', 0) = (0, 0, 4)) := fin_ref 3 c' (fun h => hr (Hln.out.symm.trans h.2))
          have hr2 : ln = 0 ∨ ln = 1 ∨ ln = 2 ∨ ln = 4 := by omega
          clear hr
          rcases hr2 with rfl | rfl | rfl | rfl
          all_goals
            go_wp2_with fail
            go_ret3
            refine ⟨?_, hb3⟩
            rw [Hc.out, hE.out, hE2.out]
            rfl

set_option maxRecDepth 100000 in
set_option maxHeartbeats 1000000 in
theorem rget4 (s : ByteArray) (x : Nat) (tl : List UInt8) (ht : Hid (s.data.toList.drop 1 = tl)) (w : World) (hs : s.size ≤ 9223372036854775807) (h0 : 0 < s.size) (hx : s[0].toNat = x) (hx2 : 240 ≤ x) (hx3 : x < 248) :
    Calls Tryd.prog 16 #[.string s] w fun e w' => e = out (Plain.fin 4 (Plain.cont 3 (x % 8) tl)) ∧ Below w.heap.size w w' := by
  have hz : ((s.size : Int) == 0) = false := beq_eq_false_iff_ne.2 (by omega)
  have ho : ones x = 4 := ones_of x 4 (by omega) (by omega) (by show 240 ≤ x; omega) (.inr (by show x < 248; omega))
  go_enter Tryd.func16, Tryd.ntmps16
  go_wp2_with fail
  refine (ones_any x _ (by omega)).mono ?_
  rintro e w1 ⟨rfl, hw1⟩
  rw [hw1, ho]
  clear ho hw1 w1
  go_wp2_with fail
  refine wp_loop_rounds 6 ?_
  rw [rounds_succ]
  go_wp2_with fail
  rw [rounds_succ]
  go_wp2_with fail
  rw [rounds_succ]
  go_wp2_with fail
  rw [rounds_succ]
  go_wp2_with fail
  rw [rounds_succ]
  go_wp2_with fail
  rw [rounds_succ]
  go_wp2_with fail
  simp only [mods6, mods5, mods4, mods3]
  go_loopw [6, 8] (fun c at' wr => ∃ j c' : Nat, wr = w ∧ 1 ≤ j ∧ j ≤ 4 ∧ j ≤ s.size ∧ c = .int .i64 (c' : Int) ∧ at' = .int .i64 (j : Int) ∧ c' < Plain.bd j ∧ Hid (Plain.cont 3 (x % 8) tl = Plain.cont (4 - j) c' (s.data.toList.drop j))) (fun _ at' _ => (4 - intOf at').toNat)
  case atStart => exact ⟨1, x % 8, rfl, by omega, by omega, by omega, int_eq (by omega), rfl, by show _ < 32; omega, congrArg _ ht.out.symm⟩
  case round =>
    obtain ⟨j, c', rfl, hj1, hj2, hj3, rfl, rfl, hc, Hc⟩ := hrel
    by_cases hlt : j < 4
    · by_cases hsz : j < s.size
      · have hd : Hid (s.data.toList.drop j = s[j] :: s.data.toList.drop (j + 1)) := drop_one s j hsz
        obtain ⟨y, hy⟩ : ∃ y, s[j].toNat = y := ⟨_, rfl⟩
        have hy2 : y < 256 := by rw [← hy]; exact UInt8.toNat_lt _
        have hb := Plain.bd_le j hj1 (by omega)
        by_cases hq : y / 64 = 2
        · have hE : Hid (Plain.cont (4 - j) c' (s.data.toList.drop j) = Plain.cont (4 - (j + 1)) (c' * 64 + y % 64) (s.data.toList.drop (j + 1))) := by
            rw [hd.out, show 4 - j = (4 - (j + 1)) + 1 from by omega]
            show (if s[j].toNat / 64 = 2 then _ else _) = _
            rw [hy, if_pos hq]
          have hbd : c' * 64 + y % 64 < Plain.bd (j + 1) := by rw [Plain.bd_succ j hj1]; omega
          have hoy : ones y = 1 := ones_of y 1 (by omega) hy2 (by show 128 ≤ y; omega) (.inr (by show y < 192; omega))
          go_wp2_with fail
          refine (ones_any y _ hy2).mono ?_
          rintro e w2 ⟨rfl, hw2⟩
          rw [hw2]
          clear hw2 w2
          rw [hoy]
          clear hoy
          go_wp2_with fail
          go_roundw
          case rel => exact ⟨j + 1, c' * 64 + y % 64, by first | rfl | trivial, by omega, by omega, by omega, int_eq (by omega), by go_num, hbd, Hc.out.trans hE.out⟩
          case measure => simp [intOf]; omega
        · have hE : Hid (Plain.cont (4 - j) c' (s.data.toList.drop j) = (0, 4)) := by
            rw [hd.out, show 4 - j = (4 - (j + 1)) + 1 from by omega]
            show (if s[j].toNat / 64 = 2 then _ else _) = _
            rw [hy, if_neg hq]
          have hoy : ((ones y : Int) == 1) = false := beq_eq_false_iff_ne.2 (ones_not1 y hq)
          go_wp2_with fail
          refine (ones_any y _ hy2).mono ?_
          rintro e w2 ⟨rfl, hw2⟩
          rw [hw2]
          clear hw2 w2
          go_wp2_with fail
          go_ret3
          refine ⟨?_, Below.refl _ _⟩
          rw [Hc.out, hE.out]
          rfl
      · have hE : Hid (Plain.cont (4 - j) c' (s.data.toList.drop j) = (0, 3)) := by
          rw [drop_all s j (by omega), show 4 - j = (4 - (j + 1)) + 1 from by omega]
          rfl
        go_wp2_with fail
        go_ret3
        refine ⟨?_, Below.refl _ _⟩
        rw [Hc.out, hE.out]
        rfl
    · obtain rfl : j = 4 := by omega
      have hE : Hid (Plain.cont (4 - 4) c' (s.data.toList.drop 4) = (c', 0)) := rfl
      have hb := Plain.bd_le 4 (by omega) (by omega)
      go_wp2_with fail
      refine (char_any _ _).mono ?_
      rintro e w2 ⟨rfl, hw2⟩
      rw [hw2]
      clear hw2 w2
      cases hv : Utf8.valid (c' : Int) with
      | false =>
        have hE2 : Hid (Plain.fin 4 (c', 0) = (0, 0, 4)) := fin_ref 4 c' (fun h => by rw [hv] at h; exact absurd h.1 (by decide))
        go_wp2_with fail
        go_ret3
        refine ⟨?_, Below.refl _ _⟩
        rw [Hc.out, hE.out, hE2.out]
        rfl
      | true =>
        have hel := encode_len (c' : Int) hv
        rw [Int.toNat_natCast] at hel
        obtain ⟨ln, hln⟩ : ∃ ln, (Utf8.encode (c' : Int)).size = ln := ⟨_, rfl⟩
        have Hln : Hid ((Plain.bytes c').length = ln) := hel.symm.trans hln
        have hln4 : ln ≤ 4 := by rw [← Hln.out]; exact Plain.bytes_le _
        have Hv : Hid (Utf8.valid (c' : Int) = true) := hv
        clear hel
        go_wp2_with fail
        refine (rput_any _ _ Hv.out).mono ?_
        rintro e w3 ⟨rfl, hb3⟩
        clear hv
        by_cases hr : ln = 4
        · have hE2 : Hid (Plain.fin 4 (c', 0) = (c', 4, 0)) := fin_ref_ok 4 c' Hv.out (Hln.out.trans hr)
          subst hr
          go_wp2_with fail
          go_ret3
          refine ⟨?_, hb3⟩
          rw [Hc.out, hE.out, hE2.out]
          rfl
        · have hE2 : Hid (Plain.fin 4 (c', 0) = (0, 0, 4)) := fin_ref 4 c' (fun h => hr (Hln.out.symm.trans h.2))
          have hr2 : ln = 0 ∨ ln = 1 ∨ ln = 2 ∨ ln = 3 := by omega
          clear hr
          rcases hr2 with rfl | rfl | rfl | rfl
          all_goals
            go_wp2_with fail
            go_ret3
            refine ⟨?_, hb3⟩
            rw [Hc.out, hE.out, hE2.out]
            rfl

set_option maxHeartbeats 400000 in
theorem rget_nil (w : World) :
    Calls Tryd.prog 16 #[.string ⟨#[]⟩] w fun e w' => e = out (0, 0, 3) ∧ Below w.heap.size w w' := by
  go_enter Tryd.func16, Tryd.ntmps16
  go_wp2
  go_ret3
  exact ⟨rfl, Below.refl _ _⟩

set_option maxHeartbeats 400000 in
theorem rget_ascii (s : ByteArray) (x : Nat) (w : World) (hs : s.size ≤ 9223372036854775807) (h0 : 0 < s.size) (hx : s[0].toNat = x) (hx3 : x < 128) :
    Calls Tryd.prog 16 #[.string s] w fun e w' => e = out (x, 1, 0) ∧ Below w.heap.size w w' := by
  have hz : ((s.size : Int) == 0) = false := beq_eq_false_iff_ne.2 (by omega)
  have ho : ones x = 0 := ones_of x 0 (by omega) (by omega) (Nat.zero_le _) (.inr (by show x < 128; omega))
  go_enter Tryd.func16, Tryd.ntmps16
  go_wp2_with fail
  refine (ones_any x _ (by omega)).mono ?_
  rintro e w1 ⟨rfl, hw1⟩
  rw [hw1, ho]
  clear ho hw1 w1
  go_wp2_with fail
  go_ret3
  exact ⟨rfl, Below.refl _ _⟩

set_option maxHeartbeats 400000 in
theorem rget_bad (s : ByteArray) (x : Nat) (w : World) (hs : s.size ≤ 9223372036854775807) (h0 : 0 < s.size) (hx : s[0].toNat = x) (hx2 : 128 ≤ x) (hx4 : x < 256) (hx3 : x < 192 ∨ 248 ≤ x) :
    Calls Tryd.prog 16 #[.string s] w fun e w' => e = out (0, 0, 4) ∧ Below w.heap.size w w' := by
  have hz : ((s.size : Int) == 0) = false := beq_eq_false_iff_ne.2 (by omega)
  have ho : ones x = 1 ∨ ones x = 5 ∨ ones x = 6 ∨ ones x = 7 ∨ ones x = 8 := by
    unfold ones
    repeat' split
    all_goals omega
  clear hx3
  go_enter Tryd.func16, Tryd.ntmps16
  go_wp2_with fail
  refine (ones_any x _ (by omega)).mono ?_
  rintro e w1 ⟨rfl, hw1⟩
  rw [hw1]
  clear hw1 w1
  rcases ho with ho | ho | ho | ho | ho
  all_goals
    rw [ho]
    clear ho
    go_wp2_with fail
    go_ret3
    exact ⟨rfl, Below.refl _ _⟩

/-- Get of the document's answer, whatever is handed in. -/
theorem rget_any (s : ByteArray) (w : World) (hs : s.size ≤ 9223372036854775807) :
    Calls Tryd.prog 16 #[.string s] w fun e w' => e = out (Plain.get s.data.toList) ∧ Below w.heap.size w w' := by
  by_cases h0 : 0 < s.size
  · have hl : s.data.toList = s[0] :: s.data.toList.drop 1 := by
      have := drop_one s 0 h0
      simpa using this
    rw [hl]
    obtain ⟨x, hx⟩ : ∃ x, s[0].toNat = x := ⟨_, rfl⟩
    have hx4 : x < 256 := by rw [← hx]; exact UInt8.toNat_lt _
    have hg : Plain.get (s[0] :: s.data.toList.drop 1) = if x < 128 then (x, 1, 0) else if x < 192 ∨ 248 ≤ x then (0, 0, 4) else Plain.fin (Plain.need x) (Plain.cont (Plain.need x - 1) (Plain.low x) (s.data.toList.drop 1)) := by
      rw [← hx]; rfl
    rw [hg]
    by_cases h1 : x < 128
    · rw [if_pos h1]; exact rget_ascii s x w hs h0 hx h1
    · rw [if_neg h1]
      by_cases h2 : x < 192 ∨ 248 ≤ x
      · rw [if_pos h2]; exact rget_bad s x w hs h0 hx (by omega) hx4 h2
      · rw [if_neg h2]
        unfold Plain.need Plain.low
        by_cases h3 : x < 224
        · rw [if_pos h3, if_pos h3]; exact rget2 s x _ rfl w hs h0 hx (by omega) h3
        · rw [if_neg h3, if_neg h3]
          by_cases h4 : x < 240
          · rw [if_pos h4, if_pos h4]; exact rget3 s x _ rfl w hs h0 hx (by omega) h4
          · rw [if_neg h4, if_neg h4]; exact rget4 s x _ rfl w hs h0 hx (by omega) (by omega)
  · obtain rfl := is_nil s (by omega)
    exact rget_nil w
end Go.Proofs.YtbefcdkjkjeonaaDoor.Utf
