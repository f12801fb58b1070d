/- UtfSays returns true whatever number, string and slice of ints are handed in, and leaves them as they were, where they are together of bulk at most 1048576 (the bound of the second form). -/
import Derived.Test.YtdhoackhjojobaaRefAll
import Derived.Test.YtdhoackhjojobaaBack
import Derived.JoinedCond
set_option linter.unusedVariables false
set_option linter.unusedSimpArgs false
namespace Go.Proofs.Ytdhoackhjojobaa.utfSays
open Go.ChangeShapes Go.WideShapes Go.ChangeAt Go.RowKit
open Go.ChangeMaps (open_string shut_string)
open Utf

theorem room_of (s : ByteArray) (hs : s.size ≤ 1048576) (cs : List Nat) (p : Nat) (h : Plain.Part s.data.toList cs p) : cs.length * 8 ≤ 140737488355328 := by
  have h1 := h.len
  have h2 := h.le
  rw [Array.length_toList] at h2
  have : s.size = s.data.size := rfl
  omega
theorem bytes_ext {s : ByteArray} {l : List UInt8} (h : s.data.toList = l) : s = ⟨l.toArray⟩ := by rw [← h]
theorem given_len {l : List UInt8} {cs : List Nat} {p er : Nat} (h : Utf.Told l cs p er) : (given cs er).length ≤ l.length := by
  have h1 := h.part.len
  have h2 := h.part.le
  unfold given
  split
  · rw [casts_len]; omega
  · exact Nat.zero_le _
theorem drew_below (w : World) (q : Nat) : Below w.heap.size w (w.drewN q) := ⟨rfl, rfl, rfl, Nat.le_refl _, fun _ _ => rfl⟩
theorem valids_snoc {zs : List Int} {k : Nat} {z : Int} (hk : k < zs.length) (hv : Valids (zs.take k)) (hz : zs.getD k 0 = z) (hval : Utf8.valid z = true) : Valids (zs.take (k + 1)) := by
  intro y hy
  rw [List.take_succ_eq_append_getElem hk] at hy
  rcases List.mem_append.1 hy with hy | hy
  · exact hv y hy
  · rw [List.mem_singleton.1 hy]
    rw [List.getD_eq_getElem?_getD, List.getElem?_eq_getElem hk] at hz
    rw [show zs[k] = z from hz]
    exact hval
theorem text_snoc {zs : List Int} {k : Nat} {z : Int} {S : ByteArray} (hk : k < zs.length) (hS : S.data.toList = Plain.text (nats (zs.take k))) (hz : zs.getD k 0 = z) (hval : Utf8.valid z = true) :
    (S ++ Utf8.encode z).data.toList = Plain.text (nats (zs.take (k + 1))) := by
  rw [ByteArray.data_append, Array.toList_append, hS, Plain.encode_bytes z hval, nats_take_succ zs k hk, Plain.text_append, Plain.text_one, hz]

set_option maxRecDepth 100000 in
set_option maxHeartbeats 2000000 in
theorem walk_yes (c : Int) (s : ByteArray) (a : Option Addr) (cap : Nat) (zs : List Int) (w : World) (hv : Utf8.valid c = true) (hs : s.size ≤ 1048576)
    (hr : Reads w (.slice a zs.length cap) zs) (hz : zs.length ≤ 1048576) :
    Calls Try.prog 3 #[.int .i64 c, .string s, .slice a zs.length cap] w fun e w' => e = .returned (.bool true) ∧ Below w.heap.size w w' := by
  go_enter Try.func3, Try.ntmps3
  go_wp2_with fail
  refine (put_yes c _ hv).mono ?_
  rintro e w1 ⟨rfl, hw1⟩
  rw [hw1]
  clear hw1 w1
  go_wp2_with fail
  refine (char_any c _).mono ?_
  rintro e w1 ⟨rfl, hw1⟩
  rw [hw1, hv]
  clear hw1 w1
  go_wp2_with fail
  refine (rput_any c _ hv).mono ?_
  rintro e w1 ⟨rfl, hb1⟩
  go_wp2_with fail
  refine (get_any s _ (by omega)).mono ?_
  rintro e w2 ⟨rfl, q2, hw2⟩
  have hb2 : Below w.heap.size w w2 := hb1.trans (by rw [hw2]; exact (drew_below _ _).mono hb1.size)
  clear hw2 hb1
  obtain ⟨gc, gn, ge, hg⟩ : ∃ gc gn ge, Plain.get s.data.toList = (gc, gn, ge) := ⟨_, _, _, rfl⟩
  rw [hg]
  have Hg : Hid (Plain.get s.data.toList = (gc, gn, ge)) := hg
  clear hg
  unfold out
  simp only
  go_wp2_with fail
  refine (rget_any s _ (by omega)).mono ?_
  rintro e w3 ⟨rfl, hb3'⟩
  rw [Hg.out]
  unfold out
  simp only
  have hb3 : Below w.heap.size w w3 := hb2.trans (hb3'.mono hb2.size)
  clear hb2 hb3'
  go_wp2_with fail
  refine (all_any s _ (by omega) (room_of s hs)).mono ?_
  intro e w4 h
  obtain ⟨hb4', cs, p, er, v4, ht4, rfl, hr4⟩ := all_told h
  have Ht4 : Hid (Utf.Told s.data.toList cs p er) := ht4
  have hb4 : Below w.heap.size w w4 := hb3.trans (hb4'.mono hb3.size)
  clear h ht4 hb3 hb4'
  go_wp2_with fail
  refine (rall_any s _ (by omega) (room_of s hs)).mono ?_
  intro e w5 h
  obtain ⟨hb5', cs', p', er', v5, ht5, rfl, hr5⟩ := all_told h
  obtain ⟨e1, e2, e3⟩ := Ht4.out.one ht5
  subst e1 e2 e3
  have hr45 := hr4.below hb5'
  have hb5 : Below w.heap.size w w5 := hb4.trans (hb5'.mono hb4.size)
  clear h ht5 hb4 hb5' hr4
  go_wp2_with fail
  refine (count_any s _ (by omega)).mono ?_
  intro e w6 h
  obtain ⟨hb6', cs', p', er', ht6, rfl⟩ := count_told h
  obtain ⟨e1, e2, e3⟩ := Ht4.out.one ht6
  subst e1 e2 e3
  have hr46 := hr45.below hb6'
  have hr56 := hr5.below hb6'
  have hb6 : Below w.heap.size w w6 := hb5.trans (hb6'.mono hb5.size)
  have hgl : (given cs er).length ≤ s.size := by have := given_len Ht4.out; rw [Array.length_toList] at this; exact this
  clear h ht6 hb5 hb6' hr45 hr5
  obtain ⟨zz, hzz⟩ : ∃ zz, given cs er = zz := ⟨_, rfl⟩
  rw [hzz] at hr46 hr56 hgl ⊢
  clear hzz
  obtain ⟨a5, c5, rfl⟩ := hr56.shape
  go_wp2_with fail
  refine (text_reads _ zs _ (hr.below hb6) (by omega)).mono ?_
  rintro e w7 ⟨hb7', hcase⟩
  have hr47 := hr46.below hb7'
  have hr57 := hr56.below hb7'
  have hb7 : Below w.heap.size w w7 := hb6.trans (hb7'.mono hb6.size)
  have Hr : Hid (Reads w (.slice a zs.length cap) zs) := hr
  clear hb6 hb7' hr46 hr56 hr
  rcases hcase with ⟨hvs, rfl⟩ | ⟨hvs, rfl⟩
  · obtain ⟨T, hT⟩ : ∃ T : ByteArray, (⟨(Plain.text (nats zs)).toArray⟩ : ByteArray) = T := ⟨_, rfl⟩
    rw [hT]
    have HT : Hid ((⟨(Plain.text (nats zs)).toArray⟩ : ByteArray) = T) := hT
    have Hvs : Hid (Valids zs) := hvs
    clear hT hvs
    go_wp2_with fail
    go_loopw [25, 26, 87] (fun v25 v26 v87 wr => ∃ (k : Nat) (S : ByteArray), k ≤ zs.length ∧ v87 = .int .i64 (k : Int) ∧ v26 = .int .i64 0 ∧ v25 = .string S ∧ S.size ≤ 4 * k ∧ Hid (S.data.toList = Plain.text (nats (zs.take k))) ∧ Below w.heap.size w wr ∧ Below w7.heap.size w7 wr)
      (fun _ _ v87 _ => zs.length - (intOf v87).toNat)
    case atStart => exact ⟨0, ⟨#[]⟩, Nat.zero_le _, rfl, rfl, rfl, Nat.le_refl _, rfl, hb7, Below.refl _ _⟩
    case round =>
      obtain ⟨k, S, hk, rfl, rfl, rfl, hS4, HS, hbw, hbw7⟩ := hrel
      by_cases hlt : k < zs.length
      · obtain ⟨z, hzd⟩ : ∃ z, zs.getD k 0 = z := ⟨_, rfl⟩
        have Hzd : Hid (zs.getD k 0 = z) := hzd
        obtain ⟨b, off, ha, hb, hc⟩ : ∃ b off, a = some ⟨b, off, none⟩ ∧ b < w.heap.size ∧ w.cell? ⟨b, off + k, none⟩ = some (.int .i64 z) := by
          rcases Hr.out with ⟨_, _, _, h0⟩ | ⟨b, off, cap', hv', hb, hc⟩
          · rw [h0] at hlt; exact absurd hlt (Nat.not_lt_zero _)
          · injection hv' with h1 _ _
            exact ⟨b, off, h1, hb, by rw [← hzd]; exact hc k hlt⟩
        subst ha
        have hcx : wr.cell? ⟨b, off + k, none⟩ = some (.int .i64 z) := (hbw.cell (by exact hb)).trans hc
        have hval : Utf8.valid z = true := Hvs.out z (by rw [← hzd]; exact getD_mem zs k hlt)
        have Hval : Hid (Utf8.valid z = true) := hval
        have hes : (Utf8.encode z).size ≤ 4 := by rw [encode_len z hval]; exact Plain.bytes_le _
        have HS1 : Hid ((S ++ Utf8.encode z).data.toList = Plain.text (nats (zs.take (k + 1)))) := text_snoc hlt HS.out hzd hval
        clear hc hzd hval
        go_wp2_with fail
        refine (char_any z _).mono ?_
        rintro e w8 ⟨rfl, hw8⟩
        rw [hw8, Hval.out]
        clear hw8 w8
        go_wp2_with fail
        refine (rput_any z _ Hval.out).mono ?_
        rintro e w8 ⟨rfl, hb8⟩
        have hbx : Below w.heap.size w w8 := hbw.trans (hb8.mono hbw.size)
        have hbx7 : Below w7.heap.size w7 w8 := hbw7.trans (hb8.mono hbw7.size)
        have hss : (S ++ Utf8.encode z).size ≤ 4 * (k + 1) := by rw [ByteArray.size_append]; omega
        clear hb8 hbw hbw7 hcx
        go_wp2_with fail
        go_roundw
        case rel => exact ⟨k + 1, S ++ Utf8.encode z, by omega, by go_num, rfl, rfl, hss, HS1, hbx, hbx7⟩
        case measure => simp [intOf]; omega
      · obtain rfl : k = zs.length := by omega
        have hST : S = T := by
          rw [← HT.out]
          have := HS.out
          rw [List.take_length] at this
          exact bytes_ext this
        subst hST
        have hr4f := hr47.below hbw7
        have hr5f := hr57.below hbw7
        clear hr47 hr57 hbw7
        go_wp2_with fail
        refine (equal_same _ _ zz _ hr4f hr5f (by omega)).mono ?_
        rintro e w9 ⟨rfl, q9, hw9⟩
        have hbz : Below w.heap.size w w9 := hbw.trans (by rw [hw9]; exact (drew_below _ _).mono hbw.size)
        clear hw9 hr4f hr5f hbw
        go_wp2_with fail
        go_ret
        exact ⟨rfl, hbz⟩
  · have Hvs : Hid (¬ Valids zs) := hvs
    clear hvs
    go_wp2_with fail
    go_loopw [25, 26, 87] (fun v25 v26 v87 wr => ∃ (k : Nat) (S : ByteArray), k ≤ zs.length ∧ v87 = .int .i64 (k : Int) ∧ v26 = .int .i64 0 ∧ v25 = .string S ∧ S.size ≤ 4 * k ∧ Hid (Valids (zs.take k)) ∧ Below w.heap.size w wr ∧ Below w7.heap.size w7 wr)
      (fun _ _ v87 _ => zs.length - (intOf v87).toNat)
    case atStart => exact ⟨0, ⟨#[]⟩, Nat.zero_le _, rfl, rfl, rfl, Nat.le_refl _, (fun _ h => by simp at h), hb7, Below.refl _ _⟩
    case round =>
      obtain ⟨k, S, hk, rfl, rfl, rfl, hS4, HS, hbw, hbw7⟩ := hrel
      by_cases hlt : k < zs.length
      · obtain ⟨z, hzd⟩ : ∃ z, zs.getD k 0 = z := ⟨_, rfl⟩
        have Hzd : Hid (zs.getD k 0 = z) := hzd
        obtain ⟨b, off, ha, hb, hc⟩ : ∃ b off, a = some ⟨b, off, none⟩ ∧ b < w.heap.size ∧ w.cell? ⟨b, off + k, none⟩ = some (.int .i64 z) := by
          rcases Hr.out with ⟨_, _, _, h0⟩ | ⟨b, off, cap', hv', hb, hc⟩
          · rw [h0] at hlt; exact absurd hlt (Nat.not_lt_zero _)
          · injection hv' with h1 _ _
            exact ⟨b, off, h1, hb, by rw [← hzd]; exact hc k hlt⟩
        subst ha
        have hcx : wr.cell? ⟨b, off + k, none⟩ = some (.int .i64 z) := (hbw.cell (by exact hb)).trans hc
        clear hc hzd
        go_wp2_with fail
        refine (char_any z _).mono ?_
        rintro e w8 ⟨rfl, hw8⟩
        rw [hw8]
        clear hw8 w8
        cases hval : Utf8.valid z with
        | true =>
          have Hval : Hid (Utf8.valid z = true) := hval
          have hes : (Utf8.encode z).size ≤ 4 := by rw [encode_len z hval]; exact Plain.bytes_le _
          have HS1 : Hid (Valids (zs.take (k + 1))) := valids_snoc hlt HS.out Hzd.out hval
          clear hval
          go_wp2_with fail
          refine (rput_any z _ Hval.out).mono ?_
          rintro e w8 ⟨rfl, hb8⟩
          have hbx : Below w.heap.size w w8 := hbw.trans (hb8.mono hbw.size)
          have hbx7 : Below w7.heap.size w7 w8 := hbw7.trans (hb8.mono hbw7.size)
          have hss : (S ++ Utf8.encode z).size ≤ 4 * (k + 1) := by rw [ByteArray.size_append]; omega
          clear hb8 hbw hbw7 hcx
          go_wp2_with fail
          go_roundw
          case rel => exact ⟨k + 1, S ++ Utf8.encode z, by omega, by go_num, rfl, rfl, hss, HS1, hbx, hbx7⟩
          case measure => simp [intOf]; omega
        | false =>
          have hr4f := hr47.below hbw7
          have hr5f := hr57.below hbw7
          clear hr47 hr57 hbw7 hcx hval
          go_wp2_with fail
          refine (equal_same _ _ zz _ hr4f hr5f (by omega)).mono ?_
          rintro e w9 ⟨rfl, q9, hw9⟩
          have hbz : Below w.heap.size w w9 := hbw.trans (by rw [hw9]; exact (drew_below _ _).mono hbw.size)
          clear hw9 hr4f hr5f hbw
          go_wp2_with fail
          go_ret
          exact ⟨rfl, hbz⟩
      · exfalso
        obtain rfl : k = zs.length := by omega
        have := HS.out
        rw [List.take_length] at this
        exact Hvs.out this

set_option maxRecDepth 100000 in
set_option maxHeartbeats 2000000 in
theorem walk_no (c : Int) (s : ByteArray) (a : Option Addr) (cap : Nat) (zs : List Int) (w : World) (hv : Utf8.valid c = false) (hs : s.size ≤ 1048576)
    (hr : Reads w (.slice a zs.length cap) zs) (hz : zs.length ≤ 1048576) :
    Calls Try.prog 3 #[.int .i64 c, .string s, .slice a zs.length cap] w fun e w' => e = .returned (.bool true) ∧ Below w.heap.size w w' := by
  go_enter Try.func3, Try.ntmps3
  go_wp2_with fail
  refine (put_no c _ hv).mono ?_
  rintro e w1 ⟨rfl, hw1⟩
  rw [hw1]
  clear hw1 w1
  go_wp2_with fail
  refine (char_any c _).mono ?_
  rintro e w1 ⟨rfl, hw1⟩
  rw [hw1, hv]
  clear hw1 w1
  have hb1 : Below w.heap.size w w := Below.refl _ _
  go_wp2_with fail
  refine (get_any s _ (by omega)).mono ?_
  rintro e w2 ⟨rfl, q2, hw2⟩
  have hb2 : Below w.heap.size w w2 := hb1.trans (by rw [hw2]; exact (drew_below _ _).mono hb1.size)
  clear hw2 hb1
  obtain ⟨gc, gn, ge, hg⟩ : ∃ gc gn ge, Plain.get s.data.toList = (gc, gn, ge) := ⟨_, _, _, rfl⟩
  rw [hg]
  have Hg : Hid (Plain.get s.data.toList = (gc, gn, ge)) := hg
  clear hg
  unfold out
  simp only
  go_wp2_with fail
  refine (rget_any s _ (by omega)).mono ?_
  rintro e w3 ⟨rfl, hb3'⟩
  rw [Hg.out]
  unfold out
  simp only
  have hb3 : Below w.heap.size w w3 := hb2.trans (hb3'.mono hb2.size)
  clear hb2 hb3'
  go_wp2_with fail
  refine (all_any s _ (by omega) (room_of s hs)).mono ?_
  intro e w4 h
  obtain ⟨hb4', cs, p, er, v4, ht4, rfl, hr4⟩ := all_told h
  have Ht4 : Hid (Utf.Told s.data.toList cs p er) := ht4
  have hb4 : Below w.heap.size w w4 := hb3.trans (hb4'.mono hb3.size)
  clear h ht4 hb3 hb4'
  go_wp2_with fail
  refine (rall_any s _ (by omega) (room_of s hs)).mono ?_
  intro e w5 h
  obtain ⟨hb5', cs', p', er', v5, ht5, rfl, hr5⟩ := all_told h
  obtain ⟨e1, e2, e3⟩ := Ht4.out.one ht5
  subst e1 e2 e3
  have hr45 := hr4.below hb5'
  have hb5 : Below w.heap.size w w5 := hb4.trans (hb5'.mono hb4.size)
  clear h ht5 hb4 hb5' hr4
  go_wp2_with fail
  refine (count_any s _ (by omega)).mono ?_
  intro e w6 h
  obtain ⟨hb6', cs', p', er', ht6, rfl⟩ := count_told h
  obtain ⟨e1, e2, e3⟩ := Ht4.out.one ht6
  subst e1 e2 e3
  have hr46 := hr45.below hb6'
  have hr56 := hr5.below hb6'
  have hb6 : Below w.heap.size w w6 := hb5.trans (hb6'.mono hb5.size)
  have hgl : (given cs er).length ≤ s.size := by have := given_len Ht4.out; rw [Array.length_toList] at this; exact this
  clear h ht6 hb5 hb6' hr45 hr5
  obtain ⟨zz, hzz⟩ : ∃ zz, given cs er = zz := ⟨_, rfl⟩
  rw [hzz] at hr46 hr56 hgl ⊢
  clear hzz
  obtain ⟨a5, c5, rfl⟩ := hr56.shape
  go_wp2_with fail
  refine (text_reads _ zs _ (hr.below hb6) (by omega)).mono ?_
  rintro e w7 ⟨hb7', hcase⟩
  have hr47 := hr46.below hb7'
  have hr57 := hr56.below hb7'
  have hb7 : Below w.heap.size w w7 := hb6.trans (hb7'.mono hb6.size)
  have Hr : Hid (Reads w (.slice a zs.length cap) zs) := hr
  clear hb6 hb7' hr46 hr56 hr
  rcases hcase with ⟨hvs, rfl⟩ | ⟨hvs, rfl⟩
  · obtain ⟨T, hT⟩ : ∃ T : ByteArray, (⟨(Plain.text (nats zs)).toArray⟩ : ByteArray) = T := ⟨_, rfl⟩
    rw [hT]
    have HT : Hid ((⟨(Plain.text (nats zs)).toArray⟩ : ByteArray) = T) := hT
    have Hvs : Hid (Valids zs) := hvs
    clear hT hvs
    go_wp2_with fail
    go_loopw [25, 26, 87] (fun v25 v26 v87 wr => ∃ (k : Nat) (S : ByteArray), k ≤ zs.length ∧ v87 = .int .i64 (k : Int) ∧ v26 = .int .i64 0 ∧ v25 = .string S ∧ S.size ≤ 4 * k ∧ Hid (S.data.toList = Plain.text (nats (zs.take k))) ∧ Below w.heap.size w wr ∧ Below w7.heap.size w7 wr)
      (fun _ _ v87 _ => zs.length - (intOf v87).toNat)
    case atStart => exact ⟨0, ⟨#[]⟩, Nat.zero_le _, rfl, rfl, rfl, Nat.le_refl _, rfl, hb7, Below.refl _ _⟩
    case round =>
      obtain ⟨k, S, hk, rfl, rfl, rfl, hS4, HS, hbw, hbw7⟩ := hrel
      by_cases hlt : k < zs.length
      · obtain ⟨z, hzd⟩ : ∃ z, zs.getD k 0 = z := ⟨_, rfl⟩
        have Hzd : Hid (zs.getD k 0 = z) := hzd
        obtain ⟨b, off, ha, hb, hc⟩ : ∃ b off, a = some ⟨b, off, none⟩ ∧ b < w.heap.size ∧ w.cell? ⟨b, off + k, none⟩ = some (.int .i64 z) := by
          rcases Hr.out with ⟨_, _, _, h0⟩ | ⟨b, off, cap', hv', hb, hc⟩
          · rw [h0] at hlt; exact absurd hlt (Nat.not_lt_zero _)
          · injection hv' with h1 _ _
            exact ⟨b, off, h1, hb, by rw [← hzd]; exact hc k hlt⟩
        subst ha
        have hcx : wr.cell? ⟨b, off + k, none⟩ = some (.int .i64 z) := (hbw.cell (by exact hb)).trans hc
        have hval : Utf8.valid z = true := Hvs.out z (by rw [← hzd]; exact getD_mem zs k hlt)
        have Hval : Hid (Utf8.valid z = true) := hval
        have hes : (Utf8.encode z).size ≤ 4 := by rw [encode_len z hval]; exact Plain.bytes_le _
        have HS1 : Hid ((S ++ Utf8.encode z).data.toList = Plain.text (nats (zs.take (k + 1)))) := text_snoc hlt HS.out hzd hval
        clear hc hzd hval
        go_wp2_with fail
        refine (char_any z _).mono ?_
        rintro e w8 ⟨rfl, hw8⟩
        rw [hw8, Hval.out]
        clear hw8 w8
        go_wp2_with fail
        refine (rput_any z _ Hval.out).mono ?_
        rintro e w8 ⟨rfl, hb8⟩
        have hbx : Below w.heap.size w w8 := hbw.trans (hb8.mono hbw.size)
        have hbx7 : Below w7.heap.size w7 w8 := hbw7.trans (hb8.mono hbw7.size)
        have hss : (S ++ Utf8.encode z).size ≤ 4 * (k + 1) := by rw [ByteArray.size_append]; omega
        clear hb8 hbw hbw7 hcx
        go_wp2_with fail
        go_roundw
        case rel => exact ⟨k + 1, S ++ Utf8.encode z, by omega, by go_num, rfl, rfl, hss, HS1, hbx, hbx7⟩
        case measure => simp [intOf]; omega
      · obtain rfl : k = zs.length := by omega
        have hST : S = T := by
          rw [← HT.out]
          have := HS.out
          rw [List.take_length] at this
          exact bytes_ext this
        subst hST
        have hr4f := hr47.below hbw7
        have hr5f := hr57.below hbw7
        clear hr47 hr57 hbw7
        go_wp2_with fail
        refine (equal_same _ _ zz _ hr4f hr5f (by omega)).mono ?_
        rintro e w9 ⟨rfl, q9, hw9⟩
        have hbz : Below w.heap.size w w9 := hbw.trans (by rw [hw9]; exact (drew_below _ _).mono hbw.size)
        clear hw9 hr4f hr5f hbw
        go_wp2_with fail
        go_ret
        exact ⟨rfl, hbz⟩
  · have Hvs : Hid (¬ Valids zs) := hvs
    clear hvs
    go_wp2_with fail
    go_loopw [25, 26, 87] (fun v25 v26 v87 wr => ∃ (k : Nat) (S : ByteArray), k ≤ zs.length ∧ v87 = .int .i64 (k : Int) ∧ v26 = .int .i64 0 ∧ v25 = .string S ∧ S.size ≤ 4 * k ∧ Hid (Valids (zs.take k)) ∧ Below w.heap.size w wr ∧ Below w7.heap.size w7 wr)
      (fun _ _ v87 _ => zs.length - (intOf v87).toNat)
    case atStart => exact ⟨0, ⟨#[]⟩, Nat.zero_le _, rfl, rfl, rfl, Nat.le_refl _, (fun _ h => by simp at h), hb7, Below.refl _ _⟩
    case round =>
      obtain ⟨k, S, hk, rfl, rfl, rfl, hS4, HS, hbw, hbw7⟩ := hrel
      by_cases hlt : k < zs.length
      · obtain ⟨z, hzd⟩ : ∃ z, zs.getD k 0 = z := ⟨_, rfl⟩
        have Hzd : Hid (zs.getD k 0 = z) := hzd
        obtain ⟨b, off, ha, hb, hc⟩ : ∃ b off, a = some ⟨b, off, none⟩ ∧ b < w.heap.size ∧ w.cell? ⟨b, off + k, none⟩ = some (.int .i64 z) := by
          rcases Hr.out with ⟨_, _, _, h0⟩ | ⟨b, off, cap', hv', hb, hc⟩
          · rw [h0] at hlt; exact absurd hlt (Nat.not_lt_zero _)
          · injection hv' with h1 _ _
            exact ⟨b, off, h1, hb, by rw [← hzd]; exact hc k hlt⟩
        subst ha
        have hcx : wr.cell? ⟨b, off + k, none⟩ = some (.int .i64 z) := (hbw.cell (by exact hb)).trans hc
        clear hc hzd
        go_wp2_with fail
        refine (char_any z _).mono ?_
        rintro e w8 ⟨rfl, hw8⟩
        rw [hw8]
        clear hw8 w8
        cases hval : Utf8.valid z with
        | true =>
          have Hval : Hid (Utf8.valid z = true) := hval
          have hes : (Utf8.encode z).size ≤ 4 := by rw [encode_len z hval]; exact Plain.bytes_le _
          have HS1 : Hid (Valids (zs.take (k + 1))) := valids_snoc hlt HS.out Hzd.out hval
          clear hval
          go_wp2_with fail
          refine (rput_any z _ Hval.out).mono ?_
          rintro e w8 ⟨rfl, hb8⟩
          have hbx : Below w.heap.size w w8 := hbw.trans (hb8.mono hbw.size)
          have hbx7 : Below w7.heap.size w7 w8 := hbw7.trans (hb8.mono hbw7.size)
          have hss : (S ++ Utf8.encode z).size ≤ 4 * (k + 1) := by rw [ByteArray.size_append]; omega
          clear hb8 hbw hbw7 hcx
          go_wp2_with fail
          go_roundw
          case rel => exact ⟨k + 1, S ++ Utf8.encode z, by omega, by go_num, rfl, rfl, hss, HS1, hbx, hbx7⟩
          case measure => simp [intOf]; omega
        | false =>
          have hr4f := hr47.below hbw7
          have hr5f := hr57.below hbw7
          clear hr47 hr57 hbw7 hcx hval
          go_wp2_with fail
          refine (equal_same _ _ zz _ hr4f hr5f (by omega)).mono ?_
          rintro e w9 ⟨rfl, q9, hw9⟩
          have hbz : Below w.heap.size w w9 := hbw.trans (by rw [hw9]; exact (drew_below _ _).mono hbw.size)
          clear hw9 hr4f hr5f hbw
          go_wp2_with fail
          go_ret
          exact ⟨rfl, hbz⟩
      · exfalso
        obtain rfl : k = zs.length := by omega
        have := HS.out
        rw [List.take_length] at this
        exact Hvs.out this

theorem walk (c : Int) (s : ByteArray) (v : Value) (zs : List Int) (w : World) (hs : s.size ≤ 1048576) (hr : Reads w v zs) (hz : zs.length ≤ 1048576) :
    Calls Try.prog 3 #[.int .i64 c, .string s, v] w fun e w' => e = .returned (.bool true) ∧ Below w.heap.size w w' := by
  obtain ⟨a, cap, rfl⟩ := hr.shape
  cases hv : Utf8.valid c with
  | true => exact walk_yes c s a cap zs w hv hs hr hz
  | false => exact walk_no c s a cap zs w hv hs hr hz

theorem bulk_len {H : Type} : ∀ l : List (DataW H), l.length ≤ Rows.uptoBulkAll l
  | [] => Nat.zero_le _
  | d :: r => by
    have h1 := bulk_len r
    have h2 : 1 ≤ Rows.uptoBulk d := by
      cases d with
      | lit l => cases l <;> simp [Rows.uptoBulk]
      | nil => simp [Rows.uptoBulk]
      | ptr d => simp [Rows.uptoBulk]
      | slice a b => simp [Rows.uptoBulk]
      | agg p => simp [Rows.uptoBulk]
      | iface t d => simp [Rows.uptoBulk]
      | map e => simp [Rows.uptoBulk]
      | held h => simp [Rows.uptoBulk]
    simp only [Rows.uptoBulkAll, List.length_cons]
    omega

theorem short {H : Type} {x d : DataW H} {s : ByteArray} (hk : Rows.uptoSmall H [x, .lit (.string s.data.toList), d] = true) :
    s.size ≤ 1048576 ∧ ∀ es sp, d = .slice es sp → es.length ≤ 1048576 := by
  have h : Rows.uptoBulkAll [x, DataW.lit (H := H) (.string s.data.toList), d] ≤ 1048576 := of_decide_eq_true hk
  simp only [Rows.uptoBulkAll, Rows.uptoBulk] at h
  have e : s.data.toList.length = s.size := by rw [Array.length_toList]; rfl
  refine ⟨by omega, fun es sp hd => ?_⟩
  subst hd
  simp only [Rows.uptoBulk] at h
  have := bulk_len es
  omega

theorem contract (H : Type) (enc : TypeId × Value → H) (W : World) (base : Nat) (args : Array Value) (ds gs : List (DataW H)) (before : List MemPlace)
    (hval : ∀ (j : Nat) t v, Try.f3.params[j]? = some t → args[j]? = some v → Value.okWide Try.prog W .any base t v)
    (hW : DataW.Whole enc Try.prog Try.f3.params.toList Rows.utfSaysSpec.vars false W args.toList ds gs before) (hk : Rows.uptoSmall H (ds ++ gs) = true) :
    Calls Try.prog 3 args W fun e W' => ∃ v, e = .returned v ∧ Rows.utfSaysSpec.post enc Try.prog Try.f3 false true false false W args v W' := by
  have hW' := hW
  obtain ⟨p, q, hA0, hV, rfl, _, _⟩ := hW
  have hA : DataW.TrodAll enc Try.prog W 0 (fun _ => true) true Try.f3.params.toList args.toList ds p := hA0
  rw [Try.params3] at hA hval
  obtain ⟨v0, vs0, d0, ds0, p0, q0, hargs, rfl, rfl, h0, r0⟩ := trodAll_cons hA
  obtain ⟨v1, vs1, d1, ds1, p1, q1, rfl, rfl, rfl, h1, r1⟩ := trodAll_cons r0
  obtain ⟨v2, vs2, d2, ds2, p2, q2, rfl, rfl, rfl, h2, r2⟩ := trodAll_cons r1
  obtain ⟨rfl, rfl, rfl⟩ := trodAll_nil r2
  obtain rfl : args = #[v0, v1, v2] := by cases args; simp_all
  obtain ⟨rfl, rfl⟩ := trodVars_none hV
  obtain ⟨c, rfl, rfl, rfl, wc⟩ := open_int Try.underlying3 (hval 0 3 v0 rfl rfl) h0
  obtain ⟨s, rfl, rfl, rfl, hmax⟩ := open_string Try.underlying9 (hval 1 9 v1 rfl rfl) h1
  obtain ⟨a2, len, cap, rfl⟩ := okWide_slice Try.underlying22 (hval 2 22 v2 rfl rfl)
  clear hA0
  simp only [List.append_nil, List.nil_append] at hW' hk
  have hlt : ∀ x ∈ p2, x.block < W.heap.size := fun x hx => by simpa using hW'.lt x hx
  have hargs2 : ∀ (W' : World), Below W.heap.size W W' → DataW.Trod enc Try.prog W' 0 (fun b => decide (b < W.heap.size)) true 22 (.slice a2 len cap) d2 p2 :=
    fun W' hn => Below.trod utfBack.laidOut (by kernel_rfl) (of_decide_eq_true (by kernel_rfl)) h2 hn hlt
  obtain ⟨zs, hr, hcase⟩ := utfBack.open_reads h2 hlt
  obtain ⟨hms, hes⟩ := short hk
  have hreach : zs.length ≤ 1048576 := by
    rcases hcase with rfl | ⟨es, sp, hd, he⟩
    · exact Nat.zero_le _
    · rw [← he]; exact hes es sp hd
  refine (walk c s _ zs W hms hr hreach).mono fun e W' ⟨he, hb⟩ => ?_
  subst he
  exact ⟨_, rfl, _, _, _, [], p2, [], hW', trodAll_cons_mk (shut_bool Try.underlying4 _) trodAll_mk0,
    by
      have := trodAll_cons_mk (ds := [.lit (.string s.data.toList), d2]) (shut_int (enc := enc) (w := W') (base := 0) (spare := fun b => decide (b < W.heap.size)) (held := true) Try.underlying3 wc) (trodAll_cons_mk (shut_string Try.underlying9 hmax) (trodAll_cons_mk (hargs2 _ hb) trodAll_mk0))
      simp only [List.append_nil, List.nil_append] at this
      exact this,
    rfl, hb.frame _, fun h => by cases h⟩

set_option maxRecDepth 100000 in
theorem lifted (os : Os) (started : os.Started) (H : Type) (enc : TypeId × Value → H) (F : Stop.Interp) :
    ReturnsInHanded {} Try.checked os 3 .any ((Rows.OpenSpec.upto Rows.utfSaysSpec).pre6 enc Try.prog Try.f3 Rows.utfSaysUptoRow.domain false) (((Rows.OpenSpec.upto Rows.utfSaysSpec).at F).post enc Try.prog Try.f3 false true false false) := by
  refine returnsInHanded_of_cond (C := Try.checked) (s := Rows.OpenSpec.upto Rows.utfSaysSpec) (k := Rows.uptoSmall) rfl utfBack.own started (by kernel_rfl) Try.func3
    (OpenSpec.witness (enc := enc) (C := Try.checked) (s := Rows.OpenSpec.upto Rows.utfSaysSpec) (k := Rows.uptoSmall) rfl false ⟨#[], #[.int .i64 0, .string .empty, .slice none 0 0], []⟩ 8 (by kernel_rfl) (by kernel_rfl) (by kernel_rfl)
      (x := ([.lit (.int .i64 0), .lit (.string []), .nil], [], [])) (by kernel_rfl) rfl (by kernel_rfl)) ?_
  intro W base args ds gs before hval hW _ hk _
  exact contract H enc W base args ds gs before hval hW hk

theorem over : Rows.UtfSaysUptoSaid :=
  OpenClaim.holds_of_cond 3 Try.f3 rfl rfl rfl rfl rfl rfl rfl ⟨rfl, rfl, rfl, rfl, rfl⟩ rfl rfl rfl rfl rfl (by kernel_rfl) Try.func3 (by kernel_rfl)
    (of_decide_eq_true (by kernel_rfl)) (by unfold Func.isWrapper; first | (rw [if_pos (by decide +kernel)]; kernel_rfl) | (rw [if_neg (by decide +kernel)]; exact ⟨rfl, rfl⟩))
    (fun os started H enc _ F => lifted os started H enc F)
end Go.Proofs.Ytdhoackhjojobaa.utfSays
namespace Go.Proofs.Ytdhoackhjojobaa
theorem utfSays_upto_holds : Rows.UtfSaysUptoSaid := utfSays.over
#print axioms utfSays_upto_holds
end Go.Proofs.Ytdhoackhjojobaa
