/- The contracts of feed: badSize, next, Feed, End. -/
import Derived.Test.YtbefcdkjkjeonaaDoorDecided
import Derived.Test.YtbefcdkjkjeonaaDoorShelfClone
import Derived.Test.YtbefcdkjkjeonaaDoorReads
set_option linter.unusedVariables false
set_option linter.unusedSimpArgs false
namespace Go.Proofs.YtbefcdkjkjeonaaDoor.Utf
open Go.RowKit

/-- The two tables of the library's are there. -/
def Tabs (w : World) : Prop := Lib.Utf8Tabs 0 1 w ∧ 1 < w.heap.size
theorem Tabs.below {w w' : World} (h : Tabs w) (hb : Below w.heap.size w w') : Tabs w' := ⟨tabs_below h.1 h.2 hb, Nat.lt_of_lt_of_le h.2 hb.size⟩
theorem below_trans {w w1 w2 : World} (h : Below w.heap.size w w1) (k : Below w1.heap.size w1 w2) : Below w.heap.size w w2 :=
  h.trans (k.mono h.size)
theorem below_drewN {w w1 : World} {B : Nat} (h : Below B w w1) (n : Nat) : Below B w (w1.drewN n) := ⟨h.os, h.tape, h.output, h.size, h.block⟩
theorem extract_take (s : ByteArray) (k : Nat) : (s.extract 0 k).data.toList = s.data.toList.take k := by
  rw [ByteArray.data_extract, Array.toList_extract]
  simp
theorem size_list (s : ByteArray) : s.data.toList.length = s.size := Array.length_toList ..

/-- What badSize has seen. -/
def Seen (l : List UInt8) (k : Nat) : Prop := (2 ≤ k → Plain.full (l.take 2) = false) ∧ (3 ≤ k → Plain.full (l.take 3) = false)
theorem Seen.done {l : List UInt8} {k : Nat} (h : Seen l k) (h1 : 1 ≤ k) (h3 : k ≤ 3) (hf : Plain.full (l.take (k + 1)) = true) : Plain.bad l = k := by
  unfold Plain.bad
  rcases (by omega : k = 1 ∨ k = 2 ∨ k = 3) with rfl | rfl | rfl
  · rw [hf]; rfl
  · rw [h.1 (by omega), hf]; rfl
  · rw [h.1 (by omega), h.2 (by omega)]; rfl
theorem Seen.next {l : List UInt8} {k : Nat} (h : Seen l k) (h1 : 1 ≤ k) (hl : k < l.length) (hf : Plain.full (l.take (k + 1)) = false) : Seen l (k + 1) ∧ k + 1 ≤ 3 := by
  have h4 : k + 1 ≤ 3 := by
    have := Plain.pend_len _ hf
    rw [List.length_take] at this
    omega
  refine ⟨⟨fun _ => ?_, fun _ => ?_⟩, h4⟩
  · rcases (by omega : k = 1 ∨ 2 ≤ k) with rfl | hk
    · exact hf
    · exact h.1 hk
  · obtain rfl : k = 2 := by omega
    exact hf
theorem Seen.whole {l : List UInt8} {k : Nat} (h : Seen l k) (h1 : 1 ≤ k) (h3 : k ≤ 3) (hk : k = l.length) (hf : Plain.full l = true) : Plain.bad l = k :=
  h.done h1 h3 (by rw [List.take_of_length_le (by omega)]; exact hf)

set_option maxHeartbeats 1000000 in
theorem badsize_any (s : ByteArray) (w : World) (n : Nat) (hn : Hid (Plain.bad s.data.toList = n)) (hs : s.size ≤ 9223372036854775807) (hT : Tabs w) (hf : Hid (Plain.full s.data.toList = true)) :
    Calls Tryd.prog 28 #[.string s] w fun e w' => e = .returned (.int .i64 (n : Int)) ∧ Below w.heap.size w w' := by
  have h0 : 0 < s.size := by
    rcases Nat.eq_zero_or_pos s.size with h | h
    · have := hf.out
      rw [list0 s h] at this
      cases this
    · exact h
  go_enter Tryd.func28, Tryd.ntmps28
  go_wp2_with fail
  go_loopw [3] (fun i wr => ∃ k : Nat, i = .int .i64 (k : Int) ∧ 1 ≤ k ∧ k ≤ 3 ∧ k ≤ s.size ∧ Hid (Seen s.data.toList k) ∧ Below w.heap.size w wr) (fun i _ => 3 - (intOf i).toNat)
  case atStart => exact ⟨1, rfl, by omega, by omega, by omega, ⟨fun h => absurd h (by omega), fun h => absurd h (by omega)⟩, Below.refl _ _⟩
  case round =>
    obtain ⟨k, rfl, hk1, hk3, hks, Hk, hb⟩ := hrel
    by_cases hlt : k < s.size
    · go_wp2_with fail
      have hex : Hid ((s.extract 0 (k + 1)).data.toList = s.data.toList.take (k + 1)) := extract_take s (k + 1)
      refine (decided_any _ _ (by rw [ByteArray.size_extract]; omega) (hT.below hb).1).mono ?_
      rintro e w1 ⟨rfl, hb1⟩
      rw [hex.out]
      have hb2 := below_trans hb hb1
      clear hb1
      cases hq : Plain.full (s.data.toList.take (k + 1)) with
      | true =>
        have hd := Hk.out.done hk1 hk3 hq
        rw [hn.out] at hd
        subst hd
        clear hq
        go_wp2_with fail
        go_ret
        exact ⟨rfl, hb2⟩
      | false =>
        have hd := Hk.out.next hk1 (by rw [size_list]; exact hlt) hq
        have Hd : Hid (Seen s.data.toList (k + 1)) := hd.1
        have hk4 := hd.2
        clear hq hd
        go_wp2_with fail
        go_roundw
        case rel => exact ⟨k + 1, by go_num, by omega, hk4, by omega, Hd.out, hb2⟩
        case measure => simp [intOf]; omega
    · have hd := Hk.out.whole hk1 hk3 (by rw [size_list]; omega) hf.out
      rw [hn.out] at hd
      subst hd
      go_wp2_with fail
      go_ret
      exact ⟨rfl, hb⟩

theorem next_any (s : ByteArray) (w : World) (c n : Nat) (hn : Hid (Plain.step s.data.toList = (c, n))) (hs : s.size ≤ 9223372036854775807) (hT : Tabs w) (hf : Hid (Plain.full s.data.toList = true)) :
    Calls Tryd.prog 18 #[.string s] w fun e w' => e = .returned (.tuple #[.int .i64 (c : Int), .int .i64 (n : Int)]) ∧ Below w.heap.size w w' := by
  go_enter Tryd.func18, Tryd.ntmps18
  go_wp2_with fail
  refine (get_any s _ (by omega)).mono ?_
  rintro e w1 ⟨rfl, hw1⟩
  have hb1 : Below w.heap.size w w1 := by obtain ⟨q, rfl⟩ := hw1; exact below_drewN (Below.refl _ _) q
  clear hw1
  have hstep := hn.out
  unfold Plain.step at hstep
  obtain ⟨c', n', er, hg⟩ : ∃ c n er, Plain.get s.data.toList = (c, n, er) := ⟨_, _, _, rfl⟩
  rw [hg] at hstep ⊢
  clear hg
  unfold out
  simp only at hstep ⊢
  by_cases her : er = 0
  · subst her
    rw [if_pos rfl] at hstep
    obtain ⟨rfl, rfl⟩ := Prod.mk.inj hstep
    clear hstep hn
    go_wp2_with fail
    go_ret2
    exact ⟨rfl, hb1⟩
  · rw [if_neg her] at hstep
    obtain ⟨h1, h2⟩ := Prod.mk.inj hstep
    have Hb : Hid (Plain.bad s.data.toList = n) := h2
    subst h1
    have her2 : ((er : Int) == 0) = false := by simp; omega
    clear hstep hn h2
    go_wp2_with fail
    refine (badsize_any s _ n Hb hs (hT.below hb1) hf).mono ?_
    rintro e w2 ⟨rfl, hb2⟩
    go_wp2_with fail
    go_ret2
    exact ⟨rfl, below_trans hb1 hb2⟩

theorem clone_any (s : ByteArray) (w : World) (hlim : s.size ≤ 281474976710656) :
    Calls Tryd.prog 19 #[.string s] w fun e w' => e = .returned (.string s) ∧ Below w.heap.size w w' := by
  go_enter Tryd.func19, Tryd.ntmps19
  go_wp2_with fail
  refine (Tryd.stringslite_Clone s _ hlim).mono ?_
  rintro e w1 ⟨rfl, hb⟩
  go_wp2_with fail
  go_ret
  exact ⟨rfl, hb⟩
end Go.Proofs.YtbefcdkjkjeonaaDoor.Utf
