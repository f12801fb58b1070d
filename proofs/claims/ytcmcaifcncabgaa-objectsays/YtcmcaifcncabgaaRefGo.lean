/- The contract of the document's Object. -/
import Derived.Test.YtcmcaifcncabgaaRefWords
import Derived.Test.YtcmcaifcncabgaaRefQuotes
import Derived.Test.YtcmcaifcncabgaaRefBrackets
set_option linter.unusedVariables false
set_option linter.unusedSimpArgs false
namespace Go.Proofs.Ytcmcaifcncabgaa.Seek
open Go.RowKit Plain

set_option maxRecDepth 100000 in
set_option maxHeartbeats 8000000 in
theorem ref_large (a : Option Addr) (n cap : Nat) (k : Int) (ar : Bool) (key : Int) (w : World) (h : 4096 < n) (hm : n ≤ maxLen) :
    Calls Try.prog 7 #[.slice a n cap, .int .i64 k, .bool ar, .int .i64 key] w fun e w' => ThingPost (0, 0, 2) w e w' := by
  unfold maxLen at hm
  go_enter Try.func7, Try.ntmps7
  go_wp2_with fail
  go_ret3
  exact ⟨rfl, Below.refl _ _⟩

set_option maxRecDepth 100000 in
set_option maxHeartbeats 8000000 in
theorem ref_arg (a : Option Addr) (n cap : Nat) (k : Int) (ar : Bool) (key : Int) (w : World) (h : n ≤ 4096) (hk : k < 0 ∨ ((n - 1 : Nat) : Int) < k) :
    Calls Try.prog 7 #[.slice a n cap, .int .i64 k, .bool ar, .int .i64 key] w fun e w' => ThingPost (0, 0, 1) w e w' := by
  by_cases h0 : k < 0
  · clear hk
    go_enter Try.func7, Try.ntmps7
    go_wp2_with fail
    go_ret3
    exact ⟨rfl, Below.refl _ _⟩
  · have hk2 : (0 : Int) < k := by omega
    have hk3 : (n : Int) ≤ k := by omega
    clear hk h0
    go_enter Try.func7, Try.ntmps7
    go_wp2_with fail
    all_goals (
      go_ret3
      exact ⟨rfl, Below.refl _ _⟩)

set_option maxRecDepth 100000 in
set_option maxHeartbeats 8000000 in
theorem ref_empty (a : Option Addr) (cap : Nat) (ar : Bool) (key : Int) (w : World) (hkey : key = 119 ∨ key = 87) :
    Calls Try.prog 7 #[.slice a 0 cap, .int .i64 0, .bool ar, .int .i64 key] w fun e w' => ThingPost (0, 0, 6) w e w' := by
  rcases hkey with rfl | rfl
  all_goals (
    go_enter Try.func7, Try.ntmps7
    go_wp2_with fail
    go_ret3
    exact ⟨rfl, Below.refl _ _⟩)

theorem ref_word (a : Option Addr) (cap : Nat) (zs : List Int) (k : Nat) (ar : Bool) (key : Int) (w : World) (hr : Reads w (.slice a zs.length cap) zs) (h : zs.length ≤ 4096) (hk : k ≤ zs.length - 1) (hkey : key = 119 ∨ key = 87) :
    Calls Try.prog 7 #[.slice a zs.length cap, .int .i64 (k : Int), .bool ar, .int .i64 key] w fun e w' => ThingPost (wanswer zs k ar (key == 87)) w e w' := by
  by_cases hz : zs.length = 0
  · rw [show wanswer zs k ar (key == 87) = (0, 0, 6) from if_pos hz, hz]
    rw [hz] at hk
    obtain rfl : k = 0 := by omega
    exact ref_empty a cap ar key w hkey
  · rcases hr with ⟨_, _, _, rfl⟩ | ⟨b, off, cap', hv, hcap, hcm, hb, hc⟩
    · exact absurd rfl hz
    · cases hv
      rw [show wanswer zs k ar (key == 87) = (((wrd zs (key == 87) ar k).1 : Int), ((wrd zs (key == 87) ar k).2 : Int), 0) from if_neg hz]
      rcases hkey with rfl | rfl
      · exact (refword_119 b off cap zs k ar w (by omega) h hc).mono (fun e w' hh => ⟨hh.1, hh.2.below⟩)
      · exact (refword_87 b off cap zs k ar w (by omega) h hc).mono (fun e w' hh => ⟨hh.1, hh.2.below⟩)

theorem opn_none {key : Int} (h : sgn key = false) : opn key = 0 := by
  have h0 : brk key = 0 := by
    unfold sgn at h
    simp only [Bool.or_eq_false_iff, bne_eq_false_iff_eq] at h
    exact h.1.1.1
  rcases sort key with g | g | g
  · exact absurd h0 g.2.2.1
  · exact absurd h0 g.2.2.1
  · exact (opn_other g.1 g.2.1).1

theorem ref_go (v : Value) (zs : List Int) (k : Int) (ar : Bool) (key : Int) (w : World) (hr : Reads w v zs) :
    Calls Try.prog 7 #[v, .int .i64 k, .bool ar, .int .i64 key] w fun e w' => ThingPost (thing zs k ar key) w e w' := by
  have hm := hr.most
  obtain ⟨a, cap, rfl⟩ := hr.shape
  by_cases h : 4096 < zs.length
  · rw [thing_large h]
    exact ref_large a zs.length cap k ar key w h hm
  · by_cases hk : k < 0 ∨ ((zs.length - 1 : Nat) : Int) < k
    · rw [thing_arg h hk]
      exact ref_arg a zs.length cap k ar key w (by omega) hk
    · obtain ⟨j, rfl⟩ : ∃ j : Nat, k = (j : Int) := ⟨k.toNat, by omega⟩
      have hj : j ≤ zs.length - 1 := by omega
      by_cases hw : key = 119 ∨ key = 87
      · rw [thing_word h hk hw]
        exact ref_word a cap zs j ar key w hr (by omega) hj hw
      · cases hs : sgn key with
        | true =>
          rw [thing_sign h hk hs]
          rcases sgn_cases hs with hb | hq
          · have h0 : brk key ≠ 0 := by rcases hb with rfl | rfl | rfl | rfl | rfl | rfl <;> decide
            have h1 : opn key ≠ 0 := by rcases hb with rfl | rfl | rfl | rfl | rfl | rfl <;> decide
            unfold pick
            rw [if_neg h0]
            exact refbracket a cap zs j ar key w hr (by omega) hj (noKey hw (by omega)) h1
          · have h0 : brk key = 0 := by rcases hq with rfl | rfl | rfl <;> decide
            unfold pick
            rw [if_pos h0]
            exact refquote a cap zs j ar key w hr (by omega) hj hq
        | false =>
          rw [thing_key h hk hw hs]
          have hn := sgn_none hs
          exact refother a zs.length cap j ar key w (by omega) hj (noKey hw (by omega)) (opn_none hs)
end Go.Proofs.Ytcmcaifcncabgaa.Seek
