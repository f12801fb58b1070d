/- The contracts of word.kindAt, word.begins, word.ends, word.check, and of the document's begins and ends. -/
import Derived.Test.YtpgjaoemkadenabPlaces
set_option linter.unusedVariables false
set_option linter.unusedSimpArgs false
set_option maxRecDepth 100000
namespace Go.Proofs.Ytpgjaoemkadenab.Seek
open Go.RowKit Plain

theorem kindAt_go (v : Value) (zs : List Int) (x : Int) (i : Nat) (b : Bool) (w : World) (hp : Reads w v zs) (hx : x = (i : Int)) :
    Calls Try.prog 69 #[v, .int .i64 x, .bool b] w fun e w' => e = .returned (.int .i64 (knd zs b i)) ∧ w' = w := by
  subst hx
  by_cases hi : i < zs.length
  · rcases hp with ⟨_, _, _, rfl⟩ | ⟨bl, o, c, rfl, _, _, _, hc⟩
    · exact absurd hi (by simp)
    · have hcx := hc i hi
      clear hc
      rw [knd_in hi]
      generalize zs.getD i 0 = z at *
      have hI : (i : Int) < (zs.length : Int) := by omega
      go_enter Try.func69, Try.ntmps69
      go_wp2_with fail
      refine (kind_go z b w).mono ?_
      rintro e w1 ⟨rfl, hw1⟩
      rw [hw1]
      clear hw1 w1
      go_wp2_with fail
      go_ret
      exact ⟨rfl, rfl⟩
  · obtain ⟨a, cap, rfl⟩ := hp.shape
    rw [knd_out (by omega)]
    have hI : (zs.length : Int) ≤ (i : Int) := by omega
    clear hp
    go_enter Try.func69, Try.ntmps69
    go_wp2_with fail
    go_ret
    exact ⟨rfl, rfl⟩

theorem begins_go (v : Value) (zs : List Int) (m : Nat) (b : Bool) (w : World) (hp : Reads w v zs) (hm : 1 ≤ m) (hm2 : m ≤ 4096) :
    Calls Try.prog 58 #[v, .int .i64 (m : Int), .bool b] w fun e w' => e = .returned (.bool (bgn zs b m)) ∧ w' = w := by
  have Hb : Hid (bgn zs b m = (knd zs b m != 0 && knd zs b m != knd zs b (m - 1))) := rfl
  have Hp : Hid (Reads w v zs) := hp
  clear hp
  go_enter Try.func58, Try.ntmps58
  go_wp2_with fail
  refine (kindAt_go v zs (m : Int) m b w Hp.out rfl).mono ?_
  rintro e w1 ⟨rfl, hw1⟩
  rw [hw1]
  clear hw1 w1
  obtain ⟨K, hK⟩ : ∃ K, K = knd zs b m := ⟨_, rfl⟩
  rw [← hK] at Hb ⊢
  clear hK
  cases h0 : (K != 0) with
  | false =>
    rw [h0] at Hb
    go_wp2_with fail
    go_ret
    rw [Hb.out]
    exact ⟨rfl, rfl⟩
  | true =>
    rw [h0] at Hb
    go_wp2_with fail
    refine (kindAt_go v zs ((m : Int) - 1) (m - 1) b w Hp.out (by omega)).mono ?_
    rintro e w1 ⟨rfl, hw1⟩
    rw [hw1]
    clear hw1 w1
    go_wp2_with fail
    go_ret
    rw [Hb.out]
    exact ⟨rfl, rfl⟩

theorem ends_go (v : Value) (zs : List Int) (m : Nat) (b : Bool) (w : World) (hp : Reads w v zs) (hm2 : m ≤ 4096) :
    Calls Try.prog 90 #[v, .int .i64 (m : Int), .bool b] w fun e w' => e = .returned (.bool (fin zs b m)) ∧ w' = w := by
  have Hb : Hid (fin zs b m = (knd zs b m != 0 && knd zs b m != knd zs b (m + 1))) := rfl
  have Hp : Hid (Reads w v zs) := hp
  clear hp
  go_enter Try.func90, Try.ntmps90
  go_wp2_with fail
  refine (kindAt_go v zs (m : Int) m b w Hp.out rfl).mono ?_
  rintro e w1 ⟨rfl, hw1⟩
  rw [hw1]
  clear hw1 w1
  obtain ⟨K, hK⟩ : ∃ K, K = knd zs b m := ⟨_, rfl⟩
  rw [← hK] at Hb ⊢
  clear hK
  cases h0 : (K != 0) with
  | false =>
    rw [h0] at Hb
    go_wp2_with fail
    go_ret
    rw [Hb.out]
    exact ⟨rfl, rfl⟩
  | true =>
    rw [h0] at Hb
    go_wp2_with fail
    refine (kindAt_go v zs ((m : Int) + 1) (m + 1) b w Hp.out (by omega)).mono ?_
    rintro e w1 ⟨rfl, hw1⟩
    rw [hw1]
    clear hw1 w1
    go_wp2_with fail
    go_ret
    rw [Hb.out]
    exact ⟨rfl, rfl⟩

theorem check_go (a : Option Addr) (n cap : Nat) (k : Int) (w : World) : Calls Try.prog 57 #[.slice a n cap, .int .i64 k] w fun e w' => e = .returned (.int .i64 (chk n k)) ∧ w' = w := by
  by_cases h1 : 4096 < n
  · have hk : chk n k = 2 := by unfold chk; rw [if_pos h1]
    rw [hk]
    clear hk
    have hI : (4096 : Int) < (n : Int) := by omega
    go_enter Try.func57, Try.ntmps57
    go_wp2_with fail
    go_ret
    exact ⟨rfl, rfl⟩
  · have hI : (n : Int) ≤ 4096 := by omega
    by_cases h2 : k < 0
    · have hk : chk n k = 1 := by unfold chk; rw [if_neg h1, if_pos (.inl h2)]
      rw [hk]
      clear hk h1
      go_enter Try.func57, Try.ntmps57
      go_wp2_with fail
      go_ret
      exact ⟨rfl, rfl⟩
    · by_cases h3 : (n : Int) < k
      · have hk : chk n k = 1 := by unfold chk; rw [if_neg h1, if_pos (.inr h3)]
        rw [hk]
        clear hk h1
        have h2' : 0 ≤ k := by omega
        clear h2
        go_enter Try.func57, Try.ntmps57
        go_wp2_with fail
        go_ret
        exact ⟨rfl, rfl⟩
      · have hk : chk n k = 0 := by unfold chk; rw [if_neg h1, if_neg (by omega)]
        rw [hk]
        clear hk h1
        have h2' : 0 ≤ k := by omega
        have h3' : k ≤ (n : Int) := by omega
        clear h2 h3
        go_enter Try.func57, Try.ntmps57
        go_wp2_with fail
        go_ret
        exact ⟨rfl, rfl⟩

end Go.Proofs.Ytpgjaoemkadenab.Seek
