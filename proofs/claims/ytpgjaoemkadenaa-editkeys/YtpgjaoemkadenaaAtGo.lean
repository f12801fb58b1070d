/- The contracts of word.kindAt, word.begins, word.ends, word.check, and of the document's begins and ends. -/
import Derived.Test.YtpgjaoemkadenaaPlaces
set_option linter.unusedVariables false
set_option linter.unusedSimpArgs false
set_option maxRecDepth 100000
namespace Go.Proofs.Ytpgjaoemkadenaa.Seek
open Go.RowKit Plain

theorem kindAt_go (v : Value) (zs : List Int) (x : Int) (i : Nat) (b : Bool) (w : World) (hp : Reads w v zs) (hx : x = (i : Int)) :
    Calls Try.prog 55 #[v, .int .i64 x, .bool b] w fun e w' => e = .returned (.int .i64 (knd zs b i)) ∧ w' = w := by
  subst hx
  by_cases hi : i < zs.length
  · rcases hp with ⟨_, _, _, rfl⟩ | ⟨bl, o, c, rfl, _, _, _, hc⟩
    · exact absurd hi (by simp)
    · have hcx := hc i hi
      clear hc
      rw [knd_in hi]
      generalize zs.getD i 0 = z at *
      have hI : (i : Int) < (zs.length : Int) := by omega
      go_enter Try.func55, Try.ntmps55
      go_wp2_with fail
      refine (kind_go z b w).mono ?_
      rintro e w1 ⟨rfl, hw1⟩
      rw [hw1]
      clear hw1 w1
      go_wp2_with fail
      go_ret
      exact ⟨rfl, rfl⟩
  · obtain ⟨a, cap, rfl⟩ := hp.shape
    rw [knd_out (by omega)]
    have hI : (zs.length : Int) ≤ (i : Int) := by omega
    clear hp
    go_enter Try.func55, Try.ntmps55
    go_wp2_with fail
    go_ret
    exact ⟨rfl, rfl⟩

theorem begins_go (v : Value) (zs : List Int) (m : Nat) (b : Bool) (w : World) (hp : Reads w v zs) (hm : 1 ≤ m) (hm2 : m ≤ 4096) :
    Calls Try.prog 43 #[v, .int .i64 (m : Int), .bool b] w fun e w' => e = .returned (.bool (bgn zs b m)) ∧ w' = w := by
  have Hb : Hid (bgn zs b m = (knd zs b m != 0 && knd zs b m != knd zs b (m - 1))) := rfl
  have Hp : Hid (Reads w v zs) := hp
  clear hp
  go_enter Try.func43, Try.ntmps43
  go_wp2_with fail
  refine (kindAt_go v zs (m : Int) m b w Hp.out rfl).mono ?_
  rintro e w1 ⟨rfl, hw1⟩
  rw [hw1]
  clear hw1 w1
  obtain ⟨K, hK⟩ : ∃ K, K = knd zs b m := ⟨_, rfl⟩
  rw [← hK] at Hb ⊢
  clear hK
  cases h0 : (K != 0) with
  | false =>
    rw [h0] at Hb
    go_wp2_with fail
    go_ret
    rw [Hb.out]
    exact ⟨rfl, rfl⟩
  | true =>
    rw [h0] at Hb
    go_wp2_with fail
    refine (kindAt_go v zs ((m : Int) - 1) (m - 1) b w Hp.out (by omega)).mono ?_
    rintro e w1 ⟨rfl, hw1⟩
    rw [hw1]
    clear hw1 w1
    go_wp2_with fail
    go_ret
    rw [Hb.out]
    exact ⟨rfl, rfl⟩

theorem ends_go (v : Value) (zs : List Int) (m : Nat) (b : Bool) (w : World) (hp : Reads w v zs) (hm2 : m ≤ 4096) :
    Calls Try.prog 89 #[v, .int .i64 (m : Int), .bool b] w fun e w' => e = .returned (.bool (fin zs b m)) ∧ w' = w := by
  have Hb : Hid (fin zs b m = (knd zs b m != 0 && knd zs b m != knd zs b (m + 1))) := rfl
  have Hp : Hid (Reads w v zs) := hp
  clear hp
  go_enter Try.func89, Try.ntmps89
  go_wp2_with fail
  refine (kindAt_go v zs (m : Int) m b w Hp.out rfl).mono ?_
  rintro e w1 ⟨rfl, hw1⟩
  rw [hw1]
  clear hw1 w1
  obtain ⟨K, hK⟩ : ∃ K, K = knd zs b m := ⟨_, rfl⟩
  rw [← hK] at Hb ⊢
  clear hK
  cases h0 : (K != 0) with
  | false =>
    rw [h0] at Hb
    go_wp2_with fail
    go_ret
    rw [Hb.out]
    exact ⟨rfl, rfl⟩
  | true =>
    rw [h0] at Hb
    go_wp2_with fail
    refine (kindAt_go v zs ((m : Int) + 1) (m + 1) b w Hp.out (by omega)).mono ?_
    rintro e w1 ⟨rfl, hw1⟩
    rw [hw1]
    clear hw1 w1
    go_wp2_with fail
    go_ret
    rw [Hb.out]
    exact ⟨rfl, rfl⟩

theorem check_go (a : Option Addr) (n cap : Nat) (k : Int) (w : World) : Calls Try.prog 42 #[.slice a n cap, .int .i64 k] w fun e w' => e = .returned (.int .i64 (chk n k)) ∧ w' = w := by
  by_cases h1 : 4096 < n
  · have hk : chk n k = 2 := by unfold chk; rw [if_pos h1]
    rw [hk]
    clear hk
    have hI : (4096 : Int) < (n : Int) := by omega
    go_enter Try.func42, Try.ntmps42
    go_wp2_with fail
    go_ret
    exact ⟨rfl, rfl⟩
  · have hI : (n : Int) ≤ 4096 := by omega
    by_cases h2 : k < 0
    · have hk : chk n k = 1 := by unfold chk; rw [if_neg h1, if_pos (.inl h2)]
      rw [hk]
      clear hk h1
      go_enter Try.func42, Try.ntmps42
      go_wp2_with fail
      go_ret
      exact ⟨rfl, rfl⟩
    · by_cases h3 : (n : Int) < k
      · have hk : chk n k = 1 := by unfold chk; rw [if_neg h1, if_pos (.inr h3)]
        rw [hk]
        clear hk h1
        have h2' : 0 ≤ k := by omega
        clear h2
        go_enter Try.func42, Try.ntmps42
        go_wp2_with fail
        go_ret
        exact ⟨rfl, rfl⟩
      · have hk : chk n k = 0 := by unfold chk; rw [if_neg h1, if_neg (by omega)]
        rw [hk]
        clear hk h1
        have h2' : 0 ≤ k := by omega
        have h3' : k ≤ (n : Int) := by omega
        clear h2 h3
        go_enter Try.func42, Try.ntmps42
        go_wp2_with fail
        go_ret
        exact ⟨rfl, rfl⟩

/-- The document's begins, at a place but the first. -/
theorem refbegins_go (bl o cap : Nat) (zs : List Int) (m : Nat) (b : Bool) (w : World) (hc : ∀ j, j < zs.length → w.cell? ⟨bl, o + j, none⟩ = some (.int .i64 (zs.getD j 0))) (hm : 1 ≤ m) (hm2 : m < zs.length) (hl : zs.length ≤ 4096) :
    Calls Try.prog 31 #[.slice (some ⟨bl, o, none⟩) zs.length cap, .int .i64 (m : Int), .bool b] w fun e w' => e = .returned (.bool (bgn zs b m)) ∧ w' = w := by
  have Hb : Hid (bgn zs b m = (kind (zs.getD m 0) b != 0 && kind (zs.getD m 0) b != kind (zs.getD (m - 1) 0) b)) := by
    show bgn zs b m = _
    unfold bgn
    rw [knd_in hm2, knd_in (by omega)]
  obtain ⟨i, rfl⟩ : ∃ i, m = i + 1 := ⟨m - 1, by omega⟩
  have hc1 := hc (i + 1) hm2
  have hc2 := hc i (by omega)
  clear hc
  rw [Nat.add_sub_cancel] at Hb
  generalize zs.getD (i + 1) 0 = y at *
  generalize zs.getD i 0 = z at *
  have hI : (i : Int) + 1 < (zs.length : Int) := by omega
  have hI2 : ((i : Int) + 1 == 0) = false := by simp; omega
  have e1 : ((i + 1 : Nat) : Int) = (i : Int) + 1 := by omega
  rw [e1]
  clear e1
  go_enter Try.func31, Try.ntmps31
  go_wp2_with fail
  refine (refkind_go y b w).mono ?_
  rintro e w1 ⟨rfl, hw1⟩
  rw [hw1]
  clear hw1 w1
  obtain ⟨K, hK⟩ : ∃ K, K = kind y b := ⟨_, rfl⟩
  rw [← hK] at Hb ⊢
  clear hK
  cases h0 : (K != 0) with
  | false =>
    rw [h0] at Hb
    go_wp2_with fail
    go_ret
    rw [Hb.out]
    exact ⟨rfl, rfl⟩
  | true =>
    rw [h0] at Hb
    go_wp2_with fail
    refine (refkind_go z b w).mono ?_
    rintro e w1 ⟨rfl, hw1⟩
    rw [hw1]
    clear hw1 w1
    go_wp2_with fail
    go_ret
    rw [Hb.out, bne_comm]
    exact ⟨rfl, rfl⟩

end Go.Proofs.Ytpgjaoemkadenaa.Seek
