/- The walk of WordBig. -/
import Derived.Test.YtpjpkndinobijaaNextGo
import Derived.Test.YtpjpkndinobijaaOf
set_option linter.unusedVariables false
set_option linter.unusedSimpArgs false
namespace Go.Proofs.Ytpjpkndinobijaa.Plain
theorem kind_ones (c : Int) : kind c true = 0 ∨ kind c true = 1 := by
  unfold kind
  split
  · exact .inl rfl
  · exact .inr (if_pos rfl)
theorem knd_ones (zs : List Int) (i : Nat) : knd zs true i = 0 ∨ knd zs true i = 1 := by
  unfold knd
  split
  · exact kind_ones _
  · exact .inl rfl
theorem knd_zero (zs : List Int) (b b' : Bool) (i : Nat) : knd zs b i = 0 ↔ knd zs b' i = 0 := by
  unfold knd
  split
  · exact kind_zero _ _ _
  · exact Iff.rfl
/-- A great word's beginning is a word's. -/
theorem big_small {zs : List Int} {i : Nat} (h : bgn zs true i = true) : bgn zs false i = true := by
  unfold bgn at h ⊢
  simp only [Bool.and_eq_true, bne_iff_ne] at h ⊢
  obtain ⟨h1, h2⟩ := h
  have g1 : knd zs false i ≠ 0 := fun h => h1 ((knd_zero zs false true i).1 h)
  refine ⟨g1, ?_⟩
  have h3 : knd zs true (i - 1) = 0 := by
    rcases knd_ones zs (i - 1) with h | h
    · exact h
    · rcases knd_ones zs i with h' | h'
      · exact absurd h' h1
      · exact absurd (h'.trans h.symm) h2
  rw [(knd_zero zs true false (i - 1)).1 h3]
  exact g1
/-- Next's answer as a place. -/
theorem next_place (zs : List Int) (b : Bool) (j : Nat) (hj : j ≤ zs.length) : ∃ B : Nat, up (bgn zs b) zs.length zs.length (j + 1) = (B : Int) ∧ B ≤ zs.length ∧ (j < zs.length → j < B) ∧
    (B < zs.length → bgn zs b B = true ∧ j < B) ∧ ∀ x, j < x → x < B → bgn zs b x = false := by
  rcases up_spec (bgn zs b) zs.length zs.length (j + 1) with ⟨B, h1, h2, h3, h4, h5⟩ | ⟨h1, h2⟩
  · exact ⟨B, h1, by omega, fun _ => by omega, fun _ => ⟨h4, by omega⟩, fun x hx1 hx2 => h5 x (by omega) hx2⟩
  · exact ⟨zs.length, h1, by omega, fun h => h, fun h => absurd h (by omega), fun x hx1 hx2 => h2 x (by omega) hx2⟩
end Go.Proofs.Ytpjpkndinobijaa.Plain
namespace Go.Proofs.Ytpjpkndinobijaa.Seek
open Go.RowKit Plain

theorem next_abc : next (codes ⟨#[97, 45, 98, 32, 99]⟩) 0 true = 4 ∧ chk (codes ⟨#[97, 45, 98, 32, 99]⟩).length 0 = 0 := by decide +kernel
theorem next_is (zs : List Int) (b : Bool) (j : Nat) (h : chk zs.length (j : Int) = 0) : next zs (j : Int) b = up (bgn zs b) zs.length zs.length (j + 1) := by
  unfold next
  rw [if_pos h]
  rfl

set_option maxHeartbeats 2000000 in
theorem big_walk (v : Value) (zs : List Int) (k : Int) (w : World) (hp : Reads w v zs) (hr : zs.length * 8 ≤ 140737488351232) :
    Calls Try.prog 5 #[v, .int .i64 k] w fun e w' => e = .returned (.bool true) ∧ Below w.heap.size w w' := by
  obtain ⟨a, cap, rfl⟩ := hp.shape
  have Hp : Hid (Reads w (.slice a zs.length cap) zs) := hp
  clear hp
  go_enter Try.func5, Try.ntmps5
  go_wp2_with fail
  refine (of_any _ w (by decide)).mono ?_
  rintro e w1 ⟨hb1, u, rfl, hown⟩
  have Hp1 : Hid (Reads w1 (.slice a zs.length cap) zs) := Hp.out.below hb1
  have Hu : Hid (Reads w1 u (codes ⟨#[97, 45, 98, 32, 99]⟩)) := owned_reads hown
  clear hown Hp
  go_wp2_with fail
  refine (next_go u _ 0 true w1 Hu.out).mono ?_
  rintro e w2 ⟨rfl, hw2⟩
  rw [hw2, next_abc.1, next_abc.2]
  clear hw2 w2 Hu
  go_wp2_with fail
  refine (next_go _ zs k true w1 Hp1.out).mono ?_
  rintro e w2 ⟨rfl, hw2⟩
  rw [hw2]
  clear hw2 w2
  by_cases hc : chk zs.length k = 0
  · obtain ⟨hl, j, hk, hj⟩ := chk_zero hc
    subst hk
    obtain ⟨B, hB, hB1, hB2, hB3, hB4⟩ := next_place zs true j hj
    rw [hc, next_is zs true j hc, hB]
    clear hB hc
    have HB3 : Hid (B < zs.length → bgn zs true B = true ∧ j < B) := hB3
    have Hjb : Hid (j ≤ B) := by
      show j ≤ B
      by_cases h : j < zs.length
      · exact Nat.le_of_lt (hB2 h)
      · by_cases h' : B < zs.length
        · exact Nat.le_of_lt (hB3 h').2
        · omega
    clear hB3 hB4 hB2
    go_wp2_with fail
    go_loop [9] (fun u9 => ∃ m : Nat, u9 = .int .i64 (m : Int) ∧ j ≤ m ∧ m ≤ B) (fun u9 => B - (intOf u9).toNat)
    case atStart => exact ⟨j, rfl, by omega, Hjb.out⟩
    case round =>
      obtain ⟨m, rfl, hm1, hm2⟩ := hrel
      by_cases hlt : m < B
      · have hI : (m : Int) < (B : Int) := by omega
        have hcm : chk zs.length (m : Int) = 0 := chk_right hl (by omega)
        obtain ⟨N, hN, hN1, hN2, hN3, hN4⟩ := next_place zs false m (by omega)
        have hNB : N ≤ B := by
          by_cases h : B < N
          · have h1 := hN4 B hlt h
            rw [big_small (HB3.out (by omega)).1] at h1
            exact absurd h1 (by decide)
          · omega
        have HN : Hid (next zs (m : Int) false = (N : Int) ∧ chk zs.length (m : Int) = 0) := ⟨(next_is zs false m hcm).trans hN, hcm⟩
        have hmN : (m : Int) < (N : Int) := by have := hN2 (by omega); omega
        clear hcm hN hN3 hN4 hN2
        go_wp2_with fail
        refine (next_go _ zs (m : Int) false w1 Hp1.out).mono ?_
        rintro e w2 ⟨rfl, hw2⟩
        rw [hw2, HN.out.1, HN.out.2]
        clear hw2 w2 HN
        go_wp2_with fail
        go_round
        case rel => exact ⟨N, rfl, by omega, hNB⟩
        case measure => simp [intOf]; omega
      · obtain rfl : m = B := by omega
        go_wp2_with fail
        go_ret
        exact ⟨rfl, hb1⟩
  · have h0 : next zs k true = 0 := by unfold next; exact if_neg hc
    rw [h0]
    clear h0
    generalize chk zs.length k = c at *
    have hcb : (c != 0) = true := by simpa using hc
    clear hc
    go_wp2_with fail
    go_ret
    exact ⟨rfl, hb1⟩
end Go.Proofs.Ytpjpkndinobijaa.Seek
