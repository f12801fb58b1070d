/- The contracts of fairref.Rest and fairkeep.least. -/
import Derived.Test.YtoopgkgjhbihjaaTrees
set_option linter.unusedVariables false
set_option linter.unusedSimpArgs false
namespace Go.Proofs.Ytoopgkgjhbihjaa.Seek
open Go.RowKit

/-- What is left of k by n. -/
def rst (k n : Int) : Int := (k.tmod n + n) % n
theorem rst_bounds (k n : Int) (hn : 0 < n) : 0 ≤ rst k n ∧ rst k n < n := by
  unfold rst
  exact ⟨Int.emod_nonneg _ (by omega), Int.emod_lt_of_pos _ hn⟩
theorem rest_any (k n : Int) (w : World) (hn : 0 < n) (hn2 : n ≤ 5000) : Calls Try.prog 21 #[.int .i64 k, .int .i64 n] w fun e w' => e = .returned (.int .i64 (rst k n)) ∧ w' = w := by
  have h1 := Int.lt_tmod_of_pos k hn
  have h2 := Int.tmod_lt_of_pos k hn
  go_enter Try.func21, Try.ntmps21
  go_wp2_with fail
  go_ret
  exact ⟨rfl, rfl⟩
theorem least_any (t : Nat) (w : World) (ht : t ≤ 13) : Calls Try.prog 22 #[.int .i64 (t : Int)] w fun e w' => e = .returned (.int .i64 (lst t : Int)) ∧ w' = w := by
  have hb : ∀ k, k ≤ 14 → lst k ≤ 1000 := by decide
  have Hb : Hid _ := hb
  clear hb
  go_enter Try.func22, Try.ntmps22
  go_wp2_with fail
  go_loop [3, 4, 6] (fun a b i => ∃ k : Nat, k ≤ t ∧ i = .int .i64 (k : Int) ∧ a = .int .i64 (lst k : Int) ∧ b = .int .i64 (lst (k + 1) : Int)) (fun _ _ i => t - (intOf i).toNat)
  case atStart => exact ⟨0, by omega, rfl, rfl, rfl⟩
  case round =>
    obtain ⟨k, hk, rfl, rfl, rfl⟩ := hrel
    have h1 := Hb.out k (by omega)
    have h2 := Hb.out (k + 1) (by omega)
    by_cases hlt : k < t
    · have He : Hid (lst (k + 1 + 1) = 1 + lst k + lst (k + 1)) := rfl
      generalize lst k = a at *
      generalize hgb : lst (k + 1) = b at *
      have Hgb : Hid (lst (k + 1) = b) := hgb
      clear hgb
      go_wp2_with fail
      go_round
      case rel => exact ⟨k + 1, by omega, by go_num, by rw [Hgb.out], by rw [He.out]; go_num⟩
      case measure => simp [intOf]; omega
    · obtain rfl : k = t := by omega
      go_wp2_with fail
      go_ret
      exact ⟨rfl, rfl⟩
/-- No rope is taller. -/
theorem hgt_13 (n : Nat) (h : n ≤ 4096) : hgt n ≤ 13 := by
  by_cases h0 : n = 0
  · subst h0
    decide
  · have h1 := hgt_two n n (Nat.le_refl _) (by omega)
    by_cases h2 : hgt n ≤ 13
    · exact h2
    · have h3 : 2 ^ 13 ≤ 2 ^ (hgt n - 1) := Nat.pow_le_pow_right (by decide) (by omega)
      have : (2 : Nat) ^ 13 = 8192 := by decide
      omega
end Go.Proofs.Ytoopgkgjhbihjaa.Seek
