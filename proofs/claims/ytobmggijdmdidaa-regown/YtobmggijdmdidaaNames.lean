/- The contracts of reg.isSmall, isGreat, numberOf and of the document's register. -/
import Derived.Test.YtobmggijdmdidaaBase
set_option linter.unusedVariables false
set_option linter.unusedSimpArgs false
namespace Go.Proofs.Ytobmggijdmdidaa.Seek
open Go.RowKit

/-- The name of register k; g: a great letter. -/
def Named (name : Int) (k : Nat) (g : Bool) : Prop := (name = 0 ∧ k = 0 ∧ g = false) ∨ (97 ≤ name ∧ name ≤ 122 ∧ name = (k : Int) + 96 ∧ g = false) ∨ (65 ≤ name ∧ name ≤ 90 ∧ name = (k : Int) + 64 ∧ g = true)
def NoName (name : Int) : Prop := name ≠ 0 ∧ (name < 97 ∨ 122 < name) ∧ (name < 65 ∨ 90 < name)
theorem Named.lt {name : Int} {k : Nat} {g : Bool} (h : Named name k g) : k < 27 := by unfold Named at h; omega
theorem named_or (name : Int) : NoName name ∨ ∃ k g, Named name k g := by
  unfold NoName Named
  by_cases h0 : name = 0
  · exact .inr ⟨0, false, .inl ⟨h0, rfl, rfl⟩⟩
  · by_cases h1 : 97 ≤ name ∧ name ≤ 122
    · exact .inr ⟨(name - 96).toNat, false, .inr (.inl ⟨h1.1, h1.2, by omega, rfl⟩)⟩
    · by_cases h2 : 65 ≤ name ∧ name ≤ 90
      · exact .inr ⟨(name - 64).toNat, true, .inr (.inr ⟨h2.1, h2.2, by omega, rfl⟩)⟩
      · exact .inl ⟨h0, by omega, by omega⟩
theorem Named.only {name : Int} {k k' : Nat} {g g' : Bool} (h : Named name k g) (h' : Named name k' g') : k = k' ∧ g = g' := by
  unfold Named at h h'
  rcases h with ⟨a, b, c⟩ | ⟨a, b, d, c⟩ | ⟨a, b, d, c⟩ <;> rcases h' with ⟨a', b', c'⟩ | ⟨a', b', d', c'⟩ | ⟨a', b', d', c'⟩ <;> first | (exfalso; omega) | exact ⟨by omega, by rw [c, c']⟩

theorem small_yes (x : Int) (w : World) (h1 : 97 ≤ x) (h2 : x ≤ 122) : Calls Try.prog 23 #[.int .i64 x] w fun e w' => e = .returned (.bool true) ∧ w' = w := by
  go_enter Try.func23, Try.ntmps23
  go_wp2_with fail
  all_goals first
    | (exfalso; omega)
    | (go_ret; exact ⟨by first | rfl | (simp; omega), rfl⟩)
theorem small_no (x : Int) (w : World) (h : x < 97 ∨ 122 < x) : Calls Try.prog 23 #[.int .i64 x] w fun e w' => e = .returned (.bool false) ∧ w' = w := by
  by_cases h1 : 97 ≤ x
  all_goals
    go_enter Try.func23, Try.ntmps23
    go_wp2_with fail
    all_goals first
      | (exfalso; omega)
      | (go_ret; exact ⟨by first | rfl | (simp; omega), rfl⟩)
theorem great_yes (x : Int) (w : World) (h1 : 65 ≤ x) (h2 : x ≤ 90) : Calls Try.prog 19 #[.int .i64 x] w fun e w' => e = .returned (.bool true) ∧ w' = w := by
  go_enter Try.func19, Try.ntmps19
  go_wp2_with fail
  all_goals first
    | (exfalso; omega)
    | (go_ret; exact ⟨by first | rfl | (simp; omega), rfl⟩)
theorem great_no (x : Int) (w : World) (h : x < 65 ∨ 90 < x) : Calls Try.prog 19 #[.int .i64 x] w fun e w' => e = .returned (.bool false) ∧ w' = w := by
  by_cases h1 : 65 ≤ x
  all_goals
    go_enter Try.func19, Try.ntmps19
    go_wp2_with fail
    all_goals first
      | (exfalso; omega)
      | (go_ret; exact ⟨by first | rfl | (simp; omega), rfl⟩)
theorem great_named (name : Int) (k : Nat) (g : Bool) (w : World) (h : Named name k g) : Calls Try.prog 19 #[.int .i64 name] w fun e w' => e = .returned (.bool g) ∧ w' = w := by
  rcases h with ⟨a, b, rfl⟩ | ⟨a, b, d, rfl⟩ | ⟨a, b, d, rfl⟩
  · exact great_no _ _ (by omega)
  · exact great_no _ _ (by omega)
  · exact great_yes _ _ a b

theorem number_none (name : Int) (w : World) (h : NoName name) : Calls Try.prog 18 #[.int .i64 name] w fun e w' => e = .returned (.tuple #[.int .i64 0, .bool false]) ∧ w' = w := by
  obtain ⟨h0, h1, h2⟩ := h
  have H1 : Hid (name < 97 ∨ 122 < name) := h1
  have H2 : Hid (name < 65 ∨ 90 < name) := h2
  clear h1 h2
  go_enter Try.func18, Try.ntmps18
  go_wp2_with fail
  refine (small_no _ _ H1.out).mono ?_
  rintro e w' ⟨rfl, rfl⟩
  go_wp2_with fail
  refine (great_no _ _ H2.out).mono ?_
  rintro e w' ⟨rfl, rfl⟩
  go_wp2_with fail
  go_ret2
  exact ⟨rfl, rfl⟩
theorem number_named (name : Int) (k : Nat) (g : Bool) (w : World) (h : Named name k g) : Calls Try.prog 18 #[.int .i64 name] w fun e w' => e = .returned (.tuple #[.int .i64 (k : Int), .bool true]) ∧ w' = w := by
  rcases h with ⟨rfl, rfl, rfl⟩ | ⟨a, b, d, rfl⟩ | ⟨a, b, d, rfl⟩
  · go_enter Try.func18, Try.ntmps18
    go_wp2_with fail
    go_ret2
    exact ⟨rfl, rfl⟩
  · have h0 : name ≠ 0 := by omega
    have hk : name - 97 + 1 = (k : Int) := by omega
    have HK : Hid (name - 97 + 1 = (k : Int)) := hk
    clear d hk
    go_enter Try.func18, Try.ntmps18
    go_wp2_with fail
    refine (small_yes _ _ a b).mono ?_
    rintro e w' ⟨rfl, rfl⟩
    go_wp2_with fail
    go_ret2
    exact ⟨by rw [← HK.out]; rfl, rfl⟩
  · have h0 : name ≠ 0 := by omega
    have hk : name - 65 + 1 = (k : Int) := by omega
    have HK : Hid (name - 65 + 1 = (k : Int)) := hk
    have HS : Hid (name < 97 ∨ 122 < name) := by show _ ∨ _; omega
    clear d hk
    go_enter Try.func18, Try.ntmps18
    go_wp2_with fail
    refine (small_no _ _ HS.out).mono ?_
    rintro e w' ⟨rfl, rfl⟩
    go_wp2_with fail
    refine (great_yes _ _ a b).mono ?_
    rintro e w' ⟨rfl, rfl⟩
    go_wp2_with fail
    go_ret2
    exact ⟨by rw [← HK.out]; rfl, rfl⟩
theorem register_none (name : Int) (w : World) (h : NoName name) : Calls Try.prog 21 #[.int .i64 name] w fun e w' => e = .returned (.tuple #[.int .i64 (-1), .bool false]) ∧ w' = w := by
  obtain ⟨h0, h1, h2⟩ := h
  go_enter Try.func21, Try.ntmps21
  go_wp2_with fail
  go_loop [7] (fun u7 => ∃ i : Nat, u7 = .int .i64 (i : Int) ∧ i ≤ 26) (fun u7 => 26 - (intOf u7).toNat)
  case atStart => exact ⟨0, rfl, by omega⟩
  case round =>
    obtain ⟨i, rfl, hi⟩ := hrel
    by_cases hlt : i < 26
    · have hiI : (i : Int) < 26 := by omega
      have n1 : (name == 97 + (i : Int)) = false := by rw [beq_eq_false_iff_ne]; omega
      have n2 : (name == 65 + (i : Int)) = false := by rw [beq_eq_false_iff_ne]; omega
      clear h1 h2
      go_wp2_with fail
      go_round
      case rel => exact ⟨i + 1, by go_num, by omega⟩
      case measure => simp [intOf] <;> omega
    · obtain rfl : i = 26 := by omega
      go_wp2_with fail
      go_ret2
      exact ⟨rfl, rfl⟩
theorem register_named (name : Int) (k : Nat) (g : Bool) (w : World) (h : Named name k g) : Calls Try.prog 21 #[.int .i64 name] w fun e w' => e = .returned (.tuple #[.int .i64 (k : Int), .bool g]) ∧ w' = w := by
  rcases h with ⟨rfl, rfl, rfl⟩ | ⟨a, b, d, rfl⟩ | ⟨a, b, d, rfl⟩
  · go_enter Try.func21, Try.ntmps21
    go_wp2_with fail
    go_ret2
    exact ⟨rfl, rfl⟩
  all_goals
    have h0 : name ≠ 0 := by omega
    have D : Hid (name = (k : Int) + 96 ∨ name = (k : Int) + 64) := by first | exact .inl d | exact .inr d
    have hk1 : 1 ≤ k := by omega
    have hk2 : k ≤ 26 := by omega
    clear d
    go_enter Try.func21, Try.ntmps21
    go_wp2_with fail
    go_loop [7] (fun u7 => ∃ i : Nat, u7 = .int .i64 (i : Int) ∧ i + 1 ≤ k) (fun u7 => 26 - (intOf u7).toNat)
    case atStart => exact ⟨0, rfl, by omega⟩
    case round =>
      obtain ⟨i, rfl, hi⟩ := hrel
      have hiI : (i : Int) < 26 := by omega
      have D2 := D.out
      by_cases he : i + 1 = k
      · have HE : Hid ((i : Int) + 1 = (k : Int)) := by show _ = _; omega
        first
        | (have n1 : (name == 97 + (i : Int)) = true := by rw [beq_iff_eq]; omega
           have n2 : (name == 65 + (i : Int)) = false := by rw [beq_eq_false_iff_ne]; omega
           clear he D2
           go_wp2_with fail
           go_ret2
           exact ⟨by rw [← HE.out]; rfl, rfl⟩)
        | (have n1 : (name == 97 + (i : Int)) = false := by rw [beq_eq_false_iff_ne]; omega
           have n2 : (name == 65 + (i : Int)) = true := by rw [beq_iff_eq]; omega
           clear he D2
           go_wp2_with fail
           go_ret2
           exact ⟨by rw [← HE.out]; rfl, rfl⟩)
      · have n1 : (name == 97 + (i : Int)) = false := by rw [beq_eq_false_iff_ne]; omega
        have n2 : (name == 65 + (i : Int)) = false := by rw [beq_eq_false_iff_ne]; omega
        clear D2
        go_wp2_with fail
        go_round
        case rel => exact ⟨i + 1, by go_num, by omega⟩
        case measure => simp [intOf] <;> omega
end Go.Proofs.Ytobmggijdmdidaa.Seek
