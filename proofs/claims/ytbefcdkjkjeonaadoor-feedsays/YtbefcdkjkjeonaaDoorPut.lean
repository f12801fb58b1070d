/- The contracts of the characters' test and of Put, over the translation: Put answers the model's own bytes of a character, or ErrArg. -/
import Derived.Test.YtbefcdkjkjeonaaDoorRows
import Derived.WalkKit
import Derived.Laws.Runes
namespace Go.Proofs.YtbefcdkjkjeonaaDoor.Utf
open Go.RowKit

set_option maxHeartbeats 400000 in
theorem isChar_any (c : Int) (w : World) :
    Calls Tryd.prog 30 #[.int .i64 c] w fun e w' => e = .returned (.bool (Utf8.valid c)) ∧ w' = w := by
  rw [validRune_eq]
  unfold validRune
  by_cases h1 : 0 ≤ c
  · by_cases h2 : c ≤ 1114111
    · by_cases h3 : c < 55296
      · go_enter Tryd.func30, Tryd.ntmps30
        go_wp2
        go_ret
        exact ⟨by simp [h1, h3], rfl⟩
      · by_cases h4 : 57343 < c
        · go_enter Tryd.func30, Tryd.ntmps30
          go_wp2
          go_ret
          exact ⟨by simp, rfl⟩
        · go_enter Tryd.func30, Tryd.ntmps30
          go_wp2
          go_ret
          exact ⟨by simp [h3, h4], rfl⟩
    · go_enter Tryd.func30, Tryd.ntmps30
      go_wp2
      go_ret
      exact ⟨by simp; omega, rfl⟩
  · go_enter Tryd.func30, Tryd.ntmps30
    go_wp2
    go_ret
    exact ⟨by simp; omega, rfl⟩

theorem valid_bounds {c : Int} (h : Utf8.valid c = true) : 0 ≤ c ∧ c ≤ 1114111 := by
  simp [Utf8.valid] at h
  omega

set_option maxHeartbeats 400000 in
theorem put_yes (c : Int) (w : World) (h : Utf8.valid c = true) :
    Calls Tryd.prog 20 #[.int .i64 c] w fun e w' => e = .returned (.tuple #[.string (Utf8.encode c), .int .i64 0]) ∧ w' = w := by
  obtain ⟨h0, h1⟩ := valid_bounds h
  go_enter Tryd.func20, Tryd.ntmps20
  go_wp2_with fail
  refine (isChar_any c _).mono ?_
  rintro e w' ⟨rfl, rfl⟩
  rw [h]
  go_wp2
  go_ret2
  exact ⟨rfl, rfl⟩

set_option maxHeartbeats 400000 in
theorem put_no (c : Int) (w : World) (h : Utf8.valid c = false) :
    Calls Tryd.prog 20 #[.int .i64 c] w fun e w' => e = .returned (.tuple #[.string ⟨#[]⟩, .int .i64 1]) ∧ w' = w := by
  go_enter Tryd.func20, Tryd.ntmps20
  go_wp2_with fail
  refine (isChar_any c _).mono ?_
  rintro e w' ⟨rfl, rfl⟩
  rw [h]
  go_wp2
  go_ret2
  exact ⟨rfl, rfl⟩
end Go.Proofs.YtbefcdkjkjeonaaDoor.Utf
