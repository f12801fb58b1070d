/- P47, plain; the contracts of edit.checkTyping and edit.rubs. -/
import Derived.Test.YtpgjaoemkadenabWithGo
import Derived.Test.YtpgjaoemkadenabNextGo
set_option linter.unusedVariables false
set_option linter.unusedSimpArgs false
set_option maxRecDepth 100000
namespace Go.Proofs.Ytpgjaoemkadenab.Plain
open Seek
/-- P47: the error ahead of the key. -/
def tchk (n : Nat) (k mode : Int) : Int := if 200 < n then 2 else if k < 0 ∨ (n : Int) < k ∨ (mode ≠ 1 ∧ mode ≠ 2) then 1 else 0
/-- Whether a key takes back. -/
def rub (key : Int) : Bool := decide (key = 8 ∨ key = 127 ∨ key = 21 ∨ key = 23)
/-- The place behind what a key is put in the place of. -/
def ovr (n k : Nat) (mode : Int) : Nat := if mode = 2 then min (k + 1) n else k
/-- A key that is typed: the text, the place, the error. -/
def tpd (zs : List Int) (k : Nat) (mode key : Int) : List Int × Int × Int :=
  if 200 < (wit zs k (ovr zs.length k mode) [key]).length then ([], 0, 8) else (wit zs k (ovr zs.length k mode) [key], (k : Int) + 1, 0)
/-- From where on a key takes back. -/
def rbf (zs : List Int) (k : Nat) (key : Int) : Nat := if key = 21 then 0 else if key = 23 then (back zs (k : Int) false).toNat else k - 1
/-- A key that takes back. -/
def rbd (zs : List Int) (k : Nat) (mode key : Int) : List Int × Int :=
  if key ≠ 21 ∧ key ≠ 23 ∧ mode = 2 then (zs, (k : Int) - 1) else (wit zs (rbf zs k key) k [], (rbf zs k key : Int))
/-- P47. -/
def keyd (zs : List Int) (k mode key : Int) : List Int × Int × Int :=
  if tchk zs.length k mode ≠ 0 then ([], 0, tchk zs.length k mode)
  else if 32 ≤ key ∧ key ≠ 127 then tpd zs k.toNat mode key
  else if rub key = false then ([], 0, 9)
  else if k = 0 then ([], 0, 5)
  else ((rbd zs k.toNat mode key).1, (rbd zs k.toNat mode key).2, 0)
theorem tchk_zero {n : Nat} {k mode : Int} (h : tchk n k mode = 0) : n ≤ 200 ∧ (∃ j : Nat, k = (j : Int) ∧ j ≤ n) ∧ (mode = 1 ∨ mode = 2) := by
  unfold tchk at h
  by_cases h1 : 200 < n
  · rw [if_pos h1] at h; cases h
  · rw [if_neg h1] at h
    by_cases h2 : k < 0 ∨ (n : Int) < k ∨ (mode ≠ 1 ∧ mode ≠ 2)
    · rw [if_pos h2] at h; cases h
    · exact ⟨by omega, ⟨k.toNat, by omega, by omega⟩, by omega⟩
theorem rub_cases {key : Int} (h : rub key = true) : key = 8 ∨ key = 127 ∨ key = 21 ∨ key = 23 := by simpa [rub] using h
theorem rub_none {key : Int} (h : rub key = false) : key ≠ 8 ∧ key ≠ 127 ∧ key ≠ 21 ∧ key ≠ 23 := by
  have : ¬ (key = 8 ∨ key = 127 ∨ key = 21 ∨ key = 23) := by simpa [rub] using h
  omega
end Go.Proofs.Ytpgjaoemkadenab.Plain
namespace Go.Proofs.Ytpgjaoemkadenab.Seek
open Go.RowKit Plain
theorem back_low (zs : List Int) (k : Nat) (h2 : k ≤ zs.length) (hl : zs.length ≤ 4096) (b : Bool) : back zs (k : Int) b = ((back zs (k : Int) b).toNat : Int) ∧ (back zs (k : Int) b).toNat ≤ k := by
  have e : back zs (k : Int) b = (down (bgn zs b) k : Int) := by
    unfold back
    rw [if_pos (chk_right hl h2), Int.toNat_natCast]
  have h := down_spec (bgn zs b) k
  rw [e, Int.toNat_natCast]
  exact ⟨rfl, by omega⟩

set_option maxHeartbeats 1000000 in
theorem checkTyping_go (a : Option Addr) (n cap : Nat) (k mode : Int) (w : World) :
    Calls Try.prog 28 #[.agg #[.slice a n cap, .int .i64 k], .int .i64 mode] w fun e w' => e = .returned (.int .i64 (tchk n k mode)) ∧ Below w.heap.size w w' := by
  by_cases h1 : (200 : Int) < (n : Int)
  · rw [show tchk n k mode = 2 from if_pos (by omega)]
    go_enter Try.func28, Try.ntmps28
    go_wp2_with fail
    go_ret
    exact ⟨rfl, box_below _ _⟩
  · have e : tchk n k mode = if k < 0 ∨ (n : Int) < k ∨ (mode ≠ 1 ∧ mode ≠ 2) then 1 else 0 := if_neg (by omega)
    by_cases h2 : k < 0
    · rw [show tchk n k mode = 1 by rw [e]; exact if_pos (by omega)]
      clear e
      go_enter Try.func28, Try.ntmps28
      go_wp2_with fail
      go_ret
      exact ⟨rfl, box_below _ _⟩
    · by_cases h3 : (n : Int) < k
      · rw [show tchk n k mode = 1 by rw [e]; exact if_pos (by omega)]
        clear e
        go_enter Try.func28, Try.ntmps28
        go_wp2_with fail
        go_ret
        exact ⟨rfl, box_below _ _⟩
      · by_cases h4 : mode = 1
        · rw [show tchk n k mode = 0 by rw [e]; exact if_neg (by omega)]
          clear e
          subst h4
          go_enter Try.func28, Try.ntmps28
          go_wp2_with fail
          all_goals first
            | (exfalso; omega)
            | (go_ret; exact ⟨rfl, box_below _ _⟩)
        · by_cases h5 : mode = 2
          · rw [show tchk n k mode = 0 by rw [e]; exact if_neg (by omega)]
            clear e
            subst h5
            go_enter Try.func28, Try.ntmps28
            go_wp2_with fail
            all_goals first
              | (exfalso; omega)
              | (go_ret; exact ⟨rfl, box_below _ _⟩)
          · rw [show tchk n k mode = 1 by rw [e]; exact if_pos (by omega)]
            clear e
            have b4 : (mode != 1) = true := by simpa using h4
            have b5 : (mode != 2) = true := by simpa using h5
            go_enter Try.func28, Try.ntmps28
            go_wp2_with fail
            all_goals first
              | (exfalso; omega)
              | (go_ret; exact ⟨rfl, box_below _ _⟩)

set_option maxHeartbeats 400000 in
theorem rubs_go (key : Int) (w : World) : Calls Try.prog 30 #[.int .i64 key] w fun e w' => e = .returned (.bool (rub key)) ∧ w' = w := by
  cases h : rub key with
  | true =>
    rcases rub_cases h with rfl | rfl | rfl | rfl
    all_goals (
      clear h
      go_enter Try.func30, Try.ntmps30
      go_wp2_with fail
      go_ret
      exact ⟨rfl, rfl⟩)
  | false =>
    obtain ⟨h1, h2, h3, h4⟩ := rub_none h
    clear h
    go_enter Try.func30, Try.ntmps30
    go_wp2_with fail
    all_goals first
      | (exfalso; omega)
      | (go_ret; exact ⟨rfl, rfl⟩)
end Go.Proofs.Ytpgjaoemkadenab.Seek
