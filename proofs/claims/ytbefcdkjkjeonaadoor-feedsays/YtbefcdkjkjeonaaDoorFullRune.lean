/- The walks of utf8.FullRuneInString (the library's own text, over its two tables), one for each entry of the first table and each length. -/
import Derived.Test.YtbefcdkjkjeonaaDoorRows
import Derived.Test.YtbefcdkjkjeonaaDoorGet
import Derived.Test.YtbefcdkjkjeonaaDoorTakes
import Derived.Shelf.Unicode.DecodeSlow
import Derived.WalkKit
import Derived.BigQuiet
import Derived.Deep.QuietTactic
set_option linter.unusedVariables false
set_option linter.unusedSimpArgs false
namespace Go.Proofs.YtbefcdkjkjeonaaDoor.Utf
open Go.RowKit

set_option maxHeartbeats 4000000 in
set_option maxRecDepth 100000 in
theorem fr240_all (s : ByteArray) (w : World) (x0 : Nat) (hz0 : 0 < s.size) (hz : 0 ≤ s.size) (hx0 : s[0].toNat = x0)
    (hc0 : w.cell? ⟨0, x0, none⟩ = some (.int .u8 240)) :
    Calls Tryd.prog 27 #[.string s] w fun e w' => e = .returned (.bool true) ∧ Below w.heap.size w w' := by
  have l0 : x0 < 256 := by rw [← hx0]; exact UInt8.toNat_lt _
  go_enter Tryd.func27, Tryd.ntmps27
  go_wp2_with fail
  go_ret
  exact ⟨rfl, Below.refl _ _⟩

set_option maxHeartbeats 4000000 in
set_option maxRecDepth 100000 in
theorem fr241_all (s : ByteArray) (w : World) (x0 : Nat) (hz0 : 0 < s.size) (hz : 1 ≤ s.size) (hx0 : s[0].toNat = x0)
    (hc0 : w.cell? ⟨0, x0, none⟩ = some (.int .u8 241)) :
    Calls Tryd.prog 27 #[.string s] w fun e w' => e = .returned (.bool true) ∧ Below w.heap.size w w' := by
  have l0 : x0 < 256 := by rw [← hx0]; exact UInt8.toNat_lt _
  go_enter Tryd.func27, Tryd.ntmps27
  go_wp2_with fail
  go_ret
  exact ⟨rfl, Below.refl _ _⟩

set_option maxHeartbeats 4000000 in
set_option maxRecDepth 100000 in
theorem fr2_all (s : ByteArray) (w : World) (x0 : Nat) (hz0 : 0 < s.size) (hz : 2 ≤ s.size) (hx0 : s[0].toNat = x0)
    (hc0 : w.cell? ⟨0, x0, none⟩ = some (.int .u8 2)) :
    Calls Tryd.prog 27 #[.string s] w fun e w' => e = .returned (.bool true) ∧ Below w.heap.size w w' := by
  have l0 : x0 < 256 := by rw [← hx0]; exact UInt8.toNat_lt _
  go_enter Tryd.func27, Tryd.ntmps27
  go_wp2_with fail
  go_ret
  exact ⟨rfl, Below.refl _ _⟩

set_option maxHeartbeats 4000000 in
set_option maxRecDepth 100000 in
theorem fr19_all (s : ByteArray) (w : World) (x0 : Nat) (hz0 : 0 < s.size) (hz : 3 ≤ s.size) (hx0 : s[0].toNat = x0)
    (hc0 : w.cell? ⟨0, x0, none⟩ = some (.int .u8 19)) :
    Calls Tryd.prog 27 #[.string s] w fun e w' => e = .returned (.bool true) ∧ Below w.heap.size w w' := by
  have l0 : x0 < 256 := by rw [← hx0]; exact UInt8.toNat_lt _
  go_enter Tryd.func27, Tryd.ntmps27
  go_wp2_with fail
  go_ret
  exact ⟨rfl, Below.refl _ _⟩

set_option maxHeartbeats 4000000 in
set_option maxRecDepth 100000 in
theorem fr3_all (s : ByteArray) (w : World) (x0 : Nat) (hz0 : 0 < s.size) (hz : 3 ≤ s.size) (hx0 : s[0].toNat = x0)
    (hc0 : w.cell? ⟨0, x0, none⟩ = some (.int .u8 3)) :
    Calls Tryd.prog 27 #[.string s] w fun e w' => e = .returned (.bool true) ∧ Below w.heap.size w w' := by
  have l0 : x0 < 256 := by rw [← hx0]; exact UInt8.toNat_lt _
  go_enter Tryd.func27, Tryd.ntmps27
  go_wp2_with fail
  go_ret
  exact ⟨rfl, Below.refl _ _⟩

set_option maxHeartbeats 4000000 in
set_option maxRecDepth 100000 in
theorem fr35_all (s : ByteArray) (w : World) (x0 : Nat) (hz0 : 0 < s.size) (hz : 3 ≤ s.size) (hx0 : s[0].toNat = x0)
    (hc0 : w.cell? ⟨0, x0, none⟩ = some (.int .u8 35)) :
    Calls Tryd.prog 27 #[.string s] w fun e w' => e = .returned (.bool true) ∧ Below w.heap.size w w' := by
  have l0 : x0 < 256 := by rw [← hx0]; exact UInt8.toNat_lt _
  go_enter Tryd.func27, Tryd.ntmps27
  go_wp2_with fail
  go_ret
  exact ⟨rfl, Below.refl _ _⟩

set_option maxHeartbeats 4000000 in
set_option maxRecDepth 100000 in
theorem fr52_all (s : ByteArray) (w : World) (x0 : Nat) (hz0 : 0 < s.size) (hz : 4 ≤ s.size) (hx0 : s[0].toNat = x0)
    (hc0 : w.cell? ⟨0, x0, none⟩ = some (.int .u8 52)) :
    Calls Tryd.prog 27 #[.string s] w fun e w' => e = .returned (.bool true) ∧ Below w.heap.size w w' := by
  have l0 : x0 < 256 := by rw [← hx0]; exact UInt8.toNat_lt _
  go_enter Tryd.func27, Tryd.ntmps27
  go_wp2_with fail
  go_ret
  exact ⟨rfl, Below.refl _ _⟩

set_option maxHeartbeats 4000000 in
set_option maxRecDepth 100000 in
theorem fr4_all (s : ByteArray) (w : World) (x0 : Nat) (hz0 : 0 < s.size) (hz : 4 ≤ s.size) (hx0 : s[0].toNat = x0)
    (hc0 : w.cell? ⟨0, x0, none⟩ = some (.int .u8 4)) :
    Calls Tryd.prog 27 #[.string s] w fun e w' => e = .returned (.bool true) ∧ Below w.heap.size w w' := by
  have l0 : x0 < 256 := by rw [← hx0]; exact UInt8.toNat_lt _
  go_enter Tryd.func27, Tryd.ntmps27
  go_wp2_with fail
  go_ret
  exact ⟨rfl, Below.refl _ _⟩

set_option maxHeartbeats 4000000 in
set_option maxRecDepth 100000 in
theorem fr68_all (s : ByteArray) (w : World) (x0 : Nat) (hz0 : 0 < s.size) (hz : 4 ≤ s.size) (hx0 : s[0].toNat = x0)
    (hc0 : w.cell? ⟨0, x0, none⟩ = some (.int .u8 68)) :
    Calls Tryd.prog 27 #[.string s] w fun e w' => e = .returned (.bool true) ∧ Below w.heap.size w w' := by
  have l0 : x0 < 256 := by rw [← hx0]; exact UInt8.toNat_lt _
  go_enter Tryd.func27, Tryd.ntmps27
  go_wp2_with fail
  go_ret
  exact ⟨rfl, Below.refl _ _⟩

theorem below_new (w : World) (o : Obj) (n : Nat) : Below w.heap.size w ((w.alloc o).drewN n) := by
  have h := (Below.refl w.heap.size w).alloc (Nat.le_refl _) o
  exact ⟨h.os, h.tape, h.output, h.size, h.block⟩

set_option maxHeartbeats 4000000 in
set_option maxRecDepth 100000 in
theorem fr2_1 (s : ByteArray) (w : World) (x0 : Nat) (hz0 : 0 < s.size) (hz : s.size < 2) (hx0 : s[0].toNat = x0)
    (hc0 : w.cell? ⟨0, x0, none⟩ = some (.int .u8 2)) (ha0 : w.cell? ⟨1, 0, none⟩ = some (.int .u8 128)) (ha1 : w.cell? ⟨1, 1, none⟩ = some (.int .u8 191)) :
    Calls Tryd.prog 27 #[.string s] w fun e w' => e = .returned (.bool false) ∧ Below w.heap.size w w' := by
  have l0 : x0 < 256 := by rw [← hx0]; exact UInt8.toNat_lt _
  have hg1 : decide ((s.size : Int) > 1) = false := decide_eq_false (by omega)
  have hg2 : decide ((s.size : Int) > 2) = false := decide_eq_false (by omega)
  go_enter Tryd.func27, Tryd.ntmps27
  go_wp2_with fail
  go_quiet (fail)
  go_wp2_with fail
  go_ret
  exact ⟨by simp; try omega, below_new _ _ _⟩

set_option maxHeartbeats 4000000 in
set_option maxRecDepth 100000 in
theorem fr19_1 (s : ByteArray) (w : World) (x0 : Nat) (hz0 : 0 < s.size) (hz : s.size < 2) (hx0 : s[0].toNat = x0)
    (hc0 : w.cell? ⟨0, x0, none⟩ = some (.int .u8 19)) (ha0 : w.cell? ⟨1, 2, none⟩ = some (.int .u8 160)) (ha1 : w.cell? ⟨1, 3, none⟩ = some (.int .u8 191)) :
    Calls Tryd.prog 27 #[.string s] w fun e w' => e = .returned (.bool false) ∧ Below w.heap.size w w' := by
  have l0 : x0 < 256 := by rw [← hx0]; exact UInt8.toNat_lt _
  have hg1 : decide ((s.size : Int) > 1) = false := decide_eq_false (by omega)
  have hg2 : decide ((s.size : Int) > 2) = false := decide_eq_false (by omega)
  go_enter Tryd.func27, Tryd.ntmps27
  go_wp2_with fail
  go_quiet (fail)
  go_wp2_with fail
  go_ret
  exact ⟨by simp; try omega, below_new _ _ _⟩

set_option maxHeartbeats 4000000 in
set_option maxRecDepth 100000 in
theorem fr19_2 (s : ByteArray) (w : World) (x0 x1 : Nat) (hz1 : 1 < s.size) (hz : s.size < 3) (hx0 : s[0].toNat = x0) (hx1 : s[1].toNat = x1)
    (hc0 : w.cell? ⟨0, x0, none⟩ = some (.int .u8 19)) (ha0 : w.cell? ⟨1, 2, none⟩ = some (.int .u8 160)) (ha1 : w.cell? ⟨1, 3, none⟩ = some (.int .u8 191)) :
    Calls Tryd.prog 27 #[.string s] w fun e w' => e = .returned (.bool (decide (x1 < 160 ∨ 191 < x1))) ∧ Below w.heap.size w w' := by
  have l0 : x0 < 256 := by rw [← hx0]; exact UInt8.toNat_lt _
  have l1 : x1 < 256 := by rw [← hx1]; exact UInt8.toNat_lt _
  have hg1 : decide ((s.size : Int) > 1) = true := decide_eq_true (by omega)
  have hg2 : decide ((s.size : Int) > 2) = false := decide_eq_false (by omega)
  go_enter Tryd.func27, Tryd.ntmps27
  by_cases h1 : x1 < 160
  · have hd1 : decide ((x1 : Int) < 160) = true := decide_eq_true (by omega)
    go_wp2_with fail
    go_quiet (fail)
    go_wp2_with fail
    go_ret
    exact ⟨by simp; try omega, below_new _ _ _⟩
  · have hd1 : decide ((x1 : Int) < 160) = false := decide_eq_false (by omega)
    by_cases h2 : 191 < x1
    · have hd2 : decide ((191 : Int) < (x1 : Int)) = true := decide_eq_true (by omega)
      go_wp2_with fail
      go_quiet (fail)
      go_wp2_with fail
      go_ret
      exact ⟨by simp; try omega, below_new _ _ _⟩
    · have hd2 : decide ((191 : Int) < (x1 : Int)) = false := decide_eq_false (by omega)
      go_wp2_with fail
      go_quiet (fail)
      go_wp2_with fail
      go_ret
      exact ⟨by simp; try omega, below_new _ _ _⟩

set_option maxHeartbeats 4000000 in
set_option maxRecDepth 100000 in
theorem fr3_1 (s : ByteArray) (w : World) (x0 : Nat) (hz0 : 0 < s.size) (hz : s.size < 2) (hx0 : s[0].toNat = x0)
    (hc0 : w.cell? ⟨0, x0, none⟩ = some (.int .u8 3)) (ha0 : w.cell? ⟨1, 0, none⟩ = some (.int .u8 128)) (ha1 : w.cell? ⟨1, 1, none⟩ = some (.int .u8 191)) :
    Calls Tryd.prog 27 #[.string s] w fun e w' => e = .returned (.bool false) ∧ Below w.heap.size w w' := by
  have l0 : x0 < 256 := by rw [← hx0]; exact UInt8.toNat_lt _
  have hg1 : decide ((s.size : Int) > 1) = false := decide_eq_false (by omega)
  have hg2 : decide ((s.size : Int) > 2) = false := decide_eq_false (by omega)
  go_enter Tryd.func27, Tryd.ntmps27
  go_wp2_with fail
  go_quiet (fail)
  go_wp2_with fail
  go_ret
  exact ⟨by simp; try omega, below_new _ _ _⟩

set_option maxHeartbeats 4000000 in
set_option maxRecDepth 100000 in
theorem fr3_2 (s : ByteArray) (w : World) (x0 x1 : Nat) (hz1 : 1 < s.size) (hz : s.size < 3) (hx0 : s[0].toNat = x0) (hx1 : s[1].toNat = x1)
    (hc0 : w.cell? ⟨0, x0, none⟩ = some (.int .u8 3)) (ha0 : w.cell? ⟨1, 0, none⟩ = some (.int .u8 128)) (ha1 : w.cell? ⟨1, 1, none⟩ = some (.int .u8 191)) :
    Calls Tryd.prog 27 #[.string s] w fun e w' => e = .returned (.bool (decide (x1 < 128 ∨ 191 < x1))) ∧ Below w.heap.size w w' := by
  have l0 : x0 < 256 := by rw [← hx0]; exact UInt8.toNat_lt _
  have l1 : x1 < 256 := by rw [← hx1]; exact UInt8.toNat_lt _
  have hg1 : decide ((s.size : Int) > 1) = true := decide_eq_true (by omega)
  have hg2 : decide ((s.size : Int) > 2) = false := decide_eq_false (by omega)
  go_enter Tryd.func27, Tryd.ntmps27
  by_cases h1 : x1 < 128
  · have hd1 : decide ((x1 : Int) < 128) = true := decide_eq_true (by omega)
    go_wp2_with fail
    go_quiet (fail)
    go_wp2_with fail
    go_ret
    exact ⟨by simp; try omega, below_new _ _ _⟩
  · have hd1 : decide ((x1 : Int) < 128) = false := decide_eq_false (by omega)
    by_cases h2 : 191 < x1
    · have hd2 : decide ((191 : Int) < (x1 : Int)) = true := decide_eq_true (by omega)
      go_wp2_with fail
      go_quiet (fail)
      go_wp2_with fail
      go_ret
      exact ⟨by simp; try omega, below_new _ _ _⟩
    · have hd2 : decide ((191 : Int) < (x1 : Int)) = false := decide_eq_false (by omega)
      go_wp2_with fail
      go_quiet (fail)
      go_wp2_with fail
      go_ret
      exact ⟨by simp; try omega, below_new _ _ _⟩

set_option maxHeartbeats 4000000 in
set_option maxRecDepth 100000 in
theorem fr35_1 (s : ByteArray) (w : World) (x0 : Nat) (hz0 : 0 < s.size) (hz : s.size < 2) (hx0 : s[0].toNat = x0)
    (hc0 : w.cell? ⟨0, x0, none⟩ = some (.int .u8 35)) (ha0 : w.cell? ⟨1, 4, none⟩ = some (.int .u8 128)) (ha1 : w.cell? ⟨1, 5, none⟩ = some (.int .u8 159)) :
    Calls Tryd.prog 27 #[.string s] w fun e w' => e = .returned (.bool false) ∧ Below w.heap.size w w' := by
  have l0 : x0 < 256 := by rw [← hx0]; exact UInt8.toNat_lt _
  have hg1 : decide ((s.size : Int) > 1) = false := decide_eq_false (by omega)
  have hg2 : decide ((s.size : Int) > 2) = false := decide_eq_false (by omega)
  go_enter Tryd.func27, Tryd.ntmps27
  go_wp2_with fail
  go_quiet (fail)
  go_wp2_with fail
  go_ret
  exact ⟨by simp; try omega, below_new _ _ _⟩

set_option maxHeartbeats 4000000 in
set_option maxRecDepth 100000 in
theorem fr35_2 (s : ByteArray) (w : World) (x0 x1 : Nat) (hz1 : 1 < s.size) (hz : s.size < 3) (hx0 : s[0].toNat = x0) (hx1 : s[1].toNat = x1)
    (hc0 : w.cell? ⟨0, x0, none⟩ = some (.int .u8 35)) (ha0 : w.cell? ⟨1, 4, none⟩ = some (.int .u8 128)) (ha1 : w.cell? ⟨1, 5, none⟩ = some (.int .u8 159)) :
    Calls Tryd.prog 27 #[.string s] w fun e w' => e = .returned (.bool (decide (x1 < 128 ∨ 159 < x1))) ∧ Below w.heap.size w w' := by
  have l0 : x0 < 256 := by rw [← hx0]; exact UInt8.toNat_lt _
  have l1 : x1 < 256 := by rw [← hx1]; exact UInt8.toNat_lt _
  have hg1 : decide ((s.size : Int) > 1) = true := decide_eq_true (by omega)
  have hg2 : decide ((s.size : Int) > 2) = false := decide_eq_false (by omega)
  go_enter Tryd.func27, Tryd.ntmps27
  by_cases h1 : x1 < 128
  · have hd1 : decide ((x1 : Int) < 128) = true := decide_eq_true (by omega)
    go_wp2_with fail
    go_quiet (fail)
    go_wp2_with fail
    go_ret
    exact ⟨by simp; try omega, below_new _ _ _⟩
  · have hd1 : decide ((x1 : Int) < 128) = false := decide_eq_false (by omega)
    by_cases h2 : 159 < x1
    · have hd2 : decide ((159 : Int) < (x1 : Int)) = true := decide_eq_true (by omega)
      go_wp2_with fail
      go_quiet (fail)
      go_wp2_with fail
      go_ret
      exact ⟨by simp; try omega, below_new _ _ _⟩
    · have hd2 : decide ((159 : Int) < (x1 : Int)) = false := decide_eq_false (by omega)
      go_wp2_with fail
      go_quiet (fail)
      go_wp2_with fail
      go_ret
      exact ⟨by simp; try omega, below_new _ _ _⟩

set_option maxHeartbeats 4000000 in
set_option maxRecDepth 100000 in
theorem fr52_1 (s : ByteArray) (w : World) (x0 : Nat) (hz0 : 0 < s.size) (hz : s.size < 2) (hx0 : s[0].toNat = x0)
    (hc0 : w.cell? ⟨0, x0, none⟩ = some (.int .u8 52)) (ha0 : w.cell? ⟨1, 6, none⟩ = some (.int .u8 144)) (ha1 : w.cell? ⟨1, 7, none⟩ = some (.int .u8 191)) :
    Calls Tryd.prog 27 #[.string s] w fun e w' => e = .returned (.bool false) ∧ Below w.heap.size w w' := by
  have l0 : x0 < 256 := by rw [← hx0]; exact UInt8.toNat_lt _
  have hg1 : decide ((s.size : Int) > 1) = false := decide_eq_false (by omega)
  have hg2 : decide ((s.size : Int) > 2) = false := decide_eq_false (by omega)
  go_enter Tryd.func27, Tryd.ntmps27
  go_wp2_with fail
  go_quiet (fail)
  go_wp2_with fail
  go_ret
  exact ⟨by simp; try omega, below_new _ _ _⟩

set_option maxHeartbeats 4000000 in
set_option maxRecDepth 100000 in
theorem fr52_2 (s : ByteArray) (w : World) (x0 x1 : Nat) (hz1 : 1 < s.size) (hz : s.size < 3) (hx0 : s[0].toNat = x0) (hx1 : s[1].toNat = x1)
    (hc0 : w.cell? ⟨0, x0, none⟩ = some (.int .u8 52)) (ha0 : w.cell? ⟨1, 6, none⟩ = some (.int .u8 144)) (ha1 : w.cell? ⟨1, 7, none⟩ = some (.int .u8 191)) :
    Calls Tryd.prog 27 #[.string s] w fun e w' => e = .returned (.bool (decide (x1 < 144 ∨ 191 < x1))) ∧ Below w.heap.size w w' := by
  have l0 : x0 < 256 := by rw [← hx0]; exact UInt8.toNat_lt _
  have l1 : x1 < 256 := by rw [← hx1]; exact UInt8.toNat_lt _
  have hg1 : decide ((s.size : Int) > 1) = true := decide_eq_true (by omega)
  have hg2 : decide ((s.size : Int) > 2) = false := decide_eq_false (by omega)
  go_enter Tryd.func27, Tryd.ntmps27
  by_cases h1 : x1 < 144
  · have hd1 : decide ((x1 : Int) < 144) = true := decide_eq_true (by omega)
    go_wp2_with fail
    go_quiet (fail)
    go_wp2_with fail
    go_ret
    exact ⟨by simp; try omega, below_new _ _ _⟩
  · have hd1 : decide ((x1 : Int) < 144) = false := decide_eq_false (by omega)
    by_cases h2 : 191 < x1
    · have hd2 : decide ((191 : Int) < (x1 : Int)) = true := decide_eq_true (by omega)
      go_wp2_with fail
      go_quiet (fail)
      go_wp2_with fail
      go_ret
      exact ⟨by simp; try omega, below_new _ _ _⟩
    · have hd2 : decide ((191 : Int) < (x1 : Int)) = false := decide_eq_false (by omega)
      go_wp2_with fail
      go_quiet (fail)
      go_wp2_with fail
      go_ret
      exact ⟨by simp; try omega, below_new _ _ _⟩

set_option maxHeartbeats 4000000 in
set_option maxRecDepth 100000 in
theorem fr52_3 (s : ByteArray) (w : World) (x0 x1 x2 : Nat) (hz2 : 2 < s.size) (hz : s.size < 4) (hx0 : s[0].toNat = x0) (hx1 : s[1].toNat = x1) (hx2 : s[2].toNat = x2)
    (hc0 : w.cell? ⟨0, x0, none⟩ = some (.int .u8 52)) (ha0 : w.cell? ⟨1, 6, none⟩ = some (.int .u8 144)) (ha1 : w.cell? ⟨1, 7, none⟩ = some (.int .u8 191)) :
    Calls Tryd.prog 27 #[.string s] w fun e w' => e = .returned (.bool (decide ((x1 < 144 ∨ 191 < x1) ∨ (x2 < 128 ∨ 191 < x2)))) ∧ Below w.heap.size w w' := by
  have l0 : x0 < 256 := by rw [← hx0]; exact UInt8.toNat_lt _
  have l1 : x1 < 256 := by rw [← hx1]; exact UInt8.toNat_lt _
  have l2 : x2 < 256 := by rw [← hx2]; exact UInt8.toNat_lt _
  have hg1 : decide ((s.size : Int) > 1) = true := decide_eq_true (by omega)
  have hg2 : decide ((s.size : Int) > 2) = true := decide_eq_true (by omega)
  go_enter Tryd.func27, Tryd.ntmps27
  by_cases h1 : x1 < 144
  · have hd1 : decide ((x1 : Int) < 144) = true := decide_eq_true (by omega)
    go_wp2_with fail
    go_quiet (fail)
    go_wp2_with fail
    go_ret
    exact ⟨by simp; try omega, below_new _ _ _⟩
  · have hd1 : decide ((x1 : Int) < 144) = false := decide_eq_false (by omega)
    by_cases h2 : 191 < x1
    · have hd2 : decide ((191 : Int) < (x1 : Int)) = true := decide_eq_true (by omega)
      go_wp2_with fail
      go_quiet (fail)
      go_wp2_with fail
      go_ret
      exact ⟨by simp; try omega, below_new _ _ _⟩
    · have hd2 : decide ((191 : Int) < (x1 : Int)) = false := decide_eq_false (by omega)
      by_cases h3 : x2 < 128
      · have hd3 : decide ((x2 : Int) < 128) = true := decide_eq_true (by omega)
        go_wp2_with fail
        go_quiet (fail)
        go_wp2_with fail
        go_ret
        exact ⟨by simp; try omega, below_new _ _ _⟩
      · have hd3 : decide ((x2 : Int) < 128) = false := decide_eq_false (by omega)
        by_cases h4 : 191 < x2
        · have hd4 : decide ((191 : Int) < (x2 : Int)) = true := decide_eq_true (by omega)
          go_wp2_with fail
          go_quiet (fail)
          go_wp2_with fail
          go_ret
          exact ⟨by simp; try omega, below_new _ _ _⟩
        · have hd4 : decide ((191 : Int) < (x2 : Int)) = false := decide_eq_false (by omega)
          go_wp2_with fail
          go_quiet (fail)
          go_wp2_with fail
          go_ret
          exact ⟨by simp; try omega, below_new _ _ _⟩

set_option maxHeartbeats 4000000 in
set_option maxRecDepth 100000 in
theorem fr4_1 (s : ByteArray) (w : World) (x0 : Nat) (hz0 : 0 < s.size) (hz : s.size < 2) (hx0 : s[0].toNat = x0)
    (hc0 : w.cell? ⟨0, x0, none⟩ = some (.int .u8 4)) (ha0 : w.cell? ⟨1, 0, none⟩ = some (.int .u8 128)) (ha1 : w.cell? ⟨1, 1, none⟩ = some (.int .u8 191)) :
    Calls Tryd.prog 27 #[.string s] w fun e w' => e = .returned (.bool false) ∧ Below w.heap.size w w' := by
  have l0 : x0 < 256 := by rw [← hx0]; exact UInt8.toNat_lt _
  have hg1 : decide ((s.size : Int) > 1) = false := decide_eq_false (by omega)
  have hg2 : decide ((s.size : Int) > 2) = false := decide_eq_false (by omega)
  go_enter Tryd.func27, Tryd.ntmps27
  go_wp2_with fail
  go_quiet (fail)
  go_wp2_with fail
  go_ret
  exact ⟨by simp; try omega, below_new _ _ _⟩

set_option maxHeartbeats 4000000 in
set_option maxRecDepth 100000 in
theorem fr4_2 (s : ByteArray) (w : World) (x0 x1 : Nat) (hz1 : 1 < s.size) (hz : s.size < 3) (hx0 : s[0].toNat = x0) (hx1 : s[1].toNat = x1)
    (hc0 : w.cell? ⟨0, x0, none⟩ = some (.int .u8 4)) (ha0 : w.cell? ⟨1, 0, none⟩ = some (.int .u8 128)) (ha1 : w.cell? ⟨1, 1, none⟩ = some (.int .u8 191)) :
    Calls Tryd.prog 27 #[.string s] w fun e w' => e = .returned (.bool (decide (x1 < 128 ∨ 191 < x1))) ∧ Below w.heap.size w w' := by
  have l0 : x0 < 256 := by rw [← hx0]; exact UInt8.toNat_lt _
  have l1 : x1 < 256 := by rw [← hx1]; exact UInt8.toNat_lt _
  have hg1 : decide ((s.size : Int) > 1) = true := decide_eq_true (by omega)
  have hg2 : decide ((s.size : Int) > 2) = false := decide_eq_false (by omega)
  go_enter Tryd.func27, Tryd.ntmps27
  by_cases h1 : x1 < 128
  · have hd1 : decide ((x1 : Int) < 128) = true := decide_eq_true (by omega)
    go_wp2_with fail
    go_quiet (fail)
    go_wp2_with fail
    go_ret
    exact ⟨by simp; try omega, below_new _ _ _⟩
  · have hd1 : decide ((x1 : Int) < 128) = false := decide_eq_false (by omega)
    by_cases h2 : 191 < x1
    · have hd2 : decide ((191 : Int) < (x1 : Int)) = true := decide_eq_true (by omega)
      go_wp2_with fail
      go_quiet (fail)
      go_wp2_with fail
      go_ret
      exact ⟨by simp; try omega, below_new _ _ _⟩
    · have hd2 : decide ((191 : Int) < (x1 : Int)) = false := decide_eq_false (by omega)
      go_wp2_with fail
      go_quiet (fail)
      go_wp2_with fail
      go_ret
      exact ⟨by simp; try omega, below_new _ _ _⟩

set_option maxHeartbeats 4000000 in
set_option maxRecDepth 100000 in
theorem fr4_3 (s : ByteArray) (w : World) (x0 x1 x2 : Nat) (hz2 : 2 < s.size) (hz : s.size < 4) (hx0 : s[0].toNat = x0) (hx1 : s[1].toNat = x1) (hx2 : s[2].toNat = x2)
    (hc0 : w.cell? ⟨0, x0, none⟩ = some (.int .u8 4)) (ha0 : w.cell? ⟨1, 0, none⟩ = some (.int .u8 128)) (ha1 : w.cell? ⟨1, 1, none⟩ = some (.int .u8 191)) :
    Calls Tryd.prog 27 #[.string s] w fun e w' => e = .returned (.bool (decide ((x1 < 128 ∨ 191 < x1) ∨ (x2 < 128 ∨ 191 < x2)))) ∧ Below w.heap.size w w' := by
  have l0 : x0 < 256 := by rw [← hx0]; exact UInt8.toNat_lt _
  have l1 : x1 < 256 := by rw [← hx1]; exact UInt8.toNat_lt _
  have l2 : x2 < 256 := by rw [← hx2]; exact UInt8.toNat_lt _
  have hg1 : decide ((s.size : Int) > 1) = true := decide_eq_true (by omega)
  have hg2 : decide ((s.size : Int) > 2) = true := decide_eq_true (by omega)
  go_enter Tryd.func27, Tryd.ntmps27
  by_cases h1 : x1 < 128
  · have hd1 : decide ((x1 : Int) < 128) = true := decide_eq_true (by omega)
    go_wp2_with fail
    go_quiet (fail)
    go_wp2_with fail
    go_ret
    exact ⟨by simp; try omega, below_new _ _ _⟩
  · have hd1 : decide ((x1 : Int) < 128) = false := decide_eq_false (by omega)
    by_cases h2 : 191 < x1
    · have hd2 : decide ((191 : Int) < (x1 : Int)) = true := decide_eq_true (by omega)
      go_wp2_with fail
      go_quiet (fail)
      go_wp2_with fail
      go_ret
      exact ⟨by simp; try omega, below_new _ _ _⟩
    · have hd2 : decide ((191 : Int) < (x1 : Int)) = false := decide_eq_false (by omega)
      by_cases h3 : x2 < 128
      · have hd3 : decide ((x2 : Int) < 128) = true := decide_eq_true (by omega)
        go_wp2_with fail
        go_quiet (fail)
        go_wp2_with fail
        go_ret
        exact ⟨by simp; try omega, below_new _ _ _⟩
      · have hd3 : decide ((x2 : Int) < 128) = false := decide_eq_false (by omega)
        by_cases h4 : 191 < x2
        · have hd4 : decide ((191 : Int) < (x2 : Int)) = true := decide_eq_true (by omega)
          go_wp2_with fail
          go_quiet (fail)
          go_wp2_with fail
          go_ret
          exact ⟨by simp; try omega, below_new _ _ _⟩
        · have hd4 : decide ((191 : Int) < (x2 : Int)) = false := decide_eq_false (by omega)
          go_wp2_with fail
          go_quiet (fail)
          go_wp2_with fail
          go_ret
          exact ⟨by simp; try omega, below_new _ _ _⟩

set_option maxHeartbeats 4000000 in
set_option maxRecDepth 100000 in
theorem fr68_1 (s : ByteArray) (w : World) (x0 : Nat) (hz0 : 0 < s.size) (hz : s.size < 2) (hx0 : s[0].toNat = x0)
    (hc0 : w.cell? ⟨0, x0, none⟩ = some (.int .u8 68)) (ha0 : w.cell? ⟨1, 8, none⟩ = some (.int .u8 128)) (ha1 : w.cell? ⟨1, 9, none⟩ = some (.int .u8 143)) :
    Calls Tryd.prog 27 #[.string s] w fun e w' => e = .returned (.bool false) ∧ Below w.heap.size w w' := by
  have l0 : x0 < 256 := by rw [← hx0]; exact UInt8.toNat_lt _
  have hg1 : decide ((s.size : Int) > 1) = false := decide_eq_false (by omega)
  have hg2 : decide ((s.size : Int) > 2) = false := decide_eq_false (by omega)
  go_enter Tryd.func27, Tryd.ntmps27
  go_wp2_with fail
  go_quiet (fail)
  go_wp2_with fail
  go_ret
  exact ⟨by simp; try omega, below_new _ _ _⟩

set_option maxHeartbeats 4000000 in
set_option maxRecDepth 100000 in
theorem fr68_2 (s : ByteArray) (w : World) (x0 x1 : Nat) (hz1 : 1 < s.size) (hz : s.size < 3) (hx0 : s[0].toNat = x0) (hx1 : s[1].toNat = x1)
    (hc0 : w.cell? ⟨0, x0, none⟩ = some (.int .u8 68)) (ha0 : w.cell? ⟨1, 8, none⟩ = some (.int .u8 128)) (ha1 : w.cell? ⟨1, 9, none⟩ = some (.int .u8 143)) :
    Calls Tryd.prog 27 #[.string s] w fun e w' => e = .returned (.bool (decide (x1 < 128 ∨ 143 < x1))) ∧ Below w.heap.size w w' := by
  have l0 : x0 < 256 := by rw [← hx0]; exact UInt8.toNat_lt _
  have l1 : x1 < 256 := by rw [← hx1]; exact UInt8.toNat_lt _
  have hg1 : decide ((s.size : Int) > 1) = true := decide_eq_true (by omega)
  have hg2 : decide ((s.size : Int) > 2) = false := decide_eq_false (by omega)
  go_enter Tryd.func27, Tryd.ntmps27
  by_cases h1 : x1 < 128
  · have hd1 : decide ((x1 : Int) < 128) = true := decide_eq_true (by omega)
    go_wp2_with fail
    go_quiet (fail)
    go_wp2_with fail
    go_ret
    exact ⟨by simp; try omega, below_new _ _ _⟩
  · have hd1 : decide ((x1 : Int) < 128) = false := decide_eq_false (by omega)
    by_cases h2 : 143 < x1
    · have hd2 : decide ((143 : Int) < (x1 : Int)) = true := decide_eq_true (by omega)
      go_wp2_with fail
      go_quiet (fail)
      go_wp2_with fail
      go_ret
      exact ⟨by simp; try omega, below_new _ _ _⟩
    · have hd2 : decide ((143 : Int) < (x1 : Int)) = false := decide_eq_false (by omega)
      go_wp2_with fail
      go_quiet (fail)
      go_wp2_with fail
      go_ret
      exact ⟨by simp; try omega, below_new _ _ _⟩

set_option maxHeartbeats 4000000 in
set_option maxRecDepth 100000 in
theorem fr68_3 (s : ByteArray) (w : World) (x0 x1 x2 : Nat) (hz2 : 2 < s.size) (hz : s.size < 4) (hx0 : s[0].toNat = x0) (hx1 : s[1].toNat = x1) (hx2 : s[2].toNat = x2)
    (hc0 : w.cell? ⟨0, x0, none⟩ = some (.int .u8 68)) (ha0 : w.cell? ⟨1, 8, none⟩ = some (.int .u8 128)) (ha1 : w.cell? ⟨1, 9, none⟩ = some (.int .u8 143)) :
    Calls Tryd.prog 27 #[.string s] w fun e w' => e = .returned (.bool (decide ((x1 < 128 ∨ 143 < x1) ∨ (x2 < 128 ∨ 191 < x2)))) ∧ Below w.heap.size w w' := by
  have l0 : x0 < 256 := by rw [← hx0]; exact UInt8.toNat_lt _
  have l1 : x1 < 256 := by rw [← hx1]; exact UInt8.toNat_lt _
  have l2 : x2 < 256 := by rw [← hx2]; exact UInt8.toNat_lt _
  have hg1 : decide ((s.size : Int) > 1) = true := decide_eq_true (by omega)
  have hg2 : decide ((s.size : Int) > 2) = true := decide_eq_true (by omega)
  go_enter Tryd.func27, Tryd.ntmps27
  by_cases h1 : x1 < 128
  · have hd1 : decide ((x1 : Int) < 128) = true := decide_eq_true (by omega)
    go_wp2_with fail
    go_quiet (fail)
    go_wp2_with fail
    go_ret
    exact ⟨by simp; try omega, below_new _ _ _⟩
  · have hd1 : decide ((x1 : Int) < 128) = false := decide_eq_false (by omega)
    by_cases h2 : 143 < x1
    · have hd2 : decide ((143 : Int) < (x1 : Int)) = true := decide_eq_true (by omega)
      go_wp2_with fail
      go_quiet (fail)
      go_wp2_with fail
      go_ret
      exact ⟨by simp; try omega, below_new _ _ _⟩
    · have hd2 : decide ((143 : Int) < (x1 : Int)) = false := decide_eq_false (by omega)
      by_cases h3 : x2 < 128
      · have hd3 : decide ((x2 : Int) < 128) = true := decide_eq_true (by omega)
        go_wp2_with fail
        go_quiet (fail)
        go_wp2_with fail
        go_ret
        exact ⟨by simp; try omega, below_new _ _ _⟩
      · have hd3 : decide ((x2 : Int) < 128) = false := decide_eq_false (by omega)
        by_cases h4 : 191 < x2
        · have hd4 : decide ((191 : Int) < (x2 : Int)) = true := decide_eq_true (by omega)
          go_wp2_with fail
          go_quiet (fail)
          go_wp2_with fail
          go_ret
          exact ⟨by simp; try omega, below_new _ _ _⟩
        · have hd4 : decide ((191 : Int) < (x2 : Int)) = false := decide_eq_false (by omega)
          go_wp2_with fail
          go_quiet (fail)
          go_wp2_with fail
          go_ret
          exact ⟨by simp; try omega, below_new _ _ _⟩

end Go.Proofs.YtbefcdkjkjeonaaDoor.Utf
