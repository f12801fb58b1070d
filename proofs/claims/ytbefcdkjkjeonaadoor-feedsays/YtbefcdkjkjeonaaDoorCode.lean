/- Plain mathematics of Get: what the bytes at the front of a list say, by division; and the single steps of Go's bit operations that it is made of. -/
import GoSem.Core.Utf8
import Derived.Lib.Small
import Derived.Lib.BitFns
import Derived.Lib.Strings
import Derived.Laws.BitsLemmas
import Derived.Laws.Runes
namespace Go.Proofs.YtbefcdkjkjeonaaDoor.Plain

/-- How many bytes a first byte asks for (of those that ask for 2, 3 or 4). -/
def need (x : Nat) : Nat := if x < 224 then 2 else if x < 240 then 3 else 4
/-- What a first byte has of the number. -/
def low (x : Nat) : Nat := if x < 224 then x % 32 else if x < 240 then x % 16 else x % 8
/-- The further bytes: the number, and the error. -/
def cont : Nat → Nat → List UInt8 → Nat × Nat
  | 0, c, _ => (c, 0)
  | _ + 1, _, [] => (0, 3)
  | k + 1, c, b :: r => if b.toNat / 64 = 2 then cont k (c * 64 + b.toNat % 64) r else (0, 4)
def fin (o : Nat) (p : Nat × Nat) : Nat × Nat × Nat :=
  if p.2 = 0 then (if Lib.runeLen (p.1 : Int) = (o : Int) then (p.1, o, 0) else (0, 0, 4)) else (0, 0, p.2)
def get : List UInt8 → Nat × Nat × Nat
  | [] => (0, 0, 3)
  | b :: r =>
    if b.toNat < 128 then (b.toNat, 1, 0)
    else if b.toNat < 192 ∨ 248 ≤ b.toNat then (0, 0, 4)
    else fin (need b.toNat) (cont (need b.toNat - 1) (low b.toNat) r)

/-- How great the number can be behind j bytes. -/
def bd (j : Nat) : Nat := 32 * 64 ^ (j - 1)
theorem bd_succ (j : Nat) (h : 1 ≤ j) : bd (j + 1) = bd j * 64 := by
  unfold bd
  obtain ⟨k, rfl⟩ : ∃ k, j = k + 1 := ⟨j - 1, by omega⟩
  simp [Nat.pow_succ, Nat.mul_assoc]
theorem bd_le (j : Nat) (h : 1 ≤ j) (h4 : j ≤ 4) : bd j ≤ 8388608 := by
  rcases (by omega : j = 1 ∨ j = 2 ∨ j = 3 ∨ j = 4) with rfl | rfl | rfl | rfl <;> decide

theorem not8F : ∀ n : Fin 256, bits .xor .u8 IntKind.u8.max (n.val : Int) = 255 - (n.val : Int) := by decide +kernel
theorem not8 (n : Nat) (h : n < 256) : bits .xor .u8 IntKind.u8.max (n : Int) = 255 - (n : Int) := not8F ⟨n, h⟩
theorem and192F : ∀ n : Fin 256, bits .and .u8 (n.val : Int) 192 = ((n.val / 64 * 64 : Nat) : Int) := by decide +kernel
theorem and192 (n : Nat) (h : n < 256) : bits .and .u8 (n : Int) 192 = ((n / 64 * 64 : Nat) : Int) := and192F ⟨n, h⟩
theorem and63F : ∀ n : Fin 256, bits .and .u8 (n.val : Int) 63 = ((n.val % 64 : Nat) : Int) := by decide +kernel
theorem and63 (n : Nat) (h : n < 256) : bits .and .u8 (n : Int) 63 = ((n % 64 : Nat) : Int) := and63F ⟨n, h⟩
theorem lenF : ∀ n : Fin 256, 8 - (Lib.bitLen (255 - (n.val : Int)).toNat : Int) =
    if n.val < 128 then 0 else if n.val < 192 then 1 else if n.val < 224 then 2 else if n.val < 240 then 3 else if n.val < 248 then 4 else
      if n.val < 252 then 5 else if n.val < 254 then 6 else if n.val < 255 then 7 else 8 := by decide +kernel
theorem len8 (n : Nat) (h : n < 256) : 8 - (Lib.bitLen (255 - (n : Int)).toNat : Int) =
    if n < 128 then 0 else if n < 192 then 1 else if n < 224 then 2 else if n < 240 then 3 else if n < 248 then 4 else
      if n < 252 then 5 else if n < 254 then 6 else if n < 255 then 7 else 8 := lenF ⟨n, h⟩
theorem and31F : ∀ n : Fin 256, bits .and .i64 (n.val : Int) 31 = ((n.val % 32 : Nat) : Int) := by decide +kernel
theorem and15F : ∀ n : Fin 256, bits .and .i64 (n.val : Int) 15 = ((n.val % 16 : Nat) : Int) := by decide +kernel
theorem and7F : ∀ n : Fin 256, bits .and .i64 (n.val : Int) 7 = ((n.val % 8 : Nat) : Int) := by decide +kernel
theorem wraps_i64 (n : Int) (h₀ : 0 ≤ n) (h₁ : n < 2 ^ 60) : IntKind.i64.wrap n = n := by rw [IntKind.wrap_i64]; omega
theorem or6 (c y : Nat) (hc : c ≤ 8388608) (hy : y < 64) : bits .or .i64 ((c : Int) * 64) (y : Int) = ((c * 64 + y : Nat) : Int) := by
  have h := bits_join .i64 60 (by decide) wraps_i64 6 ((c : Int) * 64) (y : Int) (by omega) (by omega) (by omega) (by omega) (by omega) (by omega)
  rw [h]
  push_cast
  rfl
end Go.Proofs.YtbefcdkjkjeonaaDoor.Plain
