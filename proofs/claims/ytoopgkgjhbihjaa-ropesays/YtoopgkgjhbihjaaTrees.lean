/- Trees of nodes in memory, each one of a list: its middle number at the top, halves on both sides. -/
import Derived.Test.YtoopgkgjhbihjaaBase
set_option linter.unusedVariables false
set_option linter.unusedSimpArgs false
namespace Go.Proofs.Ytoopgkgjhbihjaa.Seek
open Go.RowKit

/-- In the world w, in blocks below B, the tree of zs hangs at p; it is no taller than n. -/
def TreeF (w : World) (B : Nat) : Nat → Option Addr → List Int → Prop
  | 0, p, zs => zs = [] ∧ p = none
  | n + 1, p, zs => (zs = [] ∧ p = none) ∨ (zs ≠ [] ∧ ∃ (b : Nat) (pl pr : Option Addr), p = some ⟨b, 0, none⟩ ∧ b < B ∧ w.cell? ⟨b, 0, none⟩ = some (.pointer pl) ∧ w.cell? ⟨b, 1, none⟩ = some (.pointer pr) ∧
      w.cell? ⟨b, 2, none⟩ = some (.int .i64 (zs.getD (zs.length / 2) 0)) ∧ w.cell? ⟨b, 3, none⟩ = some (.int .i64 (zs.length : Int)) ∧ TreeF w B n pl (zs.take (zs.length / 2)) ∧ TreeF w B n pr (zs.drop (zs.length / 2 + 1)))
def Tree (w : World) (B : Nat) (p : Option Addr) (zs : List Int) : Prop := ∃ n, TreeF w B n p zs

theorem treeF_mono {w : World} {B : Nat} : ∀ (n m : Nat) (p : Option Addr) (zs : List Int), n ≤ m → TreeF w B n p zs → TreeF w B m p zs
  | 0, 0, _, _, _, h => h
  | 0, m + 1, _, _, _, h => .inl h
  | n + 1, 0, _, _, hm, _ => absurd hm (by omega)
  | n + 1, m + 1, p, zs, hm, h => by
    rcases h with h | ⟨hz, b, pl, pr, hp, hb, c0, c1, c2, c3, hl, hr⟩
    · exact .inl h
    · exact .inr ⟨hz, b, pl, pr, hp, hb, c0, c1, c2, c3, treeF_mono n m _ _ (by omega) hl, treeF_mono n m _ _ (by omega) hr⟩
theorem treeF_below {w w' : World} {B B' : Nat} (hb : Below B w w') (hB : B ≤ B') : ∀ (n : Nat) (p : Option Addr) (zs : List Int), TreeF w B n p zs → TreeF w' B' n p zs
  | 0, _, _, h => h
  | n + 1, p, zs, h => by
    rcases h with h | ⟨hz, b, pl, pr, hp, hlt, c0, c1, c2, c3, hl, hr⟩
    · exact .inl h
    · exact .inr ⟨hz, b, pl, pr, hp, Nat.lt_of_lt_of_le hlt hB, (hb.cell (by exact hlt)).trans c0, (hb.cell (by exact hlt)).trans c1, (hb.cell (by exact hlt)).trans c2, (hb.cell (by exact hlt)).trans c3, treeF_below hb hB n _ _ hl, treeF_below hb hB n _ _ hr⟩
theorem Tree.below {w w' : World} {B : Nat} {p : Option Addr} {zs : List Int} (h : Tree w B p zs) (hb : Below B w w') : Tree w' B p zs := by
  obtain ⟨n, h⟩ := h
  exact ⟨n, treeF_below hb (Nat.le_refl _) n _ _ h⟩
theorem Tree.more {w : World} {B B' : Nat} {p : Option Addr} {zs : List Int} (h : Tree w B p zs) (hB : B ≤ B') : Tree w B' p zs := by
  obtain ⟨n, h⟩ := h
  exact ⟨n, treeF_below (Below.refl _ _) hB n _ _ h⟩
theorem tree_none (w : World) (B : Nat) : Tree w B none [] := ⟨0, rfl, rfl⟩
/-- A tree, opened. -/
theorem Tree.parts {w : World} {B : Nat} {p : Option Addr} {zs : List Int} (h : Tree w B p zs) : (zs = [] ∧ p = none) ∨ (zs ≠ [] ∧ ∃ (b : Nat) (pl pr : Option Addr), p = some ⟨b, 0, none⟩ ∧ b < B ∧ w.cell? ⟨b, 0, none⟩ = some (.pointer pl) ∧ w.cell? ⟨b, 1, none⟩ = some (.pointer pr) ∧
      w.cell? ⟨b, 2, none⟩ = some (.int .i64 (zs.getD (zs.length / 2) 0)) ∧ w.cell? ⟨b, 3, none⟩ = some (.int .i64 (zs.length : Int)) ∧ Tree w B pl (zs.take (zs.length / 2)) ∧ Tree w B pr (zs.drop (zs.length / 2 + 1))) := by
  obtain ⟨n, h⟩ := h
  cases n with
  | zero => exact .inl h
  | succ n =>
    rcases h with h | ⟨hz, b, pl, pr, hp, hlt, c0, c1, c2, c3, hl, hr⟩
    · exact .inl h
    · exact .inr ⟨hz, b, pl, pr, hp, hlt, c0, c1, c2, c3, ⟨n, hl⟩, ⟨n, hr⟩⟩
theorem tree_node {w : World} {B : Nat} {zs : List Int} {b : Nat} {pl pr : Option Addr} (hz : zs ≠ []) (hlt : b < B) (c0 : w.cell? ⟨b, 0, none⟩ = some (.pointer pl)) (c1 : w.cell? ⟨b, 1, none⟩ = some (.pointer pr))
    (c2 : w.cell? ⟨b, 2, none⟩ = some (.int .i64 (zs.getD (zs.length / 2) 0))) (c3 : w.cell? ⟨b, 3, none⟩ = some (.int .i64 (zs.length : Int))) (hl : Tree w B pl (zs.take (zs.length / 2))) (hr : Tree w B pr (zs.drop (zs.length / 2 + 1))) :
    Tree w B (some ⟨b, 0, none⟩) zs := by
  obtain ⟨n, hl⟩ := hl
  obtain ⟨m, hr⟩ := hr
  exact ⟨max n m + 1, .inr ⟨hz, b, pl, pr, rfl, hlt, c0, c1, c2, c3, treeF_mono n _ _ _ (Nat.le_max_left _ _) hl, treeF_mono m _ _ _ (Nat.le_max_right _ _) hr⟩⟩
/-- The list by its middle. -/
theorem middle_eq {zs : List Int} (hz : zs ≠ []) : zs = zs.take (zs.length / 2) ++ zs.getD (zs.length / 2) 0 :: zs.drop (zs.length / 2 + 1) := by
  have hl : 0 < zs.length := List.length_pos_iff.2 hz
  have hlt : zs.length / 2 < zs.length := by omega
  rw [List.getD_eq_getElem?_getD, List.getElem?_eq_getElem hlt, Option.getD_some, ← List.drop_eq_getElem_cons hlt, List.take_append_drop]
theorem len_left (zs : List Int) : (zs.take (zs.length / 2)).length = zs.length / 2 := by rw [List.length_take]; omega
theorem len_right (zs : List Int) : (zs.drop (zs.length / 2 + 1)).length = zs.length - (zs.length / 2 + 1) := List.length_drop

/-- How tall the tree of n numbers is. -/
def hgtF : Nat → Nat → Nat
  | 0, _ => 0
  | f + 1, n => if n = 0 then 0 else 1 + hgtF f (n / 2)
def hgt (n : Nat) : Nat := hgtF n n
theorem hgtF_eq : ∀ (f g n : Nat), n ≤ f → n ≤ g → hgtF f n = hgtF g n
  | 0, 0, n, _, _ => rfl
  | 0, g + 1, n, h, _ => by
    obtain rfl : n = 0 := by omega
    simp [hgtF]
  | f + 1, 0, n, _, h => by
    obtain rfl : n = 0 := by omega
    simp [hgtF]
  | f + 1, g + 1, n, h, h2 => by
    unfold hgtF
    by_cases h0 : n = 0
    · rw [if_pos h0, if_pos h0]
    · rw [if_neg h0, if_neg h0, hgtF_eq f g (n / 2) (by omega) (by omega)]
theorem hgt_zero : hgt 0 = 0 := rfl
theorem hgt_pos (n : Nat) (h : 0 < n) : hgt n = 1 + hgt (n / 2) := by
  obtain ⟨m, rfl⟩ : ∃ m, n = m + 1 := ⟨n - 1, by omega⟩
  unfold hgt
  rw [hgtF, if_neg (by omega), hgtF_eq m ((m + 1) / 2) _ (by omega) (Nat.le_refl _)]
theorem hgt_mono : ∀ (k n m : Nat), n ≤ k → m ≤ n → hgt m ≤ hgt n
  | 0, n, m, h, h2 => by
    obtain rfl : n = 0 := by omega
    obtain rfl : m = 0 := by omega
    exact Nat.le_refl _
  | k + 1, n, m, h, h2 => by
    by_cases h0 : m = 0
    · subst h0
      rw [hgt_zero]
      omega
    · rw [hgt_pos n (by omega), hgt_pos m (by omega)]
      have := hgt_mono k (n / 2) (m / 2) (by omega) (by omega)
      omega
theorem hgt_le : ∀ (k n : Nat), n ≤ k → hgt n ≤ n
  | 0, n, h => by
    obtain rfl : n = 0 := by omega
    exact Nat.le_refl _
  | k + 1, n, h => by
    by_cases h0 : n = 0
    · subst h0
      exact Nat.le_refl _
    · rw [hgt_pos n (by omega)]
      have := hgt_le k (n / 2) (by omega)
      omega
/-- The two halves: the left one is as tall, or taller. -/
theorem hgt_halves (n : Nat) : hgt (n - (n / 2 + 1)) ≤ hgt (n / 2) := hgt_mono (n / 2) (n / 2) _ (Nat.le_refl _) (by omega)

/-- The document's least. -/
def lst : Nat → Nat
  | 0 => 0
  | 1 => 1
  | t + 2 => 1 + lst t + lst (t + 1)
theorem lst_two : ∀ t, lst (t + 1) ≤ 2 ^ t ∧ lst (t + 2) ≤ 2 ^ (t + 1)
  | 0 => by decide
  | t + 1 => by
    obtain ⟨h1, h2⟩ := lst_two t
    refine ⟨h2, ?_⟩
    have e : lst (t + 1 + 2) = 1 + lst (t + 1) + lst (t + 2) := rfl
    have hp : 0 < 2 ^ t := Nat.two_pow_pos t
    have e1 : 2 ^ (t + 1) = 2 * 2 ^ t := by rw [Nat.pow_succ]; omega
    have e2 : 2 ^ (t + 1 + 1) = 2 * 2 ^ (t + 1) := by rw [Nat.pow_succ 2 (t + 1)]; omega
    rw [e]
    omega
theorem hgt_two : ∀ (k n : Nat), n ≤ k → 0 < n → 2 ^ (hgt n - 1) ≤ n
  | 0, n, h, h0 => by omega
  | k + 1, n, h, h0 => by
    rw [hgt_pos n h0, Nat.add_sub_cancel_left]
    by_cases h1 : n / 2 = 0
    · rw [h1, hgt_zero]
      exact h0
    · have := hgt_two k (n / 2) (by omega) (by omega)
      have e := hgt_pos (n / 2) (by omega)
      obtain ⟨t, ht⟩ : ∃ t, hgt (n / 2) = t + 1 := ⟨hgt (n / 2) - 1, by omega⟩
      rw [ht] at this ⊢
      rw [Nat.add_sub_cancel] at this
      rw [Nat.pow_succ]
      omega
/-- A tree has as many numbers as it must. -/
theorem lst_hgt (n : Nat) : lst (hgt n) ≤ n := by
  by_cases h0 : n = 0
  · subst h0
    exact Nat.le_refl _
  · have h1 := hgt_two n n (Nat.le_refl _) (by omega)
    have e := hgt_pos n (by omega)
    obtain ⟨t, ht⟩ : ∃ t, hgt n = t + 1 := ⟨hgt n - 1, by omega⟩
    rw [ht] at h1 ⊢
    rw [Nat.add_sub_cancel] at h1
    exact Nat.le_trans (lst_two t).1 h1
end Go.Proofs.Ytoopgkgjhbihjaa.Seek
