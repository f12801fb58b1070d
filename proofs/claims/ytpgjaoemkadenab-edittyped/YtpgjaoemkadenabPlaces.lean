/- Plain mathematics: the kinds along a line; where words begin and end; the first such place behind another, the last ahead of it. -/
import Derived.Test.YtpgjaoemkadenabKind
set_option linter.unusedVariables false
set_option linter.unusedSimpArgs false
set_option maxRecDepth 100000
namespace Go.Proofs.Ytpgjaoemkadenab.Plain
/-- The kind at a place; Blank beyond the end. -/
def knd (zs : List Int) (b : Bool) (i : Nat) : Int := if i < zs.length then kind (zs.getD i 0) b else 0
theorem knd_in {zs : List Int} {b : Bool} {i : Nat} (h : i < zs.length) : knd zs b i = kind (zs.getD i 0) b := if_pos h
theorem knd_out {zs : List Int} {b : Bool} {i : Nat} (h : zs.length ≤ i) : knd zs b i = 0 := if_neg (by omega)
/-- Does a word begin there (at a place but the first)? -/
def bgn (zs : List Int) (b : Bool) (i : Nat) : Bool := knd zs b i != 0 && knd zs b i != knd zs b (i - 1)
/-- Does a word end there? -/
def fin (zs : List Int) (b : Bool) (i : Nat) : Bool := knd zs b i != 0 && knd zs b i != knd zs b (i + 1)
/-- The first of so many places from i on at which p holds, else d. -/
def firstUp (p : Nat → Bool) (d : Int) : Nat → Nat → Int
  | 0, _ => d
  | n + 1, i => if p i = true then (i : Int) else firstUp p d n (i + 1)
/-- The first place from i on, ahead of n, at which p holds, else d. -/
def up (p : Nat → Bool) (d : Int) (n i : Nat) : Int := firstUp p d (n - i) i
/-- The last place ahead of i at which p holds, else 0. -/
def down (p : Nat → Bool) : Nat → Nat
  | 0 => 0
  | i + 1 => if p i = true then i else down p i
theorem up_done {p : Nat → Bool} {d : Int} {n i : Nat} (h : n ≤ i) : up p d n i = d := by
  unfold up
  rw [show n - i = 0 by omega]
  rfl
theorem up_hit {p : Nat → Bool} {d : Int} {n i : Nat} (h : i < n) (hp : p i = true) : up p d n i = (i : Int) := by
  unfold up
  rw [show n - i = (n - (i + 1)) + 1 by omega]
  unfold firstUp
  rw [if_pos hp]
theorem up_miss {p : Nat → Bool} {d : Int} {n i : Nat} (h : i < n) (hp : p i = false) : up p d n i = up p d n (i + 1) := by
  unfold up
  rw [show n - i = (n - (i + 1)) + 1 by omega]
  exact if_neg (by rw [hp]; decide)
theorem firstUp_spec (p : Nat → Bool) (d : Int) : ∀ (n i : Nat), (∃ j : Nat, firstUp p d n i = (j : Int) ∧ i ≤ j ∧ j < i + n ∧ p j = true ∧ ∀ x, i ≤ x → x < j → p x = false) ∨
    (firstUp p d n i = d ∧ ∀ x, i ≤ x → x < i + n → p x = false)
  | 0, i => .inr ⟨rfl, fun x h1 h2 => absurd h2 (by omega)⟩
  | n + 1, i => by
    unfold firstUp
    cases hp : p i with
    | true => exact .inl ⟨i, if_pos rfl, by omega, by omega, hp, fun x h1 h2 => absurd h2 (by omega)⟩
    | false =>
      rw [if_neg (by decide)]
      have step : ∀ x, i ≤ x → x = i ∨ i + 1 ≤ x := fun x h => by omega
      rcases firstUp_spec p d n (i + 1) with ⟨j, h1, h2, h3, h4, h5⟩ | ⟨h1, h2⟩
      · refine .inl ⟨j, h1, by omega, by omega, h4, fun x hx1 hx2 => ?_⟩
        rcases step x hx1 with rfl | h
        · exact hp
        · exact h5 x h hx2
      · refine .inr ⟨h1, fun x hx1 hx2 => ?_⟩
        rcases step x hx1 with rfl | h
        · exact hp
        · exact h2 x h (by omega)
theorem up_spec (p : Nat → Bool) (d : Int) (n i : Nat) : (∃ j : Nat, up p d n i = (j : Int) ∧ i ≤ j ∧ j < n ∧ p j = true ∧ ∀ x, i ≤ x → x < j → p x = false) ∨
    (up p d n i = d ∧ ∀ x, i ≤ x → x < n → p x = false) := by
  rcases firstUp_spec p d (n - i) i with ⟨j, h1, h2, h3, h4, h5⟩ | ⟨h1, h2⟩
  · exact .inl ⟨j, h1, h2, by omega, h4, h5⟩
  · exact .inr ⟨h1, fun x hx1 hx2 => h2 x hx1 (by omega)⟩
theorem down_hit {p : Nat → Bool} {i : Nat} (hp : p i = true) : down p (i + 1) = i := by
  show (if p i = true then i else down p i) = i
  rw [if_pos hp]
theorem down_miss {p : Nat → Bool} {i : Nat} (hp : p i = false) : down p (i + 1) = down p i := by
  show (if p i = true then i else down p i) = down p i
  rw [if_neg (by rw [hp]; decide)]
theorem down_small (p : Nat → Bool) : ∀ {i : Nat}, i ≤ 1 → down p i = 0
  | 0, _ => rfl
  | 1, _ => by
    show (if p 0 = true then 0 else down p 0) = 0
    split <;> rfl
  | i + 2, h => absurd h (by omega)
theorem down_spec (p : Nat → Bool) : ∀ i : Nat, (down p i < i ∧ p (down p i) = true ∧ ∀ x, down p i < x → x < i → p x = false) ∨ (down p i = 0 ∧ ∀ x, x < i → p x = false)
  | 0 => .inr ⟨rfl, fun x h => absurd h (by omega)⟩
  | i + 1 => by
    cases hp : p i with
    | true =>
      rw [down_hit hp]
      exact .inl ⟨by omega, hp, fun x h1 h2 => absurd h2 (by omega)⟩
    | false =>
      rw [down_miss hp]
      have step : ∀ x, x < i + 1 → x = i ∨ x < i := fun x h => by omega
      rcases down_spec p i with ⟨h1, h2, h3⟩ | ⟨h1, h2⟩
      · refine .inl ⟨by omega, h2, fun x hx1 hx2 => ?_⟩
        rcases step x hx2 with rfl | h
        · exact hp
        · exact h3 x hx1 h
      · refine .inr ⟨h1, fun x hx => ?_⟩
        rcases step x hx with rfl | h
        · exact hp
        · exact h2 x h
/-- Which error there is. -/
def chk (n : Nat) (k : Int) : Int := if 4096 < n then 2 else if k < 0 ∨ (n : Int) < k then 1 else 0
/-- P20, P21: the answers. -/
def next (zs : List Int) (k : Int) (b : Bool) : Int := if chk zs.length k = 0 then up (bgn zs b) zs.length zs.length (k.toNat + 1) else 0
def back (zs : List Int) (k : Int) (b : Bool) : Int := if chk zs.length k = 0 then (down (bgn zs b) k.toNat : Int) else 0
def last (zs : List Int) (k : Int) (b : Bool) : Int := if chk zs.length k = 0 then up (fin zs b) ((zs.length - 1 : Nat) : Int) zs.length (k.toNat + 1) else 0
theorem chk_zero {n : Nat} {k : Int} (h : chk n k = 0) : n ≤ 4096 ∧ ∃ j : Nat, k = (j : Int) ∧ j ≤ n := by
  unfold chk at h
  by_cases h1 : 4096 < n
  · rw [if_pos h1] at h
    exact absurd h (by decide)
  · rw [if_neg h1] at h
    by_cases h2 : k < 0 ∨ (n : Int) < k
    · rw [if_pos h2] at h
      exact absurd h (by decide)
    · exact ⟨by omega, k.toNat, by omega, by omega⟩
theorem chk_right {n j : Nat} (h1 : n ≤ 4096) (h2 : j ≤ n) : chk n (j : Int) = 0 := by
  unfold chk
  rw [if_neg (by omega), if_neg (by omega)]
theorem chk_cases (n : Nat) (k : Int) : chk n k = 0 ∨ chk n k = 1 ∨ chk n k = 2 := by
  unfold chk
  split
  · exact .inr (.inr rfl)
  · split
    · exact .inr (.inl rfl)
    · exact .inl rfl
end Go.Proofs.Ytpgjaoemkadenab.Plain
