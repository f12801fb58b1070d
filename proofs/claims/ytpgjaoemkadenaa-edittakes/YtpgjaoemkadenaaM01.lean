/- Texts of one claim, one behind the other: Base, Mem, Kind, Places, Brk, Stacks, Groups. -/
import Derived.Test.YtpgjaoemkadenaaRows
import Derived.WalkKit
import Derived.BigQuiet
import Derived.Deep.QuietTactic
import Derived.Laws.OwnMore
import Derived.Laws.Rows
import Derived.Laws.Tables
import Derived.Laws.ResultCell
import Derived.Deep.Light
import Derived.Maps.OwnRows
import Derived.Maps.Views
import Derived.Handy
/- Slices of ints that can be read, or that are owned; how far a call's memory goes. -/
set_option linter.unusedVariables false
set_option linter.unusedSimpArgs false
set_option maxRecDepth 100000
namespace Go.Proofs.Ytpgjaoemkadenaa.Seek
open Go.RowKit
theorem info3 : (Try.prog.info? 3).map (fun i => (i.zero, i.size, i.bytes)) = some (some (Value.int .i64 0), 1, 8) := by kernel_rfl

def ints (zs : List Int) : List Value := zs.map (Value.int .i64)
theorem ints_len (zs : List Int) : (ints zs).length = zs.length := List.length_map ..
/-- A list as a function of places. -/
def fn (zs : List Int) : Nat → Int := fun j => zs.getD j 0

/-- The slice v holds the numbers zs. -/
def Reads (w : World) (v : Value) (zs : List Int) : Prop :=
  (∃ a cap, v = .slice a 0 cap ∧ zs = []) ∨
  (∃ b off cap, v = .slice (some ⟨b, off, none⟩) zs.length cap ∧ zs.length ≤ cap ∧ cap ≤ maxLen ∧ b < w.heap.size ∧ ∀ j, j < zs.length → w.cell? ⟨b, off + j, none⟩ = some (.int .i64 (zs.getD j 0)))

theorem Reads.shape {w : World} {v : Value} {zs : List Int} (h : Reads w v zs) : ∃ a cap, v = .slice a zs.length cap := by
  rcases h with ⟨a, cap, hv, hz⟩ | ⟨b, off, cap, hv, _⟩
  · subst hz
    exact ⟨a, cap, hv⟩
  · exact ⟨_, cap, hv⟩
theorem Reads.below {w w' : World} {v : Value} {zs : List Int} (h : Reads w v zs) (hb : Below w.heap.size w w') : Reads w' v zs := by
  rcases h with h | ⟨b, off, cap, hv, hcap, hm, hlt, hc⟩
  · exact .inl h
  · exact .inr ⟨b, off, cap, hv, hcap, hm, Nat.lt_of_lt_of_le hlt hb.size, fun j hj => (hb.cell (by exact hlt)).trans (hc j hj)⟩
theorem Reads.drewN {w : World} {v : Value} {zs : List Int} (h : Reads w v zs) (q : Nat) : Reads (w.drewN q) v zs := h

theorem owned_below {w w' : World} {B : Nat} {v : Value} {n : Nat} {xs : List Value} (h : w.ownsRow B 3 1 v n xs) (hb : Below w.heap.size w w') : w'.ownsRow B 3 1 v n xs := by
  refine ⟨h.1, ?_⟩
  rcases h.2 with hn | ⟨g, cap, cur, hv, hB, hg, rest⟩
  · exact .inl hn
  · exact .inr ⟨g, cap, cur, hv, hB, (hb.block g (Array.getElem?_eq_some_iff.1 hg).1).trans hg, rest⟩
theorem owned_less {w : World} {B B' : Nat} {v : Value} {n : Nat} {xs : List Value} (h : w.ownsRow B 3 1 v n xs) (hb : B' ≤ B) : w.ownsRow B' 3 1 v n xs := by
  refine ⟨h.1, ?_⟩
  rcases h.2 with hn | ⟨g, cap, cur, hv, hB, rest⟩
  · exact .inl hn
  · exact .inr ⟨g, cap, cur, hv, by omega, rest⟩
theorem below_trans {w w1 w2 : World} {B : Nat} (h : Below B w w1) (h2 : Below w1.heap.size w1 w2) (hB : B ≤ w1.heap.size) : Below B w w2 := h.trans (h2.mono hB)
theorem below_drewN {w w1 : World} {B : Nat} (h : Below B w w1) (q : Nat) : Below B w (w1.drewN q) := ⟨h.os, h.tape, h.output, h.size, h.block⟩

/-- The cells of an owned slice. -/
theorem owned_cells {w : World} {g : Nat} {zs : List Int} {cur : Array Value} (hg : w.heap[g]? = some (.cells cur 3 (0, 0)))
    (htake : cur.toList.take (zs.length * 1) = ints zs) (j : Nat) (hj : j < zs.length) : w.cell? ⟨g, 0 + j, none⟩ = some (.int .i64 (zs.getD j 0)) := by
  rw [Nat.zero_add]
  unfold World.cell?
  simp only
  rw [hg]
  have h := congrArg (fun l : List Value => l[j]?) htake
  simp only [List.getElem?_take, Nat.mul_one, hj, if_true] at h
  rw [Array.getElem?_toList] at h
  simp only [h]
  unfold ints
  simp [hj]
theorem owned_reads {w : World} {B : Nat} {v : Value} {zs : List Int} (hown : w.ownsRow B 3 1 v zs.length (ints zs)) : Reads w v zs := by
  rcases hown.2 with ⟨rfl, h0⟩ | ⟨g, cap, cur, rfl, hb, hg, hn, hm, hsz, htake⟩
  · obtain rfl := List.length_eq_zero_iff.1 h0
    exact .inl ⟨none, 0, rfl, rfl⟩
  · exact .inr ⟨g, 0, cap, rfl, hn, hm, (Array.getElem?_eq_some_iff.1 hg).1, owned_cells hg htake⟩
end Go.Proofs.Ytpgjaoemkadenaa.Seek

/- Worlds that grow; rows of numbers of the call's own. -/
set_option linter.unusedVariables false
set_option linter.unusedSimpArgs false
set_option maxRecDepth 100000
namespace Go.Proofs.Ytpgjaoemkadenaa.Seek
open Go.RowKit
/-- How long a text may be. -/
def Mild (zs : List Int) : Prop := zs.length * 8 ≤ 140737488351232
theorem size_alloc (w : World) (o : Obj) : (w.alloc o).heap.size = w.heap.size + 1 := by show (w.heap.push o).size = _; simp
theorem box_below (w : World) (o : Obj) : Below w.heap.size w (w.alloc o) := (Below.refl _ _).alloc (Nat.le_refl _) _
theorem heap_new (w : World) (o : Obj) : (w.alloc o).heap[w.heap.size]? = some o := by show (w.heap.push o)[w.heap.size]? = _; simp
theorem grown_refl (w : World) (row : Option Nat) : w.grownBy w row := ⟨rfl, rfl, rfl, Nat.le_refl _, fun _ _ _ => rfl⟩
/-- A row of numbers of the call's own. -/
def OwnI (w : World) (B : Nat) (v : Value) (zs : List Int) : Prop := w.ownsRow B 3 1 v zs.length (ints zs)
theorem OwnI.lt {w : World} {B : Nat} {v : Value} {zs : List Int} (h : OwnI w B v zs) : ∀ k, v.ownBlock = some k → B ≤ k ∧ k < w.heap.size := World.ownsRow.lt h
theorem OwnI.reads {w : World} {B : Nat} {v : Value} {zs : List Int} (h : OwnI w B v zs) : Reads w v zs := owned_reads h
theorem ownI_nil (w : World) (B : Nat) : OwnI w B (.slice none 0 0) [] := World.ownsRow_nil _ _ _ _
theorem OwnI.alloc {w : World} {B : Nat} {v : Value} {zs : List Int} (h : OwnI w B v zs) (o : Obj) : OwnI (w.alloc o) B v zs := World.ownsRow.alloc h o
theorem OwnI.less {w : World} {B B' : Nat} {v : Value} {zs : List Int} (h : OwnI w B v zs) (hb : B' ≤ B) : OwnI w B' v zs := owned_less h hb
theorem OwnI.below {w w' : World} {B : Nat} {v : Value} {zs : List Int} (h : OwnI w B v zs) (hb : Below w.heap.size w w') : OwnI w' B v zs := owned_below h hb
end Go.Proofs.Ytpgjaoemkadenaa.Seek

/- The contracts of word.inName, word.Kind and the document's Kind. -/
set_option linter.unusedVariables false
set_option linter.unusedSimpArgs false
set_option maxRecDepth 100000
namespace Go.Proofs.Ytpgjaoemkadenaa.Plain
/-- Whether it may stand in a name. -/
def name (c : Int) : Bool := decide ((97 ≤ c ∧ c ≤ 122) ∨ (65 ≤ c ∧ c ≤ 90) ∨ (48 ≤ c ∧ c ≤ 57) ∨ c = 95 ∨ 128 ≤ c)
/-- P19: the kind of a number. -/
def kind (c : Int) (b : Bool) : Int := if c = 32 ∨ c = 9 then 0 else if b = true then 1 else if name c = true then 1 else 2
theorem kind_blank {c : Int} {b : Bool} (h : c = 32 ∨ c = 9) : kind c b = 0 := by unfold kind; rw [if_pos h]
theorem kind_big {c : Int} (h : ¬ (c = 32 ∨ c = 9)) : kind c true = 1 := by unfold kind; rw [if_neg h, if_pos rfl]
theorem kind_small {c : Int} (h : ¬ (c = 32 ∨ c = 9)) : kind c false = if name c = true then 1 else 2 := by unfold kind; rw [if_neg h, if_neg (by decide)]
/-- A Blank is one, big or not. -/
theorem kind_zero (c : Int) (b b' : Bool) : kind c b = 0 ↔ kind c b' = 0 := by
  by_cases h : c = 32 ∨ c = 9
  · rw [kind_blank h, kind_blank h]
  · unfold kind
    rw [if_neg h, if_neg h]
    constructor <;> intro h' <;> exact absurd h' (by split <;> first | decide | (split <;> decide))
end Go.Proofs.Ytpgjaoemkadenaa.Plain
namespace Go.Proofs.Ytpgjaoemkadenaa.Seek
open Go.RowKit Plain

set_option maxHeartbeats 1000000 in
theorem name_go (c : Int) (w : World) : Calls Try.prog 80 #[.int .i64 c] w fun e w' => e = .returned (.bool (name c)) ∧ w' = w := by
  obtain ⟨n, hn⟩ : ∃ n, n = name c := ⟨_, rfl⟩
  have Hn : Hid (n = name c) := hn
  rw [← hn]
  clear hn
  go_enter Try.func80, Try.ntmps80
  go_wp2_with fail
  all_goals (
    go_ret
    refine ⟨?_, rfl⟩
    rw [Hn.out]
    show Ending.returned (Value.bool _) = _
    refine congrArg (fun b => Ending.returned (Value.bool b)) ?_
    unfold name
    rw [Bool.eq_iff_iff]
    simp only [Bool.or_eq_true, decide_eq_true_eq, beq_iff_eq]
    first | omega | (simp only [true_iff]; omega))

set_option maxHeartbeats 1000000 in
theorem kind_go (c : Int) (b : Bool) (w : World) : Calls Try.prog 67 #[.int .i64 c, .bool b] w fun e w' => e = .returned (.int .i64 (kind c b)) ∧ w' = w := by
  by_cases h : c = 32 ∨ c = 9
  · have Hk : Hid (kind c b = 0) := kind_blank h
    rcases h with rfl | rfl
    · go_enter Try.func67, Try.ntmps67
      go_wp2_with fail
      go_ret
      rw [Hk.out]
      exact ⟨rfl, rfl⟩
    · go_enter Try.func67, Try.ntmps67
      go_wp2_with fail
      go_ret
      rw [Hk.out]
      exact ⟨rfl, rfl⟩
  · have g1 : (c == 32) = false := by simp only [not_or] at h; simp [h]
    have g2 : (c == 9) = false := by simp only [not_or] at h; simp [h]
    cases b with
    | true =>
      have Hk : Hid (kind c true = 1) := kind_big h
      clear h
      go_enter Try.func67, Try.ntmps67
      go_wp2_with fail
      go_ret
      rw [Hk.out]
      exact ⟨rfl, rfl⟩
    | false =>
      have Hk : Hid (kind c false = if name c = true then 1 else 2) := kind_small h
      clear h
      go_enter Try.func67, Try.ntmps67
      go_wp2_with fail
      refine (name_go c w).mono ?_
      rintro e w1 ⟨rfl, hw1⟩
      rw [hw1]
      clear hw1 w1
      cases hn : name c with
      | true =>
        rw [hn] at Hk
        clear hn
        go_wp2_with fail
        go_ret
        rw [Hk.out]
        exact ⟨rfl, rfl⟩
      | false =>
        rw [hn] at Hk
        clear hn
        go_wp2_with fail
        go_ret
        rw [Hk.out]
        exact ⟨rfl, rfl⟩

end Go.Proofs.Ytpgjaoemkadenaa.Seek

/- Plain mathematics: the kinds along a line; where words begin and end; the first such place behind another, the last ahead of it. -/
set_option linter.unusedVariables false
set_option linter.unusedSimpArgs false
set_option maxRecDepth 100000
namespace Go.Proofs.Ytpgjaoemkadenaa.Plain
/-- The kind at a place; Blank beyond the end. -/
def knd (zs : List Int) (b : Bool) (i : Nat) : Int := if i < zs.length then kind (zs.getD i 0) b else 0
theorem knd_in {zs : List Int} {b : Bool} {i : Nat} (h : i < zs.length) : knd zs b i = kind (zs.getD i 0) b := if_pos h
theorem knd_out {zs : List Int} {b : Bool} {i : Nat} (h : zs.length ≤ i) : knd zs b i = 0 := if_neg (by omega)
/-- Does a word begin there (at a place but the first)? -/
def bgn (zs : List Int) (b : Bool) (i : Nat) : Bool := knd zs b i != 0 && knd zs b i != knd zs b (i - 1)
/-- Does a word end there? -/
def fin (zs : List Int) (b : Bool) (i : Nat) : Bool := knd zs b i != 0 && knd zs b i != knd zs b (i + 1)
/-- The first of so many places from i on at which p holds, else d. -/
def firstUp (p : Nat → Bool) (d : Int) : Nat → Nat → Int
  | 0, _ => d
  | n + 1, i => if p i = true then (i : Int) else firstUp p d n (i + 1)
/-- The first place from i on, ahead of n, at which p holds, else d. -/
def up (p : Nat → Bool) (d : Int) (n i : Nat) : Int := firstUp p d (n - i) i
/-- The last place ahead of i at which p holds, else 0. -/
def down (p : Nat → Bool) : Nat → Nat
  | 0 => 0
  | i + 1 => if p i = true then i else down p i
theorem up_done {p : Nat → Bool} {d : Int} {n i : Nat} (h : n ≤ i) : up p d n i = d := by
  unfold up
  rw [show n - i = 0 by omega]
  rfl
theorem up_hit {p : Nat → Bool} {d : Int} {n i : Nat} (h : i < n) (hp : p i = true) : up p d n i = (i : Int) := by
  unfold up
  rw [show n - i = (n - (i + 1)) + 1 by omega]
  unfold firstUp
  rw [if_pos hp]
theorem up_miss {p : Nat → Bool} {d : Int} {n i : Nat} (h : i < n) (hp : p i = false) : up p d n i = up p d n (i + 1) := by
  unfold up
  rw [show n - i = (n - (i + 1)) + 1 by omega]
  exact if_neg (by rw [hp]; decide)
theorem firstUp_spec (p : Nat → Bool) (d : Int) : ∀ (n i : Nat), (∃ j : Nat, firstUp p d n i = (j : Int) ∧ i ≤ j ∧ j < i + n ∧ p j = true ∧ ∀ x, i ≤ x → x < j → p x = false) ∨
    (firstUp p d n i = d ∧ ∀ x, i ≤ x → x < i + n → p x = false)
  | 0, i => .inr ⟨rfl, fun x h1 h2 => absurd h2 (by omega)⟩
  | n + 1, i => by
    unfold firstUp
    cases hp : p i with
    | true => exact .inl ⟨i, if_pos rfl, by omega, by omega, hp, fun x h1 h2 => absurd h2 (by omega)⟩
    | false =>
      rw [if_neg (by decide)]
      have step : ∀ x, i ≤ x → x = i ∨ i + 1 ≤ x := fun x h => by omega
      rcases firstUp_spec p d n (i + 1) with ⟨j, h1, h2, h3, h4, h5⟩ | ⟨h1, h2⟩
      · refine .inl ⟨j, h1, by omega, by omega, h4, fun x hx1 hx2 => ?_⟩
        rcases step x hx1 with rfl | h
        · exact hp
        · exact h5 x h hx2
      · refine .inr ⟨h1, fun x hx1 hx2 => ?_⟩
        rcases step x hx1 with rfl | h
        · exact hp
        · exact h2 x h (by omega)
theorem up_spec (p : Nat → Bool) (d : Int) (n i : Nat) : (∃ j : Nat, up p d n i = (j : Int) ∧ i ≤ j ∧ j < n ∧ p j = true ∧ ∀ x, i ≤ x → x < j → p x = false) ∨
    (up p d n i = d ∧ ∀ x, i ≤ x → x < n → p x = false) := by
  rcases firstUp_spec p d (n - i) i with ⟨j, h1, h2, h3, h4, h5⟩ | ⟨h1, h2⟩
  · exact .inl ⟨j, h1, h2, by omega, h4, h5⟩
  · exact .inr ⟨h1, fun x hx1 hx2 => h2 x hx1 (by omega)⟩
theorem down_hit {p : Nat → Bool} {i : Nat} (hp : p i = true) : down p (i + 1) = i := by
  show (if p i = true then i else down p i) = i
  rw [if_pos hp]
theorem down_miss {p : Nat → Bool} {i : Nat} (hp : p i = false) : down p (i + 1) = down p i := by
  show (if p i = true then i else down p i) = down p i
  rw [if_neg (by rw [hp]; decide)]
theorem down_small (p : Nat → Bool) : ∀ {i : Nat}, i ≤ 1 → down p i = 0
  | 0, _ => rfl
  | 1, _ => by
    show (if p 0 = true then 0 else down p 0) = 0
    split <;> rfl
  | i + 2, h => absurd h (by omega)
theorem down_spec (p : Nat → Bool) : ∀ i : Nat, (down p i < i ∧ p (down p i) = true ∧ ∀ x, down p i < x → x < i → p x = false) ∨ (down p i = 0 ∧ ∀ x, x < i → p x = false)
  | 0 => .inr ⟨rfl, fun x h => absurd h (by omega)⟩
  | i + 1 => by
    cases hp : p i with
    | true =>
      rw [down_hit hp]
      exact .inl ⟨by omega, hp, fun x h1 h2 => absurd h2 (by omega)⟩
    | false =>
      rw [down_miss hp]
      have step : ∀ x, x < i + 1 → x = i ∨ x < i := fun x h => by omega
      rcases down_spec p i with ⟨h1, h2, h3⟩ | ⟨h1, h2⟩
      · refine .inl ⟨by omega, h2, fun x hx1 hx2 => ?_⟩
        rcases step x hx2 with rfl | h
        · exact hp
        · exact h3 x hx1 h
      · refine .inr ⟨h1, fun x hx => ?_⟩
        rcases step x hx with rfl | h
        · exact hp
        · exact h2 x h
/-- Which error there is. -/
def chk (n : Nat) (k : Int) : Int := if 4096 < n then 2 else if k < 0 ∨ (n : Int) < k then 1 else 0
/-- P20, P21: the answers. -/
def next (zs : List Int) (k : Int) (b : Bool) : Int := if chk zs.length k = 0 then up (bgn zs b) zs.length zs.length (k.toNat + 1) else 0
def back (zs : List Int) (k : Int) (b : Bool) : Int := if chk zs.length k = 0 then (down (bgn zs b) k.toNat : Int) else 0
def last (zs : List Int) (k : Int) (b : Bool) : Int := if chk zs.length k = 0 then up (fin zs b) ((zs.length - 1 : Nat) : Int) zs.length (k.toNat + 1) else 0
theorem chk_zero {n : Nat} {k : Int} (h : chk n k = 0) : n ≤ 4096 ∧ ∃ j : Nat, k = (j : Int) ∧ j ≤ n := by
  unfold chk at h
  by_cases h1 : 4096 < n
  · rw [if_pos h1] at h
    exact absurd h (by decide)
  · rw [if_neg h1] at h
    by_cases h2 : k < 0 ∨ (n : Int) < k
    · rw [if_pos h2] at h
      exact absurd h (by decide)
    · exact ⟨by omega, k.toNat, by omega, by omega⟩
theorem chk_right {n j : Nat} (h1 : n ≤ 4096) (h2 : j ≤ n) : chk n (j : Int) = 0 := by
  unfold chk
  rw [if_neg (by omega), if_neg (by omega)]
theorem chk_cases (n : Nat) (k : Int) : chk n k = 0 ∨ chk n k = 1 ∨ chk n k = 2 := by
  unfold chk
  split
  · exact .inr (.inr rfl)
  · split
    · exact .inr (.inl rfl)
    · exact .inl rfl
end Go.Proofs.Ytpgjaoemkadenaa.Plain

/- The contract of dyck.Kind. -/
set_option linter.unusedVariables false
set_option linter.unusedSimpArgs false
set_option maxRecDepth 100000
namespace Go.Proofs.Ytpgjaoemkadenaa.Plain
/-- The bracket's partner. -/
def brk (c : Int) : Int := if c = 40 then 41 else if c = 91 then 93 else if c = 123 then 125 else if c = 41 then 40 else if c = 93 then 91 else if c = 125 then 123 else 0
/-- Whether it closes. -/
def shuts (c : Int) : Bool := c == 41 || c == 93 || c == 125
/-- Whether it opens. -/
def opens (c : Int) : Bool := c == 40 || c == 91 || c == 123
theorem shuts_cases {c : Int} (h : shuts c = true) : c = 41 ∨ c = 93 ∨ c = 125 := by
  unfold shuts at h
  simpa [or_assoc] using h
theorem opens_cases {c : Int} (h : opens c = true) : c = 40 ∨ c = 91 ∨ c = 123 := by
  unfold opens at h
  simpa [or_assoc] using h
theorem sort (c : Int) : (opens c = true ∧ shuts c = false ∧ brk c ≠ 0 ∧ shuts (brk c) = true ∧ brk (brk c) = c) ∨ (opens c = false ∧ shuts c = true ∧ brk c ≠ 0 ∧ opens (brk c) = true ∧ brk (brk c) = c) ∨ (opens c = false ∧ shuts c = false ∧ brk c = 0) := by
  by_cases h1 : opens c = true
  · left
    rcases opens_cases h1 with rfl | rfl | rfl <;> decide
  · by_cases h2 : shuts c = true
    · right
      left
      rcases shuts_cases h2 with rfl | rfl | rfl <;> decide
    · right
      right
      simp only [Bool.not_eq_true] at h1 h2
      refine ⟨h1, h2, ?_⟩
      unfold opens at h1
      unfold shuts at h2
      unfold brk
      simp only [Bool.or_eq_false_iff, beq_eq_false_iff_ne] at h1 h2
      simp [h1, h2]
end Go.Proofs.Ytpgjaoemkadenaa.Plain
namespace Go.Proofs.Ytpgjaoemkadenaa.Seek
open Go.RowKit Plain

theorem brk_go (c : Int) (w : World) : Calls Try.prog 83 #[.int .i64 c] w fun e w' => e = .returned (.tuple #[.int .i64 (brk c), .bool (shuts c)]) ∧ w' = w := by
  by_cases h : c = 40 ∨ c = 91 ∨ c = 123 ∨ c = 41 ∨ c = 93 ∨ c = 125
  · rcases h with rfl | rfl | rfl | rfl | rfl | rfl <;>
    · go_enter Try.func83, Try.ntmps83
      go_wp2_with fail
      go_ret2
      exact ⟨rfl, rfl⟩
  · have hk : brk c = 0 := by unfold brk; simp only [not_or] at h; simp [h]
    have hs : shuts c = false := by unfold shuts; simp only [not_or] at h; simp [h]
    have H : Hid (brk c = 0 ∧ shuts c = false) := ⟨hk, hs⟩
    clear hk hs
    simp only [not_or] at h
    obtain ⟨h1, h2, h3, h4, h5, h6⟩ := h
    have g1 : (c == 40) = false := by simpa using h1
    have g2 : (c == 91) = false := by simpa using h2
    have g3 : (c == 123) = false := by simpa using h3
    have g4 : (c == 41) = false := by simpa using h4
    have g5 : (c == 93) = false := by simpa using h5
    have g6 : (c == 125) = false := by simpa using h6
    go_enter Try.func83, Try.ntmps83
    go_wp2_with fail
    go_ret2
    rw [H.out.1, H.out.2]
    exact ⟨rfl, rfl⟩
end Go.Proofs.Ytpgjaoemkadenaa.Seek

/- Brackets, in plain mathematics: the places that wait, by brk; the partners. -/
set_option linter.unusedVariables false
set_option linter.unusedSimpArgs false
set_option maxRecDepth 100000
namespace Go.Proofs.Ytpgjaoemkadenaa.Plain

/-- The places that wait ahead of place k, brackets o alone; the last one first. -/
def stk (f : Nat → Int) (o : Int) : Nat → List Nat
  | 0 => []
  | k + 1 => if shuts (f k) = true ∧ brk (f k) = o then (stk f o k).tail else if opens (f k) = true ∧ f k = o then k :: stk f o k else stk f o k
/-- The first one of a list, or -1. -/
def top : List Nat → Int
  | [] => -1
  | p :: _ => (p : Int)
/-- What is told of place j when k places have been looked at. -/
def par (f : Nat → Int) : Nat → Nat → Int
  | 0, _ => 0
  | k + 1, j => if j = k then (if shuts (f k) = true then top (stk f (brk (f k)) k) else -1)
      else if shuts (f k) = true ∧ (stk f (brk (f k)) k).head? = some j then (k : Int) else par f k j

theorem stk_shut {f : Nat → Int} {o : Int} {k : Nat} (h : shuts (f k) = true) (ho : brk (f k) = o) : stk f o (k + 1) = (stk f o k).tail := by
  rw [stk, if_pos ⟨h, ho⟩]
theorem stk_open {f : Nat → Int} {o : Int} {k : Nat} (h : opens (f k) = true) (ho : f k = o) : stk f o (k + 1) = k :: stk f o k := by
  have h2 : ¬ (shuts (f k) = true ∧ brk (f k) = o) := by
    rintro ⟨h3, _⟩
    rcases sort (f k) with h4 | h4 | h4
    · rw [h4.2.1] at h3; cases h3
    · rw [h4.1] at h; cases h
    · rw [h4.1] at h; cases h
  rw [stk, if_neg h2, if_pos ⟨h, ho⟩]
theorem stk_other {f : Nat → Int} {o : Int} {k : Nat} (h1 : ¬ (shuts (f k) = true ∧ brk (f k) = o)) (h2 : ¬ (opens (f k) = true ∧ f k = o)) : stk f o (k + 1) = stk f o k := by
  rw [stk, if_neg h1, if_neg h2]

/-- What holds of the places that wait, and of what is told, when k places have been looked at. -/
structure Holds (f : Nat → Int) (k : Nat) : Prop where
  wait : ∀ o p, p ∈ stk f o k ↔ p < k ∧ f p = o ∧ opens o = true ∧ par f k p = -1
  down : ∀ o, (stk f o k).Pairwise (fun a b => b < a)
  told : ∀ j, j < k → par f k j = -1 ∨ ∃ i, i < k ∧ par f k j = (i : Int) ∧ par f k i = (j : Int) ∧ brk (f j) = f i ∧ ((shuts (f j) = true ∧ opens (f i) = true ∧ i < j) ∨ (opens (f j) = true ∧ shuts (f i) = true ∧ j < i))
  nest : ∀ i j a, i < j → j < k → opens (f i) = true → f i = f j → par f k i = (a : Nat) → j < a → ∃ b : Nat, par f k j = (b : Int) ∧ b < a

theorem par_same {f : Nat → Int} {k j : Nat} (hj : j ≠ k) (h : ¬ (shuts (f k) = true ∧ (stk f (brk (f k)) k).head? = some j)) : par f (k + 1) j = par f k j := by
  rw [par, if_neg hj, if_neg h]
theorem par_hit {f : Nat → Int} {k j : Nat} (hj : j ≠ k) (h : shuts (f k) = true) (h2 : (stk f (brk (f k)) k).head? = some j) : par f (k + 1) j = (k : Int) := by
  rw [par, if_neg hj, if_pos ⟨h, h2⟩]
theorem par_new {f : Nat → Int} {k : Nat} : par f (k + 1) k = if shuts (f k) = true then top (stk f (brk (f k)) k) else -1 := by
  rw [par, if_pos rfl]

theorem holds_zero (f : Nat → Int) : Holds f 0 := by
  refine ⟨?_, ?_, ?_, ?_⟩
  · intro o p
    simp [stk]
  · intro o
    simp [stk]
  · intro j hj
    omega
  · intro i j a _ hj
    omega

/-- One place more, where nothing is told of the places ahead of it. -/
theorem holds_quiet {f : Nat → Int} {k : Nat} (H : Holds f k) (hq : shuts (f k) = true → stk f (brk (f k)) k = []) : Holds f (k + 1) := by
  have hsame : ∀ j, j ≠ k → par f (k + 1) j = par f k j := by
    intro j hj
    refine par_same hj ?_
    rintro ⟨h1, h2⟩
    rw [hq h1] at h2
    cases h2
  have hnew : par f (k + 1) k = -1 := by
    rw [par_new]
    split
    · rename_i h
      rw [hq h]
      rfl
    · rfl
  have hst : ∀ o, stk f o (k + 1) = if opens (f k) = true ∧ f k = o then k :: stk f o k else stk f o k := by
    intro o
    rw [stk]
    split
    · rename_i h
      have h1 := hq h.1
      rw [h.2] at h1
      rw [h1]
      have h2 : ¬ (opens (f k) = true ∧ f k = o) := by
        rintro ⟨h3, _⟩
        rcases sort (f k) with h4 | h4 | h4
        · rw [h4.2.1] at h; cases h.1
        · rw [h4.1] at h3; cases h3
        · rw [h4.1] at h3; cases h3
      rw [if_neg h2]
      rfl
    · rfl
  refine ⟨?_, ?_, ?_, ?_⟩
  · intro o p
    rw [hst]
    split
    · rename_i h
      rw [List.mem_cons, H.wait]
      constructor
      · rintro (rfl | ⟨h1, h2, h3, h4⟩)
        · exact ⟨by omega, h.2, by rw [← h.2]; exact h.1, hnew⟩
        · exact ⟨by omega, h2, h3, by rw [hsame p (by omega)]; exact h4⟩
      · rintro ⟨h1, h2, h3, h4⟩
        by_cases hp : p = k
        · exact .inl hp
        · exact .inr ⟨by omega, h2, h3, by rw [← hsame p hp]; exact h4⟩
    · rename_i h
      rw [H.wait]
      constructor
      · rintro ⟨h1, h2, h3, h4⟩
        exact ⟨by omega, h2, h3, by rw [hsame p (by omega)]; exact h4⟩
      · rintro ⟨h1, h2, h3, h4⟩
        have hp : p ≠ k := by
          rintro rfl
          exact h ⟨by rw [h2]; exact h3, h2⟩
        exact ⟨by omega, h2, h3, by rw [← hsame p hp]; exact h4⟩
  · intro o
    rw [hst]
    split
    · refine List.Pairwise.cons ?_ (H.down o)
      intro p hp
      exact ((H.wait o p).1 hp).1
    · exact H.down o
  · intro j hj
    by_cases hjk : j = k
    · subst hjk
      exact .inl hnew
    · rcases H.told j (by omega) with h | ⟨i, h1, h2, h3, h4⟩
      · exact .inl (by rw [hsame j hjk]; exact h)
      · exact .inr ⟨i, by omega, by rw [hsame j hjk]; exact h2, by rw [hsame i (by omega)]; exact h3, h4⟩
  · intro i j a hij hj ho he ha hja
    rw [hsame i (by omega)] at ha
    by_cases hjk : j = k
    · subst hjk
      rcases H.told i hij with h | ⟨i2, h1, h2, _⟩
      · rw [h] at ha
        omega
      · rw [h2] at ha
        omega
    · rw [hsame j hjk]
      exact H.nest i j a hij (by omega) ho he ha hja

/-- One place more, where a bracket finds its partner. -/
theorem holds_pair {f : Nat → Int} {k p : Nat} {r : List Nat} (H : Holds f k) (hs : shuts (f k) = true) (hp : stk f (brk (f k)) k = p :: r) : Holds f (k + 1) := by
  have hpw := (H.wait (brk (f k)) p).1 (by rw [hp]; simp)
  obtain ⟨hpk, hfp, hop, hpp⟩ := hpw
  have hhit : par f (k + 1) p = (k : Int) := par_hit (by omega) hs (by rw [hp]; rfl)
  have hnew : par f (k + 1) k = (p : Int) := by
    rw [par_new, if_pos hs, hp]
    rfl
  have hsame : ∀ j, j ≠ k → j ≠ p → par f (k + 1) j = par f k j := by
    intro j hj hjp
    refine par_same hj ?_
    rintro ⟨_, h2⟩
    rw [hp] at h2
    exact hjp (Option.some.inj h2).symm
  have hno : opens (f k) = false := by
    rcases sort (f k) with h4 | h4 | h4
    · rw [h4.2.1] at hs; cases hs
    · exact h4.1
    · exact h4.1
  have hst : ∀ o, stk f o (k + 1) = if brk (f k) = o then r else stk f o k := by
    intro o
    by_cases ho : brk (f k) = o
    · rw [if_pos ho, stk_shut hs ho, ← ho, hp]
      rfl
    · rw [if_neg ho, stk_other (fun h => ho h.2) (fun h => by rw [hno] at h; cases h.1)]
  have hdown := H.down (brk (f k))
  rw [hp, List.pairwise_cons] at hdown
  refine ⟨?_, ?_, ?_, ?_⟩
  · intro o q
    rw [hst]
    split
    · rename_i ho
      subst ho
      have hq := H.wait (brk (f k)) q
      rw [hp, List.mem_cons] at hq
      constructor
      · intro hqr
        have hlt := hdown.1 q hqr
        obtain ⟨h1, h2, h3, h4⟩ := hq.1 (.inr hqr)
        exact ⟨by omega, h2, h3, by rw [hsame q (by omega) (by omega)]; exact h4⟩
      · rintro ⟨h1, h2, h3, h4⟩
        by_cases hqk : q = k
        · subst hqk
          rw [hnew] at h4
          omega
        · by_cases hqp : q = p
          · subst hqp
            rw [hhit] at h4
            omega
          · rw [hsame q hqk hqp] at h4
            exact (hq.2 ⟨by omega, h2, h3, h4⟩).resolve_left hqp
    · rename_i ho
      rw [H.wait]
      constructor
      · rintro ⟨h1, h2, h3, h4⟩
        have hqp : q ≠ p := by
          rintro rfl
          exact ho (hfp.symm.trans h2)
        exact ⟨by omega, h2, h3, by rw [hsame q (by omega) hqp]; exact h4⟩
      · rintro ⟨h1, h2, h3, h4⟩
        have hqp : q ≠ p := by
          rintro rfl
          exact ho (hfp.symm.trans h2)
        have hqk : q ≠ k := by
          rintro rfl
          rw [← h2, hno] at h3
          cases h3
        exact ⟨by omega, h2, h3, by rw [← hsame q hqk hqp]; exact h4⟩
  · intro o
    rw [hst]
    split
    · exact hdown.2
    · exact H.down o
  · intro j hj
    by_cases hjk : j = k
    · subst hjk
      exact .inr ⟨p, by omega, hnew, hhit, hfp.symm, .inl ⟨hs, by rw [hfp]; exact hop, hpk⟩⟩
    · by_cases hjp : j = p
      · subst hjp
        refine .inr ⟨k, by omega, hhit, hnew, ?_, .inr ⟨by rw [hfp]; exact hop, hs, hpk⟩⟩
        rw [hfp]
        rcases sort (f k) with h4 | h4 | h4
        · exact h4.2.2.2.2
        · exact h4.2.2.2.2
        · rw [h4.2.1] at hs; cases hs
      · rcases H.told j (by omega) with h | ⟨i, h1, h2, h3, h4⟩
        · exact .inl (by rw [hsame j hjk hjp]; exact h)
        · have hip : i ≠ p := by
            rintro rfl
            rw [hpp] at h3
            omega
          exact .inr ⟨i, by omega, by rw [hsame j hjk hjp]; exact h2, by rw [hsame i (by omega) hip]; exact h3, h4⟩
  · intro i j a hij hj ho he ha hja
    have hjk : j ≠ k := by
      rintro rfl
      rw [he, hno] at ho
      cases ho
    by_cases hip : i = p
    · subst hip
      rw [hhit] at ha
      have hak : a = k := by omega
      subst hak
      have hjp : j ≠ i := by omega
      rw [hsame j hjk hjp]
      rcases H.told j (by omega) with h | ⟨b, h1, h2, _⟩
      · have hjs := (H.wait (brk (f a)) j).2 ⟨by omega, by rw [← he]; exact hfp, hop, h⟩
        rw [hp, List.mem_cons] at hjs
        rcases hjs with h3 | h3
        · omega
        · have := hdown.1 j h3
          omega
      · exact ⟨b, h2, h1⟩
    · rw [hsame i (by omega) hip] at ha
      obtain ⟨b, hb, hba⟩ := H.nest i j a hij (by omega) ho he ha hja
      have hjp : j ≠ p := by
        rintro rfl
        rw [hpp] at hb
        omega
      exact ⟨b, by rw [hsame j hjk hjp]; exact hb, hba⟩

theorem holds (f : Nat → Int) : ∀ k, Holds f k
  | 0 => holds_zero f
  | k + 1 => by
    by_cases hs : shuts (f k) = true
    · cases hp : stk f (brk (f k)) k with
      | nil => exact holds_quiet (holds f k) (fun _ => hp)
      | cons p r => exact holds_pair (holds f k) hs hp
    · exact holds_quiet (holds f k) (fun h => absurd h hs)

/-- What is told of a place that closes stays. -/
theorem par_stays {f : Nat → Int} {j : Nat} (h : opens (f j) = false) : ∀ k, j < k → par f k j = if shuts (f j) = true then top (stk f (brk (f j)) j) else -1
  | 0, hk => by omega
  | k + 1, hk => by
    by_cases hjk : j = k
    · subst hjk
      exact par_new
    · rw [← par_stays h k (by omega)]
      refine par_same hjk ?_
      rintro ⟨h1, h2⟩
      have hm : j ∈ stk f (brk (f k)) k := List.mem_of_head? h2
      obtain ⟨_, h3, h4, _⟩ := ((holds f k).wait _ _).1 hm
      rw [← h3, h] at h4
      cases h4
/-- A partner that is found stays. -/
theorem par_keeps {f : Nat → Int} {j i m : Nat} (h : par f m j = (i : Int)) (hj : j < m) : ∀ k, m ≤ k → par f k j = (i : Int)
  | 0, hk => by omega
  | k + 1, hk => by
    by_cases hmk : m = k + 1
    · rw [← hmk]
      exact h
    · have ih := par_keeps h hj k (by omega)
      rw [← ih]
      refine par_same (by omega) ?_
      rintro ⟨h1, h2⟩
      have hm : j ∈ stk f (brk (f k)) k := List.mem_of_head? h2
      obtain ⟨_, _, _, h4⟩ := ((holds f k).wait _ _).1 hm
      rw [ih] at h4
      omega
end Go.Proofs.Ytpgjaoemkadenaa.Plain

/- A map from ints to slices of ints that the call has made, beside other work: what waits at a key, and the way back behind a store elsewhere. -/
set_option linter.unusedVariables false
set_option linter.unusedSimpArgs false
set_option maxRecDepth 100000
namespace Go.Proofs.Ytpgjaoemkadenaa.Seek
open Go.RowKit Go.Maps Plain Go.ChangeShapes
open Go.WideElems (Fit rd rg pl rd_val elemAt)

theorem groups_at_off {H : Type} {P : Program} {k : TypeId} {w : World} {base : Nat} {e : TypeId} {q : IntKind} {b n : Nat} {D : DataW H} {t E : TypeId} {key : Value} {kl : Lit}
    (h : w.ownsGroups P k base e q b n D) (K : Keyed P k) (ht : P.underlying t = some (.map k E)) (hz : (zeroValue E).run P w = .ok (.slice none 0 0) w) (hn : n < maxLen) (hkey : keyOf P k key = some kl) :
    ∃ v zs, (Instr.lookup t (.map (some b)) key false).run P w = .ok v w ∧ D.atKey kl .nil = rowDatum q v zs ∧ w.ownsInts base e q v zs ∧ zs.length ≤ n ∧
      ∀ w' g, w.grownBy w' (some g) → g ≠ b → g < base → w'.groupBack P t k base e q b n D key kl v := by
  obtain ⟨es, clock, hb, F, hs, rfl, hbb, hlen, hap⟩ := h
  have hblt : b < w.heap.size := (Array.getElem?_eq_some_iff.1 hb).1
  have off : ∀ (v : Value), (∀ x ∈ es.toList, x.key ≠ key → x.val.ownBlock = none ∨ x.val.ownBlock ≠ v.ownBlock) → v.ownBlock ≠ some b →
      ∀ w' g, w.grownBy w' (some g) → g ≠ b → g < base → w'.groupBack P t k base e q b n (.map ((es.toList.map (rg P k (rowElem (H := H) w base e q))).foldr DataW.insert [])) key kl v := by
    intro v hv hvb w' g hg hgb hgbase
    have hb' : w'.heap[b]? = some (.map es clock) := (hg.block b hblt (fun e1 => hgb (Option.some.inj e1).symm)).trans hb
    have hrow : ∀ (u : Value) (zs : List Int), w.ownsInts base e q u zs → u.ownBlock = none ∨ u.ownBlock ≠ some g := by
      intro u zs ho
      cases hu : u.ownBlock with
      | none => exact Or.inl rfl
      | some j =>
        refine Or.inr (fun e1 => ?_)
        have h1 := (ho.1.lt j hu).1
        have h2 := Option.some.inj e1
        omega
    have hst : ∀ x ∈ es.toList, ∀ z, rowElem (H := H) w base e q x.val = some z → rowElem w' base e q x.val = some z := fun x hx z hz => by
      obtain ⟨zs, ho, rfl⟩ := rowElem_inv hz
      exact rowElem_mk (ho.kept hg (hrow _ _ ho))
    obtain ⟨F1, hmap, _⟩ := F.stay hst
    have hlen' : ∀ x ∈ es.toList, ∀ zs, w'.ownsInts base e q x.val zs → zs.length ≤ n := fun x hx zs ho => by
      obtain ⟨y, hy⟩ := F.reads x hx
      obtain ⟨z, hz, _⟩ := rd_val hy
      obtain ⟨zs0, ho0, _⟩ := rowElem_inv hz
      rw [ho.unique (ho0.kept hg (hrow _ _ ho0))]
      exact hlen x hx zs0 ho0
    have hres := groups_back (H := H) (v := v) K ht hb' F1 hs hn hbb hlen' hap hkey hv hvb
    rw [hmap] at hres
    exact hres
  rcases Maps.fit_look false K ht hz hb F hkey with ⟨hrun, _, hat⟩ | ⟨e0, y, hm0, h3, hrun, hR, hat, _⟩
  · refine ⟨.slice none 0 0, [], hrun, hat _, World.ownsInts_nil _ _ _ _, Nat.zero_le _, off _ (fun x _ _ => ?_) (by simp [Value.ownBlock])⟩
    cases x.val.ownBlock <;> simp [Value.ownBlock]
  · obtain ⟨zs, ho, rfl⟩ := rowElem_inv hR
    refine ⟨e0.val, zs, hrun, hat _, ho, hlen e0 hm0 zs ho, off _ (fun x hx hne => hap x hx e0 hm0 (by rw [h3]; exact hne)) (fun e1 => ?_)⟩
    have := (ho.1.lt b e1).1
    omega
theorem groups_kept {H : Type} {P : Program} {k : TypeId} {w w' : World} {base : Nat} {e : TypeId} {q : IntKind} {b n : Nat} {D : DataW H} {g : Nat}
    (h : w.ownsGroups P k base e q b n D) (hg : w.grownBy w' (some g)) (hgb : g ≠ b) (hgbase : g < base) : w'.ownsGroups P k base e q b n D := by
  obtain ⟨es, clock, hb, F, hs, rfl, hbb, hlen, hap⟩ := h
  have hblt : b < w.heap.size := (Array.getElem?_eq_some_iff.1 hb).1
  have hrow : ∀ (u : Value) (zs : List Int), w.ownsInts base e q u zs → u.ownBlock = none ∨ u.ownBlock ≠ some g := by
    intro u zs ho
    cases hu : u.ownBlock with
    | none => exact Or.inl rfl
    | some j =>
      refine Or.inr (fun e1 => ?_)
      have h1 := (ho.1.lt j hu).1
      have h2 := Option.some.inj e1
      omega
  have hst : ∀ x ∈ es.toList, ∀ z, rowElem (H := H) w base e q x.val = some z → rowElem w' base e q x.val = some z := fun x hx z hz => by
    obtain ⟨zs, ho, rfl⟩ := rowElem_inv hz
    exact rowElem_mk (ho.kept hg (hrow _ _ ho))
  obtain ⟨F1, hmap, _⟩ := F.stay hst
  refine ⟨es, clock, (hg.block b hblt (fun e1 => hgb (Option.some.inj e1).symm)).trans hb, F1, hs, by rw [hmap], hbb, fun x hx zs ho => ?_, hap⟩
  obtain ⟨y, hy⟩ := F.reads x hx
  obtain ⟨z, hz, _⟩ := rd_val hy
  obtain ⟨zs0, ho0, _⟩ := rowElem_inv hz
  rw [ho.unique (ho0.kept hg (hrow _ _ ho0))]
  exact hlen x hx zs0 ho0

def nats (l : List Nat) : List Int := l.map fun (p : Nat) => (p : Int)
theorem nats_len (l : List Nat) : (nats l).length = l.length := List.length_map ..
/-- The map holds, at each key, the places that wait there. -/
def HoldsStk (S : Int → List Nat) (D : DataW Unit) : Prop :=
  IsMap D ∧ ∀ o : Int, (S o = [] ∧ D.atKey (.int .i64 o) .nil = .nil) ∨ D.atKey (.int .i64 o) .nil = .slice (lits .i64 (nats (S o).reverse)) []
theorem stk_none : HoldsStk (fun _ => []) (.map []) := ⟨⟨_, rfl⟩, fun o => .inl ⟨rfl, rfl⟩⟩
theorem lits_inj {a b : List Int} (h : (lits .i64 a : List (DataW Unit)) = lits .i64 b) : a = b := by
  unfold lits at h
  exact (List.map_inj_right (fun x y hxy => by cases hxy; rfl)).1 h
theorem stk_look {S : Int → List Nat} {D : DataW Unit} {w : World} {base : Nat} {v : Value} {zs : List Int} {o : Int} (h : HoldsStk S D) (hat : D.atKey (.int .i64 o) .nil = rowDatum .i64 v zs) (ho : w.ownsInts base 3 .i64 v zs) : zs = nats (S o).reverse := by
  rcases h.2 o with ⟨h1, h2⟩ | h2
  · rcases ho.datum (H := Unit) with ⟨_, h3⟩ | h3
    · rw [h1, h3]
      rfl
    · rw [h2, h3] at hat
      cases hat
  · rcases ho.datum (H := Unit) with ⟨h3, _⟩ | h3
    · rw [h2, h3] at hat
      cases hat
    · rw [h2, h3] at hat
      exact (lits_inj (DataW.slice.inj hat).1).symm
theorem stk_put {S S' : Int → List Nat} {D : DataW Unit} {w : World} {base : Nat} {v : Value} {zs : List Int} {o : Int} (h : HoldsStk S D) (ho : w.ownsInts base 3 .i64 v zs) (he : zs = nats (S' o).reverse) (hne : ∀ o', o' ≠ o → S' o' = S o') :
    HoldsStk S' (D.put (.int .i64 o) (rowDatum .i64 v zs)) := by
  refine ⟨h.1.put _ _, fun x => ?_⟩
  by_cases hx : x = o
  · subst hx
    rw [atKey_put_same h.1 (show WideAt.IsKeyLit (.int .i64 _) from trivial)]
    rcases ho.datum (H := Unit) with ⟨h3, h4⟩ | h3
    · left
      refine ⟨?_, h3⟩
      rw [h4] at he
      have h5 := congrArg List.length he
      rw [nats_len, List.length_reverse] at h5
      exact List.length_eq_zero_iff.1 h5.symm
    · right
      rw [h3, he]
  · rw [atKey_put_other (by simp; exact hx), hne x hx]
    exact h.2 x
theorem HoldsStk.of {S S' : Int → List Nat} {D : DataW Unit} (h : HoldsStk S D) (he : ∀ o, S' o = S o) : HoldsStk S' D := ⟨h.1, fun o => by rw [he o]; exact h.2 o⟩
theorem law3 : Keyed Try.prog 3 := int_keyed Try.underlying3
theorem zero22 (w : World) : (zeroValue 22).run Try.prog w = .ok (.slice none 0 0) w := by kernel_rfl
theorem int_wf (n : Int) (h : -9223372036854775808 ≤ n) (h2 : n ≤ 9223372036854775807) : (Lit.int .i64 n).wf = true := by
  have h1 : IntKind.i64.min = -9223372036854775808 := rfl
  have h2 : IntKind.i64.max = 9223372036854775807 := rfl
  simp only [Lit.wf, Bool.and_eq_true, decide_eq_true_eq]
  omega
theorem key_int (x : Int) (h : -9223372036854775808 ≤ x) (h2 : x ≤ 9223372036854775807) : keyOf Try.prog 3 (.int .i64 x) = some (.int .i64 x) := keyOf_int_mk Try.underlying3 (int_wf x h h2)
end Go.Proofs.Ytpgjaoemkadenaa.Seek
