/- Texts of one claim, one behind the other: Base, RNames, Brk, Stacks, Counts, Edits, Betw. -/
import Derived.Test.YtpgjaoemkadenabRows
import Derived.WalkKit
import Derived.BigQuiet
import Derived.Deep.QuietTactic
/- Slices of ints that can be read, or that are owned; how far a call's memory goes. -/
set_option linter.unusedVariables false
set_option linter.unusedSimpArgs false
set_option maxRecDepth 100000
namespace Go.Proofs.Ytpgjaoemkadenab.Seek
open Go.RowKit
theorem info3 : (Try.prog.info? 3).map (fun i => (i.zero, i.size, i.bytes)) = some (some (Value.int .i64 0), 1, 8) := by kernel_rfl

def ints (zs : List Int) : List Value := zs.map (Value.int .i64)
theorem ints_len (zs : List Int) : (ints zs).length = zs.length := List.length_map ..
/-- A list as a function of places. -/
def fn (zs : List Int) : Nat → Int := fun j => zs.getD j 0

/-- The slice v holds the numbers zs. -/
def Reads (w : World) (v : Value) (zs : List Int) : Prop :=
  (∃ a cap, v = .slice a 0 cap ∧ zs = []) ∨
  (∃ b off cap, v = .slice (some ⟨b, off, none⟩) zs.length cap ∧ zs.length ≤ cap ∧ cap ≤ maxLen ∧ b < w.heap.size ∧ ∀ j, j < zs.length → w.cell? ⟨b, off + j, none⟩ = some (.int .i64 (zs.getD j 0)))

theorem Reads.shape {w : World} {v : Value} {zs : List Int} (h : Reads w v zs) : ∃ a cap, v = .slice a zs.length cap := by
  rcases h with ⟨a, cap, hv, hz⟩ | ⟨b, off, cap, hv, _⟩
  · subst hz
    exact ⟨a, cap, hv⟩
  · exact ⟨_, cap, hv⟩
theorem Reads.below {w w' : World} {v : Value} {zs : List Int} (h : Reads w v zs) (hb : Below w.heap.size w w') : Reads w' v zs := by
  rcases h with h | ⟨b, off, cap, hv, hcap, hm, hlt, hc⟩
  · exact .inl h
  · exact .inr ⟨b, off, cap, hv, hcap, hm, Nat.lt_of_lt_of_le hlt hb.size, fun j hj => (hb.cell (by exact hlt)).trans (hc j hj)⟩
theorem Reads.drewN {w : World} {v : Value} {zs : List Int} (h : Reads w v zs) (q : Nat) : Reads (w.drewN q) v zs := h

theorem owned_below {w w' : World} {B : Nat} {v : Value} {n : Nat} {xs : List Value} (h : w.ownsRow B 3 1 v n xs) (hb : Below w.heap.size w w') : w'.ownsRow B 3 1 v n xs := by
  refine ⟨h.1, ?_⟩
  rcases h.2 with hn | ⟨g, cap, cur, hv, hB, hg, rest⟩
  · exact .inl hn
  · exact .inr ⟨g, cap, cur, hv, hB, (hb.block g (Array.getElem?_eq_some_iff.1 hg).1).trans hg, rest⟩
theorem owned_less {w : World} {B B' : Nat} {v : Value} {n : Nat} {xs : List Value} (h : w.ownsRow B 3 1 v n xs) (hb : B' ≤ B) : w.ownsRow B' 3 1 v n xs := by
  refine ⟨h.1, ?_⟩
  rcases h.2 with hn | ⟨g, cap, cur, hv, hB, rest⟩
  · exact .inl hn
  · exact .inr ⟨g, cap, cur, hv, by omega, rest⟩
theorem below_trans {w w1 w2 : World} {B : Nat} (h : Below B w w1) (h2 : Below w1.heap.size w1 w2) (hB : B ≤ w1.heap.size) : Below B w w2 := h.trans (h2.mono hB)
theorem below_drewN {w w1 : World} {B : Nat} (h : Below B w w1) (q : Nat) : Below B w (w1.drewN q) := ⟨h.os, h.tape, h.output, h.size, h.block⟩

/-- The cells of an owned slice. -/
theorem owned_cells {w : World} {g : Nat} {zs : List Int} {cur : Array Value} (hg : w.heap[g]? = some (.cells cur 3 (0, 0)))
    (htake : cur.toList.take (zs.length * 1) = ints zs) (j : Nat) (hj : j < zs.length) : w.cell? ⟨g, 0 + j, none⟩ = some (.int .i64 (zs.getD j 0)) := by
  rw [Nat.zero_add]
  unfold World.cell?
  simp only
  rw [hg]
  have h := congrArg (fun l : List Value => l[j]?) htake
  simp only [List.getElem?_take, Nat.mul_one, hj, if_true] at h
  rw [Array.getElem?_toList] at h
  simp only [h]
  unfold ints
  simp [hj]
theorem owned_reads {w : World} {B : Nat} {v : Value} {zs : List Int} (hown : w.ownsRow B 3 1 v zs.length (ints zs)) : Reads w v zs := by
  rcases hown.2 with ⟨rfl, h0⟩ | ⟨g, cap, cur, rfl, hb, hg, hn, hm, hsz, htake⟩
  · obtain rfl := List.length_eq_zero_iff.1 h0
    exact .inl ⟨none, 0, rfl, rfl⟩
  · exact .inr ⟨g, 0, cap, rfl, hn, hm, (Array.getElem?_eq_some_iff.1 hg).1, owned_cells hg htake⟩
end Go.Proofs.Ytpgjaoemkadenab.Seek

/- The contracts of reg.isSmall, isGreat, numberOf and of the document's register. -/
set_option linter.unusedVariables false
set_option linter.unusedSimpArgs false
set_option maxRecDepth 100000
namespace Go.Proofs.Ytpgjaoemkadenab.Seek
open Go.RowKit

/-- The name of register k; g: a great letter. -/
def Named (name : Int) (k : Nat) (g : Bool) : Prop := (name = 0 ∧ k = 0 ∧ g = false) ∨ (97 ≤ name ∧ name ≤ 122 ∧ name = (k : Int) + 96 ∧ g = false) ∨ (65 ≤ name ∧ name ≤ 90 ∧ name = (k : Int) + 64 ∧ g = true)
def NoName (name : Int) : Prop := name ≠ 0 ∧ (name < 97 ∨ 122 < name) ∧ (name < 65 ∨ 90 < name)
theorem Named.lt {name : Int} {k : Nat} {g : Bool} (h : Named name k g) : k < 27 := by unfold Named at h; omega
theorem named_or (name : Int) : NoName name ∨ ∃ k g, Named name k g := by
  unfold NoName Named
  by_cases h0 : name = 0
  · exact .inr ⟨0, false, .inl ⟨h0, rfl, rfl⟩⟩
  · by_cases h1 : 97 ≤ name ∧ name ≤ 122
    · exact .inr ⟨(name - 96).toNat, false, .inr (.inl ⟨h1.1, h1.2, by omega, rfl⟩)⟩
    · by_cases h2 : 65 ≤ name ∧ name ≤ 90
      · exact .inr ⟨(name - 64).toNat, true, .inr (.inr ⟨h2.1, h2.2, by omega, rfl⟩)⟩
      · exact .inl ⟨h0, by omega, by omega⟩
theorem Named.only {name : Int} {k k' : Nat} {g g' : Bool} (h : Named name k g) (h' : Named name k' g') : k = k' ∧ g = g' := by
  unfold Named at h h'
  rcases h with ⟨a, b, c⟩ | ⟨a, b, d, c⟩ | ⟨a, b, d, c⟩ <;> rcases h' with ⟨a', b', c'⟩ | ⟨a', b', d', c'⟩ | ⟨a', b', d', c'⟩ <;> first | (exfalso; omega) | exact ⟨by omega, by rw [c, c']⟩

theorem small_yes (x : Int) (w : World) (h1 : 97 ≤ x) (h2 : x ≤ 122) : Calls Try.prog 74 #[.int .i64 x] w fun e w' => e = .returned (.bool true) ∧ w' = w := by
  go_enter Try.func74, Try.ntmps74
  go_wp2_with fail
  all_goals first
    | (exfalso; omega)
    | (go_ret; exact ⟨by first | rfl | (simp; omega), rfl⟩)
theorem small_no (x : Int) (w : World) (h : x < 97 ∨ 122 < x) : Calls Try.prog 74 #[.int .i64 x] w fun e w' => e = .returned (.bool false) ∧ w' = w := by
  by_cases h1 : 97 ≤ x
  all_goals
    go_enter Try.func74, Try.ntmps74
    go_wp2_with fail
    all_goals first
      | (exfalso; omega)
      | (go_ret; exact ⟨by first | rfl | (simp; omega), rfl⟩)
theorem great_yes (x : Int) (w : World) (h1 : 65 ≤ x) (h2 : x ≤ 90) : Calls Try.prog 62 #[.int .i64 x] w fun e w' => e = .returned (.bool true) ∧ w' = w := by
  go_enter Try.func62, Try.ntmps62
  go_wp2_with fail
  all_goals first
    | (exfalso; omega)
    | (go_ret; exact ⟨by first | rfl | (simp; omega), rfl⟩)
theorem great_no (x : Int) (w : World) (h : x < 65 ∨ 90 < x) : Calls Try.prog 62 #[.int .i64 x] w fun e w' => e = .returned (.bool false) ∧ w' = w := by
  by_cases h1 : 65 ≤ x
  all_goals
    go_enter Try.func62, Try.ntmps62
    go_wp2_with fail
    all_goals first
      | (exfalso; omega)
      | (go_ret; exact ⟨by first | rfl | (simp; omega), rfl⟩)
theorem great_named (name : Int) (k : Nat) (g : Bool) (w : World) (h : Named name k g) : Calls Try.prog 62 #[.int .i64 name] w fun e w' => e = .returned (.bool g) ∧ w' = w := by
  rcases h with ⟨a, b, rfl⟩ | ⟨a, b, d, rfl⟩ | ⟨a, b, d, rfl⟩
  · exact great_no _ _ (by omega)
  · exact great_no _ _ (by omega)
  · exact great_yes _ _ a b

theorem number_none (name : Int) (w : World) (h : NoName name) : Calls Try.prog 61 #[.int .i64 name] w fun e w' => e = .returned (.tuple #[.int .i64 0, .bool false]) ∧ w' = w := by
  obtain ⟨h0, h1, h2⟩ := h
  have H1 : Hid (name < 97 ∨ 122 < name) := h1
  have H2 : Hid (name < 65 ∨ 90 < name) := h2
  clear h1 h2
  go_enter Try.func61, Try.ntmps61
  go_wp2_with fail
  refine (small_no _ _ H1.out).mono ?_
  rintro e w' ⟨rfl, rfl⟩
  go_wp2_with fail
  refine (great_no _ _ H2.out).mono ?_
  rintro e w' ⟨rfl, rfl⟩
  go_wp2_with fail
  go_ret2
  exact ⟨rfl, rfl⟩
theorem number_named (name : Int) (k : Nat) (g : Bool) (w : World) (h : Named name k g) : Calls Try.prog 61 #[.int .i64 name] w fun e w' => e = .returned (.tuple #[.int .i64 (k : Int), .bool true]) ∧ w' = w := by
  rcases h with ⟨rfl, rfl, rfl⟩ | ⟨a, b, d, rfl⟩ | ⟨a, b, d, rfl⟩
  · go_enter Try.func61, Try.ntmps61
    go_wp2_with fail
    go_ret2
    exact ⟨rfl, rfl⟩
  · have h0 : name ≠ 0 := by omega
    have hk : name - 97 + 1 = (k : Int) := by omega
    have HK : Hid (name - 97 + 1 = (k : Int)) := hk
    clear d hk
    go_enter Try.func61, Try.ntmps61
    go_wp2_with fail
    refine (small_yes _ _ a b).mono ?_
    rintro e w' ⟨rfl, rfl⟩
    go_wp2_with fail
    go_ret2
    exact ⟨by rw [← HK.out]; rfl, rfl⟩
  · have h0 : name ≠ 0 := by omega
    have hk : name - 65 + 1 = (k : Int) := by omega
    have HK : Hid (name - 65 + 1 = (k : Int)) := hk
    have HS : Hid (name < 97 ∨ 122 < name) := by show _ ∨ _; omega
    clear d hk
    go_enter Try.func61, Try.ntmps61
    go_wp2_with fail
    refine (small_no _ _ HS.out).mono ?_
    rintro e w' ⟨rfl, rfl⟩
    go_wp2_with fail
    refine (great_yes _ _ a b).mono ?_
    rintro e w' ⟨rfl, rfl⟩
    go_wp2_with fail
    go_ret2
    exact ⟨by rw [← HK.out]; rfl, rfl⟩
end Go.Proofs.Ytpgjaoemkadenab.Seek

/- The contract of dyck.Kind. -/
set_option linter.unusedVariables false
set_option linter.unusedSimpArgs false
set_option maxRecDepth 100000
namespace Go.Proofs.Ytpgjaoemkadenab.Plain
/-- The bracket's partner. -/
def brk (c : Int) : Int := if c = 40 then 41 else if c = 91 then 93 else if c = 123 then 125 else if c = 41 then 40 else if c = 93 then 91 else if c = 125 then 123 else 0
/-- Whether it closes. -/
def shuts (c : Int) : Bool := c == 41 || c == 93 || c == 125
/-- Whether it opens. -/
def opens (c : Int) : Bool := c == 40 || c == 91 || c == 123
theorem shuts_cases {c : Int} (h : shuts c = true) : c = 41 ∨ c = 93 ∨ c = 125 := by
  unfold shuts at h
  simpa [or_assoc] using h
theorem opens_cases {c : Int} (h : opens c = true) : c = 40 ∨ c = 91 ∨ c = 123 := by
  unfold opens at h
  simpa [or_assoc] using h
theorem sort (c : Int) : (opens c = true ∧ shuts c = false ∧ brk c ≠ 0 ∧ shuts (brk c) = true ∧ brk (brk c) = c) ∨ (opens c = false ∧ shuts c = true ∧ brk c ≠ 0 ∧ opens (brk c) = true ∧ brk (brk c) = c) ∨ (opens c = false ∧ shuts c = false ∧ brk c = 0) := by
  by_cases h1 : opens c = true
  · left
    rcases opens_cases h1 with rfl | rfl | rfl <;> decide
  · by_cases h2 : shuts c = true
    · right
      left
      rcases shuts_cases h2 with rfl | rfl | rfl <;> decide
    · right
      right
      simp only [Bool.not_eq_true] at h1 h2
      refine ⟨h1, h2, ?_⟩
      unfold opens at h1
      unfold shuts at h2
      unfold brk
      simp only [Bool.or_eq_false_iff, beq_eq_false_iff_ne] at h1 h2
      simp [h1, h2]
end Go.Proofs.Ytpgjaoemkadenab.Plain
namespace Go.Proofs.Ytpgjaoemkadenab.Seek
open Go.RowKit Plain

theorem brk_go (c : Int) (w : World) : Calls Try.prog 83 #[.int .i64 c] w fun e w' => e = .returned (.tuple #[.int .i64 (brk c), .bool (shuts c)]) ∧ w' = w := by
  by_cases h : c = 40 ∨ c = 91 ∨ c = 123 ∨ c = 41 ∨ c = 93 ∨ c = 125
  · rcases h with rfl | rfl | rfl | rfl | rfl | rfl <;>
    · go_enter Try.func83, Try.ntmps83
      go_wp2_with fail
      go_ret2
      exact ⟨rfl, rfl⟩
  · have hk : brk c = 0 := by unfold brk; simp only [not_or] at h; simp [h]
    have hs : shuts c = false := by unfold shuts; simp only [not_or] at h; simp [h]
    have H : Hid (brk c = 0 ∧ shuts c = false) := ⟨hk, hs⟩
    clear hk hs
    simp only [not_or] at h
    obtain ⟨h1, h2, h3, h4, h5, h6⟩ := h
    have g1 : (c == 40) = false := by simpa using h1
    have g2 : (c == 91) = false := by simpa using h2
    have g3 : (c == 123) = false := by simpa using h3
    have g4 : (c == 41) = false := by simpa using h4
    have g5 : (c == 93) = false := by simpa using h5
    have g6 : (c == 125) = false := by simpa using h6
    go_enter Try.func83, Try.ntmps83
    go_wp2_with fail
    go_ret2
    rw [H.out.1, H.out.2]
    exact ⟨rfl, rfl⟩
end Go.Proofs.Ytpgjaoemkadenab.Seek

/- Brackets, in plain mathematics: the places that wait, by brk; the partners. -/
set_option linter.unusedVariables false
set_option linter.unusedSimpArgs false
set_option maxRecDepth 100000
namespace Go.Proofs.Ytpgjaoemkadenab.Plain

/-- The places that wait ahead of place k, brackets o alone; the last one first. -/
def stk (f : Nat → Int) (o : Int) : Nat → List Nat
  | 0 => []
  | k + 1 => if shuts (f k) = true ∧ brk (f k) = o then (stk f o k).tail else if opens (f k) = true ∧ f k = o then k :: stk f o k else stk f o k
/-- The first one of a list, or -1. -/
def top : List Nat → Int
  | [] => -1
  | p :: _ => (p : Int)
/-- What is told of place j when k places have been looked at. -/
def par (f : Nat → Int) : Nat → Nat → Int
  | 0, _ => 0
  | k + 1, j => if j = k then (if shuts (f k) = true then top (stk f (brk (f k)) k) else -1)
      else if shuts (f k) = true ∧ (stk f (brk (f k)) k).head? = some j then (k : Int) else par f k j

theorem stk_shut {f : Nat → Int} {o : Int} {k : Nat} (h : shuts (f k) = true) (ho : brk (f k) = o) : stk f o (k + 1) = (stk f o k).tail := by
  rw [stk, if_pos ⟨h, ho⟩]
theorem stk_open {f : Nat → Int} {o : Int} {k : Nat} (h : opens (f k) = true) (ho : f k = o) : stk f o (k + 1) = k :: stk f o k := by
  have h2 : ¬ (shuts (f k) = true ∧ brk (f k) = o) := by
    rintro ⟨h3, _⟩
    rcases sort (f k) with h4 | h4 | h4
    · rw [h4.2.1] at h3; cases h3
    · rw [h4.1] at h; cases h
    · rw [h4.1] at h; cases h
  rw [stk, if_neg h2, if_pos ⟨h, ho⟩]
theorem stk_other {f : Nat → Int} {o : Int} {k : Nat} (h1 : ¬ (shuts (f k) = true ∧ brk (f k) = o)) (h2 : ¬ (opens (f k) = true ∧ f k = o)) : stk f o (k + 1) = stk f o k := by
  rw [stk, if_neg h1, if_neg h2]

/-- What holds of the places that wait, and of what is told, when k places have been looked at. -/
structure Holds (f : Nat → Int) (k : Nat) : Prop where
  wait : ∀ o p, p ∈ stk f o k ↔ p < k ∧ f p = o ∧ opens o = true ∧ par f k p = -1
  down : ∀ o, (stk f o k).Pairwise (fun a b => b < a)
  told : ∀ j, j < k → par f k j = -1 ∨ ∃ i, i < k ∧ par f k j = (i : Int) ∧ par f k i = (j : Int) ∧ brk (f j) = f i ∧ ((shuts (f j) = true ∧ opens (f i) = true ∧ i < j) ∨ (opens (f j) = true ∧ shuts (f i) = true ∧ j < i))
  nest : ∀ i j a, i < j → j < k → opens (f i) = true → f i = f j → par f k i = (a : Nat) → j < a → ∃ b : Nat, par f k j = (b : Int) ∧ b < a

theorem par_same {f : Nat → Int} {k j : Nat} (hj : j ≠ k) (h : ¬ (shuts (f k) = true ∧ (stk f (brk (f k)) k).head? = some j)) : par f (k + 1) j = par f k j := by
  rw [par, if_neg hj, if_neg h]
theorem par_hit {f : Nat → Int} {k j : Nat} (hj : j ≠ k) (h : shuts (f k) = true) (h2 : (stk f (brk (f k)) k).head? = some j) : par f (k + 1) j = (k : Int) := by
  rw [par, if_neg hj, if_pos ⟨h, h2⟩]
theorem par_new {f : Nat → Int} {k : Nat} : par f (k + 1) k = if shuts (f k) = true then top (stk f (brk (f k)) k) else -1 := by
  rw [par, if_pos rfl]

theorem holds_zero (f : Nat → Int) : Holds f 0 := by
  refine ⟨?_, ?_, ?_, ?_⟩
  · intro o p
    simp [stk]
  · intro o
    simp [stk]
  · intro j hj
    omega
  · intro i j a _ hj
    omega

/-- One place more, where nothing is told of the places ahead of it. -/
theorem holds_quiet {f : Nat → Int} {k : Nat} (H : Holds f k) (hq : shuts (f k) = true → stk f (brk (f k)) k = []) : Holds f (k + 1) := by
  have hsame : ∀ j, j ≠ k → par f (k + 1) j = par f k j := by
    intro j hj
    refine par_same hj ?_
    rintro ⟨h1, h2⟩
    rw [hq h1] at h2
    cases h2
  have hnew : par f (k + 1) k = -1 := by
    rw [par_new]
    split
    · rename_i h
      rw [hq h]
      rfl
    · rfl
  have hst : ∀ o, stk f o (k + 1) = if opens (f k) = true ∧ f k = o then k :: stk f o k else stk f o k := by
    intro o
    rw [stk]
    split
    · rename_i h
      have h1 := hq h.1
      rw [h.2] at h1
      rw [h1]
      have h2 : ¬ (opens (f k) = true ∧ f k = o) := by
        rintro ⟨h3, _⟩
        rcases sort (f k) with h4 | h4 | h4
        · rw [h4.2.1] at h; cases h.1
        · rw [h4.1] at h3; cases h3
        · rw [h4.1] at h3; cases h3
      rw [if_neg h2]
      rfl
    · rfl
  refine ⟨?_, ?_, ?_, ?_⟩
  · intro o p
    rw [hst]
    split
    · rename_i h
      rw [List.mem_cons, H.wait]
      constructor
      · rintro (rfl | ⟨h1, h2, h3, h4⟩)
        · exact ⟨by omega, h.2, by rw [← h.2]; exact h.1, hnew⟩
        · exact ⟨by omega, h2, h3, by rw [hsame p (by omega)]; exact h4⟩
      · rintro ⟨h1, h2, h3, h4⟩
        by_cases hp : p = k
        · exact .inl hp
        · exact .inr ⟨by omega, h2, h3, by rw [← hsame p hp]; exact h4⟩
    · rename_i h
      rw [H.wait]
      constructor
      · rintro ⟨h1, h2, h3, h4⟩
        exact ⟨by omega, h2, h3, by rw [hsame p (by omega)]; exact h4⟩
      · rintro ⟨h1, h2, h3, h4⟩
        have hp : p ≠ k := by
          rintro rfl
          exact h ⟨by rw [h2]; exact h3, h2⟩
        exact ⟨by omega, h2, h3, by rw [← hsame p hp]; exact h4⟩
  · intro o
    rw [hst]
    split
    · refine List.Pairwise.cons ?_ (H.down o)
      intro p hp
      exact ((H.wait o p).1 hp).1
    · exact H.down o
  · intro j hj
    by_cases hjk : j = k
    · subst hjk
      exact .inl hnew
    · rcases H.told j (by omega) with h | ⟨i, h1, h2, h3, h4⟩
      · exact .inl (by rw [hsame j hjk]; exact h)
      · exact .inr ⟨i, by omega, by rw [hsame j hjk]; exact h2, by rw [hsame i (by omega)]; exact h3, h4⟩
  · intro i j a hij hj ho he ha hja
    rw [hsame i (by omega)] at ha
    by_cases hjk : j = k
    · subst hjk
      rcases H.told i hij with h | ⟨i2, h1, h2, _⟩
      · rw [h] at ha
        omega
      · rw [h2] at ha
        omega
    · rw [hsame j hjk]
      exact H.nest i j a hij (by omega) ho he ha hja

/-- One place more, where a bracket finds its partner. -/
theorem holds_pair {f : Nat → Int} {k p : Nat} {r : List Nat} (H : Holds f k) (hs : shuts (f k) = true) (hp : stk f (brk (f k)) k = p :: r) : Holds f (k + 1) := by
  have hpw := (H.wait (brk (f k)) p).1 (by rw [hp]; simp)
  obtain ⟨hpk, hfp, hop, hpp⟩ := hpw
  have hhit : par f (k + 1) p = (k : Int) := par_hit (by omega) hs (by rw [hp]; rfl)
  have hnew : par f (k + 1) k = (p : Int) := by
    rw [par_new, if_pos hs, hp]
    rfl
  have hsame : ∀ j, j ≠ k → j ≠ p → par f (k + 1) j = par f k j := by
    intro j hj hjp
    refine par_same hj ?_
    rintro ⟨_, h2⟩
    rw [hp] at h2
    exact hjp (Option.some.inj h2).symm
  have hno : opens (f k) = false := by
    rcases sort (f k) with h4 | h4 | h4
    · rw [h4.2.1] at hs; cases hs
    · exact h4.1
    · exact h4.1
  have hst : ∀ o, stk f o (k + 1) = if brk (f k) = o then r else stk f o k := by
    intro o
    by_cases ho : brk (f k) = o
    · rw [if_pos ho, stk_shut hs ho, ← ho, hp]
      rfl
    · rw [if_neg ho, stk_other (fun h => ho h.2) (fun h => by rw [hno] at h; cases h.1)]
  have hdown := H.down (brk (f k))
  rw [hp, List.pairwise_cons] at hdown
  refine ⟨?_, ?_, ?_, ?_⟩
  · intro o q
    rw [hst]
    split
    · rename_i ho
      subst ho
      have hq := H.wait (brk (f k)) q
      rw [hp, List.mem_cons] at hq
      constructor
      · intro hqr
        have hlt := hdown.1 q hqr
        obtain ⟨h1, h2, h3, h4⟩ := hq.1 (.inr hqr)
        exact ⟨by omega, h2, h3, by rw [hsame q (by omega) (by omega)]; exact h4⟩
      · rintro ⟨h1, h2, h3, h4⟩
        by_cases hqk : q = k
        · subst hqk
          rw [hnew] at h4
          omega
        · by_cases hqp : q = p
          · subst hqp
            rw [hhit] at h4
            omega
          · rw [hsame q hqk hqp] at h4
            exact (hq.2 ⟨by omega, h2, h3, h4⟩).resolve_left hqp
    · rename_i ho
      rw [H.wait]
      constructor
      · rintro ⟨h1, h2, h3, h4⟩
        have hqp : q ≠ p := by
          rintro rfl
          exact ho (hfp.symm.trans h2)
        exact ⟨by omega, h2, h3, by rw [hsame q (by omega) hqp]; exact h4⟩
      · rintro ⟨h1, h2, h3, h4⟩
        have hqp : q ≠ p := by
          rintro rfl
          exact ho (hfp.symm.trans h2)
        have hqk : q ≠ k := by
          rintro rfl
          rw [← h2, hno] at h3
          cases h3
        exact ⟨by omega, h2, h3, by rw [← hsame q hqk hqp]; exact h4⟩
  · intro o
    rw [hst]
    split
    · exact hdown.2
    · exact H.down o
  · intro j hj
    by_cases hjk : j = k
    · subst hjk
      exact .inr ⟨p, by omega, hnew, hhit, hfp.symm, .inl ⟨hs, by rw [hfp]; exact hop, hpk⟩⟩
    · by_cases hjp : j = p
      · subst hjp
        refine .inr ⟨k, by omega, hhit, hnew, ?_, .inr ⟨by rw [hfp]; exact hop, hs, hpk⟩⟩
        rw [hfp]
        rcases sort (f k) with h4 | h4 | h4
        · exact h4.2.2.2.2
        · exact h4.2.2.2.2
        · rw [h4.2.1] at hs; cases hs
      · rcases H.told j (by omega) with h | ⟨i, h1, h2, h3, h4⟩
        · exact .inl (by rw [hsame j hjk hjp]; exact h)
        · have hip : i ≠ p := by
            rintro rfl
            rw [hpp] at h3
            omega
          exact .inr ⟨i, by omega, by rw [hsame j hjk hjp]; exact h2, by rw [hsame i (by omega) hip]; exact h3, h4⟩
  · intro i j a hij hj ho he ha hja
    have hjk : j ≠ k := by
      rintro rfl
      rw [he, hno] at ho
      cases ho
    by_cases hip : i = p
    · subst hip
      rw [hhit] at ha
      have hak : a = k := by omega
      subst hak
      have hjp : j ≠ i := by omega
      rw [hsame j hjk hjp]
      rcases H.told j (by omega) with h | ⟨b, h1, h2, _⟩
      · have hjs := (H.wait (brk (f a)) j).2 ⟨by omega, by rw [← he]; exact hfp, hop, h⟩
        rw [hp, List.mem_cons] at hjs
        rcases hjs with h3 | h3
        · omega
        · have := hdown.1 j h3
          omega
      · exact ⟨b, h2, h1⟩
    · rw [hsame i (by omega) hip] at ha
      obtain ⟨b, hb, hba⟩ := H.nest i j a hij (by omega) ho he ha hja
      have hjp : j ≠ p := by
        rintro rfl
        rw [hpp] at hb
        omega
      exact ⟨b, by rw [hsame j hjk hjp]; exact hb, hba⟩

theorem holds (f : Nat → Int) : ∀ k, Holds f k
  | 0 => holds_zero f
  | k + 1 => by
    by_cases hs : shuts (f k) = true
    · cases hp : stk f (brk (f k)) k with
      | nil => exact holds_quiet (holds f k) (fun _ => hp)
      | cons p r => exact holds_pair (holds f k) hs hp
    · exact holds_quiet (holds f k) (fun h => absurd h hs)

/-- What is told of a place that closes stays. -/
theorem par_stays {f : Nat → Int} {j : Nat} (h : opens (f j) = false) : ∀ k, j < k → par f k j = if shuts (f j) = true then top (stk f (brk (f j)) j) else -1
  | 0, hk => by omega
  | k + 1, hk => by
    by_cases hjk : j = k
    · subst hjk
      exact par_new
    · rw [← par_stays h k (by omega)]
      refine par_same hjk ?_
      rintro ⟨h1, h2⟩
      have hm : j ∈ stk f (brk (f k)) k := List.mem_of_head? h2
      obtain ⟨_, h3, h4, _⟩ := ((holds f k).wait _ _).1 hm
      rw [← h3, h] at h4
      cases h4
/-- A partner that is found stays. -/
theorem par_keeps {f : Nat → Int} {j i m : Nat} (h : par f m j = (i : Int)) (hj : j < m) : ∀ k, m ≤ k → par f k j = (i : Int)
  | 0, hk => by omega
  | k + 1, hk => by
    by_cases hmk : m = k + 1
    · rw [← hmk]
      exact h
    · have ih := par_keeps h hj k (by omega)
      rw [← ih]
      refine par_same (by omega) ?_
      rintro ⟨h1, h2⟩
      have hm : j ∈ stk f (brk (f k)) k := List.mem_of_head? h2
      obtain ⟨_, _, _, h4⟩ := ((holds f k).wait _ _).1 hm
      rw [ih] at h4
      omega
end Go.Proofs.Ytpgjaoemkadenab.Plain

/- A bracket's partner, by counting, in plain mathematics. -/
set_option linter.unusedVariables false
set_option linter.unusedSimpArgs false
set_option maxRecDepth 100000
namespace Go.Proofs.Ytpgjaoemkadenab.Plain

theorem not_both {c : Int} (h : opens c = true) : shuts c = false := by
  rcases sort c with h4 | h4 | h4
  · exact h4.2.1
  · rw [h4.1] at h; cases h
  · rw [h4.1] at h; cases h
theorem not_both2 {c : Int} (h : shuts c = true) : opens c = false := by
  rcases sort c with h4 | h4 | h4
  · rw [h4.2.1] at h; cases h
  · exact h4.1
  · exact h4.1
theorem shuts_kind {o : Int} (h : opens o = true) : shuts (brk o) = true ∧ brk (brk o) = o := by
  rcases sort o with h4 | h4 | h4
  · exact h4.2.2.2
  · rw [h4.1] at h; cases h
  · rw [h4.1] at h; cases h
theorem opens_kind {s : Int} (h : shuts s = true) : opens (brk s) = true ∧ brk (brk s) = s := by
  rcases sort s with h4 | h4 | h4
  · rw [h4.2.1] at h; cases h
  · exact h4.2.2.2
  · rw [h4.2.1] at h; cases h
/-- Which bracket closes this brk. -/
theorem shuts_of {c o : Int} (h : opens o = true) (hs : shuts c = true) (hk : brk c = o) : c = brk o := by
  rw [← hk]
  exact (opens_kind hs).2.symm
theorem stk_at_shut {f : Nat → Int} {o : Int} {m : Nat} (ho : opens o = true) (h : f m = brk o) : stk f o (m + 1) = (stk f o m).tail := by
  have h2 := shuts_kind ho
  exact stk_shut (by rw [h]; exact h2.1) (by rw [h]; exact h2.2)
theorem stk_at_other {f : Nat → Int} {o : Int} {m : Nat} (ho : opens o = true) (h1 : f m ≠ o) (h2 : f m ≠ brk o) : stk f o (m + 1) = stk f o m :=
  stk_other (fun h => h2 (shuts_of ho h.1 h.2)) (fun h => h1 h.2)
theorem drop_tail {α : Type} (l : List α) (d : Nat) : l.tail.drop d = l.drop (d + 1) := by
  cases l with
  | nil => simp
  | cons a l => rfl

/-- Going on from an opening bracket at place k: ahead of place m so many are open, its own one among them. -/
def Fw (f : Nat → Int) (k m d : Nat) : Prop := (m = k ∧ d = 0) ∨ (k < m ∧ 1 ≤ d ∧ ((stk f (f k) m).drop (d - 1)).head? = some k)
theorem fw_open {f : Nat → Int} {k m d : Nat} (ho : opens (f k) = true) (h : Fw f k m d) (hm : f m = f k) : Fw f k (m + 1) (d + 1) := by
  have hst : stk f (f k) (m + 1) = m :: stk f (f k) m := stk_open (by rw [hm]; exact ho) hm
  rcases h with ⟨rfl, rfl⟩ | ⟨h1, h2, h3⟩
  · refine .inr ⟨by omega, by omega, ?_⟩
    rw [hst]
    rfl
  · refine .inr ⟨by omega, by omega, ?_⟩
    rw [hst]
    obtain ⟨d', rfl⟩ : ∃ d', d = d' + 1 := ⟨d - 1, by omega⟩
    exact h3
theorem fw_shut {f : Nat → Int} {k m d : Nat} (ho : opens (f k) = true) (h : Fw f k m (d + 2)) (hm : f m = brk (f k)) : Fw f k (m + 1) (d + 1) := by
  rcases h with ⟨_, h⟩ | ⟨h1, h2, h3⟩
  · omega
  · refine .inr ⟨by omega, by omega, ?_⟩
    rw [stk_at_shut ho hm, show d + 1 - 1 = d by omega, drop_tail]
    exact h3
theorem fw_other {f : Nat → Int} {k m d : Nat} (ho : opens (f k) = true) (h : Fw f k m d) (h1 : f m ≠ f k) (h2 : f m ≠ brk (f k)) : Fw f k (m + 1) d := by
  rcases h with ⟨rfl, _⟩ | ⟨h3, h4, h5⟩
  · exact absurd rfl h1
  · exact .inr ⟨by omega, h4, by rw [stk_at_other ho h1 h2]; exact h5⟩
theorem fw_found {f : Nat → Int} {k m n : Nat} (ho : opens (f k) = true) (h : Fw f k m 1) (hm : f m = brk (f k)) (hn : m < n) : par f n k = (m : Int) := by
  rcases h with ⟨_, h⟩ | ⟨h1, h2, h3⟩
  · omega
  · have h4 := shuts_kind ho
    have hs : shuts (f m) = true := by rw [hm]; exact h4.1
    have hk : brk (f m) = f k := by rw [hm]; exact h4.2
    exact par_keeps (par_hit (by omega) hs (by rw [hk]; exact h3)) (by omega) n (by omega)
theorem fw_none {f : Nat → Int} {k n d : Nat} (ho : opens (f k) = true) (h : Fw f k n d) (hk : k < n) : par f n k = -1 := by
  rcases h with ⟨h, _⟩ | ⟨h1, h2, h3⟩
  · omega
  · have hm : k ∈ (stk f (f k) n).drop (d - 1) := List.mem_of_head? h3
    exact (((holds f n).wait _ _).1 (List.mem_of_mem_drop hm)).2.2.2
theorem fw_pos {f : Nat → Int} {k m d : Nat} (ho : opens (f k) = true) (h : Fw f k m d) (hm : f m = brk (f k)) : 1 ≤ d := by
  rcases h with ⟨rfl, _⟩ | ⟨_, h2, _⟩
  · have h4 := (shuts_kind ho).1
    rw [← hm, not_both ho] at h4
    cases h4
  · exact h2

/-- Going back from a closing bracket at place k: behind the first m places so many are closed. -/
def Bw (f : Nat → Int) (k m d : Nat) : Prop := (m = k + 1 ∧ d = 0) ∨ (m ≤ k ∧ 1 ≤ d ∧ (stk f (brk (f k)) k).head? = ((stk f (brk (f k)) m).drop (d - 1)).head?)
theorem bw_shut {f : Nat → Int} {k m d : Nat} (hs : shuts (f k) = true) (h : Bw f k (m + 1) d) (hm : f m = f k) : Bw f k m (d + 1) := by
  have ho := opens_kind hs
  rcases h with ⟨h1, rfl⟩ | ⟨h1, h2, h3⟩
  · obtain rfl : m = k := by omega
    exact .inr ⟨by omega, by omega, rfl⟩
  · refine .inr ⟨by omega, by omega, ?_⟩
    rw [stk_at_shut ho.1 (by rw [hm]; exact ho.2.symm), drop_tail] at h3
    rw [h3]
    congr 2
    omega
theorem bw_open {f : Nat → Int} {k m d : Nat} (hs : shuts (f k) = true) (h : Bw f k (m + 1) (d + 2)) (hm : f m = brk (f k)) : Bw f k m (d + 1) := by
  have ho := opens_kind hs
  rcases h with ⟨_, h⟩ | ⟨h1, h2, h3⟩
  · omega
  · refine .inr ⟨by omega, by omega, ?_⟩
    rw [stk_open (by rw [hm]; exact ho.1) hm] at h3
    rw [h3]
    rfl
theorem bw_other {f : Nat → Int} {k m d : Nat} (hs : shuts (f k) = true) (h : Bw f k (m + 1) d) (h1 : f m ≠ f k) (h2 : f m ≠ brk (f k)) : Bw f k m d := by
  have ho := opens_kind hs
  rcases h with ⟨h3, _⟩ | ⟨h3, h4, h5⟩
  · obtain rfl : m = k := by omega
    exact absurd rfl h1
  · refine .inr ⟨by omega, h4, ?_⟩
    rw [stk_at_other ho.1 h2 (by rw [ho.2]; exact h1)] at h5
    exact h5
theorem bw_found {f : Nat → Int} {k m n : Nat} (hs : shuts (f k) = true) (h : Bw f k (m + 1) 1) (hm : f m = brk (f k)) (hn : k < n) : par f n k = (m : Int) := by
  have ho := opens_kind hs
  rcases h with ⟨_, h⟩ | ⟨h1, h2, h3⟩
  · omega
  · rw [stk_open (by rw [hm]; exact ho.1) hm] at h3
    rw [par_stays (not_both2 hs) n hn, if_pos hs]
    cases hst : stk f (brk (f k)) k with
    | nil =>
      rw [hst] at h3
      cases h3
    | cons p r =>
      rw [hst] at h3
      have h4 : p = m := Option.some.inj h3
      rw [h4]
      rfl
theorem bw_none {f : Nat → Int} {k n d : Nat} (hs : shuts (f k) = true) (h : Bw f k 0 d) (hn : k < n) : par f n k = -1 := by
  rcases h with ⟨h, _⟩ | ⟨h1, h2, h3⟩
  · omega
  · rw [par_stays (not_both2 hs) n hn, if_pos hs]
    cases hst : stk f (brk (f k)) k with
    | nil => rfl
    | cons p r =>
      rw [hst, stk] at h3
      simp at h3
theorem bw_pos {f : Nat → Int} {k m d : Nat} (hs : shuts (f k) = true) (h : Bw f k (m + 1) d) (hm : f m = brk (f k)) : 1 ≤ d := by
  rcases h with ⟨h1, _⟩ | ⟨_, h2, _⟩
  · obtain rfl : m = k := by omega
    have h4 := (opens_kind hs).1
    rw [← hm, not_both2 hs] at h4
    cases h4
  · exact h2
end Go.Proofs.Ytpgjaoemkadenab.Plain

/- Plain mathematics of edits: which are right, what they make of a line, what undoes them. -/
set_option linter.unusedVariables false
set_option linter.unusedSimpArgs false
set_option maxRecDepth 100000
namespace Go.Proofs.Ytpgjaoemkadenab.Plain

/-- A splice as it comes: from, to, text. -/
abbrev Spl := Int × Int × List Int
/-- A splice at places. -/
abbrev Nsp := Nat × Nat × List Int
def sup (s : Nsp) : Spl := ((s.1 : Int), (s.2.1 : Int), s.2.2)
def ups (ns : List Nsp) : List Spl := ns.map sup
theorem ups_len (ns : List Nsp) : (ups ns).length = ns.length := List.length_map ..

/-- Check's way from a splice on. -/
def chkGo (n : Int) : Int → Int → List Spl → Int
  | _, size, [] => if size > 4096 then 2 else 0
  | last, size, s :: r =>
    if s.1 ≤ last ∨ s.1 > s.2.1 ∨ s.2.1 > n ∨ (s.1 = s.2.1 ∧ s.2.2.length = 0) then 4
    else if s.2.2.length > 4096 ∨ size + ((s.2.2.length : Int) - (s.2.1 - s.1)) > 8192 then 2
    else chkGo n s.2.1 (size + ((s.2.2.length : Int) - (s.2.1 - s.1))) r
/-- Check's answer. -/
def schk (n : Int) (es : List Spl) : Int := if n < 0 ∨ n > 4096 then 1 else chkGo n (-1) n es

/-- Right splices of a line of n, from place lo on. -/
def Okay (n : Nat) : Nat → List Nsp → Prop
  | _, [] => True
  | lo, s :: r => lo ≤ s.1 ∧ s.1 ≤ s.2.1 ∧ s.2.1 ≤ n ∧ (s.1 < s.2.1 ∨ 0 < s.2.2.length) ∧ Okay n (s.2.1 + 1) r
/-- How many are put in, how many go. -/
def puts : List Nsp → Nat
  | [] => 0
  | s :: r => s.2.2.length + puts r
def sgoes : List Nsp → Nat
  | [] => 0
  | s :: r => (s.2.1 - s.1) + sgoes r
def seg (l : List Int) (a b : Nat) : List Int := (l.drop a).take (b - a)
/-- What is made of a line, from a place on. -/
def app (l : List Int) : Nat → List Nsp → List Int
  | a, [] => l.drop a
  | a, s :: r => seg l a s.1 ++ s.2.2 ++ app l s.2.1 r
/-- What undoes it: a, the place in the line; m, the place in what is made of it. -/
def und (l : List Int) : Nat → Nat → List Nsp → List Nsp
  | _, _, [] => []
  | a, m, s :: r => (m + (s.1 - a), m + (s.1 - a) + s.2.2.length, seg l s.1 s.2.1) :: und l s.2.1 (m + (s.1 - a) + s.2.2.length) r

theorem seg_len (l : List Int) (a b : Nat) (h : b ≤ l.length) : (seg l a b).length = b - a := by unfold seg; rw [List.length_take, List.length_drop]; omega
theorem seg_drop (l : List Int) (a b : Nat) (h : a ≤ b) : seg l a b ++ l.drop b = l.drop a := by
  unfold seg
  have : l.drop b = (l.drop a).drop (b - a) := by rw [List.drop_drop]; congr 1; omega
  rw [this, List.take_append_drop]
theorem seg_seg (l : List Int) (a b c : Nat) (h : a ≤ b) (h2 : b ≤ c) : seg l a b ++ seg l b c = seg l a c := by
  unfold seg
  have e : l.drop b = (l.drop a).drop (b - a) := by rw [List.drop_drop]; congr 1; omega
  rw [e, show c - a = (b - a) + (c - b) by omega, List.take_add]
theorem take_seg (l : List Int) (a b : Nat) (h : a ≤ b) : l.take a ++ seg l a b = l.take b := by
  have := seg_seg l 0 a b (Nat.zero_le _) h
  unfold seg at this ⊢
  simpa using this
theorem seg_mid (A S B : List Int) (m k : Nat) (hm : A.length = m) (hk : k = m + S.length) : seg (A ++ (S ++ B)) m k = S := by
  unfold seg
  subst hm hk
  rw [List.drop_left, show A.length + S.length - A.length = S.length by omega, List.take_left]

theorem Okay.less {n : Nat} : ∀ {lo lo' : Nat} {ns : List Nsp}, Okay n lo ns → lo' ≤ lo → Okay n lo' ns
  | _, _, [], _, _ => trivial
  | _, _, s :: r, h, hl => ⟨Nat.le_trans hl h.1, h.2⟩
theorem Okay.goes_le {n : Nat} : ∀ {lo : Nat} {ns : List Nsp}, Okay n lo ns → sgoes ns ≤ n - lo
  | _, [], _ => Nat.zero_le _
  | lo, s :: r, ⟨h1, h2, h3, _, h5⟩ => by
    have := h5.goes_le
    unfold sgoes
    omega
theorem Okay.count {n : Nat} : ∀ {lo : Nat} {ns : List Nsp}, Okay n lo ns → ns.length ≤ n + 1 - lo
  | _, [], _ => Nat.zero_le _
  | lo, s :: r, ⟨h1, h2, h3, _, h5⟩ => by
    have := h5.count
    rw [List.length_cons]
    omega
theorem app_len (l : List Int) : ∀ (a : Nat) (ns : List Nsp) (lo : Nat), Okay l.length lo ns → a ≤ lo → a ≤ l.length → (app l a ns).length + sgoes ns = (l.length - a) + puts ns
  | a, [], _, _, _, h => by unfold app sgoes puts; rw [List.length_drop]
  | a, s :: r, lo, ⟨h1, h2, h3, h4, h5⟩, ha, _ => by
    have := app_len l s.2.1 r _ h5 (by omega) h3
    unfold app sgoes puts
    rw [List.length_append, List.length_append, seg_len l a s.1 (by omega)]
    have h9 := h5.goes_le
    omega

/-- Of right splices Check tells whether the line is too long. -/
theorem chkGo_right (n : Nat) (hn : n ≤ 4096) : ∀ (ns : List Nsp) (lo : Nat) (last size : Int), Okay n lo ns → last < (lo : Int) → (sgoes ns : Int) ≤ size →
    chkGo n last size (ups ns) = if size + (puts ns : Int) - (sgoes ns : Int) > 4096 then 2 else 0
  | [], lo, last, size, _, _, _ => by
    unfold ups chkGo puts sgoes
    simp
  | s :: r, lo, last, size, ⟨h1, h2, h3, h4, h5⟩, hl, hs => by
    have hg := h5.goes_le
    have hgs : sgoes (s :: r) = (s.2.1 - s.1) + sgoes r := rfl
    have hps : puts (s :: r) = s.2.2.length + puts r := rfl
    have ih := chkGo_right n hn r (s.2.1 + 1) s.2.1 (size + ((s.2.2.length : Int) - ((s.2.1 : Int) - (s.1 : Int)))) h5 (by omega) (by omega)
    show chkGo n last size (sup s :: ups r) = _
    unfold chkGo
    rw [if_neg (by
      simp only [sup]
      have : ¬ ((s.1 : Int) = (s.2.1 : Int) ∧ s.2.2.length = 0) := by omega
      omega)]
    by_cases hb : (sup s).2.2.length > 4096 ∨ size + (((sup s).2.2.length : Int) - ((sup s).2.1 - (sup s).1)) > 8192
    · rw [if_pos hb]
      simp only [sup] at hb
      rw [if_pos (by omega)]
    · rw [if_neg hb]
      show chkGo n (s.2.1 : Int) _ (ups r) = _
      simp only [sup]
      rw [ih]
      congr 1
      apply propext
      omega
theorem chkGo_shape (n : Nat) : ∀ (es : List Spl) (last size : Int), -1 ≤ last → chkGo n last size es = 0 → ∃ ns, es = ups ns ∧ Okay n (last + 1).toNat ns
  | [], _, _, _, _ => ⟨[], rfl, trivial⟩
  | s :: r, last, size, hl, h => by
    unfold chkGo at h
    by_cases h1 : s.1 ≤ last ∨ s.1 > s.2.1 ∨ s.2.1 > (n : Int) ∨ (s.1 = s.2.1 ∧ s.2.2.length = 0)
    · rw [if_pos h1] at h; cases h
    · rw [if_neg h1] at h
      by_cases h2 : s.2.2.length > 4096 ∨ size + ((s.2.2.length : Int) - (s.2.1 - s.1)) > 8192
      · rw [if_pos h2] at h; cases h
      · rw [if_neg h2] at h
        obtain ⟨ns, e, ho⟩ := chkGo_shape n r s.2.1 _ (by omega) h
        refine ⟨(s.1.toNat, s.2.1.toNat, s.2.2) :: ns, ?_, ?_⟩
        · unfold ups at e ⊢
          rw [List.map_cons, ← e]
          congr 1
          unfold sup
          refine Prod.ext ?_ (Prod.ext ?_ rfl)
          · show s.1 = ((s.1.toNat : Nat) : Int)
            omega
          · show s.2.1 = ((s.2.1.toNat : Nat) : Int)
            omega
        · refine ⟨?_, ?_, ?_, ?_, ?_⟩
          · show (last + 1).toNat ≤ s.1.toNat
            omega
          · show s.1.toNat ≤ s.2.1.toNat
            omega
          · show s.2.1.toNat ≤ n
            omega
          · show s.1.toNat < s.2.1.toNat ∨ 0 < s.2.2.length
            omega
          · show Okay n (s.2.1.toNat + 1) ns
            rw [show s.2.1.toNat + 1 = (s.2.1 + 1).toNat by omega]
            exact ho
theorem schk_right (l : List Int) (ns : List Nsp) (hl : l.length ≤ 4096) (h : Okay l.length 0 ns) : schk (l.length : Int) (ups ns) = if (app l 0 ns).length > 4096 then 2 else 0 := by
  unfold schk
  rw [if_neg (by omega), chkGo_right l.length hl ns 0 (-1) l.length h (by omega) (by have := h.goes_le; omega)]
  have h1 := app_len l 0 ns 0 h (Nat.le_refl _) (Nat.zero_le _)
  congr 1
  apply propext
  omega
theorem chk_shape {n : Int} {es : List Spl} (h : schk n es = 0) : ∃ (k : Nat) (ns : List Nsp), n = (k : Int) ∧ k ≤ 4096 ∧ es = ups ns ∧ Okay k 0 ns := by
  unfold schk at h
  by_cases h1 : n < 0 ∨ n > 4096
  · rw [if_pos h1] at h; cases h
  · rw [if_neg h1] at h
    obtain ⟨k, rfl⟩ : ∃ k : Nat, n = (k : Int) := ⟨n.toNat, by omega⟩
    obtain ⟨ns, e, ho⟩ := chkGo_shape k es (-1) k (by omega) h
    exact ⟨k, ns, rfl, by omega, e, ho⟩
/-- A right edit of a line. -/
def Right (l : List Int) (ns : List Nsp) : Prop := l.length ≤ 4096 ∧ Okay l.length 0 ns ∧ (app l 0 ns).length ≤ 4096
theorem chk_ok {l : List Int} {es : List Spl} (h : schk (l.length : Int) es = 0) : ∃ ns, es = ups ns ∧ Right l ns := by
  obtain ⟨k, ns, hk, hk2, rfl, ho⟩ := chk_shape h
  obtain rfl : l.length = k := by omega
  rw [schk_right l ns hk2 ho] at h
  refine ⟨ns, rfl, hk2, ho, ?_⟩
  by_cases h9 : (app l 0 ns).length > 4096
  · rw [if_pos h9] at h; cases h
  · omega
theorem Right.chk {l : List Int} {ns : List Nsp} (h : Right l ns) : schk (l.length : Int) (ups ns) = 0 := by
  rw [schk_right l ns h.1 h.2.1, if_neg (by have := h.2.2; omega)]
/-- .. of a line whose length alone is known. -/
def Fits (n : Nat) (ns : List Nsp) : Prop := n ≤ 4096 ∧ Okay n 0 ns ∧ n + puts ns ≤ 4096 + sgoes ns
theorem Right.fits {l : List Int} {ns : List Nsp} (h : Right l ns) : Fits l.length ns := by
  refine ⟨h.1, h.2.1, ?_⟩
  have := app_len l 0 ns 0 h.2.1 (Nat.le_refl _) (Nat.zero_le _)
  have := h.2.2
  omega
theorem Fits.right {l : List Int} {ns : List Nsp} (h : Fits l.length ns) : Right l ns := by
  refine ⟨h.1, h.2.1, ?_⟩
  have := app_len l 0 ns 0 h.2.1 (Nat.le_refl _) (Nat.zero_le _)
  have := h.2.2
  omega
theorem Fits.puts_le {n : Nat} {ns : List Nsp} (h : Fits n ns) : puts ns ≤ 4096 := by
  have := h.2.1.goes_le
  have := h.2.2
  omega
theorem fits_of_chk {n : Int} {es : List Spl} (h : schk n es = 0) : ∃ (k : Nat) (ns : List Nsp), n = (k : Int) ∧ es = ups ns ∧ Fits k ns := by
  obtain ⟨k, ns, rfl, hk, rfl, ho⟩ := chk_shape h
  have hl : (List.replicate k (0 : Int)).length = k := List.length_replicate
  have h2 : schk ((List.replicate k (0 : Int)).length : Int) (ups ns) = 0 := by rw [hl]; exact h
  rw [schk_right _ ns (by rw [hl]; exact hk) (by rw [hl]; exact ho)] at h2
  have h3 : Right (List.replicate k (0 : Int)) ns := ⟨by rw [hl]; exact hk, by rw [hl]; exact ho, by
    by_cases h9 : (app (List.replicate k (0 : Int)) 0 ns).length > 4096
    · rw [if_pos h9] at h2; cases h2
    · omega⟩
  have h4 := h3.fits
  rw [hl] at h4
  exact ⟨k, ns, rfl, rfl, h4⟩
theorem Fits.chk {n : Nat} {ns : List Nsp} (h : Fits n ns) : schk (n : Int) (ups ns) = 0 := by
  have hl : (List.replicate n (0 : Int)).length = n := List.length_replicate
  have h2 : Fits (List.replicate n (0 : Int)).length ns := by rw [hl]; exact h
  have := h2.right.chk
  rw [hl] at this
  exact this
theorem puts_mem {ns : List Nsp} {s : Nsp} (h : s ∈ ns) : s.2.2.length ≤ puts ns := by
  induction ns with
  | nil => cases h
  | cons q r ih =>
    rcases List.mem_cons.1 h with rfl | h
    · unfold puts; omega
    · have := ih h
      unfold puts; omega

/-- What is undone is as it was. -/
theorem app_und (l : List Int) : ∀ (ns : List Nsp) (a m : Nat) (A : List Int) (lo : Nat), Okay l.length lo ns → a ≤ lo → A.length = m →
    app (A ++ app l a ns) m (und l a m ns) = l.drop a
  | [], a, m, A, lo, _, _, hA => by
    unfold und app
    rw [← hA, List.drop_left]
    rfl
  | s :: r, a, m, A, lo, ⟨h1, h2, h3, h4, h5⟩, ha, hA => by
    have hs : (seg l a s.1).length = s.1 - a := seg_len l a s.1 (by omega)
    have ih := app_und l r s.2.1 (m + (s.1 - a) + s.2.2.length) (A ++ seg l a s.1 ++ s.2.2) _ h5 (by omega) (by rw [List.length_append, List.length_append, hs, hA])
    have e : A ++ app l a (s :: r) = A ++ seg l a s.1 ++ s.2.2 ++ app l s.2.1 r := by
      show A ++ (seg l a s.1 ++ s.2.2 ++ app l s.2.1 r) = _
      simp only [List.append_assoc]
    rw [e]
    unfold und
    show seg _ m (m + (s.1 - a)) ++ seg l s.1 s.2.1 ++ app _ (m + (s.1 - a) + s.2.2.length) _ = _
    rw [ih]
    have e2 : seg (A ++ seg l a s.1 ++ s.2.2 ++ app l s.2.1 r) m (m + (s.1 - a)) = seg l a s.1 := by
      rw [List.append_assoc, List.append_assoc]
      exact seg_mid _ _ _ _ _ hA (by rw [hs])
    rw [e2, seg_seg l a s.1 s.2.1 (by omega) h2, seg_drop l a s.2.1 (by omega)]
theorem und_und (l : List Int) : ∀ (ns : List Nsp) (a m : Nat) (A : List Int) (lo : Nat), Okay l.length lo ns → a ≤ lo → A.length = m →
    und (A ++ app l a ns) m a (und l a m ns) = ns
  | [], a, m, A, lo, _, _, hA => rfl
  | s :: r, a, m, A, lo, ⟨h1, h2, h3, h4, h5⟩, ha, hA => by
    have hs : (seg l a s.1).length = s.1 - a := seg_len l a s.1 (by omega)
    have ih := und_und l r s.2.1 (m + (s.1 - a) + s.2.2.length) (A ++ seg l a s.1 ++ s.2.2) _ h5 (by omega) (by rw [List.length_append, List.length_append, hs, hA])
    have e : A ++ app l a (s :: r) = A ++ seg l a s.1 ++ s.2.2 ++ app l s.2.1 r := by
      show A ++ (seg l a s.1 ++ s.2.2 ++ app l s.2.1 r) = _
      simp only [List.append_assoc]
    rw [e]
    have ee : und l a m (s :: r) = (m + (s.1 - a), m + (s.1 - a) + s.2.2.length, seg l s.1 s.2.1) :: und l s.2.1 (m + (s.1 - a) + s.2.2.length) r := rfl
    rw [ee]
    show (a + (m + (s.1 - a) - m), a + (m + (s.1 - a) - m) + (seg l s.1 s.2.1).length, seg _ (m + (s.1 - a)) (m + (s.1 - a) + s.2.2.length)) :: und _ (m + (s.1 - a) + s.2.2.length) (a + (m + (s.1 - a) - m) + (seg l s.1 s.2.1).length) _ = _
    have f1 : a + (m + (s.1 - a) - m) = s.1 := by omega
    have f2 : s.1 + (seg l s.1 s.2.1).length = s.2.1 := by rw [seg_len l s.1 s.2.1 h3]; omega
    rw [f1, f2, ih]
    have e2 : seg (A ++ seg l a s.1 ++ s.2.2 ++ app l s.2.1 r) (m + (s.1 - a)) (m + (s.1 - a) + s.2.2.length) = s.2.2 := by
      rw [List.append_assoc]
      exact seg_mid _ _ _ _ _ (by rw [List.length_append, hs, hA]) rfl
    rw [e2]
theorem und_okay (l : List Int) (M : Nat) : ∀ (ns : List Nsp) (a m d : Nat), Okay l.length (a + d) ns → m + (app l a ns).length = M → a ≤ l.length → Okay M (m + d) (und l a m ns)
  | [], _, _, _, _, _, _ => trivial
  | s :: r, a, m, d, ⟨h1, h2, h3, h4, h5⟩, hM, hal => by
    have hs : (seg l a s.1).length = s.1 - a := seg_len l a s.1 (by omega)
    have hM2 : (app l a (s :: r)).length = (s.1 - a) + s.2.2.length + (app l s.2.1 r).length := by
      show (seg l a s.1 ++ s.2.2 ++ app l s.2.1 r).length = _
      rw [List.length_append, List.length_append, hs]
    refine ⟨?_, ?_, ?_, ?_, ?_⟩
    · show m + d ≤ m + (s.1 - a)
      omega
    · show m + (s.1 - a) ≤ m + (s.1 - a) + s.2.2.length
      omega
    · show m + (s.1 - a) + s.2.2.length ≤ M
      omega
    · show m + (s.1 - a) < m + (s.1 - a) + s.2.2.length ∨ 0 < (seg l s.1 s.2.1).length
      rw [seg_len l s.1 s.2.1 h3]
      omega
    · exact und_okay l M r s.2.1 (m + (s.1 - a) + s.2.2.length) 1 h5 (by omega) h3
/-- The edit that undoes a right one is right, and makes the line again. -/
theorem und_right {l : List Int} {ns : List Nsp} (h : Right l ns) : Right (app l 0 ns) (und l 0 0 ns) ∧ app (app l 0 ns) 0 (und l 0 0 ns) = l ∧ und (app l 0 ns) 0 0 (und l 0 0 ns) = ns := by
  have h1 := app_und l ns 0 0 [] 0 h.2.1 (Nat.le_refl _) rfl
  rw [List.nil_append, List.drop_zero] at h1
  refine ⟨⟨h.2.2, und_okay l _ ns 0 0 0 h.2.1 (by omega) (Nat.zero_le _), by rw [h1]; exact h.1⟩, h1, ?_⟩
  have := und_und l ns 0 0 [] 0 h.2.1 (Nat.le_refl _) rfl
  rw [List.nil_append] at this
  exact this

/-- The document's way: the last splice first. -/
def appR (l : List Int) : List Nsp → List Int
  | [] => l
  | s :: r => (appR l r).take s.1 ++ s.2.2 ++ (appR l r).drop s.2.1
theorem appR_app (l : List Int) : ∀ (ns : List Nsp) (a lo : Nat), Okay l.length lo ns → a ≤ lo → appR l ns = l.take a ++ app l a ns
  | [], a, _, _, _ => by
    unfold appR app
    rw [List.take_append_drop]
  | s :: r, a, lo, ⟨h1, h2, h3, h4, h5⟩, ha => by
    have ih := appR_app l r s.2.1 _ h5 (by omega)
    unfold appR app
    rw [ih]
    have ht : (l.take s.2.1).length = s.2.1 := by rw [List.length_take]; omega
    have e1 : (l.take s.2.1 ++ app l s.2.1 r).take s.1 = l.take s.1 := by
      rw [List.take_append_of_le_length (by omega), List.take_take, Nat.min_eq_left h2]
    have e2 : (l.take s.2.1 ++ app l s.2.1 r).drop s.2.1 = app l s.2.1 r := by
      rw [List.drop_append_of_le_length (by omega), List.drop_eq_nil_of_le (by omega), List.nil_append]
    rw [e1, e2, ← take_seg l a s.1 (by omega)]
    simp only [List.append_assoc]
theorem appR_len (l : List Int) : ∀ (ns : List Nsp) (lo : Nat), Okay l.length lo ns → (appR l ns).length + sgoes ns = l.length + puts ns
  | ns, lo, h => by
    have h1 := appR_app l ns 0 lo h (Nat.zero_le _)
    have h2 := app_len l 0 ns lo h (Nat.zero_le _) (Nat.zero_le _)
    rw [h1, List.take_zero, List.nil_append]
    omega
theorem okay_take {n : Nat} : ∀ {ns : List Nsp} {lo : Nat} (i : Nat) (s : Nsp), Okay n lo ns → ns[i]? = some s → Okay s.1 lo (ns.take i)
  | [], _, _, _, _, h => by simp at h
  | q :: r, lo, 0, s, _, _ => trivial
  | q :: r, lo, i + 1, s, ⟨h1, h2, h3, h4, h5⟩, h => by
    rw [List.getElem?_cons_succ] at h
    have ih := okay_take i s h5 h
    have hq : q.2.1 + 1 ≤ s.1 := okay_at h5 i h
    rw [List.take_succ_cons]
    exact ⟨h1, h2, by omega, h4, ih⟩
where
  okay_at {n : Nat} : ∀ {ns : List Nsp} {lo : Nat}, Okay n lo ns → ∀ (i : Nat) {s : Nsp}, ns[i]? = some s → lo ≤ s.1
  | [], _, _, _, _, h => by simp at h
  | q :: r, lo, ⟨h1, h2, h3, h4, h5⟩, 0, s, h => by
    simp at h
    subst h
    exact h1
  | q :: r, lo, ⟨h1, h2, h3, h4, h5⟩, i + 1, s, h => by
    rw [List.getElem?_cons_succ] at h
    have := okay_at h5 i h
    omega
theorem Okay.at_ {n : Nat} : ∀ {ns : List Nsp} {lo : Nat}, Okay n lo ns → ∀ (i : Nat) {s : Nsp}, ns[i]? = some s → lo ≤ s.1 ∧ s.1 ≤ s.2.1 ∧ s.2.1 ≤ n
  | [], _, _, _, _, h => by simp at h
  | q :: r, lo, ⟨h1, h2, h3, h4, h5⟩, 0, s, h => by
    simp at h
    subst h
    exact ⟨h1, h2, h3⟩
  | q :: r, lo, ⟨h1, h2, h3, h4, h5⟩, i + 1, s, h => by
    rw [List.getElem?_cons_succ] at h
    have := Okay.at_ h5 i h
    omega
theorem Okay.drop {n : Nat} : ∀ {ns : List Nsp} {lo : Nat} (i : Nat), Okay n lo ns → Okay n lo (ns.drop i)
  | [], _, i, _ => by rw [List.drop_nil]; trivial
  | q :: r, lo, 0, h => h
  | q :: r, lo, i + 1, ⟨h1, h2, h3, h4, h5⟩ => by
    rw [List.drop_succ_cons]
    exact (Okay.drop i h5).less (by omega)
/-- Where a splice stands in what is made: the document's way. -/
theorem und_at (l : List Int) : ∀ (ns : List Nsp) (a m lo i : Nat) (s : Nsp), Okay l.length lo ns → a ≤ lo → ns[i]? = some s →
    (und l a m ns)[i]? = some (m + (app (l.take s.1) a (ns.take i)).length, m + (app (l.take s.1) a (ns.take i)).length + s.2.2.length, seg l s.1 s.2.1)
  | [], _, _, _, _, _, _, _, h => by simp at h
  | q :: r, a, m, lo, 0, s, ⟨h1, h2, h3, h4, h5⟩, ha, h => by
    simp at h
    subst h
    unfold und
    have : (app (l.take q.1) a ((q :: r).take 0)).length = q.1 - a := by
      show ((l.take q.1).drop a).length = _
      rw [List.length_drop, List.length_take]
      omega
    rw [this]
    rfl
  | q :: r, a, m, lo, i + 1, s, ⟨h1, h2, h3, h4, h5⟩, ha, h => by
    rw [List.getElem?_cons_succ] at h
    have ih := und_at l r q.2.1 (m + (q.1 - a) + q.2.2.length) _ i s h5 (by omega) h
    have hs := Okay.at_ h5 i h
    unfold und
    rw [List.getElem?_cons_succ, ih]
    have e : (app (l.take s.1) a ((q :: r).take (i + 1))).length = (q.1 - a) + q.2.2.length + (app (l.take s.1) q.2.1 (r.take i)).length := by
      rw [List.take_succ_cons]
      show (seg (l.take s.1) a q.1 ++ q.2.2 ++ app (l.take s.1) q.2.1 (r.take i)).length = _
      rw [List.length_append, List.length_append, seg_len _ _ _ (by rw [List.length_take]; omega)]
    rw [e]
    congr 2 <;> (try omega)
    congr 1
    omega
theorem und_len (l : List Int) : ∀ (ns : List Nsp) (a m : Nat), (und l a m ns).length = ns.length
  | [], _, _ => rfl
  | s :: r, a, m => by
    unfold und
    rw [List.length_cons, und_len l r, List.length_cons]
end Go.Proofs.Ytpgjaoemkadenab.Plain

/- Plain mathematics of what is between two lines. -/
set_option linter.unusedVariables false
set_option linter.unusedSimpArgs false
set_option maxRecDepth 100000
namespace Go.Proofs.Ytpgjaoemkadenab.Plain
/-- How long the longest common beginning is. -/
def cp : List Int → List Int → Nat
  | x :: l, y :: m => if x = y then cp l m + 1 else 0
  | _, _ => 0
theorem cp_nil (l : List Int) : cp l [] = 0 := by cases l <;> rfl
theorem cp_le : ∀ (l m : List Int), cp l m ≤ l.length ∧ cp l m ≤ m.length
  | [], _ => ⟨Nat.zero_le _, Nat.zero_le _⟩
  | x :: l, [] => ⟨Nat.zero_le _, Nat.zero_le _⟩
  | x :: l, y :: m => by
    have := cp_le l m
    unfold cp
    split
    · simp only [List.length_cons]; omega
    · exact ⟨Nat.zero_le _, Nat.zero_le _⟩
theorem cp_comm : ∀ (l m : List Int), cp l m = cp m l
  | [], m => by rw [cp_nil]; rfl
  | x :: l, [] => rfl
  | x :: l, y :: m => by
    unfold cp
    rw [cp_comm l m]
    by_cases h : x = y
    · rw [if_pos h, if_pos h.symm]
    · rw [if_neg h, if_neg (Ne.symm h)]
theorem cp_take : ∀ (l m : List Int), l.take (cp l m) = m.take (cp l m)
  | [], m => by rfl
  | x :: l, [] => rfl
  | x :: l, y :: m => by
    unfold cp
    by_cases h : x = y
    · rw [if_pos h, List.take_succ_cons, List.take_succ_cons, cp_take l m, h]
    · rw [if_neg h]
      rfl
/-- .. and behind it they part. -/
theorem cp_part : ∀ (l m : List Int), cp l m < l.length → cp l m < m.length → l.getD (cp l m) 0 ≠ m.getD (cp l m) 0
  | [], m, h, _ => by cases h
  | x :: l, [], _, h => by cases h
  | x :: l, y :: m, h1, h2 => by
    unfold cp at h1 h2 ⊢
    by_cases h : x = y
    · rw [if_pos h] at h1 h2 ⊢
      have := cp_part l m (by simpa using h1) (by simpa using h2)
      simpa using this
    · rw [if_neg h]
      simpa using h
theorem cp_self : ∀ (l : List Int), cp l l = l.length
  | [] => rfl
  | x :: l => by
    unfold cp
    rw [if_pos rfl, cp_self l]
    rfl
/-- A step of the count. -/
theorem cp_step (l m : List Int) (k : Nat) (h1 : k < l.length) (h2 : k < m.length) : cp (l.drop k) (m.drop k) = if l.getD k 0 = m.getD k 0 then cp (l.drop (k + 1)) (m.drop (k + 1)) + 1 else 0 := by
  rw [List.drop_eq_getElem_cons h1, List.drop_eq_getElem_cons h2, List.getD_eq_getElem?_getD, List.getD_eq_getElem?_getD, List.getElem?_eq_getElem h1, List.getElem?_eq_getElem h2]
  rfl
theorem cp_end (l m : List Int) (k : Nat) (h : l.length ≤ k ∨ m.length ≤ k) : cp (l.drop k) (m.drop k) = 0 := by
  rcases h with h | h
  · rw [List.drop_eq_nil_of_le h]
    rfl
  · rw [List.drop_eq_nil_of_le h, cp_nil]
/-- What is left, turned round. -/
def rst (l : List Int) (k : Nat) : List Int := (l.drop k).reverse
theorem rst_len (l : List Int) (k : Nat) : (rst l k).length = l.length - k := by unfold rst; rw [List.length_reverse, List.length_drop]
theorem rst_at (l : List Int) (k j : Nat) (h : j < l.length - k) : (rst l k).getD j 0 = l.getD (l.length - 1 - j) 0 := by
  unfold rst
  rw [List.getD_eq_getElem?_getD, List.getD_eq_getElem?_getD, List.getElem?_reverse (by rw [List.length_drop]; omega), List.getElem?_drop]
  congr 2
  rw [List.length_drop]
  omega
/-- What is between two lines: from, to, end. -/
def bfr (l m : List Int) : Nat := cp l m
def bcs (l m : List Int) : Nat := cp (rst l (cp l m)) (rst m (cp l m))
def bto (l m : List Int) : Nat := l.length - bcs l m
def ben (l m : List Int) : Nat := m.length - bcs l m
theorem bcs_le (l m : List Int) : bfr l m + bcs l m ≤ l.length ∧ bfr l m + bcs l m ≤ m.length := by
  have h := cp_le (rst l (cp l m)) (rst m (cp l m))
  rw [rst_len, rst_len] at h
  have := cp_le l m
  unfold bfr bcs
  omega
theorem bcs_comm (l m : List Int) : bcs l m = bcs m l := by
  unfold bcs
  rw [cp_comm m l, cp_comm (rst m _)]
/-- The one splice between two lines. -/
def bsp (l m : List Int) : Nsp := (bfr l m, bto l m, seg m (bfr l m) (ben l m))
/-- What Between tells. -/
def btw (l m : List Int) : List Nsp := if l = m then [] else [bsp l m]
theorem drop_same (l m : List Int) : l.drop (bto l m) = m.drop (ben l m) := by
  have h := cp_take (rst l (cp l m)) (rst m (cp l m))
  have hl := bcs_le l m
  have e : ∀ (z : List Int) (c k : Nat), k ≤ z.length → c ≤ z.length - k → ((rst z k).take c).reverse = z.drop (z.length - c) := by
    intro z c k hk hc
    unfold rst
    rw [List.take_reverse, List.reverse_reverse, List.length_drop, List.drop_drop]
    congr 1
    omega
  have h2 := congrArg List.reverse h
  rw [e l _ _ (cp_le l m).1 (by have := cp_le (rst l (cp l m)) (rst m (cp l m)); rw [rst_len, rst_len] at this; omega), e m _ _ (cp_le l m).2 (by have := cp_le (rst l (cp l m)) (rst m (cp l m)); rw [rst_len, rst_len] at this; omega)] at h2
  exact h2
theorem take_same (l m : List Int) : l.take (bfr l m) = m.take (bfr l m) := cp_take l m
theorem btw_app (l m : List Int) : app l 0 (btw l m) = m := by
  unfold btw
  by_cases h : l = m
  · rw [if_pos h, h]
    rfl
  · rw [if_neg h]
    have hl := bcs_le l m
    show seg l 0 (bfr l m) ++ seg m (bfr l m) (ben l m) ++ l.drop (bto l m) = m
    have e1 : seg l 0 (bfr l m) = m.take (bfr l m) := by
      unfold seg
      rw [List.drop_zero, Nat.sub_zero, take_same]
    rw [e1, drop_same, List.append_assoc, seg_drop m _ _ (by unfold ben; omega), List.take_append_drop]
theorem all_same {l m : List Int} (h1 : bfr l m = bto l m) (h2 : bfr l m = ben l m) : l = m := by
  have a := take_same l m
  have b := drop_same l m
  rw [← h1, ← h2] at b
  have c := List.take_append_drop (bfr l m) l
  rw [a, b, List.take_append_drop] at c
  exact c.symm
theorem btw_chg {l m : List Int} (h : l ≠ m) : bfr l m < bto l m ∨ 0 < (seg m (bfr l m) (ben l m)).length := by
  have hl := bcs_le l m
  by_cases h1 : bfr l m = bto l m
  · by_cases h2 : bfr l m = ben l m
    · exact absurd (all_same h1 h2) h
    · rw [seg_len m _ _ (by unfold ben; omega)]
      unfold ben at h2 ⊢
      omega
  · unfold bto at h1 ⊢
    omega
theorem same_chg {l m : List Int} (h : l = m) : bfr l m = bto l m ∧ bfr l m = ben l m := by
  subst h
  have h1 : cp l l = l.length := cp_self l
  have h2 : bcs l l = 0 := by
    have := (bcs_le l l).1
    unfold bfr at this
    omega
  unfold bfr bto ben
  omega
theorem btw_okay (l m : List Int) : Okay l.length 0 (btw l m) := by
  unfold btw
  by_cases h : l = m
  · rw [if_pos h]
    trivial
  · rw [if_neg h]
    have hl := bcs_le l m
    exact ⟨Nat.zero_le _, by show bfr l m ≤ bto l m; unfold bto; omega, by show bto l m ≤ l.length; unfold bto; omega, btw_chg h, trivial⟩
theorem btw_right (l m : List Int) (h1 : l.length ≤ 4096) (h2 : m.length ≤ 4096) : Right l (btw l m) := ⟨h1, btw_okay l m, by rw [btw_app]; exact h2⟩
/-- No smaller one would do. -/
theorem btw_edge (l m : List Int) : (bfr l m < bto l m → bfr l m < ben l m → l.getD (bfr l m) 0 ≠ m.getD (bfr l m) 0 ∧ l.getD (bto l m - 1) 0 ≠ m.getD (ben l m - 1) 0) := by
  intro h1 h2
  have hl := bcs_le l m
  unfold bto at h1
  unfold ben at h2
  refine ⟨cp_part l m (by unfold bfr at h1 hl; omega) (by unfold bfr at h2 hl; omega), ?_⟩
  have h := cp_part (rst l (cp l m)) (rst m (cp l m)) (by rw [rst_len]; unfold bfr bcs at h1; omega) (by rw [rst_len]; unfold bfr bcs at h2; omega)
  rw [rst_at _ _ _ (by unfold bfr bcs at h1; omega), rst_at _ _ _ (by unfold bfr bcs at h2; omega)] at h
  unfold bto ben
  rw [show l.length - bcs l m - 1 = l.length - 1 - cp (rst l (cp l m)) (rst m (cp l m)) by unfold bcs; omega, show m.length - bcs l m - 1 = m.length - 1 - cp (rst l (cp l m)) (rst m (cp l m)) by unfold bcs; omega]
  exact h
end Go.Proofs.Ytpgjaoemkadenab.Plain
