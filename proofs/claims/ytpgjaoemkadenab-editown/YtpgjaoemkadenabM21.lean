/- The contract of object.Of. -/
import Derived.Test.YtpgjaoemkadenabM20
set_option linter.unusedVariables false
set_option linter.unusedSimpArgs false
set_option maxRecDepth 100000
namespace Go.Proofs.Ytpgjaoemkadenab.Plain
open Seek
/-- A partner is a place. -/
theorem par_place {f : Nat → Int} {n i : Nat} (h : i < n) : par f n i = -1 ∨ ∃ z : Nat, par f n i = (z : Int) ∧ z < n := by
  rcases (holds f n).told i h with g | ⟨z, g1, g2, _⟩
  · exact .inl g
  · exact .inr ⟨z, g2, g1⟩
theorem bfind_bound {zs : List Int} {k o : Int} {a z : Nat} (hn : zs.length ≤ 4096) (h : bfind zs k o zs.length = some (a, z)) : a ≤ 4096 ∧ z ≤ 4096 := by
  obtain ⟨h1, _, h3, _⟩ := bfind_spec h
  rcases par_place (f := fn zs) h1 with g | ⟨i, g1, g2⟩
  · rw [g] at h3
    exact ⟨by omega, by rw [h3]; decide⟩
  · rw [g1] at h3
    exact ⟨by omega, by omega⟩
theorem qfind_bound {zs : List Int} {k s : Int} {a z : Nat} (hn : zs.length ≤ 4096) (h : qfind (fn zs) s k zs.length 0 none = some (a, z)) : a ≤ 4096 ∧ z ≤ 4096 := by
  have := qfind_spec (fun x hx => by cases hx) h
  omega
end Go.Proofs.Ytpgjaoemkadenab.Plain
namespace Go.Proofs.Ytpgjaoemkadenab.Seek
open Go.RowKit Plain

/-- What Of answers. -/
def ThingPost (g : Int × Int × Int) (w : World) (e : Ending) (w' : World) : Prop := e = .returned (.tuple #[.int .i64 g.1, .int .i64 g.2.1, .int .i64 g.2.2]) ∧ Below w.heap.size w w'

set_option maxHeartbeats 1000000 in
theorem of_large (a : Option Addr) (n cap : Nat) (k : Int) (ar : Bool) (key : Int) (w : World) (h : 4096 < n) (hm : n ≤ maxLen) :
    Calls Try.prog 59 #[.slice a n cap, .int .i64 k, .bool ar, .int .i64 key] w fun e w' => ThingPost (0, 0, 2) w e w' := by
  unfold maxLen at hm
  go_enter Try.func59, Try.ntmps59
  go_wp2_with fail
  go_ret3
  exact ⟨rfl, Below.refl _ _⟩

set_option maxHeartbeats 1000000 in
theorem of_arg (a : Option Addr) (n cap : Nat) (k : Int) (ar : Bool) (key : Int) (w : World) (h : n ≤ 4096) (hk : k < 0 ∨ ((n - 1 : Nat) : Int) < k) :
    Calls Try.prog 59 #[.slice a n cap, .int .i64 k, .bool ar, .int .i64 key] w fun e w' => ThingPost (0, 0, 1) w e w' := by
  have hmax : (if (n : Int) - 1 < 0 then (0 : Int) else (n : Int) - 1) = ((n - 1 : Nat) : Int) := by split <;> omega
  by_cases h0 : k < 0
  · clear hk
    go_enter Try.func59, Try.ntmps59
    go_wp2_with fail
    go_ret3
    exact ⟨rfl, Below.refl _ _⟩
  · have hk2 : ((n - 1 : Nat) : Int) < k := hk.resolve_left h0
    clear hk h0
    generalize ((n - 1 : Nat) : Int) = M at *
    go_enter Try.func59, Try.ntmps59
    go_wp2_with fail
    all_goals (
      go_ret3
      exact ⟨rfl, Below.refl _ _⟩)

set_option maxHeartbeats 2000000 in
theorem of_word (a : Option Addr) (cap : Nat) (zs : List Int) (k : Nat) (ar : Bool) (key : Int) (w : World) (hr : Reads w (.slice a zs.length cap) zs) (h : zs.length ≤ 4096) (hk : k ≤ zs.length - 1) (hkey : key = 119 ∨ key = 87) :
    Calls Try.prog 59 #[.slice a zs.length cap, .int .i64 (k : Int), .bool ar, .int .i64 key] w fun e w' => ThingPost (wanswer zs k ar (key == 87)) w e w' := by
  have hmax : (if (zs.length : Int) - 1 < 0 then (0 : Int) else (zs.length : Int) - 1) = ((zs.length - 1 : Nat) : Int) := by split <;> omega
  have hk2 : (k : Int) ≤ ((zs.length - 1 : Nat) : Int) := by omega
  have H : Hid (∀ bg, Calls Try.prog 70 #[.slice a zs.length cap, .int .i64 (k : Int), .bool ar, .bool bg] w fun e w' => e = .returned (.tuple #[.int .i64 (wanswer zs k ar bg).1, .int .i64 (wanswer zs k ar bg).2.1, .int .i64 (wanswer zs k ar bg).2.2]) ∧ w' = w) := fun bg => words_any _ zs k ar bg w hr hk h
  clear hr hk
  generalize ((zs.length - 1 : Nat) : Int) = M at *
  rcases hkey with rfl | rfl
  · go_enter Try.func59, Try.ntmps59
    go_wp2_with fail
    refine (H.out false).mono ?_
    rintro e w1 ⟨rfl, hw1⟩
    rw [hw1]
    clear hw1 w1
    go_wp2_with fail
    go_ret3
    exact ⟨rfl, Below.refl _ _⟩
  · go_enter Try.func59, Try.ntmps59
    go_wp2_with fail
    refine (H.out true).mono ?_
    rintro e w1 ⟨rfl, hw1⟩
    rw [hw1]
    clear hw1 w1
    go_wp2_with fail
    go_ret3
    exact ⟨rfl, Below.refl _ _⟩

set_option maxHeartbeats 4000000 in
theorem of_bracket (a : Option Addr) (cap : Nat) (zs : List Int) (k : Nat) (ar : Bool) (key : Int) (w : World) (hr : Reads w (.slice a zs.length cap) zs) (h : zs.length ≤ 4096) (hk : k ≤ zs.length - 1) (hkey : key = 40 ∨ key = 41 ∨ key = 91 ∨ key = 93 ∨ key = 123 ∨ key = 125) :
    Calls Try.prog 59 #[.slice a zs.length cap, .int .i64 (k : Int), .bool ar, .int .i64 key] w fun e w' => ThingPost (otold ar (bfind zs k (opn key) zs.length)) w e w' := by
  have hmax : (if (zs.length : Int) - 1 < 0 then (0 : Int) else (zs.length : Int) - 1) = ((zs.length - 1 : Nat) : Int) := by split <;> omega
  have hk2 : (k : Int) ≤ ((zs.length - 1 : Nat) : Int) := by omega
  have h0 : brk key ≠ 0 := by rcases hkey with rfl | rfl | rfl | rfl | rfl | rfl <;> decide
  have H1 := brackets_any _ zs k key w hr hk h h0
  have H2 : ∀ w, _ := fun w => between_go (bfind zs k (opn key) zs.length) ar w (fun a z hz => bfind_bound h hz)
  generalize bfind zs k (opn key) zs.length = T at H1 H2 ⊢
  obtain ⟨x, y, t⟩ : Int × Int × Bool := trip T
  have H1 : Hid (Calls Try.prog 71 #[.slice a zs.length cap, .int .i64 (k : Int), .int .i64 key] w fun e w' => e = .returned (.tuple #[.int .i64 (trip T).1, .int .i64 (trip T).2.1, .bool (trip T).2.2]) ∧ Below w.heap.size w w') := H1
  have H2 : Hid (∀ w : World, Calls Try.prog 72 #[.int .i64 (trip T).1, .int .i64 (trip T).2.1, .bool (trip T).2.2, .bool ar] w fun e w' => e = .returned (.tuple #[.int .i64 (otold ar T).1, .int .i64 (otold ar T).2.1, .int .i64 (otold ar T).2.2]) ∧ w' = w) := H2
  clear hr hk h0
  clear x y t
  generalize trip T = t at *
  generalize otold ar T = r at *
  obtain ⟨t1, t2, t3⟩ := t
  generalize ((zs.length - 1 : Nat) : Int) = M at *
  rcases hkey with rfl | rfl | rfl | rfl | rfl | rfl
  all_goals (
    go_enter Try.func59, Try.ntmps59
    go_wp2_with fail
    refine H1.out.mono ?_
    rintro e w1 ⟨rfl, hb⟩
    have HB : Hid (Below w.heap.size w w1) := hb
    clear hb
    go_wp2_with fail
    refine (H2.out w1).mono ?_
    rintro e w2 ⟨rfl, hw2⟩
    rw [hw2]
    clear hw2 w2
    go_wp2_with fail
    go_ret3
    exact ⟨rfl, HB.out⟩)

set_option maxHeartbeats 4000000 in
theorem of_quote (a : Option Addr) (cap : Nat) (zs : List Int) (k : Nat) (ar : Bool) (key : Int) (w : World) (hr : Reads w (.slice a zs.length cap) zs) (h : zs.length ≤ 4096) (hk : k ≤ zs.length - 1) (hkey : key = 34 ∨ key = 39 ∨ key = 96) :
    Calls Try.prog 59 #[.slice a zs.length cap, .int .i64 (k : Int), .bool ar, .int .i64 key] w fun e w' => ThingPost (otold ar (qfind (fn zs) key k zs.length 0 none)) w e w' := by
  have hmax : (if (zs.length : Int) - 1 < 0 then (0 : Int) else (zs.length : Int) - 1) = ((zs.length - 1 : Nat) : Int) := by split <;> omega
  have hk2 : (k : Int) ≤ ((zs.length - 1 : Nat) : Int) := by omega
  have H1 := quotes_any _ zs k key w hr (by omega) h
  have H2 : ∀ w, _ := fun w => between_go (qfind (fn zs) key k zs.length 0 none) ar w (fun a z hz => qfind_bound h hz)
  generalize qfind (fn zs) key k zs.length 0 none = T at H1 H2 ⊢
  have H1 : Hid (Calls Try.prog 73 #[.slice a zs.length cap, .int .i64 (k : Int), .int .i64 key] w fun e w' => e = .returned (.tuple #[.int .i64 (trip T).1, .int .i64 (trip T).2.1, .bool (trip T).2.2]) ∧ w' = w) := H1
  have H2 : Hid (∀ w : World, Calls Try.prog 72 #[.int .i64 (trip T).1, .int .i64 (trip T).2.1, .bool (trip T).2.2, .bool ar] w fun e w' => e = .returned (.tuple #[.int .i64 (otold ar T).1, .int .i64 (otold ar T).2.1, .int .i64 (otold ar T).2.2]) ∧ w' = w) := H2
  clear hr hk
  generalize trip T = t at *
  generalize otold ar T = r at *
  obtain ⟨t1, t2, t3⟩ := t
  generalize ((zs.length - 1 : Nat) : Int) = M at *
  rcases hkey with rfl | rfl | rfl
  all_goals (
    go_enter Try.func59, Try.ntmps59
    go_wp2_with fail
    refine H1.out.mono ?_
    rintro e w1 ⟨rfl, hw1⟩
    rw [hw1]
    clear hw1 w1
    go_wp2_with fail
    refine (H2.out w).mono ?_
    rintro e w2 ⟨rfl, hw2⟩
    rw [hw2]
    clear hw2 w2
    go_wp2_with fail
    go_ret3
    exact ⟨rfl, Below.refl _ _⟩)

theorem sgn_cases {key : Int} (h : sgn key = true) : (key = 40 ∨ key = 41 ∨ key = 91 ∨ key = 93 ∨ key = 123 ∨ key = 125) ∨ (key = 34 ∨ key = 39 ∨ key = 96) := by
  unfold sgn at h
  rcases sort key with g | g | g
  · rcases opens_cases g.1 with g | g | g <;> omega
  · rcases shuts_cases g.2.1 with g | g | g <;> omega
  · rw [g.2.2] at h
    simp only [bne_self_eq_false, Bool.false_or, Bool.or_eq_true, beq_iff_eq] at h
    omega
theorem sgn_none {key : Int} (h : sgn key = false) : ¬ key = 40 ∧ ¬ key = 41 ∧ ¬ key = 91 ∧ ¬ key = 93 ∧ ¬ key = 123 ∧ ¬ key = 125 ∧ ¬ key = 34 ∧ ¬ key = 39 ∧ ¬ key = 96 := by
  refine ⟨?_, ?_, ?_, ?_, ?_, ?_, ?_, ?_, ?_⟩ <;> (rintro rfl; exact absurd h (by decide))

set_option maxHeartbeats 4000000 in
theorem of_key (a : Option Addr) (n cap : Nat) (k : Nat) (ar : Bool) (key : Int) (w : World) (h : n ≤ 4096) (hk : k ≤ n - 1) (h1 : ¬ (key = 119 ∨ key = 87)) (h2 : sgn key = false) :
    Calls Try.prog 59 #[.slice a n cap, .int .i64 (k : Int), .bool ar, .int .i64 key] w fun e w' => ThingPost (0, 0, 9) w e w' := by
  have hmax : (if (n : Int) - 1 < 0 then (0 : Int) else (n : Int) - 1) = ((n - 1 : Nat) : Int) := by split <;> omega
  have hk2 : (k : Int) ≤ ((n - 1 : Nat) : Int) := by omega
  obtain ⟨e1, e2, e3, e4, e5, e6, e7, e8, e9⟩ := sgn_none h2
  simp only [not_or] at h1
  obtain ⟨e10, e11⟩ := h1
  have g1 : (key == 40) = false := by simpa using e1
  have g2 : (key == 41) = false := by simpa using e2
  have g3 : (key == 91) = false := by simpa using e3
  have g4 : (key == 93) = false := by simpa using e4
  have g5 : (key == 123) = false := by simpa using e5
  have g6 : (key == 125) = false := by simpa using e6
  have g7 : (key == 34) = false := by simpa using e7
  have g8 : (key == 39) = false := by simpa using e8
  have g9 : (key == 96) = false := by simpa using e9
  have g10 : (key == 119) = false := by simpa using e10
  have g11 : (key == 87) = false := by simpa using e11
  clear e1 e2 e3 e4 e5 e6 e7 e8 e9 e10 e11 h2 hk
  generalize ((n - 1 : Nat) : Int) = M at *
  go_enter Try.func59, Try.ntmps59
  go_wp2_with fail
  go_ret3
  exact ⟨rfl, Below.refl _ _⟩

theorem Reads.most {w : World} {v : Value} {zs : List Int} (h : Reads w v zs) : zs.length ≤ maxLen := by
  rcases h with ⟨_, _, _, rfl⟩ | ⟨_, _, cap, _, h1, h2, _⟩
  · decide
  · omega
theorem thing_go (v : Value) (zs : List Int) (k : Int) (ar : Bool) (key : Int) (w : World) (hr : Reads w v zs) :
    Calls Try.prog 59 #[v, .int .i64 k, .bool ar, .int .i64 key] w fun e w' => ThingPost (thing zs k ar key) w e w' := by
  have hm := hr.most
  obtain ⟨a, cap, rfl⟩ := hr.shape
  by_cases h : 4096 < zs.length
  · rw [thing_large h]
    exact of_large a zs.length cap k ar key w h hm
  · by_cases hk : k < 0 ∨ ((zs.length - 1 : Nat) : Int) < k
    · rw [thing_arg h hk]
      exact of_arg a zs.length cap k ar key w (by omega) hk
    · obtain ⟨j, rfl⟩ : ∃ j : Nat, k = (j : Int) := ⟨k.toNat, by omega⟩
      have hj : j ≤ zs.length - 1 := by omega
      by_cases hw : key = 119 ∨ key = 87
      · rw [thing_word h hk hw]
        exact of_word a cap zs j ar key w hr (by omega) hj hw
      · cases hs : sgn key with
        | true =>
          rw [thing_sign h hk hs]
          rcases sgn_cases hs with hb | hq
          · have h0 : brk key ≠ 0 := by rcases hb with rfl | rfl | rfl | rfl | rfl | rfl <;> decide
            unfold pick
            rw [if_neg h0]
            exact of_bracket a cap zs j ar key w hr (by omega) hj hb
          · have h0 : brk key = 0 := by rcases hq with rfl | rfl | rfl <;> decide
            unfold pick
            rw [if_pos h0]
            exact of_quote a cap zs j ar key w hr (by omega) hj hq
        | false =>
          rw [thing_key h hk hw hs]
          exact of_key a zs.length cap j ar key w (by omega) hj hw hs
end Go.Proofs.Ytpgjaoemkadenab.Seek
