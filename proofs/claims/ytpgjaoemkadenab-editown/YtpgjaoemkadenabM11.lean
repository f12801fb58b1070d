/- Texts of one claim, one behind the other: Kind, Places, AtGo, NextGo. -/
import Derived.Test.YtpgjaoemkadenabM01
import Derived.Deep.Light
/- The contracts of word.inName, word.Kind and the document's Kind. -/
set_option linter.unusedVariables false
set_option linter.unusedSimpArgs false
set_option maxRecDepth 100000
namespace Go.Proofs.Ytpgjaoemkadenab.Plain
/-- Whether it may stand in a name. -/
def name (c : Int) : Bool := decide ((97 ≤ c ∧ c ≤ 122) ∨ (65 ≤ c ∧ c ≤ 90) ∨ (48 ≤ c ∧ c ≤ 57) ∨ c = 95 ∨ 128 ≤ c)
/-- P19: the kind of a number. -/
def kind (c : Int) (b : Bool) : Int := if c = 32 ∨ c = 9 then 0 else if b = true then 1 else if name c = true then 1 else 2
theorem kind_blank {c : Int} {b : Bool} (h : c = 32 ∨ c = 9) : kind c b = 0 := by unfold kind; rw [if_pos h]
theorem kind_big {c : Int} (h : ¬ (c = 32 ∨ c = 9)) : kind c true = 1 := by unfold kind; rw [if_neg h, if_pos rfl]
theorem kind_small {c : Int} (h : ¬ (c = 32 ∨ c = 9)) : kind c false = if name c = true then 1 else 2 := by unfold kind; rw [if_neg h, if_neg (by decide)]
/-- A Blank is one, big or not. -/
theorem kind_zero (c : Int) (b b' : Bool) : kind c b = 0 ↔ kind c b' = 0 := by
  by_cases h : c = 32 ∨ c = 9
  · rw [kind_blank h, kind_blank h]
  · unfold kind
    rw [if_neg h, if_neg h]
    constructor <;> intro h' <;> exact absurd h' (by split <;> first | decide | (split <;> decide))
end Go.Proofs.Ytpgjaoemkadenab.Plain
namespace Go.Proofs.Ytpgjaoemkadenab.Seek
open Go.RowKit Plain

set_option maxHeartbeats 1000000 in
theorem name_go (c : Int) (w : World) : Calls Try.prog 89 #[.int .i64 c] w fun e w' => e = .returned (.bool (name c)) ∧ w' = w := by
  obtain ⟨n, hn⟩ : ∃ n, n = name c := ⟨_, rfl⟩
  have Hn : Hid (n = name c) := hn
  rw [← hn]
  clear hn
  go_enter Try.func89, Try.ntmps89
  go_wp2_with fail
  all_goals (
    go_ret
    refine ⟨?_, rfl⟩
    rw [Hn.out]
    show Ending.returned (Value.bool _) = _
    refine congrArg (fun b => Ending.returned (Value.bool b)) ?_
    unfold name
    rw [Bool.eq_iff_iff]
    simp only [Bool.or_eq_true, decide_eq_true_eq, beq_iff_eq]
    first | omega | (simp only [true_iff]; omega))

set_option maxHeartbeats 1000000 in
theorem kind_go (c : Int) (b : Bool) (w : World) : Calls Try.prog 80 #[.int .i64 c, .bool b] w fun e w' => e = .returned (.int .i64 (kind c b)) ∧ w' = w := by
  by_cases h : c = 32 ∨ c = 9
  · have Hk : Hid (kind c b = 0) := kind_blank h
    rcases h with rfl | rfl
    · go_enter Try.func80, Try.ntmps80
      go_wp2_with fail
      go_ret
      rw [Hk.out]
      exact ⟨rfl, rfl⟩
    · go_enter Try.func80, Try.ntmps80
      go_wp2_with fail
      go_ret
      rw [Hk.out]
      exact ⟨rfl, rfl⟩
  · have g1 : (c == 32) = false := by simp only [not_or] at h; simp [h]
    have g2 : (c == 9) = false := by simp only [not_or] at h; simp [h]
    cases b with
    | true =>
      have Hk : Hid (kind c true = 1) := kind_big h
      clear h
      go_enter Try.func80, Try.ntmps80
      go_wp2_with fail
      go_ret
      rw [Hk.out]
      exact ⟨rfl, rfl⟩
    | false =>
      have Hk : Hid (kind c false = if name c = true then 1 else 2) := kind_small h
      clear h
      go_enter Try.func80, Try.ntmps80
      go_wp2_with fail
      refine (name_go c w).mono ?_
      rintro e w1 ⟨rfl, hw1⟩
      rw [hw1]
      clear hw1 w1
      cases hn : name c with
      | true =>
        rw [hn] at Hk
        clear hn
        go_wp2_with fail
        go_ret
        rw [Hk.out]
        exact ⟨rfl, rfl⟩
      | false =>
        rw [hn] at Hk
        clear hn
        go_wp2_with fail
        go_ret
        rw [Hk.out]
        exact ⟨rfl, rfl⟩

end Go.Proofs.Ytpgjaoemkadenab.Seek

/- Plain mathematics: the kinds along a line; where words begin and end; the first such place behind another, the last ahead of it. -/
set_option linter.unusedVariables false
set_option linter.unusedSimpArgs false
set_option maxRecDepth 100000
namespace Go.Proofs.Ytpgjaoemkadenab.Plain
/-- The kind at a place; Blank beyond the end. -/
def knd (zs : List Int) (b : Bool) (i : Nat) : Int := if i < zs.length then kind (zs.getD i 0) b else 0
theorem knd_in {zs : List Int} {b : Bool} {i : Nat} (h : i < zs.length) : knd zs b i = kind (zs.getD i 0) b := if_pos h
theorem knd_out {zs : List Int} {b : Bool} {i : Nat} (h : zs.length ≤ i) : knd zs b i = 0 := if_neg (by omega)
/-- Does a word begin there (at a place but the first)? -/
def bgn (zs : List Int) (b : Bool) (i : Nat) : Bool := knd zs b i != 0 && knd zs b i != knd zs b (i - 1)
/-- Does a word end there? -/
def fin (zs : List Int) (b : Bool) (i : Nat) : Bool := knd zs b i != 0 && knd zs b i != knd zs b (i + 1)
/-- The first of so many places from i on at which p holds, else d. -/
def firstUp (p : Nat → Bool) (d : Int) : Nat → Nat → Int
  | 0, _ => d
  | n + 1, i => if p i = true then (i : Int) else firstUp p d n (i + 1)
/-- The first place from i on, ahead of n, at which p holds, else d. -/
def up (p : Nat → Bool) (d : Int) (n i : Nat) : Int := firstUp p d (n - i) i
/-- The last place ahead of i at which p holds, else 0. -/
def down (p : Nat → Bool) : Nat → Nat
  | 0 => 0
  | i + 1 => if p i = true then i else down p i
theorem up_done {p : Nat → Bool} {d : Int} {n i : Nat} (h : n ≤ i) : up p d n i = d := by
  unfold up
  rw [show n - i = 0 by omega]
  rfl
theorem up_hit {p : Nat → Bool} {d : Int} {n i : Nat} (h : i < n) (hp : p i = true) : up p d n i = (i : Int) := by
  unfold up
  rw [show n - i = (n - (i + 1)) + 1 by omega]
  unfold firstUp
  rw [if_pos hp]
theorem up_miss {p : Nat → Bool} {d : Int} {n i : Nat} (h : i < n) (hp : p i = false) : up p d n i = up p d n (i + 1) := by
  unfold up
  rw [show n - i = (n - (i + 1)) + 1 by omega]
  exact if_neg (by rw [hp]; decide)
theorem firstUp_spec (p : Nat → Bool) (d : Int) : ∀ (n i : Nat), (∃ j : Nat, firstUp p d n i = (j : Int) ∧ i ≤ j ∧ j < i + n ∧ p j = true ∧ ∀ x, i ≤ x → x < j → p x = false) ∨
    (firstUp p d n i = d ∧ ∀ x, i ≤ x → x < i + n → p x = false)
  | 0, i => .inr ⟨rfl, fun x h1 h2 => absurd h2 (by omega)⟩
  | n + 1, i => by
    unfold firstUp
    cases hp : p i with
    | true => exact .inl ⟨i, if_pos rfl, by omega, by omega, hp, fun x h1 h2 => absurd h2 (by omega)⟩
    | false =>
      rw [if_neg (by decide)]
      have step : ∀ x, i ≤ x → x = i ∨ i + 1 ≤ x := fun x h => by omega
      rcases firstUp_spec p d n (i + 1) with ⟨j, h1, h2, h3, h4, h5⟩ | ⟨h1, h2⟩
      · refine .inl ⟨j, h1, by omega, by omega, h4, fun x hx1 hx2 => ?_⟩
        rcases step x hx1 with rfl | h
        · exact hp
        · exact h5 x h hx2
      · refine .inr ⟨h1, fun x hx1 hx2 => ?_⟩
        rcases step x hx1 with rfl | h
        · exact hp
        · exact h2 x h (by omega)
theorem up_spec (p : Nat → Bool) (d : Int) (n i : Nat) : (∃ j : Nat, up p d n i = (j : Int) ∧ i ≤ j ∧ j < n ∧ p j = true ∧ ∀ x, i ≤ x → x < j → p x = false) ∨
    (up p d n i = d ∧ ∀ x, i ≤ x → x < n → p x = false) := by
  rcases firstUp_spec p d (n - i) i with ⟨j, h1, h2, h3, h4, h5⟩ | ⟨h1, h2⟩
  · exact .inl ⟨j, h1, h2, by omega, h4, h5⟩
  · exact .inr ⟨h1, fun x hx1 hx2 => h2 x hx1 (by omega)⟩
theorem down_hit {p : Nat → Bool} {i : Nat} (hp : p i = true) : down p (i + 1) = i := by
  show (if p i = true then i else down p i) = i
  rw [if_pos hp]
theorem down_miss {p : Nat → Bool} {i : Nat} (hp : p i = false) : down p (i + 1) = down p i := by
  show (if p i = true then i else down p i) = down p i
  rw [if_neg (by rw [hp]; decide)]
theorem down_small (p : Nat → Bool) : ∀ {i : Nat}, i ≤ 1 → down p i = 0
  | 0, _ => rfl
  | 1, _ => by
    show (if p 0 = true then 0 else down p 0) = 0
    split <;> rfl
  | i + 2, h => absurd h (by omega)
theorem down_spec (p : Nat → Bool) : ∀ i : Nat, (down p i < i ∧ p (down p i) = true ∧ ∀ x, down p i < x → x < i → p x = false) ∨ (down p i = 0 ∧ ∀ x, x < i → p x = false)
  | 0 => .inr ⟨rfl, fun x h => absurd h (by omega)⟩
  | i + 1 => by
    cases hp : p i with
    | true =>
      rw [down_hit hp]
      exact .inl ⟨by omega, hp, fun x h1 h2 => absurd h2 (by omega)⟩
    | false =>
      rw [down_miss hp]
      have step : ∀ x, x < i + 1 → x = i ∨ x < i := fun x h => by omega
      rcases down_spec p i with ⟨h1, h2, h3⟩ | ⟨h1, h2⟩
      · refine .inl ⟨by omega, h2, fun x hx1 hx2 => ?_⟩
        rcases step x hx2 with rfl | h
        · exact hp
        · exact h3 x hx1 h
      · refine .inr ⟨h1, fun x hx => ?_⟩
        rcases step x hx with rfl | h
        · exact hp
        · exact h2 x h
/-- Which error there is. -/
def chk (n : Nat) (k : Int) : Int := if 4096 < n then 2 else if k < 0 ∨ (n : Int) < k then 1 else 0
/-- P20, P21: the answers. -/
def next (zs : List Int) (k : Int) (b : Bool) : Int := if chk zs.length k = 0 then up (bgn zs b) zs.length zs.length (k.toNat + 1) else 0
def back (zs : List Int) (k : Int) (b : Bool) : Int := if chk zs.length k = 0 then (down (bgn zs b) k.toNat : Int) else 0
def last (zs : List Int) (k : Int) (b : Bool) : Int := if chk zs.length k = 0 then up (fin zs b) ((zs.length - 1 : Nat) : Int) zs.length (k.toNat + 1) else 0
theorem chk_zero {n : Nat} {k : Int} (h : chk n k = 0) : n ≤ 4096 ∧ ∃ j : Nat, k = (j : Int) ∧ j ≤ n := by
  unfold chk at h
  by_cases h1 : 4096 < n
  · rw [if_pos h1] at h
    exact absurd h (by decide)
  · rw [if_neg h1] at h
    by_cases h2 : k < 0 ∨ (n : Int) < k
    · rw [if_pos h2] at h
      exact absurd h (by decide)
    · exact ⟨by omega, k.toNat, by omega, by omega⟩
theorem chk_right {n j : Nat} (h1 : n ≤ 4096) (h2 : j ≤ n) : chk n (j : Int) = 0 := by
  unfold chk
  rw [if_neg (by omega), if_neg (by omega)]
theorem chk_cases (n : Nat) (k : Int) : chk n k = 0 ∨ chk n k = 1 ∨ chk n k = 2 := by
  unfold chk
  split
  · exact .inr (.inr rfl)
  · split
    · exact .inr (.inl rfl)
    · exact .inl rfl
end Go.Proofs.Ytpgjaoemkadenab.Plain

/- The contracts of word.kindAt, word.begins, word.ends, word.check, and of the document's begins and ends. -/
set_option linter.unusedVariables false
set_option linter.unusedSimpArgs false
set_option maxRecDepth 100000
namespace Go.Proofs.Ytpgjaoemkadenab.Seek
open Go.RowKit Plain

theorem kindAt_go (v : Value) (zs : List Int) (x : Int) (i : Nat) (b : Bool) (w : World) (hp : Reads w v zs) (hx : x = (i : Int)) :
    Calls Try.prog 69 #[v, .int .i64 x, .bool b] w fun e w' => e = .returned (.int .i64 (knd zs b i)) ∧ w' = w := by
  subst hx
  by_cases hi : i < zs.length
  · rcases hp with ⟨_, _, _, rfl⟩ | ⟨bl, o, c, rfl, _, _, _, hc⟩
    · exact absurd hi (by simp)
    · have hcx := hc i hi
      clear hc
      rw [knd_in hi]
      generalize zs.getD i 0 = z at *
      have hI : (i : Int) < (zs.length : Int) := by omega
      go_enter Try.func69, Try.ntmps69
      go_wp2_with fail
      refine (kind_go z b w).mono ?_
      rintro e w1 ⟨rfl, hw1⟩
      rw [hw1]
      clear hw1 w1
      go_wp2_with fail
      go_ret
      exact ⟨rfl, rfl⟩
  · obtain ⟨a, cap, rfl⟩ := hp.shape
    rw [knd_out (by omega)]
    have hI : (zs.length : Int) ≤ (i : Int) := by omega
    clear hp
    go_enter Try.func69, Try.ntmps69
    go_wp2_with fail
    go_ret
    exact ⟨rfl, rfl⟩

theorem begins_go (v : Value) (zs : List Int) (m : Nat) (b : Bool) (w : World) (hp : Reads w v zs) (hm : 1 ≤ m) (hm2 : m ≤ 4096) :
    Calls Try.prog 58 #[v, .int .i64 (m : Int), .bool b] w fun e w' => e = .returned (.bool (bgn zs b m)) ∧ w' = w := by
  have Hb : Hid (bgn zs b m = (knd zs b m != 0 && knd zs b m != knd zs b (m - 1))) := rfl
  have Hp : Hid (Reads w v zs) := hp
  clear hp
  go_enter Try.func58, Try.ntmps58
  go_wp2_with fail
  refine (kindAt_go v zs (m : Int) m b w Hp.out rfl).mono ?_
  rintro e w1 ⟨rfl, hw1⟩
  rw [hw1]
  clear hw1 w1
  obtain ⟨K, hK⟩ : ∃ K, K = knd zs b m := ⟨_, rfl⟩
  rw [← hK] at Hb ⊢
  clear hK
  cases h0 : (K != 0) with
  | false =>
    rw [h0] at Hb
    go_wp2_with fail
    go_ret
    rw [Hb.out]
    exact ⟨rfl, rfl⟩
  | true =>
    rw [h0] at Hb
    go_wp2_with fail
    refine (kindAt_go v zs ((m : Int) - 1) (m - 1) b w Hp.out (by omega)).mono ?_
    rintro e w1 ⟨rfl, hw1⟩
    rw [hw1]
    clear hw1 w1
    go_wp2_with fail
    go_ret
    rw [Hb.out]
    exact ⟨rfl, rfl⟩

theorem ends_go (v : Value) (zs : List Int) (m : Nat) (b : Bool) (w : World) (hp : Reads w v zs) (hm2 : m ≤ 4096) :
    Calls Try.prog 90 #[v, .int .i64 (m : Int), .bool b] w fun e w' => e = .returned (.bool (fin zs b m)) ∧ w' = w := by
  have Hb : Hid (fin zs b m = (knd zs b m != 0 && knd zs b m != knd zs b (m + 1))) := rfl
  have Hp : Hid (Reads w v zs) := hp
  clear hp
  go_enter Try.func90, Try.ntmps90
  go_wp2_with fail
  refine (kindAt_go v zs (m : Int) m b w Hp.out rfl).mono ?_
  rintro e w1 ⟨rfl, hw1⟩
  rw [hw1]
  clear hw1 w1
  obtain ⟨K, hK⟩ : ∃ K, K = knd zs b m := ⟨_, rfl⟩
  rw [← hK] at Hb ⊢
  clear hK
  cases h0 : (K != 0) with
  | false =>
    rw [h0] at Hb
    go_wp2_with fail
    go_ret
    rw [Hb.out]
    exact ⟨rfl, rfl⟩
  | true =>
    rw [h0] at Hb
    go_wp2_with fail
    refine (kindAt_go v zs ((m : Int) + 1) (m + 1) b w Hp.out (by omega)).mono ?_
    rintro e w1 ⟨rfl, hw1⟩
    rw [hw1]
    clear hw1 w1
    go_wp2_with fail
    go_ret
    rw [Hb.out]
    exact ⟨rfl, rfl⟩

theorem check_go (a : Option Addr) (n cap : Nat) (k : Int) (w : World) : Calls Try.prog 57 #[.slice a n cap, .int .i64 k] w fun e w' => e = .returned (.int .i64 (chk n k)) ∧ w' = w := by
  by_cases h1 : 4096 < n
  · have hk : chk n k = 2 := by unfold chk; rw [if_pos h1]
    rw [hk]
    clear hk
    have hI : (4096 : Int) < (n : Int) := by omega
    go_enter Try.func57, Try.ntmps57
    go_wp2_with fail
    go_ret
    exact ⟨rfl, rfl⟩
  · have hI : (n : Int) ≤ 4096 := by omega
    by_cases h2 : k < 0
    · have hk : chk n k = 1 := by unfold chk; rw [if_neg h1, if_pos (.inl h2)]
      rw [hk]
      clear hk h1
      go_enter Try.func57, Try.ntmps57
      go_wp2_with fail
      go_ret
      exact ⟨rfl, rfl⟩
    · by_cases h3 : (n : Int) < k
      · have hk : chk n k = 1 := by unfold chk; rw [if_neg h1, if_pos (.inr h3)]
        rw [hk]
        clear hk h1
        have h2' : 0 ≤ k := by omega
        clear h2
        go_enter Try.func57, Try.ntmps57
        go_wp2_with fail
        go_ret
        exact ⟨rfl, rfl⟩
      · have hk : chk n k = 0 := by unfold chk; rw [if_neg h1, if_neg (by omega)]
        rw [hk]
        clear hk h1
        have h2' : 0 ≤ k := by omega
        have h3' : k ≤ (n : Int) := by omega
        clear h2 h3
        go_enter Try.func57, Try.ntmps57
        go_wp2_with fail
        go_ret
        exact ⟨rfl, rfl⟩

end Go.Proofs.Ytpgjaoemkadenab.Seek

/- The contracts of word.Next, word.Back and word.End. -/
set_option linter.unusedVariables false
set_option linter.unusedSimpArgs false
set_option maxRecDepth 100000
namespace Go.Proofs.Ytpgjaoemkadenab.Seek
open Go.RowKit Plain


set_option maxHeartbeats 1000000 in
theorem next_go (v : Value) (zs : List Int) (k : Int) (b : Bool) (w : World) (hp : Reads w v zs) :
    Calls Try.prog 85 #[v, .int .i64 k, .bool b] w fun e w' => e = .returned (.tuple #[.int .i64 (next zs k b), .int .i64 (chk zs.length k)]) ∧ w' = w := by
  obtain ⟨a, cap, rfl⟩ := hp.shape
  have Hp : Hid (Reads w (.slice a zs.length cap) zs) := hp
  clear hp
  obtain ⟨r, hr⟩ : ∃ r, r = next zs k b := ⟨_, rfl⟩
  rw [← hr]
  by_cases hc : chk zs.length k = 0
  · obtain ⟨hl, j, hk, hj⟩ := chk_zero hc
    have Hr : Hid (up (bgn zs b) (zs.length : Int) zs.length (j + 1) = r) := by
      rw [hr]
      unfold next
      rw [if_pos hc, hk]
      rfl
    subst hk
    have Hc : Hid (chk zs.length (j : Int) = 0) := hc
    rw [hc]
    clear hc hr
    go_enter Try.func85, Try.ntmps85
    go_wp2_with fail
    refine (check_go a zs.length cap (j : Int) w).mono ?_
    rintro e w1 ⟨rfl, hw1⟩
    rw [hw1, Hc.out]
    clear hw1 w1 Hc
    go_wp2_with fail
    go_loop [9] (fun u9 => ∃ m : Nat, u9 = .int .i64 (m : Int) ∧ 1 ≤ m ∧ m ≤ zs.length + 1 ∧ Hid (up (bgn zs b) (zs.length : Int) zs.length m = r)) (fun u9 => zs.length + 1 - (intOf u9).toNat)
    case atStart => exact ⟨j + 1, by simp, by omega, by omega, Hr.out⟩
    case round =>
      obtain ⟨m, rfl, hm1, hm2, Hm⟩ := hrel
      by_cases hlt : m < zs.length
      · have hI : (m : Int) < (zs.length : Int) := by omega
        go_wp2_with fail
        refine (begins_go _ zs m b w Hp.out hm1 (by omega)).mono ?_
        rintro e w1 ⟨rfl, hw1⟩
        rw [hw1]
        clear hw1 w1
        cases hb : bgn zs b m with
        | true =>
          have Hm2 : Hid ((m : Int) = r) := (up_hit hlt hb).symm.trans Hm.out
          clear hb Hm
          go_wp2_with fail
          go_ret2
          rw [← Hm2.out]
          exact ⟨rfl, rfl⟩
        | false =>
          have Hm2 : Hid (up (bgn zs b) (zs.length : Int) zs.length (m + 1) = r) := (up_miss hlt hb).symm.trans Hm.out
          clear hb Hm
          go_wp2_with fail
          go_round
          case rel => exact ⟨m + 1, by go_num, by omega, by omega, Hm2.out⟩
          case measure => simp [intOf]; omega
      · have hI : (zs.length : Int) ≤ (m : Int) := by omega
        have Hm2 : Hid ((zs.length : Int) = r) := (up_done (by omega)).symm.trans Hm.out
        clear Hm
        go_wp2_with fail
        all_goals (
          go_ret2
          rw [← Hm2.out]
          refine ⟨?_, rfl⟩
          show Ending.returned (.tuple #[.int .i64 _, .int .i64 0]) = _
          refine congrArg (fun x => Ending.returned (.tuple #[.int .i64 x, .int .i64 0])) ?_
          omega)
  · have Hr : Hid (r = 0) := by
      rw [hr]
      unfold next
      exact if_neg hc
    obtain ⟨c, hcc⟩ : ∃ c, c = chk zs.length k := ⟨_, rfl⟩
    rw [← hcc] at hc ⊢
    have Hc : Hid (chk zs.length k = c) := hcc.symm
    have hcb : (c != 0) = true := by simpa using hc
    clear hc hcc hr
    go_enter Try.func85, Try.ntmps85
    go_wp2_with fail
    refine (check_go a zs.length cap k w).mono ?_
    rintro e w1 ⟨rfl, hw1⟩
    rw [hw1, Hc.out]
    clear hw1 w1 Hc
    go_wp2_with fail
    go_ret2
    rw [Hr.out]
    exact ⟨rfl, rfl⟩

set_option maxHeartbeats 1000000 in
theorem last_go (v : Value) (zs : List Int) (k : Int) (b : Bool) (w : World) (hp : Reads w v zs) :
    Calls Try.prog 86 #[v, .int .i64 k, .bool b] w fun e w' => e = .returned (.tuple #[.int .i64 (last zs k b), .int .i64 (chk zs.length k)]) ∧ w' = w := by
  obtain ⟨a, cap, rfl⟩ := hp.shape
  have Hp : Hid (Reads w (.slice a zs.length cap) zs) := hp
  clear hp
  obtain ⟨r, hr⟩ : ∃ r, r = last zs k b := ⟨_, rfl⟩
  rw [← hr]
  by_cases hc : chk zs.length k = 0
  · obtain ⟨hl, j, hk, hj⟩ := chk_zero hc
    have Hr : Hid (up (fin zs b) ((zs.length - 1 : Nat) : Int) zs.length (j + 1) = r) := by
      rw [hr]
      unfold last
      rw [if_pos hc, hk]
      rfl
    subst hk
    have Hc : Hid (chk zs.length (j : Int) = 0) := hc
    rw [hc]
    clear hc hr
    go_enter Try.func86, Try.ntmps86
    go_wp2_with fail
    refine (check_go a zs.length cap (j : Int) w).mono ?_
    rintro e w1 ⟨rfl, hw1⟩
    rw [hw1, Hc.out]
    clear hw1 w1 Hc
    go_wp2_with fail
    go_loop [9] (fun u9 => ∃ m : Nat, u9 = .int .i64 (m : Int) ∧ 1 ≤ m ∧ m ≤ zs.length + 1 ∧ Hid (up (fin zs b) ((zs.length - 1 : Nat) : Int) zs.length m = r)) (fun u9 => zs.length + 1 - (intOf u9).toNat)
    case atStart => exact ⟨j + 1, by simp, by omega, by omega, Hr.out⟩
    case round =>
      obtain ⟨m, rfl, hm1, hm2, Hm⟩ := hrel
      by_cases hlt : m < zs.length
      · have hI : (m : Int) < (zs.length : Int) := by omega
        go_wp2_with fail
        refine (ends_go _ zs m b w Hp.out  (by omega)).mono ?_
        rintro e w1 ⟨rfl, hw1⟩
        rw [hw1]
        clear hw1 w1
        cases hb : fin zs b m with
        | true =>
          have Hm2 : Hid ((m : Int) = r) := (up_hit hlt hb).symm.trans Hm.out
          clear hb Hm
          go_wp2_with fail
          go_ret2
          rw [← Hm2.out]
          exact ⟨rfl, rfl⟩
        | false =>
          have Hm2 : Hid (up (fin zs b) ((zs.length - 1 : Nat) : Int) zs.length (m + 1) = r) := (up_miss hlt hb).symm.trans Hm.out
          clear hb Hm
          go_wp2_with fail
          go_round
          case rel => exact ⟨m + 1, by go_num, by omega, by omega, Hm2.out⟩
          case measure => simp [intOf]; omega
      · have hI : (zs.length : Int) ≤ (m : Int) := by omega
        have Hm2 : Hid (((zs.length - 1 : Nat) : Int) = r) := (up_done (by omega)).symm.trans Hm.out
        clear Hm
        go_wp2_with fail
        all_goals (
          go_ret2
          rw [← Hm2.out]
          refine ⟨?_, rfl⟩
          show Ending.returned (.tuple #[.int .i64 _, .int .i64 0]) = _
          refine congrArg (fun x => Ending.returned (.tuple #[.int .i64 x, .int .i64 0])) ?_
          omega)
  · have Hr : Hid (r = 0) := by
      rw [hr]
      unfold last
      exact if_neg hc
    obtain ⟨c, hcc⟩ : ∃ c, c = chk zs.length k := ⟨_, rfl⟩
    rw [← hcc] at hc ⊢
    have Hc : Hid (chk zs.length k = c) := hcc.symm
    have hcb : (c != 0) = true := by simpa using hc
    clear hc hcc hr
    go_enter Try.func86, Try.ntmps86
    go_wp2_with fail
    refine (check_go a zs.length cap k w).mono ?_
    rintro e w1 ⟨rfl, hw1⟩
    rw [hw1, Hc.out]
    clear hw1 w1 Hc
    go_wp2_with fail
    go_ret2
    rw [Hr.out]
    exact ⟨rfl, rfl⟩

set_option maxHeartbeats 1000000 in
theorem back_go (v : Value) (zs : List Int) (k : Int) (b : Bool) (w : World) (hp : Reads w v zs) :
    Calls Try.prog 46 #[v, .int .i64 k, .bool b] w fun e w' => e = .returned (.tuple #[.int .i64 (back zs k b), .int .i64 (chk zs.length k)]) ∧ w' = w := by
  obtain ⟨a, cap, rfl⟩ := hp.shape
  have Hp : Hid (Reads w (.slice a zs.length cap) zs) := hp
  clear hp
  obtain ⟨r, hr⟩ : ∃ r, r = back zs k b := ⟨_, rfl⟩
  rw [← hr]
  by_cases hc : chk zs.length k = 0
  · obtain ⟨hl, j, hk, hj⟩ := chk_zero hc
    have Hr : Hid ((down (bgn zs b) j : Int) = r) := by
      rw [hr]
      unfold back
      rw [if_pos hc, hk]
      rfl
    subst hk
    have Hc : Hid (chk zs.length (j : Int) = 0) := hc
    rw [hc]
    clear hc hr
    go_enter Try.func46, Try.ntmps46
    go_wp2_with fail
    refine (check_go a zs.length cap (j : Int) w).mono ?_
    rintro e w1 ⟨rfl, hw1⟩
    rw [hw1, Hc.out]
    clear hw1 w1 Hc
    go_wp2_with fail
    go_loop [9] (fun u9 => ∃ m : Nat, u9 = .int .i64 ((m : Int) - 1) ∧ m ≤ zs.length ∧ Hid ((down (bgn zs b) m : Int) = r)) (fun u9 => (intOf u9 + 1).toNat)
    case atStart => exact ⟨j, by simp, by omega, Hr.out⟩
    case round =>
      obtain ⟨m, rfl, hm2, Hm⟩ := hrel
      by_cases hlt : 1 < m
      · obtain ⟨i, rfl⟩ : ∃ i, m = i + 1 := ⟨m - 1, by omega⟩
        have e1 : ((i + 1 : Nat) : Int) - 1 = (i : Int) := by omega
        rw [e1]
        clear e1
        have hI : (0 : Int) < (i : Int) := by omega
        go_wp2_with fail
        refine (begins_go _ zs i b w Hp.out (by omega) (by omega)).mono ?_
        rintro e w1 ⟨rfl, hw1⟩
        rw [hw1]
        clear hw1 w1
        cases hb : bgn zs b i with
        | true =>
          have Hm2 : Hid ((i : Int) = r) := by
            have h := Hm.out
            rw [down_hit hb] at h
            exact h
          clear hb Hm
          go_wp2_with fail
          go_ret2
          rw [← Hm2.out]
          exact ⟨rfl, rfl⟩
        | false =>
          have Hm2 : Hid ((down (bgn zs b) i : Int) = r) := by
            have h := Hm.out
            rw [down_miss hb] at h
            exact h
          clear hb Hm
          go_wp2_with fail
          go_round
          case rel => exact ⟨i, by go_num, by omega, Hm2.out⟩
          case measure => simp [intOf]
      · have hI : (m : Int) - 1 ≤ 0 := by omega
        have Hm2 : Hid ((0 : Int) = r) := by
          have h := Hm.out
          rw [down_small (bgn zs b) (by omega)] at h
          exact h
        clear Hm
        go_wp2_with fail
        go_ret2
        rw [← Hm2.out]
        exact ⟨rfl, rfl⟩
  · have Hr : Hid (r = 0) := by
      rw [hr]
      unfold back
      exact if_neg hc
    obtain ⟨c, hcc⟩ : ∃ c, c = chk zs.length k := ⟨_, rfl⟩
    rw [← hcc] at hc ⊢
    have Hc : Hid (chk zs.length k = c) := hcc.symm
    have hcb : (c != 0) = true := by simpa using hc
    clear hc hcc hr
    go_enter Try.func46, Try.ntmps46
    go_wp2_with fail
    refine (check_go a zs.length cap k w).mono ?_
    rintro e w1 ⟨rfl, hw1⟩
    rw [hw1, Hc.out]
    clear hw1 w1 Hc
    go_wp2_with fail
    go_ret2
    rw [Hr.out]
    exact ⟨rfl, rfl⟩
end Go.Proofs.Ytpgjaoemkadenab.Seek
