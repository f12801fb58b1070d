/- Texts of one claim, one behind the other: Moves, CheckGo, PartsGo, MateGo. -/
import Derived.Test.YtpgjaoemkadenabM11
import Derived.Test.YtpgjaoemkadenabM13
import Derived.Deep.Light
import Derived.BigQuiet
/- Plain mathematics: where a key leads to. -/
set_option linter.unusedVariables false
set_option linter.unusedSimpArgs false
set_option maxRecDepth 100000
namespace Go.Proofs.Ytpgjaoemkadenab.Plain
open Seek
/-- P22: the keys. -/
def isk (c : Int) : Bool := decide (c = 104 ∨ c = 108 ∨ c = 48 ∨ c = 94 ∨ c = 98 ∨ c = 66 ∨ c = 36 ∨ c = 124 ∨ c = 119 ∨ c = 87 ∨ c = 101 ∨ c = 69 ∨ c = 37 ∨ c = 102 ∨ c = 116 ∨ c = 70 ∨ c = 84)
/-- Whether a key takes the character with it. -/
def wth (c : Int) : Bool := decide (c = 36 ∨ c = 101 ∨ c = 69 ∨ c = 37 ∨ c = 102 ∨ c = 116)
/-- P22: the error. -/
def mchk (n : Nat) (k c key : Int) : Int := if 4096 < n then 2 else if k < 0 ∨ max ((n : Int) - 1) 0 < k ∨ c < 0 ∨ 999 < c then 1 else if isk key = true then 0 else 9
/-- So many times. -/
def iter (f : Int → Int) : Nat → Int → Int
  | 0, k => k
  | n + 1, k => f (iter f n k)
/-- The n-th place from a place on, going up. -/
def goUp (p : Nat → Bool) : Nat → Nat → Nat → Option Nat
  | 0, _, _ => none
  | f + 1, i, n => if p i = true then (if n = 1 then some i else goUp p f (i + 1) (n - 1)) else goUp p f (i + 1) n
/-- The n-th place ahead of a place, going down. -/
def goDn (p : Nat → Bool) : Nat → Nat → Option Nat
  | 0, _ => none
  | i + 1, n => if p i = true then (if n = 1 then some i else goDn p i (n - 1)) else goDn p i n
def hit (zs : List Int) (c : Int) (i : Nat) : Bool := zs.getD i 0 == c
def told (o : Option Nat) : Int × Bool := match o with | some i => ((i : Int), true) | none => (0, false)
def rightHit (zs : List Int) (k n : Nat) (c : Int) : Int × Bool := told (goUp (hit zs c) (zs.length - (k + 1)) (k + 1) n)
def leftHit (zs : List Int) (k n : Nat) (c : Int) : Int × Bool := told (goDn (hit zs c) k n)
/-- The first character that is no Blank. -/
def solid (zs : List Int) : Int := up (fun i => knd zs false i != 0) (max ((zs.length : Int) - 1) 0) zs.length 0
/-- The partner of the first bracket. -/
def mate (zs : List Int) (k : Nat) : Int × Bool :=
  match up (fun i => brk (zs.getD i 0) != 0) (-1) zs.length k with
  | .ofNat i => (par (fn zs) zs.length i, decide (0 ≤ par (fn zs) zs.length i))
  | .negSucc _ => (0, false)
/-- The keys that fail on an empty line. -/
def lineLead (zs : List Int) (k n : Nat) (key arg : Int) (op : Bool) : Int × Bool :=
  if key = 36 then ((zs.length : Int) - 1, true)
  else if key = 124 then (min ((n : Int) - 1) ((zs.length : Int) - 1), true)
  else if key = 119 ∨ key = 87 then
    (if op = true then iter (fun x => next zs x (key == 87)) n k else min (iter (fun x => next zs x (key == 87)) n k) ((zs.length : Int) - 1),
     (if op = true then iter (fun x => next zs x (key == 87)) n k else min (iter (fun x => next zs x (key == 87)) n k) ((zs.length : Int) - 1)) != (k : Int))
  else if key = 101 ∨ key = 69 then (iter (fun x => last zs x (key == 69)) n k, op || iter (fun x => last zs x (key == 69)) n k != (k : Int))
  else if key = 37 then mate zs k
  else if key = 102 then rightHit zs k n arg
  else if key = 116 then ((rightHit zs k n arg).1 - 1, (rightHit zs k n arg).2)
  else if key = 70 then leftHit zs k n arg
  else if key = 84 then ((leftHit zs k n arg).1 + 1, (leftHit zs k n arg).2)
  else (0, false)
/-- The end that `l` may go to. -/
def endOf (zs : List Int) (op : Bool) : Int := if op = true then (zs.length : Int) else (zs.length : Int) - 1
/-- P23: where a motion leads to, and whether it does. -/
def lead (zs : List Int) (k n : Nat) (key arg : Int) (op : Bool) : Int × Bool :=
  if key = 104 then (max ((k : Int) - n) 0, decide (0 < (k : Int)))
  else if key = 108 then (min ((k : Int) + n) (endOf zs op), decide ((k : Int) < endOf zs op))
  else if key = 48 then (0, true)
  else if key = 94 then (solid zs, true)
  else if key = 98 ∨ key = 66 then (iter (fun x => back zs x (key == 66)) n k, decide (0 < (k : Int)))
  else if zs.length = 0 then (0, false)
  else lineLead zs k n key arg op
/-- N of P23. -/
def times (c : Int) : Nat := (max c 1).toNat
/-- P23: what Go tells. -/
def goes (zs : List Int) (k c key arg : Int) (op : Bool) : Int × Bool × Int :=
  if mchk zs.length k c key = 0 then
    (if (lead zs k.toNat (times c) key arg op).2 = true then ((lead zs k.toNat (times c) key arg op).1, wth key, 0) else (0, false, 5))
  else (0, false, mchk zs.length k c key)
/-- P24: what Range tells. -/
def ranges (zs : List Int) (k c key arg : Int) : Int × Int × Int :=
  if (goes zs k c key arg true).2.2 = 0 then
    (min k (goes zs k c key arg true).1, if (goes zs k c key arg true).2.1 = true then max k (goes zs k c key arg true).1 + 1 else max k (goes zs k c key arg true).1, 0)
  else (0, 0, (goes zs k c key arg true).2.2)
end Go.Proofs.Ytpgjaoemkadenab.Plain
namespace Go.Proofs.Ytpgjaoemkadenab.Plain
theorem goUp_lt (p : Nat → Bool) : ∀ (f i n j : Nat), goUp p f i n = some j → i ≤ j ∧ j < i + f ∧ p j = true
  | 0, _, _, _, h => by cases h
  | f + 1, i, n, j, h => by
    unfold goUp at h
    by_cases hp : p i = true
    · rw [if_pos hp] at h
      by_cases hn : n = 1
      · rw [if_pos hn] at h
        cases h
        exact ⟨by omega, by omega, hp⟩
      · rw [if_neg hn] at h
        obtain ⟨h1, h2, h3⟩ := goUp_lt p f _ _ _ h
        exact ⟨by omega, by omega, h3⟩
    · rw [if_neg hp] at h
      obtain ⟨h1, h2, h3⟩ := goUp_lt p f _ _ _ h
      exact ⟨by omega, by omega, h3⟩
theorem goDn_lt (p : Nat → Bool) : ∀ (i n j : Nat), goDn p i n = some j → j < i ∧ p j = true
  | 0, _, _, h => by cases h
  | i + 1, n, j, h => by
    unfold goDn at h
    by_cases hp : p i = true
    · rw [if_pos hp] at h
      by_cases hn : n = 1
      · rw [if_pos hn] at h
        cases h
        exact ⟨by omega, hp⟩
      · rw [if_neg hn] at h
        obtain ⟨h1, h2⟩ := goDn_lt p i _ _ h
        exact ⟨by omega, h2⟩
    · rw [if_neg hp] at h
      obtain ⟨h1, h2⟩ := goDn_lt p i _ _ h
      exact ⟨by omega, h2⟩
theorem told_low (o : Option Nat) : 0 ≤ (told o).1 := by
  unfold told
  split
  · exact Int.natCast_nonneg _
  · exact Int.le_refl _
theorem told_high (o : Option Nat) (m : Nat) (h : ∀ j, o = some j → j < m) : (told o).1 ≤ (m : Int) := by
  unfold told
  split
  · have := h _ rfl
    show (_ : Int) ≤ _
    omega
  · exact Int.natCast_nonneg _
theorem right_bounds (zs : List Int) (k n : Nat) (c : Int) : 0 ≤ (rightHit zs k n c).1 ∧ (rightHit zs k n c).1 ≤ (zs.length : Int) :=
  ⟨told_low _, told_high _ _ fun j hj => by have := goUp_lt _ _ _ _ _ hj; omega⟩
theorem left_bounds (zs : List Int) (k n : Nat) (c : Int) : 0 ≤ (leftHit zs k n c).1 ∧ (leftHit zs k n c).1 ≤ (k : Int) :=
  ⟨told_low _, told_high _ _ fun j hj => by have := goDn_lt _ _ _ _ hj; omega⟩
end Go.Proofs.Ytpgjaoemkadenab.Plain

/- The contracts of motion.isKey, motion.takesWith and motion.Check. -/
set_option linter.unusedVariables false
set_option linter.unusedSimpArgs false
set_option maxRecDepth 100000
namespace Go.Proofs.Ytpgjaoemkadenab.Seek
open Go.RowKit Plain

set_option maxHeartbeats 1000000 in
theorem isKey_go (c : Int) (w : World) : Calls Try.prog 75 #[.int .i64 c] w fun e w' => e = .returned (.bool (isk c)) ∧ w' = w := by
  by_cases h : c = 104 ∨ c = 108 ∨ c = 48 ∨ c = 94 ∨ c = 98 ∨ c = 66 ∨ c = 36 ∨ c = 124 ∨ c = 119 ∨ c = 87 ∨ c = 101 ∨ c = 69 ∨ c = 37 ∨ c = 102 ∨ c = 116 ∨ c = 70 ∨ c = 84
  · rcases h with rfl | rfl | rfl | rfl | rfl | rfl | rfl | rfl | rfl | rfl | rfl | rfl | rfl | rfl | rfl | rfl | rfl <;>
    · go_enter Try.func75, Try.ntmps75
      go_wp2_with fail
      go_ret
      exact ⟨rfl, rfl⟩
  · have hn : isk c = false := by unfold isk; simpa using h
    rw [hn]
    clear hn
    simp only [not_or] at h
    obtain ⟨h0, h1, h2, h3, h4, h5, h6, h7, h8, h9, h10, h11, h12, h13, h14, h15, h16⟩ := h
    have g0 : (c == 104) = false := by simpa using h0
    have g1 : (c == 108) = false := by simpa using h1
    have g2 : (c == 48) = false := by simpa using h2
    have g3 : (c == 94) = false := by simpa using h3
    have g4 : (c == 98) = false := by simpa using h4
    have g5 : (c == 66) = false := by simpa using h5
    have g6 : (c == 36) = false := by simpa using h6
    have g7 : (c == 124) = false := by simpa using h7
    have g8 : (c == 119) = false := by simpa using h8
    have g9 : (c == 87) = false := by simpa using h9
    have g10 : (c == 101) = false := by simpa using h10
    have g11 : (c == 69) = false := by simpa using h11
    have g12 : (c == 37) = false := by simpa using h12
    have g13 : (c == 102) = false := by simpa using h13
    have g14 : (c == 116) = false := by simpa using h14
    have g15 : (c == 70) = false := by simpa using h15
    have g16 : (c == 84) = false := by simpa using h16
    clear h0 h1 h2 h3 h4 h5 h6 h7 h8 h9 h10 h11 h12 h13 h14 h15 h16
    go_enter Try.func75, Try.ntmps75
    go_wp2_with fail
    go_ret
    exact ⟨rfl, rfl⟩

set_option maxHeartbeats 1000000 in
theorem takesWith_go (c : Int) (w : World) : Calls Try.prog 67 #[.int .i64 c] w fun e w' => e = .returned (.bool (wth c)) ∧ w' = w := by
  by_cases h : c = 36 ∨ c = 101 ∨ c = 69 ∨ c = 37 ∨ c = 102 ∨ c = 116
  · rcases h with rfl | rfl | rfl | rfl | rfl | rfl <;>
    · go_enter Try.func67, Try.ntmps67
      go_wp2_with fail
      go_ret
      exact ⟨rfl, rfl⟩
  · have hn : wth c = false := by unfold wth; simpa using h
    rw [hn]
    clear hn
    simp only [not_or] at h
    obtain ⟨h0, h1, h2, h3, h4, h5⟩ := h
    have g0 : (c == 36) = false := by simpa using h0
    have g1 : (c == 101) = false := by simpa using h1
    have g2 : (c == 69) = false := by simpa using h2
    have g3 : (c == 37) = false := by simpa using h3
    have g4 : (c == 102) = false := by simpa using h4
    have g5 : (c == 116) = false := by simpa using h5
    clear h0 h1 h2 h3 h4 h5
    go_enter Try.func67, Try.ntmps67
    go_wp2_with fail
    go_ret
    exact ⟨rfl, rfl⟩

theorem mbox24 (w : World) (o : Obj) : Below w.heap.size w (w.alloc o) := (Below.refl _ _).alloc (Nat.le_refl _) _

set_option maxHeartbeats 1000000 in
theorem mcheck_go (a : Option Addr) (n cap : Nat) (k c key arg : Int) (w : World) : Calls Try.prog 65 #[.slice a n cap, .int .i64 k, .agg #[.int .i64 key, .int .i64 c, .int .i64 arg]] w fun e w' =>
    e = .returned (.int .i64 (mchk n k c key)) ∧ Below w.heap.size w w' := by
  by_cases h1 : 4096 < n
  · have hk : mchk n k c key = 2 := by unfold mchk; rw [if_pos h1]
    rw [hk]
    clear hk
    have hI : (4096 : Int) < (n : Int) := by omega
    go_enter Try.func65, Try.ntmps65
    go_wp2_with fail
    go_ret
    exact ⟨rfl, mbox24 _ _⟩
  · have hI : (n : Int) ≤ 4096 := by omega
    obtain ⟨m, hm⟩ : ∃ m : Int, m = max ((n : Int) - 1) 0 := ⟨_, rfl⟩
    have Hm : Hid (m = max ((n : Int) - 1) 0) := hm
    by_cases h2 : k < 0
    · have hk : mchk n k c key = 1 := by unfold mchk; rw [if_neg h1, if_pos (.inl h2)]
      rw [hk]
      clear hk h1 hm
      go_enter Try.func65, Try.ntmps65
      go_wp2_with fail
      go_ret
      exact ⟨rfl, mbox24 _ _⟩
    · have h2' : 0 ≤ k := by omega
      by_cases h3 : m < k
      · have hk : mchk n k c key = 1 := by unfold mchk; rw [if_neg h1, if_pos (.inr (.inl (by omega)))]
        rw [hk]
        clear hk h1 h2
        have h4 : max ((n : Int) - 1) 0 < k := by omega
        clear hm
        go_enter Try.func65, Try.ntmps65
        go_wp2_with fail
        all_goals (
          go_ret
          exact ⟨rfl, mbox24 _ _⟩)
      · have h3' : k ≤ max ((n : Int) - 1) 0 := by omega
        by_cases h4 : c < 0
        · have hk : mchk n k c key = 1 := by unfold mchk; rw [if_neg h1, if_pos (.inr (.inr (.inl h4)))]
          rw [hk]
          clear hk h1 h2 h3 hm
          go_enter Try.func65, Try.ntmps65
          go_wp2_with fail
          all_goals (
            go_ret
            exact ⟨rfl, mbox24 _ _⟩)
        · have h4' : 0 ≤ c := by omega
          by_cases h5 : 999 < c
          · have hk : mchk n k c key = 1 := by unfold mchk; rw [if_neg h1, if_pos (.inr (.inr (.inr h5)))]
            rw [hk]
            clear hk h1 h2 h3 h4 hm
            go_enter Try.func65, Try.ntmps65
            go_wp2_with fail
            all_goals (
              go_ret
              exact ⟨rfl, mbox24 _ _⟩)
          · have h5' : c ≤ 999 := by omega
            cases hq : isk key
            · have hk : mchk n k c key = 9 := by unfold mchk; rw [if_neg h1, if_neg (by omega), hq]; rfl
              rw [hk]
              have Hq : Hid (isk key = false) := hq
              clear hk h1 h2 h3 h4 h5 hm hq
              go_enter Try.func65, Try.ntmps65
              go_wp2_with fail
              all_goals (
                refine (isKey_go key _).mono ?_
                rintro e w1 ⟨rfl, hw1⟩
                rw [hw1, Hq.out]
                clear hw1 w1
                go_wp2_with fail
                go_ret
                exact ⟨rfl, mbox24 _ _⟩)
            · have hk : mchk n k c key = 0 := by unfold mchk; rw [if_neg h1, if_neg (by omega), hq]; rfl
              rw [hk]
              have Hq : Hid (isk key = true) := hq
              clear hk h1 h2 h3 h4 h5 hm hq
              go_enter Try.func65, Try.ntmps65
              go_wp2_with fail
              all_goals (
                refine (isKey_go key _).mono ?_
                rintro e w1 ⟨rfl, hw1⟩
                rw [hw1, Hq.out]
                clear hw1 w1
                go_wp2_with fail
                go_ret
                exact ⟨rfl, mbox24 _ _⟩)
end Go.Proofs.Ytpgjaoemkadenab.Seek

/- The contracts of motion.toRight, motion.firstNotBlank, motion.again and motion.find. -/
set_option linter.unusedVariables false
set_option linter.unusedSimpArgs false
set_option maxRecDepth 100000
namespace Go.Proofs.Ytpgjaoemkadenab.Seek
open Go.RowKit Plain

set_option maxHeartbeats 1000000 in
theorem toRight_go (a : Option Addr) (zs : List Int) (cap k n : Nat) (op : Bool) (w : World) (hl : zs.length ≤ 4096) (hk : k ≤ 4096) (hn : n ≤ 999) :
    Calls Try.prog 76 #[.slice a zs.length cap, .int .i64 (k : Int), .int .i64 (n : Int), .bool op] w fun e w' =>
      e = .returned (.tuple #[.int .i64 (min ((k : Int) + n) (endOf zs op)), .bool (decide ((k : Int) < endOf zs op))]) ∧ w' = w := by
  cases op with
  | true =>
    have he : endOf zs true = (zs.length : Int) := rfl
    rw [he]
    clear he
    go_enter Try.func76, Try.ntmps76
    go_wp2_with fail
    all_goals (
      go_ret2
      refine ⟨?_, rfl⟩
      show Ending.returned (.tuple #[.int .i64 _, .bool (decide (k < zs.length))]) = _
      refine congrArg (fun x => Ending.returned (.tuple #[.int .i64 x, .bool (decide (k < zs.length))])) ?_
      omega)
  | false =>
    have he : endOf zs false = (zs.length : Int) - 1 := rfl
    rw [he]
    clear he
    go_enter Try.func76, Try.ntmps76
    go_wp2_with fail
    all_goals (
      go_ret2
      refine ⟨?_, rfl⟩
      show Ending.returned (.tuple #[.int .i64 _, .bool (decide ((k : Int) < (zs.length : Int) - 1))]) = _
      refine congrArg (fun x => Ending.returned (.tuple #[.int .i64 x, .bool (decide ((k : Int) < (zs.length : Int) - 1))])) ?_
      omega)

set_option maxHeartbeats 1000000 in
theorem solid_some (b off cap : Nat) (zs : List Int) (w : World) (hl : zs.length ≤ 4096)
    (hc : ∀ j, j < zs.length → w.cell? ⟨b, off + j, none⟩ = some (.int .i64 (zs.getD j 0))) :
    Calls Try.prog 77 #[.slice (some ⟨b, off, none⟩) zs.length cap] w fun e w' => e = .returned (.int .i64 (solid zs)) ∧ w' = w := by
  obtain ⟨r, hr⟩ : ∃ r, r = solid zs := ⟨_, rfl⟩
  have Hr : Hid (up (fun i => knd zs false i != 0) (max ((zs.length : Int) - 1) 0) zs.length 0 = r) := hr.symm
  have Hc : Hid (∀ j, j < zs.length → w.cell? ⟨b, off + j, none⟩ = some (.int .i64 (zs.getD j 0))) := hc
  rw [← hr]
  clear hr hc
  go_enter Try.func77, Try.ntmps77
  go_wp2_with fail
  go_loop [7] (fun u7 => ∃ m : Nat, u7 = .int .i64 (m : Int) ∧ m ≤ zs.length ∧ Hid (up (fun i => knd zs false i != 0) (max ((zs.length : Int) - 1) 0) zs.length m = r)) (fun u7 => zs.length - (intOf u7).toNat)
  case atStart => exact ⟨0, rfl, by omega, Hr.out⟩
  case round =>
    obtain ⟨m, rfl, hm, Hm⟩ := hrel
    by_cases hlt : m < zs.length
    · have hI : (m : Int) < (zs.length : Int) := by omega
      have hcx := Hc.out m hlt
      obtain ⟨z, hz⟩ : ∃ z, z = zs.getD m 0 := ⟨_, rfl⟩
      rw [← hz] at hcx
      have Hz : Hid (z = zs.getD m 0) := hz
      clear hz
      obtain ⟨q, hq⟩ : ∃ q, q = kind z false := ⟨_, rfl⟩
      have Hq : Hid (kind z false = q) := hq.symm
      have hk : knd zs false m = q := by rw [knd_in hlt, hq, Hz.out]
      clear hq
      by_cases h0 : q = 0
      · have Hm2 : Hid (up (fun i => knd zs false i != 0) (max ((zs.length : Int) - 1) 0) zs.length (m + 1) = r) := (up_miss hlt (by rw [hk, h0]; rfl)).symm.trans Hm.out
        clear Hm hk
        subst h0
        go_wp2_with fail
        refine (kind_go z false w).mono ?_
        rintro e w1 ⟨rfl, hw1⟩
        rw [hw1, Hq.out]
        clear hw1 w1
        go_wp2_with fail
        go_round
        case rel => exact ⟨m + 1, by go_num, by omega, Hm2.out⟩
        case measure => simp [intOf]; omega
      · have hqb : (q != 0) = true := by simpa using h0
        have Hm2 : Hid ((m : Int) = r) := (up_hit hlt (by rw [hk]; exact hqb)).symm.trans Hm.out
        clear Hm hk h0
        go_wp2_with fail
        refine (kind_go z false w).mono ?_
        rintro e w1 ⟨rfl, hw1⟩
        rw [hw1, Hq.out]
        clear hw1 w1
        go_wp2_with fail
        go_ret
        rw [← Hm2.out]
        exact ⟨rfl, rfl⟩
    · have hI : (zs.length : Int) ≤ (m : Int) := by omega
      have Hm2 : Hid (max ((zs.length : Int) - 1) 0 = r) := (up_done (by omega)).symm.trans Hm.out
      clear Hm
      go_wp2_with fail
      all_goals (
        go_ret
        rw [← Hm2.out]
        refine ⟨?_, rfl⟩
        show Ending.returned (.int .i64 _) = _
        refine congrArg (fun x => Ending.returned (.int .i64 x)) ?_
        omega)

theorem solid_nil (a : Option Addr) (cap : Nat) (w : World) : Calls Try.prog 77 #[.slice a 0 cap] w fun e w' => e = .returned (.int .i64 (solid [])) ∧ w' = w := by
  have h : solid [] = 0 := rfl
  rw [h]
  go_enter Try.func77, Try.ntmps77
  go_wp2_with fail
  go_loop [7] (fun u7 => u7 = .int .i64 0) (fun _ => 0)
  case atStart => rfl
  case round =>
    subst hrel
    go_wp2_with fail
    go_ret
    exact ⟨rfl, rfl⟩

theorem solid_go (v : Value) (zs : List Int) (w : World) (hp : Reads w v zs) (hl : zs.length ≤ 4096) :
    Calls Try.prog 77 #[v] w fun e w' => e = .returned (.int .i64 (solid zs)) ∧ w' = w := by
  rcases hp with ⟨a, cap, rfl, rfl⟩ | ⟨b, off, cap, rfl, _, _, _, hc⟩
  · exact solid_nil a cap w
  · exact solid_some b off cap zs w hl hc

set_option maxHeartbeats 1000000 in
theorem again_go (g : Nat) (f : Int → Int) (er : Int → Int) (a : Option Addr) (l cap : Nat) (k : Int) (n : Nat) (b : Bool) (w : World) (hg : g = 46 ∨ g = 85 ∨ g = 86) (hn : n ≤ 999)
    (H : ∀ x, Calls Try.prog g #[.slice a l cap, .int .i64 x, .bool b] w fun e w' => e = .returned (.tuple #[.int .i64 (f x), .int .i64 (er x)]) ∧ w' = w) :
    Calls Try.prog 78 #[.func (.func g) #[] #[], .slice a l cap, .int .i64 k, .int .i64 (n : Int), .bool b] w fun e w' => e = .returned (.int .i64 (iter f n k)) ∧ w' = w := by
  obtain ⟨r, hr⟩ : ∃ r, r = iter f n k := ⟨_, rfl⟩
  have Hr : Hid (r = iter f n k) := hr
  have HH : Hid (∀ x, Calls Try.prog g #[.slice a l cap, .int .i64 x, .bool b] w fun e w' => e = .returned (.tuple #[.int .i64 (f x), .int .i64 (er x)]) ∧ w' = w) := H
  rw [← hr]
  clear hr H
  rcases hg with rfl | rfl | rfl
  all_goals (
    go_enter Try.func78, Try.ntmps78
    go_wp2_with fail
    go_loop [2, 12] (fun u2 u12 => ∃ m : Nat, u2 = .int .i64 (iter f m k) ∧ u12 = .int .i64 (m : Int) ∧ m ≤ n) (fun u2 u12 => n - (intOf u12).toNat)
    case atStart => exact ⟨0, rfl, rfl, by omega⟩
    case round =>
      obtain ⟨m, h2, rfl, hm⟩ := hrel
      obtain ⟨x, hx⟩ : ∃ x, x = iter f m k := ⟨_, rfl⟩
      rw [← hx] at h2
      have Hx : Hid (x = iter f m k) := hx
      clear hx
      subst h2
      by_cases hlt : m < n
      · have hI : (m : Int) < (n : Int) := by omega
        go_wp2_with fail
        refine (HH.out x).mono ?_
        rintro e w1 ⟨rfl, hw1⟩
        rw [hw1]
        clear hw1 w1
        go_wp2_with fail
        go_round
        case rel => exact ⟨m + 1, by rw [Hx.out]; rfl, by go_num, by omega⟩
        case measure => simp [intOf]; omega
      · have hI : (n : Int) ≤ (m : Int) := by omega
        have hmn : m = n := by omega
        have Hm : Hid (x = r) := Hx.out.trans ((congrArg (fun q => iter f q k) hmn).trans Hr.out.symm)
        clear hmn
        go_wp2_with fail
        all_goals (
          go_ret
          rw [Hm.out]
          exact ⟨rfl, rfl⟩))

set_option maxHeartbeats 1000000 in
theorem find_right (b off cap : Nat) (zs : List Int) (k n : Nat) (c : Int) (w : World) (hl : zs.length ≤ 4096) (hk : k ≤ 4096) (hn : 1 ≤ n) (hn2 : n ≤ 999)
    (hc : ∀ j, j < zs.length → w.cell? ⟨b, off + j, none⟩ = some (.int .i64 (zs.getD j 0))) :
    Calls Try.prog 88 #[.slice (some ⟨b, off, none⟩) zs.length cap, .int .i64 (k : Int), .int .i64 (n : Int), .int .i64 1, .int .i64 c] w fun e w' =>
      e = .returned (.tuple #[.int .i64 (rightHit zs k n c).1, .bool (rightHit zs k n c).2]) ∧ w' = w := by
  obtain ⟨R, hR⟩ : ∃ R, R = goUp (hit zs c) (zs.length - (k + 1)) (k + 1) n := ⟨_, rfl⟩
  have hA : rightHit zs k n c = told R := by rw [hR]; rfl
  rw [hA]
  obtain ⟨r1, h1⟩ : ∃ r1, r1 = (told R).1 := ⟨_, rfl⟩
  obtain ⟨r2, h2⟩ : ∃ r2, r2 = (told R).2 := ⟨_, rfl⟩
  have H1 : Hid (r1 = (told R).1) := h1
  have H2 : Hid (r2 = (told R).2) := h2
  rw [← h1, ← h2]
  have HR : Hid (R = goUp (hit zs c) (zs.length - (k + 1)) (k + 1) n) := hR
  have Hc : Hid (∀ j, j < zs.length → w.cell? ⟨b, off + j, none⟩ = some (.int .i64 (zs.getD j 0))) := hc
  clear h1 h2 hR hA hc
  go_enter Try.func88, Try.ntmps88
  go_wp2_with fail
  go_loop [2, 12] (fun u2 u12 => ∃ m q : Nat, u2 = .int .i64 (q : Int) ∧ u12 = .int .i64 (m : Int) ∧ m ≤ 4097 ∧ 1 ≤ q ∧ q ≤ 999 ∧ Hid (R = goUp (hit zs c) (zs.length - m) m q)) (fun u2 u12 => 4098 - (intOf u12).toNat)
  case atStart => exact ⟨k + 1, n, rfl, by go_num, by omega, hn, hn2, HR.out⟩
  case round =>
    obtain ⟨m, q, rfl, rfl, hm, hq1, hq2, Hm⟩ := hrel
    by_cases hlt : m < zs.length
    · have hI : (m : Int) < (zs.length : Int) := by omega
      have hcx := Hc.out m hlt
      have hs : zs.length - m = (zs.length - (m + 1)) + 1 := by omega
      obtain ⟨z, hz⟩ : ∃ z, z = zs.getD m 0 := ⟨_, rfl⟩
      rw [← hz] at hcx
      by_cases hzc : z = c
      · have hp : hit zs c m = true := by unfold hit; rw [← hz, hzc]; simp
        by_cases hq : q = 1
        · have Hm2 : Hid (R = some m) := by
            have := Hm.out
            rw [hs] at this
            unfold goUp at this
            rw [if_pos hp, if_pos hq] at this
            exact this
          have Ha : Hid (r1 = (m : Int) ∧ r2 = true) := ⟨by rw [H1.out, Hm2.out]; rfl, by rw [H2.out, Hm2.out]; rfl⟩
          clear Hm Hm2 H1 H2 hz hs hp
          subst hzc hq
          go_wp2_with fail
          go_ret2
          rw [Ha.out.1, Ha.out.2]
          exact ⟨rfl, rfl⟩
        · have Hm2 : Hid (R = goUp (hit zs c) (zs.length - (m + 1)) (m + 1) (q - 1)) := by
            have := Hm.out
            rw [hs] at this
            unfold goUp at this
            rw [if_pos hp, if_neg hq] at this
            exact this
          have hq3 : (((q : Int) - 1) == 0) = false := beq_eq_false_iff_ne.2 (by omega)
          clear Hm hz hs hp
          subst hzc
          go_wp2_with fail
          go_round
          case rel => exact ⟨m + 1, q - 1, by go_num, by go_num, by omega, by omega, by omega, Hm2.out⟩
          case measure => simp [intOf]; omega
      · have hp : hit zs c m = false := by unfold hit; rw [← hz]; simpa using hzc
        have Hm2 : Hid (R = goUp (hit zs c) (zs.length - (m + 1)) (m + 1) q) := by
          have := Hm.out
          rw [hs] at this
          unfold goUp at this
          rw [if_neg (by rw [hp]; decide)] at this
          exact this
        have hne : (z != c) = true := by simpa using hzc
        clear Hm hz hs hp hzc
        go_wp2_with fail
        go_round
        case rel => exact ⟨m + 1, q, by go_num, by go_num, by omega, by omega, by omega, Hm2.out⟩
        case measure => simp [intOf]; omega
    · have hI : (zs.length : Int) ≤ (m : Int) := by omega
      have Hm2 : Hid (R = none) := by
        have := Hm.out
        rw [show zs.length - m = 0 by omega] at this
        exact this
      have Ha : Hid (r1 = 0 ∧ r2 = false) := ⟨by rw [H1.out, Hm2.out]; rfl, by rw [H2.out, Hm2.out]; rfl⟩
      clear Hm Hm2 H1 H2
      go_wp2_with fail
      go_ret2
      rw [Ha.out.1, Ha.out.2]
      exact ⟨rfl, rfl⟩

set_option maxHeartbeats 1000000 in
theorem find_left (b off cap : Nat) (zs : List Int) (k n : Nat) (c : Int) (w : World) (hl : zs.length ≤ 4096) (hk : k ≤ zs.length) (hn : 1 ≤ n) (hn2 : n ≤ 999)
    (hc : ∀ j, j < zs.length → w.cell? ⟨b, off + j, none⟩ = some (.int .i64 (zs.getD j 0))) :
    Calls Try.prog 88 #[.slice (some ⟨b, off, none⟩) zs.length cap, .int .i64 (k : Int), .int .i64 (n : Int), .int .i64 (-1), .int .i64 c] w fun e w' =>
      e = .returned (.tuple #[.int .i64 (leftHit zs k n c).1, .bool (leftHit zs k n c).2]) ∧ w' = w := by
  obtain ⟨R, hR⟩ : ∃ R, R = goDn (hit zs c) k n := ⟨_, rfl⟩
  have hA : leftHit zs k n c = told R := by rw [hR]; rfl
  rw [hA]
  obtain ⟨r1, h1⟩ : ∃ r1, r1 = (told R).1 := ⟨_, rfl⟩
  obtain ⟨r2, h2⟩ : ∃ r2, r2 = (told R).2 := ⟨_, rfl⟩
  have H1 : Hid (r1 = (told R).1) := h1
  have H2 : Hid (r2 = (told R).2) := h2
  rw [← h1, ← h2]
  have HR : Hid (R = goDn (hit zs c) k n) := hR
  have Hc : Hid (∀ j, j < zs.length → w.cell? ⟨b, off + j, none⟩ = some (.int .i64 (zs.getD j 0))) := hc
  clear h1 h2 hR hA hc
  go_enter Try.func88, Try.ntmps88
  go_wp2_with fail
  go_loop [2, 12] (fun u2 u12 => ∃ m q : Nat, u2 = .int .i64 (q : Int) ∧ u12 = .int .i64 ((m : Int) - 1) ∧ m ≤ zs.length ∧ 1 ≤ q ∧ q ≤ 999 ∧ Hid (R = goDn (hit zs c) m q)) (fun u2 u12 => (intOf u12 + 1).toNat)
  case atStart => exact ⟨k, n, rfl, by go_num, by omega, hn, hn2, HR.out⟩
  case round =>
    obtain ⟨m', q, rfl, rfl, hm, hq1, hq2, Hm⟩ := hrel
    cases m' with
    | succ m =>
      have hx : ((m + 1 : Nat) : Int) - 1 = (m : Int) := by omega
      rw [hx]
      have hlt : m < zs.length := by omega
      have hI : (m : Int) < (zs.length : Int) := by omega
      have hcx := Hc.out m hlt
      obtain ⟨z, hz⟩ : ∃ z, z = zs.getD m 0 := ⟨_, rfl⟩
      rw [← hz] at hcx
      by_cases hzc : z = c
      · have hp : hit zs c m = true := by unfold hit; rw [← hz, hzc]; simp
        by_cases hq : q = 1
        · have Hm2 : Hid (R = some m) := by
            have := Hm.out
            unfold goDn at this
            rw [if_pos hp, if_pos hq] at this
            exact this
          have Ha : Hid (r1 = (m : Int) ∧ r2 = true) := ⟨by rw [H1.out, Hm2.out]; rfl, by rw [H2.out, Hm2.out]; rfl⟩
          clear Hm Hm2 H1 H2 hz hp hx
          subst hzc hq
          go_wp2_with fail
          go_ret2
          rw [Ha.out.1, Ha.out.2]
          exact ⟨rfl, rfl⟩
        · have Hm2 : Hid (R = goDn (hit zs c) m (q - 1)) := by
            have := Hm.out
            unfold goDn at this
            rw [if_pos hp, if_neg hq] at this
            exact this
          have hq3 : (((q : Int) - 1) == 0) = false := beq_eq_false_iff_ne.2 (by omega)
          clear Hm hz hp hx
          subst hzc
          go_wp2_with fail
          go_round
          case rel => exact ⟨m, q - 1, by go_num, by go_num, by omega, by omega, by omega, Hm2.out⟩
          case measure => simp [intOf]; omega
      · have hp : hit zs c m = false := by unfold hit; rw [← hz]; simpa using hzc
        have Hm2 : Hid (R = goDn (hit zs c) m q) := by
          have := Hm.out
          unfold goDn at this
          rw [if_neg (by rw [hp]; decide)] at this
          exact this
        have hne : (z != c) = true := by simpa using hzc
        clear Hm hz hp hzc hx
        go_wp2_with fail
        go_round
        case rel => exact ⟨m, q, by go_num, by go_num, by omega, by omega, by omega, Hm2.out⟩
        case measure => simp [intOf]; omega
    | zero =>
      have Hm2 : Hid (R = none) := Hm.out
      have Ha : Hid (r1 = 0 ∧ r2 = false) := ⟨by rw [H1.out, Hm2.out]; rfl, by rw [H2.out, Hm2.out]; rfl⟩
      clear Hm Hm2 H1 H2
      have hx : ((0 : Nat) : Int) - 1 = -1 := by omega
      rw [hx]
      clear hx
      go_wp2_with fail
      go_ret2
      rw [Ha.out.1, Ha.out.2]
      exact ⟨rfl, rfl⟩
end Go.Proofs.Ytpgjaoemkadenab.Seek

/- The contract of motion.partner. -/
set_option linter.unusedVariables false
set_option linter.unusedSimpArgs false
set_option maxRecDepth 100000
namespace Go.Proofs.Ytpgjaoemkadenab.Seek
open Go.RowKit Plain

theorem mate_at {zs : List Int} {k i : Nat} (h : up (fun i => brk (zs.getD i 0) != 0) (-1) zs.length k = (i : Int)) : mate zs k = (par (fn zs) zs.length i, decide (0 ≤ par (fn zs) zs.length i)) := by
  unfold mate
  rw [h]
theorem mate_none {zs : List Int} {k : Nat} (h : up (fun i => brk (zs.getD i 0) != 0) (-1) zs.length k = -1) : mate zs k = (0, false) := by
  unfold mate
  rw [h]
  rfl

set_option maxHeartbeats 1000000 in
theorem partner_some (b off cap : Nat) (zs : List Int) (k : Nat) (w : World) (hl : zs.length ≤ 4096) (hb : b < w.heap.size) (hcap : zs.length ≤ cap) (hcm : cap ≤ maxLen) (hk : k ≤ 4096) (hne : 0 < zs.length)
    (hc : ∀ j, j < zs.length → w.cell? ⟨b, off + j, none⟩ = some (.int .i64 (zs.getD j 0))) :
    Calls Try.prog 87 #[.slice (some ⟨b, off, none⟩) zs.length cap, .int .i64 (k : Int)] w fun e w' =>
      e = .returned (.tuple #[.int .i64 (mate zs k).1, .bool (mate zs k).2]) ∧ Below w.heap.size w w' := by
  obtain ⟨U, hU⟩ : ∃ U, U = up (fun i => brk (zs.getD i 0) != 0) (-1) zs.length k := ⟨_, rfl⟩
  obtain ⟨r1, h1⟩ : ∃ r1, r1 = (mate zs k).1 := ⟨_, rfl⟩
  obtain ⟨r2, h2⟩ : ∃ r2, r2 = (mate zs k).2 := ⟨_, rfl⟩
  have H1 : Hid (r1 = (mate zs k).1) := h1
  have H2 : Hid (r2 = (mate zs k).2) := h2
  have HU : Hid (up (fun i => brk (zs.getD i 0) != 0) (-1) zs.length k = U) := hU.symm
  have HU0 : Hid (up (fun i => brk (zs.getD i 0) != 0) (-1) zs.length k = U) := hU.symm
  have HP : Hid (Calls Try.prog 84 #[.slice (some ⟨b, off, none⟩) zs.length cap] w fun e w' => PairsPost zs w e w') := pairs_any _ zs w (.inr ⟨b, off, cap, rfl, hcap, hcm, hb, hc⟩) (by omega)
  rw [← h1, ← h2]
  have Hc : Hid (∀ j, j < zs.length → w.cell? ⟨b, off + j, none⟩ = some (.int .i64 (zs.getD j 0))) := hc
  clear h1 h2 hU hc
  go_enter Try.func87, Try.ntmps87
  go_wp2_with fail
  refine HP.out.mono ?_
  clear HP
  rintro e w1 ⟨hbel, ⟨hlarge, _⟩ | ⟨_, pv, rfl, hpv⟩⟩
  · exact absurd hlarge (by omega)
  rcases hpv with ⟨_, _, _, hz⟩ | ⟨pb, po, pc, rfl, hpc, hpm, hpb, hpcell⟩
  · exact absurd (congrArg List.length hz) (by rw [pairs_len]; intro h; simp at h; rw [h] at hne; exact absurd hne (by simp))
  rw [pairs_len] at hpc hpcell ⊢
  have HC1 : Hid (∀ j, j < zs.length → w1.cell? ⟨b, off + j, none⟩ = some (.int .i64 (zs.getD j 0))) := fun j hj => (hbel.cell hb).trans (Hc.out j hj)
  have HC2 : Hid (∀ j, j < zs.length → w1.cell? ⟨pb, po + j, none⟩ = some (.int .i64 (par (fn zs) zs.length j))) := fun j hj => (hpcell j hj).trans (by unfold pairs; rw [rowOf_get _ _ _ hj])
  have Hbel : Hid (Below w.heap.size w w1) := hbel
  clear Hc hpcell hbel hpm hcm hpb hpc hcap hb
  go_wp2_with fail
  go_loop [8] (fun u8 => ∃ m : Nat, u8 = .int .i64 (m : Int) ∧ m ≤ 4096 ∧ Hid (up (fun i => brk (zs.getD i 0) != 0) (-1) zs.length m = U)) (fun u8 => 4097 - (intOf u8).toNat)
  case atStart => exact ⟨k, rfl, hk, HU.out⟩
  case round =>
    obtain ⟨m, rfl, hm, Hm⟩ := hrel
    by_cases hlt : m < zs.length
    · have hI : (m : Int) < (zs.length : Int) := by omega
      have hcx := HC1.out m hlt
      obtain ⟨z, hz⟩ : ∃ z, z = zs.getD m 0 := ⟨_, rfl⟩
      rw [← hz] at hcx
      obtain ⟨q, hq⟩ : ∃ q, q = brk z := ⟨_, rfl⟩
      have Hq : Hid (brk z = q) := hq.symm
      have Hk : Hid (brk (zs.getD m 0) = q) := (congrArg brk hz.symm).trans hq.symm
      clear hz hq
      by_cases h0 : q = 0
      · have Hm2 : Hid (up (fun i => brk (zs.getD i 0) != 0) (-1) zs.length (m + 1) = U) := (up_miss hlt (by rw [Hk.out, h0]; rfl)).symm.trans Hm.out
        clear Hm Hk
        subst h0
        go_wp2_with fail
        refine (brk_go z w1).mono ?_
        rintro e w2 ⟨rfl, hw2⟩
        rw [hw2, Hq.out]
        clear hw2 w2
        go_wp2_with fail
        go_round
        case rel => exact ⟨m + 1, by go_num, by omega, Hm2.out⟩
        case measure => simp [intOf]; omega
      · have hqb : (q != 0) = true := by simpa using h0
        have hu : U = (m : Int) := Hm.out.symm.trans (up_hit hlt (by rw [Hk.out]; exact hqb))
        have hmt := mate_at (HU0.out.trans hu)
        obtain ⟨x, hx⟩ : ∃ x, x = par (fn zs) zs.length m := ⟨_, rfl⟩
        have hcp := HC2.out m hlt
        rw [← hx] at hcp hmt
        have Ha : Hid (r1 = x ∧ r2 = decide (0 ≤ x)) := ⟨by rw [H1.out, hmt], by rw [H2.out, hmt]⟩
        clear Hm Hk h0 hu hmt hx
        go_wp2_with fail
        refine (brk_go z w1).mono ?_
        rintro e w2 ⟨rfl, hw2⟩
        rw [hw2, Hq.out]
        clear hw2 w2
        go_wp2_with fail
        go_quiet (fail)
        go_wp2_with fail
        go_ret2
        rw [Ha.out.1, Ha.out.2]
        exact ⟨rfl, below_drewN Hbel.out _⟩
    · have hI : (zs.length : Int) ≤ (m : Int) := by omega
      have hu : U = -1 := Hm.out.symm.trans (up_done (by omega))
      have hmt := mate_none (HU0.out.trans hu)
      have Ha : Hid (r1 = 0 ∧ r2 = false) := ⟨by rw [H1.out, hmt], by rw [H2.out, hmt]⟩
      clear Hm hu hmt
      go_wp2_with fail
      go_ret2
      rw [Ha.out.1, Ha.out.2]
      exact ⟨rfl, Hbel.out⟩
end Go.Proofs.Ytpgjaoemkadenab.Seek
