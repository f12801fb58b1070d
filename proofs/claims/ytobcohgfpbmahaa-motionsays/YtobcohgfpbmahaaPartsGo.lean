/- The contracts of motion.toRight, motion.firstNotBlank, motion.again and motion.find. -/
import Derived.Test.YtobcohgfpbmahaaMoves
import Derived.Test.YtobcohgfpbmahaaNextGo
set_option linter.unusedVariables false
set_option linter.unusedSimpArgs false
namespace Go.Proofs.Ytobcohgfpbmahaa.Seek
open Go.RowKit Plain

set_option maxHeartbeats 1000000 in
theorem toRight_go (a : Option Addr) (zs : List Int) (cap k n : Nat) (op : Bool) (w : World) (hl : zs.length ≤ 4096) (hk : k ≤ 4096) (hn : n ≤ 999) :
    Calls Try.prog 31 #[.slice a zs.length cap, .int .i64 (k : Int), .int .i64 (n : Int), .bool op] w fun e w' =>
      e = .returned (.tuple #[.int .i64 (min ((k : Int) + n) (endOf zs op)), .bool (decide ((k : Int) < endOf zs op))]) ∧ w' = w := by
  cases op with
  | true =>
    have he : endOf zs true = (zs.length : Int) := rfl
    rw [he]
    clear he
    go_enter Try.func31, Try.ntmps31
    go_wp2_with fail
    all_goals (
      go_ret2
      refine ⟨?_, rfl⟩
      show Ending.returned (.tuple #[.int .i64 _, .bool (decide (k < zs.length))]) = _
      refine congrArg (fun x => Ending.returned (.tuple #[.int .i64 x, .bool (decide (k < zs.length))])) ?_
      omega)
  | false =>
    have he : endOf zs false = (zs.length : Int) - 1 := rfl
    rw [he]
    clear he
    go_enter Try.func31, Try.ntmps31
    go_wp2_with fail
    all_goals (
      go_ret2
      refine ⟨?_, rfl⟩
      show Ending.returned (.tuple #[.int .i64 _, .bool (decide ((k : Int) < (zs.length : Int) - 1))]) = _
      refine congrArg (fun x => Ending.returned (.tuple #[.int .i64 x, .bool (decide ((k : Int) < (zs.length : Int) - 1))])) ?_
      omega)

set_option maxHeartbeats 1000000 in
theorem solid_some (b off cap : Nat) (zs : List Int) (w : World) (hl : zs.length ≤ 4096)
    (hc : ∀ j, j < zs.length → w.cell? ⟨b, off + j, none⟩ = some (.int .i64 (zs.getD j 0))) :
    Calls Try.prog 32 #[.slice (some ⟨b, off, none⟩) zs.length cap] w fun e w' => e = .returned (.int .i64 (solid zs)) ∧ w' = w := by
  obtain ⟨r, hr⟩ : ∃ r, r = solid zs := ⟨_, rfl⟩
  have Hr : Hid (up (fun i => knd zs false i != 0) (max ((zs.length : Int) - 1) 0) zs.length 0 = r) := hr.symm
  have Hc : Hid (∀ j, j < zs.length → w.cell? ⟨b, off + j, none⟩ = some (.int .i64 (zs.getD j 0))) := hc
  rw [← hr]
  clear hr hc
  go_enter Try.func32, Try.ntmps32
  go_wp2_with fail
  go_loop [7] (fun u7 => ∃ m : Nat, u7 = .int .i64 (m : Int) ∧ m ≤ zs.length ∧ Hid (up (fun i => knd zs false i != 0) (max ((zs.length : Int) - 1) 0) zs.length m = r)) (fun u7 => zs.length - (intOf u7).toNat)
  case atStart => exact ⟨0, rfl, by omega, Hr.out⟩
  case round =>
    obtain ⟨m, rfl, hm, Hm⟩ := hrel
    by_cases hlt : m < zs.length
    · have hI : (m : Int) < (zs.length : Int) := by omega
      have hcx := Hc.out m hlt
      obtain ⟨z, hz⟩ : ∃ z, z = zs.getD m 0 := ⟨_, rfl⟩
      rw [← hz] at hcx
      have Hz : Hid (z = zs.getD m 0) := hz
      clear hz
      obtain ⟨q, hq⟩ : ∃ q, q = kind z false := ⟨_, rfl⟩
      have Hq : Hid (kind z false = q) := hq.symm
      have hk : knd zs false m = q := by rw [knd_in hlt, hq, Hz.out]
      clear hq
      by_cases h0 : q = 0
      · have Hm2 : Hid (up (fun i => knd zs false i != 0) (max ((zs.length : Int) - 1) 0) zs.length (m + 1) = r) := (up_miss hlt (by rw [hk, h0]; rfl)).symm.trans Hm.out
        clear Hm hk
        subst h0
        go_wp2_with fail
        refine (kind_go z false w).mono ?_
        rintro e w1 ⟨rfl, hw1⟩
        rw [hw1, Hq.out]
        clear hw1 w1
        go_wp2_with fail
        go_round
        case rel => exact ⟨m + 1, by go_num, by omega, Hm2.out⟩
        case measure => simp [intOf]; omega
      · have hqb : (q != 0) = true := by simpa using h0
        have Hm2 : Hid ((m : Int) = r) := (up_hit hlt (by rw [hk]; exact hqb)).symm.trans Hm.out
        clear Hm hk h0
        go_wp2_with fail
        refine (kind_go z false w).mono ?_
        rintro e w1 ⟨rfl, hw1⟩
        rw [hw1, Hq.out]
        clear hw1 w1
        go_wp2_with fail
        go_ret
        rw [← Hm2.out]
        exact ⟨rfl, rfl⟩
    · have hI : (zs.length : Int) ≤ (m : Int) := by omega
      have Hm2 : Hid (max ((zs.length : Int) - 1) 0 = r) := (up_done (by omega)).symm.trans Hm.out
      clear Hm
      go_wp2_with fail
      all_goals (
        go_ret
        rw [← Hm2.out]
        refine ⟨?_, rfl⟩
        show Ending.returned (.int .i64 _) = _
        refine congrArg (fun x => Ending.returned (.int .i64 x)) ?_
        omega)

theorem solid_nil (a : Option Addr) (cap : Nat) (w : World) : Calls Try.prog 32 #[.slice a 0 cap] w fun e w' => e = .returned (.int .i64 (solid [])) ∧ w' = w := by
  have h : solid [] = 0 := rfl
  rw [h]
  go_enter Try.func32, Try.ntmps32
  go_wp2_with fail
  go_loop [7] (fun u7 => u7 = .int .i64 0) (fun _ => 0)
  case atStart => rfl
  case round =>
    subst hrel
    go_wp2_with fail
    go_ret
    exact ⟨rfl, rfl⟩

theorem solid_go (v : Value) (zs : List Int) (w : World) (hp : Reads w v zs) (hl : zs.length ≤ 4096) :
    Calls Try.prog 32 #[v] w fun e w' => e = .returned (.int .i64 (solid zs)) ∧ w' = w := by
  rcases hp with ⟨a, cap, rfl, rfl⟩ | ⟨b, off, cap, rfl, _, _, _, hc⟩
  · exact solid_nil a cap w
  · exact solid_some b off cap zs w hl hc

set_option maxHeartbeats 1000000 in
theorem again_go (g : Nat) (f : Int → Int) (er : Int → Int) (a : Option Addr) (l cap : Nat) (k : Int) (n : Nat) (b : Bool) (w : World) (hg : g = 34 ∨ g = 41 ∨ g = 42) (hn : n ≤ 999)
    (H : ∀ x, Calls Try.prog g #[.slice a l cap, .int .i64 x, .bool b] w fun e w' => e = .returned (.tuple #[.int .i64 (f x), .int .i64 (er x)]) ∧ w' = w) :
    Calls Try.prog 33 #[.func (.func g) #[] #[], .slice a l cap, .int .i64 k, .int .i64 (n : Int), .bool b] w fun e w' => e = .returned (.int .i64 (iter f n k)) ∧ w' = w := by
  obtain ⟨r, hr⟩ : ∃ r, r = iter f n k := ⟨_, rfl⟩
  have Hr : Hid (r = iter f n k) := hr
  have HH : Hid (∀ x, Calls Try.prog g #[.slice a l cap, .int .i64 x, .bool b] w fun e w' => e = .returned (.tuple #[.int .i64 (f x), .int .i64 (er x)]) ∧ w' = w) := H
  rw [← hr]
  clear hr H
  rcases hg with rfl | rfl | rfl
  all_goals (
    go_enter Try.func33, Try.ntmps33
    go_wp2_with fail
    go_loop [2, 12] (fun u2 u12 => ∃ m : Nat, u2 = .int .i64 (iter f m k) ∧ u12 = .int .i64 (m : Int) ∧ m ≤ n) (fun u2 u12 => n - (intOf u12).toNat)
    case atStart => exact ⟨0, rfl, rfl, by omega⟩
    case round =>
      obtain ⟨m, h2, rfl, hm⟩ := hrel
      obtain ⟨x, hx⟩ : ∃ x, x = iter f m k := ⟨_, rfl⟩
      rw [← hx] at h2
      have Hx : Hid (x = iter f m k) := hx
      clear hx
      subst h2
      by_cases hlt : m < n
      · have hI : (m : Int) < (n : Int) := by omega
        go_wp2_with fail
        refine (HH.out x).mono ?_
        rintro e w1 ⟨rfl, hw1⟩
        rw [hw1]
        clear hw1 w1
        go_wp2_with fail
        go_round
        case rel => exact ⟨m + 1, by rw [Hx.out]; rfl, by go_num, by omega⟩
        case measure => simp [intOf]; omega
      · have hI : (n : Int) ≤ (m : Int) := by omega
        have hmn : m = n := by omega
        have Hm : Hid (x = r) := Hx.out.trans ((congrArg (fun q => iter f q k) hmn).trans Hr.out.symm)
        clear hmn
        go_wp2_with fail
        all_goals (
          go_ret
          rw [Hm.out]
          exact ⟨rfl, rfl⟩))

set_option maxHeartbeats 1000000 in
theorem find_right (b off cap : Nat) (zs : List Int) (k n : Nat) (c : Int) (w : World) (hl : zs.length ≤ 4096) (hk : k ≤ 4096) (hn : 1 ≤ n) (hn2 : n ≤ 999)
    (hc : ∀ j, j < zs.length → w.cell? ⟨b, off + j, none⟩ = some (.int .i64 (zs.getD j 0))) :
    Calls Try.prog 44 #[.slice (some ⟨b, off, none⟩) zs.length cap, .int .i64 (k : Int), .int .i64 (n : Int), .int .i64 1, .int .i64 c] w fun e w' =>
      e = .returned (.tuple #[.int .i64 (rightHit zs k n c).1, .bool (rightHit zs k n c).2]) ∧ w' = w := by
  obtain ⟨R, hR⟩ : ∃ R, R = goUp (hit zs c) (zs.length - (k + 1)) (k + 1) n := ⟨_, rfl⟩
  have hA : rightHit zs k n c = told R := by rw [hR]; rfl
  rw [hA]
  obtain ⟨r1, h1⟩ : ∃ r1, r1 = (told R).1 := ⟨_, rfl⟩
  obtain ⟨r2, h2⟩ : ∃ r2, r2 = (told R).2 := ⟨_, rfl⟩
  have H1 : Hid (r1 = (told R).1) := h1
  have H2 : Hid (r2 = (told R).2) := h2
  rw [← h1, ← h2]
  have HR : Hid (R = goUp (hit zs c) (zs.length - (k + 1)) (k + 1) n) := hR
  have Hc : Hid (∀ j, j < zs.length → w.cell? ⟨b, off + j, none⟩ = some (.int .i64 (zs.getD j 0))) := hc
  clear h1 h2 hR hA hc
  go_enter Try.func44, Try.ntmps44
  go_wp2_with fail
  go_loop [2, 12] (fun u2 u12 => ∃ m q : Nat, u2 = .int .i64 (q : Int) ∧ u12 = .int .i64 (m : Int) ∧ m ≤ 4097 ∧ 1 ≤ q ∧ q ≤ 999 ∧ Hid (R = goUp (hit zs c) (zs.length - m) m q)) (fun u2 u12 => 4098 - (intOf u12).toNat)
  case atStart => exact ⟨k + 1, n, rfl, by go_num, by omega, hn, hn2, HR.out⟩
  case round =>
    obtain ⟨m, q, rfl, rfl, hm, hq1, hq2, Hm⟩ := hrel
    by_cases hlt : m < zs.length
    · have hI : (m : Int) < (zs.length : Int) := by omega
      have hcx := Hc.out m hlt
      have hs : zs.length - m = (zs.length - (m + 1)) + 1 := by omega
      obtain ⟨z, hz⟩ : ∃ z, z = zs.getD m 0 := ⟨_, rfl⟩
      rw [← hz] at hcx
      by_cases hzc : z = c
      · have hp : hit zs c m = true := by unfold hit; rw [← hz, hzc]; simp
        by_cases hq : q = 1
        · have Hm2 : Hid (R = some m) := by
            have := Hm.out
            rw [hs] at this
            unfold goUp at this
            rw [if_pos hp, if_pos hq] at this
            exact this
          have Ha : Hid (r1 = (m : Int) ∧ r2 = true) := ⟨by rw [H1.out, Hm2.out]; rfl, by rw [H2.out, Hm2.out]; rfl⟩
          clear Hm Hm2 H1 H2 hz hs hp
          subst hzc hq
          go_wp2_with fail
          go_ret2
          rw [Ha.out.1, Ha.out.2]
          exact ⟨rfl, rfl⟩
        · have Hm2 : Hid (R = goUp (hit zs c) (zs.length - (m + 1)) (m + 1) (q - 1)) := by
            have := Hm.out
            rw [hs] at this
            unfold goUp at this
            rw [if_pos hp, if_neg hq] at this
            exact this
          have hq3 : (((q : Int) - 1) == 0) = false := beq_eq_false_iff_ne.2 (by omega)
          clear Hm hz hs hp
          subst hzc
          go_wp2_with fail
          go_round
          case rel => exact ⟨m + 1, q - 1, by go_num, by go_num, by omega, by omega, by omega, Hm2.out⟩
          case measure => simp [intOf]; omega
      · have hp : hit zs c m = false := by unfold hit; rw [← hz]; simpa using hzc
        have Hm2 : Hid (R = goUp (hit zs c) (zs.length - (m + 1)) (m + 1) q) := by
          have := Hm.out
          rw [hs] at this
          unfold goUp at this
          rw [if_neg (by rw [hp]; decide)] at this
          exact this
        have hne : (z != c) = true := by simpa using hzc
        clear Hm hz hs hp hzc
        go_wp2_with fail
        go_round
        case rel => exact ⟨m + 1, q, by go_num, by go_num, by omega, by omega, by omega, Hm2.out⟩
        case measure => simp [intOf]; omega
    · have hI : (zs.length : Int) ≤ (m : Int) := by omega
      have Hm2 : Hid (R = none) := by
        have := Hm.out
        rw [show zs.length - m = 0 by omega] at this
        exact this
      have Ha : Hid (r1 = 0 ∧ r2 = false) := ⟨by rw [H1.out, Hm2.out]; rfl, by rw [H2.out, Hm2.out]; rfl⟩
      clear Hm Hm2 H1 H2
      go_wp2_with fail
      go_ret2
      rw [Ha.out.1, Ha.out.2]
      exact ⟨rfl, rfl⟩

set_option maxHeartbeats 1000000 in
theorem find_left (b off cap : Nat) (zs : List Int) (k n : Nat) (c : Int) (w : World) (hl : zs.length ≤ 4096) (hk : k ≤ zs.length) (hn : 1 ≤ n) (hn2 : n ≤ 999)
    (hc : ∀ j, j < zs.length → w.cell? ⟨b, off + j, none⟩ = some (.int .i64 (zs.getD j 0))) :
    Calls Try.prog 44 #[.slice (some ⟨b, off, none⟩) zs.length cap, .int .i64 (k : Int), .int .i64 (n : Int), .int .i64 (-1), .int .i64 c] w fun e w' =>
      e = .returned (.tuple #[.int .i64 (leftHit zs k n c).1, .bool (leftHit zs k n c).2]) ∧ w' = w := by
  obtain ⟨R, hR⟩ : ∃ R, R = goDn (hit zs c) k n := ⟨_, rfl⟩
  have hA : leftHit zs k n c = told R := by rw [hR]; rfl
  rw [hA]
  obtain ⟨r1, h1⟩ : ∃ r1, r1 = (told R).1 := ⟨_, rfl⟩
  obtain ⟨r2, h2⟩ : ∃ r2, r2 = (told R).2 := ⟨_, rfl⟩
  have H1 : Hid (r1 = (told R).1) := h1
  have H2 : Hid (r2 = (told R).2) := h2
  rw [← h1, ← h2]
  have HR : Hid (R = goDn (hit zs c) k n) := hR
  have Hc : Hid (∀ j, j < zs.length → w.cell? ⟨b, off + j, none⟩ = some (.int .i64 (zs.getD j 0))) := hc
  clear h1 h2 hR hA hc
  go_enter Try.func44, Try.ntmps44
  go_wp2_with fail
  go_loop [2, 12] (fun u2 u12 => ∃ m q : Nat, u2 = .int .i64 (q : Int) ∧ u12 = .int .i64 ((m : Int) - 1) ∧ m ≤ zs.length ∧ 1 ≤ q ∧ q ≤ 999 ∧ Hid (R = goDn (hit zs c) m q)) (fun u2 u12 => (intOf u12 + 1).toNat)
  case atStart => exact ⟨k, n, rfl, by go_num, by omega, hn, hn2, HR.out⟩
  case round =>
    obtain ⟨m', q, rfl, rfl, hm, hq1, hq2, Hm⟩ := hrel
    cases m' with
    | succ m =>
      have hx : ((m + 1 : Nat) : Int) - 1 = (m : Int) := by omega
      rw [hx]
      have hlt : m < zs.length := by omega
      have hI : (m : Int) < (zs.length : Int) := by omega
      have hcx := Hc.out m hlt
      obtain ⟨z, hz⟩ : ∃ z, z = zs.getD m 0 := ⟨_, rfl⟩
      rw [← hz] at hcx
      by_cases hzc : z = c
      · have hp : hit zs c m = true := by unfold hit; rw [← hz, hzc]; simp
        by_cases hq : q = 1
        · have Hm2 : Hid (R = some m) := by
            have := Hm.out
            unfold goDn at this
            rw [if_pos hp, if_pos hq] at this
            exact this
          have Ha : Hid (r1 = (m : Int) ∧ r2 = true) := ⟨by rw [H1.out, Hm2.out]; rfl, by rw [H2.out, Hm2.out]; rfl⟩
          clear Hm Hm2 H1 H2 hz hp hx
          subst hzc hq
          go_wp2_with fail
          go_ret2
          rw [Ha.out.1, Ha.out.2]
          exact ⟨rfl, rfl⟩
        · have Hm2 : Hid (R = goDn (hit zs c) m (q - 1)) := by
            have := Hm.out
            unfold goDn at this
            rw [if_pos hp, if_neg hq] at this
            exact this
          have hq3 : (((q : Int) - 1) == 0) = false := beq_eq_false_iff_ne.2 (by omega)
          clear Hm hz hp hx
          subst hzc
          go_wp2_with fail
          go_round
          case rel => exact ⟨m, q - 1, by go_num, by go_num, by omega, by omega, by omega, Hm2.out⟩
          case measure => simp [intOf]; omega
      · have hp : hit zs c m = false := by unfold hit; rw [← hz]; simpa using hzc
        have Hm2 : Hid (R = goDn (hit zs c) m q) := by
          have := Hm.out
          unfold goDn at this
          rw [if_neg (by rw [hp]; decide)] at this
          exact this
        have hne : (z != c) = true := by simpa using hzc
        clear Hm hz hp hzc hx
        go_wp2_with fail
        go_round
        case rel => exact ⟨m, q, by go_num, by go_num, by omega, by omega, by omega, Hm2.out⟩
        case measure => simp [intOf]; omega
    | zero =>
      have Hm2 : Hid (R = none) := Hm.out
      have Ha : Hid (r1 = 0 ∧ r2 = false) := ⟨by rw [H1.out, Hm2.out]; rfl, by rw [H2.out, Hm2.out]; rfl⟩
      clear Hm Hm2 H1 H2
      have hx : ((0 : Nat) : Int) - 1 = -1 := by omega
      rw [hx]
      clear hx
      go_wp2_with fail
      go_ret2
      rw [Ha.out.1, Ha.out.2]
      exact ⟨rfl, rfl⟩
end Go.Proofs.Ytobcohgfpbmahaa.Seek
