/- Texts of one claim, one behind the other: NextGo, PartsGo, MateGo. -/
import Derived.Test.YtpgjaoemkadenaaM02
import Derived.BigQuiet
/- The contracts of word.Next, word.Back and word.End. -/
set_option linter.unusedVariables false
set_option linter.unusedSimpArgs false
set_option maxRecDepth 100000
namespace Go.Proofs.Ytpgjaoemkadenaa.Seek
open Go.RowKit Plain


set_option maxHeartbeats 1000000 in
theorem next_go (v : Value) (zs : List Int) (k : Int) (b : Bool) (w : World) (hp : Reads w v zs) :
    Calls Try.prog 85 #[v, .int .i64 k, .bool b] w fun e w' => e = .returned (.tuple #[.int .i64 (next zs k b), .int .i64 (chk zs.length k)]) ∧ w' = w := by
  obtain ⟨a, cap, rfl⟩ := hp.shape
  have Hp : Hid (Reads w (.slice a zs.length cap) zs) := hp
  clear hp
  obtain ⟨r, hr⟩ : ∃ r, r = next zs k b := ⟨_, rfl⟩
  rw [← hr]
  by_cases hc : chk zs.length k = 0
  · obtain ⟨hl, j, hk, hj⟩ := chk_zero hc
    have Hr : Hid (up (bgn zs b) (zs.length : Int) zs.length (j + 1) = r) := by
      rw [hr]
      unfold next
      rw [if_pos hc, hk]
      rfl
    subst hk
    have Hc : Hid (chk zs.length (j : Int) = 0) := hc
    rw [hc]
    clear hc hr
    go_enter Try.func85, Try.ntmps85
    go_wp2_with fail
    refine (check_go a zs.length cap (j : Int) w).mono ?_
    rintro e w1 ⟨rfl, hw1⟩
    rw [hw1, Hc.out]
    clear hw1 w1 Hc
    go_wp2_with fail
    go_loop [9] (fun u9 => ∃ m : Nat, u9 = .int .i64 (m : Int) ∧ 1 ≤ m ∧ m ≤ zs.length + 1 ∧ Hid (up (bgn zs b) (zs.length : Int) zs.length m = r)) (fun u9 => zs.length + 1 - (intOf u9).toNat)
    case atStart => exact ⟨j + 1, by simp, by omega, by omega, Hr.out⟩
    case round =>
      obtain ⟨m, rfl, hm1, hm2, Hm⟩ := hrel
      by_cases hlt : m < zs.length
      · have hI : (m : Int) < (zs.length : Int) := by omega
        go_wp2_with fail
        refine (begins_go _ zs m b w Hp.out hm1 (by omega)).mono ?_
        rintro e w1 ⟨rfl, hw1⟩
        rw [hw1]
        clear hw1 w1
        cases hb : bgn zs b m with
        | true =>
          have Hm2 : Hid ((m : Int) = r) := (up_hit hlt hb).symm.trans Hm.out
          clear hb Hm
          go_wp2_with fail
          go_ret2
          rw [← Hm2.out]
          exact ⟨rfl, rfl⟩
        | false =>
          have Hm2 : Hid (up (bgn zs b) (zs.length : Int) zs.length (m + 1) = r) := (up_miss hlt hb).symm.trans Hm.out
          clear hb Hm
          go_wp2_with fail
          go_round
          case rel => exact ⟨m + 1, by go_num, by omega, by omega, Hm2.out⟩
          case measure => simp [intOf]; omega
      · have hI : (zs.length : Int) ≤ (m : Int) := by omega
        have Hm2 : Hid ((zs.length : Int) = r) := (up_done (by omega)).symm.trans Hm.out
        clear Hm
        go_wp2_with fail
        all_goals (
          go_ret2
          rw [← Hm2.out]
          refine ⟨?_, rfl⟩
          show Ending.returned (.tuple #[.int .i64 _, .int .i64 0]) = _
          refine congrArg (fun x => Ending.returned (.tuple #[.int .i64 x, .int .i64 0])) ?_
          omega)
  · have Hr : Hid (r = 0) := by
      rw [hr]
      unfold next
      exact if_neg hc
    obtain ⟨c, hcc⟩ : ∃ c, c = chk zs.length k := ⟨_, rfl⟩
    rw [← hcc] at hc ⊢
    have Hc : Hid (chk zs.length k = c) := hcc.symm
    have hcb : (c != 0) = true := by simpa using hc
    clear hc hcc hr
    go_enter Try.func85, Try.ntmps85
    go_wp2_with fail
    refine (check_go a zs.length cap k w).mono ?_
    rintro e w1 ⟨rfl, hw1⟩
    rw [hw1, Hc.out]
    clear hw1 w1 Hc
    go_wp2_with fail
    go_ret2
    rw [Hr.out]
    exact ⟨rfl, rfl⟩

set_option maxHeartbeats 1000000 in
theorem last_go (v : Value) (zs : List Int) (k : Int) (b : Bool) (w : World) (hp : Reads w v zs) :
    Calls Try.prog 86 #[v, .int .i64 k, .bool b] w fun e w' => e = .returned (.tuple #[.int .i64 (last zs k b), .int .i64 (chk zs.length k)]) ∧ w' = w := by
  obtain ⟨a, cap, rfl⟩ := hp.shape
  have Hp : Hid (Reads w (.slice a zs.length cap) zs) := hp
  clear hp
  obtain ⟨r, hr⟩ : ∃ r, r = last zs k b := ⟨_, rfl⟩
  rw [← hr]
  by_cases hc : chk zs.length k = 0
  · obtain ⟨hl, j, hk, hj⟩ := chk_zero hc
    have Hr : Hid (up (fin zs b) ((zs.length - 1 : Nat) : Int) zs.length (j + 1) = r) := by
      rw [hr]
      unfold last
      rw [if_pos hc, hk]
      rfl
    subst hk
    have Hc : Hid (chk zs.length (j : Int) = 0) := hc
    rw [hc]
    clear hc hr
    go_enter Try.func86, Try.ntmps86
    go_wp2_with fail
    refine (check_go a zs.length cap (j : Int) w).mono ?_
    rintro e w1 ⟨rfl, hw1⟩
    rw [hw1, Hc.out]
    clear hw1 w1 Hc
    go_wp2_with fail
    go_loop [9] (fun u9 => ∃ m : Nat, u9 = .int .i64 (m : Int) ∧ 1 ≤ m ∧ m ≤ zs.length + 1 ∧ Hid (up (fin zs b) ((zs.length - 1 : Nat) : Int) zs.length m = r)) (fun u9 => zs.length + 1 - (intOf u9).toNat)
    case atStart => exact ⟨j + 1, by simp, by omega, by omega, Hr.out⟩
    case round =>
      obtain ⟨m, rfl, hm1, hm2, Hm⟩ := hrel
      by_cases hlt : m < zs.length
      · have hI : (m : Int) < (zs.length : Int) := by omega
        go_wp2_with fail
        refine (ends_go _ zs m b w Hp.out  (by omega)).mono ?_
        rintro e w1 ⟨rfl, hw1⟩
        rw [hw1]
        clear hw1 w1
        cases hb : fin zs b m with
        | true =>
          have Hm2 : Hid ((m : Int) = r) := (up_hit hlt hb).symm.trans Hm.out
          clear hb Hm
          go_wp2_with fail
          go_ret2
          rw [← Hm2.out]
          exact ⟨rfl, rfl⟩
        | false =>
          have Hm2 : Hid (up (fin zs b) ((zs.length - 1 : Nat) : Int) zs.length (m + 1) = r) := (up_miss hlt hb).symm.trans Hm.out
          clear hb Hm
          go_wp2_with fail
          go_round
          case rel => exact ⟨m + 1, by go_num, by omega, by omega, Hm2.out⟩
          case measure => simp [intOf]; omega
      · have hI : (zs.length : Int) ≤ (m : Int) := by omega
        have Hm2 : Hid (((zs.length - 1 : Nat) : Int) = r) := (up_done (by omega)).symm.trans Hm.out
        clear Hm
        go_wp2_with fail
        all_goals (
          go_ret2
          rw [← Hm2.out]
          refine ⟨?_, rfl⟩
          show Ending.returned (.tuple #[.int .i64 _, .int .i64 0]) = _
          refine congrArg (fun x => Ending.returned (.tuple #[.int .i64 x, .int .i64 0])) ?_
          omega)
  · have Hr : Hid (r = 0) := by
      rw [hr]
      unfold last
      exact if_neg hc
    obtain ⟨c, hcc⟩ : ∃ c, c = chk zs.length k := ⟨_, rfl⟩
    rw [← hcc] at hc ⊢
    have Hc : Hid (chk zs.length k = c) := hcc.symm
    have hcb : (c != 0) = true := by simpa using hc
    clear hc hcc hr
    go_enter Try.func86, Try.ntmps86
    go_wp2_with fail
    refine (check_go a zs.length cap k w).mono ?_
    rintro e w1 ⟨rfl, hw1⟩
    rw [hw1, Hc.out]
    clear hw1 w1 Hc
    go_wp2_with fail
    go_ret2
    rw [Hr.out]
    exact ⟨rfl, rfl⟩

set_option maxHeartbeats 1000000 in
theorem back_go (v : Value) (zs : List Int) (k : Int) (b : Bool) (w : World) (hp : Reads w v zs) :
    Calls Try.prog 29 #[v, .int .i64 k, .bool b] w fun e w' => e = .returned (.tuple #[.int .i64 (back zs k b), .int .i64 (chk zs.length k)]) ∧ w' = w := by
  obtain ⟨a, cap, rfl⟩ := hp.shape
  have Hp : Hid (Reads w (.slice a zs.length cap) zs) := hp
  clear hp
  obtain ⟨r, hr⟩ : ∃ r, r = back zs k b := ⟨_, rfl⟩
  rw [← hr]
  by_cases hc : chk zs.length k = 0
  · obtain ⟨hl, j, hk, hj⟩ := chk_zero hc
    have Hr : Hid ((down (bgn zs b) j : Int) = r) := by
      rw [hr]
      unfold back
      rw [if_pos hc, hk]
      rfl
    subst hk
    have Hc : Hid (chk zs.length (j : Int) = 0) := hc
    rw [hc]
    clear hc hr
    go_enter Try.func29, Try.ntmps29
    go_wp2_with fail
    refine (check_go a zs.length cap (j : Int) w).mono ?_
    rintro e w1 ⟨rfl, hw1⟩
    rw [hw1, Hc.out]
    clear hw1 w1 Hc
    go_wp2_with fail
    go_loop [9] (fun u9 => ∃ m : Nat, u9 = .int .i64 ((m : Int) - 1) ∧ m ≤ zs.length ∧ Hid ((down (bgn zs b) m : Int) = r)) (fun u9 => (intOf u9 + 1).toNat)
    case atStart => exact ⟨j, by simp, by omega, Hr.out⟩
    case round =>
      obtain ⟨m, rfl, hm2, Hm⟩ := hrel
      by_cases hlt : 1 < m
      · obtain ⟨i, rfl⟩ : ∃ i, m = i + 1 := ⟨m - 1, by omega⟩
        have e1 : ((i + 1 : Nat) : Int) - 1 = (i : Int) := by omega
        rw [e1]
        clear e1
        have hI : (0 : Int) < (i : Int) := by omega
        go_wp2_with fail
        refine (begins_go _ zs i b w Hp.out (by omega) (by omega)).mono ?_
        rintro e w1 ⟨rfl, hw1⟩
        rw [hw1]
        clear hw1 w1
        cases hb : bgn zs b i with
        | true =>
          have Hm2 : Hid ((i : Int) = r) := by
            have h := Hm.out
            rw [down_hit hb] at h
            exact h
          clear hb Hm
          go_wp2_with fail
          go_ret2
          rw [← Hm2.out]
          exact ⟨rfl, rfl⟩
        | false =>
          have Hm2 : Hid ((down (bgn zs b) i : Int) = r) := by
            have h := Hm.out
            rw [down_miss hb] at h
            exact h
          clear hb Hm
          go_wp2_with fail
          go_round
          case rel => exact ⟨i, by go_num, by omega, Hm2.out⟩
          case measure => simp [intOf]
      · have hI : (m : Int) - 1 ≤ 0 := by omega
        have Hm2 : Hid ((0 : Int) = r) := by
          have h := Hm.out
          rw [down_small (bgn zs b) (by omega)] at h
          exact h
        clear Hm
        go_wp2_with fail
        go_ret2
        rw [← Hm2.out]
        exact ⟨rfl, rfl⟩
  · have Hr : Hid (r = 0) := by
      rw [hr]
      unfold back
      exact if_neg hc
    obtain ⟨c, hcc⟩ : ∃ c, c = chk zs.length k := ⟨_, rfl⟩
    rw [← hcc] at hc ⊢
    have Hc : Hid (chk zs.length k = c) := hcc.symm
    have hcb : (c != 0) = true := by simpa using hc
    clear hc hcc hr
    go_enter Try.func29, Try.ntmps29
    go_wp2_with fail
    refine (check_go a zs.length cap k w).mono ?_
    rintro e w1 ⟨rfl, hw1⟩
    rw [hw1, Hc.out]
    clear hw1 w1 Hc
    go_wp2_with fail
    go_ret2
    rw [Hr.out]
    exact ⟨rfl, rfl⟩
end Go.Proofs.Ytpgjaoemkadenaa.Seek

/- The contracts of motion.toRight, motion.firstNotBlank, motion.again and motion.find. -/
set_option linter.unusedVariables false
set_option linter.unusedSimpArgs false
set_option maxRecDepth 100000
namespace Go.Proofs.Ytpgjaoemkadenaa.Seek
open Go.RowKit Plain

set_option maxHeartbeats 1000000 in
theorem toRight_go (a : Option Addr) (zs : List Int) (cap k n : Nat) (op : Bool) (w : World) (hl : zs.length ≤ 4096) (hk : k ≤ 4096) (hn : n ≤ 999) :
    Calls Try.prog 76 #[.slice a zs.length cap, .int .i64 (k : Int), .int .i64 (n : Int), .bool op] w fun e w' =>
      e = .returned (.tuple #[.int .i64 (min ((k : Int) + n) (endOf zs op)), .bool (decide ((k : Int) < endOf zs op))]) ∧ w' = w := by
  cases op with
  | true =>
    have he : endOf zs true = (zs.length : Int) := rfl
    rw [he]
    clear he
    go_enter Try.func76, Try.ntmps76
    go_wp2_with fail
    all_goals (
      go_ret2
      refine ⟨?_, rfl⟩
      show Ending.returned (.tuple #[.int .i64 _, .bool (decide (k < zs.length))]) = _
      refine congrArg (fun x => Ending.returned (.tuple #[.int .i64 x, .bool (decide (k < zs.length))])) ?_
      omega)
  | false =>
    have he : endOf zs false = (zs.length : Int) - 1 := rfl
    rw [he]
    clear he
    go_enter Try.func76, Try.ntmps76
    go_wp2_with fail
    all_goals (
      go_ret2
      refine ⟨?_, rfl⟩
      show Ending.returned (.tuple #[.int .i64 _, .bool (decide ((k : Int) < (zs.length : Int) - 1))]) = _
      refine congrArg (fun x => Ending.returned (.tuple #[.int .i64 x, .bool (decide ((k : Int) < (zs.length : Int) - 1))])) ?_
      omega)

set_option maxHeartbeats 1000000 in
theorem solid_some (b off cap : Nat) (zs : List Int) (w : World) (hl : zs.length ≤ 4096)
    (hc : ∀ j, j < zs.length → w.cell? ⟨b, off + j, none⟩ = some (.int .i64 (zs.getD j 0))) :
    Calls Try.prog 77 #[.slice (some ⟨b, off, none⟩) zs.length cap] w fun e w' => e = .returned (.int .i64 (solid zs)) ∧ w' = w := by
  obtain ⟨r, hr⟩ : ∃ r, r = solid zs := ⟨_, rfl⟩
  have Hr : Hid (up (fun i => knd zs false i != 0) (max ((zs.length : Int) - 1) 0) zs.length 0 = r) := hr.symm
  have Hc : Hid (∀ j, j < zs.length → w.cell? ⟨b, off + j, none⟩ = some (.int .i64 (zs.getD j 0))) := hc
  rw [← hr]
  clear hr hc
  go_enter Try.func77, Try.ntmps77
  go_wp2_with fail
  go_loop [7] (fun u7 => ∃ m : Nat, u7 = .int .i64 (m : Int) ∧ m ≤ zs.length ∧ Hid (up (fun i => knd zs false i != 0) (max ((zs.length : Int) - 1) 0) zs.length m = r)) (fun u7 => zs.length - (intOf u7).toNat)
  case atStart => exact ⟨0, rfl, by omega, Hr.out⟩
  case round =>
    obtain ⟨m, rfl, hm, Hm⟩ := hrel
    by_cases hlt : m < zs.length
    · have hI : (m : Int) < (zs.length : Int) := by omega
      have hcx := Hc.out m hlt
      obtain ⟨z, hz⟩ : ∃ z, z = zs.getD m 0 := ⟨_, rfl⟩
      rw [← hz] at hcx
      have Hz : Hid (z = zs.getD m 0) := hz
      clear hz
      obtain ⟨q, hq⟩ : ∃ q, q = kind z false := ⟨_, rfl⟩
      have Hq : Hid (kind z false = q) := hq.symm
      have hk : knd zs false m = q := by rw [knd_in hlt, hq, Hz.out]
      clear hq
      by_cases h0 : q = 0
      · have Hm2 : Hid (up (fun i => knd zs false i != 0) (max ((zs.length : Int) - 1) 0) zs.length (m + 1) = r) := (up_miss hlt (by rw [hk, h0]; rfl)).symm.trans Hm.out
        clear Hm hk
        subst h0
        go_wp2_with fail
        refine (kind_go z false w).mono ?_
        rintro e w1 ⟨rfl, hw1⟩
        rw [hw1, Hq.out]
        clear hw1 w1
        go_wp2_with fail
        go_round
        case rel => exact ⟨m + 1, by go_num, by omega, Hm2.out⟩
        case measure => simp [intOf]; omega
      · have hqb : (q != 0) = true := by simpa using h0
        have Hm2 : Hid ((m : Int) = r) := (up_hit hlt (by rw [hk]; exact hqb)).symm.trans Hm.out
        clear Hm hk h0
        go_wp2_with fail
        refine (kind_go z false w).mono ?_
        rintro e w1 ⟨rfl, hw1⟩
        rw [hw1, Hq.out]
        clear hw1 w1
        go_wp2_with fail
        go_ret
        rw [← Hm2.out]
        exact ⟨rfl, rfl⟩
    · have hI : (zs.length : Int) ≤ (m : Int) := by omega
      have Hm2 : Hid (max ((zs.length : Int) - 1) 0 = r) := (up_done (by omega)).symm.trans Hm.out
      clear Hm
      go_wp2_with fail
      all_goals (
        go_ret
        rw [← Hm2.out]
        refine ⟨?_, rfl⟩
        show Ending.returned (.int .i64 _) = _
        refine congrArg (fun x => Ending.returned (.int .i64 x)) ?_
        omega)

theorem solid_nil (a : Option Addr) (cap : Nat) (w : World) : Calls Try.prog 77 #[.slice a 0 cap] w fun e w' => e = .returned (.int .i64 (solid [])) ∧ w' = w := by
  have h : solid [] = 0 := rfl
  rw [h]
  go_enter Try.func77, Try.ntmps77
  go_wp2_with fail
  go_loop [7] (fun u7 => u7 = .int .i64 0) (fun _ => 0)
  case atStart => rfl
  case round =>
    subst hrel
    go_wp2_with fail
    go_ret
    exact ⟨rfl, rfl⟩

theorem solid_go (v : Value) (zs : List Int) (w : World) (hp : Reads w v zs) (hl : zs.length ≤ 4096) :
    Calls Try.prog 77 #[v] w fun e w' => e = .returned (.int .i64 (solid zs)) ∧ w' = w := by
  rcases hp with ⟨a, cap, rfl, rfl⟩ | ⟨b, off, cap, rfl, _, _, _, hc⟩
  · exact solid_nil a cap w
  · exact solid_some b off cap zs w hl hc

set_option maxHeartbeats 1000000 in
theorem again_go (g : Nat) (f : Int → Int) (er : Int → Int) (a : Option Addr) (l cap : Nat) (k : Int) (n : Nat) (b : Bool) (w : World) (hg : g = 29 ∨ g = 85 ∨ g = 86) (hn : n ≤ 999)
    (H : ∀ x, Calls Try.prog g #[.slice a l cap, .int .i64 x, .bool b] w fun e w' => e = .returned (.tuple #[.int .i64 (f x), .int .i64 (er x)]) ∧ w' = w) :
    Calls Try.prog 78 #[.func (.func g) #[] #[], .slice a l cap, .int .i64 k, .int .i64 (n : Int), .bool b] w fun e w' => e = .returned (.int .i64 (iter f n k)) ∧ w' = w := by
  obtain ⟨r, hr⟩ : ∃ r, r = iter f n k := ⟨_, rfl⟩
  have Hr : Hid (r = iter f n k) := hr
  have HH : Hid (∀ x, Calls Try.prog g #[.slice a l cap, .int .i64 x, .bool b] w fun e w' => e = .returned (.tuple #[.int .i64 (f x), .int .i64 (er x)]) ∧ w' = w) := H
  rw [← hr]
  clear hr H
  rcases hg with rfl | rfl | rfl
  all_goals (
    go_enter Try.func78, Try.ntmps78
    go_wp2_with fail
    go_loop [2, 12] (fun u2 u12 => ∃ m : Nat, u2 = .int .i64 (iter f m k) ∧ u12 = .int .i64 (m : Int) ∧ m ≤ n) (fun u2 u12 => n - (intOf u12).toNat)
    case atStart => exact ⟨0, rfl, rfl, by omega⟩
    case round =>
      obtain ⟨m, h2, rfl, hm⟩ := hrel
      obtain ⟨x, hx⟩ : ∃ x, x = iter f m k := ⟨_, rfl⟩
      rw [← hx] at h2
      have Hx : Hid (x = iter f m k) := hx
      clear hx
      subst h2
      by_cases hlt : m < n
      · have hI : (m : Int) < (n : Int) := by omega
        go_wp2_with fail
        refine (HH.out x).mono ?_
        rintro e w1 ⟨rfl, hw1⟩
        rw [hw1]
        clear hw1 w1
        go_wp2_with fail
        go_round
        case rel => exact ⟨m + 1, by rw [Hx.out]; rfl, by go_num, by omega⟩
        case measure => simp [intOf]; omega
      · have hI : (n : Int) ≤ (m : Int) := by omega
        have hmn : m = n := by omega
        have Hm : Hid (x = r) := Hx.out.trans ((congrArg (fun q => iter f q k) hmn).trans Hr.out.symm)
        clear hmn
        go_wp2_with fail
        all_goals (
          go_ret
          rw [Hm.out]
          exact ⟨rfl, rfl⟩))

set_option maxHeartbeats 1000000 in
theorem find_right (b off cap : Nat) (zs : List Int) (k n : Nat) (c : Int) (w : World) (hl : zs.length ≤ 4096) (hk : k ≤ 4096) (hn : 1 ≤ n) (hn2 : n ≤ 999)
    (hc : ∀ j, j < zs.length → w.cell? ⟨b, off + j, none⟩ = some (.int .i64 (zs.getD j 0))) :
    Calls Try.prog 88 #[.slice (some ⟨b, off, none⟩) zs.length cap, .int .i64 (k : Int), .int .i64 (n : Int), .int .i64 1, .int .i64 c] w fun e w' =>
      e = .returned (.tuple #[.int .i64 (rightHit zs k n c).1, .bool (rightHit zs k n c).2]) ∧ w' = w := by
  obtain ⟨R, hR⟩ : ∃ R, R = goUp (hit zs c) (zs.length - (k + 1)) (k + 1) n := ⟨_, rfl⟩
  have hA : rightHit zs k n c = told R := by rw [hR]; rfl
  rw [hA]
  obtain ⟨r1, h1⟩ : ∃ r1, r1 = (told R).1 := ⟨_, rfl⟩
  obtain ⟨r2, h2⟩ : ∃ r2, r2 = (told R).2 := ⟨_, rfl⟩
  have H1 : Hid (r1 = (told R).1) := h1
  have H2 : Hid (r2 = (told R).2) := h2
  rw [← h1, ← h2]
  have HR : Hid (R = goUp (hit zs c) (zs.length - (k + 1)) (k + 1) n) := hR
  have Hc : Hid (∀ j, j < zs.length → w.cell? ⟨b, off + j, none⟩ = some (.int .i64 (zs.getD j 0))) := hc
  clear h1 h2 hR hA hc
  go_enter Try.func88, Try.ntmps88
  go_wp2_with fail
  go_loop [2, 12] (fun u2 u12 => ∃ m q : Nat, u2 = .int .i64 (q : Int) ∧ u12 = .int .i64 (m : Int) ∧ m ≤ 4097 ∧ 1 ≤ q ∧ q ≤ 999 ∧ Hid (R = goUp (hit zs c) (zs.length - m) m q)) (fun u2 u12 => 4098 - (intOf u12).toNat)
  case atStart => exact ⟨k + 1, n, rfl, by go_num, by omega, hn, hn2, HR.out⟩
  case round =>
    obtain ⟨m, q, rfl, rfl, hm, hq1, hq2, Hm⟩ := hrel
    by_cases hlt : m < zs.length
    · have hI : (m : Int) < (zs.length : Int) := by omega
      have hcx := Hc.out m hlt
      have hs : zs.length - m = (zs.length - (m + 1)) + 1 := by omega
      obtain ⟨z, hz⟩ : ∃ z, z = zs.getD m 0 := ⟨_, rfl⟩
      rw [← hz] at hcx
      by_cases hzc : z = c
      · have hp : hit zs c m = true := by unfold hit; rw [← hz, hzc]; simp
        by_cases hq : q = 1
        · have Hm2 : Hid (R = some m) := by
            have := Hm.out
            rw [hs] at this
            unfold goUp at this
            rw [if_pos hp, if_pos hq] at this
            exact this
          have Ha : Hid (r1 = (m : Int) ∧ r2 = true) := ⟨by rw [H1.out, Hm2.out]; rfl, by rw [H2.out, Hm2.out]; rfl⟩
          clear Hm Hm2 H1 H2 hz hs hp
          subst hzc hq
          go_wp2_with fail
          go_ret2
          rw [Ha.out.1, Ha.out.2]
          exact ⟨rfl, rfl⟩
        · have Hm2 : Hid (R = goUp (hit zs c) (zs.length - (m + 1)) (m + 1) (q - 1)) := by
            have := Hm.out
            rw [hs] at this
            unfold goUp at this
            rw [if_pos hp, if_neg hq] at this
            exact this
          have hq3 : (((q : Int) - 1) == 0) = false := beq_eq_false_iff_ne.2 (by omega)
          clear Hm hz hs hp
          subst hzc
          go_wp2_with fail
          go_round
          case rel => exact ⟨m + 1, q - 1, by go_num, by go_num, by omega, by omega, by omega, Hm2.out⟩
          case measure => simp [intOf]; omega
      · have hp : hit zs c m = false := by unfold hit; rw [← hz]; simpa using hzc
        have Hm2 : Hid (R = goUp (hit zs c) (zs.length - (m + 1)) (m + 1) q) := by
          have := Hm.out
          rw [hs] at this
          unfold goUp at this
          rw [if_neg (by rw [hp]; decide)] at this
          exact this
        have hne : (z != c) = true := by simpa using hzc
        clear Hm hz hs hp hzc
        go_wp2_with fail
        go_round
        case rel => exact ⟨m + 1, q, by go_num, by go_num, by omega, by omega, by omega, Hm2.out⟩
        case measure => simp [intOf]; omega
    · have hI : (zs.length : Int) ≤ (m : Int) := by omega
      have Hm2 : Hid (R = none) := by
        have := Hm.out
        rw [show zs.length - m = 0 by omega] at this
        exact this
      have Ha : Hid (r1 = 0 ∧ r2 = false) := ⟨by rw [H1.out, Hm2.out]; rfl, by rw [H2.out, Hm2.out]; rfl⟩
      clear Hm Hm2 H1 H2
      go_wp2_with fail
      go_ret2
      rw [Ha.out.1, Ha.out.2]
      exact ⟨rfl, rfl⟩

set_option maxHeartbeats 1000000 in
theorem find_left (b off cap : Nat) (zs : List Int) (k n : Nat) (c : Int) (w : World) (hl : zs.length ≤ 4096) (hk : k ≤ zs.length) (hn : 1 ≤ n) (hn2 : n ≤ 999)
    (hc : ∀ j, j < zs.length → w.cell? ⟨b, off + j, none⟩ = some (.int .i64 (zs.getD j 0))) :
    Calls Try.prog 88 #[.slice (some ⟨b, off, none⟩) zs.length cap, .int .i64 (k : Int), .int .i64 (n : Int), .int .i64 (-1), .int .i64 c] w fun e w' =>
      e = .returned (.tuple #[.int .i64 (leftHit zs k n c).1, .bool (leftHit zs k n c).2]) ∧ w' = w := by
  obtain ⟨R, hR⟩ : ∃ R, R = goDn (hit zs c) k n := ⟨_, rfl⟩
  have hA : leftHit zs k n c = told R := by rw [hR]; rfl
  rw [hA]
  obtain ⟨r1, h1⟩ : ∃ r1, r1 = (told R).1 := ⟨_, rfl⟩
  obtain ⟨r2, h2⟩ : ∃ r2, r2 = (told R).2 := ⟨_, rfl⟩
  have H1 : Hid (r1 = (told R).1) := h1
  have H2 : Hid (r2 = (told R).2) := h2
  rw [← h1, ← h2]
  have HR : Hid (R = goDn (hit zs c) k n) := hR
  have Hc : Hid (∀ j, j < zs.length → w.cell? ⟨b, off + j, none⟩ = some (.int .i64 (zs.getD j 0))) := hc
  clear h1 h2 hR hA hc
  go_enter Try.func88, Try.ntmps88
  go_wp2_with fail
  go_loop [2, 12] (fun u2 u12 => ∃ m q : Nat, u2 = .int .i64 (q : Int) ∧ u12 = .int .i64 ((m : Int) - 1) ∧ m ≤ zs.length ∧ 1 ≤ q ∧ q ≤ 999 ∧ Hid (R = goDn (hit zs c) m q)) (fun u2 u12 => (intOf u12 + 1).toNat)
  case atStart => exact ⟨k, n, rfl, by go_num, by omega, hn, hn2, HR.out⟩
  case round =>
    obtain ⟨m', q, rfl, rfl, hm, hq1, hq2, Hm⟩ := hrel
    cases m' with
    | succ m =>
      have hx : ((m + 1 : Nat) : Int) - 1 = (m : Int) := by omega
      rw [hx]
      have hlt : m < zs.length := by omega
      have hI : (m : Int) < (zs.length : Int) := by omega
      have hcx := Hc.out m hlt
      obtain ⟨z, hz⟩ : ∃ z, z = zs.getD m 0 := ⟨_, rfl⟩
      rw [← hz] at hcx
      by_cases hzc : z = c
      · have hp : hit zs c m = true := by unfold hit; rw [← hz, hzc]; simp
        by_cases hq : q = 1
        · have Hm2 : Hid (R = some m) := by
            have := Hm.out
            unfold goDn at this
            rw [if_pos hp, if_pos hq] at this
            exact this
          have Ha : Hid (r1 = (m : Int) ∧ r2 = true) := ⟨by rw [H1.out, Hm2.out]; rfl, by rw [H2.out, Hm2.out]; rfl⟩
          clear Hm Hm2 H1 H2 hz hp hx
          subst hzc hq
          go_wp2_with fail
          go_ret2
          rw [Ha.out.1, Ha.out.2]
          exact ⟨rfl, rfl⟩
        · have Hm2 : Hid (R = goDn (hit zs c) m (q - 1)) := by
            have := Hm.out
            unfold goDn at this
            rw [if_pos hp, if_neg hq] at this
            exact this
          have hq3 : (((q : Int) - 1) == 0) = false := beq_eq_false_iff_ne.2 (by omega)
          clear Hm hz hp hx
          subst hzc
          go_wp2_with fail
          go_round
          case rel => exact ⟨m, q - 1, by go_num, by go_num, by omega, by omega, by omega, Hm2.out⟩
          case measure => simp [intOf]; omega
      · have hp : hit zs c m = false := by unfold hit; rw [← hz]; simpa using hzc
        have Hm2 : Hid (R = goDn (hit zs c) m q) := by
          have := Hm.out
          unfold goDn at this
          rw [if_neg (by rw [hp]; decide)] at this
          exact this
        have hne : (z != c) = true := by simpa using hzc
        clear Hm hz hp hzc hx
        go_wp2_with fail
        go_round
        case rel => exact ⟨m, q, by go_num, by go_num, by omega, by omega, by omega, Hm2.out⟩
        case measure => simp [intOf]; omega
    | zero =>
      have Hm2 : Hid (R = none) := Hm.out
      have Ha : Hid (r1 = 0 ∧ r2 = false) := ⟨by rw [H1.out, Hm2.out]; rfl, by rw [H2.out, Hm2.out]; rfl⟩
      clear Hm Hm2 H1 H2
      have hx : ((0 : Nat) : Int) - 1 = -1 := by omega
      rw [hx]
      clear hx
      go_wp2_with fail
      go_ret2
      rw [Ha.out.1, Ha.out.2]
      exact ⟨rfl, rfl⟩
end Go.Proofs.Ytpgjaoemkadenaa.Seek

/- The contract of motion.partner. -/
set_option linter.unusedVariables false
set_option linter.unusedSimpArgs false
set_option maxRecDepth 100000
namespace Go.Proofs.Ytpgjaoemkadenaa.Seek
open Go.RowKit Plain

theorem mate_at {zs : List Int} {k i : Nat} (h : up (fun i => brk (zs.getD i 0) != 0) (-1) zs.length k = (i : Int)) : mate zs k = (par (fn zs) zs.length i, decide (0 ≤ par (fn zs) zs.length i)) := by
  unfold mate
  rw [h]
theorem mate_none {zs : List Int} {k : Nat} (h : up (fun i => brk (zs.getD i 0) != 0) (-1) zs.length k = -1) : mate zs k = (0, false) := by
  unfold mate
  rw [h]
  rfl

set_option maxHeartbeats 1000000 in
theorem partner_some (b off cap : Nat) (zs : List Int) (k : Nat) (w : World) (hl : zs.length ≤ 4096) (hb : b < w.heap.size) (hcap : zs.length ≤ cap) (hcm : cap ≤ maxLen) (hk : k ≤ 4096) (hne : 0 < zs.length)
    (hc : ∀ j, j < zs.length → w.cell? ⟨b, off + j, none⟩ = some (.int .i64 (zs.getD j 0))) :
    Calls Try.prog 87 #[.slice (some ⟨b, off, none⟩) zs.length cap, .int .i64 (k : Int)] w fun e w' =>
      e = .returned (.tuple #[.int .i64 (mate zs k).1, .bool (mate zs k).2]) ∧ Below w.heap.size w w' := by
  obtain ⟨U, hU⟩ : ∃ U, U = up (fun i => brk (zs.getD i 0) != 0) (-1) zs.length k := ⟨_, rfl⟩
  obtain ⟨r1, h1⟩ : ∃ r1, r1 = (mate zs k).1 := ⟨_, rfl⟩
  obtain ⟨r2, h2⟩ : ∃ r2, r2 = (mate zs k).2 := ⟨_, rfl⟩
  have H1 : Hid (r1 = (mate zs k).1) := h1
  have H2 : Hid (r2 = (mate zs k).2) := h2
  have HU : Hid (up (fun i => brk (zs.getD i 0) != 0) (-1) zs.length k = U) := hU.symm
  have HU0 : Hid (up (fun i => brk (zs.getD i 0) != 0) (-1) zs.length k = U) := hU.symm
  have HP : Hid (Calls Try.prog 84 #[.slice (some ⟨b, off, none⟩) zs.length cap] w fun e w' => PairsPost zs w e w') := pairs_any _ zs w (.inr ⟨b, off, cap, rfl, hcap, hcm, hb, hc⟩) (by omega)
  rw [← h1, ← h2]
  have Hc : Hid (∀ j, j < zs.length → w.cell? ⟨b, off + j, none⟩ = some (.int .i64 (zs.getD j 0))) := hc
  clear h1 h2 hU hc
  go_enter Try.func87, Try.ntmps87
  go_wp2_with fail
  refine HP.out.mono ?_
  clear HP
  rintro e w1 ⟨hbel, ⟨hlarge, _⟩ | ⟨_, pv, rfl, hpv⟩⟩
  · exact absurd hlarge (by omega)
  rcases hpv with ⟨_, _, _, hz⟩ | ⟨pb, po, pc, rfl, hpc, hpm, hpb, hpcell⟩
  · exact absurd (congrArg List.length hz) (by rw [pairs_len]; intro h; simp at h; rw [h] at hne; exact absurd hne (by simp))
  rw [pairs_len] at hpc hpcell ⊢
  have HC1 : Hid (∀ j, j < zs.length → w1.cell? ⟨b, off + j, none⟩ = some (.int .i64 (zs.getD j 0))) := fun j hj => (hbel.cell hb).trans (Hc.out j hj)
  have HC2 : Hid (∀ j, j < zs.length → w1.cell? ⟨pb, po + j, none⟩ = some (.int .i64 (par (fn zs) zs.length j))) := fun j hj => (hpcell j hj).trans (by unfold pairs; rw [rowOf_get _ _ _ hj])
  have Hbel : Hid (Below w.heap.size w w1) := hbel
  clear Hc hpcell hbel hpm hcm hpb hpc hcap hb
  go_wp2_with fail
  go_loop [8] (fun u8 => ∃ m : Nat, u8 = .int .i64 (m : Int) ∧ m ≤ 4096 ∧ Hid (up (fun i => brk (zs.getD i 0) != 0) (-1) zs.length m = U)) (fun u8 => 4097 - (intOf u8).toNat)
  case atStart => exact ⟨k, rfl, hk, HU.out⟩
  case round =>
    obtain ⟨m, rfl, hm, Hm⟩ := hrel
    by_cases hlt : m < zs.length
    · have hI : (m : Int) < (zs.length : Int) := by omega
      have hcx := HC1.out m hlt
      obtain ⟨z, hz⟩ : ∃ z, z = zs.getD m 0 := ⟨_, rfl⟩
      rw [← hz] at hcx
      obtain ⟨q, hq⟩ : ∃ q, q = brk z := ⟨_, rfl⟩
      have Hq : Hid (brk z = q) := hq.symm
      have Hk : Hid (brk (zs.getD m 0) = q) := (congrArg brk hz.symm).trans hq.symm
      clear hz hq
      by_cases h0 : q = 0
      · have Hm2 : Hid (up (fun i => brk (zs.getD i 0) != 0) (-1) zs.length (m + 1) = U) := (up_miss hlt (by rw [Hk.out, h0]; rfl)).symm.trans Hm.out
        clear Hm Hk
        subst h0
        go_wp2_with fail
        refine (brk_go z w1).mono ?_
        rintro e w2 ⟨rfl, hw2⟩
        rw [hw2, Hq.out]
        clear hw2 w2
        go_wp2_with fail
        go_round
        case rel => exact ⟨m + 1, by go_num, by omega, Hm2.out⟩
        case measure => simp [intOf]; omega
      · have hqb : (q != 0) = true := by simpa using h0
        have hu : U = (m : Int) := Hm.out.symm.trans (up_hit hlt (by rw [Hk.out]; exact hqb))
        have hmt := mate_at (HU0.out.trans hu)
        obtain ⟨x, hx⟩ : ∃ x, x = par (fn zs) zs.length m := ⟨_, rfl⟩
        have hcp := HC2.out m hlt
        rw [← hx] at hcp hmt
        have Ha : Hid (r1 = x ∧ r2 = decide (0 ≤ x)) := ⟨by rw [H1.out, hmt], by rw [H2.out, hmt]⟩
        clear Hm Hk h0 hu hmt hx
        go_wp2_with fail
        refine (brk_go z w1).mono ?_
        rintro e w2 ⟨rfl, hw2⟩
        rw [hw2, Hq.out]
        clear hw2 w2
        go_wp2_with fail
        go_quiet (fail)
        go_wp2_with fail
        go_ret2
        rw [Ha.out.1, Ha.out.2]
        exact ⟨rfl, below_drewN Hbel.out _⟩
    · have hI : (zs.length : Int) ≤ (m : Int) := by omega
      have hu : U = -1 := Hm.out.symm.trans (up_done (by omega))
      have hmt := mate_none (HU0.out.trans hu)
      have Ha : Hid (r1 = 0 ∧ r2 = false) := ⟨by rw [H1.out, hmt], by rw [H2.out, hmt]⟩
      clear Hm hu hmt
      go_wp2_with fail
      go_ret2
      rw [Ha.out.1, Ha.out.2]
      exact ⟨rfl, Hbel.out⟩
end Go.Proofs.Ytpgjaoemkadenaa.Seek
