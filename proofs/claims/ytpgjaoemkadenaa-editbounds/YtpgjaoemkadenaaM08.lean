/- Texts of one claim, one behind the other: OSignsGo, OOfGo, Of. -/
import Derived.Test.YtpgjaoemkadenaaM07
import Derived.Test.YtpgjaoemkadenaaM01
import Derived.Laws.IdiomStrings
/- The contracts of object.brackets, object.quotes and object.between. -/
set_option linter.unusedVariables false
set_option linter.unusedSimpArgs false
set_option maxRecDepth 100000
namespace Go.Proofs.Ytpgjaoemkadenaa.Seek
open Go.RowKit Plain

theorem between_go (t : Option (Nat × Nat)) (ar : Bool) (w : World) (ht : ∀ a z, t = some (a, z) → a ≤ 4096 ∧ z ≤ 4096) :
    Calls Try.prog 70 #[.int .i64 (trip t).1, .int .i64 (trip t).2.1, .bool (trip t).2.2, .bool ar] w fun e w' => e = .returned (.tuple #[.int .i64 (otold ar t).1, .int .i64 (otold ar t).2.1, .int .i64 (otold ar t).2.2]) ∧ w' = w := by
  cases t with
  | none =>
    show Calls Try.prog 70 #[.int .i64 0, .int .i64 0, .bool false, .bool ar] w fun e w' => e = .returned (.tuple #[.int .i64 0, .int .i64 0, .int .i64 6]) ∧ w' = w
    go_enter Try.func70, Try.ntmps70
    go_wp2_with fail
    go_ret3
    exact ⟨rfl, rfl⟩
  | some p =>
    obtain ⟨a, z⟩ := p
    obtain ⟨h1, h2⟩ := ht a z rfl
    clear ht
    cases ar with
    | true =>
      show Calls Try.prog 70 #[.int .i64 (a : Int), .int .i64 (z : Int), .bool true, .bool true] w fun e w' => e = .returned (.tuple #[.int .i64 (a : Int), .int .i64 ((z : Int) + 1), .int .i64 0]) ∧ w' = w
      go_enter Try.func70, Try.ntmps70
      go_wp2_with fail
      go_ret3
      exact ⟨rfl, rfl⟩
    | false =>
      show Calls Try.prog 70 #[.int .i64 (a : Int), .int .i64 (z : Int), .bool true, .bool false] w fun e w' => e = .returned (.tuple #[.int .i64 ((a : Int) + 1), .int .i64 (z : Int), .int .i64 0]) ∧ w' = w
      go_enter Try.func70, Try.ntmps70
      go_wp2_with fail
      go_ret3
      exact ⟨rfl, rfl⟩

set_option maxHeartbeats 1000000 in
theorem quotes_some (b off cap : Nat) (zs : List Int) (k : Nat) (s : Int) (w : World) (hn : zs.length ≤ 4096) (hk : k ≤ 4096)
    (hc : ∀ j, j < zs.length → w.cell? ⟨b, off + j, none⟩ = some (.int .i64 (zs.getD j 0))) :
    Calls Try.prog 71 #[.slice (some ⟨b, off, none⟩) zs.length cap, .int .i64 (k : Int), .int .i64 s] w fun e w' =>
      e = .returned (.tuple #[.int .i64 (trip (qfind (fn zs) s k zs.length 0 none)).1, .int .i64 (trip (qfind (fn zs) s k zs.length 0 none)).2.1, .bool (trip (qfind (fn zs) s k zs.length 0 none)).2.2]) ∧ w' = w := by
  have Hc : Hid (∀ j, j < zs.length → w.cell? ⟨b, off + j, none⟩ = some (.int .i64 (zs.getD j 0))) := hc
  obtain ⟨T, hT⟩ : ∃ T, T = qfind (fn zs) s k zs.length 0 none := ⟨_, rfl⟩
  rw [← hT]
  obtain ⟨R1, h1⟩ : ∃ R1, R1 = (trip T).1 := ⟨_, rfl⟩
  obtain ⟨R2, h2⟩ : ∃ R2, R2 = (trip T).2.1 := ⟨_, rfl⟩
  obtain ⟨R3, h3⟩ : ∃ R3, R3 = (trip T).2.2 := ⟨_, rfl⟩
  rw [← h1, ← h2, ← h3]
  have HT : Hid (qfind (fn zs) s k (zs.length - 0) 0 none = T) := hT.symm
  have HR : Hid (R1 = (trip T).1 ∧ R2 = (trip T).2.1 ∧ R3 = (trip T).2.2) := ⟨h1, h2, h3⟩
  clear hT h1 h2 h3 hc
  go_enter Try.func71, Try.ntmps71
  go_wp2_with fail
  go_loop [9, 14] (fun u9 u14 => ∃ m : Nat, u14 = .int .i64 (m : Int) ∧ m ≤ zs.length ∧ ((u9 = .int .i64 (-1) ∧ Hid (qfind (fn zs) s k (zs.length - m) m none = T)) ∨ (∃ a : Nat, u9 = .int .i64 (a : Int) ∧ a < m ∧ Hid (qfind (fn zs) s k (zs.length - m) m (some a) = T)))) (fun _ u14 => zs.length - (intOf u14).toNat)
  case atStart => exact ⟨0, rfl, by omega, .inl ⟨rfl, HT.out⟩⟩
  case round =>
    obtain ⟨m, rfl, hm, hcase⟩ := hrel
    by_cases hlt : m < zs.length
    · have hI : (m : Int) < (zs.length : Int) := by omega
      have hcx := Hc.out m hlt
      have hy : fn zs m = zs.getD m 0 := rfl
      generalize zs.getD m 0 = y at hcx hy
      have Hy : Hid (fn zs m = y) := hy
      clear hy
      have he : zs.length - m = (zs.length - (m + 1)) + 1 := by omega
      cases hq : y != s with
      | true =>
        have hne : fn zs m ≠ s := by rw [Hy.out]; simpa using hq
        rcases hcase with ⟨rfl, HQ⟩ | ⟨a, rfl, ha, HQ⟩
        · have HQ2 : Hid (qfind (fn zs) s k (zs.length - (m + 1)) (m + 1) none = T) := by
            have := HQ.out
            rw [he, qfind_other hne] at this
            exact this
          clear HQ he hne
          go_wp2_with fail
          go_round
          case rel => exact ⟨m + 1, by go_num, by omega, .inl ⟨rfl, HQ2.out⟩⟩
          case measure => simp [intOf]; omega
        · have HQ2 : Hid (qfind (fn zs) s k (zs.length - (m + 1)) (m + 1) (some a) = T) := by
            have := HQ.out
            rw [he, qfind_other hne] at this
            exact this
          clear HQ he hne
          go_wp2_with fail
          go_round
          case rel => exact ⟨m + 1, by go_num, by omega, .inr ⟨a, rfl, by omega, HQ2.out⟩⟩
          case measure => simp [intOf]; omega
      | false =>
        have heq : fn zs m = s := by rw [Hy.out]; simpa using hq
        rcases hcase with ⟨rfl, HQ⟩ | ⟨a, rfl, ha, HQ⟩
        · have HQ2 : Hid (qfind (fn zs) s k (zs.length - (m + 1)) (m + 1) (some m) = T) := by
            have := HQ.out
            rw [he, qfind_first heq] at this
            exact this
          clear HQ he heq
          go_wp2_with fail
          go_round
          case rel => exact ⟨m + 1, by go_num, by omega, .inr ⟨m, rfl, by omega, HQ2.out⟩⟩
          case measure => simp [intOf]; omega
        · by_cases hkm : k ≤ m
          · have HQ2 : Hid (T = some (a, m)) := by
              have := HQ.out
              rw [he, qfind_found heq (by omega)] at this
              exact this.symm
            have hI2 : (k : Int) ≤ (m : Int) := by omega
            clear HQ he heq
            go_wp2_with fail
            go_ret3
            rw [HR.out.1, HR.out.2.1, HR.out.2.2, HQ2.out]
            exact ⟨rfl, rfl⟩
          · have HQ2 : Hid (qfind (fn zs) s k (zs.length - (m + 1)) (m + 1) none = T) := by
              have := HQ.out
              rw [he, qfind_early heq (by omega)] at this
              exact this
            have hI2 : (m : Int) < (k : Int) := by omega
            clear HQ he heq
            go_wp2_with fail
            go_round
            case rel => exact ⟨m + 1, by go_num, by omega, .inl ⟨rfl, HQ2.out⟩⟩
            case measure => simp [intOf]; omega
    · have hI : (zs.length : Int) ≤ (m : Int) := by omega
      have HQ2 : Hid (T = none) := by
        rcases hcase with ⟨_, HQ⟩ | ⟨a, _, _, HQ⟩
        all_goals (
          have := HQ.out
          rw [show zs.length - m = 0 by omega] at this
          exact this.symm)
      rcases hcase with ⟨rfl, HQ⟩ | ⟨a, rfl, ha, HQ⟩
      all_goals (
        clear HQ
        go_wp2_with fail
        all_goals (
          go_ret3
          rw [HR.out.1, HR.out.2.1, HR.out.2.2, HQ2.out]
          exact ⟨rfl, rfl⟩))

theorem quotes_none (a : Option Addr) (cap : Nat) (k s : Int) (w : World) :
    Calls Try.prog 71 #[.slice a 0 cap, .int .i64 k, .int .i64 s] w fun e w' => e = .returned (.tuple #[.int .i64 0, .int .i64 0, .bool false]) ∧ w' = w := by
  go_enter Try.func71, Try.ntmps71
  go_wp2_with fail
  refine wp_loop_rounds 1 ?_
  rw [rounds_succ]
  go_wp2_with fail
  go_ret3
  exact ⟨rfl, rfl⟩
theorem quotes_any (v : Value) (zs : List Int) (k : Nat) (s : Int) (w : World) (hr : Reads w v zs) (hk : k ≤ 4096) (hn : zs.length ≤ 4096) :
    Calls Try.prog 71 #[v, .int .i64 (k : Int), .int .i64 s] w fun e w' =>
      e = .returned (.tuple #[.int .i64 (trip (qfind (fn zs) s k zs.length 0 none)).1, .int .i64 (trip (qfind (fn zs) s k zs.length 0 none)).2.1, .bool (trip (qfind (fn zs) s k zs.length 0 none)).2.2]) ∧ w' = w := by
  rcases hr with ⟨a, cap, rfl, rfl⟩ | ⟨b, off, cap, rfl, _, _, _, hc⟩
  · exact quotes_none a cap k s w
  · exact quotes_some b off cap zs k s w hn hk hc

theorem opn_of_shut {key : Int} (h : shuts key = true) : opn key = brk key := (opn_shut h).1
theorem opn_of_open {key : Int} (h : shuts key = false) (h2 : brk key ≠ 0) : opn key = key := by
  rcases sort key with g | g | g
  · exact (opn_open g.1).1
  · rw [g.2.1] at h; cases h
  · exact absurd g.2.2 h2

set_option maxHeartbeats 1000000 in
theorem brackets_none (a : Option Addr) (cap : Nat) (key : Int) (w : World) :
    Calls Try.prog 69 #[.slice a 0 cap, .int .i64 0, .int .i64 key] w fun e w' => e = .returned (.tuple #[.int .i64 0, .int .i64 0, .bool false]) ∧ Below w.heap.size w w' := by
  have HP : Hid (Calls Try.prog 84 #[.slice a 0 cap] w fun e w' => PairsPost [] w e w') := pairs_any _ [] w (.inl ⟨a, cap, rfl, rfl⟩) (by decide)
  go_enter Try.func69, Try.ntmps69
  go_wp2_with fail
  refine (brk_go key w).mono ?_
  rintro e w1 ⟨rfl, hw1⟩
  rw [hw1]
  clear hw1 w1
  generalize shuts key = t
  cases t with
  | true =>
    go_wp2_with fail
    refine HP.out.mono ?_
    rintro e w1 ⟨hbel, ⟨hlarge, _⟩ | ⟨_, pv, rfl, hpv⟩⟩
    · exact absurd hlarge (by decide)
    have Hbel : Hid (Below w.heap.size w w1) := hbel
    clear hbel hpv
    go_wp2_with fail
    refine wp_loop_rounds 1 ?_
    rw [rounds_succ]
    go_wp2_with fail
    go_ret3
    exact ⟨rfl, Hbel.out⟩
  | false =>
    go_wp2_with fail
    refine HP.out.mono ?_
    rintro e w1 ⟨hbel, ⟨hlarge, _⟩ | ⟨_, pv, rfl, hpv⟩⟩
    · exact absurd hlarge (by decide)
    have Hbel : Hid (Below w.heap.size w w1) := hbel
    clear hbel hpv
    go_wp2_with fail
    refine wp_loop_rounds 1 ?_
    rw [rounds_succ]
    go_wp2_with fail
    go_ret3
    exact ⟨rfl, Hbel.out⟩

set_option maxHeartbeats 2000000 in
theorem brackets_shut (b off cap : Nat) (zs : List Int) (k : Nat) (key : Int) (w : World) (hk : k < zs.length) (hn : zs.length ≤ 4096) (hb : b < w.heap.size) (hcap : zs.length ≤ cap) (hcm : cap ≤ maxLen)
    (hc : ∀ j, j < zs.length → w.cell? ⟨b, off + j, none⟩ = some (.int .i64 (zs.getD j 0))) (hs : shuts key = true) :
    Calls Try.prog 69 #[.slice (some ⟨b, off, none⟩) zs.length cap, .int .i64 (k : Int), .int .i64 key] w fun e w' =>
      e = .returned (.tuple #[.int .i64 (trip (bfind zs k (opn key) zs.length)).1, .int .i64 (trip (bfind zs k (opn key) zs.length)).2.1, .bool (trip (bfind zs k (opn key) zs.length)).2.2]) ∧ Below w.heap.size w w' := by
  obtain ⟨T, hT⟩ : ∃ T, T = bfind zs k (opn key) zs.length := ⟨_, rfl⟩
  rw [← hT]
  obtain ⟨R1, h1⟩ : ∃ R1, R1 = (trip T).1 := ⟨_, rfl⟩
  obtain ⟨R2, h2⟩ : ∃ R2, R2 = (trip T).2.1 := ⟨_, rfl⟩
  obtain ⟨R3, h3⟩ : ∃ R3, R3 = (trip T).2.2 := ⟨_, rfl⟩
  rw [← h1, ← h2, ← h3]
  obtain ⟨o, ho⟩ : ∃ o, o = brk key := ⟨_, rfl⟩
  have Ho : Hid (opn key = o) := (opn_of_shut hs).trans ho.symm
  have Hs : Hid (shuts key = true) := hs
  have Hbk : Hid (brk key = o) := ho.symm
  clear hs ho
  have HT : Hid (bfind zs k o (k + 1) = T) := by
    rw [hT, Ho.out]
    exact (bfind_far (by omega) zs.length (by omega)).symm
  have HR : Hid (R1 = (trip T).1 ∧ R2 = (trip T).2.1 ∧ R3 = (trip T).2.2) := ⟨h1, h2, h3⟩
  have HP : Hid (Calls Try.prog 84 #[.slice (some ⟨b, off, none⟩) zs.length cap] w fun e w' => PairsPost zs w e w') := pairs_any _ zs w (.inr ⟨b, off, cap, rfl, hcap, hcm, hb, hc⟩) (by omega)
  have Hc : Hid (∀ j, j < zs.length → w.cell? ⟨b, off + j, none⟩ = some (.int .i64 (zs.getD j 0))) := hc
  have hmin : min (k : Int) ((zs.length : Int) - 1) = (k : Int) := by omega
  clear hT h1 h2 h3 hc
  go_enter Try.func69, Try.ntmps69
  go_wp2_with fail
  refine (brk_go key w).mono ?_
  rintro e w1 ⟨rfl, hw1⟩
  rw [hw1, Hs.out]
  rw [Hbk.out]
  clear hw1 w1
  go_wp2_with fail
  refine HP.out.mono ?_
  clear HP
  rintro e w1 ⟨hbel, ⟨hlarge, _⟩ | ⟨_, pv, rfl, hpv⟩⟩
  · exact absurd hlarge (by omega)
  rcases hpv with ⟨_, _, _, hz⟩ | ⟨pb, po, pc, rfl, hpc, hpm, hpb, hpcell⟩
  · exact absurd (congrArg List.length hz) (by rw [pairs_len]; intro h; simp at h; rw [h] at hk; exact absurd hk (by simp))
  rw [pairs_len] at hpc hpcell ⊢
  have HC1 : Hid (∀ j, j < zs.length → w1.cell? ⟨b, off + j, none⟩ = some (.int .i64 (zs.getD j 0))) := fun j hj => (hbel.cell hb).trans (Hc.out j hj)
  have HC2 : Hid (∀ j, j < zs.length → w1.cell? ⟨pb, po + j, none⟩ = some (.int .i64 (par (fn zs) zs.length j))) := fun j hj => (hpcell j hj).trans (by unfold pairs; rw [rowOf_get _ _ _ hj])
  have Hbel : Hid (Below w.heap.size w w1) := hbel
  clear Hc hpcell hbel hpm hcm hpb hpc hcap hb
  go_wp2_with fail
  go_loop [14] (fun u14 => (∃ j : Nat, u14 = .int .i64 (j : Int) ∧ j ≤ k ∧ Hid (bfind zs k o (j + 1) = T)) ∨ (u14 = .int .i64 (-1) ∧ Hid (bfind zs k o 0 = T))) (fun u14 => (intOf u14 + 1).toNat)
  case atStart => exact .inl ⟨k, rfl, Nat.le_refl _, HT.out⟩
  case round =>
    rcases hrel with ⟨j, rfl, hj, HQ⟩ | ⟨rfl, HQ⟩
    · have hI : (j : Int) < (zs.length : Int) := by omega
      have hcx := HC1.out j (by omega)
      have hcp := HC2.out j (by omega)
      have hbr := @brp_true zs k o j
      generalize zs.getD j 0 = y at hcx hbr
      generalize hP : par (fn zs) zs.length j = P at hcp hbr
      have HPj : Hid (par (fn zs) zs.length j = P) := hP
      clear hP
      by_cases hjk : (j : Int) ≤ (k : Int) ∧ y = o ∧ (k : Int) ≤ P
      · have HQ2 : Hid (T = some (j, P.toNat)) := by
          have := HQ.out
          rw [bfind_hit (hbr.2 hjk), HPj.out] at this
          exact this.symm
        have hyo : (y == o) = true := by simpa using hjk.2.1
        have hkP : (k : Int) ≤ P := hjk.2.2
        have HPn : Hid (((P.toNat : Nat) : Int) = P) := by show ((P.toNat : Nat) : Int) = P; omega
        clear hjk hbr HQ
        go_wp2_with fail
        go_quiet (fail)
        go_wp2_with fail
        go_ret3
        rw [HR.out.1, HR.out.2.1, HR.out.2.2, HQ2.out]
        refine ⟨?_, below_drewN Hbel.out _⟩
        show _ = Ending.returned (.tuple #[.int .i64 (j : Int), .int .i64 ((P.toNat : Nat) : Int), .bool true])
        rw [HPn.out]
        rfl
      · have HQ2 : Hid (bfind zs k o j = T) := by
          have := HQ.out
          rw [bfind_miss (by rw [← Bool.not_eq_true]; exact fun h => hjk (hbr.1 h))] at this
          exact this
        have Hno : Hid (¬ ((j : Int) ≤ (k : Int) ∧ y = o ∧ (k : Int) ≤ P)) := hjk
        clear hjk hbr HQ
        by_cases hz : j = 0
        · subst hz
          rw [Nat.add_zero] at hcx hcp
          cases hyo : y == o with
          | false =>
            clear Hno
            go_wp2_with fail
            go_round
            case rel => exact .inr ⟨by go_num, HQ2.out⟩
            case measure => simp [intOf]; try omega
          | true =>
            have hkP : P < (k : Int) := Int.not_le.1 fun h => Hno.out ⟨by omega, by simpa using hyo, h⟩
            clear Hno
            go_wp2_with fail
            go_round
            case rel => exact .inr ⟨by go_num, HQ2.out⟩
            case measure => simp [intOf]; try omega
        · obtain ⟨i, rfl⟩ : ∃ i, j = i + 1 := ⟨j - 1, by omega⟩
          cases hyo : y == o with
          | false =>
            clear Hno
            go_wp2_with fail
            go_round
            case rel => exact .inl ⟨i, by go_num, by omega, HQ2.out⟩
            case measure => simp [intOf]; try omega
          | true =>
            have hkP : P < (k : Int) := Int.not_le.1 fun h => Hno.out ⟨by omega, by simpa using hyo, h⟩
            clear Hno
            go_wp2_with fail
            go_round
            case rel => exact .inl ⟨i, by go_num, by omega, HQ2.out⟩
            case measure => simp [intOf]; try omega
    · have HQ2 : Hid (T = none) := HQ.out.symm
      clear HQ
      go_wp2_with fail
      go_ret3
      rw [HR.out.1, HR.out.2.1, HR.out.2.2, HQ2.out]
      exact ⟨rfl, Hbel.out⟩

set_option maxHeartbeats 2000000 in
theorem brackets_open (b off cap : Nat) (zs : List Int) (k : Nat) (key : Int) (w : World) (hk : k < zs.length) (hn : zs.length ≤ 4096) (hb : b < w.heap.size) (hcap : zs.length ≤ cap) (hcm : cap ≤ maxLen)
    (hc : ∀ j, j < zs.length → w.cell? ⟨b, off + j, none⟩ = some (.int .i64 (zs.getD j 0))) (hs : shuts key = false) (h0 : brk key ≠ 0) :
    Calls Try.prog 69 #[.slice (some ⟨b, off, none⟩) zs.length cap, .int .i64 (k : Int), .int .i64 key] w fun e w' =>
      e = .returned (.tuple #[.int .i64 (trip (bfind zs k (opn key) zs.length)).1, .int .i64 (trip (bfind zs k (opn key) zs.length)).2.1, .bool (trip (bfind zs k (opn key) zs.length)).2.2]) ∧ Below w.heap.size w w' := by
  obtain ⟨T, hT⟩ : ∃ T, T = bfind zs k (opn key) zs.length := ⟨_, rfl⟩
  rw [← hT]
  obtain ⟨R1, h1⟩ : ∃ R1, R1 = (trip T).1 := ⟨_, rfl⟩
  obtain ⟨R2, h2⟩ : ∃ R2, R2 = (trip T).2.1 := ⟨_, rfl⟩
  obtain ⟨R3, h3⟩ : ∃ R3, R3 = (trip T).2.2 := ⟨_, rfl⟩
  rw [← h1, ← h2, ← h3]
  have Ho : Hid (opn key = key) := opn_of_open hs h0
  have Hs : Hid (shuts key = false) := hs
  clear hs h0
  have HT : Hid (bfind zs k key (k + 1) = T) := by
    rw [hT, Ho.out]
    exact (bfind_far (by omega) zs.length (by omega)).symm
  have HR : Hid (R1 = (trip T).1 ∧ R2 = (trip T).2.1 ∧ R3 = (trip T).2.2) := ⟨h1, h2, h3⟩
  have HP : Hid (Calls Try.prog 84 #[.slice (some ⟨b, off, none⟩) zs.length cap] w fun e w' => PairsPost zs w e w') := pairs_any _ zs w (.inr ⟨b, off, cap, rfl, hcap, hcm, hb, hc⟩) (by omega)
  have Hc : Hid (∀ j, j < zs.length → w.cell? ⟨b, off + j, none⟩ = some (.int .i64 (zs.getD j 0))) := hc
  have hmin : min (k : Int) ((zs.length : Int) - 1) = (k : Int) := by omega
  clear hT h1 h2 h3 hc
  go_enter Try.func69, Try.ntmps69
  go_wp2_with fail
  refine (brk_go key w).mono ?_
  rintro e w1 ⟨rfl, hw1⟩
  rw [hw1, Hs.out]
  clear hw1 w1
  go_wp2_with fail
  refine HP.out.mono ?_
  clear HP
  rintro e w1 ⟨hbel, ⟨hlarge, _⟩ | ⟨_, pv, rfl, hpv⟩⟩
  · exact absurd hlarge (by omega)
  rcases hpv with ⟨_, _, _, hz⟩ | ⟨pb, po, pc, rfl, hpc, hpm, hpb, hpcell⟩
  · exact absurd (congrArg List.length hz) (by rw [pairs_len]; intro h; simp at h; rw [h] at hk; exact absurd hk (by simp))
  rw [pairs_len] at hpc hpcell ⊢
  have HC1 : Hid (∀ j, j < zs.length → w1.cell? ⟨b, off + j, none⟩ = some (.int .i64 (zs.getD j 0))) := fun j hj => (hbel.cell hb).trans (Hc.out j hj)
  have HC2 : Hid (∀ j, j < zs.length → w1.cell? ⟨pb, po + j, none⟩ = some (.int .i64 (par (fn zs) zs.length j))) := fun j hj => (hpcell j hj).trans (by unfold pairs; rw [rowOf_get _ _ _ hj])
  have Hbel : Hid (Below w.heap.size w w1) := hbel
  clear Hc hpcell hbel hpm hcm hpb hpc hcap hb
  go_wp2_with fail
  go_loop [14] (fun u14 => (∃ j : Nat, u14 = .int .i64 (j : Int) ∧ j ≤ k ∧ Hid (bfind zs k key (j + 1) = T)) ∨ (u14 = .int .i64 (-1) ∧ Hid (bfind zs k key 0 = T))) (fun u14 => (intOf u14 + 1).toNat)
  case atStart => exact .inl ⟨k, rfl, Nat.le_refl _, HT.out⟩
  case round =>
    rcases hrel with ⟨j, rfl, hj, HQ⟩ | ⟨rfl, HQ⟩
    · have hI : (j : Int) < (zs.length : Int) := by omega
      have hcx := HC1.out j (by omega)
      have hcp := HC2.out j (by omega)
      have hbr := @brp_true zs k key j
      generalize zs.getD j 0 = y at hcx hbr
      generalize hP : par (fn zs) zs.length j = P at hcp hbr
      have HPj : Hid (par (fn zs) zs.length j = P) := hP
      clear hP
      by_cases hjk : (j : Int) ≤ (k : Int) ∧ y = key ∧ (k : Int) ≤ P
      · have HQ2 : Hid (T = some (j, P.toNat)) := by
          have := HQ.out
          rw [bfind_hit (hbr.2 hjk), HPj.out] at this
          exact this.symm
        have hyo : (y == key) = true := by simpa using hjk.2.1
        have hkP : (k : Int) ≤ P := hjk.2.2
        have HPn : Hid (((P.toNat : Nat) : Int) = P) := by show ((P.toNat : Nat) : Int) = P; omega
        clear hjk hbr HQ
        go_wp2_with fail
        go_quiet (fail)
        go_wp2_with fail
        go_ret3
        rw [HR.out.1, HR.out.2.1, HR.out.2.2, HQ2.out]
        refine ⟨?_, below_drewN Hbel.out _⟩
        show _ = Ending.returned (.tuple #[.int .i64 (j : Int), .int .i64 ((P.toNat : Nat) : Int), .bool true])
        rw [HPn.out]
        rfl
      · have HQ2 : Hid (bfind zs k key j = T) := by
          have := HQ.out
          rw [bfind_miss (by rw [← Bool.not_eq_true]; exact fun h => hjk (hbr.1 h))] at this
          exact this
        have Hno : Hid (¬ ((j : Int) ≤ (k : Int) ∧ y = key ∧ (k : Int) ≤ P)) := hjk
        clear hjk hbr HQ
        by_cases hz : j = 0
        · subst hz
          rw [Nat.add_zero] at hcx hcp
          cases hyo : y == key with
          | false =>
            clear Hno
            go_wp2_with fail
            go_round
            case rel => exact .inr ⟨by go_num, HQ2.out⟩
            case measure => simp [intOf]; try omega
          | true =>
            have hkP : P < (k : Int) := Int.not_le.1 fun h => Hno.out ⟨by omega, by simpa using hyo, h⟩
            clear Hno
            go_wp2_with fail
            go_round
            case rel => exact .inr ⟨by go_num, HQ2.out⟩
            case measure => simp [intOf]; try omega
        · obtain ⟨i, rfl⟩ : ∃ i, j = i + 1 := ⟨j - 1, by omega⟩
          cases hyo : y == key with
          | false =>
            clear Hno
            go_wp2_with fail
            go_round
            case rel => exact .inl ⟨i, by go_num, by omega, HQ2.out⟩
            case measure => simp [intOf]; try omega
          | true =>
            have hkP : P < (k : Int) := Int.not_le.1 fun h => Hno.out ⟨by omega, by simpa using hyo, h⟩
            clear Hno
            go_wp2_with fail
            go_round
            case rel => exact .inl ⟨i, by go_num, by omega, HQ2.out⟩
            case measure => simp [intOf]; try omega
    · have HQ2 : Hid (T = none) := HQ.out.symm
      clear HQ
      go_wp2_with fail
      go_ret3
      rw [HR.out.1, HR.out.2.1, HR.out.2.2, HQ2.out]
      exact ⟨rfl, Hbel.out⟩

theorem brackets_any (v : Value) (zs : List Int) (k : Nat) (key : Int) (w : World) (hr : Reads w v zs) (hk : k ≤ zs.length - 1) (hn : zs.length ≤ 4096) (h0 : brk key ≠ 0) :
    Calls Try.prog 69 #[v, .int .i64 (k : Int), .int .i64 key] w fun e w' =>
      e = .returned (.tuple #[.int .i64 (trip (bfind zs k (opn key) zs.length)).1, .int .i64 (trip (bfind zs k (opn key) zs.length)).2.1, .bool (trip (bfind zs k (opn key) zs.length)).2.2]) ∧ Below w.heap.size w w' := by
  by_cases hz : zs.length = 0
  · obtain ⟨a, cap, rfl⟩ := hr.shape
    rw [hz]
    rw [hz] at hk
    obtain rfl : k = 0 := by omega
    exact brackets_none a cap key w
  · rcases hr with ⟨a, cap, rfl, rfl⟩ | ⟨b, off, cap, rfl, hcap, hcm, hb, hc⟩
    · exact absurd rfl hz
    · cases hs : shuts key with
      | true => exact brackets_shut b off cap zs k key w (by omega) hn hb hcap hcm hc hs
      | false => exact brackets_open b off cap zs k key w (by omega) hn hb hcap hcm hc hs h0
end Go.Proofs.Ytpgjaoemkadenaa.Seek

/- The contract of object.Of. -/
set_option linter.unusedVariables false
set_option linter.unusedSimpArgs false
set_option maxRecDepth 100000
namespace Go.Proofs.Ytpgjaoemkadenaa.Plain
open Seek
/-- A partner is a place. -/
theorem par_place {f : Nat → Int} {n i : Nat} (h : i < n) : par f n i = -1 ∨ ∃ z : Nat, par f n i = (z : Int) ∧ z < n := by
  rcases (holds f n).told i h with g | ⟨z, g1, g2, _⟩
  · exact .inl g
  · exact .inr ⟨z, g2, g1⟩
theorem bfind_bound {zs : List Int} {k o : Int} {a z : Nat} (hn : zs.length ≤ 4096) (h : bfind zs k o zs.length = some (a, z)) : a ≤ 4096 ∧ z ≤ 4096 := by
  obtain ⟨h1, _, h3, _⟩ := bfind_spec h
  rcases par_place (f := fn zs) h1 with g | ⟨i, g1, g2⟩
  · rw [g] at h3
    exact ⟨by omega, by rw [h3]; decide⟩
  · rw [g1] at h3
    exact ⟨by omega, by omega⟩
theorem qfind_bound {zs : List Int} {k s : Int} {a z : Nat} (hn : zs.length ≤ 4096) (h : qfind (fn zs) s k zs.length 0 none = some (a, z)) : a ≤ 4096 ∧ z ≤ 4096 := by
  have := qfind_spec (fun x hx => by cases hx) h
  omega
end Go.Proofs.Ytpgjaoemkadenaa.Plain
namespace Go.Proofs.Ytpgjaoemkadenaa.Seek
open Go.RowKit Plain

/-- What Of answers. -/
def ThingPost (g : Int × Int × Int) (w : World) (e : Ending) (w' : World) : Prop := e = .returned (.tuple #[.int .i64 g.1, .int .i64 g.2.1, .int .i64 g.2.2]) ∧ Below w.heap.size w w'

set_option maxHeartbeats 1000000 in
theorem of_large (a : Option Addr) (n cap : Nat) (k : Int) (ar : Bool) (key : Int) (w : World) (h : 4096 < n) (hm : n ≤ maxLen) :
    Calls Try.prog 56 #[.slice a n cap, .int .i64 k, .bool ar, .int .i64 key] w fun e w' => ThingPost (0, 0, 2) w e w' := by
  unfold maxLen at hm
  go_enter Try.func56, Try.ntmps56
  go_wp2_with fail
  go_ret3
  exact ⟨rfl, Below.refl _ _⟩

set_option maxHeartbeats 1000000 in
theorem of_arg (a : Option Addr) (n cap : Nat) (k : Int) (ar : Bool) (key : Int) (w : World) (h : n ≤ 4096) (hk : k < 0 ∨ ((n - 1 : Nat) : Int) < k) :
    Calls Try.prog 56 #[.slice a n cap, .int .i64 k, .bool ar, .int .i64 key] w fun e w' => ThingPost (0, 0, 1) w e w' := by
  have hmax : (if (n : Int) - 1 < 0 then (0 : Int) else (n : Int) - 1) = ((n - 1 : Nat) : Int) := by split <;> omega
  by_cases h0 : k < 0
  · clear hk
    go_enter Try.func56, Try.ntmps56
    go_wp2_with fail
    go_ret3
    exact ⟨rfl, Below.refl _ _⟩
  · have hk2 : ((n - 1 : Nat) : Int) < k := hk.resolve_left h0
    clear hk h0
    generalize ((n - 1 : Nat) : Int) = M at *
    go_enter Try.func56, Try.ntmps56
    go_wp2_with fail
    all_goals (
      go_ret3
      exact ⟨rfl, Below.refl _ _⟩)

set_option maxHeartbeats 2000000 in
theorem of_word (a : Option Addr) (cap : Nat) (zs : List Int) (k : Nat) (ar : Bool) (key : Int) (w : World) (hr : Reads w (.slice a zs.length cap) zs) (h : zs.length ≤ 4096) (hk : k ≤ zs.length - 1) (hkey : key = 119 ∨ key = 87) :
    Calls Try.prog 56 #[.slice a zs.length cap, .int .i64 (k : Int), .bool ar, .int .i64 key] w fun e w' => ThingPost (wanswer zs k ar (key == 87)) w e w' := by
  have hmax : (if (zs.length : Int) - 1 < 0 then (0 : Int) else (zs.length : Int) - 1) = ((zs.length - 1 : Nat) : Int) := by split <;> omega
  have hk2 : (k : Int) ≤ ((zs.length - 1 : Nat) : Int) := by omega
  have H : Hid (∀ bg, Calls Try.prog 68 #[.slice a zs.length cap, .int .i64 (k : Int), .bool ar, .bool bg] w fun e w' => e = .returned (.tuple #[.int .i64 (wanswer zs k ar bg).1, .int .i64 (wanswer zs k ar bg).2.1, .int .i64 (wanswer zs k ar bg).2.2]) ∧ w' = w) := fun bg => words_any _ zs k ar bg w hr hk h
  clear hr hk
  generalize ((zs.length - 1 : Nat) : Int) = M at *
  rcases hkey with rfl | rfl
  · go_enter Try.func56, Try.ntmps56
    go_wp2_with fail
    refine (H.out false).mono ?_
    rintro e w1 ⟨rfl, hw1⟩
    rw [hw1]
    clear hw1 w1
    go_wp2_with fail
    go_ret3
    exact ⟨rfl, Below.refl _ _⟩
  · go_enter Try.func56, Try.ntmps56
    go_wp2_with fail
    refine (H.out true).mono ?_
    rintro e w1 ⟨rfl, hw1⟩
    rw [hw1]
    clear hw1 w1
    go_wp2_with fail
    go_ret3
    exact ⟨rfl, Below.refl _ _⟩

set_option maxHeartbeats 4000000 in
theorem of_bracket (a : Option Addr) (cap : Nat) (zs : List Int) (k : Nat) (ar : Bool) (key : Int) (w : World) (hr : Reads w (.slice a zs.length cap) zs) (h : zs.length ≤ 4096) (hk : k ≤ zs.length - 1) (hkey : key = 40 ∨ key = 41 ∨ key = 91 ∨ key = 93 ∨ key = 123 ∨ key = 125) :
    Calls Try.prog 56 #[.slice a zs.length cap, .int .i64 (k : Int), .bool ar, .int .i64 key] w fun e w' => ThingPost (otold ar (bfind zs k (opn key) zs.length)) w e w' := by
  have hmax : (if (zs.length : Int) - 1 < 0 then (0 : Int) else (zs.length : Int) - 1) = ((zs.length - 1 : Nat) : Int) := by split <;> omega
  have hk2 : (k : Int) ≤ ((zs.length - 1 : Nat) : Int) := by omega
  have h0 : brk key ≠ 0 := by rcases hkey with rfl | rfl | rfl | rfl | rfl | rfl <;> decide
  have H1 := brackets_any _ zs k key w hr hk h h0
  have H2 : ∀ w, _ := fun w => between_go (bfind zs k (opn key) zs.length) ar w (fun a z hz => bfind_bound h hz)
  generalize bfind zs k (opn key) zs.length = T at H1 H2 ⊢
  obtain ⟨x, y, t⟩ : Int × Int × Bool := trip T
  have H1 : Hid (Calls Try.prog 69 #[.slice a zs.length cap, .int .i64 (k : Int), .int .i64 key] w fun e w' => e = .returned (.tuple #[.int .i64 (trip T).1, .int .i64 (trip T).2.1, .bool (trip T).2.2]) ∧ Below w.heap.size w w') := H1
  have H2 : Hid (∀ w : World, Calls Try.prog 70 #[.int .i64 (trip T).1, .int .i64 (trip T).2.1, .bool (trip T).2.2, .bool ar] w fun e w' => e = .returned (.tuple #[.int .i64 (otold ar T).1, .int .i64 (otold ar T).2.1, .int .i64 (otold ar T).2.2]) ∧ w' = w) := H2
  clear hr hk h0
  clear x y t
  generalize trip T = t at *
  generalize otold ar T = r at *
  obtain ⟨t1, t2, t3⟩ := t
  generalize ((zs.length - 1 : Nat) : Int) = M at *
  rcases hkey with rfl | rfl | rfl | rfl | rfl | rfl
  all_goals (
    go_enter Try.func56, Try.ntmps56
    go_wp2_with fail
    refine H1.out.mono ?_
    rintro e w1 ⟨rfl, hb⟩
    have HB : Hid (Below w.heap.size w w1) := hb
    clear hb
    go_wp2_with fail
    refine (H2.out w1).mono ?_
    rintro e w2 ⟨rfl, hw2⟩
    rw [hw2]
    clear hw2 w2
    go_wp2_with fail
    go_ret3
    exact ⟨rfl, HB.out⟩)

set_option maxHeartbeats 4000000 in
theorem of_quote (a : Option Addr) (cap : Nat) (zs : List Int) (k : Nat) (ar : Bool) (key : Int) (w : World) (hr : Reads w (.slice a zs.length cap) zs) (h : zs.length ≤ 4096) (hk : k ≤ zs.length - 1) (hkey : key = 34 ∨ key = 39 ∨ key = 96) :
    Calls Try.prog 56 #[.slice a zs.length cap, .int .i64 (k : Int), .bool ar, .int .i64 key] w fun e w' => ThingPost (otold ar (qfind (fn zs) key k zs.length 0 none)) w e w' := by
  have hmax : (if (zs.length : Int) - 1 < 0 then (0 : Int) else (zs.length : Int) - 1) = ((zs.length - 1 : Nat) : Int) := by split <;> omega
  have hk2 : (k : Int) ≤ ((zs.length - 1 : Nat) : Int) := by omega
  have H1 := quotes_any _ zs k key w hr (by omega) h
  have H2 : ∀ w, _ := fun w => between_go (qfind (fn zs) key k zs.length 0 none) ar w (fun a z hz => qfind_bound h hz)
  generalize qfind (fn zs) key k zs.length 0 none = T at H1 H2 ⊢
  have H1 : Hid (Calls Try.prog 71 #[.slice a zs.length cap, .int .i64 (k : Int), .int .i64 key] w fun e w' => e = .returned (.tuple #[.int .i64 (trip T).1, .int .i64 (trip T).2.1, .bool (trip T).2.2]) ∧ w' = w) := H1
  have H2 : Hid (∀ w : World, Calls Try.prog 70 #[.int .i64 (trip T).1, .int .i64 (trip T).2.1, .bool (trip T).2.2, .bool ar] w fun e w' => e = .returned (.tuple #[.int .i64 (otold ar T).1, .int .i64 (otold ar T).2.1, .int .i64 (otold ar T).2.2]) ∧ w' = w) := H2
  clear hr hk
  generalize trip T = t at *
  generalize otold ar T = r at *
  obtain ⟨t1, t2, t3⟩ := t
  generalize ((zs.length - 1 : Nat) : Int) = M at *
  rcases hkey with rfl | rfl | rfl
  all_goals (
    go_enter Try.func56, Try.ntmps56
    go_wp2_with fail
    refine H1.out.mono ?_
    rintro e w1 ⟨rfl, hw1⟩
    rw [hw1]
    clear hw1 w1
    go_wp2_with fail
    refine (H2.out w).mono ?_
    rintro e w2 ⟨rfl, hw2⟩
    rw [hw2]
    clear hw2 w2
    go_wp2_with fail
    go_ret3
    exact ⟨rfl, Below.refl _ _⟩)

theorem sgn_cases {key : Int} (h : sgn key = true) : (key = 40 ∨ key = 41 ∨ key = 91 ∨ key = 93 ∨ key = 123 ∨ key = 125) ∨ (key = 34 ∨ key = 39 ∨ key = 96) := by
  unfold sgn at h
  rcases sort key with g | g | g
  · rcases opens_cases g.1 with g | g | g <;> omega
  · rcases shuts_cases g.2.1 with g | g | g <;> omega
  · rw [g.2.2] at h
    simp only [bne_self_eq_false, Bool.false_or, Bool.or_eq_true, beq_iff_eq] at h
    omega
theorem sgn_none {key : Int} (h : sgn key = false) : ¬ key = 40 ∧ ¬ key = 41 ∧ ¬ key = 91 ∧ ¬ key = 93 ∧ ¬ key = 123 ∧ ¬ key = 125 ∧ ¬ key = 34 ∧ ¬ key = 39 ∧ ¬ key = 96 := by
  refine ⟨?_, ?_, ?_, ?_, ?_, ?_, ?_, ?_, ?_⟩ <;> (rintro rfl; exact absurd h (by decide))

set_option maxHeartbeats 4000000 in
theorem of_key (a : Option Addr) (n cap : Nat) (k : Nat) (ar : Bool) (key : Int) (w : World) (h : n ≤ 4096) (hk : k ≤ n - 1) (h1 : ¬ (key = 119 ∨ key = 87)) (h2 : sgn key = false) :
    Calls Try.prog 56 #[.slice a n cap, .int .i64 (k : Int), .bool ar, .int .i64 key] w fun e w' => ThingPost (0, 0, 9) w e w' := by
  have hmax : (if (n : Int) - 1 < 0 then (0 : Int) else (n : Int) - 1) = ((n - 1 : Nat) : Int) := by split <;> omega
  have hk2 : (k : Int) ≤ ((n - 1 : Nat) : Int) := by omega
  obtain ⟨e1, e2, e3, e4, e5, e6, e7, e8, e9⟩ := sgn_none h2
  simp only [not_or] at h1
  obtain ⟨e10, e11⟩ := h1
  have g1 : (key == 40) = false := by simpa using e1
  have g2 : (key == 41) = false := by simpa using e2
  have g3 : (key == 91) = false := by simpa using e3
  have g4 : (key == 93) = false := by simpa using e4
  have g5 : (key == 123) = false := by simpa using e5
  have g6 : (key == 125) = false := by simpa using e6
  have g7 : (key == 34) = false := by simpa using e7
  have g8 : (key == 39) = false := by simpa using e8
  have g9 : (key == 96) = false := by simpa using e9
  have g10 : (key == 119) = false := by simpa using e10
  have g11 : (key == 87) = false := by simpa using e11
  clear e1 e2 e3 e4 e5 e6 e7 e8 e9 e10 e11 h2 hk
  generalize ((n - 1 : Nat) : Int) = M at *
  go_enter Try.func56, Try.ntmps56
  go_wp2_with fail
  go_ret3
  exact ⟨rfl, Below.refl _ _⟩

theorem Reads.most {w : World} {v : Value} {zs : List Int} (h : Reads w v zs) : zs.length ≤ maxLen := by
  rcases h with ⟨_, _, _, rfl⟩ | ⟨_, _, cap, _, h1, h2, _⟩
  · decide
  · omega
theorem thing_go (v : Value) (zs : List Int) (k : Int) (ar : Bool) (key : Int) (w : World) (hr : Reads w v zs) :
    Calls Try.prog 56 #[v, .int .i64 k, .bool ar, .int .i64 key] w fun e w' => ThingPost (thing zs k ar key) w e w' := by
  have hm := hr.most
  obtain ⟨a, cap, rfl⟩ := hr.shape
  by_cases h : 4096 < zs.length
  · rw [thing_large h]
    exact of_large a zs.length cap k ar key w h hm
  · by_cases hk : k < 0 ∨ ((zs.length - 1 : Nat) : Int) < k
    · rw [thing_arg h hk]
      exact of_arg a zs.length cap k ar key w (by omega) hk
    · obtain ⟨j, rfl⟩ : ∃ j : Nat, k = (j : Int) := ⟨k.toNat, by omega⟩
      have hj : j ≤ zs.length - 1 := by omega
      by_cases hw : key = 119 ∨ key = 87
      · rw [thing_word h hk hw]
        exact of_word a cap zs j ar key w hr (by omega) hj hw
      · cases hs : sgn key with
        | true =>
          rw [thing_sign h hk hs]
          rcases sgn_cases hs with hb | hq
          · have h0 : brk key ≠ 0 := by rcases hb with rfl | rfl | rfl | rfl | rfl | rfl <;> decide
            unfold pick
            rw [if_neg h0]
            exact of_bracket a cap zs j ar key w hr (by omega) hj hb
          · have h0 : brk key = 0 := by rcases hq with rfl | rfl | rfl <;> decide
            unfold pick
            rw [if_pos h0]
            exact of_quote a cap zs j ar key w hr (by omega) hj hq
        | false =>
          rw [thing_key h hk hw hs]
          exact of_key a zs.length cap j ar key w (by omega) hj hw hs
end Go.Proofs.Ytpgjaoemkadenaa.Seek

/- The contract of fairkeep.of: a string's bytes as numbers. -/
set_option linter.unusedVariables false
set_option linter.unusedSimpArgs false
set_option maxRecDepth 100000
namespace Go.Proofs.Ytpgjaoemkadenaa.Seek
open Go.RowKit

/-- A string's bytes as numbers. -/
def codes (s : ByteArray) : List Int := s.data.toList.map fun b => (b.toNat : Int)
theorem codes_len (s : ByteArray) : (codes s).length = s.size := by unfold codes; simp
theorem codes_take (s : ByteArray) (k : Nat) (h : k < s.size) : (codes s).take (k + 1) = (codes s).take k ++ [((s[k]'h).toNat : Int)] := by
  rw [List.take_succ_eq_append_getElem (by rw [codes_len]; exact h)]
  unfold codes
  simp
  rfl

theorem conv_bytes (s : ByteArray) (w : World) : ∃ cap w1, (convert 9 57 (.string s)).run Try.prog w = .ok (.slice (some ⟨w.heap.size, 0, none⟩) s.size cap) w1 ∧ Below w.heap.size w w1 ∧
    w.heap.size < w1.heap.size ∧ ∀ j (h : j < s.size), w1.cell? ⟨w.heap.size, j, none⟩ = some (.int .u8 ((s[j]'h).toNat : Int)) := by
  refine ⟨_, _, run_bytes_of_string w 9 57 5 s Try.underlying9 Try.underlying57 Try.underlying5, ?_, ?_, ?_⟩
  · exact (below_drewN (Below.refl _ _) 1).alloc (Nat.le_refl _) _
  · show w.heap.size < (w.heap.push _).size
    simp
  · intro j h
    unfold World.cell?
    simp only
    rw [show ∀ o, (w.drew.alloc o).heap[w.heap.size]? = some o from fun o => by show (w.heap.push o)[w.heap.size]? = _; simp]
    simp only
    exact bytesRow_at s _ j h

set_option maxHeartbeats 1000000 in
theorem of_any (s : ByteArray) (w : World) (hs : s.size ≤ 4096) :
    Calls Try.prog 12 #[.string s] w fun e w' => Below w.heap.size w w' ∧ ∃ v, e = .returned v ∧ w'.ownsRow w.heap.size 3 1 v (codes s).length (ints (codes s)) := by
  obtain ⟨i0, hi, hz0, hz1, hz2⟩ := info_parts info3
  obtain ⟨cap, w1, hconv, hb1, hlt1, hcells⟩ := conv_bytes s w
  have Hc : Hid (∀ j (h : j < s.size), w1.cell? ⟨w.heap.size, j, none⟩ = some (.int .u8 ((s[j]'h).toNat : Int))) := hcells
  clear hcells
  go_enter Try.func12, Try.ntmps12
  go_wp2_with fail
  go_loopw [3, 9] (fun u3 u9 wr => ∃ k : Nat, u9 = .int .i64 (k : Int) ∧ k ≤ s.size ∧ wr.ownsRow w1.heap.size 3 1 u3 ((codes s).take k).length (ints ((codes s).take k)) ∧ Below w1.heap.size w1 wr)
    (fun _ u _ => s.size - (intOf u).toNat)
  case atStart => exact ⟨0, rfl, by omega, World.ownsRow_nil _ _ _ _, Below.refl _ _⟩
  case round =>
    obtain ⟨k, rfl, hk, hown, hbr⟩ := hrel
    have hbs := hbr.size
    by_cases hlt : k < s.size
    · have hcx : wr.cell? ⟨w.heap.size, k, none⟩ = some (.int .u8 ((s[k]'hlt).toNat : Int)) := (hbr.cell (by exact hlt1)).trans (Hc.out k hlt)
      have hx : (s[k]'hlt).toNat ≤ 255 := by have := (s[k]'hlt).toNat_lt; omega
      have Ht : Hid ((codes s).take (k + 1) = (codes s).take k ++ [((s[k]'hlt).toNat : Int)]) := codes_take s k hlt
      have hn1 : ((codes s).take k ++ [((s[k]'hlt).toNat : Int)]).length = ((codes s).take k).length + 1 := by simp
      have hn2 : ((codes s).take k).length ≤ 4096 := by rw [List.length_take, codes_len]; omega
      generalize (s[k]'hlt).toNat = x at hcx hx Ht hn1
      go_wp2_with (at_builtin; refine wpList_append_own _ rfl _ _ 22 rfl w1.heap.size 3 i0 (.int .i64 0) 1 8 Try.underlying22 hi hz0 hz1 hz2 rfl (by decide) _ _ _ rfl (hown.alloc _) ⟨wr.heap.size, 0, none⟩ 1 1 [.int .i64 (x : Int)] rfl rfl ?c1 ?c2 ?c3 ?c4 ?c5 ?_)
      case c1 =>
        intro j u hj
        match j, hj with
        | 0, hj => simp at hj; subst hj; simp [Addr.add]
      case c2 => intro u hu; simp at hu; subst hu; rfl
      case c3 => unfold maxLen; omega
      case c4 => omega
      case c5 => simp; omega
      intro v' w5 hown' hgrow _
      have hb5 : Below w1.heap.size w1 w5 := (hbr.alloc hbr.size _).grown hgrow (by simp; omega) (fun j hj => (hown.lt j hj).1)
      have Ho5 : Hid (w5.ownsRow w1.heap.size 3 1 v' ((codes s).take (k + 1)).length (ints ((codes s).take (k + 1)))) := by
        show World.ownsRow _ _ _ _ _ _ _
        rw [Ht.out, hn1]
        rw [List.length_take]
        unfold ints at hown' ⊢
        rw [List.map_append]
        exact hown'
      clear hown' hgrow hown hbr
      go_wp2_with fail
      go_roundw
      case rel => exact ⟨k + 1, by go_num, by omega, Ho5.out, hb5⟩
      case measure => simp [intOf]; omega
    · obtain rfl : k = s.size := by omega
      have Ho : Hid (wr.ownsRow w1.heap.size 3 1 u3 (codes s).length (ints (codes s))) := by
        rw [List.take_of_length_le (by rw [codes_len]; exact Nat.le_refl _)] at hown
        exact hown
      clear hown
      go_wp2_with fail
      go_ret
      exact ⟨hb1.trans (hbr.mono hb1.size), _, rfl, owned_less Ho.out hb1.size⟩
end Go.Proofs.Ytpgjaoemkadenaa.Seek
