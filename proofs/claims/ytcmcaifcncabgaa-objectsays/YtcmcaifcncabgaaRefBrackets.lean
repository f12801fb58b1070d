/- The document's Object at brackets, and at keys that mean nothing. -/
import Derived.Test.YtcmcaifcncabgaaPartnerGo
import Derived.Test.YtcmcaifcncabgaaOfGo
import Derived.Deep.CutRange
set_option linter.unusedVariables false
set_option linter.unusedSimpArgs false
namespace Go.Proofs.Ytcmcaifcncabgaa.Seek
open Go.RowKit Plain
/-- Keys that are neither letters nor quotes. -/
structure NoKey (key : Int) : Prop where
  g1 : (key == 119) = false
  g2 : (key == 87) = false
  g3 : (key == 34) = false
  g4 : (key == 39) = false
  g5 : (key == 96) = false
theorem noKey {key : Int} (h : ¬ (key = 119 ∨ key = 87)) (h2 : ¬ (key = 34 ∨ key = 39 ∨ key = 96)) : NoKey key := by
  simp only [not_or] at h h2
  exact ⟨by simpa using h.1, by simpa using h.2, by simpa using h2.1, by simpa using h2.2.1, by simpa using h2.2.2⟩

set_option maxRecDepth 100000 in
set_option maxHeartbeats 8000000 in
theorem refother (a : Option Addr) (n cap : Nat) (k : Nat) (ar : Bool) (key : Int) (w : World) (hn : n ≤ 4096) (hk : k ≤ n - 1) (hno : NoKey key) (h0 : opn key = 0) :
    Calls Try.prog 7 #[.slice a n cap, .int .i64 (k : Int), .bool ar, .int .i64 key] w fun e w' => ThingPost (0, 0, 9) w e w' := by
  obtain ⟨g1, g2, g3, g4, g5⟩ := hno
  have H0 : Hid (opn key = 0) := h0
  clear h0
  cases ar
  all_goals (
    go_enter Try.func7, Try.ntmps7
    go_upto_region 3 with fail
    go_cut [37] from 26 to 37 (fun s37 wx => s37 = .bool false ∧ wx = w)
    case first =>
      by_cases hk0 : k = 0
      · subst hk0
        go_wp2_with fail
        go_meet
        exact ⟨rfl, rfl⟩
      · have hk1 : (0 : Int) < (k : Int) := by omega
        go_wp2_with fail
        go_meet
        exact ⟨by rw [decide_eq_false (by omega), decide_eq_false (by omega)]; rfl, rfl⟩
    case rest =>
    obtain ⟨rfl, hwc⟩ := hcut
    replace hwc := hwc.symm
    subst hwc
    go_wp2_with fail
    refine (bracket_go key w).mono ?_
    rintro e w1 ⟨rfl, hb⟩
    rw [H0.out]
    have HB : Hid (Below w.heap.size w w1) := hb
    clear hb
    go_wp2_with fail
    go_ret3
    exact ⟨rfl, HB.out⟩)

set_option maxRecDepth 100000 in
set_option maxHeartbeats 8000000 in
theorem refbracket_true (b off cap : Nat) (zs : List Int) (k : Nat) (key : Int) (w : World) (hn : zs.length ≤ 4096) (hk : k < zs.length) (hb : b < w.heap.size) (hno : NoKey key) (h0 : opn key ≠ 0)
    (hc : ∀ j, j < zs.length → w.cell? ⟨b, off + j, none⟩ = some (.int .i64 (zs.getD j 0))) :
    Calls Try.prog 7 #[.slice (some ⟨b, off, none⟩) zs.length cap, .int .i64 (k : Int), .bool true, .int .i64 key] w fun e w' => ThingPost (told true (bfind zs k (opn key) zs.length)) w e w' := by
  obtain ⟨g1, g2, g3, g4, g5⟩ := hno
  obtain ⟨T, hT⟩ : ∃ T, T = bfind zs k (opn key) zs.length := ⟨_, rfl⟩
  rw [← hT]
  obtain ⟨o, ho⟩ : ∃ o, o = opn key := ⟨_, rfl⟩
  have Ho : Hid (opn key = o) := ho.symm
  have ho0 : (o == 0) = false := by rw [ho]; simpa using h0
  rw [← ho] at hT
  have HT : Hid (T = bfind zs k o zs.length) := hT
  have HC : Hid (∀ w1, Below w.heap.size w w1 → ∀ j, j < zs.length → w1.cell? ⟨b, off + j, none⟩ = some (.int .i64 (zs.getD j 0))) := fun w1 hb1 j hj => (hb1.cell hb).trans (hc j hj)
  have HPt : Hid (∀ w1, Below w.heap.size w w1 → ∀ j : Nat, j < zs.length → Calls Try.prog 22 #[.slice (some ⟨b, off, none⟩) zs.length cap, .int .i64 (j : Int)] w1 fun e w' => e = .returned (.int .i64 (par (fn zs) zs.length j)) ∧ Below w.heap.size w w') := fun w1 hb1 j hj =>
    (partner_any b off cap zs j w1 hn (Nat.lt_of_lt_of_le hb hb1.size) hj (fun i hi => (hb1.cell hb).trans (hc i hi))).mono (fun e w' h => ⟨h.1, below_trans hb1 h.2 hb1.size⟩)
  clear hT ho h0 hc hb
  go_enter Try.func7, Try.ntmps7
  go_upto_region 3 with fail
  go_cut [37] from 26 to 37 (fun s37 wx => s37 = .bool false ∧ wx = w)
  case first =>
    by_cases hk0 : k = 0
    · subst hk0
      go_wp2_with fail
      go_meet
      exact ⟨rfl, rfl⟩
    · have hk1 : (0 : Int) < (k : Int) := by omega
      go_wp2_with fail
      go_meet
      exact ⟨by rw [decide_eq_false (by omega), decide_eq_false (by omega)]; rfl, rfl⟩
  case rest =>
  obtain ⟨rfl, hwc⟩ := hcut
  replace hwc := hwc.symm
  subst hwc
  go_wp2_with fail
  refine (bracket_go key w).mono ?_
  rintro e w1 ⟨rfl, hb⟩
  rw [Ho.out]
  have HB : Hid (Below w.heap.size w w1) := hb
  clear hb
  go_wp2_with fail
  go_loopw [20, 170] (fun u20 u170 wr => ∃ m : Nat, u170 = .int .i64 (m : Int) ∧ m ≤ zs.length ∧ Hid (Below w.heap.size w wr) ∧ ((u20 = .int .i64 (-1) ∧ Hid (bfind zs k o m = none)) ∨ (∃ p z : Nat, u20 = .int .i64 (p : Int) ∧ Hid (bfind zs k o m = some (p, z))))) (fun _ u170 _ => zs.length - (intOf u170).toNat)
  case atStart => exact ⟨0, rfl, by omega, HB.out, .inl ⟨rfl, rfl⟩⟩
  case round =>
    obtain ⟨m, rfl, hm, HBr, hcase⟩ := hrel
    by_cases hlt : m < zs.length
    · have hI : (m : Int) < (zs.length : Int) := by omega
      have hcx := HC.out wr HBr.out m hlt
      have hbr := @brp_true zs k o m
      generalize zs.getD m 0 = y at hcx hbr
      obtain ⟨P, hP⟩ : ∃ P, P = par (fn zs) zs.length m := ⟨_, rfl⟩
      rw [← hP] at hbr
      have HP : Hid (par (fn zs) zs.length m = P) := hP.symm
      clear hP
      by_cases hhit : (m : Int) ≤ (k : Int) ∧ y = o ∧ (k : Int) ≤ P
      · have HQ : Hid (bfind zs k o (m + 1) = some (m, P.toNat)) := by
          rw [← HP.out]
          exact bfind_hit (hbr.2 hhit)
        have hyo : (y == o) = true := by simpa using hhit.2.1
        have hmk : (m : Int) ≤ (k : Int) := hhit.1
        have hkP : (k : Int) ≤ P := hhit.2.2
        clear hbr hhit
        have hcase2 : ∃ u, u20 = Value.int .i64 u := by
          rcases hcase with ⟨rfl, _⟩ | ⟨p, z, rfl, _⟩
          · exact ⟨_, rfl⟩
          · exact ⟨_, rfl⟩
        obtain ⟨u, rfl⟩ := hcase2
        clear hcase
        go_wp2_with fail
        refine (HPt.out wr HBr.out m hlt).mono ?_
        rintro e w2 ⟨rfl, hb2⟩
        rw [HP.out]
        have HB2 : Hid (Below w.heap.size w w2) := hb2
        clear hb2
        go_wp2_with fail
        go_roundw
        case rel => exact ⟨m + 1, by go_num, by omega, HB2.out, .inr ⟨m, P.toNat, rfl, HQ.out⟩⟩
        case measure => simp [intOf]; omega
      · have HQ : Hid (bfind zs k o (m + 1) = bfind zs k o m) := bfind_miss (by rw [← Bool.not_eq_true]; exact fun h => hhit (hbr.1 h))
        have Hhit : Hid (¬ ((m : Int) ≤ (k : Int) ∧ y = o ∧ (k : Int) ≤ P)) := hhit
        clear hbr hhit
        have hcase2 : ((u20 = .int .i64 (-1) ∧ Hid (bfind zs k o (m + 1) = none)) ∨ (∃ p z : Nat, u20 = .int .i64 (p : Int) ∧ Hid (bfind zs k o (m + 1) = some (p, z)))) := by
          rcases hcase with ⟨h1, h2⟩ | ⟨p, z, h1, h2⟩
          · exact .inl ⟨h1, HQ.out.trans h2.out⟩
          · exact .inr ⟨p, z, h1, HQ.out.trans h2.out⟩
        have Hcase : Hid ((u20 = .int .i64 (-1) ∧ Hid (bfind zs k o (m + 1) = none)) ∨ (∃ p z : Nat, u20 = .int .i64 (p : Int) ∧ Hid (bfind zs k o (m + 1) = some (p, z)))) := hcase2
        clear hcase hcase2 HQ
        cases hyo : y == o with
        | false =>
          clear Hhit
          go_wp2_with fail
          go_roundw
          case rel => exact ⟨m + 1, by go_num, by omega, HBr.out, Hcase.out⟩
          case measure => simp [intOf]; omega
        | true =>
          by_cases hmk : (m : Int) ≤ (k : Int)
          · have hkP : P < (k : Int) := Int.not_le.1 fun h => Hhit.out ⟨hmk, by simpa using hyo, h⟩
            clear Hhit
            go_wp2_with fail
            refine (HPt.out wr HBr.out m hlt).mono ?_
            rintro e w2 ⟨rfl, hb2⟩
            rw [HP.out]
            have HB2 : Hid (Below w.heap.size w w2) := hb2
            clear hb2
            go_wp2_with fail
            go_roundw
            case rel => exact ⟨m + 1, by go_num, by omega, HB2.out, Hcase.out⟩
            case measure => simp [intOf]; omega
          · have hmk2 : (k : Int) < (m : Int) := by omega
            clear Hhit hmk
            go_wp2_with fail
            go_roundw
            case rel => exact ⟨m + 1, by go_num, by omega, HBr.out, Hcase.out⟩
            case measure => simp [intOf]; omega
    · obtain rfl : m = zs.length := by omega
      rcases hcase with ⟨rfl, HQ⟩ | ⟨p, z, rfl, HQ⟩
      · have HT2 : Hid (T = none) := HT.out.trans HQ.out
        clear HQ
        go_wp2_with fail
        go_ret3
        rw [HT2.out]
        exact ⟨rfl, HBr.out⟩
      · have HT2 : Hid (T = some (p, z)) := HT.out.trans HQ.out
        obtain ⟨q1, q2, q3, _⟩ := bfind_spec HQ.out
        have q4 := (brp_true.1 q2).2.2
        have HPz : Hid (par (fn zs) zs.length p = (z : Int)) := by show _ = _; omega
        have hz : z ≤ 4096 := (bfind_bound hn HQ.out).2
        clear HQ q2 q3 q4
        go_wp2_with fail
        refine (HPt.out wr HBr.out p q1).mono ?_
        rintro e w2 ⟨rfl, hb2⟩
        rw [HPz.out]
        have HB2 : Hid (Below w.heap.size w w2) := hb2
        clear hb2
        go_wp2_with fail
        go_ret3
        rw [HT2.out]
        refine ⟨?_, HB2.out⟩
        show Ending.returned (.tuple #[.int .i64 _, .int .i64 _, .int .i64 0]) = Ending.returned (.tuple #[.int .i64 (p : Int), .int .i64 ((z : Int) + 1), .int .i64 0])
        congr <;> omega

set_option maxRecDepth 100000 in
set_option maxHeartbeats 8000000 in
theorem refbracket_false (b off cap : Nat) (zs : List Int) (k : Nat) (key : Int) (w : World) (hn : zs.length ≤ 4096) (hk : k < zs.length) (hb : b < w.heap.size) (hno : NoKey key) (h0 : opn key ≠ 0)
    (hc : ∀ j, j < zs.length → w.cell? ⟨b, off + j, none⟩ = some (.int .i64 (zs.getD j 0))) :
    Calls Try.prog 7 #[.slice (some ⟨b, off, none⟩) zs.length cap, .int .i64 (k : Int), .bool false, .int .i64 key] w fun e w' => ThingPost (told false (bfind zs k (opn key) zs.length)) w e w' := by
  obtain ⟨g1, g2, g3, g4, g5⟩ := hno
  obtain ⟨T, hT⟩ : ∃ T, T = bfind zs k (opn key) zs.length := ⟨_, rfl⟩
  rw [← hT]
  obtain ⟨o, ho⟩ : ∃ o, o = opn key := ⟨_, rfl⟩
  have Ho : Hid (opn key = o) := ho.symm
  have ho0 : (o == 0) = false := by rw [ho]; simpa using h0
  rw [← ho] at hT
  have HT : Hid (T = bfind zs k o zs.length) := hT
  have HC : Hid (∀ w1, Below w.heap.size w w1 → ∀ j, j < zs.length → w1.cell? ⟨b, off + j, none⟩ = some (.int .i64 (zs.getD j 0))) := fun w1 hb1 j hj => (hb1.cell hb).trans (hc j hj)
  have HPt : Hid (∀ w1, Below w.heap.size w w1 → ∀ j : Nat, j < zs.length → Calls Try.prog 22 #[.slice (some ⟨b, off, none⟩) zs.length cap, .int .i64 (j : Int)] w1 fun e w' => e = .returned (.int .i64 (par (fn zs) zs.length j)) ∧ Below w.heap.size w w') := fun w1 hb1 j hj =>
    (partner_any b off cap zs j w1 hn (Nat.lt_of_lt_of_le hb hb1.size) hj (fun i hi => (hb1.cell hb).trans (hc i hi))).mono (fun e w' h => ⟨h.1, below_trans hb1 h.2 hb1.size⟩)
  clear hT ho h0 hc hb
  go_enter Try.func7, Try.ntmps7
  go_upto_region 3 with fail
  go_cut [37] from 26 to 37 (fun s37 wx => s37 = .bool false ∧ wx = w)
  case first =>
    by_cases hk0 : k = 0
    · subst hk0
      go_wp2_with fail
      go_meet
      exact ⟨rfl, rfl⟩
    · have hk1 : (0 : Int) < (k : Int) := by omega
      go_wp2_with fail
      go_meet
      exact ⟨by rw [decide_eq_false (by omega), decide_eq_false (by omega)]; rfl, rfl⟩
  case rest =>
  obtain ⟨rfl, hwc⟩ := hcut
  replace hwc := hwc.symm
  subst hwc
  go_wp2_with fail
  refine (bracket_go key w).mono ?_
  rintro e w1 ⟨rfl, hb⟩
  rw [Ho.out]
  have HB : Hid (Below w.heap.size w w1) := hb
  clear hb
  go_wp2_with fail
  go_loopw [20, 170] (fun u20 u170 wr => ∃ m : Nat, u170 = .int .i64 (m : Int) ∧ m ≤ zs.length ∧ Hid (Below w.heap.size w wr) ∧ ((u20 = .int .i64 (-1) ∧ Hid (bfind zs k o m = none)) ∨ (∃ p z : Nat, u20 = .int .i64 (p : Int) ∧ Hid (bfind zs k o m = some (p, z))))) (fun _ u170 _ => zs.length - (intOf u170).toNat)
  case atStart => exact ⟨0, rfl, by omega, HB.out, .inl ⟨rfl, rfl⟩⟩
  case round =>
    obtain ⟨m, rfl, hm, HBr, hcase⟩ := hrel
    by_cases hlt : m < zs.length
    · have hI : (m : Int) < (zs.length : Int) := by omega
      have hcx := HC.out wr HBr.out m hlt
      have hbr := @brp_true zs k o m
      generalize zs.getD m 0 = y at hcx hbr
      obtain ⟨P, hP⟩ : ∃ P, P = par (fn zs) zs.length m := ⟨_, rfl⟩
      rw [← hP] at hbr
      have HP : Hid (par (fn zs) zs.length m = P) := hP.symm
      clear hP
      by_cases hhit : (m : Int) ≤ (k : Int) ∧ y = o ∧ (k : Int) ≤ P
      · have HQ : Hid (bfind zs k o (m + 1) = some (m, P.toNat)) := by
          rw [← HP.out]
          exact bfind_hit (hbr.2 hhit)
        have hyo : (y == o) = true := by simpa using hhit.2.1
        have hmk : (m : Int) ≤ (k : Int) := hhit.1
        have hkP : (k : Int) ≤ P := hhit.2.2
        clear hbr hhit
        have hcase2 : ∃ u, u20 = Value.int .i64 u := by
          rcases hcase with ⟨rfl, _⟩ | ⟨p, z, rfl, _⟩
          · exact ⟨_, rfl⟩
          · exact ⟨_, rfl⟩
        obtain ⟨u, rfl⟩ := hcase2
        clear hcase
        go_wp2_with fail
        refine (HPt.out wr HBr.out m hlt).mono ?_
        rintro e w2 ⟨rfl, hb2⟩
        rw [HP.out]
        have HB2 : Hid (Below w.heap.size w w2) := hb2
        clear hb2
        go_wp2_with fail
        go_roundw
        case rel => exact ⟨m + 1, by go_num, by omega, HB2.out, .inr ⟨m, P.toNat, rfl, HQ.out⟩⟩
        case measure => simp [intOf]; omega
      · have HQ : Hid (bfind zs k o (m + 1) = bfind zs k o m) := bfind_miss (by rw [← Bool.not_eq_true]; exact fun h => hhit (hbr.1 h))
        have Hhit : Hid (¬ ((m : Int) ≤ (k : Int) ∧ y = o ∧ (k : Int) ≤ P)) := hhit
        clear hbr hhit
        have hcase2 : ((u20 = .int .i64 (-1) ∧ Hid (bfind zs k o (m + 1) = none)) ∨ (∃ p z : Nat, u20 = .int .i64 (p : Int) ∧ Hid (bfind zs k o (m + 1) = some (p, z)))) := by
          rcases hcase with ⟨h1, h2⟩ | ⟨p, z, h1, h2⟩
          · exact .inl ⟨h1, HQ.out.trans h2.out⟩
          · exact .inr ⟨p, z, h1, HQ.out.trans h2.out⟩
        have Hcase : Hid ((u20 = .int .i64 (-1) ∧ Hid (bfind zs k o (m + 1) = none)) ∨ (∃ p z : Nat, u20 = .int .i64 (p : Int) ∧ Hid (bfind zs k o (m + 1) = some (p, z)))) := hcase2
        clear hcase hcase2 HQ
        cases hyo : y == o with
        | false =>
          clear Hhit
          go_wp2_with fail
          go_roundw
          case rel => exact ⟨m + 1, by go_num, by omega, HBr.out, Hcase.out⟩
          case measure => simp [intOf]; omega
        | true =>
          by_cases hmk : (m : Int) ≤ (k : Int)
          · have hkP : P < (k : Int) := Int.not_le.1 fun h => Hhit.out ⟨hmk, by simpa using hyo, h⟩
            clear Hhit
            go_wp2_with fail
            refine (HPt.out wr HBr.out m hlt).mono ?_
            rintro e w2 ⟨rfl, hb2⟩
            rw [HP.out]
            have HB2 : Hid (Below w.heap.size w w2) := hb2
            clear hb2
            go_wp2_with fail
            go_roundw
            case rel => exact ⟨m + 1, by go_num, by omega, HB2.out, Hcase.out⟩
            case measure => simp [intOf]; omega
          · have hmk2 : (k : Int) < (m : Int) := by omega
            clear Hhit hmk
            go_wp2_with fail
            go_roundw
            case rel => exact ⟨m + 1, by go_num, by omega, HBr.out, Hcase.out⟩
            case measure => simp [intOf]; omega
    · obtain rfl : m = zs.length := by omega
      rcases hcase with ⟨rfl, HQ⟩ | ⟨p, z, rfl, HQ⟩
      · have HT2 : Hid (T = none) := HT.out.trans HQ.out
        clear HQ
        go_wp2_with fail
        go_ret3
        rw [HT2.out]
        exact ⟨rfl, HBr.out⟩
      · have HT2 : Hid (T = some (p, z)) := HT.out.trans HQ.out
        obtain ⟨q1, q2, q3, _⟩ := bfind_spec HQ.out
        have q4 := (brp_true.1 q2).2.2
        have HPz : Hid (par (fn zs) zs.length p = (z : Int)) := by show _ = _; omega
        have hz : z ≤ 4096 := (bfind_bound hn HQ.out).2
        clear HQ q2 q3 q4
        go_wp2_with fail
        refine (HPt.out wr HBr.out p q1).mono ?_
        rintro e w2 ⟨rfl, hb2⟩
        rw [HPz.out]
        have HB2 : Hid (Below w.heap.size w w2) := hb2
        clear hb2
        go_wp2_with fail
        go_ret3
        rw [HT2.out]
        refine ⟨?_, HB2.out⟩
        show Ending.returned (.tuple #[.int .i64 _, .int .i64 _, .int .i64 0]) = Ending.returned (.tuple #[.int .i64 ((p : Int) + 1), .int .i64 (z : Int), .int .i64 0])
        congr <;> omega

set_option maxRecDepth 100000 in
set_option maxHeartbeats 8000000 in
theorem refbracket_none (a : Option Addr) (cap : Nat) (ar : Bool) (key : Int) (w : World) (hno : NoKey key) (h0 : opn key ≠ 0) :
    Calls Try.prog 7 #[.slice a 0 cap, .int .i64 0, .bool ar, .int .i64 key] w fun e w' => ThingPost (0, 0, 6) w e w' := by
  obtain ⟨g1, g2, g3, g4, g5⟩ := hno
  obtain ⟨o, ho⟩ : ∃ o, o = opn key := ⟨_, rfl⟩
  have Ho : Hid (opn key = o) := ho.symm
  have ho0 : (o == 0) = false := by rw [ho]; simpa using h0
  clear ho h0
  cases ar
  all_goals (
    go_enter Try.func7, Try.ntmps7
    go_wp2_with fail
    refine (bracket_go key w).mono ?_
    rintro e w1 ⟨rfl, hb⟩
    rw [Ho.out]
    have HB : Hid (Below w.heap.size w w1) := hb
    clear hb
    go_wp2_with fail
    refine wp_loop_rounds 1 ?_
    rw [rounds_succ]
    go_wp2_with fail
    go_ret3
    exact ⟨rfl, HB.out⟩)
theorem refbracket (a : Option Addr) (cap : Nat) (zs : List Int) (k : Nat) (ar : Bool) (key : Int) (w : World) (hr : Reads w (.slice a zs.length cap) zs) (hn : zs.length ≤ 4096) (hk : k ≤ zs.length - 1) (hno : NoKey key) (h0 : opn key ≠ 0) :
    Calls Try.prog 7 #[.slice a zs.length cap, .int .i64 (k : Int), .bool ar, .int .i64 key] w fun e w' => ThingPost (told ar (bfind zs k (opn key) zs.length)) w e w' := by
  by_cases hz : zs.length = 0
  · rw [hz]
    rw [hz] at hk
    obtain rfl : k = 0 := by omega
    exact refbracket_none a cap ar key w hno h0
  · rcases hr with ⟨_, _, _, rfl⟩ | ⟨b, off, cap', hv, hcap, hcm, hb, hc⟩
    · exact absurd rfl hz
    · cases hv
      cases ar with
      | true => exact refbracket_true b off cap zs k key w hn (by omega) hb hno h0 hc
      | false => exact refbracket_false b off cap zs k key w hn (by omega) hb hno h0 hc
end Go.Proofs.Ytcmcaifcncabgaa.Seek
