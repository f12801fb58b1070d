/- The walk of MarkSays. -/
import Derived.Test.YteggadicomighaaRefErr
import Derived.Test.YteggadicomighaaRefMoved
import Derived.Test.YteggadicomighaaAllGo
import Derived.Test.YteggadicomighaaArrOps
import Derived.Deep.Cut
import Derived.Deep.CutRange
set_option linter.unusedVariables false
set_option linter.unusedSimpArgs false
namespace Go.Proofs.Yteggadicomighaa.Seek
open Go.RowKit Plain

section
variable {w : World} {ops : Array Oper} {rest : List Oper} {o : Oper} {a : Act} {Q : Exit → Act → World → Prop}
theorem load24f (x : Operand) (ho : o.op = .load 24 x) (hw : Region.wanted o (yielded ops a.tmps) = true) (g : Nat) (hx : a.eval x = .pointer (some ⟨g, 0, none⟩)) (ms : List Int) (hg : HoldsA w g ms)
    (h : wpList Try.prog ops Q rest (a.put o.dst (arr ms)) w) : wpList Try.prog ops Q (o :: rest) a w := load24 hw x ho g hx ms hg h
theorem build24f (ho : o.op = .build 24 #[]) (hw : Region.wanted o (yielded ops a.tmps) = true)
    (h : wpList Try.prog ops Q rest (a.put o.dst (arr zeros)) w) : wpList Try.prog ops Q (o :: rest) a w := build24 hw ho h
theorem neq24f (x y : Operand) (t : TypeId) (ho : o.op = .binOp .neq 24 x y t) (hw : Region.wanted o (yielded ops a.tmps) = true) (ms : List Int) (hx : a.eval x = arr ms) (hy : a.eval y = arr ms) (hl : ms.length = 26)
    (h : wpList Try.prog ops Q rest (a.put o.dst (.bool false)) w) : wpList Try.prog ops Q (o :: rest) a w := neq24 hw x y t ho ms hx hy hl h
theorem eql24f (x y : Operand) (t : TypeId) (ho : o.op = .binOp .eql 24 x y t) (hw : Region.wanted o (yielded ops a.tmps) = true) (ms : List Int) (hx : a.eval x = arr ms) (hy : a.eval y = arr ms) (hl : ms.length = 26)
    (h : wpList Try.prog ops Q rest (a.put o.dst (.bool true)) w) : wpList Try.prog ops Q (o :: rest) a w := eql24 hw x y t ho ms hx hy hl h
end
/-- What Set and Get answer. -/
def NameOk (ms : List Int) (name k : Int) (S : List Int) (g p h : Int) : Prop :=
  ((name < 97 ∨ 122 < name) ∧ S = zeros ∧ g = 9 ∧ p = 0 ∧ h = 9) ∨
  ∃ j : Nat, j < 26 ∧ name = 97 + (j : Int) ∧
    ((0 ≤ k ∧ k ≤ 4096 ∧ S = ms.set j (k + 1) ∧ g = 0) ∨ ((k < 0 ∨ 4096 < k) ∧ S = zeros ∧ g = 1)) ∧
    ((1 ≤ ms.getD j 0 ∧ ms.getD j 0 ≤ 4097 ∧ p = ms.getD j 0 - 1 ∧ h = 0) ∨ ((ms.getD j 0 < 1 ∨ 4097 < ms.getD j 0) ∧ p = 0 ∧ h = 6))
/-- What Move and Moved answer. -/
def BackOk (n : Int) (es : List Spl) (ms : List Int) (k : Int) (stick : Bool) (bad at_ f : Int) (A : List Int) (i : Int) : Prop :=
  (bad ≠ 0 ∧ at_ = 0 ∧ f = bad ∧ A = zeros ∧ i = bad) ∨
  ∃ (N : Nat) (ns : List Nsp), bad = 0 ∧ i = 0 ∧ n = (N : Int) ∧ es = ups ns ∧ Fits N ns ∧ A = mvAll N ns ms ∧
    (((k < 0 ∨ (N : Int) < k) ∧ at_ = 0 ∧ f = 1) ∨ ∃ q : Nat, k = (q : Int) ∧ q ≤ N ∧ at_ = mvd ns q stick ∧ f = 0)

set_option maxRecDepth 100000 in
set_option maxHeartbeats 8000000 in
theorem says_gen (n : Int) (v : Value) (es : List Spl) (k : Int) (stick : Bool) (ms : List Int) (name : Int) (w : World) (h2 : ReadsE w v es) (hl : ms.length = 26)
    (bad at_ f g p h i : Int) (S A : List Int) (hSl : S.length = 26) (hAl : A.length = 26)
    (cE : ∀ wx, ReadsE wx v es → Calls Try.prog 6 #[.int .i64 n, v] wx fun e w' => e = .returned (.int .i64 bad) ∧ Below wx.heap.size wx w')
    (cM : ∀ wx, ReadsE wx v es → Calls Try.prog 7 #[.int .i64 n, v, .int .i64 k, .bool stick] wx fun e w' => e = .returned (.tuple #[.int .i64 at_, .int .i64 f]) ∧ Below wx.heap.size wx w')
    (cS : ∀ wx, Calls Try.prog 8 #[arr ms, .int .i64 name, .int .i64 k] wx fun e w' => e = .returned (.tuple #[arr S, .int .i64 g]) ∧ Below wx.heap.size wx w')
    (cG : ∀ wx, Calls Try.prog 9 #[arr ms, .int .i64 name] wx fun e w' => e = .returned (.tuple #[.int .i64 p, .int .i64 h]) ∧ Below wx.heap.size wx w')
    (cA : ∀ wx, ReadsE wx v es → Calls Try.prog 10 #[.int .i64 n, v, arr ms] wx fun e w' => e = .returned (.tuple #[arr A, .int .i64 i]) ∧ Below wx.heap.size wx w')
    (hN : NameOk ms name k S g p h) (hB : BackOk n es ms k stick bad at_ f A i) :
    Calls Try.prog 3 #[.int .i64 n, v, .int .i64 k, .bool stick, arr ms, .int .i64 name] w fun e w' => e = .returned (.bool true) ∧ Below w.heap.size w w' := by
  have HN : Hid (NameOk ms name k S g p h) := hN
  have HBk : Hid (BackOk n es ms k stick bad at_ f A i) := hB
  have CE : Hid (∀ wx, ReadsE wx v es → Calls Try.prog 6 #[.int .i64 n, v] wx fun e w' => e = .returned (.int .i64 bad) ∧ Below wx.heap.size wx w') := cE
  have CM : Hid (∀ wx, ReadsE wx v es → Calls Try.prog 7 #[.int .i64 n, v, .int .i64 k, .bool stick] wx fun e w' => e = .returned (.tuple #[.int .i64 at_, .int .i64 f]) ∧ Below wx.heap.size wx w') := cM
  have CS : Hid (∀ wx, Calls Try.prog 8 #[arr ms, .int .i64 name, .int .i64 k] wx fun e w' => e = .returned (.tuple #[arr S, .int .i64 g]) ∧ Below wx.heap.size wx w') := cS
  have CG : Hid (∀ wx, Calls Try.prog 9 #[arr ms, .int .i64 name] wx fun e w' => e = .returned (.tuple #[.int .i64 p, .int .i64 h]) ∧ Below wx.heap.size wx w') := cG
  have CA : Hid (∀ wx, ReadsE wx v es → Calls Try.prog 10 #[.int .i64 n, v, arr ms] wx fun e w' => e = .returned (.tuple #[arr A, .int .i64 i]) ∧ Below wx.heap.size wx w') := cA
  have H2 : Hid (∀ wx, Below w.heap.size w wx → ReadsE wx v es) := fun wx hb => h2.below hb
  clear hN hB cE cM cS cG cA h2
  go_enter Try.func3, Try.ntmps3
  go_wp2_with (refine box24 rfl _ rfl ms rfl hl ?_)
  intro w1 ha hb
  have HB1 : Hid (Below w.heap.size w w1) := hb
  have HM1 : Hid (HoldsA w1 w.heap.size ms) := ha
  clear ha hb
  go_wp2_with fail
  refine (CE.out w1 (H2.out _ HB1.out)).mono ?_
  rintro e w2 ⟨rfl, hb⟩
  have HB2 : Hid (Below w.heap.size w w2) := below_trans HB1.out hb HB1.out.size
  have HM2 : Hid (HoldsA w2 w.heap.size ms) := HM1.out.below hb
  clear hb HB1 HM1
  go_wp2_with fail
  refine (CM.out w2 (H2.out _ HB2.out)).mono ?_
  rintro e w3 ⟨rfl, hb⟩
  have HB3 : Hid (Below w.heap.size w w3) := below_trans HB2.out hb HB2.out.size
  have HM3 : Hid (HoldsA w3 w.heap.size ms) := HM2.out.below hb
  clear hb HB2 HM2
  go_wp2_with (refine load24 rfl _ rfl w.heap.size rfl ms HM3.out ?_)
  refine (CS.out w3).mono ?_
  rintro e w4 ⟨rfl, hb⟩
  have HB4 : Hid (Below w.heap.size w w4) := below_trans HB3.out hb HB3.out.size
  have HM4 : Hid (HoldsA w4 w.heap.size ms) := HM3.out.below hb
  clear hb HB3 HM3
  go_wp2_with (refine alloc24 rfl rfl ?_)
  intro w5 ha hb
  have HB5 : Hid (Below w.heap.size w w5) := below_trans HB4.out hb HB4.out.size
  have HM5 : Hid (HoldsA w5 w.heap.size ms) := HM4.out.below hb
  have HZ5 : Hid (HoldsA w5 w4.heap.size zeros) := ha
  have HN6 : Hid (w.heap.size < w4.heap.size) := HM4.out.lt
  clear ha hb HB4 HM4
  generalize w4.heap.size = B6 at *
  go_wp2_with (refine store24 rfl _ _ rfl B6 rfl S zeros rfl HZ5.out hSl ?_)
  intro w6 hz hg
  have HB6 : Hid (Below w.heap.size w w6) := HB5.out.grown hg HB5.out.size (fun j hj => by have := HN6.out; cases hj; omega)
  have HM6 : Hid (HoldsA w6 w.heap.size ms) := HM5.out.kept hg (fun e => by have := HN6.out; have := Option.some.inj e; omega)
  have HS6 : Hid (HoldsA w6 B6 S) := hz
  clear hz hg HB5 HM5 HZ5
  go_wp2_with (refine load24 rfl _ rfl w.heap.size rfl ms HM6.out ?_)
  refine (CG.out w6).mono ?_
  rintro e w7 ⟨rfl, hb⟩
  have HB7 : Hid (Below w.heap.size w w7) := below_trans HB6.out hb HB6.out.size
  have HM7 : Hid (HoldsA w7 w.heap.size ms) := HM6.out.below hb
  have HS7 : Hid (HoldsA w7 B6 S) := HS6.out.below hb
  clear hb HB6 HM6 HS6
  go_wp2_with (refine load24 rfl _ rfl w.heap.size rfl ms HM7.out ?_)
  refine (CA.out w7 (H2.out _ HB7.out)).mono ?_
  rintro e w8 ⟨rfl, hb⟩
  have HB8 : Hid (Below w.heap.size w w8) := below_trans HB7.out hb HB7.out.size
  have HM8 : Hid (HoldsA w8 w.heap.size ms) := HM7.out.below hb
  have HS8 : Hid (HoldsA w8 B6 S) := HS7.out.below hb
  clear hb HB7 HM7 HS7
  go_wp2_with (refine alloc24 rfl rfl ?_)
  intro w9 ha hb
  have HB9 : Hid (Below w.heap.size w w9) := below_trans HB8.out hb HB8.out.size
  have HM9 : Hid (HoldsA w9 w.heap.size ms) := HM8.out.below hb
  have HS9 : Hid (HoldsA w9 B6 S) := HS8.out.below hb
  have HZ9 : Hid (HoldsA w9 w8.heap.size zeros) := ha
  have HN9 : Hid (w.heap.size < w8.heap.size ∧ B6 < w8.heap.size) := ⟨HM8.out.lt, HS8.out.lt⟩
  clear ha hb HB8 HM8 HS8
  generalize w8.heap.size = B9 at *
  go_wp2_with (refine store24 rfl _ _ rfl B9 rfl A zeros rfl HZ9.out hAl ?_)
  intro W hz hg
  have HB : Hid (Below w.heap.size w W) := HB9.out.grown hg HB9.out.size (fun j hj => by have := HN9.out; cases hj; omega)
  have HM : Hid (HoldsA W w.heap.size ms) := HM9.out.kept hg (fun e => by have := HN9.out; have := Option.some.inj e; omega)
  have HS : Hid (HoldsA W B6 S) := HS9.out.kept hg (fun e => by have := HN9.out; have := Option.some.inj e; omega)
  have HA : Hid (HoldsA W B9 A) := hz
  clear hz hg HB9 HM9 HS9 HZ9
  clear CE CM CS CG CA
  obtain ⟨out, hout⟩ : ∃ out : Bool, out = (decide (name < 97) || decide (122 < name)) := ⟨_, rfl⟩
  have HO : Hid (out = (decide (name < 97) || decide (122 < name))) := hout
  clear hout
  go_upto_region 6 with fail
  go_cut [65] from 60 to 65 (fun s65 wx => s65 = .bool out ∧ wx = W)
  case first =>
    by_cases q1 : name < 97
    · have HO2 : Hid (out = true) := by show _ = _; rw [HO.out, decide_eq_true q1, Bool.true_or]
      go_wp2_with fail
      go_meet
      case rel => exact ⟨by rw [HO2.out], rfl⟩
    · by_cases q2 : 122 < name
      · have HO2 : Hid (out = true) := by show _ = _; rw [HO.out, decide_eq_true q2, Bool.or_true]
        go_wp2_with fail
        go_meet
        case rel => exact ⟨by rw [HO2.out], rfl⟩
      · have HO2 : Hid (out = false) := by show _ = _; rw [HO.out, decide_eq_false q1, decide_eq_false q2]; rfl
        go_wp2_with fail
        go_meet
        case rel => exact ⟨by rw [HO2.out], rfl⟩
  case rest =>
    obtain ⟨hs65, rfl⟩ := hcut
    subst hs65
    go_upto_if 65 with fail
    go_cut [12] from 65 to 148 (fun s12 wx => s12 = .bool false ∧ Hid (Below w.heap.size w wx) ∧ Hid (HoldsA wx w.heap.size ms) ∧ Hid (HoldsA wx B9 A))
    case first =>
      rcases HN.out with ⟨hn, hS, hg, hp, hh⟩ | ⟨j, hj, hn, hk, hx⟩
      · subst hg hp hh
        have HSZ : Hid (S = zeros) := hS
        have HO2 : Hid (out = true) := by
          show _ = _
          rw [HO.out]
          rcases hn with q | q
          · rw [decide_eq_true q, Bool.true_or]
          · rw [decide_eq_true q, Bool.or_true]
        rw [HO2.out]
        rw [HSZ.out] at HS
        clear hn hS HO HO2
        go_wp2_with (first | (refine load24f (.tmp 16) rfl rfl B6 rfl zeros HS.out ?_) | (refine build24f rfl rfl ?_) | (refine neq24f (.tmp 66) (.tmp 67) 24 rfl rfl zeros rfl rfl zeros_len ?_))
        go_meet
        case rel => exact ⟨rfl, HB.out, HM.out, HA.out⟩
      · have HO2 : Hid (out = false) := by
          show _ = _
          rw [HO.out, decide_eq_false (by omega), decide_eq_false (by omega)]
          rfl
        rw [HO2.out]
        clear HO HO2
        subst hn
        have hsub : (97 + (j : Int)) - 97 = (j : Int) := by omega
        have hjI : (j : Int) < 26 := by omega
        have hc := HM.out.cell j hj
        obtain ⟨x, HXE⟩ : ∃ x, Hid (x = ms.getD j 0) := ⟨_, rfl⟩
        rw [← HXE.out] at hx
        go_wp2_with (first
          | (refine load24 rfl _ rfl w.heap.size rfl ms HM.out ?_)
          | (refine alloc24 rfl rfl ?_))
        intro y1 ha hb
        have HB1 : Hid (Below w.heap.size w y1) := below_trans HB.out hb HB.out.size
        have HM1 : Hid (HoldsA y1 w.heap.size ms) := HM.out.below hb
        have HS1 : Hid (HoldsA y1 B6 S) := HS.out.below hb
        have HA1 : Hid (HoldsA y1 B9 A) := HA.out.below hb
        have HZ1 : Hid (HoldsA y1 wc.heap.size zeros) := ha
        have HN2 : Hid (w.heap.size < wc.heap.size ∧ B6 < wc.heap.size ∧ B9 < wc.heap.size) := ⟨HM.out.lt, HS.out.lt, HA.out.lt⟩
        clear ha hb HB HM HS HA hc
        generalize wc.heap.size = B2 at *
        go_wp2_with (refine store24 rfl _ _ rfl B2 rfl ms zeros rfl HZ1.out hl ?_)
        intro y2 hz hg
        have HB2 : Hid (Below w.heap.size w y2) := HB1.out.grown hg HB1.out.size (fun j hj => by have := HN2.out; cases hj; omega)
        have HM2 : Hid (HoldsA y2 w.heap.size ms) := HM1.out.kept hg (fun e => by have := HN2.out; have := Option.some.inj e; omega)
        have HS2 : Hid (HoldsA y2 B6 S) := HS1.out.kept hg (fun e => by have := HN2.out; have := Option.some.inj e; omega)
        have HA2 : Hid (HoldsA y2 B9 A) := HA1.out.kept hg (fun e => by have := HN2.out; have := Option.some.inj e; omega)
        have HZ2 : Hid (HoldsA y2 B2 ms) := hz
        clear hz hg HB1 HM1 HS1 HA1 HZ1
        go_wp2_with (refine store3 rfl _ _ rfl B2 j rfl _ rfl ms HZ2.out hj ?_)
        intro y3 hz hg2
        have HB3 : Hid (Below w.heap.size w y3) := HB2.out.grown hg2 HB2.out.size (fun j hj => by have := HN2.out; cases hj; omega)
        have HM3 : Hid (HoldsA y3 w.heap.size ms) := HM2.out.kept hg2 (fun e => by have := HN2.out; have := Option.some.inj e; omega)
        have HS3 : Hid (HoldsA y3 B6 S) := HS2.out.kept hg2 (fun e => by have := HN2.out; have := Option.some.inj e; omega)
        have HA3 : Hid (HoldsA y3 B9 A) := HA2.out.kept hg2 (fun e => by have := HN2.out; have := Option.some.inj e; omega)
        have HK : Hid ((0 ≤ k ∧ k ≤ 4096 ∧ HoldsA y3 B2 S ∧ g = 0) ∨ ((k < 0 ∨ 4096 < k) ∧ HoldsA y3 B6 zeros ∧ g = 1)) := by
          rcases hk with ⟨k1, k2, hS, hg⟩ | ⟨k1, hS, hg⟩
          · rw [show wrap64 (k + 1) = k + 1 by unfold wrap64; omega] at hz
            exact .inl ⟨k1, k2, hS ▸ hz, hg⟩
          · exact .inr ⟨k1, hS ▸ HS3.out, hg⟩
        clear hz hg2 hk HB2 HM2 HS2 HA2 HZ2
        obtain ⟨inb, hin⟩ : ∃ inb : Bool, inb = (decide (0 ≤ k) && decide (k ≤ 4096)) := ⟨_, rfl⟩
        have HI : Hid (inb = (decide (0 ≤ k) && decide (k ≤ 4096))) := hin
        clear hin
        go_upto_region 11 with fail
        go_cut [23] from 87 to 92 (fun s23 wx => s23 = .bool inb ∧ wx = y3)
        case first =>
          by_cases q1 : 0 ≤ k
          · by_cases q2 : k ≤ 4096
            · have HI2 : Hid (inb = true) := by show _ = _; rw [HI.out, decide_eq_true q1, decide_eq_true q2]; rfl
              go_wp2_with fail
              go_meet
              case rel => exact ⟨by rw [HI2.out], rfl⟩
            · have HI2 : Hid (inb = false) := by show _ = _; rw [HI.out, decide_eq_true q1, decide_eq_false q2]; rfl
              go_wp2_with fail
              go_meet
              case rel => exact ⟨by rw [HI2.out], rfl⟩
          · have HI2 : Hid (inb = false) := by show _ = _; rw [HI.out, decide_eq_false q1]; rfl
            go_wp2_with fail
            go_meet
            case rel => exact ⟨by rw [HI2.out], rfl⟩
        case rest =>
          obtain ⟨hs23, rfl⟩ := hcut
          subst hs23
          go_upto_region 12 with fail
          go_cut [23, 115] from 93 to 115 (fun _ s115 wx => s115 = .bool false ∧ wx = wc)
          case first =>
            rcases HK.out with ⟨k1, k2, hZ, hg⟩ | ⟨k1, hZ, hg⟩
            · have hi2 : inb = true := by rw [HI.out, decide_eq_true k1, decide_eq_true k2]; rfl
              subst hg hi2
              have HZ3 : Hid (HoldsA wc B2 S) := hZ
              clear hZ k1 k2 HI HK
              go_wp2_with (go_big_want; (first | (refine wp_load24 (.tmp 16) rfl B6 rfl S HS3.out ?_) | (refine wp_load24 (.tmp 22) rfl B2 rfl S HZ3.out ?_) | (refine wp_neq24 (.tmp 95) (.tmp 96) 24 rfl S rfl rfl hSl ?_)); go_simp)
              go_meet
              case rel => exact ⟨rfl, rfl⟩
            · have hi2 : inb = false := by
                rw [HI.out]
                rcases k1 with q | q
                · rw [decide_eq_false (show ¬ 0 ≤ k by omega)]; rfl
                · rw [decide_eq_false (show ¬ k ≤ 4096 by omega), Bool.and_false]
              subst hg hi2
              have HS4 : Hid (HoldsA wc B6 zeros) := hZ
              clear hZ k1 HI HK
              go_wp2_with (go_big_want; (first | (refine wp_load24 (.tmp 16) rfl B6 rfl zeros HS4.out ?_) | (refine wp_build24 rfl ?_) | (refine wp_neq24 (.tmp 107) (.tmp 108) 24 rfl zeros rfl rfl zeros_len ?_)); go_simp)
              go_meet
              case rel => exact ⟨rfl, rfl⟩
          case rest =>
            obtain ⟨hs115, rfl⟩ := hcut
            subst hs115
            have hc := HM3.out.cell j hj
            rw [← HXE.out] at hc
            clear HK HI
            rcases hx with ⟨x1, x2, hp, hh⟩ | ⟨x1, hp, hh⟩
            · subst hp hh
              go_wp2_with fail
              go_meet
              case rel => exact ⟨rfl, HB3.out, HM3.out, HA3.out⟩
            · rcases x1 with x1 | x1
              · subst hp hh
                go_wp2_with fail
                go_meet
                case rel => exact ⟨rfl, HB3.out, HM3.out, HA3.out⟩
              · have x3 : 1 ≤ x := by omega
                subst hp hh
                go_wp2_with fail
                go_meet
                case rel => exact ⟨rfl, HB3.out, HM3.out, HA3.out⟩
    case rest =>
      obtain ⟨hs12, HB2, HM2, HA2⟩ := hcut
      subst hs12
      clear HB HM HS HA HO HN HN6 HN9
      rcases HBk.out with ⟨hb, ha, hf, hA, hi⟩ | ⟨N, ns, hb, hi, hn, hes, hF, hA, hk⟩
      · subst ha hf hi
        have hbb : (i != 0) = true := by simpa using hb
        have HAZ : Hid (A = zeros) := hA
        rw [HAZ.out] at HA2
        clear hb hA HBk
        go_wp2_with (go_big_want; (first | (refine wp_load24 (.tmp 20) rfl B9 rfl zeros HA2.out ?_) | (refine wp_build24 rfl ?_) | (refine wp_eql24 (.tmp 159) (.tmp 160) 24 rfl zeros rfl rfl zeros_len ?_)); go_simp)
        go_ret
        exact ⟨rfl, HB2.out⟩
      · subst hb hi hn hes
        have HF : Hid (Fits N ns) := hF
        have hN := hF.1
        have HAA : Hid (∀ j, j < 26 → A.getD j 0 = mvOne N ns (ms.getD j 0)) := fun j hj => by rw [hA]; exact mvAll_at N ns ms j (by omega)
        clear hF hA HBk
        go_wp2_with (refine load24f (.tmp 10) rfl rfl w.heap.size rfl ms HM2.out ?_)
        clear HM2
        go_loopw [169] (fun u169 wr => ∃ (j : Nat), u169 = .int .i64 (j : Int) ∧ j ≤ 26 ∧ Hid (HoldsA wr B9 A) ∧ Hid (Below w.heap.size w wr))
          (fun u169 _ => 26 - (intOf u169).toNat)
        case atStart => exact ⟨0, rfl, by omega, HA2.out, HB2.out⟩
        case round =>
          obtain ⟨j, rfl, hj, Ha, Hb⟩ := hrel
          by_cases hlt : j < 26
          · have hjI : (j : Int) < 26 := by omega
            have HV := HAA.out j hlt
            have hc := Ha.out.cell j hlt
            obtain ⟨x, hx⟩ : ∃ x, x = ms.getD j 0 := ⟨_, rfl⟩
            have HX : Hid (ms.getD j 0 = x) := hx.symm
            rw [← hx] at HV
            clear hx
            by_cases hin : 1 ≤ x ∧ x ≤ (N : Int) + 1
            · have HV2 : Hid (A.getD j 0 = mvd ns (x - 1).toNat false + 1) := by
                show _ = _
                rw [HV]
                unfold mvOne
                rw [if_pos hin]
              clear HV
              obtain ⟨h1, h2⟩ := hin
              obtain ⟨q, hq⟩ : ∃ q : Nat, x - 1 = (q : Int) := ⟨(x - 1).toNat, by omega⟩
              rw [show (x - 1).toNat = q by omega] at HV2
              have hqn : q ≤ N := by omega
              have hrg := mvd_range HF.out q false
              obtain ⟨R, hR⟩ : ∃ R, R = mvd ns q false := ⟨_, rfl⟩
              have HR : Hid (mvd ns q false = R) := hR.symm
              rw [← hR] at hrg HV2
              clear hR
              obtain ⟨r1, r2⟩ := hrg
              rw [HV2.out] at hc
              clear hc
              go_wp2_with (refine index24 rfl _ _ rfl ms rfl j rfl hl hlt ?_; rw [HX.out])
              refine (refMoved_any v ns N q false wr (H2.out _ Hb.out) HF.out hqn).mono ?_
              rw [HR.out]
              rintro e w5 ⟨rfl, hb⟩
              have HB5 : Hid (Below w.heap.size w w5) := below_trans Hb.out hb Hb.out.size
              have HA5 : Hid (HoldsA w5 B9 A) := Ha.out.below hb
              have hc := HA5.out.cell j hlt
              rw [HV2.out] at hc
              clear hb Hb Ha
              go_wp2_with fail
              go_roundw
              case rel => exact ⟨j + 1, by go_num, by omega, HA5.out, HB5.out⟩
              case measure => simp [intOf] <;> omega
            · have HV2 : Hid (A.getD j 0 = 0) := by
                show _ = _
                rw [HV]
                unfold mvOne
                rw [if_neg hin]
              clear HV
              rw [HV2.out] at hc
              have HIN : Hid (x < 1 ∨ (N : Int) + 1 < x) := by show _ ∨ _; omega
              clear hin
              rcases HIN.out with q1 | q1
              · go_wp2_with (refine index24 rfl _ _ rfl ms rfl j rfl hl hlt ?_; rw [HX.out])
                go_roundw
                case rel => exact ⟨j + 1, by go_num, by omega, Ha.out, Hb.out⟩
                case measure => simp [intOf] <;> omega
              · have q2 : 1 ≤ x := by omega
                go_wp2_with (refine index24 rfl _ _ rfl ms rfl j rfl hl hlt ?_; rw [HX.out])
                go_roundw
                case rel => exact ⟨j + 1, by go_num, by omega, Ha.out, Hb.out⟩
                case measure => simp [intOf] <;> omega
          · obtain rfl : j = 26 := by omega
            rcases hk with ⟨k1, ha, hf⟩ | ⟨q, hq, hqn, ha, hf⟩
            · subst ha hf
              rcases k1 with k1 | k1
              · go_wp2_with fail
                go_ret
                exact ⟨rfl, Hb.out⟩
              · have k2 : 0 ≤ k := by omega
                go_wp2_with fail
                go_ret
                exact ⟨rfl, Hb.out⟩
            · subst hf hq
              have HAT : Hid (mvd ns q stick = at_) := ha.symm
              clear ha
              go_wp2_with fail
              refine (refMoved_any v ns N q stick wr (H2.out _ Hb.out) HF.out hqn).mono ?_
              rw [HAT.out]
              rintro e w5 ⟨rfl, hb⟩
              have HB5 : Hid (Below w.heap.size w w5) := below_trans Hb.out hb Hb.out.size
              clear hb Hb Ha
              go_wp2_with fail
              go_ret
              exact ⟨by simp, HB5.out⟩

theorem name_ok (ms : List Int) (name k : Int) (hl : ms.length = 26) :
    ∃ (S : List Int) (g p h : Int), S.length = 26 ∧ NameOk ms name k S g p h ∧
      (∀ wx, Calls Try.prog 8 #[arr ms, .int .i64 name, .int .i64 k] wx fun e w' => e = .returned (.tuple #[arr S, .int .i64 g]) ∧ Below wx.heap.size wx w') ∧
      (∀ wx, Calls Try.prog 9 #[arr ms, .int .i64 name] wx fun e w' => e = .returned (.tuple #[.int .i64 p, .int .i64 h]) ∧ Below wx.heap.size wx w') := by
  by_cases hn : name < 97 ∨ 122 < name
  · exact ⟨zeros, 9, 0, 9, zeros_len, .inl ⟨hn, rfl, rfl, rfl, rfl⟩, fun wx => set_key ms name k wx hl hn, fun wx => get_key ms name wx hl hn⟩
  · obtain ⟨j, hj⟩ : ∃ j : Nat, name = 97 + (j : Int) := ⟨(name - 97).toNat, by omega⟩
    have hj2 : j < 26 := by omega
    subst hj
    have G : ∃ (p h : Int), ((1 ≤ ms.getD j 0 ∧ ms.getD j 0 ≤ 4097 ∧ p = ms.getD j 0 - 1 ∧ h = 0) ∨ ((ms.getD j 0 < 1 ∨ 4097 < ms.getD j 0) ∧ p = 0 ∧ h = 6)) ∧
        (∀ wx, Calls Try.prog 9 #[arr ms, .int .i64 (97 + (j : Int))] wx fun e w' => e = .returned (.tuple #[.int .i64 p, .int .i64 h]) ∧ Below wx.heap.size wx w') := by
      by_cases hx : 1 ≤ ms.getD j 0 ∧ ms.getD j 0 ≤ 4097
      · exact ⟨_, _, .inl ⟨hx.1, hx.2, rfl, rfl⟩, fun wx => get_ok ms j wx hl hj2 _ rfl hx.1 hx.2⟩
      · exact ⟨_, _, .inr ⟨by omega, rfl, rfl⟩, fun wx => get_none ms j wx hl hj2 _ rfl (by omega)⟩
    obtain ⟨p, h, hG, cG⟩ := G
    by_cases hk : 0 ≤ k ∧ k ≤ 4096
    · exact ⟨ms.set j (k + 1), 0, p, h, by rw [List.length_set]; exact hl, .inr ⟨j, hj2, rfl, .inl ⟨hk.1, hk.2, rfl, rfl⟩, hG⟩, fun wx => set_ok ms j k wx hl hj2 hk.1 hk.2, cG⟩
    · exact ⟨zeros, 1, p, h, zeros_len, .inr ⟨j, hj2, rfl, .inr ⟨by omega, rfl, rfl⟩, hG⟩, fun wx => set_arg ms j k wx hl hj2 (by omega), cG⟩
theorem says_walk (v : Value) (es : List Spl) (n k name : Int) (ms : List Int) (stick : Bool) (w : World) (h2 : ReadsE w v es) (he8 : es.length * 40 ≤ 140737488351232) (hl : ms.length = 26) :
    Calls Try.prog 3 #[.int .i64 n, v, .int .i64 k, .bool stick, arr ms, .int .i64 name] w fun e w' => e = .returned (.bool true) ∧ Below w.heap.size w w' := by
  obtain ⟨S, g, p, h, hSl, hN, cS, cG⟩ := name_ok ms name k hl
  by_cases hc : chk n es = 0
  · obtain ⟨N, ns, rfl, rfl, hF⟩ := fits_of_chk hc
    by_cases hk : k < 0 ∨ (N : Int) < k
    · exact says_gen _ v _ k stick ms name w h2 hl 0 0 1 g p h 0 S (mvAll N ns ms) hSl (by rw [mvAll_len]; exact hl)
        (fun wx hr => by have := editErr_any (N : Int) v (ups ns) wx hr; rw [hc] at this; exact this)
        (fun wx hr => move_arg _ v _ k stick wx hr hc hk) cS cG
        (fun wx hr => all_ok v ns N ms wx hr hl hF) hN (.inr ⟨N, ns, rfl, rfl, rfl, rfl, hF, rfl, .inl ⟨hk, rfl, rfl⟩⟩)
    · obtain ⟨q, rfl⟩ : ∃ q : Nat, k = (q : Int) := ⟨k.toNat, by omega⟩
      have hq : q ≤ N := by omega
      exact says_gen _ v _ _ stick ms name w h2 hl 0 (mvd ns q stick) 0 g p h 0 S (mvAll N ns ms) hSl (by rw [mvAll_len]; exact hl)
        (fun wx hr => by have := editErr_any (N : Int) v (ups ns) wx hr; rw [hc] at this; exact this)
        (fun wx hr => move_ok v ns N q stick wx hr hF hq) cS cG
        (fun wx hr => all_ok v ns N ms wx hr hl hF) hN (.inr ⟨N, ns, rfl, rfl, rfl, rfl, hF, rfl, .inr ⟨q, rfl, hq, rfl, rfl⟩⟩)
  · exact says_gen _ v _ k stick ms name w h2 hl (chk n es) 0 (chk n es) g p h (chk n es) S zeros hSl zeros_len
      (fun wx hr => editErr_any n v es wx hr) (fun wx hr => move_err n v es k stick wx hr hc) cS cG
      (fun wx hr => all_err n v es ms wx hr hl hc) hN (.inl ⟨hc, rfl, rfl, rfl, rfl⟩)
end Go.Proofs.Yteggadicomighaa.Seek
