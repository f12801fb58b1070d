/- The walk of EditTyped. -/
import Derived.Test.YtpgjaoemkadenabFunTyped
import Derived.Test.YtpgjaoemkadenabSameLine
import Derived.Test.YtpgjaoemkadenabOf
import Derived.Test.YtpgjaoemkadenabHeldBy
import Derived.Deep.RegionWith
import Derived.Deep.CutRange
import Derived.BigQuiet
set_option linter.unusedVariables false
set_option linter.unusedSimpArgs false
set_option maxRecDepth 100000
namespace Go.Proofs.Ytpgjaoemkadenab.Seek
open Go.RowKit Plain

theorem of_reads (s : ByteArray) (xs : List Int) (hx : codes s = xs) (w : World) (hs : s.size ≤ 4096) :
    Calls Try.prog 6 #[.string s] w fun e w' => Below w.heap.size w w' ∧ ∃ a c, e = .returned (.slice a xs.length c) ∧ Own w' w.heap.size (.slice a xs.length c) xs := by
  subst hx
  refine (of_any s w hs).mono ?_
  rintro e w1 ⟨hb, v, rfl, ho⟩
  have h := own_of ho
  obtain ⟨a, c, rfl⟩ := h.reads.shape
  exact ⟨hb, a, c, rfl, h⟩
theorem far_set {w : World} {G i j : Nat} {v x y : Value} {zs : List Int} (h : Reads w v zs) (ho : zs = [] ∨ Off v G) : Reads ((w.setCell ⟨G, i, none⟩ x).setCell ⟨G, j, none⟩ y) v zs :=
  ((ReadsOff.stored ⟨h, ho⟩ (grown_cell _ _ _ _)).stored (grown_cell _ _ _ _)).1
/-- What the first line of EditTyped makes. -/
theorem first_typed (v1 v2 : Value) (w : World) (h1 : Reads w v1 [97, 100]) (h2 : Reads w v2 [98, 99]) :
    Calls Try.prog 5 #[.agg #[v1, .int .i64 1], v2] w fun e w' => Below w.heap.size w w' ∧ ∃ a c, e = .returned (.tuple #[.agg #[.slice a 4 c, .int .i64 3], .bool true]) ∧ Reads w' (.slice a 4 c) [97, 98, 99, 100] := by
  have hp : ∀ i, i < 2 → plainKey (([98, 99] : List Int).getD i 0) = true := by
    intro i hi
    match i, hi with
    | 0, _ => rfl
    | 1, _ => rfl
  refine (typed_any v1 v2 [97, 100] [98, 99] 1 (S1 [97, 100] 1 [98, 99]) 2 w h1 h2 (s1_zero _ _ _) (by decide) (fun i hi => s1_step [97, 100] 1 [98, 99] (by decide) i (by show i < 2; omega) (hp i hi)) (fun h => absurd h (by decide)) (by decide)).mono ?_
  rintro e w1 ⟨hb, tv, x, ⟨a, l, c, rfl⟩, rfl, h⟩
  obtain ⟨rfl, hr, _⟩ := h rfl
  obtain ⟨a2, c2, hv⟩ := hr.shape
  have e4 : (S1 [97, 100] 1 [98, 99] 2).1 = [97, 98, 99, 100] := by decide
  rw [e4] at hr hv
  simp only [Value.slice.injEq] at hv
  obtain ⟨rfl, rfl, rfl⟩ := hv
  exact ⟨hb, _, _, rfl, hr⟩

set_option maxHeartbeats 4000000 in
theorem typedW (a : Option Addr) (cap : Nat) (zs : List Int) (k : Int) (kv : Value) (ks : List Int) (w : World) (h : Reads w (.slice a zs.length cap) zs) (hm : Mild zs) (hk : Reads w kv ks) (hmk : Mild ks) :
    Calls Try.prog 3 #[.agg #[.slice a zs.length cap, .int .i64 k], kv] w fun e w' => e = .returned (.bool true) ∧ Below w.heap.size w w' := by
  obtain ⟨ak, ck, rfl⟩ := hk.shape
  have HV : Hid (∀ wx, Below w.heap.size w wx → Reads wx (.slice a zs.length cap) zs) := fun wx hx => h.below hx
  have HK : Hid (∀ wx, Below w.heap.size w wx → Reads wx (.slice ak ks.length ck) ks) := fun wx hx => hk.below hx
  have HM : Hid (Mild zs ∧ Mild ks) := ⟨hm, hmk⟩
  clear h hk hm hmk
  go_enter Try.func3, Try.ntmps3
  go_wp2_with fail
  obtain ⟨w1, hw1⟩ : ∃ w1, w1 = w.alloc (.cells #[.slice a zs.length cap, .int .i64 k] 24) := ⟨_, rfl⟩
  rw [← hw1]
  have HA1 : Hid (BoxC w1 24 w.heap.size [.slice a zs.length cap, .int .i64 k]) := by rw [hw1]; exact BoxC.new _ _ _
  have HB1 : Hid (Below w.heap.size w w1) := by rw [hw1]; exact box_below _ _
  clear hw1
  refine (of_reads _ [97, 100] (by decide) w1 (by decide)).mono ?_
  rintro e w2 ⟨hb, a2, c2, rfl, ho⟩
  have HB2 : Hid (Below w.heap.size w w2) := below_trans HB1.out hb HB1.out.size
  have HA2 : Hid (BoxC w2 24 w.heap.size [.slice a zs.length cap, .int .i64 k]) := HA1.out.below hb
  have HO2 : Hid (Reads w2 (.slice a2 2 c2) [97, 100]) := ho.reads
  clear hb ho HA1 HB1
  go_wp2_with fail
  refine (of_reads _ [98, 99] (by decide) w2 (by decide)).mono ?_
  rintro e w3 ⟨hb, a3, c3, rfl, ho⟩
  have HB3 : Hid (Below w.heap.size w w3) := below_trans HB2.out hb HB2.out.size
  have HA3 : Hid (BoxC w3 24 w.heap.size [.slice a zs.length cap, .int .i64 k]) := HA2.out.below hb
  have HO3 : Hid (Reads w3 (.slice a2 2 c2) [97, 100]) := HO2.out.below hb
  have HP3 : Hid (Reads w3 (.slice a3 2 c3) [98, 99]) := ho.reads
  clear hb ho HA2 HB2 HO2
  go_wp2_with fail
  refine (first_typed _ _ w3 HO3.out HP3.out).mono ?_
  rintro e w4 ⟨hb, a4, c4, rfl, ho⟩
  have HB4 : Hid (Below w.heap.size w w4) := below_trans HB3.out hb HB3.out.size
  have HA4 : Hid (BoxC w4 24 w.heap.size [.slice a zs.length cap, .int .i64 k]) := HA3.out.below hb
  have HO4 : Hid (Reads w4 (.slice a4 4 c4) [97, 98, 99, 100]) := ho
  clear hb ho HA3 HB3 HO3 HP3
  go_upto_region 2 with fail
  obtain ⟨w5, hw5⟩ : ∃ w5, w5 = w4.alloc (.cells #[.slice a4 4 c4, .int .i64 3] 24) := ⟨_, rfl⟩
  rw [← hw5]
  have HB45 : Below w4.heap.size w4 w5 := by rw [hw5]; exact box_below _ _
  have HB5 : Hid (Below w.heap.size w w5) := below_trans HB4.out HB45 HB4.out.size
  have HA5 : Hid (BoxC w5 24 w.heap.size [.slice a zs.length cap, .int .i64 k]) := HA4.out.below HB45
  have HX5 : Hid (BoxC w5 24 w4.heap.size [.slice a4 4 c4, .int .i64 3]) := by rw [hw5]; exact BoxC.new _ _ _
  have HO5 : Hid (Reads w5 (.slice a4 4 c4) [97, 98, 99, 100]) := HO4.out.below HB45
  clear hw5 HB45 HB4 HA4 HO4
  go_cut [30] from 17 to 30 (fun s30 wx => s30 = .bool false ∧ Hid (Below w5.heap.size w5 wx))
  case first =>
    have x0 : w5.cell? ⟨w4.heap.size, 0, none⟩ = some (.slice a4 4 c4) := (HX5.out.cell 0).trans rfl
    have x1 : w5.cell? ⟨w4.heap.size, 1, none⟩ = some (.int .i64 3) := (HX5.out.cell 1).trans rfl
    have HOF : Hid (Calls Try.prog 6 #[.string ⟨#[97, 98, 99, 100]⟩] w5.drew fun e w' => Below w5.drew.heap.size w5.drew w' ∧ ∃ a c, e = .returned (.slice a 4 c) ∧ Own w' w5.drew.heap.size (.slice a 4 c) [97, 98, 99, 100]) := of_reads _ [97, 98, 99, 100] (by decide) w5.drew (by decide)
    go_region_with (first
      | (go_at_call 6; refine HOF.out.mono ?_; rintro e w6 ⟨hb6, a6, c6, rfl, ho6⟩; have hB6 : Below w5.heap.size w5 w6 := below_trans (below_drewN (Below.refl _ _) 1) hb6 (Nat.le_refl _); have hX6 := HX5.out.below hB6; have y0 : w6.cell? ⟨w4.heap.size, 0, none⟩ = some (.slice a4 4 c4) := (hX6.cell 0).trans rfl; have y1 : w6.cell? ⟨w4.heap.size, 1, none⟩ = some (.int .i64 3) := (hX6.cell 1).trans rfl; have HEq : Hid (Calls Try.prog 7 #[.slice a4 4 c4, .slice a6 4 c6] w6 fun e w' => e = .returned (.bool true) ∧ ∃ q, w' = w6.drewN q) := equal_any _ _ [97, 98, 99, 100] [97, 98, 99, 100] w6 (HO5.out.below hB6) ho6.reads (by decide) (by decide))
      | (go_at_call 7; refine HEq.out.mono ?_; rintro e w7 ⟨rfl, q, hw7⟩; have hB7 : Below w5.heap.size w5 w7 := by rw [hw7]; exact below_drewN hB6 q
         have z1 : w7.cell? ⟨w4.heap.size, 1, none⟩ = some (.int .i64 3) := ((HX5.out.below hB7).cell 1).trans rfl))
    all_goals (
      go_wp2_with fail
      go_meet
      case rel => exact ⟨rfl, below_drewN hB6 q⟩)
  case rest =>
    obtain ⟨rfl, Hbc⟩ := hcut
    have HB6 : Hid (Below w.heap.size w wc) := below_trans HB5.out Hbc.out HB5.out.size
    have HA6 : Hid (BoxC wc 24 w.heap.size [.slice a zs.length cap, .int .i64 k]) := HA5.out.below Hbc.out
    clear Hbc HB5 HA5 HX5 HO5
    have a0 : wc.cell? ⟨w.heap.size, 0, none⟩ = some (.slice a zs.length cap) := (HA6.out.cell 0).trans rfl
    have a1 : wc.cell? ⟨w.heap.size, 1, none⟩ = some (.int .i64 k) := (HA6.out.cell 1).trans rfl
    by_cases hk0 : k < 0
    · go_wp2_with fail
      go_ret
      exact ⟨rfl, HB6.out⟩
    by_cases hk1 : (zs.length : Int) < k
    · go_wp2_with fail
      go_ret
      exact ⟨rfl, HB6.out⟩
    by_cases hk2 : ks.length = 0
    · have hk3 : (ks.length : Int) = 0 := by omega
      go_wp2_with fail
      all_goals first
        | (exfalso; omega)
        | (go_ret; exact ⟨rfl, HB6.out⟩)
    have hk3 : ((ks.length : Int) == 0) = false := beq_eq_false_iff_ne.2 (by omega)
    obtain ⟨j, hj⟩ : ∃ j : Nat, k = (j : Int) := ⟨k.toNat, (Int.toNat_of_nonneg (by omega)).symm⟩
    have HJ : Hid (j ≤ zs.length) := by show j ≤ zs.length; omega
    subst hj
    have HCF : Hid (Calls Try.prog 8 #[.slice ak ks.length ck, .func (.func 9) #[] #[]] wc fun e w' => e = .returned (.bool (odd ks)) ∧ w' = wc) := contains_typed _ ks wc (HK.out _ HB6.out) HM.out.2
    cases ho : odd ks with
    | true =>
      rw [ho] at HCF
      clear ho
      go_wp2_with fail
      refine HCF.out.mono ?_
      rintro e wx ⟨rfl, hwx⟩
      rw [hwx]
      clear hwx wx
      go_wp2_with fail
      go_ret
      exact ⟨rfl, HB6.out⟩
    | false =>
      rw [ho] at HCF
      have HPl : Hid (∀ i, i < ks.length → plainKey (ks.getD i 0) = true) := by
        intro i hi
        have h1 : ∀ c ∈ ks, plainKey c = true := by
          intro c hc
          cases hp : plainKey c with
          | true => rfl
          | false =>
            have : odd ks = true := by unfold odd; rw [List.any_eq_true]; exact ⟨c, hc, by rw [hp]; rfl⟩
            rw [ho] at this
            cases this
        refine h1 _ ?_
        rw [List.getD_eq_getElem?_getD, List.getElem?_eq_getElem hi]
        exact List.getElem_mem hi
      have HTy : Hid (Calls Try.prog 5 #[.agg #[.slice a zs.length cap, .int .i64 (j : Int)], .slice ak ks.length ck] wc fun e w' => TypedPost (.slice a zs.length cap) zs (S1 zs j ks) (far zs ks) ks.length wc e w') :=
        typed_any _ _ zs ks (j : Int) (S1 zs j ks) (far zs ks) wc (HV.out _ HB6.out) (HK.out _ HB6.out) (s1_zero _ _ _) (by unfold far; omega) (fun i hi => s1_step zs j ks HJ.out i hi (HPl.out i (by unfold far at hi; omega))) (fun h => s1_full zs j ks HJ.out h (HPl.out _ h)) HM.out.2
      clear ho
      go_wp2_with fail
      refine HCF.out.mono ?_
      rintro e wx ⟨rfl, hwx⟩
      rw [hwx]
      clear hwx wx
      go_wp2_with fail
      refine HTy.out.mono ?_
      by_cases hf : far zs ks = ks.length
      · have HF : Hid (zs.length + ks.length ≤ 200) := by show _ ≤ _; unfold far at hf; omega
        rintro e w7 ⟨hb, tv, x, ⟨a7, l7, c7, rfl⟩, rfl, hh⟩
        obtain ⟨hx, hr, _⟩ := hh hf
        rw [hf, s1_all] at hx hr
        subst hx
        obtain ⟨a8, c8, hv⟩ := hr.shape
        simp only [Value.slice.injEq] at hv
        obtain ⟨rfl, rfl, rfl⟩ := hv
        rw [decide_eq_true hf]
        have HB7 : Hid (Below w.heap.size w w7) := below_trans HB6.out hb HB6.out.size
        have HA7 : Hid (BoxC w7 24 w.heap.size [.slice a zs.length cap, .int .i64 (j : Int)]) := HA6.out.below hb
        obtain ⟨T, hT⟩ : ∃ T, T = wit zs j j ks := ⟨_, rfl⟩
        have HT : Hid (T = wit zs j j ks) := hT
        dsimp only at hr ⊢
        rw [← hT] at hr ⊢
        have HR7 : Hid (Reads w7 (.slice a7 T.length c7) T) := hr
        clear hb hr HA6 HB6 a0 a1 hT HCF HTy hf
        have hjI : (j : Int) ≤ (zs.length : Int) := by have := HJ.out; omega
        have hzl : zs.length ≤ 200 ∧ ks.length ≤ 200 := by have := HF.out; omega
        obtain ⟨A, hA, hL, hRt, hcap⟩ := reads_cut2 (HV.out _ HB7.out) j j (Nat.le_refl _) HJ.out
        have hjc : (j : Int) ≤ (cap : Int) := by omega
        have HL7 : Hid (∀ wx, Below w7.heap.size w7 wx → Reads wx (.slice a j cap) (zs.take j)) := fun wx hx => hL.below hx
        have HRt7 : Hid (∀ wx, Below w7.heap.size w7 wx → Reads wx (.slice A (zs.length - j) (cap - j)) (zs.drop j)) := fun wx hx => hRt.below hx
        clear hL hRt hcap
        go_upto_region 9 with fail
        obtain ⟨w8, hw8⟩ : ∃ w8, w8 = w7.alloc (.cells #[.slice a7 T.length c7, .int .i64 ((j : Int) + (ks.length : Int))] 24) := ⟨_, rfl⟩
        rw [← hw8]
        have HB78 : Hid (Below w7.heap.size w7 w8) := by rw [hw8]; exact box_below _ _
        have HB8 : Hid (Below w.heap.size w w8) := below_trans HB7.out HB78.out HB7.out.size
        have HA8 : Hid (BoxC w8 24 w.heap.size [.slice a zs.length cap, .int .i64 (j : Int)]) := HA7.out.below HB78.out
        have HX8 : Hid (BoxC w8 24 w7.heap.size [.slice a7 T.length c7, .int .i64 ((j : Int) + (ks.length : Int))]) := by rw [hw8]; exact BoxC.new _ _ _
        have HR8 : Hid (Reads w8 (.slice a7 T.length c7) T) := HR7.out.below HB78.out
        have HW7 : Hid (w.heap.size ≤ w7.heap.size) := HB7.out.size
        clear hw8 HB7 HA7 HR7
        have hwr : IntKind.i64.wrap ((j : Int) + (ks.length : Int)) = (j : Int) + (ks.length : Int) := by rw [IntKind.wrap_i64]; omega
        go_cut [92] from 66 to 92 (fun s92 wx => s92 = .bool false ∧ Hid (Below w8.heap.size w8 wx))
        case first =>
          have HCS : Hid (∀ w', Below w8.heap.size w8 w' → w'.cell? ⟨w7.heap.size, 0, none⟩ = some (.slice a7 T.length c7) ∧ w'.cell? ⟨w7.heap.size, 1, none⟩ = some (.int .i64 ((j : Int) + (ks.length : Int))) ∧ w'.cell? ⟨w.heap.size, 0, none⟩ = some (.slice a zs.length cap) ∧ w'.cell? ⟨w.heap.size, 1, none⟩ = some (.int .i64 (j : Int))) :=
            fun w' hb => ⟨((HX8.out.below hb).cell 0).trans rfl, ((HX8.out.below hb).cell 1).trans rfl, ((HA8.out.below hb).cell 0).trans rfl, ((HA8.out.below hb).cell 1).trans rfl⟩
          have HCC : Hid (Calls Try.prog 10 #[.slice (some ⟨w8.heap.size, 0, none⟩) 3 3] (w8.alloc (.cells #[.slice a j cap, .slice ak ks.length ck, .slice A (zs.length - j) (cap - j)] 22)).drew fun e w' => ConcatPost T (w8.alloc (.cells #[.slice a j cap, .slice ak ks.length ck, .slice A (zs.length - j) (cap - j)] 22)).drew e w') := by
            have hB : Below w8.heap.size w8 (w8.alloc (.cells #[.slice a j cap, .slice ak ks.length ck, .slice A (zs.length - j) (cap - j)] 22)).drew := below_drewN (box_below _ _) 1
            have hB7 := below_trans HB78.out hB HB78.out.size
            have hj : joined (fun i => match i with | 0 => zs.take j | 1 => ks | _ => zs.drop j) 3 = T := by rw [HT.out]; simp [joined, wit]
            have q := concat_any w8.heap.size 3 3 (fun i => match i with | 0 => .slice a j cap | 1 => .slice ak ks.length ck | _ => .slice A (zs.length - j) (cap - j)) (fun i => match i with | 0 => zs.take j | 1 => ks | _ => zs.drop j) (w8.alloc (.cells #[.slice a j cap, .slice ak ks.length ck, .slice A (zs.length - j) (cap - j)] 22)).drew (by decide) (by show w8.heap.size < (w8.alloc _).heap.size; rw [size_alloc]; omega)
              (fun i hi => by
                match i, hi with
                | 0, _ => exact new_cells w8 [.slice a j cap, .slice ak ks.length ck, .slice A (zs.length - j) (cap - j)] _ 0 _ rfl
                | 1, _ => exact new_cells w8 [.slice a j cap, .slice ak ks.length ck, .slice A (zs.length - j) (cap - j)] _ 1 _ rfl
                | 2, _ => exact new_cells w8 [.slice a j cap, .slice ak ks.length ck, .slice A (zs.length - j) (cap - j)] _ 2 _ rfl)
              (fun i hi => by
                match i, hi with
                | 0, _ => exact HL7.out _ hB7
                | 1, _ => exact HK.out _ (below_trans HB8.out hB HB8.out.size)
                | 2, _ => exact HRt7.out _ hB7) (by rw [hj, HT.out, wit_len zs j j ks (Nat.le_refl _) HJ.out]; omega)
            rw [hj] at q
            exact q
          have HTl : Hid (T.length ≤ maxLen) := by show T.length ≤ maxLen; rw [HT.out, wit_len zs j j ks (Nat.le_refl _) HJ.out]; unfold maxLen; omega
          go_region_held3 (fun w' => w'.cell? ⟨w7.heap.size, 0, none⟩ = some (.slice a7 T.length c7) ∧ w'.cell? ⟨w7.heap.size, 1, none⟩ = some (.int .i64 ((j : Int) + (ks.length : Int))) ∧ w'.cell? ⟨w.heap.size, 0, none⟩ = some (.slice a zs.length cap) ∧ w'.cell? ⟨w.heap.size, 1, none⟩ = some (.int .i64 (j : Int)))
            ((refine HCS.out _ ?_; (repeat (first | assumption | exact Below.refl _ _ | refine below_dr ?_ | refine below_al ?_ _ | (refine below_st ?_ (by exact Nat.le_refl _) _)))))
            (first
            | (go_at_call 10; refine HCC.out.mono ?_; rintro e w9 ⟨hb9, v9, rfl, ho9⟩; have hB9 : Below w8.heap.size w8 w9 := below_trans (below_drewN (box_below _ _) 1) hb9 (below_drewN (box_below _ _) 1).size; have hr9 := ho9.reads; obtain ⟨a9, c9, hv9⟩ := hr9.shape; subst hv9; have HEq : Hid (Calls Try.prog 7 #[.slice a7 T.length c7, .slice a9 T.length c9] w9 fun e w' => e = .returned (.bool true) ∧ ∃ q, w' = w9.drewN q) := (by have q := equal_any _ _ T T w9 (HR8.out.below hB9) hr9 HTl.out HTl.out; rw [beq_self_eq_true] at q; exact q))
            | (go_at_call 7; refine HEq.out.mono ?_; rintro e w10 ⟨rfl, q, rfl⟩; have hB10 : Below w8.heap.size w8 (w9.drewN q) := below_drewN hB9 q))
          all_goals (
            go_wp2_with fail
            go_meet
            case rel => exact ⟨rfl, below_drewN hB9 q⟩)
        case rest =>
          obtain ⟨rfl, Hbd⟩ := hcut
          have HB9 : Hid (Below w.heap.size w wc) := below_trans HB8.out Hbd.out HB8.out.size
          have HA9 : Hid (BoxC wc 24 w.heap.size [.slice a zs.length cap, .int .i64 (j : Int)]) := HA8.out.below Hbd.out
          have HX9 : Hid (BoxC wc 24 w7.heap.size [.slice a7 T.length c7, .int .i64 ((j : Int) + (ks.length : Int))]) := HX8.out.below Hbd.out
          have HR9 : Hid (Reads wc (.slice a7 T.length c7) T) := HR8.out.below Hbd.out
          clear Hbd HB8 HA8 HX8 HR8 HL7 HRt7 HB78
          go_upto_region 11 with fail
          go_cut [8, 9] from 93 to 101 (fun s8 s9 wx => s8 = .bool true ∧ Hid (∃ g a c, s9 = .pointer (some ⟨g, 0, none⟩) ∧ BoxC wx 24 g [.slice a zs.length c, .int .i64 (j : Int)] ∧ Reads wx (.slice a zs.length c) zs ∧ Below wc.heap.size wc wx))
          case first =>
            have HCS : Hid (∀ w', Below wc.heap.size wc w' → w'.cell? ⟨w7.heap.size, 0, none⟩ = some (.slice a7 T.length c7) ∧ w'.cell? ⟨w7.heap.size, 1, none⟩ = some (.int .i64 ((j : Int) + (ks.length : Int)))) :=
              fun w' hb => ⟨((HX9.out.below hb).cell 0).trans rfl, ((HX9.out.below hb).cell 1).trans rfl⟩
            obtain ⟨wm, hwm⟩ : ∃ wm, wm = (wc.alloc (.cells #[.int .i64 8] 3)).drew := ⟨_, rfl⟩
            have HBm : Hid (Below wc.heap.size wc (wc.alloc (.cells #[.int .i64 8] 3)).drew) := below_drewN (box_below _ _) 1
            obtain ⟨E, hE⟩ : ∃ E, E = rep ks.length [8] := ⟨_, rfl⟩
            have hEl : E.length = ks.length := by rw [hE, rep_len]; simp
            have HEl : Hid (E.length = ks.length) := hEl
            have HRd1 : Hid (Reads (wc.alloc (.cells #[.int .i64 8] 3)).drew (.slice (some ⟨wc.heap.size, 0, none⟩) 1 1) [8]) := (new_one wc 8).drewN 1
            have HRp : Hid (Calls Try.prog 11 #[.slice (some ⟨wc.heap.size, 0, none⟩) 1 1, .int .i64 (ks.length : Int)] (wc.alloc (.cells #[.int .i64 8] 3)).drew fun e w' => ConcatPost E (wc.alloc (.cells #[.int .i64 8] 3)).drew e w') := by
              rw [hE]
              exact repeat_any _ [8] ks.length _ ((new_one wc 8).drewN 1) (by simp; omega) (by omega)
            have HRp2 : Hid (∀ wx g, Below wc.heap.size wc wx → Reads wx (.slice (some ⟨g, 0, none⟩) 1 1) [8] → Calls Try.prog 11 #[.slice (some ⟨g, 0, none⟩) 1 1, .int .i64 (ks.length : Int)] wx fun e w' => ConcatPost E wx e w') := by
              intro wx g _ hr
              rw [hE]
              exact repeat_any _ [8] ks.length _ hr (by simp; omega) (by omega)
            have HBm2 : Hid (Below wc.heap.size wc ((wc.alloc (.cells #[.int .i64 8] 3)).alloc (.cells #[.slice none 0 0, .int .i64 0] 24)).drew) := below_drewN (below_al (box_below _ _) _) 1
            have HBm3 : Hid (Below wc.heap.size wc ((wc.alloc (.cells #[.slice none 0 0, .int .i64 0] 24)).alloc (.cells #[.int .i64 8] 3)).drew) := below_drewN (below_al (box_below _ _) _) 1
            have HRd2 : Hid (Reads ((wc.alloc (.cells #[.int .i64 8] 3)).alloc (.cells #[.slice none 0 0, .int .i64 0] 24)).drew (.slice (some ⟨wc.heap.size, 0, none⟩) 1 1) [8]) := ((new_one wc 8).below (box_below _ _)).drewN 1
            have HRd3 : Hid (Reads ((wc.alloc (.cells #[.slice none 0 0, .int .i64 0] 24)).alloc (.cells #[.int .i64 8] 3)).drew (.slice (some ⟨wc.heap.size + 1, 0, none⟩) 1 1) [8]) := by
              have q := new_one (wc.alloc (.cells #[.slice none 0 0, .int .i64 0] 24)) 8
              rw [size_alloc] at q
              exact q.drewN 1
            have HY2 : Hid (BoxC ((wc.alloc (.cells #[.int .i64 8] 3)).alloc (.cells #[.slice none 0 0, .int .i64 0] 24)).drew 24 (wc.heap.size + 1) [.slice none 0 0, .int .i64 0]) := by
              have q := BoxC.new (wc.alloc (.cells #[.int .i64 8] 3)) 24 [.slice none 0 0, .int .i64 0]
              rw [size_alloc] at q
              exact q
            have HY3 : Hid (BoxC ((wc.alloc (.cells #[.slice none 0 0, .int .i64 0] 24)).alloc (.cells #[.int .i64 8] 3)).drew 24 wc.heap.size [.slice none 0 0, .int .i64 0]) := (BoxC.new wc 24 [.slice none 0 0, .int .i64 0]).alloc _
            have HTy : Hid (∀ wx v, Below wc.heap.size wc wx → Reads wx v E → Calls Try.prog 5 #[.agg #[.slice a7 T.length c7, .int .i64 ((j : Int) + (ks.length : Int))], v] wx fun e w' => TypedPost (.slice a7 T.length c7) T (S2 zs j ks) ks.length E.length wx e w') := by
              intro wx v hb hv
              refine typed_any _ _ T E _ (S2 zs j ks) ks.length wx (HR9.out.below hb) hv (by rw [s2_zero, HT.out]) (by omega) (fun i hi => ?_) (fun h => absurd h (by omega)) (by omega)
              have e8 : E.getD i 0 = 8 := by
                rw [hE, rep_at ks.length [8] i (by simp; exact hi)]
                simp [Nat.mod_one]
              rw [e8]
              exact s2_step zs j ks HJ.out HF.out i hi
            have HOT : Hid (∀ G, wc.heap.size ≤ G → (T = [] ∨ Off (.slice a7 T.length c7) G)) := fun G hG => (off_arg HR9.out hG).2
            clear hE hEl hwm wm HRp
            go_region_held3 (fun w' => w'.cell? ⟨w7.heap.size, 0, none⟩ = some (.slice a7 T.length c7) ∧ w'.cell? ⟨w7.heap.size, 1, none⟩ = some (.int .i64 ((j : Int) + (ks.length : Int))))
              ((refine HCS.out _ ?_; (repeat (first | assumption | exact Below.refl _ _ | refine below_dr ?_ | refine below_al ?_ _ | (refine below_st ?_ (by first | exact Nat.le_refl _ | exact Nat.le_succ _ | assumption) _)))))
              (first
              | (go_at_call 11; refine (HRp2.out _ _ ?_ ?_).mono ?_; (first | exact HBm.out | exact HBm2.out | exact HBm3.out); (first | exact HRd1.out | exact HRd2.out | exact HRd3.out); rintro e w10 ⟨hb10, v10, rfl, ho10⟩; have hB10 : Below wc.heap.size wc w10 := (by first | exact below_trans HBm.out hb10 HBm.out.size | exact below_trans HBm2.out hb10 HBm2.out.size | exact below_trans HBm3.out hb10 HBm3.out.size); have hr10 := ho10.reads; obtain ⟨a10, c10, hv10⟩ := hr10.shape; subst hv10)
              | (go_at_call 5; refine (HTy.out _ _ ?_ ?_).mono ?_; (first | exact hB10 | exact below_al hB10 _); (first | exact hr10 | exact hr10.below (box_below _ _)); rintro e w11 ⟨hb11, tv, x, ⟨a11, l11, c11, rfl⟩, rfl, hh⟩; have hd : decide (ks.length = E.length) = true := decide_eq_true HEl.out.symm; have hB11 : Below wc.heap.size wc w11 := (by first | exact below_trans hB10 hb11 hB10.size | exact below_trans (below_al hB10 _) hb11 (below_al hB10 _).size); have hs11 : wc.heap.size ≤ w11.heap.size := hB11.size; have hs10 : wc.heap.size ≤ w10.heap.size := hB10.size;
                  (first
                  | (have hg11 : w10.heap.size < (w10.alloc (.cells #[.slice none 0 0, .int .i64 0] 24)).heap.size := (by rw [size_alloc]; exact Nat.lt_succ_self _); have hY11 : BoxC w11 24 w10.heap.size [.slice none 0 0, .int .i64 0] := (BoxC.new w10 24 [.slice none 0 0, .int .i64 0]).below hb11; have y0 : w11.cell? ⟨w10.heap.size, 0, none⟩ = some (.slice none 0 0) := (hY11.cell 0).trans rfl; have y1 : w11.cell? ⟨w10.heap.size, 1, none⟩ = some (.int .i64 0) := (hY11.cell 1).trans rfl; have f0 : w11.frozen? ⟨w10.heap.size, 0, none⟩ = false := hY11.fr 0; have f1 : w11.frozen? ⟨w10.heap.size, 1, none⟩ = false := hY11.fr 1)
                  | (have hg11 : wc.heap.size + 1 < w10.heap.size := (HY2.out.below hb10).lt; have hY11 : BoxC w11 24 (wc.heap.size + 1) [.slice none 0 0, .int .i64 0] := (HY2.out.below hb10).below hb11; have y0 : w11.cell? ⟨(wc.heap.size + 1), 0, none⟩ = some (.slice none 0 0) := (hY11.cell 0).trans rfl; have y1 : w11.cell? ⟨(wc.heap.size + 1), 1, none⟩ = some (.int .i64 0) := (hY11.cell 1).trans rfl; have f0 : w11.frozen? ⟨(wc.heap.size + 1), 0, none⟩ = false := hY11.fr 0; have f1 : w11.frozen? ⟨(wc.heap.size + 1), 1, none⟩ = false := hY11.fr 1)
                  | (have hg11 : wc.heap.size < w10.heap.size := (HY3.out.below hb10).lt; have hY11 : BoxC w11 24 wc.heap.size [.slice none 0 0, .int .i64 0] := (HY3.out.below hb10).below hb11; have y0 : w11.cell? ⟨wc.heap.size, 0, none⟩ = some (.slice none 0 0) := (hY11.cell 0).trans rfl; have y1 : w11.cell? ⟨wc.heap.size, 1, none⟩ = some (.int .i64 0) := (hY11.cell 1).trans rfl; have f0 : w11.frozen? ⟨wc.heap.size, 0, none⟩ = false := hY11.fr 0; have f1 : w11.frozen? ⟨wc.heap.size, 1, none⟩ = false := hY11.fr 1)
                  | skip)))
            all_goals (
              obtain ⟨hx, hr11, hoff⟩ := hh HEl.out.symm
              rw [s2_all] at hx hr11 hoff
              subst hx
              obtain ⟨a12, c12, hv12⟩ := hr11.shape
              simp only [Value.slice.injEq] at hv12
              obtain ⟨rfl, rfl, rfl⟩ := hv12
              have HH : Hid (Reads w11 (.slice a11 zs.length c11) zs ∧ Below wc.heap.size wc w11) := ⟨hr11, hB11⟩
              go_wp2_with fail
              go_meet
              case rel =>
                first
                | exact ⟨rfl, w11.heap.size, a11, c11, rfl, BoxC.new w11 24 [.slice a11 zs.length c11, .int .i64 (j : Int)], HH.out.1.below (box_below _ _), below_al HH.out.2 _⟩
                | exact ⟨rfl, _, a11, c11, rfl, (hY11.set 0 _).set 1 _, far_set HH.out.1 (hoff _ hg11 (HOT.out _ (by first | exact hs10 | exact Nat.le_refl _ | exact Nat.le_succ _))), below_st (p := ⟨_, 1, none⟩) (below_st (p := ⟨_, 0, none⟩) HH.out.2 (by first | exact hs10 | exact Nat.le_refl _ | exact Nat.le_succ _) _) (by first | exact hs10 | exact Nat.le_refl _ | exact Nat.le_succ _) _⟩)
          case rest =>
            obtain ⟨rfl, Hq⟩ := hcut
            obtain ⟨g, ay, cy, rfl, hbx, hry, hby⟩ := Hq.out
            have HY12 : Hid (BoxC wc 24 g [.slice ay zs.length cy, .int .i64 (j : Int)]) := hbx
            have HA12 : Hid (BoxC wc 24 w.heap.size [.slice a zs.length cap, .int .i64 (j : Int)]) := HA9.out.below hby
            have HB12 : Hid (Below w.heap.size w wc) := below_trans HB9.out hby HB9.out.size
            have HRy : Hid (Reads wc (.slice ay zs.length cy) zs) := hry
            clear hbx hry hby Hq HA9 HX9 HR9 HB9
            have d0 : wc.cell? ⟨g, 0, none⟩ = some (.slice ay zs.length cy) := (HY12.out.cell 0).trans rfl
            have d1 : wc.cell? ⟨g, 1, none⟩ = some (.int .i64 (j : Int)) := (HY12.out.cell 1).trans rfl
            have b0 : wc.cell? ⟨w.heap.size, 0, none⟩ = some (.slice a zs.length cap) := (HA12.out.cell 0).trans rfl
            have b1 : wc.cell? ⟨w.heap.size, 1, none⟩ = some (.int .i64 (j : Int)) := (HA12.out.cell 1).trans rfl
            go_wp2_with fail
            refine (sameLine_yes _ _ zs (j : Int) _ HRy.out (HV.out _ HB12.out)).mono ?_
            rintro e w13 ⟨rfl, hb⟩
            have HB13 : Hid (Below w.heap.size w w13) := below_trans HB12.out hb HB12.out.size
            clear hb d0 d1 b0 b1
            go_wp2_with fail
            go_ret
            exact ⟨rfl, HB13.out⟩
      · have hlt : (200 : Int) < (zs.length : Int) + (ks.length : Int) := by unfold far at hf; omega
        have hwr : IntKind.i64.wrap ((zs.length : Int) + (ks.length : Int)) = (zs.length : Int) + (ks.length : Int) := by
          have h1 := HM.out.1
          have h2 := HM.out.2
          unfold Mild at h1 h2
          rw [IntKind.wrap_i64]; omega
        rintro e w7 ⟨hb, tv, x, ⟨a7, l7, c7, rfl⟩, rfl, _⟩
        rw [decide_eq_false hf]
        have HB7 : Hid (Below w.heap.size w w7) := below_trans HB6.out hb HB6.out.size
        have HA7 : Hid (BoxC w7 24 w.heap.size [.slice a zs.length cap, .int .i64 (j : Int)]) := HA6.out.below hb
        have b0 : ∀ o, (w7.alloc o).cell? ⟨w.heap.size, 0, none⟩ = some (.slice a zs.length cap) := fun o => ((HA7.out.alloc o).cell 0).trans rfl
        clear hb HA6 HB6 a0 a1 HCF HTy hf
        go_wp2_with fail
        go_ret
        exact ⟨rfl, HB7.out.alloc HB7.out.size _⟩
end Go.Proofs.Ytpgjaoemkadenab.Seek
