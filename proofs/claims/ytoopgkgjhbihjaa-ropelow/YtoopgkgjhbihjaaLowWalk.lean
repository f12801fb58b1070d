/- The walk of RopeLow. -/
import Derived.Test.YtoopgkgjhbihjaaJoinsWalk
import Derived.Deep.Cut
import Derived.Deep.CutRange
import Derived.Deep.DeepCutAuto
set_option linter.unusedVariables false
set_option linter.unusedSimpArgs false
namespace Go.Proofs.Ytoopgkgjhbihjaa.Seek
open Go.RowKit

theorem bcell {W w1 : World} (hb : Below W.heap.size W w1) : (∀ b o, b < W.heap.size → w1.cell? ⟨b, o, none⟩ = W.cell? ⟨b, o, none⟩) ∧ (∀ b o, b < W.heap.size → w1.frozen? ⟨b, o, none⟩ = W.frozen? ⟨b, o, none⟩) :=
  ⟨fun b o h => hb.cell (p := ⟨b, o, none⟩) h, fun b o h => hb.frozen (p := ⟨b, o, none⟩) h⟩
theorem below_join {W X Y : World} (h : Below W.heap.size W X) (h2 : Below X.heap.size X Y) : Below W.heap.size W Y := below_trans h h2 h.size
theorem below_st {W X : World} (h : Below W.heap.size W X) {bx : Nat} (hbx : W.heap.size ≤ bx) (v : Value) : Below W.heap.size W (X.setCell ⟨bx, 0, none⟩ v) := h.setCell (p := ⟨bx, 0, none⟩) hbx v
theorem heap_al (w : World) (o : Obj) : (w.alloc o).heap = w.heap.push o := rfl
theorem heap_dr (w : World) : w.drew.heap = w.heap := rfl
theorem bx_dr {w : World} {b : Nat} {t : TypeId} {v : Value} (h : Boxed w b t v) : Boxed w.drew b t v := h
theorem bx11 (w : World) {w9 : World} {a : Value} (h : Below (w.alloc (.cells #[a] 25)).drew.heap.size (w.alloc (.cells #[a] 25)).drew w9) : Boxed w9 w.heap.size 25 a := boxed_size (bx_dr (Boxed.new w 25 a)) h
theorem bx21 (w : World) {w9 : World} {a b : Value} (h : Below ((w.alloc (.cells #[a] 25)).alloc (.cells #[b] 25)).drew.heap.size ((w.alloc (.cells #[a] 25)).alloc (.cells #[b] 25)).drew w9) : Boxed w9 w.heap.size 25 a := boxed_size (bx_dr (box_first w a b 25 25)) h
theorem bx22 (w : World) {w9 : World} {a b : Value} (h : Below ((w.alloc (.cells #[a] 25)).alloc (.cells #[b] 25)).drew.heap.size ((w.alloc (.cells #[a] 25)).alloc (.cells #[b] 25)).drew w9) : Boxed w9 (w.heap.size + 1) 25 b := boxed_size (bx_dr (box_second w a b 25 25)) h
theorem bx31 (w : World) {w9 : World} {a b c : Value} (h : Below (((w.alloc (.cells #[a] 25)).alloc (.cells #[b] 25)).alloc (.cells #[c] 25)).drew.heap.size (((w.alloc (.cells #[a] 25)).alloc (.cells #[b] 25)).alloc (.cells #[c] 25)).drew w9) : Boxed w9 w.heap.size 25 a := boxed_size (bx_dr ((box_first w a b 25 25).alloc _)) h
theorem bx32 (w : World) {w9 : World} {a b c : Value} (h : Below (((w.alloc (.cells #[a] 25)).alloc (.cells #[b] 25)).alloc (.cells #[c] 25)).drew.heap.size (((w.alloc (.cells #[a] 25)).alloc (.cells #[b] 25)).alloc (.cells #[c] 25)).drew w9) : Boxed w9 (w.heap.size + 1) 25 b := boxed_size (bx_dr ((box_second w a b 25 25).alloc _)) h
theorem bx33 (w : World) {w9 : World} {a b c : Value} (h : Below (((w.alloc (.cells #[a] 25)).alloc (.cells #[b] 25)).alloc (.cells #[c] 25)).drew.heap.size (((w.alloc (.cells #[a] 25)).alloc (.cells #[b] 25)).alloc (.cells #[c] 25)).drew w9) : Boxed w9 (w.heap.size + 1 + 1) 25 c := boxed_size (bx_dr (box_third w a b c 25 25 25)) h
theorem below_dr {W X : World} (h : Below W.heap.size W X) : Below W.heap.size W X.drew := h.drew
theorem below_al {W X : World} (h : Below W.heap.size W X) (o : Obj) : Below W.heap.size W (X.alloc o) := h.alloc h.size o
/-- What lies there behind the split. -/
def LowCut (W : World) (la lb : List Int) (s10 s11 s12 : Value) (wx : World) : Prop :=
  ∃ b10 b11 pa pb, s10 = .pointer (some ⟨b10, 0, none⟩) ∧ s11 = .pointer (some ⟨b11, 0, none⟩) ∧ s12 = .int .i64 0 ∧ RV wx b10 pa la ∧ RV wx b11 pb lb ∧ Below W.heap.size W wx
theorem cut_A {W w9 : World} {pa pb : Option Addr} {la lb : List Int} (hB : Below W.heap.size W w9) (hta : Tree w9 w9.heap.size pa la) (htb : Tree w9 w9.heap.size pb lb) :
    LowCut W la lb (.pointer (some ⟨w9.heap.size, 0, none⟩)) (.pointer (some ⟨w9.heap.size + 1, 0, none⟩)) (.int .i64 0) ((w9.alloc (.cells #[.pointer pa] 25)).alloc (.cells #[.pointer pb] 25)) := by
  refine ⟨_, _, pa, pb, rfl, rfl, rfl, (RV.new hta).alloc _, ⟨box_second _ _ _ _ _, tree_alloc (tree_alloc htb _) _⟩, below_al (below_al hB _) _⟩
theorem cut_B {W w9 : World} {pa pb : Option Addr} {la lb : List Int} (hB : Below W.heap.size W w9) (hta : Tree w9 w9.heap.size pa la) (htb : Tree w9 w9.heap.size pb lb) :
    LowCut W la lb (.pointer (some ⟨w9.heap.size + 1, 0, none⟩)) (.pointer (some ⟨w9.heap.size, 0, none⟩)) (.int .i64 0) ((w9.alloc (.cells #[.pointer pb] 25)).alloc (.cells #[.pointer pa] 25)) := by
  refine ⟨_, _, pa, pb, rfl, rfl, rfl, ⟨box_second _ _ _ _ _, tree_alloc (tree_alloc hta _) _⟩, (RV.new htb).alloc _, below_al (below_al hB _) _⟩
theorem cut_C {W w9 : World} {pa pb : Option Addr} {la lb : List Int} {x : Nat} {vx : Value} (hx : Boxed w9 x 25 vx) (hxl : W.heap.size ≤ x) (hB : Below W.heap.size W w9) (hta : Tree w9 w9.heap.size pa la) (htb : Tree w9 w9.heap.size pb lb) :
    LowCut W la lb (.pointer (some ⟨x, 0, none⟩)) (.pointer (some ⟨w9.heap.size, 0, none⟩)) (.int .i64 0) ((w9.setCell ⟨x, 0, none⟩ (.pointer pa)).alloc (.cells #[.pointer pb] 25)) := by
  have hn := Boxed.new (w9.setCell ⟨x, 0, none⟩ (.pointer pa)) 25 (.pointer pb)
  rw [size_set] at hn
  exact ⟨_, _, pa, pb, rfl, rfl, rfl, ⟨(hx.set _).alloc _, tree_alloc (tree_set hta hx _) _⟩, ⟨hn, tree_alloc (tree_set htb hx _) _⟩, below_al (below_st hB hxl _) _⟩
theorem cut_D {W w9 : World} {pa pb : Option Addr} {la lb : List Int} {x : Nat} {vx : Value} (hx : Boxed w9 x 25 vx) (hxl : W.heap.size ≤ x) (hB : Below W.heap.size W w9) (hta : Tree w9 w9.heap.size pa la) (htb : Tree w9 w9.heap.size pb lb) :
    LowCut W la lb (.pointer (some ⟨w9.heap.size, 0, none⟩)) (.pointer (some ⟨x, 0, none⟩)) (.int .i64 0) ((w9.setCell ⟨x, 0, none⟩ (.pointer pb)).alloc (.cells #[.pointer pa] 25)) := by
  have hn := Boxed.new (w9.setCell ⟨x, 0, none⟩ (.pointer pb)) 25 (.pointer pa)
  rw [size_set] at hn
  exact ⟨_, _, pa, pb, rfl, rfl, rfl, ⟨hn, tree_alloc (tree_set hta hx _) _⟩, ⟨(hx.set _).alloc _, tree_alloc (tree_set htb hx _) _⟩, below_al (below_st hB hxl _) _⟩
theorem cut_E {W w9 : World} {pa pb : Option Addr} {la lb : List Int} {x y : Nat} {vx vy : Value} (hx : Boxed w9 x 25 vx) (hy : Boxed w9 y 25 vy) (hxl : W.heap.size ≤ x) (hyl : W.heap.size ≤ y) (hne : x ≠ y) (hB : Below W.heap.size W w9) (hta : Tree w9 w9.heap.size pa la) (htb : Tree w9 w9.heap.size pb lb) :
    LowCut W la lb (.pointer (some ⟨x, 0, none⟩)) (.pointer (some ⟨y, 0, none⟩)) (.int .i64 0) ((w9.setCell ⟨x, 0, none⟩ (.pointer pa)).setCell ⟨y, 0, none⟩ (.pointer pb)) := by
  have hy2 : Boxed (w9.setCell ⟨x, 0, none⟩ (.pointer pa)) y 25 vy := hy.kept (grownBy_setCell' _ _ _) (fun e => hne (Option.some.inj e).symm)
  exact ⟨_, _, pa, pb, rfl, rfl, rfl, ⟨(hx.set _).kept (grownBy_setCell' _ _ _) (fun e => hne (Option.some.inj e)), tree_set (tree_set hta hx _) hy2 _⟩, ⟨hy2.set _, tree_set (tree_set htb hx _) hy2 _⟩, below_st (below_st hB hxl _) hyl _⟩
theorem below_ch {W X : World} (h : Below W.heap.size W X) : Below W.heap.size W X := h
/-- The contracts at a rope, wherever the world has come to. -/
theorem len_on {W : World} {b : Nat} {p : Option Addr} {zs : List Int} (r : RV W b p zs) : ∀ w2, Below W.heap.size W w2 → Calls Try.prog 10 #[.agg #[.pointer p]] w2 fun e w' => e = .returned (.int .i64 (zs.length : Int)) ∧ w' = w2.alloc (.cells #[.pointer p] 25) := fun w2 hb2 => len_any p zs w2 (r.next hb2).2
theorem tall_on {W : World} {b : Nat} {p : Option Addr} {zs : List Int} (r : RV W b p zs) (hm : zs.length ≤ 4096) : ∀ w2, Below W.heap.size W w2 → Calls Try.prog 20 #[.agg #[.pointer p]] w2 fun e w' => e = .returned (.int .i64 (hgt zs.length : Int)) ∧ Below w2.heap.size w2 w' := fun w2 hb2 => tallm_any p zs w2 hm (r.next hb2).2
theorem least_on (n : Nat) (h : n ≤ 4096) : ∀ w2, Calls Try.prog 22 #[.int .i64 (hgt n : Int)] w2 fun e w' => e = .returned (.int .i64 (lst (hgt n) : Int)) ∧ w' = w2 := fun w2 => least_any (hgt n) w2 (hgt_13 n h)
/-- What lies there between two rounds. -/
def LowRound (w wr : World) (b6 n : Nat) : Prop := ∃ p zs, RV wr b6 p zs ∧ zs.length = n ∧ Below w.heap.size w wr
set_option maxRecDepth 100000 in
set_option maxHeartbeats 4000000 in
theorem low_walk (v vc : Value) (l cuts : List Int) (w : World) (hl : Reads w v l) (hc : Reads w vc cuts) (hlr : l.length * 8 ≤ 140737488351232) (hcr : cuts.length * 8 ≤ 140737488351232) :
    Calls Try.prog 4 #[v, vc] w fun e w' => e = .returned (.bool true) ∧ Below w.heap.size w w' := by
  obtain ⟨a1, c1, hv1⟩ := hl.shape
  obtain ⟨a2, c2, hv2⟩ := hc.shape
  subst hv1 hv2
  have Hlm : Hid (l.length ≤ maxLen) := by show l.length ≤ maxLen; unfold maxLen; omega
  have Hl : Hid (Reads w (.slice a1 l.length c1) l) := hl
  have Hc : Hid (Reads w (.slice a2 cuts.length c2) cuts) := hc
  clear hl hc
  go_enter Try.func4, Try.ntmps4
  go_wp2_with fail
  refine (roped_any [1, 2, 3] _ _ (by decide) (reads_new w [1, 2, 3] (by decide))).mono ?_
  rintro e w1 ⟨hb1, p1, rfl, ht1⟩
  rw [show ofList [1, 2, 3] = [1, 2, 3] from rfl] at ht1
  have hB := below_trans (below_alloc w _) hb1 (by rw [size_alloc]; omega)
  clear hb1
  have r5 := RV.new ht1
  replace hB := hB.alloc hB.size (.cells #[.pointer p1] 25)
  clear ht1
  have d5 := r5.cell
  go_wp2_with fail
  clear d5
  generalize w1.alloc (.cells #[.pointer p1] 25) = W1 at *
  generalize w1.heap.size = b1 at *
  refine (tallm_any p1 [1, 2, 3] W1 (by decide) r5.2).mono ?_
  rintro e w2 ⟨rfl, hb2⟩
  rw [show hgt [(1 : Int), 2, 3].length = 2 from by decide]
  replace hB := below_trans hB hb2 hB.size
  replace r5 := r5.next hb2
  clear hb2
  have d5 := r5.cell
  go_wp2_with fail
  clear d5
  refine (len_any p1 [1, 2, 3] w2 r5.2).mono ?_
  rintro e w3 ⟨rfl, hw3⟩
  have hb3 : Below w2.heap.size w2 w3 := by rw [hw3]; exact below_alloc _ _
  clear hw3 r5
  replace hB := below_trans hB hb3 hB.size
  clear hb3
  go_wp2_with fail
  refine (of_one l _ w3 Hlm.out (Hl.out.below hB)).mono ?_
  rintro e w5 ⟨hb5, p, er, zs, rfl, ht5, hcase⟩
  replace hB := below_trans hB hb5 hB.size
  have hle6 := hB.size
  clear hb5
  have r6 := RV.new ht5
  replace hB := hB.alloc hB.size (.cells #[.pointer p] 25)
  clear ht5
  rcases hcase with ⟨hl4, rfl, rfl⟩ | ⟨hl4, rfl, rfl⟩
  · have HR : Hid (LowRound w (w5.alloc (.cells #[.pointer p] 25)) w5.heap.size zs.length) := ⟨p, zs, r6, rfl, hB⟩
    clear r6 hB
    go_wp2_with fail
    generalize w5.alloc (.cells #[.pointer p] 25) = W5 at *
    generalize w5.heap.size = b6 at *
    go_loopw [35] (fun u wr => ∃ j : Nat, j ≤ cuts.length ∧ u = .int .i64 (j : Int) ∧ Hid (LowRound w wr b6 zs.length)) (fun u _ => ((cuts.length : Int) - intOf u).toNat)
    case atStart => exact ⟨0, by omega, rfl, HR.out⟩
    case round =>
      obtain ⟨j, hj, rfl, Hr⟩ := hrel
      obtain ⟨pr, rs, r6, hrs, hB⟩ := Hr.out
      have Hrs : Hid (rs.length = zs.length) := hrs
      have hrm : rs.length ≤ 4096 := by rw [hrs]; exact hl4
      clear Hr HR hrs
      by_cases hlt : j < cuts.length
      · rcases Hc.out with ⟨_, _, _, rfl⟩ | ⟨bc, oc, cc, hec, _, _, hbc, hcc⟩
        · exact absurd hlt (by simp)
        have hcx : wr.cell? ⟨bc, oc + j, none⟩ = some (.int .i64 (cuts.getD j 0)) := (hB.cell (by exact hbc)).trans (hcc j hlt)
        simp only [Value.slice.injEq] at hec
        obtain ⟨rfl, _, rfl⟩ := hec
        clear hcc
        generalize cuts.getD j 0 = k at *
        obtain ⟨hI0, hI1⟩ := rst_bounds k ((rs.length : Int) + 1) (by omega)
        have hrest := fun w2 => rest_any k ((rs.length : Int) + 1) w2 (by omega) (by omega)
        obtain ⟨I, hI⟩ : ∃ I : Nat, rst k ((rs.length : Int) + 1) = (I : Int) := ⟨(rst k ((rs.length : Int) + 1)).toNat, by omega⟩
        rw [hI] at hI0 hI1 hrest
        clear hI
        have HRest : Hid (∀ w2, Calls Try.prog 21 #[.int .i64 k, .int .i64 ((rs.length : Int) + 1)] w2 fun e w' => e = .returned (.int .i64 (I : Int)) ∧ w' = w2) := hrest
        have hIl : I ≤ rs.length := by omega
        clear hI0 hI1 hrest
        have HLen : Hid (∀ w2, Below wr.heap.size wr w2 → Calls Try.prog 10 #[.agg #[.pointer pr]] w2 fun e w' => e = .returned (.int .i64 (rs.length : Int)) ∧ w' = w2.alloc (.cells #[.pointer pr] 25)) := fun w2 hb2 => len_any pr rs w2 (r6.next hb2).2
        have HSp : Hid (∀ w2, Below wr.heap.size wr w2 → Calls Try.prog 14 #[.agg #[.pointer pr], .int .i64 (I : Int)] w2 fun e w' => TwoErr (rs.take I) (rs.drop I) 0 w2 e w') := fun w2 hb2 => split_in pr rs I w2 hrm hIl (r6.next hb2).2
        have hS := r6.cell
        have m6 := r6.lt
        go_upto_region 10 with fail
        clear hcx
        go_cut [10, 11, 12] from 39 to 49 (fun s10 s11 s12 wx => Hid (LowCut wr (rs.take I) (rs.drop I) s10 s11 s12 wx))
        case first =>
          have hi7 : IntKind.i64.wrap ((rs.length : Int) + 1) = (rs.length : Int) + 1 := IntWalk.i64_in _ ⟨by omega, by omega⟩
          go_region_held3 (fun w' => w'.cell? ⟨b6, 0, none⟩ = some (.pointer pr)) ((refine keep1 ?_ m6 hS; repeat (first | exact hB9 | exact Below.refl _ _ | refine below_dr ?_ | refine below_al ?_ _ | (refine below_st ?_ (by first | exact Nat.le_refl _ | omega) _))))
            (first
              | (go_at_call 10; refine (HLen.out _ ?_).mono ?_; (repeat (first | exact Below.refl _ _ | refine below_dr ?_ | refine below_al ?_ _)); rintro e w7 ⟨rfl, rfl⟩)
              | (go_at_call 21; refine (HRest.out _).mono ?_; rintro e w8 ⟨rfl, rfl⟩)
              | (go_at_call 14; refine (HSp.out _ ?_).mono ?_; (repeat (first | exact Below.refl _ _ | refine below_dr ?_ | refine below_al ?_ _)); rintro e w9 ⟨hb9, pa, pb, rfl, hta, htb⟩; have hB9 : Below wr.heap.size wr w9 := (by refine below_join ?_ hb9; repeat (first | exact Below.refl _ _ | refine below_dr ?_ | refine below_al ?_ _)); have hle9 := hB9.size; (first | (have x0 := bx31 wr hb9; have x1 := bx32 wr hb9; have x2 := bx33 wr hb9; have xc0 := x0.cell; have xf0 := x0.frozen; have xl0 := x0.lt; have xn0 := Nat.ne_of_lt xl0; have xm0 := Nat.ne_of_gt xl0; have xc1 := x1.cell; have xf1 := x1.frozen; have xl1 := x1.lt; have xn1 := Nat.ne_of_lt xl1; have xm1 := Nat.ne_of_gt xl1; have xc2 := x2.cell; have xf2 := x2.frozen; have xl2 := x2.lt; have xn2 := Nat.ne_of_lt xl2; have xm2 := Nat.ne_of_gt xl2) | (have x0 := bx21 wr hb9; have x1 := bx22 wr hb9; have xc0 := x0.cell; have xf0 := x0.frozen; have xl0 := x0.lt; have xn0 := Nat.ne_of_lt xl0; have xm0 := Nat.ne_of_gt xl0; have xc1 := x1.cell; have xf1 := x1.frozen; have xl1 := x1.lt; have xn1 := Nat.ne_of_lt xl1; have xm1 := Nat.ne_of_gt xl1) | (have x0 := bx11 wr hb9; have xc0 := x0.cell; have xf0 := x0.frozen; have xl0 := x0.lt; have xn0 := Nat.ne_of_lt xl0; have xm0 := Nat.ne_of_gt xl0))))
          all_goals (go_wp2_with fail)
          all_goals go_meet
          all_goals (first
            | exact cut_A hB9 hta htb
            | exact cut_B hB9 hta htb
            | exact cut_C x0 (by omega) hB9 hta htb
            | exact cut_D x0 (by omega) hB9 hta htb
            | exact cut_C x1 (by omega) hB9 hta htb
            | exact cut_D x1 (by omega) hB9 hta htb
            | exact cut_C x2 (by omega) hB9 hta htb
            | exact cut_D x2 (by omega) hB9 hta htb
            | exact cut_E x0 x1 (by omega) (by omega) (by omega) hB9 hta htb
            | exact cut_E x0 x2 (by omega) (by omega) (by omega) hB9 hta htb
            | exact cut_E x1 x0 (by omega) (by omega) (by omega) hB9 hta htb
            | exact cut_E x1 x2 (by omega) (by omega) (by omega) hB9 hta htb
            | exact cut_E x2 x0 (by omega) (by omega) (by omega) hB9 hta htb
            | exact cut_E x2 x1 (by omega) (by omega) (by omega) hB9 hta htb)
        case rest =>
          obtain ⟨ba, bb, pa, pb, rfl, rfl, rfl, ra, rb, hBc⟩ := hcut.out
          clear hcut
          replace r6 := r6.next hBc
          replace hB := below_join hB hBc
          have hla : (rs.take I).length = I := by rw [List.length_take]; omega
          have hlb : (rs.drop I).length = rs.length - I := List.length_drop
          have Hj : Hid (joinList (rs.drop I) (rs.take I) = rs.drop I ++ rs.take I ∧ joinErr (rs.drop I).length (rs.take I).length = 0 ∧ (rs.drop I ++ rs.take I).length = rs.length) := by
            unfold joinList joinErr
            rw [List.length_append, hla, hlb, if_pos (by omega), if_pos (by omega)]
            exact ⟨rfl, rfl, by omega⟩
          have ham : (rs.take I).length ≤ 4096 := by omega
          have hbm : (rs.drop I).length ≤ 4096 := by omega
          clear hla hlb HSp HLen HRest hS m6 hBc
          generalize rs.take I = la at *
          generalize rs.drop I = lb at *
          have HLa : Hid _ := len_on ra
          have HTa : Hid _ := tall_on ra ham
          have HEa : Hid _ := least_on la.length ham
          have HLb : Hid _ := len_on rb
          have HTb : Hid _ := tall_on rb hbm
          have HEb : Hid _ := least_on lb.length hbm
          have hda : decide ((la.length : Int) < (lst (hgt la.length) : Int)) = false := decide_eq_false (by have := lst_hgt la.length; omega)
          have hdb : decide ((lb.length : Int) < (lst (hgt lb.length) : Int)) = false := decide_eq_false (by have := lst_hgt lb.length; omega)
          have hda2 : decide (la.length < lst (hgt la.length)) = false := decide_eq_false (by have := lst_hgt la.length; omega)
          have hdb2 : decide (lb.length < lst (hgt lb.length)) = false := decide_eq_false (by have := lst_hgt lb.length; omega)
          have Hma : Hid (la.length ≤ 4096) := ham
          have Hmb : Hid (lb.length ≤ 4096) := hbm
          have hSc : wc.cell? ⟨ba, 0, none⟩ = some (.pointer pa) ∧ wc.cell? ⟨bb, 0, none⟩ = some (.pointer pb) := ⟨ra.cell, rb.cell⟩
          have ma := ra.lt
          have mb := rb.lt
          generalize lst (hgt la.length) = ea at *
          generalize lst (hgt lb.length) = eb at *
          generalize hgt la.length = ga at *
          generalize hgt lb.length = gb at *
          obtain ⟨wo, hwo⟩ : ∃ wo, wo = wc := ⟨_, rfl⟩
          subst hwo
          go_upto_region 11 with fail
          go_cut [67] from 39 to 84 (fun s67 wx => s67 = .bool false ∧ Hid (Below wo.heap.size wo wx))
          case first =>
            go_region_held3 (fun w' => w'.cell? ⟨ba, 0, none⟩ = some (.pointer pa) ∧ w'.cell? ⟨bb, 0, none⟩ = some (.pointer pb)) ((refine keep2 ?_ ma mb hSc; (repeat (first | exact hT1 | exact hT2 | exact Below.refl _ _ | refine below_dr ?_ | refine below_al ?_ _))))
              (first
                | (go_at_call_of 10 (pa); refine (HLa.out _ ?_).mono ?_; (repeat (first | exact hT1 | exact hT2 | exact Below.refl _ _ | refine below_dr ?_ | refine below_al ?_ _)); rintro e w7 ⟨rfl, rfl⟩)
                | (go_at_call_of 20 (pa); refine (HTa.out _ ?_).mono ?_; (repeat (first | exact hT1 | exact hT2 | exact Below.refl _ _ | refine below_dr ?_ | refine below_al ?_ _)); rintro e wT1 ⟨rfl, hbT1⟩; have hT1 : Below wo.heap.size wo wT1 := (by refine below_join ?_ hbT1; (repeat (first | exact hT1 | exact hT2 | exact Below.refl _ _ | refine below_dr ?_ | refine below_al ?_ _))); clear hbT1)
                | (go_at_call_of 22 (ga); refine (HEa.out _).mono ?_; rintro e w8 ⟨rfl, rfl⟩)
                | (go_at_call_of 10 (pb); refine (HLb.out _ ?_).mono ?_; (repeat (first | exact hT1 | exact hT2 | exact Below.refl _ _ | refine below_dr ?_ | refine below_al ?_ _)); rintro e w7 ⟨rfl, rfl⟩)
                | (go_at_call_of 20 (pb); refine (HTb.out _ ?_).mono ?_; (repeat (first | exact hT1 | exact hT2 | exact Below.refl _ _ | refine below_dr ?_ | refine below_al ?_ _)); rintro e wT2 ⟨rfl, hbT2⟩; have hT2 : Below wo.heap.size wo wT2 := (by refine below_join ?_ hbT2; (repeat (first | exact hT1 | exact hT2 | exact Below.refl _ _ | refine below_dr ?_ | refine below_al ?_ _))); clear hbT2)
                | (go_at_call_of 22 (gb); refine (HEb.out _).mono ?_; rintro e w8 ⟨rfl, rfl⟩))
            all_goals (go_wp2_with fail)
            all_goals go_meet
            all_goals (refine ⟨rfl, ?_⟩; show Below _ _ _; (repeat (first | exact hT1 | exact hT2 | exact Below.refl _ _ | refine below_dr ?_ | refine below_al ?_ _)))
          case rest =>
            obtain ⟨rfl, Hb⟩ := hcut
            have hb := Hb.out
            clear Hb hSc ma mb HLa HTa HEa HLb HTb HEb hda hda2 hdb hdb2
            replace ra := ra.next hb
            replace rb := rb.next hb
            replace r6 := r6.next hb
            replace hB := below_join hB hb
            clear hb
            have d10 := ra.cell
            have d11 := rb.cell
            go_wp2_with fail
            clear d10 d11
            refine (join_any pb pa lb la wc Hmb.out Hma.out rb.2 ra.2).mono ?_
            rintro e w9 ⟨hb9, pj, rfl, htj⟩
            rw [Hj.out.1] at htj
            rw [Hj.out.2.1]
            have Hlen : Hid ((lb ++ la).length = rs.length) := Hj.out.2.2
            replace r6 := r6.next hb9
            replace hB := below_join hB hb9
            clear hb9 ra rb Hj
            have hc6 := r6.cell
            have hf6 := r6.1.frozen
            have rj : RV (w9.setCell ⟨b6, 0, none⟩ (.pointer pj)) b6 pj (lb ++ la) := ⟨r6.1.set _, tree_set htj r6.1 _⟩
            replace hB := below_st hB hle6 (.pointer pj)
            clear r6 htj
            generalize lb ++ la = lj at *
            have hjm : lj.length ≤ 4096 := by rw [Hlen.out]; exact hrm
            go_upto_region 14 with fail
            clear hc6 hf6
            generalize w9.setCell ⟨b6, 0, none⟩ (.pointer pj) = W9 at *
            have HLj : Hid _ := len_on rj
            have HTj : Hid _ := tall_on rj hjm
            have HEj : Hid _ := least_on lj.length hjm
            have hdj : decide ((lj.length : Int) < (lst (hgt lj.length) : Int)) = false := decide_eq_false (by have := lst_hgt lj.length; omega)
            have hdj2 : decide (lj.length < lst (hgt lj.length)) = false := decide_eq_false (by have := lst_hgt lj.length; omega)
            have hSj := rj.cell
            have mj := rj.lt
            generalize lst (hgt lj.length) = ej at *
            generalize hgt lj.length = gj at *
            go_region_held3 (fun w' => w'.cell? ⟨b6, 0, none⟩ = some (.pointer pj)) ((refine keep1 ?_ mj hSj; (repeat (first | exact hT1 | exact hT2 | exact Below.refl _ _ | refine below_dr ?_ | refine below_al ?_ _))))
              (first
                | (go_at_call_of 10 (pj); refine (HLj.out _ ?_).mono ?_; (repeat (first | exact hT1 | exact hT2 | exact Below.refl _ _ | refine below_dr ?_ | refine below_al ?_ _)); rintro e w7 ⟨rfl, rfl⟩)
                | (go_at_call_of 20 (pj); refine (HTj.out _ ?_).mono ?_; (repeat (first | exact hT1 | exact hT2 | exact Below.refl _ _ | refine below_dr ?_ | refine below_al ?_ _)); rintro e wT1 ⟨rfl, hbT1⟩; have hT1 : Below W9.heap.size W9 wT1 := (by refine below_join ?_ hbT1; (repeat (first | exact hT1 | exact hT2 | exact Below.refl _ _ | refine below_dr ?_ | refine below_al ?_ _))); clear hbT1)
                | (go_at_call_of 22 (gj); refine (HEj.out _).mono ?_; rintro e w8 ⟨rfl, hw8⟩; replace hw8 := hw8.symm; subst hw8))
            replace rj := rj.next hT1
            replace hB := below_join hB hT1
            have HR : Hid (LowRound w wT1 b6 zs.length) := ⟨pj, lj, rj, by rw [Hlen.out, Hrs.out], hB⟩
            clear rj hB hT1 HLj HTj HEj hSj mj hdj hdj2
            go_simp
            go_wp2_with fail
            go_roundw
            case rel => exact ⟨j + 1, by omega, by go_num, HR.out⟩
            case measure => simp [intOf]; omega
      · obtain rfl : j = cuts.length := by omega
        have d6 := r6.cell
        go_wp2_with fail
        clear d6
        refine (len_any pr rs wr r6.2).mono ?_
        rintro e w7 ⟨rfl, hw7⟩
        have hb7 : Below wr.heap.size wr w7 := by rw [hw7]; exact below_alloc _ _
        replace hB := below_join hB hb7
        clear hb7 hw7 r6
        rw [Hrs.out]
        go_wp2_with fail
        go_ret
        exact ⟨by simp, hB⟩
  · have d6 := r6.cell
    go_wp2_with fail
    clear d6
    refine (len_any p [] _ r6.2).mono ?_
    rintro e w7 ⟨rfl, hw7⟩
    have hb7 : Below (w5.alloc (.cells #[.pointer p] 25)).heap.size (w5.alloc (.cells #[.pointer p] 25)) w7 := by rw [hw7]; exact below_alloc _ _
    replace hB := below_join hB hb7
    clear hb7 hw7 r6
    go_wp2_with fail
    go_ret
    exact ⟨rfl, hB⟩
end Go.Proofs.Ytoopgkgjhbihjaa.Seek
