/- The walk of RopeSplits. -/
import Derived.Test.YtoopgkgjhbihjaaJoinsWalk
set_option linter.unusedVariables false
set_option linter.unusedSimpArgs false
namespace Go.Proofs.Ytoopgkgjhbihjaa.Seek
open Go.RowKit

theorem getD_take (l : List Int) (i k : Nat) (h : k < i) : (l.take i).getD k 0 = l.getD k 0 := by
  rw [List.getD_eq_getElem?_getD, List.getD_eq_getElem?_getD, List.getElem?_take, if_pos h]
theorem getD_drop (l : List Int) (i k : Nat) (h : i ≤ k) : (l.drop i).getD (k - i) 0 = l.getD k 0 := by
  rw [List.getD_eq_getElem?_getD, List.getD_eq_getElem?_getD, List.getElem?_drop, show i + (k - i) = k by omega]

/-- What lies there between two rounds. -/
def SpRound (w wr : World) (b8 b11 b12 : Nat) (p pa pb : Option Addr) (l la lb : List Int) : Prop := RV wr b8 p l ∧ RV wr b11 pa la ∧ RV wr b12 pb lb ∧ Below w.heap.size w wr
set_option maxRecDepth 100000 in
set_option maxHeartbeats 1600000 in
theorem splits_walk (v : Value) (l : List Int) (k : Int) (w : World) (hl : Reads w v l) (hlr : l.length * 8 ≤ 140737488351232) :
    Calls Try.prog 6 #[v, .int .i64 k] w fun e w' => e = .returned (.bool true) ∧ Below w.heap.size w w' := by
  obtain ⟨a1, c1, hv1⟩ := hl.shape
  subst hv1
  have Hlm : Hid (l.length ≤ maxLen) := by show l.length ≤ maxLen; unfold maxLen; omega
  have Hl : Hid (Reads w (.slice a1 l.length c1) l) := hl
  clear hl
  go_enter Try.func6, Try.ntmps6
  go_wp2_with fail
  refine (roped_any [1, 2] _ _ (by decide) (reads_new w [1, 2] (by decide))).mono ?_
  rintro e w1 ⟨hb1, p1, rfl, ht1⟩
  rw [show ofList [1, 2] = [1, 2] from rfl] at ht1
  have hB := below_trans (below_alloc w _) hb1 (by rw [size_alloc]; omega)
  clear hb1
  go_wp2_with fail
  refine (split_in p1 [1, 2] 1 w1 (by decide) (by decide) ht1).mono ?_
  rintro e w2 ⟨hb2, pa0, pb0, rfl, hta, htb⟩
  rw [show [(1 : Int), 2].take 1 = [1] from rfl] at hta
  rw [show [(1 : Int), 2].drop 1 = [2] from rfl] at htb
  replace hB := below_trans hB hb2 hB.size
  clear hb2 ht1
  have a5 := (RV.new hta).alloc (.cells #[.pointer pb0] 25)
  have b6 := RV.new (tree_alloc htb (.cells #[.pointer pa0] 25))
  rw [size_alloc] at b6
  replace hB := hB.alloc hB.size (.cells #[.pointer pa0] 25)
  replace hB := hB.alloc hB.size (.cells #[.pointer pb0] 25)
  clear hta htb
  have d5 := a5.cell
  go_wp2_with fail
  clear d5
  generalize (w2.alloc (.cells #[.pointer pa0] 25)).alloc (.cells #[.pointer pb0] 25) = W2 at *
  generalize w2.heap.size = b2 at *
  refine (len_any pa0 [1] W2 a5.2).mono ?_
  rintro e w3 ⟨rfl, hw3⟩
  have hb3 : Below W2.heap.size W2 w3 := by rw [hw3]; exact below_alloc _ _
  clear hw3
  replace hB := below_trans hB hb3 hB.size
  replace b6 := b6.next hb3
  clear hb3
  clear a5
  have d6 := b6.cell
  go_wp2_with fail
  clear d6
  refine (len_any pb0 [2] w3 b6.2).mono ?_
  rintro e w4 ⟨rfl, hw4⟩
  have hb4 : Below w3.heap.size w3 w4 := by rw [hw4]; exact below_alloc _ _
  clear hw4 b6
  replace hB := below_trans hB hb4 hB.size
  clear hb4
  go_wp2_with fail
  refine (of_one l _ w4 Hlm.out (Hl.out.below hB)).mono ?_
  rintro e w5 ⟨hb5, p, er, zs, rfl, ht5, hcase⟩
  replace hB := below_trans hB hb5 hB.size
  clear hb5
  have r8 := RV.new ht5
  replace hB := hB.alloc hB.size (.cells #[.pointer p] 25)
  clear ht5
  rcases hcase with ⟨hl4, rfl, rfl⟩ | ⟨hl4, rfl, rfl⟩
  · go_wp2_with fail
    generalize w5.alloc (.cells #[.pointer p] 25) = W5 at *
    generalize w5.heap.size = b5 at *
    refine (rest_any k ((zs.length : Int) + 1) W5 (by omega) (by omega)).mono ?_
    rintro e w6 ⟨rfl, rfl⟩
    obtain ⟨hI0, hI1⟩ := rst_bounds k ((zs.length : Int) + 1) (by omega)
    obtain ⟨I, hI⟩ : ∃ I : Nat, rst k ((zs.length : Int) + 1) = (I : Int) := ⟨(rst k ((zs.length : Int) + 1)).toNat, by omega⟩
    rw [hI] at hI0 hI1 ⊢
    clear hI
    have hIl : I ≤ zs.length := by omega
    clear hI0 hI1
    have d8 := r8.cell
    go_wp2_with fail
    clear d8
    refine (split_in p zs I w6 hl4 hIl r8.2).mono ?_
    rintro e w7 ⟨hb7, pa, pb, rfl, hta, htb⟩
    replace hB := below_trans hB hb7 hB.size
    replace r8 := r8.next hb7
    clear hb7
    have hla : (zs.take I).length = I := by rw [List.length_take]; omega
    have hlb : (zs.drop I).length = zs.length - I := List.length_drop
    have Hj : Hid (joinList (zs.take I) (zs.drop I) = zs ∧ joinErr (zs.take I).length (zs.drop I).length = 0) := by
      unfold joinList joinErr
      rw [hla, hlb, if_pos (by omega), if_pos (by omega), List.take_append_drop]
      exact ⟨rfl, rfl⟩
    have Hga : Hid (∀ j, j < I → (zs.take I).getD j 0 = zs.getD j 0) := fun j hj => getD_take zs I j hj
    have Hgb : Hid (∀ j, I ≤ j → (zs.drop I).getD (j - I) 0 = zs.getD j 0) := fun j hj => getD_drop zs I j hj
    have Hla : Hid ((zs.take I).length = I) := hla
    have Hlb : Hid ((zs.drop I).length = zs.length - I) := hlb
    clear hla hlb
    generalize zs.take I = la at *
    generalize zs.drop I = lb at *
    have a11 := (RV.new hta).alloc (.cells #[.pointer pb] 25)
    have b12 := RV.new (tree_alloc htb (.cells #[.pointer pa] 25))
    rw [size_alloc] at b12
    replace r8 := (r8.alloc (.cells #[.pointer pa] 25)).alloc (.cells #[.pointer pb] 25)
    replace hB := hB.alloc hB.size (.cells #[.pointer pa] 25)
    replace hB := hB.alloc hB.size (.cells #[.pointer pb] 25)
    clear hta htb
    have d11 := a11.cell
    have d12 := b12.cell
    go_wp2_with fail
    clear d11 d12
    generalize (w7.alloc (.cells #[.pointer pa] 25)).alloc (.cells #[.pointer pb] 25) = W7 at *
    generalize w7.heap.size = b7 at *
    refine (join_any pa pb la lb W7 (by rw [Hla.out]; omega) (by rw [Hlb.out]; omega) a11.2 b12.2).mono ?_
    rintro e w8 ⟨hb8, pj, rfl, htj⟩
    rw [Hj.out.1] at htj
    rw [Hj.out.2]
    clear Hj
    replace hB := below_trans hB hb8 hB.size
    replace r8 := r8.next hb8
    replace a11 := a11.next hb8
    replace b12 := b12.next hb8
    clear hb8
    have j13 := RV.new htj
    replace r8 := r8.alloc (.cells #[.pointer pj] 25)
    replace a11 := a11.alloc (.cells #[.pointer pj] 25)
    replace b12 := b12.alloc (.cells #[.pointer pj] 25)
    replace hB := hB.alloc hB.size (.cells #[.pointer pj] 25)
    clear htj
    have d13 := j13.cell
    go_wp2_with fail
    clear d13
    generalize w8.alloc (.cells #[.pointer pj] 25) = W8 at *
    generalize w8.heap.size = b8 at *
    refine (list_any pj zs W8 hl4 j13.2).mono ?_
    rintro e w9 ⟨hb9, g9, cap9, rfl, _, _, _, ho9⟩
    have hr9 := owned_reads ho9
    clear ho9 j13
    replace hB := below_trans hB hb9 hB.size
    replace r8 := r8.next hb9
    replace a11 := a11.next hb9
    replace b12 := b12.next hb9
    clear hb9
    go_wp2_with fail
    refine (equal_same _ _ zs w9 hr9 (Hl.out.below hB) Hlm.out).mono ?_
    rintro e w10 ⟨rfl, q10, hw10⟩
    have hb10 : Below w9.heap.size w9 w10 := by rw [hw10]; exact below_draws _ q10
    clear hw10 hr9
    replace hB := below_trans hB hb10 hB.size
    replace r8 := r8.next hb10
    replace a11 := a11.next hb10
    replace b12 := b12.next hb10
    clear hb10
    have d11 := a11.cell
    go_wp2_with fail
    clear d11
    refine (len_any pa la w10 a11.2).mono ?_
    rintro e w11 ⟨rfl, hw11⟩
    rw [Hla.out]
    have hb11 : Below w10.heap.size w10 w11 := by rw [hw11]; exact below_alloc _ _
    clear hw11
    replace hB := below_trans hB hb11 hB.size
    replace r8 := r8.next hb11
    replace a11 := a11.next hb11
    replace b12 := b12.next hb11
    clear hb11
    have HR : Hid (SpRound w w11 b5 b7 (b7 + 1) p pa pb zs la lb) := ⟨r8, a11, b12, hB⟩
    clear r8 a11 b12 hB
    go_wp2_with fail
    go_loopw [87] (fun u wr => ∃ j : Nat, j ≤ zs.length ∧ u = .int .i64 (j : Int) ∧ Hid (SpRound w wr b5 b7 (b7 + 1) p pa pb zs la lb)) (fun u _ => ((zs.length : Int) - intOf u).toNat)
    case atStart => exact ⟨0, by omega, rfl, HR.out⟩
    case round =>
      obtain ⟨j, hj, rfl, Hr⟩ := hrel
      obtain ⟨r8, a11, b12, hB⟩ := Hr.out
      clear Hr HR
      by_cases hlt : j < zs.length
      · have d8 := r8.cell
        go_wp2_with fail
        clear d8
        refine (at_in p zs j wr hl4 hlt r8.2).mono ?_
        rintro e w12 ⟨rfl, hb12⟩
        replace hB := below_trans hB hb12 hB.size
        replace r8 := r8.next hb12
        replace a11 := a11.next hb12
        replace b12 := b12.next hb12
        clear hb12
        by_cases hjI : j < I
        · have hat := at_in pa la j (w12.alloc (.cells #[.pointer pa] 25)) (by rw [Hla.out]; omega) (by rw [Hla.out]; exact hjI) (tree_alloc a11.2 _)
          rw [Hga.out j hjI] at hat
          have Hat : Hid _ := hat
          clear hat
          generalize zs.getD j 0 = x at *
          have d11 := a11.cell
          have d12 := b12.cell
          go_wp2_with fail
          clear d11 d12
          replace r8 := r8.alloc (.cells #[.pointer pa] 25)
          replace a11 := a11.alloc (.cells #[.pointer pa] 25)
          replace b12 := b12.alloc (.cells #[.pointer pa] 25)
          replace hB := hB.alloc hB.size (.cells #[.pointer pa] 25)
          refine Calls.mono Hat.out ?_
          rintro e w13 ⟨rfl, hb13⟩
          replace hB := below_trans hB hb13 hB.size
          have HR : Hid (SpRound w w13 b5 b7 (b7 + 1) p pa pb zs la lb) := ⟨r8.next hb13, a11.next hb13, b12.next hb13, hB⟩
          clear r8 a11 b12 hB hb13 Hat
          go_wp2_with fail
          go_roundw
          case rel => exact ⟨j + 1, by omega, by go_num, HR.out⟩
          case measure => simp [intOf]; omega
        · have hIj : I ≤ j := by omega
          clear hjI
          have hat := fun w13 hb13 => at_in pb lb (j - I) w13 (by rw [Hlb.out]; omega) (by rw [Hlb.out]; omega) (b12.next hb13).2
          rw [Hgb.out j hIj] at hat
          have Hat : Hid _ := hat
          clear hat
          generalize zs.getD j 0 = x at *
          have d11 := a11.cell
          have d12 := (b12.alloc (.cells #[.pointer pa] 25)).cell
          go_wp2_with fail
          clear d11 d12
          rw [show ((j : Int) - (I : Int)) = ((j - I : Nat) : Int) by omega]
          refine Calls.mono (Hat.out _ (below_alloc _ _)) ?_
          replace r8 := r8.alloc (.cells #[.pointer pb] 25)
          replace a11 := a11.alloc (.cells #[.pointer pb] 25)
          replace b12 := b12.alloc (.cells #[.pointer pb] 25)
          replace hB := hB.alloc hB.size (.cells #[.pointer pb] 25)
          rintro e w13 ⟨rfl, hb13⟩
          replace hB := below_trans hB hb13 hB.size
          have HR : Hid (SpRound w w13 b5 b7 (b7 + 1) p pa pb zs la lb) := ⟨r8.next hb13, a11.next hb13, b12.next hb13, hB⟩
          clear r8 a11 b12 hB hb13 Hat
          go_wp2_with fail
          go_roundw
          case rel => exact ⟨j + 1, by omega, by go_num, HR.out⟩
          case measure => simp [intOf]; omega
      · obtain rfl : j = zs.length := by omega
        go_wp2_with fail
        go_ret
        exact ⟨rfl, hB⟩
  · go_wp2_with fail
    go_ret
    exact ⟨rfl, hB⟩
end Go.Proofs.Ytoopgkgjhbihjaa.Seek
