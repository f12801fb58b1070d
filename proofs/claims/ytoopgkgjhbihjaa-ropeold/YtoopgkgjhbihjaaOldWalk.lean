/- The walk of RopeOld. -/
import Derived.Test.YtoopgkgjhbihjaaVars
set_option linter.unusedVariables false
set_option linter.unusedSimpArgs false
namespace Go.Proofs.Ytoopgkgjhbihjaa.Seek
open Go.RowKit

set_option maxRecDepth 100000 in
set_option maxHeartbeats 1000000 in
theorem old_walk (v vs : Value) (l m : List Int) (f t : Int) (w : World) (hl : Reads w v l) (hm : Reads w vs m) (hlr : l.length * 8 ≤ 140737488351232) (hmr : m.length * 8 ≤ 140737488351232) :
    Calls Try.prog 7 #[v, vs, .int .i64 f, .int .i64 t] w fun e w' => e = .returned (.bool true) ∧ Below w.heap.size w w' := by
  obtain ⟨a1, c1, hv1⟩ := hl.shape
  obtain ⟨a2, c2, hv2⟩ := hm.shape
  subst hv1 hv2
  have Hlm : Hid (l.length ≤ maxLen) := by show l.length ≤ maxLen; unfold maxLen; omega
  have Hmm : Hid (m.length ≤ maxLen) := by show m.length ≤ maxLen; unfold maxLen; omega
  have Hl : Hid (Reads w (.slice a1 l.length c1) l) := hl
  have Hm : Hid (Reads w (.slice a2 m.length c2) m) := hm
  clear hl hm
  go_enter Try.func7, Try.ntmps7
  go_wp2_with fail
  refine (of_one l _ w Hlm.out Hl.out).mono ?_
  rintro e w1 ⟨hB, p, er, zs, rfl, ht, hcase⟩
  have Hcl : Hid ((l.length ≤ 4096 ∧ er = 0 ∧ zs = l) ∨ (4096 < l.length ∧ er = 2 ∧ zs = [])) := hcase
  have r := RV.new ht
  replace hB := hB.alloc hB.size (.cells #[.pointer p] 25)
  clear hcase ht
  go_wp2_with fail
  have hsz := size_alloc w1 (.cells #[.pointer p] 25)
  generalize w1.alloc (.cells #[.pointer p] 25) = W1 at *
  generalize w1.heap.size = b1 at *
  have hr7 : Reads (W1.alloc (.cells #[.int .i64 7] 3)) (.slice (some ⟨b1 + 1, 0, none⟩) 1 1) [7] := by rw [← hsz]; exact reads_new W1 [7] (by decide)
  clear hsz
  refine (roped_any [7] _ _ (by decide) hr7).mono ?_
  rintro e w2 ⟨hb2, p7, rfl, ht7⟩
  rw [show ofList [7] = [7] from rfl] at ht7
  have hb2' := below_trans (below_alloc W1 _) hb2 (by rw [size_alloc]; omega)
  replace hB := below_trans hB hb2' hB.size
  replace r := r.next hb2'
  have x7 := RV.new ht7
  replace r := r.alloc (.cells #[.pointer p7] 25)
  replace hB := hB.alloc hB.size (.cells #[.pointer p7] 25)
  clear hb2 hb2' ht7 hr7
  go_wp2_with fail
  generalize w2.alloc (.cells #[.pointer p7] 25) = W2 at *
  generalize w2.heap.size = b2 at *
  refine (len_any p7 [7] W2 x7.2).mono ?_
  rintro e w3 ⟨rfl, hw3⟩
  have hb3 : Below W2.heap.size W2 w3 := by rw [hw3]; exact below_alloc _ _
  replace hB := below_trans hB hb3 hB.size
  replace r := r.next hb3
  replace x7 := x7.next hb3
  clear hw3 hb3
  have c7 := x7.cell
  go_wp2_with fail
  clear c7
  refine (list_any p7 [7] w3 (by decide) x7.2).mono ?_
  rintro e w4 ⟨hb4, g4, cap4, rfl, _, _, _, ho4⟩
  have hr4 := owned_reads ho4
  replace hB := below_trans hB hb4 hB.size
  replace r := r.next hb4
  clear ho4 hb4 x7
  go_wp2_with fail
  refine (equal_any _ _ [7] [7] _ (hr4.below (below_alloc w4 _)) (reads_new w4 [7] (by decide)) (by decide) (by decide)).mono ?_
  rintro e w5 ⟨rfl, q5, hw5⟩
  rw [beq_self_eq_true]
  have hb5 : Below w4.heap.size w4 w5 := by rw [hw5]; exact below_drewN (below_alloc _ _) q5
  replace hB := below_trans hB hb5 hB.size
  replace r := r.next hb5
  clear hw5 hr4 hb5
  go_wp2_with fail
  refine (of_one m _ w5 Hmm.out (Hm.out.below hB)).mono ?_
  rintro e w6 ⟨hb6, q, er2, ys, rfl, ht6, hcase⟩
  have Hcm : Hid ((m.length ≤ 4096 ∧ er2 = 0 ∧ ys = m) ∨ (4096 < m.length ∧ er2 = 2 ∧ ys = [])) := hcase
  replace hB := below_trans hB hb6 hB.size
  replace r := r.next hb6
  have o := RV.new ht6
  replace r := r.alloc (.cells #[.pointer q] 25)
  replace hB := hB.alloc hB.size (.cells #[.pointer q] 25)
  clear hcase ht6 hb6
  rcases Hcl.out with ⟨hl4, rfl, rfl⟩ | ⟨hl4, rfl, rfl⟩
  · rcases Hcm.out with ⟨hm4, rfl, rfl⟩ | ⟨hm4, rfl, rfl⟩
    · have c9 := r.cell
      have c12 := o.cell
      go_wp2_with fail
      clear c9 c12
      generalize w6.alloc (.cells #[.pointer q] 25) = W6 at *
      generalize w6.heap.size = b6 at *
      refine (put_any p q zs ys f t W6 hl4 hm4 r.2 o.2).mono ?_
      rintro e w7 ⟨hb7, p7, rfl, _⟩
      replace hB := below_trans hB hb7 hB.size
      replace r := r.next hb7
      replace o := o.next hb7
      clear hb7
      have c9 := r.cell
      have c12 := o.cell
      go_wp2_with fail
      clear c9 c12
      refine (join_any p q zs ys w7 hl4 hm4 r.2 o.2).mono ?_
      rintro e w8 ⟨hb8, p8, rfl, _⟩
      replace hB := below_trans hB hb8 hB.size
      replace r := r.next hb8
      replace o := o.next hb8
      clear hb8
      have c9 := r.cell
      go_wp2_with fail
      clear c9
      refine (split_any p zs t w8 hl4 r.2).mono ?_
      rintro e w9 ⟨xa, xb, er9, ⟨hb9, pa, pb, rfl, hta, htb⟩, hcase⟩
      have Hab : Hid (xa.length ≤ 4096 ∧ xb.length ≤ 4096) := by
        rcases hcase with ⟨_, _, rfl, rfl⟩ | ⟨_, _, rfl, rfl⟩
        · exact ⟨by rw [List.length_take]; omega, by rw [List.length_drop]; omega⟩
        · exact ⟨by decide, by decide⟩
      replace hB := below_trans hB hb9 hB.size
      replace r := r.next hb9
      replace o := o.next hb9
      have ra := (RV.new hta).alloc (.cells #[.pointer pb] 25)
      have rb := RV.new (tree_alloc htb (.cells #[.pointer pa] 25))
      rw [size_alloc] at rb
      replace r := (r.alloc (.cells #[.pointer pa] 25)).alloc (.cells #[.pointer pb] 25)
      replace o := (o.alloc (.cells #[.pointer pa] 25)).alloc (.cells #[.pointer pb] 25)
      replace hB := hB.alloc hB.size (.cells #[.pointer pa] 25)
      replace hB := hB.alloc hB.size (.cells #[.pointer pb] 25)
      clear hcase hb9 hta htb
      have ca := ra.cell
      have cb := rb.cell
      go_wp2_with fail
      clear ca cb
      generalize (w9.alloc (.cells #[.pointer pa] 25)).alloc (.cells #[.pointer pb] 25) = W9 at *
      generalize w9.heap.size = b9 at *
      refine (join_any pb pa xb xa W9 Hab.out.2 Hab.out.1 rb.2 ra.2).mono ?_
      rintro e w10 ⟨hb10, p10, rfl, _⟩
      replace hB := below_trans hB hb10 hB.size
      replace r := r.next hb10
      replace o := o.next hb10
      clear hb10 ra rb Hab
      have c9 := r.cell
      go_wp2_with fail
      clear c9
      refine (slice_any p zs f t w10 hl4 r.2).mono ?_
      rintro e w11 ⟨hb11, p11, rfl, ht11⟩
      replace hB := below_trans hB hb11 hB.size
      replace r := r.next hb11
      replace o := o.next hb11
      have s := RV.new ht11
      replace r := r.alloc (.cells #[.pointer p11] 25)
      replace o := o.alloc (.cells #[.pointer p11] 25)
      replace hB := hB.alloc hB.size (.cells #[.pointer p11] 25)
      have Hsl := slList_le f t zs hl4
      generalize slList f t zs = sl at *
      generalize slErr f t zs.length = er11 at *
      clear hb11 ht11
      go_upto_region 13 with fail
      generalize w11.alloc (.cells #[.pointer p11] 25) = W11 at *
      generalize w11.heap.size = b11 at *
      have c17 := s.cell
      have c12 := o.cell
      have l17 := s.lt
      have l12 := o.lt
      have H1 : Hid (∀ w2, Below W11.heap.size W11 w2 → Calls Try.prog 10 #[.agg #[.pointer p11]] w2 fun e w' => e = .returned (.int .i64 (sl.length : Int)) ∧ w' = w2.alloc (.cells #[.pointer p11] 25)) := fun w2 hb2 => len_any p11 sl w2 (s.next hb2).2
      have H2 : Hid (∀ w2, Below W11.heap.size W11 w2 → Calls Try.prog 18 #[.agg #[.pointer p11], .int .i64 0, .int .i64 (sl.length : Int), .agg #[.pointer q]] w2 fun e w' => RopeErr (putList 0 sl.length sl ys) (putErr 0 sl.length sl.length ys.length) w2 e w') := fun w2 hb2 => put_any p11 q sl ys 0 sl.length w2 Hsl hm4 (s.next hb2).2 (o.next hb2).2
      go_region_held3 (fun w' => w'.cell? ⟨b11, 0, none⟩ = some (.pointer p11) ∧ w'.cell? ⟨b6, 0, none⟩ = some (.pointer q)) (first | exact ⟨c17, c12⟩ | exact ⟨hd0, hd1⟩ | exact ⟨he0, he1⟩)
        (first
          | (go_at_call 10; refine (H1.out _ ?_).mono ?_; (exact (Below.refl _ _).drew); rintro e w12 ⟨rfl, hw2⟩; have hb2 : Below W11.heap.size W11 w12 := (by rw [hw2]; exact ((Below.refl _ _).drew).alloc (Nat.le_refl _) _); clear hw2; have hd0 : w12.cell? ⟨b11, 0, none⟩ = some (.pointer p11) := (hb2.cell (by exact l17)).trans c17; have hd1 : w12.cell? ⟨b6, 0, none⟩ = some (.pointer q) := (hb2.cell (by exact l12)).trans c12)
          | (go_at_call 18; refine (H2.out _ ?_).mono ?_; (exact hb2); rintro e w13 ⟨hb3, p13, rfl, ht13⟩; have hb4 : Below W11.heap.size W11 w13 := below_trans hb2 hb3 hb2.size; have he0 : w13.cell? ⟨b11, 0, none⟩ = some (.pointer p11) := (hb4.cell (by exact l17)).trans c17; have he1 : w13.cell? ⟨b6, 0, none⟩ = some (.pointer q) := (hb4.cell (by exact l12)).trans c12))
      replace hB := below_trans hB hb4 hB.size
      replace r := r.next hb4
      replace o := o.next hb4
      clear c17 c12 l17 l12 H1 H2 hd0 hd1 he0 he1 hb2 hb3 hb4 ht13 s
      have c9 := r.cell
      go_simp
      go_wp2_with fail
      clear c9
      refine (list_any p zs w13 hl4 r.2).mono ?_
      rintro e w14 ⟨hb14, g14, cap14, rfl, _, _, _, ho14⟩
      have hr14 := owned_reads ho14
      replace hB := below_trans hB hb14 hB.size
      replace r := r.next hb14
      replace o := o.next hb14
      clear ho14 hb14
      go_wp2_with fail
      refine (equal_any _ _ zs zs _ hr14 (Hl.out.below hB) Hlm.out Hlm.out).mono ?_
      rintro e w15 ⟨rfl, q15, hw15⟩
      rw [beq_self_eq_true]
      have hb15 : Below w14.heap.size w14 w15 := by rw [hw15]; exact below_draws _ q15
      replace hB := below_trans hB hb15 hB.size
      replace o := o.next hb15
      clear hw15 hr14 hb15 r
      have c12 := o.cell
      go_wp2_with fail
      clear c12
      refine (list_any q ys w15 hm4 o.2).mono ?_
      rintro e w16 ⟨hb16, g16, cap16, rfl, _, _, _, ho16⟩
      have hr16 := owned_reads ho16
      replace hB := below_trans hB hb16 hB.size
      clear ho16 hb16 o
      go_wp2_with fail
      refine (equal_any _ _ ys ys _ hr16 (Hm.out.below hB) Hmm.out Hmm.out).mono ?_
      rintro e w17 ⟨rfl, q17, hw17⟩
      rw [beq_self_eq_true]
      have hb17 : Below w16.heap.size w16 w17 := by rw [hw17]; exact below_draws _ q17
      replace hB := below_trans hB hb17 hB.size
      clear hw17 hr16 hb17
      go_wp2_with fail
      go_ret
      exact ⟨rfl, hB⟩
    · go_wp2_with fail
      go_ret
      exact ⟨rfl, hB⟩
  · go_wp2_with fail
    go_ret
    exact ⟨rfl, hB⟩
end Go.Proofs.Ytoopgkgjhbihjaa.Seek
