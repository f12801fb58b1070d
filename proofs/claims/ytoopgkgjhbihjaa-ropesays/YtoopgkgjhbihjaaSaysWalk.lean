/- The walk of RopeSays. -/
import Derived.Test.YtoopgkgjhbihjaaJoinsWalk
import Derived.Deep.Cut
import Derived.Deep.CutRange
import Derived.Deep.DeepCutAuto
set_option linter.unusedVariables false
set_option linter.unusedSimpArgs false
namespace Go.Proofs.Ytoopgkgjhbihjaa.Seek
open Go.RowKit

/-- What At answers, in one form. -/
def atC (k : Int) (zs : List Int) : Int := if inB k zs.length then zs.getD k.toNat 0 else 0
def atE (k : Int) (n : Nat) : Int := if inB k n then 0 else 1
theorem at_any (p : Option Addr) (zs : List Int) (k : Int) (w : World) (hm : zs.length ≤ 4096) (h : Tree w w.heap.size p zs) :
    Calls Try.prog 13 #[.agg #[.pointer p], .int .i64 k] w fun e w' => e = .returned (.tuple #[.int .i64 (atC k zs), .int .i64 (atE k zs.length)]) ∧ Below w.heap.size w w' := by
  unfold atC atE
  by_cases hk : inB k zs.length = true
  · rw [if_pos hk, if_pos hk]
    unfold inB at hk
    simp at hk
    obtain ⟨k, rfl⟩ : ∃ n : Nat, k = n := ⟨k.toNat, by omega⟩
    rw [Int.toNat_natCast]
    exact at_in p zs k w hm (by omega) h
  · rw [if_neg hk, if_neg hk]
    unfold inB at hk
    simp at hk
    exact at_out p zs k w (by omega) h

/-- What lies there all the while. -/
def Says (w wx : World) (b9 b11 : Nat) (p q : Option Addr) (l m : List Int) : Prop := RV wx b9 p l ∧ RV wx b11 q m ∧ Below w.heap.size w wx
theorem Says.next {w wx wy : World} {b9 b11 : Nat} {p q : Option Addr} {l m : List Int} (h : Says w wx b9 b11 p q l m) (hb : Below wx.heap.size wx wy) : Says w wy b9 b11 p q l m := ⟨h.1.next hb, h.2.1.next hb, below_trans h.2.2 hb h.2.2.size⟩
theorem reads_front {w : World} {a : Option Addr} {n c : Nat} {zs : List Int} (h : Reads w (.slice a n c) zs) (k : Nat) (hk : k ≤ zs.length) : k ≤ c ∧ Reads w (.slice a k c) (zs.take k) := by
  rcases h with ⟨a', c', hv, rfl⟩ | ⟨b, off, cap, hv, hcap, hm, hb, hc⟩
  · cases hv
    have h0 : k = 0 := by simpa using hk
    subst h0
    exact ⟨Nat.zero_le _, .inl ⟨a, c, rfl, rfl⟩⟩
  · cases hv
    refine ⟨by omega, ?_⟩
    have := reads_part hc hb 0 k c (by omega) (by omega) hm
    rw [List.drop_zero, Nat.add_zero] at this
    exact this
theorem concat3_at (g0 : Nat) (v1 v2 v3 : Value) (x1 x2 x3 : List Int) (w : World) (hg : g0 < w.heap.size) (c0 : w.cell? ⟨g0, 0, none⟩ = some v1) (c1 : w.cell? ⟨g0, 1, none⟩ = some v2) (c2 : w.cell? ⟨g0, 2, none⟩ = some v3) (h1 : Reads w v1 x1) (h2 : Reads w v2 x2) (h3 : Reads w v3 x3) (hb : (x1 ++ x2 ++ x3).length * 8 ≤ 281474976710656) :
    Calls Try.prog 16 #[.slice (some ⟨g0, 0, none⟩) 3 3] w fun e w' => ConcatPost (x1 ++ x2 ++ x3) w e w' := by
  have hj : joined (fun j => match j with | 0 => x1 | 1 => x2 | _ => x3) 3 = x1 ++ x2 ++ x3 := by simp [joined]
  have := concat_any g0 3 3 (fun j => match j with | 0 => v1 | 1 => v2 | _ => v3) (fun j => match j with | 0 => x1 | 1 => x2 | _ => x3) w (by decide) hg
    (fun j hj => by
      match j, hj with
      | 0, _ => exact c0
      | 1, _ => exact c1
      | 2, _ => exact c2)
    (fun j hj => by
      match j, hj with
      | 0, _ => exact h1
      | 1, _ => exact h2
      | 2, _ => exact h3) (by rw [hj]; exact hb)
  rw [hj] at this
  exact this
theorem lit_cells {w X wA : World} {v1 v2 v3 : Value} (h : X.heap = w.heap.push (.cells #[v1, v2, v3] 22)) (hb : Below X.heap.size X wA) :
    w.heap.size < wA.heap.size ∧ wA.cell? ⟨w.heap.size, 0, none⟩ = some v1 ∧ wA.cell? ⟨w.heap.size, 1, none⟩ = some v2 ∧ wA.cell? ⟨w.heap.size, 2, none⟩ = some v3 := by
  have hs : w.heap.size < X.heap.size := by rw [h]; simp
  have hx : X.heap[w.heap.size]? = some (.cells #[v1, v2, v3] 22) := by rw [h]; simp
  have hc : ∀ j, X.cell? ⟨w.heap.size, j, none⟩ = #[v1, v2, v3][j]? := fun j => by
    unfold World.cell?
    simp only
    rw [hx]
    rfl
  exact ⟨Nat.lt_of_lt_of_le hs hb.size, (hb.cell (by exact hs)).trans (hc 0), (hb.cell (by exact hs)).trans (hc 1), (hb.cell (by exact hs)).trans (hc 2)⟩
/-- A part of a slice, wherever it begins. -/
theorem reads_mid {w : World} {b o cap : Nat} {zs : List Int} (hcap : zs.length ≤ cap) (hcm : cap ≤ maxLen) (hb : b < w.heap.size) (hc : ∀ j, j < zs.length → w.cell? ⟨b, o + j, none⟩ = some (.int .i64 (zs.getD j 0))) (f t : Nat) (hf : f ≤ t) (ht : t ≤ zs.length) :
    ∃ ar : Addr, (if cap = f then some (⟨b, o, none⟩ : Addr) else some ⟨b, o + f, none⟩) = some ar ∧ Reads w (.slice (some ar) (t - f) (cap - f)) ((zs.drop f).take (t - f)) := by
  by_cases hce : cap = f
  · rw [if_pos hce]
    refine ⟨_, rfl, .inl ⟨some ⟨b, o, none⟩, cap - f, ?_, ?_⟩⟩
    · rw [show t - f = 0 by omega]
    · rw [show t - f = 0 by omega, List.take_zero]
  · rw [if_neg hce]
    exact ⟨_, rfl, reads_part hc hb f (t - f) (cap - f) (by omega) (by omega) (by omega)⟩
set_option maxRecDepth 100000 in
set_option maxHeartbeats 20000000 in
theorem says_walk (v vs : Value) (l m : List Int) (f t : Int) (w : World) (hl : Reads w v l) (hm : Reads w vs m) (hlr : l.length * 8 ≤ 140737488351232) (hmr : m.length * 8 ≤ 140737488351232) :
    Calls Try.prog 3 #[v, vs, .int .i64 f, .int .i64 t] w fun e w' => e = .returned (.bool true) ∧ Below w.heap.size w w' := by
  obtain ⟨a1, c1, hv1⟩ := hl.shape
  obtain ⟨a2, c2, hv2⟩ := hm.shape
  subst hv1 hv2
  have Hlm : Hid (l.length ≤ maxLen) := by show l.length ≤ maxLen; unfold maxLen; omega
  have Hmm : Hid (m.length ≤ maxLen) := by show m.length ≤ maxLen; unfold maxLen; omega
  have Hl : Hid (Reads w (.slice a1 l.length c1) l) := hl
  have Hm : Hid (Reads w (.slice a2 m.length c2) m) := hm
  clear hl hm
  go_enter Try.func3, Try.ntmps3
  go_wp2_with fail
  refine (of_one l _ w Hlm.out Hl.out).mono ?_
  rintro e w1 ⟨hB, p, er, zs, rfl, ht, hcase⟩
  have Hcl : Hid ((l.length ≤ 4096 ∧ er = 0 ∧ zs = l) ∨ (4096 < l.length ∧ er = 2 ∧ zs = [])) := hcase
  have r := RV.new ht
  replace hB := hB.alloc hB.size (.cells #[.pointer p] 25)
  clear hcase ht
  go_wp2_with fail
  generalize w1.alloc (.cells #[.pointer p] 25) = W1 at *
  generalize w1.heap.size = b9 at *
  refine (of_one m _ W1 Hmm.out (Hm.out.below hB)).mono ?_
  rintro e w2 ⟨hb2, q, er2, ys, rfl, ht2, hcase⟩
  have Hcm : Hid ((m.length ≤ 4096 ∧ er2 = 0 ∧ ys = m) ∨ (4096 < m.length ∧ er2 = 2 ∧ ys = [])) := hcase
  clear hcase
  replace hB := below_trans hB hb2 hB.size
  replace r := r.next hb2
  clear hb2
  have o := RV.new ht2
  replace r := r.alloc (.cells #[.pointer q] 25)
  replace hB := hB.alloc hB.size (.cells #[.pointer q] 25)
  clear ht2
  rcases Hcl.out with ⟨hl4, rfl, rfl⟩ | ⟨hl4, rfl, rfl⟩
  · rcases Hcm.out with ⟨hm4, rfl, rfl⟩ | ⟨hm4, rfl, rfl⟩
    · clear Hcl Hcm
      have d9 := r.cell
      go_wp2_with fail
      clear d9
      generalize w2.alloc (.cells #[.pointer q] 25) = W2 at *
      generalize w2.heap.size = b11 at *
      refine (len_any p zs W2 r.2).mono ?_
      rintro e w3 ⟨rfl, hw3⟩
      have hb3 : Below W2.heap.size W2 w3 := by rw [hw3]; exact below_alloc _ _
      clear hw3
      replace hB := below_trans hB hb3 hB.size
      replace r := r.next hb3
      replace o := o.next hb3
      clear hb3
      have d9 := r.cell
      go_wp2_with fail
      clear d9
      refine (list_any p zs w3 hl4 r.2).mono ?_
      rintro e w4 ⟨hb4, g4, cap4, rfl, _, _, _, ho4⟩
      have hr4 := owned_reads ho4
      clear ho4
      replace hB := below_trans hB hb4 hB.size
      replace r := r.next hb4
      replace o := o.next hb4
      clear hb4
      go_wp2_with fail
      refine (equal_same _ _ zs w4 hr4 (Hl.out.below hB) Hlm.out).mono ?_
      rintro e w5 ⟨rfl, q5, hw5⟩
      have hb5 : Below w4.heap.size w4 w5 := by rw [hw5]; exact below_draws _ q5
      clear hw5 hr4
      replace hB := below_trans hB hb5 hB.size
      replace r := r.next hb5
      replace o := o.next hb5
      clear hb5
      have d9 := r.cell
      go_wp2_with fail
      clear d9
      refine (at_any p zs f w5 hl4 r.2).mono ?_
      rintro e w6 ⟨rfl, hb6⟩
      replace hB := below_trans hB hb6 hB.size
      replace r := r.next hb6
      replace o := o.next hb6
      clear hb6
      have HS : Hid (Says w w6 b9 b11 p q zs ys) := ⟨r, o, hB⟩
      clear r o hB
      go_upto_region 8 with fail
      go_cut [14] from 80 to 87 (fun s14 wx => s14 = .bool (inB f zs.length) ∧ wx = w6)
      case first =>
        by_cases h0 : 0 ≤ f
        · by_cases h1 : f < (zs.length : Int)
          · have Hr : Hid (inB f zs.length = true) := by show _ = _; unfold inB; simp [h0, h1]
            go_wp2_with fail
            go_meet
            exact ⟨by rw [Hr.out], rfl⟩
          · have Hr : Hid (inB f zs.length = false) := by show _ = _; unfold inB; simp [h1]
            go_wp2_with fail
            go_meet
            exact ⟨by rw [Hr.out], rfl⟩
        · have Hr : Hid (inB f zs.length = false) := by show _ = _; unfold inB; simp [h0]
          go_wp2_with fail
          go_meet
          exact ⟨by rw [Hr.out], rfl⟩
      case rest =>
      obtain ⟨rfl, hwc⟩ := hcut
      replace hwc := hwc.symm
      subst hwc
      go_upto_region 9 with fail
      go_cut [10, 13, 14, 114] from 74 to 114 (fun _ _ _ s114 wx => s114 = .bool false ∧ Hid (Says w wx b9 b11 p q zs ys))
      case first =>
        obtain ⟨r, o, hB⟩ := HS.out
        by_cases hin : inB f zs.length = true
        · have hin2 := hin
          unfold inB at hin2
          simp at hin2
          obtain ⟨k, rfl⟩ : ∃ n : Nat, f = n := ⟨f.toNat, by omega⟩
          have hk : k < zs.length := by omega
          rw [show atC (k : Int) zs = zs.getD k 0 from by unfold atC; rw [if_pos hin, Int.toNat_natCast], show atE (k : Int) zs.length = 0 from if_pos hin, hin]
          clear hin hin2
          rcases Hl.out with ⟨_, _, _, rfl⟩ | ⟨bl, ol, cl, hel, hcl, hcm, hbl, hcc⟩
          · exact absurd hk (by simp)
          have hcx : w6.cell? ⟨bl, ol + k, none⟩ = some (.int .i64 (zs.getD k 0)) := (hB.cell (by exact hbl)).trans (hcc k hk)
          simp only [Value.slice.injEq] at hel
          obtain ⟨rfl, _, rfl⟩ := hel
          clear hcc r o hB
          have hk2 : (k : Int) < (zs.length : Int) := by omega
          generalize zs.getD k 0 = x at *
          go_wp2_with fail
          go_meet
          exact ⟨rfl, HS.out⟩
        · have hin2 := hin
          unfold inB at hin2
          simp at hin2
          rw [show atC f zs = 0 from if_neg hin, show atE f zs.length = 1 from if_neg hin, show inB f zs.length = false from by simpa using hin]
          clear hin r o hB
          by_cases h0 : 0 ≤ f
          · have h1 : (zs.length : Int) ≤ f := hin2 h0
            clear hin2
            go_wp2_with fail
            go_meet
            exact ⟨rfl, HS.out⟩
          · clear hin2
            go_wp2_with fail
            go_meet
            exact ⟨rfl, HS.out⟩
      case rest =>
        obtain ⟨rfl, Hcut⟩ := hcut
        obtain ⟨r, o, hB⟩ := Hcut.out
        clear Hcut HS
        have d9 := r.cell
        go_wp2_with fail
        clear d9
        refine (split_any p zs f wc hl4 r.2).mono ?_
        rintro e w7 ⟨xa, xb, er7, ⟨hb7, pa, pb, rfl, hta, htb⟩, hcase⟩
        replace hB := below_trans hB hb7 hB.size
        replace r := r.next hb7
        replace o := o.next hb7
        clear hb7
        have ra := (RV.new hta).alloc (.cells #[.pointer pb] 25)
        have rb := RV.new (tree_alloc htb (.cells #[.pointer pa] 25))
        rw [size_alloc] at rb
        replace r := (r.alloc (.cells #[.pointer pa] 25)).alloc (.cells #[.pointer pb] 25)
        replace o := (o.alloc (.cells #[.pointer pa] 25)).alloc (.cells #[.pointer pb] 25)
        replace hB := hB.alloc hB.size (.cells #[.pointer pa] 25)
        replace hB := hB.alloc hB.size (.cells #[.pointer pb] 25)
        clear hta htb
        have Hcase : Hid _ := hcase
        clear hcase
        have HS : Hid (Says w ((w7.alloc (.cells #[.pointer pa] 25)).alloc (.cells #[.pointer pb] 25)) b9 b11 p q zs ys) := ⟨r, o, hB⟩
        clear r o hB
        go_upto_region 12 with fail
        generalize (w7.alloc (.cells #[.pointer pa] 25)).alloc (.cells #[.pointer pb] 25) = W7 at *
        generalize w7.heap.size = b7 at *
        obtain ⟨wo, hwo⟩ : ∃ wo, wo = wc := ⟨_, rfl⟩
        subst hwo
        go_cut [17] from 122 to 129 (fun s17 wx => s17 = .bool (spOk f zs.length) ∧ wx = W7)
        case first =>
          by_cases h0 : 0 ≤ f
          · by_cases h1 : f ≤ (zs.length : Int)
            · have Hr : Hid (spOk f zs.length = true) := by show _ = _; unfold spOk; simp [h0, h1]
              go_wp2_with fail
              go_meet
              exact ⟨by rw [Hr.out], rfl⟩
            · have Hr : Hid (spOk f zs.length = false) := by show _ = _; unfold spOk; simp [h1]
              go_wp2_with fail
              go_meet
              exact ⟨by rw [Hr.out], rfl⟩
          · have Hr : Hid (spOk f zs.length = false) := by show _ = _; unfold spOk; simp [h0]
            go_wp2_with fail
            go_meet
            exact ⟨by rw [Hr.out], rfl⟩
        case rest =>
        obtain ⟨rfl, hwc⟩ := hcut
        replace hwc := hwc.symm
        subst hwc
        go_upto_if 131 with fail
        go_cut [10, 17, 130, 131] from 132 to 163 (fun _ _ _ _ wx => Hid (Says w wx b9 b11 p q zs ys))
        case first =>
          rcases Hcase.out with ⟨hk, rfl, rfl, rfl⟩ | ⟨hk, rfl, rfl, rfl⟩
          · rw [hk]
            unfold spOk at hk
            simp at hk
            obtain ⟨k, rfl⟩ : ∃ n : Nat, f = n := ⟨f.toNat, by omega⟩
            have hkl : k ≤ zs.length := by omega
            clear hk Hcase
            rw [Int.toNat_natCast] at ra rb
            go_upto_region 16 with fail
            have hla : (zs.take k).length ≤ 4096 := by rw [List.length_take]; omega
            have hlb : (zs.drop k).length ≤ 4096 := by rw [List.length_drop]; omega
            have hS : W7.cell? ⟨b7, 0, none⟩ = some (.pointer pa) ∧ W7.cell? ⟨b7 + 1, 0, none⟩ = some (.pointer pb) := ⟨ra.cell, rb.cell⟩
            have m1 := ra.lt
            have m2 := rb.lt
            have HLa : Hid (∀ w2, Below W7.heap.size W7 w2 → Calls Try.prog 12 #[.agg #[.pointer pa]] w2 fun e w' => ListPost (zs.take k) w2 e w') := fun w2 hb2 => list_any pa _ w2 hla (ra.next hb2).2
            have HLb : Hid (∀ w2, Below W7.heap.size W7 w2 → Calls Try.prog 12 #[.agg #[.pointer pb]] w2 fun e w' => ListPost (zs.drop k) w2 e w') := fun w2 hb2 => list_any pb _ w2 hlb (rb.next hb2).2
            have Hma : Hid ((zs.take k).length ≤ maxLen) := by show _ ≤ maxLen; unfold maxLen; omega
            have Hmb : Hid ((zs.drop k).length ≤ maxLen) := by show _ ≤ maxLen; unfold maxLen; omega
            obtain ⟨hkc, hfr⟩ := reads_front (Hl.out.below HS.out.2.2) k hkl
            have Hfr : Hid (Reads W7 (.slice a1 k c1) (zs.take k)) := hfr
            clear ra rb hla hlb hfr
            have hk0 : (0 : Int) ≤ (k : Int) := by omega
            have hk1 : (k : Int) ≤ (zs.length : Int) := by omega
            have hk2 : (k : Int) ≤ (c1 : Int) := by omega
            rcases Hl.out.below HS.out.2.2 with ⟨ax, cx, hvx, rfl⟩ | ⟨bl, ol, cl, hel, hcl, hcm, hbl, hcc⟩
            · have h0 : k = 0 := by simpa using hkl
              subst h0
              have Hla0 : Hid (([] : List Int).take 0 = []) := rfl
              have Hlb0 : Hid (([] : List Int).drop 0 = []) := rfl
              generalize hta : ([] : List Int).take 0 = la at *
              generalize htb : ([] : List Int).drop 0 = lb at *
              clear hta htb hvx
              cases a1 with
              | none =>
                go_region_held3 (fun w' => w'.cell? ⟨b7, 0, none⟩ = some (.pointer pa) ∧ w'.cell? ⟨b7 + 1, 0, none⟩ = some (.pointer pb)) (first | exact hS | exact hSA | exact hSB | exact hSC | exact hSD)
                  (first
                    | (go_at_call_of 12 (pa); refine (HLa.out _ ?_).mono ?_; (exact (Below.refl _ _).drew); rintro e wA ⟨hbA', gA, capA, rfl, _, _, _, hoA⟩; have hbA : Below W7.heap.size W7 wA := below_trans ((Below.refl _ _).drew) hbA' (by exact Nat.le_refl _); have hrA := owned_reads hoA; clear hoA; have hSA := keep2 hbA m1 m2 hS)
                    | (go_at_call_of 11 (gA); refine (equal_same _ _ la wA hrA (by rw [Hla0.out]; exact .inl ⟨_, _, rfl, rfl⟩) Hma.out).mono ?_; rintro e wB ⟨rfl, qB, hwB⟩; have hbB : Below W7.heap.size W7 wB := (by rw [hwB]; exact below_drewN hbA qB); clear hwB; have hSB := keep2 hbB m1 m2 hS)
                    | (go_at_call_of 12 (pb); refine (HLb.out _ ?_).mono ?_; (exact hbB); rintro e wC ⟨hbC', gC, capC, rfl, _, _, _, hoC⟩; have hbC := below_trans hbB hbC' hbB.size; have hrC := owned_reads hoC; clear hoC; have hSC := keep2 hbC m1 m2 hS)
                    | (go_at_call_of 11 (gC); refine (equal_same _ _ lb wC hrC (by rw [Hlb0.out]; exact .inl ⟨_, _, rfl, rfl⟩) Hmb.out).mono ?_; rintro e wD ⟨rfl, qD, hwD⟩; have hbD : Below W7.heap.size W7 wD := (by rw [hwD]; exact below_drewN hbC qD); clear hwD; have hSD := keep2 hbD m1 m2 hS))
                have HS9 : Hid (Says w wD b9 b11 p q [] ys) := HS.out.next hbD
                clear HS hS hSA hSB hSC hSD HLa HLb hbA hbB hbC hbD hrA hrC hbA' hbC'
                go_simp
                go_wp2_with fail
                go_meet
                exact HS9.out
              | some ad =>
                go_region_held3 (fun w' => w'.cell? ⟨b7, 0, none⟩ = some (.pointer pa) ∧ w'.cell? ⟨b7 + 1, 0, none⟩ = some (.pointer pb)) (first | exact hS | exact hSA | exact hSB | exact hSC | exact hSD)
                  (first
                    | (go_at_call_of 12 (pa); refine (HLa.out _ ?_).mono ?_; (exact (Below.refl _ _).drew); rintro e wA ⟨hbA', gA, capA, rfl, _, _, _, hoA⟩; have hbA : Below W7.heap.size W7 wA := below_trans ((Below.refl _ _).drew) hbA' (by exact Nat.le_refl _); have hrA := owned_reads hoA; clear hoA; have hSA := keep2 hbA m1 m2 hS)
                    | (go_at_call_of 11 (gA); refine (equal_same _ _ la wA hrA (by rw [Hla0.out]; exact .inl ⟨_, _, rfl, rfl⟩) Hma.out).mono ?_; rintro e wB ⟨rfl, qB, hwB⟩; have hbB : Below W7.heap.size W7 wB := (by rw [hwB]; exact below_drewN hbA qB); clear hwB; have hSB := keep2 hbB m1 m2 hS)
                    | (go_at_call_of 12 (pb); refine (HLb.out _ ?_).mono ?_; (exact hbB); rintro e wC ⟨hbC', gC, capC, rfl, _, _, _, hoC⟩; have hbC := below_trans hbB hbC' hbB.size; have hrC := owned_reads hoC; clear hoC; have hSC := keep2 hbC m1 m2 hS)
                    | (go_at_call_of 11 (gC); refine (equal_same _ _ lb wC hrC (by rw [Hlb0.out]; exact .inl ⟨_, _, rfl, rfl⟩) Hmb.out).mono ?_; rintro e wD ⟨rfl, qD, hwD⟩; have hbD : Below W7.heap.size W7 wD := (by rw [hwD]; exact below_drewN hbC qD); clear hwD; have hSD := keep2 hbD m1 m2 hS))
                have HS9 : Hid (Says w wD b9 b11 p q [] ys) := HS.out.next hbD
                clear HS hS hSA hSB hSC hSD HLa HLb hbA hbB hbC hbD hrA hrC hbA' hbC'
                go_simp
                go_wp2_with fail
                go_meet
                exact HS9.out
            · simp only [Value.slice.injEq] at hel
              obtain ⟨rfl, _, rfl⟩ := hel
              obtain ⟨ar, har, hbk⟩ := reads_mid hcl hcm hbl hcc k zs.length hkl (Nat.le_refl _)
              rw [List.take_of_length_le (by rw [List.length_drop]; omega)] at hbk
              have Hbk : Hid (Reads W7 (.slice (some ar) (zs.length - k) (c1 - k)) (zs.drop k)) := hbk
              have hk3 : (zs.length : Int) ≤ (c1 : Int) := by omega
              clear hbk hcc
              generalize hta : zs.take k = la at *
              generalize htb : zs.drop k = lb at *
              clear hta htb
              go_region_held3 (fun w' => w'.cell? ⟨b7, 0, none⟩ = some (.pointer pa) ∧ w'.cell? ⟨b7 + 1, 0, none⟩ = some (.pointer pb)) (first | exact hS | exact hSA | exact hSB | exact hSC | exact hSD)
                (first
                  | (go_at_call_of 12 (pa); refine (HLa.out _ ?_).mono ?_; (exact (Below.refl _ _).drew); rintro e wA ⟨hbA', gA, capA, rfl, _, _, _, hoA⟩; have hbA : Below W7.heap.size W7 wA := below_trans ((Below.refl _ _).drew) hbA' (by exact Nat.le_refl _); have hrA := owned_reads hoA; clear hoA; have hSA := keep2 hbA m1 m2 hS)
                  | (go_at_call_of 11 (gA); refine (equal_same _ _ la wA hrA (Hfr.out.below hbA) Hma.out).mono ?_; rintro e wB ⟨rfl, qB, hwB⟩; have hbB : Below W7.heap.size W7 wB := (by rw [hwB]; exact below_drewN hbA qB); clear hwB; have hSB := keep2 hbB m1 m2 hS)
                  | (go_at_call_of 12 (pb); refine (HLb.out _ ?_).mono ?_; (exact hbB); rintro e wC ⟨hbC', gC, capC, rfl, _, _, _, hoC⟩; have hbC := below_trans hbB hbC' hbB.size; have hrC := owned_reads hoC; clear hoC; have hSC := keep2 hbC m1 m2 hS)
                  | (go_at_call_of 11 (gC); refine (equal_same _ _ lb wC hrC (Hbk.out.below hbC) Hmb.out).mono ?_; rintro e wD ⟨rfl, qD, hwD⟩; have hbD : Below W7.heap.size W7 wD := (by rw [hwD]; exact below_drewN hbC qD); clear hwD; have hSD := keep2 hbD m1 m2 hS))
              have HS9 : Hid (Says w wD b9 b11 p q zs ys) := HS.out.next hbD
              clear HS hS hSA hSB hSC hSD HLa HLb hbA hbB hbC hbD hrA hrC hbA' hbC'
              go_simp
              go_wp2_with fail
              go_meet
              exact HS9.out
          · rw [hk]
            clear Hcase hk
            have d15 := ra.cell
            go_wp2_with fail
            clear d15
            refine (len_any pa [] W7 ra.2).mono ?_
            rintro e w8 ⟨rfl, hw8⟩
            have hb8 : Below W7.heap.size W7 w8 := by rw [hw8]; exact below_alloc _ _
            clear hw8
            replace rb := rb.next hb8
            have d16 := rb.cell
            go_wp2_with fail
            clear d16
            refine (len_any pb [] w8 rb.2).mono ?_
            rintro e w9 ⟨rfl, hw9⟩
            have hb9 : Below W7.heap.size W7 w9 := by rw [hw9]; exact hb8.alloc hb8.size _
            clear hw9
            have HS9 : Hid (Says w w9 b9 b11 p q zs ys) := HS.out.next hb9
            clear HS hb8 hb9 ra rb
            go_wp2_with fail
            go_meet
            exact HS9.out
        case rest =>
          obtain ⟨r, o, hB⟩ := hcut.out
          clear hcut HS Hcase ra rb
          obtain ⟨wp, hwp⟩ : ∃ wp, wp = wc := ⟨_, rfl⟩
          subst hwp
          have d9 := r.cell
          have d11 := o.cell
          go_wp2_with fail
          clear d9 d11
          refine (join_any p q zs ys wp hl4 hm4 r.2 o.2).mono ?_
          rintro e w8 ⟨hb8, pj, rfl, htj⟩
          replace hB := below_trans hB hb8 hB.size
          replace r := r.next hb8
          replace o := o.next hb8
          clear hb8
          have rj := RV.new htj
          replace r := r.alloc (.cells #[.pointer pj] 25)
          replace o := o.alloc (.cells #[.pointer pj] 25)
          replace hB := hB.alloc hB.size (.cells #[.pointer pj] 25)
          clear htj
          have HS : Hid (Says w (w8.alloc (.cells #[.pointer pj] 25)) b9 b11 p q zs ys) := ⟨r, o, hB⟩
          clear r o hB
          go_upto_region 20 with fail
          generalize w8.alloc (.cells #[.pointer pj] 25) = W8 at *
          generalize w8.heap.size = b8 at *
          go_cut [10, 19, 193] from 164 to 193 (fun _ _ s193 wx => s193 = .bool false ∧ Hid (Says w wx b9 b11 p q zs ys))
          case first =>
            by_cases hjl : zs.length + ys.length ≤ 4096
            · rw [show joinErr zs.length ys.length = 0 from if_pos hjl]
              rw [show joinList zs ys = zs ++ ys from if_pos hjl] at rj
              have hjd : decide (4096 < (zs.length : Int) + (ys.length : Int)) = false := decide_eq_false (by omega)
              have d18 := rj.cell
              have hjm : (zs ++ ys).length ≤ 4096 := by rw [List.length_append]; exact hjl
              generalize hL : zs ++ ys = L at *
              have HL : Hid (zs ++ ys = L) := hL
              have Hjm : Hid (L.length ≤ maxLen) := by show _ ≤ maxLen; unfold maxLen; omega
              have Hj8 : Hid (L.length * 8 ≤ 281474976710656) := by show _ ≤ _; omega
              clear hL
              go_wp2_with fail
              clear d18
              refine (list_any pj L W8 hjm rj.2).mono ?_
              rintro e w9 ⟨hbA, gA, capA, rfl, _, _, _, hoA⟩
              have HrA : Hid (Reads w9 (.slice (some ⟨gA, 0, none⟩) L.length capA) L) := owned_reads hoA
              have HS9 : Hid (Says w w9 b9 b11 p q zs ys) := HS.out.next hbA
              clear hoA hbA HS rj hjm
              go_wp2_with fail
              refine (concat2 _ _ zs ys w9 (Hl.out.below HS9.out.2.2) (Hm.out.below HS9.out.2.2) (by rw [HL.out]; exact Hj8.out)).mono ?_
              rintro e w10 ⟨hbC', vC, rfl, hoC⟩
              rw [HL.out] at hoC
              have hbC : Below w9.heap.size w9 w10 := below_trans (below_alloc _ _) hbC' (by rw [size_alloc]; omega)
              have hrC := hoC.reads
              obtain ⟨aC, cC, hvC⟩ := hrC.shape
              subst hvC
              have HrC : Hid (Reads w10 (.slice aC L.length cC) L) := hrC
              have HrB : Hid (Reads w10 (.slice (some ⟨gA, 0, none⟩) L.length capA) L) := HrA.out.below hbC
              have HS10 : Hid (Says w w10 b9 b11 p q zs ys) := HS9.out.next hbC
              clear hbC hbC' hrC hoC HS9 HrA HL
              go_wp2_with fail
              refine (equal_same _ _ L w10 HrB.out HrC.out Hjm.out).mono ?_
              rintro e w12 ⟨rfl, q12, hw12⟩
              have hb12 : Below w10.heap.size w10 w12 := by rw [hw12]; exact below_draws _ q12
              have HS12 : Hid (Says w w12 b9 b11 p q zs ys) := HS10.out.next hb12
              clear hw12 hb12 HrB HrC HS10
              go_wp2_with fail
              go_meet
              exact ⟨rfl, HS12.out⟩
            · rw [show joinErr zs.length ys.length = 2 from if_neg hjl]
              have hjd : decide (4096 < (zs.length : Int) + (ys.length : Int)) = true := decide_eq_true (by omega)
              go_wp2_with fail
              go_meet
              exact ⟨rfl, HS.out⟩
          case rest =>
            obtain ⟨rfl, Hcut⟩ := hcut
            obtain ⟨r, o, hB⟩ := Hcut.out
            clear Hcut HS rj
            obtain ⟨wq, hwq⟩ : ∃ wq, wq = wc := ⟨_, rfl⟩
            subst hwq
            have d9 := r.cell
            go_wp2_with fail
            clear d9
            refine (slice_any p zs f t wq hl4 r.2).mono ?_
            rintro e w10 ⟨hb10, ps, rfl, hts⟩
            replace hB := below_trans hB hb10 hB.size
            replace r := r.next hb10
            replace o := o.next hb10
            clear hb10
            have rs := RV.new hts
            replace r := r.alloc (.cells #[.pointer ps] 25)
            replace o := o.alloc (.cells #[.pointer ps] 25)
            replace hB := hB.alloc hB.size (.cells #[.pointer ps] 25)
            clear hts
            have d9 := r.cell
            have d11 := o.cell
            go_wp2_with fail
            clear d9 d11
            generalize w10.alloc (.cells #[.pointer ps] 25) = W10 at *
            generalize w10.heap.size = b10 at *
            refine (put_any p q zs ys f t W10 hl4 hm4 r.2 o.2).mono ?_
            rintro e w11 ⟨hb11, pp, rfl, htp⟩
            replace hB := below_trans hB hb11 hB.size
            replace r := r.next hb11
            replace o := o.next hb11
            replace rs := rs.next hb11
            clear hb11
            have rp := RV.new htp
            replace rs := rs.alloc (.cells #[.pointer pp] 25)
            replace hB := hB.alloc hB.size (.cells #[.pointer pp] 25)
            clear htp r o
            go_upto_region 24 with fail
            generalize w11.alloc (.cells #[.pointer pp] 25) = W11 at *
            generalize w11.heap.size = b11p at *
            go_cut [221] from 209 to 221 (fun s221 wx => s221 = .bool (!hasB f t zs.length) ∧ wx = W11)
            case first =>
              by_cases h0 : 0 ≤ f
              · by_cases h1 : f ≤ t
                · by_cases h2 : t ≤ (zs.length : Int)
                  · have Hr : Hid (hasB f t zs.length = true) := by show _ = _; unfold hasB; simp [h0, h1, h2]
                    go_wp2_with fail
                    go_meet
                    exact ⟨congrArg Value.bool (by rw [Hr.out]; simp only [Bool.not_true, Bool.or_eq_false_iff, decide_eq_false_iff_not]; omega), rfl⟩
                  · have Hr : Hid (hasB f t zs.length = false) := by show _ = _; unfold hasB; simp [h2]
                    go_wp2_with fail
                    go_meet
                    exact ⟨by rw [Hr.out]; rfl, rfl⟩
                · have Hr : Hid (hasB f t zs.length = false) := by show _ = _; unfold hasB; simp [h1]
                  go_wp2_with fail
                  go_meet
                  exact ⟨by rw [Hr.out]; rfl, rfl⟩
              · have Hr : Hid (hasB f t zs.length = false) := by show _ = _; unfold hasB; simp [h0]
                go_wp2_with fail
                go_meet
                exact ⟨by rw [Hr.out]; rfl, rfl⟩
            case rest =>
              obtain ⟨rfl, hwc⟩ := hcut
              replace hwc := hwc.symm
              subst hwc
              by_cases hh : hasB f t zs.length = true
              · obtain ⟨h0, h1, h2⟩ := hasB_true hh
                rw [hh]
                rw [show slErr f t zs.length = 0 from if_pos hh]
                rw [show slList f t zs = (zs.drop f.toNat).take (t.toNat - f.toNat) from if_pos hh] at rs
                have hpe : putErr f t zs.length ys.length = if (zs.length : Int) - (t - f) + (ys.length : Int) ≤ 4096 then 0 else 2 := if_pos hh
                have hpl : putList f t zs ys = if (zs.length : Int) - (t - f) + (ys.length : Int) ≤ 4096 then zs.take f.toNat ++ ys ++ zs.drop t.toNat else [] := if_pos hh
                rw [hpe]
                rw [hpl] at rp
                clear hpe hpl hh
                obtain ⟨E, hE⟩ : ∃ E : Int, (if (zs.length : Int) - (t - f) + (ys.length : Int) ≤ 4096 then (0 : Int) else 2) = E := ⟨_, rfl⟩
                obtain ⟨Lp, hLp⟩ : ∃ Lp : List Int, (if (zs.length : Int) - (t - f) + (ys.length : Int) ≤ 4096 then zs.take f.toNat ++ ys ++ zs.drop t.toNat else []) = Lp := ⟨_, rfl⟩
                have HE : Hid ((if (zs.length : Int) - (t - f) + (ys.length : Int) ≤ 4096 then (0 : Int) else 2) = E) := hE
                have HLp : Hid ((if (zs.length : Int) - (t - f) + (ys.length : Int) ≤ 4096 then zs.take f.toNat ++ ys ++ zs.drop t.toNat else []) = Lp) := hLp
                rw [hE]
                rw [hLp] at rp
                clear hE hLp
                obtain ⟨F, rfl⟩ : ∃ n : Nat, f = n := ⟨f.toNat, by omega⟩
                obtain ⟨T, rfl⟩ : ∃ n : Nat, t = n := ⟨t.toNat, by omega⟩
                rw [Int.toNat_natCast, Int.toNat_natCast] at rs
                have hFT : F ≤ T := by omega
                have hTl : T ≤ zs.length := by omega
                have Hms : Hid (((zs.drop F).take (T - F)).length ≤ maxLen) := by show _ ≤ maxLen; unfold maxLen; rw [List.length_take, List.length_drop]; omega
                have hsm : ((zs.drop F).take (T - F)).length ≤ 4096 := by rw [List.length_take, List.length_drop]; omega
                have hT0 : (0 : Int) ≤ (T : Int) := by omega
                go_upto_region 26 with fail
                go_cut [249] from 238 to 249 (fun s249 wx => s249 = .bool false ∧ Hid (Below W11.heap.size W11 wx))
                case first =>
                  have hS := rs.cell
                  have m1 := rs.lt
                  have HLs : Hid (∀ w2, Below W11.heap.size W11 w2 → Calls Try.prog 12 #[.agg #[.pointer ps]] w2 fun e w' => ListPost ((zs.drop F).take (T - F)) w2 e w') := fun w2 hb2 => list_any ps _ w2 hsm (rs.next hb2).2
                  clear rp rs hsm
                  rcases Hl.out.below hB with ⟨ax, cx, hvx, rfl⟩ | ⟨bl, ol, cl, hel, hcl, hcm, hbl, hcc⟩
                  · have hF0 : F = 0 := by simp at hTl; omega
                    have hTz : T = 0 := by simpa using hTl
                    subst hF0 hTz
                    have Hls0 : Hid ((([] : List Int).drop 0).take (0 - 0) = []) := rfl
                    generalize htl : (([] : List Int).drop 0).take (0 - 0) = ls at *
                    clear htl hvx
                    cases a1 with
                    | none =>
                      go_region_held3 (fun w' => w'.cell? ⟨b10, 0, none⟩ = some (.pointer ps)) (first | exact hS | exact hSA | exact hSB)
                        (first
                          | (go_at_call_of 12 (ps); refine (HLs.out _ ?_).mono ?_; (exact (Below.refl _ _).drew); rintro e wA ⟨hbA', gA, capA, rfl, _, _, _, hoA⟩; have hbA : Below W11.heap.size W11 wA := below_trans ((Below.refl _ _).drew) hbA' (by exact Nat.le_refl _); have hrA := owned_reads hoA; clear hoA; have hSA := keep1 hbA m1 hS)
                          | (go_at_call_of 11 (gA); refine (equal_same _ _ ls wA hrA (by rw [Hls0.out]; exact .inl ⟨_, _, rfl, rfl⟩) Hms.out).mono ?_; rintro e wB ⟨rfl, qB, hwB⟩; have hbB : Below W11.heap.size W11 wB := (by rw [hwB]; exact below_drewN hbA qB); clear hwB; have hSB := keep1 hbB m1 hS))
                      have Hfin : Hid (Below W11.heap.size W11 wB) := hbB
                      clear hS hSA hSB HLs hbA hbB hrA hbA'
                      go_simp
                      go_wp2_with fail
                      go_meet
                      exact ⟨rfl, Hfin.out⟩
                    | some ad =>
                      go_region_held3 (fun w' => w'.cell? ⟨b10, 0, none⟩ = some (.pointer ps)) (first | exact hS | exact hSA | exact hSB)
                        (first
                          | (go_at_call_of 12 (ps); refine (HLs.out _ ?_).mono ?_; (exact (Below.refl _ _).drew); rintro e wA ⟨hbA', gA, capA, rfl, _, _, _, hoA⟩; have hbA : Below W11.heap.size W11 wA := below_trans ((Below.refl _ _).drew) hbA' (by exact Nat.le_refl _); have hrA := owned_reads hoA; clear hoA; have hSA := keep1 hbA m1 hS)
                          | (go_at_call_of 11 (gA); refine (equal_same _ _ ls wA hrA (by rw [Hls0.out]; exact .inl ⟨_, _, rfl, rfl⟩) Hms.out).mono ?_; rintro e wB ⟨rfl, qB, hwB⟩; have hbB : Below W11.heap.size W11 wB := (by rw [hwB]; exact below_drewN hbA qB); clear hwB; have hSB := keep1 hbB m1 hS))
                      have Hfin : Hid (Below W11.heap.size W11 wB) := hbB
                      clear hS hSA hSB HLs hbA hbB hrA hbA'
                      go_simp
                      go_wp2_with fail
                      go_meet
                      exact ⟨rfl, Hfin.out⟩
                  · simp only [Value.slice.injEq] at hel
                    obtain ⟨rfl, _, rfl⟩ := hel
                    obtain ⟨ar, har, hbk⟩ := reads_mid hcl hcm hbl hcc F T hFT hTl
                    have Hbk : Hid (Reads W11 (.slice (some ar) (T - F) (c1 - F)) ((zs.drop F).take (T - F))) := hbk
                    have hk3 : (T : Int) ≤ (c1 : Int) := by omega
                    have hk4 : (F : Int) ≤ (T : Int) := by omega
                    clear hbk hcc
                    generalize htl : (zs.drop F).take (T - F) = ls at *
                    clear htl
                    go_region_held3 (fun w' => w'.cell? ⟨b10, 0, none⟩ = some (.pointer ps)) (first | exact hS | exact hSA | exact hSB)
                      (first
                        | (go_at_call_of 12 (ps); refine (HLs.out _ ?_).mono ?_; (exact (Below.refl _ _).drew); rintro e wA ⟨hbA', gA, capA, rfl, _, _, _, hoA⟩; have hbA : Below W11.heap.size W11 wA := below_trans ((Below.refl _ _).drew) hbA' (by exact Nat.le_refl _); have hrA := owned_reads hoA; clear hoA; have hSA := keep1 hbA m1 hS)
                        | (go_at_call_of 11 (gA); refine (equal_same _ _ ls wA hrA (Hbk.out.below hbA) Hms.out).mono ?_; rintro e wB ⟨rfl, qB, hwB⟩; have hbB : Below W11.heap.size W11 wB := (by rw [hwB]; exact below_drewN hbA qB); clear hwB; have hSB := keep1 hbB m1 hS))
                    have Hfin : Hid (Below W11.heap.size W11 wB) := hbB
                    clear hS hSA hSB HLs hbA hbB hrA hbA'
                    go_simp
                    go_wp2_with fail
                    go_meet
                    exact ⟨rfl, Hfin.out⟩
                case rest =>
                  obtain ⟨rfl, Hbw⟩ := hcut
                  have hbw := Hbw.out
                  replace rp := rp.next hbw
                  replace hB := below_trans hB hbw hB.size
                  clear Hbw hbw rs Hms hsm
                  by_cases hlg : (zs.length : Int) - ((T : Int) - (F : Int)) + (ys.length : Int) ≤ 4096
                  · have e1 := HE.out
                    have e2 := HLp.out
                    rw [if_pos hlg] at e1 e2
                    rw [Int.toNat_natCast, Int.toNat_natCast] at e2
                    rw [← e1]
                    rw [← e2] at rp
                    clear e1 e2 HE HLp
                    go_upto_region 30 with fail
                    have hS := rp.cell
                    have m1 := rp.lt
                    have hlen : (zs.take F ++ ys ++ zs.drop T).length ≤ 4096 := by rw [List.length_append, List.length_append, List.length_take, List.length_drop]; omega
                    generalize hla : zs.take F = la at *
                    generalize hlb : zs.drop T = lb at *
                    generalize hL : la ++ ys ++ lb = L at *
                    have HL : Hid (la ++ ys ++ lb = L) := hL
                    have Hjm : Hid (L.length ≤ maxLen) := by show _ ≤ maxLen; unfold maxLen; omega
                    have Hj8 : Hid (L.length * 8 ≤ 281474976710656) := by show _ ≤ _; omega
                    have HLq : Hid (∀ w2, Below wc.heap.size wc w2 → Calls Try.prog 12 #[.agg #[.pointer pp]] w2 fun e w' => ListPost L w2 e w') := fun w2 hb2 => list_any pp _ w2 hlen (rp.next hb2).2
                    have hSl := fun o => keep1 (below_alloc wc o) m1 hS
                    clear hL rp hlen
                    have hF0 : (0 : Int) ≤ (F : Int) := by omega
                    obtain ⟨hkc, hfr⟩ := reads_front (Hl.out.below hB) F (by omega)
                    rw [hla] at hfr
                    have Hfr : Hid (Reads wc (.slice a1 F c1) la) := hfr
                    have hF1 : (F : Int) ≤ (c1 : Int) := by omega
                    clear hfr
                    rcases Hl.out.below hB with ⟨ax, cx, hvx, rfl⟩ | ⟨bl, ol, cl, hel, hcl, hcm, hbl, hcc⟩
                    · have hFz : F = 0 := by simp at hTl; omega
                      have hTz : T = 0 := by simpa using hTl
                      subst hFz hTz
                      have Hla0 : Hid (la = []) := hla.symm
                      have Hlb0 : Hid (lb = []) := hlb.symm
                      clear hla hlb hvx
                      cases a1 with
                      | none =>
                        go_region_held3 (fun w' => w'.cell? ⟨b11p, 0, none⟩ = some (.pointer pp)) (first | exact hS | exact hSl _ | exact hSA | exact hSAl _ | exact hSC | exact hSD)
                          (first
                            | (go_at_call_of 12 (pp); refine (HLq.out _ ?_).mono ?_; (first | exact (Below.refl _ _).drew | exact ((Below.refl _ _).drew).alloc (Nat.le_refl _) _); rintro e wA ⟨hbA', gA, capA, rfl, _, _, _, hoA⟩; have hbA : Below wc.heap.size wc wA := (by first | exact below_trans ((Below.refl _ _).drew) hbA' (Nat.le_refl _) | exact below_trans (((Below.refl _ _).drew).alloc (Nat.le_refl _) _) hbA' (by rw [size_alloc]; exact Nat.le_succ _)); have hrA := owned_reads hoA; clear hoA; have hSA := keep1 hbA m1 hS; have hSAl := fun o => keep1 (below_trans hbA (below_alloc wA o) hbA.size) m1 hS)
                            | (go_at_call_of 16 (wA.heap.size); refine (concat3 _ _ _ la ys lb wA (by rw [Hla0.out]; exact .inl ⟨_, _, rfl, rfl⟩) (Hm.out.below (below_trans hB hbA hB.size)) (by rw [Hlb0.out]; exact .inl ⟨_, _, rfl, rfl⟩) (by rw [HL.out]; exact Hj8.out)).mono ?_; rintro e wC ⟨hbC', vC, rfl, hoC⟩; rw [HL.out] at hoC; have hbAC : Below wA.heap.size wA wC := below_trans (below_alloc _ _) hbC' (by rw [size_alloc]; omega); have hbC := below_trans hbA hbAC hbA.size; have hrC := hoC.reads; clear hoC; obtain ⟨aC, cC, hvC⟩ := hrC.shape; subst hvC; have hSC := keep1 hbC m1 hS)
                            | (go_at_call 16; refine (concat3_at wc.heap.size _ _ _ la ys lb wA (lit_cells (w := wc) rfl hbA').1 (lit_cells (w := wc) rfl hbA').2.1 (lit_cells (w := wc) rfl hbA').2.2.1 (lit_cells (w := wc) rfl hbA').2.2.2 (by rw [Hla0.out]; exact .inl ⟨_, _, rfl, rfl⟩) (Hm.out.below (below_trans hB hbA hB.size)) (by rw [Hlb0.out]; exact .inl ⟨_, _, rfl, rfl⟩) (by rw [HL.out]; exact Hj8.out)).mono ?_; rintro e wC ⟨hbAC, vC, rfl, hoC⟩; rw [HL.out] at hoC; have hbC := below_trans hbA hbAC hbA.size; have hrC := hoC.reads; clear hoC; obtain ⟨aC, cC, hvC⟩ := hrC.shape; subst hvC; have hSC := keep1 hbC m1 hS)
                            | (go_at_call 11; refine (equal_same _ _ L wC (hrA.below hbAC) hrC Hjm.out).mono ?_; rintro e wD ⟨rfl, qD, hwD⟩; have hbD : Below wc.heap.size wc wD := (by rw [hwD]; exact below_drewN hbC qD); clear hwD; have hSD := keep1 hbD m1 hS))
                        all_goals
                          have hBD := below_trans hB hbD hB.size
                          clear hS hSl hSA hSAl hSC hSD HLq hbA hbC hbD hbAC hrA hrC hbA'
                          go_simp
                          go_wp2_with fail
                          go_ret
                          exact ⟨rfl, hBD⟩
                      | some ad =>
                        go_region_held3 (fun w' => w'.cell? ⟨b11p, 0, none⟩ = some (.pointer pp)) (first | exact hS | exact hSl _ | exact hSA | exact hSAl _ | exact hSC | exact hSD)
                          (first
                            | (go_at_call_of 12 (pp); refine (HLq.out _ ?_).mono ?_; (first | exact (Below.refl _ _).drew | exact ((Below.refl _ _).drew).alloc (Nat.le_refl _) _); rintro e wA ⟨hbA', gA, capA, rfl, _, _, _, hoA⟩; have hbA : Below wc.heap.size wc wA := (by first | exact below_trans ((Below.refl _ _).drew) hbA' (Nat.le_refl _) | exact below_trans (((Below.refl _ _).drew).alloc (Nat.le_refl _) _) hbA' (by rw [size_alloc]; exact Nat.le_succ _)); have hrA := owned_reads hoA; clear hoA; have hSA := keep1 hbA m1 hS; have hSAl := fun o => keep1 (below_trans hbA (below_alloc wA o) hbA.size) m1 hS)
                            | (go_at_call_of 16 (wA.heap.size); refine (concat3 _ _ _ la ys lb wA (by rw [Hla0.out]; exact .inl ⟨_, _, rfl, rfl⟩) (Hm.out.below (below_trans hB hbA hB.size)) (by rw [Hlb0.out]; exact .inl ⟨_, _, rfl, rfl⟩) (by rw [HL.out]; exact Hj8.out)).mono ?_; rintro e wC ⟨hbC', vC, rfl, hoC⟩; rw [HL.out] at hoC; have hbAC : Below wA.heap.size wA wC := below_trans (below_alloc _ _) hbC' (by rw [size_alloc]; omega); have hbC := below_trans hbA hbAC hbA.size; have hrC := hoC.reads; clear hoC; obtain ⟨aC, cC, hvC⟩ := hrC.shape; subst hvC; have hSC := keep1 hbC m1 hS)
                            | (go_at_call 16; refine (concat3_at wc.heap.size _ _ _ la ys lb wA (lit_cells (w := wc) rfl hbA').1 (lit_cells (w := wc) rfl hbA').2.1 (lit_cells (w := wc) rfl hbA').2.2.1 (lit_cells (w := wc) rfl hbA').2.2.2 (by rw [Hla0.out]; exact .inl ⟨_, _, rfl, rfl⟩) (Hm.out.below (below_trans hB hbA hB.size)) (by rw [Hlb0.out]; exact .inl ⟨_, _, rfl, rfl⟩) (by rw [HL.out]; exact Hj8.out)).mono ?_; rintro e wC ⟨hbAC, vC, rfl, hoC⟩; rw [HL.out] at hoC; have hbC := below_trans hbA hbAC hbA.size; have hrC := hoC.reads; clear hoC; obtain ⟨aC, cC, hvC⟩ := hrC.shape; subst hvC; have hSC := keep1 hbC m1 hS)
                            | (go_at_call 11; refine (equal_same _ _ L wC (hrA.below hbAC) hrC Hjm.out).mono ?_; rintro e wD ⟨rfl, qD, hwD⟩; have hbD : Below wc.heap.size wc wD := (by rw [hwD]; exact below_drewN hbC qD); clear hwD; have hSD := keep1 hbD m1 hS))
                        all_goals
                          have hBD := below_trans hB hbD hB.size
                          clear hS hSl hSA hSAl hSC hSD HLq hbA hbC hbD hbAC hrA hrC hbA'
                          go_simp
                          go_wp2_with fail
                          go_ret
                          exact ⟨rfl, hBD⟩
                    · simp only [Value.slice.injEq] at hel
                      obtain ⟨rfl, _, rfl⟩ := hel
                      obtain ⟨ar, har, hbk⟩ := reads_mid hcl hcm hbl hcc T zs.length hTl (Nat.le_refl _)
                      rw [List.take_of_length_le (by rw [List.length_drop]; omega), hlb] at hbk
                      have Hbk : Hid (Reads wc (.slice (some ar) (zs.length - T) (c1 - T)) lb) := hbk
                      have hk3 : (zs.length : Int) ≤ (c1 : Int) := by omega
                      have hk4 : (T : Int) ≤ (zs.length : Int) := by omega
                      clear hbk hcc hla hlb
                      go_region_held3 (fun w' => w'.cell? ⟨b11p, 0, none⟩ = some (.pointer pp)) (first | exact hS | exact hSl _ | exact hSA | exact hSAl _ | exact hSC | exact hSD)
                        (first
                          | (go_at_call_of 12 (pp); refine (HLq.out _ ?_).mono ?_; (first | exact (Below.refl _ _).drew | exact ((Below.refl _ _).drew).alloc (Nat.le_refl _) _); rintro e wA ⟨hbA', gA, capA, rfl, _, _, _, hoA⟩; have hbA : Below wc.heap.size wc wA := (by first | exact below_trans ((Below.refl _ _).drew) hbA' (Nat.le_refl _) | exact below_trans (((Below.refl _ _).drew).alloc (Nat.le_refl _) _) hbA' (by rw [size_alloc]; exact Nat.le_succ _)); have hrA := owned_reads hoA; clear hoA; have hSA := keep1 hbA m1 hS; have hSAl := fun o => keep1 (below_trans hbA (below_alloc wA o) hbA.size) m1 hS)
                          | (go_at_call_of 16 (wA.heap.size); refine (concat3 _ _ _ la ys lb wA (Hfr.out.below hbA) (Hm.out.below (below_trans hB hbA hB.size)) (Hbk.out.below hbA) (by rw [HL.out]; exact Hj8.out)).mono ?_; rintro e wC ⟨hbC', vC, rfl, hoC⟩; rw [HL.out] at hoC; have hbAC : Below wA.heap.size wA wC := below_trans (below_alloc _ _) hbC' (by rw [size_alloc]; omega); have hbC := below_trans hbA hbAC hbA.size; have hrC := hoC.reads; clear hoC; obtain ⟨aC, cC, hvC⟩ := hrC.shape; subst hvC; have hSC := keep1 hbC m1 hS)
                          | (go_at_call 16; refine (concat3_at wc.heap.size _ _ _ la ys lb wA (lit_cells (w := wc) rfl hbA').1 (lit_cells (w := wc) rfl hbA').2.1 (lit_cells (w := wc) rfl hbA').2.2.1 (lit_cells (w := wc) rfl hbA').2.2.2 (Hfr.out.below hbA) (Hm.out.below (below_trans hB hbA hB.size)) (Hbk.out.below hbA) (by rw [HL.out]; exact Hj8.out)).mono ?_; rintro e wC ⟨hbAC, vC, rfl, hoC⟩; rw [HL.out] at hoC; have hbC := below_trans hbA hbAC hbA.size; have hrC := hoC.reads; clear hoC; obtain ⟨aC, cC, hvC⟩ := hrC.shape; subst hvC; have hSC := keep1 hbC m1 hS)
                          | (go_at_call 11; refine (equal_same _ _ L wC (hrA.below hbAC) hrC Hjm.out).mono ?_; rintro e wD ⟨rfl, qD, hwD⟩; have hbD : Below wc.heap.size wc wD := (by rw [hwD]; exact below_drewN hbC qD); clear hwD; have hSD := keep1 hbD m1 hS))
                      all_goals
                        have hBD := below_trans hB hbD hB.size
                        clear hS hSl hSA hSAl hSC hSD HLq hbA hbC hbD hbAC hrA hrC hbA'
                        go_simp
                        go_wp2_with fail
                        go_ret
                        exact ⟨rfl, hBD⟩
                  · have e1 := HE.out
                    have e2 := HLp.out
                    rw [if_neg hlg] at e1 e2
                    rw [← e1]
                    rw [← e2] at rp
                    clear e1 e2 HE HLp
                    have d21 := rp.cell
                    go_wp2_with fail
                    clear d21
                    refine (len_any pp [] wc rp.2).mono ?_
                    rintro e w12 ⟨rfl, hw12⟩
                    have hb12 : Below wc.heap.size wc w12 := by rw [hw12]; exact below_alloc _ _
                    replace hB := below_trans hB hb12 hB.size
                    clear hw12 hb12 rp
                    go_wp2_with fail
                    go_ret
                    exact ⟨rfl, hB⟩
              · have hh2 : hasB f t zs.length = false := by simpa using hh
                rw [hh2]
                rw [show slErr f t zs.length = 1 from if_neg hh, show putErr f t zs.length ys.length = 1 from if_neg hh]
                rw [show slList f t zs = [] from if_neg hh] at rs
                rw [show putList f t zs ys = [] from if_neg hh] at rp
                clear hh hh2
                have d20 := rs.cell
                go_wp2_with fail
                clear d20
                refine (len_any ps [] W11 rs.2).mono ?_
                rintro e w12 ⟨rfl, hw12⟩
                have hb12 : Below W11.heap.size W11 w12 := by rw [hw12]; exact below_alloc _ _
                clear hw12
                replace rp := rp.next hb12
                replace hB := below_trans hB hb12 hB.size
                have d21 := rp.cell
                go_wp2_with fail
                clear d21
                refine (len_any pp [] w12 rp.2).mono ?_
                rintro e w13 ⟨rfl, hw13⟩
                have hb13 : Below w12.heap.size w12 w13 := by rw [hw13]; exact below_alloc _ _
                replace hB := below_trans hB hb13 hB.size
                clear hw13 hb12 hb13 rs rp
                go_wp2_with fail
                go_ret
                exact ⟨rfl, hB⟩
    · have hm5 : (4096 : Int) < (m.length : Int) := by omega
      have hl5 : (zs.length : Int) ≤ 4096 := by omega
      go_wp2_with fail
      go_ret
      exact ⟨by simp [hm5, hl5], hB⟩
  · have hl5 : (4096 : Int) < (l.length : Int) := by omega
    rcases Hcm.out with ⟨hm4, rfl, rfl⟩ | ⟨hm4, rfl, rfl⟩
    · have hm5 : (ys.length : Int) ≤ 4096 := by omega
      go_wp2_with fail
      go_ret
      exact ⟨by simp [hm5, hl5], hB⟩
    · have hm5 : (4096 : Int) < (m.length : Int) := by omega
      go_wp2_with fail
      go_ret
      exact ⟨by simp [hm5, hl5], hB⟩
end Go.Proofs.Ytoopgkgjhbihjaa.Seek
