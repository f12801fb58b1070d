/- The walk of UndoSays. -/
import Derived.Test.YtnfobonifapbmaaBackGo
set_option linter.unusedVariables false
set_option linter.unusedSimpArgs false
namespace Go.Proofs.Ytnfobonifapbmaa.Seek
open Go.RowKit

theorem int_low {n : Int} (h : (Lit.int .i64 n).wf = true) : -9223372036854775808 ≤ n ∧ n ≤ 9223372036854775807 := by
  simp only [Lit.wf, Bool.and_eq_true, decide_eq_true_eq] at h
  exact h
theorem clone_row (v : Value) (zs : List Int) (w : World) (h : Reads w v zs) (hr : zs.length * 8 ≤ 140737488355328) :
    Calls Try.prog 6 #[v] w fun e w' => Below w.heap.size w w' ∧ ∃ v', e = .returned v' ∧ OwnI w' w.heap.size v' zs := by
  rcases h with ⟨a, cap, rfl, rfl⟩ | ⟨b, off, cap, rfl, _, _, _, hc⟩
  · cases a with
    | none =>
      refine (Try.slices_Clone_int_nil 0 cap w).mono ?_
      rintro e w' ⟨rfl, rfl⟩
      exact ⟨Below.refl _ _, _, rfl, World.ownsRow_nil _ _ _ _⟩
    | some a =>
      refine (Try.slices_Clone_int_zero a cap w).mono ?_
      rintro e w' ⟨v', rfl, hown, _, hb⟩
      exact ⟨hb, v', rfl, hown⟩
  · refine (Try.slices_Clone_int b off zs.length cap zs w (Nat.le_refl _) hr hc).mono ?_
    rintro e w' ⟨v', rfl, hown, _, hb⟩
    rw [List.take_length] at hown
    exact ⟨hb, v', rfl, hown⟩
theorem OwnI.shape {w : World} {B : Nat} {v : Value} {zs : List Int} (h : OwnI w B v zs) : ∃ a c, v = .slice a zs.length c := h.reads.shape
theorem equal_same (v1 v2 : Value) (xs : List Int) (w : World) (h1 : Reads w v1 xs) (h2 : Reads w v2 xs) (hx : xs.length * 8 ≤ 140737488355328) :
    Calls Try.prog 7 #[v1, v2] w fun e w' => e = .returned (.bool true) ∧ ∃ q, w' = w.drewN q := by
  have := equal_any v1 v2 xs xs w h1 h2 (by unfold maxLen; omega) (by unfold maxLen; omega)
  rw [beq_self_eq_true] at this
  exact this

/-- Some numbers more, as a step of a region that draws its order, behind a guard or not. -/
theorem step_more {ops : Array Oper} {o : Oper} {a : Act} {w : World} {K : Act → World → Prop} {Q : Exit → Act → World → Prop} {E : Prop}
    (hw : Region.wanted o (yielded ops a.tmps) = true) (s x : Operand) (hop : o.op = Op.call { callee := Callee.builtin Builtin.append, args := #[s, x], argTypes := #[22, 22] })
    (B : Nat) (v : Value) (xs ys zs : List Int) (hz : zs = xs ++ ys) (b n c : Nat) (hn : ys.length = n) (hs : a.eval s = v) (hx : a.eval x = .slice (some ⟨b, 0, none⟩) n c)
    (hown : OwnI w B v xs) (hr : Reads w (.slice (some ⟨b, 0, none⟩) n c) ys) (h0 : 0 < n) (hroom : (xs.length + n) * 8 ≤ 140737488355328) (hbase : B ≤ w.heap.size)
    (hK : ∀ v' w', OwnI w' B v' zs → w.grownBy w' v.ownBlock → K (a.put o.dst v') w') :
    if Region.wanted o (yielded ops a.tmps) = true then Oper.wp Try.prog o a w K Q else E := by
  subst hz hn
  obtain ⟨i0, hi, hz0, hz1, hz2⟩ := info_parts info3
  rw [if_pos hw]
  rcases hr with ⟨_, _, _, h1⟩ | ⟨b', off, c2, hv, _, _, _, hc⟩
  · rw [h1] at h0; simp at h0
  cases hv
  refine wp_append_own w s x 22 hop B 3 i0 (.int .i64 0) 1 8 Try.underlying22 hi hz0 hz1 hz2 rfl (by decide) v xs.length (ints xs) hs hown ⟨b, 0, none⟩ ys.length c (ints ys) hx (by rw [ints_len, Nat.mul_one]) (reads_cells hc) (ints_one ys) (by unfold maxLen; omega) hroom hbase ?_
  intro v' w' h1 h2 _
  exact hK v' w' (by unfold OwnI; rw [ints_append, List.length_append]; exact h1) h2

def lenOf : Value → Nat
  | .slice _ n _ => n
  | _ => 0

set_option maxRecDepth 100000 in
set_option maxHeartbeats 1000000 in
theorem says_walk (v u : Value) (xs ys : List Int) (most now : Int) (w : World) (hv : Reads w v xs) (hu : Reads w u ys) (hx : xs.length * 8 ≤ 140737488351232) (hy : ys.length * 8 ≤ 140737488351232) (hm : (Lit.int .i64 most).wf = true) :
    Calls Try.prog 3 #[v, u, .int .i64 most, .int .i64 now] w fun e w' => e = .returned (.bool true) ∧ Below w.heap.size w w' := by
  obtain ⟨a, c, rfl⟩ := hv.shape
  obtain ⟨b, d, rfl⟩ := hu.shape
  have HM : Hid (-9223372036854775808 ≤ most ∧ most ≤ 9223372036854775807) := int_low hm
  have HX : Hid (xs.length * 8 ≤ 140737488351232) := hx
  have HY : Hid (ys.length * 8 ≤ 140737488351232) := hy
  have HV : Hid (∀ wx, Below w.heap.size w wx → Reads wx (.slice a xs.length c) xs) := fun wx hb => hv.below hb
  have HU : Hid (∀ wx, Below w.heap.size w wx → Reads wx (.slice b ys.length d) ys) := fun wx hb => hu.below hb
  clear hv hu hm hx hy
  go_enter Try.func3, Try.ntmps3
  go_wp2_with fail
  have HB1 : Hid (Below w.heap.size w (w.alloc (Obj.cells #[Value.slice a xs.length c, Value.slice b ys.length d] 24))) := box_below _ _
  have HH1 : Hid (BoxH (w.alloc (Obj.cells #[Value.slice a xs.length c, Value.slice b ys.length d] 24)) w.heap.size (Value.slice a xs.length c) (Value.slice b ys.length d)) := BoxH.new _ _ _ _ _ _ _
  generalize w.alloc (Obj.cells #[Value.slice a xs.length c, Value.slice b ys.length d] 24) = w1 at *
  obtain ⟨dn, hdn⟩ : ∃ dn, dn = done xs most now := ⟨_, rfl⟩
  have HDN : Hid (dn = done xs most now) := hdn
  refine (do_any _ _ xs most now w1 (HV.out w1 HB1.out) ⟨_, _, _, rfl⟩ (by have := HX.out; omega) HM.out.2).mono ?_
  rw [← hdn]
  clear hdn
  rintro e w2 ⟨hb2, a2, c2, rfl, o2⟩
  have HB2 : Hid (Below w.heap.size w w2) := below_trans HB1.out hb2 HB1.out.size
  have HH2 : Hid (BoxH w2 w.heap.size (Value.slice a xs.length c) (Value.slice b ys.length d)) := HH1.out.below hb2
  have HO2 : Hid (Reads w2 (.slice a2 dn.length c2) dn) := o2.reads
  clear hb2 o2 HB1 HH1
  go_wp2_with fail
  have hba := box_below w2 (Obj.cells #[Value.slice a2 dn.length c2, Value.slice none 0 0] 24)
  have HB3 : Hid (Below w.heap.size w (w2.alloc (Obj.cells #[Value.slice a2 dn.length c2, Value.slice none 0 0] 24))) := below_trans HB2.out hba HB2.out.size
  have HH3 : Hid (BoxH (w2.alloc (Obj.cells #[Value.slice a2 dn.length c2, Value.slice none 0 0] 24)) w.heap.size (Value.slice a xs.length c) (Value.slice b ys.length d)) := HH2.out.below hba
  have HO3 : Hid (Reads (w2.alloc (Obj.cells #[Value.slice a2 dn.length c2, Value.slice none 0 0] 24)) (.slice a2 dn.length c2) dn) := HO2.out.below hba
  have HD3 : Hid (BoxH (w2.alloc (Obj.cells #[Value.slice a2 dn.length c2, Value.slice none 0 0] 24)) w2.heap.size (.slice a2 dn.length c2) (.slice none 0 0)) := BoxH.new _ _ _ _ _ _ _
  clear hba HB2 HH2 HO2
  generalize w2.alloc (Obj.cells #[Value.slice a2 dn.length c2, Value.slice none 0 0] 24) = w3 at *
  generalize w2.heap.size = G at *
  clear w2
  refine (clone_row _ xs w3 (HV.out w3 HB3.out) (by have := HX.out; omega)).mono ?_
  rintro e w4 ⟨hb4, v4, rfl, o4⟩
  have hba := box_below w4 (Obj.cells #[Value.int .i64 now] 3)
  have HB5 : Hid (Below w3.heap.size w3 (w4.alloc (Obj.cells #[Value.int .i64 now] 3))) := below_trans hb4 hba hb4.size
  have HW5 : Hid (OwnI (w4.alloc (Obj.cells #[Value.int .i64 now] 3)) w3.heap.size v4 xs) := o4.below hba
  have HN5 : Hid (Reads (w4.alloc (Obj.cells #[Value.int .i64 now] 3)) (.slice (some ⟨w4.heap.size, 0, none⟩) 1 1) [now]) := reads_new w4 [now] (by show 1 ≤ maxLen; decide)
  clear hba hb4 o4
  obtain ⟨al, hal⟩ : ∃ al, al = xs ++ [now] := ⟨_, rfl⟩
  have HAL : Hid (al = xs ++ [now]) := hal
  clear hal
  go_wp2_with (at_builtin; refine append_any rfl _ _ rfl w3.heap.size v4 _ xs [now] al HAL.out rfl HW5.out rfl HN5.out (by have := HX.out; show (xs.length + 1) * 8 ≤ _; omega) HB5.out.size ?_)
  intro v6 w6 h6 hg6 hr6
  have hb6 : Below w3.heap.size w3 w6 := HB5.out.grown hg6 HB5.out.size (fun j hj => (HW5.out.lt j hj).1)
  have HB6 : Hid (Below w.heap.size w w6) := below_trans HB3.out hb6 HB3.out.size
  have HH6 : Hid (BoxH w6 w.heap.size (Value.slice a xs.length c) (Value.slice b ys.length d)) := HH3.out.below hb6
  have HD6 : Hid (BoxH w6 G (.slice a2 dn.length c2) (.slice none 0 0)) := HD3.out.below hb6
  have HO6 : Hid (Reads w6 (.slice a2 dn.length c2) dn) := HO3.out.below hb6
  have HW6 : Hid (Reads w6 v6 al) := h6.reads
  clear hb6 h6 hg6 hr6 HB5 HW5 HN5 HB3 HH3 HD3 HO3
  obtain ⟨a6, c6, rfl⟩ := HW6.out.shape
  have HK : Hid (al.length = xs.length + 1) := by show _ = _; rw [HAL.out, List.length_append]; rfl
  have HDL : Hid (dn = al.drop (xs.length + 1 - most.toNat)) := by show _ = _; rw [HDN.out, HAL.out]; rfl
  clear HDN
  go_wp2_with fail
  go_loop [11] (fun u11 => ∃ (k : Nat) (A : Option Addr) (C : Nat), k ≤ xs.length + 1 - most.toNat ∧ u11 = .slice A (al.drop k).length C ∧ Hid (Reads w6 (.slice A (al.drop k).length C) (al.drop k))) (fun u11 => lenOf u11)
  case atStart => exact ⟨0, a6, c6, Nat.zero_le _, rfl, HW6.out⟩
  case round =>
    obtain ⟨k, A, C, hk, rfl, HR⟩ := hrel
    obtain ⟨r, hr⟩ : ∃ r, r = al.drop k := ⟨_, rfl⟩
    have HRK : Hid (r = al.drop k) := hr
    have hl : r.length = xs.length + 1 - k := by rw [hr, List.length_drop, HK.out]
    have HL : Hid (r.length = xs.length + 1 - k) := hl
    rw [← hr] at HR ⊢
    clear hr
    have hcap := HR.out.cap_le
    by_cases hlt : k < xs.length + 1 - most.toNat
    · have g1 : (0 : Int) < (r.length : Int) := by omega
      have g2 : most < (r.length : Int) := by omega
      have g3 : (1 : Int) ≤ (r.length : Int) := by omega
      have g4 : 1 ≤ C := by omega
      have g5 : 1 ≤ r.length := by omega
      have hR2 := reads_slice HR.out 1 r.length g5 (Nat.le_refl _)
      have hdr : seg r 1 r.length = al.drop (k + 1) := by
        unfold seg
        rw [List.take_of_length_le (by rw [List.length_drop]; exact Nat.le_refl _), HRK.out, List.drop_drop]
      obtain ⟨blk, off, rfl⟩ : ∃ blk off, A = some ⟨blk, off, none⟩ := by
        rcases HR.out with ⟨_, _, _, h0⟩ | ⟨blk, off, _, hv, _⟩
        · rw [h0] at g5; simp at g5
        · cases hv; exact ⟨_, _, rfl⟩
      have hadd : (⟨blk, off, none⟩ : Addr).add 1 = ⟨blk, off + 1, none⟩ := by
        simp only [Addr.add]
        split <;> simp_all
      simp only [Option.map_some, hadd] at hR2
      obtain ⟨A2, hA2⟩ : ∃ A2, (if C = 1 then some (⟨blk, off, none⟩ : Addr) else some ⟨blk, off + 1, none⟩) = A2 := ⟨_, rfl⟩
      rw [hA2, hdr] at hR2
      have HR2 : Hid (Reads w6 (.slice A2 (r.length - 1) (C - 1)) (al.drop (k + 1))) := hR2
      have HL2 : Hid ((al.drop (k + 1)).length = r.length - 1) := by show _ = _; rw [List.length_drop, HK.out, HL.out]; omega
      have HLT : Hid (k < xs.length + 1 - most.toNat) := hlt
      clear hR2 hdr hl hlt hk
      go_wp2_with fail
      go_round
      case rel => exact ⟨k + 1, A2, C - 1, HLT.out, by rw [HL2.out], by rw [HL2.out]; exact HR2.out⟩
      case measure => show r.length - 1 < r.length; omega
    · obtain rfl : k = xs.length + 1 - most.toNat := by omega
      have HRD : Hid (r = dn) := by show _ = _; rw [HRK.out, HDL.out]
      have hz : r.length = 0 ∨ (1 ≤ r.length ∧ (r.length : Int) ≤ most) := by omega
      clear hlt hk hl
      go_upto_region 4 with fail
      go_cut [39] from 31 to 41 (fun s39 wx => s39 = .bool false ∧ wx = w6)
      case first =>
        rcases hz with h0 | ⟨h0, h1⟩
        · have h2 : (r.length : Int) = 0 := by omega
          clear h0
          go_wp2_with fail
          go_meet
          case rel => exact ⟨by simp [h2], rfl⟩
        · have h2 : (0 : Int) < (r.length : Int) := by omega
          clear h0
          go_wp2_with fail
          go_meet
          case rel => exact ⟨by simp [h1, h2], rfl⟩
      case rest =>
        obtain ⟨rfl, hwc⟩ := hcut
        subst hwc
        have HLD : Hid (dn.length ≤ xs.length + 1) := by show _ ≤ _; rw [HDL.out, List.length_drop, HK.out]; omega
        have := HRD.out
        subst this
        clear hz HRD
        have d0 := HD6.out.cell0
        have d1 := HD6.out.cell1
        go_wp2_with fail
        refine (equal_same _ _ r wc HO6.out HR.out (by have := HX.out; have := HLD.out; omega)).mono ?_
        rintro e w7 ⟨rfl, q, hq⟩
        have hb7 : Below wc.heap.size wc w7 := by rw [hq]; exact below_drewN (Below.refl _ _) q
        have HB7 : Hid (Below w.heap.size w w7) := below_trans HB6.out hb7 HB6.out.size
        have HH7 : Hid (BoxH w7 w.heap.size (Value.slice a xs.length c) (Value.slice b ys.length d)) := HH6.out.below hb7
        have HD7 : Hid (BoxH w7 G (.slice a2 r.length c2) (.slice none 0 0)) := HD6.out.below hb7
        clear hb7 hq d0 d1 HO6 HR HW6 HB6 HH6 HD6 HDL
        have d0 := HD7.out.cell0
        have d1 := HD7.out.cell1
        have e0 := HH7.out.cell0
        have e1 := HH7.out.cell1
        go_wp2_with fail
        obtain ⟨bf, hbf⟩ : ∃ bf, bf = backF xs ys now := ⟨_, rfl⟩
        obtain ⟨bx, hbx⟩ : ∃ bx, bx = backX xs now := ⟨_, rfl⟩
        obtain ⟨bb, hbb⟩ : ∃ bb, bb = backB xs := ⟨_, rfl⟩
        obtain ⟨dl, hdl⟩ : ∃ dl, dl = xs.dropLast := ⟨_, rfl⟩
        have HF : Hid (bf = backF xs ys now ∧ bx = backX xs now ∧ bb = backB xs ∧ dl = xs.dropLast) := ⟨hbf, hbx, hbb, hdl⟩
        refine (back_any _ _ xs ys now w7 (HV.out _ HB7.out) (HU.out _ HB7.out) (by have := HX.out; omega) (by have := HY.out; omega)).mono ?_
        rw [← hbf, ← hbx, ← hbb, ← hdl]
        clear hbf hbx hbb hdl d0 d1 e0 e1 HD7
        rintro e w8 ⟨hb8, a8, c8, b8, d8, rfl, o8, f8⟩
        have hba := box_below w8 (Obj.cells #[Value.slice a8 dl.length c8, Value.slice b8 bf.length d8] 24)
        have hb9 := below_trans hb8 hba hb8.size
        have HB9 : Hid (Below w.heap.size w (w8.alloc (Obj.cells #[Value.slice a8 dl.length c8, Value.slice b8 bf.length d8] 24))) := below_trans HB7.out hb9 HB7.out.size
        have HH9 : Hid (BoxH (w8.alloc (Obj.cells #[Value.slice a8 dl.length c8, Value.slice b8 bf.length d8] 24)) w.heap.size (Value.slice a xs.length c) (Value.slice b ys.length d)) := HH7.out.below hb9
        have HD9 : Hid (BoxH (w8.alloc (Obj.cells #[Value.slice a8 dl.length c8, Value.slice b8 bf.length d8] 24)) w8.heap.size (Value.slice a8 dl.length c8) (Value.slice b8 bf.length d8)) := BoxH.new _ _ _ _ _ _ _
        have HO9 : Hid (Reads (w8.alloc (Obj.cells #[Value.slice a8 dl.length c8, Value.slice b8 bf.length d8] 24)) (Value.slice a8 dl.length c8) dl) := o8.reads.below hba
        have HE9 : Hid (Reads (w8.alloc (Obj.cells #[Value.slice a8 dl.length c8, Value.slice b8 bf.length d8] 24)) (Value.slice b8 bf.length d8) bf) := f8.reads.below hba
        clear hba hb8 hb9 o8 f8 HB7 HH7
        go_upto_if 62 with fail
        generalize w8.alloc (Obj.cells #[Value.slice a8 dl.length c8, Value.slice b8 bf.length d8] 24) = w9 at *
        generalize w8.heap.size = G9 at *
        clear w8
        go_cut [15] from 62 to 114 (fun s15 wx => Hid (Below w9.heap.size w9 wx))
        case first =>
          by_cases h0 : xs = []
          · obtain ⟨rfl, rfl, rfl, rfl⟩ := HF.out
            clear HF
            subst h0
            have k0 := HD9.out.cell0
            have k1 := HD9.out.cell1
            have HE0 : Hid (Reads w9 (Value.slice b8 ys.length d8) ys) := HE9.out
            have e1 : backB [] = false := rfl
            have e2 : backX [] now = now := rfl
            have e3 : backF [] ys now = ys := rfl
            go_wp2_with fail
            refine (equal_same _ _ ys w9 HE0.out (HU.out _ HB9.out) (by have := HY.out; omega)).mono ?_
            rintro e w10 ⟨rfl, q, hq⟩
            have HB10 : Hid (Below w9.heap.size w9 w10) := by rw [hq]; exact below_drewN (Below.refl _ _) q
            clear hq
            go_wp2_with fail
            go_meet
            case rel => exact HB10.out
          · have hV := HV.out w9 HB9.out
            obtain ⟨_, _, _, hz⟩ | ⟨blk, off, cap, hvv, hcap, hmx, hlt, hcs⟩ := hV
            · exact absurd hz h0
            cases hvv
            have hlp : 0 < xs.length := List.length_pos_iff.2 h0
            obtain ⟨n, hn⟩ : ∃ n, n + 1 = xs.length := ⟨xs.length - 1, by omega⟩
            have hlast := hcs n (by omega)
            obtain ⟨hbf, hbx, hbb, hdl⟩ := HF.out
            have hbb2 : bb = true := by rw [hbb]; simp [backB, h0]
            have hbf2 : bf = ys ++ [now] := by rw [hbf]; simp [backF, h0]
            have hbx2 : bx = xs.getD n 0 := by rw [hbx]; simp only [backX]; rw [if_neg h0, show xs.length - 1 = n by omega]
            have hdl2 : dl = xs.take n := by rw [hdl, List.dropLast_eq_take, show xs.length - 1 = n by omega]
            rw [← hbx2] at hlast
            have HBF : Hid (bf = ys ++ [now]) := hbf2
            have HBL : Hid (bf.length = ys.length + 1) := by show _ = _; rw [hbf2, List.length_append]; rfl
            have hdn : dl.length = n := by rw [hdl2, List.length_take]; omega
            have HDN : Hid (dl.length = n) := hdn
            have HXN : Hid (n < xs.length) := by show _ < _; omega
            have HP : Hid (∀ wx, Below w9.heap.size w9 wx → Reads wx (.slice (some ⟨blk, off, none⟩) dl.length c) dl) := fun wx hb => by
              have := reads_part (fun j hj => (hb.cell (by exact hlt)).trans (hcs j hj)) (Nat.lt_of_lt_of_le hlt hb.size) 0 n c (by omega) (by omega) hmx
              rw [Nat.add_zero, List.drop_zero, ← hdl2] at this
              rw [hdn]
              exact this
            have HCS : Hid (∀ w', Below w9.heap.size w9 w' → w'.cell? ⟨G9, 0, none⟩ = some (.slice a8 dl.length c8) ∧ w'.cell? ⟨G9, 1, none⟩ = some (.slice b8 bf.length d8) ∧ w'.cell? ⟨blk, off + n, none⟩ = some (.int .i64 bx)) := fun w' hb => ⟨(HD9.out.below hb).cell0, (HD9.out.below hb).cell1, (hb.cell (by exact hlt)).trans hlast⟩
            have HO : Hid (∀ wx, Below w9.heap.size w9 wx → Reads wx (.slice a8 dl.length c8) dl) := fun wx hb => HO9.out.below hb
            have HE : Hid (∀ wx, Below w9.heap.size w9 wx → Reads wx (.slice b8 bf.length d8) bf) := fun wx hb => HE9.out.below hb
            have HUY : Hid (∀ wx, Below w9.heap.size w9 wx → Reads wx (.slice b ys.length d) ys) := fun wx hb => (HU.out _ HB9.out).below hb
            subst hbb2
            have i1 : (xs.length : Int) - 1 = (n : Int) := by omega
            have i2 : (0 : Int) ≤ (n : Int) := by omega
            have i3 : (n : Int) < (xs.length : Int) := by omega
            have i4 : (n : Int) ≤ (c : Int) := by omega
            have i5 : ((xs.length : Int) == 0) = false := by rw [beq_eq_false_iff_ne]; omega
            have i6 : n < xs.length := by omega
            have i7 : (n : Int) ≤ 9223372036854775807 := by have := HX.out; omega
            clear hbf hbx hbb hdl hbf2 hbx2 hdl2 HF hlast hcs hcap hmx hlp hn h0 HV HU
            rw [HDN.out] at HP
            clear hdn
            go_upto_region 13 with fail
            go_region_held3 (fun w' => w'.cell? ⟨G9, 0, none⟩ = some (.slice a8 dl.length c8) ∧ w'.cell? ⟨G9, 1, none⟩ = some (.slice b8 bf.length d8) ∧ w'.cell? ⟨blk, off + n, none⟩ = some (.int .i64 bx)) ((refine HCS.out _ ?_; (repeat (first | assumption | exact Below.refl _ _ | refine below_dr ?_ | refine below_al ?_ _))))
              (first
                | (go_at_call_of 7 a8; refine (equal_same _ _ dl _ (HO.out _ (by (repeat (first | assumption | exact Below.refl _ _ | refine below_dr ?_ | refine below_al ?_ _)))) (HP.out _ (by (repeat (first | assumption | exact Below.refl _ _ | refine below_dr ?_ | refine below_al ?_ _)))) (by have := HDN.out; have := HXN.out; have := HX.out; omega)).mono ?_; rintro e wE ⟨rfl, q, hq⟩; have hBE : Below w9.heap.size w9 wE := (by rw [hq]; refine below_drewN ?_ q; (repeat (first | assumption | exact Below.refl _ _ | refine below_dr ?_ | refine below_al ?_ _))); clear hq)
                | (go_at_call 6; refine (clone_row _ ys _ (HUY.out _ (by (repeat (first | assumption | exact Below.refl _ _ | refine below_dr ?_ | refine below_al ?_ _)))) (by have := HY.out; omega)).mono ?_; rintro e wC ⟨hbC, vC, rfl, oC⟩; have hBC : Below w9.heap.size w9 wC := (by refine below_join ?_ hbC; (repeat (first | assumption | exact Below.refl _ _ | refine below_dr ?_ | refine below_al ?_ _))); try (have hrC : Reads wC (.slice (some ⟨wE.heap.size, 0, none⟩) 1 1) [now] := (reads_new wE [now] (by show 1 ≤ maxLen; decide)).below hbC))
                | (refine step_more (by rfl) (.tmp 108) (.tmp 110) rfl _ vC ys [now] bf HBF.out wC.heap.size 1 1 rfl (by simp [Act.eval, Act.put]) (by simp [Act.eval, Act.put]) (oC.alloc _) (reads_new wC [now] (by show 1 ≤ maxLen; decide)) (by decide) (by have := HY.out; omega) (Nat.le_trans hbC.size (box_below _ _).size) ?_; intro vD wD oD gD; have hBD : Below w9.heap.size w9 wD := (hBC.alloc hBC.size _).grown gD (Nat.le_trans hBC.size (box_below _ _).size) (fun j hj => Nat.le_trans hBE.size (oC.lt j hj).1); obtain ⟨aD, cD, rfl⟩ := oD.shape)
                | (refine step_more (by rfl) (.tmp 108) (.tmp 110) rfl _ vC ys [now] bf HBF.out wE.heap.size 1 1 rfl (by simp [Act.eval, Act.put]) (by simp [Act.eval, Act.put]) oC hrC (by decide) (by have := HY.out; omega) hbC.size ?_; intro vD wD oD gD; have hBD : Below w9.heap.size w9 wD := hBC.grown gD hBC.size (fun j hj => Nat.le_trans hBE.size (Nat.le_trans (box_below _ _).size (oC.lt j hj).1)); obtain ⟨aD, cD, rfl⟩ := oD.shape)
                | (go_at_call_of 7 b8; refine (equal_same _ _ bf _ (HE.out _ (by (repeat (first | assumption | exact Below.refl _ _ | refine below_dr ?_ | refine below_al ?_ _)))) (oD.reads) (by have := HBL.out; have := HY.out; omega)).mono ?_; rintro e wF ⟨rfl, q, hq⟩; have hBF : Below w9.heap.size w9 wF := (by rw [hq]; refine below_drewN ?_ q; (repeat (first | assumption | exact Below.refl _ _ | refine below_dr ?_ | refine below_al ?_ _))); clear hq))
            all_goals (go_wp2_with fail)
            all_goals go_meet
            all_goals exact hBF
        case rest =>
          have HBc : Hid (Below w.heap.size w wc) := below_trans HB9.out hcut.out HB9.out.size
          have HHc : Hid (BoxH wc w.heap.size (Value.slice a xs.length c) (Value.slice b ys.length d)) := HH9.out.below hcut.out
          clear hcut HD9 HO9 HE9 HF HB9 HH9
          obtain ⟨w11, hw11⟩ : ∃ w11, w11 = wc := ⟨_, rfl⟩
          subst hw11
          have e0 := HHc.out.cell0
          have e1 := HHc.out.cell1
          go_wp2_with fail
          obtain ⟨ff, hff⟩ : ∃ ff, ff = backF ys xs now := ⟨_, rfl⟩
          obtain ⟨fx, hfx⟩ : ∃ fx, fx = backX ys now := ⟨_, rfl⟩
          obtain ⟨fb, hfb⟩ : ∃ fb, fb = backB ys := ⟨_, rfl⟩
          obtain ⟨fl, hfl⟩ : ∃ fl, fl = ys.dropLast := ⟨_, rfl⟩
          have HF : Hid (ff = backF ys xs now ∧ fx = backX ys now ∧ fb = backB ys ∧ fl = ys.dropLast) := ⟨hff, hfx, hfb, hfl⟩
          refine (again_any _ _ xs ys now w11 (HV.out _ HBc.out) (HU.out _ HBc.out) (by have := HX.out; omega) (by have := HY.out; omega)).mono ?_
          rw [← hff, ← hfx, ← hfb, ← hfl]
          clear hff hfx hfb hfl e0 e1 HHc
          rintro e w12 ⟨hb12, a12, c12, b12, d12, rfl, o12, f12⟩
          have hba := box_below w12 (Obj.cells #[Value.slice b12 ff.length d12, Value.slice a12 fl.length c12] 24)
          have hb13 := below_trans hb12 hba hb12.size
          have HB13 : Hid (Below w.heap.size w (w12.alloc (Obj.cells #[Value.slice b12 ff.length d12, Value.slice a12 fl.length c12] 24))) := below_trans HBc.out hb13 HBc.out.size
          have HD13 : Hid (BoxH (w12.alloc (Obj.cells #[Value.slice b12 ff.length d12, Value.slice a12 fl.length c12] 24)) w12.heap.size (Value.slice b12 ff.length d12) (Value.slice a12 fl.length c12)) := BoxH.new _ _ _ _ _ _ _
          have HO13 : Hid (Reads (w12.alloc (Obj.cells #[Value.slice b12 ff.length d12, Value.slice a12 fl.length c12] 24)) (Value.slice a12 fl.length c12) fl) := o12.reads.below hba
          have HE13 : Hid (Reads (w12.alloc (Obj.cells #[Value.slice b12 ff.length d12, Value.slice a12 fl.length c12] 24)) (Value.slice b12 ff.length d12) ff) := f12.reads.below hba
          clear hba hb12 hb13 o12 f12 HBc
          go_upto_if 124 with fail
          generalize w12.alloc (Obj.cells #[Value.slice b12 ff.length d12, Value.slice a12 fl.length c12] 24) = w13 at *
          generalize w12.heap.size = G13 at *
          clear w12
          by_cases h0 : ys = []
          · obtain ⟨rfl, rfl, rfl, rfl⟩ := HF.out
            clear HF
            subst h0
            have k0 := HD13.out.cell0
            have k1 := HD13.out.cell1
            have HE0 : Hid (Reads w13 (Value.slice b12 xs.length d12) xs) := HE13.out
            have e1 : backB [] = false := rfl
            have e2 : backX [] now = now := rfl
            have e3 : backF [] xs now = xs := rfl
            go_wp2_with fail
            refine (equal_same _ _ xs w13 HE0.out (HV.out _ HB13.out) (by have := HX.out; omega)).mono ?_
            rintro e w14 ⟨rfl, q, hq⟩
            have HB14 : Hid (Below w.heap.size w w14) := by rw [hq]; exact below_drewN HB13.out q
            clear hq
            go_wp2_with fail
            go_ret
            exact ⟨rfl, HB14.out⟩
          · have hV := HU.out w13 HB13.out
            obtain ⟨_, _, _, hz⟩ | ⟨blk, off, cap, hvv, hcap, hmx, hlt, hcs⟩ := hV
            · exact absurd hz h0
            cases hvv
            have hlp : 0 < ys.length := List.length_pos_iff.2 h0
            obtain ⟨n, hn⟩ : ∃ n, n + 1 = ys.length := ⟨ys.length - 1, by omega⟩
            have hlast := hcs n (by omega)
            obtain ⟨hff, hfx, hfb, hfl⟩ := HF.out
            have hfb2 : fb = true := by rw [hfb]; simp [backB, h0]
            have hff2 : ff = xs ++ [now] := by rw [hff]; simp [backF, h0]
            have hfx2 : fx = ys.getD n 0 := by rw [hfx]; simp only [backX]; rw [if_neg h0, show ys.length - 1 = n by omega]
            have hfl2 : fl = ys.take n := by rw [hfl, List.dropLast_eq_take, show ys.length - 1 = n by omega]
            rw [← hfx2] at hlast
            have HFF : Hid (ff = xs ++ [now]) := hff2
            have HFL : Hid (ff.length = xs.length + 1) := by show _ = _; rw [hff2, List.length_append]; rfl
            have hdn : fl.length = n := by rw [hfl2, List.length_take]; omega
            have HDN : Hid (fl.length = n) := hdn
            have HYN : Hid (n < ys.length) := by show _ < _; omega
            have HP : Hid (∀ wx, Below w13.heap.size w13 wx → Reads wx (.slice (some ⟨blk, off, none⟩) n d) fl) := fun wx hb => by
              have := reads_part (fun j hj => (hb.cell (by exact hlt)).trans (hcs j hj)) (Nat.lt_of_lt_of_le hlt hb.size) 0 n d (by omega) (by omega) hmx
              rw [Nat.add_zero, List.drop_zero, ← hfl2] at this
              exact this
            have HCS : Hid (∀ w', Below w13.heap.size w13 w' → w'.cell? ⟨G13, 0, none⟩ = some (.slice b12 ff.length d12) ∧ w'.cell? ⟨G13, 1, none⟩ = some (.slice a12 fl.length c12) ∧ w'.cell? ⟨blk, off + n, none⟩ = some (.int .i64 fx)) := fun w' hb => ⟨(HD13.out.below hb).cell0, (HD13.out.below hb).cell1, (hb.cell (by exact hlt)).trans hlast⟩
            have HO : Hid (∀ wx, Below w13.heap.size w13 wx → Reads wx (.slice a12 fl.length c12) fl) := fun wx hb => HO13.out.below hb
            have HE : Hid (∀ wx, Below w13.heap.size w13 wx → Reads wx (.slice b12 ff.length d12) ff) := fun wx hb => HE13.out.below hb
            have HVX : Hid (∀ wx, Below w13.heap.size w13 wx → Reads wx (.slice a xs.length c) xs) := fun wx hb => (HV.out _ HB13.out).below hb
            subst hfb2
            have i1 : (ys.length : Int) - 1 = (n : Int) := by omega
            have i2 : (0 : Int) ≤ (n : Int) := by omega
            have i3 : (n : Int) < (ys.length : Int) := by omega
            have i4 : (n : Int) ≤ (d : Int) := by omega
            have i5 : ((ys.length : Int) == 0) = false := by rw [beq_eq_false_iff_ne]; omega
            have i6 : n < ys.length := by omega
            have i7 : (n : Int) ≤ 9223372036854775807 := by have := HY.out; omega
            clear hff hfx hfb hfl hff2 hfx2 hfl2 HF hlast hcs hcap hmx hlp hn h0 HV HU hdn
            go_upto_region 19 with fail
            go_region_held3 (fun w' => w'.cell? ⟨G13, 0, none⟩ = some (.slice b12 ff.length d12) ∧ w'.cell? ⟨G13, 1, none⟩ = some (.slice a12 fl.length c12) ∧ w'.cell? ⟨blk, off + n, none⟩ = some (.int .i64 fx)) ((refine HCS.out _ ?_; (repeat (first | assumption | exact Below.refl _ _ | refine below_dr ?_ | refine below_al ?_ _))))
              (first
                | (go_at_call_of 7 a12; refine (equal_same _ _ fl _ (HO.out _ (by (repeat (first | assumption | exact Below.refl _ _ | refine below_dr ?_ | refine below_al ?_ _)))) (HP.out _ (by (repeat (first | assumption | exact Below.refl _ _ | refine below_dr ?_ | refine below_al ?_ _)))) (by have := HDN.out; have := HYN.out; have := HY.out; omega)).mono ?_; rintro e wE ⟨rfl, q, hq⟩; have hBE : Below w13.heap.size w13 wE := (by rw [hq]; refine below_drewN ?_ q; (repeat (first | assumption | exact Below.refl _ _ | refine below_dr ?_ | refine below_al ?_ _))); clear hq)
                | (go_at_call 6; refine (clone_row _ xs _ (HVX.out _ (by (repeat (first | assumption | exact Below.refl _ _ | refine below_dr ?_ | refine below_al ?_ _)))) (by have := HX.out; omega)).mono ?_; rintro e wC ⟨hbC, vC, rfl, oC⟩; have hBC : Below w13.heap.size w13 wC := (by refine below_join ?_ hbC; (repeat (first | assumption | exact Below.refl _ _ | refine below_dr ?_ | refine below_al ?_ _))); try (have hrC : Reads wC (.slice (some ⟨wE.heap.size, 0, none⟩) 1 1) [now] := (reads_new wE [now] (by show 1 ≤ maxLen; decide)).below hbC))
                | (refine step_more (by rfl) (.tmp 168) (.tmp 170) rfl _ vC xs [now] ff HFF.out wC.heap.size 1 1 rfl (by simp [Act.eval, Act.put]) (by simp [Act.eval, Act.put]) (oC.alloc _) (reads_new wC [now] (by show 1 ≤ maxLen; decide)) (by decide) (by have := HX.out; omega) (Nat.le_trans hbC.size (box_below _ _).size) ?_; intro vD wD oD gD; have hBD : Below w13.heap.size w13 wD := (hBC.alloc hBC.size _).grown gD (Nat.le_trans hBC.size (box_below _ _).size) (fun j hj => Nat.le_trans hBE.size (oC.lt j hj).1); obtain ⟨aD, cD, rfl⟩ := oD.shape)
                | (refine step_more (by rfl) (.tmp 168) (.tmp 170) rfl _ vC xs [now] ff HFF.out wE.heap.size 1 1 rfl (by simp [Act.eval, Act.put]) (by simp [Act.eval, Act.put]) oC hrC (by decide) (by have := HX.out; omega) hbC.size ?_; intro vD wD oD gD; have hBD : Below w13.heap.size w13 wD := hBC.grown gD hBC.size (fun j hj => Nat.le_trans hBE.size (Nat.le_trans (box_below _ _).size (oC.lt j hj).1)); obtain ⟨aD, cD, rfl⟩ := oD.shape)
                | (go_at_call_of 7 b12; refine (equal_same _ _ ff _ (HE.out _ (by (repeat (first | assumption | exact Below.refl _ _ | refine below_dr ?_ | refine below_al ?_ _)))) (oD.reads) (by have := HFL.out; have := HX.out; omega)).mono ?_; rintro e wF ⟨rfl, q, hq⟩; have hBF : Below w13.heap.size w13 wF := (by rw [hq]; refine below_drewN ?_ q; (repeat (first | assumption | exact Below.refl _ _ | refine below_dr ?_ | refine below_al ?_ _))); clear hq))
            all_goals (go_wp2_with fail)
            all_goals go_ret
            all_goals exact ⟨rfl, below_trans HB13.out hBF HB13.out.size⟩
end Go.Proofs.Ytnfobonifapbmaa.Seek
