/- The walk of UndoBack. -/
import Derived.Test.YtnfobonifapbmaaSteps
set_option linter.unusedVariables false
set_option linter.unusedSimpArgs false
namespace Go.Proofs.Ytnfobonifapbmaa.Seek
open Go.RowKit

theorem int_lows {n : Int} (h : (Lit.int .i64 n).wf = true) : -9223372036854775808 ≤ n ∧ n ≤ 9223372036854775807 := by
  simp only [Lit.wf, Bool.and_eq_true, decide_eq_true_eq] at h
  exact h
/-- What is left of k by n. -/
def rst (k n : Int) : Int := (k.tmod n + n) % n
theorem rst_bounds (k n : Int) (hn : 0 < n) : 0 ≤ rst k n ∧ rst k n < n := by
  unfold rst
  exact ⟨Int.emod_nonneg _ (by omega), Int.emod_lt_of_pos _ hn⟩
theorem rest_any (k n : Int) (w : World) (hn : 0 < n) (hn2 : n ≤ 4611686018427387903) : Calls Try.prog 10 #[.int .i64 k, .int .i64 n] w fun e w' => e = .returned (.int .i64 (rst k n)) ∧ w' = w := by
  have h1 := Int.lt_tmod_of_pos k hn
  have h2 := Int.tmod_lt_of_pos k hn
  go_enter Try.func10, Try.ntmps10
  go_wp2_with fail
  go_ret
  exact ⟨rfl, rfl⟩
theorem ownI_new (w : World) (z : Int) : OwnI (w.alloc (.cells #[.int .i64 z] 3)) w.heap.size (.slice (some ⟨w.heap.size, 0, none⟩) 1 1) [z] := by
  refine ⟨rfl, .inr ⟨w.heap.size, 1, #[.int .i64 z], rfl, Nat.le_refl _, ?_, Nat.le_refl _, by decide, rfl, rfl⟩⟩
  exact heap_new _ _
theorem Reads.cell_at {w : World} {b o n c : Nat} {zs : List Int} (h : Reads w (.slice (some ⟨b, o, none⟩) n c) zs) (j : Nat) (hj : j < zs.length) : w.cell? ⟨b, o + j, none⟩ = some (.int .i64 (zs.getD j 0)) := by
  rcases h with ⟨_, _, _, rfl⟩ | ⟨b', o', c', hv, _, _, _, hc⟩
  · exact absurd hj (Nat.not_lt_zero _)
  · cases hv
    exact hc j hj
theorem OwnI.shp {w : World} {B : Nat} {v : Value} {zs : List Int} (h : OwnI w B v zs) : ∃ a c, v = .slice a zs.length c := h.reads.shape

set_option maxRecDepth 100000 in
set_option maxHeartbeats 2000000 in
theorem back_walk (v : Value) (l : List Int) (most k : Int) (w : World) (hv : Reads w v l) (hl : l.length * 8 ≤ 140737488351232) (hm : (Lit.int .i64 most).wf = true) :
    Calls Try.prog 4 #[v, .int .i64 most, .int .i64 k] w fun e w' => e = .returned (.bool true) ∧ Below w.heap.size w w' := by
  obtain ⟨a0, c0, rfl⟩ := hv.shape
  have HM : Hid (-9223372036854775808 ≤ most ∧ most ≤ 9223372036854775807) := int_lows hm
  have HL : Hid (l.length * 8 ≤ 140737488351232) := hl
  have HV : Hid (∀ wx, Below w.heap.size w wx → Reads wx (.slice a0 l.length c0) l) := fun wx hb => hv.below hb
  clear hv hm hl
  go_enter Try.func4, Try.ntmps4
  go_wp2_with fail
  refine (do_any _ _ [] 3 1 w (.inl ⟨none, 0, rfl, rfl⟩) ⟨none, 0, 0, rfl⟩ (by decide) (by decide)).mono ?_
  rintro e w1 ⟨hb1, a1, c1, rfl, o1⟩
  have e1 : done [] 3 1 = [1] := by decide
  rw [e1] at o1 ⊢
  have HO1 : Hid (Reads w1 (.slice a1 1 c1) [1]) := o1.reads
  have HB1 : Hid (Below w.heap.size w w1) := hb1
  clear hb1 o1 e1
  go_wp2_with fail
  refine (back_any _ _ [1] [] 2 w1 HO1.out (.inl ⟨none, 0, rfl, rfl⟩) (by decide) (by decide)).mono ?_
  rintro e w2 ⟨hb2, a2, c2, b2, d2, rfl, o2, f2⟩
  have HB2 : Hid (Below w.heap.size w w2) := below_trans HB1.out hb2 HB1.out.size
  have e1 : backX [1] 2 = 1 := by decide
  have e2 : backB [1] = true := by decide
  have e3 : (backF [1] [] 2).length = 1 := by decide
  have e4 : ([1] : List Int).dropLast.length = 0 := rfl
  rw [e1, e2, e3, e4]
  clear hb2 o2 f2 HB1 HO1 e1 e2 e3 e4
  go_wp2_with fail
  have HB3 : Hid (Below w.heap.size w ((w2.alloc (Obj.cells #[Value.slice a2 0 c2, Value.slice b2 1 d2] 24)).alloc (Obj.cells #[Value.slice none 0 0, Value.slice none 0 0] 24))) := below_trans HB2.out (below_two _ _ _) HB2.out.size
  have HH3 : Hid (BoxH ((w2.alloc (Obj.cells #[Value.slice a2 0 c2, Value.slice b2 1 d2] 24)).alloc (Obj.cells #[Value.slice none 0 0, Value.slice none 0 0] 24)) (w2.heap.size + 1) (.slice none 0 0) (.slice none 0 0)) := BoxH.next _ _ _ _ _ _ _ _
  have HG : Hid (w.heap.size ≤ w2.heap.size + 1) := Nat.le_trans HB2.out.size (Nat.le_succ _)
  generalize (w2.alloc (Obj.cells #[Value.slice a2 0 c2, Value.slice b2 1 d2] 24)).alloc (Obj.cells #[Value.slice none 0 0, Value.slice none 0 0] 24) = w3 at *
  generalize w2.heap.size + 1 = G at *
  clear HB2
  obtain ⟨ws, hws⟩ : ∃ ws, ws = 0 :: l := ⟨_, rfl⟩
  obtain ⟨M, hM⟩ : ∃ M, M = most.toNat := ⟨_, rfl⟩
  have HWS : Hid (ws = 0 :: l) := hws
  have HMM : Hid (M = most.toNat) := hM
  have HWL : Hid (ws.length = l.length + 1) := by show _ = _; rw [hws]; rfl
  have HW0 : Hid (ws.getD 0 0 = 0) := by show _ = _; rw [hws]; rfl
  clear hws hM
  have hl9 : (l.length : Int) ≤ 140737488351232 := by have := HL.out; omega
  go_loopw [11, 42] (fun u11 u42 wr => ∃ (j : Nat) (a : Option Addr) (c : Nat), j ≤ l.length ∧ u42 = .int .i64 (j : Int) ∧ u11 = .int .i64 (ws.getD j 0) ∧ Hid (BoxH wr G (.slice a (kept ws M j).length c) (.slice none 0 0)) ∧ Hid (Reads wr (.slice a (kept ws M j).length c) (kept ws M j)) ∧ Hid (Below w.heap.size w wr)) (fun _ u42 _ => ((l.length : Int) - intOf u42).toNat)
  case atStart => exact ⟨0, none, 0, Nat.zero_le _, rfl, by rw [HW0.out], by rw [show kept ws M 0 = [] by simp [kept]]; exact HH3.out, .inl ⟨none, 0, by simp [kept], by simp [kept]⟩, HB3.out⟩
  case round =>
    obtain ⟨j, a, c, hj, rfl, rfl, HHr, HRr, HBr⟩ := hrel
    clear HB3 HH3
    by_cases hlt : j < l.length
    · have hV := HV.out wr HBr.out
      obtain ⟨_, _, _, hz⟩ | ⟨blk, off, cap, hvv, hcap, hmx, hb, hcs⟩ := hV
      · rw [hz] at hlt
        exact absurd hlt (Nat.not_lt_zero _)
      cases hvv
      have hx := hcs j hlt
      obtain ⟨x, hxx⟩ : ∃ x, x = l.getD j 0 := ⟨_, rfl⟩
      rw [← hxx] at hx
      have HX : Hid (x = ws.getD (j + 1) 0) := by show _ = _; rw [hxx, HWS.out]; rfl
      have d0 := HHr.out.cell0
      have d1 := HHr.out.cell1
      have HJ : Hid (j < l.length) := hlt
      clear hcs hcap hmx hb hxx HV
      obtain ⟨y, hy⟩ : ∃ y, y = ws.getD j 0 := ⟨_, rfl⟩
      have HY : Hid (y = ws.getD j 0) := hy
      rw [← hy]
      clear hy
      obtain ⟨K, hK⟩ : ∃ K, K = kept ws M j := ⟨_, rfl⟩
      have HK : Hid (K = kept ws M j) := hK
      rw [← hK] at HHr HRr d0
      clear hK
      go_wp2_with fail
      have hkl : (K.length + 1) * 8 ≤ 281474976710656 := by
        have := HL.out
        have h2 := kept_len ws M j (by rw [HWL.out]; omega)
        rw [HK.out, h2]
        omega
      refine (do_any _ _ K most y wr HRr.out ⟨none, 0, 0, rfl⟩ hkl HM.out.2).mono ?_
      clear hkl
      rintro e w4 ⟨hb4, a4, c4, rfl, o4⟩
      have hdn : done K most y = kept ws M (j + 1) := by
        rw [HK.out, HY.out, HMM.out]
        exact kept_step ws most j (by rw [HWL.out]; omega)
      rw [hdn] at o4 ⊢
      have HB4 : Hid (Below w.heap.size w w4) := below_trans HBr.out hb4 HBr.out.size
      have HH4 : Hid (BoxH w4 G (.slice a K.length c) (.slice none 0 0)) := HHr.out.below hb4
      have HO4 : Hid (Reads w4 (.slice a4 (kept ws M (j + 1)).length c4) (kept ws M (j + 1))) := o4.reads
      clear hb4 o4 hdn d0 d1 HHr HRr HBr
      go_wp2_with (refine storeH rfl _ _ rfl G rfl _ _ _ _ _ _ _ _ rfl HH4.out ?_)
      intro w5 hz hg
      have HB5 : Hid (Below w.heap.size w w5) := HB4.out.grown hg HB4.out.size (fun i hi => by have := HG.out; cases hi; omega)
      have HO5 : Hid (Reads w5 (.slice a4 (kept ws M (j + 1)).length c4) (kept ws M (j + 1))) := HO4.out.keptH hg HH4.out
      have HH5 : Hid (BoxH w5 G (.slice a4 (kept ws M (j + 1)).length c4) (.slice none 0 0)) := hz
      clear hz hg HB4 HO4 HH4 hx
      go_wp2_with fail
      go_roundw
      case rel => exact ⟨j + 1, a4, c4, HJ.out, by go_num, by rw [HX.out], HH5.out, HO5.out, HB5.out⟩
      case measure => have := HJ.out; simp [intOf]; omega
    · obtain rfl : j = l.length := by omega
      clear hlt hj
      obtain ⟨y, hy⟩ : ∃ y, y = cur ws l.length 0 := ⟨_, rfl⟩
      have HY : Hid (y = cur ws l.length 0) := hy
      have hyy : ws.getD l.length 0 = y := by rw [hy]; rfl
      rw [hyy]
      clear hy hyy
      obtain ⟨K, hK⟩ : ∃ K, K = kept ws M l.length := ⟨_, rfl⟩
      have HK : Hid (K = kept ws M l.length) := hK
      have hkl : K.length = min l.length M := by rw [hK]; exact kept_len ws M _ (by rw [HWL.out]; omega)
      have HKL : Hid (K.length = min l.length M) := hkl
      rw [← hK] at HHr HRr
      clear hK
      have hmx : max (0 : Int) most = (M : Int) := by have := HMM.out; omega
      have hkm : ¬ (M : Int) < (K.length : Int) := by omega
      clear hkl
      have d0 := HHr.out.cell0
      have d1 := HHr.out.cell1
      have hba := box_below wr (Obj.cells #[Value.int .i64 0] 3)
      have HN : Hid (OwnI (wr.alloc (Obj.cells #[Value.int .i64 0] 3)) wr.heap.size (.slice (some ⟨wr.heap.size, 0, none⟩) 1 1) [0]) := ownI_new wr 0
      have HVr : Hid (Reads (wr.alloc (Obj.cells #[Value.int .i64 0] 3)) (.slice a0 l.length c0) l) := (HV.out wr HBr.out).below hba
      have HRa : Hid (Below wr.heap.size wr (wr.alloc (Obj.cells #[Value.int .i64 0] 3))) := hba
      clear hba
      go_wp2_with (at_builtin; refine append_any rfl _ _ rfl wr.heap.size _ _ [0] l ws (by rw [HWS.out]; rfl) rfl HN.out rfl HVr.out (by have := HL.out; show (1 + l.length) * 8 ≤ _; omega) HRa.out.size ?_)
      intro vw w4 h4 hg4 hr4
      have hb4 : Below wr.heap.size wr w4 := HRa.out.grown hg4 HRa.out.size (fun i hi => (HN.out.lt i hi).1)
      obtain ⟨aw, cw, rfl⟩ := h4.shp
      have HB4 : Hid (Below w.heap.size w w4) := below_trans HBr.out hb4 HBr.out.size
      have HH4 : Hid (BoxH w4 G (.slice a K.length c) (.slice none 0 0)) := HHr.out.below hb4
      have HO4 : Hid (Reads w4 (.slice a K.length c) K) := HRr.out.below hb4
      have HW4 : Hid (Reads w4 (.slice aw ws.length cw) ws) := h4.reads
      clear hb4 h4 hg4 hr4 HN HVr HRa HHr HRr HBr d0 d1 hkm hmx
      go_upto_region 15 with fail
      obtain ⟨n, hn⟩ : ∃ n, n = l.length := ⟨_, rfl⟩
      have HNL : Hid (n = l.length) := hn
      have hb0 := rst_bounds k ((l.length : Int) + 1) (by omega)
      obtain ⟨q, hq⟩ : ∃ q : Nat, (q : Int) = min (rst k ((l.length : Int) + 1)) (K.length : Int) := ⟨(min (rst k ((l.length : Int) + 1)) (K.length : Int)).toNat, by omega⟩
      have HQ : Hid (q ≤ min n M) := by show q ≤ _; have := HKL.out; omega
      have HRE : Hid (∀ wx, Calls Try.prog 10 #[.int .i64 k, .int .i64 ((l.length : Int) + 1)] wx fun e w' => e = .returned (.int .i64 (rst k ((l.length : Int) + 1))) ∧ w' = wx) := fun wx => rest_any k _ wx (by omega) (by omega)
      have hmin : min (rst k ((l.length : Int) + 1)) (K.length : Int) = (q : Int) := hq.symm
      have HCS : Hid (∀ w', Below w4.heap.size w4 w' → w'.cell? ⟨G, 0, none⟩ = some (.slice a K.length c)) := fun w' hb => (HH4.out.below hb).cell0
      obtain ⟨Z, hZ⟩ : ∃ Z, Z = rst k ((l.length : Int) + 1) := ⟨_, rfl⟩
      rw [← hZ] at hmin HRE
      clear hn hq hb0 hZ
      have hwr : IntKind.i64.wrap ((l.length : Int) + 1) = (l.length : Int) + 1 := by rw [IntKind.wrap_i64]; omega
      go_region_held3 (fun w' => w'.cell? ⟨G, 0, none⟩ = some (.slice a K.length c)) ((refine HCS.out _ ?_; (repeat (first | assumption | exact Below.refl _ _ | refine below_dr ?_ | refine below_al ?_ _))))
        (first
          | (go_at_call 10; refine (HRE.out _).mono ?_; rintro e w5 ⟨rfl, rfl⟩))
      go_wp2_with fail
      obtain ⟨bw, ow, rfl⟩ : ∃ bw ow, aw = some ⟨bw, ow, none⟩ := by
        rcases HW4.out with ⟨_, _, _, h0⟩ | ⟨bw, ow, _, hv, _⟩
        · have := HWL.out; rw [h0] at this; simp at this
        · cases hv; exact ⟨_, _, rfl⟩
      have HWN : Hid (ws.length = n + 1) := by show _ = _; rw [HWL.out, HNL.out]
      have hwn : (ws.length : Int) = (n : Int) + 1 := by have := HWN.out; omega
      have hn9 : (n : Int) ≤ 140737488351232 := by rw [HNL.out]; exact hl9
      have HN8 : Hid (n * 8 ≤ 140737488351232) := by show _ ≤ _; rw [HNL.out]; exact HL.out
      have HB5 : Hid (Below w.heap.size w w4.drew) := HB4.out.drew
      have HH5 : Hid (BoxH w4.drew G (.slice a (pst ws n M 0).length c) (.slice none (fut ws n 0).length 0)) := by
        rw [fut_zero ws n HWN.out, pst_zero, HNL.out, ← HK.out]; exact HH4.out
      have HP5 : Hid (Reads w4.drew (.slice a (pst ws n M 0).length c) (pst ws n M 0)) := by
        rw [pst_zero, HNL.out, ← HK.out]; exact HO4.out
      have HF5 : Hid (Reads w4.drew (.slice none (fut ws n 0).length 0) (fut ws n 0)) := by
        rw [fut_zero ws n HWN.out]; exact .inl ⟨_, _, rfl, rfl⟩
      have HW5 : Hid (Reads w4.drew (.slice (some ⟨bw, ow, none⟩) ws.length cw) ws) := HW4.out
      have HY0 : Hid (y = cur ws n 0) := by show _ = _; rw [HY.out, HNL.out]
      clear HB4 HH4 HO4 HW4 HCS HRE hmin hwr HKL HK HL HV HW0 HWS HMM HM hl9 HY
      go_loopw [11, 71] (fun u11 u71 wr => ∃ (i : Nat) (a : Option Addr) (c : Nat) (b : Option Addr) (d : Nat), i ≤ q ∧ u71 = .int .i64 (i : Int) ∧ u11 = .int .i64 (cur ws n i) ∧ Hid (BoxH wr G (.slice a (pst ws n M i).length c) (.slice b (fut ws n i).length d)) ∧ Hid (Reads wr (.slice a (pst ws n M i).length c) (pst ws n M i)) ∧ Hid (Reads wr (.slice b (fut ws n i).length d) (fut ws n i)) ∧ Hid (Reads wr (.slice (some ⟨bw, ow, none⟩) ws.length cw) ws) ∧ Hid (Below w.heap.size w wr)) (fun _ u71 _ => ((q : Int) - intOf u71).toNat)
      case atStart => exact ⟨0, a, c, none, 0, Nat.zero_le _, rfl, by rw [HY0.out], HH5.out, HP5.out, HF5.out, HW5.out, HB5.out⟩
      case round =>
        obtain ⟨i, a5, c5, b5, d5, hi, rfl, rfl, HHr, HPr, HFr, HWr, HBr⟩ := hrel
        clear HB5 HH5 HP5 HF5 HW5 HY0
        by_cases hlt : i < q
        · obtain ⟨P, hP⟩ : ∃ P, P = pst ws n M i := ⟨_, rfl⟩
          obtain ⟨P', hP'⟩ : ∃ P', P' = pst ws n M (i + 1) := ⟨_, rfl⟩
          obtain ⟨F, hF⟩ : ∃ F, F = fut ws n i := ⟨_, rfl⟩
          obtain ⟨F', hF'⟩ : ∃ F', F' = fut ws n (i + 1) := ⟨_, rfl⟩
          obtain ⟨z, hz⟩ : ∃ z, z = cur ws n i := ⟨_, rfl⟩
          obtain ⟨z', hz'⟩ : ∃ z', z' = cur ws n (i + 1) := ⟨_, rfl⟩
          have hPs : P = P' ++ [z'] := by rw [hP, hP', hz']; exact pst_snoc ws n M i HWN.out (by have := HQ.out; omega)
          have hFs : F' = F ++ [z] := by rw [hF, hF', hz]; exact fut_snoc ws n i HWN.out (by have := HQ.out; omega)
          have hPl : P.length ≤ n := by rw [hP]; exact pst_le ws n M i
          have hFl : F.length = i := by rw [hF]; exact fut_le ws n i HWN.out (by have := HQ.out; omega)
          rw [← hP, ← hF] at HHr
          rw [← hP] at HPr
          rw [← hF] at HFr
          rw [← hz]
          obtain ⟨j, hj⟩ : ∃ j, j = n - (i + 1) := ⟨_, rfl⟩
          have hjI : (n : Int) + 1 - 2 - (i : Int) = (j : Int) := by have := HQ.out; omega
          have hjl : (j : Int) < (n : Int) + 1 := by omega
          have hjn : j < ws.length := by rw [HWN.out]; omega
          have hzc : ws.getD j 0 = z' := by rw [hz', hj]; rfl
          have hc := back_any _ _ P F z wr HPr.out HFr.out (by have := HN8.out; omega) (by have := HQ.out; have := HN8.out; omega)
          have q1 : P.dropLast = P' := by rw [hPs]; exact drop_last _ _
          have q2 : backF P F z = F' := by rw [hPs, hFs]; exact backF_snoc _ _ _ _
          have q3 : backX P z = z' := by rw [hPs]; exact backX_snoc _ _ _
          have q4 : backB P = true := by rw [hPs]; exact backB_snoc _ _
          rw [q1, q2, q3, q4] at hc
          have HC : Hid (Calls Try.prog 8 _ _ _) := hc
          have HE : Hid (P' = pst ws n M (i + 1) ∧ F' = fut ws n (i + 1) ∧ z' = cur ws n (i + 1) ∧ i < q) := ⟨hP', hF', hz', hlt⟩
          have HCE : Hid (∀ wx, Reads wx (.slice (some ⟨bw, ow, none⟩) ws.length cw) ws → wx.cell? ⟨bw, ow + j, none⟩ = some (.int .i64 z')) := fun wx hr => by
            have := hr.cell_at j hjn
            rw [hzc] at this
            exact this
          have d0 := HHr.out.cell0
          have d1 := HHr.out.cell1
          clear hP hP' hF hF' hz hz' hPs hFs hPl hFl hj hzc hc q1 q2 q3 q4 HPr HFr hjn
          go_wp2_with fail
          refine HC.out.mono ?_
          rintro e w6 ⟨hb6, a6, c6, b6, d6, rfl, o6, f6⟩
          have HB6 : Hid (Below w.heap.size w w6) := below_trans HBr.out hb6 HBr.out.size
          have HH6 : Hid (BoxH w6 G (.slice a5 P.length c5) (.slice b5 F.length d5)) := HHr.out.below hb6
          have HP6 : Hid (Reads w6 (.slice a6 P'.length c6) P') := o6.reads
          have HF6 : Hid (Reads w6 (.slice b6 F'.length d6) F') := f6.reads
          have HW6 : Hid (Reads w6 (.slice (some ⟨bw, ow, none⟩) ws.length cw) ws) := HWr.out.below hb6
          clear hb6 o6 f6 d0 d1 HHr HWr HBr HC
          go_wp2_with (refine storeH rfl _ _ rfl G rfl _ _ _ _ _ _ _ _ rfl HH6.out ?_)
          intro w7 hz hg
          have HB7 : Hid (Below w.heap.size w w7) := HB6.out.grown hg HB6.out.size (fun i hi => by have := HG.out; cases hi; omega)
          have HH7 : Hid (BoxH w7 G (.slice a6 P'.length c6) (.slice b6 F'.length d6)) := hz
          have HP7 : Hid (Reads w7 (.slice a6 P'.length c6) P') := HP6.out.keptH hg HH6.out
          have HF7 : Hid (Reads w7 (.slice b6 F'.length d6) F') := HF6.out.keptH hg HH6.out
          have HW7 : Hid (Reads w7 (.slice (some ⟨bw, ow, none⟩) ws.length cw) ws) := HW6.out.keptH hg HH6.out
          have hcell := HCE.out w7 HW7.out
          clear hz hg HB6 HH6 HP6 HF6 HW6 HCE
          go_wp2_with fail
          go_roundw
          case rel =>
            obtain ⟨hP, hF, hz, hl⟩ := HE.out
            subst hP hF hz
            exact ⟨i + 1, a6, c6, b6, d6, hl, by go_num, rfl, HH7.out, HP7.out, HF7.out, HW7.out, HB7.out⟩
          case measure => have := HE.out.2.2.2; simp [intOf]; omega
        · obtain rfl : i = q := by omega
          clear hlt hi
          go_wp2_with fail
          go_loopw [11, 97] (fun u11 u97 wx => ∃ (m : Nat) (a : Option Addr) (c : Nat) (b : Option Addr) (d : Nat), m ≤ i ∧ u97 = .int .i64 (m : Int) ∧ u11 = .int .i64 (cur ws n (i - m)) ∧ Hid (BoxH wx G (.slice a (pst ws n M (i - m)).length c) (.slice b (fut ws n (i - m)).length d)) ∧ Hid (Reads wx (.slice a (pst ws n M (i - m)).length c) (pst ws n M (i - m))) ∧ Hid (Reads wx (.slice b (fut ws n (i - m)).length d) (fut ws n (i - m))) ∧ Hid (Reads wx (.slice (some ⟨bw, ow, none⟩) ws.length cw) ws) ∧ Hid (Below w.heap.size w wx)) (fun _ u97 _ => ((i : Int) - intOf u97).toNat)
          case atStart => exact ⟨0, a5, c5, b5, d5, Nat.zero_le _, rfl, rfl, HHr.out, HPr.out, HFr.out, HWr.out, HBr.out⟩
          case round =>
            obtain ⟨m, a7, c7, b7, d7, hm, rfl, rfl, HHx, HPx, HFx, HWx, HBx⟩ := hrel
            clear HHr HPr HFr HWr HBr
            by_cases hlt : m < i
            · obtain ⟨t, ht⟩ : ∃ t, t = i - (m + 1) := ⟨_, rfl⟩
              have hmt : i - m = t + 1 := by omega
              rw [hmt] at HHx HPx HFx ⊢
              obtain ⟨P, hP⟩ : ∃ P, P = pst ws n M t := ⟨_, rfl⟩
              obtain ⟨P', hP'⟩ : ∃ P', P' = pst ws n M (t + 1) := ⟨_, rfl⟩
              obtain ⟨F, hF⟩ : ∃ F, F = fut ws n t := ⟨_, rfl⟩
              obtain ⟨F', hF'⟩ : ∃ F', F' = fut ws n (t + 1) := ⟨_, rfl⟩
              obtain ⟨z, hz⟩ : ∃ z, z = cur ws n t := ⟨_, rfl⟩
              obtain ⟨z', hz'⟩ : ∃ z', z' = cur ws n (t + 1) := ⟨_, rfl⟩
              have hPs : P = P' ++ [z'] := by rw [hP, hP', hz']; exact pst_snoc ws n M t HWN.out (by have := HQ.out; omega)
              have hFs : F' = F ++ [z] := by rw [hF, hF', hz]; exact fut_snoc ws n t HWN.out (by have := HQ.out; omega)
              have hPl : P'.length ≤ n := by rw [hP']; exact pst_le ws n M (t + 1)
              have hFl : F'.length = t + 1 := by rw [hF']; exact fut_le ws n (t + 1) HWN.out (by have := HQ.out; omega)
              rw [← hP', ← hF'] at HHx
              rw [← hP'] at HPx
              rw [← hF'] at HFx
              rw [← hz']
              obtain ⟨j, hj⟩ : ∃ j, j = n - t := ⟨_, rfl⟩
              have hjI : (n : Int) + 1 - (i : Int) + (m : Int) = (j : Int) := by have := HQ.out; omega
              have hjl : (j : Int) < (n : Int) + 1 := by omega
              have hjn : j < ws.length := by rw [HWN.out]; omega
              have hzc : ws.getD j 0 = z := by rw [hz, hj]; rfl
              have hin : (i : Int) ≤ (n : Int) := by have := HQ.out; omega
              have hc := again_any _ _ P' F' z' wr HPx.out HFx.out (by have := HN8.out; omega) (by have := HQ.out; have := HN8.out; omega)
              have q1 : F'.dropLast = F := by rw [hFs]; exact drop_last _ _
              have q2 : backF F' P' z' = P := by rw [hPs, hFs]; exact backF_snoc _ _ _ _
              have q3 : backX F' z' = z := by rw [hFs]; exact backX_snoc _ _ _
              have q4 : backB F' = true := by rw [hFs]; exact backB_snoc _ _
              rw [q1, q2, q3, q4] at hc
              have HC : Hid (Calls Try.prog 9 _ _ _) := hc
              have HE : Hid (P = pst ws n M (i - (m + 1)) ∧ F = fut ws n (i - (m + 1)) ∧ z = cur ws n (i - (m + 1)) ∧ m < i) := by rw [← ht]; exact ⟨hP, hF, hz, hlt⟩
              have HCE : Hid (∀ wx, Reads wx (.slice (some ⟨bw, ow, none⟩) ws.length cw) ws → wx.cell? ⟨bw, ow + j, none⟩ = some (.int .i64 z)) := fun wx hr => by
                have := hr.cell_at j hjn
                rw [hzc] at this
                exact this
              have d0 := HHx.out.cell0
              have d1 := HHx.out.cell1
              clear hP hP' hF hF' hz hz' hPs hFs hPl hFl hj hzc hc q1 q2 q3 q4 HPx HFx hjn ht hmt hm
              go_wp2_with fail
              refine HC.out.mono ?_
              rintro e w6 ⟨hb6, a6, c6, b6, d6, rfl, o6, f6⟩
              have HB6 : Hid (Below w.heap.size w w6) := below_trans HBx.out hb6 HBx.out.size
              have HH6 : Hid (BoxH w6 G (.slice a7 P'.length c7) (.slice b7 F'.length d7)) := HHx.out.below hb6
              have HF6 : Hid (Reads w6 (.slice a6 F.length c6) F) := o6.reads
              have HP6 : Hid (Reads w6 (.slice b6 P.length d6) P) := f6.reads
              have HW6 : Hid (Reads w6 (.slice (some ⟨bw, ow, none⟩) ws.length cw) ws) := HWx.out.below hb6
              clear hb6 o6 f6 d0 d1 HHx HWx HBx HC
              go_wp2_with (refine storeH rfl _ _ rfl G rfl _ _ _ _ _ _ _ _ rfl HH6.out ?_)
              intro w7 hz hg
              have HB7 : Hid (Below w.heap.size w w7) := HB6.out.grown hg HB6.out.size (fun i hi => by have := HG.out; cases hi; omega)
              have HH7 : Hid (BoxH w7 G (.slice b6 P.length d6) (.slice a6 F.length c6)) := hz
              have HP7 : Hid (Reads w7 (.slice b6 P.length d6) P) := HP6.out.keptH hg HH6.out
              have HF7 : Hid (Reads w7 (.slice a6 F.length c6) F) := HF6.out.keptH hg HH6.out
              have HW7 : Hid (Reads w7 (.slice (some ⟨bw, ow, none⟩) ws.length cw) ws) := HW6.out.keptH hg HH6.out
              have hcell := HCE.out w7 HW7.out
              clear hz hg HB6 HH6 HP6 HF6 HW6 HCE
              go_wp2_with fail
              go_roundw
              case rel =>
                obtain ⟨hP, hF, hz, hl⟩ := HE.out
                subst hP hF hz
                exact ⟨m + 1, b6, d6, a6, c6, hl, by go_num, rfl, HH7.out, HP7.out, HF7.out, HW7.out, HB7.out⟩
              case measure => have := HE.out.2.2.2; simp [intOf]; omega
            · obtain rfl : m = i := by omega
              rw [Nat.sub_self] at HHx HPx HFx ⊢
              have hf0 : (fut ws n 0).length = 0 := by rw [fut_zero ws n HWN.out]; rfl
              rw [hf0] at HHx
              have d1 := HHx.out.cell1
              obtain ⟨z, hz⟩ : ∃ z, z = cur ws n 0 := ⟨_, rfl⟩
              rw [← hz]
              have hzc : ws.getD n 0 = z := by rw [hz]; rfl
              have hcell := HWx.out.cell_at n (by rw [HWN.out]; omega)
              rw [hzc] at hcell
              clear hlt hm hz hzc hf0 HHx HPx HFx HWx
              go_wp2_with fail
              go_ret
              exact ⟨rfl, HBx.out⟩
end Go.Proofs.Ytnfobonifapbmaa.Seek
