/- The walk of SeekBorders. -/
import Derived.Test.YtppgpejeedjajaaSets
set_option linter.unusedVariables false
set_option linter.unusedSimpArgs false
namespace Go.Proofs.Ytppgpejeedjajaa.Seek
open Go.RowKit Go.Maps

set_option maxRecDepth 100000 in
set_option maxHeartbeats 4000000 in
theorem borders_walk (v : Value) (ps : List Int) (w : World) (hp : Reads w v ps) (hpr : ps.length * 8 ≤ 140737488351232) :
    Calls Try.prog 4 #[v] w fun e w' => e = .returned (.bool true) ∧ Below w.heap.size w w' := by
  obtain ⟨a1, c1, hv1⟩ := hp.shape
  subst hv1
  have Hp : Hid (Reads w (.slice a1 ps.length c1) ps) := hp
  clear hp
  have Hpm : Hid (ps.length ≤ maxLen) := by show ps.length ≤ maxLen; unfold maxLen; omega
  have hmm := @run_makeMap Try.prog
  go_enter Try.func4, Try.ntmps4
  go_wp2_with fail
  refine (of_any ⟨#[97, 98, 97, 98]⟩ w (by decide)).mono ?_
  rintro e w1 ⟨hb1, v1, rfl, hown1⟩
  have hr1 := owned_reads hown1
  clear hown1
  go_wp2_with fail
  refine (borders_any _ _ w1 hr1 (by decide)).mono ?_
  rintro e w2 ⟨hb2, h⟩
  obtain ⟨_, vb, rfl, hrb⟩ := h.resolve_left (fun h => absurd h.1 (by decide))
  clear h
  rw [bords_abab] at hrb
  have Hrb : Hid (Reads w2 vb [0, 0, 1, 2]) := hrb
  have hB2 := below_trans hb1 hb2 hb1.size
  clear hrb hr1 hb1 hb2
  go_wp2_with fail
  refine (equal_any _ _ [0, 0, 1, 2] [0, 0, 1, 2] _ (Hrb.out.below ((Below.refl _ _).alloc (Nat.le_refl _) _)) (reads_new w2 [0, 0, 1, 2] (by decide)) (by decide) (by decide)).mono ?_
  rintro e w3 ⟨rfl, q3, hw3⟩
  have hB3 : Below w.heap.size w w3 := by rw [hw3]; exact below_drewN (hB2.alloc hB2.size _) q3
  rw [beq_self_eq_true]
  clear hw3 Hrb hB2
  go_wp2_with fail
  refine (borders_any _ ps w3 (Hp.out.below hB3) Hpm.out).mono ?_
  rintro e w4 ⟨hb4, ⟨hl, rfl⟩ | ⟨hl, vb2, rfl, hrb⟩⟩
  · have hB4 := below_trans hB3 hb4 hB3.size
    go_wp2_with fail
    go_ret
    exact ⟨rfl, hB4⟩
  · have hB4 := below_trans hB3 hb4 hB3.size
    obtain ⟨a3, c3, hvb⟩ := hrb.shape
    subst hvb
    rw [bords_len] at hrb ⊢
    have Hp4 : Hid (Reads w4 (.slice a1 ps.length c1) ps) := Hp.out.below hB4
    have Hrb : Hid (Reads w4 (.slice a3 ps.length c3) (bords ps)) := hrb
    clear hrb hb4 hB3
    by_cases hp0 : ps.length = 0
    · rw [hp0]
      go_wp2_with fail
      go_ret
      exact ⟨rfl, hB4⟩
    · rcases Hp4.out with ⟨_, _, _, rfl⟩ | ⟨b, o, c, he, hcap, hcm, hblt, hc⟩
      · exact absurd rfl hp0
      · rcases Hrb.out with ⟨_, _, _, h0⟩ | ⟨bb, bo, cc, heb, _, _, hbblt, hcb⟩
        · have := bords_len ps
          rw [h0] at this
          exact absurd this.symm hp0
        · simp only [Value.slice.injEq] at he heb
          obtain ⟨rfl, hx1, rfl⟩ := he
          obtain ⟨rfl, hx2, rfl⟩ := heb
          clear hx1 hx2
          have Hc : Hid (∀ j, j < ps.length → w4.cell? ⟨b, o + j, none⟩ = some (.int .i64 (ps.getD j 0))) := hc
          have Hcb : Hid (∀ k, 0 < k → k ≤ ps.length → w4.cell? ⟨bb, bo + (k - 1), none⟩ = some (.int .i64 ((Plain.lb (fn ps) k : Nat) : Int))) := fun k h0 hk => by
            have h := hcb (k - 1) (by rw [bords_len]; omega)
            rw [bords_get ps (k - 1) (by omega), show k - 1 + 1 = k by omega] at h
            exact h
          clear hc hcb
          have hlast : (w4.alloc (Obj.map #[] 0)).cell? ⟨bb, bo + (ps.length - 1), none⟩ = some (.int .i64 ((Plain.lb (fn ps) ps.length : Nat) : Int)) :=
            (((Below.refl _ w4).alloc (Nat.le_refl _) (Obj.map #[] 0)).cell (by exact hbblt)).trans (Hcb.out ps.length (by omega) (Nat.le_refl _))
          have hpz : ((ps.length : Int) == 0) = false := by simp; intro h; exact hp0 (by rw [h]; rfl)
          have hI1 : ((ps.length : Int) - 1).toNat = ps.length - 1 := by omega
          have hI2 : (0 : Int) ≤ (ps.length : Int) - 1 := by omega
          have Hk0 : Hid (Plain.Bord (fn ps) ps.length (Plain.lb (fn ps) ps.length)) := (Plain.lb_long (fn ps) ps.length (by omega)).1
          have Hno : Hid (∀ x, false = (bordB (fn ps) ps.length x && decide (Plain.lb (fn ps) ps.length < x))) := fun x => by
            by_cases hx : Plain.Bord (fn ps) ps.length x
            · have := (Plain.lb_long (fn ps) ps.length (by omega)).2 x hx
              simp
              omega
            · rw [show bordB (fn ps) ps.length x = false from by rw [← Bool.not_eq_true, bordB_true]; exact hx]
              rfl
          have hk0l : Plain.lb (fn ps) ps.length < ps.length := Hk0.out.1
          generalize Plain.lb (fn ps) ps.length = k0 at *
          go_wp2_with fail
          clear hlast
          go_loopw [8] (fun u8 wr => ∃ (k i : Nat) (D : DataW Unit), u8 = .int .i64 (k : Int) ∧ Hid (Plain.Bord (fn ps) ps.length k) ∧ i + k ≤ ps.length ∧ k < ps.length ∧ wr.ownsMap Try.prog 3 (plainElem Try.prog 3) w4.heap.size i D ∧ Hid (HoldsSet (fun x => bordB (fn ps) ps.length x && decide (k < x)) D) ∧ Below w4.heap.size w4 wr)
            (fun u8 _ => (intOf u8).toNat)
          case atStart => exact ⟨k0, 0, .map [], rfl, Hk0.out, by omega, hk0l, World.ownsMap_made _ _ _ _, set_none.of Hno.out, (Below.refl _ _).alloc (Nat.le_refl _) _⟩
          case round =>
            obtain ⟨k, i, D, rfl, Hk, hik, hkl, hown, HD, hbr⟩ := hrel
            by_cases hk1 : 0 < k
            · have hcx : wr.cell? ⟨bb, bo + (k - 1), none⟩ = some (.int .i64 ((Plain.lb (fn ps) k : Nat) : Int)) := (hbr.cell (by exact hbblt)).trans (Hcb.out k hk1 (by omega))
              have Hk2 : Hid (Plain.Bord (fn ps) ps.length (Plain.lb (fn ps) k)) := Plain.chain_bord Hk.out (Plain.lb_long _ _ hk1)
              have hlt2 := Plain.lb_lt (fn ps) k hk1
              have Hab : Hid (∀ x, (bordB (fn ps) ps.length x && decide (Plain.lb (fn ps) k < x)) = ((bordB (fn ps) ps.length x && decide (k < x)) || x == k)) := bords_above Hk.out hk1
              generalize Plain.lb (fn ps) k = k2 at *
              have hkey := key_nat k (by omega)
              have hI3 : ((k : Int) - 1).toNat = k - 1 := by omega
              have hI4 : (0 : Int) ≤ (k : Int) - 1 := by omega
              go_wp2_with (at_mapUpdate; refine wpList_mapUpdate_own _ rfl _ _ _ 34 rfl 3 3 law3 Try.underlying34 _ w4.heap.size i _ rfl hown (by unfold maxLen; omega) _ _ _ rfl rfl hkey _ [] (plainElem_int (a := 1) Try.underlying3 (by decide)) ?_)
              intro w5 hown1 hgrow1
              have HD1 : Hid (HoldsSet (fun x => bordB (fn ps) ps.length x && decide (k2 < x)) (D.put (.int .i64 (k : Int)) (.lit (.int .i64 1)))) := (set_put HD.out k).of fun x => (Hab.out x).symm
              have hb5 : Below w4.heap.size w4 w5 := hbr.grown hgrow1 hbr.size (fun j hj => by cases hj; exact Nat.le_refl _)
              have hcx5 : w5.cell? ⟨bb, bo + (k - 1), none⟩ = some (.int .i64 (k2 : Int)) := by
                rw [hb5.cell (by exact hbblt), ← hbr.cell (by exact hbblt)]
                exact hcx
              clear hown hgrow1 hbr HD hcx Hab
              go_wp2_with fail
              go_roundw
              case rel => exact ⟨k2, i + 1, _, rfl, Hk2.out, by omega, by omega, hown1, HD1.out, hb5⟩
              case measure => simp [intOf]; omega
            · obtain rfl : k = 0 := by omega
              have hB5 := below_trans hB4 hbr hB4.size
              have Hcr : Hid (∀ j, j < ps.length → wr.cell? ⟨b, o + j, none⟩ = some (.int .i64 (ps.getD j 0))) := fun j hj => (hbr.cell (by exact hblt)).trans (Hc.out j hj)
              have hbr2 : b < wr.heap.size := Nat.lt_of_lt_of_le hblt hbr.size
              have Hlook : Hid (∀ q, ∀ x : Nat, x ≤ 9223372036854775807 → (Instr.lookup 34 (.map (some w4.heap.size)) (.int .i64 (x : Int)) false).run Try.prog (wr.drewN q) = .ok (.int .i64 (if (bordB (fn ps) ps.length x && decide (0 < x)) = true then 1 else 0)) (wr.drewN q)) := fun q x hx =>
                set_look (w := wr.drewN q) hown HD.out x hx
              clear hown HD Hcb hbr Hc Hk
              generalize wr = w5 at *
              go_wp2_with fail
              go_loopw [9] (fun u9 wr => ∃ k : Nat, u9 = .int .i64 (k : Int) ∧ 1 ≤ k ∧ k ≤ ps.length ∧ Hid (∃ q, wr = w5.drewN q)) (fun u9 _ => ps.length - (intOf u9).toNat)
              case atStart => exact ⟨1, rfl, by omega, by omega, ⟨0, rfl⟩⟩
              case round =>
                obtain ⟨k, rfl, hk1, hkl, Hq⟩ := hrel
                by_cases hlt : k < ps.length
                · have hlook : ∀ q, (Instr.lookup 34 (.map (some w4.heap.size)) (.int .i64 (k : Int)) false).run Try.prog (wr.drewN q) = .ok (.int .i64 (if bordB (fn ps) ps.length k = true then 1 else 0)) (wr.drewN q) := by
                    obtain ⟨q0, hq0⟩ := Hq.out
                    intro q
                    have := Hlook.out (q0 + q) k (by omega)
                    rw [decide_eq_true (show 0 < k by omega), Bool.and_true] at this
                    rw [hq0, World.drewN_drewN]
                    exact this
                  have hbrr : b < wr.heap.size := by obtain ⟨q0, hq0⟩ := Hq.out; rw [hq0]; exact hbr2
                  have Hcrr : Hid (∀ j, j < ps.length → wr.cell? ⟨b, o + j, none⟩ = some (.int .i64 (ps.getD j 0))) := by obtain ⟨q0, hq0⟩ := Hq.out; rw [hq0]; exact Hcr.out
                  have h1 : Reads wr (.slice (some ⟨b, o, none⟩) k c1) (ps.take k) := by
                    have := reads_part Hcrr.out hbrr 0 k c1 (by omega) (by omega) hcm
                    rw [Nat.add_zero, List.drop_zero] at this
                    exact this
                  have h2 : Reads wr (.slice (some ⟨b, o + (ps.length - k), none⟩) k (c1 - (ps.length - k))) ((ps.drop (ps.length - k)).take k) := reads_part Hcrr.out hbrr (ps.length - k) k _ (by omega) (by omega) (by unfold maxLen at hcm ⊢; omega)
                  have hcall : ∀ q2, Calls Try.prog 14 #[.slice (some ⟨b, o, none⟩) k c1, .slice (some ⟨b, o + (ps.length - k), none⟩) k (c1 - (ps.length - k))] (wr.drewN q2) fun e w' => e = .returned (.bool (ps.take k == (ps.drop (ps.length - k)).take k)) ∧ ∃ m, w' = (wr.drewN q2).drewN m := fun q2 =>
                    equal_any _ _ _ _ _ (h1.drewN q2) (h2.drewN q2) (by rw [List.length_take]; unfold maxLen; omega) (by rw [List.length_take, List.length_drop]; unfold maxLen; omega)
                  have hbe : (ps.take k == (ps.drop (ps.length - k)).take k) = bordB (fn ps) ps.length k := by rw [Bool.eq_iff_iff, bordB_true]; exact bord_lists ps k hlt
                  rw [hbe] at hcall
                  have Hcall : Hid _ := hcall
                  clear hcall h1 h2 hbe
                  have hI1 : (k : Int) ≤ (c1 : Int) := by omega
                  have hI2 : (0 : Int) ≤ (ps.length : Int) - (k : Int) := by omega
                  have hI4 : (0 : Int) ≤ (k : Int) := by omega
                  have hI5 : (k : Int) ≤ (ps.length : Int) := by omega
                  have hI6 : ¬ c1 = ps.length - k := by omega
                  have hW1 : IntKind.i64.wrap ((ps.length : Int) - (k : Int)) = (ps.length : Int) - (k : Int) := IntWalk.i64_in _ ⟨by omega, by omega⟩
                  have hW2 : ((ps.length : Int) - (k : Int)).toNat = ps.length - k := by omega
                  have hW3 : ps.length - (ps.length - k) = k := by omega
                  cases hbb : bordB (fn ps) ps.length k with
                  | true =>
                    rw [hbb] at Hcall
                    simp only [hbb, if_true] at hlook
                    clear hbb
                    go_wp2_with fail
                    go_quiet ((go_at_call 14; refine Calls.quiet_of (Hcall.out _)))
                    go_wp2_with fail
                    go_roundw
                    case rel => exact ⟨k + 1, by go_num, by omega, by omega, (by obtain ⟨q, hq⟩ := Hq.out; exact ⟨q + nq, by rw [hq, World.drewN_drewN]⟩)⟩
                    case measure => simp [intOf]; omega
                  | false =>
                    rw [hbb] at Hcall
                    simp only [hbb, if_false, Bool.false_eq_true] at hlook
                    clear hbb
                    go_wp2_with fail
                    go_quiet ((go_at_call 14; refine Calls.quiet_of (Hcall.out _)))
                    go_wp2_with fail
                    go_roundw
                    case rel => exact ⟨k + 1, by go_num, by omega, by omega, (by obtain ⟨q, hq⟩ := Hq.out; exact ⟨q + nq, by rw [hq, World.drewN_drewN]⟩)⟩
                    case measure => simp [intOf]; omega
                · have hB6 : Below w.heap.size w wr := by obtain ⟨q, hq⟩ := Hq.out; rw [hq]; exact below_drewN hB5 q
                  go_wp2_with fail
                  go_ret
                  exact ⟨rfl, hB6⟩
end Go.Proofs.Ytppgpejeedjajaa.Seek
