/- The walk of SeekPeriods. -/
import Derived.Test.YtppgpejeedjajaaSets
set_option linter.unusedVariables false
set_option linter.unusedSimpArgs false
namespace Go.Proofs.Ytppgpejeedjajaa.Seek
open Go.RowKit Go.Maps

/-- The periods that are listed when all borders above k have been met. -/
def perS (p : Nat → Int) (n k x : Nat) : Bool := x == n || (bordB p n (n - x) && decide (k < n - x))
theorem perS_step {p : Nat → Int} {n k : Nat} (hk : Plain.Bord p n k) (h0 : 0 < k) (x : Nat) : (perS p n k x || x == n - k) = perS p n (Plain.lb p k) x := by
  have h1 := bords_above hk h0 (n - x)
  have hkn := hk.1
  unfold perS
  rw [h1]
  have h2 : (n - x == k) = (x == n - k) := by
    rw [Bool.eq_iff_iff, beq_iff_eq, beq_iff_eq]
    omega
  rw [h2, Bool.or_assoc]
theorem perS_none {p : Nat → Int} {n : Nat} (h0 : 0 < n) (x : Nat) : (false || x == n) = perS p n (Plain.lb p n) x := by
  have hl := Plain.lb_long p n h0
  unfold perS
  rw [Bool.false_or]
  have : (bordB p n (n - x) && decide (Plain.lb p n < n - x)) = false := by
    by_cases hx : Plain.Bord p n (n - x)
    · have := hl.2 _ hx
      simp
      omega
    · rw [show bordB p n (n - x) = false from by rw [← Bool.not_eq_true, bordB_true]; exact hx]
      rfl
  rw [this, Bool.or_false]
theorem perS_per {p : Nat → Int} {n x : Nat} (h1 : 1 ≤ x) (hn : x ≤ n) : perS p n 0 x = true ↔ Plain.Per p n x := by
  unfold perS
  by_cases hx : x = n
  · subst hx
    simp only [beq_self_eq_true, Bool.true_or, true_iff]
    intro i hi
    omega
  · rw [show (x == n) = false from by simpa using hx, Bool.false_or, Plain.per_bord h1 hn]
    simp only [Bool.and_eq_true, decide_eq_true_eq, bordB_true]
    exact ⟨fun h => h.1, fun h => ⟨h, by omega⟩⟩

set_option maxRecDepth 100000 in
set_option maxHeartbeats 4000000 in
theorem periods_walk (v : Value) (ps : List Int) (a b : Int) (w : World) (hp : Reads w v ps) (hpr : ps.length * 8 ≤ 140737488351232) :
    Calls Try.prog 5 #[v, .int .i64 a, .int .i64 b] w fun e w' => e = .returned (.bool true) ∧ Below w.heap.size w w' := by
  obtain ⟨a1, c1, hv1⟩ := hp.shape
  subst hv1
  have Hp : Hid (Reads w (.slice a1 ps.length c1) ps) := hp
  clear hp
  have Hpm : Hid (ps.length ≤ maxLen) := by show ps.length ≤ maxLen; unfold maxLen; omega
  have hmm := @run_makeMap Try.prog
  go_enter Try.func5, Try.ntmps5
  go_wp2_with fail
  refine (of_any ⟨#[97, 97]⟩ w (by decide)).mono ?_
  rintro e w1 ⟨hb1, v1, rfl, hown1⟩
  have hr1 := owned_reads hown1
  clear hown1
  go_wp2_with fail
  refine (borders_any _ _ w1 hr1 (by decide)).mono ?_
  rintro e w2 ⟨hb2, h⟩
  obtain ⟨_, vb, rfl, hrb⟩ := h.resolve_left (fun h => absurd h.1 (by decide))
  clear h
  rw [bords_aa] at hrb
  have Hrb : Hid (Reads w2 vb [0, 1]) := hrb
  have hB2 := below_trans hb1 hb2 hb1.size
  clear hrb hr1 hb1 hb2
  go_wp2_with fail
  refine (equal_any _ _ [0, 1] [0, 1] _ (Hrb.out.below ((Below.refl _ _).alloc (Nat.le_refl _) _)) (reads_new w2 [0, 1] (by decide)) (by decide) (by decide)).mono ?_
  rintro e w3 ⟨rfl, q3, hw3⟩
  have hB3 : Below w.heap.size w w3 := by rw [hw3]; exact below_drewN (hB2.alloc hB2.size _) q3
  rw [beq_self_eq_true]
  clear hw3 Hrb hB2
  go_wp2_with fail
  refine (borders_any _ ps w3 (Hp.out.below hB3) Hpm.out).mono ?_
  rintro e w4 ⟨hb4, ⟨hl, rfl⟩ | ⟨hl, vb2, rfl, hrb⟩⟩
  · have hB4 := below_trans hB3 hb4 hB3.size
    go_wp2_with fail
    go_ret
    exact ⟨rfl, hB4⟩
  · have hB4 := below_trans hB3 hb4 hB3.size
    obtain ⟨a3, c3, hvb⟩ := hrb.shape
    subst hvb
    rw [bords_len] at hrb ⊢
    have Hp4 : Hid (Reads w4 (.slice a1 ps.length c1) ps) := Hp.out.below hB4
    have Hrb : Hid (Reads w4 (.slice a3 ps.length c3) (bords ps)) := hrb
    clear hrb hb4 hB3
    by_cases hp0 : ps.length = 0
    · rw [hp0]
      go_wp2_with fail
      go_ret
      exact ⟨rfl, hB4⟩
    · rcases Hp4.out with ⟨_, _, _, rfl⟩ | ⟨pb, o, c, he, hcap, hcm, hblt, hc⟩
      · exact absurd rfl hp0
      · rcases Hrb.out with ⟨_, _, _, h0⟩ | ⟨bb, bo, cc, heb, _, _, hbblt, hcb⟩
        · have := bords_len ps
          rw [h0] at this
          exact absurd this.symm hp0
        · simp only [Value.slice.injEq] at he heb
          obtain ⟨rfl, hx1, rfl⟩ := he
          obtain ⟨rfl, hx2, rfl⟩ := heb
          clear hx1 hx2
          have Hc : Hid (∀ j, j < ps.length → w4.cell? ⟨pb, o + j, none⟩ = some (.int .i64 (ps.getD j 0))) := hc
          have Hcb : Hid (∀ k, 0 < k → k ≤ ps.length → w4.cell? ⟨bb, bo + (k - 1), none⟩ = some (.int .i64 ((Plain.lb (fn ps) k : Nat) : Int))) := fun k h0 hk => by
            have h := hcb (k - 1) (by rw [bords_len]; omega)
            rw [bords_get ps (k - 1) (by omega), show k - 1 + 1 = k by omega] at h
            exact h
          clear hc hcb
          obtain ⟨w5, hrun, hown5, hgrow5⟩ := (World.ownsMap_made (H := Unit) (P := Try.prog) w4 3 (plainElem Try.prog 3)).update law3 Try.underlying34 (by decide) (key_nat ps.length (by omega)) (plainElem_int (a := 1) Try.underlying3 (by decide))
          have hb5 : Below w4.heap.size w4 w5 := ((Below.refl _ w4).alloc (Nat.le_refl _) _).grown hgrow5 (by simp) (fun j hj => by cases hj; exact Nat.le_refl _)
          have hlast : w5.cell? ⟨bb, bo + (ps.length - 1), none⟩ = some (.int .i64 ((Plain.lb (fn ps) ps.length : Nat) : Int)) :=
            (hb5.cell (by exact hbblt)).trans (Hcb.out ps.length (by omega) (Nat.le_refl _))
          have HD5 : Hid (HoldsSet (fun x => perS (fn ps) ps.length (Plain.lb (fn ps) ps.length) x) ((DataW.map []).put (.int .i64 (ps.length : Int)) (.lit (.int .i64 1)))) := (set_put set_none ps.length).of (perS_none (by omega))
          have hpz : ((ps.length : Int) == 0) = false := by simp; intro h; exact hp0 (by rw [h]; rfl)
          have hI1 : ((ps.length : Int) - 1).toNat = ps.length - 1 := by omega
          have hI2 : (0 : Int) ≤ (ps.length : Int) - 1 := by omega
          have Hk0 : Hid (Plain.Bord (fn ps) ps.length (Plain.lb (fn ps) ps.length)) := (Plain.lb_long (fn ps) ps.length (by omega)).1
          have hk0l : Plain.lb (fn ps) ps.length < ps.length := Hk0.out.1
          generalize Plain.lb (fn ps) ps.length = k0 at *
          have Ho5 : Hid (w5.ownsMap Try.prog 3 (plainElem Try.prog 3) w4.heap.size 1 ((DataW.map []).put (.int .i64 (ps.length : Int)) (.lit (.int .i64 1)))) := hown5
          clear hown5 hgrow5
          go_wp2_with fail
          clear hlast hrun
          go_loopw [12] (fun u12 wr => ∃ (k i : Nat) (D : DataW Unit), u12 = .int .i64 (k : Int) ∧ Hid (Plain.Bord (fn ps) ps.length k) ∧ i + k ≤ ps.length + 1 ∧ k < ps.length ∧ wr.ownsMap Try.prog 3 (plainElem Try.prog 3) w4.heap.size i D ∧ Hid (HoldsSet (fun x => perS (fn ps) ps.length k x) D) ∧ Below w4.heap.size w4 wr)
            (fun u12 _ => (intOf u12).toNat)
          case atStart => exact ⟨k0, 1, _, rfl, Hk0.out, by omega, hk0l, Ho5.out, HD5.out, hb5⟩
          case round =>
            obtain ⟨k, i, D, rfl, Hk, hik, hkl, hown, HD, hbr⟩ := hrel
            by_cases hk1 : 0 < k
            · have hcx : wr.cell? ⟨bb, bo + (k - 1), none⟩ = some (.int .i64 ((Plain.lb (fn ps) k : Nat) : Int)) := (hbr.cell (by exact hbblt)).trans (Hcb.out k hk1 (by omega))
              have Hk2 : Hid (Plain.Bord (fn ps) ps.length (Plain.lb (fn ps) k)) := Plain.chain_bord Hk.out (Plain.lb_long _ _ hk1)
              have hlt2 := Plain.lb_lt (fn ps) k hk1
              have Hab : Hid (∀ x, (perS (fn ps) ps.length k x || x == ps.length - k) = perS (fn ps) ps.length (Plain.lb (fn ps) k) x) := perS_step Hk.out hk1
              generalize Plain.lb (fn ps) k = k2 at *
              have hkey : keyOf Try.prog 3 (.int .i64 ((ps.length : Int) - (k : Int))) = some (.int .i64 ((ps.length - k : Nat) : Int)) := by
                have := key_nat (ps.length - k) (by omega)
                rw [show ((ps.length - k : Nat) : Int) = (ps.length : Int) - (k : Int) by omega] at this ⊢
                exact this
              have hI3 : ((k : Int) - 1).toNat = k - 1 := by omega
              have hI4 : (0 : Int) ≤ (k : Int) - 1 := by omega
              go_wp2_with (at_mapUpdate; refine wpList_mapUpdate_own _ rfl _ _ _ 34 rfl 3 3 law3 Try.underlying34 _ w4.heap.size i _ rfl hown (by unfold maxLen; omega) _ _ _ rfl rfl hkey _ [] (plainElem_int (a := 1) Try.underlying3 (by decide)) ?_)
              intro w6 hown1 hgrow1
              have HD1 : Hid (HoldsSet (fun x => perS (fn ps) ps.length k2 x) (D.put (.int .i64 ((ps.length - k : Nat) : Int)) (.lit (.int .i64 1)))) := (set_put HD.out (ps.length - k)).of fun x => Hab.out x
              have hb6 : Below w4.heap.size w4 w6 := hbr.grown hgrow1 hbr.size (fun j hj => by cases hj; exact Nat.le_refl _)
              have hcx6 : w6.cell? ⟨bb, bo + (k - 1), none⟩ = some (.int .i64 (k2 : Int)) := by
                rw [hb6.cell (by exact hbblt), ← hbr.cell (by exact hbblt)]
                exact hcx
              clear hown hgrow1 hbr HD hcx Hab
              go_wp2_with fail
              go_roundw
              case rel => exact ⟨k2, i + 1, _, rfl, Hk2.out, by omega, by omega, hown1, HD1.out, hb6⟩
              case measure => simp [intOf]; omega
            · obtain rfl : k = 0 := by omega
              have hB5 := below_trans hB4 hbr hB4.size
              have Hcr : Hid (∀ j, j < ps.length → wr.cell? ⟨pb, o + j, none⟩ = some (.int .i64 (ps.getD j 0))) := fun j hj => (hbr.cell (by exact hblt)).trans (Hc.out j hj)
              have Hlook : Hid (∀ q, ∀ x : Nat, x ≤ 9223372036854775807 → (Instr.lookup 34 (.map (some w4.heap.size)) (.int .i64 (x : Int)) false).run Try.prog (wr.drewN q) = .ok (.int .i64 (if perS (fn ps) ps.length 0 x = true then 1 else 0)) (wr.drewN q)) := fun q x hx =>
                set_look (w := wr.drewN q) hown HD.out x hx
              clear hown HD Hcb hbr Hc Hk
              generalize wr = w6 at *
              by_cases ha1 : a < 1
              · go_wp2_with fail
                go_ret
                exact ⟨rfl, hB5⟩
              by_cases hb1 : b < 1
              · go_wp2_with fail
                go_ret
                exact ⟨rfl, hB5⟩
              by_cases ha2 : (ps.length : Int) < a
              · go_wp2_with fail
                go_ret
                exact ⟨rfl, hB5⟩
              by_cases hb2 : (ps.length : Int) < b
              · go_wp2_with fail
                go_ret
                exact ⟨rfl, hB5⟩
              obtain ⟨A, rfl⟩ : ∃ A : Nat, a = (A : Int) := ⟨a.toNat, by omega⟩
              obtain ⟨B, rfl⟩ : ∃ B : Nat, b = (B : Int) := ⟨b.toNat, by omega⟩
              have hlA : (Instr.lookup 34 (.map (some w4.heap.size)) (.int .i64 (A : Int)) false).run Try.prog w6 = .ok (.int .i64 (if perS (fn ps) ps.length 0 A = true then 1 else 0)) w6 := Hlook.out 0 A (by omega)
              have hlB : (Instr.lookup 34 (.map (some w4.heap.size)) (.int .i64 (B : Int)) false).run Try.prog w6 = .ok (.int .i64 (if perS (fn ps) ps.length 0 B = true then 1 else 0)) w6 := Hlook.out 0 B (by omega)
              by_cases hSA : perS (fn ps) ps.length 0 A = true
              case neg =>
                rw [if_neg hSA] at hlA
                go_wp2_with fail
                go_ret
                exact ⟨rfl, hB5⟩
              by_cases hSB : perS (fn ps) ps.length 0 B = true
              case neg =>
                rw [if_pos hSA] at hlA
                rw [if_neg hSB] at hlB
                go_wp2_with fail
                go_ret
                exact ⟨rfl, hB5⟩
              have HpA : Hid (Plain.Per (fn ps) ps.length A) := (perS_per (by omega) (by omega)).1 hSA
              have HpB : Hid (Plain.Per (fn ps) ps.length B) := (perS_per (by omega) (by omega)).1 hSB
              rw [if_pos hSA] at hlA
              rw [if_pos hSB] at hlB
              clear hSA hSB
              go_wp2_with fail
              clear hlA hlB
              go_loopw [13, 14] (fun u13 u14 wr => ∃ g h : Nat, u13 = .int .i64 (g : Int) ∧ u14 = .int .i64 (h : Int) ∧ 1 ≤ g ∧ g ≤ ps.length ∧ h ≤ ps.length ∧ Hid (Nat.gcd g h = Nat.gcd A B) ∧ Hid (∃ q, wr = w6.drewN q)) (fun _ u14 _ => (intOf u14).toNat)
              case atStart => exact ⟨A, B, rfl, rfl, by omega, by omega, by omega, rfl, ⟨0, rfl⟩⟩
              case round =>
                obtain ⟨g, h, rfl, rfl, hg1, hgl, hhl, Hg, Hq⟩ := hrel
                by_cases hh : 0 < h
                · have Hg2 : Hid (Nat.gcd h (g % h) = Nat.gcd A B) := by
                    show Nat.gcd h (g % h) = Nat.gcd A B
                    rw [← Hg.out, Nat.gcd_comm g h, Nat.gcd_rec h g, Nat.gcd_comm]
                  have hmod : g % h < h := Nat.mod_lt _ hh
                  have hrem : (g : Int).tmod (h : Int) = ((g % h : Nat) : Int) := by rw [Int.tmod_eq_emod_of_nonneg (by omega)]; rfl
                  have hW1 : IntKind.i64.wrap ((g % h : Nat) : Int) = ((g % h : Nat) : Int) := IntWalk.i64_in _ ⟨by omega, by omega⟩
                  have hhz : ¬ (h : Int) = 0 := by omega
                  have hhz2 : ((h : Int) == 0) = false := by simp; omega
                  go_wp2_with fail
                  go_quiet (fail)
                  go_wp2_with fail
                  go_roundw
                  case rel => exact ⟨h, g % h, rfl, (by first | rfl | (rw [hrem]) | (simp)), by omega, by omega, by omega, Hg2.out, (by obtain ⟨q, hq⟩ := Hq.out; exact ⟨q + nq, by rw [hq, World.drewN_drewN]⟩)⟩
                  case measure => simp [intOf]; omega
                · obtain rfl : h = 0 := by omega
                  have hgg : g = Nat.gcd A B := by rw [← Hg.out, Nat.gcd_zero_right]
                  have Hgg : Hid (g = Nat.gcd A B) := hgg
                  clear hgg Hg
                  by_cases hshort : ps.length + g < A + B
                  · have hB6 : Below w.heap.size w wr := by obtain ⟨q, hq⟩ := Hq.out; rw [hq]; exact below_drewN hB5 q
                    have hI3 : (ps.length : Int) < (A : Int) + (B : Int) - (g : Int) := by omega
                    go_wp2_with fail
                    go_ret
                    exact ⟨rfl, hB6⟩
                  · have HpG : Hid (Plain.Per (fn ps) ps.length g) := by
                      have := Plain.fine_wilf (fn ps) (A + B) ps.length A B (Nat.le_refl _) (by omega) (by omega) HpA.out HpB.out (by rw [← Hgg.out]; omega)
                      rw [← Hgg.out] at this
                      exact this
                    have HsG : Hid (perS (fn ps) ps.length 0 g = true) := (perS_per hg1 hgl).2 HpG.out
                    have hI3 : ¬ (ps.length : Int) < (A : Int) + (B : Int) - (g : Int) := by omega
                    clear HpA HpB Hgg
                    generalize hwr : wr = w7 at *
                    clear hwr
                    go_wp2_with fail
                    go_loopw [15] (fun u15 wr => ∃ i : Nat, u15 = .int .i64 (i : Int) ∧ g ≤ i ∧ i ≤ ps.length ∧ Hid (∃ q, wr = w6.drewN q)) (fun u15 _ => ps.length - (intOf u15).toNat)
                    case atStart => exact ⟨g, rfl, Nat.le_refl _, hgl, Hq.out⟩
                    case round =>
                      obtain ⟨i, rfl, hgi, hil, Hq2⟩ := hrel
                      by_cases hlt : i < ps.length
                      · have hc1 : wr.cell? ⟨pb, o + i, none⟩ = some (.int .i64 (ps.getD i 0)) := by obtain ⟨q, hq⟩ := Hq2.out; rw [hq]; exact Hcr.out i hlt
                        have hc2 : wr.cell? ⟨pb, o + (i - g), none⟩ = some (.int .i64 (ps.getD (i - g) 0)) := by obtain ⟨q, hq⟩ := Hq2.out; rw [hq]; exact Hcr.out (i - g) (by omega)
                        have heq : ps.getD (i - g) 0 = ps.getD i 0 := by
                          have := HpG.out (i - g) (by omega)
                          unfold fn at this
                          rw [show i - g + g = i by omega] at this
                          exact this
                        rw [heq] at hc2
                        clear heq
                        generalize ps.getD i 0 = z at *
                        have hI5 : (i : Int) < (ps.length : Int) := by omega
                        have hI6 : (0 : Int) ≤ (i : Int) - (g : Int) := by omega
                        have hI7 : (i : Int) - (g : Int) < (ps.length : Int) := by omega
                        have hI8 : ((i : Int) - (g : Int)).toNat = i - g := by omega
                        have hI9 : (g : Int) ≤ (i : Int) := by omega
                        have hW1 : IntKind.i64.wrap ((i : Int) - (g : Int)) = (i : Int) - (g : Int) := IntWalk.i64_in _ ⟨by omega, by omega⟩
                        go_wp2_with fail
                        go_quiet (fail)
                        go_wp2_with fail
                        go_roundw
                        case rel => exact ⟨i + 1, by go_num, by omega, by omega, (by obtain ⟨q, hq⟩ := Hq2.out; exact ⟨q + nq, by rw [hq, World.drewN_drewN]⟩)⟩
                        case measure => simp [intOf]; omega
                      · have hB6 : Below w.heap.size w wr := by obtain ⟨q, hq⟩ := Hq2.out; rw [hq]; exact below_drewN hB5 q
                        have hlG : (Instr.lookup 34 (.map (some w4.heap.size)) (.int .i64 (g : Int)) false).run Try.prog wr = .ok (.int .i64 1) wr := by
                          obtain ⟨q, hq⟩ := Hq2.out
                          have := Hlook.out q g (by omega)
                          rw [if_pos HsG.out] at this
                          rw [hq]
                          exact this
                        go_wp2_with fail
                        go_ret
                        exact ⟨rfl, hB6⟩
end Go.Proofs.Ytppgpejeedjajaa.Seek
