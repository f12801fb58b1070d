/- The walk of WordWays. -/
import Derived.Test.YtpjpkndinobijaaBigWalk
import Derived.Test.YtpjpkndinobijaaFunGo
import Derived.Deep.Cut
import Derived.Deep.CutRange
import Derived.Deep.DeepCutAuto
set_option linter.unusedVariables false
set_option linter.unusedSimpArgs false
namespace Go.Proofs.Ytpjpkndinobijaa.Plain
theorem end_place (zs : List Int) (b : Bool) (j : Nat) : ∃ E : Nat, up (fin zs b) ((zs.length - 1 : Nat) : Int) zs.length (j + 1) = (E : Int) ∧
    (E = zs.length - 1 ∨ (j < E ∧ E + 1 < zs.length ∧ (kind (zs.getD E 0) b != kind (zs.getD (E + 1) 0) b) = true)) := by
  rcases up_spec (fin zs b) ((zs.length - 1 : Nat) : Int) zs.length (j + 1) with ⟨E, h1, h2, h3, h4, h5⟩ | ⟨h1, h2⟩
  · refine ⟨E, h1, ?_⟩
    by_cases h : E + 1 < zs.length
    · refine .inr ⟨by omega, h, ?_⟩
      unfold fin at h4
      rw [knd_in h3, knd_in h, Bool.and_eq_true] at h4
      exact h4.2
    · exact .inl (by omega)
  · exact ⟨_, h1, .inl rfl⟩
theorem back_place (p : Nat → Bool) (j : Nat) : down p j = 0 ∨ (0 < down p j ∧ down p j < j ∧ p (down p j) = true) := by
  rcases down_spec p j with ⟨h1, h2, h3⟩ | ⟨h1, h2⟩
  · by_cases h : down p j = 0
    · exact .inl h
    · exact .inr ⟨by omega, h1, h2⟩
  · exact .inl h1
theorem again_place (p : Nat → Bool) (j N : Nat) (h : ∀ x, j < x → x < N → p x = false) : down p N ≤ j := by
  rcases down_spec p N with ⟨h1, h2, h3⟩ | ⟨h1, h2⟩
  · by_cases hj : down p N ≤ j
    · exact hj
    · have := h _ (by omega) h1
      rw [h2] at this
      exact absurd this (by decide)
  · omega
end Go.Proofs.Ytpjpkndinobijaa.Plain
namespace Go.Proofs.Ytpjpkndinobijaa.Seek
open Go.RowKit Plain

theorem box_one (w : World) (u1 u2 : Value) : ((w.alloc (.cells #[u1] 22)).alloc (.cells #[u2] 4)).cell? ⟨w.heap.size, 0, none⟩ = some u1 := by
  unfold World.cell?
  simp only
  rw [show ∀ o1 o2, ((w.alloc o1).alloc o2).heap[w.heap.size]? = some o1 from fun o1 o2 => by show ((w.heap.push o1).push o2)[w.heap.size]? = _; simp [Array.getElem?_push]]
  rfl
theorem box_two (w : World) (u1 u2 : Value) : ((w.alloc (.cells #[u1] 22)).alloc (.cells #[u2] 4)).cell? ⟨w.heap.size + 1, 0, none⟩ = some u2 := by
  unfold World.cell?
  simp only
  rw [show ∀ o1 o2, ((w.alloc o1).alloc o2).heap[w.heap.size + 1]? = some o2 from fun o1 o2 => by show ((w.heap.push o1).push o2)[w.heap.size + 1]? = _; rw [show w.heap.size + 1 = (w.heap.push o1).size by simp]; exact Array.getElem?_push_size]
  rfl
theorem next_ab : next (codes ⟨#[97, 98, 32, 99]⟩) 0 false = 3 ∧ chk (codes ⟨#[97, 98, 32, 99]⟩).length 0 = 0 := by decide +kernel
theorem all_good {zs : List Int} {j : Nat} {b : Bool} (h : chk zs.length (j : Int) = 0) : back zs (j : Int) b = (down (bgn zs b) j : Int) ∧
    last zs (j : Int) b = up (fin zs b) ((zs.length - 1 : Nat) : Int) zs.length (j + 1) := by
  unfold back last
  rw [if_pos h, if_pos h]
  exact ⟨rfl, rfl⟩

set_option maxRecDepth 100000 in
set_option maxHeartbeats 4000000 in
theorem ways_walk (v : Value) (zs : List Int) (k : Int) (b : Bool) (w : World) (hp : Reads w v zs) (hr : zs.length * 8 ≤ 140737488351232) :
    Calls Try.prog 4 #[v, .int .i64 k, .bool b] w fun e w' => e = .returned (.bool true) ∧ Below w.heap.size w w' := by
  obtain ⟨a, cap, hv⟩ := hp.shape
  subst hv
  have Hp : Hid (Reads w (.slice a zs.length cap) zs) := hp
  clear hp
  have hmf : ∀ (fn : Fn) (first cap : Array Value) (w : World), (Instr.makeFunc fn first cap).run Try.prog w = .ok (.func fn first cap) w := fun _ _ _ _ => rfl
  go_enter Try.func4, Try.ntmps4
  go_wp2_with fail
  obtain ⟨W0, hW0⟩ : ∃ W0, W0 = (w.alloc (.cells #[Value.slice a zs.length cap] 22)).alloc (.cells #[Value.bool b] 4) := ⟨_, rfl⟩
  rw [← hW0]
  have hsz0 : w.heap.size + 2 ≤ W0.heap.size := by rw [hW0]; show _ ≤ ((w.heap.push _).push _).size; simp
  have Hbx1 : Hid (W0.cell? ⟨w.heap.size, 0, none⟩ = some (.slice a zs.length cap)) := by rw [hW0]; exact box_one w _ _
  have Hbx2 : Hid (W0.cell? ⟨w.heap.size + 1, 0, none⟩ = some (.bool b)) := by rw [hW0]; exact box_two w _ _
  have hB0 : Below w.heap.size w W0 := by rw [hW0]; exact ((Below.refl _ w).alloc (Nat.le_refl _) _).alloc (by show _ ≤ (w.heap.push _).size; simp) _
  clear hW0
  refine (of_any _ W0 (by decide)).mono ?_
  rintro e w1 ⟨hb1, u, rfl, hown⟩
  have hx1 : w1.cell? ⟨w.heap.size, 0, none⟩ = some (.slice a zs.length cap) := (hb1.cell (by show w.heap.size < _; omega)).trans Hbx1.out
  have hx2 : w1.cell? ⟨w.heap.size + 1, 0, none⟩ = some (.bool b) := (hb1.cell (by show w.heap.size + 1 < _; omega)).trans Hbx2.out
  have hB1 : Below w.heap.size w w1 := below_trans hB0 hb1 hB0.size
  have Hp1 : Hid (Reads w1 (.slice a zs.length cap) zs) := Hp.out.below hB1
  have Hu : Hid (Reads w1 u (codes ⟨#[97, 98, 32, 99]⟩)) := owned_reads hown
  clear hown Hp Hbx1 Hbx2 hB0 hb1 hsz0
  go_wp2_with fail
  refine (next_go u _ 0 false w1 Hu.out).mono ?_
  rintro e w2 ⟨rfl, hw2⟩
  rw [hw2, next_ab.1, next_ab.2]
  clear hw2 w2 Hu
  go_wp2_with fail
  refine (next_go _ zs k b w1 Hp1.out).mono ?_
  rintro e w2 ⟨rfl, hw2⟩
  rw [hw2]
  clear hw2 w2
  go_wp2_with fail
  refine (back_go _ zs k b w1 Hp1.out).mono ?_
  rintro e w2 ⟨rfl, hw2⟩
  rw [hw2]
  clear hw2 w2
  go_wp2_with fail
  refine (last_go _ zs k b w1 Hp1.out).mono ?_
  rintro e w2 ⟨rfl, hw2⟩
  rw [hw2]
  clear hw2 w2
  by_cases hc : chk zs.length k = 0
  · obtain ⟨hl, j, hk, hj⟩ := chk_zero hc
    subst hk
    obtain ⟨N, hN, hN1, _, hN3, hN4⟩ := next_place zs b j hj
    obtain ⟨E, hE, hE1⟩ := end_place zs b j
    have hD1 := back_place (bgn zs b) j
    rw [hc, next_is zs b j hc, hN, (all_good hc).1, (all_good hc).2, hE]
    have HN3 : Hid (N < zs.length → bgn zs b N = true ∧ j < N) := hN3
    have HA : Hid (N < zs.length → back zs (N : Int) b = (down (bgn zs b) N : Int) ∧ chk zs.length (N : Int) = 0 ∧ down (bgn zs b) N ≤ j) := fun h => ⟨(all_good (chk_right hl hN1)).1, chk_right hl hN1, again_place _ j N hN4⟩
    have HE : Hid (E = zs.length - 1 ∨ (j < E ∧ E + 1 < zs.length ∧ (kind (zs.getD E 0) b != kind (zs.getD (E + 1) 0) b) = true)) := hE1
    generalize down (bgn zs b) j = D at *
    have HD : Hid (D = 0 ∨ (0 < D ∧ D < j ∧ bgn zs b D = true)) := hD1
    clear hc hN hE hN3 hN4 hE1 hD1
    go_upto_if 73 with fail
    go_cut [16, 17] from 70 to 94 (fun _ _ wx => Hid (∃ q, wx = w1.drewN q))
    case first =>
      by_cases hlt : N < zs.length
      · have hI : (N : Int) < (zs.length : Int) := by omega
        have HN : Hid (bgn zs b N = true ∧ 1 ≤ N) := ⟨(HN3.out hlt).1, by have := (HN3.out hlt).2; omega⟩
        have hI2 : (j : Int) < (N : Int) := by have := (HN3.out hlt).2; omega
        have HA2 : Hid (back zs (N : Int) b = (down (bgn zs b) N : Int) ∧ chk zs.length (N : Int) = 0) := ⟨(HA.out hlt).1, (HA.out hlt).2.1⟩
        have hI3 : (down (bgn zs b) N : Int) ≤ (j : Int) := by have := (HA.out hlt).2.2; omega
        generalize down (bgn zs b) N = A at *
        clear HA HN3 HE HD
        go_wp2_with fail
        refine (back_go _ zs (N : Int) b w1 Hp1.out).mono ?_
        rintro e w2 ⟨rfl, hw2⟩
        rw [hw2, HA2.out.1, HA2.out.2]
        clear hw2 w2 HA2
        go_wp2_with fail
        refine (fun_begins w.heap.size (w.heap.size + 1) a cap zs N b w1 Hp1.out hx1 hx2 hl HN.out.2 hlt HN.out.1).mono ?_
        rintro e w2 ⟨rfl, q, hw2⟩
        have Hw2 : Hid (∃ q, w2 = w1.drewN q) := ⟨q, hw2⟩
        clear hw2
        go_wp2_with fail
        go_meet
        exact Hw2
      · have hI : (zs.length : Int) ≤ (N : Int) := by omega
        go_wp2_with fail
        go_meet
        exact ⟨0, rfl⟩
    case rest =>
      obtain ⟨q, hq⟩ := hcut.out
      have hy1 : wc.cell? ⟨w.heap.size, 0, none⟩ = some (.slice a zs.length cap) := by rw [hq]; exact hx1
      have hy2 : wc.cell? ⟨w.heap.size + 1, 0, none⟩ = some (.bool b) := by rw [hq]; exact hx2
      have hBc : Below w.heap.size w wc := by rw [hq]; exact below_drewN hB1 q
      have Hpc : Hid (Reads wc (.slice a zs.length cap) zs) := by rw [hq]; exact Hp1.out.drewN q
      clear hcut hq hx1 hx2 hB1 Hp1 HN3 HA
      obtain ⟨w3, h3⟩ : ∃ w3, w3 = wc := ⟨_, rfl⟩
      subst h3
      go_upto_region 14 with fail
      go_cut [111] from 95 to 111 (fun s111 wx => s111 = .bool false ∧ Hid (∃ q, wx = w3.drewN q))
      case first =>
        rcases HD.out with h0 | ⟨h1, h2, h3⟩
        · subst h0
          go_wp2_with fail
          go_meet
          exact ⟨rfl, 0, rfl⟩
        · have hI1 : (0 : Int) < (D : Int) := by omega
          have hI2 : (D : Int) < (j : Int) := by omega
          have hI3 : D < zs.length := by omega
          have Hb : Hid (bgn zs b D = true) := h3
          clear h3 HD HE
          go_wp2_with fail
          refine (fun_begins w.heap.size (w.heap.size + 1) a cap zs D b w3 Hpc.out hy1 hy2 hl h1 hI3 Hb.out).mono ?_
          rintro e w2 ⟨rfl, q, hw2⟩
          have Hw2 : Hid (∃ q, w2 = w3.drewN q) := ⟨q, hw2⟩
          clear hw2
          go_wp2_with fail
          go_meet
          exact ⟨by rw [decide_eq_false (by omega), decide_eq_false (by omega)]; rfl, Hw2⟩
      case rest =>
        obtain ⟨hs, hqq⟩ := hcut
        subst hs
        obtain ⟨q2, hq2⟩ := hqq.out
        have hz1 : wc.cell? ⟨w.heap.size, 0, none⟩ = some (.slice a zs.length cap) := by rw [hq2]; exact hy1
        have hz2 : wc.cell? ⟨w.heap.size + 1, 0, none⟩ = some (.bool b) := by rw [hq2]; exact hy2
        have HBd : Hid (∀ q, Below w.heap.size w (wc.drewN q)) := fun q => by rw [hq2]; exact below_drewN (below_drewN hBc q2) q
        have Hpd : Hid (Reads wc (.slice a zs.length cap) zs) := by rw [hq2]; exact Hpc.out.drewN q2
        clear hqq hq2 hy1 hy2 hBc Hpc HD
        rcases HE.out with hE | ⟨hE1, hE2, hE3⟩
        · by_cases hlen : zs.length = 0
          · have hE0 : E = 0 := by omega
            subst hE0
            rw [hlen] at hz1 ⊢
            clear hE HE hlen Hpd
            go_wp2_with fail
            go_quiet (fail)
            go_wp2_with fail
            go_ret
            exact ⟨rfl, HBd.out _⟩
          · have hEE : ((E : Int) == (zs.length : Int) - 1) = true := beq_iff_eq.2 (by omega)
            have hl0 : ((zs.length : Int) == 0) = false := beq_eq_false_iff_ne.2 (by omega)
            have hW : IntKind.i64.wrap ((zs.length : Int) - 1) = (zs.length : Int) - 1 := IntWalk.i64_in _ ⟨by omega, by omega⟩
            have hI : (E : Int) < (zs.length : Int) := by omega
            clear hE HE hlen Hpd
            by_cases hjE : j < E
            · have hI2 : (j : Int) < (E : Int) := by omega
              go_wp2_with fail
              go_quiet (fail)
              go_wp2_with fail
              go_ret
              exact ⟨rfl, HBd.out _⟩
            · have hI2 : (E : Int) ≤ (j : Int) := by omega
              go_wp2_with fail
              go_quiet (fail)
              go_wp2_with fail
              go_ret
              exact ⟨rfl, HBd.out _⟩
        · rcases Hpd.out with ⟨_, _, _, hnil⟩ | ⟨bl, o, c, he, _, _, _, hcl⟩
          · rw [hnil] at hE2
            exact absurd hE2 (by simp)
          · simp only [Value.slice.injEq] at he
            obtain ⟨rfl, _, rfl⟩ := he
            have hc1 := hcl E (by omega)
            have hc2 := hcl (E + 1) hE2
            clear hcl Hpd HE
            generalize zs.getD E 0 = y at *
            generalize zs.getD (E + 1) 0 = z at *
            have hEE : ((E : Int) == (zs.length : Int) - 1) = false := beq_eq_false_iff_ne.2 (by omega)
            have hl0 : ((zs.length : Int) == 0) = false := beq_eq_false_iff_ne.2 (by omega)
            have hW : IntKind.i64.wrap ((zs.length : Int) - 1) = (zs.length : Int) - 1 := IntWalk.i64_in _ ⟨by omega, by omega⟩
            have hW2 : IntKind.i64.wrap ((E : Int) + 1) = (E : Int) + 1 := IntWalk.i64_in _ ⟨by omega, by omega⟩
            have hT : ((E : Int) + 1).toNat = E + 1 := by omega
            have hI : (E : Int) < (zs.length : Int) := by omega
            have hI1 : (E : Int) + 1 < (zs.length : Int) := by omega
            have hI2 : (j : Int) < (E : Int) := by omega
            have hd : decide ((E : Int) < (zs.length : Int)) = true := decide_eq_true hI
            go_wp2_with fail
            go_quiet (first
              | (go_at_call_of 9 y; exact Calls.quiet_of_same (kind_go y b _))
              | (go_at_call_of 9 z; exact Calls.quiet_of_same (kind_go z b _)))
            go_wp2_with fail
            go_ret
            exact ⟨rfl, HBd.out _⟩
  · have h0 : next zs k b = 0 ∧ back zs k b = 0 ∧ last zs k b = 0 := by unfold next back last; rw [if_neg hc, if_neg hc, if_neg hc]; exact ⟨rfl, rfl, rfl⟩
    rw [h0.1, h0.2.1, h0.2.2]
    clear h0
    generalize chk zs.length k = c at *
    have hcb : (c != 0) = true := by simpa using hc
    have hcc : (c == c) = true := by simp
    clear hc
    go_wp2_with fail
    go_ret
    exact ⟨rfl, hB1⟩
end Go.Proofs.Ytpjpkndinobijaa.Seek
