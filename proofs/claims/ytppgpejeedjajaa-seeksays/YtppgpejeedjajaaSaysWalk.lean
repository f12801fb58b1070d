/- The walk of SeekSays. -/
import Derived.Test.YtppgpejeedjajaaNextGo
import Derived.Test.YtppgpejeedjajaaRefGo
set_option linter.unusedVariables false
set_option linter.unusedSimpArgs false
namespace Go.Proofs.Ytppgpejeedjajaa.Seek
open Go.RowKit

theorem lb_take (ps : List Int) (n : Nat) (h0 : 0 < n) (h : n ≤ ps.length) : Plain.lb (fn (ps.take n)) n = Plain.lb (fn ps) n := by
  have hf : ∀ j, j < n → fn (ps.take n) j = fn ps j := fun j hj => by
    unfold fn
    simp [List.getD_eq_getElem?_getD, List.getElem?_take, hj]
  have hb : ∀ k, Plain.Bord (fn (ps.take n)) n k ↔ Plain.Bord (fn ps) n k := fun k => by
    unfold Plain.Bord
    constructor
    · rintro ⟨h1, h2⟩
      exact ⟨h1, fun j hj => by rw [← hf j (by omega), ← hf (n - k + j) (by omega)]; exact h2 j hj⟩
    · rintro ⟨h1, h2⟩
      exact ⟨h1, fun j hj => by rw [hf j (by omega), hf (n - k + j) (by omega)]; exact h2 j hj⟩
  refine Plain.lb_of ⟨(hb _).2 (Plain.lb_long _ _ h0).1, fun m hm => (Plain.lb_long _ _ h0).2 m ((hb m).1 hm)⟩

def xAt (l : List Int) (x : Int) (j : Nat) : Int := if j ≤ lows l x then -1 else l.getD (lows l x) 0
def yAt (l : List Int) (x : Int) (j : Nat) : Int := if min j (lows l x) = 0 then -1 else l.getD (min j (lows l x) - 1) 0
theorem plist_nonneg (ps ss : List Int) : ∀ z ∈ plist ps ss, (0 : Int) ≤ z := by
  intro z hz
  unfold plist at hz
  obtain ⟨k, _, rfl⟩ := List.mem_map.1 hz
  omega
theorem getD_mem' (l : List Int) (j : Nat) (h : j < l.length) : l.getD j 0 ∈ l := by
  rw [List.getD_eq_getElem?_getD, List.getElem?_eq_getElem h]
  exact List.getElem_mem h
theorem x_low {l : List Int} {x : Int} {j : Nat} (h : j < lows l x) : xAt l x j = -1 ∧ xAt l x (j + 1) = -1 ∧ yAt l x (j + 1) = l.getD j 0 := by
  unfold xAt yAt
  rw [if_pos (by omega), if_pos (by omega), show min (j + 1) (lows l x) = j + 1 by omega, if_neg (by omega)]
  exact ⟨rfl, rfl, rfl⟩
theorem x_at {l : List Int} {x : Int} : xAt l x (lows l x) = -1 ∧ xAt l x (lows l x + 1) = l.getD (lows l x) 0 ∧ yAt l x (lows l x + 1) = yAt l x (lows l x) := by
  unfold xAt yAt
  rw [if_pos (by omega), if_neg (by omega), show min (lows l x + 1) (lows l x) = lows l x by omega, show min (lows l x) (lows l x) = lows l x by omega]
  exact ⟨rfl, rfl, rfl⟩
theorem x_high {l : List Int} {x : Int} {j : Nat} (h : lows l x < j) : xAt l x j = l.getD (lows l x) 0 ∧ xAt l x (j + 1) = l.getD (lows l x) 0 ∧ yAt l x (j + 1) = yAt l x j := by
  unfold xAt yAt
  rw [if_neg (by omega), if_neg (by omega), show min (j + 1) (lows l x) = lows l x by omega, show min j (lows l x) = lows l x by omega]
  exact ⟨rfl, rfl, rfl⟩
/-- How the asked and the told fit, at the loop's end. -/
theorem next_end (l : List Int) (x : Int) (hn : ∀ z ∈ l, (0 : Int) ≤ z) : (xAt l x l.length = -1 ∧ nextOf l x = (0, 6)) ∨ ∃ z : Int, 0 ≤ z ∧ xAt l x l.length = z ∧ nextOf l x = (z, 0) := by
  have h := lows_le l x
  unfold xAt nextOf
  by_cases hc : lows l x = l.length
  · exact .inl ⟨by rw [if_pos (by omega)], by rw [if_pos hc]⟩
  · exact .inr ⟨_, hn _ (getD_mem' l (lows l x) (by omega)), by rw [if_neg (by omega)], by rw [if_neg hc]⟩
theorem last_end (l : List Int) (x : Int) (hn : ∀ z ∈ l, (0 : Int) ≤ z) : (yAt l x l.length = -1 ∧ lastOf l x = (0, 6)) ∨ ∃ z : Int, 0 ≤ z ∧ yAt l x l.length = z ∧ lastOf l x = (z, 0) := by
  have h := lows_le l x
  unfold yAt lastOf
  rw [show min l.length (lows l x) = lows l x by omega]
  by_cases hc : lows l x = 0
  · exact .inl ⟨by rw [if_pos hc], by rw [if_pos hc]⟩
  · exact .inr ⟨_, hn _ (getD_mem' l (lows l x - 1) (by omega)), by rw [if_neg hc], by rw [if_neg hc]⟩

set_option maxRecDepth 100000 in
set_option maxHeartbeats 4000000 in
theorem says_large (v vs : Value) (ps ss : List Int) (x : Int) (w : World) (hp : Reads w v ps) (hs : Reads w vs ss) (hpm : ps.length ≤ maxLen) (hsm : ss.length ≤ maxLen) (hlarge : 4096 < ps.length ∨ 4096 < ss.length) :
    Calls Try.prog 3 #[v, vs, .int .i64 x] w fun e w' => e = .returned (.bool true) ∧ Below w.heap.size w w' := by
  obtain ⟨a1, c1, hv1⟩ := hp.shape
  obtain ⟨a2, c2, hv2⟩ := hs.shape
  subst hv1 hv2
  have Hp : Hid (Reads w (.slice a1 ps.length c1) ps) := hp
  have Hs : Hid (Reads w (.slice a2 ss.length c2) ss) := hs
  clear hp hs
  unfold maxLen at hpm hsm
  go_enter Try.func3, Try.ntmps3
  go_wp2_with fail
  refine (borders_any _ ps w Hp.out hpm).mono ?_
  rintro e w1 ⟨hb1, he⟩
  obtain ⟨vb, er, rfl, hee⟩ : ∃ (vb : Value) (er : Int), e = .returned (.tuple #[vb, .int .i64 er]) ∧ ((er == 2) = decide (4096 < ps.length)) := by
    rcases he with ⟨h1, rfl⟩ | ⟨h1, vb, rfl, _⟩
    · exact ⟨_, 2, rfl, by simp [h1]⟩
    · exact ⟨_, 0, rfl, by simp; omega⟩
  clear he
  have hS1 := Hp.out.below hb1
  have hS2 := Hs.out.below hb1
  have Hee : Hid ((er == 2) = decide (4096 < ps.length)) := hee
  clear hee
  go_wp2_with fail
  refine (all_any _ _ ps ss w1 hS1 hS2 hpm hsm).mono ?_
  rintro e w2 ⟨hb2, h⟩
  obtain rfl := h.resolve_right (fun h => by omega) |>.2
  clear h
  have hB2 := below_trans hb1 hb2 hb1.size
  have hT1 := Hp.out.below hB2
  have hT2 := Hs.out.below hB2
  clear hS1 hS2 hb2
  go_wp2_with fail
  refine (next_any _ _ ps ss x w2 hT1 hT2 hpm hsm).mono ?_
  rintro e w3 ⟨hb3, h⟩
  obtain rfl := h.resolve_right (fun h => by omega) |>.2
  clear h
  have hB3 := below_trans hB2 hb3 hB2.size
  have hU1 := Hp.out.below hB3
  have hU2 := Hs.out.below hB3
  clear hT1 hT2 hb3
  go_wp2_with fail
  refine (last_any _ _ ps ss x w3 hU1 hU2 hpm hsm).mono ?_
  rintro e w4 ⟨hb4, h⟩
  obtain rfl := h.resolve_right (fun h => by omega) |>.2
  clear h
  have hB4 := below_trans hB3 hb4 hB3.size
  clear hU1 hU2 hb4 hb1 hB2 hB3
  by_cases hp4 : 4096 < ps.length
  · have he2 : (er == 2) = true := by rw [Hee.out]; simpa using hp4
    go_wp2_with fail
    go_ret
    exact ⟨rfl, hB4⟩
  · have he2 : (er == 2) = false := by rw [Hee.out]; simpa using hp4
    have hs4 : 4096 < ss.length := by omega
    have hd1 : (ps.length : Int) ≤ 4096 := by omega
    have hd2 : decide ((4096 : Int) < (ps.length : Int)) = false := by simp; omega
    go_wp2_with fail
    go_ret
    exact ⟨rfl, hB4⟩

set_option maxRecDepth 100000 in
set_option maxHeartbeats 8000000 in
theorem says_small (v vs : Value) (ps ss : List Int) (x : Int) (w : World) (hp : Reads w v ps) (hs : Reads w vs ss) (hpl : ps.length ≤ 4096) (hsl : ss.length ≤ 4096) :
    Calls Try.prog 3 #[v, vs, .int .i64 x] w fun e w' => e = .returned (.bool true) ∧ Below w.heap.size w w' := by
  obtain ⟨a1, c1, hv1⟩ := hp.shape
  obtain ⟨a2, c2, hv2⟩ := hs.shape
  subst hv1 hv2
  have Hp : Hid (Reads w (.slice a1 ps.length c1) ps) := hp
  have Hs : Hid (Reads w (.slice a2 ss.length c2) ss) := hs
  clear hp hs
  have hpm : ps.length ≤ maxLen := by unfold maxLen; omega
  have hsm : ss.length ≤ maxLen := by unfold maxLen; omega
  have Hpm : Hid (ps.length ≤ maxLen) := hpm
  have Hsm : Hid (ss.length ≤ maxLen) := hsm
  clear hpm hsm
  go_enter Try.func3, Try.ntmps3
  go_wp2_with fail
  refine (borders_any _ ps w Hp.out Hpm.out).mono ?_
  rintro e w1 ⟨hb1, h⟩
  obtain ⟨_, vb, rfl, hrb⟩ := h.resolve_left (fun h => by omega)
  clear h
  obtain ⟨a3, c3, hvb⟩ := hrb.shape
  subst hvb
  rw [bords_len] at hrb ⊢
  have Hrb : Hid (Reads w1 (.slice a3 ps.length c3) (bords ps)) := hrb
  clear hrb
  have hS1 := Hp.out.below hb1
  have hS2 := Hs.out.below hb1
  go_wp2_with fail
  refine (all_any _ _ ps ss w1 hS1 hS2 Hpm.out Hsm.out).mono ?_
  rintro e w2 ⟨hb2, h⟩
  obtain ⟨_, vl, rfl, hown⟩ := h.resolve_left (fun h => by omega)
  clear h
  have hrl := owned_reads hown
  obtain ⟨a4, c4, hvl⟩ := hrl.shape
  subst hvl
  have Hrl : Hid (Reads w2 (.slice a4 (plist ps ss).length c4) (plist ps ss)) := hrl
  have hB2 := below_trans hb1 hb2 hb1.size
  have Hrb2 : Hid (Reads w2 (.slice a3 ps.length c3) (bords ps)) := Hrb.out.below hb2
  have hT1 := Hp.out.below hB2
  have hT2 := Hs.out.below hB2
  clear hS1 hS2 hb2 hown hrl
  go_wp2_with fail
  refine (next_any _ _ ps ss x w2 hT1 hT2 Hpm.out Hsm.out).mono ?_
  rintro e w3 ⟨hb3, h⟩
  obtain rfl := h.resolve_left (fun h => by omega) |>.2
  clear h
  have hB3 := below_trans hB2 hb3 hB2.size
  have Hrb3 : Hid (Reads w3 (.slice a3 ps.length c3) (bords ps)) := Hrb2.out.below hb3
  have Hrl3 : Hid (Reads w3 (.slice a4 (plist ps ss).length c4) (plist ps ss)) := Hrl.out.below hb3
  have hU1 := Hp.out.below hB3
  have hU2 := Hs.out.below hB3
  clear hT1 hT2 hb3
  go_wp2_with fail
  refine (last_any _ _ ps ss x w3 hU1 hU2 Hpm.out Hsm.out).mono ?_
  rintro e w4 ⟨hb4, h⟩
  obtain rfl := h.resolve_left (fun h => by omega) |>.2
  clear h
  have hB4 := below_trans hB3 hb4 hB3.size
  have Hrb4 : Hid (Reads w4 (.slice a3 ps.length c3) (bords ps)) := Hrb3.out.below hb4
  have Hrl4 : Hid (Reads w4 (.slice a4 (plist ps ss).length c4) (plist ps ss)) := Hrl3.out.below hb4
  have Hp4 : Hid (Reads w4 (.slice a1 ps.length c1) ps) := Hp.out.below hB4
  have Hs4 : Hid (Reads w4 (.slice a2 ss.length c2) ss) := Hs.out.below hB4
  clear hU1 hU2 hb4 hb1 hB2 hB3 Hrb Hrb2 Hrb3 Hrl Hrl3
  have Hne := next_end (plist ps ss) x (plist_nonneg ps ss)
  have Hle := last_end (plist ps ss) x (plist_nonneg ps ss)
  have HHne : Hid _ := Hne
  have HHle : Hid _ := Hle
  clear Hne Hle
  have Hso : Hid ((plist ps ss).Pairwise (· < ·)) := plist_sorted ps ss
  have Hnn : Hid (∀ z ∈ plist ps ss, (0 : Int) ≤ z) := plist_nonneg ps ss
  have hll : (plist ps ss).length ≤ 4097 := by have := plist_len ps ss; omega
  generalize (nextOf (plist ps ss) x) = nx at *
  generalize (lastOf (plist ps ss) x) = ls at *
  obtain ⟨n1, n2⟩ := nx
  obtain ⟨l1, l2⟩ := ls
  simp only
  go_wp2_with fail
  go_loopw [104] (fun u wr => ∃ i : Nat, u = .int .i64 (i : Int) ∧ i ≤ ps.length ∧ Hid (∃ q, wr = w4.drewN q)) (fun u _ => ps.length - (intOf u).toNat)
  case atStart => exact ⟨0, rfl, by omega, ⟨0, rfl⟩⟩
  case round =>
    obtain ⟨i, rfl, hi, Hq⟩ := hrel
    by_cases hlt : i < ps.length
    · have hpr : Reads wr (.slice a1 ps.length c1) ps := by obtain ⟨q, hq⟩ := Hq.out; rw [hq]; exact Hp4.out
      have hbr : Reads wr (.slice a3 ps.length c3) (bords ps) := by obtain ⟨q, hq⟩ := Hq.out; rw [hq]; exact Hrb4.out
      rcases hpr with ⟨_, _, _, rfl⟩ | ⟨b, o, c, he, hcap, hcm, hblt, hc⟩
      · simp at hlt
      · rcases hbr with ⟨_, _, _, h0⟩ | ⟨bb, bo, cc, heb, _, _, _, hcb⟩
        · have := bords_len ps
          rw [h0] at this
          simp at this
          omega
        · simp only [Value.slice.injEq] at he heb
          obtain ⟨rfl, _, rfl⟩ := he
          obtain ⟨rfl, _, rfl⟩ := heb
          have hcx := hcb i (by rw [bords_len]; exact hlt)
          rw [bords_get ps i hlt] at hcx
          have hl : (ps.take (i + 1)).length = i + 1 := by rw [List.length_take]; omega
          have hcall : ∀ q2, Calls Try.prog 12 #[.slice (some ⟨b, o, none⟩) (i + 1) c1] (wr.drewN q2) fun e w' => e = .returned (.int .i64 ((Plain.lb (fn ps) (i + 1) : Nat) : Int)) ∧ ∃ m, w' = (wr.drewN q2).drewN m := fun q2 => by
            have := border_some b o c1 (ps.take (i + 1)) (wr.drewN q2) (by omega) (by omega) hblt (by omega) hcm (fun j hj => by
              have h1 := hc j (by omega)
              rw [show (ps.take (i + 1)).getD j 0 = ps.getD j 0 from by simp [List.getD_eq_getElem?_getD, List.getElem?_take, show j < i + 1 by omega]]
              exact h1)
            rw [hl, lb_take ps (i + 1) (by omega) (by omega)] at this
            exact this
          have Hcall : Hid _ := hcall
          clear hcall hc hcb hl
          generalize Plain.lb (fn ps) (i + 1) = y at *
          have hI1 : (i : Int) + 1 ≤ (c1 : Int) := by omega
          have hI2 : (i : Int) < (ps.length : Int) := by omega
          have hI3 : ((i : Int) + 1).toNat = i + 1 := by omega
          have hI4 : (0 : Int) ≤ (i : Int) + 1 := by omega
          have hW1 : IntKind.i64.wrap ((i : Int) + 1) = (i : Int) + 1 := IntWalk.i64_in _ ⟨by omega, by omega⟩
          go_wp2_with fail
          go_quiet ((go_at_call 12; refine Calls.quiet_of (Hcall.out _)))
          go_wp2_with fail
          go_roundw
          case rel => exact ⟨i + 1, by go_num, by omega, (by obtain ⟨q, hq⟩ := Hq.out; exact ⟨q + nq, by rw [hq, World.drewN_drewN]⟩)⟩
          case measure => simp [intOf]; omega
    · obtain rfl : i = ps.length := by omega
      have Hb5 : Hid (Below w.heap.size w wr) := by obtain ⟨q, hq⟩ := Hq.out; rw [hq]; exact below_drewN hB4 q
      have Hp5 : Hid (Reads wr (.slice a1 ps.length c1) ps) := by obtain ⟨q, hq⟩ := Hq.out; rw [hq]; exact Hp4.out
      have Hs5 : Hid (Reads wr (.slice a2 ss.length c2) ss) := by obtain ⟨q, hq⟩ := Hq.out; rw [hq]; exact Hs4.out
      have Hrl5 : Hid (Reads wr (.slice a4 (plist ps ss).length c4) (plist ps ss)) := by obtain ⟨q, hq⟩ := Hq.out; rw [hq]; exact Hrl4.out
      clear Hq Hp4 Hs4 Hrl4 Hrb4 hB4
      go_wp2_with fail
      refine (places_any _ _ ps ss wr Hp5.out Hs5.out hpl hsl).mono ?_
      rintro e w6 ⟨hb6, vw, rfl, hown⟩
      have hrw := owned_reads hown
      obtain ⟨a5, c5, hvw⟩ := hrw.shape
      subst hvw
      have Hrw : Hid (Reads w6 (.slice a5 (plist ps ss).length c5) (plist ps ss)) := hrw
      have Hrl6 : Hid (Reads w6 (.slice a4 (plist ps ss).length c4) (plist ps ss)) := Hrl5.out.below hb6
      have hB6 := below_trans Hb5.out hb6 Hb5.out.size
      clear hown hrw hb6 Hp5 Hs5 Hrl5
      generalize hgl : plist ps ss = l at *
      clear hgl
      have hlow := lows_le l x
      go_wp2_with fail
      go_loop [17, 18, 123] (fun u17 u18 u => ∃ j : Nat, u = .int .i64 (j : Int) ∧ j ≤ l.length ∧ u17 = .int .i64 (xAt l x j) ∧ u18 = .int .i64 (yAt l x j)) (fun _ _ u => l.length - (intOf u).toNat)
      case atStart => exact ⟨0, rfl, by omega, rfl, by unfold yAt; rw [Nat.zero_min]; rfl⟩
      case round =>
        obtain ⟨j, rfl, hj, rfl, rfl⟩ := hrel
        by_cases hjl : j < l.length
        · rcases Hrw.out with ⟨_, _, _, rfl⟩ | ⟨b, o, c, he, _, _, _, hc⟩
          · simp at hjl
          · simp only [Value.slice.injEq] at he
            obtain ⟨rfl, _, rfl⟩ := he
            have hcx := hc j hjl
            clear hc
            have hsp := lows_spec l x Hso.out j hjl
            obtain ⟨z, hz⟩ : ∃ z, z = l.getD j 0 := ⟨_, rfl⟩
            have hz0 : (0 : Int) ≤ z := by rw [hz]; exact Hnn.out _ (getD_mem' l j hjl)
            rw [← hz] at hcx hsp
            rcases Nat.lt_trichotomy j (lows l x) with hlt | rfl | hgt
            · obtain ⟨e1, e2, e3⟩ := x_low hlt
              have hzx := hsp.2 hlt
              rw [← hz] at e3
              have E2 : Hid (xAt l x (j + 1) = -1) := e2
              have E3 : Hid (yAt l x (j + 1) = z) := e3
              rw [e1]
              clear e1 e2 e3 hsp hz
              generalize yAt l x j = y0 at *
              go_wp2_with fail
              go_round
              case rel => exact ⟨j + 1, by go_num, by omega, by rw [E2.out], by rw [E3.out]⟩
              case measure => simp [intOf]; omega
            · obtain ⟨e1, e2, e3⟩ := x_at (l := l) (x := x)
              have hzx : ¬ z < x := fun h => absurd (hsp.1 h) (by omega)
              rw [← hz] at e2
              have E2 : Hid (xAt l x (lows l x + 1) = z) := e2
              have E3 : Hid (yAt l x (lows l x + 1) = yAt l x (lows l x)) := e3
              rw [e1]
              clear e1 e2 e3 hsp hz
              generalize yAt l x (lows l x) = y0 at *
              generalize lows l x = k at *
              go_wp2_with fail
              go_round
              case rel => exact ⟨k + 1, by go_num, by omega, by rw [E2.out], by rw [E3.out]⟩
              case measure => simp [intOf]; omega
            · obtain ⟨e1, e2, e3⟩ := x_high hgt
              have hzx : ¬ z < x := fun h => absurd (hsp.1 h) (by omega)
              have hu0 : (0 : Int) ≤ l.getD (lows l x) 0 := Hnn.out _ (getD_mem' l _ (by omega))
              have E2 : Hid (xAt l x (j + 1) = l.getD (lows l x) 0) := e2
              have E3 : Hid (yAt l x (j + 1) = yAt l x j) := e3
              rw [e1]
              clear e1 e2 e3 hsp hz
              generalize yAt l x j = y0 at *
              generalize l.getD (lows l x) 0 = x0 at *
              go_wp2_with fail
              go_round
              case rel => exact ⟨j + 1, by go_num, by omega, by rw [E2.out], by rw [E3.out]⟩
              case measure => simp [intOf]; omega
        · obtain rfl : j = l.length := by omega
          have hN := HHne.out
          have hL := HHle.out
          generalize xAt l x l.length = xe at *
          generalize yAt l x l.length = ye at *
          clear HHne HHle
          rcases hN with ⟨hx1, h1⟩ | ⟨z, hz0, hx1, h1⟩
          · obtain ⟨h2, h3⟩ := Prod.mk.inj h1
            subst hx1 h2 h3
            clear h1
            rcases hL with ⟨hy1, g1⟩ | ⟨z2, hz2, hy1, g1⟩
            · obtain ⟨g2, g3⟩ := Prod.mk.inj g1
              subst hy1 g2 g3
              clear g1
              go_wp2_with fail
              refine (equal_any _ _ l l w6 Hrl6.out Hrw.out (by unfold maxLen; omega) (by unfold maxLen; omega)).mono ?_
              rintro e w7 ⟨rfl, q7, hw7⟩
              have hB7 : Below w.heap.size w w7 := by rw [hw7]; exact below_drewN hB6 q7
              rw [beq_self_eq_true]
              clear hw7
              go_wp2_with fail
              go_ret
              exact ⟨rfl, hB7⟩
            · obtain ⟨g2, g3⟩ := Prod.mk.inj g1
              subst hy1 g2 g3
              clear g1
              go_wp2_with fail
              refine (equal_any _ _ l l w6 Hrl6.out Hrw.out (by unfold maxLen; omega) (by unfold maxLen; omega)).mono ?_
              rintro e w7 ⟨rfl, q7, hw7⟩
              have hB7 : Below w.heap.size w w7 := by rw [hw7]; exact below_drewN hB6 q7
              rw [beq_self_eq_true]
              clear hw7
              go_wp2_with fail
              go_ret
              exact ⟨rfl, hB7⟩
          · obtain ⟨h2, h3⟩ := Prod.mk.inj h1
            subst hx1 h2 h3
            clear h1
            rcases hL with ⟨hy1, g1⟩ | ⟨z2, hz2, hy1, g1⟩
            · obtain ⟨g2, g3⟩ := Prod.mk.inj g1
              subst hy1 g2 g3
              clear g1
              go_wp2_with fail
              refine (equal_any _ _ l l w6 Hrl6.out Hrw.out (by unfold maxLen; omega) (by unfold maxLen; omega)).mono ?_
              rintro e w7 ⟨rfl, q7, hw7⟩
              have hB7 : Below w.heap.size w w7 := by rw [hw7]; exact below_drewN hB6 q7
              rw [beq_self_eq_true]
              clear hw7
              go_wp2_with fail
              go_ret
              exact ⟨rfl, hB7⟩
            · obtain ⟨g2, g3⟩ := Prod.mk.inj g1
              subst hy1 g2 g3
              clear g1
              go_wp2_with fail
              refine (equal_any _ _ l l w6 Hrl6.out Hrw.out (by unfold maxLen; omega) (by unfold maxLen; omega)).mono ?_
              rintro e w7 ⟨rfl, q7, hw7⟩
              have hB7 : Below w.heap.size w w7 := by rw [hw7]; exact below_drewN hB6 q7
              rw [beq_self_eq_true]
              clear hw7
              go_wp2_with fail
              go_ret
              exact ⟨rfl, hB7⟩
end Go.Proofs.Ytppgpejeedjajaa.Seek
