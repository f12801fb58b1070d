/- The walk of RegBack. -/
import Derived.Test.YtobmggijdmdidaaRefPut
import Derived.Test.YtobmggijdmdidaaGetGo
import Derived.Test.YtobmggijdmdidaaSame
import Derived.Test.YtobmggijdmdidaaOf
import Derived.Deep.RegionHeld3
import Derived.Deep.RegionWith
set_option linter.unusedVariables false
set_option linter.unusedSimpArgs false
namespace Go.Proofs.Ytobmggijdmdidaa.Seek
open Go.RowKit

theorem below_join {W w1 w2 : World} (h : Below W.heap.size W w1) (h2 : Below w1.heap.size w1 w2) : Below W.heap.size W w2 := below_trans h h2 h.size
theorem below_dr {W w' : World} (h : Below W.heap.size W w') : Below W.heap.size W w'.drew := h.drew
theorem of_x (w : World) : Calls Try.prog 12 #[.string ⟨#[120]⟩] w fun e w' => Below w.heap.size w w' ∧ ∃ a c, e = .returned (.slice a 1 c) ∧ Reads w' (.slice a 1 c) [120] := by
  refine (of_any ⟨#[120]⟩ w (by decide)).mono ?_
  rintro e w' ⟨hb, v, rfl, ho⟩
  have hc : codes ⟨#[120]⟩ = [120] := by decide
  rw [hc] at ho
  have hr := owned_reads ho
  obtain ⟨a, c, hv⟩ := hr.shape
  subst hv
  exact ⟨hb, a, c, rfl, hr⟩
theorem named_small (i : Nat) (h : i < 26) : Named (97 + (i : Int)) (i + 1) false := .inr (.inl ⟨by omega, by omega, by omega, rfl⟩)
theorem named_great (i : Nat) (h : i < 26) : Named ((i : Int) + 65) (i + 1) true := .inr (.inr ⟨by omega, by omega, by omega, rfl⟩)
theorem put_small (ts : List (List Int)) (i : Nat) (h : i < 26) (a : List Int) :
    (200 < a.length ∧ Putd ts (97 + (i : Int)) a 2 nilT) ∨ (a.length ≤ 200 ∧ Putd ts (97 + (i : Int)) a 0 ((ts.set (i + 1) a).set 0 a)) := by
  by_cases h0 : 200 < a.length
  · exact .inl ⟨h0, .inr ⟨_, _, named_small i h, .inl ⟨by show 200 < 0 + a.length; omega, rfl, rfl⟩⟩⟩
  · exact .inr ⟨by omega, .inr ⟨_, _, named_small i h, .inr ⟨by show 0 + a.length ≤ 200; omega, rfl, rfl⟩⟩⟩
theorem put_great (ts : List (List Int)) (i : Nat) (h : i < 26) (a b : List Int) (ha : ts.getD (i + 1) [] = a) :
    (200 < a.length + b.length ∧ Putd ts ((i : Int) + 65) b 2 nilT) ∨ (a.length + b.length ≤ 200 ∧ Putd ts ((i : Int) + 65) b 0 ((ts.set (i + 1) (a ++ b)).set 0 (a ++ b))) := by
  have e : ahd ts (i + 1) true = a := ha
  by_cases h0 : 200 < a.length + b.length
  · exact .inl ⟨h0, .inr ⟨_, _, named_great i h, .inl ⟨by rw [e]; exact h0, rfl, rfl⟩⟩⟩
  · exact .inr ⟨by omega, .inr ⟨_, _, named_great i h, .inr ⟨by rw [e]; omega, rfl, by rw [e]⟩⟩⟩
theorem got_of {ts : List (List Int)} {name : Int} {k : Nat} {g : Bool} (h : Named name k g) (x : List Int) (hx : ts.getD k [] = x) : (x = [] ∧ Got ts name 6 x) ∨ (x ≠ [] ∧ Got ts name 0 x) := by
  by_cases h0 : x = []
  · exact .inl ⟨h0, .inr ⟨k, g, h, .inl ⟨by rw [hx, h0], rfl, h0⟩⟩⟩
  · exact .inr ⟨h0, .inr ⟨k, g, h, .inr ⟨by rw [hx]; exact h0, rfl, hx.symm⟩⟩⟩
theorem got_both (ts : List (List Int)) (hl : ts.length = 27) (i : Nat) (hi : i < 26) (a : List Int) (other : Int) :
    ∃ h p h' p', Got ts other h p ∧ Got ((ts.set (i + 1) a).set 0 a) other h' p' ∧ (other = 97 + (i : Int) ∨ other = (i : Int) + 65 ∨ other = 0 ∨ (other ≠ 97 + (i : Int) ∧ other ≠ (i : Int) + 65 ∧ other ≠ 0 ∧ h' = h ∧ p' = p)) := by
  obtain ⟨h, p, hG⟩ := got_or ts other
  by_cases h1 : other = 97 + (i : Int) ∨ other = (i : Int) + 65 ∨ other = 0
  · obtain ⟨h', p', hG'⟩ := got_or ((ts.set (i + 1) a).set 0 a) other
    exact ⟨h, p, h', p', hG, hG', by omega⟩
  · refine ⟨h, p, h, p, hG, ?_, .inr (.inr (.inr ⟨by omega, by omega, by omega, rfl, rfl⟩))⟩
    rcases hG with hG | ⟨k, g, hN, hG⟩
    · exact .inl hG
    · refine .inr ⟨k, g, hN, ?_⟩
      have hk : k ≠ 0 ∧ k ≠ i + 1 := by unfold Named at hN; omega
      rw [getD_set_other _ _ _ _ _ (Ne.symm hk.1), getD_set_other _ _ _ _ _ (Ne.symm hk.2)]
      exact hG
theorem put_at (ts : List (List Int)) (hl : ts.length = 27) (i : Nat) (hi : i < 26) (a : List Int) : ((ts.set (i + 1) a).set 0 a).getD (i + 1) [] = a ∧ ((ts.set (i + 1) a).set 0 a).getD 0 [] = a ∧ ((ts.set (i + 1) a).set 0 a).length = 27 := by
  refine ⟨?_, getD_set_same _ _ _ _ (by rw [List.length_set]; omega), by rw [List.length_set, List.length_set]; exact hl⟩
  rw [getD_set_other _ _ _ _ _ (by omega), getD_set_same _ _ _ _ (by omega)]

set_option maxRecDepth 100000 in
set_option maxHeartbeats 8000000 in
theorem back_walk (va vb : Value) (a b : List Int) (name other : Int) (vs : List Value) (ts : List (List Int)) (w : World) (ha : Reads w va a) (hb : Reads w vb b) (ha8 : a.length * 8 ≤ 140737488351232) (hb8 : b.length * 8 ≤ 140737488351232) (h : ReadsR w vs ts) :
    Calls Try.prog 4 #[arr vs, .int .i64 name, .int .i64 other, va, vb] w fun e w' => e = .returned (.bool true) ∧ Below w.heap.size w w' := by
  obtain ⟨aa, ac, rfl⟩ := ha.shape
  obtain ⟨ba, bc, rfl⟩ := hb.shape
  have hl := h.1
  have HLT : Hid (ts.length = 27) := h.2.1
  have A_w : Hid (Reads w (.slice aa a.length ac) a) := ha
  have B_w : Hid (Reads w (.slice ba b.length bc) b) := hb
  have T_w : Hid (ReadsR w vs ts) := h
  have HMA : Hid (Mild a) := ha8
  have HMB : Hid (Mild b) := hb8
  clear h ha hb
  have HP0 : Hid (Putd nilT 99 [120] 0 ((nilT.set 3 [120]).set 0 [120])) := .inr ⟨3, false, .inr (.inl ⟨by decide, by decide, by decide, rfl⟩), .inr ⟨by decide, rfl, rfl⟩⟩
  go_enter Try.func4, Try.ntmps4
  go_wp2_with (refine box24 rfl _ rfl vs rfl hl ?_)
  intro w1 ha hb
  have HB_w1 : Hid (Below w.heap.size w w1) := hb
  have A_w1 : Hid (Reads w1 (.slice aa a.length ac) a) := A_w.out.below hb
  have B_w1 : Hid (Reads w1 (.slice ba b.length bc) b) := B_w.out.below hb
  have T_w1 : Hid (ReadsR w1 vs ts) := T_w.out.below hb
  clear A_w B_w T_w
  have V_w1 : Hid (HoldsA w1 w.heap.size vs) := ha
  clear ha hb
  go_wp2_with (first | (refine build24 rfl rfl ?_))
  refine (of_x w1).mono ?_
  rintro e w2 ⟨hb, xa, xc, rfl, hx⟩
  have X_w2 : Hid (Reads w2 (.slice xa 1 xc) [120]) := hx
  have HB_w2 : Hid (Below w.heap.size w w2) := below_trans HB_w1.out hb HB_w1.out.size
  have A_w2 : Hid (Reads w2 (.slice aa a.length ac) a) := A_w1.out.below hb
  have B_w2 : Hid (Reads w2 (.slice ba b.length bc) b) := B_w1.out.below hb
  have T_w2 : Hid (ReadsR w2 vs ts) := T_w1.out.below hb
  have V_w2 : Hid (HoldsA w2 w.heap.size vs) := V_w1.out.below hb
  clear A_w1 B_w1 T_w1 V_w1 HB_w1
  clear hb hx
  go_wp2_with (fail)
  refine (put_any nils nilT 99 _ [120] 0 _ w2 (readsR_nil _) X_w2.out (by show ([120] : List Int).length * 8 ≤ _; decide) HP0.out).mono ?_
  rintro e w3 ⟨hb, l0, rfl, ho⟩
  have L0_w3 : Hid (ReadsR w3 l0 ((nilT.set 3 [120]).set 0 [120])) := ho.1
  have HB_w3 : Hid (Below w.heap.size w w3) := below_trans HB_w2.out hb HB_w2.out.size
  have A_w3 : Hid (Reads w3 (.slice aa a.length ac) a) := A_w2.out.below hb
  have B_w3 : Hid (Reads w3 (.slice ba b.length bc) b) := B_w2.out.below hb
  have T_w3 : Hid (ReadsR w3 vs ts) := T_w2.out.below hb
  have V_w3 : Hid (HoldsA w3 w.heap.size vs) := V_w2.out.below hb
  have X_w3 : Hid (Reads w3 (.slice xa 1 xc) [120]) := X_w2.out.below hb
  clear A_w2 B_w2 T_w2 V_w2 X_w2 HB_w2
  clear X_w3
  have hl0 : AllSl l0 := ho.1.1
  clear hb ho HP0
  go_wp2_with (refine alloc24 rfl rfl ?_)
  intro w4 ha hb
  have HLG0 : Hid (w.heap.size ≤ w3.heap.size ∧ w.heap.size < w3.heap.size) := ⟨HB_w3.out.size, V_w3.out.lt⟩
  have HB_w4 : Hid (Below w.heap.size w w4) := below_trans HB_w3.out hb HB_w3.out.size
  have A_w4 : Hid (Reads w4 (.slice aa a.length ac) a) := A_w3.out.below hb
  have B_w4 : Hid (Reads w4 (.slice ba b.length bc) b) := B_w3.out.below hb
  have T_w4 : Hid (ReadsR w4 vs ts) := T_w3.out.below hb
  have V_w4 : Hid (HoldsA w4 w.heap.size vs) := V_w3.out.below hb
  have L0_w4 : Hid (ReadsR w4 l0 ((nilT.set 3 [120]).set 0 [120])) := L0_w3.out.below hb
  clear A_w3 B_w3 T_w3 V_w3 L0_w3 HB_w3
  have Z0_w4 : Hid (HoldsA w4 w3.heap.size nils) := ha
  clear ha hb
  generalize w3.heap.size = G0 at *
  go_wp2_with (refine store24 rfl _ _ rfl G0 rfl l0 nils rfl Z0_w4.out hl0 ?_)
  intro w5 hz hg
  have HB_w5 : Hid (Below w.heap.size w w5) := HB_w4.out.grown hg HB_w4.out.size (fun j hj => by have := HLG0.out; cases hj; omega)
  have A_w5 : Hid (Reads w5 (.slice aa a.length ac) a) := A_w4.out.kept hg Z0_w4.out.2 (fun x hx => Z0_w4.out.1.2 x (by simpa using hx))
  have B_w5 : Hid (Reads w5 (.slice ba b.length bc) b) := B_w4.out.kept hg Z0_w4.out.2 (fun x hx => Z0_w4.out.1.2 x (by simpa using hx))
  have T_w5 : Hid (ReadsR w5 vs ts) := T_w4.out.kept hg Z0_w4.out.2 (fun x hx => Z0_w4.out.1.2 x (by simpa using hx))
  have V_w5 : Hid (HoldsA w5 w.heap.size vs) := V_w4.out.kept hg (fun e => by have := HLG0.out; have := Option.some.inj e; omega)
  have L0_w5 : Hid (ReadsR w5 l0 ((nilT.set 3 [120]).set 0 [120])) := L0_w4.out.kept hg Z0_w4.out.2 (fun x hx => Z0_w4.out.1.2 x (by simpa using hx))
  clear A_w4 B_w4 T_w4 V_w4 L0_w4 Z0_w4 HB_w4
  have Z0_w5 : Hid (HoldsA w5 G0 l0) := hz
  clear hz hg
  obtain ⟨a3, c3, e3, r3, _⟩ := L0_w5.out.at_ 3 (by decide)
  obtain ⟨a0, c0, e0, r0, _⟩ := L0_w5.out.at_ 0 (by decide)
  have m3 := Z0_w5.out.cell 3 (by decide)
  have m0 := Z0_w5.out.cell 0 (by decide)
  rw [e3] at m3
  rw [e0] at m0
  have R3 : Hid (Reads w5 (.slice a3 1 c3) [120]) := r3
  have R0 : Hid (Reads w5 (.slice a0 1 c0) [120]) := r0
  have hcs : ∀ w', Below w5.heap.size w5 w' → w'.cell? ⟨G0, 3, none⟩ = some (.slice a3 1 c3) ∧ w'.cell? ⟨G0, 0, none⟩ = some (.slice a0 1 c0) := fun w' hb => ⟨(hb.cell (by exact Z0_w5.out.lt)).trans m3, (hb.cell (by exact Z0_w5.out.lt)).trans m0⟩
  have HCS : Hid (∀ w', Below w5.heap.size w5 w' → w'.cell? ⟨G0, 3, none⟩ = some (.slice a3 1 c3) ∧ w'.cell? ⟨G0, 0, none⟩ = some (.slice a0 1 c0)) := hcs
  clear e3 r3 e0 r0 hcs m3 m0
  go_upto_region 2 with fail
  go_cut [48] from 33 to 48 (fun s48 wx => s48 = .bool false ∧ Hid (Below w5.heap.size w5 wx))
  case first =>
    go_region_held3 (fun w' => w'.cell? ⟨G0, 3, none⟩ = some (.slice a3 1 c3) ∧ w'.cell? ⟨G0, 0, none⟩ = some (.slice a0 1 c0)) ((refine HCS.out _ ?_; (repeat (first | assumption | exact Below.refl _ _ | refine below_dr ?_))))
      (first
        | (go_at_call 12; refine (of_x _).mono ?_; rintro e w2 ⟨hb2, xa, xc, rfl, hx⟩; have hB2 : Below w5.heap.size w5 w2 := (by refine below_join ?_ hb2; (repeat (first | assumption | exact Below.refl _ _ | refine below_dr ?_))))
        | (go_at_call_of 11 a3; refine (equal_same _ _ [120] _ (R3.out.below (by (repeat (first | assumption | exact Below.refl _ _ | refine below_dr ?_)))) (hx.below (by (repeat (first | assumption | exact Below.refl _ _ | refine below_dr ?_)))) (by show ([120] : List Int).length * 8 ≤ _; decide)).mono ?_; rintro e w3 ⟨rfl, q, hq⟩; have hB3 : Below w5.heap.size w5 w3 := (by rw [hq]; refine below_drewN ?_ q; (repeat (first | assumption | exact Below.refl _ _ | refine below_dr ?_))); clear hq)
        | (go_at_call_of 11 a0; refine (equal_same _ _ [120] _ (R0.out.below (by (repeat (first | assumption | exact Below.refl _ _ | refine below_dr ?_)))) (hx.below (by (repeat (first | assumption | exact Below.refl _ _ | refine below_dr ?_)))) (by show ([120] : List Int).length * 8 ≤ _; decide)).mono ?_; rintro e w3 ⟨rfl, q, hq⟩; have hB3 : Below w5.heap.size w5 w3 := (by rw [hq]; refine below_drewN ?_ q; (repeat (first | assumption | exact Below.refl _ _ | refine below_dr ?_))); clear hq))
    go_wp2_with fail
    go_meet
    case rel =>
      refine ⟨rfl, ?_⟩
      show Below _ _ _
      (repeat (first | assumption | exact Below.refl _ _ | refine below_dr ?_))
  case rest =>
    obtain ⟨rfl, hbc⟩ := hcut
    clear L0_w5
    clear Z0_w5
    clear HCS R3 R0
    have HB_wc : Hid (Below w.heap.size w wc) := below_trans HB_w5.out hbc.out HB_w5.out.size
    have A_wc : Hid (Reads wc (.slice aa a.length ac) a) := A_w5.out.below hbc.out
    have B_wc : Hid (Reads wc (.slice ba b.length bc) b) := B_w5.out.below hbc.out
    have T_wc : Hid (ReadsR wc vs ts) := T_w5.out.below hbc.out
    have V_wc : Hid (HoldsA wc w.heap.size vs) := V_w5.out.below hbc.out
    clear A_w5 B_w5 T_w5 V_w5 HB_w5
    clear hbc HLG0
    by_cases n1 : name < 97
    · go_wp2_with fail
      go_ret
      exact ⟨rfl, HB_wc.out⟩
    by_cases n2 : 122 < name
    · have n3 : ¬ name < 97 := n1
      go_wp2_with fail
      go_ret
      exact ⟨rfl, HB_wc.out⟩
    obtain ⟨i, rfl⟩ : ∃ i : Nat, name = 97 + (i : Int) := ⟨(name - 97).toNat, by omega⟩
    have hi : i < 26 := by omega
    clear n1 n2
    have n1 : ¬ 97 + (i : Int) < 97 := by omega
    have n2 : ¬ 122 < 97 + (i : Int) := by omega
    have hsub : 97 + (i : Int) - 97 = (i : Int) := by omega
    go_wp2_with (refine load24 rfl (.tmp 5) rfl w.heap.size rfl vs V_wc.out ?_)
    have HNS : Hid (Named (97 + (i : Int)) (i + 1) false) := named_small i hi
    have HNG : Hid (Named ((i : Int) + 65) (i + 1) true) := named_great i hi
    rcases put_small ts i hi a with ⟨hlen, hP⟩ | ⟨hlen, hP⟩
    · skip
      have HP1 : Hid (Putd ts (97 + (i : Int)) a 2 nilT) := hP
      clear hP hlen
      refine (put_any vs ts (97 + (i : Int)) _ a 2 _ wc T_wc.out A_wc.out HMA.out HP1.out).mono ?_
      rintro e w6 ⟨hb, l1, rfl, ho⟩
      have L1_w6 : Hid (ReadsR w6 l1 nilT) := ho.1
      have HB_w6 : Hid (Below w.heap.size w w6) := below_trans HB_wc.out hb HB_wc.out.size
      have A_w6 : Hid (Reads w6 (.slice aa a.length ac) a) := A_wc.out.below hb
      have B_w6 : Hid (Reads w6 (.slice ba b.length bc) b) := B_wc.out.below hb
      have T_w6 : Hid (ReadsR w6 vs ts) := T_wc.out.below hb
      have V_w6 : Hid (HoldsA w6 w.heap.size vs) := V_wc.out.below hb
      clear A_wc B_wc T_wc V_wc HB_wc
      have hl1 : AllSl l1 := ho.1.1
      clear hb ho HP1
      go_wp2_with (refine alloc24 rfl rfl ?_)
      intro w7 ha hb
      have HLG1 : Hid (w.heap.size ≤ w6.heap.size ∧ w.heap.size < w6.heap.size) := ⟨HB_w6.out.size, V_w6.out.lt⟩
      have HB_w7 : Hid (Below w.heap.size w w7) := below_trans HB_w6.out hb HB_w6.out.size
      have A_w7 : Hid (Reads w7 (.slice aa a.length ac) a) := A_w6.out.below hb
      have B_w7 : Hid (Reads w7 (.slice ba b.length bc) b) := B_w6.out.below hb
      have T_w7 : Hid (ReadsR w7 vs ts) := T_w6.out.below hb
      have V_w7 : Hid (HoldsA w7 w.heap.size vs) := V_w6.out.below hb
      have L1_w7 : Hid (ReadsR w7 l1 nilT) := L1_w6.out.below hb
      clear A_w6 B_w6 T_w6 V_w6 L1_w6 HB_w6
      have Z1_w7 : Hid (HoldsA w7 w6.heap.size nils) := ha
      clear ha hb
      generalize w6.heap.size = G1 at *
      go_wp2_with (refine store24 rfl _ _ rfl G1 rfl l1 nils rfl Z1_w7.out hl1 ?_)
      intro w8 hz hg
      have HB_w8 : Hid (Below w.heap.size w w8) := HB_w7.out.grown hg HB_w7.out.size (fun j hj => by have := HLG1.out; cases hj; omega)
      have A_w8 : Hid (Reads w8 (.slice aa a.length ac) a) := A_w7.out.kept hg Z1_w7.out.2 (fun x hx => Z1_w7.out.1.2 x (by simpa using hx))
      have B_w8 : Hid (Reads w8 (.slice ba b.length bc) b) := B_w7.out.kept hg Z1_w7.out.2 (fun x hx => Z1_w7.out.1.2 x (by simpa using hx))
      have T_w8 : Hid (ReadsR w8 vs ts) := T_w7.out.kept hg Z1_w7.out.2 (fun x hx => Z1_w7.out.1.2 x (by simpa using hx))
      have V_w8 : Hid (HoldsA w8 w.heap.size vs) := V_w7.out.kept hg (fun e => by have := HLG1.out; have := Option.some.inj e; omega)
      have L1_w8 : Hid (ReadsR w8 l1 nilT) := L1_w7.out.kept hg Z1_w7.out.2 (fun x hx => Z1_w7.out.1.2 x (by simpa using hx))
      clear A_w7 B_w7 T_w7 V_w7 L1_w7 Z1_w7 HB_w7
      have Z1_w8 : Hid (HoldsA w8 G1 l1) := hz
      clear hz hg
      go_wp2_with (first | (refine load24 rfl (.tmp 13) rfl G1 rfl l1 Z1_w8.out ?_) | (refine build24 rfl rfl ?_))
      refine (same_any l1 nils nilT w8 L1_w8.out (readsR_nil _)).mono ?_
      rintro e w9 ⟨rfl, hb⟩
      have HB_w9 : Hid (Below w.heap.size w w9) := below_trans HB_w8.out hb HB_w8.out.size
      have A_w9 : Hid (Reads w9 (.slice aa a.length ac) a) := A_w8.out.below hb
      have B_w9 : Hid (Reads w9 (.slice ba b.length bc) b) := B_w8.out.below hb
      have T_w9 : Hid (ReadsR w9 vs ts) := T_w8.out.below hb
      have V_w9 : Hid (HoldsA w9 w.heap.size vs) := V_w8.out.below hb
      have L1_w9 : Hid (ReadsR w9 l1 nilT) := L1_w8.out.below hb
      have Z1_w9 : Hid (HoldsA w9 G1 l1) := Z1_w8.out.below hb
      clear A_w8 B_w8 T_w8 V_w8 L1_w8 Z1_w8 HB_w8
      go_wp2_with (fail)
      go_ret
      exact ⟨rfl, HB_w9.out⟩
    · skip
      have HA200 : Hid (a.length ≤ 200) := hlen
      have HP1 : Hid (Putd ts (97 + (i : Int)) a 0 ((ts.set (i + 1) a).set 0 a)) := hP
      clear hP hlen
      obtain ⟨h, p, h', p', hG, hG', hoth⟩ := got_both ts HLT.out i hi a other
      obtain ⟨t1, ht1⟩ : ∃ t1, t1 = (ts.set (i + 1) a).set 0 a := ⟨_, rfl⟩
      have HT1 : Hid (t1.getD (i + 1) [] = a ∧ t1.getD 0 [] = a ∧ t1.length = 27) := by rw [ht1]; exact put_at ts HLT.out i hi a
      rw [← ht1] at HP1 hG'
      have HG1 : Hid (Got ts other h p) := hG
      have HG2 : Hid (Got t1 other h' p') := hG'
      clear hG hG' ht1
      refine (put_any vs ts (97 + (i : Int)) _ a 0 _ wc T_wc.out A_wc.out HMA.out HP1.out).mono ?_
      rintro e w6 ⟨hb, l1, rfl, ho⟩
      have L1_w6 : Hid (ReadsR w6 l1 t1) := ho.1
      have HB_w6 : Hid (Below w.heap.size w w6) := below_trans HB_wc.out hb HB_wc.out.size
      have A_w6 : Hid (Reads w6 (.slice aa a.length ac) a) := A_wc.out.below hb
      have B_w6 : Hid (Reads w6 (.slice ba b.length bc) b) := B_wc.out.below hb
      have T_w6 : Hid (ReadsR w6 vs ts) := T_wc.out.below hb
      have V_w6 : Hid (HoldsA w6 w.heap.size vs) := V_wc.out.below hb
      clear A_wc B_wc T_wc V_wc HB_wc
      have hl1 : AllSl l1 := ho.1.1
      clear hb ho HP1
      go_wp2_with (refine alloc24 rfl rfl ?_)
      intro w7 ha hb
      have HLG1 : Hid (w.heap.size ≤ w6.heap.size ∧ w.heap.size < w6.heap.size) := ⟨HB_w6.out.size, V_w6.out.lt⟩
      have HB_w7 : Hid (Below w.heap.size w w7) := below_trans HB_w6.out hb HB_w6.out.size
      have A_w7 : Hid (Reads w7 (.slice aa a.length ac) a) := A_w6.out.below hb
      have B_w7 : Hid (Reads w7 (.slice ba b.length bc) b) := B_w6.out.below hb
      have T_w7 : Hid (ReadsR w7 vs ts) := T_w6.out.below hb
      have V_w7 : Hid (HoldsA w7 w.heap.size vs) := V_w6.out.below hb
      have L1_w7 : Hid (ReadsR w7 l1 t1) := L1_w6.out.below hb
      clear A_w6 B_w6 T_w6 V_w6 L1_w6 HB_w6
      have Z1_w7 : Hid (HoldsA w7 w6.heap.size nils) := ha
      clear ha hb
      generalize w6.heap.size = G1 at *
      go_wp2_with (refine store24 rfl _ _ rfl G1 rfl l1 nils rfl Z1_w7.out hl1 ?_)
      intro w8 hz hg
      have HB_w8 : Hid (Below w.heap.size w w8) := HB_w7.out.grown hg HB_w7.out.size (fun j hj => by have := HLG1.out; cases hj; omega)
      have A_w8 : Hid (Reads w8 (.slice aa a.length ac) a) := A_w7.out.kept hg Z1_w7.out.2 (fun x hx => Z1_w7.out.1.2 x (by simpa using hx))
      have B_w8 : Hid (Reads w8 (.slice ba b.length bc) b) := B_w7.out.kept hg Z1_w7.out.2 (fun x hx => Z1_w7.out.1.2 x (by simpa using hx))
      have T_w8 : Hid (ReadsR w8 vs ts) := T_w7.out.kept hg Z1_w7.out.2 (fun x hx => Z1_w7.out.1.2 x (by simpa using hx))
      have V_w8 : Hid (HoldsA w8 w.heap.size vs) := V_w7.out.kept hg (fun e => by have := HLG1.out; have := Option.some.inj e; omega)
      have L1_w8 : Hid (ReadsR w8 l1 t1) := L1_w7.out.kept hg Z1_w7.out.2 (fun x hx => Z1_w7.out.1.2 x (by simpa using hx))
      clear A_w7 B_w7 T_w7 V_w7 L1_w7 Z1_w7 HB_w7
      have Z1_w8 : Hid (HoldsA w8 G1 l1) := hz
      clear hz hg
      go_wp2_with (refine load24 rfl (.tmp 13) rfl G1 rfl l1 Z1_w8.out ?_)
      obtain ⟨f, t2, hP2, hfin⟩ : ∃ f t2, Putd t1 ((i : Int) + 65) b f t2 ∧ ((f = 2 ∧ 200 < a.length + b.length) ∨ (f = 0 ∧ a.length + b.length ≤ 200 ∧ t2 = (t1.set (i + 1) (a ++ b)).set 0 (a ++ b))) := by
        rcases put_great t1 i hi a b HT1.out.1 with ⟨q, hP⟩ | ⟨q, hP⟩
        · exact ⟨2, _, hP, .inl ⟨rfl, q⟩⟩
        · exact ⟨0, _, hP, .inr ⟨rfl, q, rfl⟩⟩
      have HP2 : Hid (Putd t1 ((i : Int) + 65) b f t2) := hP2
      clear hP2
      refine (put_any l1 t1 ((i : Int) + 65) _ b f t2 w8 L1_w8.out B_w8.out HMB.out HP2.out).mono ?_
      rintro e w9 ⟨hb, l2, rfl, ho⟩
      have L2_w9 : Hid (ReadsR w9 l2 t2) := ho.1
      have HB_w9 : Hid (Below w.heap.size w w9) := below_trans HB_w8.out hb HB_w8.out.size
      have A_w9 : Hid (Reads w9 (.slice aa a.length ac) a) := A_w8.out.below hb
      have B_w9 : Hid (Reads w9 (.slice ba b.length bc) b) := B_w8.out.below hb
      have T_w9 : Hid (ReadsR w9 vs ts) := T_w8.out.below hb
      have V_w9 : Hid (HoldsA w9 w.heap.size vs) := V_w8.out.below hb
      have L1_w9 : Hid (ReadsR w9 l1 t1) := L1_w8.out.below hb
      have Z1_w9 : Hid (HoldsA w9 G1 l1) := Z1_w8.out.below hb
      clear A_w8 B_w8 T_w8 V_w8 L1_w8 Z1_w8 HB_w8
      have hl2 : AllSl l2 := ho.1.1
      clear hb ho HP2
      go_wp2_with (refine alloc24 rfl rfl ?_)
      intro w10 ha hb
      have HLG2 : Hid (w.heap.size ≤ w9.heap.size ∧ w.heap.size < w9.heap.size ∧ G1 < w9.heap.size) := ⟨HB_w9.out.size, V_w9.out.lt, Z1_w9.out.lt⟩
      have HB_w10 : Hid (Below w.heap.size w w10) := below_trans HB_w9.out hb HB_w9.out.size
      have A_w10 : Hid (Reads w10 (.slice aa a.length ac) a) := A_w9.out.below hb
      have B_w10 : Hid (Reads w10 (.slice ba b.length bc) b) := B_w9.out.below hb
      have T_w10 : Hid (ReadsR w10 vs ts) := T_w9.out.below hb
      have V_w10 : Hid (HoldsA w10 w.heap.size vs) := V_w9.out.below hb
      have L1_w10 : Hid (ReadsR w10 l1 t1) := L1_w9.out.below hb
      have Z1_w10 : Hid (HoldsA w10 G1 l1) := Z1_w9.out.below hb
      have L2_w10 : Hid (ReadsR w10 l2 t2) := L2_w9.out.below hb
      clear A_w9 B_w9 T_w9 V_w9 L1_w9 Z1_w9 L2_w9 HB_w9
      have Z2_w10 : Hid (HoldsA w10 w9.heap.size nils) := ha
      clear ha hb
      generalize w9.heap.size = G2 at *
      go_wp2_with (refine store24 rfl _ _ rfl G2 rfl l2 nils rfl Z2_w10.out hl2 ?_)
      intro w11 hz hg
      have HB_w11 : Hid (Below w.heap.size w w11) := HB_w10.out.grown hg HB_w10.out.size (fun j hj => by have := HLG2.out; cases hj; omega)
      have A_w11 : Hid (Reads w11 (.slice aa a.length ac) a) := A_w10.out.kept hg Z2_w10.out.2 (fun x hx => Z2_w10.out.1.2 x (by simpa using hx))
      have B_w11 : Hid (Reads w11 (.slice ba b.length bc) b) := B_w10.out.kept hg Z2_w10.out.2 (fun x hx => Z2_w10.out.1.2 x (by simpa using hx))
      have T_w11 : Hid (ReadsR w11 vs ts) := T_w10.out.kept hg Z2_w10.out.2 (fun x hx => Z2_w10.out.1.2 x (by simpa using hx))
      have V_w11 : Hid (HoldsA w11 w.heap.size vs) := V_w10.out.kept hg (fun e => by have := HLG2.out; have := Option.some.inj e; omega)
      have L1_w11 : Hid (ReadsR w11 l1 t1) := L1_w10.out.kept hg Z2_w10.out.2 (fun x hx => Z2_w10.out.1.2 x (by simpa using hx))
      have Z1_w11 : Hid (HoldsA w11 G1 l1) := Z1_w10.out.kept hg (fun e => by have := HLG2.out; have := HLG1.out; have := Option.some.inj e; omega)
      have L2_w11 : Hid (ReadsR w11 l2 t2) := L2_w10.out.kept hg Z2_w10.out.2 (fun x hx => Z2_w10.out.1.2 x (by simpa using hx))
      clear A_w10 B_w10 T_w10 V_w10 L1_w10 Z1_w10 L2_w10 Z2_w10 HB_w10
      have Z2_w11 : Hid (HoldsA w11 G2 l2) := hz
      clear hz hg
      go_wp2_with (refine load24 rfl (.tmp 13) rfl G1 rfl l1 Z1_w11.out ?_)
      obtain ⟨g, hG, hga⟩ : ∃ g, Got t1 (97 + (i : Int)) g a ∧ ((a = [] ∧ g = 6) ∨ (a ≠ [] ∧ g = 0)) := by
        rcases got_of HNS.out a HT1.out.1 with ⟨q, hG⟩ | ⟨q, hG⟩
        · exact ⟨6, hG, .inl ⟨q, rfl⟩⟩
        · exact ⟨0, hG, .inr ⟨q, rfl⟩⟩
      have HG3 : Hid (Got t1 (97 + (i : Int)) g a) := hG
      clear hG
      refine (get_any l1 t1 (97 + (i : Int)) g a w11 L1_w11.out HG3.out).mono ?_
      rintro e w12 ⟨hb, xa, xc, rfl, ho⟩
      have X_w12 : Hid (Reads w12 (.slice xa a.length xc) a) := ho.reads
      have HB_w12 : Hid (Below w.heap.size w w12) := below_trans HB_w11.out hb HB_w11.out.size
      have A_w12 : Hid (Reads w12 (.slice aa a.length ac) a) := A_w11.out.below hb
      have B_w12 : Hid (Reads w12 (.slice ba b.length bc) b) := B_w11.out.below hb
      have T_w12 : Hid (ReadsR w12 vs ts) := T_w11.out.below hb
      have V_w12 : Hid (HoldsA w12 w.heap.size vs) := V_w11.out.below hb
      have L1_w12 : Hid (ReadsR w12 l1 t1) := L1_w11.out.below hb
      have Z1_w12 : Hid (HoldsA w12 G1 l1) := Z1_w11.out.below hb
      have L2_w12 : Hid (ReadsR w12 l2 t2) := L2_w11.out.below hb
      have Z2_w12 : Hid (HoldsA w12 G2 l2) := Z2_w11.out.below hb
      clear A_w11 B_w11 T_w11 V_w11 L1_w11 Z1_w11 L2_w11 Z2_w11 HB_w11
      clear hb ho HG3
      go_upto_region 11 with fail
      go_cut [103] from 82 to 103 (fun s103 wx => s103 = .bool false ∧ Hid (∃ q, wx = w12.drewN q))
      case first =>
        rcases hga with ⟨h0, hg⟩ | ⟨h0, hg⟩
        · have hx0 : (a.length : Int) = 0 := by rw [h0]; rfl
          subst hg
          clear h0
          go_wp2_with fail
          go_meet
          case rel => exact ⟨rfl, 0, rfl⟩
        · have hx0 : 0 < (a.length : Int) := by have := List.length_pos_iff.2 h0; omega
          have hx1 : ((a.length : Int) == 0) = false := by rw [beq_eq_false_iff_ne]; omega
          subst hg
          clear h0
          go_wp2_with fail
          refine (equal_same _ _ a _ X_w12.out A_w12.out HMA.out).mono ?_
          rintro e wy ⟨rfl, q, hq⟩
          have HQ : Hid (∃ q, wy = w12.drewN q) := ⟨q, hq⟩
          clear hq
          go_wp2_with fail
          go_meet
          case rel => exact ⟨rfl, HQ.out⟩
      case rest =>
        clear X_w12
        obtain ⟨rfl, hq⟩ := hcut
        have hbq : Below w12.heap.size w12 wc := by obtain ⟨q, hq⟩ := hq.out; rw [hq]; exact below_drewN (Below.refl _ _) q
        clear hq hga
        obtain ⟨we, hwe⟩ : ∃ we, we = wc := ⟨_, rfl⟩
        subst hwe
        have HB_we : Hid (Below w.heap.size w we) := below_trans HB_w12.out hbq HB_w12.out.size
        have A_we : Hid (Reads we (.slice aa a.length ac) a) := A_w12.out.below hbq
        have B_we : Hid (Reads we (.slice ba b.length bc) b) := B_w12.out.below hbq
        have T_we : Hid (ReadsR we vs ts) := T_w12.out.below hbq
        have V_we : Hid (HoldsA we w.heap.size vs) := V_w12.out.below hbq
        have L1_we : Hid (ReadsR we l1 t1) := L1_w12.out.below hbq
        have Z1_we : Hid (HoldsA we G1 l1) := Z1_w12.out.below hbq
        have L2_we : Hid (ReadsR we l2 t2) := L2_w12.out.below hbq
        have Z2_we : Hid (HoldsA we G2 l2) := Z2_w12.out.below hbq
        clear A_w12 B_w12 T_w12 V_w12 L1_w12 Z1_w12 L2_w12 Z2_w12 HB_w12
        clear hbq
        go_wp2_with (refine load24 rfl (.tmp 5) rfl w.heap.size rfl vs V_we.out ?_)
        refine (get_any vs ts other h p we T_we.out HG1.out).mono ?_
        rintro e w13 ⟨hb, pa, pc, rfl, ho⟩
        have P_w13 : Hid (Reads w13 (.slice pa p.length pc) p) := ho.reads
        have HB_w13 : Hid (Below w.heap.size w w13) := below_trans HB_we.out hb HB_we.out.size
        have A_w13 : Hid (Reads w13 (.slice aa a.length ac) a) := A_we.out.below hb
        have B_w13 : Hid (Reads w13 (.slice ba b.length bc) b) := B_we.out.below hb
        have T_w13 : Hid (ReadsR w13 vs ts) := T_we.out.below hb
        have V_w13 : Hid (HoldsA w13 w.heap.size vs) := V_we.out.below hb
        have L1_w13 : Hid (ReadsR w13 l1 t1) := L1_we.out.below hb
        have Z1_w13 : Hid (HoldsA w13 G1 l1) := Z1_we.out.below hb
        have L2_w13 : Hid (ReadsR w13 l2 t2) := L2_we.out.below hb
        have Z2_w13 : Hid (HoldsA w13 G2 l2) := Z2_we.out.below hb
        clear A_we B_we T_we V_we L1_we Z1_we L2_we Z2_we HB_we
        have HMP : Hid (Mild p) := HG1.out.mild T_w13.out
        clear hb ho HG1
        go_wp2_with (refine load24 rfl (.tmp 13) rfl G1 rfl l1 Z1_w13.out ?_)
        refine (get_any l1 t1 other h' p' w13 L1_w13.out HG2.out).mono ?_
        rintro e w14 ⟨hb, qa, qc, rfl, ho⟩
        have Q_w14 : Hid (Reads w14 (.slice qa p'.length qc) p') := ho.reads
        have HB_w14 : Hid (Below w.heap.size w w14) := below_trans HB_w13.out hb HB_w13.out.size
        have A_w14 : Hid (Reads w14 (.slice aa a.length ac) a) := A_w13.out.below hb
        have B_w14 : Hid (Reads w14 (.slice ba b.length bc) b) := B_w13.out.below hb
        have T_w14 : Hid (ReadsR w14 vs ts) := T_w13.out.below hb
        have V_w14 : Hid (HoldsA w14 w.heap.size vs) := V_w13.out.below hb
        have L1_w14 : Hid (ReadsR w14 l1 t1) := L1_w13.out.below hb
        have Z1_w14 : Hid (HoldsA w14 G1 l1) := Z1_w13.out.below hb
        have L2_w14 : Hid (ReadsR w14 l2 t2) := L2_w13.out.below hb
        have Z2_w14 : Hid (HoldsA w14 G2 l2) := Z2_w13.out.below hb
        have P_w14 : Hid (Reads w14 (.slice pa p.length pc) p) := P_w13.out.below hb
        clear A_w13 B_w13 T_w13 V_w13 L1_w13 Z1_w13 L2_w13 Z2_w13 P_w13 HB_w13
        clear hb ho HG2
        go_upto_region 15 with fail
        go_cut [140] from 116 to 140 (fun s140 wx => s140 = .bool false ∧ Hid (∃ q, wx = w14.drewN q))
        case first =>
          have c1 : ((i : Int) + 65 == 97 + (i : Int)) = false := by rw [beq_eq_false_iff_ne]; omega
          have c2 : ((0 : Int) == 97 + (i : Int)) = false := by rw [beq_eq_false_iff_ne]; omega
          have c3 : ((0 : Int) == (i : Int) + 65) = false := by rw [beq_eq_false_iff_ne]; omega
          rcases hoth with rfl | rfl | rfl | ⟨o1, o2, o3, rfl, rfl⟩
          · go_wp2_with fail
            go_meet
            case rel => exact ⟨rfl, 0, rfl⟩
          · go_wp2_with fail
            go_meet
            case rel => exact ⟨rfl, 0, rfl⟩
          · go_wp2_with fail
            go_meet
            case rel => exact ⟨rfl, 0, rfl⟩
          · have d1 : (other != 97 + (i : Int)) = true := by rw [bne_iff_ne]; exact o1
            have d2 : (other != (i : Int) + 65) = true := by rw [bne_iff_ne]; exact o2
            have d3 : (other != 0) = true := by rw [bne_iff_ne]; exact o3
            clear o1 o2 o3
            go_wp2_with fail
            refine (equal_same _ _ _ _ P_w14.out Q_w14.out HMP.out).mono ?_
            rintro e wy ⟨rfl, q, hq⟩
            have HQ : Hid (∃ q, wy = w14.drewN q) := ⟨q, hq⟩
            clear hq
            go_wp2_with fail
            go_meet
            case rel => exact ⟨rfl, HQ.out⟩
        case rest =>
          clear P_w14
          clear Q_w14
          obtain ⟨rfl, hq⟩ := hcut
          have hbq : Below w14.heap.size w14 wc := by obtain ⟨q, hq⟩ := hq.out; rw [hq]; exact below_drewN (Below.refl _ _) q
          clear hq hoth
          obtain ⟨wf, hwf⟩ : ∃ wf, wf = wc := ⟨_, rfl⟩
          subst hwf
          have HB_wf : Hid (Below w.heap.size w wf) := below_trans HB_w14.out hbq HB_w14.out.size
          have A_wf : Hid (Reads wf (.slice aa a.length ac) a) := A_w14.out.below hbq
          have B_wf : Hid (Reads wf (.slice ba b.length bc) b) := B_w14.out.below hbq
          have T_wf : Hid (ReadsR wf vs ts) := T_w14.out.below hbq
          have V_wf : Hid (HoldsA wf w.heap.size vs) := V_w14.out.below hbq
          have L1_wf : Hid (ReadsR wf l1 t1) := L1_w14.out.below hbq
          have Z1_wf : Hid (HoldsA wf G1 l1) := Z1_w14.out.below hbq
          have L2_wf : Hid (ReadsR wf l2 t2) := L2_w14.out.below hbq
          have Z2_wf : Hid (HoldsA wf G2 l2) := Z2_w14.out.below hbq
          clear A_w14 B_w14 T_w14 V_w14 L1_w14 Z1_w14 L2_w14 Z2_w14 HB_w14
          clear hbq
          have HLa := HA200.out
          have HLb := HMB.out
          unfold Mild at HLb
          rcases hfin with ⟨rfl, hlen⟩ | ⟨rfl, hlen, ht2⟩
          · by_cases q1 : (200 : Int) < (b.length : Int)
            · go_wp2_with fail
              go_ret
              exact ⟨rfl, HB_wf.out⟩
            · have q2 : (200 : Int) < (a.length : Int) + (b.length : Int) := by omega
              go_wp2_with fail
              go_ret
              exact ⟨rfl, HB_wf.out⟩
          · skip
            obtain ⟨c, hc⟩ : ∃ c, c = a ++ b := ⟨_, rfl⟩
            have HC : Hid (c = a ++ b) := hc
            have HT2 : Hid (t2.getD (i + 1) [] = c ∧ t2.getD 0 [] = c ∧ t2.length = 27) := by rw [ht2, ← hc]; exact put_at t1 HT1.out.2.2 i hi c
            have HMC : Hid (Mild c) := by show c.length * 8 ≤ _; rw [hc, List.length_append]; omega
            clear ht2 hc hlen
            go_wp2_with (refine load24 rfl (.tmp 15) rfl G2 rfl l2 Z2_wf.out ?_)
            obtain ⟨g1, hG⟩ : ∃ g, Got t2 (97 + (i : Int)) g c := by
              rcases got_of HNS.out c HT2.out.1 with ⟨q, hG⟩ | ⟨q, hG⟩
              · exact ⟨6, hG⟩
              · exact ⟨0, hG⟩
            have HG4 : Hid (Got t2 (97 + (i : Int)) g1 c) := hG
            clear hG
            refine (get_any l2 t2 (97 + (i : Int)) g1 c wf L2_wf.out HG4.out).mono ?_
            rintro e w15 ⟨hb, ma, mc, rfl, ho⟩
            have M_w15 : Hid (Reads w15 (.slice ma c.length mc) c) := ho.reads
            have HB_w15 : Hid (Below w.heap.size w w15) := below_trans HB_wf.out hb HB_wf.out.size
            have A_w15 : Hid (Reads w15 (.slice aa a.length ac) a) := A_wf.out.below hb
            have B_w15 : Hid (Reads w15 (.slice ba b.length bc) b) := B_wf.out.below hb
            have T_w15 : Hid (ReadsR w15 vs ts) := T_wf.out.below hb
            have V_w15 : Hid (HoldsA w15 w.heap.size vs) := V_wf.out.below hb
            have L1_w15 : Hid (ReadsR w15 l1 t1) := L1_wf.out.below hb
            have Z1_w15 : Hid (HoldsA w15 G1 l1) := Z1_wf.out.below hb
            have L2_w15 : Hid (ReadsR w15 l2 t2) := L2_wf.out.below hb
            have Z2_w15 : Hid (HoldsA w15 G2 l2) := Z2_wf.out.below hb
            clear A_wf B_wf T_wf V_wf L1_wf Z1_wf L2_wf Z2_wf HB_wf
            clear hb ho HG4
            go_wp2_with (refine load24 rfl (.tmp 15) rfl G2 rfl l2 Z2_w15.out ?_)
            obtain ⟨g2, hG⟩ : ∃ g, Got t2 0 g c := by
              rcases got_of (k := 0) (g := false) (.inl ⟨rfl, rfl, rfl⟩) c HT2.out.2.1 with ⟨q, hG⟩ | ⟨q, hG⟩
              · exact ⟨6, hG⟩
              · exact ⟨0, hG⟩
            have HG5 : Hid (Got t2 0 g2 c) := hG
            clear hG
            refine (get_any l2 t2 0 g2 c w15 L2_w15.out HG5.out).mono ?_
            rintro e w16 ⟨hb, na, nc, rfl, ho⟩
            have N_w16 : Hid (Reads w16 (.slice na c.length nc) c) := ho.reads
            have HB_w16 : Hid (Below w.heap.size w w16) := below_trans HB_w15.out hb HB_w15.out.size
            have A_w16 : Hid (Reads w16 (.slice aa a.length ac) a) := A_w15.out.below hb
            have B_w16 : Hid (Reads w16 (.slice ba b.length bc) b) := B_w15.out.below hb
            have T_w16 : Hid (ReadsR w16 vs ts) := T_w15.out.below hb
            have V_w16 : Hid (HoldsA w16 w.heap.size vs) := V_w15.out.below hb
            have L1_w16 : Hid (ReadsR w16 l1 t1) := L1_w15.out.below hb
            have Z1_w16 : Hid (HoldsA w16 G1 l1) := Z1_w15.out.below hb
            have L2_w16 : Hid (ReadsR w16 l2 t2) := L2_w15.out.below hb
            have Z2_w16 : Hid (HoldsA w16 G2 l2) := Z2_w15.out.below hb
            have M_w16 : Hid (Reads w16 (.slice ma c.length mc) c) := M_w15.out.below hb
            clear A_w15 B_w15 T_w15 V_w15 L1_w15 Z1_w15 L2_w15 Z2_w15 M_w15 HB_w15
            clear hb ho HG5
            clear V_w16
            clear Z1_w16
            clear Z2_w16
            clear L1_w16
            clear L2_w16
            clear T_w16
            go_wp2_with (fail)
            obtain ⟨w17, hw17⟩ : ∃ w17, w17 = w16.alloc (.cells #[.slice aa a.length ac, .slice ba b.length bc] 22) := ⟨_, rfl⟩
            have hcc := concat2 _ _ a b w16 A_w16.out B_w16.out (by rw [← HC.out]; have := HMC.out; unfold Mild at this; omega)
            rw [← HC.out] at hcc
            rw [← hw17] at hcc ⊢
            have hbn : Below w16.heap.size w16 w17 := by rw [hw17]; exact box_below _ _
            clear hw17
            have HB_w17 : Hid (Below w.heap.size w w17) := below_trans HB_w16.out hbn HB_w16.out.size
            have A_w17 : Hid (Reads w17 (.slice aa a.length ac) a) := A_w16.out.below hbn
            have B_w17 : Hid (Reads w17 (.slice ba b.length bc) b) := B_w16.out.below hbn
            have M_w17 : Hid (Reads w17 (.slice ma c.length mc) c) := M_w16.out.below hbn
            have N_w17 : Hid (Reads w17 (.slice na c.length nc) c) := N_w16.out.below hbn
            clear A_w16 B_w16 M_w16 N_w16 HB_w16
            clear hbn
            have HCC : Hid (Calls Try.prog 13 _ _ _) := hcc
            clear hcc
            refine (HCC.out).mono ?_
            rintro e w18 ⟨hb, v4, rfl, ho⟩
            have K_w18 : Hid (Reads w18 v4 c) := ho.reads
            have HB_w18 : Hid (Below w.heap.size w w18) := below_trans HB_w17.out hb HB_w17.out.size
            have A_w18 : Hid (Reads w18 (.slice aa a.length ac) a) := A_w17.out.below hb
            have B_w18 : Hid (Reads w18 (.slice ba b.length bc) b) := B_w17.out.below hb
            have M_w18 : Hid (Reads w18 (.slice ma c.length mc) c) := M_w17.out.below hb
            have N_w18 : Hid (Reads w18 (.slice na c.length nc) c) := N_w17.out.below hb
            clear A_w17 B_w17 M_w17 N_w17 HB_w17
            clear hb ho HCC
            go_wp2_with (fail)
            refine (equal_same _ _ c w18 M_w18.out K_w18.out HMC.out).mono ?_
            rintro e w19 ⟨rfl, q, hq⟩
            have hb : Below w18.heap.size w18 w19 := by rw [hq]; exact below_drewN (Below.refl _ _) q
            clear hq
            have HB_w19 : Hid (Below w.heap.size w w19) := below_trans HB_w18.out hb HB_w18.out.size
            have A_w19 : Hid (Reads w19 (.slice aa a.length ac) a) := A_w18.out.below hb
            have B_w19 : Hid (Reads w19 (.slice ba b.length bc) b) := B_w18.out.below hb
            have M_w19 : Hid (Reads w19 (.slice ma c.length mc) c) := M_w18.out.below hb
            have N_w19 : Hid (Reads w19 (.slice na c.length nc) c) := N_w18.out.below hb
            have K_w19 : Hid (Reads w19 v4 c) := K_w18.out.below hb
            clear A_w18 B_w18 M_w18 N_w18 K_w18 HB_w18
            clear hb
            go_wp2_with (fail)
            refine (equal_same _ _ c w19 N_w19.out M_w19.out HMC.out).mono ?_
            rintro e w20 ⟨rfl, q, hq⟩
            have hb : Below w19.heap.size w19 w20 := by rw [hq]; exact below_drewN (Below.refl _ _) q
            clear hq
            have HB_w20 : Hid (Below w.heap.size w w20) := below_trans HB_w19.out hb HB_w19.out.size
            have A_w20 : Hid (Reads w20 (.slice aa a.length ac) a) := A_w19.out.below hb
            have B_w20 : Hid (Reads w20 (.slice ba b.length bc) b) := B_w19.out.below hb
            have M_w20 : Hid (Reads w20 (.slice ma c.length mc) c) := M_w19.out.below hb
            have N_w20 : Hid (Reads w20 (.slice na c.length nc) c) := N_w19.out.below hb
            have K_w20 : Hid (Reads w20 v4 c) := K_w19.out.below hb
            clear A_w19 B_w19 M_w19 N_w19 K_w19 HB_w19
            clear hb
            go_wp2_with (fail)
            go_ret
            exact ⟨rfl, HB_w20.out⟩
end Go.Proofs.Ytobmggijdmdidaa.Seek
