/- The walk of SeekTurned. -/
import Derived.Test.YtppgpejeedjajaaAllGo
import Derived.Test.YtppgpejeedjajaaNextGo
import Derived.Test.YtppgpejeedjajaaOf
import Derived.Test.YtppgpejeedjajaaOwns
import Derived.Test.YtppgpejeedjajaaSets
import Derived.Deep.RegionWith
import Derived.Deep.Cut
import Derived.Deep.CutRange
import Derived.Deep.DeepCutAuto
set_option linter.unusedVariables false
set_option linter.unusedSimpArgs false
namespace Go.Proofs.Ytppgpejeedjajaa.Seek
open Go.RowKit

/-- In the line turned round the word turned round. -/
theorem plist_turn (ps ss : List Int) : (plist ps.reverse ss.reverse).length = (plist ps ss).length ∧ ∀ j, j < (plist ps ss).length → (plist ps ss).getD j 0 + (ps.length : Int) = (ss.length : Int) - (plist ps.reverse ss.reverse).reverse.getD j 0 := by
  have hst : ∀ i, i < ss.length + 1 - ps.length → Plain.stb (fn ps.reverse) (fn ss.reverse) ps.length i = Plain.stb (fn ps) (fn ss) ps.length (ss.length + 1 - ps.length - 1 - i) := by
    intro i hi
    rw [Bool.eq_iff_iff, Plain.stb_true, Plain.stb_true]
    unfold Plain.Stands
    have hp : ∀ j, j < ps.length → fn ps.reverse j = fn ps (ps.length - 1 - j) := fun j hj => by
      unfold fn
      rw [List.getD_eq_getElem?_getD, List.getD_eq_getElem?_getD, List.getElem?_reverse hj]
    have hs : ∀ j, j < ss.length → fn ss.reverse j = fn ss (ss.length - 1 - j) := fun j hj => by
      unfold fn
      rw [List.getD_eq_getElem?_getD, List.getD_eq_getElem?_getD, List.getElem?_reverse hj]
    constructor
    · intro h j hj
      have := h (ps.length - 1 - j) (by omega)
      rw [hp _ (by omega), hs _ (by omega), show ps.length - 1 - (ps.length - 1 - j) = j by omega, show ss.length - 1 - (i + (ps.length - 1 - j)) = ss.length + 1 - ps.length - 1 - i + j by omega] at this
      exact this
    · intro h j hj
      have := h (ps.length - 1 - j) (by omega)
      rw [hp _ (by omega), hs _ (by omega)]
      rw [show ss.length + 1 - ps.length - 1 - i + (ps.length - 1 - j) = ss.length - 1 - (i + j) by omega] at this
      exact this
  have ht := Plain.spots_turn _ _ (ss.length + 1 - ps.length) hst
  have he : (plist ps.reverse ss.reverse).reverse = (plist ps ss).map fun z => (ss.length : Int) - (ps.length : Int) - z := by
    unfold plist Plain.places
    rw [List.length_reverse, List.length_reverse, ← List.map_reverse, ht, List.map_map, List.map_map]
    apply List.map_congr_left
    intro i hi
    have := (Plain.mem_spots _ _ _).1 hi
    simp only [Function.comp]
    omega
  constructor
  · have := congrArg List.length he
    rw [List.length_reverse, List.length_map] at this
    exact this
  · intro j hj
    rw [he, List.getD_eq_getElem?_getD, List.getD_eq_getElem?_getD, List.getElem?_map, List.getElem?_eq_getElem hj]
    simp only [Option.getD_some, Option.map_some]
    omega
theorem plist_aa : plist (codes ⟨#[97, 97]⟩) (codes ⟨#[97, 97, 97]⟩) = [0, 1] := by decide

theorem plist_bounds (ps ss : List Int) (z : Int) (hz : z ∈ plist ps ss) : 0 ≤ z ∧ z ≤ (ss.length : Int) := by
  unfold plist at hz
  obtain ⟨k, hk, rfl⟩ := List.mem_map.1 hz
  have := ((Plain.mem_places _ _ _ _ _).1 hk).1
  omega
theorem getD_mem2 (l : List Int) (j : Nat) (h : j < l.length) : l.getD j 0 ∈ l := by
  rw [List.getD_eq_getElem?_getD, List.getElem?_eq_getElem h]
  exact List.getElem_mem h

theorem turned_closure (a b : Int) (B1 B2 : Nat) (a1 a2 : Option Addr) (n m c1 c2 : Nat) (w : World) (h1 : w.cell? ⟨B1, 0, none⟩ = some (.slice a1 n c1)) (h2 : w.cell? ⟨B2, 0, none⟩ = some (.slice a2 m c2))
    (hn : n ≤ 4096) (hm : m ≤ 4096) (ha : 0 ≤ a) (ha2 : a ≤ 4096) (hb : 0 ≤ b) (hb2 : b ≤ 4096) (he : a + (n : Int) = (m : Int) - b) :
    Calls Try.prog 19 #[.int .i64 a, .int .i64 b, .pointer (some ⟨B1, 0, none⟩), .pointer (some ⟨B2, 0, none⟩)] w fun e w' => e = .returned (.bool true) ∧ w' = w := by
  have hd : (a + (n : Int) == (m : Int) - b) = true := by simpa using he
  clear he
  go_enter Try.func19, Try.ntmps19
  go_wp2_with fail
  go_ret
  exact ⟨rfl, rfl⟩

set_option maxHeartbeats 1000000 in
theorem equalFunc_turned (v1 v2 : Value) (xs ys : List Int) (B1 B2 : Nat) (a1 a2 : Option Addr) (n m c1 c2 : Nat) (w : World) (h1 : w.cell? ⟨B1, 0, none⟩ = some (.slice a1 n c1)) (h2 : w.cell? ⟨B2, 0, none⟩ = some (.slice a2 m c2))
    (hn : n ≤ 4096) (hm : m ≤ 4096) (hr1 : Reads w v1 xs) (hr2 : Reads w v2 ys) (hl : ys.length = xs.length) (hlen : xs.length ≤ 5000) (hx : ∀ z ∈ xs, 0 ≤ z ∧ z ≤ 4096) (hy : ∀ z ∈ ys, 0 ≤ z ∧ z ≤ 4096)
    (he : ∀ j, j < xs.length → xs.getD j 0 + (n : Int) = (m : Int) - ys.getD j 0) :
    Calls Try.prog 18 #[v1, v2, .func (.func 19) #[] #[.pointer (some ⟨B1, 0, none⟩), .pointer (some ⟨B2, 0, none⟩)]] w fun e w' => e = .returned (.bool true) ∧ w' = w := by
  have Hx : Hid (∀ z ∈ xs, 0 ≤ z ∧ z ≤ 4096) := hx
  have Hy : Hid (∀ z ∈ ys, 0 ≤ z ∧ z ≤ 4096) := hy
  have He : Hid (∀ j, j < xs.length → xs.getD j 0 + (n : Int) = (m : Int) - ys.getD j 0) := he
  have Hb1 : Hid (w.cell? ⟨B1, 0, none⟩ = some (.slice a1 n c1)) := h1
  have Hb2 : Hid (w.cell? ⟨B2, 0, none⟩ = some (.slice a2 m c2)) := h2
  obtain ⟨d1, k1, hv1⟩ := hr1.shape
  obtain ⟨d2, k2, hv2⟩ := hr2.shape
  subst hv1 hv2
  rw [hl] at hr2 ⊢
  have Hr1 : Hid (Reads w (.slice d1 xs.length k1) xs) := hr1
  have Hr2 : Hid (Reads w (.slice d2 xs.length k2) ys) := hr2
  have Hl : Hid (ys.length = xs.length) := hl
  clear hx hy he h1 h2 hr1 hr2 hl
  go_enter Try.func18, Try.ntmps18
  go_wp2_with fail
  go_loop [17] (fun u => ∃ j : Nat, u = .int .i64 (j : Int) ∧ j ≤ xs.length) (fun u => xs.length - (intOf u).toNat)
  case atStart => exact ⟨0, rfl, by omega⟩
  case round =>
    obtain ⟨j, rfl, hj⟩ := hrel
    by_cases hlt : j < xs.length
    · rcases Hr1.out with ⟨_, _, _, rfl⟩ | ⟨b1, o1, k1', he1, _, _, _, hc1⟩
      · exact absurd hlt (by simp)
      rcases Hr2.out with ⟨_, _, _, h0⟩ | ⟨b2, o2, k2', he2, _, _, _, hc2⟩
      · rw [← Hl.out, h0] at hlt
        exact absurd hlt (by simp)
      have hcx := hc1 j hlt
      have hcy := hc2 j (by rw [Hl.out]; exact hlt)
      simp only [Value.slice.injEq] at he1 he2
      obtain ⟨rfl, hz1, rfl⟩ := he1
      obtain ⟨rfl, hz2, rfl⟩ := he2
      clear hz1 hz2 hc1 hc2
      have hbx := Hx.out _ (getD_mem2 xs j hlt)
      have hby := Hy.out _ (getD_mem2 ys j (by rw [Hl.out]; exact hlt))
      have hej := He.out j hlt
      have hcall := turned_closure (xs.getD j 0) (ys.getD j 0) B1 B2 a1 a2 n m c1 c2 w Hb1.out Hb2.out hn hm hbx.1 hbx.2 hby.1 hby.2 hej
      generalize xs.getD j 0 = x at *
      generalize ys.getD j 0 = y at *
      have Hcall : Hid _ := hcall
      clear hcall hej hbx hby
      go_wp2_with fail
      refine Calls.mono Hcall.out ?_
      rintro e w' ⟨rfl, rfl⟩
      go_wp2_with fail
      go_round
      case rel => exact ⟨j + 1, by go_num, by omega⟩
      case measure => simp [intOf]; omega
    · obtain rfl : j = xs.length := by omega
      go_wp2_with fail
      go_ret
      exact ⟨rfl, rfl⟩

theorem box_one (w : World) (u1 u2 : Value) : ((w.alloc (.cells #[u1] 22)).alloc (.cells #[u2] 22)).cell? ⟨w.heap.size, 0, none⟩ = some u1 := by
  unfold World.cell?
  simp only
  rw [show ∀ o1 o2, ((w.alloc o1).alloc o2).heap[w.heap.size]? = some o1 from fun o1 o2 => by show ((w.heap.push o1).push o2)[w.heap.size]? = _; simp [Array.getElem?_push]]
  rfl
theorem box_two (w : World) (u1 u2 : Value) : ((w.alloc (.cells #[u1] 22)).alloc (.cells #[u2] 22)).cell? ⟨w.heap.size + 1, 0, none⟩ = some u2 := by
  unfold World.cell?
  simp only
  rw [show ∀ o1 o2, ((w.alloc o1).alloc o2).heap[w.heap.size + 1]? = some o2 from fun o1 o2 => by show ((w.heap.push o1).push o2)[w.heap.size + 1]? = _; rw [show w.heap.size + 1 = (w.heap.push o1).size by simp]; exact Array.getElem?_push_size]
  rfl
/-- All's answer, in one form. -/
def AllOwn (ps ss : List Int) (w : World) (e : Ending) (w' : World) : Prop :=
  Below w.heap.size w w' ∧ ∃ (v : Value) (er : Int) (ls : List Int), e = .returned (.tuple #[v, .int .i64 er]) ∧ Own w' w.heap.size v ls ∧ (((4096 < ps.length ∨ 4096 < ss.length) ∧ er = 2 ∧ ls = []) ∨ ((ps.length ≤ 4096 ∧ ss.length ≤ 4096) ∧ er = 0 ∧ ls = plist ps ss))
theorem all_own (v vs : Value) (ps ss : List Int) (w : World) (hp : Reads w v ps) (hs : Reads w vs ss) (hpm : ps.length ≤ maxLen) (hsm : ss.length ≤ maxLen) :
    Calls Try.prog 9 #[v, vs] w fun e w' => AllOwn ps ss w e w' := by
  refine (all_any v vs ps ss w hp hs hpm hsm).mono ?_
  rintro e w' ⟨hb, ⟨hl, rfl⟩ | ⟨hl, u, rfl, hown⟩⟩
  · exact ⟨hb, _, _, [], rfl, .inl ⟨_, _, rfl, rfl⟩, .inl ⟨hl, rfl, rfl⟩⟩
  · exact ⟨hb, _, _, _, rfl, own_of hown, .inr ⟨hl, rfl, rfl⟩⟩

/-- Two copies. -/
def TwoOwn (w : World) (u v : Value) (ps ss : List Int) (w' : World) : Prop := Below w.heap.size w w' ∧ Own w' w.heap.size u ps ∧ Own w' w.heap.size v ss ∧ Apart u v ps ss
set_option maxRecDepth 100000 in
set_option maxHeartbeats 4000000 in
theorem turned_walk (v vs : Value) (ps ss : List Int) (w : World) (hp : Reads w v ps) (hs : Reads w vs ss) (hpr : ps.length * 8 ≤ 140737488351232) (hsr : ss.length * 8 ≤ 140737488351232) :
    Calls Try.prog 6 #[v, vs] w fun e w' => e = .returned (.bool true) ∧ Below w.heap.size w w' := by
  obtain ⟨a1, c1, hv1⟩ := hp.shape
  obtain ⟨a2, c2, hv2⟩ := hs.shape
  subst hv1 hv2
  have Hpm : Hid (ps.length ≤ maxLen) := by show ps.length ≤ maxLen; unfold maxLen; omega
  have Hsm : Hid (ss.length ≤ maxLen) := by show ss.length ≤ maxLen; unfold maxLen; omega
  have Hp : Hid (Reads w (.slice a1 ps.length c1) ps) := hp
  have Hs : Hid (Reads w (.slice a2 ss.length c2) ss) := hs
  clear hp hs
  have hmf : ∀ (fn : Fn) (first cap : Array Value) (w : World), (Instr.makeFunc fn first cap).run Try.prog w = .ok (.func fn first cap) w := fun _ _ _ _ => rfl
  go_enter Try.func6, Try.ntmps6
  go_wp2_with fail
  obtain ⟨W0, hW0⟩ : ∃ W0, W0 = (w.alloc (.cells #[Value.slice a1 ps.length c1] 22)).alloc (.cells #[Value.slice a2 ss.length c2] 22) := ⟨_, rfl⟩
  rw [← hW0]
  have hsz0 : W0.heap.size = w.heap.size + 2 := by rw [hW0]; show ((w.heap.push _).push _).size = _; simp
  have Hbx1 : Hid (W0.cell? ⟨w.heap.size, 0, none⟩ = some (.slice a1 ps.length c1)) := by rw [hW0]; exact box_one w _ _
  have Hbx2 : Hid (W0.cell? ⟨w.heap.size + 1, 0, none⟩ = some (.slice a2 ss.length c2)) := by rw [hW0]; exact box_two w _ _
  have hB0 : Below w.heap.size w W0 := by rw [hW0]; exact ((Below.refl _ w).alloc (Nat.le_refl _) _).alloc (by show _ ≤ (w.heap.push _).size; simp) _
  clear hW0
  refine (of_any ⟨#[97, 97]⟩ W0 (by decide)).mono ?_
  rintro e w1 ⟨hb1, v1, rfl, hown1⟩
  have hr1 := owned_reads hown1
  clear hown1
  go_wp2_with fail
  refine (of_any ⟨#[97, 97, 97]⟩ w1 (by decide)).mono ?_
  rintro e w2 ⟨hb2, v2, rfl, hown2⟩
  have hr2 := owned_reads hown2
  have hr1' := hr1.below hb2
  have hB2 := below_trans hb1 hb2 hb1.size
  clear hown2 hr1 hb1 hb2
  go_wp2_with fail
  refine (all_own _ _ _ _ w2 hr1' hr2 (by decide) (by decide)).mono ?_
  rintro e w3 ⟨hb3, vl, er, ls, rfl, hol, h⟩
  obtain ⟨_, rfl, rfl⟩ := h.resolve_left (fun h => absurd h.1 (by decide))
  rw [plist_aa] at hol
  have hB3 := below_trans hB2 hb3 hB2.size
  have Hol : Hid (Reads w3 vl [0, 1]) := hol.reads
  clear h hol hr1' hr2 hb3 hB2
  go_wp2_with fail
  refine (equal_any _ _ [0, 1] [0, 1] _ (Hol.out.below ((Below.refl _ _).alloc (Nat.le_refl _) _)) (reads_new w3 [0, 1] (by decide)) (by decide) (by decide)).mono ?_
  rintro e w4 ⟨rfl, q4, hw4⟩
  have hB4 : Below W0.heap.size W0 w4 := by rw [hw4]; exact below_drewN (hB3.alloc hB3.size _) q4
  rw [beq_self_eq_true]
  clear hw4 Hol hB3
  have hx1 : w4.cell? ⟨w.heap.size, 0, none⟩ = some (.slice a1 ps.length c1) := (hB4.cell (by show w.heap.size < _; omega)).trans Hbx1.out
  have hx2 : w4.cell? ⟨w.heap.size + 1, 0, none⟩ = some (.slice a2 ss.length c2) := (hB4.cell (by show w.heap.size + 1 < _; omega)).trans Hbx2.out
  have hBw4 : Below w.heap.size w w4 := below_trans hB0 hB4 hB0.size
  go_wp2_with fail
  clear hx1 hx2
  refine (all_own _ _ ps ss w4 (Hp.out.below hBw4) (Hs.out.below hBw4) Hpm.out Hsm.out).mono ?_
  rintro e w5 ⟨hb5, vl, er, ls, rfl, hol, hcase⟩
  have Hcase : Hid (((4096 < ps.length ∨ 4096 < ss.length) ∧ er = 2 ∧ ls = []) ∨ ((ps.length ≤ 4096 ∧ ss.length ≤ 4096) ∧ er = 0 ∧ ls = plist ps ss)) := hcase
  have hB5 := below_trans hB4 hb5 hB4.size
  have hBw5 : Below w.heap.size w w5 := below_trans hB0 hB5 hB0.size
  have Hol : Hid (Own w5 w4.heap.size vl ls) := hol
  have hx1 : w5.cell? ⟨w.heap.size, 0, none⟩ = some (.slice a1 ps.length c1) := (hB5.cell (by show w.heap.size < _; omega)).trans Hbx1.out
  have hx2 : w5.cell? ⟨w.heap.size + 1, 0, none⟩ = some (.slice a2 ss.length c2) := (hB5.cell (by show w.heap.size + 1 < _; omega)).trans Hbx2.out
  have Hp5 : Hid (Reads w5 (.slice a1 ps.length c1) ps) := Hp.out.below hBw5
  have Hs5 : Hid (Reads w5 (.slice a2 ss.length c2) ss) := Hs.out.below hBw5
  clear hcase hol hb5 hB4 hBw4
  go_upto_region 5 with fail
  go_cut [9, 10] from 33 to 36 (fun s9 s10 wx => Hid (TwoOwn w5 s9 s10 ps ss wx))
  case first =>
    have hsz5 : w.heap.size + 2 ≤ w5.heap.size := by rw [← hsz0]; exact hB5.size
    have HPd : Hid (Reads w5.drew (.slice a1 ps.length c1) ps) := Hp5.out.drewN 1
    have HSd : Hid (Reads w5.drew (.slice a2 ss.length c2) ss) := Hs5.out.drewN 1
    have hd5 : Below w5.heap.size w5 w5.drew := below_drewN (Below.refl _ _) 1
    go_region_with (first
      | (go_at_call_of 16 c1; refine (clone_any _ ps w5.drew HPd.out (by omega)).mono ?_; rintro e wA ⟨hbA, vA, rfl, hoA⟩; have hcA : wA.cell? ⟨w.heap.size + 1, 0, none⟩ = some (.slice a2 ss.length c2) := (hbA.cell (by show w.heap.size + 1 < w5.heap.size; omega)).trans hx2; have HSA : Hid (Reads wA (.slice a2 ss.length c2) ss) := HSd.out.below hbA)
      | (go_at_call_of 16 c2; refine (clone_any _ ss w5.drew HSd.out (by omega)).mono ?_; rintro e wC ⟨hbC, vC, rfl, hoC⟩; have hcC : wC.cell? ⟨w.heap.size, 0, none⟩ = some (.slice a1 ps.length c1) := (hbC.cell (by show w.heap.size < w5.heap.size; omega)).trans hx1; have HPC : Hid (Reads wC (.slice a1 ps.length c1) ps) := HPd.out.below hbC)
      | (go_at_call_of 16 c2; refine (clone_any _ ss wA HSA.out (by omega)).mono ?_; rintro e wE ⟨hbE, vE, rfl, hoE⟩)
      | (go_at_call_of 16 c1; refine (clone_any _ ps wC HPC.out (by omega)).mono ?_; rintro e wF ⟨hbF, vF, rfl, hoF⟩))
    all_goals (go_wp2_with fail)
    all_goals go_meet
    all_goals (first
      | exact ⟨below_trans (below_trans hd5 hbA hd5.size) hbE (below_trans hd5 hbA hd5.size).size, (hoA.below hbE).less (Nat.le_refl _), hoE.less (below_trans hd5 hbA hd5.size).size, apart_of hoA hoE (Nat.le_refl _)⟩
      | exact ⟨below_trans (below_trans hd5 hbC hd5.size) hbF (below_trans hd5 hbC hd5.size).size, hoF.less (below_trans hd5 hbC hd5.size).size, (hoC.below hbF).less (Nat.le_refl _), (apart_of hoC hoF (Nat.le_refl _)).symm⟩)
  case rest =>
    obtain ⟨hbc, hq, ht, hap⟩ := hcut.out
    clear hcut hx1 hx2
    have Hq : Hid (Own wc w5.heap.size u9 ps) := hq
    have Ht : Hid (Own wc w5.heap.size u10 ss) := ht
    have Hap : Hid (Apart u9 u10 ps ss) := hap
    clear hq ht hap
    go_wp2_with fail
    refine (reverse_any _ ps w5.heap.size wc Hq.out (by omega)).mono ?_
    rintro e w6 ⟨rfl, hq6, hb6, hk6⟩
    have Hq6 : Hid (Own w6 w5.heap.size u9 ps.reverse) := hq6
    have Ht6 : Hid (Own w6 w5.heap.size u10 ss) := hk6 _ _ _ Ht.out Hap.out
    have hB6 : Below w5.heap.size w5 w6 := hbc.trans hb6
    clear hq6 hb6 hk6 hbc Hq Ht
    go_wp2_with fail
    refine (reverse_any _ ss w5.heap.size w6 Ht6.out (by omega)).mono ?_
    rintro e w7 ⟨rfl, ht7, hb7, hk7⟩
    have Ht7 : Hid (Own w7 w5.heap.size u10 ss.reverse) := ht7
    have Hq7 : Hid (Own w7 w5.heap.size u9 ps.reverse) := hk7 _ _ _ Hq6.out (by
      rcases Hap.out.symm with h | h | h
      · exact .inl h
      · exact .inr (.inl (by rw [h]; rfl))
      · exact .inr (.inr h))
    have hB7 : Below w5.heap.size w5 w7 := hB6.trans hb7
    clear ht7 hb7 hk7 hB6 Hq6 Ht6
    have Hpm' : Hid (ps.reverse.length ≤ maxLen) := by show ps.reverse.length ≤ maxLen; rw [List.length_reverse]; exact Hpm.out
    have Hsm' : Hid (ss.reverse.length ≤ maxLen) := by show ss.reverse.length ≤ maxLen; rw [List.length_reverse]; exact Hsm.out
    go_wp2_with fail
    refine (all_own _ _ ps.reverse ss.reverse w7 Hq7.out.reads Ht7.out.reads Hpm'.out Hsm'.out).mono ?_
    rintro e w8 ⟨hb8, vm, em, ms, rfl, hom, hcase⟩
    rw [List.length_reverse, List.length_reverse] at hcase
    have hB8 : Below w5.heap.size w5 w8 := below_trans hB7 hb8 hB7.size
    have hBw8 : Below w.heap.size w w8 := below_trans hBw5 hB8 hBw5.size
    have Hom : Hid (Own w8 w7.heap.size vm ms) := hom
    have Hol8 : Hid (Own w8 w4.heap.size vl ls) := Hol.out.below hB8
    have hx1 : w8.cell? ⟨w.heap.size, 0, none⟩ = some (.slice a1 ps.length c1) := (hB8.cell (by show w.heap.size < _; have := hB5.size; omega)).trans ((hB5.cell (by show w.heap.size < _; omega)).trans Hbx1.out)
    have hx2 : w8.cell? ⟨w.heap.size + 1, 0, none⟩ = some (.slice a2 ss.length c2) := (hB8.cell (by show w.heap.size + 1 < _; have := hB5.size; omega)).trans ((hB5.cell (by show w.heap.size + 1 < _; omega)).trans Hbx2.out)
    have hs57 := hB7.size
    clear hom hb8 hB7 Hq7 Ht7
    rcases Hcase.out with ⟨hlg, he1, he2⟩ | ⟨hsm, he1, he2⟩
    · obtain ⟨_, he3, he4⟩ := hcase.resolve_right (fun h => by omega)
      subst he1 he2 he3 he4
      obtain ⟨b1, k1, hv1⟩ := Hol8.out.reads.shape
      obtain ⟨b2, k2, hv2⟩ := Hom.out.reads.shape
      rw [List.length_nil] at hv1 hv2
      subst hv1 hv2
      go_wp2_with fail
      go_ret
      exact ⟨rfl, hBw8⟩
    · obtain ⟨_, he3, he4⟩ := hcase.resolve_left (fun h => by omega)
      subst he1 he2 he3 he4
      clear hcase Hcase
      have hml : (plist ps.reverse ss.reverse).length ≤ 4097 := by have := plist_len ps.reverse ss.reverse; rw [List.length_reverse] at this; omega
      go_wp2_with fail
      refine (reverse_any _ (plist ps.reverse ss.reverse) w7.heap.size w8 Hom.out (by omega)).mono ?_
      rintro e w9 ⟨rfl, hom9, hb9, hk9⟩
      have hB9 : Below w5.heap.size w5 w9 := hB8.trans (hb9.mono hs57)
      have hBw9 : Below w.heap.size w w9 := below_trans hBw5 hB9 hBw5.size
      have hrm := hom9.reads
      have hrl := (Hol.out.below hB9).reads
      have hy1 : w9.cell? ⟨w.heap.size, 0, none⟩ = some (.slice a1 ps.length c1) := (hB9.cell (by show w.heap.size < _; have := hB5.size; omega)).trans ((hB5.cell (by show w.heap.size < _; omega)).trans Hbx1.out)
      have hy2 : w9.cell? ⟨w.heap.size + 1, 0, none⟩ = some (.slice a2 ss.length c2) := (hB9.cell (by show w.heap.size + 1 < _; have := hB5.size; omega)).trans ((hB5.cell (by show w.heap.size + 1 < _; omega)).trans Hbx2.out)
      have hturn := plist_turn ps ss
      have hpl := plist_len ps ss
      have hcall := equalFunc_turned _ _ _ _ (w.heap.size) (w.heap.size + 1) a1 a2 ps.length ss.length c1 c2 w9 hy1 hy2 hsm.1 hsm.2 hrl hrm (by rw [List.length_reverse]; exact hturn.1) (by omega)
        (fun z hz => by have := plist_bounds ps ss z hz; omega) (fun z hz => by have := plist_bounds ps.reverse ss.reverse z (List.mem_reverse.1 hz); rw [List.length_reverse] at this; omega) hturn.2
      have Hcall : Hid _ := hcall
      clear hcall hturn hy1 hy2 hrm hrl hom9 hk9 hb9 hx1 hx2
      go_wp2_with fail
      refine Calls.mono Hcall.out ?_
      rintro e w10 ⟨rfl, rfl⟩
      go_wp2_with fail
      go_ret
      exact ⟨rfl, hBw9⟩
end Go.Proofs.Ytppgpejeedjajaa.Seek
