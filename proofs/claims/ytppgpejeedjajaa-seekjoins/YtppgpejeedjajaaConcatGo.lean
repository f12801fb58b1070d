/- The contracts of slices.Grow of nothing and of slices.Concat of two slices. -/
import Derived.Test.YtppgpejeedjajaaOwns
import Derived.Deep.DeepAppendRoom
import Derived.Lib.AppendZerosOnto
set_option linter.unusedVariables false
set_option linter.unusedSimpArgs false
namespace Go.Proofs.Ytppgpejeedjajaa.Seek
open Go.RowKit

/-- An append whose run is known. -/
theorem wpList_append_run {w : World} {ops : Array Oper} {rest : List Oper} {o : Oper} {a : Act} {Q : Exit → Act → World → Prop} (hgd : o.guard = none) (s x : Operand) (t1 t2 : TypeId)
    (ho : o.op = .call { callee := .builtin .append, args := #[s, x], argTypes := #[t1, t2] }) (u1 u2 v : Value) (w' : World) (hs : a.eval s = u1) (hx : a.eval x = u2)
    (hr : ∀ ty, (Builtin.append_ #[t1, t2] ty #[u1, u2]).run Try.prog w = .ok v w') (h : wpList Try.prog ops Q rest (a.put o.dst v) w') : wpList Try.prog ops Q (o :: rest) a w :=
  wpList_plain hgd fun _ hK => by
    unfold Oper.wp execOp
    simp only [ho, resolve, invoke, builtin, Sem.run_bind, Sem.run_pure, Result.andThen_ok, List.map_toArray, List.map_cons, List.map_nil, hs, hx, hr]
    exact hK _ _ h
/-- An append of nothing. -/
theorem run_append_zero (w : World) (d : Option Addr) (n cap : Nat) (a : Option Addr) (c : Nat) (hn : n ≤ cap) (ty : TypeId) : (Builtin.append_ #[22, 22] ty #[.slice d n cap, .slice a 0 c]).run Try.prog w = .ok (.slice d n cap) w := by
  obtain ⟨i0, hi, hz0, hz1, hz2⟩ := info_parts info3
  cases d <;> cases a <;> simp [Builtin.append_, go_sem, run_underlying Try.underlying22, Go.sizeOf, typeInfo, hi, Builtin.lenOf, Builtin.firstCells, hn, storeCells]

theorem grow_none (w : World) : Calls Try.prog 26 #[.slice none 0 0, .int .i64 ((0 : Nat) : Int)] w fun e w' => e = .returned (.slice none 0 0) ∧ w' = w := by
  go_enter Try.func26, Try.ntmps26
  go_wp2_with fail
  go_ret
  exact ⟨rfl, rfl⟩

/-- What Grow leaves. -/
def GrowPost (n : Nat) (w : World) (e : Ending) (w' : World) : Prop :=
  Below w.heap.size w w' ∧ ∃ g cap, e = .returned (.slice (some ⟨g, 0, none⟩) 0 cap) ∧ w.heap.size ≤ g ∧ n ≤ cap ∧ w'.ownsRow w.heap.size 3 1 (.slice (some ⟨g, 0, none⟩) 0 cap) 0 []
set_option maxHeartbeats 1000000 in
theorem grow_some (n : Nat) (w : World) (h0 : 0 < n) (hb : n * 8 ≤ 281474976710656) : Calls Try.prog 26 #[.slice none 0 0, .int .i64 (n : Int)] w fun e w' => GrowPost n w e w' := by
  obtain ⟨i0, hi, hz0, hz1, hz2⟩ := info_parts info3
  have hold : (Builtin.firstCells i0.size 0 (.slice none 0 0)).run Try.prog w.drew = .ok ([] : List Value).toArray w.drew := run_firstCells_none w.drew i0.size 0 0 0
  have hnx : Builtin.nextslicecap (0 + n) 0 * i0.bytes ≤ 281474976710656 := by
    unfold Builtin.nextslicecap
    rw [if_pos (by omega), hz2]
    omega
  have hrz : ∀ ty, (Builtin.append_ #[22, 3] ty #[.slice none 0 0, .int .i64 (n : Int)]).run Try.prog w = _ := fun ty =>
    Lib.run_append_grow_zeros w 22 3 ty 3 i0 (.int .i64 0) .i64 .i64 Try.underlying22 Try.underlying3 hi hz0 none 0 0 [] hold n h0 (by omega) (by omega) (by omega) (by rw [hz2]; omega) hnx
  have hG1 : n ≤ grownCap w (0 + n) 0 3 := by have := grownCap_ge w (0 + n) 0 3; omega
  have hG2 : grownCap w (0 + n) 0 3 ≤ maxLen := grownCap_le_maxLen w (0 + n) 0 3 (by unfold maxLen; omega)
  rw [Nat.zero_add] at hG1 hG2 hrz
  generalize grownCap w n 0 3 = G at *
  generalize hcur : (([] : List Value).toArray ++ Builtin.zeroCells (Value.int .i64 0).cells n ++ Builtin.zeroCells (Value.int .i64 0).cells (G - n)) = cur at *
  have hcs : cur.size = G * 1 := by
    rw [← hcur, Array.size_append, Array.size_append, size_zeroCells, size_zeroCells]
    show 0 + n * 1 + (G - n) * 1 = G * 1
    omega
  clear hold hnx hcur
  have Hown : Hid ((w.drew.alloc (.cells cur 3)).ownsRow w.heap.size 3 1 (.slice (some ⟨w.heap.size, 0, none⟩) 0 G) 0 []) := by
    refine ⟨rfl, .inr ⟨w.heap.size, G, cur, rfl, Nat.le_refl _, ?_, Nat.zero_le _, hG2, hcs, rfl⟩⟩
    show (w.heap.push _)[w.heap.size]? = _
    simp
  unfold maxLen at hG2
  have hn0 : ¬ (n : Int) < 0 := by omega
  have hn1 : (0 : Int) < (n : Int) := by omega
  go_enter Try.func26, Try.ntmps26
  go_wp2_with (at_builtin; refine wpList_append_run rfl _ _ 22 3 rfl _ _ _ _ rfl rfl hrz ?_)
  clear hrz
  go_wp2_with fail
  go_ret
  exact ⟨(below_drewN (Below.refl _ _) 1).alloc (Nat.le_refl _) _, _, G, rfl, Nat.le_refl _, hG1, Hown.out⟩

/-- What the two slices hold together, up to the k-th. -/
def upTo (ss ts : List Int) : Nat → List Int
  | 0 => []
  | 1 => ss
  | _ => ss ++ ts
theorem upTo_step (ss ts : List Int) (k : Nat) (h : k < 2) : upTo ss ts (k + 1) = upTo ss ts k ++ (if k = 0 then ss else ts) := by
  match k, h with
  | 0, _ => simp [upTo]
  | 1, _ => simp [upTo]
theorem upTo_le (ss ts : List Int) (k : Nat) : (upTo ss ts k).length ≤ ss.length + ts.length := by
  match k with
  | 0 => simp [upTo]
  | 1 => simp [upTo]
  | n + 2 => simp [upTo]
/-- Some numbers behind an owned row that has room for them. -/
theorem append_reads {w : World} {ops : Array Oper} {rest : List Oper} {o : Oper} {a : Act} {Q : Exit → Act → World → Prop} (hgd : o.guard = none) (s x : Operand)
    (ho : o.op = .call { callee := .builtin .append, args := #[s, x], argTypes := #[22, 22] }) (B g cap : Nat) (v2 : Value) (xs ys : List Int)
    (hs : a.eval s = .slice (some ⟨g, 0, none⟩) xs.length cap) (hown : w.ownsRow B 3 1 (.slice (some ⟨g, 0, none⟩) xs.length cap) xs.length (ints xs)) (hx : a.eval x = v2) (hr : Reads w v2 ys)
    (hroom : xs.length + ys.length ≤ cap)
    (h : ∀ w', w'.ownsRow B 3 1 (.slice (some ⟨g, 0, none⟩) (xs ++ ys).length cap) (xs ++ ys).length (ints (xs ++ ys)) → w.grownBy w' (some g) → wpList Try.prog ops Q rest (a.put o.dst (.slice (some ⟨g, 0, none⟩) (xs ++ ys).length cap)) w') : wpList Try.prog ops Q (o :: rest) a w := by
  obtain ⟨i0, hi, hz0, hz1, hz2⟩ := info_parts info3
  rcases hr with ⟨a2, c2, rfl, rfl⟩ | ⟨b, off, c2, rfl, _, _, _, hc⟩
  · refine wpList_append_run hgd s x 22 22 ho _ _ _ w hs hx (fun ty => run_append_zero w _ _ _ a2 c2 (by simpa using hroom) ty) ?_
    have := h w (by rw [List.append_nil]; exact hown) ⟨rfl, rfl, rfl, Nat.le_refl _, fun _ _ _ => rfl⟩
    rw [List.append_nil] at this
    exact this
  · refine wpList_append_own_spare w hgd s x 22 ho B 3 i0 1 Try.underlying22 hi hz1 g xs.length cap (ints xs) hs hown ⟨b, off, none⟩ ys.length c2 (ints ys) hx (by rw [ints_len, Nat.mul_one]) ?_ ?_ hroom ?_
    · intro j u hj
      unfold ints at hj
      rw [List.getElem?_map] at hj
      by_cases hjl : j < ys.length
      · rw [List.getElem?_eq_getElem hjl] at hj
        have h1 := hc j hjl
        rw [List.getD_eq_getElem?_getD, List.getElem?_eq_getElem hjl] at h1
        have e : (⟨b, off, none⟩ : Addr).add j = ⟨b, off + j, none⟩ := by
          simp only [Addr.add]
          split <;> simp_all
        rw [e, h1]
        simpa using hj
      · rw [List.getElem?_eq_none (by omega)] at hj
        cases hj
    · intro u hu
      unfold ints at hu
      obtain ⟨c, _, rfl⟩ := List.mem_map.1 hu
      rfl
    · intro w' h1 h2
      have e1 : ints (xs ++ ys) = ints xs ++ ints ys := by unfold ints; rw [List.map_append]
      have e2 : (xs ++ ys).length = xs.length + ys.length := List.length_append
      have := h w' (by rw [e1, e2]; exact h1) h2
      rw [e2] at this
      exact this

/-- What Concat of two answers. -/
def ConcatPost (zs : List Int) (w : World) (e : Ending) (w' : World) : Prop := Below w.heap.size w w' ∧ ∃ v, e = .returned v ∧ Own w' w.heap.size v zs
def twoLen (n m : Nat) : Nat → Nat
  | 0 => 0
  | 1 => n
  | _ => n + m

set_option maxHeartbeats 2000000 in
theorem concat_none (g0 c0 : Nat) (a1 a2 : Option Addr) (c1 c2 : Nat) (w : World) (h1 : w.cell? ⟨g0, 0, none⟩ = some (.slice a1 0 c1)) (h2 : w.cell? ⟨g0, 1, none⟩ = some (.slice a2 0 c2)) :
    Calls Try.prog 20 #[.slice (some ⟨g0, 0, none⟩) 2 c0] w fun e w' => ConcatPost [] w e w' := by
  have H1 : Hid (w.cell? ⟨g0, 0, none⟩ = some (.slice a1 0 c1)) := h1
  have H2 : Hid (w.cell? ⟨g0, 1, none⟩ = some (.slice a2 0 c2)) := h2
  clear h1 h2
  go_enter Try.func20, Try.ntmps20
  go_wp2_with fail
  go_loop [3, 11] (fun u3 u11 => ∃ k : Nat, k ≤ 2 ∧ u11 = .int .i64 (k : Int) ∧ u3 = .int .i64 0) (fun _ u11 => (2 - intOf u11).toNat)
  case atStart => exact ⟨0, by omega, rfl, rfl⟩
  case round =>
    obtain ⟨k, hk, rfl, rfl⟩ := hrel
    have hk3 : k = 0 ∨ k = 1 ∨ k = 2 := by omega
    rcases hk3 with rfl | rfl | rfl
    · have hc := H1.out
      go_wp2_with fail
      go_round
      case rel => exact ⟨1, by omega, by go_num, rfl⟩
      case measure => simp [intOf]
    · have hc := H2.out
      go_wp2_with fail
      go_round
      case rel => exact ⟨2, by omega, by go_num, rfl⟩
      case measure => simp [intOf]
    · go_wp2_with fail
      refine (grow_none w).mono ?_
      rintro e w' ⟨rfl, rfl⟩
      go_wp2_with fail
      go_loop [6, 27] (fun u6 u27 => ∃ k : Nat, k ≤ 2 ∧ u27 = .int .i64 (k : Int) ∧ u6 = .slice none 0 0) (fun _ u27 => (2 - intOf u27).toNat)
      case atStart => exact ⟨0, by omega, rfl, rfl⟩
      case round =>
        obtain ⟨k, hk, rfl, rfl⟩ := hrel
        have hk3 : k = 0 ∨ k = 1 ∨ k = 2 := by omega
        rcases hk3 with rfl | rfl | rfl
        · have hc := H1.out
          go_wp2_with (at_builtin; refine wpList_append_run rfl _ _ 22 22 rfl _ _ _ _ rfl rfl (fun ty => run_append_zero _ none 0 0 a1 c1 (Nat.le_refl _) ty) ?_)
          go_wp2_with fail
          go_round
          case rel => exact ⟨1, by omega, by go_num, rfl⟩
          case measure => simp [intOf]
        · have hc := H2.out
          go_wp2_with (at_builtin; refine wpList_append_run rfl _ _ 22 22 rfl _ _ _ _ rfl rfl (fun ty => run_append_zero _ none 0 0 a2 c2 (Nat.le_refl _) ty) ?_)
          go_wp2_with fail
          go_round
          case rel => exact ⟨2, by omega, by go_num, rfl⟩
          case measure => simp [intOf]
        · go_wp2_with fail
          go_ret
          exact ⟨Below.refl _ _, _, rfl, .inl ⟨_, _, rfl, rfl⟩⟩

set_option maxHeartbeats 2000000 in
theorem concat_some (g0 c0 : Nat) (a1 a2 : Option Addr) (c1 c2 : Nat) (ss ts : List Int) (w : World) (hg0 : g0 < w.heap.size) (h1 : w.cell? ⟨g0, 0, none⟩ = some (.slice a1 ss.length c1)) (h2 : w.cell? ⟨g0, 1, none⟩ = some (.slice a2 ts.length c2))
    (hs : Reads w (.slice a1 ss.length c1) ss) (ht : Reads w (.slice a2 ts.length c2) ts) (hsr : ss.length * 8 ≤ 140737488351232) (htr : ts.length * 8 ≤ 140737488351232) (hpos : 0 < ss.length + ts.length) :
    Calls Try.prog 20 #[.slice (some ⟨g0, 0, none⟩) 2 c0] w fun e w' => ConcatPost (ss ++ ts) w e w' := by
  have Hs : Hid (Reads w (.slice a1 ss.length c1) ss) := hs
  have Ht : Hid (Reads w (.slice a2 ts.length c2) ts) := ht
  have H1 : Hid (w.cell? ⟨g0, 0, none⟩ = some (.slice a1 ss.length c1)) := h1
  have H2 : Hid (w.cell? ⟨g0, 1, none⟩ = some (.slice a2 ts.length c2)) := h2
  clear hs ht h1 h2
  go_enter Try.func20, Try.ntmps20
  go_wp2_with fail
  go_loop [3, 11] (fun u3 u11 => ∃ k : Nat, k ≤ 2 ∧ u11 = .int .i64 (k : Int) ∧ u3 = .int .i64 (twoLen ss.length ts.length k : Int)) (fun _ u11 => (2 - intOf u11).toNat)
  case atStart => exact ⟨0, by omega, rfl, rfl⟩
  case round =>
    obtain ⟨k, hk, rfl, rfl⟩ := hrel
    have hk3 : k = 0 ∨ k = 1 ∨ k = 2 := by omega
    rcases hk3 with rfl | rfl | rfl
    · have hc := H1.out
      simp only [twoLen]
      go_wp2_with fail
      go_round
      case rel => exact ⟨1, by omega, by go_num, by simp [twoLen]⟩
      case measure => simp [intOf]
    · have hc := H2.out
      simp only [twoLen]
      go_wp2_with fail
      go_round
      case rel => exact ⟨2, by omega, by go_num, by simp [twoLen]⟩
      case measure => simp [intOf]
    · simp only [twoLen]
      go_wp2_with fail
      rw [show (ss.length : Int) + (ts.length : Int) = ((ss.length + ts.length : Nat) : Int) by omega]
      refine (grow_some (ss.length + ts.length) w hpos (by omega)).mono ?_
      rintro e w1 ⟨hb1, g, cap, rfl, hg, hcap, hown1⟩
      go_wp2_with fail
      go_loopw [6, 27] (fun u6 u27 wr => ∃ k : Nat, k ≤ 2 ∧ u27 = .int .i64 (k : Int) ∧ u6 = .slice (some ⟨g, 0, none⟩) (upTo ss ts k).length cap ∧ Hid (wr.ownsRow w.heap.size 3 1 (.slice (some ⟨g, 0, none⟩) (upTo ss ts k).length cap) (upTo ss ts k).length (ints (upTo ss ts k))) ∧ Below w.heap.size w wr)
        (fun _ u27 _ => (2 - intOf u27).toNat)
      case atStart => exact ⟨0, by omega, rfl, rfl, hown1, hb1⟩
      case round =>
        obtain ⟨k, hk, rfl, rfl, Ho, hbr⟩ := hrel
        have hk3 : k = 0 ∨ k = 1 ∨ k = 2 := by omega
        rcases hk3 with rfl | rfl | rfl
        · have hc : wr.cell? ⟨g0, 0, none⟩ = some (.slice a1 ss.length c1) := (hbr.cell (by exact hg0)).trans H1.out
          have hrd : Reads wr (.slice a1 ss.length c1) ss := Hs.out.below hbr
          have Hrd : Hid (Reads wr (.slice a1 ss.length c1) ss) := hrd
          clear hrd
          simp only [upTo, List.length_nil] at Ho ⊢
          have hroom0 : ([] : List Int).length + ss.length ≤ cap := by rw [List.length_nil]; omega
          go_wp2_with (at_builtin; refine append_reads rfl _ _ rfl w.heap.size g cap _ [] ss rfl Ho.out rfl Hrd.out hroom0 ?_)
          intro w2 ho2 hgr2
          have hb2 : Below w.heap.size w w2 := hbr.grown hgr2 hbr.size (fun j hj => by cases hj; exact hg)
          have Ho2 : Hid (w2.ownsRow w.heap.size 3 1 (.slice (some ⟨g, 0, none⟩) ss.length cap) ss.length (ints ss)) := ho2
          clear ho2 hgr2 Ho hbr hc
          go_wp2_with fail
          go_roundw
          case rel => exact ⟨1, by omega, by go_num, rfl, Ho2.out, hb2⟩
          case measure => simp [intOf]
        · have hc : wr.cell? ⟨g0, 1, none⟩ = some (.slice a2 ts.length c2) := (hbr.cell (by exact hg0)).trans H2.out
          have hrd : Reads wr (.slice a2 ts.length c2) ts := Ht.out.below hbr
          have Hrd : Hid (Reads wr (.slice a2 ts.length c2) ts) := hrd
          clear hrd
          simp only [upTo] at Ho ⊢
          go_wp2_with (at_builtin; refine append_reads rfl _ _ rfl w.heap.size g cap _ ss ts rfl Ho.out rfl Hrd.out hcap ?_)
          intro w2 ho2 hgr2
          have hb2 : Below w.heap.size w w2 := hbr.grown hgr2 hbr.size (fun j hj => by cases hj; exact hg)
          have Ho2 : Hid (w2.ownsRow w.heap.size 3 1 (.slice (some ⟨g, 0, none⟩) (ss ++ ts).length cap) (ss ++ ts).length (ints (ss ++ ts))) := by rw [List.length_append]; exact ho2
          clear ho2 hgr2 Ho hbr hc
          go_wp2_with fail
          go_roundw
          case rel => exact ⟨2, by omega, by go_num, by simp only [upTo]; rw [List.length_append], Ho2.out, hb2⟩
          case measure => simp [intOf]
        · simp only [upTo] at Ho ⊢
          go_wp2_with fail
          go_ret
          exact ⟨hbr, _, rfl, own_of Ho.out⟩

theorem concat_any (g0 c0 : Nat) (v1 v2 : Value) (ss ts : List Int) (w : World) (hg0 : g0 < w.heap.size) (h1 : w.cell? ⟨g0, 0, none⟩ = some v1) (h2 : w.cell? ⟨g0, 1, none⟩ = some v2)
    (hs : Reads w v1 ss) (ht : Reads w v2 ts) (hsr : ss.length * 8 ≤ 140737488351232) (htr : ts.length * 8 ≤ 140737488351232) :
    Calls Try.prog 20 #[.slice (some ⟨g0, 0, none⟩) 2 c0] w fun e w' => ConcatPost (ss ++ ts) w e w' := by
  obtain ⟨a1, c1, rfl⟩ := hs.shape
  obtain ⟨a2, c2, rfl⟩ := ht.shape
  by_cases h0 : ss.length + ts.length = 0
  · obtain rfl := List.length_eq_zero_iff.1 (show ss.length = 0 by omega)
    obtain rfl := List.length_eq_zero_iff.1 (show ts.length = 0 by omega)
    exact concat_none g0 c0 a1 a2 c1 c2 w h1 h2
  · exact concat_some g0 c0 a1 a2 c1 c2 ss ts w hg0 h1 h2 hs ht hsr htr (by omega)
end Go.Proofs.Ytppgpejeedjajaa.Seek
