/- The contracts of slices.Grow of nothing and of slices.Concat of any number of slices. -/
import Derived.Test.YtpgjaoemkadenabM05
import Derived.Deep.DeepAppendRoom
import Derived.Lib.AppendZerosOnto
set_option linter.unusedVariables false
set_option linter.unusedSimpArgs false
set_option maxRecDepth 100000
namespace Go.Proofs.Ytpgjaoemkadenab.Seek
open Go.RowKit

/-- An append whose run is known. -/
theorem wpList_append_run {w : World} {ops : Array Oper} {rest : List Oper} {o : Oper} {a : Act} {Q : Exit → Act → World → Prop} (hgd : o.guard = none) (s x : Operand) (t1 t2 : TypeId)
    (ho : o.op = .call { callee := .builtin .append, args := #[s, x], argTypes := #[t1, t2] }) (u1 u2 v : Value) (w' : World) (hs : a.eval s = u1) (hx : a.eval x = u2)
    (hr : ∀ ty, (Builtin.append_ #[t1, t2] ty #[u1, u2]).run Try.prog w = .ok v w') (h : wpList Try.prog ops Q rest (a.put o.dst v) w') : wpList Try.prog ops Q (o :: rest) a w :=
  wpList_plain hgd fun _ hK => by
    unfold Oper.wp execOp
    simp only [ho, resolve, invoke, builtin, Sem.run_bind, Sem.run_pure, Result.andThen_ok, List.map_toArray, List.map_cons, List.map_nil, hs, hx, hr]
    exact hK _ _ h
/-- An append of nothing. -/
theorem run_append_zero (w : World) (d : Option Addr) (n cap : Nat) (a : Option Addr) (c : Nat) (hn : n ≤ cap) (ty : TypeId) : (Builtin.append_ #[22, 22] ty #[.slice d n cap, .slice a 0 c]).run Try.prog w = .ok (.slice d n cap) w := by
  obtain ⟨i0, hi, hz0, hz1, hz2⟩ := info_parts info3
  cases d <;> cases a <;> simp [Builtin.append_, go_sem, run_underlying Try.underlying22, Go.sizeOf, typeInfo, hi, Builtin.lenOf, Builtin.firstCells, hn, storeCells]

theorem grow_none (w : World) : Calls Try.prog 21 #[.slice none 0 0, .int .i64 ((0 : Nat) : Int)] w fun e w' => e = .returned (.slice none 0 0) ∧ w' = w := by
  go_enter Try.func21, Try.ntmps21
  go_wp2_with fail
  go_ret
  exact ⟨rfl, rfl⟩

/-- What Grow leaves. -/
def GrowPost (n : Nat) (w : World) (e : Ending) (w' : World) : Prop :=
  Below w.heap.size w w' ∧ ∃ g cap, e = .returned (.slice (some ⟨g, 0, none⟩) 0 cap) ∧ w.heap.size ≤ g ∧ n ≤ cap ∧ w'.ownsRow w.heap.size 3 1 (.slice (some ⟨g, 0, none⟩) 0 cap) 0 []
set_option maxHeartbeats 1000000 in
theorem grow_some (n : Nat) (w : World) (h0 : 0 < n) (hb : n * 8 ≤ 281474976710656) : Calls Try.prog 21 #[.slice none 0 0, .int .i64 (n : Int)] w fun e w' => GrowPost n w e w' := by
  obtain ⟨i0, hi, hz0, hz1, hz2⟩ := info_parts info3
  have hold : (Builtin.firstCells i0.size 0 (.slice none 0 0)).run Try.prog w.drew = .ok ([] : List Value).toArray w.drew := run_firstCells_none w.drew i0.size 0 0 0
  have hnx : Builtin.nextslicecap (0 + n) 0 * i0.bytes ≤ 281474976710656 := by
    unfold Builtin.nextslicecap
    rw [if_pos (by omega), hz2]
    omega
  have hrz : ∀ ty, (Builtin.append_ #[22, 3] ty #[.slice none 0 0, .int .i64 (n : Int)]).run Try.prog w = _ := fun ty =>
    Lib.run_append_grow_zeros w 22 3 ty 3 i0 (.int .i64 0) .i64 .i64 Try.underlying22 Try.underlying3 hi hz0 none 0 0 [] hold n h0 (by omega) (by omega) (by omega) (by rw [hz2]; omega) hnx
  have hG1 : n ≤ grownCap w (0 + n) 0 3 := by have := grownCap_ge w (0 + n) 0 3; omega
  have hG2 : grownCap w (0 + n) 0 3 ≤ maxLen := grownCap_le_maxLen w (0 + n) 0 3 (by unfold maxLen; omega)
  rw [Nat.zero_add] at hG1 hG2 hrz
  generalize grownCap w n 0 3 = G at *
  generalize hcur : (([] : List Value).toArray ++ Builtin.zeroCells (Value.int .i64 0).cells n ++ Builtin.zeroCells (Value.int .i64 0).cells (G - n)) = cur at *
  have hcs : cur.size = G * 1 := by
    rw [← hcur, Array.size_append, Array.size_append, size_zeroCells, size_zeroCells]
    show 0 + n * 1 + (G - n) * 1 = G * 1
    omega
  clear hold hnx hcur
  have Hown : Hid ((w.drew.alloc (.cells cur 3)).ownsRow w.heap.size 3 1 (.slice (some ⟨w.heap.size, 0, none⟩) 0 G) 0 []) := by
    refine ⟨rfl, .inr ⟨w.heap.size, G, cur, rfl, Nat.le_refl _, ?_, Nat.zero_le _, hG2, hcs, rfl⟩⟩
    show (w.heap.push _)[w.heap.size]? = _
    simp
  unfold maxLen at hG2
  have hn0 : ¬ (n : Int) < 0 := by omega
  have hn1 : (0 : Int) < (n : Int) := by omega
  go_enter Try.func21, Try.ntmps21
  go_wp2_with (at_builtin; refine wpList_append_run rfl _ _ 22 3 rfl _ _ _ _ rfl rfl hrz ?_)
  clear hrz
  go_wp2_with fail
  go_ret
  exact ⟨(below_drewN (Below.refl _ _) 1).alloc (Nat.le_refl _) _, _, G, rfl, Nat.le_refl _, hG1, Hown.out⟩

/-- Some numbers behind an owned row that has room for them. -/
theorem append_reads {w : World} {ops : Array Oper} {rest : List Oper} {o : Oper} {a : Act} {Q : Exit → Act → World → Prop} (hgd : o.guard = none) (s x : Operand)
    (ho : o.op = .call { callee := .builtin .append, args := #[s, x], argTypes := #[22, 22] }) (B g cap : Nat) (v2 : Value) (xs ys : List Int)
    (hs : a.eval s = .slice (some ⟨g, 0, none⟩) xs.length cap) (hown : w.ownsRow B 3 1 (.slice (some ⟨g, 0, none⟩) xs.length cap) xs.length (ints xs)) (hx : a.eval x = v2) (hr : Reads w v2 ys)
    (hroom : xs.length + ys.length ≤ cap)
    (h : ∀ w', w'.ownsRow B 3 1 (.slice (some ⟨g, 0, none⟩) (xs ++ ys).length cap) (xs ++ ys).length (ints (xs ++ ys)) → w.grownBy w' (some g) → wpList Try.prog ops Q rest (a.put o.dst (.slice (some ⟨g, 0, none⟩) (xs ++ ys).length cap)) w') : wpList Try.prog ops Q (o :: rest) a w := by
  obtain ⟨i0, hi, hz0, hz1, hz2⟩ := info_parts info3
  rcases hr with ⟨a2, c2, rfl, rfl⟩ | ⟨b, off, c2, rfl, _, _, _, hc⟩
  · refine wpList_append_run hgd s x 22 22 ho _ _ _ w hs hx (fun ty => run_append_zero w _ _ _ a2 c2 (by simpa using hroom) ty) ?_
    have := h w (by rw [List.append_nil]; exact hown) ⟨rfl, rfl, rfl, Nat.le_refl _, fun _ _ _ => rfl⟩
    rw [List.append_nil] at this
    exact this
  · refine wpList_append_own_spare w hgd s x 22 ho B 3 i0 1 Try.underlying22 hi hz1 g xs.length cap (ints xs) hs hown ⟨b, off, none⟩ ys.length c2 (ints ys) hx (by rw [ints_len, Nat.mul_one]) ?_ ?_ hroom ?_
    · intro j u hj
      unfold ints at hj
      rw [List.getElem?_map] at hj
      by_cases hjl : j < ys.length
      · rw [List.getElem?_eq_getElem hjl] at hj
        have h1 := hc j hjl
        rw [List.getD_eq_getElem?_getD, List.getElem?_eq_getElem hjl] at h1
        have e : (⟨b, off, none⟩ : Addr).add j = ⟨b, off + j, none⟩ := by
          simp only [Addr.add]
          split <;> simp_all
        rw [e, h1]
        simpa using hj
      · rw [List.getElem?_eq_none (by omega)] at hj
        cases hj
    · intro u hu
      unfold ints at hu
      obtain ⟨c, _, rfl⟩ := List.mem_map.1 hu
      rfl
    · intro w' h1 h2
      have e1 : ints (xs ++ ys) = ints xs ++ ints ys := by unfold ints; rw [List.map_append]
      have e2 : (xs ++ ys).length = xs.length + ys.length := List.length_append
      have := h w' (by rw [e1, e2]; exact h1) h2
      rw [e2] at this
      exact this

/-- The first k lists joined. -/
def joined (xs : Nat → List Int) : Nat → List Int
  | 0 => []
  | k + 1 => joined xs k ++ xs k
theorem joined_le (xs : Nat → List Int) (k : Nat) : ∀ n, k ≤ n → (joined xs k).length ≤ (joined xs n).length
  | 0, h => by
    obtain rfl : k = 0 := by omega
    exact Nat.le_refl _
  | n + 1, h => by
    by_cases hk : k = n + 1
    · subst hk
      exact Nat.le_refl _
    · have := joined_le xs k n (by omega)
      rw [joined, List.length_append]
      omega
/-- What Concat answers. -/
def ConcatPost (zs : List Int) (w : World) (e : Ending) (w' : World) : Prop := Below w.heap.size w w' ∧ ∃ v, e = .returned v ∧ Own w' w.heap.size v zs

set_option maxHeartbeats 2000000 in
theorem concat_none (g0 c0 n : Nat) (vs : Nat → Value) (xs : Nat → List Int) (w : World) (hn : n ≤ 1000000) (hc : ∀ j, j < n → w.cell? ⟨g0, j, none⟩ = some (vs j)) (hr : ∀ j, j < n → Reads w (vs j) (xs j)) (h0 : (joined xs n).length = 0) :
    Calls Try.prog 10 #[.slice (some ⟨g0, 0, none⟩) n c0] w fun e w' => ConcatPost (joined xs n) w e w' := by
  have Hc : Hid (∀ j, j < n → ∃ a c, w.cell? ⟨g0, j, none⟩ = some (.slice a 0 c)) := by
    intro j hj
    have h1 : (xs j).length = 0 := by
      have := joined_le xs (j + 1) n (by omega)
      rw [joined, List.length_append] at this
      omega
    obtain ⟨a, c, hv⟩ := (hr j hj).shape
    rw [h1] at hv
    exact ⟨a, c, by rw [hc j hj, hv]⟩
  have H0 : Hid (joined xs n = []) := List.length_eq_zero_iff.1 h0
  clear hc hr h0
  go_enter Try.func10, Try.ntmps10
  go_wp2_with fail
  go_loop [3, 11] (fun u3 u11 => ∃ k : Nat, k ≤ n ∧ u11 = .int .i64 (k : Int) ∧ u3 = .int .i64 0) (fun _ u11 => ((n : Int) - intOf u11).toNat)
  case atStart => exact ⟨0, by omega, rfl, rfl⟩
  case round =>
    obtain ⟨k, hk, rfl, rfl⟩ := hrel
    by_cases hlt : k < n
    · obtain ⟨a, c, hc⟩ := Hc.out k hlt
      go_wp2_with fail
      go_round
      case rel => exact ⟨k + 1, by omega, by go_num, rfl⟩
      case measure => simp [intOf]; omega
    · obtain rfl : k = n := by omega
      go_wp2_with fail
      refine (grow_none w).mono ?_
      rintro e w' ⟨rfl, rfl⟩
      go_wp2_with fail
      go_loop [6, 27] (fun u6 u27 => ∃ m : Nat, m ≤ k ∧ u27 = .int .i64 (m : Int) ∧ u6 = .slice none 0 0) (fun _ u27 => ((k : Int) - intOf u27).toNat)
      case atStart => exact ⟨0, by omega, rfl, rfl⟩
      case round =>
        obtain ⟨m, hm, rfl, rfl⟩ := hrel
        by_cases hml : m < k
        · obtain ⟨a, c, hc⟩ := Hc.out m hml
          go_wp2_with (at_builtin; refine wpList_append_run rfl _ _ 22 22 rfl _ _ _ _ rfl rfl (fun ty => run_append_zero _ none 0 0 a c (Nat.le_refl _) ty) ?_)
          go_wp2_with fail
          go_round
          case rel => exact ⟨m + 1, by omega, by go_num, rfl⟩
          case measure => simp [intOf]; omega
        · obtain rfl : m = k := by omega
          go_wp2_with fail
          go_ret
          exact ⟨Below.refl _ _, _, rfl, .inl ⟨_, _, rfl, H0.out⟩⟩

set_option maxHeartbeats 2000000 in
theorem concat_some (g0 c0 n : Nat) (vs : Nat → Value) (xs : Nat → List Int) (w : World) (hn : n ≤ 1000000) (hg0 : g0 < w.heap.size) (hc : ∀ j, j < n → w.cell? ⟨g0, j, none⟩ = some (vs j)) (hr : ∀ j, j < n → Reads w (vs j) (xs j))
    (h0 : 0 < (joined xs n).length) (hb : (joined xs n).length * 8 ≤ 281474976710656) :
    Calls Try.prog 10 #[.slice (some ⟨g0, 0, none⟩) n c0] w fun e w' => ConcatPost (joined xs n) w e w' := by
  have Hc : Hid (∀ j, j < n → ∃ a c, w.cell? ⟨g0, j, none⟩ = some (.slice a (xs j).length c) ∧ Reads w (.slice a (xs j).length c) (xs j)) := by
    intro j hj
    have h1 := hr j hj
    obtain ⟨a, c, hv⟩ := h1.shape
    rw [hv] at h1
    exact ⟨a, c, by rw [hc j hj, hv], h1⟩
  have Hle : Hid (∀ k, k < n → (joined xs k).length + (xs k).length ≤ (joined xs n).length) := by
    intro k hk
    have := joined_le xs (k + 1) n (by omega)
    rw [joined, List.length_append] at this
    exact this
  clear hc hr
  go_enter Try.func10, Try.ntmps10
  go_wp2_with fail
  go_loop [3, 11] (fun u3 u11 => ∃ k : Nat, k ≤ n ∧ u11 = .int .i64 (k : Int) ∧ u3 = .int .i64 ((joined xs k).length : Int)) (fun _ u11 => ((n : Int) - intOf u11).toNat)
  case atStart => exact ⟨0, by omega, rfl, rfl⟩
  case round =>
    obtain ⟨k, hk, rfl, rfl⟩ := hrel
    by_cases hlt : k < n
    · obtain ⟨a, c, hc, _⟩ := Hc.out k hlt
      have hle := Hle.out k hlt
      have Hnext : Hid ((joined xs (k + 1)).length = (joined xs k).length + (xs k).length) := List.length_append
      generalize (joined xs k).length = m1 at *
      generalize (xs k).length = m2 at *
      go_wp2_with fail
      go_round
      case rel => exact ⟨k + 1, by omega, by go_num, by rw [Hnext.out]; go_num⟩
      case measure => simp [intOf]; omega
    · obtain rfl : k = n := by omega
      go_wp2_with fail
      refine (grow_some (joined xs k).length w h0 hb).mono ?_
      rintro e w1 ⟨hb1, g, cap, rfl, hg, hcap, hown1⟩
      go_wp2_with fail
      go_loopw [6, 27] (fun u6 u27 wr => ∃ m : Nat, m ≤ k ∧ u27 = .int .i64 (m : Int) ∧ u6 = .slice (some ⟨g, 0, none⟩) (joined xs m).length cap ∧ Hid (wr.ownsRow w.heap.size 3 1 (.slice (some ⟨g, 0, none⟩) (joined xs m).length cap) (joined xs m).length (ints (joined xs m))) ∧ Below w.heap.size w wr)
        (fun _ u27 _ => ((k : Int) - intOf u27).toNat)
      case atStart => exact ⟨0, by omega, rfl, rfl, hown1, hb1⟩
      case round =>
        obtain ⟨m, hm, rfl, rfl, Ho, hbr⟩ := hrel
        by_cases hml : m < k
        · obtain ⟨a, c, hc0, hrd0⟩ := Hc.out m hml
          have hc : wr.cell? ⟨g0, m, none⟩ = some (.slice a (xs m).length c) := (hbr.cell (by exact hg0)).trans hc0
          have Hrd : Hid (Reads wr (.slice a (xs m).length c) (xs m)) := hrd0.below hbr
          clear hc0 hrd0
          have hroom : (joined xs m).length + (xs m).length ≤ cap := Nat.le_trans (Hle.out m hml) hcap
          go_wp2_with (at_builtin; refine append_reads rfl _ _ rfl w.heap.size g cap _ (joined xs m) (xs m) rfl Ho.out rfl Hrd.out hroom ?_)
          intro w2 ho2 hgr2
          have hb2 : Below w.heap.size w w2 := hbr.grown hgr2 hbr.size (fun j hj => by cases hj; exact hg)
          have Ho2 : Hid (w2.ownsRow w.heap.size 3 1 (.slice (some ⟨g, 0, none⟩) (joined xs (m + 1)).length cap) (joined xs (m + 1)).length (ints (joined xs (m + 1)))) := by
            show World.ownsRow _ _ _ _ _ _ _
            rw [joined, List.length_append]
            exact ho2
          clear ho2 hgr2 Ho hbr hc
          go_wp2_with fail
          go_roundw
          case rel => exact ⟨m + 1, by omega, by go_num, by rw [joined, List.length_append], Ho2.out, hb2⟩
          case measure => simp [intOf]; omega
        · obtain rfl : m = k := by omega
          go_wp2_with fail
          go_ret
          exact ⟨hbr, _, rfl, own_of Ho.out⟩

theorem concat_any (g0 c0 n : Nat) (vs : Nat → Value) (xs : Nat → List Int) (w : World) (hn : n ≤ 1000000) (hg0 : g0 < w.heap.size) (hc : ∀ j, j < n → w.cell? ⟨g0, j, none⟩ = some (vs j)) (hr : ∀ j, j < n → Reads w (vs j) (xs j))
    (hb : (joined xs n).length * 8 ≤ 281474976710656) :
    Calls Try.prog 10 #[.slice (some ⟨g0, 0, none⟩) n c0] w fun e w' => ConcatPost (joined xs n) w e w' := by
  by_cases h0 : (joined xs n).length = 0
  · exact concat_none g0 c0 n vs xs w hn hc hr h0
  · exact concat_some g0 c0 n vs xs w hn hg0 hc hr (by omega) hb
end Go.Proofs.Ytpgjaoemkadenab.Seek
