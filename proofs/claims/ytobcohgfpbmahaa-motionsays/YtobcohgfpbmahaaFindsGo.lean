/- The contract of the document's finds: the places of a character to one side. -/
import Derived.Test.YtobcohgfpbmahaaMoves
import Derived.OwnWalk
set_option linter.unusedVariables false
set_option linter.unusedSimpArgs false
namespace Go.Proofs.Ytobcohgfpbmahaa.Plain
/-- The places to the right, below m. -/
def rights (p : Nat → Bool) (k m : Nat) : List Nat := (List.range m).filter fun x => decide (k < x) && p x
/-- The places to the left, below m, the nearest first. -/
def lefts (p : Nat → Bool) (k m : Nat) : List Nat := ((List.range m).filter fun x => decide (x < k) && p x).reverse
theorem rights_next (p : Nat → Bool) (k m : Nat) : rights p k (m + 1) = if k < m ∧ p m = true then rights p k m ++ [m] else rights p k m := by
  unfold rights
  rw [List.range_succ, List.filter_append]
  by_cases h : k < m ∧ p m = true
  · rw [if_pos h]
    simp [h.1, h.2]
  · rw [if_neg h]
    have : (decide (k < m) && p m) = false := by
      rw [Bool.eq_false_iff]
      intro hh
      simp at hh
      exact h hh
    simp [this]
theorem lefts_next (p : Nat → Bool) (k m : Nat) : lefts p k (m + 1) = if m < k ∧ p m = true then m :: lefts p k m else lefts p k m := by
  unfold lefts
  rw [List.range_succ, List.filter_append]
  by_cases h : m < k ∧ p m = true
  · rw [if_pos h]
    simp [h.1, h.2]
  · rw [if_neg h]
    have : (decide (m < k) && p m) = false := by
      rw [Bool.eq_false_iff]
      intro hh
      simp at hh
      exact h hh
    simp [this]
theorem rights_len (p : Nat → Bool) (k m : Nat) : (rights p k m).length ≤ m := by
  unfold rights
  exact Nat.le_trans (List.length_filter_le _ _) (by simp)
theorem lefts_len (p : Nat → Bool) (k m : Nat) : (lefts p k m).length ≤ m := by
  unfold lefts
  rw [List.length_reverse]
  exact Nat.le_trans (List.length_filter_le _ _) (by simp)
/-- The n-th place going up is the list's n-th. -/
theorem goUp_nth (p : Nat → Bool) : ∀ (f i n : Nat), 1 ≤ n → goUp p f i n = ((List.range' i f).filter p)[n - 1]?
  | 0, _, _, _ => by simp [goUp]
  | f + 1, i, n, hn => by
    unfold goUp
    rw [List.range'_succ]
    by_cases hp : p i = true
    · rw [if_pos hp, List.filter_cons_of_pos hp]
      by_cases h1 : n = 1
      · rw [if_pos h1, h1]
        rfl
      · rw [if_neg h1, goUp_nth p f (i + 1) (n - 1) (by omega)]
        obtain ⟨q, rfl⟩ : ∃ q, n = q + 2 := ⟨n - 2, by omega⟩
        simp
    · rw [if_neg hp, List.filter_cons_of_neg hp, goUp_nth p f (i + 1) n hn]
theorem goDn_nth (p : Nat → Bool) : ∀ (i n : Nat), 1 ≤ n → goDn p i n = (((List.range i).filter p).reverse)[n - 1]?
  | 0, _, _ => by simp [goDn]
  | i + 1, n, hn => by
    unfold goDn
    rw [List.range_succ, List.filter_append]
    by_cases hp : p i = true
    · rw [if_pos hp]
      have : List.filter p [i] = [i] := by simp [hp]
      rw [this, List.reverse_append]
      by_cases h1 : n = 1
      · rw [if_pos h1, h1]
        rfl
      · rw [if_neg h1, goDn_nth p i (n - 1) (by omega)]
        obtain ⟨q, rfl⟩ : ∃ q, n = q + 2 := ⟨n - 2, by omega⟩
        simp
    · rw [if_neg hp]
      have : List.filter p [i] = [] := by simp [hp]
      rw [this, List.append_nil, goDn_nth p i n hn]
theorem rights_is (p : Nat → Bool) (k m : Nat) (hk : k < m) : rights p k m = (List.range' (k + 1) (m - (k + 1))).filter p := by
  unfold rights
  have h : List.range m = List.range (k + 1) ++ List.range' (k + 1) (m - (k + 1)) := by
    have h2 := List.range'_append_1 (s := 0) (m := k + 1) (n := m - (k + 1))
    rw [show k + 1 + (m - (k + 1)) = m by omega, Nat.zero_add] at h2
    rw [List.range_eq_range', List.range_eq_range']
    exact h2.symm
  rw [h, List.filter_append]
  have h1 : (List.range (k + 1)).filter (fun x => decide (k < x) && p x) = [] := by
    rw [List.filter_eq_nil_iff]
    intro a ha
    have := List.mem_range.1 ha
    simp
    omega
  rw [h1, List.nil_append]
  apply List.filter_congr
  intro x hx
  have := List.mem_range'_1.1 hx
  simp
  omega
theorem lefts_is (p : Nat → Bool) (k m : Nat) (hk : k ≤ m) : lefts p k m = ((List.range k).filter p).reverse := by
  unfold lefts
  have h : List.range m = List.range k ++ List.range' k (m - k) := by
    have h2 := List.range'_append_1 (s := 0) (m := k) (n := m - k)
    rw [show k + (m - k) = m by omega, Nat.zero_add] at h2
    rw [List.range_eq_range', List.range_eq_range']
    exact h2.symm
  rw [h, List.filter_append]
  have h1 : (List.range' k (m - k)).filter (fun x => decide (x < k) && p x) = [] := by
    rw [List.filter_eq_nil_iff]
    intro a ha
    have := List.mem_range'_1.1 ha
    simp
    omega
  rw [h1, List.append_nil]
  congr 1
  apply List.filter_congr
  intro x hx
  have := List.mem_range.1 hx
  simp [this]
end Go.Proofs.Ytobcohgfpbmahaa.Plain
namespace Go.Proofs.Ytobcohgfpbmahaa.Seek
open Go.RowKit Plain
theorem ints_append (a b : List Int) : ints (a ++ b) = ints a ++ ints b := by unfold ints; rw [List.map_append]
/-- An append whose run is known. -/
theorem wpList_append_run {w : World} {ops : Array Oper} {rest : List Oper} {o : Oper} {a : Act} {Q : Exit → Act → World → Prop} (hgd : o.guard = none) (s x : Operand) (t1 t2 : TypeId)
    (ho : o.op = .call { callee := .builtin .append, args := #[s, x], argTypes := #[t1, t2] }) (u1 u2 v : Value) (w' : World) (hs : a.eval s = u1) (hx : a.eval x = u2)
    (hr : ∀ ty, (Builtin.append_ #[t1, t2] ty #[u1, u2]).run Try.prog w = .ok v w') (h : wpList Try.prog ops Q rest (a.put o.dst v) w') : wpList Try.prog ops Q (o :: rest) a w :=
  wpList_plain hgd fun _ hK => by
    unfold Oper.wp execOp
    simp only [ho, resolve, invoke, builtin, Sem.run_bind, Sem.run_pure, Result.andThen_ok, List.map_toArray, List.map_cons, List.map_nil, hs, hx, hr]
    exact hK _ _ h
/-- An append of nothing. -/
theorem run_append_zero (w : World) (d : Option Addr) (n cap : Nat) (a : Option Addr) (c : Nat) (hn : n ≤ cap) (ty : TypeId) : (Builtin.append_ #[22, 22] ty #[.slice d n cap, .slice a 0 c]).run Try.prog w = .ok (.slice d n cap) w := by
  obtain ⟨i0, hi, hz0, hz1, hz2⟩ := info_parts info3
  cases d <;> cases a <;> simp [Builtin.append_, go_sem, run_underlying Try.underlying22, Go.sizeOf, typeInfo, hi, Builtin.lenOf, Builtin.firstCells, hn, storeCells]
/-- Some numbers behind an owned row. -/
theorem append_any {w : World} {ops : Array Oper} {rest : List Oper} {o : Oper} {a : Act} {Q : Exit → Act → World → Prop} (hgd : o.guard = none) (s x : Operand)
    (ho : o.op = .call { callee := .builtin .append, args := #[s, x], argTypes := #[22, 22] }) (B : Nat) (v v2 : Value) (xs ys : List Int)
    (hs : a.eval s = v) (hown : w.ownsRow B 3 1 v xs.length (ints xs)) (hx : a.eval x = v2) (hr : Reads w v2 ys) (hle : xs.length + ys.length ≤ 16384) (hB : B ≤ w.heap.size)
    (h : ∀ v' w', w'.ownsRow B 3 1 v' (xs ++ ys).length (ints (xs ++ ys)) → w.grownBy w' v.ownBlock → wpList Try.prog ops Q rest (a.put o.dst v') w') : wpList Try.prog ops Q (o :: rest) a w := by
  obtain ⟨i0, hi, hz0, hz1, hz2⟩ := info_parts info3
  rcases hr with ⟨a2, c2, rfl, rfl⟩ | ⟨b, off, c2, rfl, _, _, _, hc⟩
  · have h2 : ∃ d cap, v = .slice d xs.length cap ∧ xs.length ≤ cap := by
      rcases hown.2 with ⟨rfl, h0⟩ | ⟨g, cap, cur, rfl, hb, hg, hn, hm, hsz, htake⟩
      · exact ⟨none, 0, by rw [h0], by omega⟩
      · exact ⟨_, cap, rfl, hn⟩
    obtain ⟨d, cap, rfl, hn⟩ := h2
    refine wpList_append_run hgd s x 22 22 ho _ _ _ w hs hx (fun ty => run_append_zero w _ _ _ a2 c2 hn ty) ?_
    exact h _ w (by rw [List.append_nil]; exact hown) (grown_refl _ _)
  · refine wpList_append_own w hgd s x 22 ho B 3 i0 (.int .i64 0) 1 8 Try.underlying22 hi hz0 hz1 hz2 rfl (by decide) v xs.length (ints xs) hs hown ⟨b, off, none⟩ ys.length c2 (ints ys) hx (by rw [ints_len, Nat.mul_one]) ?_ ?_ (by unfold maxLen; omega) (by omega) hB ?_
    · intro j u hj
      unfold ints at hj
      rw [List.getElem?_map] at hj
      by_cases hjl : j < ys.length
      · rw [List.getElem?_eq_getElem hjl] at hj
        have h1 := hc j hjl
        rw [List.getD_eq_getElem?_getD, List.getElem?_eq_getElem hjl] at h1
        have e : (⟨b, off, none⟩ : Addr).add j = ⟨b, off + j, none⟩ := by
          simp only [Addr.add]
          split <;> simp_all
        rw [e, h1]
        simpa using hj
      · rw [List.getElem?_eq_none (by omega)] at hj
        cases hj
    · intro u hu
      unfold ints at hu
      obtain ⟨z, _, rfl⟩ := List.mem_map.1 hu
      rfl
    · intro v' w' h1 h2 _
      exact h v' w' (by rw [ints_append, List.length_append]; exact h1) h2
def natInts (l : List Nat) : List Int := l.map fun (p : Nat) => (p : Int)
theorem natInts_len (l : List Nat) : (natInts l).length = l.length := List.length_map ..
/-- One number in new memory. -/
theorem own_one (w : World) (x : Int) : (w.alloc (.cells #[.int .i64 x] 3)).ownsRow w.heap.size 3 1 (.slice (some ⟨w.heap.size, 0, none⟩) ([x] : List Int).length 1) ([x] : List Int).length (ints [x]) := by
  refine ⟨rfl, .inr ⟨w.heap.size, 1, #[.int .i64 x], rfl, Nat.le_refl _, ?_, Nat.le_refl _, by decide, rfl, rfl⟩⟩
  show (w.heap.push _)[w.heap.size]? = _
  simp

set_option maxHeartbeats 2000000 in
theorem finds_right (b off cap : Nat) (zs : List Int) (k : Nat) (c : Int) (w : World) (hpl : zs.length ≤ 4096) (hb : b < w.heap.size)
    (hcp : ∀ j, j < zs.length → w.cell? ⟨b, off + j, none⟩ = some (.int .i64 (zs.getD j 0))) :
    Calls Try.prog 29 #[.slice (some ⟨b, off, none⟩) zs.length cap, .int .i64 (k : Int), .int .i64 c, .bool false] w fun e w' => Below w.heap.size w w' ∧ ∃ v, e = .returned v ∧ Reads w' v (natInts (rights (hit zs c) k zs.length)) := by
  have Hcp : Hid (∀ j, j < zs.length → w.cell? ⟨b, off + j, none⟩ = some (.int .i64 (zs.getD j 0))) := hcp
  clear hcp
  go_enter Try.func29, Try.ntmps29
  go_wp2_with fail
  go_loopw [9, 14] (fun u9 u14 wr => ∃ (m : Nat) (L : List Int), u14 = .int .i64 (m : Int) ∧ m ≤ zs.length ∧ Hid (L = natInts (rights (hit zs c) k m)) ∧ L.length ≤ m ∧ wr.ownsRow w.heap.size 3 1 u9 L.length (ints L) ∧ Below w.heap.size w wr)
    (fun _ u14 _ => zs.length - (intOf u14).toNat)
  case atStart => exact ⟨0, [], rfl, by omega, rfl, by simp, World.ownsRow_nil _ _ _ _, Below.refl _ _⟩
  case round =>
    obtain ⟨m, L, rfl, hm, HL, hLm, hown, hbr⟩ := hrel
    have hbs := hbr.size
    have Ho : Hid (wr.ownsRow w.heap.size 3 1 u9 L.length (ints L)) := hown
    clear hown
    by_cases hlt : m < zs.length
    · have hI : (m : Int) < (zs.length : Int) := by omega
      have hcx : wr.cell? ⟨b, off + m, none⟩ = some (.int .i64 (zs.getD m 0)) := (hbr.cell (by exact hb)).trans (Hcp.out _ hlt)
      have Hnx : Hid (rights (hit zs c) k (m + 1) = if k < m ∧ hit zs c m = true then rights (hit zs c) k m ++ [m] else rights (hit zs c) k m) := rights_next _ _ _
      have Hh : Hid (hit zs c m = (zs.getD m 0 == c)) := rfl
      obtain ⟨z, hz⟩ : ∃ z, z = zs.getD m 0 := ⟨_, rfl⟩
      rw [← hz] at hcx Hh
      clear hz
      by_cases hzc : z = c
      · by_cases hkm : k < m
        · have hkI : (k : Int) < (m : Int) := by omega
          have Hn : Hid (L ++ [(m : Int)] = natInts (rights (hit zs c) k (m + 1))) := by
            show _ = _
            rw [Hnx.out, if_pos ⟨hkm, by rw [Hh.out, hzc]; simp⟩, HL.out]
            unfold natInts
            simp
          subst hzc
          clear Hnx Hh HL
          go_wp2_with (at_builtin; refine append_any rfl _ _ rfl w.heap.size u9 _ L [(m : Int)] rfl (Ho.out.alloc _) rfl ?c1 ?c2 ?c3 ?_)
          case c1 => exact owned_reads (own_one _ _)
          case c2 => simp; omega
          case c3 => simp; omega
          intro v' w5 hown' hgrow
          have hb5 : Below w.heap.size w w5 := (hbr.alloc hbr.size _).grown hgrow (by simp; omega) (fun j hj => (Ho.out.lt j hj).1)
          have Ho5 : Hid (w5.ownsRow w.heap.size 3 1 v' (L ++ [(m : Int)]).length (ints (L ++ [(m : Int)]))) := by
            show World.ownsRow _ _ _ _ _ _ _
            rw [List.length_append]
            exact hown'
          clear hown' hgrow hbr Ho
          go_wp2_with fail
          go_roundw
          case rel => exact ⟨m + 1, L ++ [(m : Int)], by go_num, by omega, Hn.out, by simp; omega, Ho5.out, hb5⟩
          case measure => simp [intOf]; omega
        · have hkI : (m : Int) ≤ (k : Int) := by omega
          have Hn : Hid (L = natInts (rights (hit zs c) k (m + 1))) := by
            show _ = _
            rw [Hnx.out, if_neg (by omega), HL.out]
          subst hzc
          clear Hnx Hh HL
          go_wp2_with fail
          go_roundw
          case rel => exact ⟨m + 1, L, by go_num, by omega, Hn.out, by omega, Ho.out, hbr⟩
          case measure => simp [intOf]; omega
      · have hzb : (z == c) = false := by simpa using hzc
        have Hn : Hid (L = natInts (rights (hit zs c) k (m + 1))) := by
          show _ = _
          rw [Hnx.out, if_neg (by rw [Hh.out, hzb]; simp), HL.out]
        clear Hnx Hh HL hzc
        go_wp2_with fail
        go_roundw
        case rel => exact ⟨m + 1, L, by go_num, by omega, Hn.out, by omega, Ho.out, hbr⟩
        case measure => simp [intOf]; omega
    · obtain rfl : m = zs.length := by omega
      go_wp2_with fail
      all_goals (
        go_ret
        exact ⟨hbr, _, rfl, by rw [← HL.out]; exact owned_reads Ho.out⟩)

set_option maxHeartbeats 2000000 in
theorem finds_left (b off cap : Nat) (zs : List Int) (k : Nat) (c : Int) (w : World) (hpl : zs.length ≤ 4096) (hb : b < w.heap.size)
    (hcp : ∀ j, j < zs.length → w.cell? ⟨b, off + j, none⟩ = some (.int .i64 (zs.getD j 0))) :
    Calls Try.prog 29 #[.slice (some ⟨b, off, none⟩) zs.length cap, .int .i64 (k : Int), .int .i64 c, .bool true] w fun e w' => Below w.heap.size w w' ∧ ∃ v, e = .returned v ∧ Reads w' v (natInts (lefts (hit zs c) k zs.length)) := by
  have Hcp : Hid (∀ j, j < zs.length → w.cell? ⟨b, off + j, none⟩ = some (.int .i64 (zs.getD j 0))) := hcp
  clear hcp
  go_enter Try.func29, Try.ntmps29
  go_wp2_with fail
  go_loopw [9, 14] (fun u9 u14 wr => ∃ (m : Nat) (L : List Int), u14 = .int .i64 (m : Int) ∧ m ≤ zs.length ∧ Hid (L = natInts (lefts (hit zs c) k m)) ∧ L.length ≤ m ∧ wr.ownsRow w.heap.size 3 1 u9 L.length (ints L) ∧ Below w.heap.size w wr)
    (fun _ u14 _ => zs.length - (intOf u14).toNat)
  case atStart => exact ⟨0, [], rfl, by omega, rfl, by simp, World.ownsRow_nil _ _ _ _, Below.refl _ _⟩
  case round =>
    obtain ⟨m, L, rfl, hm, HL, hLm, hown, hbr⟩ := hrel
    have hbs := hbr.size
    have Ho : Hid (wr.ownsRow w.heap.size 3 1 u9 L.length (ints L)) := hown
    clear hown
    by_cases hlt : m < zs.length
    · have hI : (m : Int) < (zs.length : Int) := by omega
      have hcx : wr.cell? ⟨b, off + m, none⟩ = some (.int .i64 (zs.getD m 0)) := (hbr.cell (by exact hb)).trans (Hcp.out _ hlt)
      have Hnx : Hid (lefts (hit zs c) k (m + 1) = if m < k ∧ hit zs c m = true then m :: lefts (hit zs c) k m else lefts (hit zs c) k m) := lefts_next _ _ _
      have Hh : Hid (hit zs c m = (zs.getD m 0 == c)) := rfl
      obtain ⟨z, hz⟩ : ∃ z, z = zs.getD m 0 := ⟨_, rfl⟩
      rw [← hz] at hcx Hh
      clear hz
      by_cases hzc : z = c
      · by_cases hkm : m < k
        · have hkI : (m : Int) < (k : Int) := by omega
          have Hn : Hid ([(m : Int)] ++ L = natInts (lefts (hit zs c) k (m + 1))) := by
            show _ = _
            rw [Hnx.out, if_pos ⟨hkm, by rw [Hh.out, hzc]; simp⟩, HL.out]
            unfold natInts
            simp
          have Hrd : Hid (Reads (wr.alloc (.cells #[.int .i64 (m : Int)] 3)) u9 L) := owned_reads (Ho.out.alloc _)
          have Hone : Hid ((wr.alloc (.cells #[.int .i64 (m : Int)] 3)).ownsRow w.heap.size 3 1 (.slice (some ⟨wr.heap.size, 0, none⟩) 1 1) ([(m : Int)] : List Int).length (ints [(m : Int)])) := owned_less (own_one _ _) hbs
          subst hzc
          clear Hnx Hh HL
          go_wp2_with (at_builtin; refine append_any rfl _ _ rfl w.heap.size _ u9 [(m : Int)] L rfl Hone.out rfl Hrd.out ?c2 ?c3 ?_)
          case c2 => simp; omega
          case c3 => simp; omega
          intro v' w5 hown' hgrow
          have hb5 : Below w.heap.size w w5 := (hbr.alloc hbr.size _).grown hgrow (by simp; omega) (fun j hj => by cases hj; exact hbs)
          have Ho5 : Hid (w5.ownsRow w.heap.size 3 1 v' ([(m : Int)] ++ L).length (ints ([(m : Int)] ++ L))) := hown'
          clear hown' hgrow hbr Ho Hrd Hone
          go_wp2_with fail
          go_roundw
          case rel => exact ⟨m + 1, [(m : Int)] ++ L, by go_num, by omega, Hn.out, by simp; omega, Ho5.out, hb5⟩
          case measure => simp [intOf]; omega
        · have hkI : (k : Int) ≤ (m : Int) := by omega
          have Hn : Hid (L = natInts (lefts (hit zs c) k (m + 1))) := by
            show _ = _
            rw [Hnx.out, if_neg (by omega), HL.out]
          subst hzc
          clear Hnx Hh HL
          go_wp2_with fail
          go_roundw
          case rel => exact ⟨m + 1, L, by go_num, by omega, Hn.out, by omega, Ho.out, hbr⟩
          case measure => simp [intOf]; omega
      · have hzb : (z == c) = false := by simpa using hzc
        have Hn : Hid (L = natInts (lefts (hit zs c) k (m + 1))) := by
          show _ = _
          rw [Hnx.out, if_neg (by rw [Hh.out, hzb]; simp), HL.out]
        clear Hnx Hh HL hzc
        go_wp2_with fail
        go_roundw
        case rel => exact ⟨m + 1, L, by go_num, by omega, Hn.out, by omega, Ho.out, hbr⟩
        case measure => simp [intOf]; omega
    · obtain rfl : m = zs.length := by omega
      go_wp2_with fail
      all_goals (
        go_ret
        exact ⟨hbr, _, rfl, by rw [← HL.out]; exact owned_reads Ho.out⟩)
end Go.Proofs.Ytobcohgfpbmahaa.Seek
