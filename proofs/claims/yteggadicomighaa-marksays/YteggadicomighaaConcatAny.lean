/- Appends whose run is known. -/
import Derived.Test.YteggadicomighaaOwns
import Derived.Deep.DeepAppendRoom
import Derived.Lib.AppendZerosOnto
set_option linter.unusedVariables false
set_option linter.unusedSimpArgs false
namespace Go.Proofs.Yteggadicomighaa.Seek
open Go.RowKit

/-- An append whose run is known. -/
theorem wpList_append_run {w : World} {ops : Array Oper} {rest : List Oper} {o : Oper} {a : Act} {Q : Exit → Act → World → Prop} (hgd : o.guard = none) (s x : Operand) (t1 t2 : TypeId)
    (ho : o.op = .call { callee := .builtin .append, args := #[s, x], argTypes := #[t1, t2] }) (u1 u2 v : Value) (w' : World) (hs : a.eval s = u1) (hx : a.eval x = u2)
    (hr : ∀ ty, (Builtin.append_ #[t1, t2] ty #[u1, u2]).run Try.prog w = .ok v w') (h : wpList Try.prog ops Q rest (a.put o.dst v) w') : wpList Try.prog ops Q (o :: rest) a w :=
  wpList_plain hgd fun _ hK => by
    unfold Oper.wp execOp
    simp only [ho, resolve, invoke, builtin, Sem.run_bind, Sem.run_pure, Result.andThen_ok, List.map_toArray, List.map_cons, List.map_nil, hs, hx, hr]
    exact hK _ _ h
/-- An append of nothing. -/
theorem run_append_zero (w : World) (d : Option Addr) (n cap : Nat) (a : Option Addr) (c : Nat) (hn : n ≤ cap) (ty : TypeId) : (Builtin.append_ #[35, 35] ty #[.slice d n cap, .slice a 0 c]).run Try.prog w = .ok (.slice d n cap) w := by
  obtain ⟨i0, hi, hz0, hz1, hz2⟩ := info_parts info3
  cases d <;> cases a <;> simp [Builtin.append_, go_sem, run_underlying Try.underlying35, Go.sizeOf, typeInfo, hi, Builtin.lenOf, Builtin.firstCells, hn, storeCells]

/-- Some numbers behind an owned row that has room for them. -/
theorem append_reads {w : World} {ops : Array Oper} {rest : List Oper} {o : Oper} {a : Act} {Q : Exit → Act → World → Prop} (hgd : o.guard = none) (s x : Operand)
    (ho : o.op = .call { callee := .builtin .append, args := #[s, x], argTypes := #[35, 35] }) (B g cap : Nat) (v2 : Value) (xs ys : List Int)
    (hs : a.eval s = .slice (some ⟨g, 0, none⟩) xs.length cap) (hown : w.ownsRow B 3 1 (.slice (some ⟨g, 0, none⟩) xs.length cap) xs.length (ints xs)) (hx : a.eval x = v2) (hr : Reads w v2 ys)
    (hroom : xs.length + ys.length ≤ cap)
    (h : ∀ w', w'.ownsRow B 3 1 (.slice (some ⟨g, 0, none⟩) (xs ++ ys).length cap) (xs ++ ys).length (ints (xs ++ ys)) → w.grownBy w' (some g) → wpList Try.prog ops Q rest (a.put o.dst (.slice (some ⟨g, 0, none⟩) (xs ++ ys).length cap)) w') : wpList Try.prog ops Q (o :: rest) a w := by
  obtain ⟨i0, hi, hz0, hz1, hz2⟩ := info_parts info3
  rcases hr with ⟨a2, c2, rfl, rfl⟩ | ⟨b, off, c2, rfl, _, _, _, hc⟩
  · refine wpList_append_run hgd s x 35 35 ho _ _ _ w hs hx (fun ty => run_append_zero w _ _ _ a2 c2 (by simpa using hroom) ty) ?_
    have := h w (by rw [List.append_nil]; exact hown) ⟨rfl, rfl, rfl, Nat.le_refl _, fun _ _ _ => rfl⟩
    rw [List.append_nil] at this
    exact this
  · refine wpList_append_own_spare w hgd s x 35 ho B 3 i0 1 Try.underlying35 hi hz1 g xs.length cap (ints xs) hs hown ⟨b, off, none⟩ ys.length c2 (ints ys) hx (by rw [ints_len, Nat.mul_one]) ?_ ?_ hroom ?_
    · intro j u hj
      unfold ints at hj
      rw [List.getElem?_map] at hj
      by_cases hjl : j < ys.length
      · rw [List.getElem?_eq_getElem hjl] at hj
        have h1 := hc j hjl
        rw [List.getD_eq_getElem?_getD, List.getElem?_eq_getElem hjl] at h1
        have e : (⟨b, off, none⟩ : Addr).add j = ⟨b, off + j, none⟩ := by
          simp only [Addr.add]
          split <;> simp_all
        rw [e, h1]
        simpa using hj
      · rw [List.getElem?_eq_none (by omega)] at hj
        cases hj
    · intro u hu
      unfold ints at hu
      obtain ⟨c, _, rfl⟩ := List.mem_map.1 hu
      rfl
    · intro w' h1 h2
      have e1 : ints (xs ++ ys) = ints xs ++ ints ys := by unfold ints; rw [List.map_append]
      have e2 : (xs ++ ys).length = xs.length + ys.length := List.length_append
      have := h w' (by rw [e1, e2]; exact h1) h2
      rw [e2] at this
      exact this

end Go.Proofs.Yteggadicomighaa.Seek
