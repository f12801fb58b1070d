/- Rows of commands of the call's own; one command more. -/
import Derived.Test.YtjpgjhdkgmddfaaDoorFives
import Derived.OwnWalk
import Derived.Maps.AppendAt
import Derived.Laws.OwnMore
set_option linter.unusedVariables false
set_option linter.unusedSimpArgs false
namespace Go.Proofs.YtjpgjhdkgmddfaaDoor.Seek
open Go.RowKit Plain
theorem infoC : (Tryd.prog.info? 24).map (fun i => (i.zero, i.size, i.bytes)) = some (some (fv zer), 5, 40) := by kernel_rfl
/-- The cells of commands. -/
def cmdCells : List Five → List Value
  | [] => []
  | c :: r => .int .i64 c.1 :: .int .i64 c.2.1 :: .int .i64 c.2.2.1 :: .int .i64 c.2.2.2.1 :: .int .i64 c.2.2.2.2 :: cmdCells r
theorem cmdCells_len : ∀ cs : List Five, (cmdCells cs).length = cs.length * 5
  | [] => rfl
  | c :: r => by
    unfold cmdCells
    simp only [List.length_cons, cmdCells_len r]
    omega
theorem cmdCells_cons (c : Five) (r : List Five) : cmdCells (c :: r) = .int .i64 c.1 :: .int .i64 c.2.1 :: .int .i64 c.2.2.1 :: .int .i64 c.2.2.2.1 :: .int .i64 c.2.2.2.2 :: cmdCells r := rfl
theorem cmdCells_more : ∀ (cs ds : List Five), cmdCells (cs ++ ds) = cmdCells cs ++ cmdCells ds
  | [], _ => rfl
  | c :: r, ds => by
    rw [List.cons_append, cmdCells_cons, cmdCells_cons, cmdCells_more r ds]
    rfl
theorem cmdCells_at : ∀ (cs : List Five) (j : Nat), j < cs.length → (cmdCells cs)[j * 5]? = some (.int .i64 (cs.getD j zer).1) ∧ (cmdCells cs)[j * 5 + 1]? = some (.int .i64 (cs.getD j zer).2.1) ∧ (cmdCells cs)[j * 5 + 2]? = some (.int .i64 (cs.getD j zer).2.2.1) ∧
    (cmdCells cs)[j * 5 + 3]? = some (.int .i64 (cs.getD j zer).2.2.2.1) ∧ (cmdCells cs)[j * 5 + 4]? = some (.int .i64 (cs.getD j zer).2.2.2.2)
  | [], _, h => by cases h
  | c :: r, 0, _ => ⟨rfl, rfl, rfl, rfl, rfl⟩
  | c :: r, j + 1, h => by
    have := cmdCells_at r j (by simpa using h)
    unfold cmdCells
    rw [show (j + 1) * 5 = j * 5 + 5 by omega]
    simpa using this
theorem cmdCells_take : ∀ (cs : List Five) (n : Nat), (cmdCells cs).take (n * 5) = cmdCells (cs.take n)
  | [], n => by rw [List.take_nil]; unfold cmdCells; rw [List.take_nil]
  | c :: r, 0 => by simp [cmdCells]
  | c :: r, n + 1 => by
    have := cmdCells_take r n
    rw [List.take_succ_cons]
    unfold cmdCells
    rw [show (n + 1) * 5 = n * 5 + 5 by omega]
    simp [this]
/-- Commands of the call's own. -/
def OwnC (w : World) (B : Nat) (v : Value) (cs : List Five) : Prop := w.ownsRow B 24 5 v cs.length (cmdCells cs)
theorem ownC_nil (w : World) (B : Nat) : OwnC w B (.slice none 0 0) [] := World.ownsRow_nil _ _ _ _
theorem OwnC.lt {w : World} {B : Nat} {v : Value} {cs : List Five} (h : OwnC w B v cs) : ∀ k, v.ownBlock = some k → B ≤ k ∧ k < w.heap.size := World.ownsRow.lt h
theorem OwnC.alloc {w : World} {B : Nat} {v : Value} {cs : List Five} (h : OwnC w B v cs) (o : Obj) : OwnC (w.alloc o) B v cs := World.ownsRow.alloc h o
theorem OwnC.below {w w' : World} {B : Nat} {v : Value} {cs : List Five} (h : OwnC w B v cs) (hb : Below w.heap.size w w') : OwnC w' B v cs := by
  refine ⟨h.1, ?_⟩
  rcases h.2 with hn | ⟨g, cap, cur, hv, hB, hg, rest⟩
  · exact .inl hn
  · exact .inr ⟨g, cap, cur, hv, hB, (hb.block g (Array.getElem?_eq_some_iff.1 hg).1).trans hg, rest⟩
theorem OwnC.less {w : World} {B B' : Nat} {v : Value} {cs : List Five} (h : OwnC w B v cs) (hb : B' ≤ B) : OwnC w B' v cs := by
  refine ⟨h.1, ?_⟩
  rcases h.2 with hn | ⟨g, cap, cur, hv, hB, rest⟩
  · exact .inl hn
  · exact .inr ⟨g, cap, cur, hv, by omega, rest⟩
/-- A store into a variable ahead of the row. -/
theorem OwnC.row {w : World} {B g : Nat} {v : Value} {cs : List Five} (h : OwnC w B v cs) (q : Array Value) (hg : g < B) : OwnC (w.setRow g q) B v cs := by
  refine ⟨h.1, ?_⟩
  rcases h.2 with hn | ⟨k, cap, cur, hv, hB, hk, rest⟩
  · exact .inl hn
  · exact .inr ⟨k, cap, cur, hv, hB, (setRow_other w g k q (by omega)).trans hk, rest⟩
/-- Commands that can be read. -/
def ReadsC (w : World) (v : Value) (cs : List Five) : Prop :=
  (∃ a cap, v = .slice a 0 cap ∧ cs = []) ∨
  (∃ b cap, v = .slice (some ⟨b, 0, none⟩) cs.length cap ∧ cs.length ≤ cap ∧ cap ≤ maxLen ∧ b < w.heap.size ∧ ∀ j, j < cs.length → w.cell? ⟨b, j * 5, none⟩ = some (.int .i64 (cs.getD j zer).1) ∧ w.cell? ⟨b, j * 5 + 1, none⟩ = some (.int .i64 (cs.getD j zer).2.1) ∧
    w.cell? ⟨b, j * 5 + 2, none⟩ = some (.int .i64 (cs.getD j zer).2.2.1) ∧ w.cell? ⟨b, j * 5 + 3, none⟩ = some (.int .i64 (cs.getD j zer).2.2.2.1) ∧ w.cell? ⟨b, j * 5 + 4, none⟩ = some (.int .i64 (cs.getD j zer).2.2.2.2))
theorem OwnC.reads {w : World} {B : Nat} {v : Value} {cs : List Five} (h : OwnC w B v cs) : ReadsC w v cs := by
  have h2 : w.ownsRow B 24 5 v cs.length (cmdCells cs) := h
  rcases h.2 with ⟨rfl, h0⟩ | ⟨g, cap, cur, rfl, hb, hg, hn, hm, hsz, htake⟩
  · exact .inl ⟨none, 0, rfl, List.length_eq_zero_iff.1 h0⟩
  · refine .inr ⟨g, cap, rfl, hn, hm, (Array.getElem?_eq_some_iff.1 hg).1, fun j hj => ?_⟩
    obtain ⟨e0, e1, e2, e3, e4⟩ := cmdCells_at cs j hj
    exact ⟨by rw [h2.cellAt (j * 5) (by omega), e0], by rw [h2.cellAt (j * 5 + 1) (by omega), e1], by rw [h2.cellAt (j * 5 + 2) (by omega), e2], by rw [h2.cellAt (j * 5 + 3) (by omega), e3], by rw [h2.cellAt (j * 5 + 4) (by omega), e4]⟩
theorem ReadsC.below {w w' : World} {v : Value} {cs : List Five} (h : ReadsC w v cs) (hb : Below w.heap.size w w') : ReadsC w' v cs := by
  rcases h with h | ⟨b, cap, hv, h1, h2, hlt, hc⟩
  · exact .inl h
  · exact .inr ⟨b, cap, hv, h1, h2, Nat.lt_of_lt_of_le hlt hb.size, fun j hj => by
      obtain ⟨e0, e1, e2, e3, e4⟩ := hc j hj
      exact ⟨(hb.cell (by exact hlt)).trans e0, (hb.cell (by exact hlt)).trans e1, (hb.cell (by exact hlt)).trans e2, (hb.cell (by exact hlt)).trans e3, (hb.cell (by exact hlt)).trans e4⟩⟩
theorem ReadsC.shape {w : World} {v : Value} {cs : List Five} (h : ReadsC w v cs) : ∃ a cap, v = .slice a cs.length cap := by
  rcases h with ⟨a, cap, hv, hz⟩ | ⟨b, cap, hv, _⟩
  · subst hz
    exact ⟨a, cap, hv⟩
  · exact ⟨_, cap, hv⟩
/-- One command more. -/
theorem append_cmd {w : World} {ops : Array Oper} {rest : List Oper} {o : Oper} {a : Act} {Q : Exit → Act → World → Prop} (hgd : o.guard = none) (s x : Operand)
    (ho : o.op = .call { callee := .builtin .append, args := #[s, x], argTypes := #[25, 25] }) (B : Nat) (v : Value) (cs : List Five) (c : Five) (g0 c0 : Nat) (cs' : List Five) (he : cs' = cs ++ [c])
    (hs : a.eval s = v) (hown : OwnC w B v cs) (hx : a.eval x = .slice (some ⟨g0, 0, none⟩) 1 c0) (hbox : BoxF w 24 g0 c) (hle : (cs.length + 1) * 40 ≤ 140737488355328) (hB : B ≤ w.heap.size)
    (h : ∀ v' w', OwnC w' B v' cs' → w.grownBy w' v.ownBlock → (v'.ownBlock = v.ownBlock ∨ v'.ownBlock = some w.heap.size) → wpList Tryd.prog ops Q rest (a.put o.dst v') w') : wpList Tryd.prog ops Q (o :: rest) a w := by
  subst he
  obtain ⟨i0, hi, hz0, hz1, hz2⟩ := info_parts infoC
  have hnews : ∀ j u, ([.int .i64 c.1, .int .i64 c.2.1, .int .i64 c.2.2.1, .int .i64 c.2.2.2.1, .int .i64 c.2.2.2.2] : List Value)[j]? = some u → w.cell? ((⟨g0, 0, none⟩ : Addr).add j) = some u := by
    intro j u hj
    match j, hj with
    | 0, hj => simp at hj; subst hj; exact hbox.c0
    | 1, hj => simp at hj; subst hj; exact hbox.c1
    | 2, hj => simp at hj; subst hj; exact hbox.c2
    | 3, hj => simp at hj; subst hj; exact hbox.c3
    | 4, hj => simp at hj; subst hj; exact hbox.c4
    | j + 5, hj => simp at hj
  have hone : ∀ u ∈ ([.int .i64 c.1, .int .i64 c.2.1, .int .i64 c.2.2.1, .int .i64 c.2.2.2.1, .int .i64 c.2.2.2.2] : List Value), u.oneCell' = true := by
    intro u hu
    simp at hu
    rcases hu with rfl | rfl | rfl | rfl | rfl <;> rfl
  refine wpList_append_own_at w hgd s x 25 ho B 24 i0 (fv zer) 5 40 Tryd.underlying25 hi hz0 hz1 hz2 rfl (by decide) v cs.length (cmdCells cs) hs hown ⟨g0, 0, none⟩ 1 c0 _ hx rfl hnews hone (by unfold maxLen; omega) (by omega) hB ?_
  intro v' w' h1 h2 _ h4
  refine h v' w' ?_ h2 h4
  unfold OwnC
  rw [cmdCells_more, List.length_append]
  exact h1
end Go.Proofs.YtjpgjhdkgmddfaaDoor.Seek
