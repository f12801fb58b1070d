/- A slice of splices that came in as an argument, opened. -/
import Derived.Test.YteggadicomighaaOpens
import Derived.Test.YteggadicomighaaMemory
import Derived.Deep.Slices
import Derived.Lib.SmallJoins
set_option linter.unusedVariables false
set_option linter.unusedSimpArgs false
namespace Go.Proofs.Yteggadicomighaa.Seek
open Go.ChangeShapes Go.WideShapes Go.ChangeAt Go.RowKit Go.Joins Go.Deep Plain
theorem cells41 : Try.prog.cellsOf 37 = 3 := by kernel_rfl
theorem cells22 : Try.prog.cellsOf 35 = 1 := by kernel_rfl
theorem bytes41 : Try.prog.bytesOf 37 = 40 := by kernel_rfl
/-- A slice of ints in a cell, opened. -/
theorem open_cell {H : Type} {enc : TypeId × Value → H} {W : World} {fuel : Nat} {v : Value} {y : DataW H × List MemPlace}
    (hf : DataW.trod enc Try.prog W 0 (fun _ => true) true fuel 35 [v] = some y) (hlt : ∀ x ∈ y.2, x.block < W.heap.size) :
    ∃ (zs : List Int) (a : Option Addr) (cap : Nat), v = .slice a zs.length cap ∧ Reads W v zs ∧ (zs = [] ∨ ∃ es sp, y.1 = .slice es sp ∧ es.length = zs.length) := by
  rcases open_ints Try.underlying35 Try.underlying3 cells3 hf with ⟨hcs, hx⟩ | ⟨a, len, cap, zs, hcs, _, hl, hm, hz, hx, hcell, hwz⟩
  · simp at hcs
    subst hcs
    exact ⟨[], none, 0, rfl, .inl ⟨none, 0, rfl, rfl⟩, .inl rfl⟩
  · simp at hcs
    subst hcs
    subst hx
    simp only [if_true] at hz
    by_cases hl0 : len = 0
    · subst hl0
      exact ⟨[], some a, cap, rfl, .inl ⟨some a, cap, rfl, rfl⟩, .inl rfl⟩
    · obtain ⟨b, off, spot⟩ := a
      have hspot : spot = none := by simpa [Addr.add] using World.cell?_spot (hcell 0 (by omega))
      subst hspot
      have hbW : b < W.heap.size := hlt (.cell b off) (MemPlace.mem_row.2 ⟨0, by omega, by simp⟩)
      have htl : (zs.take len).length = len := by rw [List.length_take]; omega
      refine ⟨zs.take len, some ⟨b, off, none⟩, cap, by rw [htl], .inr ⟨b, off, cap, by rw [htl], by rw [htl]; exact hl, hm, hbW, fun j hj => ?_⟩, .inr ⟨_, _, rfl, by simp [lits]⟩⟩
      rw [htl] at hj
      rw [← add_plain, hcell j (by omega)]
      simp [hj]
theorem weightsAll_mem {H : Type} {P : Program} {e : TypeId} : ∀ {l : List (DataW H)} {d : DataW H}, d ∈ l → ∀ n ∈ d.weights P e, n ∈ DataW.weightsAll P e l
  | d' :: r, d, hd, n, hn => by
    simp only [DataW.weightsAll, List.mem_append]
    rcases List.mem_cons.1 hd with rfl | h
    · exact Or.inl hn
    · exact Or.inr (weightsAll_mem h n hn)
/-- A slice of splices that came in, opened. -/
theorem open_edit {H : Type} {enc : TypeId × Value → H} {W : World} {a0 : Option Addr} {len cap : Nat} {d0 : DataW H} {p0 : List MemPlace}
    (h0 : DataW.Trod enc Try.prog W 0 (fun _ => true) true 22 (.slice a0 len cap) d0 p0) (hlt : ∀ x ∈ p0, x.block < W.heap.size) (hw : ∀ n ∈ d0.weights Try.prog 22, n ≤ reachBytes) :
    ∃ es : List Spl, ReadsE W (.slice a0 len cap) es ∧ es.length * 40 ≤ 140737488351232 := by
  obtain ⟨fuel, hf⟩ := h0
  rcases open_slice Try.underlying22 hf with ⟨hcs, hx⟩ | ⟨a, len', cap', m, n, D, Pl, hcs, _, hl, hm, hmm, hx, hel⟩
  · simp [Value.cells] at hcs
    obtain ⟨rfl, rfl, rfl⟩ := hcs
    exact ⟨[], .inl ⟨none, 0, rfl, rfl⟩, by decide⟩
  · simp [Value.cells] at hcs
    obtain ⟨rfl, rfl, rfl⟩ := hcs
    simp only [Prod.mk.injEq] at hx
    obtain ⟨rfl, rfl⟩ := hx
    simp only [if_true] at hmm
    subst hmm
    rw [cells41] at hel hlt
    have hsz : len * 40 ≤ 140737488351232 := by
      have := hw ((((List.range len).map D).length + ((List.range (m - len)).map fun j => D (len + j)).length) * Try.prog.bytesOf 37) (by simp [DataW.weights, Try.underlying22])
      rw [bytes41] at this
      simp only [List.length_map, List.length_range, reachBytes] at this
      omega
    by_cases hl0 : len = 0
    · subst hl0
      exact ⟨[], .inl ⟨some a, m, rfl, rfl⟩, by decide⟩
    have each : ∀ i, i < len → ∃ s : Spl, ∃ v2 : Value, W.cell? (a.add (i * 3)) = some (.int .i64 s.1) ∧ W.cell? (a.add (i * 3 + 1)) = some (.int .i64 s.2.1) ∧ W.cell? (a.add (i * 3 + 2)) = some v2 ∧ Mild s.2.2 ∧ (∃ a cap, v2 = .slice a s.2.2.length cap) ∧ Reads W v2 s.2.2 := by
      intro i hi
      obtain ⟨cs', h1, h2⟩ := hel i (by omega)
      obtain ⟨_, hlen, hcell⟩ := World.cells?_some h1
      obtain ⟨xs, k, hk, hxy, _, hxl, hff⟩ := DataW.trod_struct Try.underlying37 h2
      match xs, hxl, cs', hlen with
      | [y0, y1, y2], _, [v0, v1, v2], _ =>
        have g0 := hff 0 _ rfl
        have g1 := hff 1 _ rfl
        have g2 := hff 2 _ rfl
        simp [cells3, cells22] at g0 g1 g2
        have e0 := hcell 0 (by omega)
        have e1 := hcell 1 (by omega)
        have e2 := hcell 2 (by omega)
        rw [add_add] at e0 e1 e2
        simp only [Prod.mk.injEq] at hxy
        obtain ⟨x, q0, _, _⟩ := DataW.trod_int Try.underlying3 g0
        obtain ⟨y, q1, _, _⟩ := DataW.trod_int Try.underlying3 g1
        simp at q0 q1
        subst q0 q1
        have hpl : ∀ z ∈ y2.2, z.block < W.heap.size := fun z hz => hlt z (List.mem_append_right _ (List.mem_flatMap.2 ⟨i, List.mem_range.2 (by omega), by rw [hxy.2]; simp; exact .inr (.inr hz)⟩))
        obtain ⟨zs, a3, cap3, hv2, hrd, hcase⟩ := open_cell g2 hpl
        have hmild : Mild zs := by
          rcases hcase with rfl | ⟨es, sp, he, hel2⟩
          · show ([] : List Int).length * 8 ≤ 140737488351232; decide
          · have hin : (es.length + sp.length) * Try.prog.bytesOf 3 ∈ DataW.weights Try.prog 22 (.slice ((List.range len).map D) ((List.range (m - len)).map fun j => D (len + j))) := by
              simp only [DataW.weights, Try.underlying22, List.mem_cons, List.mem_append]
              refine Or.inr (Or.inl (weightsAll_mem (d := D i) (List.mem_map.2 ⟨i, List.mem_range.2 hi, rfl⟩) _ ?_))
              rw [hxy.1]
              simp [DataW.weights, Try.underlying37, DataW.weightsEach, he, Try.underlying35]
            have := hw _ hin
            rw [bytes3] at this
            simp only [reachBytes] at this
            unfold Mild
            omega
        exact ⟨(x, y, zs), v2, by simpa using e0, by simpa using e1, by simpa using e2, hmild, ⟨a3, cap3, hv2⟩, hrd⟩
    obtain ⟨b, off, spot⟩ := a
    have hspot : spot = none := by
      obtain ⟨s, v2, h1, _⟩ := each 0 (by omega)
      simpa [Addr.add] using World.cell?_spot h1
    subst hspot
    have hbW : b < W.heap.size := hlt (.cell b off) (List.mem_append_left _ (MemPlace.mem_row.2 ⟨0, by omega, by simp⟩))
    obtain ⟨q, hq⟩ := choose_lt (α := Spl) each
    have hql : ((List.range len).map q).length = len := by simp
    refine ⟨(List.range len).map q, .inr ⟨b, off, m, by rw [hql], by rw [hql]; exact hl, hm, hbW, fun j hj => ?_⟩, by rw [hql]; exact hsz⟩
    rw [hql] at hj
    have e : ((List.range len).map q).getD j spl0 = q j := by
      rw [List.getD_eq_getElem?_getD]
      simp [hj]
    rw [e]
    obtain ⟨v2, h1, h2, h3, h4, ⟨a3, cap3, h5⟩, h6⟩ := hq j hj
    rw [add_plain] at h1 h2 h3
    subst h5
    exact ⟨h1, by rw [Nat.add_assoc]; exact h2, h4, a3, cap3, by rw [Nat.add_assoc]; exact h3, h6⟩
end Go.Proofs.Yteggadicomighaa.Seek
