/- An array of 27 slices that came in as an argument, opened. -/
import Derived.Test.YtpgjaoemkadenabOpens
import Derived.Test.YtpgjaoemkadenabRegs
import Derived.Deep.Slices
import Derived.Lib.SmallJoins
set_option linter.unusedVariables false
set_option linter.unusedSimpArgs false
set_option maxRecDepth 100000
namespace Go.Proofs.Ytpgjaoemkadenab.Seek
open Go.ChangeShapes Go.WideShapes Go.ChangeAt Go.RowKit Go.Joins Go.Deep
theorem cells22 : Try.prog.cellsOf 22 = 1 := by kernel_rfl
/-- A slice of ints in a cell, opened. -/
theorem open_cell {H : Type} {enc : TypeId × Value → H} {W : World} {fuel : Nat} {v : Value} {y : DataW H × List MemPlace}
    (hf : DataW.trod enc Try.prog W 0 (fun _ => true) true fuel 22 [v] = some y) (hlt : ∀ x ∈ y.2, x.block < W.heap.size) :
    ∃ (zs : List Int) (a : Option Addr) (cap : Nat), v = .slice a zs.length cap ∧ Reads W v zs ∧ (zs = [] ∨ ∃ es sp, y.1 = .slice es sp ∧ es.length = zs.length) := by
  rcases open_ints Try.underlying22 Try.underlying3 cells3 hf with ⟨hcs, hx⟩ | ⟨a, len, cap, zs, hcs, _, hl, hm, hz, hx, hcell, hwz⟩
  · simp at hcs
    subst hcs
    exact ⟨[], none, 0, rfl, .inl ⟨none, 0, rfl, rfl⟩, .inl rfl⟩
  · simp at hcs
    subst hcs
    subst hx
    simp only [if_true] at hz
    by_cases hl0 : len = 0
    · subst hl0
      exact ⟨[], some a, cap, rfl, .inl ⟨some a, cap, rfl, rfl⟩, .inl rfl⟩
    · obtain ⟨b, off, spot⟩ := a
      have hspot : spot = none := by simpa [Addr.add] using World.cell?_spot (hcell 0 (by omega))
      subst hspot
      have hbW : b < W.heap.size := hlt (.cell b off) (MemPlace.mem_row.2 ⟨0, by omega, by simp⟩)
      have htl : (zs.take len).length = len := by rw [List.length_take]; omega
      refine ⟨zs.take len, some ⟨b, off, none⟩, cap, by rw [htl], .inr ⟨b, off, cap, by rw [htl], by rw [htl]; exact hl, hm, hbW, fun j hj => ?_⟩, .inr ⟨_, _, rfl, by simp [lits]⟩⟩
      rw [htl] at hj
      rw [← add_plain, hcell j (by omega)]
      simp [hj]
theorem weightsAll_mem {H : Type} {P : Program} {e : TypeId} : ∀ {l : List (DataW H)} {d : DataW H}, d ∈ l → ∀ n ∈ d.weights P e, n ∈ DataW.weightsAll P e l
  | d' :: r, d, hd, n, hn => by
    simp only [DataW.weightsAll, List.mem_append]
    rcases List.mem_cons.1 hd with rfl | h
    · exact Or.inl hn
    · exact Or.inr (weightsAll_mem h n hn)
theorem open_regs {H : Type} {enc : TypeId × Value → H} {W : World} {r : Reach} {b0 : Nat} {v : Value} {d : DataW H} {p : List MemPlace}
    (hv : Value.okWide Try.prog W r b0 36 v) (h : DataW.Trod enc Try.prog W 0 (fun _ => true) true 36 v d p) (hlt : ∀ x ∈ p, x.block < W.heap.size) (hw : ∀ n ∈ d.weights Try.prog 36, n ≤ reachBytes) :
    ∃ (vs : List Value) (ts : List (List Int)), v = arr vs ∧ ReadsR W vs ts := by
  unfold Value.okWide at hv
  rw [Try.underlying36] at hv
  obtain ⟨cs, rfl, _, _⟩ := hv
  obtain ⟨fuel, hf⟩ := h
  obtain ⟨xs, m, _, hx, hl, hn, hall⟩ := DataW.trod_array Try.underlying36 hf
  have e27 : Try.prog.cellsOf 36 = 27 := by kernel_rfl
  have hcl : cs.toList.length = 27 := by
    have : (Value.cells (.agg cs)).toList.length = 27 := hl.trans e27
    simpa [Value.cells] using this
  simp only [Prod.mk.injEq] at hx
  obtain ⟨rfl, rfl⟩ := hx
  have each : ∀ i, i < 27 → ∃ zs : List Int, (∃ a c, cs.toList.getD i undef = .slice a zs.length c) ∧ Reads W (cs.toList.getD i undef) zs ∧ Mild zs := by
    intro i hi
    have hi2 := hall i hi
    rw [cells22, Nat.mul_one] at hi2
    obtain ⟨y, hy⟩ : ∃ y, xs[i]? = some y := ⟨xs[i], List.getElem?_eq_getElem (by omega)⟩
    rw [hy] at hi2
    have e1 : ((Value.agg cs).cells.toList.drop i).take 1 = [cs.toList.getD i undef] := by
      show (cs.toList.drop i).take 1 = _
      rw [List.drop_eq_getElem_cons (by omega), List.take_succ_cons, List.take_zero, List.getD_eq_getElem?_getD, List.getElem?_eq_getElem (by omega)]
      rfl
    rw [e1] at hi2
    have hym : y ∈ xs := List.mem_of_getElem? hy
    obtain ⟨zs, a, c, h1, h2, h3⟩ := open_cell hi2 (fun z hz => hlt z (List.mem_flatMap.2 ⟨y, hym, hz⟩))
    refine ⟨zs, ⟨a, c, h1⟩, h2, ?_⟩
    rcases h3 with rfl | ⟨es, sp, he, hel⟩
    · show ([] : List Int).length * 8 ≤ _; decide
    · have := hw ((es.length + sp.length) * Try.prog.bytesOf 3) (by
        simp only [DataW.weights, Try.underlying36]
        refine weightsAll_mem (d := y.1) (List.mem_map.2 ⟨y, hym, rfl⟩) _ ?_
        rw [he]
        simp [DataW.weights, Try.underlying22])
      rw [bytes3] at this
      simp only [reachBytes] at this
      unfold Mild
      omega
  obtain ⟨q, hq⟩ := choose_lt (α := List Int) each
  refine ⟨cs.toList, (List.range 27).map q, by unfold arr; simp, ⟨hcl, fun v hv => ?_⟩, by simp, fun i hi => ?_⟩
  · obtain ⟨i, hi, rfl⟩ := List.getElem_of_mem hv
    obtain ⟨⟨a, c, e⟩, _⟩ := hq i (by omega)
    rw [List.getD_eq_getElem?_getD, List.getElem?_eq_getElem hi] at e
    exact ⟨a, _, c, e⟩
  · have e : ((List.range 27).map q).getD i [] = q i := by
      rw [List.getD_eq_getElem?_getD]
      simp [hi]
    rw [e]
    exact (hq i hi).2
end Go.Proofs.Ytpgjaoemkadenab.Seek
