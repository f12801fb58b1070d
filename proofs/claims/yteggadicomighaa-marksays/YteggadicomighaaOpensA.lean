/- An array of 26 ints that came in as an argument, opened. -/
import Derived.Test.YteggadicomighaaOpens
import Derived.Test.YteggadicomighaaArrays
set_option linter.unusedVariables false
set_option linter.unusedSimpArgs false
namespace Go.Proofs.Yteggadicomighaa.Seek
open Go.ChangeShapes Go.WideShapes Go.ChangeAt Go.RowKit
theorem open_marks {H : Type} {enc : TypeId × Value → H} {W : World} {r : Reach} {b0 : Nat} {v : Value} {d : DataW H} {p : List MemPlace} {base : Nat} {spare : Nat → Bool} {held : Bool}
    (hv : Value.okWide Try.prog W r b0 24 v) (h : DataW.Trod enc Try.prog W base spare held 24 v d p) :
    ∃ ms : List Int, v = arr ms ∧ ms.length = 26 ∧ p = [] := by
  unfold Value.okWide at hv
  rw [Try.underlying24] at hv
  obtain ⟨cs, rfl, _, _⟩ := hv
  obtain ⟨fuel, hf⟩ := h
  obtain ⟨xs, m, _, hx, hl, hn, hall⟩ := DataW.trod_array Try.underlying24 hf
  have e26 : Try.prog.cellsOf 24 = 26 := by kernel_rfl
  have hcl : cs.toList.length = 26 := by
    have : (Value.cells (.agg cs)).toList.length = 26 := hl.trans e26
    simpa [Value.cells] using this
  have each : ∀ i, i < 26 → ∃ n : Int, cs.toList[i]? = some (.int .i64 n) ∧ ∃ y, xs[i]? = some y ∧ y.2 = [] := by
    intro i hi
    have hi2 := hall i hi
    rw [cells3, Nat.mul_one] at hi2
    obtain ⟨y, hy⟩ : ∃ y, xs[i]? = some y := ⟨xs[i], List.getElem?_eq_getElem (by omega)⟩
    rw [hy] at hi2
    obtain ⟨n, hc, rfl, _⟩ := DataW.trod_int Try.underlying3 hi2
    refine ⟨n, ?_, _, hy, rfl⟩
    have hc2 : (cs.toList.drop i).take 1 = [.int .i64 n] := by simpa [Value.cells] using hc
    have := congrArg (·[0]?) hc2
    simpa [List.getElem?_take, List.getElem?_drop] using this
  have hp : p = [] := by
    simp only [Prod.mk.injEq] at hx
    rw [hx.2, List.flatMap_eq_nil_iff]
    intro y hy
    obtain ⟨i, hi, rfl⟩ := List.getElem_of_mem hy
    obtain ⟨_, _, z, hz, hz2⟩ := each i (by omega)
    rw [List.getElem?_eq_getElem hi] at hz
    have := Option.some.inj hz
    rw [this]
    exact hz2
  refine ⟨cs.toList.map intOf, ?_, by rw [List.length_map]; exact hcl, hp⟩
  unfold arr
  congr 1
  apply Array.ext'
  rw [List.toList_toArray]
  unfold ints
  rw [List.map_map]
  apply List.ext_getElem?
  intro i
  rw [List.getElem?_map]
  by_cases hi : i < 26
  · obtain ⟨n, hn, _⟩ := each i hi
    rw [hn]
    rfl
  · rw [List.getElem?_eq_none (by omega)]
    rfl
end Go.Proofs.Yteggadicomighaa.Seek
