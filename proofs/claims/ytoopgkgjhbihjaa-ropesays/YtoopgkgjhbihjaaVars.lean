/- Variables that hold ropes; Of in one form. -/
import Derived.Test.YtoopgkgjhbihjaaJoinGo
import Derived.Test.YtoopgkgjhbihjaaSmallGo
set_option linter.unusedVariables false
set_option linter.unusedSimpArgs false
namespace Go.Proofs.Ytoopgkgjhbihjaa.Seek
open Go.RowKit

/-- The variable in block b is the rope of zs. -/
def RV (w : World) (b : Nat) (p : Option Addr) (zs : List Int) : Prop := Boxed w b 25 (.pointer p) ∧ Tree w w.heap.size p zs
theorem RV.next {w w' : World} {b : Nat} {p : Option Addr} {zs : List Int} (h : RV w b p zs) (hb : Below w.heap.size w w') : RV w' b p zs := ⟨boxed_size h.1 hb, tree_next h.2 hb⟩
theorem RV.new {w : World} {p : Option Addr} {zs : List Int} (h : Tree w w.heap.size p zs) : RV (w.alloc (.cells #[.pointer p] 25)) w.heap.size p zs := ⟨Boxed.new w 25 _, tree_alloc h _⟩
theorem RV.alloc {w : World} {b : Nat} {p : Option Addr} {zs : List Int} (h : RV w b p zs) (o : Obj) : RV (w.alloc o) b p zs := h.next (below_alloc w o)
theorem RV.cell {w : World} {b : Nat} {p : Option Addr} {zs : List Int} (h : RV w b p zs) : w.cell? ⟨b, 0, none⟩ = some (.pointer p) := h.1.cell
theorem RV.lt {w : World} {b : Nat} {p : Option Addr} {zs : List Int} (h : RV w b p zs) : b < w.heap.size := h.1.lt
theorem below_draws (w : World) (q : Nat) : Below w.heap.size w (w.drewN q) := below_drewN (Below.refl _ _) q

/-- What Of answers, in one form. -/
def OfPost (l : List Int) (w : World) (e : Ending) (w' : World) : Prop :=
  Below w.heap.size w w' ∧ ∃ (p : Option Addr) (er : Int) (zs : List Int), e = .returned (.tuple #[.agg #[.pointer p], .int .i64 er]) ∧ Tree w' w'.heap.size p zs ∧ ((l.length ≤ 4096 ∧ er = 0 ∧ zs = l) ∨ (4096 < l.length ∧ er = 2 ∧ zs = []))
theorem of_one (l : List Int) (v : Value) (w : World) (hm : l.length ≤ maxLen) (h : Reads w v l) : Calls Try.prog 9 #[v] w fun e w' => OfPost l w e w' := by
  refine (of_any l v w hm h).mono ?_
  rintro e w' ⟨hb, p, rfl, ht⟩
  refine ⟨hb, p, _, _, rfl, ht, ?_⟩
  unfold ofErr ofList
  by_cases hl : l.length ≤ 4096
  · rw [if_pos hl, if_pos hl]
    exact .inl ⟨hl, rfl, rfl⟩
  · rw [if_neg hl, if_neg hl]
    exact .inr ⟨by omega, rfl, rfl⟩
theorem ofList_le (l : List Int) : (ofList l).length ≤ 4096 := by
  unfold ofList
  by_cases hl : l.length ≤ 4096
  · rw [if_pos hl]
    exact hl
  · rw [if_neg hl]
    simp
theorem putList_le (f t : Int) (zs ys : List Int) (hm : zs.length ≤ 4096) : (putList f t zs ys).length ≤ 4096 := by
  unfold putList
  by_cases h : hasB f t zs.length = true
  · obtain ⟨h0, h1, h2⟩ := hasB_true h
    rw [if_pos h]
    by_cases hl : (zs.length : Int) - (t - f) + (ys.length : Int) ≤ 4096
    · rw [if_pos hl, List.length_append, List.length_append, List.length_take, List.length_drop]
      omega
    · rw [if_neg hl]
      simp
  · rw [if_neg h]
    simp
theorem joinList_le (zs ys : List Int) : (joinList zs ys).length ≤ 4096 := by
  unfold joinList
  by_cases hl : zs.length + ys.length ≤ 4096
  · rw [if_pos hl, List.length_append]
    exact hl
  · rw [if_neg hl]
    simp
/-- What Split answers, in one form. -/
def spOk (k : Int) (n : Nat) : Bool := decide (0 ≤ k) && decide (k ≤ (n : Int))
def SplitPost (zs : List Int) (k : Int) (w : World) (e : Ending) (w' : World) : Prop :=
  ∃ (xs ys : List Int) (er : Int), TwoErr xs ys er w e w' ∧ ((spOk k zs.length = true ∧ er = 0 ∧ xs = zs.take k.toNat ∧ ys = zs.drop k.toNat) ∨ (spOk k zs.length = false ∧ er = 1 ∧ xs = [] ∧ ys = []))
theorem split_any (p : Option Addr) (zs : List Int) (k : Int) (w : World) (hm : zs.length ≤ 4096) (h : Tree w w.heap.size p zs) : Calls Try.prog 14 #[.agg #[.pointer p], .int .i64 k] w fun e w' => SplitPost zs k w e w' := by
  by_cases hk : spOk k zs.length = true
  · have hk' := hk
    unfold spOk at hk'
    simp at hk'
    obtain ⟨k, rfl⟩ : ∃ n : Nat, k = n := ⟨k.toNat, by omega⟩
    refine (split_in p zs k w hm (by omega) h).mono ?_
    intro e w' h'
    exact ⟨_, _, _, h', .inl ⟨hk, rfl, by rw [Int.toNat_natCast], by rw [Int.toNat_natCast]⟩⟩
  · have hk' := hk
    unfold spOk at hk'
    simp at hk'
    refine (split_out p zs k w (by omega) h).mono ?_
    intro e w' h'
    exact ⟨_, _, _, h', .inr ⟨by simpa using hk, rfl, rfl, rfl⟩⟩
/-- What Slice answers, in one form. -/
def slErr (f t : Int) (n : Nat) : Int := if hasB f t n then 0 else 1
def slList (f t : Int) (zs : List Int) : List Int := if hasB f t zs.length then (zs.drop f.toNat).take (t.toNat - f.toNat) else []
theorem slice_any (p : Option Addr) (zs : List Int) (f t : Int) (w : World) (hm : zs.length ≤ 4096) (h : Tree w w.heap.size p zs) :
    Calls Try.prog 17 #[.agg #[.pointer p], .int .i64 f, .int .i64 t] w fun e w' => RopeErr (slList f t zs) (slErr f t zs.length) w e w' := by
  unfold slErr slList
  by_cases hh : hasB f t zs.length = true
  · rw [if_pos hh, if_pos hh]
    obtain ⟨h0, h1, h2⟩ := hasB_true hh
    obtain ⟨f, rfl⟩ : ∃ k : Nat, f = k := ⟨f.toNat, by omega⟩
    obtain ⟨t, rfl⟩ : ∃ k : Nat, t = k := ⟨t.toNat, by omega⟩
    exact slice_in p zs f t w hm (by omega) (by omega) h
  · rw [if_neg hh, if_neg hh]
    exact slice_out p zs f t w (by simpa using hh) h
theorem slList_le (f t : Int) (zs : List Int) (hm : zs.length ≤ 4096) : (slList f t zs).length ≤ 4096 := by
  unfold slList
  by_cases h : hasB f t zs.length = true
  · rw [if_pos h, List.length_take, List.length_drop]
    omega
  · rw [if_neg h]
    simp
end Go.Proofs.Ytoopgkgjhbihjaa.Seek
