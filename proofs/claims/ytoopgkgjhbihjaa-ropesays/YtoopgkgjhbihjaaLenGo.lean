/- The contracts of rope.lay, Of, Len, Tall, has, At. -/
import Derived.Test.YtoopgkgjhbihjaaBoxes
set_option linter.unusedVariables false
set_option linter.unusedSimpArgs false
namespace Go.Proofs.Ytoopgkgjhbihjaa.Seek
open Go.RowKit

/-- A rope: the value, and its numbers. -/
def RopePost (zs : List Int) (w : World) (e : Ending) (w' : World) : Prop := Below w.heap.size w w' ∧ ∃ p, e = .returned (.agg #[.pointer p]) ∧ Tree w' w'.heap.size p zs
theorem lay_any (zs : List Int) (v : Value) (w : World) (hm : zs.length ≤ 4096) (h : Reads w v zs) : Calls Try.prog 24 #[v] w fun e w' => RopePost zs w e w' := by
  obtain ⟨a, cap, hv⟩ := h.shape
  subst hv
  have H : Hid (∀ w1, Below w.heap.size w w1 → Calls Try.prog 32 #[.slice a zs.length cap] w1 fun e w' => TreePost zs w1 e w') := fun w1 hb => tree_any _ zs _ w1 (Nat.le_refl _) hm (h.below hb)
  clear h
  go_enter Try.func24, Try.ntmps24
  go_wp2_with fail
  refine (H.out _ ?_).mono ?_
  · exact below_alloc _ _
  rintro e w1 ⟨hb1, p, rfl, ht⟩
  have hbx := boxed_new hb1
  have hc := hbx.cell
  have hf := hbx.frozen
  have hB : Below w.heap.size w w1 := below_trans (below_alloc _ _) hb1 (by rw [size_alloc]; omega)
  go_wp2_with fail
  have hbx2 := hbx.set (.pointer p)
  have hc2 := hbx2.cell
  exact bodyPost_ret (v := .agg #[.pointer p]) (by simp [results, Try.results24, go_sem, hc2]) rfl ⟨hB.setCell (p := ⟨w.heap.size, 0, none⟩) (Nat.le_refl _) _, p, rfl, tree_set ht hbx _⟩

/-- A rope and an error. -/
def RopeErr (zs : List Int) (er : Int) (w : World) (e : Ending) (w' : World) : Prop := Below w.heap.size w w' ∧ ∃ p, e = .returned (.tuple #[.agg #[.pointer p], .int .i64 er]) ∧ Tree w' w'.heap.size p zs
theorem of_small (zs : List Int) (v : Value) (w : World) (hm : zs.length ≤ 4096) (h : Reads w v zs) : Calls Try.prog 9 #[v] w fun e w' => RopeErr zs 0 w e w' := by
  obtain ⟨a, cap, hv⟩ := h.shape
  subst hv
  have H : Hid (∀ w1, Below w.heap.size w w1 → Calls Try.prog 24 #[.slice a zs.length cap] w1 fun e w' => RopePost zs w1 e w') := fun w1 hb => lay_any zs _ w1 hm (h.below hb)
  clear h
  go_enter Try.func9, Try.ntmps9
  go_wp2_with fail
  refine (H.out _ ?_).mono ?_
  · exact below_alloc _ _
  rintro e w1 ⟨hb1, p, rfl, ht⟩
  have hbx := boxed_new hb1
  have hc := hbx.cell
  have hf := hbx.frozen
  have hB : Below w.heap.size w w1 := below_trans (below_alloc _ _) hb1 (by rw [size_alloc]; omega)
  go_wp2_with fail
  have hbx2 := hbx.set (.pointer p)
  have hc2 := hbx2.cell
  exact bodyPost_ret (v := .tuple #[.agg #[.pointer p], .int .i64 0]) (by simp [results, Try.results9, go_sem, hc2]) rfl ⟨hB.setCell (p := ⟨w.heap.size, 0, none⟩) (Nat.le_refl _) _, p, rfl, tree_set ht hbx _⟩
theorem of_large (a : Option Addr) (n cap : Nat) (w : World) (hm : 4096 < n) (hn : n ≤ maxLen) : Calls Try.prog 9 #[.slice a n cap] w fun e w' => RopeErr [] 2 w e w' := by
  unfold maxLen at hn
  go_enter Try.func9, Try.ntmps9
  go_wp2_with fail
  exact bodyPost_ret (v := .tuple #[.agg #[.pointer none], .int .i64 2]) (by simp [results, Try.results9, go_sem]) rfl ⟨below_alloc _ _, none, rfl, tree_none _ _⟩
/-- What Of answers. -/
def ofErr (n : Nat) : Int := if n ≤ 4096 then 0 else 2
def ofList (zs : List Int) : List Int := if zs.length ≤ 4096 then zs else []
theorem of_any (zs : List Int) (v : Value) (w : World) (hm : zs.length ≤ maxLen) (h : Reads w v zs) : Calls Try.prog 9 #[v] w fun e w' => RopeErr (ofList zs) (ofErr zs.length) w e w' := by
  unfold ofErr ofList
  by_cases hl : zs.length ≤ 4096
  · rw [if_pos hl, if_pos hl]
    exact of_small zs v w hl h
  · rw [if_neg hl, if_neg hl]
    obtain ⟨a, cap, rfl⟩ := h.shape
    exact of_large a _ cap w (by omega) hm

theorem len_any (p : Option Addr) (zs : List Int) (w : World) (h : Tree w w.heap.size p zs) : Calls Try.prog 10 #[.agg #[.pointer p]] w fun e w' => e = .returned (.int .i64 (zs.length : Int)) ∧ w' = w.alloc (.cells #[.pointer p] 25) := by
  have H : Hid (∀ o : Obj, Calls Try.prog 25 #[.pointer p] (w.alloc o) fun e w' => e = .returned (.int .i64 (zs.length : Int)) ∧ w' = w.alloc o) := fun o => size_any p zs w.heap.size _ (h.below (below_alloc w o))
  clear h
  go_enter Try.func10, Try.ntmps10
  go_wp2_with fail
  refine (H.out _).mono ?_
  rintro e w1 ⟨rfl, rfl⟩
  go_wp2_with fail
  go_ret
  exact ⟨rfl, rfl⟩
theorem tallm_any (p : Option Addr) (zs : List Int) (w : World) (hm : zs.length ≤ 4096) (h : Tree w w.heap.size p zs) : Calls Try.prog 20 #[.agg #[.pointer p]] w fun e w' => e = .returned (.int .i64 (hgt zs.length : Int)) ∧ Below w.heap.size w w' := by
  have H : Hid (∀ o : Obj, Calls Try.prog 31 #[.pointer p] (w.alloc o) fun e w' => e = .returned (.int .i64 (hgt zs.length : Int)) ∧ ∃ q, w' = (w.alloc o).drewN q) := fun o => tall_any _ zs p w.heap.size _ (Nat.le_refl _) hm (h.below (below_alloc w o))
  clear h
  go_enter Try.func20, Try.ntmps20
  go_wp2_with fail
  refine (H.out _).mono ?_
  rintro e w1 ⟨rfl, q, rfl⟩
  go_wp2_with fail
  go_ret
  exact ⟨rfl, below_drewN (below_alloc _ _) q⟩

/-- Whether from and to are places of a rope of n numbers. -/
def hasB (f t : Int) (n : Nat) : Bool := decide (0 ≤ f) && decide (f ≤ t) && decide (t ≤ (n : Int))
theorem has_any (p : Option Addr) (zs : List Int) (f t : Int) (w : World) (h : Tree w w.heap.size p zs) : Calls Try.prog 30 #[.agg #[.pointer p], .int .i64 f, .int .i64 t] w fun e w' => e = .returned (.bool (hasB f t zs.length)) ∧ Below w.heap.size w w' := by
  have H : Hid (∀ o : Obj, Calls Try.prog 10 #[.agg #[.pointer p]] (w.alloc o) fun e w' => e = .returned (.int .i64 (zs.length : Int)) ∧ w' = (w.alloc o).alloc (.cells #[.pointer p] 25)) := fun o => len_any p zs _ (tree_alloc h o)
  clear h
  by_cases h1 : 0 ≤ f
  · by_cases h2 : f ≤ t
    · have Hr : Hid (hasB f t zs.length = decide (t ≤ (zs.length : Int))) := by show _ = _; unfold hasB; simp [h1, h2]
      go_enter Try.func30, Try.ntmps30
      go_wp2_with fail
      refine (H.out _).mono ?_
      rintro e w1 ⟨rfl, rfl⟩
      go_wp2_with fail
      go_ret
      exact ⟨by rw [Hr.out]; rfl, (below_alloc _ _).alloc (by rw [size_alloc]; omega) _⟩
    · have Hr : Hid (hasB f t zs.length = false) := by show _ = _; unfold hasB; simp [h2]
      go_enter Try.func30, Try.ntmps30
      go_wp2_with fail
      go_ret
      exact ⟨by rw [Hr.out]; rfl, below_alloc _ _⟩
  · have Hr : Hid (hasB f t zs.length = false) := by show _ = _; unfold hasB; simp [h1]
    go_enter Try.func30, Try.ntmps30
    go_wp2_with fail
    go_ret
    exact ⟨by rw [Hr.out]; rfl, below_alloc _ _⟩

/-- What At answers. -/
def inB (k : Int) (n : Nat) : Bool := decide (0 ≤ k) && decide (k < (n : Int))
theorem at_in (p : Option Addr) (zs : List Int) (k : Nat) (w : World) (hm : zs.length ≤ 4096) (hk : k < zs.length) (h : Tree w w.heap.size p zs) :
    Calls Try.prog 13 #[.agg #[.pointer p], .int .i64 (k : Int)] w fun e w' => e = .returned (.tuple #[.int .i64 (zs.getD k 0), .int .i64 0]) ∧ Below w.heap.size w w' := by
  have H : Hid (∀ o : Obj, Calls Try.prog 10 #[.agg #[.pointer p]] (w.alloc o) fun e w' => e = .returned (.int .i64 (zs.length : Int)) ∧ w' = (w.alloc o).alloc (.cells #[.pointer p] 25)) := fun o => len_any p zs _ (tree_alloc h o)
  have HN : Hid (∀ w1, Below w.heap.size w w1 → Calls Try.prog 28 #[.pointer p, .int .i64 (k : Int)] w1 fun e w' => e = .returned (.int .i64 (zs.getD k 0)) ∧ w' = w1) := fun w1 hb => number_any _ zs p k w.heap.size w1 (Nat.le_refl _) hm hk (h.below hb)
  clear h
  generalize zs.getD k 0 = x at *
  generalize zs.length = n at *
  go_enter Try.func13, Try.ntmps13
  go_wp2_with fail
  refine (H.out _).mono ?_
  rintro e w1 ⟨rfl, rfl⟩
  go_wp2_with fail
  refine (HN.out _ ?_).mono ?_
  · exact (below_alloc _ _).alloc (by rw [size_alloc]; omega) _
  rintro e w1 ⟨rfl, rfl⟩
  go_wp2_with fail
  go_ret2
  exact ⟨rfl, (below_alloc _ _).alloc (by rw [size_alloc]; omega) _⟩
theorem at_out (p : Option Addr) (zs : List Int) (k : Int) (w : World) (hk : k < 0 ∨ (zs.length : Int) ≤ k) (h : Tree w w.heap.size p zs) :
    Calls Try.prog 13 #[.agg #[.pointer p], .int .i64 k] w fun e w' => e = .returned (.tuple #[.int .i64 0, .int .i64 1]) ∧ Below w.heap.size w w' := by
  have H : Hid (∀ o : Obj, Calls Try.prog 10 #[.agg #[.pointer p]] (w.alloc o) fun e w' => e = .returned (.int .i64 (zs.length : Int)) ∧ w' = (w.alloc o).alloc (.cells #[.pointer p] 25)) := fun o => len_any p zs _ (tree_alloc h o)
  clear h
  by_cases h0 : k < 0
  · go_enter Try.func13, Try.ntmps13
    go_wp2_with fail
    go_ret2
    exact ⟨rfl, below_alloc _ _⟩
  · have h1 : (zs.length : Int) ≤ k := by omega
    clear hk
    go_enter Try.func13, Try.ntmps13
    go_wp2_with fail
    refine (H.out _).mono ?_
    rintro e w1 ⟨rfl, rfl⟩
    go_wp2_with fail
    go_ret2
    exact ⟨rfl, (below_alloc _ _).alloc (by rw [size_alloc]; omega) _⟩
end Go.Proofs.Ytoopgkgjhbihjaa.Seek
