/- Literals in new memory: lists of ints, one splice. -/
import Derived.Test.YteggadicomighaaBetwMem
set_option linter.unusedVariables false
set_option linter.unusedSimpArgs false
namespace Go.Proofs.Yteggadicomighaa.Seek
open Go.RowKit Plain
theorem reads_lit (w : World) (zs : List Int) (g : Nat) (hg : g = w.heap.size) (cs : Array Value) (hcs : cs = (ints zs).toArray) (n : Nat) (hn : n = zs.length) (h : zs.length ≤ 1000) : Reads (w.alloc (.cells cs 3)) (.slice (some ⟨g, 0, none⟩) n n) zs := by
  subst hg hcs hn
  exact reads_new w zs (by unfold maxLen; omega)
theorem readsE_lit (w : World) (f t : Int) (tv : Value) (x : List Int) (g : Nat) (hg : g = w.heap.size) (h : Reads w tv x) (hx : x.length ≤ 1000) : ReadsE (w.alloc (.cells #[.int .i64 f, .int .i64 t, tv] 37)) (.slice (some ⟨g, 0, none⟩) 1 1) [(f, t, x)] := by
  subst hg
  obtain ⟨a, cap, hv⟩ := h.shape
  refine .inr ⟨w.heap.size, 0, 1, rfl, Nat.le_refl _, by decide, by rw [size_alloc]; omega, fun j hj => ?_⟩
  obtain rfl : j = 0 := by simpa using hj
  obtain ⟨_, b0, b1, b2⟩ := boxed_new w f t tv
  refine ⟨b0, b1, by show x.length * 8 ≤ _; omega, a, cap, ?_, ?_⟩
  · have b9 : (w.alloc (.cells #[.int .i64 f, .int .i64 t, tv] 37)).cell? ⟨w.heap.size, 2, none⟩ = some (.slice a x.length cap) := by rw [← hv]; exact b2
    exact b9
  · have h9 := h.below (box_below w (.cells #[.int .i64 f, .int .i64 t, tv] 37))
    have h8 : Reads (w.alloc (.cells #[.int .i64 f, .int .i64 t, tv] 37)) (.slice a x.length cap) x := by rw [← hv]; exact h9
    exact h8
theorem readsE_nil (w : World) : ReadsE w (.slice none 0 0) [] := .inl ⟨none, 0, rfl, rfl⟩
theorem reads_nil (w : World) (a : Option Addr) (cap : Nat) : Reads w (.slice a 0 cap) [] := .inl ⟨a, cap, rfl, rfl⟩
theorem below2 (w : World) (o1 o2 : Obj) : Below w.heap.size w ((w.alloc o1).alloc o2) := (box_below _ _).alloc (by rw [size_alloc]; omega) _
theorem below3 (w : World) (o1 o2 o3 : Obj) : Below w.heap.size w (((w.alloc o1).alloc o2).alloc o3) := (below2 _ _ _).alloc (by rw [size_alloc, size_alloc]; omega) _
theorem fits_nil {n : Nat} (h : n ≤ 4096) : Fits n [] := ⟨h, trivial, by show n + 0 ≤ 4096 + 0; omega⟩
end Go.Proofs.Yteggadicomighaa.Seek
