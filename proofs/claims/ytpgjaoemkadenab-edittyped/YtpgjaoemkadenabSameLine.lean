/- The document's SameLine. -/
import Derived.Test.YtpgjaoemkadenabKTyped
set_option linter.unusedVariables false
set_option linter.unusedSimpArgs false
set_option maxRecDepth 100000
namespace Go.Proofs.Ytpgjaoemkadenab.Seek
open Go.RowKit Plain
set_option maxHeartbeats 400000 in
theorem sameLine_yes (v1 v2 : Value) (xs : List Int) (k : Int) (w : World) (h1 : Reads w v1 xs) (h2 : Reads w v2 xs) :
    Calls Try.prog 12 #[.agg #[v1, .int .i64 k], .agg #[v2, .int .i64 k]] w fun e w' => e = .returned (.bool true) ∧ Below w.heap.size w w' := by
  have hm1 : xs.length ≤ maxLen := by rcases h1 with ⟨_, _, _, rfl⟩ | ⟨_, _, cap, _, g1, g2, _⟩ <;> first | decide | omega
  obtain ⟨a1, c1, rfl⟩ := h1.shape
  obtain ⟨a2, c2, rfl⟩ := h2.shape
  have H1 : Hid (∀ wx, Below w.heap.size w wx → Reads wx (.slice a1 xs.length c1) xs) := fun wx hx => h1.below hx
  have H2 : Hid (∀ wx, Below w.heap.size w wx → Reads wx (.slice a2 xs.length c2) xs) := fun wx hx => h2.below hx
  have HM : Hid (xs.length ≤ maxLen) := hm1
  clear h1 h2 hm1
  go_enter Try.func12, Try.ntmps12
  go_wp2_with fail
  have HB : Hid (Below w.heap.size w ((w.alloc (.cells #[.slice a1 xs.length c1, .int .i64 k] 24)).alloc (.cells #[.slice a2 xs.length c2, .int .i64 k] 24))) := (box_below _ _).alloc (by rw [size_alloc]; omega) _
  refine (equal_any _ _ xs xs _ (H1.out _ HB.out) (H2.out _ HB.out) HM.out HM.out).mono ?_
  rw [beq_self_eq_true]
  rintro e w1 ⟨rfl, q, hq⟩
  have HB1 : Hid (Below w.heap.size w w1) := by rw [hq]; exact below_drewN HB.out q
  clear hq HB
  go_wp2_with fail
  go_ret
  exact ⟨rfl, HB1.out⟩


theorem reads_cut2 {w : World} {a : Option Addr} {zs : List Int} {cap : Nat} (h : Reads w (.slice a zs.length cap) zs) (f t : Nat) (h1 : f ≤ t) (h2 : t ≤ zs.length) :
    ∃ A, (if cap = t then a else Option.map (fun x => x.add t) a) = A ∧ Reads w (.slice a f cap) (zs.take f) ∧ Reads w (.slice A (zs.length - t) (cap - t)) (zs.drop t) ∧ zs.length ≤ cap := by
  obtain ⟨x, y, z⟩ := reads_cut h f t h1 h2
  exact ⟨_, rfl, x, y, z⟩
end Go.Proofs.Ytpgjaoemkadenab.Seek
