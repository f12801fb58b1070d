/- The document's Key, and SameLine. -/
import Derived.Test.YtpgjaoemkadenaaKeyGo
import Derived.Test.YtpgjaoemkadenaaRefBack
import Derived.Deep.RegionWith
import Derived.BigQuiet
import Derived.Deep.QuietTactic
set_option linter.unusedVariables false
set_option linter.unusedSimpArgs false
set_option maxRecDepth 100000
namespace Go.Proofs.Ytpgjaoemkadenaa.Seek
open Go.RowKit Plain

/-- A line that can be read, with an error. -/
def LineRead (r : List Int × Int × Int) (w : World) (e : Ending) (w' : World) : Prop := Below w.heap.size w w' ∧ ∃ tv, e = .returned (.tuple #[.agg #[tv, .int .i64 r.2.1], .int .i64 r.2.2]) ∧ Reads w' tv r.1
theorem concat2 (v1 v2 : Value) (x1 x2 : List Int) (w : World) (h1 : Reads w v1 x1) (h2 : Reads w v2 x2) (hb : (x1 ++ x2).length * 8 ≤ 281474976710656) :
    Calls Try.prog 15 #[.slice (some ⟨w.heap.size, 0, none⟩) 2 2] (w.alloc (.cells #[v1, v2] 22)) fun e w' => ConcatPost (x1 ++ x2) (w.alloc (.cells #[v1, v2] 22)) e w' := by
  have hj : joined (fun j => match j with | 0 => x1 | _ => x2) 2 = x1 ++ x2 := by simp [joined]
  have := concat_any w.heap.size 2 2 (fun j => match j with | 0 => v1 | _ => v2) (fun j => match j with | 0 => x1 | _ => x2) (w.alloc (.cells #[v1, v2] 22)) (by decide) (by rw [size_alloc]; omega)
    (fun j hj => by
      match j, hj with
      | 0, _ => exact new_cells w [v1, v2] _ 0 _ rfl
      | 1, _ => exact new_cells w [v1, v2] _ 1 _ rfl)
    (fun j hj => by
      match j, hj with
      | 0, _ => exact h1.below (box_below _ _)
      | 1, _ => exact h2.below (box_below _ _)) (by rw [hj]; exact hb)
  rw [hj] at this
  exact this
theorem reads_cut2 {w : World} {a : Option Addr} {zs : List Int} {cap : Nat} (h : Reads w (.slice a zs.length cap) zs) (f t : Nat) (h1 : f ≤ t) (h2 : t ≤ zs.length) :
    ∃ A, (if cap = t then a else Option.map (fun x => x.add t) a) = A ∧ Reads w (.slice a f cap) (zs.take f) ∧ Reads w (.slice A (zs.length - t) (cap - t)) (zs.drop t) ∧ zs.length ≤ cap := by
  obtain ⟨x, y, z⟩ := reads_cut h f t h1 h2
  exact ⟨_, rfl, x, y, z⟩
end Go.Proofs.Ytpgjaoemkadenaa.Seek
