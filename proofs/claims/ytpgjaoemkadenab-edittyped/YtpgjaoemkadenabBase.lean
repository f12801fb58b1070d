/- Slices of ints that can be read, or that are owned; how far a call's memory goes. -/
import Derived.Test.YtpgjaoemkadenabRows
import Derived.WalkKit
import Derived.BigQuiet
import Derived.Deep.QuietTactic
set_option linter.unusedVariables false
set_option linter.unusedSimpArgs false
set_option maxRecDepth 100000
namespace Go.Proofs.Ytpgjaoemkadenab.Seek
open Go.RowKit
theorem info3 : (Try.prog.info? 3).map (fun i => (i.zero, i.size, i.bytes)) = some (some (Value.int .i64 0), 1, 8) := by kernel_rfl

def ints (zs : List Int) : List Value := zs.map (Value.int .i64)
theorem ints_len (zs : List Int) : (ints zs).length = zs.length := List.length_map ..
/-- A list as a function of places. -/
def fn (zs : List Int) : Nat → Int := fun j => zs.getD j 0

/-- The slice v holds the numbers zs. -/
def Reads (w : World) (v : Value) (zs : List Int) : Prop :=
  (∃ a cap, v = .slice a 0 cap ∧ zs = []) ∨
  (∃ b off cap, v = .slice (some ⟨b, off, none⟩) zs.length cap ∧ zs.length ≤ cap ∧ cap ≤ maxLen ∧ b < w.heap.size ∧ ∀ j, j < zs.length → w.cell? ⟨b, off + j, none⟩ = some (.int .i64 (zs.getD j 0)))

theorem Reads.shape {w : World} {v : Value} {zs : List Int} (h : Reads w v zs) : ∃ a cap, v = .slice a zs.length cap := by
  rcases h with ⟨a, cap, hv, hz⟩ | ⟨b, off, cap, hv, _⟩
  · subst hz
    exact ⟨a, cap, hv⟩
  · exact ⟨_, cap, hv⟩
theorem Reads.below {w w' : World} {v : Value} {zs : List Int} (h : Reads w v zs) (hb : Below w.heap.size w w') : Reads w' v zs := by
  rcases h with h | ⟨b, off, cap, hv, hcap, hm, hlt, hc⟩
  · exact .inl h
  · exact .inr ⟨b, off, cap, hv, hcap, hm, Nat.lt_of_lt_of_le hlt hb.size, fun j hj => (hb.cell (by exact hlt)).trans (hc j hj)⟩
theorem Reads.drewN {w : World} {v : Value} {zs : List Int} (h : Reads w v zs) (q : Nat) : Reads (w.drewN q) v zs := h

theorem owned_below {w w' : World} {B : Nat} {v : Value} {n : Nat} {xs : List Value} (h : w.ownsRow B 3 1 v n xs) (hb : Below w.heap.size w w') : w'.ownsRow B 3 1 v n xs := by
  refine ⟨h.1, ?_⟩
  rcases h.2 with hn | ⟨g, cap, cur, hv, hB, hg, rest⟩
  · exact .inl hn
  · exact .inr ⟨g, cap, cur, hv, hB, (hb.block g (Array.getElem?_eq_some_iff.1 hg).1).trans hg, rest⟩
theorem owned_less {w : World} {B B' : Nat} {v : Value} {n : Nat} {xs : List Value} (h : w.ownsRow B 3 1 v n xs) (hb : B' ≤ B) : w.ownsRow B' 3 1 v n xs := by
  refine ⟨h.1, ?_⟩
  rcases h.2 with hn | ⟨g, cap, cur, hv, hB, rest⟩
  · exact .inl hn
  · exact .inr ⟨g, cap, cur, hv, by omega, rest⟩
theorem below_trans {w w1 w2 : World} {B : Nat} (h : Below B w w1) (h2 : Below w1.heap.size w1 w2) (hB : B ≤ w1.heap.size) : Below B w w2 := h.trans (h2.mono hB)
theorem below_drewN {w w1 : World} {B : Nat} (h : Below B w w1) (q : Nat) : Below B w (w1.drewN q) := ⟨h.os, h.tape, h.output, h.size, h.block⟩

/-- The cells of an owned slice. -/
theorem owned_cells {w : World} {g : Nat} {zs : List Int} {cur : Array Value} (hg : w.heap[g]? = some (.cells cur 3 (0, 0)))
    (htake : cur.toList.take (zs.length * 1) = ints zs) (j : Nat) (hj : j < zs.length) : w.cell? ⟨g, 0 + j, none⟩ = some (.int .i64 (zs.getD j 0)) := by
  rw [Nat.zero_add]
  unfold World.cell?
  simp only
  rw [hg]
  have h := congrArg (fun l : List Value => l[j]?) htake
  simp only [List.getElem?_take, Nat.mul_one, hj, if_true] at h
  rw [Array.getElem?_toList] at h
  simp only [h]
  unfold ints
  simp [hj]
theorem owned_reads {w : World} {B : Nat} {v : Value} {zs : List Int} (hown : w.ownsRow B 3 1 v zs.length (ints zs)) : Reads w v zs := by
  rcases hown.2 with ⟨rfl, h0⟩ | ⟨g, cap, cur, rfl, hb, hg, hn, hm, hsz, htake⟩
  · obtain rfl := List.length_eq_zero_iff.1 h0
    exact .inl ⟨none, 0, rfl, rfl⟩
  · exact .inr ⟨g, 0, cap, rfl, hn, hm, (Array.getElem?_eq_some_iff.1 hg).1, owned_cells hg htake⟩
end Go.Proofs.Ytpgjaoemkadenab.Seek
