/- What EditOwn's walk carries: ample rows, what stays behind a spoiling. -/
import Derived.Test.YtpgjaoemkadenabM10
import Derived.Test.YtpgjaoemkadenabM43
import Derived.Test.YtpgjaoemkadenabM44
import Derived.Test.YtpgjaoemkadenabM37
import Derived.Test.YtpgjaoemkadenabM27
import Derived.Test.YtpgjaoemkadenabM07
import Derived.Test.YtpgjaoemkadenabM46
import Derived.Deep.QuietTactic
import Derived.Deep.RegionHeld3
set_option linter.unusedVariables false
set_option linter.unusedSimpArgs false
set_option maxRecDepth 100000
namespace Go.Proofs.Ytpgjaoemkadenab.Seek
open Go.RowKit Plain
theorem IntBlock.neB {w : World} {g c G : Nat} {t : TypeId} {cs : List Value} (h : IntBlock w g c) (hA : BoxC w t G cs) (ht : t ≠ 3) : g ≠ G := by
  intro e
  subst e
  obtain ⟨f, cur, h1, _⟩ := h
  have h2 : w.heap[g]? = _ := hA
  rw [h1] at h2
  simp only [Option.some.injEq, Obj.cells.injEq] at h2
  exact ht h2.2.1.symm
theorem Ample.kept {w w' : World} {B g G : Nat} {zs : List Int} (h : Ample w B g zs) (hg : w.grownBy w' (some G)) (hne : g ≠ G) : Ample w' B g zs :=
  World.ownsRow.kept h hg (.inr (by intro e; exact hne (by simpa [Value.ownBlock] using e)))
/-- The slice that ample makes of the text zs. -/
def amp (g : Nat) (zs : List Int) : Value := .slice (some ⟨g, 0, none⟩) zs.length (zs.length + 3)
/-- The first i slices are ample ones. -/
def Amp (w : World) (B : Nat) (ls : List Value) (gs : Nat → Nat) (ts : List (List Int)) (i : Nat) : Prop := ∀ j, j < i → ls.getD j undef = amp (gs j) (ts.getD j []) ∧ Ample w B (gs j) (ts.getD j [])
theorem Amp.below {w w' : World} {B : Nat} {ls : List Value} {gs : Nat → Nat} {ts : List (List Int)} {i : Nat} (h : Amp w B ls gs ts i) (hb : Below w.heap.size w w') : Amp w' B ls gs ts i := fun j hj => ⟨(h j hj).1, (h j hj).2.below hb⟩
theorem Amp.keptB {w w' : World} {B G : Nat} {t : TypeId} {cs : List Value} {ls : List Value} {gs : Nat → Nat} {ts : List (List Int)} {i : Nat} (h : Amp w B ls gs ts i) (hg : w.grownBy w' (some G)) (hA : BoxC w t G cs) (ht : t ≠ 3) : Amp w' B ls gs ts i :=
  fun j hj => ⟨(h j hj).1, (h j hj).2.kept hg ((h j hj).2.block.neB hA ht)⟩
theorem Amp.step {w w1 w2 : World} {B G g : Nat} {t : TypeId} {cs : List Value} {ls : List Value} {gs : Nat → Nat} {ts : List (List Int)} {i : Nat} (h : Amp w B ls gs ts i) (hl : ls.length = 27) (hi : i < 27) (hb : Below w.heap.size w w1) (ho : Ample w1 w.heap.size g (ts.getD i [])) (hB : B ≤ w.heap.size) (hg : w1.grownBy w2 (some G)) (hA : BoxC w1 t G cs) (ht : t ≠ 3) :
    Amp w2 B (ls.set i (amp g (ts.getD i []))) (fun j => if j = i then g else gs j) ts (i + 1) := by
  intro j hj
  by_cases e : j = i
  · subst e
    rw [getD_set_same _ _ _ _ (by omega)]
    simp only [if_true]
    exact ⟨trivial, (ho.less hB).kept hg (ho.block.neB hA ht)⟩
  · rw [getD_set_other _ _ _ _ _ (fun h => e h.symm)]
    simp only [if_neg e]
    have q := (h j (by omega)).2.below hb
    exact ⟨(h j (by omega)).1, q.kept hg (q.block.neB hA ht)⟩
theorem Amp.reads {w : World} {B : Nat} {ls : List Value} {gs : Nat → Nat} {ts : List (List Int)} (h : Amp w B ls gs ts 27) (hl : AllSl ls) (ht : ts.length = 27) (hm : ∀ i, i < 27 → Mild (ts.getD i [])) : ReadsR w ls ts :=
  ⟨hl, ht, fun i hi => ⟨by rw [(h i hi).1]; exact (h i hi).2.reads, hm i hi⟩⟩
/-- The rows that were handed in, as blocks of numbers, all below B. -/
def St (w : World) (B gx n : Nat) (gs : Nat → Nat) (ts : List (List Int)) : Prop := (IntBlock w gx n ∧ gx < B) ∧ ∀ j, j < 27 → IntBlock w (gs j) ((ts.getD j []).length + 3) ∧ gs j < B
theorem St.below {w w' : World} {B gx n : Nat} {gs : Nat → Nat} {ts : List (List Int)} (h : St w B gx n gs ts) (hb : Below w.heap.size w w') : St w' B gx n gs ts := ⟨⟨h.1.1.below hb, h.1.2⟩, fun j hj => ⟨(h.2 j hj).1.below hb, (h.2 j hj).2⟩⟩
theorem St.spoilt {w w' : World} {B gx n g c : Nat} {gs : Nat → Nat} {ts : List (List Int)} (h : St w B gx n gs ts) (hi : IntBlock w g c) (hg : w.grownBy w' (some g)) (hi' : IntBlock w' g c) : St w' B gx n gs ts :=
  ⟨⟨h.1.1.spoilt hi hg hi', h.1.2⟩, fun j hj => ⟨(h.2 j hj).1.spoilt hi hg hi', (h.2 j hj).2⟩⟩
theorem AvT.lt {w : World} {P : Nat → Prop} {v : Value} {zs : List Int} (h : AvT w P v zs) : ∀ k, v.ownBlock = some k → k < w.heap.size ∧ P k := by
  intro k hk
  by_cases hz : zs = []
  · rw [h.2.2 hz] at hk
    cases hk
  · refine ⟨?_, (h.2.1.resolve_left hz) k hk⟩
    obtain ⟨g, hg, _, g2⟩ := own_block h.1 hz
    rw [hg] at hk
    cases hk
    exact g2
end Go.Proofs.Ytpgjaoemkadenab.Seek
