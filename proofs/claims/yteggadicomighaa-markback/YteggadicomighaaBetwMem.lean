/- Small laws of memory: what only draws; one splice in new memory. -/
import Derived.Test.YteggadicomighaaApplyGo
import Derived.Test.YteggadicomighaaRows3
import Derived.Test.YteggadicomighaaBetw
import Derived.Deep.CutRange
import Derived.Deep.RegionWith
set_option linter.unusedVariables false
set_option linter.unusedSimpArgs false
namespace Go.Proofs.Yteggadicomighaa.Seek
open Go.RowKit Plain
theorem ups_append (a b : List Nsp) : ups (a ++ b) = ups a ++ ups b := List.map_append ..
theorem Boxed.drew {w : World} {b : Nat} {f t : Int} {v : Value} (h : Boxed w b f t v) : Boxed w.drew b f t v := h
theorem OwnE.alloc {w : World} {B : Nat} {v : Value} {es : List Spl} (h : OwnE w B v es) (o : Obj) : OwnE (w.alloc o) B v es := h.below (box_below _ _)
theorem TextOf.below {w w' : World} {B : Nat} {row : Option Nat} {t : Value} {x : List Int} (h : TextOf w B row t x) (hb : Below w.heap.size w w') : TextOf w' B row t x := ⟨h.1, h.2.1.below hb, h.2.2⟩
/-- A new text beside an elder row. -/
theorem textOf_new {w : World} {B C : Nat} {row : Option Nat} {t : Value} {x : List Int} (hm : Mild x) (h : Own w C t x) (hB : B ≤ C) (hr : ∀ g, row = some g → g < C) : TextOf w B row t x := by
  refine ⟨hm, h.less hB, ?_⟩
  by_cases hz : x = []
  · exact .inl hz
  · refine .inr ?_
    obtain ⟨g, hg, h1, _⟩ := own_block h hz
    rw [hg]
    intro he
    have := hr g he.symm
    omega
/-- A world that parts from another in draws alone. -/
def Drawn (w w' : World) : Prop := ∃ q, w' = w.drewN q
theorem Drawn.more {w w' : World} (h : Drawn w w') (q : Nat) : Drawn w (w'.drewN q) := by
  obtain ⟨p, rfl⟩ := h
  refine ⟨p + q, ?_⟩
  induction q with
  | zero => rfl
  | succ q ih => exact congrArg World.drew ih
theorem Drawn.below {w w' : World} (h : Drawn w w') : Below w.heap.size w w' := by
  obtain ⟨q, rfl⟩ := h
  exact below_drewN (Below.refl _ _) q
theorem Reads.drawn {w w' : World} {v : Value} {zs : List Int} (h : Reads w v zs) (hd : Drawn w w') : Reads w' v zs := h.below hd.below
theorem reads_at {w : World} {a : Option Addr} {zs : List Int} {cap : Nat} (h : Reads w (.slice a zs.length cap) zs) : ∀ k, k < zs.length → ∃ b o, a = some ⟨b, o, none⟩ ∧ w.cell? ⟨b, o + k, none⟩ = some (.int .i64 (zs.getD k 0)) := by
  intro k hk
  rcases h with ⟨_, _, _, rfl⟩ | ⟨b, off, c, hv, _, _, _, hc⟩
  · cases hk
  · cases hv
    exact ⟨b, off, rfl, hc k hk⟩
/-- One splice in new memory. -/
theorem ownE_one {w : World} {B : Nat} (f t : Int) (tv : Value) (x : List Int) (h : TextOf w B none tv x) (hB : B ≤ w.heap.size) : OwnE (w.alloc (.cells #[.int .i64 f, .int .i64 t, tv] 37)) B (.slice (some ⟨w.heap.size, 0, none⟩) 1 1) [(f, t, x)] := by
  refine ⟨[tv], rfl, ⟨rfl, .inr ⟨w.heap.size, 1, #[.int .i64 f, .int .i64 t, tv], rfl, hB, ?_, Nat.le_refl _, by decide, rfl, rfl⟩⟩, fun j hj => ?_⟩
  · show (w.heap.push _)[w.heap.size]? = _
    simp
  · obtain rfl : j = 0 := by simpa using hj
    refine ⟨h.1, h.2.1.below (box_below _ _), ?_⟩
    by_cases hz : x = []
    · exact .inl hz
    · refine .inr ?_
      obtain ⟨g, hg, _, hlt⟩ := own_block h.2.1 hz
      show tv.ownBlock ≠ some w.heap.size
      rw [hg]
      intro he
      have := Option.some.inj he
      omega
end Go.Proofs.Yteggadicomighaa.Seek
