/- What RegOwn's walk carries: ample rows in an array; what stays behind a store, and behind a spoiling. -/
import Derived.Test.YtobmggijdmdidaaAmpleGo
import Derived.Test.YtobmggijdmdidaaRefPut
import Derived.Test.YtobmggijdmdidaaGetGo
import Derived.Test.YtobmggijdmdidaaSame
set_option linter.unusedVariables false
set_option linter.unusedSimpArgs false
namespace Go.Proofs.Ytobmggijdmdidaa.Seek
open Go.RowKit

theorem row_ne {w : World} {B g : Nat} {n cap : Nat} {xs : List Value} {G : Nat} {vs : List Value} (h : w.ownsRow B 3 1 (.slice (some ⟨g, 0, none⟩) n cap) n xs) (hA : HoldsA w G vs) : (Value.slice (some ⟨g, 0, none⟩) n cap).ownBlock ≠ some G := by
  intro e
  have e2 : g = G := by simpa [Value.ownBlock] using e
  rcases h.2 with ⟨h0, _⟩ | ⟨g', c, cur, hv, _, hg, _⟩
  · cases h0
  · cases hv
    have h2 := hA.2
    rw [← e2, hg] at h2
    simp at h2
theorem OwnI.keptA {w w' : World} {B G : Nat} {v : Value} {zs : List Int} {us : List Value} (h : OwnI w B v zs) (hg : w.grownBy w' (some G)) (hA : HoldsA w G us) : OwnI w' B v zs := by
  rcases h.2 with ⟨rfl, h0⟩ | ⟨g', c, cur, rfl, _⟩
  · exact h.kept hg (by intro e; cases e)
  · exact h.kept hg (row_ne h hA)
theorem Reads.keptA {w w' : World} {G : Nat} {v : Value} {zs : List Int} {us : List Value} (h : Reads w v zs) (hg : w.grownBy w' (some G)) (hA : HoldsA w G us) : Reads w' v zs := h.kept hg hA.2 (fun x hx => hA.1.2 x (by simpa using hx))
theorem ReadsR.keptA {w w' : World} {G : Nat} {vs : List Value} {ts : List (List Int)} {us : List Value} (h : ReadsR w vs ts) (hg : w.grownBy w' (some G)) (hA : HoldsA w G us) : ReadsR w' vs ts := h.kept hg hA.2 (fun x hx => hA.1.2 x (by simpa using hx))
theorem OwnR.keptA {w w' : World} {B G : Nat} {vs : List Value} {ts : List (List Int)} {us : List Value} (h : OwnR w B vs ts) (hg : w.grownBy w' (some G)) (hA : HoldsA w G us) : OwnR w' B vs ts := ⟨h.1.keptA hg hA, fun i hi => (h.2.1 i hi).keptA hg hA, h.2.2⟩
theorem Ample.keptA {w w' : World} {B g G : Nat} {zs : List Int} {us : List Value} (h : Ample w B g zs) (hg : w.grownBy w' (some G)) (hA : HoldsA w G us) : Ample w' B g zs := World.ownsRow.kept h hg (.inr (row_ne h hA))
/-- The slice that ample makes of the text zs. -/
def amp (g : Nat) (zs : List Int) : Value := .slice (some ⟨g, 0, none⟩) zs.length (zs.length + 3)
/-- The first i slices are ample ones. -/
def Amp (w : World) (B : Nat) (ls : List Value) (gs : Nat → Nat) (ts : List (List Int)) (i : Nat) : Prop := ∀ j, j < i → ls.getD j undef = amp (gs j) (ts.getD j []) ∧ Ample w B (gs j) (ts.getD j [])
theorem Amp.below {w w' : World} {B : Nat} {ls : List Value} {gs : Nat → Nat} {ts : List (List Int)} {i : Nat} (h : Amp w B ls gs ts i) (hb : Below w.heap.size w w') : Amp w' B ls gs ts i := fun j hj => ⟨(h j hj).1, (h j hj).2.below hb⟩
theorem Amp.keptA {w w' : World} {B G : Nat} {ls : List Value} {gs : Nat → Nat} {ts : List (List Int)} {i : Nat} {us : List Value} (h : Amp w B ls gs ts i) (hg : w.grownBy w' (some G)) (hA : HoldsA w G us) : Amp w' B ls gs ts i := fun j hj => ⟨(h j hj).1, (h j hj).2.keptA hg hA⟩
theorem Amp.step {w w1 w2 : World} {B G g : Nat} {ls us : List Value} {gs : Nat → Nat} {ts : List (List Int)} {i : Nat} (h : Amp w B ls gs ts i) (hl : AllSl ls) (hi : i < 27) (hb : Below w.heap.size w w1) (ho : Ample w1 w.heap.size g (ts.getD i [])) (hB : B ≤ w.heap.size) (hg : w1.grownBy w2 (some G)) (hA : HoldsA w1 G us) :
    Amp w2 B (ls.set i (amp g (ts.getD i []))) (fun j => if j = i then g else gs j) ts (i + 1) := by
  intro j hj
  have ll := hl.1
  by_cases e : j = i
  · subst e
    rw [getD_set_same _ _ _ _ (by omega)]
    simp only [if_true]
    exact ⟨trivial, (ho.less hB).keptA hg hA⟩
  · rw [getD_set_other _ _ _ _ _ (fun h => e h.symm)]
    simp only [if_neg e]
    exact ⟨(h j (by omega)).1, ((h j (by omega)).2.below hb).keptA hg hA⟩
theorem Amp.reads {w : World} {B G : Nat} {ls : List Value} {gs : Nat → Nat} {ts : List (List Int)} (h : Amp w B ls gs ts 27) (hA : HoldsA w G ls) (ht : ts.length = 27) (hm : ∀ i, i < 27 → Mild (ts.getD i [])) : ReadsR w ls ts :=
  ⟨hA.1, ht, fun i hi => ⟨by rw [(h i hi).1]; exact (h i hi).2.reads, hm i hi⟩⟩

/-- What stands when the spoiling begins. -/
structure Stand (w : World) (BA BB GI GA GB gt n : Nat) (ls la lb : List Value) (gv hv : Value) (gs : Nat → Nat) (ts tz : List (List Int)) (t : List Int) : Prop where
  hi : HoldsA w GI ls
  ha : HoldsA w GA la
  hb : HoldsA w GB lb
  oa : OwnR w BA la tz
  ob : OwnR w BB lb tz
  og : OwnI w BA gv t
  oh : OwnI w BA hv t
  bl : ∀ j, j < 27 → IntBlock w (gs j) ((ts.getD j []).length + 3) ∧ gs j < BA
  bt : IntBlock w gt n ∧ gt < BA
  le : BA ≤ BB
theorem OwnR.spoilt {w w' : World} {B g : Nat} {vs : List Value} {ts : List (List Int)} (h : OwnR w B vs ts) (hg : w.grownBy w' (some g)) (hlt : g < B) : OwnR w' B vs ts := h.grown hg hlt
theorem Stand.spoilt {w w' : World} {BA BB GI GA GB gt n : Nat} {ls la lb : List Value} {gv hv : Value} {gs : Nat → Nat} {ts tz : List (List Int)} {t : List Int} {g c : Nat} (h : Stand w BA BB GI GA GB gt n ls la lb gv hv gs ts tz t)
    (hi : IntBlock w g c) (hlt : g < BA) (hg : w.grownBy w' (some g)) (hi' : IntBlock w' g c) : Stand w' BA BB GI GA GB gt n ls la lb gv hv gs ts tz t where
  hi := h.hi.kept hg (hi.ne h.hi)
  ha := h.ha.kept hg (hi.ne h.ha)
  hb := h.hb.kept hg (hi.ne h.hb)
  oa := h.oa.grown hg hlt
  ob := h.ob.grown hg (Nat.lt_of_lt_of_le hlt h.le)
  og := h.og.kept hg (fun e => by have := (h.og.lt _ e).1; omega)
  oh := h.oh.kept hg (fun e => by have := (h.oh.lt _ e).1; omega)
  bl := fun j hj => ⟨(h.bl j hj).1.spoilt hi hg hi', (h.bl j hj).2⟩
  bt := ⟨h.bt.1.spoilt hi hg hi', h.bt.2⟩
  le := h.le
theorem Stand.below {w w' : World} {BA BB GI GA GB gt n : Nat} {ls la lb : List Value} {gv hv : Value} {gs : Nat → Nat} {ts tz : List (List Int)} {t : List Int} (h : Stand w BA BB GI GA GB gt n ls la lb gv hv gs ts tz t) (hb : Below w.heap.size w w') : Stand w' BA BB GI GA GB gt n ls la lb gv hv gs ts tz t where
  hi := h.hi.below hb
  ha := h.ha.below hb
  hb := h.hb.below hb
  oa := h.oa.below hb
  ob := h.ob.below hb
  og := h.og.below hb
  oh := h.oh.below hb
  bl := fun j hj => ⟨(h.bl j hj).1.below hb, (h.bl j hj).2⟩
  bt := ⟨h.bt.1.below hb, h.bt.2⟩
  le := h.le
/-- What stands at the end. -/
def Last (w : World) (GA GB : Nat) (la lb : List Value) (tz : List (List Int)) : Prop :=
  HoldsA w GA la ∧ HoldsA w GB lb ∧ ∀ j, 1 ≤ j → j < 27 → Reads w (la.getD j undef) (tz.getD j []) ∧ Reads w (lb.getD j undef) (tz.getD j []) ∧ Mild (tz.getD j [])
theorem Last.below {w w' : World} {GA GB : Nat} {la lb : List Value} {tz : List (List Int)} (h : Last w GA GB la lb tz) (hb : Below w.heap.size w w') : Last w' GA GB la lb tz :=
  ⟨h.1.below hb, h.2.1.below hb, fun j h1 h2 => ⟨(h.2.2 j h1 h2).1.below hb, (h.2.2 j h1 h2).2.1.below hb, (h.2.2 j h1 h2).2.2⟩⟩
theorem Stand.last {w w' : World} {BA BB GI GA GB gt n : Nat} {ls la lb : List Value} {gv hv : Value} {gs : Nat → Nat} {ts tz : List (List Int)} {t : List Int} {e : Ending} (h : Stand w BA BB GI GA GB gt n ls la lb gv hv gs ts tz t)
    (hlt : ∀ k, (la.getD 0 undef).ownBlock = some k → k < BB)
    (hs : e = .returned (.tuple #[]) ∧ (∃ q, w' = w.drewN q) ∨ e = .returned (.tuple #[]) ∧ ∃ g c, (la.getD 0 undef).ownBlock = some g ∧ IntBlock w g c ∧ w.grownBy w' (some g) ∧ IntBlock w' g c) :
    e = .returned (.tuple #[]) ∧ Last w' GA GB la lb tz ∧ Below BA w w' := by
  rcases hs with ⟨rfl, q, hq⟩ | ⟨rfl, g, c, hb, hi, hg, hi'⟩
  · have hb : Below w.heap.size w w' := by rw [hq]; exact below_drewN (Below.refl _ _) q
    have h2 := h.below hb
    exact ⟨rfl, ⟨h2.ha, h2.hb, fun j h1 hj => ⟨(h2.oa.2.1 j hj).reads, (h2.ob.2.1 j hj).reads, (h2.oa.1.2.2 j hj).2⟩⟩, by rw [hq]; exact below_drewN (Below.refl _ _) q⟩
  · have hl := (h.oa.2.1 0 (by decide)).lt _ hb
    refine ⟨rfl, ⟨h.ha.kept hg (hi.ne h.ha), h.hb.kept hg (hi.ne h.hb), fun j h1 hj => ⟨((h.oa.2.1 j hj).kept hg (fun e => h.oa.2.2 0 j (by omega) hj _ hb e)).reads, ((h.ob.2.1 j hj).kept hg (fun e => ?_)).reads, (h.oa.1.2.2 j hj).2⟩⟩, (Below.refl _ _).grown hg ?_ ?_⟩
    · have := ((h.ob.2.1 j hj).lt _ e).1
      have := hlt _ hb
      omega
    · exact Nat.le_trans hl.1 (Nat.le_of_lt hl.2)
    · intro k hk
      cases hk
      exact hl.1
end Go.Proofs.Ytobmggijdmdidaa.Seek
