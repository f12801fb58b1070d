/- The law of a loop that ranges over Each, a method's value. -/
import Derived.Test.YtoopgkgjhbihjaaEachGo
set_option linter.unusedVariables false
set_option linter.unusedSimpArgs false
namespace Go.Proofs.Ytoopgkgjhbihjaa.Seek
open Go.RowKit

/-- The loop's record. -/
def recOf (fn : FuncId) (tmps : Array Value) (ps : Array Tmp) (assign body : Code) (D : Nat) (st : LoopState) (pe : Option Code) : Loop :=
  { state := st, pending := pe, fn := fn, tmps := tmps, params := ps, assign := assign, body := body, defers := D }
/-- Between two rounds, so many having been. -/
def Runs (r : LoopState → Option Code → Loop) (D : Nat) (I : Nat → World → Prop) (i : Nat) (W : World) : Prop :=
  I i W ∧ W.heap[D + 1]? = some (.loop (r .ready none)) ∧ W.heap[D]? = some (.deferred (some []))
/-- A round has left the loop. -/
def Gone (r : LoopState → Option Code → Loop) (D : Nat) (Ix : Code → World → Prop) (W : World) : Prop :=
  ∃ c, Ix c W ∧ W.heap[D + 1]? = some (.loop (r .done (some c))) ∧ W.heap[D]? = some (.deferred (some []))
/-- How a round may end. -/
def Ends (n₀ : Nat) (I : Nat → World → Prop) (Ix : Code → World → Prop) (i : Nat) (W : World) : Exit → Act → World → Prop
  | .normal, _, W' => KeepsOthers W W' ∧ Nodes n₀ W W' ∧ I i W'
  | .ret, _, W' => KeepsOthers W W' ∧ Ix .ret W'
  | .exit id, _, W' => KeepsOthers W W' ∧ Ix (.exit id) W'
  | .goto _, _, _ => False
  | .panic _, _, _ => False
  | .outgrown, _, _ => False

theorem round_at {F : Fence} {n : Nat} {P : Program} {fn : FuncId} {tmps : Array Value} {ps : Array Tmp} {assign body : Code} {w : World} {n₀ : Nat} {I : Nat → World → Prop} {Ix : Code → World → Prop} (hfn : F.fn fn) (hn : n₀ ≤ w.heap.size)
    (hI : OwnFrom w.heap.size I) (hIx : ∀ c, OwnFrom w.heap.size (fun (_ : Unit) W => Ix c W)) (i : Nat) (x : Array Value) (hx : x.size = ps.size) (a₁ : Act) (W : World)
    (hassign : ∀ K : Act → World → Prop, K a₁ W → assign.wpIn (F.inRound (w.heap.size + 1)) n P (Exit.then K (fun _ _ _ => False)) { tmps := (ps.zip x).foldl (fun t (p, v) => t.setIfInBounds p v) tmps, defers := [] } W)
    (hbody : ∀ X, I i X → body.wpIn (F.inRound (w.heap.size + 1)) n P (Ends n₀ I Ix (i + 1) X) a₁ X)
    (h : Runs (recOf fn tmps ps assign body w.heap.size) w.heap.size I i W) :
    YieldAt F n P (w.heap.size + 1) x W fun e W' => Went n₀ (Runs (recOf fn tmps ps assign body w.heap.size) w.heap.size I) (Gone (recOf fn tmps ps assign body w.heap.size) w.heap.size Ix) (i + 1) W e W' := by
  obtain ⟨hi, hl, hk⟩ := h
  have hlt := (Array.getElem?_eq_some_iff.1 hl).1
  have hB2 : Nodes n₀ W (W.putObj (w.heap.size + 1) (.loop (recOf fn tmps ps assign body w.heap.size .busy none))) := Nodes.put (by omega) _
  have hi2 := hI.putObj (.loop (recOf fn tmps ps assign body w.heap.size .busy none)) hi (by omega) hl rfl
  have hl2 : (W.putObj (w.heap.size + 1) (.loop (recOf fn tmps ps assign body w.heap.size .busy none))).heap[w.heap.size + 1]? = some (.loop (recOf fn tmps ps assign body w.heap.size .busy none)) := World.putObj_heap_same hlt
  have hk2 : (W.putObj (w.heap.size + 1) (.loop (recOf fn tmps ps assign body w.heap.size .busy none))).heap[w.heap.size]? = some (.deferred (some [])) := (World.putObj_heap_other (by omega)).trans hk
  refine ⟨fn, _, assign, body, run_yield hl hx, roundIn_of_wpIn hfn (hassign _ ⟨_, run_beginRound hl rfl, ?_⟩)⟩
  change body.wpIn _ _ _ _ _ (W.putObj (w.heap.size + 1) (.loop (recOf fn tmps ps assign body w.heap.size .busy none)))
  generalize W.putObj (w.heap.size + 1) (.loop (recOf fn tmps ps assign body w.heap.size .busy none)) = W2 at *
  refine wpIn_mono (hbody W2 hi2) ?_
  rintro e a3 W3 hp
  cases e with
  | normal =>
    obtain ⟨hk3, hb3, hi3⟩ := hp
    have hl3 := hk3.same _ _ hl2 rfl
    have hd3 := hk3.same _ _ hk2 rfl
    exact ⟨_, _, run_endRound none hl3, .inl ⟨rfl, ⟨hI.putObj _ hi3 (by omega) hl3 rfl, World.putObj_heap_same (Array.getElem?_eq_some_iff.1 hl3).1, (World.putObj_heap_other (by omega)).trans hd3⟩, (hB2.trans hb3).trans (Nodes.put (by omega) _)⟩⟩
  | ret =>
    obtain ⟨hk3, hi3⟩ := hp
    have hl3 := hk3.same _ _ hl2 rfl
    have hd3 := hk3.same _ _ hk2 rfl
    exact ⟨_, _, run_endRound (some .ret) hl3, .inr ⟨rfl, _, (hIx _).putObj (s := ()) _ hi3 (by omega) hl3 rfl, World.putObj_heap_same (Array.getElem?_eq_some_iff.1 hl3).1, (World.putObj_heap_other (by omega)).trans hd3⟩⟩
  | exit id =>
    obtain ⟨hk3, hi3⟩ := hp
    have hl3 := hk3.same _ _ hl2 rfl
    have hd3 := hk3.same _ _ hk2 rfl
    exact ⟨_, _, run_endRound (some (.exit id)) hl3, .inr ⟨rfl, _, (hIx _).putObj (s := ()) _ hi3 (by omega) hl3 rfl, World.putObj_heap_same (Array.getElem?_eq_some_iff.1 hl3).1, (World.putObj_heap_other (by omega)).trans hd3⟩⟩
  | goto t => exact hp.elim
  | panic ch => exact hp.elim
  | outgrown => exact hp.elim

theorem range_each {F : Fence} (hF : F = Fence.wide) {n : Nat} {g : Operand} {ps : Array Tmp} {assign body : Code} {Q : Exit → Act → World → Prop} {a : Act} {w : World} {p : Option Addr} {zs : List Int} {n₀ : Nat}
    (hg : a.eval g = .func (.func 23) #[.agg #[.pointer p]] #[]) (hz : zs.length ≤ 4096) (hn : n₀ ≤ w.heap.size) (hT : Tree w n₀ p zs) (hps : ps.size = 2)
    (I : Nat → World → Prop) (Ix : Code → World → Prop) (hI : OwnFrom w.heap.size I) (hIx : ∀ c, OwnFrom w.heap.size (fun (_ : Unit) W => Ix c W)) (h0 : I 0 w) (a₁ : Nat → Act)
    (hassign : ∀ (l i : Nat) (W : World) (K : Act → World → Prop), K (a₁ i) W →
      assign.wpIn (F.inRound l) n Try.prog (Exit.then K (fun _ _ _ => False)) { tmps := (ps.zip #[.int .i64 (i : Int), .int .i64 (zs.getD i 0)]).foldl (fun t (p, v) => t.setIfInBounds p v) a.tmps, defers := [] } W)
    (hbody : ∀ (l i : Nat) (X : World), I i X → i < zs.length → body.wpIn (F.inRound l) n Try.prog (Ends n₀ I Ix (i + 1) X) (a₁ i) X)
    (hdone : ∀ (D : Nat) (W : World), w.heap.size ≤ D → I zs.length W → W.heap[D]? = some (.deferred (some [])) → Q .normal { a with defers := { target := .collected D, args := #[] } :: a.defers } W)
    (hstop : ∀ (D : Nat) (c : Code) (W : World), w.heap.size ≤ D → Ix c W → W.heap[D]? = some (.deferred (some [])) → c.wpIn F n Try.prog Q { a with defers := { target := .collected D, args := #[] } :: a.defers } W) :
    (Code.rangeFunc g ps assign body).wpIn F n Try.prog Q a w := by
  have hro : F.round = none := by rw [hF]; rfl
  have hfn : ∀ f, F.fn f := fun f => by rw [hF]; trivial
  refine wpIn_rangeFunc fun fn hf => ?_
  rw [hro]
  obtain ⟨W1, hW1⟩ : ∃ W1, (w.alloc (.deferred (some []))).alloc (.loop (recOf fn a.tmps ps assign body w.heap.size .ready none)) = W1 := ⟨_, rfl⟩
  have henter : (Instr.enterLoop fn a.tmps ps assign body none).run Try.prog w = .ok (w.heap.size + 1, [{ target := .collected w.heap.size, args := #[] }]) W1 := by
    rw [← hW1]
    exact run_enterLoop_outer _ _ _ _ _
  have hl1 : W1.heap[w.heap.size + 1]? = some (.loop (recOf fn a.tmps ps assign body w.heap.size .ready none)) := by
    rw [← hW1]
    have := World.alloc_heap_new (w.alloc (.deferred (some []))) (.loop (recOf fn a.tmps ps assign body w.heap.size .ready none))
    rwa [World.size_alloc] at this
  have hk1 : W1.heap[w.heap.size]? = some (.deferred (some [])) := by
    rw [← hW1]
    exact (Below.heap_alloc _ _ _ (by simp)).trans (World.alloc_heap_new w _)
  have hi1 : I 0 W1 := by rw [← hW1]; exact hI.alloc _ (hI.alloc _ h0)
  have hb1 : Below w.heap.size w W1 := by rw [← hW1]; exact (below_alloc _ _).alloc (by rw [size_alloc]; omega) _
  clear hW1
  refine ⟨w.heap.size + 1, [{ target := .collected w.heap.size, args := #[] }], W1, { target := .fn (.func 23) #[], args := #[.agg #[.pointer p], yielder (w.heap.size + 1)] }, W1, 23, #[.agg #[.pointer p], yielder (w.heap.size + 1)], W1, henter, ?_, ?_, ?_, ?_, ?_⟩
  · simp only [resolve, hg]
    simp [go_sem]
  · intro f' _
    exact hfn f'
  · have eg : ∀ args w, (callFunc 23 args).run Try.prog w = .ok (.enter 23 args) w := enters_of Try.func23 (by kernel_rfl) rfl
    simp [invoke, go_sem, eg]
  · intro h
    rw [hF] at h
    cases h
  · refine (each_all F hF (n - 1) n (w.heap.size + 1) n₀ p zs hz (Runs (recOf fn a.tmps ps assign body w.heap.size) w.heap.size I) (Gone (recOf fn a.tmps ps assign body w.heap.size) w.heap.size Ix) ?_ ?_ W1 (Nat.le_trans hn hb1.size) (hT.below (hb1.mono hn)) ⟨hi1, hl1, hk1⟩).mono ?_
    · rintro i X o ⟨hi, hl, hk⟩
      exact ⟨hI.alloc _ hi, (Below.heap_alloc _ _ _ (Array.getElem?_eq_some_iff.1 hl).1).trans hl, (Below.heap_alloc _ _ _ (Array.getElem?_eq_some_iff.1 hk).1).trans hk⟩
    · intro i X hr hi
      exact round_at hf hn hI hIx i _ (by rw [hps]; rfl) (a₁ i) X (hassign _ i X) (fun Y hY => hbody _ i Y hY hi) hr
    · rintro e W2 ⟨⟨v, rfl⟩, ⟨hi, hl, hk⟩ | ⟨c, hi, hl, hk⟩⟩
      · exact ⟨none, _, run_endLoop hl (by simp [recOf]), hdone _ _ (Nat.le_refl _) (hI.putObj _ hi (by omega) hl rfl) ((World.putObj_heap_other (by omega)).trans hk)⟩
      · exact ⟨some c, _, run_endLoop hl (by simp [recOf]), hstop _ c _ (Nat.le_refl _) ((hIx c).putObj (s := ()) _ hi (by omega) hl rfl) ((World.putObj_heap_other (by omega)).trans hk)⟩
end Go.Proofs.Ytoopgkgjhbihjaa.Seek
