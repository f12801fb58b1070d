/- A map from ints to slices of ints that the call has made, beside other work: what waits at a key, and the way back behind a store elsewhere. -/
import Derived.Test.YtpgjaoemkadenabM01
import Derived.Maps.OwnRows
import Derived.Maps.Views
import Derived.Handy
set_option linter.unusedVariables false
set_option linter.unusedSimpArgs false
set_option maxRecDepth 100000
namespace Go.Proofs.Ytpgjaoemkadenab.Seek
open Go.RowKit Go.Maps Plain Go.ChangeShapes
open Go.WideElems (Fit rd rg pl rd_val elemAt)

theorem groups_at_off {H : Type} {P : Program} {k : TypeId} {w : World} {base : Nat} {e : TypeId} {q : IntKind} {b n : Nat} {D : DataW H} {t E : TypeId} {key : Value} {kl : Lit}
    (h : w.ownsGroups P k base e q b n D) (K : Keyed P k) (ht : P.underlying t = some (.map k E)) (hz : (zeroValue E).run P w = .ok (.slice none 0 0) w) (hn : n < maxLen) (hkey : keyOf P k key = some kl) :
    ∃ v zs, (Instr.lookup t (.map (some b)) key false).run P w = .ok v w ∧ D.atKey kl .nil = rowDatum q v zs ∧ w.ownsInts base e q v zs ∧ zs.length ≤ n ∧
      ∀ w' g, w.grownBy w' (some g) → g ≠ b → g < base → w'.groupBack P t k base e q b n D key kl v := by
  obtain ⟨es, clock, hb, F, hs, rfl, hbb, hlen, hap⟩ := h
  have hblt : b < w.heap.size := (Array.getElem?_eq_some_iff.1 hb).1
  have off : ∀ (v : Value), (∀ x ∈ es.toList, x.key ≠ key → x.val.ownBlock = none ∨ x.val.ownBlock ≠ v.ownBlock) → v.ownBlock ≠ some b →
      ∀ w' g, w.grownBy w' (some g) → g ≠ b → g < base → w'.groupBack P t k base e q b n (.map ((es.toList.map (rg P k (rowElem (H := H) w base e q))).foldr DataW.insert [])) key kl v := by
    intro v hv hvb w' g hg hgb hgbase
    have hb' : w'.heap[b]? = some (.map es clock) := (hg.block b hblt (fun e1 => hgb (Option.some.inj e1).symm)).trans hb
    have hrow : ∀ (u : Value) (zs : List Int), w.ownsInts base e q u zs → u.ownBlock = none ∨ u.ownBlock ≠ some g := by
      intro u zs ho
      cases hu : u.ownBlock with
      | none => exact Or.inl rfl
      | some j =>
        refine Or.inr (fun e1 => ?_)
        have h1 := (ho.1.lt j hu).1
        have h2 := Option.some.inj e1
        omega
    have hst : ∀ x ∈ es.toList, ∀ z, rowElem (H := H) w base e q x.val = some z → rowElem w' base e q x.val = some z := fun x hx z hz => by
      obtain ⟨zs, ho, rfl⟩ := rowElem_inv hz
      exact rowElem_mk (ho.kept hg (hrow _ _ ho))
    obtain ⟨F1, hmap, _⟩ := F.stay hst
    have hlen' : ∀ x ∈ es.toList, ∀ zs, w'.ownsInts base e q x.val zs → zs.length ≤ n := fun x hx zs ho => by
      obtain ⟨y, hy⟩ := F.reads x hx
      obtain ⟨z, hz, _⟩ := rd_val hy
      obtain ⟨zs0, ho0, _⟩ := rowElem_inv hz
      rw [ho.unique (ho0.kept hg (hrow _ _ ho0))]
      exact hlen x hx zs0 ho0
    have hres := groups_back (H := H) (v := v) K ht hb' F1 hs hn hbb hlen' hap hkey hv hvb
    rw [hmap] at hres
    exact hres
  rcases Maps.fit_look false K ht hz hb F hkey with ⟨hrun, _, hat⟩ | ⟨e0, y, hm0, h3, hrun, hR, hat, _⟩
  · refine ⟨.slice none 0 0, [], hrun, hat _, World.ownsInts_nil _ _ _ _, Nat.zero_le _, off _ (fun x _ _ => ?_) (by simp [Value.ownBlock])⟩
    cases x.val.ownBlock <;> simp [Value.ownBlock]
  · obtain ⟨zs, ho, rfl⟩ := rowElem_inv hR
    refine ⟨e0.val, zs, hrun, hat _, ho, hlen e0 hm0 zs ho, off _ (fun x hx hne => hap x hx e0 hm0 (by rw [h3]; exact hne)) (fun e1 => ?_)⟩
    have := (ho.1.lt b e1).1
    omega
theorem groups_kept {H : Type} {P : Program} {k : TypeId} {w w' : World} {base : Nat} {e : TypeId} {q : IntKind} {b n : Nat} {D : DataW H} {g : Nat}
    (h : w.ownsGroups P k base e q b n D) (hg : w.grownBy w' (some g)) (hgb : g ≠ b) (hgbase : g < base) : w'.ownsGroups P k base e q b n D := by
  obtain ⟨es, clock, hb, F, hs, rfl, hbb, hlen, hap⟩ := h
  have hblt : b < w.heap.size := (Array.getElem?_eq_some_iff.1 hb).1
  have hrow : ∀ (u : Value) (zs : List Int), w.ownsInts base e q u zs → u.ownBlock = none ∨ u.ownBlock ≠ some g := by
    intro u zs ho
    cases hu : u.ownBlock with
    | none => exact Or.inl rfl
    | some j =>
      refine Or.inr (fun e1 => ?_)
      have h1 := (ho.1.lt j hu).1
      have h2 := Option.some.inj e1
      omega
  have hst : ∀ x ∈ es.toList, ∀ z, rowElem (H := H) w base e q x.val = some z → rowElem w' base e q x.val = some z := fun x hx z hz => by
    obtain ⟨zs, ho, rfl⟩ := rowElem_inv hz
    exact rowElem_mk (ho.kept hg (hrow _ _ ho))
  obtain ⟨F1, hmap, _⟩ := F.stay hst
  refine ⟨es, clock, (hg.block b hblt (fun e1 => hgb (Option.some.inj e1).symm)).trans hb, F1, hs, by rw [hmap], hbb, fun x hx zs ho => ?_, hap⟩
  obtain ⟨y, hy⟩ := F.reads x hx
  obtain ⟨z, hz, _⟩ := rd_val hy
  obtain ⟨zs0, ho0, _⟩ := rowElem_inv hz
  rw [ho.unique (ho0.kept hg (hrow _ _ ho0))]
  exact hlen x hx zs0 ho0

def nats (l : List Nat) : List Int := l.map fun (p : Nat) => (p : Int)
theorem nats_len (l : List Nat) : (nats l).length = l.length := List.length_map ..
/-- The map holds, at each key, the places that wait there. -/
def HoldsStk (S : Int → List Nat) (D : DataW Unit) : Prop :=
  IsMap D ∧ ∀ o : Int, (S o = [] ∧ D.atKey (.int .i64 o) .nil = .nil) ∨ D.atKey (.int .i64 o) .nil = .slice (lits .i64 (nats (S o).reverse)) []
theorem stk_none : HoldsStk (fun _ => []) (.map []) := ⟨⟨_, rfl⟩, fun o => .inl ⟨rfl, rfl⟩⟩
theorem lits_inj {a b : List Int} (h : (lits .i64 a : List (DataW Unit)) = lits .i64 b) : a = b := by
  unfold lits at h
  exact (List.map_inj_right (fun x y hxy => by cases hxy; rfl)).1 h
theorem stk_look {S : Int → List Nat} {D : DataW Unit} {w : World} {base : Nat} {v : Value} {zs : List Int} {o : Int} (h : HoldsStk S D) (hat : D.atKey (.int .i64 o) .nil = rowDatum .i64 v zs) (ho : w.ownsInts base 3 .i64 v zs) : zs = nats (S o).reverse := by
  rcases h.2 o with ⟨h1, h2⟩ | h2
  · rcases ho.datum (H := Unit) with ⟨_, h3⟩ | h3
    · rw [h1, h3]
      rfl
    · rw [h2, h3] at hat
      cases hat
  · rcases ho.datum (H := Unit) with ⟨h3, _⟩ | h3
    · rw [h2, h3] at hat
      cases hat
    · rw [h2, h3] at hat
      exact (lits_inj (DataW.slice.inj hat).1).symm
theorem stk_put {S S' : Int → List Nat} {D : DataW Unit} {w : World} {base : Nat} {v : Value} {zs : List Int} {o : Int} (h : HoldsStk S D) (ho : w.ownsInts base 3 .i64 v zs) (he : zs = nats (S' o).reverse) (hne : ∀ o', o' ≠ o → S' o' = S o') :
    HoldsStk S' (D.put (.int .i64 o) (rowDatum .i64 v zs)) := by
  refine ⟨h.1.put _ _, fun x => ?_⟩
  by_cases hx : x = o
  · subst hx
    rw [atKey_put_same h.1 (show WideAt.IsKeyLit (.int .i64 _) from trivial)]
    rcases ho.datum (H := Unit) with ⟨h3, h4⟩ | h3
    · left
      refine ⟨?_, h3⟩
      rw [h4] at he
      have h5 := congrArg List.length he
      rw [nats_len, List.length_reverse] at h5
      exact List.length_eq_zero_iff.1 h5.symm
    · right
      rw [h3, he]
  · rw [atKey_put_other (by simp; exact hx), hne x hx]
    exact h.2 x
theorem HoldsStk.of {S S' : Int → List Nat} {D : DataW Unit} (h : HoldsStk S D) (he : ∀ o, S' o = S o) : HoldsStk S' D := ⟨h.1, fun o => by rw [he o]; exact h.2 o⟩
theorem law3 : Keyed Try.prog 3 := int_keyed Try.underlying3
theorem zero22 (w : World) : (zeroValue 22).run Try.prog w = .ok (.slice none 0 0) w := by kernel_rfl
theorem int_wf (n : Int) (h : -9223372036854775808 ≤ n) (h2 : n ≤ 9223372036854775807) : (Lit.int .i64 n).wf = true := by
  have h1 : IntKind.i64.min = -9223372036854775808 := rfl
  have h2 : IntKind.i64.max = 9223372036854775807 := rfl
  simp only [Lit.wf, Bool.and_eq_true, decide_eq_true_eq]
  omega
theorem key_int (x : Int) (h : -9223372036854775808 ≤ x) (h2 : x ≤ 9223372036854775807) : keyOf Try.prog 3 (.int .i64 x) = some (.int .i64 x) := keyOf_int_mk Try.underlying3 (int_wf x h h2)
end Go.Proofs.Ytpgjaoemkadenab.Seek
