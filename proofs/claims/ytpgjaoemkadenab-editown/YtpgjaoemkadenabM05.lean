/- Slices that the call has made: slices.Clone of them. -/
import Derived.Test.YtpgjaoemkadenabM04
import Derived.Laws.OwnMore
set_option linter.unusedVariables false
set_option linter.unusedSimpArgs false
set_option maxRecDepth 100000
namespace Go.Proofs.Ytpgjaoemkadenab.Seek
open Go.RowKit

/-- The slice v holds the numbers zs, in memory of the call's own from block B on (or it is empty). -/
def Own (w : World) (B : Nat) (v : Value) (zs : List Int) : Prop :=
  (∃ a cap, v = .slice a 0 cap ∧ zs = []) ∨ (zs ≠ [] ∧ ∃ g cap, v = .slice (some ⟨g, 0, none⟩) zs.length cap ∧ B ≤ g ∧ g < w.heap.size ∧ w.ownsRow B 3 1 v zs.length (ints zs))
theorem own_of {w : World} {B : Nat} {v : Value} {zs : List Int} (h : w.ownsRow B 3 1 v zs.length (ints zs)) : Own w B v zs := by
  by_cases hz : zs = []
  · subst hz
    rcases h.2 with ⟨rfl, _⟩ | ⟨g, cap, cur, rfl, _⟩
    · exact .inl ⟨_, _, rfl, rfl⟩
    · exact .inl ⟨_, _, rfl, rfl⟩
  · have hh := h
    rcases h.2 with ⟨_, h0⟩ | ⟨g, cap, cur, hv, hB, hg, _⟩
    · exact absurd (List.length_eq_zero_iff.1 h0) hz
    · exact .inr ⟨hz, g, cap, hv, hB, (Array.getElem?_eq_some_iff.1 hg).1, hh⟩
theorem Own.reads {w : World} {B : Nat} {v : Value} {zs : List Int} (h : Own w B v zs) : Reads w v zs := by
  rcases h with h | ⟨_, g, cap, _, _, _, h⟩
  · exact .inl h
  · exact owned_reads h
theorem Own.below {w w' : World} {B : Nat} {v : Value} {zs : List Int} (h : Own w B v zs) (hb : Below w.heap.size w w') : Own w' B v zs := by
  rcases h with h | ⟨hz, g, cap, hv, hB, hg, h⟩
  · exact .inl h
  · exact .inr ⟨hz, g, cap, hv, hB, Nat.lt_of_lt_of_le hg hb.size, owned_below h hb⟩
theorem Own.less {w : World} {B B' : Nat} {v : Value} {zs : List Int} (h : Own w B v zs) (hb : B' ≤ B) : Own w B' v zs := by
  rcases h with h | ⟨hz, g, cap, hv, hB, hg, h⟩
  · exact .inl h
  · exact .inr ⟨hz, g, cap, hv, by omega, hg, owned_less h hb⟩
/-- Two slices that share no memory. -/
def Apart (v u : Value) (zs ys : List Int) : Prop := zs = [] ∨ ys = [] ∨ v.ownBlock ≠ u.ownBlock
theorem Apart.symm {v u : Value} {zs ys : List Int} (h : Apart v u zs ys) : Apart u v ys zs := by
  rcases h with h | h | h
  · exact .inr (.inl h)
  · exact .inl h
  · exact .inr (.inr (Ne.symm h))
theorem apart_of {w w' : World} {B C : Nat} {v u : Value} {zs ys : List Int} (h : Own w B v zs) (h2 : Own w' C u ys) (hc : w.heap.size ≤ C) : Apart v u zs ys := by
  rcases h with ⟨_, _, _, h⟩ | ⟨hz, g, cap, hv, hB, hg, _⟩
  · exact .inl h
  · rcases h2 with ⟨_, _, _, h⟩ | ⟨hy, g2, cap2, hu, hB2, hg2, _⟩
    · exact .inr (.inl h)
    · refine .inr (.inr ?_)
      rw [hv, hu]
      simp only [Value.ownBlock]
      intro h
      have := Option.some.inj h
      omega
theorem Own.kept {w w' : World} {B : Nat} {v : Value} {zs : List Int} {g : Nat} (h : Own w B v zs) (hg : w.grownBy w' (some g)) (hne : zs = [] ∨ v.ownBlock ≠ some g) : Own w' B v zs := by
  rcases h with h | ⟨hz, g1, cap, hv, hB, hg1, h⟩
  · exact .inl h
  · exact .inr ⟨hz, g1, cap, hv, hB, Nat.lt_of_lt_of_le hg1 hg.size, h.kept hg (.inr (hne.resolve_left hz))⟩

theorem clone_any (v : Value) (zs : List Int) (w : World) (h : Reads w v zs) (hr : zs.length * 8 ≤ 140737488355328) :
    Calls Try.prog 64 #[v] w fun e w' => Below w.heap.size w w' ∧ ∃ v', e = .returned v' ∧ Own w' w.heap.size v' zs := by
  rcases h with ⟨a, cap, rfl, rfl⟩ | ⟨b, off, cap, rfl, _, _, _, hc⟩
  · cases a with
    | none =>
      refine (Try.slices_Clone_int_nil 0 cap w).mono ?_
      rintro e w' ⟨rfl, rfl⟩
      exact ⟨Below.refl _ _, _, rfl, .inl ⟨_, _, rfl, rfl⟩⟩
    | some a =>
      refine (Try.slices_Clone_int_zero a cap w).mono ?_
      rintro e w' ⟨v', rfl, hown, _, hb⟩
      exact ⟨hb, v', rfl, own_of hown⟩
  · refine (Try.slices_Clone_int b off zs.length cap zs w (Nat.le_refl _) hr hc).mono ?_
    rintro e w' ⟨v', rfl, hown, _, hb⟩
    rw [List.take_length] at hown
    exact ⟨hb, v', rfl, own_of hown⟩

theorem grown_trans {w w1 w2 : World} {row : Option Nat} (h : w.grownBy w1 row) (h2 : w1.grownBy w2 row) : w.grownBy w2 row :=
  ⟨h2.os.trans h.os, h2.tape.trans h.tape, h2.output.trans h.output, Nat.le_trans h.size h2.size, fun k hk hn => (h2.block k (Nat.lt_of_lt_of_le hk h.size) hn).trans (h.block k hk hn)⟩
end Go.Proofs.Ytpgjaoemkadenab.Seek
