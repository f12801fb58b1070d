/- Slices that the call has made: slices.Clone and slices.Reverse of them. -/
import Derived.Test.YtppgpejeedjajaaLists
import Derived.Laws.OwnMore
set_option linter.unusedVariables false
set_option linter.unusedSimpArgs false
namespace Go.Proofs.Ytppgpejeedjajaa.Seek
open Go.RowKit

/-- The slice v holds the numbers zs, in memory of the call's own from block B on (or it is empty). -/
def Own (w : World) (B : Nat) (v : Value) (zs : List Int) : Prop :=
  (∃ a cap, v = .slice a 0 cap ∧ zs = []) ∨ (zs ≠ [] ∧ ∃ g cap, v = .slice (some ⟨g, 0, none⟩) zs.length cap ∧ B ≤ g ∧ g < w.heap.size ∧ w.ownsRow B 3 1 v zs.length (ints zs))
theorem own_of {w : World} {B : Nat} {v : Value} {zs : List Int} (h : w.ownsRow B 3 1 v zs.length (ints zs)) : Own w B v zs := by
  by_cases hz : zs = []
  · subst hz
    rcases h.2 with ⟨rfl, _⟩ | ⟨g, cap, cur, rfl, _⟩
    · exact .inl ⟨_, _, rfl, rfl⟩
    · exact .inl ⟨_, _, rfl, rfl⟩
  · have hh := h
    rcases h.2 with ⟨_, h0⟩ | ⟨g, cap, cur, hv, hB, hg, _⟩
    · exact absurd (List.length_eq_zero_iff.1 h0) hz
    · exact .inr ⟨hz, g, cap, hv, hB, (Array.getElem?_eq_some_iff.1 hg).1, hh⟩
theorem Own.reads {w : World} {B : Nat} {v : Value} {zs : List Int} (h : Own w B v zs) : Reads w v zs := by
  rcases h with h | ⟨_, g, cap, _, _, _, h⟩
  · exact .inl h
  · exact owned_reads h
theorem Own.below {w w' : World} {B : Nat} {v : Value} {zs : List Int} (h : Own w B v zs) (hb : Below w.heap.size w w') : Own w' B v zs := by
  rcases h with h | ⟨hz, g, cap, hv, hB, hg, h⟩
  · exact .inl h
  · exact .inr ⟨hz, g, cap, hv, hB, Nat.lt_of_lt_of_le hg hb.size, owned_below h hb⟩
theorem Own.less {w : World} {B B' : Nat} {v : Value} {zs : List Int} (h : Own w B v zs) (hb : B' ≤ B) : Own w B' v zs := by
  rcases h with h | ⟨hz, g, cap, hv, hB, hg, h⟩
  · exact .inl h
  · exact .inr ⟨hz, g, cap, hv, by omega, hg, owned_less h hb⟩
/-- Two slices that share no memory. -/
def Apart (v u : Value) (zs ys : List Int) : Prop := zs = [] ∨ ys = [] ∨ v.ownBlock ≠ u.ownBlock
theorem Apart.symm {v u : Value} {zs ys : List Int} (h : Apart v u zs ys) : Apart u v ys zs := by
  rcases h with h | h | h
  · exact .inr (.inl h)
  · exact .inl h
  · exact .inr (.inr (Ne.symm h))
theorem apart_of {w w' : World} {B C : Nat} {v u : Value} {zs ys : List Int} (h : Own w B v zs) (h2 : Own w' C u ys) (hc : w.heap.size ≤ C) : Apart v u zs ys := by
  rcases h with ⟨_, _, _, h⟩ | ⟨hz, g, cap, hv, hB, hg, _⟩
  · exact .inl h
  · rcases h2 with ⟨_, _, _, h⟩ | ⟨hy, g2, cap2, hu, hB2, hg2, _⟩
    · exact .inr (.inl h)
    · refine .inr (.inr ?_)
      rw [hv, hu]
      simp only [Value.ownBlock]
      intro h
      have := Option.some.inj h
      omega
theorem Own.kept {w w' : World} {B : Nat} {v : Value} {zs : List Int} {g : Nat} (h : Own w B v zs) (hg : w.grownBy w' (some g)) (hne : zs = [] ∨ v.ownBlock ≠ some g) : Own w' B v zs := by
  rcases h with h | ⟨hz, g1, cap, hv, hB, hg1, h⟩
  · exact .inl h
  · exact .inr ⟨hz, g1, cap, hv, hB, Nat.lt_of_lt_of_le hg1 hg.size, h.kept hg (.inr (hne.resolve_left hz))⟩

theorem clone_any (v : Value) (zs : List Int) (w : World) (h : Reads w v zs) (hr : zs.length * 8 ≤ 140737488355328) :
    Calls Try.prog 16 #[v] w fun e w' => Below w.heap.size w w' ∧ ∃ v', e = .returned v' ∧ Own w' w.heap.size v' zs := by
  rcases h with ⟨a, cap, rfl, rfl⟩ | ⟨b, off, cap, rfl, _, _, _, hc⟩
  · cases a with
    | none =>
      refine (Try.slices_Clone_int_nil 0 cap w).mono ?_
      rintro e w' ⟨rfl, rfl⟩
      exact ⟨Below.refl _ _, _, rfl, .inl ⟨_, _, rfl, rfl⟩⟩
    | some a =>
      refine (Try.slices_Clone_int_zero a cap w).mono ?_
      rintro e w' ⟨v', rfl, hown, _, hb⟩
      exact ⟨hb, v', rfl, own_of hown⟩
  · refine (Try.slices_Clone_int b off zs.length cap zs w (Nat.le_refl _) hr hc).mono ?_
    rintro e w' ⟨v', rfl, hown, _, hb⟩
    rw [List.take_length] at hown
    exact ⟨hb, v', rfl, own_of hown⟩

theorem grown_trans {w w1 w2 : World} {row : Option Nat} (h : w.grownBy w1 row) (h2 : w1.grownBy w2 row) : w.grownBy w2 row :=
  ⟨h2.os.trans h.os, h2.tape.trans h.tape, h2.output.trans h.output, Nat.le_trans h.size h2.size, fun k hk hn => (h2.block k (Nat.lt_of_lt_of_le hk h.size) hn).trans (h.block k hk hn)⟩
theorem owned_setCells {B g n cap : Nat} : ∀ (vs : List Value) (o : Nat) (w : World) (xs : List Value), w.ownsRow B 3 1 (.slice (some ⟨g, 0, none⟩) n cap) n xs → o + vs.length ≤ xs.length →
    (w.setCells g o vs).ownsRow B 3 1 (.slice (some ⟨g, 0, none⟩) n cap) n (xs.take o ++ vs ++ xs.drop (o + vs.length)) ∧ w.grownBy (w.setCells g o vs) (some g)
  | [], o, w, xs, h, hl => by
    simp only [List.append_nil, List.length_nil, Nat.add_zero, List.take_append_drop]
    exact ⟨h, ⟨rfl, rfl, rfl, Nat.le_refl _, fun _ _ _ => rfl⟩⟩
  | v :: r, o, w, xs, h, hl => by
    obtain ⟨h1, h2⟩ := h.stored o v
    rw [List.length_cons] at hl
    obtain ⟨h3, h4⟩ := owned_setCells r (o + 1) (w.setCell ⟨g, o, none⟩ v) (xs.set o v) h1 (by rw [List.length_set]; omega)
    refine ⟨?_, grown_trans h2 h4⟩
    have e1 : (xs.set o v).take (o + 1) = xs.take o ++ [v] := by
      rw [List.take_succ_eq_append_getElem (by rw [List.length_set]; omega), List.getElem_set_self, List.take_set_of_le (Nat.le_refl _)]
    have e2 : (xs.set o v).drop (o + 1 + r.length) = xs.drop (o + (v :: r).length) := by
      rw [List.drop_set_of_lt (by omega), List.length_cons, show o + 1 + r.length = o + (r.length + 1) by omega]
    rw [e1, e2] at h3
    rw [show xs.take o ++ v :: r = xs.take o ++ [v] ++ r by simp]
    exact h3

/-- What slices.Reverse leaves. -/
def RevPost (v : Value) (zs : List Int) (B : Nat) (w : World) (e : Ending) (w' : World) : Prop :=
  e = .returned (.tuple #[]) ∧ Own w' B v zs.reverse ∧ Below B w w' ∧ ∀ u ys C, Own w C u ys → Apart v u zs ys → Own w' C u ys
theorem reverse_any (v : Value) (zs : List Int) (B : Nat) (w : World) (h : Own w B v zs) (hl : zs.length ≤ 9223372036854775807) :
    Calls Try.prog 17 #[v] w fun e w' => RevPost v zs B w e w' := by
  rcases h with ⟨a, cap, rfl, rfl⟩ | ⟨hz, g, cap, hv, hB, hg, h⟩
  · refine (Try.slices_Reverse_int_empty a cap w).mono ?_
    rintro e w' ⟨rfl, rfl⟩
    exact ⟨rfl, .inl ⟨a, cap, rfl, rfl⟩, Below.refl _ _, fun u ys C hu _ => hu⟩
  · subst hv
    have hcell : ∀ j, j < zs.length → w.cell? ⟨g, 0 + j, none⟩ = some (.int .i64 (zs.getD j 0)) := by
      rcases owned_reads h with ⟨_, _, he, hz'⟩ | ⟨b, off, c, he, _, _, _, hc⟩
      · exact absurd hz' hz
      · simp only [Value.slice.injEq, Option.some.injEq, Addr.mk.injEq] at he
        obtain ⟨⟨rfl, rfl, _⟩, _, rfl⟩ := he
        exact hc
    refine (Try.slices_Reverse_int_cells g 0 zs.length cap zs w (Nat.le_refl _) hl hcell (fun j _ => by rw [Nat.zero_add]; exact h.frozenAt j)).mono ?_
    rintro e w' ⟨rfl, q, rfl⟩
    rw [List.take_length]
    have hown : (w.drewN q).ownsRow B 3 1 (.slice (some ⟨g, 0, none⟩) zs.length cap) zs.length (ints zs) := h
    obtain ⟨h1, h2⟩ := owned_setCells (zs.reverse.map (Value.int .i64)) 0 (w.drewN q) (ints zs) hown (by simp [ints_len])
    have e1 : (ints zs).take 0 ++ zs.reverse.map (Value.int .i64) ++ (ints zs).drop (0 + (zs.reverse.map (Value.int .i64)).length) = ints zs.reverse := by
      rw [List.take_zero, List.nil_append, List.drop_eq_nil_of_le (by simp [ints_len]), List.append_nil]
      rfl
    rw [e1] at h1
    have h2' : w.grownBy ((w.drewN q).setCells g 0 (zs.reverse.map (Value.int .i64))) (some g) := ⟨h2.os, h2.tape, h2.output, h2.size, h2.block⟩
    refine ⟨rfl, ?_, ?_, ?_⟩
    · refine .inr ⟨by simpa using hz, g, cap, by rw [List.length_reverse], hB, Nat.lt_of_lt_of_le hg h2'.size, ?_⟩
      rw [List.length_reverse]
      exact h1
    · exact ⟨h2'.os, h2'.tape, h2'.output, h2'.size, fun k hk => by
        by_cases hkw : k < w.heap.size
        · exact h2'.block k hkw (by intro hh; have := Option.some.inj hh; omega)
        · omega⟩
    · intro u ys C hu ha
      refine hu.kept h2' ?_
      rcases ha with h | h | h
      · exact absurd h hz
      · exact .inl h
      · right
        intro he
        exact h (by rw [he]; rfl)
end Go.Proofs.Ytppgpejeedjajaa.Seek
