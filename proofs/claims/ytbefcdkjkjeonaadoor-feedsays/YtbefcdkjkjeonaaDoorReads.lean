/- A slice of ints that can be read, whoever made it; Text and slices.Equal of such slices. -/
import Derived.Test.YtbefcdkjkjeonaaDoorOwned
set_option linter.unusedVariables false
namespace Go.Proofs.YtbefcdkjkjeonaaDoor.Utf
open Go.RowKit

/-- The slice v holds the numbers zs. -/
def Reads (w : World) (v : Value) (zs : List Int) : Prop :=
  (∃ a cap, v = .slice a 0 cap ∧ zs = []) ∨
  (∃ b off cap, v = .slice (some ⟨b, off, none⟩) zs.length cap ∧ b < w.heap.size ∧ ∀ j, j < zs.length → w.cell? ⟨b, off + j, none⟩ = some (.int .i64 (zs.getD j 0)))

theorem Reads.shape {w : World} {v : Value} {zs : List Int} (h : Reads w v zs) : ∃ a cap, v = .slice a zs.length cap := by
  rcases h with ⟨a, cap, hv, hz⟩ | ⟨b, off, cap, hv, _⟩
  · subst hz
    exact ⟨a, cap, hv⟩
  · exact ⟨_, cap, hv⟩
theorem Reads.below {w w' : World} {v : Value} {zs : List Int} (h : Reads w v zs) (hb : Below w.heap.size w w') : Reads w' v zs := by
  rcases h with h | ⟨b, off, cap, hv, hlt, hc⟩
  · exact .inl h
  · exact .inr ⟨b, off, cap, hv, Nat.lt_of_lt_of_le hlt hb.size, fun j hj => (hb.cell (by exact hlt)).trans (hc j hj)⟩
theorem Reads.drewN {w : World} {v : Value} {zs : List Int} (h : Reads w v zs) (q : Nat) : Reads (w.drewN q) v zs := h
theorem owned_reads {w : World} {B : Nat} {v : Value} {cs : List Nat} (hown : w.ownsRow B 3 1 v cs.length (ints cs)) : Reads w v (casts cs) := by
  rcases hown.2 with ⟨rfl, h0⟩ | ⟨g, cap, cur, rfl, hb, hg, hn, hm, hsz, htake⟩
  · obtain rfl := List.length_eq_zero_iff.1 h0
    exact .inl ⟨none, 0, rfl, rfl⟩
  · exact .inr ⟨g, 0, cap, by rw [casts_len], (Array.getElem?_eq_some_iff.1 hg).1, owned_cells (B := B) (cap := cap) hg htake⟩

theorem text_reads (v : Value) (zs : List Int) (w : World) (h : Reads w v zs) (hroom : zs.length * 8 ≤ 140737488355328) :
    Calls Tryd.prog 14 #[v] w fun e w' => TextPost zs w e w' := by
  rcases h with ⟨a, cap, rfl, rfl⟩ | ⟨b, off, cap, rfl, hlt, hc⟩
  · exact text_empty a cap w
  · exact text_some b off zs.length cap zs w rfl hroom hlt hc

theorem equal_same (v1 v2 : Value) (zs : List Int) (w : World) (h1 : Reads w v1 zs) (h2 : Reads w v2 zs) (hroom : zs.length * 8 ≤ 140737488355328) :
    Calls Tryd.prog 12 #[v1, v2] w fun e w' => e = .returned (.bool true) ∧ ∃ q, w' = w.drewN q := by
  by_cases h0 : zs.length = 0
  · obtain ⟨a1, c1, rfl⟩ := h1.shape
    obtain ⟨a2, c2, rfl⟩ := h2.shape
    rw [h0]
    refine (Tryd.slices_Equal_int_empty a1 a2 c1 0 c2 w (by decide)).mono ?_
    rintro e w' ⟨rfl, rfl⟩
    exact ⟨rfl, 0, rfl⟩
  · rcases h1 with ⟨_, _, _, rfl⟩ | ⟨b1, o1, c1, rfl, _, hc1⟩
    · exact absurd rfl h0
    · rcases h2 with ⟨_, _, _, rfl⟩ | ⟨b2, o2, c2, rfl, _, hc2⟩
      · exact absurd rfl h0
      · refine (Tryd.slices_Equal_int b1 o1 zs.length c1 b2 o2 zs.length c2 zs zs w (Nat.le_refl _) (Nat.le_refl _) (by omega) (by omega) hc1 hc2).mono ?_
        rintro e w' ⟨rfl, hq⟩
        exact ⟨by simp, hq⟩

theorem casts_nats {zs : List Int} (h : Valids zs) : casts (nats zs) = zs := by
  unfold casts nats
  rw [List.map_map]
  have : ∀ z ∈ zs, ((fun (c : Nat) => (c : Int)) ∘ Int.toNat) z = z := fun z hz => by
    have := (Plain.valid_bounds (h z hz)).1
    simp
    omega
  rw [List.map_congr_left this]
  simp

theorem room_text {cs : List Nat} (hok : Plain.Oks cs) (hr : cs.length * 8 ≤ 140737488355328) (ds : List Nat) (p : Nat) (h : Plain.Part (Plain.text cs) ds p) : ds.length * 8 ≤ 140737488355328 := by
  obtain ⟨es, e1, _⟩ := h.of_text hok
  have := congrArg List.length e1
  rw [List.length_append] at this
  omega
end Go.Proofs.YtbefcdkjkjeonaaDoor.Utf
