/- Text of a slice that All has made; what All answers of two given texts. -/
import Derived.Test.YtbefcdkjkjeonaaDoorAll
import Derived.Test.YtbefcdkjkjeonaaDoorText
set_option linter.unusedVariables false
namespace Go.Proofs.YtbefcdkjkjeonaaDoor.Utf
open Go.RowKit

def casts (cs : List Nat) : List Int := cs.map (fun (c : Nat) => (c : Int))
theorem casts_len (cs : List Nat) : (casts cs).length = cs.length := List.length_map ..
theorem nats_casts (cs : List Nat) : nats (casts cs) = cs := by
  unfold nats casts
  rw [List.map_map]
  have : (Int.toNat ∘ fun (c : Nat) => (c : Int)) = id := by funext c; simp
  rw [this, List.map_id]
theorem valids_casts {cs : List Nat} (h : Plain.Oks cs) : Valids (casts cs) := by
  intro z hz
  obtain ⟨c, hc, rfl⟩ := List.mem_map.1 hz
  exact Plain.ok_valid (h c hc)
theorem getD_casts (cs : List Nat) (j : Nat) (hj : j < cs.length) : (casts cs).getD j 0 = ((cs[j]'hj : Nat) : Int) := by
  unfold casts
  simp [List.getD_eq_getElem?_getD, hj]

/-- The cells of an owned slice. -/
theorem owned_cells {w : World} {B : Nat} {g cap : Nat} {cs : List Nat} {cur : Array Value} (hg : w.heap[g]? = some (.cells cur 3 (0, 0)))
    (htake : cur.toList.take (cs.length * 1) = ints cs) (j : Nat) (hj : j < (casts cs).length) : w.cell? ⟨g, 0 + j, none⟩ = some (.int .i64 ((casts cs).getD j 0)) := by
  have hj' : j < cs.length := by rw [casts_len] at hj; exact hj
  rw [Nat.zero_add, Lib.cell_of_heap hg, getD_casts cs j hj']
  have h := congrArg (fun l : List Value => l[j]?) htake
  simp only [List.getElem?_take, Nat.mul_one, hj', if_true] at h
  rw [Array.getElem?_toList] at h
  rw [h]
  unfold ints
  simp [hj']

theorem text_owned (cs : List Nat) (v : Value) (B : Nat) (w : World) (hB : B ≤ w.heap.size) (hroom : cs.length * 8 ≤ 140737488355328) (hown : w.ownsRow B 3 1 v cs.length (ints cs)) :
    Calls Tryd.prog 14 #[v] w fun e w' => TextPost (casts cs) w e w' := by
  rcases hown.2 with ⟨rfl, h0⟩ | ⟨g, cap, cur, rfl, hb, hg, hn, hm, hsz, htake⟩
  · obtain rfl := List.length_eq_zero_iff.1 h0
    exact text_empty none 0 w
  · exact text_some g 0 cs.length cap (casts cs) w (casts_len cs) hroom (Array.getElem?_eq_some_iff.1 hg).1 (owned_cells (B := B) (cap := cap) hg htake)

theorem text_good {cs : List Nat} (h : Plain.Oks cs) {w w' : World} {e : Ending} (hp : TextPost (casts cs) w e w') :
    Below w.heap.size w w' ∧ e = .returned (.tuple #[.string ⟨(Plain.text cs).toArray⟩, .int .i64 0]) := by
  obtain ⟨hb, ⟨_, he⟩ | ⟨hn, _⟩⟩ := hp
  · rw [nats_casts] at he
    exact ⟨hb, he⟩
  · exact absurd (valids_casts h) hn

/-- What All answers of 'a' and a byte that is none. -/
theorem all_a255 {w w' : World} {e : Ending} (h : AllPost [97, 255] w e w') : Below w.heap.size w w' ∧ ∃ v, e = .returned (.tuple #[v, .int .i64 1, .int .i64 4]) := by
  obtain ⟨hb, cs, p, er, v, hp, he, hc⟩ := h
  refine ⟨hb, v, ?_⟩
  have h255 : Plain.get [255] = (0, 0, 4) := by decide
  rcases hc with ⟨h0, h2, _⟩ | ⟨h0, h2, h3, _⟩
  · exfalso
    have hq := hp.is
    rw [h2] at hq
    have hq2 : Plain.text [97] ++ [255] = Plain.text cs := hq
    obtain ⟨es, e1, e2⟩ := Plain.text_split [97] cs [255] (fun c hc => by rw [List.mem_singleton.1 hc]; exact .inl (by decide)) hp.oks hq2
    cases es with
    | nil => cases e2
    | cons d ds =>
      have := Plain.get_text d ds (fun x hx => hp.oks x (by rw [e1]; exact List.mem_append_right _ hx))
      rw [← e2, h255] at this
      simp at this
  · have h97 : Plain.get [97, 255] = (97, 1, 0) := by decide
    have hp2 : p = 0 ∨ p = 1 := by have : p < 2 := h2; omega
    rcases hp2 with rfl | rfl
    · rw [show List.drop 0 [97, 255] = ([97, 255] : List UInt8) from rfl, h97] at h3
      exact absurd h3 h0
    · rw [show List.drop 1 [97, 255] = ([255] : List UInt8) from rfl, h255] at h3
      subst h3
      exact he

/-- All of bytes that are characters up to there. -/
theorem all_good {l : List UInt8} {cs : List Nat} (hl : l = Plain.text cs) (hok : Plain.Oks cs) {w w' : World} {e : Ending} (h : AllPost l w e w') :
    Below w.heap.size w w' ∧ ∃ v, e = .returned (.tuple #[v, .int .i64 (l.length : Int), .int .i64 0]) ∧ w'.ownsRow w.heap.size 3 1 v cs.length (ints cs) := by
  obtain ⟨hb, ds, p, er, v, hp, he, hc⟩ := h
  subst hl
  rcases hc with ⟨h0, h2, h3⟩ | ⟨h0, h2, h3, _⟩
  · have hd := hp.whole hok h2
    subst hd h0 h2
    exact ⟨hb, v, he, h3⟩
  · rw [hp.no_err hok h2] at h3
    exact absurd h3 h0
end Go.Proofs.YtbefcdkjkjeonaaDoor.Utf
