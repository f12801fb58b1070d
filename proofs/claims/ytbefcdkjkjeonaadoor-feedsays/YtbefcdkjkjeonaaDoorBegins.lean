/- The contract of the document's Begins: is it a beginning of a character, and not all of it? -/
import Derived.Test.YtbefcdkjkjeonaaDoorRefGet
import Derived.Test.YtbefcdkjkjeonaaDoorFeeds
set_option linter.unusedVariables false
set_option linter.unusedSimpArgs false
namespace Go.Proofs.YtbefcdkjkjeonaaDoor.Plain
/-- The ends that are tried. -/
def comps : List (List UInt8) := [[128], [191], [128, 128], [191, 191], [128, 128, 128], [191, 191, 191], [191, 128], [191, 128, 128], [144, 128, 128], [159, 128], [143, 128, 128]]
theorem ends_comps (m : List UInt8) (h : m ∈ ends) : ∃ j, j < 11 ∧ comps.getD j [] = m := by
  simp only [ends, List.mem_cons, List.not_mem_nil, or_false] at h
  rcases h with rfl | rfl | rfl | rfl | rfl
  · exact ⟨0, by omega, rfl⟩
  · exact ⟨2, by omega, rfl⟩
  · exact ⟨3, by omega, rfl⟩
  · exact ⟨4, by omega, rfl⟩
  · exact ⟨5, by omega, rfl⟩
/-- All of l and m is one character. -/
def Works (l m : List UInt8) : Prop := (get (l ++ m)).2.2 = 0 ∧ (get (l ++ m)).2.1 = l.length + m.length
theorem Works.pend {l m : List UInt8} (h : Works l m) (hm : m ≠ []) : full l = false := by
  obtain ⟨c, n, er, hg⟩ : ∃ c n er, get (l ++ m) = (c, n, er) := ⟨_, _, _, rfl⟩
  unfold Works at h
  rw [hg] at h
  simp only at h
  obtain ⟨rfl, rfl⟩ := h
  exact get_part l m c hm hg
theorem pend_works (l : List UInt8) (h : full l = false) (h0 : l ≠ []) : ∃ j, j < 11 ∧ Works l (comps.getD j []) := by
  obtain ⟨m, hm, c, hc, _, he⟩ := finish l h h0
  obtain ⟨j, hj, rfl⟩ := ends_comps m hm
  refine ⟨j, hj, ?_⟩
  unfold Works
  rw [get_all _ c hc he]
  exact ⟨rfl, by simp⟩
theorem comps_ne (j : Nat) (h : j < 11) : comps.getD j [] ≠ [] := by
  rcases (by omega : j = 0 ∨ j = 1 ∨ j = 2 ∨ j = 3 ∨ j = 4 ∨ j = 5 ∨ j = 6 ∨ j = 7 ∨ j = 8 ∨ j = 9 ∨ j = 10) with rfl | rfl | rfl | rfl | rfl | rfl | rfl | rfl | rfl | rfl | rfl <;> decide
theorem comps_len (j : Nat) (h : j < 11) : (comps.getD j []).length ≤ 3 := by
  rcases (by omega : j = 0 ∨ j = 1 ∨ j = 2 ∨ j = 3 ∨ j = 4 ∨ j = 5 ∨ j = 6 ∨ j = 7 ∨ j = 8 ∨ j = 9 ∨ j = 10) with rfl | rfl | rfl | rfl | rfl | rfl | rfl | rfl | rfl | rfl | rfl <;> decide
end Go.Proofs.YtbefcdkjkjeonaaDoor.Plain
namespace Go.Proofs.YtbefcdkjkjeonaaDoor.Utf
open Go.RowKit

/-- The block of the ends that are tried. -/
def compCells : Obj := .cells #[.string ⟨#[128]⟩, .string ⟨#[191]⟩, .string ⟨#[128, 128]⟩, .string ⟨#[191, 191]⟩, .string ⟨#[128, 128, 128]⟩, .string ⟨#[191, 191, 191]⟩, .string ⟨#[191, 128]⟩, .string ⟨#[191, 128, 128]⟩, .string ⟨#[144, 128, 128]⟩, .string ⟨#[159, 128]⟩, .string ⟨#[143, 128, 128]⟩] 9
theorem comp_cell (w : World) (j : Nat) (h : j < 11) : (w.alloc compCells).cell? ⟨w.heap.size, j, none⟩ = some (.string ⟨(Plain.comps.getD j []).toArray⟩) := by
  unfold compCells
  rcases (by omega : j = 0 ∨ j = 1 ∨ j = 2 ∨ j = 3 ∨ j = 4 ∨ j = 5 ∨ j = 6 ∨ j = 7 ∨ j = 8 ∨ j = 9 ∨ j = 10) with rfl | rfl | rfl | rfl | rfl | rfl | rfl | rfl | rfl | rfl | rfl <;> simp [Plain.comps]

set_option maxHeartbeats 4000000 in
set_option maxRecDepth 100000 in
theorem begins_any (s : ByteArray) (w : World) (f : Bool) (hs : s.size ≤ 9223372036854775807) (h0 : 0 < s.size) (Hf : Hid (Plain.full s.data.toList = f)) :
    Calls Tryd.prog 7 #[.string s] w fun e w' => e = .returned (.bool (!f)) ∧ Below w.heap.size w w' := by
  have hne := not_nil s h0
  have Hcell : Hid (∀ j, j < 11 → (w.alloc compCells).cell? ⟨w.heap.size, j, none⟩ = some (.string ⟨(Plain.comps.getD j []).toArray⟩)) := comp_cell w
  unfold compCells at Hcell
  go_enter Tryd.func7, Tryd.ntmps7
  by_cases h3 : 3 < s.size
  · have hft : f = true := by
      have := Hf.out
      cases f with
      | true => rfl
      | false => have := Plain.pend_len _ this; rw [size_list] at this; omega
    subst hft
    go_wp2_with fail
    go_ret
    exact ⟨rfl, Below.refl _ _⟩
  · go_wp2_with fail
    go_loopw [17] (fun i wr => ∃ k : Nat, i = .int .i64 (k : Int) ∧ k ≤ 11 ∧ Hid (∀ j, j < k → ¬ Plain.Works s.data.toList (Plain.comps.getD j [])) ∧ Hid (∀ j, j < 11 → wr.cell? ⟨w.heap.size, j, none⟩ = some (.string ⟨(Plain.comps.getD j []).toArray⟩)) ∧ w.heap.size < wr.heap.size ∧ Below w.heap.size w wr) (fun i _ => 11 - (intOf i).toNat)
    case atStart => exact ⟨0, rfl, by omega, (fun j hj => absurd hj (by omega)), Hcell.out, by simp, (Below.refl _ _).alloc (Nat.le_refl _) _⟩
    case round =>
      obtain ⟨k, rfl, hk, Hno, Hc, hlt, hb⟩ := hrel
      clear Hcell
      by_cases hk11 : k < 11
      · have hcx := Hc.out k hk11
        have hcl := Plain.comps_len k hk11
        have Hcn : Hid (Plain.comps.getD k [] ≠ []) := Plain.comps_ne k hk11
        obtain ⟨q, hq⟩ : ∃ q, Plain.comps.getD k [] = q := ⟨_, rfl⟩
        have Hq : Hid (Plain.comps.getD k [] = q) := hq
        rw [hq] at hcx hcl Hcn
        clear hq
        obtain ⟨u, hu⟩ : ∃ u : ByteArray, u = ⟨q.toArray⟩ := ⟨_, rfl⟩
        rw [← hu] at hcx
        have Hu : Hid (u.data.toList = q) := by rw [hu]; show _ = _; simp
        have hus : u.size ≤ 3 := by rw [← size_list, Hu.out]; exact hcl
        have Hql : Hid (q.length = u.size) := by rw [← size_list, Hu.out]; rfl
        clear hu hcl
        go_wp2_with fail
        refine (rget_any (s ++ u) _ (by rw [ByteArray.size_append]; omega)).mono ?_
        rintro e w1 ⟨rfl, hb1⟩
        have hbw := below_trans hb hb1
        have Hc1 : Hid (∀ j, j < 11 → w1.cell? ⟨w.heap.size, j, none⟩ = some (.string ⟨(Plain.comps.getD j []).toArray⟩)) := fun j hj => (hb1.cell (by exact hlt)).trans (Hc.out j hj)
        have hlt1 := Nat.lt_of_lt_of_le hlt hb1.size
        clear hb1 hcx Hc hlt hb
        rw [append_list, Hu.out]
        obtain ⟨c, n, er, hg⟩ : ∃ c n er, Plain.get (s.data.toList ++ q) = (c, n, er) := ⟨_, _, _, rfl⟩
        rw [hg]
        unfold out
        simp only
        have Hw : Hid (Plain.Works s.data.toList (Plain.comps.getD k []) ↔ (er = 0 ∧ n = s.size + u.size)) := by
          show _ ↔ _
          rw [Hq.out]
          unfold Plain.Works
          rw [hg, size_list, Hql.out]
        clear hg
        by_cases hwk : er = 0 ∧ n = s.size + u.size
        · have hff : f = false := by
            have h5 := Hw.out.2 hwk
            rw [Hq.out] at h5
            rw [← Hf.out]
            exact h5.pend Hcn.out
          subst hff
          obtain ⟨rfl, rfl⟩ := hwk
          go_wp2_with fail
          go_ret
          exact ⟨rfl, hbw⟩
        · have Hn : Hid (∀ j, j < k + 1 → ¬ Plain.Works s.data.toList (Plain.comps.getD j [])) := by
            intro j hj
            rcases Nat.lt_or_ge j k with h | h
            · exact Hno.out j h
            · obtain rfl : j = k := by omega
              exact fun h7 => hwk (Hw.out.1 h7)
          clear Hw
          by_cases her : er = 0
          · have hn : ¬ n = s.size + u.size := fun h => hwk ⟨her, h⟩
            have hn2 : ((n : Int) == (s.size : Int) + (u.size : Int)) = false := by simp; omega
            subst her
            clear hwk hn
            go_wp2_with fail
            go_roundw
            case rel => exact ⟨k + 1, by go_num, by omega, Hn.out, Hc1.out, hlt1, hbw⟩
            case measure => simp [intOf]; omega
          · have he2 : ((er : Int) == 0) = false := by simp; omega
            clear hwk
            go_wp2_with fail
            go_roundw
            case rel => exact ⟨k + 1, by go_num, by omega, Hn.out, Hc1.out, hlt1, hbw⟩
            case measure => simp [intOf]; omega
      · obtain rfl : k = 11 := by omega
        have hft : f = true := by
          cases f with
          | true => rfl
          | false =>
            obtain ⟨j, hj, hw⟩ := Plain.pend_works s.data.toList Hf.out (fun h => by rw [← size_list, h] at h0; exact absurd h0 (by decide))
            exact absurd hw (Hno.out j hj)
        subst hft
        clear Hc
        go_wp2_with fail
        go_ret
        exact ⟨rfl, hb⟩
end Go.Proofs.YtbefcdkjkjeonaaDoor.Utf
