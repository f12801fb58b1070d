/- The contracts of seek.Next and seek.Last. -/
import Derived.Test.YtppgpejeedjajaaAllGo
import Derived.Test.YtppgpejeedjajaaLists
set_option linter.unusedVariables false
set_option linter.unusedSimpArgs false
namespace Go.Proofs.Ytppgpejeedjajaa.Seek
open Go.RowKit

/-- How many are below. -/
def lows (l : List Int) (x : Int) : Nat := l.countP (· < x)
theorem lows_le (l : List Int) (x : Int) : lows l x ≤ l.length := List.countP_le_length
theorem lows_spec : ∀ (l : List Int) (x : Int), l.Pairwise (· < ·) → ∀ j, j < l.length → (l.getD j 0 < x ↔ j < lows l x)
  | [], _, _, j, hj => absurd hj (by simp)
  | a :: l, x, hs, j, hj => by
    rw [List.pairwise_cons] at hs
    have ih := lows_spec l x hs.2
    unfold lows at ih ⊢
    rw [List.countP_cons]
    by_cases ha : a < x
    · simp only [ha, decide_true, if_true]
      cases j with
      | zero => simp [ha]
      | succ j =>
        have := ih j (by simpa using hj)
        simp only [List.getD_cons_succ]
        rw [this]
        omega
    · simp only [ha, decide_false]
      have hall : l.countP (· < x) = 0 := by
        rw [List.countP_eq_zero]
        intro b hb
        have := hs.1 b hb
        simp
        omega
      rw [hall]
      cases j with
      | zero => simp [ha]
      | succ j =>
        simp only [List.getD_cons_succ]
        have := ih j (by simpa using hj)
        rw [this, hall]
        simp
def nextOf (l : List Int) (x : Int) : Int × Int := if lows l x = l.length then (0, 6) else (l.getD (lows l x) 0, 0)
def lastOf (l : List Int) (x : Int) : Int × Int := if lows l x = 0 then (0, 6) else (l.getD (lows l x - 1) 0, 0)
theorem plist_sorted (ps ss : List Int) : (plist ps ss).Pairwise (· < ·) := by
  unfold plist Plain.places
  rw [List.pairwise_map]
  simpa using Plain.spots_sorted (Plain.stb (fn ps) (fn ss) ps.length) (ss.length + 1 - ps.length)
theorem sorted_le : ∀ l : List Int, l.Pairwise (· < ·) → l.Pairwise (· ≤ ·)
  | [], _ => .nil
  | a :: l, h => by
    rw [List.pairwise_cons] at h ⊢
    exact ⟨fun b hb => Int.le_of_lt (h.1 b hb), sorted_le l h.2⟩
theorem plist_len (ps ss : List Int) : (plist ps ss).length ≤ ss.length + 1 := by
  unfold plist
  rw [List.length_map]
  exact Plain.places_len _ _ _ _

theorem search_any (v : Value) (xs : List Int) (x : Int) (w : World) (h : Reads w v xs) (hx : xs.length ≤ 5000) (hs : xs.Pairwise (· < ·)) :
    Calls Try.prog 25 #[v, .int .i64 x] w fun e w' => e = .returned (.tuple #[.int .i64 (lows xs x : Int), .bool (xs.contains x)]) ∧ ∃ q, w' = w.drewN q := by
  rcases h with ⟨a1, c1, rfl, rfl⟩ | ⟨b1, o1, c1, rfl, _, _, _, hc1⟩
  · refine (Try.slices_BinarySearch_int_empty a1 c1 x w).mono ?_
    rintro e w' ⟨rfl, rfl⟩
    exact ⟨rfl, 0, rfl⟩
  · refine (Try.slices_BinarySearch_int b1 o1 xs.length c1 xs x w (Nat.le_refl _) (by omega) hc1 (by rw [List.take_length]; exact sorted_le xs hs)).mono ?_
    rintro e w' ⟨rfl, hq⟩
    rw [List.take_length]
    exact ⟨rfl, hq⟩

/-- The answer of Next or Last. -/
def AskPost (r : Int × Int) (ps ss : List Int) (w : World) (e : Ending) (w' : World) : Prop :=
  Below w.heap.size w w' ∧ (((4096 < ps.length ∨ 4096 < ss.length) ∧ e = .returned (.tuple #[.int .i64 0, .int .i64 2])) ∨ ((ps.length ≤ 4096 ∧ ss.length ≤ 4096) ∧ e = .returned (.tuple #[.int .i64 r.1, .int .i64 r.2])))

set_option maxHeartbeats 1000000 in
theorem next_any (v vs : Value) (ps ss : List Int) (x : Int) (w : World) (hp : Reads w v ps) (hs : Reads w vs ss) (hpm : ps.length ≤ maxLen) (hsm : ss.length ≤ maxLen) :
    Calls Try.prog 10 #[v, vs, .int .i64 x] w fun e w' => AskPost (nextOf (plist ps ss) x) ps ss w e w' := by
  go_enter Try.func10, Try.ntmps10
  go_wp2_with fail
  refine (all_any v vs ps ss w hp hs hpm hsm).mono ?_
  rintro e w1 ⟨hb1, ⟨hl, rfl⟩ | ⟨hl, u, rfl, hown⟩⟩
  · go_wp2_with fail
    go_ret2
    exact ⟨hb1, .inl ⟨hl, rfl⟩⟩
  · have hr := owned_reads hown
    have Hr : Hid (Reads w1 u (plist ps ss)) := hr
    have hpl : (plist ps ss).length ≤ 4097 := by have := plist_len ps ss; omega
    have Hs : Hid ((plist ps ss).Pairwise (· < ·)) := plist_sorted ps ss
    have hlw := lows_le (plist ps ss) x
    have Hnx : Hid (nextOf (plist ps ss) x = if lows (plist ps ss) x = (plist ps ss).length then (0, 6) else ((plist ps ss).getD (lows (plist ps ss) x) 0, 0)) := rfl
    clear hown hr
    obtain ⟨a, cap, hu⟩ := Hr.out.shape
    subst hu
    generalize hgl : plist ps ss = l at *
    have Hl : Hid (plist ps ss = l) := hgl
    clear hgl
    go_wp2_with fail
    refine (search_any _ l x _ Hr.out (by omega) Hs.out).mono ?_
    rintro e w2 ⟨rfl, q, hw2⟩
    have hb2 : Below w.heap.size w w2 := by rw [hw2]; exact below_drewN hb1 q
    have Hr2 : Hid (Reads w2 (.slice a l.length cap) l) := by rw [hw2]; exact Hr.out
    clear hw2 hb1
    by_cases hk : lows l x = l.length
    · rw [if_pos hk] at Hnx
      rw [hk]
      clear hk hlw
      go_wp2_with fail
      go_ret2
      refine ⟨hb2, .inr ⟨hl, ?_⟩⟩
      rw [Hl.out, Hnx.out]
      rfl
    · rw [if_neg hk] at Hnx
      rcases Hr2.out with ⟨_, _, _, rfl⟩ | ⟨b, o, c, he, _, _, _, hc⟩
      · exact absurd rfl hk
      · simp only [Value.slice.injEq] at he
        obtain ⟨rfl, _, rfl⟩ := he
        have hlt : lows l x < l.length := by omega
        have hcx := hc _ hlt
        clear hc
        obtain ⟨z, hz⟩ : ∃ z, z = l.getD (lows l x) 0 := ⟨_, rfl⟩
        rw [← hz] at hcx Hnx
        clear hz
        generalize lows l x = k at *
        have hne : ((k : Int) == (l.length : Int)) = false := by simp; omega
        go_wp2_with fail
        go_ret2
        refine ⟨hb2, .inr ⟨hl, ?_⟩⟩
        rw [Hl.out, Hnx.out]
        rfl

set_option maxHeartbeats 1000000 in
theorem last_any (v vs : Value) (ps ss : List Int) (x : Int) (w : World) (hp : Reads w v ps) (hs : Reads w vs ss) (hpm : ps.length ≤ maxLen) (hsm : ss.length ≤ maxLen) :
    Calls Try.prog 11 #[v, vs, .int .i64 x] w fun e w' => AskPost (lastOf (plist ps ss) x) ps ss w e w' := by
  go_enter Try.func11, Try.ntmps11
  go_wp2_with fail
  refine (all_any v vs ps ss w hp hs hpm hsm).mono ?_
  rintro e w1 ⟨hb1, ⟨hl, rfl⟩ | ⟨hl, u, rfl, hown⟩⟩
  · go_wp2_with fail
    go_ret2
    exact ⟨hb1, .inl ⟨hl, rfl⟩⟩
  · have hr := owned_reads hown
    have Hr : Hid (Reads w1 u (plist ps ss)) := hr
    have hpl : (plist ps ss).length ≤ 4097 := by have := plist_len ps ss; omega
    have Hs : Hid ((plist ps ss).Pairwise (· < ·)) := plist_sorted ps ss
    have hlw := lows_le (plist ps ss) x
    have Hnx : Hid (lastOf (plist ps ss) x = if lows (plist ps ss) x = 0 then (0, 6) else ((plist ps ss).getD (lows (plist ps ss) x - 1) 0, 0)) := rfl
    clear hown hr
    obtain ⟨a, cap, hu⟩ := Hr.out.shape
    subst hu
    generalize hgl : plist ps ss = l at *
    have Hl : Hid (plist ps ss = l) := hgl
    clear hgl
    go_wp2_with fail
    refine (search_any _ l x _ Hr.out (by omega) Hs.out).mono ?_
    rintro e w2 ⟨rfl, q, hw2⟩
    have hb2 : Below w.heap.size w w2 := by rw [hw2]; exact below_drewN hb1 q
    have Hr2 : Hid (Reads w2 (.slice a l.length cap) l) := by rw [hw2]; exact Hr.out
    clear hw2 hb1
    by_cases hk : lows l x = 0
    · rw [if_pos hk] at Hnx
      rw [hk]
      clear hk hlw
      go_wp2_with fail
      go_ret2
      refine ⟨hb2, .inr ⟨hl, ?_⟩⟩
      rw [Hl.out, Hnx.out]
      rfl
    · rw [if_neg hk] at Hnx
      rcases Hr2.out with ⟨_, _, _, rfl⟩ | ⟨b, o, c, he, _, _, _, hc⟩
      · simp at hlw
        omega
      · simp only [Value.slice.injEq] at he
        obtain ⟨rfl, _, rfl⟩ := he
        have hcx := hc (lows l x - 1) (by omega)
        clear hc
        obtain ⟨z, hz⟩ : ∃ z, z = l.getD (lows l x - 1) 0 := ⟨_, rfl⟩
        rw [← hz] at hcx Hnx
        clear hz
        obtain ⟨k, hkk⟩ : ∃ k, lows l x = k + 1 := ⟨lows l x - 1, by omega⟩
        rw [hkk] at hlw hcx ⊢
        rw [Nat.add_sub_cancel] at hcx
        clear hkk hk
        go_wp2_with fail
        go_ret2
        refine ⟨hb2, .inr ⟨hl, ?_⟩⟩
        rw [Hl.out, Hnx.out]
        rfl
end Go.Proofs.Ytppgpejeedjajaa.Seek
