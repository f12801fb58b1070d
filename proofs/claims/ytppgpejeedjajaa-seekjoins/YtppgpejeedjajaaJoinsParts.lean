/- What SeekJoins is made of: its function literal, IndexFunc and ContainsFunc with it, and where a word stands in two lines joined. -/
import Derived.Test.YtppgpejeedjajaaTurnedWalk
import Derived.Test.YtppgpejeedjajaaConcatGo
set_option linter.unusedVariables false
set_option linter.unusedSimpArgs false
namespace Go.Proofs.Ytppgpejeedjajaa.Seek
open Go.RowKit

theorem plist_abab : plist (codes ⟨#[97, 98]⟩) (codes ⟨#[97, 98, 97, 98]⟩) = [0, 2] := by decide
theorem mem_plist (ps ss : List Int) (z : Int) : z ∈ plist ps ss ↔ ∃ k : Nat, z = (k : Int) ∧ k + ps.length ≤ ss.length ∧ Plain.Stands (fn ps) (fn ss) ps.length k := by
  unfold plist
  rw [List.mem_map]
  constructor
  · rintro ⟨k, hk, rfl⟩
    have := (Plain.mem_places _ _ _ _ _).1 hk
    exact ⟨k, rfl, this.1, this.2⟩
  · rintro ⟨k, rfl, h1, h2⟩
    exact ⟨k, (Plain.mem_places _ _ _ _ _).2 ⟨h1, h2⟩, rfl⟩
theorem fn_left (ss ts : List Int) (j : Nat) (h : j < ss.length) : fn (ss ++ ts) j = fn ss j := by
  unfold fn
  rw [List.getD_eq_getElem?_getD, List.getD_eq_getElem?_getD, List.getElem?_append_left h]
theorem fn_right (ss ts : List Int) (j : Nat) (h : ss.length ≤ j) : fn (ss ++ ts) j = fn ts (j - ss.length) := by
  unfold fn
  rw [List.getD_eq_getElem?_getD, List.getD_eq_getElem?_getD, List.getElem?_append_right h]
theorem join_left {ps ss ts : List Int} {k : Nat} (h : k + ps.length ≤ ss.length) : Plain.Stands (fn ps) (fn (ss ++ ts)) ps.length k ↔ Plain.Stands (fn ps) (fn ss) ps.length k := by
  unfold Plain.Stands
  constructor
  · intro h1 j hj
    rw [h1 j hj, fn_left ss ts _ (by omega)]
  · intro h1 j hj
    rw [h1 j hj, fn_left ss ts _ (by omega)]
theorem join_right {ps ss ts : List Int} {k : Nat} (h : ss.length ≤ k) : Plain.Stands (fn ps) (fn (ss ++ ts)) ps.length k ↔ Plain.Stands (fn ps) (fn ts) ps.length (k - ss.length) := by
  unfold Plain.Stands
  constructor
  · intro h1 j hj
    rw [h1 j hj, fn_right ss ts _ (by omega), show k + j - ss.length = k - ss.length + j by omega]
  · intro h1 j hj
    rw [h1 j hj, fn_right ss ts _ (by omega), show k + j - ss.length = k - ss.length + j by omega]
/-- A place of the two lines joined. -/
theorem joined_at {ps ss ts : List Int} {z : Int} (h : z ∈ plist ps (ss ++ ts)) :
    ∃ k : Nat, z = (k : Int) ∧ k ≤ ss.length + ts.length ∧ ((k + ps.length ≤ ss.length ∧ (plist ps ss).contains (k : Int) = true) ∨ (¬ k + ps.length ≤ ss.length ∧ ss.length ≤ k ∧ (plist ps ts).contains ((k : Int) - (ss.length : Int)) = true) ∨ (¬ k + ps.length ≤ ss.length ∧ ¬ ss.length ≤ k)) := by
  obtain ⟨k, rfl, h1, h2⟩ := (mem_plist _ _ _).1 h
  rw [List.length_append] at h1
  refine ⟨k, rfl, by omega, ?_⟩
  by_cases h3 : k + ps.length ≤ ss.length
  · refine .inl ⟨h3, ?_⟩
    rw [List.contains_iff_mem, mem_plist]
    exact ⟨k, rfl, h3, (join_left h3).1 h2⟩
  · by_cases h4 : ss.length ≤ k
    · refine .inr (.inl ⟨h3, h4, ?_⟩)
      rw [List.contains_iff_mem, mem_plist]
      exact ⟨k - ss.length, by omega, by omega, (join_right h4).1 h2⟩
    · exact .inr (.inr ⟨h3, h4⟩)
theorem of_left {ps ss ts : List Int} {z : Int} (h : z ∈ plist ps ss) : (plist ps (ss ++ ts)).contains z = true := by
  obtain ⟨k, rfl, h1, h2⟩ := (mem_plist _ _ _).1 h
  rw [List.contains_iff_mem, mem_plist]
  exact ⟨k, rfl, by rw [List.length_append]; omega, (join_left h1).2 h2⟩
theorem of_right {ps ss ts : List Int} {z : Int} (h : z ∈ plist ps ts) : (plist ps (ss ++ ts)).contains (z + (ss.length : Int)) = true := by
  obtain ⟨k, rfl, h1, h2⟩ := (mem_plist _ _ _).1 h
  rw [List.contains_iff_mem, mem_plist]
  refine ⟨k + ss.length, by omega, by rw [List.length_append]; omega, (join_right (by omega)).2 ?_⟩
  rw [Nat.add_sub_cancel]
  exact h2

theorem joins_closure (z : Int) (B1 : Nat) (vl : Value) (ls : List Int) (w : World) (h1 : w.cell? ⟨B1, 0, none⟩ = some vl) (hr : Reads w vl ls) (hl : ls.length ≤ maxLen) (hc : ls.contains z = true) :
    Calls Try.prog 23 #[.int .i64 z, .pointer (some ⟨B1, 0, none⟩)] w fun e w' => e = .returned (.bool false) ∧ w' = w := by
  have hcall := contains_any vl ls z w hr hl
  rw [hc] at hcall
  have Hcall : Hid _ := hcall
  clear hcall hc hr hl
  go_enter Try.func23, Try.ntmps23
  go_wp2_with fail
  refine Calls.mono Hcall.out ?_
  rintro e w' ⟨rfl, rfl⟩
  go_wp2_with fail
  go_ret
  exact ⟨rfl, rfl⟩

set_option maxHeartbeats 1000000 in
theorem indexFunc_joins (v : Value) (xs : List Int) (B1 : Nat) (vl : Value) (ls : List Int) (w : World) (h1 : w.cell? ⟨B1, 0, none⟩ = some vl) (hr : Reads w vl ls) (hl : ls.length ≤ maxLen) (hx : Reads w v xs) (hxl : xs.length ≤ 100000)
    (hc : ∀ z ∈ xs, ls.contains z = true) :
    Calls Try.prog 28 #[v, .func (.func 23) #[] #[.pointer (some ⟨B1, 0, none⟩)]] w fun e w' => e = .returned (.int .i64 (-1)) ∧ w' = w := by
  have Hc : Hid (∀ z ∈ xs, ls.contains z = true) := hc
  have H1 : Hid (w.cell? ⟨B1, 0, none⟩ = some vl) := h1
  have Hr : Hid (Reads w vl ls) := hr
  have Hl : Hid (ls.length ≤ maxLen) := hl
  obtain ⟨d1, k1, hv1⟩ := hx.shape
  subst hv1
  have Hx : Hid (Reads w (.slice d1 xs.length k1) xs) := hx
  clear hc h1 hr hl hx
  go_enter Try.func28, Try.ntmps28
  go_wp2_with fail
  go_loop [8] (fun u => ∃ j : Nat, u = .int .i64 (j : Int) ∧ j ≤ xs.length) (fun u => xs.length - (intOf u).toNat)
  case atStart => exact ⟨0, rfl, by omega⟩
  case round =>
    obtain ⟨j, rfl, hj⟩ := hrel
    by_cases hlt : j < xs.length
    · rcases Hx.out with ⟨_, _, _, rfl⟩ | ⟨b1, o1, k1', he1, _, _, _, hc1⟩
      · exact absurd hlt (by simp)
      have hcx := hc1 j hlt
      simp only [Value.slice.injEq] at he1
      obtain ⟨rfl, hz1, rfl⟩ := he1
      clear hz1 hc1
      have hcall := joins_closure (xs.getD j 0) B1 vl ls w H1.out Hr.out Hl.out (Hc.out _ (getD_mem2 xs j hlt))
      generalize xs.getD j 0 = x at *
      have Hcall : Hid _ := hcall
      clear hcall
      go_wp2_with fail
      refine Calls.mono Hcall.out ?_
      rintro e w' ⟨rfl, rfl⟩
      go_wp2_with fail
      go_round
      case rel => exact ⟨j + 1, by go_num, by omega⟩
      case measure => simp [intOf]; omega
    · obtain rfl : j = xs.length := by omega
      go_wp2_with fail
      go_ret
      exact ⟨rfl, rfl⟩

theorem containsFunc_joins (v : Value) (xs : List Int) (B1 : Nat) (vl : Value) (ls : List Int) (w : World) (h1 : w.cell? ⟨B1, 0, none⟩ = some vl) (hr : Reads w vl ls) (hl : ls.length ≤ maxLen) (hx : Reads w v xs) (hxl : xs.length ≤ 100000)
    (hc : ∀ z ∈ xs, ls.contains z = true) :
    Calls Try.prog 22 #[v, .func (.func 23) #[] #[.pointer (some ⟨B1, 0, none⟩)]] w fun e w' => e = .returned (.bool false) ∧ w' = w := by
  have hcall := indexFunc_joins v xs B1 vl ls w h1 hr hl hx hxl hc
  have Hcall : Hid _ := hcall
  clear hcall hc h1 hr hl hx hxl
  go_enter Try.func22, Try.ntmps22
  go_wp2_with fail
  refine Calls.mono Hcall.out ?_
  rintro e w' ⟨rfl, rfl⟩
  go_wp2_with fail
  go_ret
  exact ⟨rfl, rfl⟩
end Go.Proofs.Ytppgpejeedjajaa.Seek
