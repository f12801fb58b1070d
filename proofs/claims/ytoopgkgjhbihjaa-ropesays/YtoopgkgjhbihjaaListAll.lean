/- The contracts of rope.each and of List. -/
import Derived.Test.YtoopgkgjhbihjaaListGo
import Derived.Laws.MakeOwn
set_option linter.unusedVariables false
set_option linter.unusedSimpArgs false
namespace Go.Proofs.Ytoopgkgjhbihjaa.Seek
open Go.RowKit

theorem each_list : ∀ (f : Nat) (zs : List Int) (p : Option Addr) (k : Nat) (n₀ bx g cap : Nat) (xs : List Int) (w : World), zs.length ≤ f → k + zs.length ≤ 4096 → Tree w n₀ p zs → Gathers w n₀ bx g cap xs → xs.length + zs.length ≤ cap →
    Calls Try.prog 26 #[.pointer p, .int .i64 (k : Int), gatherer bx] w fun e w' => e = .returned (.bool true) ∧ Gathers w' n₀ bx g cap (xs ++ zs) ∧ Below n₀ w w'
  | f, zs, p, k, n₀, bx, g, cap, xs, w, hf, hk, h, hg, hroom => by
    rcases h.parts with ⟨rfl, rfl⟩ | ⟨hz, b, pl, pr, rfl, hb, c0, c1, c2, c3, hl, hr⟩
    · refine (each_nil _ _ w).mono ?_
      rintro e w' ⟨rfl, rfl⟩
      rw [List.append_nil]
      exact ⟨rfl, hg, Below.refl _ _⟩
    · have hl0 : 0 < zs.length := List.length_pos_iff.2 hz
      cases f with
      | zero => omega
      | succ f =>
        have hsz := size_any pl _ n₀ w hl
        rw [len_left] at hsz
        have e : xs ++ zs = xs ++ zs.take (zs.length / 2) ++ [zs.getD (zs.length / 2) 0] ++ zs.drop (zs.length / 2 + 1) := by
          have := middle_eq hz
          rw [List.append_assoc, List.append_assoc, List.singleton_append, ← this]
        rw [e]
        refine each_step n₀ bx g cap b pl pr k (zs.length / 2) _ xs _ _ w hb c0 c1 c2 (by omega) (by omega) (by rw [List.length_append, len_left]; omega) hsz ?_ ?_
        · exact each_list f _ pl k n₀ bx g cap xs w (by rw [len_left]; omega) (by rw [len_left]; omega) hl hg (by rw [len_left]; omega)
        · intro w1 hb1 hg1
          have := each_list f _ pr (k + zs.length / 2 + 1) n₀ bx g cap _ w1 (by rw [len_right]; omega) (by rw [len_right]; omega) (hr.below hb1) hg1 (by rw [List.length_append, List.length_append, len_left, len_right]; simp only [List.length_cons, List.length_nil]; omega)
          rw [show ((k : Int) + ((zs.length / 2 : Nat) : Int) + 1) = ((k + zs.length / 2 + 1 : Nat) : Int) by omega]
          exact this

/-- What List answers: new memory. -/
def ListPost (zs : List Int) (w : World) (e : Ending) (w' : World) : Prop :=
  Below w.heap.size w w' ∧ ∃ g cap, e = .returned (.slice (some ⟨g, 0, none⟩) zs.length cap) ∧ zs.length ≤ cap ∧ cap ≤ 4096 ∧ w.heap.size ≤ g ∧ w'.ownsRow w.heap.size 3 1 (.slice (some ⟨g, 0, none⟩) zs.length cap) zs.length (ints zs)
set_option maxHeartbeats 1000000 in
theorem list_any (p : Option Addr) (zs : List Int) (w : World) (hm : zs.length ≤ 4096) (h : Tree w w.heap.size p zs) : Calls Try.prog 12 #[.agg #[.pointer p]] w fun e w' => ListPost zs w e w' := by
  have H : Hid (∀ o : Obj, Calls Try.prog 10 #[.agg #[.pointer p]] (w.alloc o) fun e w' => e = .returned (.int .i64 (zs.length : Int)) ∧ w' = (w.alloc o).alloc (.cells #[.pointer p] 25)) := fun o => len_any p zs _ (tree_alloc h o)
  have Ht : Hid (Tree w w.heap.size p zs) := h
  clear h
  have hmf : ∀ (fn : Fn) (first cap : Array Value) (w : World), (Instr.makeFunc fn first cap).run Try.prog w = .ok (.func fn first cap) w := fun _ _ _ _ => rfl
  obtain ⟨i0, hi, hz0, hz1, hz2⟩ := info_parts info3
  go_enter Try.func12, Try.ntmps12
  go_wp2_with fail
  refine (H.out _).mono ?_
  rintro e w1 ⟨rfl, hw1⟩
  have hbx : Boxed w1 w.heap.size 25 (.pointer p) := by rw [hw1]; exact (Boxed.new w 25 _).alloc _
  have hB1 : Below w.heap.size w w1 := by rw [hw1]; exact (below_alloc _ _).alloc (by rw [size_alloc]; omega) _
  clear hw1
  obtain ⟨w2, hrun, hown2, hgr2⟩ := run_make_own (P := Try.prog) w1 w.heap.size 22 3 i0 (.int .i64 0) 1 Try.underlying22 hi hz0 hz1 .i64 .i64 zs.length (by rw [hz2]; omega) (by unfold maxLen; omega) hB1.size
  have hB2 : Below w.heap.size w w2 := hB1.grown hgr2 hB1.size (fun k hk => by cases hk)
  have hbx2 : Boxed w2 w.heap.size 25 (.pointer p) := hbx.kept hgr2 (by simp)
  have Hg : Hid (Gathers (w2.alloc (.cells #[.slice (some ⟨w1.heap.size, 0, none⟩) 0 zs.length] 22)) w.heap.size w2.heap.size w1.heap.size zs.length []) := ⟨Boxed.new _ _ _, hown2.alloc _, hB2.size, hB1.size, by rw [size_alloc]; have := hB2.size; omega⟩
  have hc := hbx.cell
  have hc2 := hbx2.cell
  have hlt2 := hbx2.lt
  have Hown2 : Hid _ := hown2
  clear hown2 hgr2 hbx hz0 hz1 hz2 hi
  go_wp2_with fail
  have hB3 : Below w.heap.size w (w2.alloc (.cells #[.slice (some ⟨w1.heap.size, 0, none⟩) 0 zs.length] 22)) := hB2.alloc hB2.size _
  refine Calls.mono (each_list _ zs p 0 w.heap.size w2.heap.size w1.heap.size zs.length [] _ (Nat.le_refl _) (by omega) (Ht.out.below hB3) Hg.out (by simp)) ?_
  rintro e w3 ⟨rfl, hg3, hb3⟩
  rw [List.nil_append] at hg3
  obtain ⟨hx3, ho3, _, _, _⟩ := hg3
  have hc3 := hx3.cell
  have hB4 := hB3.trans hb3
  have Ho3 : Hid (w3.ownsRow w.heap.size 3 1 (.slice (some ⟨w1.heap.size, 0, none⟩) zs.length zs.length) zs.length (ints zs)) := ho3
  have hle : w.heap.size ≤ w1.heap.size := hB1.size
  clear hx3 ho3 hb3 hB3 Hg Hown2 Ht H hrun hbx2 hc hc2
  go_wp2_with fail
  go_ret
  exact ⟨hB4, _, zs.length, rfl, Nat.le_refl _, hm, hle, Ho3.out⟩
theorem ListPost.reads {zs : List Int} {w w' : World} {g cap : Nat} (h : w'.ownsRow w.heap.size 3 1 (.slice (some ⟨g, 0, none⟩) zs.length cap) zs.length (ints zs)) : g < w'.heap.size ∧ ∀ j, j < zs.length → w'.cell? ⟨g, 0 + j, none⟩ = some (.int .i64 (zs.getD j 0)) := by
  rcases h.2 with ⟨h0, _⟩ | ⟨g', cap', cur, hv, hb, hg, hn, hm, hsz, htake⟩
  · cases h0
  · cases hv
    exact ⟨(Array.getElem?_eq_some_iff.1 hg).1, owned_cells hg htake⟩
end Go.Proofs.Ytoopgkgjhbihjaa.Seek
