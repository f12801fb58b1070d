/- The contract of rope.tree. -/
import Derived.Test.YtoopgkgjhbihjaaNodesGo
import Derived.Test.YtoopgkgjhbihjaaLists
import Derived.Deep.RegionWith
import Derived.Deep.Cut
import Derived.Deep.CutRange
import Derived.Deep.DeepCutAuto
set_option linter.unusedVariables false
set_option linter.unusedSimpArgs false
namespace Go.Proofs.Ytoopgkgjhbihjaa.Seek
open Go.RowKit

/-- What tree leaves: new nodes alone. -/
def TreePost (zs : List Int) (w : World) (e : Ending) (w' : World) : Prop := Below w.heap.size w w' ∧ ∃ p, e = .returned (.pointer p) ∧ Tree w' w'.heap.size p zs

theorem new_cell (w : World) (vs : Array Value) (t : TypeId) (j : Nat) : (w.alloc (.cells vs t)).cell? ⟨w.heap.size, j, none⟩ = vs[j]? := by
  unfold World.cell?
  simp only
  rw [show ∀ o, (w.alloc o).heap[w.heap.size]? = some o from fun o => by show (w.heap.push o)[w.heap.size]? = _; simp]
  rfl

set_option maxRecDepth 100000 in
set_option maxHeartbeats 1600000 in
theorem tree_step (bb off M n cap : Nat) (ar : Addr) (x : Int) (zl zr : List Int) (w : World) (hn : n ≤ 4096) (hcap : n ≤ cap) (hcm : cap ≤ maxLen) (hn0 : 0 < n) (hM : M = n / 2) (hbb : bb < w.heap.size)
    (har : (if cap = M + 1 then some (⟨bb, off, none⟩ : Addr) else some ⟨bb, off + (M + 1), none⟩) = some ar)
    (hx : w.cell? ⟨bb, off + M, none⟩ = some (.int .i64 x))
    (hl : ∀ w1, Below w.heap.size w w1 → Calls Try.prog 32 #[.slice (some ⟨bb, off, none⟩) M cap] w1 fun e w' => TreePost zl w1 e w')
    (hr : ∀ w1, Below w.heap.size w w1 → Calls Try.prog 32 #[.slice (some ar) (n - (M + 1)) (cap - (M + 1))] w1 fun e w' => TreePost zr w1 e w') :
    Calls Try.prog 32 #[.slice (some ⟨bb, off, none⟩) n cap] w fun e w' => Below w.heap.size w w' ∧ ∃ b pl pr, e = .returned (.pointer (some ⟨b, 0, none⟩)) ∧ b < w'.heap.size ∧ w'.cell? ⟨b, 0, none⟩ = some (.pointer pl) ∧ w'.cell? ⟨b, 1, none⟩ = some (.pointer pr) ∧
      w'.cell? ⟨b, 2, none⟩ = some (.int .i64 x) ∧ w'.cell? ⟨b, 3, none⟩ = some (.int .i64 (n : Int)) ∧ Tree w' w'.heap.size pl zl ∧ Tree w' w'.heap.size pr zr := by
  have Hl : Hid _ := hl
  have Hr : Hid _ := hr
  clear hl hr
  unfold maxLen at hcm
  have hdiv : (n : Int) / 2 = (M : Int) := by omega
  have HM : Hid (M = n / 2) := hM
  have hMn : M < n := by omega
  clear hM
  go_enter Try.func32, Try.ntmps32
  have hi0 : (0 : Int) ≤ (M : Int) + 1 := by omega
  have hi1 : ((M : Int) + 1).toNat = M + 1 := by omega
  have hi2 : (M : Int) < (n : Int) := by omega
  have hi3 : (M : Int) + 1 ≤ (n : Int) := by omega
  have hi4 : (0 : Int) ≤ (M : Int) := by omega
  have hi5 : M ≤ cap := by omega
  have hi6 : ¬ cap = 0 := by omega
  have hi7 : IntKind.i64.wrap ((M : Int) + 1) = (M : Int) + 1 := IntWalk.i64_in _ ⟨by omega, by omega⟩
  have hi8 : (M : Int) ≤ (cap : Int) := by omega
  have hi9 : (n : Int) ≤ (cap : Int) := by omega
  have hi10 : M + 1 ≤ n := by omega
  go_wp2_with fail
  go_region_with (first
    | (go_at_call_of 32 (ar); refine (Hr.out _ ?_).mono ?_; (exact hB1); rintro e w2 ⟨hb2, pr, rfl, ht2⟩; have hx2 : w2.cell? ⟨bb, off + M, none⟩ = some (.int .i64 x) := (hb2.cell (by exact Nat.lt_of_lt_of_le hbb hB1.size)).trans hx1)
    | (go_at_call 32; refine (Hl.out _ ?_).mono ?_; (exact (Below.refl _ _).drew); rintro e w1 ⟨hb1, pl, rfl, ht1⟩; have hB1 : Below w.heap.size w w1 := below_trans ((Below.refl _ _).drew) hb1 (by exact Nat.le_refl _); have hx1 : w1.cell? ⟨bb, off + M, none⟩ = some (.int .i64 x) := (hb1.cell (by exact hbb)).trans hx))
  all_goals
    go_simp
    go_wp2_with fail
    go_ret
    have hBn : Below w2.heap.size w2 (w2.alloc (.cells #[.pointer pl, .pointer pr, .int .i64 x, .int .i64 (n : Int)] 55)) := (Below.refl _ _).alloc (Nat.le_refl _) _
    have hsz : (w2.alloc (.cells #[.pointer pl, .pointer pr, .int .i64 x, .int .i64 (n : Int)] 55)).heap.size = w2.heap.size + 1 := by show (w2.heap.push _).size = _; simp
    exact ⟨(below_trans hB1 hb2 hB1.size).trans (hBn.mono (Nat.le_trans hB1.size hb2.size)), w2.heap.size, pl, pr, rfl, by rw [hsz]; omega, new_cell w2 _ 55 0, new_cell w2 _ 55 1, new_cell w2 _ 55 2, new_cell w2 _ 55 3,
      ((ht1.below hb2).more hb2.size).below hBn |>.more (by rw [hsz]; omega), (ht2.below hBn).more (by rw [hsz]; omega)⟩

theorem tree_nil (a : Option Addr) (cap : Nat) (w : World) : Calls Try.prog 32 #[.slice a 0 cap] w fun e w' => e = .returned (.pointer none) ∧ w' = w := by
  go_enter Try.func32, Try.ntmps32
  go_wp2_with fail
  go_ret
  exact ⟨rfl, rfl⟩
theorem tree_any : ∀ (f : Nat) (zs : List Int) (v : Value) (w : World), zs.length ≤ f → zs.length ≤ 4096 → Reads w v zs → Calls Try.prog 32 #[v] w fun e w' => TreePost zs w e w'
  | f, zs, v, w, hf, hm, h => by
    by_cases h0 : zs.length = 0
    · obtain rfl := List.length_eq_zero_iff.1 h0
      obtain ⟨a, cap, rfl⟩ := h.shape
      refine (tree_nil a cap w).mono ?_
      rintro e w' ⟨rfl, rfl⟩
      exact ⟨Below.refl _ _, none, rfl, tree_none _ _⟩
    · rcases h with ⟨_, _, _, rfl⟩ | ⟨b, off, cap, rfl, hcap, hcm, hb, hc⟩
      · exact absurd rfl h0
      · cases f with
        | zero => omega
        | succ f =>
          obtain ⟨ar, har, hpart⟩ : ∃ ar : Addr, (if cap = zs.length / 2 + 1 then some (⟨b, off, none⟩ : Addr) else some ⟨b, off + (zs.length / 2 + 1), none⟩) = some ar ∧ Reads w (.slice (some ar) (zs.length - (zs.length / 2 + 1)) (cap - (zs.length / 2 + 1))) (zs.drop (zs.length / 2 + 1)) := by
            by_cases hce : cap = zs.length / 2 + 1
            · rw [if_pos hce]
              refine ⟨_, rfl, .inl ⟨some ⟨b, off, none⟩, cap - (zs.length / 2 + 1), ?_, ?_⟩⟩
              · rw [show zs.length - (zs.length / 2 + 1) = 0 by omega]
              · rw [List.drop_eq_nil_iff]
                omega
            · rw [if_neg hce]
              refine ⟨_, rfl, ?_⟩
              have := reads_part hc hb (zs.length / 2 + 1) (zs.length - (zs.length / 2 + 1)) (cap - (zs.length / 2 + 1)) (by omega) (by omega) (by omega)
              rw [List.take_of_length_le (by rw [List.length_drop]; omega)] at this
              exact this
          have hleft : Reads w (.slice (some ⟨b, off, none⟩) (zs.length / 2) cap) (zs.take (zs.length / 2)) := by
            have := reads_part hc hb 0 (zs.length / 2) cap (by omega) (by omega) hcm
            rw [List.drop_zero, Nat.add_zero] at this
            exact this
          refine (tree_step b off (zs.length / 2) zs.length cap ar (zs.getD (zs.length / 2) 0) (zs.take (zs.length / 2)) (zs.drop (zs.length / 2 + 1)) w hm hcap hcm (by omega) rfl hb har (hc _ (by omega))
            (fun w1 hb1 => tree_any f _ _ w1 (by rw [len_left]; omega) (by rw [len_left]; omega) (hleft.below hb1)) (fun w1 hb1 => tree_any f _ _ w1 (by rw [len_right]; omega) (by rw [len_right]; omega) (hpart.below hb1))).mono ?_
          rintro e w' ⟨hb', bn, pl, pr, rfl, hlt, c0, c1, c2, c3, hl, hr⟩
          exact ⟨hb', _, rfl, tree_node (List.length_pos_iff.1 (by omega)) hlt c0 c1 c2 c3 hl hr⟩

end Go.Proofs.Ytoopgkgjhbihjaa.Seek
