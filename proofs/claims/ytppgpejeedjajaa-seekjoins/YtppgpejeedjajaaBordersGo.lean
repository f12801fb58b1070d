/- The contract of seek.Borders. -/
import Derived.Test.YtppgpejeedjajaaLonger
import Derived.Test.YtppgpejeedjajaaFound
import Derived.OwnWalk
import Derived.Deep.RegionLaw
import Derived.BigRegion
set_option linter.unusedVariables false
set_option linter.unusedSimpArgs false
namespace Go.Proofs.Ytppgpejeedjajaa.Seek
open Go.RowKit

/-- The borders' list, its first i numbers told. -/
def bsAt (ps : List Int) (i : Nat) : List Int := (List.range ps.length).map fun j => if j < i then ((Plain.lb (fn ps) (j + 1) : Nat) : Int) else 0
def bords (ps : List Int) : List Int := bsAt ps ps.length
theorem bsAt_len (ps : List Int) (i : Nat) : (bsAt ps i).length = ps.length := by unfold bsAt; simp
theorem bsAt_get (ps : List Int) (i j : Nat) (h : j < ps.length) : (bsAt ps i).getD j 0 = if j < i then ((Plain.lb (fn ps) (j + 1) : Nat) : Int) else 0 := by
  unfold bsAt
  simp [List.getD_eq_getElem?_getD, h]
theorem bsAt_set (ps : List Int) (i : Nat) (h : i < ps.length) : (bsAt ps i).set i ((Plain.lb (fn ps) (i + 1) : Nat) : Int) = bsAt ps (i + 1) := by
  unfold bsAt
  apply List.ext_getElem
  · simp
  · intro j h1 h2
    rw [List.getElem_set]
    simp only [List.getElem_map, List.getElem_range]
    by_cases he : i = j
    · subst he
      simp
    · rw [if_neg he]
      by_cases hj : j < i
      · rw [if_pos hj, if_pos (by omega)]
      · rw [if_neg hj, if_neg (by omega)]
theorem bsAt_one (ps : List Int) : ints (bsAt ps 1) = List.replicate ps.length (.int .i64 0) := by
  unfold ints bsAt
  rw [List.map_map]
  apply List.ext_getElem
  · simp
  · intro j h1 h2
    simp only [List.getElem_map, List.getElem_range, Function.comp, List.getElem_replicate]
    split
    · have : j = 0 := by omega
      subst this
      rw [Plain.lb_one]
      rfl
    · rfl
theorem bsAt_all (ps : List Int) (i : Nat) (h : ps.length ≤ i) : bsAt ps i = bords ps := by
  unfold bords bsAt
  apply List.map_congr_left
  intro j hj
  rw [List.mem_range] at hj
  rw [if_pos (by omega), if_pos hj]

/-- longer, where the borders of all shorter beginnings are told. -/
theorem longer_border (b off cap : Nat) (ps : List Int) (bb n2 c2 : Nat) (i : Nat) (w : World) (hpl : ps.length ≤ 4096) (hi0 : 0 < i) (hi : i < ps.length) (hn2 : i ≤ n2)
    (hcp : ∀ j, j < ps.length → w.cell? ⟨b, off + j, none⟩ = some (.int .i64 (ps.getD j 0)))
    (hcb : ∀ j, j < i → w.cell? ⟨bb, j, none⟩ = some (.int .i64 ((Plain.lb (fn ps) (j + 1) : Nat) : Int))) :
    Calls Try.prog 24 #[.slice (some ⟨b, off, none⟩) ps.length cap, .slice (some ⟨bb, 0, none⟩) n2 c2, .int .i64 ((Plain.lb (fn ps) i : Nat) : Int), .int .i64 (ps.getD i 0)] w fun e w' =>
      e = .returned (.int .i64 ((Plain.lb (fn ps) (i + 1) : Nat) : Int)) ∧ w' = w := by
  refine (longer_some b off cap ps bb 0 n2 c2 (fun k => Plain.lb (fn ps) k) _ (ps.getD i 0) (Plain.Upto (fn ps) i) w hpl hcp (.start (Plain.lb_long _ _ hi0)) ?_ ?_ ?_ ?_).mono ?_
  · intro k hk
    have := hk.1.1
    omega
  · intro k hk h0
    have := hk.1.1
    have h := hcb (k - 1) (by omega)
    rw [show k - 1 + 1 = k by omega] at h
    rw [Nat.zero_add]
    exact h
  · intro k hk h0
    exact Plain.lb_lt _ _ h0
  · intro k hk h0 hor
    have := hk.1.1
    refine (Plain.Upto.back hk ?_ h0 (Plain.lb_long _ _ h0)).1
    rcases hor with h | h
    · omega
    · exact h
  · rintro e w' ⟨rfl, k, r, hk, rfl, h⟩
    refine ⟨?_, rfl⟩
    rcases h with ⟨_, h2, rfl⟩ | ⟨rfl, rfl, h2⟩
    · rw [Plain.lb_of (hk.hit h2)]
    · rcases h2 with h2 | h2
      · omega
      · rw [Plain.lb_of (hk.miss h2)]

/-- Borders' answer. -/
def BordersPost (ps : List Int) (w : World) (e : Ending) (w' : World) : Prop :=
  Below w.heap.size w w' ∧ ((4096 < ps.length ∧ e = .returned (.tuple #[.slice none 0 0, .int .i64 2])) ∨ (ps.length ≤ 4096 ∧ ∃ v, e = .returned (.tuple #[v, .int .i64 0]) ∧ Reads w' v (bords ps)))

theorem ints_set (zs : List Int) (i : Nat) (z : Int) : (ints zs).set i (.int .i64 z) = ints (zs.set i z) := by
  unfold ints
  rw [List.map_set]

set_option maxHeartbeats 1000000 in
theorem borders_some (b off cap : Nat) (ps : List Int) (w : World) (hpl : ps.length ≤ 4096) (hb : b < w.heap.size)
    (hcp : ∀ j, j < ps.length → w.cell? ⟨b, off + j, none⟩ = some (.int .i64 (ps.getD j 0))) :
    Calls Try.prog 8 #[.slice (some ⟨b, off, none⟩) ps.length cap] w fun e w' => BordersPost ps w e w' := by
  obtain ⟨i0, hi, hz0, hz1, hz2⟩ := info_parts info3
  have Hcp : Hid (∀ j, j < ps.length → w.cell? ⟨b, off + j, none⟩ = some (.int .i64 (ps.getD j 0))) := hcp
  clear hcp
  go_enter Try.func8, Try.ntmps8
  go_wp2_with (at_make; refine wpList_make_full _ rfl _ _ 22 rfl w.heap.size 3 i0 (.int .i64 0) 1 Try.underlying22 hi hz0 hz1 .i64 .i64 _ _ ps.length rfl rfl rfl rfl (by rw [hz2]; omega) (by unfold maxLen; omega) (Nat.le_refl _) ?_)
  intro w1 hown0 hgr
  have hown : w1.ownsRow w.heap.size 3 1 (.slice (some ⟨w.heap.size, 0, none⟩) ps.length ps.length) ps.length (ints (bsAt ps 1)) := by
    rw [bsAt_one, ← toList_madeCells_one]
    exact hown0
  clear hown0
  have hb1 : Below w.heap.size w w1 := (Below.refl _ _).grown hgr (Nat.le_refl _) (fun j hj => by cases hj)
  clear hgr
  go_wp2_with fail
  go_loopw [5] (fun u wr => ∃ k : Nat, u = .int .i64 (k : Int) ∧ 1 ≤ k ∧ (k ≤ ps.length ∨ k = 1) ∧ Hid (wr.ownsRow w.heap.size 3 1 (.slice (some ⟨w.heap.size, 0, none⟩) ps.length ps.length) ps.length (ints (bsAt ps k))) ∧ Below w.heap.size w wr)
    (fun u _ => ps.length - (intOf u).toNat)
  case atStart => exact ⟨1, rfl, by omega, by omega, hown, hb1⟩
  case round =>
    obtain ⟨k, rfl, hk1, hk, Ho, hbr⟩ := hrel
    by_cases hlt : k < ps.length
    · obtain ⟨k1, rfl⟩ : ∃ k1, k = k1 + 1 := ⟨k - 1, by omega⟩
      have hcells : ∀ j, j < k1 + 1 → wr.cell? ⟨w.heap.size, j, none⟩ = some (.int .i64 ((Plain.lb (fn ps) (j + 1) : Nat) : Int)) := by
        intro j hj
        rw [Ho.out.cellAt j (by omega)]
        unfold ints bsAt
        simp [hj, show j < ps.length by omega]
      have hfro := Ho.out.frozenAt (k1 + 1)
      obtain ⟨v0, hst⟩ : ∃ v, wr.cell? ⟨w.heap.size, k1 + 1, none⟩ = some v := by
        rw [Ho.out.cellAt (k1 + 1) (by omega)]
        exact ⟨_, List.getElem?_eq_getElem (by rw [ints_len, bsAt_len]; exact hlt)⟩
      have hprev := hcells k1 (by omega)
      have Hcells : Hid (∀ j, j < k1 + 1 → wr.cell? ⟨w.heap.size, j, none⟩ = some (.int .i64 ((Plain.lb (fn ps) (j + 1) : Nat) : Int))) := hcells
      clear hcells
      have hpk : wr.cell? ⟨b, off + (k1 + 1), none⟩ = some (.int .i64 (ps.getD (k1 + 1) 0)) := (hbr.cell (by exact hb)).trans (Hcp.out _ hlt)
      have Hcpr : Hid (∀ j, j < ps.length → wr.cell? ⟨b, off + j, none⟩ = some (.int .i64 (ps.getD j 0))) := fun j hj => (hbr.cell (by exact hb)).trans (Hcp.out _ hj)
      have hcall : ∀ q, Calls Try.prog 24 #[.slice (some ⟨b, off, none⟩) ps.length cap, .slice (some ⟨w.heap.size, 0, none⟩) ps.length ps.length, .int .i64 ((Plain.lb (fn ps) (k1 + 1) : Nat) : Int), .int .i64 (ps.getD (k1 + 1) 0)] (wr.drewN q) fun e w' =>
          e = .returned (.int .i64 ((Plain.lb (fn ps) (k1 + 1 + 1) : Nat) : Int)) ∧ w' = wr.drewN q := fun q => longer_border b off cap ps w.heap.size ps.length ps.length (k1 + 1) _ hpl (by omega) hlt (by omega) Hcpr.out Hcells.out
      have Hst : Hid ((wr.setCell ⟨w.heap.size, k1 + 1, none⟩ (.int .i64 ((Plain.lb (fn ps) (k1 + 1 + 1) : Nat) : Int))).ownsRow w.heap.size 3 1 (.slice (some ⟨w.heap.size, 0, none⟩) ps.length ps.length) ps.length (ints (bsAt ps (k1 + 1 + 1)))) := by
        have h := (Ho.out.stored (k1 + 1) (.int .i64 ((Plain.lb (fn ps) (k1 + 1 + 1) : Nat) : Int))).1
        rw [ints_set, bsAt_set ps (k1 + 1) hlt] at h
        exact h
      have Hcall : Hid (∀ q, Calls Try.prog 24 #[.slice (some ⟨b, off, none⟩) ps.length cap, .slice (some ⟨w.heap.size, 0, none⟩) ps.length ps.length, .int .i64 ((Plain.lb (fn ps) (k1 + 1) : Nat) : Int), .int .i64 (ps.getD (k1 + 1) 0)] (wr.drewN q) fun e w' =>
          e = .returned (.int .i64 ((Plain.lb (fn ps) (k1 + 1 + 1) : Nat) : Int)) ∧ w' = wr.drewN q) := hcall
      clear hcall Ho Hcells Hcpr
      generalize Plain.lb (fn ps) (k1 + 1) = x at *
      generalize Plain.lb (fn ps) (k1 + 1 + 1) = y at *
      generalize ps.getD (k1 + 1) 0 = z at *
      have hI1 : (k1 : Int) < (ps.length : Int) := by omega
      have hI2 : (k1 : Int) + 1 < (ps.length : Int) := by omega
      have hI3 : (0 : Int) ≤ (k1 : Int) := by omega
      have hI4 : (0 : Int) ≤ (k1 : Int) + 1 := by omega
      have hW1 : IntKind.i64.wrap (k1 : Int) = (k1 : Int) := IntWalk.i64_in _ ⟨by omega, by omega⟩
      go_wp2_with fail
      go_region_with (go_at_call 24; refine (Hcall.out 1).mono ?_; rintro e w' ⟨rfl, rfl⟩)
      all_goals (
        go_wp2_with fail
        go_roundw
        case rel => exact ⟨k1 + 1 + 1, by go_num, by omega, by omega, Hst.out, (below_drewN hbr 1).setCell (p := ⟨w.heap.size, k1 + 1, none⟩) (Nat.le_refl _) _⟩
        case measure => simp [intOf]; omega)
    · have hr : Reads wr (.slice (some ⟨w.heap.size, 0, none⟩) ps.length ps.length) (bords ps) := by
        have h := Ho.out
        rw [bsAt_all ps k (by omega)] at h
        have h2 := owned_reads (zs := bords ps) (v := .slice (some ⟨w.heap.size, 0, none⟩) ps.length ps.length) (w := wr) (B := w.heap.size)
        rw [show (bords ps).length = ps.length from bsAt_len _ _] at h2
        exact h2 h
      have Hr : Hid (Reads wr (.slice (some ⟨w.heap.size, 0, none⟩) ps.length ps.length) (bords ps)) := hr
      clear hr Ho
      go_wp2_with fail
      go_ret2
      exact ⟨hbr, .inr ⟨hpl, _, rfl, Hr.out⟩⟩

theorem borders_large (a : Option Addr) (n cap : Nat) (ps : List Int) (w : World) (hn : n = ps.length) (hpl : 4096 < n) (hm : n ≤ maxLen) :
    Calls Try.prog 8 #[.slice a n cap] w fun e w' => BordersPost ps w e w' := by
  have Hn : Hid (n = ps.length) := hn
  clear hn
  go_enter Try.func8, Try.ntmps8
  go_wp2_with fail
  go_ret2
  exact ⟨Below.refl _ _, .inl ⟨by rw [← Hn.out]; exact hpl, rfl⟩⟩

set_option maxHeartbeats 1000000 in
theorem borders_empty (a : Option Addr) (cap : Nat) (w : World) : Calls Try.prog 8 #[.slice a 0 cap] w fun e w' => BordersPost [] w e w' := by
  obtain ⟨i0, hi, hz0, hz1, hz2⟩ := info_parts info3
  go_enter Try.func8, Try.ntmps8
  go_wp2_with (at_make; refine wpList_make_full _ rfl _ _ 22 rfl w.heap.size 3 i0 (.int .i64 0) 1 Try.underlying22 hi hz0 hz1 .i64 .i64 _ _ 0 rfl rfl rfl rfl (by rw [hz2]; omega) (by unfold maxLen; omega) (Nat.le_refl _) ?_)
  intro w1 hown0 hgr
  have hb1 : Below w.heap.size w w1 := (Below.refl _ _).grown hgr (Nat.le_refl _) (fun j hj => by cases hj)
  clear hgr hown0
  go_wp2_with fail
  refine wp_loop_rounds 1 ?_
  rw [rounds_succ]
  go_wp2_with fail
  go_ret2
  exact ⟨hb1, .inr ⟨by decide, _, rfl, .inl ⟨_, _, rfl, rfl⟩⟩⟩

theorem borders_any (v : Value) (ps : List Int) (w : World) (h : Reads w v ps) (hm : ps.length ≤ maxLen) :
    Calls Try.prog 8 #[v] w fun e w' => BordersPost ps w e w' := by
  obtain ⟨a, cap, hv⟩ := h.shape
  by_cases hl : 4096 < ps.length
  · rw [hv]
    exact borders_large a ps.length cap ps w rfl hl hm
  · rcases h with ⟨a, cap, rfl, rfl⟩ | ⟨b, off, cap, rfl, hcap, hmm, hlt, hc⟩
    · exact borders_empty a cap w
    · exact borders_some b off cap ps w (by omega) hlt hc
end Go.Proofs.Ytppgpejeedjajaa.Seek
