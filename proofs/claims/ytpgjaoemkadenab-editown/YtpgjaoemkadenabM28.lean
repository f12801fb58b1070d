/- The contracts of edit.with and edit.copied. -/
import Derived.Test.YtpgjaoemkadenabM26
import Derived.Test.YtpgjaoemkadenabM27
import Derived.Deep.RegionWith
set_option linter.unusedVariables false
set_option linter.unusedSimpArgs false
set_option maxRecDepth 100000
namespace Go.Proofs.Ytpgjaoemkadenab.Seek
open Go.RowKit Plain

/-- A piece in the place of a part. -/
def wit (zs : List Int) (f t : Nat) (x : List Int) : List Int := zs.take f ++ x ++ zs.drop t
theorem wit_len (zs : List Int) (f t : Nat) (x : List Int) (h1 : f ≤ t) (h2 : t ≤ zs.length) : (wit zs f t x).length = f + x.length + (zs.length - t) := by
  unfold wit
  simp only [List.length_append, List.length_take, List.length_drop]
  omega

set_option maxHeartbeats 400000 in
theorem copied_go (v : Value) (zs : List Int) (w : World) (h : Reads w v zs) (hm : Mild zs) :
    Calls Try.prog 44 #[v] w fun e w' => ConcatPost zs w e w' := by
  have H : Hid (Calls Try.prog 10 #[.slice (some ⟨w.heap.size, 0, none⟩) 1 1] (w.alloc (.cells #[v] 22)) fun e w' => ConcatPost zs (w.alloc (.cells #[v] 22)) e w') := concat1 v zs w h (by unfold Mild at hm; omega)
  have hs := size_alloc w (.cells #[v] 22)
  obtain ⟨a, cap, rfl⟩ := h.shape
  clear h hm
  go_enter Try.func44, Try.ntmps44
  go_wp2_with fail
  refine H.out.mono ?_
  rintro e w1 ⟨hb, v1, rfl, ho⟩
  have HB : Hid (Below w.heap.size w w1) := below_trans (box_below _ _) hb (box_below _ _).size
  have HO : Hid (Own w1 w.heap.size v1 zs) := ho.less (by omega)
  clear hb ho H hs
  go_wp2_with fail
  go_ret
  exact ⟨HB.out, _, rfl, HO.out⟩

theorem reads_cut {w : World} {a : Option Addr} {zs : List Int} {cap : Nat} (h : Reads w (.slice a zs.length cap) zs) (f t : Nat) (h1 : f ≤ t) (h2 : t ≤ zs.length) :
    Reads w (.slice a f cap) (zs.take f) ∧ Reads w (.slice (if cap = t then a else Option.map (fun x => x.add t) a) (zs.length - t) (cap - t)) (zs.drop t) ∧ zs.length ≤ cap := by
  refine ⟨?_, ?_, ?_⟩
  · have := reads_slice h 0 f (Nat.zero_le _) (by omega)
    have e : (if cap = 0 then a else Option.map (fun x => x.add 0) a) = a := by
      split
      · rfl
      · cases a <;> simp [Addr.add]
    rw [e] at this
    unfold seg at this
    rw [List.drop_zero, Nat.sub_zero, Nat.sub_zero] at this
    exact this
  · have := reads_slice h t zs.length h2 (Nat.le_refl _)
    unfold seg at this
    rw [List.take_of_length_le (by rw [List.length_drop]; omega)] at this
    exact this
  · rcases h with ⟨_, _, hv, rfl⟩ | ⟨b, off, c, hv, hcap, _⟩
    · exact Nat.zero_le _
    · simp only [Value.slice.injEq] at hv; omega

set_option maxHeartbeats 1000000 in
theorem with_go (v pv : Value) (zs x : List Int) (f t : Nat) (w : World) (h : Reads w v zs) (hp : Reads w pv x) (h1 : f ≤ t) (h2 : t ≤ zs.length) (hz : zs.length ≤ 4096) (hx : x.length ≤ 4096) :
    Calls Try.prog 45 #[v, .int .i64 (f : Int), .int .i64 (t : Int), pv] w fun e w' => ConcatPost (wit zs f t x) w e w' := by
  obtain ⟨a, cap, rfl⟩ := h.shape
  obtain ⟨a2, cap2, rfl⟩ := hp.shape
  obtain ⟨hl, hr, hle⟩ := reads_cut h f t h1 h2
  obtain ⟨A, hA⟩ : ∃ A, (if cap = t then a else Option.map (fun x => x.add t) a) = A := ⟨_, rfl⟩
  rw [hA] at hr
  have HCC : Hid (Calls Try.prog 10 #[.slice (some ⟨w.heap.size, 0, none⟩) 3 3] (w.alloc (.cells #[.slice a f cap, .slice a2 x.length cap2, .slice A (zs.length - t) (cap - t)] 22)).drew fun e w' => ConcatPost (wit zs f t x) (w.alloc (.cells #[.slice a f cap, .slice a2 x.length cap2, .slice A (zs.length - t) (cap - t)] 22)).drew e w') := by
    have hj : joined (fun j => match j with | 0 => zs.take f | 1 => x | _ => zs.drop t) 3 = wit zs f t x := by simp [joined, wit]
    have hB : Below w.heap.size w (w.alloc (.cells #[.slice a f cap, .slice a2 x.length cap2, .slice A (zs.length - t) (cap - t)] 22)).drew := below_drewN (box_below _ _) 1
    have := concat_any w.heap.size 3 3 (fun j => match j with | 0 => .slice a f cap | 1 => .slice a2 x.length cap2 | _ => .slice A (zs.length - t) (cap - t)) (fun j => match j with | 0 => zs.take f | 1 => x | _ => zs.drop t) (w.alloc (.cells #[.slice a f cap, .slice a2 x.length cap2, .slice A (zs.length - t) (cap - t)] 22)).drew (by decide) (by show w.heap.size < (w.alloc _).heap.size; rw [size_alloc]; omega)
      (fun j hj => by
        match j, hj with
        | 0, _ => exact new_cells w [.slice a f cap, .slice a2 x.length cap2, .slice A (zs.length - t) (cap - t)] _ 0 _ rfl
        | 1, _ => exact new_cells w [.slice a f cap, .slice a2 x.length cap2, .slice A (zs.length - t) (cap - t)] _ 1 _ rfl
        | 2, _ => exact new_cells w [.slice a f cap, .slice a2 x.length cap2, .slice A (zs.length - t) (cap - t)] _ 2 _ rfl)
      (fun j hj => by
        match j, hj with
        | 0, _ => exact hl.below hB
        | 1, _ => exact hp.below hB
        | 2, _ => exact hr.below hB) (by rw [hj, wit_len zs f t x h1 h2]; omega)
    rw [hj] at this
    exact this
  have HBW : Hid (Below w.heap.size w (w.alloc (.cells #[.slice a f cap, .slice a2 x.length cap2, .slice A (zs.length - t) (cap - t)] 22)).drew) := below_drewN (box_below _ _) 1
  have i2 : (f : Int) ≤ (cap : Int) := by omega
  have i3 : (t : Int) ≤ (zs.length : Int) := by omega
  clear h hp hl hr hle
  go_enter Try.func45, Try.ntmps45
  go_wp2_with fail
  go_region_with (go_at_call 10; refine HCC.out.mono ?_; rintro e w6 ⟨hb6, v6, rfl, hown6⟩)
  all_goals (
    have HB6 : Hid (Below w.heap.size w w6) := below_trans HBW.out hb6 HBW.out.size
    have HO6 : Hid (Own w6 w.heap.size v6 (wit zs f t x)) := hown6.less HBW.out.size
    clear hb6 hown6 HBW HCC hA
    go_wp2_with fail
    go_ret
    exact ⟨HB6.out, _, rfl, HO6.out⟩)
end Go.Proofs.Ytpgjaoemkadenab.Seek
