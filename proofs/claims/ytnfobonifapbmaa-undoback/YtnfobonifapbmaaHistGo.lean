/- The contracts of undo.with, turned, Do, Back and Again at numbers. -/
import Derived.Test.YtnfobonifapbmaaAppends
import Derived.Deep.Cut
import Derived.Deep.CutRange
import Derived.Deep.RegionWith
import Derived.Deep.RegionHeld3
import Derived.Laws.Rows
import Derived.Laws.Tables
import Derived.Laws.ResultCell
set_option linter.unusedVariables false
set_option linter.unusedSimpArgs false
namespace Go.Proofs.Ytnfobonifapbmaa.Seek
open Go.RowKit

theorem size_alloc (w : World) (o : Obj) : (w.alloc o).heap.size = w.heap.size + 1 := by show (w.heap.push o).size = _; simp
theorem box_below (w : World) (o : Obj) : Below w.heap.size w (w.alloc o) := (Below.refl _ _).alloc (Nat.le_refl _) _
theorem heap_new (w : World) (o : Obj) : (w.alloc o).heap[w.heap.size]? = some o := by show (w.heap.push o)[w.heap.size]? = _; simp
theorem new_cell2 (w : World) (u v : Value) (j : Nat) (x : Value) (h : (#[u, v] : Array Value)[j]? = some x) : (w.alloc (.cells #[u, v] 22)).cell? ⟨w.heap.size, j, none⟩ = some x := by
  unfold World.cell?
  simp only
  rw [heap_new]
  simpa using h
theorem concat2 (v1 v2 : Value) (x1 x2 : List Int) (w : World) (h1 : Reads w v1 x1) (h2 : Reads w v2 x2) (hb : (x1 ++ x2).length * 8 ≤ 281474976710656) :
    Calls Try.prog 13 #[.slice (some ⟨w.heap.size, 0, none⟩) 2 2] (w.alloc (.cells #[v1, v2] 22)) fun e w' => ConcatPost (x1 ++ x2) (w.alloc (.cells #[v1, v2] 22)) e w' := by
  have hj : joined (fun j => match j with | 0 => x1 | _ => x2) 2 = x1 ++ x2 := by simp [joined]
  have := concat_any w.heap.size 2 2 (fun j => match j with | 0 => v1 | _ => v2) (fun j => match j with | 0 => x1 | _ => x2) (w.alloc (.cells #[v1, v2] 22)) (by decide) (by rw [size_alloc]; omega)
    (fun j hj => by
      match j, hj with
      | 0, _ => exact new_cell2 w _ _ 0 _ rfl
      | 1, _ => exact new_cell2 w _ _ 1 _ rfl)
    (fun j hj => by
      match j, hj with
      | 0, _ => exact h1.below (box_below _ _)
      | 1, _ => exact h2.below (box_below _ _)) (by rw [hj]; exact hb)
  rw [hj] at this
  exact this

/-- A history in a variable of its own. -/
def BoxH (w : World) (b : Nat) (v u : Value) : Prop := (∃ a n c, v = .slice a n c) ∧ (∃ a n c, u = .slice a n c) ∧ w.heap[b]? = some (.cells #[v, u] 24 (0, 0))
theorem BoxH.lt {w : World} {b : Nat} {v u : Value} (h : BoxH w b v u) : b < w.heap.size := (Array.getElem?_eq_some_iff.1 h.2.2).1
theorem BoxH.cell0 {w : World} {b : Nat} {v u : Value} (h : BoxH w b v u) : w.cell? ⟨b, 0, none⟩ = some v := by simp [World.cell?, h.2.2]
theorem BoxH.cell1 {w : World} {b : Nat} {v u : Value} (h : BoxH w b v u) : w.cell? ⟨b, 1, none⟩ = some u := by simp [World.cell?, h.2.2]
theorem BoxH.new (w : World) (a b : Option Addr) (n c m d : Nat) : BoxH (w.alloc (.cells #[.slice a n c, .slice b m d] 24)) w.heap.size (.slice a n c) (.slice b m d) :=
  ⟨⟨_, _, _, rfl⟩, ⟨_, _, _, rfl⟩, by show (w.heap.push _)[w.heap.size]? = _; simp [Array.getElem?_push]⟩
theorem BoxH.next (w : World) (o : Obj) (a b : Option Addr) (n c m d : Nat) : BoxH ((w.alloc o).alloc (.cells #[.slice a n c, .slice b m d] 24)) (w.heap.size + 1) (.slice a n c) (.slice b m d) := by
  have := BoxH.new (w.alloc o) a b n c m d
  rw [size_alloc] at this
  exact this
theorem below_two (w : World) (o p : Obj) : Below w.heap.size w ((w.alloc o).alloc p) := (box_below _ _).alloc (by rw [size_alloc]; omega) _
theorem BoxH.below {w w' : World} {b : Nat} {v u : Value} (h : BoxH w b v u) (hb : Below w.heap.size w w') : BoxH w' b v u := ⟨h.1, h.2.1, (hb.block b h.lt).trans h.2.2⟩
theorem BoxH.kept {w w' : World} {b : Nat} {v u : Value} {row : Option Nat} (h : BoxH w b v u) (hg : w.grownBy w' row) (hne : some b ≠ row) : BoxH w' b v u := ⟨h.1, h.2.1, (hg.block b h.lt hne).trans h.2.2⟩
theorem sizeH (v u : Value) : (Try.prog.info? 24).map (·.size) = some (#[v, u] : Array Value).size := by
  have h2 : (Try.prog.info? 24).map (·.size) = some 2 := by kernel_rfl
  exact h2
/-- A history into its variable. -/
theorem storeH {w : World} {ops : Array Oper} {rest : List Oper} {o : Oper} {a : Act} {Q : Exit → Act → World → Prop} (hw : Region.wanted o (yielded ops a.tmps) = true) (x y : Operand) (ho : o.op = .store 24 x y) (g : Nat) (hx : a.eval x = .pointer (some ⟨g, 0, none⟩))
    (p q : Value) (c d : Option Addr) (n i m j : Nat) (hy : a.eval y = .agg #[.slice c n i, .slice d m j]) (hg : BoxH w g p q)
    (h : ∀ w', BoxH w' g (.slice c n i) (.slice d m j) → w.grownBy w' (some g) → wpList Try.prog ops Q rest (a.put o.dst undef) w') : wpList Try.prog ops Q (o :: rest) a w :=
  wpList_step fun K hK => by
    rw [if_pos hw]
    refine wp_store_row 24 x y ho g _ hx hy 24 _ hg.2.2 (sizeH _ _) rfl (by simp only [List.all_toArray, List.all_cons, List.all_nil, Bool.and_true, Bool.and_eq_true]; exact ⟨rfl, rfl⟩) (hK _ _ (h _ ⟨⟨_, _, _, rfl⟩, ⟨_, _, _, rfl⟩, setRow_heap w g _ _ 24 (0, 0) hg.2.2⟩ ?_))
    exact ⟨rfl, rfl, rfl, by rw [setRow_size]; exact Nat.le_refl _, fun k _ hk => setRow_other w g k _ (fun e => hk (by rw [e]))⟩
/-- A slice of numbers does not lie in a history's variable. -/
theorem Reads.keptH {w w' : World} {g : Nat} {v p q : Value} {zs : List Int} (h : Reads w v zs) (hg : w.grownBy w' (some g)) (hb : BoxH w g p q) : Reads w' v zs := by
  rcases h with h | ⟨b, off, cap, hv, hcap, hm, hlt, hc⟩
  · exact .inl h
  · by_cases h0 : zs.length = 0
    · exact .inl ⟨_, cap, by rw [hv, h0], List.length_eq_zero_iff.1 h0⟩
    · have hne : b ≠ g := by
        intro e
        subst e
        have h1 := hc 0 (by omega)
        rw [cell_of_row w b _ _ 24 (0, 0) hb.2.2] at h1
        obtain ⟨⟨_, _, _, rfl⟩, ⟨_, _, _, rfl⟩, _⟩ := hb
        have := Array.mem_of_getElem? h1
        simp at this
      exact .inr ⟨b, off, cap, hv, hcap, hm, Nat.lt_of_lt_of_le hlt hg.size, fun j hj => (World.cell?_of_block (by exact hg.block b hlt (fun e => hne (Option.some.inj e)))).trans (hc j hj)⟩
theorem Own.keptH {w w' : World} {B g : Nat} {v p q : Value} {zs : List Int} (h : Own w B v zs) (hg : w.grownBy w' (some g)) (hb : BoxH w g p q) : Own w' B v zs := by
  rcases h with h | ⟨hz, g1, cap, hv, hB, hg1, h⟩
  · exact .inl h
  · refine .inr ⟨hz, g1, cap, hv, hB, Nat.lt_of_lt_of_le hg1 hg.size, h.kept hg (.inr ?_)⟩
    rw [hv]
    intro e
    obtain rfl : g1 = g := Option.some.inj e
    rcases h.2 with ⟨h0, _⟩ | ⟨g2, cap2, cur, hv2, _, hg2, _⟩
    · rw [hv] at h0; cases h0
    · rw [hv] at hv2
      cases hv2
      rw [hb.2.2] at hg2
      cases hg2

/-- A slice with its length beside. -/
theorem Own.shape {w : World} {B : Nat} {v : Value} {zs : List Int} (h : Own w B v zs) : ∃ a cap, v = .slice a zs.length cap := h.reads.shape

set_option maxHeartbeats 1000000 in
theorem with_any (v : Value) (zs : List Int) (x : Int) (w : World) (h : Reads w v zs) (hb : (zs.length + 1) * 8 ≤ 281474976710656) :
    Calls Try.prog 11 #[v, .int .i64 x] w fun e w' => Below w.heap.size w w' ∧ ∃ a c, e = .returned (.slice a (zs.length + 1) c) ∧ Own w' w.heap.size (.slice a (zs.length + 1) c) (zs ++ [x]) := by
  obtain ⟨a0, c0, rfl⟩ := h.shape
  have H := concat2 (.slice a0 zs.length c0) (.slice (some ⟨w.heap.size, 0, none⟩) 1 1) zs [x] (w.alloc (.cells #[.int .i64 x] 3)) (h.below (box_below _ _)) (reads_new w [x] (by show 1 ≤ maxLen; decide)) (by rw [List.length_append]; exact hb)
  rw [size_alloc] at H
  have HC : Hid (Calls Try.prog 13 _ _ _) := H
  clear H h hb
  go_enter Try.func11, Try.ntmps11
  go_wp2_with fail
  refine (HC.out).mono ?_
  rintro e w1 ⟨hb, v1, rfl, ho⟩
  have HB : Hid (Below w.heap.size w w1) := below_trans (box_below _ _) (below_trans (box_below _ _) hb (box_below _ _).size) (box_below _ _).size
  have hs : w.heap.size ≤ ((w.alloc (.cells #[.int .i64 x] 3)).alloc (.cells #[.slice a0 zs.length c0, .slice (some ⟨w.heap.size, 0, none⟩) 1 1] 22)).heap.size := by rw [size_alloc, size_alloc]; omega
  have HO : Hid (Own w1 w.heap.size v1 (zs ++ [x])) := ho.less hs
  clear hb ho HC hs
  obtain ⟨a, c, hv⟩ := HO.out.shape
  rw [List.length_append] at hv
  subst hv
  go_wp2_with fail
  go_ret
  exact ⟨HB.out, a, c, rfl, HO.out⟩

theorem turned_any (a b : Option Addr) (n c m d : Nat) (w : World) : Calls Try.prog 12 #[.agg #[.slice a n c, .slice b m d]] w fun e w' => Below w.heap.size w w' ∧ e = .returned (.agg #[.slice b m d, .slice a n c]) := by
  go_enter Try.func12, Try.ntmps12
  go_wp2_with fail
  have hB := BoxH.next w (Obj.cells #[Value.slice a n c, Value.slice b m d] 24) b a m d n c
  have h0 := hB.cell0
  have h1 := hB.cell1
  exact bodyPost_ret (v := .agg #[.slice b m d, .slice a n c]) (by simp [results, Try.results12, go_sem, h0, h1]) rfl ⟨(box_below _ _).alloc (by rw [size_alloc]; omega) _, rfl⟩

/-- What is kept. -/
def done (past : List Int) (most now : Int) : List Int := (past ++ [now]).drop (past.length + 1 - most.toNat)
theorem done_none (past : List Int) (most now : Int) (h : most < 1) : done past most now = [] := by
  unfold done
  rw [show most.toNat = 0 by omega]
  exact List.drop_of_length_le (by rw [List.length_append]; exact Nat.le_refl _)
theorem done_some (past : List Int) (most now : Int) (h : 1 ≤ most) : done past most now = past.drop (past.length + 1 - most.toNat) ++ [now] := by
  unfold done
  exact List.drop_append_of_le_length (by omega)
theorem done_len (past : List Int) (most now : Int) : (done past most now).length = min (past.length + 1) most.toNat := by
  unfold done
  rw [List.length_drop, List.length_append, List.length_singleton]
  omega

set_option maxHeartbeats 1000000 in
theorem do_none (a b : Option Addr) (n c m d : Nat) (most now : Int) (w : World) (h : most < 1) : Calls Try.prog 5 #[.agg #[.slice a n c, .slice b m d], .int .i64 most, .int .i64 now] w fun e w' => Below w.heap.size w w' ∧ e = .returned (.agg #[.slice none 0 0, .slice none 0 0]) := by
  go_enter Try.func5, Try.ntmps5
  go_wp2_with fail
  have hB := BoxH.next w (Obj.cells #[Value.slice a n c, Value.slice b m d] 24) none none 0 0 0 0
  have h0 := hB.cell0
  have h1 := hB.cell1
  exact bodyPost_ret (v := .agg #[.slice none 0 0, .slice none 0 0]) (by simp [results, Try.results5, go_sem, h0, h1]) rfl ⟨(box_below _ _).alloc (by rw [size_alloc]; omega) _, rfl⟩

set_option maxHeartbeats 1000000 in
theorem do_some (v u : Value) (past : List Int) (most now : Int) (w : World) (hv : Reads w v past) (b : Option Addr) (m d : Nat) (hu : u = .slice b m d) (hb : (past.length + 1) * 8 ≤ 281474976710656) (h : 1 ≤ most) (hm : most ≤ 9223372036854775807) :
    Calls Try.prog 5 #[.agg #[v, u], .int .i64 most, .int .i64 now] w fun e w' => Below w.heap.size w w' ∧ ∃ a c, e = .returned (.agg #[.slice a (done past most now).length c, .slice none 0 0]) ∧ Own w' w.heap.size (.slice a (done past most now).length c) (done past most now) := by
  subst hu
  obtain ⟨a, c, rfl⟩ := hv.shape
  have hcap := hv.cap_le
  obtain ⟨k, hk⟩ : ∃ k : Nat, k = past.length + 1 - most.toNat := ⟨_, rfl⟩
  have hkl : k ≤ past.length := by omega
  have hkc : k ≤ c := by omega
  have hmx : max (0 : Int) ((past.length : Int) - (most - 1)) = (k : Int) := by omega
  have HD : Hid (done past most now = past.drop k ++ [now]) := by rw [hk]; exact done_some past most now h
  have HV : Hid (∀ wx, Below w.heap.size w wx → Reads wx (.slice (if c = k then a else Option.map (fun x => x.add k) a) (past.length - k) (c - k)) (past.drop k)) := fun wx hb => by
    have := reads_slice (hv.below hb) k past.length hkl (Nat.le_refl _)
    unfold seg at this
    rw [List.take_of_length_le (by rw [List.length_drop]; exact Nat.le_refl _)] at this
    exact this
  obtain ⟨A, hA⟩ : ∃ A, (if c = k then a else Option.map (fun x => x.add k) a) = A := ⟨_, rfl⟩
  rw [hA] at HV
  clear hv hk
  have hl2 : (past.drop k).length = past.length - k := List.length_drop ..
  have HL : Hid ((done past most now).length = past.length - k + 1) := by show _ = _; rw [HD.out, List.length_append, hl2]; rfl
  go_enter Try.func5, Try.ntmps5
  go_wp2_with fail
  have HB1 : Hid (Below w.heap.size w ((w.alloc (Obj.cells #[Value.slice a past.length c, Value.slice b m d] 24)).alloc (Obj.cells #[Value.slice none 0 0, Value.slice none 0 0] 24))) := (box_below _ _).alloc (by rw [size_alloc]; omega) _
  have HZ1 : Hid (BoxH ((w.alloc (Obj.cells #[Value.slice a past.length c, Value.slice b m d] 24)).alloc (Obj.cells #[Value.slice none 0 0, Value.slice none 0 0] 24)) (w.heap.size + 1) (.slice none 0 0) (.slice none 0 0)) := BoxH.next _ _ _ _ _ _ _ _
  generalize (w.alloc (Obj.cells #[Value.slice a past.length c, Value.slice b m d] 24)).alloc (Obj.cells #[Value.slice none 0 0, Value.slice none 0 0] 24) = w1 at *
  have hw := with_any (.slice A (past.length - k) (c - k)) (past.drop k) now w1 (HV.out w1 HB1.out) (by rw [hl2]; omega)
  rw [← HD.out, hl2] at hw
  have HW : Hid (Calls Try.prog 11 _ _ _) := hw
  clear hw HV HD
  refine HW.out.mono ?_
  rintro e w2 ⟨hb2, a2, c2, rfl, ho⟩
  have HB2 : Hid (Below w.heap.size w w2) := below_trans HB1.out hb2 HB1.out.size
  have HZ2 : Hid (BoxH w2 (w.heap.size + 1) (.slice none 0 0) (.slice none 0 0)) := HZ1.out.below hb2
  have HO2 : Hid (Own w2 w.heap.size (.slice a2 (past.length - k + 1) c2) (done past most now)) := ho.less HB1.out.size
  clear HW hb2 ho HZ1 HB1
  have HG : Hid (w.heap.size ≤ w.heap.size + 1) := Nat.le_succ _
  generalize w.heap.size + 1 = G at *
  go_wp2_with (refine storeH rfl _ _ rfl G rfl _ _ _ _ _ _ _ _ rfl HZ2.out ?_)
  intro w3 hz hg
  have HB3 : Hid (Below w.heap.size w w3) := HB2.out.grown hg HB2.out.size (fun j hj => by have := HG.out; cases hj; omega)
  have HO3 : Hid (Own w3 w.heap.size (.slice a2 (past.length - k + 1) c2) (done past most now)) := HO2.out.keptH hg HZ2.out
  have h0 := hz.cell0
  have h1 := hz.cell1
  clear hz hg HZ2 HB2 HO2
  go_wp2_with fail
  refine bodyPost_ret (v := .agg #[.slice a2 (past.length - k + 1) c2, .slice none 0 0]) (by simp [results, Try.results5, go_sem, h0, h1]) rfl ?_
  rw [HL.out]
  exact ⟨HB3.out, _, _, rfl, HO3.out⟩
theorem do_any (v u : Value) (past : List Int) (most now : Int) (w : World) (hv : Reads w v past) (hu : ∃ a n c, u = .slice a n c) (hb : (past.length + 1) * 8 ≤ 281474976710656) (hm : most ≤ 9223372036854775807) :
    Calls Try.prog 5 #[.agg #[v, u], .int .i64 most, .int .i64 now] w fun e w' => Below w.heap.size w w' ∧ ∃ a c, e = .returned (.agg #[.slice a (done past most now).length c, .slice none 0 0]) ∧ Own w' w.heap.size (.slice a (done past most now).length c) (done past most now) := by
  obtain ⟨b, m, d, hu⟩ := hu
  by_cases h : most < 1
  · rw [done_none past most now h]
    obtain ⟨a, c, rfl⟩ := hv.shape
    subst hu
    refine (do_none a b _ c m d most now w h).mono ?_
    rintro e w' ⟨hb, rfl⟩
    exact ⟨hb, none, 0, rfl, .inl ⟨_, _, rfl, rfl⟩⟩
  · exact do_some v u past most now w hv b m d hu hb (by omega) hm

/-! Back. -/
def bokB (past : List Int) : Bool := !past.isEmpty
def behind (past future : List Int) (now : Int) : List Int := if past = [] then future else future ++ [now]
theorem clone_sl (v : Value) (zs : List Int) (w : World) (h : Reads w v zs) (hr : zs.length * 8 ≤ 140737488355328) :
    Calls Try.prog 6 #[v] w fun e w' => Below w.heap.size w w' ∧ ∃ a c, e = .returned (.slice a zs.length c) ∧ Own w' w.heap.size (.slice a zs.length c) zs := by
  refine (clone_any v zs w h hr).mono ?_
  rintro e w' ⟨hb, v', rfl, ho⟩
  obtain ⟨a, c, rfl⟩ := ho.shape
  exact ⟨hb, a, c, rfl, ho⟩

set_option maxHeartbeats 1000000 in
theorem back_none (a : Option Addr) (c : Nat) (u : Value) (future : List Int) (now : Int) (w : World) (hu : Reads w u future) (hr : future.length * 8 ≤ 140737488355328) :
    Calls Try.prog 8 #[.agg #[.slice a 0 c, u], .int .i64 now] w fun e w' => Below w.heap.size w w' ∧ ∃ b d, e = .returned (.tuple #[.agg #[.slice none 0 0, .slice b future.length d], .int .i64 now, .bool false]) ∧ Own w' w.heap.size (.slice b future.length d) future := by
  obtain ⟨b0, d0, rfl⟩ := hu.shape
  have HU : Hid (∀ wx, Below w.heap.size w wx → Reads wx (.slice b0 future.length d0) future) := fun wx hb => hu.below hb
  clear hu
  go_enter Try.func8, Try.ntmps8
  go_wp2_with fail
  have HB1 : Hid (Below w.heap.size w ((w.alloc (Obj.cells #[Value.slice a 0 c, Value.slice b0 future.length d0] 24)).alloc (Obj.cells #[Value.slice none 0 0, Value.slice none 0 0] 24))) := below_two _ _ _
  have HZ1 : Hid (BoxH ((w.alloc (Obj.cells #[Value.slice a 0 c, Value.slice b0 future.length d0] 24)).alloc (Obj.cells #[Value.slice none 0 0, Value.slice none 0 0] 24)) (w.heap.size + 1) (.slice none 0 0) (.slice none 0 0)) := BoxH.next _ _ _ _ _ _ _ _
  generalize (w.alloc (Obj.cells #[Value.slice a 0 c, Value.slice b0 future.length d0] 24)).alloc (Obj.cells #[Value.slice none 0 0, Value.slice none 0 0] 24) = w1 at *
  refine (clone_sl _ future w1 (HU.out w1 HB1.out) hr).mono ?_
  rintro e w2 ⟨hb2, a2, c2, rfl, ho⟩
  have HB2 : Hid (Below w.heap.size w w2) := below_trans HB1.out hb2 HB1.out.size
  have HZ2 : Hid (BoxH w2 (w.heap.size + 1) (.slice none 0 0) (.slice none 0 0)) := HZ1.out.below hb2
  have HO2 : Hid (Own w2 w.heap.size (.slice a2 future.length c2) future) := ho.less HB1.out.size
  have HG : Hid (w.heap.size ≤ w.heap.size + 1) := Nat.le_succ _
  clear hb2 ho HZ1 HB1 HU
  generalize w.heap.size + 1 = G at *
  go_wp2_with (refine storeH rfl _ _ rfl G rfl _ _ _ _ _ _ _ _ rfl HZ2.out ?_)
  intro w3 hz hg
  have HB3 : Hid (Below w.heap.size w w3) := HB2.out.grown hg HB2.out.size (fun j hj => by have := HG.out; cases hj; omega)
  have HO3 : Hid (Own w3 w.heap.size (.slice a2 future.length c2) future) := HO2.out.keptH hg HZ2.out
  have h0 := hz.cell0
  have h1 := hz.cell1
  clear hz hg HZ2 HB2 HO2
  go_wp2_with fail
  exact bodyPost_ret (v := .tuple #[.agg #[.slice none 0 0, .slice a2 future.length c2], .int .i64 now, .bool false]) (by simp [results, Try.results8, go_sem, h0, h1]) rfl ⟨HB3.out, _, _, rfl, HO3.out⟩
end Go.Proofs.Ytnfobonifapbmaa.Seek
