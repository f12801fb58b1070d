/- The document's Key, and SameLine. -/
import Derived.Test.YtpgjaoemkadenaaRefKey0
set_option linter.unusedVariables false
set_option linter.unusedSimpArgs false
set_option maxRecDepth 100000
namespace Go.Proofs.Ytpgjaoemkadenaa.Seek
open Go.RowKit Plain
set_option maxHeartbeats 1000000 in
theorem refKey_ovr2 (a : Option Addr) (cap : Nat) (zs : List Int) (k : Nat) (mode key : Int) (w : World) (h : Reads w (.slice a zs.length cap) zs) (hk : k ≤ zs.length) (hl : zs.length ≤ 200) (hkl : k < zs.length) (hc1 : cap - k ≠ 1) (hk32 : 32 ≤ key) (hne : key ≠ 127) (hm : mode = 2) (T : List Int) (hT : T = wit zs k (k + 1) [key]) :
    Calls Try.prog 9 #[.agg #[.slice a zs.length cap, .int .i64 (k : Int)], .int .i64 mode, .int .i64 key] w fun e w' => LineRead (T, (k : Int) + 1, 0) w e w' := by
  have HV : Hid (∀ wx, Below w.heap.size w wx → Reads wx (.slice a zs.length cap) zs) := fun wx hx => h.below hx
  subst hm
  have hb2 : (key != 127) = true := by simpa using hne
  have HT : Hid (T = wit zs k (k + 1) [key]) := hT
  clear hT
  have hz1 : (0 : Int) < ((zs.length - k : Nat) : Int) := by omega
  have hz2 : (1 : Int) ≤ ((zs.length - k : Nat) : Int) := by omega
  have hw1 : IntKind.i64.wrap ((k : Int) + 1) = (k : Int) + 1 := by rw [IntKind.wrap_i64]; omega
  obtain ⟨bb, oo, hbb⟩ : ∃ bb oo, a = some ⟨bb, oo, none⟩ := by
    rcases h with ⟨_, _, _, hnil⟩ | ⟨bb, oo, _, hv, _⟩
    · rw [hnil] at hkl; cases hkl
    · simp only [Value.slice.injEq] at hv; exact ⟨bb, oo, hv.1⟩
  subst hbb
  have hcn : ¬ cap = k := by have := (reads_cut h k k (Nat.le_refl _) hk).2.2; omega
  have hl2 : (zs.length : Int) ≤ 200 := by omega
  have hk1 : (0 : Int) ≤ (k : Int) := by omega
  have hk2 : (k : Int) ≤ (zs.length : Int) := by omega
  obtain ⟨A, hA, hL, hR, hcap⟩ := reads_cut2 h k k (Nat.le_refl _) hk
  rw [if_neg hcn, show Option.map (fun x : Addr => x.add k) (some ⟨bb, oo, none⟩) = some ⟨bb, oo + k, none⟩ by simp [Addr.add]] at hA
  subst hA
  have hk3 : (k : Int) ≤ (cap : Int) := by omega
  have HL : Hid (∀ wx, Below w.heap.size w wx → Reads wx (.slice (some ⟨bb, oo, none⟩) k cap) (zs.take k)) := fun wx hx => hL.below hx
  have HRt : Hid (∀ wx, Below w.heap.size w wx → Reads wx (.slice (some ⟨bb, oo + k, none⟩) (zs.length - k) (cap - k)) (zs.drop k)) := fun wx hx => hR.below hx
  clear h hL hR hcap
  go_enter Try.func9, Try.ntmps9
  go_wp2_with (fail)
  obtain ⟨w1, hw_w1⟩ : ∃ w1, w1 = ((w.alloc (.cells #[.slice (some ⟨bb, oo, none⟩) zs.length cap, .int .i64 (k : Int)] 24)).alloc (.cells #[.slice none 0 0, .int .i64 0] 24)) := ⟨_, rfl⟩
  rw [← hw_w1]
  obtain ⟨hx0, hx1, hxb⟩ := start2 w 24 24 [.slice (some ⟨bb, oo, none⟩) zs.length cap, .int .i64 (k : Int)] [.slice none 0 0, .int .i64 0]
  rw [← hw_w1] at hx0 hx1 hxb
  have hsz_w1 : w.heap.size + 1 + 1 = w1.heap.size := by rw [hw_w1, size_alloc, size_alloc]
  try rw [hsz_w1]
  clear hsz_w1
  have HB_w1 : Hid (Below w.heap.size w w1) := hxb
  have A_w1 : Hid (BoxC w1 24 w.heap.size [.slice (some ⟨bb, oo, none⟩) zs.length cap, .int .i64 (k : Int)]) := hx0
  obtain ⟨G, hl_G⟩ : ∃ G, G = w.heap.size + 1 := ⟨_, rfl⟩
  rw [← hl_G] at hx1
  have Z_w1 : Hid (BoxC w1 24 G [.slice none 0 0, .int .i64 0]) := hx1
  have HLG : Hid (w.heap.size ≤ G ∧ w.heap.size < G) := by show _ ∧ _; omega
  clear hx0 hx1 hxb
  try rw [← hl_G]
  clear hw_w1
  clear hl_G
  have cA0 : w1.cell? ⟨w.heap.size, 0, none⟩ = some (.slice (some ⟨bb, oo, none⟩) zs.length cap) := (A_w1.out.cell 0).trans rfl
  have cA1 : w1.cell? ⟨w.heap.size, 1, none⟩ = some (.int .i64 (k : Int)) := (A_w1.out.cell 1).trans rfl
  go_quiet (fail)
  generalize hq_w2 : w1.drewN _ = w2
  have hb : Below w1.heap.size w1 w2 := by rw [← hq_w2]; exact below_drewN (Below.refl _ _) _
  clear hq_w2
  have HB_w2 : Hid (Below w.heap.size w w2) := below_trans HB_w1.out hb HB_w1.out.size
  have A_w2 : Hid (BoxC w2 24 w.heap.size [.slice (some ⟨bb, oo, none⟩) zs.length cap, .int .i64 (k : Int)]) := A_w1.out.below hb
  have Z_w2 : Hid (BoxC w2 24 G [.slice none 0 0, .int .i64 0]) := Z_w1.out.below hb
  clear A_w1 Z_w1 HB_w1
  clear hb
  clear cA0 cA1
  have cA0 : w2.cell? ⟨w.heap.size, 0, none⟩ = some (.slice (some ⟨bb, oo, none⟩) zs.length cap) := (A_w2.out.cell 0).trans rfl
  have cA1 : w2.cell? ⟨w.heap.size, 1, none⟩ = some (.int .i64 (k : Int)) := (A_w2.out.cell 1).trans rfl
  obtain ⟨A2, hA2, hR1, hR2, hR3⟩ := reads_cut2 (zs := zs.drop k) (a := (some ⟨bb, oo + k, none⟩)) (cap := cap - k) (by rw [List.length_drop]; exact (HRt.out _ HB_w2.out)) 1 1 (Nat.le_refl _) (by rw [List.length_drop]; omega)
  rw [List.length_drop] at hR2
  rw [if_neg hc1, show Option.map (fun x : Addr => x.add 1) (some ⟨bb, oo + k, none⟩) = some ⟨bb, oo + k + 1, none⟩ by simp [Addr.add]] at hA2
  subst hA2
  have HR2 : Hid (∀ wx, Below w2.heap.size w2 wx → Reads wx (.slice (some ⟨bb, oo + k + 1, none⟩) (zs.length - k - 1) (cap - k - 1)) ((zs.drop k).drop 1)) := fun wx hx => hR2.below hx
  clear hR1 hR2 hR3
  have HBW : Hid (Below w2.heap.size w2 ((w2.alloc (.cells #[.int .i64 key] 3)).alloc (.cells #[.slice (some ⟨bb, oo, none⟩) k cap, .slice (some ⟨w2.heap.size, 0, none⟩) 1 1, .slice (some ⟨bb, oo + k + 1, none⟩) (zs.length - k - 1) (cap - k - 1)] 22)).drew) := below_drewN ((box_below _ _).alloc (by rw [size_alloc]; omega) _) 1
  have HCC : Hid (Calls Try.prog 15 #[.slice (some ⟨w2.heap.size + 1, 0, none⟩) 3 3] ((w2.alloc (.cells #[.int .i64 key] 3)).alloc (.cells #[.slice (some ⟨bb, oo, none⟩) k cap, .slice (some ⟨w2.heap.size, 0, none⟩) 1 1, .slice (some ⟨bb, oo + k + 1, none⟩) (zs.length - k - 1) (cap - k - 1)] 22)).drew fun e w' => ConcatPost T ((w2.alloc (.cells #[.int .i64 key] 3)).alloc (.cells #[.slice (some ⟨bb, oo, none⟩) k cap, .slice (some ⟨w2.heap.size, 0, none⟩) 1 1, .slice (some ⟨bb, oo + k + 1, none⟩) (zs.length - k - 1) (cap - k - 1)] 22)).drew e w') := by
    have hj : joined (fun j => match j with | 0 => zs.take k | 1 => [key] | _ => (zs.drop k).drop 1) 3 = T := by rw [HT.out]; simp [joined, wit]
    have hB := HBW.out
    have hone : Reads ((w2.alloc (.cells #[.int .i64 key] 3)).alloc (.cells #[.slice (some ⟨bb, oo, none⟩) k cap, .slice (some ⟨w2.heap.size, 0, none⟩) 1 1, .slice (some ⟨bb, oo + k + 1, none⟩) (zs.length - k - 1) (cap - k - 1)] 22)).drew (.slice (some ⟨w2.heap.size, 0, none⟩) 1 1) [key] := ((new_one w2 key).below (box_below _ _)).drewN 1
    have q := concat_any (w2.heap.size + 1) 3 3 (fun j => match j with | 0 => .slice (some ⟨bb, oo, none⟩) k cap | 1 => .slice (some ⟨w2.heap.size, 0, none⟩) 1 1 | _ => .slice (some ⟨bb, oo + k + 1, none⟩) (zs.length - k - 1) (cap - k - 1)) (fun j => match j with | 0 => zs.take k | 1 => [key] | _ => (zs.drop k).drop 1) ((w2.alloc (.cells #[.int .i64 key] 3)).alloc (.cells #[.slice (some ⟨bb, oo, none⟩) k cap, .slice (some ⟨w2.heap.size, 0, none⟩) 1 1, .slice (some ⟨bb, oo + k + 1, none⟩) (zs.length - k - 1) (cap - k - 1)] 22)).drew (by decide) (by show w2.heap.size + 1 < ((w2.alloc _).alloc _).heap.size; rw [size_alloc, size_alloc]; omega)
      (fun j hj => by
        have hnc : ∀ j x, ([.slice (some ⟨bb, oo, none⟩) k cap, .slice (some ⟨w2.heap.size, 0, none⟩) 1 1, .slice (some ⟨bb, oo + k + 1, none⟩) (zs.length - k - 1) (cap - k - 1)] : List Value)[j]? = some x → ((w2.alloc (.cells #[.int .i64 key] 3)).alloc (.cells #[.slice (some ⟨bb, oo, none⟩) k cap, .slice (some ⟨w2.heap.size, 0, none⟩) 1 1, .slice (some ⟨bb, oo + k + 1, none⟩) (zs.length - k - 1) (cap - k - 1)] 22)).drew.cell? ⟨w2.heap.size + 1, j, none⟩ = some x := by
          intro j x hx
          have := new_cells (w2.alloc (.cells #[.int .i64 key] 3)) [.slice (some ⟨bb, oo, none⟩) k cap, .slice (some ⟨w2.heap.size, 0, none⟩) 1 1, .slice (some ⟨bb, oo + k + 1, none⟩) (zs.length - k - 1) (cap - k - 1)] 22 j x hx
          rw [size_alloc] at this
          exact this
        match j, hj with
        | 0, _ => exact hnc 0 _ rfl
        | 1, _ => exact hnc 1 _ rfl
        | 2, _ => exact hnc 2 _ rfl)
      (fun j hj => by
        match j, hj with
        | 0, _ => exact HL.out _ (below_trans HB_w2.out hB HB_w2.out.size)
        | 1, _ => exact hone
        | 2, _ => exact (HR2.out _ hB)) (by rw [hj, HT.out, wit_len zs k (k + 1) [key] (by omega) (by omega)]; show (k + 1 + _) * 8 ≤ _; omega)
    rw [hj] at q
    exact q
  have HT1 : Hid (T.length ≤ 1000) := by show T.length ≤ 1000; rw [HT.out, wit_len zs k (k + 1) [key] (by omega) (by omega)]; show k + 1 + _ ≤ 1000; omega
  go_wp2_with (fail)
  have e1 : ∀ o, (w2.alloc o).cell? ⟨w.heap.size, 1, none⟩ = some (.int .i64 (k : Int)) := fun o => ((A_w2.out.alloc o).cell 1).trans rfl
  have e2 : ∀ o1 o2, ((w2.alloc o1).alloc o2).cell? ⟨w.heap.size, 1, none⟩ = some (.int .i64 (k : Int)) := fun o1 o2 => (((A_w2.out.alloc o1).alloc o2).cell 1).trans rfl
  go_region_with (go_at_call 15; refine HCC.out.mono ?_; rintro e w6 ⟨hb6, v6, rfl, ho6⟩; have hB6 : Below w2.heap.size w2 w6 := below_trans HBW.out hb6 HBW.out.size; have hA6 := A_w2.out.below hB6; have hZ6 := Z_w2.out.below hB6; have hR6 := ho6.reads; obtain ⟨a6, c6, hv6⟩ := hR6.shape; subst hv6; have d1 : w6.cell? ⟨w.heap.size, 1, none⟩ = some (.int .i64 (k : Int)) := (hA6.cell 1).trans rfl; have z0 : w6.cell? ⟨G, 0, none⟩ = some (.slice none 0 0) := (hZ6.cell 0).trans rfl; have z1 : w6.cell? ⟨G, 1, none⟩ = some (.int .i64 0) := (hZ6.cell 1).trans rfl; have f0 : w6.frozen? ⟨G, 0, none⟩ = false := hZ6.fr 0; have f1 : w6.frozen? ⟨G, 1, none⟩ = false := hZ6.fr 1)
  all_goals (
    have HZ7 : Hid (BoxC ((w6.setCell ⟨G, 0, none⟩ (.slice a6 T.length c6)).setCell ⟨G, 1, none⟩ (.int .i64 ((k : Int) + 1))) 24 G [.slice a6 T.length c6, .int .i64 ((k : Int) + 1)]) := (hZ6.set 0 _).set 1 _
    have hO6 : Own w6 (G + 1) (.slice a6 T.length c6) T := ho6.less (Nat.le_trans (Nat.succ_le_of_lt Z_w2.out.lt) HBW.out.size)
    have HR7 : Hid (Reads ((w6.setCell ⟨G, 0, none⟩ (.slice a6 T.length c6)).setCell ⟨G, 1, none⟩ (.int .i64 ((k : Int) + 1))) (.slice a6 T.length c6) T) := ((hO6.past (grown_cell _ _ _ _) (Nat.lt_succ_self _)).past (grown_cell _ _ _ _) (Nat.lt_succ_self _)).reads
    have HB7 : Hid (Below w.heap.size w ((w6.setCell ⟨G, 0, none⟩ (.slice a6 T.length c6)).setCell ⟨G, 1, none⟩ (.int .i64 ((k : Int) + 1)))) := ((below_trans HB_w2.out hB6 HB_w2.out.size).setCell (p := ⟨G, 0, none⟩) (by have := HLG.out; exact this.1) _).setCell (p := ⟨G, 1, none⟩) (by have := HLG.out; exact this.1) _
    clear hb6 ho6 hB6 hA6 hZ6 hR6 d1 z0 z1 f0 f1 hO6 HBW HCC e1 e2
    go_wp2_with fail
    (try simp only [Exit.inBlock, Exit.then])
    refine bodyPost_ret (ret_box rfl _ _ G [.slice a6 T.length c6, .int .i64 ((k : Int) + 1)] _ rfl rfl HZ7.out wide_line) rfl ?_
    exact ⟨HB7.out, _, rfl, HR7.out⟩)

end Go.Proofs.Ytpgjaoemkadenaa.Seek
