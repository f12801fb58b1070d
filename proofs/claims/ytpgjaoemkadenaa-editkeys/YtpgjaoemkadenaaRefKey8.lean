/- The document's Key, and SameLine. -/
import Derived.Test.YtpgjaoemkadenaaRefKey0
set_option linter.unusedVariables false
set_option linter.unusedSimpArgs false
set_option maxRecDepth 100000
namespace Go.Proofs.Ytpgjaoemkadenaa.Seek
open Go.RowKit Plain
set_option maxHeartbeats 2000000 in
theorem refKey_one (a : Option Addr) (cap : Nat) (zs : List Int) (k : Nat) (mode key : Int) (w : World) (h : Reads w (.slice a zs.length cap) zs) (hk0 : 0 < k) (hk : k ≤ zs.length) (hl : zs.length ≤ 200) (hm : mode = 1) (hkey : key = 8 ∨ key = 127) (T : List Int) (hT : T = wit zs (k - 1) k []) :
    Calls Try.prog 9 #[.agg #[.slice a zs.length cap, .int .i64 (k : Int)], .int .i64 mode, .int .i64 key] w fun e w' => LineRead (T, ((k : Int) - 1), 0) w e w' := by
  have HV : Hid (∀ wx, Below w.heap.size w wx → Reads wx (.slice a zs.length cap) zs) := fun wx hx => h.below hx
  have hw1 : IntKind.i64.wrap ((k : Int) - 1) = (k : Int) - 1 := by rw [IntKind.wrap_i64]; omega
  have hkne : ((k : Int) == 0) = false := by simp; omega
  have hFI : (k : Int) - 1 ≤ (cap : Int) := by
    have := (reads_cut h k k (Nat.le_refl _) hk).2.2
    omega
  have hFI2 : (0 : Int) ≤ (k : Int) - 1 := by omega
  have hFI3 : ((k : Int) - 1).toNat = k - 1 := by omega
  have HT : Hid (T = wit zs (k - 1) k []) := hT
  clear hT
  have HLf : Hid (∀ wx, Below w.heap.size w wx → Reads wx (.slice a (k - 1) cap) (zs.take (k - 1))) := fun wx hx => (reads_cut (h.below hx) (k - 1) k (by omega) hk).1
  subst hm
  rcases hkey with rfl | rfl
  all_goals (
    have hl2 : (zs.length : Int) ≤ 200 := by omega
    have hk1 : (0 : Int) ≤ (k : Int) := by omega
    have hk2 : (k : Int) ≤ (zs.length : Int) := by omega
    obtain ⟨A, hA, hL, hR, hcap⟩ := reads_cut2 h k k (Nat.le_refl _) hk
    have hk3 : (k : Int) ≤ (cap : Int) := by omega
    have HL : Hid (∀ wx, Below w.heap.size w wx → Reads wx (.slice a k cap) (zs.take k)) := fun wx hx => hL.below hx
    have HRt : Hid (∀ wx, Below w.heap.size w wx → Reads wx (.slice A (zs.length - k) (cap - k)) (zs.drop k)) := fun wx hx => hR.below hx
    clear h hL hR hcap
    go_enter Try.func9, Try.ntmps9
    go_wp2_with (fail)
    obtain ⟨w1, hw_w1⟩ : ∃ w1, w1 = ((w.alloc (.cells #[.slice a zs.length cap, .int .i64 (k : Int)] 24)).alloc (.cells #[.slice none 0 0, .int .i64 0] 24)) := ⟨_, rfl⟩
    rw [← hw_w1]
    obtain ⟨hx0, hx1, hxb⟩ := start2 w 24 24 [.slice a zs.length cap, .int .i64 (k : Int)] [.slice none 0 0, .int .i64 0]
    rw [← hw_w1] at hx0 hx1 hxb
    have hsz_w1 : w.heap.size + 1 + 1 = w1.heap.size := by rw [hw_w1, size_alloc, size_alloc]
    try rw [hsz_w1]
    clear hsz_w1
    have HB_w1 : Hid (Below w.heap.size w w1) := hxb
    have A_w1 : Hid (BoxC w1 24 w.heap.size [.slice a zs.length cap, .int .i64 (k : Int)]) := hx0
    obtain ⟨G, hl_G⟩ : ∃ G, G = w.heap.size + 1 := ⟨_, rfl⟩
    rw [← hl_G] at hx1
    have Z_w1 : Hid (BoxC w1 24 G [.slice none 0 0, .int .i64 0]) := hx1
    have HLG : Hid (w.heap.size ≤ G ∧ w.heap.size < G) := by show _ ∧ _; omega
    clear hx0 hx1 hxb
    try rw [← hl_G]
    clear hw_w1
    clear hl_G
    have cA0 : w1.cell? ⟨w.heap.size, 0, none⟩ = some (.slice a zs.length cap) := (A_w1.out.cell 0).trans rfl
    have cA1 : w1.cell? ⟨w.heap.size, 1, none⟩ = some (.int .i64 (k : Int)) := (A_w1.out.cell 1).trans rfl
    go_quiet (fail)
    generalize hq_w2 : w1.drewN _ = w2
    have hb : Below w1.heap.size w1 w2 := by rw [← hq_w2]; exact below_drewN (Below.refl _ _) _
    clear hq_w2
    have HB_w2 : Hid (Below w.heap.size w w2) := below_trans HB_w1.out hb HB_w1.out.size
    have A_w2 : Hid (BoxC w2 24 w.heap.size [.slice a zs.length cap, .int .i64 (k : Int)]) := A_w1.out.below hb
    have Z_w2 : Hid (BoxC w2 24 G [.slice none 0 0, .int .i64 0]) := Z_w1.out.below hb
    clear A_w1 Z_w1 HB_w1
    clear hb
    clear cA0 cA1
    have cA0 : w2.cell? ⟨w.heap.size, 0, none⟩ = some (.slice a zs.length cap) := (A_w2.out.cell 0).trans rfl
    have cA1 : w2.cell? ⟨w.heap.size, 1, none⟩ = some (.int .i64 (k : Int)) := (A_w2.out.cell 1).trans rfl
    go_wp2_with (fail)
    have HCC : Hid (Calls Try.prog 15 #[.slice (some ⟨w2.heap.size, 0, none⟩) 2 2] (w2.alloc (.cells #[.slice a (k - 1) cap, .slice A (zs.length - k) (cap - k)] 22)) fun e w' => ConcatPost T (w2.alloc (.cells #[.slice a (k - 1) cap, .slice A (zs.length - k) (cap - k)] 22)) e w') := by
      have q := concat2 (.slice a (k - 1) cap) (.slice A (zs.length - k) (cap - k)) (zs.take (k - 1)) (zs.drop k) w2 (HLf.out _ HB_w2.out) (HRt.out _ HB_w2.out) (by simp only [List.length_append, List.length_take, List.length_drop]; omega)
      have hj : zs.take (k - 1) ++ zs.drop k = T := by rw [HT.out]; simp [wit]
      rw [hj] at q
      exact q
    refine HCC.out.mono ?_
    rintro e w6 ⟨hb6, v6, rfl, ho6⟩
    have hb : Below w2.heap.size w2 w6 := below_trans (box_below _ _) hb6 (box_below _ _).size
    have HOG : Hid (Own w6 (G + 1) v6 T) := ho6.less (Nat.le_trans (Nat.succ_le_of_lt Z_w2.out.lt) (box_below _ _).size)
    obtain ⟨a6, c6, hv6⟩ := HOG.out.reads.shape
    subst hv6
    clear cA0 cA1
    have HB_w6 : Hid (Below w.heap.size w w6) := below_trans HB_w2.out hb HB_w2.out.size
    have A_w6 : Hid (BoxC w6 24 w.heap.size [.slice a zs.length cap, .int .i64 (k : Int)]) := A_w2.out.below hb
    have Z_w6 : Hid (BoxC w6 24 G [.slice none 0 0, .int .i64 0]) := Z_w2.out.below hb
    clear A_w2 Z_w2 HB_w2
    clear hb hb6 ho6 HCC
    go_wp2_with (refine storeC rfl 24 _ _ rfl G rfl [.slice none 0 0, .int .i64 0] [.slice a6 T.length c6, .int .i64 ((k : Int) - 1)] rfl Z_w6.out wide_line (fun v hv => by simp at hv; rcases hv with rfl | rfl <;> rfl) rfl ?_)
    intro w7 hz hg
    have HB_w7 : Hid (Below w.heap.size w w7) := HB_w6.out.grown hg HB_w6.out.size (fun j hj => by cases hj; exact (by have := HLG.out; omega))
    have A_w7 : Hid (BoxC w7 24 w.heap.size [.slice a zs.length cap, .int .i64 (k : Int)]) := A_w6.out.kept hg (fun e => by have := HLG.out; have := Option.some.inj e; omega)
    clear A_w6 Z_w6 HB_w6
    have Z_w7 : Hid (BoxC w7 24 G [.slice a6 T.length c6, .int .i64 ((k : Int) - 1)]) := hz
    have HRF : Hid (Reads w7 (.slice a6 T.length c6) T) := (HOG.out.past hg (Nat.lt_succ_self _)).reads
    clear hz hg
    go_wp2_with (fail)
    (try simp only [Exit.inBlock, Exit.then])
    refine bodyPost_ret (ret_box rfl _ _ G [.slice a6 T.length c6, .int .i64 ((k : Int) - 1)] _ rfl rfl Z_w7.out wide_line) rfl ?_
    exact ⟨HB_w7.out, _, rfl, HRF.out⟩)

set_option maxHeartbeats 2000000 in
theorem refKey_stay (a : Option Addr) (cap : Nat) (zs : List Int) (k : Nat) (mode key : Int) (w : World) (h : Reads w (.slice a zs.length cap) zs) (hk0 : 0 < k) (hk : k ≤ zs.length) (hl : zs.length ≤ 200) (hm : mode = 2) (hkey : key = 8 ∨ key = 127) :
    Calls Try.prog 9 #[.agg #[.slice a zs.length cap, .int .i64 (k : Int)], .int .i64 mode, .int .i64 key] w fun e w' => LineRead (zs, ((k : Int) - 1), 0) w e w' := by
  have HV : Hid (∀ wx, Below w.heap.size w wx → Reads wx (.slice a zs.length cap) zs) := fun wx hx => h.below hx
  have hw1 : IntKind.i64.wrap ((k : Int) - 1) = (k : Int) - 1 := by rw [IntKind.wrap_i64]; omega
  have hkne : ((k : Int) == 0) = false := by simp; omega
  subst hm
  rcases hkey with rfl | rfl
  all_goals (
    have hl2 : (zs.length : Int) ≤ 200 := by omega
    have hk1 : (0 : Int) ≤ (k : Int) := by omega
    have hk2 : (k : Int) ≤ (zs.length : Int) := by omega
    obtain ⟨A, hA, hL, hR, hcap⟩ := reads_cut2 h k k (Nat.le_refl _) hk
    have hk3 : (k : Int) ≤ (cap : Int) := by omega
    have HL : Hid (∀ wx, Below w.heap.size w wx → Reads wx (.slice a k cap) (zs.take k)) := fun wx hx => hL.below hx
    have HRt : Hid (∀ wx, Below w.heap.size w wx → Reads wx (.slice A (zs.length - k) (cap - k)) (zs.drop k)) := fun wx hx => hR.below hx
    clear h hL hR hcap
    go_enter Try.func9, Try.ntmps9
    go_wp2_with (fail)
    obtain ⟨w1, hw_w1⟩ : ∃ w1, w1 = ((w.alloc (.cells #[.slice a zs.length cap, .int .i64 (k : Int)] 24)).alloc (.cells #[.slice none 0 0, .int .i64 0] 24)) := ⟨_, rfl⟩
    rw [← hw_w1]
    obtain ⟨hx0, hx1, hxb⟩ := start2 w 24 24 [.slice a zs.length cap, .int .i64 (k : Int)] [.slice none 0 0, .int .i64 0]
    rw [← hw_w1] at hx0 hx1 hxb
    have hsz_w1 : w.heap.size + 1 + 1 = w1.heap.size := by rw [hw_w1, size_alloc, size_alloc]
    try rw [hsz_w1]
    clear hsz_w1
    have HB_w1 : Hid (Below w.heap.size w w1) := hxb
    have A_w1 : Hid (BoxC w1 24 w.heap.size [.slice a zs.length cap, .int .i64 (k : Int)]) := hx0
    obtain ⟨G, hl_G⟩ : ∃ G, G = w.heap.size + 1 := ⟨_, rfl⟩
    rw [← hl_G] at hx1
    have Z_w1 : Hid (BoxC w1 24 G [.slice none 0 0, .int .i64 0]) := hx1
    have HLG : Hid (w.heap.size ≤ G ∧ w.heap.size < G) := by show _ ∧ _; omega
    clear hx0 hx1 hxb
    try rw [← hl_G]
    clear hw_w1
    clear hl_G
    have cA0 : w1.cell? ⟨w.heap.size, 0, none⟩ = some (.slice a zs.length cap) := (A_w1.out.cell 0).trans rfl
    have cA1 : w1.cell? ⟨w.heap.size, 1, none⟩ = some (.int .i64 (k : Int)) := (A_w1.out.cell 1).trans rfl
    go_quiet (fail)
    generalize hq_w2 : w1.drewN _ = w2
    have hb : Below w1.heap.size w1 w2 := by rw [← hq_w2]; exact below_drewN (Below.refl _ _) _
    clear hq_w2
    have HB_w2 : Hid (Below w.heap.size w w2) := below_trans HB_w1.out hb HB_w1.out.size
    have A_w2 : Hid (BoxC w2 24 w.heap.size [.slice a zs.length cap, .int .i64 (k : Int)]) := A_w1.out.below hb
    have Z_w2 : Hid (BoxC w2 24 G [.slice none 0 0, .int .i64 0]) := Z_w1.out.below hb
    clear A_w1 Z_w1 HB_w1
    clear hb
    clear cA0 cA1
    have cA0 : w2.cell? ⟨w.heap.size, 0, none⟩ = some (.slice a zs.length cap) := (A_w2.out.cell 0).trans rfl
    have cA1 : w2.cell? ⟨w.heap.size, 1, none⟩ = some (.int .i64 (k : Int)) := (A_w2.out.cell 1).trans rfl
    go_wp2_with (refine storeC rfl 24 _ _ rfl G rfl [.slice none 0 0, .int .i64 0] [.slice a zs.length cap, .int .i64 ((k : Int) - 1)] rfl Z_w2.out wide_line (fun v hv => by simp at hv; rcases hv with rfl | rfl <;> rfl) rfl ?_)
    intro w3 hz hg
    have HB_w3 : Hid (Below w.heap.size w w3) := HB_w2.out.grown hg HB_w2.out.size (fun j hj => by cases hj; exact (by have := HLG.out; omega))
    have A_w3 : Hid (BoxC w3 24 w.heap.size [.slice a zs.length cap, .int .i64 (k : Int)]) := A_w2.out.kept hg (fun e => by have := HLG.out; have := Option.some.inj e; omega)
    clear A_w2 Z_w2 HB_w2
    have Z_w3 : Hid (BoxC w3 24 G [.slice a zs.length cap, .int .i64 ((k : Int) - 1)]) := hz
    clear hz hg
    go_wp2_with (fail)
    (try simp only [Exit.inBlock, Exit.then])
    refine bodyPost_ret (ret_box rfl _ _ G [.slice a zs.length cap, .int .i64 ((k : Int) - 1)] _ rfl rfl Z_w3.out wide_line) rfl ?_
    exact ⟨HB_w3.out, _, rfl, (HV.out _ HB_w3.out)⟩)

end Go.Proofs.Ytpgjaoemkadenaa.Seek
