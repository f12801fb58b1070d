/- The document's Key, and SameLine. -/
import Derived.Test.YtpgjaoemkadenaaRefKey0
set_option linter.unusedVariables false
set_option linter.unusedSimpArgs false
set_option maxRecDepth 100000
namespace Go.Proofs.Ytpgjaoemkadenaa.Seek
open Go.RowKit Plain
set_option maxHeartbeats 2000000 in
theorem refKey_none (a : Option Addr) (cap : Nat) (zs : List Int) (k : Nat) (mode key : Int) (w : World) (h : Reads w (.slice a zs.length cap) zs) (hk : k ≤ zs.length) (hl : zs.length ≤ 200) (hm : mode = 1 ∨ mode = 2) (hk32 : key < 32 ∨ key = 127) (hr : rub key = false) :
    Calls Try.prog 9 #[.agg #[.slice a zs.length cap, .int .i64 (k : Int)], .int .i64 mode, .int .i64 key] w fun e w' => LineRead ([], 0, 9) w e w' := by
  have HV : Hid (∀ wx, Below w.heap.size w wx → Reads wx (.slice a zs.length cap) zs) := fun wx hx => h.below hx
  obtain ⟨n1, n2, n3, n4⟩ := rub_none hr
  clear hr
  have hkx : key < 32 := by omega
  clear hk32
  have b1 : (key != 8) = true := by simpa using n1
  have b2 : (key != 127) = true := by simpa using n2
  have b3 : (key != 21) = true := by simpa using n3
  have b4 : (key != 23) = true := by simpa using n4
  rcases hm with rfl | rfl
  all_goals (
    have hl2 : (zs.length : Int) ≤ 200 := by omega
    have hk1 : (0 : Int) ≤ (k : Int) := by omega
    have hk2 : (k : Int) ≤ (zs.length : Int) := by omega
    obtain ⟨A, hA, hL, hR, hcap⟩ := reads_cut2 h k k (Nat.le_refl _) hk
    have hk3 : (k : Int) ≤ (cap : Int) := by omega
    have HL : Hid (∀ wx, Below w.heap.size w wx → Reads wx (.slice a k cap) (zs.take k)) := fun wx hx => hL.below hx
    have HRt : Hid (∀ wx, Below w.heap.size w wx → Reads wx (.slice A (zs.length - k) (cap - k)) (zs.drop k)) := fun wx hx => hR.below hx
    clear h hL hR hcap
    go_enter Try.func9, Try.ntmps9
    go_wp2_with (fail)
    obtain ⟨w1, hw_w1⟩ : ∃ w1, w1 = ((w.alloc (.cells #[.slice a zs.length cap, .int .i64 (k : Int)] 24)).alloc (.cells #[.slice none 0 0, .int .i64 0] 24)) := ⟨_, rfl⟩
    rw [← hw_w1]
    obtain ⟨hx0, hx1, hxb⟩ := start2 w 24 24 [.slice a zs.length cap, .int .i64 (k : Int)] [.slice none 0 0, .int .i64 0]
    rw [← hw_w1] at hx0 hx1 hxb
    have hsz_w1 : w.heap.size + 1 + 1 = w1.heap.size := by rw [hw_w1, size_alloc, size_alloc]
    try rw [hsz_w1]
    clear hsz_w1
    have HB_w1 : Hid (Below w.heap.size w w1) := hxb
    have A_w1 : Hid (BoxC w1 24 w.heap.size [.slice a zs.length cap, .int .i64 (k : Int)]) := hx0
    obtain ⟨G, hl_G⟩ : ∃ G, G = w.heap.size + 1 := ⟨_, rfl⟩
    rw [← hl_G] at hx1
    have Z_w1 : Hid (BoxC w1 24 G [.slice none 0 0, .int .i64 0]) := hx1
    have HLG : Hid (w.heap.size ≤ G ∧ w.heap.size < G) := by show _ ∧ _; omega
    clear hx0 hx1 hxb
    try rw [← hl_G]
    clear hw_w1
    clear hl_G
    have cA0 : w1.cell? ⟨w.heap.size, 0, none⟩ = some (.slice a zs.length cap) := (A_w1.out.cell 0).trans rfl
    have cA1 : w1.cell? ⟨w.heap.size, 1, none⟩ = some (.int .i64 (k : Int)) := (A_w1.out.cell 1).trans rfl
    go_quiet (fail)
    generalize hq_w2 : w1.drewN _ = w2
    have hb : Below w1.heap.size w1 w2 := by rw [← hq_w2]; exact below_drewN (Below.refl _ _) _
    clear hq_w2
    have HB_w2 : Hid (Below w.heap.size w w2) := below_trans HB_w1.out hb HB_w1.out.size
    have A_w2 : Hid (BoxC w2 24 w.heap.size [.slice a zs.length cap, .int .i64 (k : Int)]) := A_w1.out.below hb
    have Z_w2 : Hid (BoxC w2 24 G [.slice none 0 0, .int .i64 0]) := Z_w1.out.below hb
    clear A_w1 Z_w1 HB_w1
    clear hb
    clear cA0 cA1
    have cA0 : w2.cell? ⟨w.heap.size, 0, none⟩ = some (.slice a zs.length cap) := (A_w2.out.cell 0).trans rfl
    have cA1 : w2.cell? ⟨w.heap.size, 1, none⟩ = some (.int .i64 (k : Int)) := (A_w2.out.cell 1).trans rfl
    go_wp2_with (refine storeC rfl 24 _ _ rfl G rfl [.slice none 0 0, .int .i64 0] [.slice none 0 0, .int .i64 0] rfl Z_w2.out wide_line (fun v hv => by simp at hv; rcases hv with rfl | rfl <;> rfl) rfl ?_)
    intro w3 hz hg
    have HB_w3 : Hid (Below w.heap.size w w3) := HB_w2.out.grown hg HB_w2.out.size (fun j hj => by cases hj; exact (by have := HLG.out; omega))
    have A_w3 : Hid (BoxC w3 24 w.heap.size [.slice a zs.length cap, .int .i64 (k : Int)]) := A_w2.out.kept hg (fun e => by have := HLG.out; have := Option.some.inj e; omega)
    clear A_w2 Z_w2 HB_w2
    have Z_w3 : Hid (BoxC w3 24 G [.slice none 0 0, .int .i64 0]) := hz
    clear hz hg
    go_wp2_with (fail)
    (try simp only [Exit.inBlock, Exit.then])
    refine bodyPost_ret (ret_box rfl _ _ G [.slice none 0 0, .int .i64 0] _ rfl rfl Z_w3.out wide_line) rfl ?_
    exact ⟨HB_w3.out, _, rfl, reads_nil _⟩)

set_option maxHeartbeats 2000000 in
theorem refKey_first (a : Option Addr) (cap : Nat) (zs : List Int) (k : Nat) (mode key : Int) (w : World) (h : Reads w (.slice a zs.length cap) zs) (hk : k ≤ zs.length) (hl : zs.length ≤ 200) (hm : mode = 1 ∨ mode = 2) (hk32 : key < 32 ∨ key = 127) (hr : rub key = true) (hk0 : k = 0) :
    Calls Try.prog 9 #[.agg #[.slice a zs.length cap, .int .i64 (k : Int)], .int .i64 mode, .int .i64 key] w fun e w' => LineRead ([], 0, 5) w e w' := by
  have HV : Hid (∀ wx, Below w.heap.size w wx → Reads wx (.slice a zs.length cap) zs) := fun wx hx => h.below hx
  subst hk0
  rcases hm with rfl | rfl
  all_goals (
    rcases rub_cases hr with rfl | rfl | rfl | rfl
    all_goals (
      clear hr hk32
      have hl2 : (zs.length : Int) ≤ 200 := by omega
      have hk1 : (0 : Int) ≤ 0 := by omega
      have hk2 : 0 ≤ (zs.length : Int) := by omega
      obtain ⟨A, hA, hL, hR, hcap⟩ := reads_cut2 h 0 0 (Nat.le_refl _) hk
      have hk3 : 0 ≤ (cap : Int) := by omega
      have HL : Hid (∀ wx, Below w.heap.size w wx → Reads wx (.slice a 0 cap) (zs.take 0)) := fun wx hx => hL.below hx
      have HRt : Hid (∀ wx, Below w.heap.size w wx → Reads wx (.slice A (zs.length - 0) (cap - 0)) (zs.drop 0)) := fun wx hx => hR.below hx
      clear h hL hR hcap
      go_enter Try.func9, Try.ntmps9
      go_wp2_with (fail)
      obtain ⟨w1, hw_w1⟩ : ∃ w1, w1 = ((w.alloc (.cells #[.slice a zs.length cap, .int .i64 0] 24)).alloc (.cells #[.slice none 0 0, .int .i64 0] 24)) := ⟨_, rfl⟩
      rw [← hw_w1]
      obtain ⟨hx0, hx1, hxb⟩ := start2 w 24 24 [.slice a zs.length cap, .int .i64 0] [.slice none 0 0, .int .i64 0]
      rw [← hw_w1] at hx0 hx1 hxb
      have hsz_w1 : w.heap.size + 1 + 1 = w1.heap.size := by rw [hw_w1, size_alloc, size_alloc]
      try rw [hsz_w1]
      clear hsz_w1
      have HB_w1 : Hid (Below w.heap.size w w1) := hxb
      have A_w1 : Hid (BoxC w1 24 w.heap.size [.slice a zs.length cap, .int .i64 0]) := hx0
      obtain ⟨G, hl_G⟩ : ∃ G, G = w.heap.size + 1 := ⟨_, rfl⟩
      rw [← hl_G] at hx1
      have Z_w1 : Hid (BoxC w1 24 G [.slice none 0 0, .int .i64 0]) := hx1
      have HLG : Hid (w.heap.size ≤ G ∧ w.heap.size < G) := by show _ ∧ _; omega
      clear hx0 hx1 hxb
      try rw [← hl_G]
      clear hw_w1
      clear hl_G
      have cA0 : w1.cell? ⟨w.heap.size, 0, none⟩ = some (.slice a zs.length cap) := (A_w1.out.cell 0).trans rfl
      have cA1 : w1.cell? ⟨w.heap.size, 1, none⟩ = some (.int .i64 0) := (A_w1.out.cell 1).trans rfl
      go_quiet (fail)
      generalize hq_w2 : w1.drewN _ = w2
      have hb : Below w1.heap.size w1 w2 := by rw [← hq_w2]; exact below_drewN (Below.refl _ _) _
      clear hq_w2
      have HB_w2 : Hid (Below w.heap.size w w2) := below_trans HB_w1.out hb HB_w1.out.size
      have A_w2 : Hid (BoxC w2 24 w.heap.size [.slice a zs.length cap, .int .i64 0]) := A_w1.out.below hb
      have Z_w2 : Hid (BoxC w2 24 G [.slice none 0 0, .int .i64 0]) := Z_w1.out.below hb
      clear A_w1 Z_w1 HB_w1
      clear hb
      clear cA0 cA1
      have cA0 : w2.cell? ⟨w.heap.size, 0, none⟩ = some (.slice a zs.length cap) := (A_w2.out.cell 0).trans rfl
      have cA1 : w2.cell? ⟨w.heap.size, 1, none⟩ = some (.int .i64 0) := (A_w2.out.cell 1).trans rfl
      go_wp2_with (refine storeC rfl 24 _ _ rfl G rfl [.slice none 0 0, .int .i64 0] [.slice none 0 0, .int .i64 0] rfl Z_w2.out wide_line (fun v hv => by simp at hv; rcases hv with rfl | rfl <;> rfl) rfl ?_)
      intro w3 hz hg
      have HB_w3 : Hid (Below w.heap.size w w3) := HB_w2.out.grown hg HB_w2.out.size (fun j hj => by cases hj; exact (by have := HLG.out; omega))
      have A_w3 : Hid (BoxC w3 24 w.heap.size [.slice a zs.length cap, .int .i64 0]) := A_w2.out.kept hg (fun e => by have := HLG.out; have := Option.some.inj e; omega)
      clear A_w2 Z_w2 HB_w2
      have Z_w3 : Hid (BoxC w3 24 G [.slice none 0 0, .int .i64 0]) := hz
      clear hz hg
      go_wp2_with (fail)
      (try simp only [Exit.inBlock, Exit.then])
      refine bodyPost_ret (ret_box rfl _ _ G [.slice none 0 0, .int .i64 0] _ rfl rfl Z_w3.out wide_line) rfl ?_
      exact ⟨HB_w3.out, _, rfl, reads_nil _⟩))

end Go.Proofs.Ytpgjaoemkadenaa.Seek
