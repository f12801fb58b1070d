/- The document's Key, and SameLine. -/
import Derived.Test.YtpgjaoemkadenaaRefKey0
set_option linter.unusedVariables false
set_option linter.unusedSimpArgs false
set_option maxRecDepth 100000
namespace Go.Proofs.Ytpgjaoemkadenaa.Seek
open Go.RowKit Plain
set_option maxHeartbeats 1000000 in
theorem refKey_large (a : Option Addr) (cap : Nat) (zs : List Int) (k : Int) (mode key : Int) (w : World) (h : Reads w (.slice a zs.length cap) zs) (hl : (200 : Int) < (zs.length : Int)) :
    Calls Try.prog 9 #[.agg #[.slice a zs.length cap, .int .i64 k], .int .i64 mode, .int .i64 key] w fun e w' => LineRead ([], 0, 2) w e w' := by
  have HV : Hid (∀ wx, Below w.heap.size w wx → Reads wx (.slice a zs.length cap) zs) := fun wx hx => h.below hx
  clear h
  go_enter Try.func9, Try.ntmps9
  go_wp2_with (fail)
  all_goals first
    | (exfalso; omega)
    | (
      obtain ⟨w1, hw_w1⟩ : ∃ w1, w1 = ((w.alloc (.cells #[.slice a zs.length cap, .int .i64 k] 24)).alloc (.cells #[.slice none 0 0, .int .i64 0] 24)) := ⟨_, rfl⟩
      rw [← hw_w1]
      obtain ⟨hx0, hx1, hxb⟩ := start2 w 24 24 [.slice a zs.length cap, .int .i64 k] [.slice none 0 0, .int .i64 0]
      rw [← hw_w1] at hx0 hx1 hxb
      have hsz_w1 : w.heap.size + 1 + 1 = w1.heap.size := by rw [hw_w1, size_alloc, size_alloc]
      try rw [hsz_w1]
      clear hsz_w1
      have HB_w1 : Hid (Below w.heap.size w w1) := hxb
      have A_w1 : Hid (BoxC w1 24 w.heap.size [.slice a zs.length cap, .int .i64 k]) := hx0
      obtain ⟨G, hl_G⟩ : ∃ G, G = w.heap.size + 1 := ⟨_, rfl⟩
      rw [← hl_G] at hx1
      have Z_w1 : Hid (BoxC w1 24 G [.slice none 0 0, .int .i64 0]) := hx1
      have HLG : Hid (w.heap.size ≤ G ∧ w.heap.size < G) := by show _ ∧ _; omega
      clear hx0 hx1 hxb
      try rw [← hl_G]
      clear hw_w1
      clear hl_G
      (try simp only [Exit.inBlock, Exit.then])
      refine bodyPost_ret (ret_box rfl _ _ G [.slice none 0 0, .int .i64 0] _ rfl rfl Z_w1.out wide_line) rfl ?_
      exact ⟨HB_w1.out, _, rfl, reads_nil _⟩)

set_option maxHeartbeats 1000000 in
theorem refKey_low (a : Option Addr) (cap : Nat) (zs : List Int) (k : Int) (mode key : Int) (w : World) (h : Reads w (.slice a zs.length cap) zs) (hl : ¬ (200 : Int) < (zs.length : Int)) (hk : k < 0) :
    Calls Try.prog 9 #[.agg #[.slice a zs.length cap, .int .i64 k], .int .i64 mode, .int .i64 key] w fun e w' => LineRead ([], 0, 1) w e w' := by
  have HV : Hid (∀ wx, Below w.heap.size w wx → Reads wx (.slice a zs.length cap) zs) := fun wx hx => h.below hx
  clear h
  go_enter Try.func9, Try.ntmps9
  go_wp2_with (fail)
  all_goals first
    | (exfalso; omega)
    | (
      obtain ⟨w1, hw_w1⟩ : ∃ w1, w1 = ((w.alloc (.cells #[.slice a zs.length cap, .int .i64 k] 24)).alloc (.cells #[.slice none 0 0, .int .i64 0] 24)) := ⟨_, rfl⟩
      rw [← hw_w1]
      obtain ⟨hx0, hx1, hxb⟩ := start2 w 24 24 [.slice a zs.length cap, .int .i64 k] [.slice none 0 0, .int .i64 0]
      rw [← hw_w1] at hx0 hx1 hxb
      have hsz_w1 : w.heap.size + 1 + 1 = w1.heap.size := by rw [hw_w1, size_alloc, size_alloc]
      try rw [hsz_w1]
      clear hsz_w1
      have HB_w1 : Hid (Below w.heap.size w w1) := hxb
      have A_w1 : Hid (BoxC w1 24 w.heap.size [.slice a zs.length cap, .int .i64 k]) := hx0
      obtain ⟨G, hl_G⟩ : ∃ G, G = w.heap.size + 1 := ⟨_, rfl⟩
      rw [← hl_G] at hx1
      have Z_w1 : Hid (BoxC w1 24 G [.slice none 0 0, .int .i64 0]) := hx1
      have HLG : Hid (w.heap.size ≤ G ∧ w.heap.size < G) := by show _ ∧ _; omega
      clear hx0 hx1 hxb
      try rw [← hl_G]
      clear hw_w1
      clear hl_G
      (try simp only [Exit.inBlock, Exit.then])
      refine bodyPost_ret (ret_box rfl _ _ G [.slice none 0 0, .int .i64 0] _ rfl rfl Z_w1.out wide_line) rfl ?_
      exact ⟨HB_w1.out, _, rfl, reads_nil _⟩)

set_option maxHeartbeats 1000000 in
theorem refKey_high (a : Option Addr) (cap : Nat) (zs : List Int) (k : Int) (mode key : Int) (w : World) (h : Reads w (.slice a zs.length cap) zs) (hl : ¬ (200 : Int) < (zs.length : Int)) (hk : ¬ k < 0) (hk2 : (zs.length : Int) < k) :
    Calls Try.prog 9 #[.agg #[.slice a zs.length cap, .int .i64 k], .int .i64 mode, .int .i64 key] w fun e w' => LineRead ([], 0, 1) w e w' := by
  have HV : Hid (∀ wx, Below w.heap.size w wx → Reads wx (.slice a zs.length cap) zs) := fun wx hx => h.below hx
  clear h
  go_enter Try.func9, Try.ntmps9
  go_wp2_with (fail)
  all_goals first
    | (exfalso; omega)
    | (
      obtain ⟨w1, hw_w1⟩ : ∃ w1, w1 = ((w.alloc (.cells #[.slice a zs.length cap, .int .i64 k] 24)).alloc (.cells #[.slice none 0 0, .int .i64 0] 24)) := ⟨_, rfl⟩
      rw [← hw_w1]
      obtain ⟨hx0, hx1, hxb⟩ := start2 w 24 24 [.slice a zs.length cap, .int .i64 k] [.slice none 0 0, .int .i64 0]
      rw [← hw_w1] at hx0 hx1 hxb
      have hsz_w1 : w.heap.size + 1 + 1 = w1.heap.size := by rw [hw_w1, size_alloc, size_alloc]
      try rw [hsz_w1]
      clear hsz_w1
      have HB_w1 : Hid (Below w.heap.size w w1) := hxb
      have A_w1 : Hid (BoxC w1 24 w.heap.size [.slice a zs.length cap, .int .i64 k]) := hx0
      obtain ⟨G, hl_G⟩ : ∃ G, G = w.heap.size + 1 := ⟨_, rfl⟩
      rw [← hl_G] at hx1
      have Z_w1 : Hid (BoxC w1 24 G [.slice none 0 0, .int .i64 0]) := hx1
      have HLG : Hid (w.heap.size ≤ G ∧ w.heap.size < G) := by show _ ∧ _; omega
      clear hx0 hx1 hxb
      try rw [← hl_G]
      clear hw_w1
      clear hl_G
      (try simp only [Exit.inBlock, Exit.then])
      refine bodyPost_ret (ret_box rfl _ _ G [.slice none 0 0, .int .i64 0] _ rfl rfl Z_w1.out wide_line) rfl ?_
      exact ⟨HB_w1.out, _, rfl, reads_nil _⟩)

set_option maxHeartbeats 1000000 in
theorem refKey_mode (a : Option Addr) (cap : Nat) (zs : List Int) (k : Int) (mode key : Int) (w : World) (h : Reads w (.slice a zs.length cap) zs) (hl : ¬ (200 : Int) < (zs.length : Int)) (hk : ¬ k < 0) (hk2 : ¬ (zs.length : Int) < k) (hm1 : mode ≠ 1) (hm2 : mode ≠ 2) :
    Calls Try.prog 9 #[.agg #[.slice a zs.length cap, .int .i64 k], .int .i64 mode, .int .i64 key] w fun e w' => LineRead ([], 0, 1) w e w' := by
  have HV : Hid (∀ wx, Below w.heap.size w wx → Reads wx (.slice a zs.length cap) zs) := fun wx hx => h.below hx
  clear h
  have b1 : (mode != 1) = true := by simpa using hm1
  have b2 : (mode != 2) = true := by simpa using hm2
  go_enter Try.func9, Try.ntmps9
  go_wp2_with (fail)
  all_goals first
    | (exfalso; omega)
    | (
      obtain ⟨w1, hw_w1⟩ : ∃ w1, w1 = ((w.alloc (.cells #[.slice a zs.length cap, .int .i64 k] 24)).alloc (.cells #[.slice none 0 0, .int .i64 0] 24)) := ⟨_, rfl⟩
      rw [← hw_w1]
      obtain ⟨hx0, hx1, hxb⟩ := start2 w 24 24 [.slice a zs.length cap, .int .i64 k] [.slice none 0 0, .int .i64 0]
      rw [← hw_w1] at hx0 hx1 hxb
      have hsz_w1 : w.heap.size + 1 + 1 = w1.heap.size := by rw [hw_w1, size_alloc, size_alloc]
      try rw [hsz_w1]
      clear hsz_w1
      have HB_w1 : Hid (Below w.heap.size w w1) := hxb
      have A_w1 : Hid (BoxC w1 24 w.heap.size [.slice a zs.length cap, .int .i64 k]) := hx0
      obtain ⟨G, hl_G⟩ : ∃ G, G = w.heap.size + 1 := ⟨_, rfl⟩
      rw [← hl_G] at hx1
      have Z_w1 : Hid (BoxC w1 24 G [.slice none 0 0, .int .i64 0]) := hx1
      have HLG : Hid (w.heap.size ≤ G ∧ w.heap.size < G) := by show _ ∧ _; omega
      clear hx0 hx1 hxb
      try rw [← hl_G]
      clear hw_w1
      clear hl_G
      (try simp only [Exit.inBlock, Exit.then])
      refine bodyPost_ret (ret_box rfl _ _ G [.slice none 0 0, .int .i64 0] _ rfl rfl Z_w1.out wide_line) rfl ?_
      exact ⟨HB_w1.out, _, rfl, reads_nil _⟩)

set_option maxHeartbeats 1000000 in
theorem refKey_full1 (a : Option Addr) (cap : Nat) (zs : List Int) (k : Nat) (mode key : Int) (w : World) (h : Reads w (.slice a zs.length cap) zs) (hk : k ≤ zs.length) (hl : zs.length = 200) (hk32 : 32 ≤ key) (hne : key ≠ 127) (hm : mode = 1) :
    Calls Try.prog 9 #[.agg #[.slice a zs.length cap, .int .i64 (k : Int)], .int .i64 mode, .int .i64 key] w fun e w' => LineRead ([], 0, 8) w e w' := by
  have HV : Hid (∀ wx, Below w.heap.size w wx → Reads wx (.slice a zs.length cap) zs) := fun wx hx => h.below hx
  subst hm
  have hb2 : (key != 127) = true := by simpa using hne
  have HLn : Hid (zs.length = 200) := hl
  have hln : (zs.length : Int) = 200 := by omega
  clear hl
  have hl : zs.length ≤ 200 := by omega
  have hl2 : (zs.length : Int) ≤ 200 := by omega
  have hk1 : (0 : Int) ≤ (k : Int) := by omega
  have hk2 : (k : Int) ≤ (zs.length : Int) := by omega
  obtain ⟨A, hA, hL, hR, hcap⟩ := reads_cut2 h k k (Nat.le_refl _) hk
  have hk3 : (k : Int) ≤ (cap : Int) := by omega
  have HL : Hid (∀ wx, Below w.heap.size w wx → Reads wx (.slice a k cap) (zs.take k)) := fun wx hx => hL.below hx
  have HRt : Hid (∀ wx, Below w.heap.size w wx → Reads wx (.slice A (zs.length - k) (cap - k)) (zs.drop k)) := fun wx hx => hR.below hx
  clear h hL hR hcap
  go_enter Try.func9, Try.ntmps9
  go_wp2_with (fail)
  obtain ⟨w1, hw_w1⟩ : ∃ w1, w1 = ((w.alloc (.cells #[.slice a zs.length cap, .int .i64 (k : Int)] 24)).alloc (.cells #[.slice none 0 0, .int .i64 0] 24)) := ⟨_, rfl⟩
  rw [← hw_w1]
  obtain ⟨hx0, hx1, hxb⟩ := start2 w 24 24 [.slice a zs.length cap, .int .i64 (k : Int)] [.slice none 0 0, .int .i64 0]
  rw [← hw_w1] at hx0 hx1 hxb
  have hsz_w1 : w.heap.size + 1 + 1 = w1.heap.size := by rw [hw_w1, size_alloc, size_alloc]
  try rw [hsz_w1]
  clear hsz_w1
  have HB_w1 : Hid (Below w.heap.size w w1) := hxb
  have A_w1 : Hid (BoxC w1 24 w.heap.size [.slice a zs.length cap, .int .i64 (k : Int)]) := hx0
  obtain ⟨G, hl_G⟩ : ∃ G, G = w.heap.size + 1 := ⟨_, rfl⟩
  rw [← hl_G] at hx1
  have Z_w1 : Hid (BoxC w1 24 G [.slice none 0 0, .int .i64 0]) := hx1
  have HLG : Hid (w.heap.size ≤ G ∧ w.heap.size < G) := by show _ ∧ _; omega
  clear hx0 hx1 hxb
  try rw [← hl_G]
  clear hw_w1
  clear hl_G
  have cA0 : w1.cell? ⟨w.heap.size, 0, none⟩ = some (.slice a zs.length cap) := (A_w1.out.cell 0).trans rfl
  have cA1 : w1.cell? ⟨w.heap.size, 1, none⟩ = some (.int .i64 (k : Int)) := (A_w1.out.cell 1).trans rfl
  go_quiet (fail)
  generalize hq_w2 : w1.drewN _ = w2
  have hb : Below w1.heap.size w1 w2 := by rw [← hq_w2]; exact below_drewN (Below.refl _ _) _
  clear hq_w2
  have HB_w2 : Hid (Below w.heap.size w w2) := below_trans HB_w1.out hb HB_w1.out.size
  have A_w2 : Hid (BoxC w2 24 w.heap.size [.slice a zs.length cap, .int .i64 (k : Int)]) := A_w1.out.below hb
  have Z_w2 : Hid (BoxC w2 24 G [.slice none 0 0, .int .i64 0]) := Z_w1.out.below hb
  clear A_w1 Z_w1 HB_w1
  clear hb
  clear cA0 cA1
  have cA0 : w2.cell? ⟨w.heap.size, 0, none⟩ = some (.slice a zs.length cap) := (A_w2.out.cell 0).trans rfl
  have cA1 : w2.cell? ⟨w.heap.size, 1, none⟩ = some (.int .i64 (k : Int)) := (A_w2.out.cell 1).trans rfl
  go_wp2_with (refine storeC rfl 24 _ _ rfl G rfl [.slice none 0 0, .int .i64 0] [.slice none 0 0, .int .i64 0] rfl Z_w2.out wide_line (fun v hv => by simp at hv; rcases hv with rfl | rfl <;> rfl) rfl ?_)
  intro w3 hz hg
  have HB_w3 : Hid (Below w.heap.size w w3) := HB_w2.out.grown hg HB_w2.out.size (fun j hj => by cases hj; exact (by have := HLG.out; omega))
  have A_w3 : Hid (BoxC w3 24 w.heap.size [.slice a zs.length cap, .int .i64 (k : Int)]) := A_w2.out.kept hg (fun e => by have := HLG.out; have := Option.some.inj e; omega)
  clear A_w2 Z_w2 HB_w2
  have Z_w3 : Hid (BoxC w3 24 G [.slice none 0 0, .int .i64 0]) := hz
  clear hz hg
  go_wp2_with (fail)
  (try simp only [Exit.inBlock, Exit.then])
  refine bodyPost_ret (ret_box rfl _ _ G [.slice none 0 0, .int .i64 0] _ rfl rfl Z_w3.out wide_line) rfl ?_
  exact ⟨HB_w3.out, _, rfl, reads_nil _⟩

set_option maxHeartbeats 1000000 in
theorem refKey_full2 (a : Option Addr) (cap : Nat) (zs : List Int) (k : Nat) (mode key : Int) (w : World) (h : Reads w (.slice a zs.length cap) zs) (hk : k ≤ zs.length) (hl : zs.length = 200) (hkl : k = zs.length) (hk32 : 32 ≤ key) (hne : key ≠ 127) (hm : mode = 2) :
    Calls Try.prog 9 #[.agg #[.slice a zs.length cap, .int .i64 (k : Int)], .int .i64 mode, .int .i64 key] w fun e w' => LineRead ([], 0, 8) w e w' := by
  have HV : Hid (∀ wx, Below w.heap.size w wx → Reads wx (.slice a zs.length cap) zs) := fun wx hx => h.below hx
  subst hm
  have hb2 : (key != 127) = true := by simpa using hne
  have HKL : Hid (k = zs.length) := hkl
  clear hkl
  have hz0 : zs.length - k = 0 := by have := HKL.out; omega
  have HLn : Hid (zs.length = 200) := hl
  have hln : (zs.length : Int) = 200 := by omega
  clear hl
  have hl : zs.length ≤ 200 := by omega
  have hl2 : (zs.length : Int) ≤ 200 := by omega
  have hk1 : (0 : Int) ≤ (k : Int) := by omega
  have hk2 : (k : Int) ≤ (zs.length : Int) := by omega
  obtain ⟨A, hA, hL, hR, hcap⟩ := reads_cut2 h k k (Nat.le_refl _) hk
  have hk3 : (k : Int) ≤ (cap : Int) := by omega
  have HL : Hid (∀ wx, Below w.heap.size w wx → Reads wx (.slice a k cap) (zs.take k)) := fun wx hx => hL.below hx
  have HRt : Hid (∀ wx, Below w.heap.size w wx → Reads wx (.slice A (zs.length - k) (cap - k)) (zs.drop k)) := fun wx hx => hR.below hx
  clear h hL hR hcap
  go_enter Try.func9, Try.ntmps9
  go_wp2_with (fail)
  obtain ⟨w1, hw_w1⟩ : ∃ w1, w1 = ((w.alloc (.cells #[.slice a zs.length cap, .int .i64 (k : Int)] 24)).alloc (.cells #[.slice none 0 0, .int .i64 0] 24)) := ⟨_, rfl⟩
  rw [← hw_w1]
  obtain ⟨hx0, hx1, hxb⟩ := start2 w 24 24 [.slice a zs.length cap, .int .i64 (k : Int)] [.slice none 0 0, .int .i64 0]
  rw [← hw_w1] at hx0 hx1 hxb
  have hsz_w1 : w.heap.size + 1 + 1 = w1.heap.size := by rw [hw_w1, size_alloc, size_alloc]
  try rw [hsz_w1]
  clear hsz_w1
  have HB_w1 : Hid (Below w.heap.size w w1) := hxb
  have A_w1 : Hid (BoxC w1 24 w.heap.size [.slice a zs.length cap, .int .i64 (k : Int)]) := hx0
  obtain ⟨G, hl_G⟩ : ∃ G, G = w.heap.size + 1 := ⟨_, rfl⟩
  rw [← hl_G] at hx1
  have Z_w1 : Hid (BoxC w1 24 G [.slice none 0 0, .int .i64 0]) := hx1
  have HLG : Hid (w.heap.size ≤ G ∧ w.heap.size < G) := by show _ ∧ _; omega
  clear hx0 hx1 hxb
  try rw [← hl_G]
  clear hw_w1
  clear hl_G
  have cA0 : w1.cell? ⟨w.heap.size, 0, none⟩ = some (.slice a zs.length cap) := (A_w1.out.cell 0).trans rfl
  have cA1 : w1.cell? ⟨w.heap.size, 1, none⟩ = some (.int .i64 (k : Int)) := (A_w1.out.cell 1).trans rfl
  go_quiet (fail)
  generalize hq_w2 : w1.drewN _ = w2
  have hb : Below w1.heap.size w1 w2 := by rw [← hq_w2]; exact below_drewN (Below.refl _ _) _
  clear hq_w2
  have HB_w2 : Hid (Below w.heap.size w w2) := below_trans HB_w1.out hb HB_w1.out.size
  have A_w2 : Hid (BoxC w2 24 w.heap.size [.slice a zs.length cap, .int .i64 (k : Int)]) := A_w1.out.below hb
  have Z_w2 : Hid (BoxC w2 24 G [.slice none 0 0, .int .i64 0]) := Z_w1.out.below hb
  clear A_w1 Z_w1 HB_w1
  clear hb
  clear cA0 cA1
  have cA0 : w2.cell? ⟨w.heap.size, 0, none⟩ = some (.slice a zs.length cap) := (A_w2.out.cell 0).trans rfl
  have cA1 : w2.cell? ⟨w.heap.size, 1, none⟩ = some (.int .i64 (k : Int)) := (A_w2.out.cell 1).trans rfl
  go_wp2_with (refine storeC rfl 24 _ _ rfl G rfl [.slice none 0 0, .int .i64 0] [.slice none 0 0, .int .i64 0] rfl Z_w2.out wide_line (fun v hv => by simp at hv; rcases hv with rfl | rfl <;> rfl) rfl ?_)
  intro w3 hz hg
  have HB_w3 : Hid (Below w.heap.size w w3) := HB_w2.out.grown hg HB_w2.out.size (fun j hj => by cases hj; exact (by have := HLG.out; omega))
  have A_w3 : Hid (BoxC w3 24 w.heap.size [.slice a zs.length cap, .int .i64 (k : Int)]) := A_w2.out.kept hg (fun e => by have := HLG.out; have := Option.some.inj e; omega)
  clear A_w2 Z_w2 HB_w2
  have Z_w3 : Hid (BoxC w3 24 G [.slice none 0 0, .int .i64 0]) := hz
  clear hz hg
  go_wp2_with (fail)
  (try simp only [Exit.inBlock, Exit.then])
  refine bodyPost_ret (ret_box rfl _ _ G [.slice none 0 0, .int .i64 0] _ rfl rfl Z_w3.out wide_line) rfl ?_
  exact ⟨HB_w3.out, _, rfl, reads_nil _⟩

end Go.Proofs.Ytpgjaoemkadenaa.Seek
