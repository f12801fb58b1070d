/- The contract of edit.Key. -/
import Derived.Test.YtpgjaoemkadenabM37
set_option linter.unusedVariables false
set_option linter.unusedSimpArgs false
set_option maxRecDepth 100000
namespace Go.Proofs.Ytpgjaoemkadenab.Seek
open Go.RowKit Plain


set_option maxHeartbeats 1000000 in
theorem key_bad (a : Option Addr) (cap : Nat) (zs : List Int) (k mode key c : Int) (w : World) (h : Reads w (.slice a zs.length cap) zs) (hc : tchk zs.length k mode = c) (hc0 : c ≠ 0) :
    Calls Try.prog 15 #[.agg #[.slice a zs.length cap, .int .i64 k], .int .i64 mode, .int .i64 key] w fun e w' => LinePost ([], 0, c) w e w' := by
  have HV : Hid (∀ wx, Below w.heap.size w wx → Reads wx (.slice a zs.length cap) zs) := fun wx hx => h.below hx
  have HC : Hid (tchk zs.length k mode = c) := hc
  clear h hc
  have hb : (c != 0) = true := by simpa using hc0
  clear hc0
  go_enter Try.func15, Try.ntmps15
  go_wp2_with (fail)
  obtain ⟨w1, hw_w1⟩ : ∃ w1, w1 = ((w.alloc (.cells #[.slice a zs.length cap, .int .i64 k] 24)).alloc (.cells #[.slice none 0 0, .int .i64 0] 24)) := ⟨_, rfl⟩
  rw [← hw_w1]
  obtain ⟨hx0, hx1, hxb⟩ := start2 w 24 24 [.slice a zs.length cap, .int .i64 k] [.slice none 0 0, .int .i64 0]
  rw [← hw_w1] at hx0 hx1 hxb
  have hsz_w1 : w.heap.size + 1 + 1 = w1.heap.size := by rw [hw_w1, size_alloc, size_alloc]
  try rw [hsz_w1]
  clear hsz_w1
  have HB_w1 : Hid (Below w.heap.size w w1) := hxb
  have A_w1 : Hid (BoxC w1 24 w.heap.size [.slice a zs.length cap, .int .i64 k]) := hx0
  obtain ⟨G, hl_G⟩ : ∃ G, G = w.heap.size + 1 := ⟨_, rfl⟩
  rw [← hl_G] at hx1
  have Z_w1 : Hid (BoxC w1 24 G [.slice none 0 0, .int .i64 0]) := hx1
  have HLG : Hid (w.heap.size ≤ G ∧ w.heap.size < G) := by show _ ∧ _; omega
  clear hx0 hx1 hxb
  try rw [← hl_G]
  clear hw_w1
  clear hl_G
  refine (checkTyping_go a zs.length cap k mode _).mono ?_
  rintro e w2 ⟨rfl, hb⟩
  rw [HC.out]
  have HB_w2 : Hid (Below w.heap.size w w2) := below_trans HB_w1.out hb HB_w1.out.size
  have A_w2 : Hid (BoxC w2 24 w.heap.size [.slice a zs.length cap, .int .i64 k]) := A_w1.out.below hb
  have Z_w2 : Hid (BoxC w2 24 G [.slice none 0 0, .int .i64 0]) := Z_w1.out.below hb
  clear A_w1 Z_w1 HB_w1
  have cA0 : w2.cell? ⟨w.heap.size, 0, none⟩ = some (.slice a zs.length cap) := (A_w2.out.cell 0).trans rfl
  have cA1 : w2.cell? ⟨w.heap.size, 1, none⟩ = some (.int .i64 k) := (A_w2.out.cell 1).trans rfl
  go_wp2_with (refine storeC rfl 24 _ _ rfl G rfl [.slice none 0 0, .int .i64 0] [.slice none 0 0, .int .i64 0] rfl Z_w2.out wide_line (fun v hv => by simp at hv; rcases hv with rfl | rfl <;> rfl) rfl ?_)
  intro w3 hz hg
  have HB_w3 : Hid (Below w.heap.size w w3) := HB_w2.out.grown hg HB_w2.out.size (fun j hj => by cases hj; exact (by have := HLG.out; omega))
  have A_w3 : Hid (BoxC w3 24 w.heap.size [.slice a zs.length cap, .int .i64 k]) := A_w2.out.kept hg (fun e => by have := HLG.out; have := Option.some.inj e; omega)
  clear A_w2 Z_w2 HB_w2
  have Z_w3 : Hid (BoxC w3 24 G [.slice none 0 0, .int .i64 0]) := hz
  clear hz hg
  go_wp2_with (fail)
  (try simp only [Exit.inBlock, Exit.then])
  refine bodyPost_ret (ret_box rfl _ _ G [.slice none 0 0, .int .i64 0] _ rfl rfl Z_w3.out wide_line) rfl ?_
  exact ⟨HB_w3.out, _, rfl, own_nil _ _⟩

set_option maxHeartbeats 1000000 in
theorem key_typed (a : Option Addr) (cap : Nat) (zs : List Int) (k mode key : Int) (w : World) (h : Reads w (.slice a zs.length cap) zs) (hc : tchk zs.length k mode = 0) (j : Nat) (hj : k = (j : Int)) (hjl : j ≤ zs.length) (hl : zs.length ≤ 200) (hk1 : 32 ≤ key) (hk2 : key ≠ 127) (R : List Int × Int × Int) (hR : R = tpd zs j mode key) :
    Calls Try.prog 15 #[.agg #[.slice a zs.length cap, .int .i64 k], .int .i64 mode, .int .i64 key] w fun e w' => LinePost R w e w' := by
  have HV : Hid (∀ wx, Below w.heap.size w wx → Reads wx (.slice a zs.length cap) zs) := fun wx hx => h.below hx
  have HC : Hid (tchk zs.length k mode = 0) := hc
  clear h hc
  have HR : Hid (R = tpd zs j mode key) := hR
  clear hR
  subst hj
  have hb2 : (key != 127) = true := by simpa using hk2
  go_enter Try.func15, Try.ntmps15
  go_wp2_with (fail)
  obtain ⟨w1, hw_w1⟩ : ∃ w1, w1 = ((w.alloc (.cells #[.slice a zs.length cap, .int .i64 (j : Int)] 24)).alloc (.cells #[.slice none 0 0, .int .i64 0] 24)) := ⟨_, rfl⟩
  rw [← hw_w1]
  obtain ⟨hx0, hx1, hxb⟩ := start2 w 24 24 [.slice a zs.length cap, .int .i64 (j : Int)] [.slice none 0 0, .int .i64 0]
  rw [← hw_w1] at hx0 hx1 hxb
  have hsz_w1 : w.heap.size + 1 + 1 = w1.heap.size := by rw [hw_w1, size_alloc, size_alloc]
  try rw [hsz_w1]
  clear hsz_w1
  have HB_w1 : Hid (Below w.heap.size w w1) := hxb
  have A_w1 : Hid (BoxC w1 24 w.heap.size [.slice a zs.length cap, .int .i64 (j : Int)]) := hx0
  obtain ⟨G, hl_G⟩ : ∃ G, G = w.heap.size + 1 := ⟨_, rfl⟩
  rw [← hl_G] at hx1
  have Z_w1 : Hid (BoxC w1 24 G [.slice none 0 0, .int .i64 0]) := hx1
  have HLG : Hid (w.heap.size ≤ G ∧ w.heap.size < G) := by show _ ∧ _; omega
  clear hx0 hx1 hxb
  try rw [← hl_G]
  clear hw_w1
  clear hl_G
  refine (checkTyping_go a zs.length cap (j : Int) mode _).mono ?_
  rintro e w2 ⟨rfl, hb⟩
  rw [HC.out]
  have HB_w2 : Hid (Below w.heap.size w w2) := below_trans HB_w1.out hb HB_w1.out.size
  have A_w2 : Hid (BoxC w2 24 w.heap.size [.slice a zs.length cap, .int .i64 (j : Int)]) := A_w1.out.below hb
  have Z_w2 : Hid (BoxC w2 24 G [.slice none 0 0, .int .i64 0]) := Z_w1.out.below hb
  clear A_w1 Z_w1 HB_w1
  have cA0 : w2.cell? ⟨w.heap.size, 0, none⟩ = some (.slice a zs.length cap) := (A_w2.out.cell 0).trans rfl
  have cA1 : w2.cell? ⟨w.heap.size, 1, none⟩ = some (.int .i64 (j : Int)) := (A_w2.out.cell 1).trans rfl
  go_wp2_with (fail)
  refine (typed_go (.slice a zs.length cap) zs j mode key _ (HV.out _ HB_w2.out) hjl hl).mono ?_
  rintro e w3 ⟨hb3, v3, rfl, ho3⟩
  rw [← HR.out] at ho3 ⊢
  have HO : Hid (Own w3 w.heap.size v3 R.1) := ho3.less HB_w2.out.size
  have hGs : G < w2.heap.size := Z_w2.out.lt
  have HOG : Hid (Own w3 (G + 1) v3 R.1) := ho3.less (by omega)
  obtain ⟨a3, c3, hv3⟩ := HO.out.reads.shape
  subst hv3
  clear cA0 cA1
  have HB_w3 : Hid (Below w.heap.size w w3) := below_trans HB_w2.out hb3 HB_w2.out.size
  have A_w3 : Hid (BoxC w3 24 w.heap.size [.slice a zs.length cap, .int .i64 (j : Int)]) := A_w2.out.below hb3
  have Z_w3 : Hid (BoxC w3 24 G [.slice none 0 0, .int .i64 0]) := Z_w2.out.below hb3
  clear A_w2 Z_w2 HB_w2
  clear hb3 ho3 hGs HO
  go_wp2_with (refine storeC rfl 24 _ _ rfl G rfl [.slice none 0 0, .int .i64 0] [.slice a3 R.1.length c3, .int .i64 R.2.1] rfl Z_w3.out wide_line (fun v hv => by simp at hv; rcases hv with rfl | rfl <;> rfl) rfl ?_)
  intro w4 hz hg
  have HB_w4 : Hid (Below w.heap.size w w4) := HB_w3.out.grown hg HB_w3.out.size (fun j hj => by cases hj; exact (by have := HLG.out; omega))
  have A_w4 : Hid (BoxC w4 24 w.heap.size [.slice a zs.length cap, .int .i64 (j : Int)]) := A_w3.out.kept hg (fun e => by have := HLG.out; have := Option.some.inj e; omega)
  clear A_w3 Z_w3 HB_w3
  have Z_w4 : Hid (BoxC w4 24 G [.slice a3 R.1.length c3, .int .i64 R.2.1]) := hz
  have HOF : Hid (Own w4 w.heap.size (.slice a3 R.1.length c3) R.1) := (HOG.out.past hg (Nat.lt_succ_self _)).less (by have := HLG.out; omega)
  clear hz hg
  go_wp2_with (fail)
  have HOw : Hid (Own w4 w.heap.size (.slice a3 R.1.length c3) R.1) := HOF.out
  (try simp only [Exit.inBlock, Exit.then])
  refine bodyPost_ret (ret_box rfl _ _ G [.slice a3 R.1.length c3, .int .i64 R.2.1] _ rfl rfl Z_w4.out wide_line) rfl ?_
  exact ⟨HB_w4.out, _, rfl, HOw.out⟩

set_option maxHeartbeats 1000000 in
theorem key_none (a : Option Addr) (cap : Nat) (zs : List Int) (k mode key : Int) (w : World) (h : Reads w (.slice a zs.length cap) zs) (hc : tchk zs.length k mode = 0) (hk : key < 32 ∨ key = 127) (hr : rub key = false) :
    Calls Try.prog 15 #[.agg #[.slice a zs.length cap, .int .i64 k], .int .i64 mode, .int .i64 key] w fun e w' => LinePost ([], 0, 9) w e w' := by
  have HV : Hid (∀ wx, Below w.heap.size w wx → Reads wx (.slice a zs.length cap) zs) := fun wx hx => h.below hx
  have HC : Hid (tchk zs.length k mode = 0) := hc
  clear h hc
  have HRu : Hid (rub key = false) := hr
  clear hr
  by_cases hk32 : 32 ≤ key
  · obtain rfl : key = 127 := by omega
    clear hk hk32
    exact absurd HRu.out (by decide)
  · clear hk
    go_enter Try.func15, Try.ntmps15
    go_wp2_with (fail)
    obtain ⟨w1, hw_w1⟩ : ∃ w1, w1 = ((w.alloc (.cells #[.slice a zs.length cap, .int .i64 k] 24)).alloc (.cells #[.slice none 0 0, .int .i64 0] 24)) := ⟨_, rfl⟩
    rw [← hw_w1]
    obtain ⟨hx0, hx1, hxb⟩ := start2 w 24 24 [.slice a zs.length cap, .int .i64 k] [.slice none 0 0, .int .i64 0]
    rw [← hw_w1] at hx0 hx1 hxb
    have hsz_w1 : w.heap.size + 1 + 1 = w1.heap.size := by rw [hw_w1, size_alloc, size_alloc]
    try rw [hsz_w1]
    clear hsz_w1
    have HB_w1 : Hid (Below w.heap.size w w1) := hxb
    have A_w1 : Hid (BoxC w1 24 w.heap.size [.slice a zs.length cap, .int .i64 k]) := hx0
    obtain ⟨G, hl_G⟩ : ∃ G, G = w.heap.size + 1 := ⟨_, rfl⟩
    rw [← hl_G] at hx1
    have Z_w1 : Hid (BoxC w1 24 G [.slice none 0 0, .int .i64 0]) := hx1
    have HLG : Hid (w.heap.size ≤ G ∧ w.heap.size < G) := by show _ ∧ _; omega
    clear hx0 hx1 hxb
    try rw [← hl_G]
    clear hw_w1
    clear hl_G
    refine (checkTyping_go a zs.length cap k mode _).mono ?_
    rintro e w2 ⟨rfl, hb⟩
    rw [HC.out]
    have HB_w2 : Hid (Below w.heap.size w w2) := below_trans HB_w1.out hb HB_w1.out.size
    have A_w2 : Hid (BoxC w2 24 w.heap.size [.slice a zs.length cap, .int .i64 k]) := A_w1.out.below hb
    have Z_w2 : Hid (BoxC w2 24 G [.slice none 0 0, .int .i64 0]) := Z_w1.out.below hb
    clear A_w1 Z_w1 HB_w1
    have cA0 : w2.cell? ⟨w.heap.size, 0, none⟩ = some (.slice a zs.length cap) := (A_w2.out.cell 0).trans rfl
    have cA1 : w2.cell? ⟨w.heap.size, 1, none⟩ = some (.int .i64 k) := (A_w2.out.cell 1).trans rfl
    go_wp2_with (fail)
    refine (rubs_go _ _).mono ?_
    rintro e wz ⟨rfl, hwz⟩
    rw [hwz, HRu.out]
    clear hwz wz
    go_wp2_with (refine storeC rfl 24 _ _ rfl G rfl [.slice none 0 0, .int .i64 0] [.slice none 0 0, .int .i64 0] rfl Z_w2.out wide_line (fun v hv => by simp at hv; rcases hv with rfl | rfl <;> rfl) rfl ?_)
    intro w3 hz hg
    have HB_w3 : Hid (Below w.heap.size w w3) := HB_w2.out.grown hg HB_w2.out.size (fun j hj => by cases hj; exact (by have := HLG.out; omega))
    have A_w3 : Hid (BoxC w3 24 w.heap.size [.slice a zs.length cap, .int .i64 k]) := A_w2.out.kept hg (fun e => by have := HLG.out; have := Option.some.inj e; omega)
    clear A_w2 Z_w2 HB_w2
    have Z_w3 : Hid (BoxC w3 24 G [.slice none 0 0, .int .i64 0]) := hz
    clear hz hg
    go_wp2_with (fail)
    (try simp only [Exit.inBlock, Exit.then])
    refine bodyPost_ret (ret_box rfl _ _ G [.slice none 0 0, .int .i64 0] _ rfl rfl Z_w3.out wide_line) rfl ?_
    exact ⟨HB_w3.out, _, rfl, own_nil _ _⟩

set_option maxHeartbeats 1000000 in
theorem key_first (a : Option Addr) (cap : Nat) (zs : List Int) (k mode key : Int) (w : World) (h : Reads w (.slice a zs.length cap) zs) (hc : tchk zs.length k mode = 0) (hk : key < 32 ∨ key = 127) (hr : rub key = true) (hk0 : k = 0) :
    Calls Try.prog 15 #[.agg #[.slice a zs.length cap, .int .i64 k], .int .i64 mode, .int .i64 key] w fun e w' => LinePost ([], 0, 5) w e w' := by
  have HV : Hid (∀ wx, Below w.heap.size w wx → Reads wx (.slice a zs.length cap) zs) := fun wx hx => h.below hx
  have HC : Hid (tchk zs.length k mode = 0) := hc
  clear h hc
  have HRu : Hid (rub key = true) := hr
  clear hr
  subst hk0
  by_cases hk32 : 32 ≤ key
  · obtain rfl : key = 127 := by omega
    clear hk hk32
    go_enter Try.func15, Try.ntmps15
    go_wp2_with (fail)
    obtain ⟨w1, hw_w1⟩ : ∃ w1, w1 = ((w.alloc (.cells #[.slice a zs.length cap, .int .i64 0] 24)).alloc (.cells #[.slice none 0 0, .int .i64 0] 24)) := ⟨_, rfl⟩
    rw [← hw_w1]
    obtain ⟨hx0, hx1, hxb⟩ := start2 w 24 24 [.slice a zs.length cap, .int .i64 0] [.slice none 0 0, .int .i64 0]
    rw [← hw_w1] at hx0 hx1 hxb
    have hsz_w1 : w.heap.size + 1 + 1 = w1.heap.size := by rw [hw_w1, size_alloc, size_alloc]
    try rw [hsz_w1]
    clear hsz_w1
    have HB_w1 : Hid (Below w.heap.size w w1) := hxb
    have A_w1 : Hid (BoxC w1 24 w.heap.size [.slice a zs.length cap, .int .i64 0]) := hx0
    obtain ⟨G, hl_G⟩ : ∃ G, G = w.heap.size + 1 := ⟨_, rfl⟩
    rw [← hl_G] at hx1
    have Z_w1 : Hid (BoxC w1 24 G [.slice none 0 0, .int .i64 0]) := hx1
    have HLG : Hid (w.heap.size ≤ G ∧ w.heap.size < G) := by show _ ∧ _; omega
    clear hx0 hx1 hxb
    try rw [← hl_G]
    clear hw_w1
    clear hl_G
    refine (checkTyping_go a zs.length cap 0 mode _).mono ?_
    rintro e w2 ⟨rfl, hb⟩
    rw [HC.out]
    have HB_w2 : Hid (Below w.heap.size w w2) := below_trans HB_w1.out hb HB_w1.out.size
    have A_w2 : Hid (BoxC w2 24 w.heap.size [.slice a zs.length cap, .int .i64 0]) := A_w1.out.below hb
    have Z_w2 : Hid (BoxC w2 24 G [.slice none 0 0, .int .i64 0]) := Z_w1.out.below hb
    clear A_w1 Z_w1 HB_w1
    have cA0 : w2.cell? ⟨w.heap.size, 0, none⟩ = some (.slice a zs.length cap) := (A_w2.out.cell 0).trans rfl
    have cA1 : w2.cell? ⟨w.heap.size, 1, none⟩ = some (.int .i64 0) := (A_w2.out.cell 1).trans rfl
    go_wp2_with (fail)
    refine (rubs_go _ _).mono ?_
    rintro e wz ⟨rfl, hwz⟩
    rw [hwz, HRu.out]
    clear hwz wz
    go_wp2_with (refine storeC rfl 24 _ _ rfl G rfl [.slice none 0 0, .int .i64 0] [.slice none 0 0, .int .i64 0] rfl Z_w2.out wide_line (fun v hv => by simp at hv; rcases hv with rfl | rfl <;> rfl) rfl ?_)
    intro w3 hz hg
    have HB_w3 : Hid (Below w.heap.size w w3) := HB_w2.out.grown hg HB_w2.out.size (fun j hj => by cases hj; exact (by have := HLG.out; omega))
    have A_w3 : Hid (BoxC w3 24 w.heap.size [.slice a zs.length cap, .int .i64 0]) := A_w2.out.kept hg (fun e => by have := HLG.out; have := Option.some.inj e; omega)
    clear A_w2 Z_w2 HB_w2
    have Z_w3 : Hid (BoxC w3 24 G [.slice none 0 0, .int .i64 0]) := hz
    clear hz hg
    go_wp2_with (fail)
    (try simp only [Exit.inBlock, Exit.then])
    refine bodyPost_ret (ret_box rfl _ _ G [.slice none 0 0, .int .i64 0] _ rfl rfl Z_w3.out wide_line) rfl ?_
    exact ⟨HB_w3.out, _, rfl, own_nil _ _⟩
  · clear hk
    go_enter Try.func15, Try.ntmps15
    go_wp2_with (fail)
    obtain ⟨w1, hw_w1⟩ : ∃ w1, w1 = ((w.alloc (.cells #[.slice a zs.length cap, .int .i64 0] 24)).alloc (.cells #[.slice none 0 0, .int .i64 0] 24)) := ⟨_, rfl⟩
    rw [← hw_w1]
    obtain ⟨hx0, hx1, hxb⟩ := start2 w 24 24 [.slice a zs.length cap, .int .i64 0] [.slice none 0 0, .int .i64 0]
    rw [← hw_w1] at hx0 hx1 hxb
    have hsz_w1 : w.heap.size + 1 + 1 = w1.heap.size := by rw [hw_w1, size_alloc, size_alloc]
    try rw [hsz_w1]
    clear hsz_w1
    have HB_w1 : Hid (Below w.heap.size w w1) := hxb
    have A_w1 : Hid (BoxC w1 24 w.heap.size [.slice a zs.length cap, .int .i64 0]) := hx0
    obtain ⟨G, hl_G⟩ : ∃ G, G = w.heap.size + 1 := ⟨_, rfl⟩
    rw [← hl_G] at hx1
    have Z_w1 : Hid (BoxC w1 24 G [.slice none 0 0, .int .i64 0]) := hx1
    have HLG : Hid (w.heap.size ≤ G ∧ w.heap.size < G) := by show _ ∧ _; omega
    clear hx0 hx1 hxb
    try rw [← hl_G]
    clear hw_w1
    clear hl_G
    refine (checkTyping_go a zs.length cap 0 mode _).mono ?_
    rintro e w2 ⟨rfl, hb⟩
    rw [HC.out]
    have HB_w2 : Hid (Below w.heap.size w w2) := below_trans HB_w1.out hb HB_w1.out.size
    have A_w2 : Hid (BoxC w2 24 w.heap.size [.slice a zs.length cap, .int .i64 0]) := A_w1.out.below hb
    have Z_w2 : Hid (BoxC w2 24 G [.slice none 0 0, .int .i64 0]) := Z_w1.out.below hb
    clear A_w1 Z_w1 HB_w1
    have cA0 : w2.cell? ⟨w.heap.size, 0, none⟩ = some (.slice a zs.length cap) := (A_w2.out.cell 0).trans rfl
    have cA1 : w2.cell? ⟨w.heap.size, 1, none⟩ = some (.int .i64 0) := (A_w2.out.cell 1).trans rfl
    go_wp2_with (fail)
    refine (rubs_go _ _).mono ?_
    rintro e wz ⟨rfl, hwz⟩
    rw [hwz, HRu.out]
    clear hwz wz
    go_wp2_with (refine storeC rfl 24 _ _ rfl G rfl [.slice none 0 0, .int .i64 0] [.slice none 0 0, .int .i64 0] rfl Z_w2.out wide_line (fun v hv => by simp at hv; rcases hv with rfl | rfl <;> rfl) rfl ?_)
    intro w3 hz hg
    have HB_w3 : Hid (Below w.heap.size w w3) := HB_w2.out.grown hg HB_w2.out.size (fun j hj => by cases hj; exact (by have := HLG.out; omega))
    have A_w3 : Hid (BoxC w3 24 w.heap.size [.slice a zs.length cap, .int .i64 0]) := A_w2.out.kept hg (fun e => by have := HLG.out; have := Option.some.inj e; omega)
    clear A_w2 Z_w2 HB_w2
    have Z_w3 : Hid (BoxC w3 24 G [.slice none 0 0, .int .i64 0]) := hz
    clear hz hg
    go_wp2_with (fail)
    (try simp only [Exit.inBlock, Exit.then])
    refine bodyPost_ret (ret_box rfl _ _ G [.slice none 0 0, .int .i64 0] _ rfl rfl Z_w3.out wide_line) rfl ?_
    exact ⟨HB_w3.out, _, rfl, own_nil _ _⟩

set_option maxHeartbeats 1000000 in
theorem key_rubs (a : Option Addr) (cap : Nat) (zs : List Int) (k mode key : Int) (w : World) (h : Reads w (.slice a zs.length cap) zs) (hc : tchk zs.length k mode = 0) (j : Nat) (hj : k = (j : Int)) (hj0 : 0 < j) (hjl : j ≤ zs.length) (hl : zs.length ≤ 200) (hk : key < 32 ∨ key = 127) (hr : rub key = true) (R : List Int × Int) (hR : R = rbd zs j mode key) :
    Calls Try.prog 15 #[.agg #[.slice a zs.length cap, .int .i64 k], .int .i64 mode, .int .i64 key] w fun e w' => LinePost (R.1, R.2, 0) w e w' := by
  have HV : Hid (∀ wx, Below w.heap.size w wx → Reads wx (.slice a zs.length cap) zs) := fun wx hx => h.below hx
  have HC : Hid (tchk zs.length k mode = 0) := hc
  clear h hc
  have HR : Hid (R = rbd zs j mode key) := hR
  clear hR
  subst hj
  have HRu : Hid (rub key = true) := hr
  clear hr
  by_cases hk32 : 32 ≤ key
  · obtain rfl : key = 127 := by omega
    clear hk hk32
    go_enter Try.func15, Try.ntmps15
    go_wp2_with (fail)
    obtain ⟨w1, hw_w1⟩ : ∃ w1, w1 = ((w.alloc (.cells #[.slice a zs.length cap, .int .i64 (j : Int)] 24)).alloc (.cells #[.slice none 0 0, .int .i64 0] 24)) := ⟨_, rfl⟩
    rw [← hw_w1]
    obtain ⟨hx0, hx1, hxb⟩ := start2 w 24 24 [.slice a zs.length cap, .int .i64 (j : Int)] [.slice none 0 0, .int .i64 0]
    rw [← hw_w1] at hx0 hx1 hxb
    have hsz_w1 : w.heap.size + 1 + 1 = w1.heap.size := by rw [hw_w1, size_alloc, size_alloc]
    try rw [hsz_w1]
    clear hsz_w1
    have HB_w1 : Hid (Below w.heap.size w w1) := hxb
    have A_w1 : Hid (BoxC w1 24 w.heap.size [.slice a zs.length cap, .int .i64 (j : Int)]) := hx0
    obtain ⟨G, hl_G⟩ : ∃ G, G = w.heap.size + 1 := ⟨_, rfl⟩
    rw [← hl_G] at hx1
    have Z_w1 : Hid (BoxC w1 24 G [.slice none 0 0, .int .i64 0]) := hx1
    have HLG : Hid (w.heap.size ≤ G ∧ w.heap.size < G) := by show _ ∧ _; omega
    clear hx0 hx1 hxb
    try rw [← hl_G]
    clear hw_w1
    clear hl_G
    refine (checkTyping_go a zs.length cap (j : Int) mode _).mono ?_
    rintro e w2 ⟨rfl, hb⟩
    rw [HC.out]
    have HB_w2 : Hid (Below w.heap.size w w2) := below_trans HB_w1.out hb HB_w1.out.size
    have A_w2 : Hid (BoxC w2 24 w.heap.size [.slice a zs.length cap, .int .i64 (j : Int)]) := A_w1.out.below hb
    have Z_w2 : Hid (BoxC w2 24 G [.slice none 0 0, .int .i64 0]) := Z_w1.out.below hb
    clear A_w1 Z_w1 HB_w1
    have cA0 : w2.cell? ⟨w.heap.size, 0, none⟩ = some (.slice a zs.length cap) := (A_w2.out.cell 0).trans rfl
    have cA1 : w2.cell? ⟨w.heap.size, 1, none⟩ = some (.int .i64 (j : Int)) := (A_w2.out.cell 1).trans rfl
    go_wp2_with (fail)
    refine (rubs_go _ _).mono ?_
    rintro e wz ⟨rfl, hwz⟩
    rw [hwz, HRu.out]
    clear hwz wz
    have hjne : ((j : Int) == 0) = false := by simp; omega
    go_wp2_with (fail)
    refine (rubbed_go (.slice a zs.length cap) zs j mode _ _ (HV.out _ HB_w2.out) hj0 hjl hl).mono ?_
    rintro e w3 ⟨hb3, v3, rfl, ho3⟩
    rw [← HR.out] at ho3 ⊢
    have HO : Hid (Own w3 w.heap.size v3 R.1) := ho3.less HB_w2.out.size
    have hGs : G < w2.heap.size := Z_w2.out.lt
    have HOG : Hid (Own w3 (G + 1) v3 R.1) := ho3.less (by omega)
    obtain ⟨a3, c3, hv3⟩ := HO.out.reads.shape
    subst hv3
    clear cA0 cA1
    have HB_w3 : Hid (Below w.heap.size w w3) := below_trans HB_w2.out hb3 HB_w2.out.size
    have A_w3 : Hid (BoxC w3 24 w.heap.size [.slice a zs.length cap, .int .i64 (j : Int)]) := A_w2.out.below hb3
    have Z_w3 : Hid (BoxC w3 24 G [.slice none 0 0, .int .i64 0]) := Z_w2.out.below hb3
    clear A_w2 Z_w2 HB_w2
    clear hb3 ho3 hGs HO
    go_wp2_with (refine storeC rfl 24 _ _ rfl G rfl [.slice none 0 0, .int .i64 0] [.slice a3 R.1.length c3, .int .i64 R.2] rfl Z_w3.out wide_line (fun v hv => by simp at hv; rcases hv with rfl | rfl <;> rfl) rfl ?_)
    intro w4 hz hg
    have HB_w4 : Hid (Below w.heap.size w w4) := HB_w3.out.grown hg HB_w3.out.size (fun j hj => by cases hj; exact (by have := HLG.out; omega))
    have A_w4 : Hid (BoxC w4 24 w.heap.size [.slice a zs.length cap, .int .i64 (j : Int)]) := A_w3.out.kept hg (fun e => by have := HLG.out; have := Option.some.inj e; omega)
    clear A_w3 Z_w3 HB_w3
    have Z_w4 : Hid (BoxC w4 24 G [.slice a3 R.1.length c3, .int .i64 R.2]) := hz
    have HOF : Hid (Own w4 w.heap.size (.slice a3 R.1.length c3) R.1) := (HOG.out.past hg (Nat.lt_succ_self _)).less (by have := HLG.out; omega)
    clear hz hg
    go_wp2_with (fail)
    have HOw : Hid (Own w4 w.heap.size (.slice a3 R.1.length c3) R.1) := HOF.out
    (try simp only [Exit.inBlock, Exit.then])
    refine bodyPost_ret (ret_box rfl _ _ G [.slice a3 R.1.length c3, .int .i64 R.2] _ rfl rfl Z_w4.out wide_line) rfl ?_
    exact ⟨HB_w4.out, _, rfl, HOw.out⟩
  · clear hk
    go_enter Try.func15, Try.ntmps15
    go_wp2_with (fail)
    obtain ⟨w1, hw_w1⟩ : ∃ w1, w1 = ((w.alloc (.cells #[.slice a zs.length cap, .int .i64 (j : Int)] 24)).alloc (.cells #[.slice none 0 0, .int .i64 0] 24)) := ⟨_, rfl⟩
    rw [← hw_w1]
    obtain ⟨hx0, hx1, hxb⟩ := start2 w 24 24 [.slice a zs.length cap, .int .i64 (j : Int)] [.slice none 0 0, .int .i64 0]
    rw [← hw_w1] at hx0 hx1 hxb
    have hsz_w1 : w.heap.size + 1 + 1 = w1.heap.size := by rw [hw_w1, size_alloc, size_alloc]
    try rw [hsz_w1]
    clear hsz_w1
    have HB_w1 : Hid (Below w.heap.size w w1) := hxb
    have A_w1 : Hid (BoxC w1 24 w.heap.size [.slice a zs.length cap, .int .i64 (j : Int)]) := hx0
    obtain ⟨G, hl_G⟩ : ∃ G, G = w.heap.size + 1 := ⟨_, rfl⟩
    rw [← hl_G] at hx1
    have Z_w1 : Hid (BoxC w1 24 G [.slice none 0 0, .int .i64 0]) := hx1
    have HLG : Hid (w.heap.size ≤ G ∧ w.heap.size < G) := by show _ ∧ _; omega
    clear hx0 hx1 hxb
    try rw [← hl_G]
    clear hw_w1
    clear hl_G
    refine (checkTyping_go a zs.length cap (j : Int) mode _).mono ?_
    rintro e w2 ⟨rfl, hb⟩
    rw [HC.out]
    have HB_w2 : Hid (Below w.heap.size w w2) := below_trans HB_w1.out hb HB_w1.out.size
    have A_w2 : Hid (BoxC w2 24 w.heap.size [.slice a zs.length cap, .int .i64 (j : Int)]) := A_w1.out.below hb
    have Z_w2 : Hid (BoxC w2 24 G [.slice none 0 0, .int .i64 0]) := Z_w1.out.below hb
    clear A_w1 Z_w1 HB_w1
    have cA0 : w2.cell? ⟨w.heap.size, 0, none⟩ = some (.slice a zs.length cap) := (A_w2.out.cell 0).trans rfl
    have cA1 : w2.cell? ⟨w.heap.size, 1, none⟩ = some (.int .i64 (j : Int)) := (A_w2.out.cell 1).trans rfl
    go_wp2_with (fail)
    refine (rubs_go _ _).mono ?_
    rintro e wz ⟨rfl, hwz⟩
    rw [hwz, HRu.out]
    clear hwz wz
    have hjne : ((j : Int) == 0) = false := by simp; omega
    go_wp2_with (fail)
    refine (rubbed_go (.slice a zs.length cap) zs j mode _ _ (HV.out _ HB_w2.out) hj0 hjl hl).mono ?_
    rintro e w3 ⟨hb3, v3, rfl, ho3⟩
    rw [← HR.out] at ho3 ⊢
    have HO : Hid (Own w3 w.heap.size v3 R.1) := ho3.less HB_w2.out.size
    have hGs : G < w2.heap.size := Z_w2.out.lt
    have HOG : Hid (Own w3 (G + 1) v3 R.1) := ho3.less (by omega)
    obtain ⟨a3, c3, hv3⟩ := HO.out.reads.shape
    subst hv3
    clear cA0 cA1
    have HB_w3 : Hid (Below w.heap.size w w3) := below_trans HB_w2.out hb3 HB_w2.out.size
    have A_w3 : Hid (BoxC w3 24 w.heap.size [.slice a zs.length cap, .int .i64 (j : Int)]) := A_w2.out.below hb3
    have Z_w3 : Hid (BoxC w3 24 G [.slice none 0 0, .int .i64 0]) := Z_w2.out.below hb3
    clear A_w2 Z_w2 HB_w2
    clear hb3 ho3 hGs HO
    go_wp2_with (refine storeC rfl 24 _ _ rfl G rfl [.slice none 0 0, .int .i64 0] [.slice a3 R.1.length c3, .int .i64 R.2] rfl Z_w3.out wide_line (fun v hv => by simp at hv; rcases hv with rfl | rfl <;> rfl) rfl ?_)
    intro w4 hz hg
    have HB_w4 : Hid (Below w.heap.size w w4) := HB_w3.out.grown hg HB_w3.out.size (fun j hj => by cases hj; exact (by have := HLG.out; omega))
    have A_w4 : Hid (BoxC w4 24 w.heap.size [.slice a zs.length cap, .int .i64 (j : Int)]) := A_w3.out.kept hg (fun e => by have := HLG.out; have := Option.some.inj e; omega)
    clear A_w3 Z_w3 HB_w3
    have Z_w4 : Hid (BoxC w4 24 G [.slice a3 R.1.length c3, .int .i64 R.2]) := hz
    have HOF : Hid (Own w4 w.heap.size (.slice a3 R.1.length c3) R.1) := (HOG.out.past hg (Nat.lt_succ_self _)).less (by have := HLG.out; omega)
    clear hz hg
    go_wp2_with (fail)
    have HOw : Hid (Own w4 w.heap.size (.slice a3 R.1.length c3) R.1) := HOF.out
    (try simp only [Exit.inBlock, Exit.then])
    refine bodyPost_ret (ret_box rfl _ _ G [.slice a3 R.1.length c3, .int .i64 R.2] _ rfl rfl Z_w4.out wide_line) rfl ?_
    exact ⟨HB_w4.out, _, rfl, HOw.out⟩

theorem key_go (v : Value) (zs : List Int) (k mode key : Int) (w : World) (h : Reads w v zs) :
    Calls Try.prog 15 #[.agg #[v, .int .i64 k], .int .i64 mode, .int .i64 key] w fun e w' => LinePost (keyd zs k mode key) w e w' := by
  obtain ⟨a, cap, rfl⟩ := h.shape
  unfold keyd
  by_cases hc : tchk zs.length k mode = 0
  · rw [if_neg (by omega)]
    obtain ⟨hl, ⟨j, hj, hjl⟩, hm⟩ := tchk_zero hc
    have hjk : k.toNat = j := by omega
    rw [hjk]
    by_cases h1 : 32 ≤ key ∧ key ≠ 127
    · rw [if_pos h1]
      exact key_typed a cap zs k mode key w h hc j hj hjl hl h1.1 h1.2 _ rfl
    · rw [if_neg h1]
      cases hr : rub key with
      | false =>
        rw [if_pos rfl]
        exact key_none a cap zs k mode key w h hc (by omega) hr
      | true =>
        rw [if_neg (by decide)]
        by_cases hk0 : k = 0
        · rw [if_pos hk0]
          exact key_first a cap zs k mode key w h hc (by omega) hr hk0
        · rw [if_neg hk0]
          exact key_rubs a cap zs k mode key w h hc j hj (by omega) hjl hl (by omega) hr _ rfl
  · rw [if_pos hc]
    exact key_bad a cap zs k mode key _ w h rfl hc
end Go.Proofs.Ytpgjaoemkadenab.Seek
