/- The contract of edit.rubbed. -/
import Derived.Test.YtpgjaoemkadenabKTyped
set_option linter.unusedVariables false
set_option linter.unusedSimpArgs false
set_option maxRecDepth 100000
namespace Go.Proofs.Ytpgjaoemkadenab.Seek
open Go.RowKit Plain

/-- A line that a call tells. -/
def LineOne (r : List Int × Int) (w : World) (e : Ending) (w' : World) : Prop := Below w.heap.size w w' ∧ ∃ tv, e = .returned (.agg #[tv, .int .i64 r.2]) ∧ Own w' w.heap.size tv r.1
theorem reads_nil (w : World) : Reads w (.slice none 0 0) [] := .inl ⟨_, _, rfl, rfl⟩


set_option maxHeartbeats 1000000 in
theorem rubbed_all (a : Option Addr) (cap : Nat) (zs : List Int) (k : Nat) (mode key : Int) (w : World) (h : Reads w (.slice a zs.length cap) zs) (hk0 : 0 < k) (hk : k ≤ zs.length) (hl : zs.length ≤ 200) (hm : key = 21) (T : List Int) (hT : T = wit zs 0 k []) :
    Calls Try.prog 31 #[.agg #[.slice a zs.length cap, .int .i64 (k : Int)], .int .i64 mode, .int .i64 key] w fun e w' => LineOne (T, 0) w e w' := by
  have HV : Hid (∀ wx, Below w.heap.size w wx → Reads wx (.slice a zs.length cap) zs) := fun wx hx => h.below hx
  have HC : Hid (chk zs.length (k : Int) = 0) := chk_right (by omega) hk
  have hw1 : IntKind.i64.wrap ((k : Int) - 1) = (k : Int) - 1 := by rw [IntKind.wrap_i64]; omega
  have HT : Hid (T = wit zs 0 k []) := hT
  clear hT
  clear h
  subst hm
  go_enter Try.func31, Try.ntmps31
  go_wp2_with (fail)
  obtain ⟨w1, hw_w1⟩ : ∃ w1, w1 = ((w.alloc (.cells #[.slice a zs.length cap, .int .i64 (k : Int)] 24)).alloc (.cells #[.slice none 0 0, .int .i64 0] 24)) := ⟨_, rfl⟩
  rw [← hw_w1]
  obtain ⟨hx0, hx1, hxb⟩ := start2 w 24 24 [.slice a zs.length cap, .int .i64 (k : Int)] [.slice none 0 0, .int .i64 0]
  rw [← hw_w1] at hx0 hx1 hxb
  have hsz_w1 : w.heap.size + 1 + 1 = w1.heap.size := by rw [hw_w1, size_alloc, size_alloc]
  try rw [hsz_w1]
  clear hsz_w1
  have HB_w1 : Hid (Below w.heap.size w w1) := hxb
  have A_w1 : Hid (BoxC w1 24 w.heap.size [.slice a zs.length cap, .int .i64 (k : Int)]) := hx0
  obtain ⟨G, hl_G⟩ : ∃ G, G = w.heap.size + 1 := ⟨_, rfl⟩
  rw [← hl_G] at hx1
  have Z_w1 : Hid (BoxC w1 24 G [.slice none 0 0, .int .i64 0]) := hx1
  have HLG : Hid (w.heap.size ≤ G ∧ w.heap.size < G) := by show _ ∧ _; omega
  clear hx0 hx1 hxb
  try rw [← hl_G]
  clear hw_w1
  clear hl_G
  have HWC : Hid (Calls Try.prog 45 #[.slice a zs.length cap, .int .i64 0, .int .i64 (k : Int), .slice none 0 0] w1 fun e w' => ConcatPost T w1 e w') := by
    have q := with_go (.slice a zs.length cap) (.slice none 0 0) zs [] 0 k w1 (HV.out _ HB_w1.out) (reads_nil _) (by omega) hk (by omega) (by show 0 ≤ 4096; omega)
    rw [← HT.out] at q
    exact q
  refine HWC.out.mono ?_
  rintro e w3 ⟨hb, v3, rfl, ho3⟩
  have HO : Hid (Own w3 w.heap.size v3 T) := ho3.less HB_w1.out.size
  have hGs : G < w1.heap.size := Z_w1.out.lt
  have HOG : Hid (Own w3 (G + 1) v3 T) := ho3.less (by omega)
  obtain ⟨a3, c3, hv3⟩ := HO.out.reads.shape
  subst hv3
  have HB_w3 : Hid (Below w.heap.size w w3) := below_trans HB_w1.out hb HB_w1.out.size
  have A_w3 : Hid (BoxC w3 24 w.heap.size [.slice a zs.length cap, .int .i64 (k : Int)]) := A_w1.out.below hb
  have Z_w3 : Hid (BoxC w3 24 G [.slice none 0 0, .int .i64 0]) := Z_w1.out.below hb
  clear A_w1 Z_w1 HB_w1
  clear hb ho3 hGs HWC HO
  go_wp2_with (refine storeC rfl 24 _ _ rfl G rfl [.slice none 0 0, .int .i64 0] [.slice a3 T.length c3, .int .i64 0] rfl Z_w3.out wide_line (fun v hv => by simp at hv; rcases hv with rfl | rfl <;> rfl) rfl ?_)
  intro w4 hz hg
  have HB_w4 : Hid (Below w.heap.size w w4) := HB_w3.out.grown hg HB_w3.out.size (fun j hj => by cases hj; exact (by have := HLG.out; omega))
  have A_w4 : Hid (BoxC w4 24 w.heap.size [.slice a zs.length cap, .int .i64 (k : Int)]) := A_w3.out.kept hg (fun e => by have := HLG.out; have := Option.some.inj e; omega)
  clear A_w3 Z_w3 HB_w3
  have Z_w4 : Hid (BoxC w4 24 G [.slice a3 T.length c3, .int .i64 0]) := hz
  have HOF : Hid (Own w4 w.heap.size (.slice a3 T.length c3) T) := (HOG.out.past hg (Nat.lt_succ_self _)).less (by have := HLG.out; omega)
  clear hz hg
  go_wp2_with (fail)
  have HOw : Hid (Own w4 w.heap.size (.slice a3 T.length c3) T) := HOF.out
  (try simp only [Exit.inBlock, Exit.then])
  refine bodyPost_ret (ret_box1 rfl _ _ G [.slice a3 T.length c3, .int .i64 0] rfl Z_w4.out wide_line) rfl ?_
  exact ⟨HB_w4.out, _, rfl, HOw.out⟩

set_option maxHeartbeats 1000000 in
theorem rubbed_word (a : Option Addr) (cap : Nat) (zs : List Int) (k : Nat) (mode key : Int) (w : World) (h : Reads w (.slice a zs.length cap) zs) (hk0 : 0 < k) (hk : k ≤ zs.length) (hl : zs.length ≤ 200) (hm : key = 23) (T : List Int) (F : Nat) (hF : back zs (k : Int) false = (F : Int)) (hF2 : F ≤ k) (hT : T = wit zs F k []) :
    Calls Try.prog 31 #[.agg #[.slice a zs.length cap, .int .i64 (k : Int)], .int .i64 mode, .int .i64 key] w fun e w' => LineOne (T, (F : Int)) w e w' := by
  have HV : Hid (∀ wx, Below w.heap.size w wx → Reads wx (.slice a zs.length cap) zs) := fun wx hx => h.below hx
  have HC : Hid (chk zs.length (k : Int) = 0) := chk_right (by omega) hk
  have hw1 : IntKind.i64.wrap ((k : Int) - 1) = (k : Int) - 1 := by rw [IntKind.wrap_i64]; omega
  have HT : Hid (T = wit zs F k []) := hT
  clear hT
  clear h
  have HF : Hid (back zs (k : Int) false = (F : Int)) := hF
  clear hF
  subst hm
  go_enter Try.func31, Try.ntmps31
  go_wp2_with (fail)
  obtain ⟨w1, hw_w1⟩ : ∃ w1, w1 = ((w.alloc (.cells #[.slice a zs.length cap, .int .i64 (k : Int)] 24)).alloc (.cells #[.slice none 0 0, .int .i64 0] 24)) := ⟨_, rfl⟩
  rw [← hw_w1]
  obtain ⟨hx0, hx1, hxb⟩ := start2 w 24 24 [.slice a zs.length cap, .int .i64 (k : Int)] [.slice none 0 0, .int .i64 0]
  rw [← hw_w1] at hx0 hx1 hxb
  have hsz_w1 : w.heap.size + 1 + 1 = w1.heap.size := by rw [hw_w1, size_alloc, size_alloc]
  try rw [hsz_w1]
  clear hsz_w1
  have HB_w1 : Hid (Below w.heap.size w w1) := hxb
  have A_w1 : Hid (BoxC w1 24 w.heap.size [.slice a zs.length cap, .int .i64 (k : Int)]) := hx0
  obtain ⟨G, hl_G⟩ : ∃ G, G = w.heap.size + 1 := ⟨_, rfl⟩
  rw [← hl_G] at hx1
  have Z_w1 : Hid (BoxC w1 24 G [.slice none 0 0, .int .i64 0]) := hx1
  have HLG : Hid (w.heap.size ≤ G ∧ w.heap.size < G) := by show _ ∧ _; omega
  clear hx0 hx1 hxb
  try rw [← hl_G]
  clear hw_w1
  clear hl_G
  refine (back_go (.slice a zs.length cap) zs (k : Int) false _ (HV.out _ HB_w1.out)).mono ?_
  rintro e wz ⟨rfl, hwz⟩
  rw [hwz, HF.out, HC.out]
  clear hwz wz
  have cA0 : w1.cell? ⟨w.heap.size, 0, none⟩ = some (.slice a zs.length cap) := (A_w1.out.cell 0).trans rfl
  have cA1 : w1.cell? ⟨w.heap.size, 1, none⟩ = some (.int .i64 (k : Int)) := (A_w1.out.cell 1).trans rfl
  go_wp2_with (fail)
  clear cA0 cA1
  have HWC : Hid (Calls Try.prog 45 #[.slice a zs.length cap, .int .i64 (F : Int), .int .i64 (k : Int), .slice none 0 0] w1 fun e w' => ConcatPost T w1 e w') := by
    have q := with_go (.slice a zs.length cap) (.slice none 0 0) zs [] F k w1 (HV.out _ HB_w1.out) (reads_nil _) (by omega) hk (by omega) (by show 0 ≤ 4096; omega)
    rw [← HT.out] at q
    exact q
  refine HWC.out.mono ?_
  rintro e w3 ⟨hb, v3, rfl, ho3⟩
  have HO : Hid (Own w3 w.heap.size v3 T) := ho3.less HB_w1.out.size
  have hGs : G < w1.heap.size := Z_w1.out.lt
  have HOG : Hid (Own w3 (G + 1) v3 T) := ho3.less (by omega)
  obtain ⟨a3, c3, hv3⟩ := HO.out.reads.shape
  subst hv3
  have HB_w3 : Hid (Below w.heap.size w w3) := below_trans HB_w1.out hb HB_w1.out.size
  have A_w3 : Hid (BoxC w3 24 w.heap.size [.slice a zs.length cap, .int .i64 (k : Int)]) := A_w1.out.below hb
  have Z_w3 : Hid (BoxC w3 24 G [.slice none 0 0, .int .i64 0]) := Z_w1.out.below hb
  clear A_w1 Z_w1 HB_w1
  clear hb ho3 hGs HWC HO
  go_wp2_with (refine storeC rfl 24 _ _ rfl G rfl [.slice none 0 0, .int .i64 0] [.slice a3 T.length c3, .int .i64 (F : Int)] rfl Z_w3.out wide_line (fun v hv => by simp at hv; rcases hv with rfl | rfl <;> rfl) rfl ?_)
  intro w4 hz hg
  have HB_w4 : Hid (Below w.heap.size w w4) := HB_w3.out.grown hg HB_w3.out.size (fun j hj => by cases hj; exact (by have := HLG.out; omega))
  have A_w4 : Hid (BoxC w4 24 w.heap.size [.slice a zs.length cap, .int .i64 (k : Int)]) := A_w3.out.kept hg (fun e => by have := HLG.out; have := Option.some.inj e; omega)
  clear A_w3 Z_w3 HB_w3
  have Z_w4 : Hid (BoxC w4 24 G [.slice a3 T.length c3, .int .i64 (F : Int)]) := hz
  have HOF : Hid (Own w4 w.heap.size (.slice a3 T.length c3) T) := (HOG.out.past hg (Nat.lt_succ_self _)).less (by have := HLG.out; omega)
  clear hz hg
  go_wp2_with (fail)
  have HOw : Hid (Own w4 w.heap.size (.slice a3 T.length c3) T) := HOF.out
  (try simp only [Exit.inBlock, Exit.then])
  refine bodyPost_ret (ret_box1 rfl _ _ G [.slice a3 T.length c3, .int .i64 (F : Int)] rfl Z_w4.out wide_line) rfl ?_
  exact ⟨HB_w4.out, _, rfl, HOw.out⟩

set_option maxHeartbeats 1000000 in
theorem rubbed_stay (a : Option Addr) (cap : Nat) (zs : List Int) (k : Nat) (mode key : Int) (w : World) (h : Reads w (.slice a zs.length cap) zs) (hk0 : 0 < k) (hk : k ≤ zs.length) (hl : zs.length ≤ 200) (hm : key ≠ 21 ∧ key ≠ 23 ∧ mode = 2) :
    Calls Try.prog 31 #[.agg #[.slice a zs.length cap, .int .i64 (k : Int)], .int .i64 mode, .int .i64 key] w fun e w' => LineOne (zs, ((k : Int) - 1)) w e w' := by
  have HV : Hid (∀ wx, Below w.heap.size w wx → Reads wx (.slice a zs.length cap) zs) := fun wx hx => h.below hx
  have HC : Hid (chk zs.length (k : Int) = 0) := chk_right (by omega) hk
  have hw1 : IntKind.i64.wrap ((k : Int) - 1) = (k : Int) - 1 := by rw [IntKind.wrap_i64]; omega
  clear h
  obtain ⟨hm1, hm2, hm3⟩ := hm
  have hb1 : (key == 21) = false := by simpa using hm1
  have hb2 : (key == 23) = false := by simpa using hm2
  subst hm3
  go_enter Try.func31, Try.ntmps31
  go_wp2_with (fail)
  obtain ⟨w1, hw_w1⟩ : ∃ w1, w1 = ((w.alloc (.cells #[.slice a zs.length cap, .int .i64 (k : Int)] 24)).alloc (.cells #[.slice none 0 0, .int .i64 0] 24)) := ⟨_, rfl⟩
  rw [← hw_w1]
  obtain ⟨hx0, hx1, hxb⟩ := start2 w 24 24 [.slice a zs.length cap, .int .i64 (k : Int)] [.slice none 0 0, .int .i64 0]
  rw [← hw_w1] at hx0 hx1 hxb
  have hsz_w1 : w.heap.size + 1 + 1 = w1.heap.size := by rw [hw_w1, size_alloc, size_alloc]
  try rw [hsz_w1]
  clear hsz_w1
  have HB_w1 : Hid (Below w.heap.size w w1) := hxb
  have A_w1 : Hid (BoxC w1 24 w.heap.size [.slice a zs.length cap, .int .i64 (k : Int)]) := hx0
  obtain ⟨G, hl_G⟩ : ∃ G, G = w.heap.size + 1 := ⟨_, rfl⟩
  rw [← hl_G] at hx1
  have Z_w1 : Hid (BoxC w1 24 G [.slice none 0 0, .int .i64 0]) := hx1
  have HLG : Hid (w.heap.size ≤ G ∧ w.heap.size < G) := by show _ ∧ _; omega
  clear hx0 hx1 hxb
  try rw [← hl_G]
  clear hw_w1
  clear hl_G
  have HWC : Hid (Calls Try.prog 44 #[.slice a zs.length cap] w1 fun e w' => ConcatPost zs w1 e w') := copied_go _ zs _ (HV.out _ HB_w1.out) (by unfold Mild; omega)
  refine HWC.out.mono ?_
  rintro e w3 ⟨hb, v3, rfl, ho3⟩
  have HO : Hid (Own w3 w.heap.size v3 zs) := ho3.less HB_w1.out.size
  have hGs : G < w1.heap.size := Z_w1.out.lt
  have HOG : Hid (Own w3 (G + 1) v3 zs) := ho3.less (by omega)
  obtain ⟨a3, c3, hv3⟩ := HO.out.reads.shape
  subst hv3
  have HB_w3 : Hid (Below w.heap.size w w3) := below_trans HB_w1.out hb HB_w1.out.size
  have A_w3 : Hid (BoxC w3 24 w.heap.size [.slice a zs.length cap, .int .i64 (k : Int)]) := A_w1.out.below hb
  have Z_w3 : Hid (BoxC w3 24 G [.slice none 0 0, .int .i64 0]) := Z_w1.out.below hb
  clear A_w1 Z_w1 HB_w1
  clear hb ho3 hGs HWC HO
  go_wp2_with (refine storeC rfl 24 _ _ rfl G rfl [.slice none 0 0, .int .i64 0] [.slice a3 zs.length c3, .int .i64 ((k : Int) - 1)] rfl Z_w3.out wide_line (fun v hv => by simp at hv; rcases hv with rfl | rfl <;> rfl) rfl ?_)
  intro w4 hz hg
  have HB_w4 : Hid (Below w.heap.size w w4) := HB_w3.out.grown hg HB_w3.out.size (fun j hj => by cases hj; exact (by have := HLG.out; omega))
  have A_w4 : Hid (BoxC w4 24 w.heap.size [.slice a zs.length cap, .int .i64 (k : Int)]) := A_w3.out.kept hg (fun e => by have := HLG.out; have := Option.some.inj e; omega)
  clear A_w3 Z_w3 HB_w3
  have Z_w4 : Hid (BoxC w4 24 G [.slice a3 zs.length c3, .int .i64 ((k : Int) - 1)]) := hz
  have HOF : Hid (Own w4 w.heap.size (.slice a3 zs.length c3) zs) := (HOG.out.past hg (Nat.lt_succ_self _)).less (by have := HLG.out; omega)
  clear hz hg
  go_wp2_with (fail)
  have HOw : Hid (Own w4 w.heap.size (.slice a3 zs.length c3) zs) := HOF.out
  (try simp only [Exit.inBlock, Exit.then])
  refine bodyPost_ret (ret_box1 rfl _ _ G [.slice a3 zs.length c3, .int .i64 ((k : Int) - 1)] rfl Z_w4.out wide_line) rfl ?_
  exact ⟨HB_w4.out, _, rfl, HOw.out⟩

set_option maxHeartbeats 1000000 in
theorem rubbed_one (a : Option Addr) (cap : Nat) (zs : List Int) (k : Nat) (mode key : Int) (w : World) (h : Reads w (.slice a zs.length cap) zs) (hk0 : 0 < k) (hk : k ≤ zs.length) (hl : zs.length ≤ 200) (hm : key ≠ 21 ∧ key ≠ 23 ∧ mode ≠ 2) (T : List Int) (hT : T = wit zs (k - 1) k []) :
    Calls Try.prog 31 #[.agg #[.slice a zs.length cap, .int .i64 (k : Int)], .int .i64 mode, .int .i64 key] w fun e w' => LineOne (T, ((k : Int) - 1)) w e w' := by
  have HV : Hid (∀ wx, Below w.heap.size w wx → Reads wx (.slice a zs.length cap) zs) := fun wx hx => h.below hx
  have HC : Hid (chk zs.length (k : Int) = 0) := chk_right (by omega) hk
  have hw1 : IntKind.i64.wrap ((k : Int) - 1) = (k : Int) - 1 := by rw [IntKind.wrap_i64]; omega
  have HT : Hid (T = wit zs (k - 1) k []) := hT
  clear hT
  clear h
  obtain ⟨hm1, hm2, hm3⟩ := hm
  have hb1 : (key == 21) = false := by simpa using hm1
  have hb2 : (key == 23) = false := by simpa using hm2
  have hb3 : (mode == 2) = false := by simpa using hm3
  go_enter Try.func31, Try.ntmps31
  go_wp2_with (fail)
  obtain ⟨w1, hw_w1⟩ : ∃ w1, w1 = ((w.alloc (.cells #[.slice a zs.length cap, .int .i64 (k : Int)] 24)).alloc (.cells #[.slice none 0 0, .int .i64 0] 24)) := ⟨_, rfl⟩
  rw [← hw_w1]
  obtain ⟨hx0, hx1, hxb⟩ := start2 w 24 24 [.slice a zs.length cap, .int .i64 (k : Int)] [.slice none 0 0, .int .i64 0]
  rw [← hw_w1] at hx0 hx1 hxb
  have hsz_w1 : w.heap.size + 1 + 1 = w1.heap.size := by rw [hw_w1, size_alloc, size_alloc]
  try rw [hsz_w1]
  clear hsz_w1
  have HB_w1 : Hid (Below w.heap.size w w1) := hxb
  have A_w1 : Hid (BoxC w1 24 w.heap.size [.slice a zs.length cap, .int .i64 (k : Int)]) := hx0
  obtain ⟨G, hl_G⟩ : ∃ G, G = w.heap.size + 1 := ⟨_, rfl⟩
  rw [← hl_G] at hx1
  have Z_w1 : Hid (BoxC w1 24 G [.slice none 0 0, .int .i64 0]) := hx1
  have HLG : Hid (w.heap.size ≤ G ∧ w.heap.size < G) := by show _ ∧ _; omega
  clear hx0 hx1 hxb
  try rw [← hl_G]
  clear hw_w1
  clear hl_G
  have HWC : Hid (Calls Try.prog 45 #[.slice a zs.length cap, .int .i64 ((k : Int) - 1), .int .i64 (k : Int), .slice none 0 0] w1 fun e w' => ConcatPost T w1 e w') := by
    have q := with_go (.slice a zs.length cap) (.slice none 0 0) zs [] (k - 1) k w1 (HV.out _ HB_w1.out) (reads_nil _) (by omega) hk (by omega) (by show 0 ≤ 4096; omega)
    rw [← HT.out] at q
    rw [show ((k - 1 : Nat) : Int) = (k : Int) - 1 by omega] at q
    exact q
  refine HWC.out.mono ?_
  rintro e w3 ⟨hb, v3, rfl, ho3⟩
  have HO : Hid (Own w3 w.heap.size v3 T) := ho3.less HB_w1.out.size
  have hGs : G < w1.heap.size := Z_w1.out.lt
  have HOG : Hid (Own w3 (G + 1) v3 T) := ho3.less (by omega)
  obtain ⟨a3, c3, hv3⟩ := HO.out.reads.shape
  subst hv3
  have HB_w3 : Hid (Below w.heap.size w w3) := below_trans HB_w1.out hb HB_w1.out.size
  have A_w3 : Hid (BoxC w3 24 w.heap.size [.slice a zs.length cap, .int .i64 (k : Int)]) := A_w1.out.below hb
  have Z_w3 : Hid (BoxC w3 24 G [.slice none 0 0, .int .i64 0]) := Z_w1.out.below hb
  clear A_w1 Z_w1 HB_w1
  clear hb ho3 hGs HWC HO
  go_wp2_with (refine storeC rfl 24 _ _ rfl G rfl [.slice none 0 0, .int .i64 0] [.slice a3 T.length c3, .int .i64 ((k : Int) - 1)] rfl Z_w3.out wide_line (fun v hv => by simp at hv; rcases hv with rfl | rfl <;> rfl) rfl ?_)
  intro w4 hz hg
  have HB_w4 : Hid (Below w.heap.size w w4) := HB_w3.out.grown hg HB_w3.out.size (fun j hj => by cases hj; exact (by have := HLG.out; omega))
  have A_w4 : Hid (BoxC w4 24 w.heap.size [.slice a zs.length cap, .int .i64 (k : Int)]) := A_w3.out.kept hg (fun e => by have := HLG.out; have := Option.some.inj e; omega)
  clear A_w3 Z_w3 HB_w3
  have Z_w4 : Hid (BoxC w4 24 G [.slice a3 T.length c3, .int .i64 ((k : Int) - 1)]) := hz
  have HOF : Hid (Own w4 w.heap.size (.slice a3 T.length c3) T) := (HOG.out.past hg (Nat.lt_succ_self _)).less (by have := HLG.out; omega)
  clear hz hg
  go_wp2_with (fail)
  have HOw : Hid (Own w4 w.heap.size (.slice a3 T.length c3) T) := HOF.out
  (try simp only [Exit.inBlock, Exit.then])
  refine bodyPost_ret (ret_box1 rfl _ _ G [.slice a3 T.length c3, .int .i64 ((k : Int) - 1)] rfl Z_w4.out wide_line) rfl ?_
  exact ⟨HB_w4.out, _, rfl, HOw.out⟩

theorem rubbed_go (v : Value) (zs : List Int) (k : Nat) (mode key : Int) (w : World) (h : Reads w v zs) (hk0 : 0 < k) (hk : k ≤ zs.length) (hl : zs.length ≤ 200) :
    Calls Try.prog 31 #[.agg #[v, .int .i64 (k : Int)], .int .i64 mode, .int .i64 key] w fun e w' => LineOne (rbd zs k mode key) w e w' := by
  obtain ⟨a, cap, rfl⟩ := h.shape
  unfold rbd
  by_cases h1 : key = 21
  · rw [if_neg (by omega), show rbf zs k key = 0 from if_pos h1]
    exact rubbed_all a cap zs k mode key w h hk0 hk hl h1 _ rfl
  · by_cases h2 : key = 23
    · obtain ⟨e1, e2⟩ := back_low zs k hk (by omega) false
      rw [if_neg (by omega), show rbf zs k key = (back zs (k : Int) false).toNat by unfold rbf; rw [if_neg h1, if_pos h2]]
      exact rubbed_word a cap zs k mode key w h hk0 hk hl h2 _ _ e1 e2 rfl
    · by_cases h3 : mode = 2
      · rw [if_pos ⟨h1, h2, h3⟩]
        exact rubbed_stay a cap zs k mode key w h hk0 hk hl ⟨h1, h2, h3⟩
      · rw [if_neg (by omega), show rbf zs k key = k - 1 by unfold rbf; rw [if_neg h1, if_neg h2]]
        have := rubbed_one a cap zs k mode key w h hk0 hk hl ⟨h1, h2, h3⟩ _ rfl
        rw [show (((k - 1 : Nat) : Nat) : Int) = (k : Int) - 1 by omega]
        exact this
end Go.Proofs.Ytpgjaoemkadenab.Seek
