/- Texts of one claim, one behind the other: Keyed, KTyped. -/
import Derived.Test.YtpgjaoemkadenaaM13
import Derived.Test.YtpgjaoemkadenaaM03
import Derived.Test.YtpgjaoemkadenaaM09
/- P47, plain; the contracts of edit.checkTyping and edit.rubs. -/
set_option linter.unusedVariables false
set_option linter.unusedSimpArgs false
set_option maxRecDepth 100000
namespace Go.Proofs.Ytpgjaoemkadenaa.Plain
open Seek
/-- P47: the error ahead of the key. -/
def tchk (n : Nat) (k mode : Int) : Int := if 200 < n then 2 else if k < 0 ∨ (n : Int) < k ∨ (mode ≠ 1 ∧ mode ≠ 2) then 1 else 0
/-- Whether a key takes back. -/
def rub (key : Int) : Bool := decide (key = 8 ∨ key = 127 ∨ key = 21 ∨ key = 23)
/-- The place behind what a key is put in the place of. -/
def ovr (n k : Nat) (mode : Int) : Nat := if mode = 2 then min (k + 1) n else k
/-- A key that is typed: the text, the place, the error. -/
def tpd (zs : List Int) (k : Nat) (mode key : Int) : List Int × Int × Int :=
  if 200 < (wit zs k (ovr zs.length k mode) [key]).length then ([], 0, 8) else (wit zs k (ovr zs.length k mode) [key], (k : Int) + 1, 0)
/-- From where on a key takes back. -/
def rbf (zs : List Int) (k : Nat) (key : Int) : Nat := if key = 21 then 0 else if key = 23 then (back zs (k : Int) false).toNat else k - 1
/-- A key that takes back. -/
def rbd (zs : List Int) (k : Nat) (mode key : Int) : List Int × Int :=
  if key ≠ 21 ∧ key ≠ 23 ∧ mode = 2 then (zs, (k : Int) - 1) else (wit zs (rbf zs k key) k [], (rbf zs k key : Int))
/-- P47. -/
def keyd (zs : List Int) (k mode key : Int) : List Int × Int × Int :=
  if tchk zs.length k mode ≠ 0 then ([], 0, tchk zs.length k mode)
  else if 32 ≤ key ∧ key ≠ 127 then tpd zs k.toNat mode key
  else if rub key = false then ([], 0, 9)
  else if k = 0 then ([], 0, 5)
  else ((rbd zs k.toNat mode key).1, (rbd zs k.toNat mode key).2, 0)
theorem tchk_zero {n : Nat} {k mode : Int} (h : tchk n k mode = 0) : n ≤ 200 ∧ (∃ j : Nat, k = (j : Int) ∧ j ≤ n) ∧ (mode = 1 ∨ mode = 2) := by
  unfold tchk at h
  by_cases h1 : 200 < n
  · rw [if_pos h1] at h; cases h
  · rw [if_neg h1] at h
    by_cases h2 : k < 0 ∨ (n : Int) < k ∨ (mode ≠ 1 ∧ mode ≠ 2)
    · rw [if_pos h2] at h; cases h
    · exact ⟨by omega, ⟨k.toNat, by omega, by omega⟩, by omega⟩
theorem rub_cases {key : Int} (h : rub key = true) : key = 8 ∨ key = 127 ∨ key = 21 ∨ key = 23 := by simpa [rub] using h
theorem rub_none {key : Int} (h : rub key = false) : key ≠ 8 ∧ key ≠ 127 ∧ key ≠ 21 ∧ key ≠ 23 := by
  have : ¬ (key = 8 ∨ key = 127 ∨ key = 21 ∨ key = 23) := by simpa [rub] using h
  omega
end Go.Proofs.Ytpgjaoemkadenaa.Plain
namespace Go.Proofs.Ytpgjaoemkadenaa.Seek
open Go.RowKit Plain
theorem back_low (zs : List Int) (k : Nat) (h2 : k ≤ zs.length) (hl : zs.length ≤ 4096) (b : Bool) : back zs (k : Int) b = ((back zs (k : Int) b).toNat : Int) ∧ (back zs (k : Int) b).toNat ≤ k := by
  have e : back zs (k : Int) b = (down (bgn zs b) k : Int) := by
    unfold back
    rw [if_pos (chk_right hl h2), Int.toNat_natCast]
  have h := down_spec (bgn zs b) k
  rw [e, Int.toNat_natCast]
  exact ⟨rfl, by omega⟩

set_option maxHeartbeats 1000000 in
theorem checkTyping_go (a : Option Addr) (n cap : Nat) (k mode : Int) (w : World) :
    Calls Try.prog 16 #[.agg #[.slice a n cap, .int .i64 k], .int .i64 mode] w fun e w' => e = .returned (.int .i64 (tchk n k mode)) ∧ Below w.heap.size w w' := by
  by_cases h1 : (200 : Int) < (n : Int)
  · rw [show tchk n k mode = 2 from if_pos (by omega)]
    go_enter Try.func16, Try.ntmps16
    go_wp2_with fail
    go_ret
    exact ⟨rfl, box_below _ _⟩
  · have e : tchk n k mode = if k < 0 ∨ (n : Int) < k ∨ (mode ≠ 1 ∧ mode ≠ 2) then 1 else 0 := if_neg (by omega)
    by_cases h2 : k < 0
    · rw [show tchk n k mode = 1 by rw [e]; exact if_pos (by omega)]
      clear e
      go_enter Try.func16, Try.ntmps16
      go_wp2_with fail
      go_ret
      exact ⟨rfl, box_below _ _⟩
    · by_cases h3 : (n : Int) < k
      · rw [show tchk n k mode = 1 by rw [e]; exact if_pos (by omega)]
        clear e
        go_enter Try.func16, Try.ntmps16
        go_wp2_with fail
        go_ret
        exact ⟨rfl, box_below _ _⟩
      · by_cases h4 : mode = 1
        · rw [show tchk n k mode = 0 by rw [e]; exact if_neg (by omega)]
          clear e
          subst h4
          go_enter Try.func16, Try.ntmps16
          go_wp2_with fail
          all_goals first
            | (exfalso; omega)
            | (go_ret; exact ⟨rfl, box_below _ _⟩)
        · by_cases h5 : mode = 2
          · rw [show tchk n k mode = 0 by rw [e]; exact if_neg (by omega)]
            clear e
            subst h5
            go_enter Try.func16, Try.ntmps16
            go_wp2_with fail
            all_goals first
              | (exfalso; omega)
              | (go_ret; exact ⟨rfl, box_below _ _⟩)
          · rw [show tchk n k mode = 1 by rw [e]; exact if_pos (by omega)]
            clear e
            have b4 : (mode != 1) = true := by simpa using h4
            have b5 : (mode != 2) = true := by simpa using h5
            go_enter Try.func16, Try.ntmps16
            go_wp2_with fail
            all_goals first
              | (exfalso; omega)
              | (go_ret; exact ⟨rfl, box_below _ _⟩)

set_option maxHeartbeats 400000 in
theorem rubs_go (key : Int) (w : World) : Calls Try.prog 18 #[.int .i64 key] w fun e w' => e = .returned (.bool (rub key)) ∧ w' = w := by
  cases h : rub key with
  | true =>
    rcases rub_cases h with rfl | rfl | rfl | rfl
    all_goals (
      clear h
      go_enter Try.func18, Try.ntmps18
      go_wp2_with fail
      go_ret
      exact ⟨rfl, rfl⟩)
  | false =>
    obtain ⟨h1, h2, h3, h4⟩ := rub_none h
    clear h
    go_enter Try.func18, Try.ntmps18
    go_wp2_with fail
    all_goals first
      | (exfalso; omega)
      | (go_ret; exact ⟨rfl, rfl⟩)
end Go.Proofs.Ytpgjaoemkadenaa.Seek

/- The contract of edit.typed. -/
set_option linter.unusedVariables false
set_option linter.unusedSimpArgs false
set_option maxRecDepth 100000
namespace Go.Proofs.Ytpgjaoemkadenaa.Seek
open Go.RowKit Plain

/-- A line that a call tells, with an error. -/
def LinePost (r : List Int × Int × Int) (w : World) (e : Ending) (w' : World) : Prop := Below w.heap.size w w' ∧ ∃ tv, e = .returned (.tuple #[.agg #[tv, .int .i64 r.2.1], .int .i64 r.2.2]) ∧ Own w' w.heap.size tv r.1
theorem own_nil (w : World) (B : Nat) : Own w B (.slice none 0 0) [] := .inl ⟨_, _, rfl, rfl⟩
theorem new_one (w : World) (key : Int) : Reads (w.alloc (.cells #[.int .i64 key] 3)) (.slice (some ⟨w.heap.size, 0, none⟩) 1 1) [key] := reads_new w [key] (by show 1 ≤ maxLen; decide)
theorem Own.past {w w' : World} {B G : Nat} {v : Value} {zs : List Int} (h : Own w B v zs) (hg : w.grownBy w' (some G)) (hG : G < B) : Own w' B v zs := by
  rcases h with h | ⟨hz, g, cap, hv, hB, hg1, h⟩
  · exact .inl h
  · refine .inr ⟨hz, g, cap, hv, hB, Nat.lt_of_lt_of_le hg1 hg.size, h.kept hg (.inr ?_)⟩
    rw [hv]
    simp only [Value.ownBlock]
    intro e
    have := Option.some.inj e
    omega


set_option maxHeartbeats 1000000 in
theorem typed_ins (a : Option Addr) (cap : Nat) (zs : List Int) (k : Nat) (mode key : Int) (w : World) (h : Reads w (.slice a zs.length cap) zs) (hk : k ≤ zs.length) (hl : zs.length ≤ 200) (hm : mode ≠ 2) (T : List Int) (tto : Nat) (hto : tto = k) (hT : T = wit zs k tto [key]) (hb : T.length ≤ 200) :
    Calls Try.prog 17 #[.agg #[.slice a zs.length cap, .int .i64 (k : Int)], .int .i64 mode, .int .i64 key] w fun e w' => LinePost (T, (k : Int) + 1, 0) w e w' := by
  have HV : Hid (∀ wx, Below w.heap.size w wx → Reads wx (.slice a zs.length cap) zs) := fun wx hx => h.below hx
  have HT : Hid (T = wit zs k tto [key]) := hT
  have hto2 : k ≤ tto ∧ tto ≤ zs.length := by omega
  have HTo : Hid (tto = k ∨ tto = k + 1) := by show _ ∨ _; omega
  clear h hT
  have hmd : (mode == 2) = false := by simpa using hm
  go_enter Try.func17, Try.ntmps17
  go_wp2_with (fail)
  obtain ⟨w1, hw_w1⟩ : ∃ w1, w1 = ((w.alloc (.cells #[.slice a zs.length cap, .int .i64 (k : Int)] 24)).alloc (.cells #[.slice none 0 0, .int .i64 0] 24)) := ⟨_, rfl⟩
  rw [← hw_w1]
  obtain ⟨hx0, hx1, hxb⟩ := start2 w 24 24 [.slice a zs.length cap, .int .i64 (k : Int)] [.slice none 0 0, .int .i64 0]
  rw [← hw_w1] at hx0 hx1 hxb
  have hsz_w1 : w.heap.size + 1 + 1 = w1.heap.size := by rw [hw_w1, size_alloc, size_alloc]
  try rw [hsz_w1]
  clear hsz_w1
  have HB_w1 : Hid (Below w.heap.size w w1) := hxb
  have A_w1 : Hid (BoxC w1 24 w.heap.size [.slice a zs.length cap, .int .i64 (k : Int)]) := hx0
  obtain ⟨G, hl_G⟩ : ∃ G, G = w.heap.size + 1 := ⟨_, rfl⟩
  rw [← hl_G] at hx1
  have Z_w1 : Hid (BoxC w1 24 G [.slice none 0 0, .int .i64 0]) := hx1
  have HLG : Hid (w.heap.size ≤ G ∧ w.heap.size < G) := by show _ ∧ _; omega
  clear hx0 hx1 hxb
  try rw [← hl_G]
  clear hw_w1
  clear hl_G
  have HNW : Hid (Reads (w1.alloc (.cells #[.int .i64 key] 3)) (.slice (some ⟨w1.heap.size, 0, none⟩) 1 1) [key]) := new_one w1 key
  have HWC : Hid (Calls Try.prog 28 #[.slice a zs.length cap, .int .i64 (k : Int), .int .i64 (tto : Int), .slice (some ⟨w1.heap.size, 0, none⟩) 1 1] (w1.alloc (.cells #[.int .i64 key] 3)) fun e w' => ConcatPost T (w1.alloc (.cells #[.int .i64 key] 3)) e w') := by rw [HT.out]; exact with_go _ _ zs [key] k tto _ (HV.out _ (HB_w1.out.alloc HB_w1.out.size _)) HNW.out hto2.1 hto2.2 (by omega) (by show 1 ≤ 4096; omega)
  rw [show (tto : Int) = (k : Int) by omega] at HWC
  refine HWC.out.mono ?_
  rintro e w3 ⟨hb3, v3, rfl, ho3⟩
  have hb : Below w1.heap.size w1 w3 := below_trans (box_below _ _) hb3 (box_below _ _).size
  have hs3 : w.heap.size ≤ (w1.alloc (.cells #[.int .i64 key] 3)).heap.size := Nat.le_trans HB_w1.out.size (box_below _ _).size
  have HO : Hid (Own w3 w.heap.size v3 T) := ho3.less hs3
  have hGs : G < (w1.alloc (.cells #[.int .i64 key] 3)).heap.size := Nat.lt_of_lt_of_le Z_w1.out.lt (box_below _ _).size
  have HOG : Hid (Own w3 (G + 1) v3 T) := ho3.less (by omega)
  obtain ⟨a3, c3, hv3⟩ := HO.out.reads.shape
  subst hv3
  have HB_w3 : Hid (Below w.heap.size w w3) := below_trans HB_w1.out hb HB_w1.out.size
  have A_w3 : Hid (BoxC w3 24 w.heap.size [.slice a zs.length cap, .int .i64 (k : Int)]) := A_w1.out.below hb
  have Z_w3 : Hid (BoxC w3 24 G [.slice none 0 0, .int .i64 0]) := Z_w1.out.below hb
  clear A_w1 Z_w1 HB_w1
  clear hb hb3 ho3 hs3 hGs HNW HWC
  have cA0 : w3.cell? ⟨w.heap.size, 0, none⟩ = some (.slice a zs.length cap) := (A_w3.out.cell 0).trans rfl
  have cA1 : w3.cell? ⟨w.heap.size, 1, none⟩ = some (.int .i64 (k : Int)) := (A_w3.out.cell 1).trans rfl
  have hbI : ¬ (200 : Int) < (T.length : Int) := by omega
  have hw1 : IntKind.i64.wrap ((k : Int) + 1) = (k : Int) + 1 := by rw [IntKind.wrap_i64]; omega
  go_wp2_with (refine storeC rfl 24 _ _ rfl G rfl [.slice none 0 0, .int .i64 0] [.slice a3 T.length c3, .int .i64 ((k : Int) + 1)] rfl Z_w3.out wide_line (fun v hv => by simp at hv; rcases hv with rfl | rfl <;> rfl) rfl ?_)
  intro w4 hz hg
  have HB_w4 : Hid (Below w.heap.size w w4) := HB_w3.out.grown hg HB_w3.out.size (fun j hj => by cases hj; exact (by have := HLG.out; omega))
  have A_w4 : Hid (BoxC w4 24 w.heap.size [.slice a zs.length cap, .int .i64 (k : Int)]) := A_w3.out.kept hg (fun e => by have := HLG.out; have := Option.some.inj e; omega)
  clear A_w3 Z_w3 HB_w3
  have Z_w4 : Hid (BoxC w4 24 G [.slice a3 T.length c3, .int .i64 ((k : Int) + 1)]) := hz
  have HOF : Hid (Own w4 w.heap.size (.slice a3 T.length c3) T) := (HOG.out.past hg (Nat.lt_succ_self _)).less (by have := HLG.out; omega)
  clear hz hg
  go_wp2_with (fail)
  have HOw : Hid (Own w4 w.heap.size (.slice a3 T.length c3) T) := HOF.out
  (try simp only [Exit.inBlock, Exit.then])
  refine bodyPost_ret (ret_box rfl _ _ G [.slice a3 T.length c3, .int .i64 ((k : Int) + 1)] _ rfl rfl Z_w4.out wide_line) rfl ?_
  exact ⟨HB_w4.out, _, rfl, HOw.out⟩

set_option maxHeartbeats 1000000 in
theorem typed_ins_full (a : Option Addr) (cap : Nat) (zs : List Int) (k : Nat) (mode key : Int) (w : World) (h : Reads w (.slice a zs.length cap) zs) (hk : k ≤ zs.length) (hl : zs.length ≤ 200) (hm : mode ≠ 2) (T : List Int) (tto : Nat) (hto : tto = k) (hT : T = wit zs k tto [key]) (hb : 200 < T.length) :
    Calls Try.prog 17 #[.agg #[.slice a zs.length cap, .int .i64 (k : Int)], .int .i64 mode, .int .i64 key] w fun e w' => LinePost ([], 0, 8) w e w' := by
  have HV : Hid (∀ wx, Below w.heap.size w wx → Reads wx (.slice a zs.length cap) zs) := fun wx hx => h.below hx
  have HT : Hid (T = wit zs k tto [key]) := hT
  have hto2 : k ≤ tto ∧ tto ≤ zs.length := by omega
  have HTo : Hid (tto = k ∨ tto = k + 1) := by show _ ∨ _; omega
  clear h hT
  have hmd : (mode == 2) = false := by simpa using hm
  go_enter Try.func17, Try.ntmps17
  go_wp2_with (fail)
  obtain ⟨w1, hw_w1⟩ : ∃ w1, w1 = ((w.alloc (.cells #[.slice a zs.length cap, .int .i64 (k : Int)] 24)).alloc (.cells #[.slice none 0 0, .int .i64 0] 24)) := ⟨_, rfl⟩
  rw [← hw_w1]
  obtain ⟨hx0, hx1, hxb⟩ := start2 w 24 24 [.slice a zs.length cap, .int .i64 (k : Int)] [.slice none 0 0, .int .i64 0]
  rw [← hw_w1] at hx0 hx1 hxb
  have hsz_w1 : w.heap.size + 1 + 1 = w1.heap.size := by rw [hw_w1, size_alloc, size_alloc]
  try rw [hsz_w1]
  clear hsz_w1
  have HB_w1 : Hid (Below w.heap.size w w1) := hxb
  have A_w1 : Hid (BoxC w1 24 w.heap.size [.slice a zs.length cap, .int .i64 (k : Int)]) := hx0
  obtain ⟨G, hl_G⟩ : ∃ G, G = w.heap.size + 1 := ⟨_, rfl⟩
  rw [← hl_G] at hx1
  have Z_w1 : Hid (BoxC w1 24 G [.slice none 0 0, .int .i64 0]) := hx1
  have HLG : Hid (w.heap.size ≤ G ∧ w.heap.size < G) := by show _ ∧ _; omega
  clear hx0 hx1 hxb
  try rw [← hl_G]
  clear hw_w1
  clear hl_G
  have HNW : Hid (Reads (w1.alloc (.cells #[.int .i64 key] 3)) (.slice (some ⟨w1.heap.size, 0, none⟩) 1 1) [key]) := new_one w1 key
  have HWC : Hid (Calls Try.prog 28 #[.slice a zs.length cap, .int .i64 (k : Int), .int .i64 (tto : Int), .slice (some ⟨w1.heap.size, 0, none⟩) 1 1] (w1.alloc (.cells #[.int .i64 key] 3)) fun e w' => ConcatPost T (w1.alloc (.cells #[.int .i64 key] 3)) e w') := by rw [HT.out]; exact with_go _ _ zs [key] k tto _ (HV.out _ (HB_w1.out.alloc HB_w1.out.size _)) HNW.out hto2.1 hto2.2 (by omega) (by show 1 ≤ 4096; omega)
  rw [show (tto : Int) = (k : Int) by omega] at HWC
  refine HWC.out.mono ?_
  rintro e w3 ⟨hb3, v3, rfl, ho3⟩
  have hb : Below w1.heap.size w1 w3 := below_trans (box_below _ _) hb3 (box_below _ _).size
  have hs3 : w.heap.size ≤ (w1.alloc (.cells #[.int .i64 key] 3)).heap.size := Nat.le_trans HB_w1.out.size (box_below _ _).size
  have HO : Hid (Own w3 w.heap.size v3 T) := ho3.less hs3
  have hGs : G < (w1.alloc (.cells #[.int .i64 key] 3)).heap.size := Nat.lt_of_lt_of_le Z_w1.out.lt (box_below _ _).size
  have HOG : Hid (Own w3 (G + 1) v3 T) := ho3.less (by omega)
  obtain ⟨a3, c3, hv3⟩ := HO.out.reads.shape
  subst hv3
  have HB_w3 : Hid (Below w.heap.size w w3) := below_trans HB_w1.out hb HB_w1.out.size
  have A_w3 : Hid (BoxC w3 24 w.heap.size [.slice a zs.length cap, .int .i64 (k : Int)]) := A_w1.out.below hb
  have Z_w3 : Hid (BoxC w3 24 G [.slice none 0 0, .int .i64 0]) := Z_w1.out.below hb
  clear A_w1 Z_w1 HB_w1
  clear hb hb3 ho3 hs3 hGs HNW HWC
  have cA0 : w3.cell? ⟨w.heap.size, 0, none⟩ = some (.slice a zs.length cap) := (A_w3.out.cell 0).trans rfl
  have cA1 : w3.cell? ⟨w.heap.size, 1, none⟩ = some (.int .i64 (k : Int)) := (A_w3.out.cell 1).trans rfl
  have hbI : (200 : Int) < (T.length : Int) := by omega
  have hw1 : IntKind.i64.wrap ((k : Int) + 1) = (k : Int) + 1 := by rw [IntKind.wrap_i64]; omega
  go_wp2_with (refine storeC rfl 24 _ _ rfl G rfl [.slice none 0 0, .int .i64 0] [.slice none 0 0, .int .i64 0] rfl Z_w3.out wide_line (fun v hv => by simp at hv; rcases hv with rfl | rfl <;> rfl) rfl ?_)
  intro w4 hz hg
  have HB_w4 : Hid (Below w.heap.size w w4) := HB_w3.out.grown hg HB_w3.out.size (fun j hj => by cases hj; exact (by have := HLG.out; omega))
  have A_w4 : Hid (BoxC w4 24 w.heap.size [.slice a zs.length cap, .int .i64 (k : Int)]) := A_w3.out.kept hg (fun e => by have := HLG.out; have := Option.some.inj e; omega)
  clear A_w3 Z_w3 HB_w3
  have Z_w4 : Hid (BoxC w4 24 G [.slice none 0 0, .int .i64 0]) := hz
  clear hz hg
  go_wp2_with (fail)
  (try simp only [Exit.inBlock, Exit.then])
  refine bodyPost_ret (ret_box rfl _ _ G [.slice none 0 0, .int .i64 0] _ rfl rfl Z_w4.out wide_line) rfl ?_
  exact ⟨HB_w4.out, _, rfl, own_nil _ _⟩

set_option maxHeartbeats 1000000 in
theorem typed_ovr (a : Option Addr) (cap : Nat) (zs : List Int) (k : Nat) (mode key : Int) (w : World) (h : Reads w (.slice a zs.length cap) zs) (hk : k ≤ zs.length) (hl : zs.length ≤ 200) (hm : mode = 2 ∧ k < zs.length) (T : List Int) (tto : Nat) (hto : tto = k + 1) (hT : T = wit zs k tto [key]) (hb : T.length ≤ 200) :
    Calls Try.prog 17 #[.agg #[.slice a zs.length cap, .int .i64 (k : Int)], .int .i64 mode, .int .i64 key] w fun e w' => LinePost (T, (k : Int) + 1, 0) w e w' := by
  have HV : Hid (∀ wx, Below w.heap.size w wx → Reads wx (.slice a zs.length cap) zs) := fun wx hx => h.below hx
  have HT : Hid (T = wit zs k tto [key]) := hT
  have hto2 : k ≤ tto ∧ tto ≤ zs.length := by omega
  have HTo : Hid (tto = k ∨ tto = k + 1) := by show _ ∨ _; omega
  clear h hT
  obtain ⟨rfl, hk2⟩ := hm
  have hk3 : min ((k : Int) + 1) (zs.length : Int) = (k : Int) + 1 := by omega
  have hw1 : IntKind.i64.wrap ((k : Int) + 1) = (k : Int) + 1 := by rw [IntKind.wrap_i64]; omega
  go_enter Try.func17, Try.ntmps17
  go_wp2_with (fail)
  obtain ⟨w1, hw_w1⟩ : ∃ w1, w1 = ((w.alloc (.cells #[.slice a zs.length cap, .int .i64 (k : Int)] 24)).alloc (.cells #[.slice none 0 0, .int .i64 0] 24)) := ⟨_, rfl⟩
  rw [← hw_w1]
  obtain ⟨hx0, hx1, hxb⟩ := start2 w 24 24 [.slice a zs.length cap, .int .i64 (k : Int)] [.slice none 0 0, .int .i64 0]
  rw [← hw_w1] at hx0 hx1 hxb
  have hsz_w1 : w.heap.size + 1 + 1 = w1.heap.size := by rw [hw_w1, size_alloc, size_alloc]
  try rw [hsz_w1]
  clear hsz_w1
  have HB_w1 : Hid (Below w.heap.size w w1) := hxb
  have A_w1 : Hid (BoxC w1 24 w.heap.size [.slice a zs.length cap, .int .i64 (k : Int)]) := hx0
  obtain ⟨G, hl_G⟩ : ∃ G, G = w.heap.size + 1 := ⟨_, rfl⟩
  rw [← hl_G] at hx1
  have Z_w1 : Hid (BoxC w1 24 G [.slice none 0 0, .int .i64 0]) := hx1
  have HLG : Hid (w.heap.size ≤ G ∧ w.heap.size < G) := by show _ ∧ _; omega
  clear hx0 hx1 hxb
  try rw [← hl_G]
  clear hw_w1
  clear hl_G
  have HNW : Hid (Reads (w1.alloc (.cells #[.int .i64 key] 3)) (.slice (some ⟨w1.heap.size, 0, none⟩) 1 1) [key]) := new_one w1 key
  have HWC : Hid (Calls Try.prog 28 #[.slice a zs.length cap, .int .i64 (k : Int), .int .i64 (tto : Int), .slice (some ⟨w1.heap.size, 0, none⟩) 1 1] (w1.alloc (.cells #[.int .i64 key] 3)) fun e w' => ConcatPost T (w1.alloc (.cells #[.int .i64 key] 3)) e w') := by rw [HT.out]; exact with_go _ _ zs [key] k tto _ (HV.out _ (HB_w1.out.alloc HB_w1.out.size _)) HNW.out hto2.1 hto2.2 (by omega) (by show 1 ≤ 4096; omega)
  rw [show (tto : Int) = (k : Int) + 1 by omega] at HWC
  refine HWC.out.mono ?_
  rintro e w3 ⟨hb3, v3, rfl, ho3⟩
  have hb : Below w1.heap.size w1 w3 := below_trans (box_below _ _) hb3 (box_below _ _).size
  have hs3 : w.heap.size ≤ (w1.alloc (.cells #[.int .i64 key] 3)).heap.size := Nat.le_trans HB_w1.out.size (box_below _ _).size
  have HO : Hid (Own w3 w.heap.size v3 T) := ho3.less hs3
  have hGs : G < (w1.alloc (.cells #[.int .i64 key] 3)).heap.size := Nat.lt_of_lt_of_le Z_w1.out.lt (box_below _ _).size
  have HOG : Hid (Own w3 (G + 1) v3 T) := ho3.less (by omega)
  obtain ⟨a3, c3, hv3⟩ := HO.out.reads.shape
  subst hv3
  have HB_w3 : Hid (Below w.heap.size w w3) := below_trans HB_w1.out hb HB_w1.out.size
  have A_w3 : Hid (BoxC w3 24 w.heap.size [.slice a zs.length cap, .int .i64 (k : Int)]) := A_w1.out.below hb
  have Z_w3 : Hid (BoxC w3 24 G [.slice none 0 0, .int .i64 0]) := Z_w1.out.below hb
  clear A_w1 Z_w1 HB_w1
  clear hb hb3 ho3 hs3 hGs HNW HWC
  have cA0 : w3.cell? ⟨w.heap.size, 0, none⟩ = some (.slice a zs.length cap) := (A_w3.out.cell 0).trans rfl
  have cA1 : w3.cell? ⟨w.heap.size, 1, none⟩ = some (.int .i64 (k : Int)) := (A_w3.out.cell 1).trans rfl
  have hbI : ¬ (200 : Int) < (T.length : Int) := by omega
  go_wp2_with (refine storeC rfl 24 _ _ rfl G rfl [.slice none 0 0, .int .i64 0] [.slice a3 T.length c3, .int .i64 ((k : Int) + 1)] rfl Z_w3.out wide_line (fun v hv => by simp at hv; rcases hv with rfl | rfl <;> rfl) rfl ?_)
  intro w4 hz hg
  have HB_w4 : Hid (Below w.heap.size w w4) := HB_w3.out.grown hg HB_w3.out.size (fun j hj => by cases hj; exact (by have := HLG.out; omega))
  have A_w4 : Hid (BoxC w4 24 w.heap.size [.slice a zs.length cap, .int .i64 (k : Int)]) := A_w3.out.kept hg (fun e => by have := HLG.out; have := Option.some.inj e; omega)
  clear A_w3 Z_w3 HB_w3
  have Z_w4 : Hid (BoxC w4 24 G [.slice a3 T.length c3, .int .i64 ((k : Int) + 1)]) := hz
  have HOF : Hid (Own w4 w.heap.size (.slice a3 T.length c3) T) := (HOG.out.past hg (Nat.lt_succ_self _)).less (by have := HLG.out; omega)
  clear hz hg
  go_wp2_with (fail)
  have HOw : Hid (Own w4 w.heap.size (.slice a3 T.length c3) T) := HOF.out
  (try simp only [Exit.inBlock, Exit.then])
  refine bodyPost_ret (ret_box rfl _ _ G [.slice a3 T.length c3, .int .i64 ((k : Int) + 1)] _ rfl rfl Z_w4.out wide_line) rfl ?_
  exact ⟨HB_w4.out, _, rfl, HOw.out⟩

set_option maxHeartbeats 1000000 in
theorem typed_ovr_full (a : Option Addr) (cap : Nat) (zs : List Int) (k : Nat) (mode key : Int) (w : World) (h : Reads w (.slice a zs.length cap) zs) (hk : k ≤ zs.length) (hl : zs.length ≤ 200) (hm : mode = 2 ∧ k < zs.length) (T : List Int) (tto : Nat) (hto : tto = k + 1) (hT : T = wit zs k tto [key]) (hb : 200 < T.length) :
    Calls Try.prog 17 #[.agg #[.slice a zs.length cap, .int .i64 (k : Int)], .int .i64 mode, .int .i64 key] w fun e w' => LinePost ([], 0, 8) w e w' := by
  have HV : Hid (∀ wx, Below w.heap.size w wx → Reads wx (.slice a zs.length cap) zs) := fun wx hx => h.below hx
  have HT : Hid (T = wit zs k tto [key]) := hT
  have hto2 : k ≤ tto ∧ tto ≤ zs.length := by omega
  have HTo : Hid (tto = k ∨ tto = k + 1) := by show _ ∨ _; omega
  clear h hT
  obtain ⟨rfl, hk2⟩ := hm
  have hk3 : min ((k : Int) + 1) (zs.length : Int) = (k : Int) + 1 := by omega
  have hw1 : IntKind.i64.wrap ((k : Int) + 1) = (k : Int) + 1 := by rw [IntKind.wrap_i64]; omega
  go_enter Try.func17, Try.ntmps17
  go_wp2_with (fail)
  obtain ⟨w1, hw_w1⟩ : ∃ w1, w1 = ((w.alloc (.cells #[.slice a zs.length cap, .int .i64 (k : Int)] 24)).alloc (.cells #[.slice none 0 0, .int .i64 0] 24)) := ⟨_, rfl⟩
  rw [← hw_w1]
  obtain ⟨hx0, hx1, hxb⟩ := start2 w 24 24 [.slice a zs.length cap, .int .i64 (k : Int)] [.slice none 0 0, .int .i64 0]
  rw [← hw_w1] at hx0 hx1 hxb
  have hsz_w1 : w.heap.size + 1 + 1 = w1.heap.size := by rw [hw_w1, size_alloc, size_alloc]
  try rw [hsz_w1]
  clear hsz_w1
  have HB_w1 : Hid (Below w.heap.size w w1) := hxb
  have A_w1 : Hid (BoxC w1 24 w.heap.size [.slice a zs.length cap, .int .i64 (k : Int)]) := hx0
  obtain ⟨G, hl_G⟩ : ∃ G, G = w.heap.size + 1 := ⟨_, rfl⟩
  rw [← hl_G] at hx1
  have Z_w1 : Hid (BoxC w1 24 G [.slice none 0 0, .int .i64 0]) := hx1
  have HLG : Hid (w.heap.size ≤ G ∧ w.heap.size < G) := by show _ ∧ _; omega
  clear hx0 hx1 hxb
  try rw [← hl_G]
  clear hw_w1
  clear hl_G
  have HNW : Hid (Reads (w1.alloc (.cells #[.int .i64 key] 3)) (.slice (some ⟨w1.heap.size, 0, none⟩) 1 1) [key]) := new_one w1 key
  have HWC : Hid (Calls Try.prog 28 #[.slice a zs.length cap, .int .i64 (k : Int), .int .i64 (tto : Int), .slice (some ⟨w1.heap.size, 0, none⟩) 1 1] (w1.alloc (.cells #[.int .i64 key] 3)) fun e w' => ConcatPost T (w1.alloc (.cells #[.int .i64 key] 3)) e w') := by rw [HT.out]; exact with_go _ _ zs [key] k tto _ (HV.out _ (HB_w1.out.alloc HB_w1.out.size _)) HNW.out hto2.1 hto2.2 (by omega) (by show 1 ≤ 4096; omega)
  rw [show (tto : Int) = (k : Int) + 1 by omega] at HWC
  refine HWC.out.mono ?_
  rintro e w3 ⟨hb3, v3, rfl, ho3⟩
  have hb : Below w1.heap.size w1 w3 := below_trans (box_below _ _) hb3 (box_below _ _).size
  have hs3 : w.heap.size ≤ (w1.alloc (.cells #[.int .i64 key] 3)).heap.size := Nat.le_trans HB_w1.out.size (box_below _ _).size
  have HO : Hid (Own w3 w.heap.size v3 T) := ho3.less hs3
  have hGs : G < (w1.alloc (.cells #[.int .i64 key] 3)).heap.size := Nat.lt_of_lt_of_le Z_w1.out.lt (box_below _ _).size
  have HOG : Hid (Own w3 (G + 1) v3 T) := ho3.less (by omega)
  obtain ⟨a3, c3, hv3⟩ := HO.out.reads.shape
  subst hv3
  have HB_w3 : Hid (Below w.heap.size w w3) := below_trans HB_w1.out hb HB_w1.out.size
  have A_w3 : Hid (BoxC w3 24 w.heap.size [.slice a zs.length cap, .int .i64 (k : Int)]) := A_w1.out.below hb
  have Z_w3 : Hid (BoxC w3 24 G [.slice none 0 0, .int .i64 0]) := Z_w1.out.below hb
  clear A_w1 Z_w1 HB_w1
  clear hb hb3 ho3 hs3 hGs HNW HWC
  have cA0 : w3.cell? ⟨w.heap.size, 0, none⟩ = some (.slice a zs.length cap) := (A_w3.out.cell 0).trans rfl
  have cA1 : w3.cell? ⟨w.heap.size, 1, none⟩ = some (.int .i64 (k : Int)) := (A_w3.out.cell 1).trans rfl
  have hbI : (200 : Int) < (T.length : Int) := by omega
  go_wp2_with (refine storeC rfl 24 _ _ rfl G rfl [.slice none 0 0, .int .i64 0] [.slice none 0 0, .int .i64 0] rfl Z_w3.out wide_line (fun v hv => by simp at hv; rcases hv with rfl | rfl <;> rfl) rfl ?_)
  intro w4 hz hg
  have HB_w4 : Hid (Below w.heap.size w w4) := HB_w3.out.grown hg HB_w3.out.size (fun j hj => by cases hj; exact (by have := HLG.out; omega))
  have A_w4 : Hid (BoxC w4 24 w.heap.size [.slice a zs.length cap, .int .i64 (k : Int)]) := A_w3.out.kept hg (fun e => by have := HLG.out; have := Option.some.inj e; omega)
  clear A_w3 Z_w3 HB_w3
  have Z_w4 : Hid (BoxC w4 24 G [.slice none 0 0, .int .i64 0]) := hz
  clear hz hg
  go_wp2_with (fail)
  (try simp only [Exit.inBlock, Exit.then])
  refine bodyPost_ret (ret_box rfl _ _ G [.slice none 0 0, .int .i64 0] _ rfl rfl Z_w4.out wide_line) rfl ?_
  exact ⟨HB_w4.out, _, rfl, own_nil _ _⟩

set_option maxHeartbeats 1000000 in
theorem typed_end (a : Option Addr) (cap : Nat) (zs : List Int) (k : Nat) (mode key : Int) (w : World) (h : Reads w (.slice a zs.length cap) zs) (hk : k ≤ zs.length) (hl : zs.length ≤ 200) (hm : mode = 2 ∧ k = zs.length) (T : List Int) (tto : Nat) (hto : tto = k) (hT : T = wit zs k tto [key]) (hb : T.length ≤ 200) :
    Calls Try.prog 17 #[.agg #[.slice a zs.length cap, .int .i64 (k : Int)], .int .i64 mode, .int .i64 key] w fun e w' => LinePost (T, (k : Int) + 1, 0) w e w' := by
  have HV : Hid (∀ wx, Below w.heap.size w wx → Reads wx (.slice a zs.length cap) zs) := fun wx hx => h.below hx
  have HT : Hid (T = wit zs k tto [key]) := hT
  have hto2 : k ≤ tto ∧ tto ≤ zs.length := by omega
  have HTo : Hid (tto = k ∨ tto = k + 1) := by show _ ∨ _; omega
  clear h hT
  obtain ⟨rfl, hk2⟩ := hm
  have hk3 : min ((k : Int) + 1) (zs.length : Int) = (zs.length : Int) := by omega
  have HK2 : Hid (k = zs.length) := hk2
  clear hk2
  have hw1 : IntKind.i64.wrap ((k : Int) + 1) = (k : Int) + 1 := by rw [IntKind.wrap_i64]; omega
  go_enter Try.func17, Try.ntmps17
  go_wp2_with (fail)
  obtain ⟨w1, hw_w1⟩ : ∃ w1, w1 = ((w.alloc (.cells #[.slice a zs.length cap, .int .i64 (k : Int)] 24)).alloc (.cells #[.slice none 0 0, .int .i64 0] 24)) := ⟨_, rfl⟩
  rw [← hw_w1]
  obtain ⟨hx0, hx1, hxb⟩ := start2 w 24 24 [.slice a zs.length cap, .int .i64 (k : Int)] [.slice none 0 0, .int .i64 0]
  rw [← hw_w1] at hx0 hx1 hxb
  have hsz_w1 : w.heap.size + 1 + 1 = w1.heap.size := by rw [hw_w1, size_alloc, size_alloc]
  try rw [hsz_w1]
  clear hsz_w1
  have HB_w1 : Hid (Below w.heap.size w w1) := hxb
  have A_w1 : Hid (BoxC w1 24 w.heap.size [.slice a zs.length cap, .int .i64 (k : Int)]) := hx0
  obtain ⟨G, hl_G⟩ : ∃ G, G = w.heap.size + 1 := ⟨_, rfl⟩
  rw [← hl_G] at hx1
  have Z_w1 : Hid (BoxC w1 24 G [.slice none 0 0, .int .i64 0]) := hx1
  have HLG : Hid (w.heap.size ≤ G ∧ w.heap.size < G) := by show _ ∧ _; omega
  clear hx0 hx1 hxb
  try rw [← hl_G]
  clear hw_w1
  clear hl_G
  have HNW : Hid (Reads (w1.alloc (.cells #[.int .i64 key] 3)) (.slice (some ⟨w1.heap.size, 0, none⟩) 1 1) [key]) := new_one w1 key
  have HWC : Hid (Calls Try.prog 28 #[.slice a zs.length cap, .int .i64 (k : Int), .int .i64 (tto : Int), .slice (some ⟨w1.heap.size, 0, none⟩) 1 1] (w1.alloc (.cells #[.int .i64 key] 3)) fun e w' => ConcatPost T (w1.alloc (.cells #[.int .i64 key] 3)) e w') := by rw [HT.out]; exact with_go _ _ zs [key] k tto _ (HV.out _ (HB_w1.out.alloc HB_w1.out.size _)) HNW.out hto2.1 hto2.2 (by omega) (by show 1 ≤ 4096; omega)
  rw [show (tto : Int) = (zs.length : Int) by have := HK2.out; omega] at HWC
  refine HWC.out.mono ?_
  rintro e w3 ⟨hb3, v3, rfl, ho3⟩
  have hb : Below w1.heap.size w1 w3 := below_trans (box_below _ _) hb3 (box_below _ _).size
  have hs3 : w.heap.size ≤ (w1.alloc (.cells #[.int .i64 key] 3)).heap.size := Nat.le_trans HB_w1.out.size (box_below _ _).size
  have HO : Hid (Own w3 w.heap.size v3 T) := ho3.less hs3
  have hGs : G < (w1.alloc (.cells #[.int .i64 key] 3)).heap.size := Nat.lt_of_lt_of_le Z_w1.out.lt (box_below _ _).size
  have HOG : Hid (Own w3 (G + 1) v3 T) := ho3.less (by omega)
  obtain ⟨a3, c3, hv3⟩ := HO.out.reads.shape
  subst hv3
  have HB_w3 : Hid (Below w.heap.size w w3) := below_trans HB_w1.out hb HB_w1.out.size
  have A_w3 : Hid (BoxC w3 24 w.heap.size [.slice a zs.length cap, .int .i64 (k : Int)]) := A_w1.out.below hb
  have Z_w3 : Hid (BoxC w3 24 G [.slice none 0 0, .int .i64 0]) := Z_w1.out.below hb
  clear A_w1 Z_w1 HB_w1
  clear hb hb3 ho3 hs3 hGs HNW HWC
  have cA0 : w3.cell? ⟨w.heap.size, 0, none⟩ = some (.slice a zs.length cap) := (A_w3.out.cell 0).trans rfl
  have cA1 : w3.cell? ⟨w.heap.size, 1, none⟩ = some (.int .i64 (k : Int)) := (A_w3.out.cell 1).trans rfl
  have hbI : ¬ (200 : Int) < (T.length : Int) := by omega
  go_wp2_with (refine storeC rfl 24 _ _ rfl G rfl [.slice none 0 0, .int .i64 0] [.slice a3 T.length c3, .int .i64 ((k : Int) + 1)] rfl Z_w3.out wide_line (fun v hv => by simp at hv; rcases hv with rfl | rfl <;> rfl) rfl ?_)
  intro w4 hz hg
  have HB_w4 : Hid (Below w.heap.size w w4) := HB_w3.out.grown hg HB_w3.out.size (fun j hj => by cases hj; exact (by have := HLG.out; omega))
  have A_w4 : Hid (BoxC w4 24 w.heap.size [.slice a zs.length cap, .int .i64 (k : Int)]) := A_w3.out.kept hg (fun e => by have := HLG.out; have := Option.some.inj e; omega)
  clear A_w3 Z_w3 HB_w3
  have Z_w4 : Hid (BoxC w4 24 G [.slice a3 T.length c3, .int .i64 ((k : Int) + 1)]) := hz
  have HOF : Hid (Own w4 w.heap.size (.slice a3 T.length c3) T) := (HOG.out.past hg (Nat.lt_succ_self _)).less (by have := HLG.out; omega)
  clear hz hg
  go_wp2_with (fail)
  have HOw : Hid (Own w4 w.heap.size (.slice a3 T.length c3) T) := HOF.out
  (try simp only [Exit.inBlock, Exit.then])
  refine bodyPost_ret (ret_box rfl _ _ G [.slice a3 T.length c3, .int .i64 ((k : Int) + 1)] _ rfl rfl Z_w4.out wide_line) rfl ?_
  exact ⟨HB_w4.out, _, rfl, HOw.out⟩

set_option maxHeartbeats 1000000 in
theorem typed_end_full (a : Option Addr) (cap : Nat) (zs : List Int) (k : Nat) (mode key : Int) (w : World) (h : Reads w (.slice a zs.length cap) zs) (hk : k ≤ zs.length) (hl : zs.length ≤ 200) (hm : mode = 2 ∧ k = zs.length) (T : List Int) (tto : Nat) (hto : tto = k) (hT : T = wit zs k tto [key]) (hb : 200 < T.length) :
    Calls Try.prog 17 #[.agg #[.slice a zs.length cap, .int .i64 (k : Int)], .int .i64 mode, .int .i64 key] w fun e w' => LinePost ([], 0, 8) w e w' := by
  have HV : Hid (∀ wx, Below w.heap.size w wx → Reads wx (.slice a zs.length cap) zs) := fun wx hx => h.below hx
  have HT : Hid (T = wit zs k tto [key]) := hT
  have hto2 : k ≤ tto ∧ tto ≤ zs.length := by omega
  have HTo : Hid (tto = k ∨ tto = k + 1) := by show _ ∨ _; omega
  clear h hT
  obtain ⟨rfl, hk2⟩ := hm
  have hk3 : min ((k : Int) + 1) (zs.length : Int) = (zs.length : Int) := by omega
  have HK2 : Hid (k = zs.length) := hk2
  clear hk2
  have hw1 : IntKind.i64.wrap ((k : Int) + 1) = (k : Int) + 1 := by rw [IntKind.wrap_i64]; omega
  go_enter Try.func17, Try.ntmps17
  go_wp2_with (fail)
  obtain ⟨w1, hw_w1⟩ : ∃ w1, w1 = ((w.alloc (.cells #[.slice a zs.length cap, .int .i64 (k : Int)] 24)).alloc (.cells #[.slice none 0 0, .int .i64 0] 24)) := ⟨_, rfl⟩
  rw [← hw_w1]
  obtain ⟨hx0, hx1, hxb⟩ := start2 w 24 24 [.slice a zs.length cap, .int .i64 (k : Int)] [.slice none 0 0, .int .i64 0]
  rw [← hw_w1] at hx0 hx1 hxb
  have hsz_w1 : w.heap.size + 1 + 1 = w1.heap.size := by rw [hw_w1, size_alloc, size_alloc]
  try rw [hsz_w1]
  clear hsz_w1
  have HB_w1 : Hid (Below w.heap.size w w1) := hxb
  have A_w1 : Hid (BoxC w1 24 w.heap.size [.slice a zs.length cap, .int .i64 (k : Int)]) := hx0
  obtain ⟨G, hl_G⟩ : ∃ G, G = w.heap.size + 1 := ⟨_, rfl⟩
  rw [← hl_G] at hx1
  have Z_w1 : Hid (BoxC w1 24 G [.slice none 0 0, .int .i64 0]) := hx1
  have HLG : Hid (w.heap.size ≤ G ∧ w.heap.size < G) := by show _ ∧ _; omega
  clear hx0 hx1 hxb
  try rw [← hl_G]
  clear hw_w1
  clear hl_G
  have HNW : Hid (Reads (w1.alloc (.cells #[.int .i64 key] 3)) (.slice (some ⟨w1.heap.size, 0, none⟩) 1 1) [key]) := new_one w1 key
  have HWC : Hid (Calls Try.prog 28 #[.slice a zs.length cap, .int .i64 (k : Int), .int .i64 (tto : Int), .slice (some ⟨w1.heap.size, 0, none⟩) 1 1] (w1.alloc (.cells #[.int .i64 key] 3)) fun e w' => ConcatPost T (w1.alloc (.cells #[.int .i64 key] 3)) e w') := by rw [HT.out]; exact with_go _ _ zs [key] k tto _ (HV.out _ (HB_w1.out.alloc HB_w1.out.size _)) HNW.out hto2.1 hto2.2 (by omega) (by show 1 ≤ 4096; omega)
  rw [show (tto : Int) = (zs.length : Int) by have := HK2.out; omega] at HWC
  refine HWC.out.mono ?_
  rintro e w3 ⟨hb3, v3, rfl, ho3⟩
  have hb : Below w1.heap.size w1 w3 := below_trans (box_below _ _) hb3 (box_below _ _).size
  have hs3 : w.heap.size ≤ (w1.alloc (.cells #[.int .i64 key] 3)).heap.size := Nat.le_trans HB_w1.out.size (box_below _ _).size
  have HO : Hid (Own w3 w.heap.size v3 T) := ho3.less hs3
  have hGs : G < (w1.alloc (.cells #[.int .i64 key] 3)).heap.size := Nat.lt_of_lt_of_le Z_w1.out.lt (box_below _ _).size
  have HOG : Hid (Own w3 (G + 1) v3 T) := ho3.less (by omega)
  obtain ⟨a3, c3, hv3⟩ := HO.out.reads.shape
  subst hv3
  have HB_w3 : Hid (Below w.heap.size w w3) := below_trans HB_w1.out hb HB_w1.out.size
  have A_w3 : Hid (BoxC w3 24 w.heap.size [.slice a zs.length cap, .int .i64 (k : Int)]) := A_w1.out.below hb
  have Z_w3 : Hid (BoxC w3 24 G [.slice none 0 0, .int .i64 0]) := Z_w1.out.below hb
  clear A_w1 Z_w1 HB_w1
  clear hb hb3 ho3 hs3 hGs HNW HWC
  have cA0 : w3.cell? ⟨w.heap.size, 0, none⟩ = some (.slice a zs.length cap) := (A_w3.out.cell 0).trans rfl
  have cA1 : w3.cell? ⟨w.heap.size, 1, none⟩ = some (.int .i64 (k : Int)) := (A_w3.out.cell 1).trans rfl
  have hbI : (200 : Int) < (T.length : Int) := by omega
  go_wp2_with (refine storeC rfl 24 _ _ rfl G rfl [.slice none 0 0, .int .i64 0] [.slice none 0 0, .int .i64 0] rfl Z_w3.out wide_line (fun v hv => by simp at hv; rcases hv with rfl | rfl <;> rfl) rfl ?_)
  intro w4 hz hg
  have HB_w4 : Hid (Below w.heap.size w w4) := HB_w3.out.grown hg HB_w3.out.size (fun j hj => by cases hj; exact (by have := HLG.out; omega))
  have A_w4 : Hid (BoxC w4 24 w.heap.size [.slice a zs.length cap, .int .i64 (k : Int)]) := A_w3.out.kept hg (fun e => by have := HLG.out; have := Option.some.inj e; omega)
  clear A_w3 Z_w3 HB_w3
  have Z_w4 : Hid (BoxC w4 24 G [.slice none 0 0, .int .i64 0]) := hz
  clear hz hg
  go_wp2_with (fail)
  (try simp only [Exit.inBlock, Exit.then])
  refine bodyPost_ret (ret_box rfl _ _ G [.slice none 0 0, .int .i64 0] _ rfl rfl Z_w4.out wide_line) rfl ?_
  exact ⟨HB_w4.out, _, rfl, own_nil _ _⟩

theorem typed_go (v : Value) (zs : List Int) (k : Nat) (mode key : Int) (w : World) (h : Reads w v zs) (hk : k ≤ zs.length) (hl : zs.length ≤ 200) :
    Calls Try.prog 17 #[.agg #[v, .int .i64 (k : Int)], .int .i64 mode, .int .i64 key] w fun e w' => LinePost (tpd zs k mode key) w e w' := by
  obtain ⟨a, cap, rfl⟩ := h.shape
  unfold tpd
  have hto : ovr zs.length k mode = if mode = 2 then min (k + 1) zs.length else k := rfl
  by_cases hb : 200 < (wit zs k (ovr zs.length k mode) [key]).length
  · rw [if_pos hb]
    by_cases hm : mode = 2
    · rw [if_pos hm] at hto
      by_cases hk2 : k < zs.length
      · exact typed_ovr_full a cap zs k mode key w h hk hl ⟨hm, hk2⟩ _ _ (by omega) rfl hb
      · exact typed_end_full a cap zs k mode key w h hk hl ⟨hm, by omega⟩ _ _ (by omega) rfl hb
    · rw [if_neg hm] at hto
      exact typed_ins_full a cap zs k mode key w h hk hl hm _ _ hto rfl hb
  · rw [if_neg hb]
    by_cases hm : mode = 2
    · rw [if_pos hm] at hto
      by_cases hk2 : k < zs.length
      · exact typed_ovr a cap zs k mode key w h hk hl ⟨hm, hk2⟩ _ _ (by omega) rfl (by omega)
      · exact typed_end a cap zs k mode key w h hk hl ⟨hm, by omega⟩ _ _ (by omega) rfl (by omega)
    · rw [if_neg hm] at hto
      exact typed_ins a cap zs k mode key w h hk hl hm _ _ hto rfl (by omega)
end Go.Proofs.Ytpgjaoemkadenaa.Seek
