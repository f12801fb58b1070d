/- Texts of one claim, one behind the other: Keyed, KTyped, KRubbed, SameLine. -/
import Derived.Test.YtpgjaoemkadenabM28
import Derived.Test.YtpgjaoemkadenabM11
import Derived.Test.YtpgjaoemkadenabM04
/- P47, plain; the contracts of edit.checkTyping and edit.rubs. -/
set_option linter.unusedVariables false
set_option linter.unusedSimpArgs false
set_option maxRecDepth 100000
namespace Go.Proofs.Ytpgjaoemkadenab.Plain
open Seek
/-- P47: the error ahead of the key. -/
def tchk (n : Nat) (k mode : Int) : Int := if 200 < n then 2 else if k < 0 ∨ (n : Int) < k ∨ (mode ≠ 1 ∧ mode ≠ 2) then 1 else 0
/-- Whether a key takes back. -/
def rub (key : Int) : Bool := decide (key = 8 ∨ key = 127 ∨ key = 21 ∨ key = 23)
/-- The place behind what a key is put in the place of. -/
def ovr (n k : Nat) (mode : Int) : Nat := if mode = 2 then min (k + 1) n else k
/-- A key that is typed: the text, the place, the error. -/
def tpd (zs : List Int) (k : Nat) (mode key : Int) : List Int × Int × Int :=
  if 200 < (wit zs k (ovr zs.length k mode) [key]).length then ([], 0, 8) else (wit zs k (ovr zs.length k mode) [key], (k : Int) + 1, 0)
/-- From where on a key takes back. -/
def rbf (zs : List Int) (k : Nat) (key : Int) : Nat := if key = 21 then 0 else if key = 23 then (back zs (k : Int) false).toNat else k - 1
/-- A key that takes back. -/
def rbd (zs : List Int) (k : Nat) (mode key : Int) : List Int × Int :=
  if key ≠ 21 ∧ key ≠ 23 ∧ mode = 2 then (zs, (k : Int) - 1) else (wit zs (rbf zs k key) k [], (rbf zs k key : Int))
/-- P47. -/
def keyd (zs : List Int) (k mode key : Int) : List Int × Int × Int :=
  if tchk zs.length k mode ≠ 0 then ([], 0, tchk zs.length k mode)
  else if 32 ≤ key ∧ key ≠ 127 then tpd zs k.toNat mode key
  else if rub key = false then ([], 0, 9)
  else if k = 0 then ([], 0, 5)
  else ((rbd zs k.toNat mode key).1, (rbd zs k.toNat mode key).2, 0)
theorem tchk_zero {n : Nat} {k mode : Int} (h : tchk n k mode = 0) : n ≤ 200 ∧ (∃ j : Nat, k = (j : Int) ∧ j ≤ n) ∧ (mode = 1 ∨ mode = 2) := by
  unfold tchk at h
  by_cases h1 : 200 < n
  · rw [if_pos h1] at h; cases h
  · rw [if_neg h1] at h
    by_cases h2 : k < 0 ∨ (n : Int) < k ∨ (mode ≠ 1 ∧ mode ≠ 2)
    · rw [if_pos h2] at h; cases h
    · exact ⟨by omega, ⟨k.toNat, by omega, by omega⟩, by omega⟩
theorem rub_cases {key : Int} (h : rub key = true) : key = 8 ∨ key = 127 ∨ key = 21 ∨ key = 23 := by simpa [rub] using h
theorem rub_none {key : Int} (h : rub key = false) : key ≠ 8 ∧ key ≠ 127 ∧ key ≠ 21 ∧ key ≠ 23 := by
  have : ¬ (key = 8 ∨ key = 127 ∨ key = 21 ∨ key = 23) := by simpa [rub] using h
  omega
end Go.Proofs.Ytpgjaoemkadenab.Plain
namespace Go.Proofs.Ytpgjaoemkadenab.Seek
open Go.RowKit Plain
theorem back_low (zs : List Int) (k : Nat) (h2 : k ≤ zs.length) (hl : zs.length ≤ 4096) (b : Bool) : back zs (k : Int) b = ((back zs (k : Int) b).toNat : Int) ∧ (back zs (k : Int) b).toNat ≤ k := by
  have e : back zs (k : Int) b = (down (bgn zs b) k : Int) := by
    unfold back
    rw [if_pos (chk_right hl h2), Int.toNat_natCast]
  have h := down_spec (bgn zs b) k
  rw [e, Int.toNat_natCast]
  exact ⟨rfl, by omega⟩

set_option maxHeartbeats 1000000 in
theorem checkTyping_go (a : Option Addr) (n cap : Nat) (k mode : Int) (w : World) :
    Calls Try.prog 28 #[.agg #[.slice a n cap, .int .i64 k], .int .i64 mode] w fun e w' => e = .returned (.int .i64 (tchk n k mode)) ∧ Below w.heap.size w w' := by
  by_cases h1 : (200 : Int) < (n : Int)
  · rw [show tchk n k mode = 2 from if_pos (by omega)]
    go_enter Try.func28, Try.ntmps28
    go_wp2_with fail
    go_ret
    exact ⟨rfl, box_below _ _⟩
  · have e : tchk n k mode = if k < 0 ∨ (n : Int) < k ∨ (mode ≠ 1 ∧ mode ≠ 2) then 1 else 0 := if_neg (by omega)
    by_cases h2 : k < 0
    · rw [show tchk n k mode = 1 by rw [e]; exact if_pos (by omega)]
      clear e
      go_enter Try.func28, Try.ntmps28
      go_wp2_with fail
      go_ret
      exact ⟨rfl, box_below _ _⟩
    · by_cases h3 : (n : Int) < k
      · rw [show tchk n k mode = 1 by rw [e]; exact if_pos (by omega)]
        clear e
        go_enter Try.func28, Try.ntmps28
        go_wp2_with fail
        go_ret
        exact ⟨rfl, box_below _ _⟩
      · by_cases h4 : mode = 1
        · rw [show tchk n k mode = 0 by rw [e]; exact if_neg (by omega)]
          clear e
          subst h4
          go_enter Try.func28, Try.ntmps28
          go_wp2_with fail
          all_goals first
            | (exfalso; omega)
            | (go_ret; exact ⟨rfl, box_below _ _⟩)
        · by_cases h5 : mode = 2
          · rw [show tchk n k mode = 0 by rw [e]; exact if_neg (by omega)]
            clear e
            subst h5
            go_enter Try.func28, Try.ntmps28
            go_wp2_with fail
            all_goals first
              | (exfalso; omega)
              | (go_ret; exact ⟨rfl, box_below _ _⟩)
          · rw [show tchk n k mode = 1 by rw [e]; exact if_pos (by omega)]
            clear e
            have b4 : (mode != 1) = true := by simpa using h4
            have b5 : (mode != 2) = true := by simpa using h5
            go_enter Try.func28, Try.ntmps28
            go_wp2_with fail
            all_goals first
              | (exfalso; omega)
              | (go_ret; exact ⟨rfl, box_below _ _⟩)

set_option maxHeartbeats 400000 in
theorem rubs_go (key : Int) (w : World) : Calls Try.prog 30 #[.int .i64 key] w fun e w' => e = .returned (.bool (rub key)) ∧ w' = w := by
  cases h : rub key with
  | true =>
    rcases rub_cases h with rfl | rfl | rfl | rfl
    all_goals (
      clear h
      go_enter Try.func30, Try.ntmps30
      go_wp2_with fail
      go_ret
      exact ⟨rfl, rfl⟩)
  | false =>
    obtain ⟨h1, h2, h3, h4⟩ := rub_none h
    clear h
    go_enter Try.func30, Try.ntmps30
    go_wp2_with fail
    all_goals first
      | (exfalso; omega)
      | (go_ret; exact ⟨rfl, rfl⟩)
end Go.Proofs.Ytpgjaoemkadenab.Seek

/- The contract of edit.typed. -/
set_option linter.unusedVariables false
set_option linter.unusedSimpArgs false
set_option maxRecDepth 100000
namespace Go.Proofs.Ytpgjaoemkadenab.Seek
open Go.RowKit Plain

/-- A line that a call tells, with an error. -/
def LinePost (r : List Int × Int × Int) (w : World) (e : Ending) (w' : World) : Prop := Below w.heap.size w w' ∧ ∃ tv, e = .returned (.tuple #[.agg #[tv, .int .i64 r.2.1], .int .i64 r.2.2]) ∧ Own w' w.heap.size tv r.1
theorem own_nil (w : World) (B : Nat) : Own w B (.slice none 0 0) [] := .inl ⟨_, _, rfl, rfl⟩
theorem new_one (w : World) (key : Int) : Reads (w.alloc (.cells #[.int .i64 key] 3)) (.slice (some ⟨w.heap.size, 0, none⟩) 1 1) [key] := reads_new w [key] (by show 1 ≤ maxLen; decide)
theorem Own.past {w w' : World} {B G : Nat} {v : Value} {zs : List Int} (h : Own w B v zs) (hg : w.grownBy w' (some G)) (hG : G < B) : Own w' B v zs := by
  rcases h with h | ⟨hz, g, cap, hv, hB, hg1, h⟩
  · exact .inl h
  · refine .inr ⟨hz, g, cap, hv, hB, Nat.lt_of_lt_of_le hg1 hg.size, h.kept hg (.inr ?_)⟩
    rw [hv]
    simp only [Value.ownBlock]
    intro e
    have := Option.some.inj e
    omega


set_option maxHeartbeats 1000000 in
theorem typed_ins (a : Option Addr) (cap : Nat) (zs : List Int) (k : Nat) (mode key : Int) (w : World) (h : Reads w (.slice a zs.length cap) zs) (hk : k ≤ zs.length) (hl : zs.length ≤ 200) (hm : mode ≠ 2) (T : List Int) (tto : Nat) (hto : tto = k) (hT : T = wit zs k tto [key]) (hb : T.length ≤ 200) :
    Calls Try.prog 29 #[.agg #[.slice a zs.length cap, .int .i64 (k : Int)], .int .i64 mode, .int .i64 key] w fun e w' => LinePost (T, (k : Int) + 1, 0) w e w' := by
  have HV : Hid (∀ wx, Below w.heap.size w wx → Reads wx (.slice a zs.length cap) zs) := fun wx hx => h.below hx
  have HT : Hid (T = wit zs k tto [key]) := hT
  have hto2 : k ≤ tto ∧ tto ≤ zs.length := by omega
  have HTo : Hid (tto = k ∨ tto = k + 1) := by show _ ∨ _; omega
  clear h hT
  have hmd : (mode == 2) = false := by simpa using hm
  go_enter Try.func29, Try.ntmps29
  go_wp2_with (fail)
  obtain ⟨w1, hw_w1⟩ : ∃ w1, w1 = ((w.alloc (.cells #[.slice a zs.length cap, .int .i64 (k : Int)] 24)).alloc (.cells #[.slice none 0 0, .int .i64 0] 24)) := ⟨_, rfl⟩
  rw [← hw_w1]
  obtain ⟨hx0, hx1, hxb⟩ := start2 w 24 24 [.slice a zs.length cap, .int .i64 (k : Int)] [.slice none 0 0, .int .i64 0]
  rw [← hw_w1] at hx0 hx1 hxb
  have hsz_w1 : w.heap.size + 1 + 1 = w1.heap.size := by rw [hw_w1, size_alloc, size_alloc]
  try rw [hsz_w1]
  clear hsz_w1
  have HB_w1 : Hid (Below w.heap.size w w1) := hxb
  have A_w1 : Hid (BoxC w1 24 w.heap.size [.slice a zs.length cap, .int .i64 (k : Int)]) := hx0
  obtain ⟨G, hl_G⟩ : ∃ G, G = w.heap.size + 1 := ⟨_, rfl⟩
  rw [← hl_G] at hx1
  have Z_w1 : Hid (BoxC w1 24 G [.slice none 0 0, .int .i64 0]) := hx1
  have HLG : Hid (w.heap.size ≤ G ∧ w.heap.size < G) := by show _ ∧ _; omega
  clear hx0 hx1 hxb
  try rw [← hl_G]
  clear hw_w1
  clear hl_G
  have HNW : Hid (Reads (w1.alloc (.cells #[.int .i64 key] 3)) (.slice (some ⟨w1.heap.size, 0, none⟩) 1 1) [key]) := new_one w1 key
  have HWC : Hid (Calls Try.prog 45 #[.slice a zs.length cap, .int .i64 (k : Int), .int .i64 (tto : Int), .slice (some ⟨w1.heap.size, 0, none⟩) 1 1] (w1.alloc (.cells #[.int .i64 key] 3)) fun e w' => ConcatPost T (w1.alloc (.cells #[.int .i64 key] 3)) e w') := by rw [HT.out]; exact with_go _ _ zs [key] k tto _ (HV.out _ (HB_w1.out.alloc HB_w1.out.size _)) HNW.out hto2.1 hto2.2 (by omega) (by show 1 ≤ 4096; omega)
  rw [show (tto : Int) = (k : Int) by omega] at HWC
  refine HWC.out.mono ?_
  rintro e w3 ⟨hb3, v3, rfl, ho3⟩
  have hb : Below w1.heap.size w1 w3 := below_trans (box_below _ _) hb3 (box_below _ _).size
  have hs3 : w.heap.size ≤ (w1.alloc (.cells #[.int .i64 key] 3)).heap.size := Nat.le_trans HB_w1.out.size (box_below _ _).size
  have HO : Hid (Own w3 w.heap.size v3 T) := ho3.less hs3
  have hGs : G < (w1.alloc (.cells #[.int .i64 key] 3)).heap.size := Nat.lt_of_lt_of_le Z_w1.out.lt (box_below _ _).size
  have HOG : Hid (Own w3 (G + 1) v3 T) := ho3.less (by omega)
  obtain ⟨a3, c3, hv3⟩ := HO.out.reads.shape
  subst hv3
  have HB_w3 : Hid (Below w.heap.size w w3) := below_trans HB_w1.out hb HB_w1.out.size
  have A_w3 : Hid (BoxC w3 24 w.heap.size [.slice a zs.length cap, .int .i64 (k : Int)]) := A_w1.out.below hb
  have Z_w3 : Hid (BoxC w3 24 G [.slice none 0 0, .int .i64 0]) := Z_w1.out.below hb
  clear A_w1 Z_w1 HB_w1
  clear hb hb3 ho3 hs3 hGs HNW HWC
  have cA0 : w3.cell? ⟨w.heap.size, 0, none⟩ = some (.slice a zs.length cap) := (A_w3.out.cell 0).trans rfl
  have cA1 : w3.cell? ⟨w.heap.size, 1, none⟩ = some (.int .i64 (k : Int)) := (A_w3.out.cell 1).trans rfl
  have hbI : ¬ (200 : Int) < (T.length : Int) := by omega
  have hw1 : IntKind.i64.wrap ((k : Int) + 1) = (k : Int) + 1 := by rw [IntKind.wrap_i64]; omega
  go_wp2_with (refine storeC rfl 24 _ _ rfl G rfl [.slice none 0 0, .int .i64 0] [.slice a3 T.length c3, .int .i64 ((k : Int) + 1)] rfl Z_w3.out wide_line (fun v hv => by simp at hv; rcases hv with rfl | rfl <;> rfl) rfl ?_)
  intro w4 hz hg
  have HB_w4 : Hid (Below w.heap.size w w4) := HB_w3.out.grown hg HB_w3.out.size (fun j hj => by cases hj; exact (by have := HLG.out; omega))
  have A_w4 : Hid (BoxC w4 24 w.heap.size [.slice a zs.length cap, .int .i64 (k : Int)]) := A_w3.out.kept hg (fun e => by have := HLG.out; have := Option.some.inj e; omega)
  clear A_w3 Z_w3 HB_w3
  have Z_w4 : Hid (BoxC w4 24 G [.slice a3 T.length c3, .int .i64 ((k : Int) + 1)]) := hz
  have HOF : Hid (Own w4 w.heap.size (.slice a3 T.length c3) T) := (HOG.out.past hg (Nat.lt_succ_self _)).less (by have := HLG.out; omega)
  clear hz hg
  go_wp2_with (fail)
  have HOw : Hid (Own w4 w.heap.size (.slice a3 T.length c3) T) := HOF.out
  (try simp only [Exit.inBlock, Exit.then])
  refine bodyPost_ret (ret_box rfl _ _ G [.slice a3 T.length c3, .int .i64 ((k : Int) + 1)] _ rfl rfl Z_w4.out wide_line) rfl ?_
  exact ⟨HB_w4.out, _, rfl, HOw.out⟩

set_option maxHeartbeats 1000000 in
theorem typed_ins_full (a : Option Addr) (cap : Nat) (zs : List Int) (k : Nat) (mode key : Int) (w : World) (h : Reads w (.slice a zs.length cap) zs) (hk : k ≤ zs.length) (hl : zs.length ≤ 200) (hm : mode ≠ 2) (T : List Int) (tto : Nat) (hto : tto = k) (hT : T = wit zs k tto [key]) (hb : 200 < T.length) :
    Calls Try.prog 29 #[.agg #[.slice a zs.length cap, .int .i64 (k : Int)], .int .i64 mode, .int .i64 key] w fun e w' => LinePost ([], 0, 8) w e w' := by
  have HV : Hid (∀ wx, Below w.heap.size w wx → Reads wx (.slice a zs.length cap) zs) := fun wx hx => h.below hx
  have HT : Hid (T = wit zs k tto [key]) := hT
  have hto2 : k ≤ tto ∧ tto ≤ zs.length := by omega
  have HTo : Hid (tto = k ∨ tto = k + 1) := by show _ ∨ _; omega
  clear h hT
  have hmd : (mode == 2) = false := by simpa using hm
  go_enter Try.func29, Try.ntmps29
  go_wp2_with (fail)
  obtain ⟨w1, hw_w1⟩ : ∃ w1, w1 = ((w.alloc (.cells #[.slice a zs.length cap, .int .i64 (k : Int)] 24)).alloc (.cells #[.slice none 0 0, .int .i64 0] 24)) := ⟨_, rfl⟩
  rw [← hw_w1]
  obtain ⟨hx0, hx1, hxb⟩ := start2 w 24 24 [.slice a zs.length cap, .int .i64 (k : Int)] [.slice none 0 0, .int .i64 0]
  rw [← hw_w1] at hx0 hx1 hxb
  have hsz_w1 : w.heap.size + 1 + 1 = w1.heap.size := by rw [hw_w1, size_alloc, size_alloc]
  try rw [hsz_w1]
  clear hsz_w1
  have HB_w1 : Hid (Below w.heap.size w w1) := hxb
  have A_w1 : Hid (BoxC w1 24 w.heap.size [.slice a zs.length cap, .int .i64 (k : Int)]) := hx0
  obtain ⟨G, hl_G⟩ : ∃ G, G = w.heap.size + 1 := ⟨_, rfl⟩
  rw [← hl_G] at hx1
  have Z_w1 : Hid (BoxC w1 24 G [.slice none 0 0, .int .i64 0]) := hx1
  have HLG : Hid (w.heap.size ≤ G ∧ w.heap.size < G) := by show _ ∧ _; omega
  clear hx0 hx1 hxb
  try rw [← hl_G]
  clear hw_w1
  clear hl_G
  have HNW : Hid (Reads (w1.alloc (.cells #[.int .i64 key] 3)) (.slice (some ⟨w1.heap.size, 0, none⟩) 1 1) [key]) := new_one w1 key
  have HWC : Hid (Calls Try.prog 45 #[.slice a zs.length cap, .int .i64 (k : Int), .int .i64 (tto : Int), .slice (some ⟨w1.heap.size, 0, none⟩) 1 1] (w1.alloc (.cells #[.int .i64 key] 3)) fun e w' => ConcatPost T (w1.alloc (.cells #[.int .i64 key] 3)) e w') := by rw [HT.out]; exact with_go _ _ zs [key] k tto _ (HV.out _ (HB_w1.out.alloc HB_w1.out.size _)) HNW.out hto2.1 hto2.2 (by omega) (by show 1 ≤ 4096; omega)
  rw [show (tto : Int) = (k : Int) by omega] at HWC
  refine HWC.out.mono ?_
  rintro e w3 ⟨hb3, v3, rfl, ho3⟩
  have hb : Below w1.heap.size w1 w3 := below_trans (box_below _ _) hb3 (box_below _ _).size
  have hs3 : w.heap.size ≤ (w1.alloc (.cells #[.int .i64 key] 3)).heap.size := Nat.le_trans HB_w1.out.size (box_below _ _).size
  have HO : Hid (Own w3 w.heap.size v3 T) := ho3.less hs3
  have hGs : G < (w1.alloc (.cells #[.int .i64 key] 3)).heap.size := Nat.lt_of_lt_of_le Z_w1.out.lt (box_below _ _).size
  have HOG : Hid (Own w3 (G + 1) v3 T) := ho3.less (by omega)
  obtain ⟨a3, c3, hv3⟩ := HO.out.reads.shape
  subst hv3
  have HB_w3 : Hid (Below w.heap.size w w3) := below_trans HB_w1.out hb HB_w1.out.size
  have A_w3 : Hid (BoxC w3 24 w.heap.size [.slice a zs.length cap, .int .i64 (k : Int)]) := A_w1.out.below hb
  have Z_w3 : Hid (BoxC w3 24 G [.slice none 0 0, .int .i64 0]) := Z_w1.out.below hb
  clear A_w1 Z_w1 HB_w1
  clear hb hb3 ho3 hs3 hGs HNW HWC
  have cA0 : w3.cell? ⟨w.heap.size, 0, none⟩ = some (.slice a zs.length cap) := (A_w3.out.cell 0).trans rfl
  have cA1 : w3.cell? ⟨w.heap.size, 1, none⟩ = some (.int .i64 (k : Int)) := (A_w3.out.cell 1).trans rfl
  have hbI : (200 : Int) < (T.length : Int) := by omega
  have hw1 : IntKind.i64.wrap ((k : Int) + 1) = (k : Int) + 1 := by rw [IntKind.wrap_i64]; omega
  go_wp2_with (refine storeC rfl 24 _ _ rfl G rfl [.slice none 0 0, .int .i64 0] [.slice none 0 0, .int .i64 0] rfl Z_w3.out wide_line (fun v hv => by simp at hv; rcases hv with rfl | rfl <;> rfl) rfl ?_)
  intro w4 hz hg
  have HB_w4 : Hid (Below w.heap.size w w4) := HB_w3.out.grown hg HB_w3.out.size (fun j hj => by cases hj; exact (by have := HLG.out; omega))
  have A_w4 : Hid (BoxC w4 24 w.heap.size [.slice a zs.length cap, .int .i64 (k : Int)]) := A_w3.out.kept hg (fun e => by have := HLG.out; have := Option.some.inj e; omega)
  clear A_w3 Z_w3 HB_w3
  have Z_w4 : Hid (BoxC w4 24 G [.slice none 0 0, .int .i64 0]) := hz
  clear hz hg
  go_wp2_with (fail)
  (try simp only [Exit.inBlock, Exit.then])
  refine bodyPost_ret (ret_box rfl _ _ G [.slice none 0 0, .int .i64 0] _ rfl rfl Z_w4.out wide_line) rfl ?_
  exact ⟨HB_w4.out, _, rfl, own_nil _ _⟩

set_option maxHeartbeats 1000000 in
theorem typed_ovr (a : Option Addr) (cap : Nat) (zs : List Int) (k : Nat) (mode key : Int) (w : World) (h : Reads w (.slice a zs.length cap) zs) (hk : k ≤ zs.length) (hl : zs.length ≤ 200) (hm : mode = 2 ∧ k < zs.length) (T : List Int) (tto : Nat) (hto : tto = k + 1) (hT : T = wit zs k tto [key]) (hb : T.length ≤ 200) :
    Calls Try.prog 29 #[.agg #[.slice a zs.length cap, .int .i64 (k : Int)], .int .i64 mode, .int .i64 key] w fun e w' => LinePost (T, (k : Int) + 1, 0) w e w' := by
  have HV : Hid (∀ wx, Below w.heap.size w wx → Reads wx (.slice a zs.length cap) zs) := fun wx hx => h.below hx
  have HT : Hid (T = wit zs k tto [key]) := hT
  have hto2 : k ≤ tto ∧ tto ≤ zs.length := by omega
  have HTo : Hid (tto = k ∨ tto = k + 1) := by show _ ∨ _; omega
  clear h hT
  obtain ⟨rfl, hk2⟩ := hm
  have hk3 : min ((k : Int) + 1) (zs.length : Int) = (k : Int) + 1 := by omega
  have hw1 : IntKind.i64.wrap ((k : Int) + 1) = (k : Int) + 1 := by rw [IntKind.wrap_i64]; omega
  go_enter Try.func29, Try.ntmps29
  go_wp2_with (fail)
  obtain ⟨w1, hw_w1⟩ : ∃ w1, w1 = ((w.alloc (.cells #[.slice a zs.length cap, .int .i64 (k : Int)] 24)).alloc (.cells #[.slice none 0 0, .int .i64 0] 24)) := ⟨_, rfl⟩
  rw [← hw_w1]
  obtain ⟨hx0, hx1, hxb⟩ := start2 w 24 24 [.slice a zs.length cap, .int .i64 (k : Int)] [.slice none 0 0, .int .i64 0]
  rw [← hw_w1] at hx0 hx1 hxb
  have hsz_w1 : w.heap.size + 1 + 1 = w1.heap.size := by rw [hw_w1, size_alloc, size_alloc]
  try rw [hsz_w1]
  clear hsz_w1
  have HB_w1 : Hid (Below w.heap.size w w1) := hxb
  have A_w1 : Hid (BoxC w1 24 w.heap.size [.slice a zs.length cap, .int .i64 (k : Int)]) := hx0
  obtain ⟨G, hl_G⟩ : ∃ G, G = w.heap.size + 1 := ⟨_, rfl⟩
  rw [← hl_G] at hx1
  have Z_w1 : Hid (BoxC w1 24 G [.slice none 0 0, .int .i64 0]) := hx1
  have HLG : Hid (w.heap.size ≤ G ∧ w.heap.size < G) := by show _ ∧ _; omega
  clear hx0 hx1 hxb
  try rw [← hl_G]
  clear hw_w1
  clear hl_G
  have HNW : Hid (Reads (w1.alloc (.cells #[.int .i64 key] 3)) (.slice (some ⟨w1.heap.size, 0, none⟩) 1 1) [key]) := new_one w1 key
  have HWC : Hid (Calls Try.prog 45 #[.slice a zs.length cap, .int .i64 (k : Int), .int .i64 (tto : Int), .slice (some ⟨w1.heap.size, 0, none⟩) 1 1] (w1.alloc (.cells #[.int .i64 key] 3)) fun e w' => ConcatPost T (w1.alloc (.cells #[.int .i64 key] 3)) e w') := by rw [HT.out]; exact with_go _ _ zs [key] k tto _ (HV.out _ (HB_w1.out.alloc HB_w1.out.size _)) HNW.out hto2.1 hto2.2 (by omega) (by show 1 ≤ 4096; omega)
  rw [show (tto : Int) = (k : Int) + 1 by omega] at HWC
  refine HWC.out.mono ?_
  rintro e w3 ⟨hb3, v3, rfl, ho3⟩
  have hb : Below w1.heap.size w1 w3 := below_trans (box_below _ _) hb3 (box_below _ _).size
  have hs3 : w.heap.size ≤ (w1.alloc (.cells #[.int .i64 key] 3)).heap.size := Nat.le_trans HB_w1.out.size (box_below _ _).size
  have HO : Hid (Own w3 w.heap.size v3 T) := ho3.less hs3
  have hGs : G < (w1.alloc (.cells #[.int .i64 key] 3)).heap.size := Nat.lt_of_lt_of_le Z_w1.out.lt (box_below _ _).size
  have HOG : Hid (Own w3 (G + 1) v3 T) := ho3.less (by omega)
  obtain ⟨a3, c3, hv3⟩ := HO.out.reads.shape
  subst hv3
  have HB_w3 : Hid (Below w.heap.size w w3) := below_trans HB_w1.out hb HB_w1.out.size
  have A_w3 : Hid (BoxC w3 24 w.heap.size [.slice a zs.length cap, .int .i64 (k : Int)]) := A_w1.out.below hb
  have Z_w3 : Hid (BoxC w3 24 G [.slice none 0 0, .int .i64 0]) := Z_w1.out.below hb
  clear A_w1 Z_w1 HB_w1
  clear hb hb3 ho3 hs3 hGs HNW HWC
  have cA0 : w3.cell? ⟨w.heap.size, 0, none⟩ = some (.slice a zs.length cap) := (A_w3.out.cell 0).trans rfl
  have cA1 : w3.cell? ⟨w.heap.size, 1, none⟩ = some (.int .i64 (k : Int)) := (A_w3.out.cell 1).trans rfl
  have hbI : ¬ (200 : Int) < (T.length : Int) := by omega
  go_wp2_with (refine storeC rfl 24 _ _ rfl G rfl [.slice none 0 0, .int .i64 0] [.slice a3 T.length c3, .int .i64 ((k : Int) + 1)] rfl Z_w3.out wide_line (fun v hv => by simp at hv; rcases hv with rfl | rfl <;> rfl) rfl ?_)
  intro w4 hz hg
  have HB_w4 : Hid (Below w.heap.size w w4) := HB_w3.out.grown hg HB_w3.out.size (fun j hj => by cases hj; exact (by have := HLG.out; omega))
  have A_w4 : Hid (BoxC w4 24 w.heap.size [.slice a zs.length cap, .int .i64 (k : Int)]) := A_w3.out.kept hg (fun e => by have := HLG.out; have := Option.some.inj e; omega)
  clear A_w3 Z_w3 HB_w3
  have Z_w4 : Hid (BoxC w4 24 G [.slice a3 T.length c3, .int .i64 ((k : Int) + 1)]) := hz
  have HOF : Hid (Own w4 w.heap.size (.slice a3 T.length c3) T) := (HOG.out.past hg (Nat.lt_succ_self _)).less (by have := HLG.out; omega)
  clear hz hg
  go_wp2_with (fail)
  have HOw : Hid (Own w4 w.heap.size (.slice a3 T.length c3) T) := HOF.out
  (try simp only [Exit.inBlock, Exit.then])
  refine bodyPost_ret (ret_box rfl _ _ G [.slice a3 T.length c3, .int .i64 ((k : Int) + 1)] _ rfl rfl Z_w4.out wide_line) rfl ?_
  exact ⟨HB_w4.out, _, rfl, HOw.out⟩

set_option maxHeartbeats 1000000 in
theorem typed_ovr_full (a : Option Addr) (cap : Nat) (zs : List Int) (k : Nat) (mode key : Int) (w : World) (h : Reads w (.slice a zs.length cap) zs) (hk : k ≤ zs.length) (hl : zs.length ≤ 200) (hm : mode = 2 ∧ k < zs.length) (T : List Int) (tto : Nat) (hto : tto = k + 1) (hT : T = wit zs k tto [key]) (hb : 200 < T.length) :
    Calls Try.prog 29 #[.agg #[.slice a zs.length cap, .int .i64 (k : Int)], .int .i64 mode, .int .i64 key] w fun e w' => LinePost ([], 0, 8) w e w' := by
  have HV : Hid (∀ wx, Below w.heap.size w wx → Reads wx (.slice a zs.length cap) zs) := fun wx hx => h.below hx
  have HT : Hid (T = wit zs k tto [key]) := hT
  have hto2 : k ≤ tto ∧ tto ≤ zs.length := by omega
  have HTo : Hid (tto = k ∨ tto = k + 1) := by show _ ∨ _; omega
  clear h hT
  obtain ⟨rfl, hk2⟩ := hm
  have hk3 : min ((k : Int) + 1) (zs.length : Int) = (k : Int) + 1 := by omega
  have hw1 : IntKind.i64.wrap ((k : Int) + 1) = (k : Int) + 1 := by rw [IntKind.wrap_i64]; omega
  go_enter Try.func29, Try.ntmps29
  go_wp2_with (fail)
  obtain ⟨w1, hw_w1⟩ : ∃ w1, w1 = ((w.alloc (.cells #[.slice a zs.length cap, .int .i64 (k : Int)] 24)).alloc (.cells #[.slice none 0 0, .int .i64 0] 24)) := ⟨_, rfl⟩
  rw [← hw_w1]
  obtain ⟨hx0, hx1, hxb⟩ := start2 w 24 24 [.slice a zs.length cap, .int .i64 (k : Int)] [.slice none 0 0, .int .i64 0]
  rw [← hw_w1] at hx0 hx1 hxb
  have hsz_w1 : w.heap.size + 1 + 1 = w1.heap.size := by rw [hw_w1, size_alloc, size_alloc]
  try rw [hsz_w1]
  clear hsz_w1
  have HB_w1 : Hid (Below w.heap.size w w1) := hxb
  have A_w1 : Hid (BoxC w1 24 w.heap.size [.slice a zs.length cap, .int .i64 (k : Int)]) := hx0
  obtain ⟨G, hl_G⟩ : ∃ G, G = w.heap.size + 1 := ⟨_, rfl⟩
  rw [← hl_G] at hx1
  have Z_w1 : Hid (BoxC w1 24 G [.slice none 0 0, .int .i64 0]) := hx1
  have HLG : Hid (w.heap.size ≤ G ∧ w.heap.size < G) := by show _ ∧ _; omega
  clear hx0 hx1 hxb
  try rw [← hl_G]
  clear hw_w1
  clear hl_G
  have HNW : Hid (Reads (w1.alloc (.cells #[.int .i64 key] 3)) (.slice (some ⟨w1.heap.size, 0, none⟩) 1 1) [key]) := new_one w1 key
  have HWC : Hid (Calls Try.prog 45 #[.slice a zs.length cap, .int .i64 (k : Int), .int .i64 (tto : Int), .slice (some ⟨w1.heap.size, 0, none⟩) 1 1] (w1.alloc (.cells #[.int .i64 key] 3)) fun e w' => ConcatPost T (w1.alloc (.cells #[.int .i64 key] 3)) e w') := by rw [HT.out]; exact with_go _ _ zs [key] k tto _ (HV.out _ (HB_w1.out.alloc HB_w1.out.size _)) HNW.out hto2.1 hto2.2 (by omega) (by show 1 ≤ 4096; omega)
  rw [show (tto : Int) = (k : Int) + 1 by omega] at HWC
  refine HWC.out.mono ?_
  rintro e w3 ⟨hb3, v3, rfl, ho3⟩
  have hb : Below w1.heap.size w1 w3 := below_trans (box_below _ _) hb3 (box_below _ _).size
  have hs3 : w.heap.size ≤ (w1.alloc (.cells #[.int .i64 key] 3)).heap.size := Nat.le_trans HB_w1.out.size (box_below _ _).size
  have HO : Hid (Own w3 w.heap.size v3 T) := ho3.less hs3
  have hGs : G < (w1.alloc (.cells #[.int .i64 key] 3)).heap.size := Nat.lt_of_lt_of_le Z_w1.out.lt (box_below _ _).size
  have HOG : Hid (Own w3 (G + 1) v3 T) := ho3.less (by omega)
  obtain ⟨a3, c3, hv3⟩ := HO.out.reads.shape
  subst hv3
  have HB_w3 : Hid (Below w.heap.size w w3) := below_trans HB_w1.out hb HB_w1.out.size
  have A_w3 : Hid (BoxC w3 24 w.heap.size [.slice a zs.length cap, .int .i64 (k : Int)]) := A_w1.out.below hb
  have Z_w3 : Hid (BoxC w3 24 G [.slice none 0 0, .int .i64 0]) := Z_w1.out.below hb
  clear A_w1 Z_w1 HB_w1
  clear hb hb3 ho3 hs3 hGs HNW HWC
  have cA0 : w3.cell? ⟨w.heap.size, 0, none⟩ = some (.slice a zs.length cap) := (A_w3.out.cell 0).trans rfl
  have cA1 : w3.cell? ⟨w.heap.size, 1, none⟩ = some (.int .i64 (k : Int)) := (A_w3.out.cell 1).trans rfl
  have hbI : (200 : Int) < (T.length : Int) := by omega
  go_wp2_with (refine storeC rfl 24 _ _ rfl G rfl [.slice none 0 0, .int .i64 0] [.slice none 0 0, .int .i64 0] rfl Z_w3.out wide_line (fun v hv => by simp at hv; rcases hv with rfl | rfl <;> rfl) rfl ?_)
  intro w4 hz hg
  have HB_w4 : Hid (Below w.heap.size w w4) := HB_w3.out.grown hg HB_w3.out.size (fun j hj => by cases hj; exact (by have := HLG.out; omega))
  have A_w4 : Hid (BoxC w4 24 w.heap.size [.slice a zs.length cap, .int .i64 (k : Int)]) := A_w3.out.kept hg (fun e => by have := HLG.out; have := Option.some.inj e; omega)
  clear A_w3 Z_w3 HB_w3
  have Z_w4 : Hid (BoxC w4 24 G [.slice none 0 0, .int .i64 0]) := hz
  clear hz hg
  go_wp2_with (fail)
  (try simp only [Exit.inBlock, Exit.then])
  refine bodyPost_ret (ret_box rfl _ _ G [.slice none 0 0, .int .i64 0] _ rfl rfl Z_w4.out wide_line) rfl ?_
  exact ⟨HB_w4.out, _, rfl, own_nil _ _⟩

set_option maxHeartbeats 1000000 in
theorem typed_end (a : Option Addr) (cap : Nat) (zs : List Int) (k : Nat) (mode key : Int) (w : World) (h : Reads w (.slice a zs.length cap) zs) (hk : k ≤ zs.length) (hl : zs.length ≤ 200) (hm : mode = 2 ∧ k = zs.length) (T : List Int) (tto : Nat) (hto : tto = k) (hT : T = wit zs k tto [key]) (hb : T.length ≤ 200) :
    Calls Try.prog 29 #[.agg #[.slice a zs.length cap, .int .i64 (k : Int)], .int .i64 mode, .int .i64 key] w fun e w' => LinePost (T, (k : Int) + 1, 0) w e w' := by
  have HV : Hid (∀ wx, Below w.heap.size w wx → Reads wx (.slice a zs.length cap) zs) := fun wx hx => h.below hx
  have HT : Hid (T = wit zs k tto [key]) := hT
  have hto2 : k ≤ tto ∧ tto ≤ zs.length := by omega
  have HTo : Hid (tto = k ∨ tto = k + 1) := by show _ ∨ _; omega
  clear h hT
  obtain ⟨rfl, hk2⟩ := hm
  have hk3 : min ((k : Int) + 1) (zs.length : Int) = (zs.length : Int) := by omega
  have HK2 : Hid (k = zs.length) := hk2
  clear hk2
  have hw1 : IntKind.i64.wrap ((k : Int) + 1) = (k : Int) + 1 := by rw [IntKind.wrap_i64]; omega
  go_enter Try.func29, Try.ntmps29
  go_wp2_with (fail)
  obtain ⟨w1, hw_w1⟩ : ∃ w1, w1 = ((w.alloc (.cells #[.slice a zs.length cap, .int .i64 (k : Int)] 24)).alloc (.cells #[.slice none 0 0, .int .i64 0] 24)) := ⟨_, rfl⟩
  rw [← hw_w1]
  obtain ⟨hx0, hx1, hxb⟩ := start2 w 24 24 [.slice a zs.length cap, .int .i64 (k : Int)] [.slice none 0 0, .int .i64 0]
  rw [← hw_w1] at hx0 hx1 hxb
  have hsz_w1 : w.heap.size + 1 + 1 = w1.heap.size := by rw [hw_w1, size_alloc, size_alloc]
  try rw [hsz_w1]
  clear hsz_w1
  have HB_w1 : Hid (Below w.heap.size w w1) := hxb
  have A_w1 : Hid (BoxC w1 24 w.heap.size [.slice a zs.length cap, .int .i64 (k : Int)]) := hx0
  obtain ⟨G, hl_G⟩ : ∃ G, G = w.heap.size + 1 := ⟨_, rfl⟩
  rw [← hl_G] at hx1
  have Z_w1 : Hid (BoxC w1 24 G [.slice none 0 0, .int .i64 0]) := hx1
  have HLG : Hid (w.heap.size ≤ G ∧ w.heap.size < G) := by show _ ∧ _; omega
  clear hx0 hx1 hxb
  try rw [← hl_G]
  clear hw_w1
  clear hl_G
  have HNW : Hid (Reads (w1.alloc (.cells #[.int .i64 key] 3)) (.slice (some ⟨w1.heap.size, 0, none⟩) 1 1) [key]) := new_one w1 key
  have HWC : Hid (Calls Try.prog 45 #[.slice a zs.length cap, .int .i64 (k : Int), .int .i64 (tto : Int), .slice (some ⟨w1.heap.size, 0, none⟩) 1 1] (w1.alloc (.cells #[.int .i64 key] 3)) fun e w' => ConcatPost T (w1.alloc (.cells #[.int .i64 key] 3)) e w') := by rw [HT.out]; exact with_go _ _ zs [key] k tto _ (HV.out _ (HB_w1.out.alloc HB_w1.out.size _)) HNW.out hto2.1 hto2.2 (by omega) (by show 1 ≤ 4096; omega)
  rw [show (tto : Int) = (zs.length : Int) by have := HK2.out; omega] at HWC
  refine HWC.out.mono ?_
  rintro e w3 ⟨hb3, v3, rfl, ho3⟩
  have hb : Below w1.heap.size w1 w3 := below_trans (box_below _ _) hb3 (box_below _ _).size
  have hs3 : w.heap.size ≤ (w1.alloc (.cells #[.int .i64 key] 3)).heap.size := Nat.le_trans HB_w1.out.size (box_below _ _).size
  have HO : Hid (Own w3 w.heap.size v3 T) := ho3.less hs3
  have hGs : G < (w1.alloc (.cells #[.int .i64 key] 3)).heap.size := Nat.lt_of_lt_of_le Z_w1.out.lt (box_below _ _).size
  have HOG : Hid (Own w3 (G + 1) v3 T) := ho3.less (by omega)
  obtain ⟨a3, c3, hv3⟩ := HO.out.reads.shape
  subst hv3
  have HB_w3 : Hid (Below w.heap.size w w3) := below_trans HB_w1.out hb HB_w1.out.size
  have A_w3 : Hid (BoxC w3 24 w.heap.size [.slice a zs.length cap, .int .i64 (k : Int)]) := A_w1.out.below hb
  have Z_w3 : Hid (BoxC w3 24 G [.slice none 0 0, .int .i64 0]) := Z_w1.out.below hb
  clear A_w1 Z_w1 HB_w1
  clear hb hb3 ho3 hs3 hGs HNW HWC
  have cA0 : w3.cell? ⟨w.heap.size, 0, none⟩ = some (.slice a zs.length cap) := (A_w3.out.cell 0).trans rfl
  have cA1 : w3.cell? ⟨w.heap.size, 1, none⟩ = some (.int .i64 (k : Int)) := (A_w3.out.cell 1).trans rfl
  have hbI : ¬ (200 : Int) < (T.length : Int) := by omega
  go_wp2_with (refine storeC rfl 24 _ _ rfl G rfl [.slice none 0 0, .int .i64 0] [.slice a3 T.length c3, .int .i64 ((k : Int) + 1)] rfl Z_w3.out wide_line (fun v hv => by simp at hv; rcases hv with rfl | rfl <;> rfl) rfl ?_)
  intro w4 hz hg
  have HB_w4 : Hid (Below w.heap.size w w4) := HB_w3.out.grown hg HB_w3.out.size (fun j hj => by cases hj; exact (by have := HLG.out; omega))
  have A_w4 : Hid (BoxC w4 24 w.heap.size [.slice a zs.length cap, .int .i64 (k : Int)]) := A_w3.out.kept hg (fun e => by have := HLG.out; have := Option.some.inj e; omega)
  clear A_w3 Z_w3 HB_w3
  have Z_w4 : Hid (BoxC w4 24 G [.slice a3 T.length c3, .int .i64 ((k : Int) + 1)]) := hz
  have HOF : Hid (Own w4 w.heap.size (.slice a3 T.length c3) T) := (HOG.out.past hg (Nat.lt_succ_self _)).less (by have := HLG.out; omega)
  clear hz hg
  go_wp2_with (fail)
  have HOw : Hid (Own w4 w.heap.size (.slice a3 T.length c3) T) := HOF.out
  (try simp only [Exit.inBlock, Exit.then])
  refine bodyPost_ret (ret_box rfl _ _ G [.slice a3 T.length c3, .int .i64 ((k : Int) + 1)] _ rfl rfl Z_w4.out wide_line) rfl ?_
  exact ⟨HB_w4.out, _, rfl, HOw.out⟩

set_option maxHeartbeats 1000000 in
theorem typed_end_full (a : Option Addr) (cap : Nat) (zs : List Int) (k : Nat) (mode key : Int) (w : World) (h : Reads w (.slice a zs.length cap) zs) (hk : k ≤ zs.length) (hl : zs.length ≤ 200) (hm : mode = 2 ∧ k = zs.length) (T : List Int) (tto : Nat) (hto : tto = k) (hT : T = wit zs k tto [key]) (hb : 200 < T.length) :
    Calls Try.prog 29 #[.agg #[.slice a zs.length cap, .int .i64 (k : Int)], .int .i64 mode, .int .i64 key] w fun e w' => LinePost ([], 0, 8) w e w' := by
  have HV : Hid (∀ wx, Below w.heap.size w wx → Reads wx (.slice a zs.length cap) zs) := fun wx hx => h.below hx
  have HT : Hid (T = wit zs k tto [key]) := hT
  have hto2 : k ≤ tto ∧ tto ≤ zs.length := by omega
  have HTo : Hid (tto = k ∨ tto = k + 1) := by show _ ∨ _; omega
  clear h hT
  obtain ⟨rfl, hk2⟩ := hm
  have hk3 : min ((k : Int) + 1) (zs.length : Int) = (zs.length : Int) := by omega
  have HK2 : Hid (k = zs.length) := hk2
  clear hk2
  have hw1 : IntKind.i64.wrap ((k : Int) + 1) = (k : Int) + 1 := by rw [IntKind.wrap_i64]; omega
  go_enter Try.func29, Try.ntmps29
  go_wp2_with (fail)
  obtain ⟨w1, hw_w1⟩ : ∃ w1, w1 = ((w.alloc (.cells #[.slice a zs.length cap, .int .i64 (k : Int)] 24)).alloc (.cells #[.slice none 0 0, .int .i64 0] 24)) := ⟨_, rfl⟩
  rw [← hw_w1]
  obtain ⟨hx0, hx1, hxb⟩ := start2 w 24 24 [.slice a zs.length cap, .int .i64 (k : Int)] [.slice none 0 0, .int .i64 0]
  rw [← hw_w1] at hx0 hx1 hxb
  have hsz_w1 : w.heap.size + 1 + 1 = w1.heap.size := by rw [hw_w1, size_alloc, size_alloc]
  try rw [hsz_w1]
  clear hsz_w1
  have HB_w1 : Hid (Below w.heap.size w w1) := hxb
  have A_w1 : Hid (BoxC w1 24 w.heap.size [.slice a zs.length cap, .int .i64 (k : Int)]) := hx0
  obtain ⟨G, hl_G⟩ : ∃ G, G = w.heap.size + 1 := ⟨_, rfl⟩
  rw [← hl_G] at hx1
  have Z_w1 : Hid (BoxC w1 24 G [.slice none 0 0, .int .i64 0]) := hx1
  have HLG : Hid (w.heap.size ≤ G ∧ w.heap.size < G) := by show _ ∧ _; omega
  clear hx0 hx1 hxb
  try rw [← hl_G]
  clear hw_w1
  clear hl_G
  have HNW : Hid (Reads (w1.alloc (.cells #[.int .i64 key] 3)) (.slice (some ⟨w1.heap.size, 0, none⟩) 1 1) [key]) := new_one w1 key
  have HWC : Hid (Calls Try.prog 45 #[.slice a zs.length cap, .int .i64 (k : Int), .int .i64 (tto : Int), .slice (some ⟨w1.heap.size, 0, none⟩) 1 1] (w1.alloc (.cells #[.int .i64 key] 3)) fun e w' => ConcatPost T (w1.alloc (.cells #[.int .i64 key] 3)) e w') := by rw [HT.out]; exact with_go _ _ zs [key] k tto _ (HV.out _ (HB_w1.out.alloc HB_w1.out.size _)) HNW.out hto2.1 hto2.2 (by omega) (by show 1 ≤ 4096; omega)
  rw [show (tto : Int) = (zs.length : Int) by have := HK2.out; omega] at HWC
  refine HWC.out.mono ?_
  rintro e w3 ⟨hb3, v3, rfl, ho3⟩
  have hb : Below w1.heap.size w1 w3 := below_trans (box_below _ _) hb3 (box_below _ _).size
  have hs3 : w.heap.size ≤ (w1.alloc (.cells #[.int .i64 key] 3)).heap.size := Nat.le_trans HB_w1.out.size (box_below _ _).size
  have HO : Hid (Own w3 w.heap.size v3 T) := ho3.less hs3
  have hGs : G < (w1.alloc (.cells #[.int .i64 key] 3)).heap.size := Nat.lt_of_lt_of_le Z_w1.out.lt (box_below _ _).size
  have HOG : Hid (Own w3 (G + 1) v3 T) := ho3.less (by omega)
  obtain ⟨a3, c3, hv3⟩ := HO.out.reads.shape
  subst hv3
  have HB_w3 : Hid (Below w.heap.size w w3) := below_trans HB_w1.out hb HB_w1.out.size
  have A_w3 : Hid (BoxC w3 24 w.heap.size [.slice a zs.length cap, .int .i64 (k : Int)]) := A_w1.out.below hb
  have Z_w3 : Hid (BoxC w3 24 G [.slice none 0 0, .int .i64 0]) := Z_w1.out.below hb
  clear A_w1 Z_w1 HB_w1
  clear hb hb3 ho3 hs3 hGs HNW HWC
  have cA0 : w3.cell? ⟨w.heap.size, 0, none⟩ = some (.slice a zs.length cap) := (A_w3.out.cell 0).trans rfl
  have cA1 : w3.cell? ⟨w.heap.size, 1, none⟩ = some (.int .i64 (k : Int)) := (A_w3.out.cell 1).trans rfl
  have hbI : (200 : Int) < (T.length : Int) := by omega
  go_wp2_with (refine storeC rfl 24 _ _ rfl G rfl [.slice none 0 0, .int .i64 0] [.slice none 0 0, .int .i64 0] rfl Z_w3.out wide_line (fun v hv => by simp at hv; rcases hv with rfl | rfl <;> rfl) rfl ?_)
  intro w4 hz hg
  have HB_w4 : Hid (Below w.heap.size w w4) := HB_w3.out.grown hg HB_w3.out.size (fun j hj => by cases hj; exact (by have := HLG.out; omega))
  have A_w4 : Hid (BoxC w4 24 w.heap.size [.slice a zs.length cap, .int .i64 (k : Int)]) := A_w3.out.kept hg (fun e => by have := HLG.out; have := Option.some.inj e; omega)
  clear A_w3 Z_w3 HB_w3
  have Z_w4 : Hid (BoxC w4 24 G [.slice none 0 0, .int .i64 0]) := hz
  clear hz hg
  go_wp2_with (fail)
  (try simp only [Exit.inBlock, Exit.then])
  refine bodyPost_ret (ret_box rfl _ _ G [.slice none 0 0, .int .i64 0] _ rfl rfl Z_w4.out wide_line) rfl ?_
  exact ⟨HB_w4.out, _, rfl, own_nil _ _⟩

theorem typed_go (v : Value) (zs : List Int) (k : Nat) (mode key : Int) (w : World) (h : Reads w v zs) (hk : k ≤ zs.length) (hl : zs.length ≤ 200) :
    Calls Try.prog 29 #[.agg #[v, .int .i64 (k : Int)], .int .i64 mode, .int .i64 key] w fun e w' => LinePost (tpd zs k mode key) w e w' := by
  obtain ⟨a, cap, rfl⟩ := h.shape
  unfold tpd
  have hto : ovr zs.length k mode = if mode = 2 then min (k + 1) zs.length else k := rfl
  by_cases hb : 200 < (wit zs k (ovr zs.length k mode) [key]).length
  · rw [if_pos hb]
    by_cases hm : mode = 2
    · rw [if_pos hm] at hto
      by_cases hk2 : k < zs.length
      · exact typed_ovr_full a cap zs k mode key w h hk hl ⟨hm, hk2⟩ _ _ (by omega) rfl hb
      · exact typed_end_full a cap zs k mode key w h hk hl ⟨hm, by omega⟩ _ _ (by omega) rfl hb
    · rw [if_neg hm] at hto
      exact typed_ins_full a cap zs k mode key w h hk hl hm _ _ hto rfl hb
  · rw [if_neg hb]
    by_cases hm : mode = 2
    · rw [if_pos hm] at hto
      by_cases hk2 : k < zs.length
      · exact typed_ovr a cap zs k mode key w h hk hl ⟨hm, hk2⟩ _ _ (by omega) rfl (by omega)
      · exact typed_end a cap zs k mode key w h hk hl ⟨hm, by omega⟩ _ _ (by omega) rfl (by omega)
    · rw [if_neg hm] at hto
      exact typed_ins a cap zs k mode key w h hk hl hm _ _ hto rfl (by omega)
end Go.Proofs.Ytpgjaoemkadenab.Seek

/- The contract of edit.rubbed. -/
set_option linter.unusedVariables false
set_option linter.unusedSimpArgs false
set_option maxRecDepth 100000
namespace Go.Proofs.Ytpgjaoemkadenab.Seek
open Go.RowKit Plain

/-- A line that a call tells. -/
def LineOne (r : List Int × Int) (w : World) (e : Ending) (w' : World) : Prop := Below w.heap.size w w' ∧ ∃ tv, e = .returned (.agg #[tv, .int .i64 r.2]) ∧ Own w' w.heap.size tv r.1
theorem reads_nil (w : World) : Reads w (.slice none 0 0) [] := .inl ⟨_, _, rfl, rfl⟩


set_option maxHeartbeats 1000000 in
theorem rubbed_all (a : Option Addr) (cap : Nat) (zs : List Int) (k : Nat) (mode key : Int) (w : World) (h : Reads w (.slice a zs.length cap) zs) (hk0 : 0 < k) (hk : k ≤ zs.length) (hl : zs.length ≤ 200) (hm : key = 21) (T : List Int) (hT : T = wit zs 0 k []) :
    Calls Try.prog 31 #[.agg #[.slice a zs.length cap, .int .i64 (k : Int)], .int .i64 mode, .int .i64 key] w fun e w' => LineOne (T, 0) w e w' := by
  have HV : Hid (∀ wx, Below w.heap.size w wx → Reads wx (.slice a zs.length cap) zs) := fun wx hx => h.below hx
  have HC : Hid (chk zs.length (k : Int) = 0) := chk_right (by omega) hk
  have hw1 : IntKind.i64.wrap ((k : Int) - 1) = (k : Int) - 1 := by rw [IntKind.wrap_i64]; omega
  have HT : Hid (T = wit zs 0 k []) := hT
  clear hT
  clear h
  subst hm
  go_enter Try.func31, Try.ntmps31
  go_wp2_with (fail)
  obtain ⟨w1, hw_w1⟩ : ∃ w1, w1 = ((w.alloc (.cells #[.slice a zs.length cap, .int .i64 (k : Int)] 24)).alloc (.cells #[.slice none 0 0, .int .i64 0] 24)) := ⟨_, rfl⟩
  rw [← hw_w1]
  obtain ⟨hx0, hx1, hxb⟩ := start2 w 24 24 [.slice a zs.length cap, .int .i64 (k : Int)] [.slice none 0 0, .int .i64 0]
  rw [← hw_w1] at hx0 hx1 hxb
  have hsz_w1 : w.heap.size + 1 + 1 = w1.heap.size := by rw [hw_w1, size_alloc, size_alloc]
  try rw [hsz_w1]
  clear hsz_w1
  have HB_w1 : Hid (Below w.heap.size w w1) := hxb
  have A_w1 : Hid (BoxC w1 24 w.heap.size [.slice a zs.length cap, .int .i64 (k : Int)]) := hx0
  obtain ⟨G, hl_G⟩ : ∃ G, G = w.heap.size + 1 := ⟨_, rfl⟩
  rw [← hl_G] at hx1
  have Z_w1 : Hid (BoxC w1 24 G [.slice none 0 0, .int .i64 0]) := hx1
  have HLG : Hid (w.heap.size ≤ G ∧ w.heap.size < G) := by show _ ∧ _; omega
  clear hx0 hx1 hxb
  try rw [← hl_G]
  clear hw_w1
  clear hl_G
  have HWC : Hid (Calls Try.prog 45 #[.slice a zs.length cap, .int .i64 0, .int .i64 (k : Int), .slice none 0 0] w1 fun e w' => ConcatPost T w1 e w') := by
    have q := with_go (.slice a zs.length cap) (.slice none 0 0) zs [] 0 k w1 (HV.out _ HB_w1.out) (reads_nil _) (by omega) hk (by omega) (by show 0 ≤ 4096; omega)
    rw [← HT.out] at q
    exact q
  refine HWC.out.mono ?_
  rintro e w3 ⟨hb, v3, rfl, ho3⟩
  have HO : Hid (Own w3 w.heap.size v3 T) := ho3.less HB_w1.out.size
  have hGs : G < w1.heap.size := Z_w1.out.lt
  have HOG : Hid (Own w3 (G + 1) v3 T) := ho3.less (by omega)
  obtain ⟨a3, c3, hv3⟩ := HO.out.reads.shape
  subst hv3
  have HB_w3 : Hid (Below w.heap.size w w3) := below_trans HB_w1.out hb HB_w1.out.size
  have A_w3 : Hid (BoxC w3 24 w.heap.size [.slice a zs.length cap, .int .i64 (k : Int)]) := A_w1.out.below hb
  have Z_w3 : Hid (BoxC w3 24 G [.slice none 0 0, .int .i64 0]) := Z_w1.out.below hb
  clear A_w1 Z_w1 HB_w1
  clear hb ho3 hGs HWC HO
  go_wp2_with (refine storeC rfl 24 _ _ rfl G rfl [.slice none 0 0, .int .i64 0] [.slice a3 T.length c3, .int .i64 0] rfl Z_w3.out wide_line (fun v hv => by simp at hv; rcases hv with rfl | rfl <;> rfl) rfl ?_)
  intro w4 hz hg
  have HB_w4 : Hid (Below w.heap.size w w4) := HB_w3.out.grown hg HB_w3.out.size (fun j hj => by cases hj; exact (by have := HLG.out; omega))
  have A_w4 : Hid (BoxC w4 24 w.heap.size [.slice a zs.length cap, .int .i64 (k : Int)]) := A_w3.out.kept hg (fun e => by have := HLG.out; have := Option.some.inj e; omega)
  clear A_w3 Z_w3 HB_w3
  have Z_w4 : Hid (BoxC w4 24 G [.slice a3 T.length c3, .int .i64 0]) := hz
  have HOF : Hid (Own w4 w.heap.size (.slice a3 T.length c3) T) := (HOG.out.past hg (Nat.lt_succ_self _)).less (by have := HLG.out; omega)
  clear hz hg
  go_wp2_with (fail)
  have HOw : Hid (Own w4 w.heap.size (.slice a3 T.length c3) T) := HOF.out
  (try simp only [Exit.inBlock, Exit.then])
  refine bodyPost_ret (ret_box1 rfl _ _ G [.slice a3 T.length c3, .int .i64 0] rfl Z_w4.out wide_line) rfl ?_
  exact ⟨HB_w4.out, _, rfl, HOw.out⟩

set_option maxHeartbeats 1000000 in
theorem rubbed_word (a : Option Addr) (cap : Nat) (zs : List Int) (k : Nat) (mode key : Int) (w : World) (h : Reads w (.slice a zs.length cap) zs) (hk0 : 0 < k) (hk : k ≤ zs.length) (hl : zs.length ≤ 200) (hm : key = 23) (T : List Int) (F : Nat) (hF : back zs (k : Int) false = (F : Int)) (hF2 : F ≤ k) (hT : T = wit zs F k []) :
    Calls Try.prog 31 #[.agg #[.slice a zs.length cap, .int .i64 (k : Int)], .int .i64 mode, .int .i64 key] w fun e w' => LineOne (T, (F : Int)) w e w' := by
  have HV : Hid (∀ wx, Below w.heap.size w wx → Reads wx (.slice a zs.length cap) zs) := fun wx hx => h.below hx
  have HC : Hid (chk zs.length (k : Int) = 0) := chk_right (by omega) hk
  have hw1 : IntKind.i64.wrap ((k : Int) - 1) = (k : Int) - 1 := by rw [IntKind.wrap_i64]; omega
  have HT : Hid (T = wit zs F k []) := hT
  clear hT
  clear h
  have HF : Hid (back zs (k : Int) false = (F : Int)) := hF
  clear hF
  subst hm
  go_enter Try.func31, Try.ntmps31
  go_wp2_with (fail)
  obtain ⟨w1, hw_w1⟩ : ∃ w1, w1 = ((w.alloc (.cells #[.slice a zs.length cap, .int .i64 (k : Int)] 24)).alloc (.cells #[.slice none 0 0, .int .i64 0] 24)) := ⟨_, rfl⟩
  rw [← hw_w1]
  obtain ⟨hx0, hx1, hxb⟩ := start2 w 24 24 [.slice a zs.length cap, .int .i64 (k : Int)] [.slice none 0 0, .int .i64 0]
  rw [← hw_w1] at hx0 hx1 hxb
  have hsz_w1 : w.heap.size + 1 + 1 = w1.heap.size := by rw [hw_w1, size_alloc, size_alloc]
  try rw [hsz_w1]
  clear hsz_w1
  have HB_w1 : Hid (Below w.heap.size w w1) := hxb
  have A_w1 : Hid (BoxC w1 24 w.heap.size [.slice a zs.length cap, .int .i64 (k : Int)]) := hx0
  obtain ⟨G, hl_G⟩ : ∃ G, G = w.heap.size + 1 := ⟨_, rfl⟩
  rw [← hl_G] at hx1
  have Z_w1 : Hid (BoxC w1 24 G [.slice none 0 0, .int .i64 0]) := hx1
  have HLG : Hid (w.heap.size ≤ G ∧ w.heap.size < G) := by show _ ∧ _; omega
  clear hx0 hx1 hxb
  try rw [← hl_G]
  clear hw_w1
  clear hl_G
  refine (back_go (.slice a zs.length cap) zs (k : Int) false _ (HV.out _ HB_w1.out)).mono ?_
  rintro e wz ⟨rfl, hwz⟩
  rw [hwz, HF.out, HC.out]
  clear hwz wz
  have cA0 : w1.cell? ⟨w.heap.size, 0, none⟩ = some (.slice a zs.length cap) := (A_w1.out.cell 0).trans rfl
  have cA1 : w1.cell? ⟨w.heap.size, 1, none⟩ = some (.int .i64 (k : Int)) := (A_w1.out.cell 1).trans rfl
  go_wp2_with (fail)
  clear cA0 cA1
  have HWC : Hid (Calls Try.prog 45 #[.slice a zs.length cap, .int .i64 (F : Int), .int .i64 (k : Int), .slice none 0 0] w1 fun e w' => ConcatPost T w1 e w') := by
    have q := with_go (.slice a zs.length cap) (.slice none 0 0) zs [] F k w1 (HV.out _ HB_w1.out) (reads_nil _) (by omega) hk (by omega) (by show 0 ≤ 4096; omega)
    rw [← HT.out] at q
    exact q
  refine HWC.out.mono ?_
  rintro e w3 ⟨hb, v3, rfl, ho3⟩
  have HO : Hid (Own w3 w.heap.size v3 T) := ho3.less HB_w1.out.size
  have hGs : G < w1.heap.size := Z_w1.out.lt
  have HOG : Hid (Own w3 (G + 1) v3 T) := ho3.less (by omega)
  obtain ⟨a3, c3, hv3⟩ := HO.out.reads.shape
  subst hv3
  have HB_w3 : Hid (Below w.heap.size w w3) := below_trans HB_w1.out hb HB_w1.out.size
  have A_w3 : Hid (BoxC w3 24 w.heap.size [.slice a zs.length cap, .int .i64 (k : Int)]) := A_w1.out.below hb
  have Z_w3 : Hid (BoxC w3 24 G [.slice none 0 0, .int .i64 0]) := Z_w1.out.below hb
  clear A_w1 Z_w1 HB_w1
  clear hb ho3 hGs HWC HO
  go_wp2_with (refine storeC rfl 24 _ _ rfl G rfl [.slice none 0 0, .int .i64 0] [.slice a3 T.length c3, .int .i64 (F : Int)] rfl Z_w3.out wide_line (fun v hv => by simp at hv; rcases hv with rfl | rfl <;> rfl) rfl ?_)
  intro w4 hz hg
  have HB_w4 : Hid (Below w.heap.size w w4) := HB_w3.out.grown hg HB_w3.out.size (fun j hj => by cases hj; exact (by have := HLG.out; omega))
  have A_w4 : Hid (BoxC w4 24 w.heap.size [.slice a zs.length cap, .int .i64 (k : Int)]) := A_w3.out.kept hg (fun e => by have := HLG.out; have := Option.some.inj e; omega)
  clear A_w3 Z_w3 HB_w3
  have Z_w4 : Hid (BoxC w4 24 G [.slice a3 T.length c3, .int .i64 (F : Int)]) := hz
  have HOF : Hid (Own w4 w.heap.size (.slice a3 T.length c3) T) := (HOG.out.past hg (Nat.lt_succ_self _)).less (by have := HLG.out; omega)
  clear hz hg
  go_wp2_with (fail)
  have HOw : Hid (Own w4 w.heap.size (.slice a3 T.length c3) T) := HOF.out
  (try simp only [Exit.inBlock, Exit.then])
  refine bodyPost_ret (ret_box1 rfl _ _ G [.slice a3 T.length c3, .int .i64 (F : Int)] rfl Z_w4.out wide_line) rfl ?_
  exact ⟨HB_w4.out, _, rfl, HOw.out⟩

set_option maxHeartbeats 1000000 in
theorem rubbed_stay (a : Option Addr) (cap : Nat) (zs : List Int) (k : Nat) (mode key : Int) (w : World) (h : Reads w (.slice a zs.length cap) zs) (hk0 : 0 < k) (hk : k ≤ zs.length) (hl : zs.length ≤ 200) (hm : key ≠ 21 ∧ key ≠ 23 ∧ mode = 2) :
    Calls Try.prog 31 #[.agg #[.slice a zs.length cap, .int .i64 (k : Int)], .int .i64 mode, .int .i64 key] w fun e w' => LineOne (zs, ((k : Int) - 1)) w e w' := by
  have HV : Hid (∀ wx, Below w.heap.size w wx → Reads wx (.slice a zs.length cap) zs) := fun wx hx => h.below hx
  have HC : Hid (chk zs.length (k : Int) = 0) := chk_right (by omega) hk
  have hw1 : IntKind.i64.wrap ((k : Int) - 1) = (k : Int) - 1 := by rw [IntKind.wrap_i64]; omega
  clear h
  obtain ⟨hm1, hm2, hm3⟩ := hm
  have hb1 : (key == 21) = false := by simpa using hm1
  have hb2 : (key == 23) = false := by simpa using hm2
  subst hm3
  go_enter Try.func31, Try.ntmps31
  go_wp2_with (fail)
  obtain ⟨w1, hw_w1⟩ : ∃ w1, w1 = ((w.alloc (.cells #[.slice a zs.length cap, .int .i64 (k : Int)] 24)).alloc (.cells #[.slice none 0 0, .int .i64 0] 24)) := ⟨_, rfl⟩
  rw [← hw_w1]
  obtain ⟨hx0, hx1, hxb⟩ := start2 w 24 24 [.slice a zs.length cap, .int .i64 (k : Int)] [.slice none 0 0, .int .i64 0]
  rw [← hw_w1] at hx0 hx1 hxb
  have hsz_w1 : w.heap.size + 1 + 1 = w1.heap.size := by rw [hw_w1, size_alloc, size_alloc]
  try rw [hsz_w1]
  clear hsz_w1
  have HB_w1 : Hid (Below w.heap.size w w1) := hxb
  have A_w1 : Hid (BoxC w1 24 w.heap.size [.slice a zs.length cap, .int .i64 (k : Int)]) := hx0
  obtain ⟨G, hl_G⟩ : ∃ G, G = w.heap.size + 1 := ⟨_, rfl⟩
  rw [← hl_G] at hx1
  have Z_w1 : Hid (BoxC w1 24 G [.slice none 0 0, .int .i64 0]) := hx1
  have HLG : Hid (w.heap.size ≤ G ∧ w.heap.size < G) := by show _ ∧ _; omega
  clear hx0 hx1 hxb
  try rw [← hl_G]
  clear hw_w1
  clear hl_G
  have HWC : Hid (Calls Try.prog 44 #[.slice a zs.length cap] w1 fun e w' => ConcatPost zs w1 e w') := copied_go _ zs _ (HV.out _ HB_w1.out) (by unfold Mild; omega)
  refine HWC.out.mono ?_
  rintro e w3 ⟨hb, v3, rfl, ho3⟩
  have HO : Hid (Own w3 w.heap.size v3 zs) := ho3.less HB_w1.out.size
  have hGs : G < w1.heap.size := Z_w1.out.lt
  have HOG : Hid (Own w3 (G + 1) v3 zs) := ho3.less (by omega)
  obtain ⟨a3, c3, hv3⟩ := HO.out.reads.shape
  subst hv3
  have HB_w3 : Hid (Below w.heap.size w w3) := below_trans HB_w1.out hb HB_w1.out.size
  have A_w3 : Hid (BoxC w3 24 w.heap.size [.slice a zs.length cap, .int .i64 (k : Int)]) := A_w1.out.below hb
  have Z_w3 : Hid (BoxC w3 24 G [.slice none 0 0, .int .i64 0]) := Z_w1.out.below hb
  clear A_w1 Z_w1 HB_w1
  clear hb ho3 hGs HWC HO
  go_wp2_with (refine storeC rfl 24 _ _ rfl G rfl [.slice none 0 0, .int .i64 0] [.slice a3 zs.length c3, .int .i64 ((k : Int) - 1)] rfl Z_w3.out wide_line (fun v hv => by simp at hv; rcases hv with rfl | rfl <;> rfl) rfl ?_)
  intro w4 hz hg
  have HB_w4 : Hid (Below w.heap.size w w4) := HB_w3.out.grown hg HB_w3.out.size (fun j hj => by cases hj; exact (by have := HLG.out; omega))
  have A_w4 : Hid (BoxC w4 24 w.heap.size [.slice a zs.length cap, .int .i64 (k : Int)]) := A_w3.out.kept hg (fun e => by have := HLG.out; have := Option.some.inj e; omega)
  clear A_w3 Z_w3 HB_w3
  have Z_w4 : Hid (BoxC w4 24 G [.slice a3 zs.length c3, .int .i64 ((k : Int) - 1)]) := hz
  have HOF : Hid (Own w4 w.heap.size (.slice a3 zs.length c3) zs) := (HOG.out.past hg (Nat.lt_succ_self _)).less (by have := HLG.out; omega)
  clear hz hg
  go_wp2_with (fail)
  have HOw : Hid (Own w4 w.heap.size (.slice a3 zs.length c3) zs) := HOF.out
  (try simp only [Exit.inBlock, Exit.then])
  refine bodyPost_ret (ret_box1 rfl _ _ G [.slice a3 zs.length c3, .int .i64 ((k : Int) - 1)] rfl Z_w4.out wide_line) rfl ?_
  exact ⟨HB_w4.out, _, rfl, HOw.out⟩

set_option maxHeartbeats 1000000 in
theorem rubbed_one (a : Option Addr) (cap : Nat) (zs : List Int) (k : Nat) (mode key : Int) (w : World) (h : Reads w (.slice a zs.length cap) zs) (hk0 : 0 < k) (hk : k ≤ zs.length) (hl : zs.length ≤ 200) (hm : key ≠ 21 ∧ key ≠ 23 ∧ mode ≠ 2) (T : List Int) (hT : T = wit zs (k - 1) k []) :
    Calls Try.prog 31 #[.agg #[.slice a zs.length cap, .int .i64 (k : Int)], .int .i64 mode, .int .i64 key] w fun e w' => LineOne (T, ((k : Int) - 1)) w e w' := by
  have HV : Hid (∀ wx, Below w.heap.size w wx → Reads wx (.slice a zs.length cap) zs) := fun wx hx => h.below hx
  have HC : Hid (chk zs.length (k : Int) = 0) := chk_right (by omega) hk
  have hw1 : IntKind.i64.wrap ((k : Int) - 1) = (k : Int) - 1 := by rw [IntKind.wrap_i64]; omega
  have HT : Hid (T = wit zs (k - 1) k []) := hT
  clear hT
  clear h
  obtain ⟨hm1, hm2, hm3⟩ := hm
  have hb1 : (key == 21) = false := by simpa using hm1
  have hb2 : (key == 23) = false := by simpa using hm2
  have hb3 : (mode == 2) = false := by simpa using hm3
  go_enter Try.func31, Try.ntmps31
  go_wp2_with (fail)
  obtain ⟨w1, hw_w1⟩ : ∃ w1, w1 = ((w.alloc (.cells #[.slice a zs.length cap, .int .i64 (k : Int)] 24)).alloc (.cells #[.slice none 0 0, .int .i64 0] 24)) := ⟨_, rfl⟩
  rw [← hw_w1]
  obtain ⟨hx0, hx1, hxb⟩ := start2 w 24 24 [.slice a zs.length cap, .int .i64 (k : Int)] [.slice none 0 0, .int .i64 0]
  rw [← hw_w1] at hx0 hx1 hxb
  have hsz_w1 : w.heap.size + 1 + 1 = w1.heap.size := by rw [hw_w1, size_alloc, size_alloc]
  try rw [hsz_w1]
  clear hsz_w1
  have HB_w1 : Hid (Below w.heap.size w w1) := hxb
  have A_w1 : Hid (BoxC w1 24 w.heap.size [.slice a zs.length cap, .int .i64 (k : Int)]) := hx0
  obtain ⟨G, hl_G⟩ : ∃ G, G = w.heap.size + 1 := ⟨_, rfl⟩
  rw [← hl_G] at hx1
  have Z_w1 : Hid (BoxC w1 24 G [.slice none 0 0, .int .i64 0]) := hx1
  have HLG : Hid (w.heap.size ≤ G ∧ w.heap.size < G) := by show _ ∧ _; omega
  clear hx0 hx1 hxb
  try rw [← hl_G]
  clear hw_w1
  clear hl_G
  have HWC : Hid (Calls Try.prog 45 #[.slice a zs.length cap, .int .i64 ((k : Int) - 1), .int .i64 (k : Int), .slice none 0 0] w1 fun e w' => ConcatPost T w1 e w') := by
    have q := with_go (.slice a zs.length cap) (.slice none 0 0) zs [] (k - 1) k w1 (HV.out _ HB_w1.out) (reads_nil _) (by omega) hk (by omega) (by show 0 ≤ 4096; omega)
    rw [← HT.out] at q
    rw [show ((k - 1 : Nat) : Int) = (k : Int) - 1 by omega] at q
    exact q
  refine HWC.out.mono ?_
  rintro e w3 ⟨hb, v3, rfl, ho3⟩
  have HO : Hid (Own w3 w.heap.size v3 T) := ho3.less HB_w1.out.size
  have hGs : G < w1.heap.size := Z_w1.out.lt
  have HOG : Hid (Own w3 (G + 1) v3 T) := ho3.less (by omega)
  obtain ⟨a3, c3, hv3⟩ := HO.out.reads.shape
  subst hv3
  have HB_w3 : Hid (Below w.heap.size w w3) := below_trans HB_w1.out hb HB_w1.out.size
  have A_w3 : Hid (BoxC w3 24 w.heap.size [.slice a zs.length cap, .int .i64 (k : Int)]) := A_w1.out.below hb
  have Z_w3 : Hid (BoxC w3 24 G [.slice none 0 0, .int .i64 0]) := Z_w1.out.below hb
  clear A_w1 Z_w1 HB_w1
  clear hb ho3 hGs HWC HO
  go_wp2_with (refine storeC rfl 24 _ _ rfl G rfl [.slice none 0 0, .int .i64 0] [.slice a3 T.length c3, .int .i64 ((k : Int) - 1)] rfl Z_w3.out wide_line (fun v hv => by simp at hv; rcases hv with rfl | rfl <;> rfl) rfl ?_)
  intro w4 hz hg
  have HB_w4 : Hid (Below w.heap.size w w4) := HB_w3.out.grown hg HB_w3.out.size (fun j hj => by cases hj; exact (by have := HLG.out; omega))
  have A_w4 : Hid (BoxC w4 24 w.heap.size [.slice a zs.length cap, .int .i64 (k : Int)]) := A_w3.out.kept hg (fun e => by have := HLG.out; have := Option.some.inj e; omega)
  clear A_w3 Z_w3 HB_w3
  have Z_w4 : Hid (BoxC w4 24 G [.slice a3 T.length c3, .int .i64 ((k : Int) - 1)]) := hz
  have HOF : Hid (Own w4 w.heap.size (.slice a3 T.length c3) T) := (HOG.out.past hg (Nat.lt_succ_self _)).less (by have := HLG.out; omega)
  clear hz hg
  go_wp2_with (fail)
  have HOw : Hid (Own w4 w.heap.size (.slice a3 T.length c3) T) := HOF.out
  (try simp only [Exit.inBlock, Exit.then])
  refine bodyPost_ret (ret_box1 rfl _ _ G [.slice a3 T.length c3, .int .i64 ((k : Int) - 1)] rfl Z_w4.out wide_line) rfl ?_
  exact ⟨HB_w4.out, _, rfl, HOw.out⟩

theorem rubbed_go (v : Value) (zs : List Int) (k : Nat) (mode key : Int) (w : World) (h : Reads w v zs) (hk0 : 0 < k) (hk : k ≤ zs.length) (hl : zs.length ≤ 200) :
    Calls Try.prog 31 #[.agg #[v, .int .i64 (k : Int)], .int .i64 mode, .int .i64 key] w fun e w' => LineOne (rbd zs k mode key) w e w' := by
  obtain ⟨a, cap, rfl⟩ := h.shape
  unfold rbd
  by_cases h1 : key = 21
  · rw [if_neg (by omega), show rbf zs k key = 0 from if_pos h1]
    exact rubbed_all a cap zs k mode key w h hk0 hk hl h1 _ rfl
  · by_cases h2 : key = 23
    · obtain ⟨e1, e2⟩ := back_low zs k hk (by omega) false
      rw [if_neg (by omega), show rbf zs k key = (back zs (k : Int) false).toNat by unfold rbf; rw [if_neg h1, if_pos h2]]
      exact rubbed_word a cap zs k mode key w h hk0 hk hl h2 _ _ e1 e2 rfl
    · by_cases h3 : mode = 2
      · rw [if_pos ⟨h1, h2, h3⟩]
        exact rubbed_stay a cap zs k mode key w h hk0 hk hl ⟨h1, h2, h3⟩
      · rw [if_neg (by omega), show rbf zs k key = k - 1 by unfold rbf; rw [if_neg h1, if_neg h2]]
        have := rubbed_one a cap zs k mode key w h hk0 hk hl ⟨h1, h2, h3⟩ _ rfl
        rw [show (((k - 1 : Nat) : Nat) : Int) = (k : Int) - 1 by omega]
        exact this
end Go.Proofs.Ytpgjaoemkadenab.Seek

/- The document's SameLine. -/
set_option linter.unusedVariables false
set_option linter.unusedSimpArgs false
set_option maxRecDepth 100000
namespace Go.Proofs.Ytpgjaoemkadenab.Seek
open Go.RowKit Plain
set_option maxHeartbeats 400000 in
theorem sameLine_yes (v1 v2 : Value) (xs : List Int) (k : Int) (w : World) (h1 : Reads w v1 xs) (h2 : Reads w v2 xs) :
    Calls Try.prog 12 #[.agg #[v1, .int .i64 k], .agg #[v2, .int .i64 k]] w fun e w' => e = .returned (.bool true) ∧ Below w.heap.size w w' := by
  have hm1 : xs.length ≤ maxLen := by rcases h1 with ⟨_, _, _, rfl⟩ | ⟨_, _, cap, _, g1, g2, _⟩ <;> first | decide | omega
  obtain ⟨a1, c1, rfl⟩ := h1.shape
  obtain ⟨a2, c2, rfl⟩ := h2.shape
  have H1 : Hid (∀ wx, Below w.heap.size w wx → Reads wx (.slice a1 xs.length c1) xs) := fun wx hx => h1.below hx
  have H2 : Hid (∀ wx, Below w.heap.size w wx → Reads wx (.slice a2 xs.length c2) xs) := fun wx hx => h2.below hx
  have HM : Hid (xs.length ≤ maxLen) := hm1
  clear h1 h2 hm1
  go_enter Try.func12, Try.ntmps12
  go_wp2_with fail
  have HB : Hid (Below w.heap.size w ((w.alloc (.cells #[.slice a1 xs.length c1, .int .i64 k] 24)).alloc (.cells #[.slice a2 xs.length c2, .int .i64 k] 24))) := (box_below _ _).alloc (by rw [size_alloc]; omega) _
  refine (equal_any _ _ xs xs _ (H1.out _ HB.out) (H2.out _ HB.out) HM.out HM.out).mono ?_
  rw [beq_self_eq_true]
  rintro e w1 ⟨rfl, q, hq⟩
  have HB1 : Hid (Below w.heap.size w w1) := by rw [hq]; exact below_drewN HB.out q
  clear hq HB
  go_wp2_with fail
  go_ret
  exact ⟨rfl, HB1.out⟩


theorem reads_cut2 {w : World} {a : Option Addr} {zs : List Int} {cap : Nat} (h : Reads w (.slice a zs.length cap) zs) (f t : Nat) (h1 : f ≤ t) (h2 : t ≤ zs.length) :
    ∃ A, (if cap = t then a else Option.map (fun x => x.add t) a) = A ∧ Reads w (.slice a f cap) (zs.take f) ∧ Reads w (.slice A (zs.length - t) (cap - t)) (zs.drop t) ∧ zs.length ≤ cap := by
  obtain ⟨x, y, z⟩ := reads_cut h f t h1 h2
  exact ⟨_, rfl, x, y, z⟩
end Go.Proofs.Ytpgjaoemkadenab.Seek
