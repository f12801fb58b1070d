/- The walk of MotionTimes. -/
import Derived.Test.YtobcohgfpbmahaaTimes
import Derived.Test.YtobcohgfpbmahaaPairWalk
set_option linter.unusedVariables false
set_option linter.unusedSimpArgs false
namespace Go.Proofs.Ytobcohgfpbmahaa.Seek
open Go.RowKit Plain

/-- A move's own block. -/
def Box3 (w : World) (b : Nat) (x y z : Int) : Prop := w.heap[b]? = some (.cells #[.int .i64 x, .int .i64 y, .int .i64 z] 24 (0, 0))
theorem Box3.lt {w : World} {b : Nat} {x y z : Int} (h : Box3 w b x y z) : b < w.heap.size := (Array.getElem?_eq_some_iff.1 h).1
theorem Box3.cell0 {w : World} {b : Nat} {x y z : Int} (h : Box3 w b x y z) : w.cell? ⟨b, 0, none⟩ = some (.int .i64 x) := by simp [World.cell?, show w.heap[b]? = _ from h]
theorem Box3.cell1 {w : World} {b : Nat} {x y z : Int} (h : Box3 w b x y z) : w.cell? ⟨b, 1, none⟩ = some (.int .i64 y) := by simp [World.cell?, show w.heap[b]? = _ from h]
theorem Box3.cell2 {w : World} {b : Nat} {x y z : Int} (h : Box3 w b x y z) : w.cell? ⟨b, 2, none⟩ = some (.int .i64 z) := by simp [World.cell?, show w.heap[b]? = _ from h]
theorem Box3.frozen1 {w : World} {b : Nat} {x y z : Int} (h : Box3 w b x y z) : w.frozen? ⟨b, 1, none⟩ = false := by simp [World.frozen?, show w.heap[b]? = _ from h]
theorem Box3.new (w : World) (x y z : Int) : Box3 (w.alloc (.cells #[.int .i64 x, .int .i64 y, .int .i64 z] 24)) w.heap.size x y z := by show (w.heap.push _)[w.heap.size]? = _; simp [Array.getElem?_push]
theorem Box3.below {w w' : World} {b : Nat} {x y z : Int} (h : Box3 w b x y z) (hb : Below w.heap.size w w') : Box3 w' b x y z := (hb.block b h.lt).trans h
theorem Box3.set1 {w : World} {b : Nat} {x y z : Int} (y' : Int) (h : Box3 w b x y z) : Box3 (w.setCell ⟨b, 1, none⟩ (.int .i64 y')) b x y' z := by
  obtain ⟨hlt, hk⟩ := Array.getElem?_eq_some_iff.1 h
  show (w.heap.modify b _)[b]? = _
  rw [Array.getElem?_eq_getElem (by rw [Array.size_modify]; exact hlt), Array.getElem_modify_self, hk]
  rfl
theorem goes_abc : goes (codes ⟨#[97, 98, 99]⟩) 0 2 108 0 false = (2, false, 0) := by decide +kernel

/-- What a round of the loop finds. -/
def TimesRound (w wr : World) (mb : Nat) (key : Int) : Prop := Below w.heap.size w wr ∧ Box3 wr mb key 1 97

set_option maxHeartbeats 4000000 in
theorem times_104 (v : Value) (zs : List Int) (k n : Int) (op : Bool) (w : World) (hp : Reads w v zs) (hr : zs.length * 8 ≤ 140737488351232) :
    Calls Try.prog 4 #[v, .int .i64 k, .int .i64 104, .int .i64 n, .bool op] w fun e w' => e = .returned (.bool true) ∧ Below w.heap.size w w' := by
  obtain ⟨a, cap, rfl⟩ := hp.shape
  have Hp : Hid (Reads w (.slice a zs.length cap) zs) := hp
  clear hp hr
  go_enter Try.func4, Try.ntmps4
  go_wp2_with fail
  refine (of_any _ _ (by decide)).mono ?_
  rintro e w1 ⟨hb1, u, rfl, hown⟩
  have Hu : Hid (Reads w1 u (codes ⟨#[97, 98, 99]⟩)) := owned_reads hown
  clear hown
  go_wp2_with fail
  refine (go_go u _ 0 2 108 0 false w1 Hu.out).mono ?_
  rw [goes_abc]
  rintro e w2 ⟨rfl, hb2⟩
  have HB2 : Hid (Below w.heap.size w w2) := below_trans hb1 hb2 hb1.size
  clear Hu hb2 hb1
  go_wp2_with fail
  have HB3 : Hid (Below w.heap.size w (w2.alloc (.cells #[.int .i64 104, .int .i64 n, .int .i64 97] 24))) := HB2.out.alloc HB2.out.size _
  have HM3 : Hid (Box3 (w2.alloc (.cells #[.int .i64 104, .int .i64 n, .int .i64 97] 24)) w2.heap.size 104 n 97) := Box3.new _ _ _ _
  have Hsz : Hid (w.heap.size ≤ w2.heap.size) := HB2.out.size
  generalize w2.alloc (.cells #[.int .i64 104, .int .i64 n, .int .i64 97] 24) = w3 at *
  generalize w2.heap.size = mb at *
  clear HB2
  obtain ⟨G, hG⟩ : ∃ G, G = goes zs k n 104 97 op := ⟨_, rfl⟩
  have HG : Hid (G = goes zs k n 104 97 op) := hG
  refine (go_go _ zs k n 104 97 op w3 (Hp.out.below HB3.out)).mono ?_
  rw [← hG]
  clear hG
  rintro e w4 ⟨rfl, hb4⟩
  have HB4 : Hid (Below w.heap.size w w4) := below_trans HB3.out hb4 HB3.out.size
  have HM4 : Hid (Box3 w4 mb 104 n 97) := HM3.out.below hb4
  clear HB3 HM3 hb4
  obtain ⟨t, y, z⟩ := G
  by_cases h0 : z = 0
  · subst h0
    by_cases hn : n < 1
    · clear HG
      go_wp2_with fail
      go_ret
      exact ⟨rfl, HB4.out⟩
    · have hn1 : 1 ≤ n := by omega
      clear hn
      obtain ⟨j, N, rfl, rfl, hN1, hN9, hj, hl, hkey, hL2, hL1⟩ := goes_many HG.out.symm hn1
      obtain ⟨Inv, I0, I1, I2⟩ := steps (zs := zs) (key := 104) (by decide) hl hj hN1 hL2 hL1
      have HI0 : Hid (Inv 0 (j : Int)) := I0
      have HI1 : Hid (∀ i p, i < N → Inv i p → (104 ≠ (102 : Int) ∧ 104 ≠ (70 : Int) ∧ ((goes zs p 1 104 97 op).2.2 ≠ 0 ∨ (zs.length : Int) ≤ (goes zs p 1 104 97 op).1)) ∨
        ((goes zs p 1 104 97 op).2.2 = 0 ∧ (goes zs p 1 104 97 op).1 < (zs.length : Int) ∧ Inv (i + 1) (goes zs p 1 104 97 op).1)) := I1
      have HI2 : Hid (∀ p, Inv N p → p = t) := I2
      have hf := HM4.out.frozen1
      have hc1 := HM4.out.cell1
      have HR : Hid (TimesRound w (w4.setCell ⟨mb, 1, none⟩ (.int .i64 1)) mb 104) := ⟨HB4.out.setCell Hsz.out _, HM4.out.set1 1⟩
      clear HG I0 I1 I2 hL1 hL2 hkey HM4 HB4
      go_wp2_with fail
      clear hf hc1
      go_loopw [18, 66] (fun u18 u66 wr => ∃ (i : Nat) (x : Int), i ≤ N ∧ u18 = .int .i64 x ∧ u66 = .int .i64 (i : Int) ∧ Hid (Inv i x) ∧ Hid (TimesRound w wr mb 104)) (fun _ u66 _ => ((N : Int) - intOf u66).toNat)
      case atStart => exact ⟨0, (j : Int), by omega, rfl, rfl, HI0.out, HR.out⟩
      case round =>
        obtain ⟨i, x, hi, rfl, rfl, Hi, Hr⟩ := hrel
        clear HR
        obtain ⟨hBr, hMr⟩ := Hr.out
        have HBr : Hid (Below w.heap.size w wr) := hBr
        have HMr : Hid (Box3 wr mb 104 1 97) := hMr
        clear hBr hMr Hr
        by_cases hlt : i < N
        · have hI : (i : Int) < (N : Int) := by omega
          have HS := HI1.out i x hlt Hi.out
          obtain ⟨S, hS⟩ : ∃ S, S = goes zs x 1 104 97 op := ⟨_, rfl⟩
          rw [← hS] at HS
          have HSS : Hid (S = goes zs x 1 104 97 op) := hS
          have HS2 : Hid _ := HS
          have c0 := HMr.out.cell0
          have c1 := HMr.out.cell1
          have c2 := HMr.out.cell2
          clear hS HS
          go_wp2_with fail
          refine (go_go _ zs x 1 104 97 op wr (Hp.out.below HBr.out)).mono ?_
          rw [← HSS.out]
          rintro e w5 ⟨rfl, hb5⟩
          have HR5 : Hid (TimesRound w w5 mb 104) := ⟨below_trans HBr.out hb5 HBr.out.size, HMr.out.below hb5⟩
          clear c0 c1 c2 hb5 HSS HBr HMr
          obtain ⟨s1, s2, s3⟩ := S
          rcases HS2.out with ⟨d1, d2, d3 | d3⟩ | ⟨d1, d2, d3⟩
          · have hzb : (s3 != 0) = true := by simpa using d3
            clear d3 HS2 d1 d2
            go_wp2_with fail
            go_ret
            exact ⟨rfl, HR5.out.1⟩
          · have d4 : (zs.length : Int) ≤ s1 := d3
            by_cases d5 : s3 = 0
            · subst d5
              clear d3 HS2 d1 d2
              go_wp2_with fail
              go_ret
              exact ⟨rfl, HR5.out.1⟩
            · have hzb : (s3 != 0) = true := by simpa using d5
              clear d3 HS2 d1 d2 d5 d4
              go_wp2_with fail
              go_ret
              exact ⟨rfl, HR5.out.1⟩
          · have d4 : s3 = 0 := d1
            have d5 : s1 < (zs.length : Int) := d2
            have d6 : Hid (Inv (i + 1) s1) := d3
            subst d4
            clear d1 d2 d3 HS2
            go_wp2_with fail
            go_roundw
            case rel => exact ⟨i + 1, s1, by omega, rfl, by go_num, d6.out, HR5.out⟩
            case measure => simp [intOf]; omega
        · have hI : (N : Int) ≤ (i : Int) := by omega
          obtain rfl : i = N := by omega
          obtain rfl : x = t := HI2.out x Hi.out
          clear hlt
          go_wp2_with fail
          all_goals (
            go_ret
            exact ⟨rfl, HBr.out⟩)
  · have hzb : (z != 0) = true := by simpa using h0
    clear h0 HG
    go_wp2_with fail
    go_ret
    exact ⟨rfl, HB4.out⟩

set_option maxHeartbeats 4000000 in
theorem times_108 (v : Value) (zs : List Int) (k n : Int) (op : Bool) (w : World) (hp : Reads w v zs) (hr : zs.length * 8 ≤ 140737488351232) :
    Calls Try.prog 4 #[v, .int .i64 k, .int .i64 108, .int .i64 n, .bool op] w fun e w' => e = .returned (.bool true) ∧ Below w.heap.size w w' := by
  obtain ⟨a, cap, rfl⟩ := hp.shape
  have Hp : Hid (Reads w (.slice a zs.length cap) zs) := hp
  clear hp hr
  go_enter Try.func4, Try.ntmps4
  go_wp2_with fail
  refine (of_any _ _ (by decide)).mono ?_
  rintro e w1 ⟨hb1, u, rfl, hown⟩
  have Hu : Hid (Reads w1 u (codes ⟨#[97, 98, 99]⟩)) := owned_reads hown
  clear hown
  go_wp2_with fail
  refine (go_go u _ 0 2 108 0 false w1 Hu.out).mono ?_
  rw [goes_abc]
  rintro e w2 ⟨rfl, hb2⟩
  have HB2 : Hid (Below w.heap.size w w2) := below_trans hb1 hb2 hb1.size
  clear Hu hb2 hb1
  go_wp2_with fail
  have HB3 : Hid (Below w.heap.size w (w2.alloc (.cells #[.int .i64 108, .int .i64 n, .int .i64 97] 24))) := HB2.out.alloc HB2.out.size _
  have HM3 : Hid (Box3 (w2.alloc (.cells #[.int .i64 108, .int .i64 n, .int .i64 97] 24)) w2.heap.size 108 n 97) := Box3.new _ _ _ _
  have Hsz : Hid (w.heap.size ≤ w2.heap.size) := HB2.out.size
  generalize w2.alloc (.cells #[.int .i64 108, .int .i64 n, .int .i64 97] 24) = w3 at *
  generalize w2.heap.size = mb at *
  clear HB2
  obtain ⟨G, hG⟩ : ∃ G, G = goes zs k n 108 97 op := ⟨_, rfl⟩
  have HG : Hid (G = goes zs k n 108 97 op) := hG
  refine (go_go _ zs k n 108 97 op w3 (Hp.out.below HB3.out)).mono ?_
  rw [← hG]
  clear hG
  rintro e w4 ⟨rfl, hb4⟩
  have HB4 : Hid (Below w.heap.size w w4) := below_trans HB3.out hb4 HB3.out.size
  have HM4 : Hid (Box3 w4 mb 108 n 97) := HM3.out.below hb4
  clear HB3 HM3 hb4
  obtain ⟨t, y, z⟩ := G
  by_cases h0 : z = 0
  · subst h0
    by_cases hn : n < 1
    · clear HG
      go_wp2_with fail
      go_ret
      exact ⟨rfl, HB4.out⟩
    · have hn1 : 1 ≤ n := by omega
      clear hn
      obtain ⟨j, N, rfl, rfl, hN1, hN9, hj, hl, hkey, hL2, hL1⟩ := goes_many HG.out.symm hn1
      obtain ⟨Inv, I0, I1, I2⟩ := steps (zs := zs) (key := 108) (by decide) hl hj hN1 hL2 hL1
      have HI0 : Hid (Inv 0 (j : Int)) := I0
      have HI1 : Hid (∀ i p, i < N → Inv i p → (108 ≠ (102 : Int) ∧ 108 ≠ (70 : Int) ∧ ((goes zs p 1 108 97 op).2.2 ≠ 0 ∨ (zs.length : Int) ≤ (goes zs p 1 108 97 op).1)) ∨
        ((goes zs p 1 108 97 op).2.2 = 0 ∧ (goes zs p 1 108 97 op).1 < (zs.length : Int) ∧ Inv (i + 1) (goes zs p 1 108 97 op).1)) := I1
      have HI2 : Hid (∀ p, Inv N p → p = t) := I2
      have hf := HM4.out.frozen1
      have hc1 := HM4.out.cell1
      have HR : Hid (TimesRound w (w4.setCell ⟨mb, 1, none⟩ (.int .i64 1)) mb 108) := ⟨HB4.out.setCell Hsz.out _, HM4.out.set1 1⟩
      clear HG I0 I1 I2 hL1 hL2 hkey HM4 HB4
      go_wp2_with fail
      clear hf hc1
      go_loopw [18, 66] (fun u18 u66 wr => ∃ (i : Nat) (x : Int), i ≤ N ∧ u18 = .int .i64 x ∧ u66 = .int .i64 (i : Int) ∧ Hid (Inv i x) ∧ Hid (TimesRound w wr mb 108)) (fun _ u66 _ => ((N : Int) - intOf u66).toNat)
      case atStart => exact ⟨0, (j : Int), by omega, rfl, rfl, HI0.out, HR.out⟩
      case round =>
        obtain ⟨i, x, hi, rfl, rfl, Hi, Hr⟩ := hrel
        clear HR
        obtain ⟨hBr, hMr⟩ := Hr.out
        have HBr : Hid (Below w.heap.size w wr) := hBr
        have HMr : Hid (Box3 wr mb 108 1 97) := hMr
        clear hBr hMr Hr
        by_cases hlt : i < N
        · have hI : (i : Int) < (N : Int) := by omega
          have HS := HI1.out i x hlt Hi.out
          obtain ⟨S, hS⟩ : ∃ S, S = goes zs x 1 108 97 op := ⟨_, rfl⟩
          rw [← hS] at HS
          have HSS : Hid (S = goes zs x 1 108 97 op) := hS
          have HS2 : Hid _ := HS
          have c0 := HMr.out.cell0
          have c1 := HMr.out.cell1
          have c2 := HMr.out.cell2
          clear hS HS
          go_wp2_with fail
          refine (go_go _ zs x 1 108 97 op wr (Hp.out.below HBr.out)).mono ?_
          rw [← HSS.out]
          rintro e w5 ⟨rfl, hb5⟩
          have HR5 : Hid (TimesRound w w5 mb 108) := ⟨below_trans HBr.out hb5 HBr.out.size, HMr.out.below hb5⟩
          clear c0 c1 c2 hb5 HSS HBr HMr
          obtain ⟨s1, s2, s3⟩ := S
          rcases HS2.out with ⟨d1, d2, d3 | d3⟩ | ⟨d1, d2, d3⟩
          · have hzb : (s3 != 0) = true := by simpa using d3
            clear d3 HS2 d1 d2
            go_wp2_with fail
            go_ret
            exact ⟨rfl, HR5.out.1⟩
          · have d4 : (zs.length : Int) ≤ s1 := d3
            by_cases d5 : s3 = 0
            · subst d5
              clear d3 HS2 d1 d2
              go_wp2_with fail
              go_ret
              exact ⟨rfl, HR5.out.1⟩
            · have hzb : (s3 != 0) = true := by simpa using d5
              clear d3 HS2 d1 d2 d5 d4
              go_wp2_with fail
              go_ret
              exact ⟨rfl, HR5.out.1⟩
          · have d4 : s3 = 0 := d1
            have d5 : s1 < (zs.length : Int) := d2
            have d6 : Hid (Inv (i + 1) s1) := d3
            subst d4
            clear d1 d2 d3 HS2
            go_wp2_with fail
            go_roundw
            case rel => exact ⟨i + 1, s1, by omega, rfl, by go_num, d6.out, HR5.out⟩
            case measure => simp [intOf]; omega
        · have hI : (N : Int) ≤ (i : Int) := by omega
          obtain rfl : i = N := by omega
          obtain rfl : x = t := HI2.out x Hi.out
          clear hlt
          go_wp2_with fail
          all_goals (
            go_ret
            exact ⟨rfl, HBr.out⟩)
  · have hzb : (z != 0) = true := by simpa using h0
    clear h0 HG
    go_wp2_with fail
    go_ret
    exact ⟨rfl, HB4.out⟩

set_option maxHeartbeats 4000000 in
theorem times_98 (v : Value) (zs : List Int) (k n : Int) (op : Bool) (w : World) (hp : Reads w v zs) (hr : zs.length * 8 ≤ 140737488351232) :
    Calls Try.prog 4 #[v, .int .i64 k, .int .i64 98, .int .i64 n, .bool op] w fun e w' => e = .returned (.bool true) ∧ Below w.heap.size w w' := by
  obtain ⟨a, cap, rfl⟩ := hp.shape
  have Hp : Hid (Reads w (.slice a zs.length cap) zs) := hp
  clear hp hr
  go_enter Try.func4, Try.ntmps4
  go_wp2_with fail
  refine (of_any _ _ (by decide)).mono ?_
  rintro e w1 ⟨hb1, u, rfl, hown⟩
  have Hu : Hid (Reads w1 u (codes ⟨#[97, 98, 99]⟩)) := owned_reads hown
  clear hown
  go_wp2_with fail
  refine (go_go u _ 0 2 108 0 false w1 Hu.out).mono ?_
  rw [goes_abc]
  rintro e w2 ⟨rfl, hb2⟩
  have HB2 : Hid (Below w.heap.size w w2) := below_trans hb1 hb2 hb1.size
  clear Hu hb2 hb1
  go_wp2_with fail
  have HB3 : Hid (Below w.heap.size w (w2.alloc (.cells #[.int .i64 98, .int .i64 n, .int .i64 97] 24))) := HB2.out.alloc HB2.out.size _
  have HM3 : Hid (Box3 (w2.alloc (.cells #[.int .i64 98, .int .i64 n, .int .i64 97] 24)) w2.heap.size 98 n 97) := Box3.new _ _ _ _
  have Hsz : Hid (w.heap.size ≤ w2.heap.size) := HB2.out.size
  generalize w2.alloc (.cells #[.int .i64 98, .int .i64 n, .int .i64 97] 24) = w3 at *
  generalize w2.heap.size = mb at *
  clear HB2
  obtain ⟨G, hG⟩ : ∃ G, G = goes zs k n 98 97 op := ⟨_, rfl⟩
  have HG : Hid (G = goes zs k n 98 97 op) := hG
  refine (go_go _ zs k n 98 97 op w3 (Hp.out.below HB3.out)).mono ?_
  rw [← hG]
  clear hG
  rintro e w4 ⟨rfl, hb4⟩
  have HB4 : Hid (Below w.heap.size w w4) := below_trans HB3.out hb4 HB3.out.size
  have HM4 : Hid (Box3 w4 mb 98 n 97) := HM3.out.below hb4
  clear HB3 HM3 hb4
  obtain ⟨t, y, z⟩ := G
  by_cases h0 : z = 0
  · subst h0
    by_cases hn : n < 1
    · clear HG
      go_wp2_with fail
      go_ret
      exact ⟨rfl, HB4.out⟩
    · have hn1 : 1 ≤ n := by omega
      clear hn
      obtain ⟨j, N, rfl, rfl, hN1, hN9, hj, hl, hkey, hL2, hL1⟩ := goes_many HG.out.symm hn1
      obtain ⟨Inv, I0, I1, I2⟩ := steps (zs := zs) (key := 98) (by decide) hl hj hN1 hL2 hL1
      have HI0 : Hid (Inv 0 (j : Int)) := I0
      have HI1 : Hid (∀ i p, i < N → Inv i p → (98 ≠ (102 : Int) ∧ 98 ≠ (70 : Int) ∧ ((goes zs p 1 98 97 op).2.2 ≠ 0 ∨ (zs.length : Int) ≤ (goes zs p 1 98 97 op).1)) ∨
        ((goes zs p 1 98 97 op).2.2 = 0 ∧ (goes zs p 1 98 97 op).1 < (zs.length : Int) ∧ Inv (i + 1) (goes zs p 1 98 97 op).1)) := I1
      have HI2 : Hid (∀ p, Inv N p → p = t) := I2
      have hf := HM4.out.frozen1
      have hc1 := HM4.out.cell1
      have HR : Hid (TimesRound w (w4.setCell ⟨mb, 1, none⟩ (.int .i64 1)) mb 98) := ⟨HB4.out.setCell Hsz.out _, HM4.out.set1 1⟩
      clear HG I0 I1 I2 hL1 hL2 hkey HM4 HB4
      go_wp2_with fail
      clear hf hc1
      go_loopw [18, 66] (fun u18 u66 wr => ∃ (i : Nat) (x : Int), i ≤ N ∧ u18 = .int .i64 x ∧ u66 = .int .i64 (i : Int) ∧ Hid (Inv i x) ∧ Hid (TimesRound w wr mb 98)) (fun _ u66 _ => ((N : Int) - intOf u66).toNat)
      case atStart => exact ⟨0, (j : Int), by omega, rfl, rfl, HI0.out, HR.out⟩
      case round =>
        obtain ⟨i, x, hi, rfl, rfl, Hi, Hr⟩ := hrel
        clear HR
        obtain ⟨hBr, hMr⟩ := Hr.out
        have HBr : Hid (Below w.heap.size w wr) := hBr
        have HMr : Hid (Box3 wr mb 98 1 97) := hMr
        clear hBr hMr Hr
        by_cases hlt : i < N
        · have hI : (i : Int) < (N : Int) := by omega
          have HS := HI1.out i x hlt Hi.out
          obtain ⟨S, hS⟩ : ∃ S, S = goes zs x 1 98 97 op := ⟨_, rfl⟩
          rw [← hS] at HS
          have HSS : Hid (S = goes zs x 1 98 97 op) := hS
          have HS2 : Hid _ := HS
          have c0 := HMr.out.cell0
          have c1 := HMr.out.cell1
          have c2 := HMr.out.cell2
          clear hS HS
          go_wp2_with fail
          refine (go_go _ zs x 1 98 97 op wr (Hp.out.below HBr.out)).mono ?_
          rw [← HSS.out]
          rintro e w5 ⟨rfl, hb5⟩
          have HR5 : Hid (TimesRound w w5 mb 98) := ⟨below_trans HBr.out hb5 HBr.out.size, HMr.out.below hb5⟩
          clear c0 c1 c2 hb5 HSS HBr HMr
          obtain ⟨s1, s2, s3⟩ := S
          rcases HS2.out with ⟨d1, d2, d3 | d3⟩ | ⟨d1, d2, d3⟩
          · have hzb : (s3 != 0) = true := by simpa using d3
            clear d3 HS2 d1 d2
            go_wp2_with fail
            go_ret
            exact ⟨rfl, HR5.out.1⟩
          · have d4 : (zs.length : Int) ≤ s1 := d3
            by_cases d5 : s3 = 0
            · subst d5
              clear d3 HS2 d1 d2
              go_wp2_with fail
              go_ret
              exact ⟨rfl, HR5.out.1⟩
            · have hzb : (s3 != 0) = true := by simpa using d5
              clear d3 HS2 d1 d2 d5 d4
              go_wp2_with fail
              go_ret
              exact ⟨rfl, HR5.out.1⟩
          · have d4 : s3 = 0 := d1
            have d5 : s1 < (zs.length : Int) := d2
            have d6 : Hid (Inv (i + 1) s1) := d3
            subst d4
            clear d1 d2 d3 HS2
            go_wp2_with fail
            go_roundw
            case rel => exact ⟨i + 1, s1, by omega, rfl, by go_num, d6.out, HR5.out⟩
            case measure => simp [intOf]; omega
        · have hI : (N : Int) ≤ (i : Int) := by omega
          obtain rfl : i = N := by omega
          obtain rfl : x = t := HI2.out x Hi.out
          clear hlt
          go_wp2_with fail
          all_goals (
            go_ret
            exact ⟨rfl, HBr.out⟩)
  · have hzb : (z != 0) = true := by simpa using h0
    clear h0 HG
    go_wp2_with fail
    go_ret
    exact ⟨rfl, HB4.out⟩

set_option maxHeartbeats 4000000 in
theorem times_66 (v : Value) (zs : List Int) (k n : Int) (op : Bool) (w : World) (hp : Reads w v zs) (hr : zs.length * 8 ≤ 140737488351232) :
    Calls Try.prog 4 #[v, .int .i64 k, .int .i64 66, .int .i64 n, .bool op] w fun e w' => e = .returned (.bool true) ∧ Below w.heap.size w w' := by
  obtain ⟨a, cap, rfl⟩ := hp.shape
  have Hp : Hid (Reads w (.slice a zs.length cap) zs) := hp
  clear hp hr
  go_enter Try.func4, Try.ntmps4
  go_wp2_with fail
  refine (of_any _ _ (by decide)).mono ?_
  rintro e w1 ⟨hb1, u, rfl, hown⟩
  have Hu : Hid (Reads w1 u (codes ⟨#[97, 98, 99]⟩)) := owned_reads hown
  clear hown
  go_wp2_with fail
  refine (go_go u _ 0 2 108 0 false w1 Hu.out).mono ?_
  rw [goes_abc]
  rintro e w2 ⟨rfl, hb2⟩
  have HB2 : Hid (Below w.heap.size w w2) := below_trans hb1 hb2 hb1.size
  clear Hu hb2 hb1
  go_wp2_with fail
  have HB3 : Hid (Below w.heap.size w (w2.alloc (.cells #[.int .i64 66, .int .i64 n, .int .i64 97] 24))) := HB2.out.alloc HB2.out.size _
  have HM3 : Hid (Box3 (w2.alloc (.cells #[.int .i64 66, .int .i64 n, .int .i64 97] 24)) w2.heap.size 66 n 97) := Box3.new _ _ _ _
  have Hsz : Hid (w.heap.size ≤ w2.heap.size) := HB2.out.size
  generalize w2.alloc (.cells #[.int .i64 66, .int .i64 n, .int .i64 97] 24) = w3 at *
  generalize w2.heap.size = mb at *
  clear HB2
  obtain ⟨G, hG⟩ : ∃ G, G = goes zs k n 66 97 op := ⟨_, rfl⟩
  have HG : Hid (G = goes zs k n 66 97 op) := hG
  refine (go_go _ zs k n 66 97 op w3 (Hp.out.below HB3.out)).mono ?_
  rw [← hG]
  clear hG
  rintro e w4 ⟨rfl, hb4⟩
  have HB4 : Hid (Below w.heap.size w w4) := below_trans HB3.out hb4 HB3.out.size
  have HM4 : Hid (Box3 w4 mb 66 n 97) := HM3.out.below hb4
  clear HB3 HM3 hb4
  obtain ⟨t, y, z⟩ := G
  by_cases h0 : z = 0
  · subst h0
    by_cases hn : n < 1
    · clear HG
      go_wp2_with fail
      go_ret
      exact ⟨rfl, HB4.out⟩
    · have hn1 : 1 ≤ n := by omega
      clear hn
      obtain ⟨j, N, rfl, rfl, hN1, hN9, hj, hl, hkey, hL2, hL1⟩ := goes_many HG.out.symm hn1
      obtain ⟨Inv, I0, I1, I2⟩ := steps (zs := zs) (key := 66) (by decide) hl hj hN1 hL2 hL1
      have HI0 : Hid (Inv 0 (j : Int)) := I0
      have HI1 : Hid (∀ i p, i < N → Inv i p → (66 ≠ (102 : Int) ∧ 66 ≠ (70 : Int) ∧ ((goes zs p 1 66 97 op).2.2 ≠ 0 ∨ (zs.length : Int) ≤ (goes zs p 1 66 97 op).1)) ∨
        ((goes zs p 1 66 97 op).2.2 = 0 ∧ (goes zs p 1 66 97 op).1 < (zs.length : Int) ∧ Inv (i + 1) (goes zs p 1 66 97 op).1)) := I1
      have HI2 : Hid (∀ p, Inv N p → p = t) := I2
      have hf := HM4.out.frozen1
      have hc1 := HM4.out.cell1
      have HR : Hid (TimesRound w (w4.setCell ⟨mb, 1, none⟩ (.int .i64 1)) mb 66) := ⟨HB4.out.setCell Hsz.out _, HM4.out.set1 1⟩
      clear HG I0 I1 I2 hL1 hL2 hkey HM4 HB4
      go_wp2_with fail
      clear hf hc1
      go_loopw [18, 66] (fun u18 u66 wr => ∃ (i : Nat) (x : Int), i ≤ N ∧ u18 = .int .i64 x ∧ u66 = .int .i64 (i : Int) ∧ Hid (Inv i x) ∧ Hid (TimesRound w wr mb 66)) (fun _ u66 _ => ((N : Int) - intOf u66).toNat)
      case atStart => exact ⟨0, (j : Int), by omega, rfl, rfl, HI0.out, HR.out⟩
      case round =>
        obtain ⟨i, x, hi, rfl, rfl, Hi, Hr⟩ := hrel
        clear HR
        obtain ⟨hBr, hMr⟩ := Hr.out
        have HBr : Hid (Below w.heap.size w wr) := hBr
        have HMr : Hid (Box3 wr mb 66 1 97) := hMr
        clear hBr hMr Hr
        by_cases hlt : i < N
        · have hI : (i : Int) < (N : Int) := by omega
          have HS := HI1.out i x hlt Hi.out
          obtain ⟨S, hS⟩ : ∃ S, S = goes zs x 1 66 97 op := ⟨_, rfl⟩
          rw [← hS] at HS
          have HSS : Hid (S = goes zs x 1 66 97 op) := hS
          have HS2 : Hid _ := HS
          have c0 := HMr.out.cell0
          have c1 := HMr.out.cell1
          have c2 := HMr.out.cell2
          clear hS HS
          go_wp2_with fail
          refine (go_go _ zs x 1 66 97 op wr (Hp.out.below HBr.out)).mono ?_
          rw [← HSS.out]
          rintro e w5 ⟨rfl, hb5⟩
          have HR5 : Hid (TimesRound w w5 mb 66) := ⟨below_trans HBr.out hb5 HBr.out.size, HMr.out.below hb5⟩
          clear c0 c1 c2 hb5 HSS HBr HMr
          obtain ⟨s1, s2, s3⟩ := S
          rcases HS2.out with ⟨d1, d2, d3 | d3⟩ | ⟨d1, d2, d3⟩
          · have hzb : (s3 != 0) = true := by simpa using d3
            clear d3 HS2 d1 d2
            go_wp2_with fail
            go_ret
            exact ⟨rfl, HR5.out.1⟩
          · have d4 : (zs.length : Int) ≤ s1 := d3
            by_cases d5 : s3 = 0
            · subst d5
              clear d3 HS2 d1 d2
              go_wp2_with fail
              go_ret
              exact ⟨rfl, HR5.out.1⟩
            · have hzb : (s3 != 0) = true := by simpa using d5
              clear d3 HS2 d1 d2 d5 d4
              go_wp2_with fail
              go_ret
              exact ⟨rfl, HR5.out.1⟩
          · have d4 : s3 = 0 := d1
            have d5 : s1 < (zs.length : Int) := d2
            have d6 : Hid (Inv (i + 1) s1) := d3
            subst d4
            clear d1 d2 d3 HS2
            go_wp2_with fail
            go_roundw
            case rel => exact ⟨i + 1, s1, by omega, rfl, by go_num, d6.out, HR5.out⟩
            case measure => simp [intOf]; omega
        · have hI : (N : Int) ≤ (i : Int) := by omega
          obtain rfl : i = N := by omega
          obtain rfl : x = t := HI2.out x Hi.out
          clear hlt
          go_wp2_with fail
          all_goals (
            go_ret
            exact ⟨rfl, HBr.out⟩)
  · have hzb : (z != 0) = true := by simpa using h0
    clear h0 HG
    go_wp2_with fail
    go_ret
    exact ⟨rfl, HB4.out⟩

set_option maxHeartbeats 4000000 in
theorem times_101 (v : Value) (zs : List Int) (k n : Int) (op : Bool) (w : World) (hp : Reads w v zs) (hr : zs.length * 8 ≤ 140737488351232) :
    Calls Try.prog 4 #[v, .int .i64 k, .int .i64 101, .int .i64 n, .bool op] w fun e w' => e = .returned (.bool true) ∧ Below w.heap.size w w' := by
  obtain ⟨a, cap, rfl⟩ := hp.shape
  have Hp : Hid (Reads w (.slice a zs.length cap) zs) := hp
  clear hp hr
  go_enter Try.func4, Try.ntmps4
  go_wp2_with fail
  refine (of_any _ _ (by decide)).mono ?_
  rintro e w1 ⟨hb1, u, rfl, hown⟩
  have Hu : Hid (Reads w1 u (codes ⟨#[97, 98, 99]⟩)) := owned_reads hown
  clear hown
  go_wp2_with fail
  refine (go_go u _ 0 2 108 0 false w1 Hu.out).mono ?_
  rw [goes_abc]
  rintro e w2 ⟨rfl, hb2⟩
  have HB2 : Hid (Below w.heap.size w w2) := below_trans hb1 hb2 hb1.size
  clear Hu hb2 hb1
  go_wp2_with fail
  have HB3 : Hid (Below w.heap.size w (w2.alloc (.cells #[.int .i64 101, .int .i64 n, .int .i64 97] 24))) := HB2.out.alloc HB2.out.size _
  have HM3 : Hid (Box3 (w2.alloc (.cells #[.int .i64 101, .int .i64 n, .int .i64 97] 24)) w2.heap.size 101 n 97) := Box3.new _ _ _ _
  have Hsz : Hid (w.heap.size ≤ w2.heap.size) := HB2.out.size
  generalize w2.alloc (.cells #[.int .i64 101, .int .i64 n, .int .i64 97] 24) = w3 at *
  generalize w2.heap.size = mb at *
  clear HB2
  obtain ⟨G, hG⟩ : ∃ G, G = goes zs k n 101 97 op := ⟨_, rfl⟩
  have HG : Hid (G = goes zs k n 101 97 op) := hG
  refine (go_go _ zs k n 101 97 op w3 (Hp.out.below HB3.out)).mono ?_
  rw [← hG]
  clear hG
  rintro e w4 ⟨rfl, hb4⟩
  have HB4 : Hid (Below w.heap.size w w4) := below_trans HB3.out hb4 HB3.out.size
  have HM4 : Hid (Box3 w4 mb 101 n 97) := HM3.out.below hb4
  clear HB3 HM3 hb4
  obtain ⟨t, y, z⟩ := G
  by_cases h0 : z = 0
  · subst h0
    by_cases hn : n < 1
    · clear HG
      go_wp2_with fail
      go_ret
      exact ⟨rfl, HB4.out⟩
    · have hn1 : 1 ≤ n := by omega
      clear hn
      obtain ⟨j, N, rfl, rfl, hN1, hN9, hj, hl, hkey, hL2, hL1⟩ := goes_many HG.out.symm hn1
      obtain ⟨Inv, I0, I1, I2⟩ := steps (zs := zs) (key := 101) (by decide) hl hj hN1 hL2 hL1
      have HI0 : Hid (Inv 0 (j : Int)) := I0
      have HI1 : Hid (∀ i p, i < N → Inv i p → (101 ≠ (102 : Int) ∧ 101 ≠ (70 : Int) ∧ ((goes zs p 1 101 97 op).2.2 ≠ 0 ∨ (zs.length : Int) ≤ (goes zs p 1 101 97 op).1)) ∨
        ((goes zs p 1 101 97 op).2.2 = 0 ∧ (goes zs p 1 101 97 op).1 < (zs.length : Int) ∧ Inv (i + 1) (goes zs p 1 101 97 op).1)) := I1
      have HI2 : Hid (∀ p, Inv N p → p = t) := I2
      have hf := HM4.out.frozen1
      have hc1 := HM4.out.cell1
      have HR : Hid (TimesRound w (w4.setCell ⟨mb, 1, none⟩ (.int .i64 1)) mb 101) := ⟨HB4.out.setCell Hsz.out _, HM4.out.set1 1⟩
      clear HG I0 I1 I2 hL1 hL2 hkey HM4 HB4
      go_wp2_with fail
      clear hf hc1
      go_loopw [18, 66] (fun u18 u66 wr => ∃ (i : Nat) (x : Int), i ≤ N ∧ u18 = .int .i64 x ∧ u66 = .int .i64 (i : Int) ∧ Hid (Inv i x) ∧ Hid (TimesRound w wr mb 101)) (fun _ u66 _ => ((N : Int) - intOf u66).toNat)
      case atStart => exact ⟨0, (j : Int), by omega, rfl, rfl, HI0.out, HR.out⟩
      case round =>
        obtain ⟨i, x, hi, rfl, rfl, Hi, Hr⟩ := hrel
        clear HR
        obtain ⟨hBr, hMr⟩ := Hr.out
        have HBr : Hid (Below w.heap.size w wr) := hBr
        have HMr : Hid (Box3 wr mb 101 1 97) := hMr
        clear hBr hMr Hr
        by_cases hlt : i < N
        · have hI : (i : Int) < (N : Int) := by omega
          have HS := HI1.out i x hlt Hi.out
          obtain ⟨S, hS⟩ : ∃ S, S = goes zs x 1 101 97 op := ⟨_, rfl⟩
          rw [← hS] at HS
          have HSS : Hid (S = goes zs x 1 101 97 op) := hS
          have HS2 : Hid _ := HS
          have c0 := HMr.out.cell0
          have c1 := HMr.out.cell1
          have c2 := HMr.out.cell2
          clear hS HS
          go_wp2_with fail
          refine (go_go _ zs x 1 101 97 op wr (Hp.out.below HBr.out)).mono ?_
          rw [← HSS.out]
          rintro e w5 ⟨rfl, hb5⟩
          have HR5 : Hid (TimesRound w w5 mb 101) := ⟨below_trans HBr.out hb5 HBr.out.size, HMr.out.below hb5⟩
          clear c0 c1 c2 hb5 HSS HBr HMr
          obtain ⟨s1, s2, s3⟩ := S
          rcases HS2.out with ⟨d1, d2, d3 | d3⟩ | ⟨d1, d2, d3⟩
          · have hzb : (s3 != 0) = true := by simpa using d3
            clear d3 HS2 d1 d2
            go_wp2_with fail
            go_ret
            exact ⟨rfl, HR5.out.1⟩
          · have d4 : (zs.length : Int) ≤ s1 := d3
            by_cases d5 : s3 = 0
            · subst d5
              clear d3 HS2 d1 d2
              go_wp2_with fail
              go_ret
              exact ⟨rfl, HR5.out.1⟩
            · have hzb : (s3 != 0) = true := by simpa using d5
              clear d3 HS2 d1 d2 d5 d4
              go_wp2_with fail
              go_ret
              exact ⟨rfl, HR5.out.1⟩
          · have d4 : s3 = 0 := d1
            have d5 : s1 < (zs.length : Int) := d2
            have d6 : Hid (Inv (i + 1) s1) := d3
            subst d4
            clear d1 d2 d3 HS2
            go_wp2_with fail
            go_roundw
            case rel => exact ⟨i + 1, s1, by omega, rfl, by go_num, d6.out, HR5.out⟩
            case measure => simp [intOf]; omega
        · have hI : (N : Int) ≤ (i : Int) := by omega
          obtain rfl : i = N := by omega
          obtain rfl : x = t := HI2.out x Hi.out
          clear hlt
          go_wp2_with fail
          all_goals (
            go_ret
            exact ⟨rfl, HBr.out⟩)
  · have hzb : (z != 0) = true := by simpa using h0
    clear h0 HG
    go_wp2_with fail
    go_ret
    exact ⟨rfl, HB4.out⟩

set_option maxHeartbeats 4000000 in
theorem times_69 (v : Value) (zs : List Int) (k n : Int) (op : Bool) (w : World) (hp : Reads w v zs) (hr : zs.length * 8 ≤ 140737488351232) :
    Calls Try.prog 4 #[v, .int .i64 k, .int .i64 69, .int .i64 n, .bool op] w fun e w' => e = .returned (.bool true) ∧ Below w.heap.size w w' := by
  obtain ⟨a, cap, rfl⟩ := hp.shape
  have Hp : Hid (Reads w (.slice a zs.length cap) zs) := hp
  clear hp hr
  go_enter Try.func4, Try.ntmps4
  go_wp2_with fail
  refine (of_any _ _ (by decide)).mono ?_
  rintro e w1 ⟨hb1, u, rfl, hown⟩
  have Hu : Hid (Reads w1 u (codes ⟨#[97, 98, 99]⟩)) := owned_reads hown
  clear hown
  go_wp2_with fail
  refine (go_go u _ 0 2 108 0 false w1 Hu.out).mono ?_
  rw [goes_abc]
  rintro e w2 ⟨rfl, hb2⟩
  have HB2 : Hid (Below w.heap.size w w2) := below_trans hb1 hb2 hb1.size
  clear Hu hb2 hb1
  go_wp2_with fail
  have HB3 : Hid (Below w.heap.size w (w2.alloc (.cells #[.int .i64 69, .int .i64 n, .int .i64 97] 24))) := HB2.out.alloc HB2.out.size _
  have HM3 : Hid (Box3 (w2.alloc (.cells #[.int .i64 69, .int .i64 n, .int .i64 97] 24)) w2.heap.size 69 n 97) := Box3.new _ _ _ _
  have Hsz : Hid (w.heap.size ≤ w2.heap.size) := HB2.out.size
  generalize w2.alloc (.cells #[.int .i64 69, .int .i64 n, .int .i64 97] 24) = w3 at *
  generalize w2.heap.size = mb at *
  clear HB2
  obtain ⟨G, hG⟩ : ∃ G, G = goes zs k n 69 97 op := ⟨_, rfl⟩
  have HG : Hid (G = goes zs k n 69 97 op) := hG
  refine (go_go _ zs k n 69 97 op w3 (Hp.out.below HB3.out)).mono ?_
  rw [← hG]
  clear hG
  rintro e w4 ⟨rfl, hb4⟩
  have HB4 : Hid (Below w.heap.size w w4) := below_trans HB3.out hb4 HB3.out.size
  have HM4 : Hid (Box3 w4 mb 69 n 97) := HM3.out.below hb4
  clear HB3 HM3 hb4
  obtain ⟨t, y, z⟩ := G
  by_cases h0 : z = 0
  · subst h0
    by_cases hn : n < 1
    · clear HG
      go_wp2_with fail
      go_ret
      exact ⟨rfl, HB4.out⟩
    · have hn1 : 1 ≤ n := by omega
      clear hn
      obtain ⟨j, N, rfl, rfl, hN1, hN9, hj, hl, hkey, hL2, hL1⟩ := goes_many HG.out.symm hn1
      obtain ⟨Inv, I0, I1, I2⟩ := steps (zs := zs) (key := 69) (by decide) hl hj hN1 hL2 hL1
      have HI0 : Hid (Inv 0 (j : Int)) := I0
      have HI1 : Hid (∀ i p, i < N → Inv i p → (69 ≠ (102 : Int) ∧ 69 ≠ (70 : Int) ∧ ((goes zs p 1 69 97 op).2.2 ≠ 0 ∨ (zs.length : Int) ≤ (goes zs p 1 69 97 op).1)) ∨
        ((goes zs p 1 69 97 op).2.2 = 0 ∧ (goes zs p 1 69 97 op).1 < (zs.length : Int) ∧ Inv (i + 1) (goes zs p 1 69 97 op).1)) := I1
      have HI2 : Hid (∀ p, Inv N p → p = t) := I2
      have hf := HM4.out.frozen1
      have hc1 := HM4.out.cell1
      have HR : Hid (TimesRound w (w4.setCell ⟨mb, 1, none⟩ (.int .i64 1)) mb 69) := ⟨HB4.out.setCell Hsz.out _, HM4.out.set1 1⟩
      clear HG I0 I1 I2 hL1 hL2 hkey HM4 HB4
      go_wp2_with fail
      clear hf hc1
      go_loopw [18, 66] (fun u18 u66 wr => ∃ (i : Nat) (x : Int), i ≤ N ∧ u18 = .int .i64 x ∧ u66 = .int .i64 (i : Int) ∧ Hid (Inv i x) ∧ Hid (TimesRound w wr mb 69)) (fun _ u66 _ => ((N : Int) - intOf u66).toNat)
      case atStart => exact ⟨0, (j : Int), by omega, rfl, rfl, HI0.out, HR.out⟩
      case round =>
        obtain ⟨i, x, hi, rfl, rfl, Hi, Hr⟩ := hrel
        clear HR
        obtain ⟨hBr, hMr⟩ := Hr.out
        have HBr : Hid (Below w.heap.size w wr) := hBr
        have HMr : Hid (Box3 wr mb 69 1 97) := hMr
        clear hBr hMr Hr
        by_cases hlt : i < N
        · have hI : (i : Int) < (N : Int) := by omega
          have HS := HI1.out i x hlt Hi.out
          obtain ⟨S, hS⟩ : ∃ S, S = goes zs x 1 69 97 op := ⟨_, rfl⟩
          rw [← hS] at HS
          have HSS : Hid (S = goes zs x 1 69 97 op) := hS
          have HS2 : Hid _ := HS
          have c0 := HMr.out.cell0
          have c1 := HMr.out.cell1
          have c2 := HMr.out.cell2
          clear hS HS
          go_wp2_with fail
          refine (go_go _ zs x 1 69 97 op wr (Hp.out.below HBr.out)).mono ?_
          rw [← HSS.out]
          rintro e w5 ⟨rfl, hb5⟩
          have HR5 : Hid (TimesRound w w5 mb 69) := ⟨below_trans HBr.out hb5 HBr.out.size, HMr.out.below hb5⟩
          clear c0 c1 c2 hb5 HSS HBr HMr
          obtain ⟨s1, s2, s3⟩ := S
          rcases HS2.out with ⟨d1, d2, d3 | d3⟩ | ⟨d1, d2, d3⟩
          · have hzb : (s3 != 0) = true := by simpa using d3
            clear d3 HS2 d1 d2
            go_wp2_with fail
            go_ret
            exact ⟨rfl, HR5.out.1⟩
          · have d4 : (zs.length : Int) ≤ s1 := d3
            by_cases d5 : s3 = 0
            · subst d5
              clear d3 HS2 d1 d2
              go_wp2_with fail
              go_ret
              exact ⟨rfl, HR5.out.1⟩
            · have hzb : (s3 != 0) = true := by simpa using d5
              clear d3 HS2 d1 d2 d5 d4
              go_wp2_with fail
              go_ret
              exact ⟨rfl, HR5.out.1⟩
          · have d4 : s3 = 0 := d1
            have d5 : s1 < (zs.length : Int) := d2
            have d6 : Hid (Inv (i + 1) s1) := d3
            subst d4
            clear d1 d2 d3 HS2
            go_wp2_with fail
            go_roundw
            case rel => exact ⟨i + 1, s1, by omega, rfl, by go_num, d6.out, HR5.out⟩
            case measure => simp [intOf]; omega
        · have hI : (N : Int) ≤ (i : Int) := by omega
          obtain rfl : i = N := by omega
          obtain rfl : x = t := HI2.out x Hi.out
          clear hlt
          go_wp2_with fail
          all_goals (
            go_ret
            exact ⟨rfl, HBr.out⟩)
  · have hzb : (z != 0) = true := by simpa using h0
    clear h0 HG
    go_wp2_with fail
    go_ret
    exact ⟨rfl, HB4.out⟩

set_option maxHeartbeats 4000000 in
theorem times_102 (v : Value) (zs : List Int) (k n : Int) (op : Bool) (w : World) (hp : Reads w v zs) (hr : zs.length * 8 ≤ 140737488351232) :
    Calls Try.prog 4 #[v, .int .i64 k, .int .i64 102, .int .i64 n, .bool op] w fun e w' => e = .returned (.bool true) ∧ Below w.heap.size w w' := by
  obtain ⟨a, cap, rfl⟩ := hp.shape
  have Hp : Hid (Reads w (.slice a zs.length cap) zs) := hp
  clear hp hr
  go_enter Try.func4, Try.ntmps4
  go_wp2_with fail
  refine (of_any _ _ (by decide)).mono ?_
  rintro e w1 ⟨hb1, u, rfl, hown⟩
  have Hu : Hid (Reads w1 u (codes ⟨#[97, 98, 99]⟩)) := owned_reads hown
  clear hown
  go_wp2_with fail
  refine (go_go u _ 0 2 108 0 false w1 Hu.out).mono ?_
  rw [goes_abc]
  rintro e w2 ⟨rfl, hb2⟩
  have HB2 : Hid (Below w.heap.size w w2) := below_trans hb1 hb2 hb1.size
  clear Hu hb2 hb1
  go_wp2_with fail
  have HB3 : Hid (Below w.heap.size w (w2.alloc (.cells #[.int .i64 102, .int .i64 n, .int .i64 97] 24))) := HB2.out.alloc HB2.out.size _
  have HM3 : Hid (Box3 (w2.alloc (.cells #[.int .i64 102, .int .i64 n, .int .i64 97] 24)) w2.heap.size 102 n 97) := Box3.new _ _ _ _
  have Hsz : Hid (w.heap.size ≤ w2.heap.size) := HB2.out.size
  generalize w2.alloc (.cells #[.int .i64 102, .int .i64 n, .int .i64 97] 24) = w3 at *
  generalize w2.heap.size = mb at *
  clear HB2
  obtain ⟨G, hG⟩ : ∃ G, G = goes zs k n 102 97 op := ⟨_, rfl⟩
  have HG : Hid (G = goes zs k n 102 97 op) := hG
  refine (go_go _ zs k n 102 97 op w3 (Hp.out.below HB3.out)).mono ?_
  rw [← hG]
  clear hG
  rintro e w4 ⟨rfl, hb4⟩
  have HB4 : Hid (Below w.heap.size w w4) := below_trans HB3.out hb4 HB3.out.size
  have HM4 : Hid (Box3 w4 mb 102 n 97) := HM3.out.below hb4
  clear HB3 HM3 hb4
  obtain ⟨t, y, z⟩ := G
  by_cases h0 : z = 0
  · subst h0
    by_cases hn : n < 1
    · clear HG
      go_wp2_with fail
      go_ret
      exact ⟨rfl, HB4.out⟩
    · have hn1 : 1 ≤ n := by omega
      clear hn
      obtain ⟨j, N, rfl, rfl, hN1, hN9, hj, hl, hkey, hL2, hL1⟩ := goes_many HG.out.symm hn1
      obtain ⟨Inv, I0, I1, I2⟩ := steps (zs := zs) (key := 102) (by decide) hl hj hN1 hL2 hL1
      have HI0 : Hid (Inv 0 (j : Int)) := I0
      have HI1 : Hid (∀ i p, i < N → Inv i p → (102 ≠ (102 : Int) ∧ 102 ≠ (70 : Int) ∧ ((goes zs p 1 102 97 op).2.2 ≠ 0 ∨ (zs.length : Int) ≤ (goes zs p 1 102 97 op).1)) ∨
        ((goes zs p 1 102 97 op).2.2 = 0 ∧ (goes zs p 1 102 97 op).1 < (zs.length : Int) ∧ Inv (i + 1) (goes zs p 1 102 97 op).1)) := I1
      have HI2 : Hid (∀ p, Inv N p → p = t) := I2
      have hf := HM4.out.frozen1
      have hc1 := HM4.out.cell1
      have HR : Hid (TimesRound w (w4.setCell ⟨mb, 1, none⟩ (.int .i64 1)) mb 102) := ⟨HB4.out.setCell Hsz.out _, HM4.out.set1 1⟩
      clear HG I0 I1 I2 hL1 hL2 hkey HM4 HB4
      go_wp2_with fail
      clear hf hc1
      go_loopw [18, 66] (fun u18 u66 wr => ∃ (i : Nat) (x : Int), i ≤ N ∧ u18 = .int .i64 x ∧ u66 = .int .i64 (i : Int) ∧ Hid (Inv i x) ∧ Hid (TimesRound w wr mb 102)) (fun _ u66 _ => ((N : Int) - intOf u66).toNat)
      case atStart => exact ⟨0, (j : Int), by omega, rfl, rfl, HI0.out, HR.out⟩
      case round =>
        obtain ⟨i, x, hi, rfl, rfl, Hi, Hr⟩ := hrel
        clear HR
        obtain ⟨hBr, hMr⟩ := Hr.out
        have HBr : Hid (Below w.heap.size w wr) := hBr
        have HMr : Hid (Box3 wr mb 102 1 97) := hMr
        clear hBr hMr Hr
        by_cases hlt : i < N
        · have hI : (i : Int) < (N : Int) := by omega
          have HS := HI1.out i x hlt Hi.out
          obtain ⟨S, hS⟩ : ∃ S, S = goes zs x 1 102 97 op := ⟨_, rfl⟩
          rw [← hS] at HS
          have HSS : Hid (S = goes zs x 1 102 97 op) := hS
          have HS2 : Hid _ := HS
          have c0 := HMr.out.cell0
          have c1 := HMr.out.cell1
          have c2 := HMr.out.cell2
          clear hS HS
          go_wp2_with fail
          refine (go_go _ zs x 1 102 97 op wr (Hp.out.below HBr.out)).mono ?_
          rw [← HSS.out]
          rintro e w5 ⟨rfl, hb5⟩
          have HR5 : Hid (TimesRound w w5 mb 102) := ⟨below_trans HBr.out hb5 HBr.out.size, HMr.out.below hb5⟩
          clear c0 c1 c2 hb5 HSS HBr HMr
          obtain ⟨s1, s2, s3⟩ := S
          rcases HS2.out with ⟨d1, d2, d3 | d3⟩ | ⟨d1, d2, d3⟩
          · exact absurd rfl d1
          · exact absurd rfl d1
          · have d4 : s3 = 0 := d1
            have d5 : s1 < (zs.length : Int) := d2
            have d6 : Hid (Inv (i + 1) s1) := d3
            subst d4
            clear d1 d2 d3 HS2
            go_wp2_with fail
            go_roundw
            case rel => exact ⟨i + 1, s1, by omega, rfl, by go_num, d6.out, HR5.out⟩
            case measure => simp [intOf]; omega
        · have hI : (N : Int) ≤ (i : Int) := by omega
          obtain rfl : i = N := by omega
          obtain rfl : x = t := HI2.out x Hi.out
          clear hlt
          go_wp2_with fail
          all_goals (
            go_ret
            exact ⟨rfl, HBr.out⟩)
  · have hzb : (z != 0) = true := by simpa using h0
    clear h0 HG
    go_wp2_with fail
    go_ret
    exact ⟨rfl, HB4.out⟩

set_option maxHeartbeats 4000000 in
theorem times_70 (v : Value) (zs : List Int) (k n : Int) (op : Bool) (w : World) (hp : Reads w v zs) (hr : zs.length * 8 ≤ 140737488351232) :
    Calls Try.prog 4 #[v, .int .i64 k, .int .i64 70, .int .i64 n, .bool op] w fun e w' => e = .returned (.bool true) ∧ Below w.heap.size w w' := by
  obtain ⟨a, cap, rfl⟩ := hp.shape
  have Hp : Hid (Reads w (.slice a zs.length cap) zs) := hp
  clear hp hr
  go_enter Try.func4, Try.ntmps4
  go_wp2_with fail
  refine (of_any _ _ (by decide)).mono ?_
  rintro e w1 ⟨hb1, u, rfl, hown⟩
  have Hu : Hid (Reads w1 u (codes ⟨#[97, 98, 99]⟩)) := owned_reads hown
  clear hown
  go_wp2_with fail
  refine (go_go u _ 0 2 108 0 false w1 Hu.out).mono ?_
  rw [goes_abc]
  rintro e w2 ⟨rfl, hb2⟩
  have HB2 : Hid (Below w.heap.size w w2) := below_trans hb1 hb2 hb1.size
  clear Hu hb2 hb1
  go_wp2_with fail
  have HB3 : Hid (Below w.heap.size w (w2.alloc (.cells #[.int .i64 70, .int .i64 n, .int .i64 97] 24))) := HB2.out.alloc HB2.out.size _
  have HM3 : Hid (Box3 (w2.alloc (.cells #[.int .i64 70, .int .i64 n, .int .i64 97] 24)) w2.heap.size 70 n 97) := Box3.new _ _ _ _
  have Hsz : Hid (w.heap.size ≤ w2.heap.size) := HB2.out.size
  generalize w2.alloc (.cells #[.int .i64 70, .int .i64 n, .int .i64 97] 24) = w3 at *
  generalize w2.heap.size = mb at *
  clear HB2
  obtain ⟨G, hG⟩ : ∃ G, G = goes zs k n 70 97 op := ⟨_, rfl⟩
  have HG : Hid (G = goes zs k n 70 97 op) := hG
  refine (go_go _ zs k n 70 97 op w3 (Hp.out.below HB3.out)).mono ?_
  rw [← hG]
  clear hG
  rintro e w4 ⟨rfl, hb4⟩
  have HB4 : Hid (Below w.heap.size w w4) := below_trans HB3.out hb4 HB3.out.size
  have HM4 : Hid (Box3 w4 mb 70 n 97) := HM3.out.below hb4
  clear HB3 HM3 hb4
  obtain ⟨t, y, z⟩ := G
  by_cases h0 : z = 0
  · subst h0
    by_cases hn : n < 1
    · clear HG
      go_wp2_with fail
      go_ret
      exact ⟨rfl, HB4.out⟩
    · have hn1 : 1 ≤ n := by omega
      clear hn
      obtain ⟨j, N, rfl, rfl, hN1, hN9, hj, hl, hkey, hL2, hL1⟩ := goes_many HG.out.symm hn1
      obtain ⟨Inv, I0, I1, I2⟩ := steps (zs := zs) (key := 70) (by decide) hl hj hN1 hL2 hL1
      have HI0 : Hid (Inv 0 (j : Int)) := I0
      have HI1 : Hid (∀ i p, i < N → Inv i p → (70 ≠ (102 : Int) ∧ 70 ≠ (70 : Int) ∧ ((goes zs p 1 70 97 op).2.2 ≠ 0 ∨ (zs.length : Int) ≤ (goes zs p 1 70 97 op).1)) ∨
        ((goes zs p 1 70 97 op).2.2 = 0 ∧ (goes zs p 1 70 97 op).1 < (zs.length : Int) ∧ Inv (i + 1) (goes zs p 1 70 97 op).1)) := I1
      have HI2 : Hid (∀ p, Inv N p → p = t) := I2
      have hf := HM4.out.frozen1
      have hc1 := HM4.out.cell1
      have HR : Hid (TimesRound w (w4.setCell ⟨mb, 1, none⟩ (.int .i64 1)) mb 70) := ⟨HB4.out.setCell Hsz.out _, HM4.out.set1 1⟩
      clear HG I0 I1 I2 hL1 hL2 hkey HM4 HB4
      go_wp2_with fail
      clear hf hc1
      go_loopw [18, 66] (fun u18 u66 wr => ∃ (i : Nat) (x : Int), i ≤ N ∧ u18 = .int .i64 x ∧ u66 = .int .i64 (i : Int) ∧ Hid (Inv i x) ∧ Hid (TimesRound w wr mb 70)) (fun _ u66 _ => ((N : Int) - intOf u66).toNat)
      case atStart => exact ⟨0, (j : Int), by omega, rfl, rfl, HI0.out, HR.out⟩
      case round =>
        obtain ⟨i, x, hi, rfl, rfl, Hi, Hr⟩ := hrel
        clear HR
        obtain ⟨hBr, hMr⟩ := Hr.out
        have HBr : Hid (Below w.heap.size w wr) := hBr
        have HMr : Hid (Box3 wr mb 70 1 97) := hMr
        clear hBr hMr Hr
        by_cases hlt : i < N
        · have hI : (i : Int) < (N : Int) := by omega
          have HS := HI1.out i x hlt Hi.out
          obtain ⟨S, hS⟩ : ∃ S, S = goes zs x 1 70 97 op := ⟨_, rfl⟩
          rw [← hS] at HS
          have HSS : Hid (S = goes zs x 1 70 97 op) := hS
          have HS2 : Hid _ := HS
          have c0 := HMr.out.cell0
          have c1 := HMr.out.cell1
          have c2 := HMr.out.cell2
          clear hS HS
          go_wp2_with fail
          refine (go_go _ zs x 1 70 97 op wr (Hp.out.below HBr.out)).mono ?_
          rw [← HSS.out]
          rintro e w5 ⟨rfl, hb5⟩
          have HR5 : Hid (TimesRound w w5 mb 70) := ⟨below_trans HBr.out hb5 HBr.out.size, HMr.out.below hb5⟩
          clear c0 c1 c2 hb5 HSS HBr HMr
          obtain ⟨s1, s2, s3⟩ := S
          rcases HS2.out with ⟨d1, d2, d3 | d3⟩ | ⟨d1, d2, d3⟩
          · exact absurd rfl d2
          · exact absurd rfl d2
          · have d4 : s3 = 0 := d1
            have d5 : s1 < (zs.length : Int) := d2
            have d6 : Hid (Inv (i + 1) s1) := d3
            subst d4
            clear d1 d2 d3 HS2
            go_wp2_with fail
            go_roundw
            case rel => exact ⟨i + 1, s1, by omega, rfl, by go_num, d6.out, HR5.out⟩
            case measure => simp [intOf]; omega
        · have hI : (N : Int) ≤ (i : Int) := by omega
          obtain rfl : i = N := by omega
          obtain rfl : x = t := HI2.out x Hi.out
          clear hlt
          go_wp2_with fail
          all_goals (
            go_ret
            exact ⟨rfl, HBr.out⟩)
  · have hzb : (z != 0) = true := by simpa using h0
    clear h0 HG
    go_wp2_with fail
    go_ret
    exact ⟨rfl, HB4.out⟩

set_option maxHeartbeats 4000000 in
theorem times_other (v : Value) (zs : List Int) (k key n : Int) (op : Bool) (w : World) (hp : Reads w v zs) (hr : zs.length * 8 ≤ 140737488351232) (hk : ¬ (key = 104 ∨ key = 108 ∨ key = 98 ∨ key = 66 ∨ key = 101 ∨ key = 69 ∨ key = 102 ∨ key = 70)) :
    Calls Try.prog 4 #[v, .int .i64 k, .int .i64 key, .int .i64 n, .bool op] w fun e w' => e = .returned (.bool true) ∧ Below w.heap.size w w' := by
  obtain ⟨a, cap, rfl⟩ := hp.shape
  have Hp : Hid (Reads w (.slice a zs.length cap) zs) := hp
  clear hp hr
  go_enter Try.func4, Try.ntmps4
  go_wp2_with fail
  refine (of_any _ _ (by decide)).mono ?_
  rintro e w1 ⟨hb1, u, rfl, hown⟩
  have Hu : Hid (Reads w1 u (codes ⟨#[97, 98, 99]⟩)) := owned_reads hown
  clear hown
  go_wp2_with fail
  refine (go_go u _ 0 2 108 0 false w1 Hu.out).mono ?_
  rw [goes_abc]
  rintro e w2 ⟨rfl, hb2⟩
  have HB2 : Hid (Below w.heap.size w w2) := below_trans hb1 hb2 hb1.size
  clear Hu hb2 hb1
  simp only [not_or] at hk
  obtain ⟨h0, h1, h2, h3, h4, h5, h6, h7⟩ := hk
  have g0 : (key == 104) = false := by simpa using h0
  have g1 : (key == 108) = false := by simpa using h1
  have g2 : (key == 98) = false := by simpa using h2
  have g3 : (key == 66) = false := by simpa using h3
  have g4 : (key == 101) = false := by simpa using h4
  have g5 : (key == 69) = false := by simpa using h5
  have g6 : (key == 102) = false := by simpa using h6
  have g7 : (key == 70) = false := by simpa using h7
  clear h0 h1 h2 h3 h4 h5 h6 h7
  go_wp2_with fail
  go_ret
  exact ⟨rfl, HB2.out⟩

theorem times_walk (v : Value) (zs : List Int) (k key n : Int) (op : Bool) (w : World) (hp : Reads w v zs) (hr : zs.length * 8 ≤ 140737488351232) :
    Calls Try.prog 4 #[v, .int .i64 k, .int .i64 key, .int .i64 n, .bool op] w fun e w' => e = .returned (.bool true) ∧ Below w.heap.size w w' := by
  by_cases hk : key = 104 ∨ key = 108 ∨ key = 98 ∨ key = 66 ∨ key = 101 ∨ key = 69 ∨ key = 102 ∨ key = 70
  · rcases hk with rfl | rfl | rfl | rfl | rfl | rfl | rfl | rfl
    · exact times_104 v zs k n op w hp hr
    · exact times_108 v zs k n op w hp hr
    · exact times_98 v zs k n op w hp hr
    · exact times_66 v zs k n op w hp hr
    · exact times_101 v zs k n op w hp hr
    · exact times_69 v zs k n op w hp hr
    · exact times_102 v zs k n op w hp hr
    · exact times_70 v zs k n op w hp hr
  · exact times_other v zs k key n op w hp hr hk
end Go.Proofs.Ytobcohgfpbmahaa.Seek
