/- The walk of KeysCount. -/
import Derived.Test.YtjpgjhdkgmddfaaDoorTold
import Derived.Test.YtjpgjhdkgmddfaaDoorTells
set_option linter.unusedVariables false
set_option linter.unusedSimpArgs false
namespace Go.Proofs.YtjpgjhdkgmddfaaDoor.Seek
open Go.RowKit Plain

theorem Reads.front {w : World} {a : Option Addr} {zs : List Int} {cap : Nat} (h : Reads w (.slice a zs.length cap) zs) (i : Nat) (hi : i ≤ zs.length) : Reads w (.slice a i cap) (zs.take i) ∧ i ≤ cap := by
  have hl : (zs.take i).length = i := by rw [List.length_take]; omega
  rcases h with ⟨_, _, _, rfl⟩ | ⟨b, off, c, hv, g1, g2, g3, g4⟩
  · obtain rfl : i = 0 := by simpa using hi
    exact ⟨.inl ⟨_, _, rfl, by simp⟩, Nat.zero_le _⟩
  · cases hv
    refine ⟨.inr ⟨b, off, cap, by rw [hl], by omega, g2, g3, fun j hj => ?_⟩, by omega⟩
    rw [hl] at hj
    have := g4 j (by omega)
    rw [show (zs.take i).getD j 0 = zs.getD j 0 by rw [List.getD_eq_getElem?_getD, List.getD_eq_getElem?_getD, List.getElem?_take, if_pos hj]]
    exact this
theorem new_cell3 (w : World) (u v x : Value) (j : Nat) (y : Value) (h : (#[u, v, x] : Array Value)[j]? = some y) : (w.alloc (.cells #[u, v, x] 22)).cell? ⟨w.heap.size, j, none⟩ = some y := by
  unfold World.cell?
  simp only
  rw [heap_new]
  simpa using h
theorem concat3 (v1 v2 v3 : Value) (x1 x2 x3 : List Int) (w : World) (h1 : Reads w v1 x1) (h2 : Reads w v2 x2) (h3 : Reads w v3 x3) (hb : (x1 ++ x2 ++ x3).length * 8 ≤ 281474976710656) :
    Calls Tryd.prog 13 #[.slice (some ⟨w.heap.size, 0, none⟩) 3 3] (w.alloc (.cells #[v1, v2, v3] 22)) fun e w' => ConcatPost (x1 ++ x2 ++ x3) (w.alloc (.cells #[v1, v2, v3] 22)) e w' := by
  have hj : joined (fun j => match j with | 0 => x1 | 1 => x2 | _ => x3) 3 = x1 ++ x2 ++ x3 := by simp [joined]
  have := concat_any w.heap.size 3 3 (fun j => match j with | 0 => v1 | 1 => v2 | _ => v3) (fun j => match j with | 0 => x1 | 1 => x2 | _ => x3) (w.alloc (.cells #[v1, v2, v3] 22)) (by decide) (by rw [size_alloc]; omega)
    (fun j hj => by
      match j, hj with
      | 0, _ => exact new_cell3 w _ _ _ 0 _ rfl
      | 1, _ => exact new_cell3 w _ _ _ 1 _ rfl
      | 2, _ => exact new_cell3 w _ _ _ 2 _ rfl)
    (fun j hj => by
      match j, hj with
      | 0, _ => exact h1.below (box_below _ _)
      | 1, _ => exact h2.below (box_below _ _)
      | 2, _ => exact h3.below (box_below _ _)) (by rw [hj]; exact hb)
  rw [hj] at this
  exact this
theorem codes_c : codes ⟨#[99]⟩ = [99] := by decide
theorem all_2d3w : allk (codes ⟨#[50, 100, 51, 119]⟩) = ([(6, 0, 100, 119, 0)], zer, 0) := by decide
theorem wrt_u (m : Nat) (h0 : 1 ≤ m) (h9 : m ≤ 999) : wrt (m : Int) 0 0 117 0 = (dgs m ++ [117], 0) := by
  have hk : keysOf (m : Int) 0 0 117 0 = dgs m ++ [117] := by
    unfold keysOf
    rw [show keysR 0 = [] from rfl, show keysO 0 = [] from rfl, show keysA 0 117 0 = [] by decide, Int.toNat_natCast]
    simp
  unfold wrt
  rw [if_pos (show count (m : Int) = true from decide_eq_true ⟨by omega, by omega⟩), if_pos (keys_told ⟨⟨by show (0 : Int) ≤ (m : Int); omega, by show (m : Int) ≤ 999; omega⟩, .inl rfl, .inl rfl, .inr (.inr (.inl ⟨rfl, by show has lons 117 = true; decide, rfl⟩))⟩), hk]
theorem wrt_w (m : Nat) (h0 : 1 ≤ m) (h9 : m ≤ 999) : wrt (m : Int) 0 0 119 0 = (dgs m ++ [119], 0) := by
  have hk : keysOf (m : Int) 0 0 119 0 = dgs m ++ [119] := by
    unfold keysOf
    rw [show keysR 0 = [] from rfl, show keysO 0 = [] from rfl, show keysA 0 119 0 = [] by decide, Int.toNat_natCast]
    simp
  unfold wrt
  rw [if_pos (show count (m : Int) = true from decide_eq_true ⟨by omega, by omega⟩), if_pos (keys_told ⟨⟨by show (0 : Int) ≤ (m : Int); omega, by show (m : Int) ≤ 999; omega⟩, .inl rfl, .inl rfl, .inl ⟨by show has mots 119 = true; decide, rfl, fun h => absurd h (by show ¬ (119 : Int) = 48; decide)⟩⟩), hk]

set_option maxRecDepth 100000 in
set_option maxHeartbeats 2000000 in
theorem count_walk (a b : Int) (w : World) (ht : Tab w) : Calls Tryd.prog 5 #[.int .i64 a, .int .i64 b] w fun e w' => e = .returned (.bool true) ∧ Below w.heap.size w w' := by
  have HT : Hid (Tab w) := ht
  clear ht
  go_enter Tryd.func5, Tryd.ntmps5
  go_wp2_with fail
  refine (of_any ⟨#[50, 100, 51, 119]⟩ _ (by decide)).mono ?_
  rintro e w1 ⟨hb1, u, rfl, hown⟩
  have HB1 : Hid (Below w.heap.size w w1) := hb1
  have Hu : Hid (Reads w1 u (codes ⟨#[50, 100, 51, 119]⟩)) := owned_reads hown
  clear hown hb1
  go_wp2_with fail
  refine (all_go u _ w1 Hu.out (by decide)).mono ?_
  rintro e w2 ⟨v0, rfl, ho0, hb2⟩
  rw [all_2d3w] at ho0
  rw [all_2d3w]
  have HB2 : Hid (Below w.heap.size w w2) := below_trans HB1.out hb2 HB1.out.size
  obtain ⟨bb, cap, rfl, e0, _⟩ := ho0.reads.one
  simp only at e0
  clear ho0 hb2 Hu HB1
  simp only [fv, zer]
  have HB3 : Hid (Below w.heap.size w (w2.alloc (.cells #[.int .i64 0, .int .i64 0, .int .i64 0, .int .i64 0, .int .i64 0] 27))) := HB2.out.alloc HB2.out.size _
  have e0' : ∀ o, (w2.alloc o).cell? ⟨bb, 0, none⟩ = some (.int .i64 6) := fun o => by
    have hlt : bb < w2.heap.size := by
      unfold World.cell? at e0
      simp only at e0
      rcases Nat.lt_or_ge bb w2.heap.size with h2 | h2
      · exact h2
      · rw [Array.getElem?_eq_none h2] at e0
        cases e0
    exact ((box_below w2 o).cell (by exact hlt)).trans e0
  clear e0
  by_cases hin : (1 ≤ a ∧ a ≤ 999) ∧ (1 ≤ b ∧ b ≤ 999)
  · obtain ⟨⟨ha1, ha9⟩, ⟨hb1, hb9⟩⟩ := hin
    obtain ⟨m, rfl⟩ : ∃ m : Nat, a = (m : Int) := ⟨a.toNat, by omega⟩
    obtain ⟨k, rfl⟩ : ∃ k : Nat, b = (k : Int) := ⟨b.toNat, by omega⟩
    go_wp2_with fail
    clear e0' HB2
    generalize w2.alloc (.cells #[.int .i64 0, .int .i64 0, .int .i64 0, .int .i64 0, .int .i64 0] 27) = w3 at *
    have HW1 : Hid (Calls Tryd.prog 8 _ _ _) := write_go (m : Int) 0 0 117 0 w3 (HT.out.below HB3.out)
    rw [wrt_u m (by omega) (by omega)] at HW1
    refine HW1.out.mono ?_
    rintro e w4 ⟨hb4, ht4, x, rfl, hx⟩
    have HB4 : Hid (Below w.heap.size w w4) := below_trans HB3.out hb4 HB3.out.size
    have HX4 : Hid (Reads w4 x (dgs m ++ [117])) := hx
    have HT4 : Hid (Tab w4) := ht4
    clear hb4 hx ht4 HW1 HB3
    go_wp2_with fail
    have HW2 : Hid (Calls Tryd.prog 8 _ _ _) := write_go (k : Int) 0 0 119 0 w4 HT4.out
    rw [wrt_w k (by omega) (by omega)] at HW2
    refine HW2.out.mono ?_
    rintro e w5 ⟨hb5, ht5, y, rfl, hy⟩
    have HB5 : Hid (Below w.heap.size w w5) := below_trans HB4.out hb5 HB4.out.size
    have HX5 : Hid (Reads w5 x (dgs m ++ [117])) := HX4.out.below hb5
    have HY5 : Hid (Reads w5 y (dgs k ++ [119])) := hy
    clear hb5 hy ht5 HW2 HB4 HX4 HT4
    obtain ⟨xa, xc, hxv⟩ := HX5.out.shape
    rw [List.length_append, List.length_singleton] at hxv
    subst hxv
    have HF : Hid (∀ wx, Below w5.heap.size w5 wx → Reads wx (.slice xa (dgs m).length xc) (dgs m)) := fun wx hb => by
      have h2 := HX5.out.below hb
      have h3 := (Reads.front (zs := dgs m ++ [117]) (a := xa) (cap := xc) (by rw [List.length_append, List.length_singleton]; exact h2) (dgs m).length (by rw [List.length_append]; omega)).1
      rw [List.take_left] at h3
      exact h3
    have hcap : (dgs m).length ≤ xc := (Reads.front (zs := dgs m ++ [117]) (a := xa) (cap := xc) (by rw [List.length_append, List.length_singleton]; exact HX5.out) (dgs m).length (by rw [List.length_append]; omega)).2
    obtain ⟨ya, yc, rfl⟩ := HY5.out.shape
    have HKT : Hid (allk (dgs m ++ [99] ++ (dgs k ++ [119])) = ([(bth (m : Int) (k : Int), 0, 99, 119, 0)], zer, 0)) := keys_twice (by omega) (by omega)
    have hdl := dgs_len m
    have HLK : Hid ((dgs m ++ [99] ++ (dgs k ++ [119])).length ≤ 8) := by
      have := dgs_len k
      show _ ≤ _
      simp only [List.length_append, List.length_singleton]
      omega
    have HLY : Hid ((dgs k ++ [119]).length ≤ 4) := by
      have := dgs_len k
      show _ ≤ _
      simp only [List.length_append, List.length_singleton]
      omega
    have hbt : bth (m : Int) (k : Int) = min ((m : Int) * (k : Int)) 999 := if_neg (by omega)
    have hmk : (m : Int) * (k : Int) ≤ 998001 := by
      have h1 := Int.mul_le_mul ha9 hb9 (by omega) (by omega : (0 : Int) ≤ 999)
      omega
    have hm0 : 0 ≤ (m : Int) * (k : Int) := Int.mul_nonneg (by omega) (by omega)
    rw [hbt] at HKT
    clear hbt
    have hdi : ((dgs m).length : Int) ≤ 3 := by omega
    have hci : ((dgs m).length : Int) ≤ (xc : Int) := by omega
    generalize hdm : dgs m = D at *
    generalize hdk : dgs k ++ [119] = E at *
    clear hdm hdk HX5
    have hwd : IntKind.i64.wrap (D.length : Int) = (D.length : Int) := by rw [IntKind.wrap_i64]; omega
    go_wp2_with fail
    go_region_with (first
      | (go_at_call 12; refine (of_any ⟨#[99]⟩ _ (by decide)).mono ?_; rintro e w6 ⟨hb6, cv, rfl, hown6⟩; have hB6 : Below w5.heap.size w5 w6 := below_trans ((Below.refl _ _).drew) hb6 (by exact Nat.le_refl _); have hrc : Reads w6 cv [99] := owned_reads hown6; obtain ⟨ca, cc, hcv⟩ := hrc.shape; obtain rfl : cv = .slice ca 1 cc := hcv; clear hown6; have hcb : (D ++ [99] ++ E).length * 8 ≤ 281474976710656 := (by have := HLK.out; omega); have HC := concat3 (.slice xa D.length xc) (.slice ca 1 cc) (.slice ya E.length yc) D [99] E w6 (HF.out _ hB6) hrc (HY5.out.below hB6) hcb)
      | (go_at_call 13; refine Calls.mono HC ?_; rintro e w7 ⟨hb7, kv, rfl, ho7⟩; have hB7 : Below w5.heap.size w5 w7 := below_trans (hB6.alloc hB6.size _) hb7 (hB6.alloc hB6.size _).size; have HAL : Hid (Calls Tryd.prog 6 _ _ _) := all_go kv _ w7 ho7.reads (by have := HLK.out; omega))
      | (go_at_call 6; refine Calls.mono HAL.out ?_; rintro e w8 ⟨v8, he8, ho8, hb8⟩; rw [HKT.out] at he8 ho8; simp only [fv, zer] at he8; subst he8; have HB8 : Hid (Below w.heap.size w w8) := below_trans HB5.out (below_trans hB7 hb8 hB7.size) HB5.out.size))
    obtain ⟨b8, c8, rfl, e0, e1, e2, e3, e4⟩ := ho8.reads.one
    simp only at e0 e1 e2 e3 e4
    clear ho8 hb8 hb7 hB7 ho7 HAL HC hb6 hB6 HF HY5 HKT HLK HLY HB5
    have gd := fun x y xs ys w' => guard_lit .eql (.inr rfl : (24 : TypeId) = 27 ∨ (24 : TypeId) = 24) x y xs ys w'
    by_cases h9 : (m : Int) * (k : Int) < 999
    · rw [show min ((m : Int) * (k : Int)) 999 = (m : Int) * (k : Int) by omega] at *
      have e5 := fun w' => eq_lit (.inr rfl) ((m : Int) * (k : Int)) 0 99 119 0 ((m : Int) * (k : Int)) 0 99 119 0 true (decide_eq_true rfl) w'
      go_wp2_with fail
      go_ret
      exact ⟨rfl, HB8.out⟩
    · rw [show min ((m : Int) * (k : Int)) 999 = 999 by omega] at *
      have e5 := fun w' => eq_lit (.inr rfl) 999 0 99 119 0 999 0 99 119 0 true (decide_eq_true rfl) w'
      go_wp2_with fail
      go_ret
      exact ⟨rfl, HB8.out⟩
  · have hno : ¬((1 ≤ a ∧ a ≤ 999) ∧ (1 ≤ b ∧ b ≤ 999)) := hin
    clear hin
    by_cases g1 : a < 1
    · clear hno
      go_wp2_with fail
      go_ret
      exact ⟨rfl, HB3.out⟩
    · by_cases g2 : b < 1
      · clear hno
        go_wp2_with fail
        go_ret
        exact ⟨rfl, HB3.out⟩
      · by_cases g3 : 999 < a
        · clear hno
          go_wp2_with fail
          go_ret
          exact ⟨rfl, HB3.out⟩
        · have g4 : 999 < b := by omega
          clear hno
          go_wp2_with fail
          go_ret
          exact ⟨rfl, HB3.out⟩
end Go.Proofs.YtjpgjhdkgmddfaaDoor.Seek
