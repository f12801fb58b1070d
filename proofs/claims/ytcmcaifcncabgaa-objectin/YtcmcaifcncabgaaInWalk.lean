/- The walk of ObjectIn. -/
import Derived.Test.YtcmcaifcncabgaaInMath
import Derived.Test.YtcmcaifcncabgaaFunIn
import Derived.Deep.CutRange
set_option linter.unusedVariables false
set_option linter.unusedSimpArgs false
namespace Go.Proofs.Ytcmcaifcncabgaa.Seek
open Go.RowKit Plain

theorem box_one (w : World) (u1 u2 : Value) : ((w.alloc (.cells #[u1] 22)).alloc (.cells #[u2] 3)).cell? ⟨w.heap.size, 0, none⟩ = some u1 := by
  unfold World.cell?
  simp only
  rw [show ∀ o1 o2, ((w.alloc o1).alloc o2).heap[w.heap.size]? = some o1 from fun o1 o2 => by show ((w.heap.push o1).push o2)[w.heap.size]? = _; simp [Array.getElem?_push]]
  rfl
theorem box_two (w : World) (u1 u2 : Value) : ((w.alloc (.cells #[u1] 22)).alloc (.cells #[u2] 3)).cell? ⟨w.heap.size + 1, 0, none⟩ = some u2 := by
  unfold World.cell?
  simp only
  rw [show ∀ o1 o2, ((w.alloc o1).alloc o2).heap[w.heap.size + 1]? = some o2 from fun o1 o2 => by show ((w.heap.push o1).push o2)[w.heap.size + 1]? = _; rw [show w.heap.size + 1 = (w.heap.push o1).size by simp]; exact Array.getElem?_push_size]
  rfl
theorem box_new (w : World) (u : Value) : (w.alloc (.cells #[u] 4)).cell? ⟨w.heap.size, 0, none⟩ = some u := by
  unfold World.cell?
  simp only
  rw [show ∀ o, (w.alloc o).heap[w.heap.size]? = some o from fun o => by show (w.heap.push o)[w.heap.size]? = _; simp]
  rfl
theorem thing_ab : thing (codes ⟨#[97, 98, 32, 99, 100]⟩) 1 true 119 = (0, 3, 0) := by decide +kernel

set_option maxRecDepth 100000 in
set_option maxHeartbeats 4000000 in
theorem in_walk (v : Value) (zs : List Int) (k key : Int) (w : World) (hp : Reads w v zs) (hr : zs.length * 8 ≤ 140737488351232) :
    Calls Try.prog 4 #[v, .int .i64 k, .int .i64 key] w fun e w' => e = .returned (.bool true) ∧ Below w.heap.size w w' := by
  obtain ⟨a, cap, hv⟩ := hp.shape
  subst hv
  have Hp : Hid (Reads w (.slice a zs.length cap) zs) := hp
  clear hp hr
  have hmf : ∀ (fn : Fn) (first cap : Array Value) (w : World), (Instr.makeFunc fn first cap).run Try.prog w = .ok (.func fn first cap) w := fun _ _ _ _ => rfl
  go_enter Try.func4, Try.ntmps4
  go_wp2_with fail
  obtain ⟨W0, hW0⟩ : ∃ W0, W0 = (w.alloc (.cells #[Value.slice a zs.length cap] 22)).alloc (.cells #[Value.int .i64 k] 3) := ⟨_, rfl⟩
  rw [← hW0]
  have hsz0 : w.heap.size + 2 ≤ W0.heap.size := by rw [hW0]; show _ ≤ ((w.heap.push _).push _).size; simp
  have Hbx1 : Hid (W0.cell? ⟨w.heap.size, 0, none⟩ = some (.slice a zs.length cap)) := by rw [hW0]; exact box_one w _ _
  have Hbx2 : Hid (W0.cell? ⟨w.heap.size + 1, 0, none⟩ = some (.int .i64 k)) := by rw [hW0]; exact box_two w _ _
  have HB0 : Hid (Below w.heap.size w W0) := by rw [hW0]; exact ((Below.refl _ w).alloc (Nat.le_refl _) _).alloc (by show _ ≤ (w.heap.push _).size; simp) _
  clear hW0
  have HX : Hid (∀ wx, Below W0.heap.size W0 wx → wx.cell? ⟨w.heap.size, 0, none⟩ = some (.slice a zs.length cap) ∧ wx.cell? ⟨w.heap.size + 1, 0, none⟩ = some (.int .i64 k) ∧ Below w.heap.size w wx ∧ Reads wx (.slice a zs.length cap) zs) := fun wx hb =>
    ⟨(hb.cell (by show w.heap.size < _; omega)).trans Hbx1.out, (hb.cell (by show w.heap.size + 1 < _; omega)).trans Hbx2.out, below_trans HB0.out hb HB0.out.size, Hp.out.below (below_trans HB0.out hb HB0.out.size)⟩
  clear Hbx1 Hbx2 HB0 Hp
  refine (of_any _ W0 (by decide)).mono ?_
  rintro e w1 ⟨hb1, u, rfl, hown⟩
  have HB1 : Hid (Below W0.heap.size W0 w1) := hb1
  have Hu : Hid (Reads w1 u (codes ⟨#[97, 98, 32, 99, 100]⟩)) := owned_reads hown
  clear hown hb1
  go_wp2_with fail
  refine (thing_go u _ 1 true 119 w1 Hu.out).mono ?_
  rw [thing_ab]
  rintro e w2 ⟨rfl, hb2⟩
  have HB2 : Hid (Below W0.heap.size W0 w2) := below_trans HB1.out hb2 HB1.out.size
  clear hb2 Hu HB1
  obtain ⟨c1, c2, c3, c4⟩ := HX.out w2 HB2.out
  have Hr : Hid (Reads w2 (.slice a zs.length cap) zs) := c4
  clear c3 c4
  obtain ⟨G1, hG1⟩ : ∃ G1, G1 = thing zs k false key := ⟨_, rfl⟩
  obtain ⟨G2, hG2⟩ : ∃ G2, G2 = thing zs k true key := ⟨_, rfl⟩
  have HG1 : Hid (thing zs k false key = G1) := hG1.symm
  have HG2 : Hid (thing zs k true key = G2) := hG2.symm
  clear hG1 hG2
  obtain ⟨x1, y1, z1⟩ := G1
  obtain ⟨x2, y2, z2⟩ := G2
  go_wp2_with fail
  refine (thing_go _ zs k false key w2 Hr.out).mono ?_
  rw [HG1.out]
  rintro e w3 ⟨rfl, hb3⟩
  have HB3 : Hid (Below W0.heap.size W0 w3) := below_trans HB2.out hb3 HB2.out.size
  clear hb3 Hr HB2 c1 c2
  obtain ⟨c1, c2, c3, c4⟩ := HX.out w3 HB3.out
  have Hr : Hid (Reads w3 (.slice a zs.length cap) zs) := c4
  clear c3 c4
  go_wp2_with fail
  refine (thing_go _ zs k true key w3 Hr.out).mono ?_
  rw [HG2.out]
  rintro e w4 ⟨rfl, hb4⟩
  have HB4 : Hid (Below W0.heap.size W0 w4) := below_trans HB3.out hb4 HB3.out.size
  clear hb4 Hr HB3 c1 c2
  obtain ⟨c1, c2, c3, c4⟩ := HX.out w4 HB4.out
  have Hr : Hid (Reads w4 (.slice a zs.length cap) zs) := c4
  have HB : Hid (Below w.heap.size w w4) := c3
  clear c3 c4
  rcases thing_cases zs k key with ⟨e, he, h1, h2⟩ | ⟨hkey, hn, j, A, Z, C, D, rfl, h1, h2, hs1, hs2, hs3, hs4, hs5, hkd⟩ | ⟨hkey, hn, j, p, z, rfl, h1, h2, hs1, hs2, hs3⟩
  · have g1 := HG1.out.symm.trans h1
    have g2 := HG2.out.symm.trans h2
    have heb : (e != 0) = true := by simpa using he
    clear h1 h2 he HG1 HG2 HX
    cases g1
    cases g2
    go_wp2_with fail
    go_ret
    exact ⟨rfl, HB.out⟩
  · have g1 := HG1.out.symm.trans h1
    have g2 := HG2.out.symm.trans h2
    cases g1
    cases g2
    rcases Hr.out with ⟨_, _, _, hz⟩ | ⟨bl, off, cap', hv, hcap, hcm, hb, hc⟩
    · rw [hz] at hs5
      simp only [List.length_nil] at hs5
      omega
    cases hv
    have Hc : Hid (∀ j, j < zs.length → w4.cell? ⟨bl, off + j, none⟩ = some (.int .i64 (zs.getD j 0))) := hc
    have Hkd : Hid (∀ x, A ≤ x → x < Z → kd zs (key == 87) x = kd zs (key == 87) j) := hkd
    clear h1 h2 HG1 HG2 hkd hc
    have i1 : (C : Int) ≤ (A : Int) := by omega
    have i2 : (A : Int) ≤ (j : Int) := by omega
    have i3 : (j : Int) < (Z : Int) := by omega
    have i4 : (Z : Int) ≤ (D : Int) := by omega
    have i5 : (D : Int) ≤ (zs.length : Int) := by omega
    have i6 : (A : Int) ≤ (Z : Int) := by omega
    have i7 : (Z : Int) ≤ (cap : Int) := by omega
    have hne : (cap = A) = False := eq_false (by omega)
    rcases hkey with rfl | rfl
    · go_upto_region 15 with fail
      have e1 : (w4.alloc (.cells #[.bool false] 4)).cell? ⟨w4.heap.size, 0, none⟩ = some (.bool false) := box_new w4 _
      have hb5 : Below w4.heap.size w4 (w4.alloc (.cells #[.bool false] 4)) := (Below.refl _ w4).alloc (Nat.le_refl _) _
      have HB5 : Hid (Below W0.heap.size W0 (w4.alloc (.cells #[.bool false] 4))) := below_trans HB4.out hb5 HB4.out.size
      have Hc5 : Hid (∀ j, j < zs.length → (w4.alloc (.cells #[.bool false] 4)).cell? ⟨bl, off + j, none⟩ = some (.int .i64 (zs.getD j 0))) := fun j hj => (hb5.cell hb).trans (Hc.out j hj)
      clear hb5 HB4 HB c1 c2 Hr Hc
      generalize w4.alloc (.cells #[.bool false] 4) = W5 at *
      generalize w4.heap.size = B5 at *
      obtain ⟨d1, d2, d3, d4⟩ := HX.out W5 HB5.out
      have HB : Hid (Below w.heap.size w W5) := d3
      have HK : Hid (Calls Try.prog 9 #[.slice (some ⟨bl, off + A, none⟩) (Z - A) (cap - A), .func (.func 10) #[] #[.pointer (some ⟨B5, 0, none⟩), .pointer (some ⟨w.heap.size, 0, none⟩), .pointer (some ⟨w.heap.size + 1, 0, none⟩)]] W5 fun e w' => e = .returned (.bool false) ∧ ∃ q, w' = W5.drewN q) :=
        contains_in bl (off + A) (Z - A) (cap - A) (fun q => zs.getD (A + q) 0) _ _ _ W5 (by omega) (fun q hq => by rw [Nat.add_assoc]; exact Hc5.out (A + q) (by omega)) (fun i hi q => by
          refine (fun_in B5 w.heap.size (w.heap.size + 1) bl off zs.length cap _ (zs.getD j 0) j false (W5.drewN q) e1 d1 d2 (by omega) hn (Hc5.out j (by omega)) (Hkd.out (A + i) (by omega) (by omega))).mono ?_
          rintro e w' ⟨he, q2, rfl⟩
          exact ⟨he, q + q2, by rw [World.drewN_drewN]⟩)
      clear d3 d4 HX HB5 Hc5 Hkd hb hcm e1
      go_wp2_with fail
      refine HK.out.mono ?_
      rintro e w6 ⟨rfl, q, hw6⟩
      have HB6 : Hid (Below w.heap.size w w6) := by rw [hw6]; exact below_drewN HB.out q
      clear hw6 HB HK
      go_wp2_with fail
      go_ret
      exact ⟨rfl, HB6.out⟩
    · go_upto_region 15 with fail
      have e1 : (w4.alloc (.cells #[.bool true] 4)).cell? ⟨w4.heap.size, 0, none⟩ = some (.bool true) := box_new w4 _
      have hb5 : Below w4.heap.size w4 (w4.alloc (.cells #[.bool true] 4)) := (Below.refl _ w4).alloc (Nat.le_refl _) _
      have HB5 : Hid (Below W0.heap.size W0 (w4.alloc (.cells #[.bool true] 4))) := below_trans HB4.out hb5 HB4.out.size
      have Hc5 : Hid (∀ j, j < zs.length → (w4.alloc (.cells #[.bool true] 4)).cell? ⟨bl, off + j, none⟩ = some (.int .i64 (zs.getD j 0))) := fun j hj => (hb5.cell hb).trans (Hc.out j hj)
      clear hb5 HB4 HB c1 c2 Hr Hc
      generalize w4.alloc (.cells #[.bool true] 4) = W5 at *
      generalize w4.heap.size = B5 at *
      obtain ⟨d1, d2, d3, d4⟩ := HX.out W5 HB5.out
      have HB : Hid (Below w.heap.size w W5) := d3
      have HK : Hid (Calls Try.prog 9 #[.slice (some ⟨bl, off + A, none⟩) (Z - A) (cap - A), .func (.func 10) #[] #[.pointer (some ⟨B5, 0, none⟩), .pointer (some ⟨w.heap.size, 0, none⟩), .pointer (some ⟨w.heap.size + 1, 0, none⟩)]] W5 fun e w' => e = .returned (.bool false) ∧ ∃ q, w' = W5.drewN q) :=
        contains_in bl (off + A) (Z - A) (cap - A) (fun q => zs.getD (A + q) 0) _ _ _ W5 (by omega) (fun q hq => by rw [Nat.add_assoc]; exact Hc5.out (A + q) (by omega)) (fun i hi q => by
          refine (fun_in B5 w.heap.size (w.heap.size + 1) bl off zs.length cap _ (zs.getD j 0) j true (W5.drewN q) e1 d1 d2 (by omega) hn (Hc5.out j (by omega)) (Hkd.out (A + i) (by omega) (by omega))).mono ?_
          rintro e w' ⟨he, q2, rfl⟩
          exact ⟨he, q + q2, by rw [World.drewN_drewN]⟩)
      clear d3 d4 HX HB5 Hc5 Hkd hb hcm e1
      go_wp2_with fail
      refine HK.out.mono ?_
      rintro e w6 ⟨rfl, q, hw6⟩
      have HB6 : Hid (Below w.heap.size w w6) := by rw [hw6]; exact below_drewN HB.out q
      clear hw6 HB HK
      go_wp2_with fail
      go_ret
      exact ⟨rfl, HB6.out⟩
  · have g1 := HG1.out.symm.trans h1
    have g2 := HG2.out.symm.trans h2
    cases g1
    cases g2
    simp only [not_or] at hkey
    have k1 : (key != 119) = true := by simpa using hkey.1
    have k2 : (key != 87) = true := by simpa using hkey.2
    have i1 : (p : Int) + 1 ≤ (z : Int) := by omega
    have i2 : (z : Int) + 1 ≤ (zs.length : Int) := by omega
    have i3 : (j : Int) < (z : Int) + 1 := by omega
    clear h1 h2 HG1 HG2 HX hkey
    go_wp2_with fail
    go_ret
    refine ⟨?_, HB.out⟩
    show Ending.returned (.bool _) = _
    simp
end Go.Proofs.Ytcmcaifcncabgaa.Seek
