/- The walk of MotionIn. -/
import Derived.Test.YtobcohgfpbmahaaLeads
import Derived.Test.YtobcohgfpbmahaaOf
set_option linter.unusedVariables false
set_option linter.unusedSimpArgs false
namespace Go.Proofs.Ytobcohgfpbmahaa.Seek
open Go.RowKit Plain

/-- A move that lies in memory. -/
def Moved (w : World) (b : Nat) (x y z : Int) : Prop := b < w.heap.size ∧ w.cell? ⟨b, 0, none⟩ = some (.int .i64 x) ∧ w.cell? ⟨b, 1, none⟩ = some (.int .i64 y) ∧ w.cell? ⟨b, 2, none⟩ = some (.int .i64 z)
theorem Moved.below {w w' : World} {b : Nat} {x y z : Int} (h : Moved w b x y z) (hb : Below w.heap.size w w') : Moved w' b x y z :=
  ⟨Nat.lt_of_lt_of_le h.1 hb.size, (hb.cell h.1).trans h.2.1, (hb.cell h.1).trans h.2.2.1, (hb.cell h.1).trans h.2.2.2⟩
theorem moved_new (w : World) (x y z : Int) : Moved (w.alloc (.cells #[.int .i64 x, .int .i64 y, .int .i64 z] 24)) w.heap.size x y z := by
  have hb : ∀ o, (w.alloc o).heap[w.heap.size]? = some o := fun o => by show (w.heap.push o)[w.heap.size]? = _; simp [Array.getElem?_push]
  refine ⟨by rw [size_alloc]; omega, ?_, ?_, ?_⟩ <;>
  · unfold World.cell?
    simp only
    rw [hb]
    rfl
theorem range_ab : ranges (codes ⟨#[97, 98]⟩) 0 0 36 0 = (0, 2, 0) := by decide +kernel

set_option maxHeartbeats 2000000 in
theorem in_walk (v : Value) (zs : List Int) (k key c arg : Int) (w : World) (hp : Reads w v zs) (hr : zs.length * 8 ≤ 140737488351232) :
    Calls Try.prog 5 #[v, .int .i64 k, .agg #[.int .i64 key, .int .i64 c, .int .i64 arg]] w fun e w' => e = .returned (.bool true) ∧ Below w.heap.size w w' := by
  obtain ⟨a, cap, rfl⟩ := hp.shape
  have Hp : Hid (Reads w (.slice a zs.length cap) zs) := hp
  have hl9 : (zs.length : Int) ≤ 140737488351232 := by omega
  clear hp hr
  go_enter Try.func5, Try.ntmps5
  go_wp2_with fail
  refine (of_any _ _ (by decide)).mono ?_
  rintro e w1 ⟨hb1, u, rfl, hown⟩
  have hB1 : Below w.heap.size w w1 := below_trans (box24 _ _) hb1 (by rw [size_alloc]; omega)
  have HM1 : Hid (Moved w1 w.heap.size key c arg) := (moved_new _ _ _ _).below hb1
  have Hu : Hid (Reads w1 u (codes ⟨#[97, 98]⟩)) := owned_reads hown
  clear hown hb1
  go_wp2_with fail
  refine (range_go u _ 0 0 36 0 w1 Hu.out (fun x y h => goes_in2 h)).mono ?_
  rw [range_ab]
  rintro e w2 ⟨rfl, hb2⟩
  have hB2 : Below w.heap.size w w2 := below_trans hB1 hb2 hB1.size
  have HM2 : Hid (Moved w2 w.heap.size key c arg) := HM1.out.below hb2
  clear Hu HM1 hb2 hB1
  have HB2 : Hid (Below w.heap.size w w2) := hB2
  obtain ⟨_, c0, c1, c2⟩ := HM2.out
  clear hB2
  go_wp2_with fail
  obtain ⟨G, hG⟩ : ∃ G, G = goes zs k c key arg false := ⟨_, rfl⟩
  have HG : Hid (G = goes zs k c key arg false) := hG
  refine (go_go _ zs k c key arg false w2 (Hp.out.below HB2.out)).mono ?_
  rw [← hG]
  clear hG c0 c1 c2
  rintro e w3 ⟨rfl, hb3⟩
  have HB3 : Hid (Below w.heap.size w w3) := below_trans HB2.out hb3 HB2.out.size
  have HM3 : Hid (Moved w3 w.heap.size key c arg) := HM2.out.below hb3
  clear HM2 HB2 hb3
  obtain ⟨x, y, z⟩ := G
  have HR : Hid (∀ w', Below w.heap.size w w' → Calls Try.prog 9 #[.slice a zs.length cap, .int .i64 k, .agg #[.int .i64 key, .int .i64 c, .int .i64 arg]] w' fun e w'' => RangePost (ranges zs k c key arg) w' e w'') := fun w' hb => range_go _ zs k c key arg w' (Hp.out.below hb) (fun x y h => goes_in2 h)
  have HI : Hid _ := ranges_in zs k c key arg
  obtain ⟨R, hR⟩ : ∃ R, R = ranges zs k c key arg := ⟨_, rfl⟩
  rw [← hR] at HR HI
  clear hR
  obtain ⟨f, t, e3⟩ := R
  obtain ⟨m0, c0, c1, c2⟩ := HM3.out
  clear m0
  by_cases h0 : z = 0
  · subst h0
    obtain ⟨h1, h2, h3, h4, h5, h6, h7⟩ := goes_in HG.out.symm
    have h8 := h6 rfl
    clear h7 h6 HG
    go_wp2_with fail
    all_goals (
      refine (HR.out w3 HB3.out).mono ?_
      rintro e w4 ⟨rfl, hb4⟩
      have HB4 : Hid (Below w.heap.size w w4) := below_trans HB3.out hb4 HB3.out.size
      clear hb4
      rcases HI.out with ⟨g1, g2, g3⟩ | ⟨g1, g2, g3, g4, g5⟩
      · have hzf : (e3 != 0) = true := by simpa using g1
        subst g2 g3
        clear g1 HI
        go_wp2_with fail
        go_ret
        exact ⟨rfl, HB4.out⟩
      · subst g1
        clear HI
        go_wp2_with fail
        go_ret
        exact ⟨rfl, HB4.out⟩)
  · have hzb : (z == 0) = false := by simpa using h0
    clear h0 HG
    go_wp2_with fail
    refine (HR.out w3 HB3.out).mono ?_
    rintro e w4 ⟨rfl, hb4⟩
    have HB4 : Hid (Below w.heap.size w w4) := below_trans HB3.out hb4 HB3.out.size
    clear hb4
    rcases HI.out with ⟨g1, g2, g3⟩ | ⟨g1, g2, g3, g4, g5⟩
    · have hzf : (e3 != 0) = true := by simpa using g1
      subst g2 g3
      clear g1 HI
      go_wp2_with fail
      go_ret
      exact ⟨rfl, HB4.out⟩
    · subst g1
      clear HI
      go_wp2_with fail
      go_ret
      exact ⟨rfl, HB4.out⟩
end Go.Proofs.Ytobcohgfpbmahaa.Seek
