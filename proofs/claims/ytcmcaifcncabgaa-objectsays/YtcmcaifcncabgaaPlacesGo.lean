/- The document's own Places, of a word that is not empty. -/
import Derived.Test.YtcmcaifcncabgaaFound
import Derived.Test.YtcmcaifcncabgaaLists
set_option linter.unusedVariables false
set_option linter.unusedSimpArgs false
namespace Go.Proofs.Ytcmcaifcncabgaa.Seek
open Go.RowKit
def plist (ps ss : List Int) : List Int := (Plain.places (fn ps) (fn ss) ps.length ss.length).map fun (k : Nat) => (k : Int)
def spts (ps ss : List Int) (N : Nat) : List Int := (Plain.spots (Plain.stb (fn ps) (fn ss) ps.length) N).map fun (k : Nat) => (k : Int)
theorem spts_len (ps ss : List Int) (N : Nat) : (spts ps ss N).length ≤ N := by unfold spts; rw [List.length_map]; exact Plain.spots_len _ _
theorem stands_lists (ps ss : List Int) (i : Nat) (h : i + ps.length ≤ ss.length) : (ps == (ss.drop i).take ps.length) = Plain.stb (fn ps) (fn ss) ps.length i := by
  rw [Bool.eq_iff_iff, Plain.stb_true, beq_iff_eq]
  unfold Plain.Stands fn
  constructor
  · intro he j hj
    have := congrArg (fun l : List Int => l.getD j 0) he
    simpa [List.getD_eq_getElem?_getD, List.getElem?_take, hj, List.getElem?_drop] using this
  · intro hj
    apply List.ext_getElem?
    intro j
    rw [List.getElem?_take, List.getElem?_drop]
    split
    · rename_i hjk
      have := hj j hjk
      rw [List.getD_eq_getElem?_getD, List.getD_eq_getElem?_getD, List.getElem?_eq_getElem (by omega), List.getElem?_eq_getElem (by omega)] at this
      rw [List.getElem?_eq_getElem (by omega), List.getElem?_eq_getElem (by omega)]
      simpa using this
    · rw [List.getElem?_eq_none (by omega)]
theorem spts_zero (ps ss : List Int) : spts ps ss 0 = [] := rfl
theorem spts_yes (ps ss : List Int) (i : Nat) (h : Plain.stb (fn ps) (fn ss) ps.length i = true) : spts ps ss (i + 1) = spts ps ss i ++ [(i : Int)] := by
  unfold spts
  rw [Plain.spots_succ, if_pos h, List.map_append]
  rfl
theorem spts_no (ps ss : List Int) (i : Nat) (h : Plain.stb (fn ps) (fn ss) ps.length i = false) : spts ps ss (i + 1) = spts ps ss i := by
  unfold spts
  rw [Plain.spots_succ, if_neg (by rw [h]; decide)]

/-- The answer of Places. -/
def PlacesPost (ps ss : List Int) (w : World) (e : Ending) (w' : World) : Prop :=
  Below w.heap.size w w' ∧ ∃ v, e = .returned v ∧ w'.ownsRow w.heap.size 3 1 v (plist ps ss).length (ints (plist ps ss))

set_option maxHeartbeats 1000000 in
theorem places_none (a1 a2 : Option Addr) (c1 c2 : Nat) (ps : List Int) (w : World) (hpos : 0 < ps.length) (hpl : ps.length ≤ 4096) :
    Calls Try.prog 20 #[.slice a1 ps.length c1, .slice a2 0 c2] w fun e w' => PlacesPost ps [] w e w' := by
  have He : Hid (plist ps [] = []) := by
    show plist ps [] = []
    unfold plist Plain.places
    rw [List.length_nil, show 0 + 1 - ps.length = 0 by omega]
    rfl
  have hne1 : ¬ (ps.length : Int) ≤ 0 := by omega
  have hne2 : ¬ ps = [] := fun h => by rw [h] at hpos; exact absurd hpos (by decide)
  go_enter Try.func20, Try.ntmps20
  go_wp2_with fail
  refine wp_loop_rounds 1 ?_
  rw [rounds_succ]
  go_wp2_with fail
  go_ret
  refine ⟨Below.refl _ _, _, rfl, ?_⟩
  rw [He.out]
  exact World.ownsRow_nil _ _ _ _

set_option maxHeartbeats 2000000 in
theorem places_some (b1 o1 c1 b2 o2 c2 : Nat) (ps ss : List Int) (w : World) (hpos : 0 < ps.length) (hpl : ps.length ≤ 4096) (hsl : ss.length ≤ 4096) (hcap1 : ps.length ≤ c1) (hm1 : c1 ≤ maxLen) (hcap2 : ss.length ≤ c2) (hm2 : c2 ≤ maxLen)
    (hb1 : b1 < w.heap.size) (hb2 : b2 < w.heap.size)
    (hc1 : ∀ j, j < ps.length → w.cell? ⟨b1, o1 + j, none⟩ = some (.int .i64 (ps.getD j 0))) (hc2 : ∀ j, j < ss.length → w.cell? ⟨b2, o2 + j, none⟩ = some (.int .i64 (ss.getD j 0))) :
    Calls Try.prog 20 #[.slice (some ⟨b1, o1, none⟩) ps.length c1, .slice (some ⟨b2, o2, none⟩) ss.length c2] w fun e w' => PlacesPost ps ss w e w' := by
  obtain ⟨i0, hi, hz0, hz1, hz2⟩ := info_parts info3
  have Hc1 : Hid (∀ j, j < ps.length → w.cell? ⟨b1, o1 + j, none⟩ = some (.int .i64 (ps.getD j 0))) := hc1
  have Hc2 : Hid (∀ j, j < ss.length → w.cell? ⟨b2, o2 + j, none⟩ = some (.int .i64 (ss.getD j 0))) := hc2
  clear hc1 hc2
  go_enter Try.func20, Try.ntmps20
  go_wp2_with fail
  go_loopw [5, 6] (fun u5 u6 wr => ∃ i : Nat, u6 = .int .i64 (i : Int) ∧ i ≤ ss.length + 1 - ps.length ∧ wr.ownsRow w.heap.size 3 1 u5 (spts ps ss i).length (ints (spts ps ss i)) ∧ Below w.heap.size w wr)
    (fun _ u _ => ss.length + 1 - (intOf u).toNat)
  case atStart => exact ⟨0, rfl, by omega, World.ownsRow_nil _ _ _ _, Below.refl _ _⟩
  case round =>
    obtain ⟨i, rfl, hile, hown, hbr⟩ := hrel
    have hspl := spts_len ps ss i
    have hbs := hbr.size
    by_cases hin : i + ps.length ≤ ss.length
    · have Hst : Hid ((ps == (ss.drop i).take ps.length) = Plain.stb (fn ps) (fn ss) ps.length i) := stands_lists ps ss i hin
      have hr1 : Reads wr (.slice (some ⟨b1, o1, none⟩) ps.length c1) ps := .inr ⟨b1, o1, c1, rfl, hcap1, hm1, by omega, fun j hj => (hbr.cell (by exact hb1)).trans (Hc1.out j hj)⟩
      have hr2 : Reads wr (.slice (some ⟨b2, o2 + i, none⟩) ps.length (c2 - i)) ((ss.drop i).take ps.length) := reads_part (fun j hj => (hbr.cell (by exact hb2)).trans (Hc2.out j hj)) (by omega) i ps.length _ (by omega) (by omega) (by omega)
      have hcall := equal_any _ _ _ _ wr hr1 hr2 (by unfold maxLen; omega) (by rw [List.length_take]; unfold maxLen; omega)
      rw [Hst.out] at hcall
      have Hcall : Hid _ := hcall
      clear hcall hr1 hr2
      have hI1 : (i : Int) + (ps.length : Int) ≤ (c2 : Int) := by omega
      have hI2 : ¬ c2 = i := by omega
      have hI3 : ((i : Int) + (ps.length : Int)).toNat = i + ps.length := by omega
      have hI4 : i + ps.length - i = ps.length := by omega
      cases hst : Plain.stb (fn ps) (fn ss) ps.length i with
      | true =>
        rw [hst] at Hcall
        have Hsp : Hid (spts ps ss (i + 1) = spts ps ss i ++ [(i : Int)]) := spts_yes ps ss i hst
        have hn1 : (spts ps ss i ++ [(i : Int)]).length = (spts ps ss i).length + 1 := by simp
        clear hst Hst
        go_wp2_with fail
        refine Calls.mono Hcall.out ?_
        rintro e w4 ⟨rfl, q, hw4⟩
        have hown4 : w4.ownsRow w.heap.size 3 1 u5 (spts ps ss i).length (ints (spts ps ss i)) := by rw [hw4]; exact hown
        have hb4 : Below w.heap.size w w4 := by rw [hw4]; exact below_drewN hbr q
        have hbs4 := hb4.size
        clear hown hbr hw4 Hcall
        go_wp2_with (at_builtin; refine wpList_append_own _ rfl _ _ 22 rfl w.heap.size 3 i0 (.int .i64 0) 1 8 Try.underlying22 hi hz0 hz1 hz2 rfl (by decide) _ _ _ rfl (hown4.alloc _) ⟨w4.heap.size, 0, none⟩ 1 1 [.int .i64 (i : Int)] rfl rfl ?c1 ?c2 ?c3 ?c4 ?c5 ?_)
        case c1 =>
          intro j u hj
          match j, hj with
          | 0, hj => simp at hj; subst hj; simp [Addr.add]
        case c2 => intro u hu; simp at hu; subst hu; rfl
        case c3 => unfold maxLen; omega
        case c4 => omega
        case c5 => simp; omega
        intro v' w5 hown' hgrow _
        have hb5 : Below w.heap.size w w5 := (hb4.alloc hb4.size _).grown hgrow (by simp; omega) (fun j hj => (hown4.lt j hj).1)
        have Ho5 : Hid (w5.ownsRow w.heap.size 3 1 v' (spts ps ss (i + 1)).length (ints (spts ps ss (i + 1)))) := by
          show World.ownsRow _ _ _ _ _ _ _
          rw [Hsp.out, hn1]
          unfold ints at hown' ⊢
          rw [List.map_append]
          exact hown'
        clear hown' hgrow hown4 hb4
        go_wp2_with fail
        go_roundw
        case rel => exact ⟨i + 1, by go_num, by omega, Ho5.out, hb5⟩
        case measure => simp [intOf]; omega
      | false =>
        rw [hst] at Hcall
        have Hsp : Hid (spts ps ss (i + 1) = spts ps ss i) := spts_no ps ss i hst
        clear hst Hst
        go_wp2_with fail
        refine Calls.mono Hcall.out ?_
        rintro e w4 ⟨rfl, q, hw4⟩
        have hb4 : Below w.heap.size w w4 := by rw [hw4]; exact below_drewN hbr q
        have Ho4 : Hid (w4.ownsRow w.heap.size 3 1 u5 (spts ps ss (i + 1)).length (ints (spts ps ss (i + 1)))) := by
          show World.ownsRow _ _ _ _ _ _ _
          rw [Hsp.out, hw4]
          exact hown
        clear hown hbr hw4 Hcall
        go_wp2_with fail
        go_roundw
        case rel => exact ⟨i + 1, by go_num, by omega, Ho4.out, hb4⟩
        case measure => simp [intOf]; omega
    · have hie : i = ss.length + 1 - ps.length := by omega
      have Ho : Hid (wr.ownsRow w.heap.size 3 1 u5 (plist ps ss).length (ints (plist ps ss))) := by
        rw [hie] at hown
        exact hown
      clear hown hie
      go_wp2_with fail
      go_ret
      exact ⟨hbr, _, rfl, Ho.out⟩

end Go.Proofs.Ytcmcaifcncabgaa.Seek
