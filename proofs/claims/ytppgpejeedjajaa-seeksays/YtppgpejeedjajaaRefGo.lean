/- The document's own Border and Places. -/
import Derived.Test.YtppgpejeedjajaaAllGo
import Derived.Test.YtppgpejeedjajaaLists
set_option linter.unusedVariables false
set_option linter.unusedSimpArgs false
namespace Go.Proofs.Ytppgpejeedjajaa.Seek
open Go.RowKit

set_option maxHeartbeats 1000000 in
theorem border_some (b off cap : Nat) (ps : List Int) (w : World) (hpos : 0 < ps.length) (hpl : ps.length ≤ 4096) (hb : b < w.heap.size) (hcap : ps.length ≤ cap) (hm : cap ≤ maxLen)
    (hc : ∀ j, j < ps.length → w.cell? ⟨b, off + j, none⟩ = some (.int .i64 (ps.getD j 0))) :
    Calls Try.prog 12 #[.slice (some ⟨b, off, none⟩) ps.length cap] w fun e w' => e = .returned (.int .i64 ((Plain.lb (fn ps) ps.length : Nat) : Int)) ∧ ∃ q, w' = w.drewN q := by
  have Hc : Hid (∀ j, j < ps.length → w.cell? ⟨b, off + j, none⟩ = some (.int .i64 (ps.getD j 0))) := hc
  clear hc
  unfold maxLen at hm
  go_enter Try.func12, Try.ntmps12
  go_wp2_with fail
  go_loopw [3] (fun u wr => ∃ k : Nat, u = .int .i64 (k : Int) ∧ k < ps.length ∧ Hid (∀ m, Plain.Bord (fn ps) ps.length m → m ≤ k) ∧ ∃ q, wr = w.drewN q) (fun u _ => (intOf u).toNat)
  case atStart => exact ⟨ps.length - 1, by go_num, by omega, (fun m hm => by have := hm.1; omega), 0, rfl⟩
  case round =>
    obtain ⟨k, rfl, hk, Hk, hq⟩ := hrel
    have Hq : Hid (∃ q, wr = w.drewN q) := hq
    have Hcr : Hid (∀ j, j < ps.length → wr.cell? ⟨b, off + j, none⟩ = some (.int .i64 (ps.getD j 0))) := by
      obtain ⟨q, rfl⟩ := hq
      exact Hc.out
    have hbr : b < wr.heap.size := by
      obtain ⟨q, rfl⟩ := hq
      exact hb
    clear hq
    by_cases hk0 : k = 0
    · subst hk0
      go_wp2_with fail
      go_ret
      refine ⟨?_, Hq.out⟩
      rw [Plain.lb_of ⟨Plain.bord_zero _ _ hpos, Hk.out⟩]
      rfl
    · have h1 : Reads wr (.slice (some ⟨b, off, none⟩) k cap) (ps.take k) := by
        have := reads_part Hcr.out hbr 0 k cap (by omega) (by omega) hm
        rw [Nat.add_zero, List.drop_zero] at this
        exact this
      have h2 : Reads wr (.slice (some ⟨b, off + (ps.length - k), none⟩) k (cap - (ps.length - k))) ((ps.drop (ps.length - k)).take k) := reads_part Hcr.out hbr (ps.length - k) k _ (by omega) (by omega) (by unfold maxLen; omega)
      have hcall : ∀ q2, Calls Try.prog 14 #[.slice (some ⟨b, off, none⟩) k cap, .slice (some ⟨b, off + (ps.length - k), none⟩) k (cap - (ps.length - k))] (wr.drewN q2) fun e w' => e = .returned (.bool (ps.take k == (ps.drop (ps.length - k)).take k)) ∧ ∃ m, w' = (wr.drewN q2).drewN m := fun q2 =>
        equal_any _ _ _ _ _ (h1.drewN q2) (h2.drewN q2) (by rw [List.length_take]; unfold maxLen; omega) (by rw [List.length_take, List.length_drop]; unfold maxLen; omega)
      have Hcall : Hid _ := hcall
      have Hbl : Hid ((ps.take k == (ps.drop (ps.length - k)).take k) = true ↔ Plain.Bord (fn ps) ps.length k) := bord_lists ps k hk
      clear hcall h1 h2
      generalize (ps.take k == (ps.drop (ps.length - k)).take k) = t at Hcall Hbl
      have hI1 : (k : Int) ≤ (cap : Int) := by omega
      have hI2 : (0 : Int) ≤ (ps.length : Int) - (k : Int) := by omega
      have hI3 : (ps.length : Int) - (k : Int) ≤ (ps.length : Int) := by omega
      have hI4 : (0 : Int) ≤ (k : Int) := by omega
      have hW1 : IntKind.i64.wrap ((ps.length : Int) - (k : Int)) = (ps.length : Int) - (k : Int) := IntWalk.i64_in _ ⟨by omega, by omega⟩
      have hW2 : ((ps.length : Int) - (k : Int)).toNat = ps.length - k := by omega
      have hW3 : ps.length - (ps.length - k) = k := by omega
      have hI5 : (k : Int) ≤ (ps.length : Int) := by omega
      have hI6 : ¬ cap = ps.length - k := by omega
      go_wp2_with fail
      go_quiet ((go_at_call 14; refine Calls.quiet_of (Hcall.out _)))
      cases t with
      | true =>
        have Hb : Hid (Plain.Bord (fn ps) ps.length k) := Hbl.out.1 rfl
        go_wp2_with fail
        go_ret
        refine ⟨?_, (by obtain ⟨q, hq⟩ := Hq.out; exact ⟨q + nq, by rw [hq, World.drewN_drewN]⟩)⟩
        rw [Plain.lb_of ⟨Hb.out, Hk.out⟩]
        rfl
      | false =>
        have Hk2 : Hid (∀ m, Plain.Bord (fn ps) ps.length m → m ≤ k - 1) := fun m hm => by
          have h1 := Hk.out m hm
          have h2 : m ≠ k := fun e => by
            rw [e] at hm
            exact absurd (Hbl.out.2 hm) (by decide)
          omega
        go_wp2_with fail
        go_roundw
        case rel => exact ⟨k - 1, by go_num, by omega, Hk2.out, (by obtain ⟨q, hq⟩ := Hq.out; exact ⟨q + nq, by rw [hq, World.drewN_drewN]⟩)⟩
        case measure => simp [intOf]; omega

theorem stands_lists (ps ss : List Int) (i : Nat) (h : i + ps.length ≤ ss.length) : (ps == (ss.drop i).take ps.length) = Plain.stb (fn ps) (fn ss) ps.length i := by
  rw [Bool.eq_iff_iff, Plain.stb_true, beq_iff_eq]
  unfold Plain.Stands fn
  constructor
  · intro he j hj
    have := congrArg (fun l : List Int => l.getD j 0) he
    simpa [List.getD_eq_getElem?_getD, List.getElem?_take, hj, List.getElem?_drop] using this
  · intro hj
    apply List.ext_getElem?
    intro j
    rw [List.getElem?_take, List.getElem?_drop]
    split
    · rename_i hjk
      have := hj j hjk
      rw [List.getD_eq_getElem?_getD, List.getD_eq_getElem?_getD, List.getElem?_eq_getElem (by omega), List.getElem?_eq_getElem (by omega)] at this
      rw [List.getElem?_eq_getElem (by omega), List.getElem?_eq_getElem (by omega)]
      simpa using this
    · rw [List.getElem?_eq_none (by omega)]
theorem spts_zero (ps ss : List Int) : spts ps ss 0 = [] := rfl
theorem spts_yes (ps ss : List Int) (i : Nat) (h : Plain.stb (fn ps) (fn ss) ps.length i = true) : spts ps ss (i + 1) = spts ps ss i ++ [(i : Int)] := by
  unfold spts
  rw [Plain.spots_succ, if_pos h, List.map_append]
  rfl
theorem spts_no (ps ss : List Int) (i : Nat) (h : Plain.stb (fn ps) (fn ss) ps.length i = false) : spts ps ss (i + 1) = spts ps ss i := by
  unfold spts
  rw [Plain.spots_succ, if_neg (by rw [h]; decide)]

/-- The answer of Places. -/
def PlacesPost (ps ss : List Int) (w : World) (e : Ending) (w' : World) : Prop :=
  Below w.heap.size w w' ∧ ∃ v, e = .returned v ∧ w'.ownsRow w.heap.size 3 1 v (plist ps ss).length (ints (plist ps ss))

set_option maxHeartbeats 1000000 in
theorem places_none (a1 a2 : Option Addr) (c1 c2 : Nat) (ps : List Int) (w : World) (hpos : 0 < ps.length) (hpl : ps.length ≤ 4096) :
    Calls Try.prog 13 #[.slice a1 ps.length c1, .slice a2 0 c2] w fun e w' => PlacesPost ps [] w e w' := by
  have He : Hid (plist ps [] = []) := by
    show plist ps [] = []
    unfold plist Plain.places
    rw [List.length_nil, show 0 + 1 - ps.length = 0 by omega]
    rfl
  have hne1 : ¬ (ps.length : Int) ≤ 0 := by omega
  have hne2 : ¬ ps = [] := fun h => by rw [h] at hpos; exact absurd hpos (by decide)
  go_enter Try.func13, Try.ntmps13
  go_wp2_with fail
  refine wp_loop_rounds 1 ?_
  rw [rounds_succ]
  go_wp2_with fail
  go_ret
  refine ⟨Below.refl _ _, _, rfl, ?_⟩
  rw [He.out]
  exact World.ownsRow_nil _ _ _ _

set_option maxHeartbeats 2000000 in
theorem places_some (b1 o1 c1 b2 o2 c2 : Nat) (ps ss : List Int) (w : World) (hpos : 0 < ps.length) (hpl : ps.length ≤ 4096) (hsl : ss.length ≤ 4096) (hcap1 : ps.length ≤ c1) (hm1 : c1 ≤ maxLen) (hcap2 : ss.length ≤ c2) (hm2 : c2 ≤ maxLen)
    (hb1 : b1 < w.heap.size) (hb2 : b2 < w.heap.size)
    (hc1 : ∀ j, j < ps.length → w.cell? ⟨b1, o1 + j, none⟩ = some (.int .i64 (ps.getD j 0))) (hc2 : ∀ j, j < ss.length → w.cell? ⟨b2, o2 + j, none⟩ = some (.int .i64 (ss.getD j 0))) :
    Calls Try.prog 13 #[.slice (some ⟨b1, o1, none⟩) ps.length c1, .slice (some ⟨b2, o2, none⟩) ss.length c2] w fun e w' => PlacesPost ps ss w e w' := by
  obtain ⟨i0, hi, hz0, hz1, hz2⟩ := info_parts info3
  have Hc1 : Hid (∀ j, j < ps.length → w.cell? ⟨b1, o1 + j, none⟩ = some (.int .i64 (ps.getD j 0))) := hc1
  have Hc2 : Hid (∀ j, j < ss.length → w.cell? ⟨b2, o2 + j, none⟩ = some (.int .i64 (ss.getD j 0))) := hc2
  clear hc1 hc2
  go_enter Try.func13, Try.ntmps13
  go_wp2_with fail
  go_loopw [5, 6] (fun u5 u6 wr => ∃ i : Nat, u6 = .int .i64 (i : Int) ∧ i ≤ ss.length + 1 - ps.length ∧ wr.ownsRow w.heap.size 3 1 u5 (spts ps ss i).length (ints (spts ps ss i)) ∧ Below w.heap.size w wr)
    (fun _ u _ => ss.length + 1 - (intOf u).toNat)
  case atStart => exact ⟨0, rfl, by omega, World.ownsRow_nil _ _ _ _, Below.refl _ _⟩
  case round =>
    obtain ⟨i, rfl, hile, hown, hbr⟩ := hrel
    have hspl := spts_len ps ss i
    have hbs := hbr.size
    by_cases hin : i + ps.length ≤ ss.length
    · have Hst : Hid ((ps == (ss.drop i).take ps.length) = Plain.stb (fn ps) (fn ss) ps.length i) := stands_lists ps ss i hin
      have hr1 : Reads wr (.slice (some ⟨b1, o1, none⟩) ps.length c1) ps := .inr ⟨b1, o1, c1, rfl, hcap1, hm1, by omega, fun j hj => (hbr.cell (by exact hb1)).trans (Hc1.out j hj)⟩
      have hr2 : Reads wr (.slice (some ⟨b2, o2 + i, none⟩) ps.length (c2 - i)) ((ss.drop i).take ps.length) := reads_part (fun j hj => (hbr.cell (by exact hb2)).trans (Hc2.out j hj)) (by omega) i ps.length _ (by omega) (by omega) (by omega)
      have hcall := equal_any _ _ _ _ wr hr1 hr2 (by unfold maxLen; omega) (by rw [List.length_take]; unfold maxLen; omega)
      rw [Hst.out] at hcall
      have Hcall : Hid _ := hcall
      clear hcall hr1 hr2
      have hI1 : (i : Int) + (ps.length : Int) ≤ (c2 : Int) := by omega
      have hI2 : ¬ c2 = i := by omega
      have hI3 : ((i : Int) + (ps.length : Int)).toNat = i + ps.length := by omega
      have hI4 : i + ps.length - i = ps.length := by omega
      cases hst : Plain.stb (fn ps) (fn ss) ps.length i with
      | true =>
        rw [hst] at Hcall
        have Hsp : Hid (spts ps ss (i + 1) = spts ps ss i ++ [(i : Int)]) := spts_yes ps ss i hst
        have hn1 : (spts ps ss i ++ [(i : Int)]).length = (spts ps ss i).length + 1 := by simp
        clear hst Hst
        go_wp2_with fail
        refine Calls.mono Hcall.out ?_
        rintro e w4 ⟨rfl, q, hw4⟩
        have hown4 : w4.ownsRow w.heap.size 3 1 u5 (spts ps ss i).length (ints (spts ps ss i)) := by rw [hw4]; exact hown
        have hb4 : Below w.heap.size w w4 := by rw [hw4]; exact below_drewN hbr q
        have hbs4 := hb4.size
        clear hown hbr hw4 Hcall
        go_wp2_with (at_builtin; refine wpList_append_own _ rfl _ _ 22 rfl w.heap.size 3 i0 (.int .i64 0) 1 8 Try.underlying22 hi hz0 hz1 hz2 rfl (by decide) _ _ _ rfl (hown4.alloc _) ⟨w4.heap.size, 0, none⟩ 1 1 [.int .i64 (i : Int)] rfl rfl ?c1 ?c2 ?c3 ?c4 ?c5 ?_)
        case c1 =>
          intro j u hj
          match j, hj with
          | 0, hj => simp at hj; subst hj; simp [Addr.add]
        case c2 => intro u hu; simp at hu; subst hu; rfl
        case c3 => unfold maxLen; omega
        case c4 => omega
        case c5 => simp; omega
        intro v' w5 hown' hgrow _
        have hb5 : Below w.heap.size w w5 := (hb4.alloc hb4.size _).grown hgrow (by simp; omega) (fun j hj => (hown4.lt j hj).1)
        have Ho5 : Hid (w5.ownsRow w.heap.size 3 1 v' (spts ps ss (i + 1)).length (ints (spts ps ss (i + 1)))) := by
          show World.ownsRow _ _ _ _ _ _ _
          rw [Hsp.out, hn1]
          unfold ints at hown' ⊢
          rw [List.map_append]
          exact hown'
        clear hown' hgrow hown4 hb4
        go_wp2_with fail
        go_roundw
        case rel => exact ⟨i + 1, by go_num, by omega, Ho5.out, hb5⟩
        case measure => simp [intOf]; omega
      | false =>
        rw [hst] at Hcall
        have Hsp : Hid (spts ps ss (i + 1) = spts ps ss i) := spts_no ps ss i hst
        clear hst Hst
        go_wp2_with fail
        refine Calls.mono Hcall.out ?_
        rintro e w4 ⟨rfl, q, hw4⟩
        have hb4 : Below w.heap.size w w4 := by rw [hw4]; exact below_drewN hbr q
        have Ho4 : Hid (w4.ownsRow w.heap.size 3 1 u5 (spts ps ss (i + 1)).length (ints (spts ps ss (i + 1)))) := by
          show World.ownsRow _ _ _ _ _ _ _
          rw [Hsp.out, hw4]
          exact hown
        clear hown hbr hw4 Hcall
        go_wp2_with fail
        go_roundw
        case rel => exact ⟨i + 1, by go_num, by omega, Ho4.out, hb4⟩
        case measure => simp [intOf]; omega
    · have hie : i = ss.length + 1 - ps.length := by omega
      have Ho : Hid (wr.ownsRow w.heap.size 3 1 u5 (plist ps ss).length (ints (plist ps ss))) := by
        rw [hie] at hown
        exact hown
      clear hown hie
      go_wp2_with fail
      go_ret
      exact ⟨hbr, _, rfl, Ho.out⟩

set_option maxHeartbeats 2000000 in
theorem places_nil (a1 a2 : Option Addr) (c1 c2 : Nat) (ss : List Int) (w : World) (hsl : ss.length ≤ 4096) (hcap2 : ss.length ≤ c2) :
    Calls Try.prog 13 #[.slice a1 0 c1, .slice a2 ss.length c2] w fun e w' => PlacesPost [] ss w e w' := by
  obtain ⟨i0, hi, hz0, hz1, hz2⟩ := info_parts info3
  go_enter Try.func13, Try.ntmps13
  go_wp2_with fail
  go_loopw [5, 6] (fun u5 u6 wr => ∃ i : Nat, u6 = .int .i64 (i : Int) ∧ i ≤ ss.length + 1 ∧ wr.ownsRow w.heap.size 3 1 u5 (spts [] ss i).length (ints (spts [] ss i)) ∧ Below w.heap.size w wr)
    (fun _ u _ => ss.length + 1 - (intOf u).toNat)
  case atStart => exact ⟨0, rfl, by omega, World.ownsRow_nil _ _ _ _, Below.refl _ _⟩
  case round =>
    obtain ⟨i, rfl, hile, hown, hbr⟩ := hrel
    have hspl := spts_len [] ss i
    have hbs := hbr.size
    by_cases hin : i ≤ ss.length
    · have hst : Plain.stb (fn []) (fn ss) 0 i = true := (Plain.stb_true _ _ _ _).2 (fun j hj => absurd hj (by omega))
      have Hsp : Hid (spts [] ss (i + 1) = spts [] ss i ++ [(i : Int)]) := spts_yes [] ss i hst
      have hn1 : (spts [] ss i ++ [(i : Int)]).length = (spts [] ss i).length + 1 := by simp
      clear hst
      have hI1 : (i : Int) ≤ (c2 : Int) := by omega
      rcases (show (c2 = i) = True ∨ (c2 = i) = False from by by_cases h : c2 = i; exact .inl (eq_true h); exact .inr (eq_false h)) with hci | hci
      all_goals (
        go_wp2_with fail
        refine (Try.slices_Equal_int_empty _ _ _ 0 _ wr (by decide)).mono ?_
        rintro e w4 ⟨rfl, hw4⟩
        rw [hw4]
        clear hw4 w4
        go_wp2_with (at_builtin; refine wpList_append_own _ rfl _ _ 22 rfl w.heap.size 3 i0 (.int .i64 0) 1 8 Try.underlying22 hi hz0 hz1 hz2 rfl (by decide) _ _ _ rfl (hown.alloc _) ⟨wr.heap.size, 0, none⟩ 1 1 [.int .i64 (i : Int)] rfl rfl ?c1 ?c2 ?c3 ?c4 ?c5 ?_)
        case c1 =>
          intro j u hj
          match j, hj with
          | 0, hj => simp at hj; subst hj; simp [Addr.add]
        case c2 => intro u hu; simp at hu; subst hu; rfl
        case c3 => unfold maxLen; omega
        case c4 => omega
        case c5 => simp; omega
        intro v' w5 hown' hgrow _
        have hb5 : Below w.heap.size w w5 := (hbr.alloc hbr.size _).grown hgrow (by simp; omega) (fun j hj => (hown.lt j hj).1)
        have Ho5 : Hid (w5.ownsRow w.heap.size 3 1 v' (spts [] ss (i + 1)).length (ints (spts [] ss (i + 1)))) := by
          show World.ownsRow _ _ _ _ _ _ _
          rw [Hsp.out, hn1]
          unfold ints at hown' ⊢
          rw [List.map_append]
          exact hown'
        clear hown' hgrow hown hbr
        go_wp2_with fail
        go_roundw
        case rel => exact ⟨i + 1, by go_num, by omega, Ho5.out, hb5⟩
        case measure => simp [intOf]; omega)
    · have hie : i = ss.length + 1 := by omega
      have Ho : Hid (wr.ownsRow w.heap.size 3 1 u5 (plist [] ss).length (ints (plist [] ss))) := by
        rw [hie] at hown
        exact hown
      clear hown hie
      go_wp2_with fail
      go_ret
      exact ⟨hbr, _, rfl, Ho.out⟩

theorem places_any (v vs : Value) (ps ss : List Int) (w : World) (hp : Reads w v ps) (hs : Reads w vs ss) (hpl : ps.length ≤ 4096) (hsl : ss.length ≤ 4096) :
    Calls Try.prog 13 #[v, vs] w fun e w' => PlacesPost ps ss w e w' := by
  rcases hp with ⟨a1, c1, rfl, rfl⟩ | ⟨b1, o1, c1, rfl, hcap1, hm1, hb1, hc1⟩
  · rcases hs with ⟨a2, c2, rfl, rfl⟩ | ⟨b2, o2, c2, rfl, hcap2, hm2, hb2, hc2⟩
    · exact places_nil a1 a2 c1 c2 [] w hsl (Nat.zero_le _)
    · exact places_nil a1 _ c1 c2 ss w hsl hcap2
  · by_cases hp0 : ps.length = 0
    · obtain rfl := List.length_eq_zero_iff.1 hp0
      obtain ⟨a2, c2, hv⟩ := hs.shape
      rcases hs with ⟨a2, c2, rfl, rfl⟩ | ⟨b2, o2, c2, rfl, hcap2, hm2, hb2, hc2⟩
      · exact places_nil _ a2 c1 c2 [] w hsl (Nat.zero_le _)
      · exact places_nil _ _ c1 c2 ss w hsl hcap2
    · rcases hs with ⟨a2, c2, rfl, rfl⟩ | ⟨b2, o2, c2, rfl, hcap2, hm2, hb2, hc2⟩
      · exact places_none _ a2 c1 c2 ps w (by omega) hpl
      · exact places_some b1 o1 c1 b2 o2 c2 ps ss w (by omega) hpl hsl hcap1 hm1 hcap2 hm2 hb1 hb2 hc1 hc2
end Go.Proofs.Ytppgpejeedjajaa.Seek
