/- The walk of SeekJoins. -/
import Derived.Test.YtppgpejeedjajaaJoinsParts
import Derived.Maps.AppendAt
set_option linter.unusedVariables false
set_option linter.unusedSimpArgs false
namespace Go.Proofs.Ytppgpejeedjajaa.Seek
open Go.RowKit

theorem Own.kept2 {w w' : World} {B : Nat} {v : Value} {zs : List Int} {row : Option Nat} (h : Own w B v zs) (hg : w.grownBy w' row) (hne : zs = [] ∨ v.ownBlock ≠ row) : Own w' B v zs := by
  rcases h with h | ⟨hz, g1, cap, hv, hB, hg1, h⟩
  · exact .inl h
  · exact .inr ⟨hz, g1, cap, hv, hB, Nat.lt_of_lt_of_le hg1 hg.size, h.kept hg (.inr (hne.resolve_left hz))⟩
/-- The first places and the first j of the second, moved. -/
def both (xa bs : List Int) (m j : Nat) : List Int := xa ++ (bs.take j).map fun z => z + (m : Int)
theorem both_step (xa bs : List Int) (m j : Nat) (h : j < bs.length) : both xa bs m (j + 1) = both xa bs m j ++ [bs.getD j 0 + (m : Int)] := by
  unfold both
  rw [List.take_succ_eq_append_getElem h, List.map_append, List.append_assoc, List.getD_eq_getElem?_getD, List.getElem?_eq_getElem h]
  rfl
theorem both_len (xa bs : List Int) (m j : Nat) : (both xa bs m j).length ≤ xa.length + bs.length := by
  unfold both
  rw [List.length_append, List.length_map, List.length_take]
  omega
theorem two_cells (w : World) (u1 u2 : Value) : (w.alloc (.cells #[u1, u2] 22)).cell? ⟨w.heap.size, 0, none⟩ = some u1 ∧ (w.alloc (.cells #[u1, u2] 22)).cell? ⟨w.heap.size, 1, none⟩ = some u2 := by
  unfold World.cell?
  simp only
  rw [show ∀ o, (w.alloc o).heap[w.heap.size]? = some o from fun o => by show (w.heap.push o)[w.heap.size]? = _; simp]
  exact ⟨rfl, rfl⟩
theorem one_cell (w : World) (u : Value) (t : TypeId) : (w.alloc (.cells #[u] t)).cell? ⟨w.heap.size, 0, none⟩ = some u := by
  unfold World.cell?
  simp only
  rw [show ∀ o, (w.alloc o).heap[w.heap.size]? = some o from fun o => by show (w.heap.push o)[w.heap.size]? = _; simp]
  rfl
theorem size_alloc (w : World) (o : Obj) : (w.alloc o).heap.size = w.heap.size + 1 := by show (w.heap.push _).size = _; simp
set_option maxRecDepth 100000 in
set_option maxHeartbeats 4000000 in
theorem joins_walk (v vs vt : Value) (ps ss ts : List Int) (w : World) (hp : Reads w v ps) (hs : Reads w vs ss) (ht : Reads w vt ts) (hpr : ps.length * 8 ≤ 140737488351232) (hsr : ss.length * 8 ≤ 140737488351232) (htr : ts.length * 8 ≤ 140737488351232) :
    Calls Try.prog 7 #[v, vs, vt] w fun e w' => e = .returned (.bool true) ∧ Below w.heap.size w w' := by
  obtain ⟨a1, c1, hv1⟩ := hp.shape
  obtain ⟨a2, c2, hv2⟩ := hs.shape
  obtain ⟨a3, c3, hv3⟩ := ht.shape
  subst hv1 hv2 hv3
  have Hpm : Hid (ps.length ≤ maxLen) := by show ps.length ≤ maxLen; unfold maxLen; omega
  have Hsm : Hid (ss.length ≤ maxLen) := by show ss.length ≤ maxLen; unfold maxLen; omega
  have Htm : Hid (ts.length ≤ maxLen) := by show ts.length ≤ maxLen; unfold maxLen; omega
  have Hstm : Hid ((ss ++ ts).length ≤ maxLen) := by show (ss ++ ts).length ≤ maxLen; rw [List.length_append]; unfold maxLen; omega
  have Hp : Hid (Reads w (.slice a1 ps.length c1) ps) := hp
  have Hs : Hid (Reads w (.slice a2 ss.length c2) ss) := hs
  have Ht : Hid (Reads w (.slice a3 ts.length c3) ts) := ht
  clear hp hs ht
  have hmf : ∀ (fn : Fn) (first cap : Array Value) (w : World), (Instr.makeFunc fn first cap).run Try.prog w = .ok (.func fn first cap) w := fun _ _ _ _ => rfl
  go_enter Try.func7, Try.ntmps7
  go_wp2_with fail
  refine (of_any ⟨#[97, 98]⟩ w (by decide)).mono ?_
  rintro e w1 ⟨hb1, v1, rfl, hown1⟩
  have hr1 := owned_reads hown1
  clear hown1
  go_wp2_with fail
  refine (of_any ⟨#[97, 98, 97, 98]⟩ w1 (by decide)).mono ?_
  rintro e w2 ⟨hb2, v2, rfl, hown2⟩
  have hr2 := owned_reads hown2
  have hr1' := hr1.below hb2
  have hB2 := below_trans hb1 hb2 hb1.size
  clear hown2 hr1 hb1 hb2
  go_wp2_with fail
  refine (all_own _ _ _ _ w2 hr1' hr2 (by decide) (by decide)).mono ?_
  rintro e w3 ⟨hb3, vl, er, ls, rfl, hol, h⟩
  obtain ⟨_, rfl, rfl⟩ := h.resolve_left (fun h => absurd h.1 (by decide))
  rw [plist_abab] at hol
  obtain ⟨d1, k1, hd⟩ := hol.reads.shape
  rw [show ([0, 2] : List Int).length = 2 from rfl] at hd
  subst hd
  have hB3 := below_trans hB2 hb3 hB2.size
  clear h hol hr1' hr2 hb3 hB2
  go_wp2_with fail
  have hw4 : ∃ w4, w4 = w3.alloc (.cells #[Value.slice a2 ss.length c2, Value.slice a3 ts.length c3] 22) := ⟨_, rfl⟩
  obtain ⟨w4, hw4⟩ := hw4
  rw [← hw4]
  have hq1 : w4.cell? ⟨w3.heap.size, 0, none⟩ = some (.slice a2 ss.length c2) := by rw [hw4]; exact (two_cells w3 _ _).1
  have hq2 : w4.cell? ⟨w3.heap.size, 1, none⟩ = some (.slice a3 ts.length c3) := by rw [hw4]; exact (two_cells w3 _ _).2
  have hs4 : w3.heap.size < w4.heap.size := by rw [hw4, size_alloc w3 _]; omega
  have hB4 : Below w.heap.size w w4 := by rw [hw4]; exact hB3.alloc hB3.size _
  clear hw4 hB3
  refine (concat_any w3.heap.size 2 _ _ ss ts w4 (by omega) hq1 hq2 (Hs.out.below hB4) (Ht.out.below hB4) hsr htr).mono ?_
  rintro e w5 ⟨hb5, vu, rfl, hou⟩
  have hB5 := below_trans hB4 hb5 hB4.size
  clear hq1 hq2 hb5 hB4
  go_wp2_with fail
  refine (all_own _ _ ps (ss ++ ts) w5 (Hp.out.below hB5) hou.reads Hpm.out Hstm.out).mono ?_
  rintro e w6 ⟨hb6, vl, er, ls, rfl, hol, hcase⟩
  have hB6 := below_trans hB5 hb6 hB5.size
  clear hou hb6 hB5
  obtain ⟨d2, k2, hd2⟩ := hol.reads.shape
  subst hd2
  have Hol : Hid (Own w6 w5.heap.size (.slice d2 ls.length k2) ls) := hol
  clear hol
  go_wp2_with fail
  obtain ⟨w7, hw7⟩ : ∃ w7, w7 = w6.alloc (.cells #[Value.slice d2 ls.length k2] 22) := ⟨_, rfl⟩
  rw [← hw7]
  have Hbx : Hid (w7.cell? ⟨w6.heap.size, 0, none⟩ = some (.slice d2 ls.length k2)) := by rw [hw7]; exact one_cell w6 _ 22
  have hs7 : w6.heap.size < w7.heap.size := by rw [hw7, size_alloc w6 _]; omega
  have hb67 : Below w6.heap.size w6 w7 := by rw [hw7]; exact (Below.refl _ _).alloc (Nat.le_refl _) _
  have hB7 := below_trans hB6 hb67 hB6.size
  have Hol7 : Hid (Own w7 w5.heap.size (.slice d2 ls.length k2) ls) := Hol.out.below hb67
  clear hw7 Hol hb67 hB6
  rcases hcase with ⟨hlg, he1, he2⟩ | ⟨hsm, he1, he2⟩
  · subst he1 he2
    refine (all_own _ _ ps ss w7 (Hp.out.below hB7) (Hs.out.below hB7) Hpm.out Hsm.out).mono ?_
    rintro e w8 ⟨hb8, va, ea, la, rfl, _, _⟩
    have hB8 := below_trans hB7 hb8 hB7.size
    clear hb8
    go_wp2_with fail
    refine (all_own _ _ ps ts w8 (Hp.out.below hB8) (Ht.out.below hB8) Hpm.out Htm.out).mono ?_
    rintro e w9 ⟨hb9, vb, eb, lb, rfl, _, _⟩
    have hB9 := below_trans hB8 hb9 hB8.size
    clear hb9
    go_wp2_with fail
    go_ret
    exact ⟨rfl, hB9⟩
  · rw [List.length_append] at hsm
    subst he1 he2
    refine (all_any _ _ ps ss w7 (Hp.out.below hB7) (Hs.out.below hB7) Hpm.out Hsm.out).mono ?_
    rintro e w8 ⟨hb8, h⟩
    obtain ⟨_, va, rfl, hoa⟩ := h.resolve_left (fun h => by omega)
    clear h
    have hB8 := below_trans hB7 hb8 hB7.size
    have Hoa : Hid (w8.ownsRow w7.heap.size 3 1 va (plist ps ss).length (ints (plist ps ss))) := hoa
    clear hoa
    go_wp2_with fail
    refine (all_any _ _ ps ts w8 (Hp.out.below hB8) (Ht.out.below hB8) Hpm.out Htm.out).mono ?_
    rintro e w9 ⟨hb9, h⟩
    obtain ⟨_, vb, rfl, hob⟩ := h.resolve_left (fun h => by omega)
    clear h
    have hB9 := below_trans hB8 hb9 hB8.size
    have hB79 : Below w7.heap.size w7 w9 := below_trans hb8 hb9 hb8.size
    have Hoa9 : Hid (w9.ownsRow w7.heap.size 3 1 va (plist ps ss).length (ints (plist ps ss))) := owned_below Hoa.out hb9
    have Hva : Hid (∀ g, va.ownBlock = some g → g < w8.heap.size) := fun g hg => (Hoa.out.lt g hg).2
    have hob2 : Own w9 w8.heap.size vb (plist ps ts) := own_of hob
    obtain ⟨d3, k3, hd3⟩ := hob2.reads.shape
    subst hd3
    have Hob : Hid (Own w9 w8.heap.size (.slice d3 (plist ps ts).length k3) (plist ps ts)) := hob2
    have Hrl : Hid (Reads w9 (.slice d2 (plist ps (ss ++ ts)).length k2) (plist ps (ss ++ ts))) := (Hol7.out.below hB79).reads
    have hbx9 : w9.cell? ⟨w6.heap.size, 0, none⟩ = some (.slice d2 (plist ps (ss ++ ts)).length k2) := (hB79.cell (by show w6.heap.size < _; omega)).trans Hbx.out
    have hll : (plist ps (ss ++ ts)).length ≤ 4097 := by have := plist_len ps (ss ++ ts); rw [List.length_append] at this; omega
    have hla : (plist ps ss).length ≤ 4097 := by have := plist_len ps ss; omega
    have hlb : (plist ps ts).length ≤ 4097 := by have := plist_len ps ts; omega
    clear hob hob2 hb8 hb9 Hoa hB8
    by_cases hp0 : ps.length = 0
    · rw [hp0]
      go_wp2_with fail
      go_ret
      exact ⟨rfl, hB9⟩
    · have hpz : ((ps.length : Int) == 0) = false := by simp; intro h; exact hp0 (by rw [h]; rfl)
      have Hja : Hid (∀ z ∈ plist ps (ss ++ ts), ∃ k : Nat, z = (k : Int) ∧ k ≤ ss.length + ts.length ∧ ((k + ps.length ≤ ss.length ∧ (plist ps ss).contains (k : Int) = true) ∨ (¬ k + ps.length ≤ ss.length ∧ ss.length ≤ k ∧ (plist ps ts).contains ((k : Int) - (ss.length : Int)) = true) ∨ (¬ k + ps.length ≤ ss.length ∧ ¬ ss.length ≤ k))) := fun z hz => joined_at hz
      have Hla : Hid (∀ z ∈ plist ps ss, (plist ps (ss ++ ts)).contains z = true) := fun z hz => of_left hz
      have Hlb : Hid (∀ z ∈ plist ps ts, (plist ps (ss ++ ts)).contains (z + (ss.length : Int)) = true) := fun z hz => of_right hz
      have Hbb : Hid (∀ z ∈ plist ps ts, 0 ≤ z ∧ z ≤ (ts.length : Int)) := fun z hz => plist_bounds ps ts z hz
      generalize plist ps (ss ++ ts) = ls at *
      generalize plist ps ss = xa at *
      generalize plist ps ts = bs at *
      go_wp2_with fail
      clear hbx9
      go_loop [70] (fun u => ∃ j : Nat, u = .int .i64 (j : Int) ∧ j ≤ ls.length) (fun u => ls.length - (intOf u).toNat)
      case atStart => exact ⟨0, rfl, by omega⟩
      case round =>
        obtain ⟨j, rfl, hj⟩ := hrel
        by_cases hlt : j < ls.length
        · rcases Hrl.out with ⟨_, _, _, rfl⟩ | ⟨b1, o1, k1', he1, _, _, _, hc1⟩
          · exact absurd hlt (by simp)
          have hcx := hc1 j hlt
          simp only [Value.slice.injEq] at he1
          obtain ⟨rfl, hz1, rfl⟩ := he1
          clear hz1 hc1
          obtain ⟨k, hk1, hk2, hk3⟩ := Hja.out _ (getD_mem2 ls j hlt)
          rw [hk1] at hcx
          clear hk1
          rcases hk3 with ⟨hq1, hq2⟩ | ⟨hq1, hq2, hq3⟩ | ⟨hq1, hq2⟩
          · have hcall := contains_any va xa (k : Int) w9 (owned_reads Hoa9.out) (by unfold maxLen; omega)
            rw [hq2] at hcall
            have Hcall : Hid _ := hcall
            clear hcall hq2
            go_wp2_with fail
            refine Calls.mono Hcall.out ?_
            rintro e w' ⟨rfl, rfl⟩
            go_wp2_with fail
            go_round
            case rel => exact ⟨j + 1, by go_num, by omega⟩
            case measure => simp [intOf]; omega
          · have hcall := contains_any _ bs ((k : Int) - (ss.length : Int)) w9 Hob.out.reads (by unfold maxLen; omega)
            rw [hq3] at hcall
            have Hcall : Hid _ := hcall
            clear hcall hq3
            go_wp2_with fail
            refine Calls.mono Hcall.out ?_
            rintro e w' ⟨rfl, rfl⟩
            go_wp2_with fail
            go_round
            case rel => exact ⟨j + 1, by go_num, by omega⟩
            case measure => simp [intOf]; omega
          · go_wp2_with fail
            go_round
            case rel => exact ⟨j + 1, by go_num, by omega⟩
            case measure => simp [intOf]; omega
        · obtain rfl : j = ls.length := by omega
          clear hj hlt
          obtain ⟨i0, hi, hz0, hz1, hz2⟩ := info_parts info3
          have Hgb : Hid (bs = [] ∨ ∃ g, Value.ownBlock (.slice d3 bs.length k3) = some g ∧ w8.heap.size ≤ g ∧ g < w9.heap.size) := by
            rcases Hob.out with ⟨_, _, _, h⟩ | ⟨_, g, cap, hv, hB, hg, _⟩
            · exact .inl h
            · exact .inr ⟨g, by rw [hv]; rfl, hB, hg⟩
          go_wp2_with fail
          go_loopw [11, 101] (fun u11 u101 wr => ∃ j : Nat, u101 = .int .i64 (j : Int) ∧ j ≤ bs.length ∧ wr.ownsRow w7.heap.size 3 1 u11 (both xa bs ss.length j).length (ints (both xa bs ss.length j)) ∧ Hid (Own wr w8.heap.size (.slice d3 bs.length k3) bs) ∧ Hid (∀ g, u11.ownBlock = some g → g < w8.heap.size ∨ w9.heap.size ≤ g) ∧ Below w7.heap.size w7 wr ∧ w9.heap.size ≤ wr.heap.size)
            (fun _ u _ => bs.length - (intOf u).toNat)
          case atStart =>
            refine ⟨0, rfl, by omega, ?_, Hob.out, fun g hg => .inl (Hva.out g hg), hB79, Nat.le_refl _⟩
            have : both xa bs ss.length 0 = xa := by unfold both; simp
            rw [this]
            exact Hoa9.out
          case round =>
            obtain ⟨j, rfl, hj, hown, Hb, Hg, hbr, hsz9⟩ := hrel
            have hbs := hbr.size
            have hcl := both_len xa bs ss.length j
            by_cases hlt : j < bs.length
            · rcases Hb.out.reads with ⟨_, _, _, rfl⟩ | ⟨b1, o1, k1', he1, _, _, _, hc1⟩
              · exact absurd hlt (by simp)
              have hcx := hc1 j hlt
              simp only [Value.slice.injEq] at he1
              obtain ⟨rfl, hz1, rfl⟩ := he1
              clear hz1 hc1
              have hzb := Hbb.out _ (getD_mem2 bs j hlt)
              have Hst : Hid (both xa bs ss.length (j + 1) = both xa bs ss.length j ++ [bs.getD j 0 + (ss.length : Int)]) := both_step xa bs ss.length j hlt
              generalize bs.getD j 0 = z at *
              have hn1 : (both xa bs ss.length j ++ [z + (ss.length : Int)]).length = (both xa bs ss.length j).length + 1 := by simp
              obtain ⟨hzb0, hzb1⟩ := hzb
              go_wp2_with (at_builtin; refine wpList_append_own_at _ rfl _ _ 22 rfl w7.heap.size 3 i0 (.int .i64 0) 1 8 Try.underlying22 hi hz0 hz1 hz2 rfl (by decide) _ _ _ rfl (hown.alloc _) ⟨wr.heap.size, 0, none⟩ 1 1 [.int .i64 (z + (ss.length : Int))] rfl rfl ?c1 ?c2 ?c3 ?c4 ?c5 ?_)
              case c1 =>
                intro j u hj
                match j, hj with
                | 0, hj => simp at hj; subst hj; simp [Addr.add]
              case c2 => intro u hu; simp at hu; subst hu; rfl
              case c3 => unfold maxLen; omega
              case c4 => omega
              case c5 => simp; omega
              intro v' w11 hown' hgrow _ hat
              have hb11 : Below w7.heap.size w7 w11 := (hbr.alloc hbr.size _).grown hgrow (by simp; omega) (fun j hj => (hown.lt j hj).1)
              have Ho11 : Hid (w11.ownsRow w7.heap.size 3 1 v' (both xa bs ss.length (j + 1)).length (ints (both xa bs ss.length (j + 1)))) := by
                show World.ownsRow _ _ _ _ _ _ _
                rw [Hst.out, hn1]
                unfold ints at hown' ⊢
                rw [List.map_append]
                exact hown'
              have hsz11 : w9.heap.size ≤ w11.heap.size := by
                have := hgrow.size
                rw [size_alloc] at this
                omega
              have Hb11 : Hid (Own w11 w8.heap.size (.slice (some ⟨b1, o1, none⟩) bs.length k3) bs) := by
                have h1 := Hb.out.below ((Below.refl _ wr).alloc (Nat.le_refl _) (Obj.cells #[Value.int IntKind.i64 (z + (ss.length : Int))] 3))
                refine h1.kept2 hgrow ?_
                rcases Hgb.out with h | ⟨g, hg1, hg2, hg3⟩
                · exact .inl h
                · refine .inr fun he => ?_
                  have := Hg.out g (by rw [← he]; exact hg1)
                  omega
              have Hg11 : Hid (∀ g, v'.ownBlock = some g → g < w8.heap.size ∨ w9.heap.size ≤ g) := fun g hg => by
                rcases hat with h | h
                · exact Hg.out g (by rw [← h]; exact hg)
                · rw [h] at hg
                  have := Option.some.inj hg
                  omega
              clear hown' hgrow hown hbr hat Hb Hg hcx
              go_wp2_with fail
              go_roundw
              case rel => exact ⟨j + 1, by go_num, by omega, Ho11.out, Hb11.out, Hg11.out, hb11, hsz11⟩
              case measure => simp [intOf]; omega
            · obtain rfl : j = bs.length := by omega
              have hBw : Below w.heap.size w wr := below_trans hB7 hbr hB7.size
              have hbox : wr.cell? ⟨w6.heap.size, 0, none⟩ = some (.slice d2 ls.length k2) := (hbr.cell (by show w6.heap.size < _; omega)).trans Hbx.out
              have hcall := containsFunc_joins _ (both xa bs ss.length bs.length) w6.heap.size _ ls wr hbox (Hol7.out.below hbr).reads (by unfold maxLen; omega) (owned_reads hown) (by omega) (fun z hz => by
                unfold both at hz
                rw [List.take_length] at hz
                rcases List.mem_append.1 hz with h | h
                · exact Hla.out z h
                · obtain ⟨y, hy, rfl⟩ := List.mem_map.1 h
                  exact Hlb.out y hy)
              have Hcall : Hid _ := hcall
              clear hcall hbox hown
              go_wp2_with fail
              refine Calls.mono Hcall.out ?_
              rintro e w' ⟨rfl, rfl⟩
              go_wp2_with fail
              go_ret
              exact ⟨rfl, hBw⟩
end Go.Proofs.Ytppgpejeedjajaa.Seek
