/- The contract of dyck.Pairs. -/
import Derived.Test.YtpgjaoemkadenabM02
import Derived.Test.YtpgjaoemkadenabM12
import Derived.OwnWalk
import Derived.Laws.OwnMore
import Derived.Deep.RegionLaw
import Derived.BigRegion
set_option linter.unusedVariables false
set_option linter.unusedSimpArgs false
set_option maxRecDepth 100000
namespace Go.Proofs.Ytpgjaoemkadenab.Seek
open Go.RowKit Go.Maps Plain

/-- A list of so many numbers, by a function of places. -/
def rowOf (n : Nat) (g : Nat → Int) : List Int := (List.range n).map g
theorem rowOf_len (n : Nat) (g : Nat → Int) : (rowOf n g).length = n := by unfold rowOf; simp
theorem rowOf_get (n : Nat) (g : Nat → Int) (j : Nat) (h : j < n) : (rowOf n g).getD j 0 = g j := by
  unfold rowOf
  simp [List.getD_eq_getElem?_getD, h]
theorem rowOf_set (n : Nat) (g : Nat → Int) (i : Nat) (z : Int) : (rowOf n g).set i z = rowOf n (fun j => if j = i then z else g j) := by
  unfold rowOf
  apply List.ext_getElem
  · simp
  · intro j h1 h2
    rw [List.getElem_set]
    simp only [List.getElem_map, List.getElem_range]
    by_cases he : i = j
    · rw [if_pos he, if_pos he.symm]
    · rw [if_neg he, if_neg (Ne.symm he)]
theorem rowOf_congr (n : Nat) (g g' : Nat → Int) (h : ∀ j, j < n → g j = g' j) : rowOf n g = rowOf n g' := by
  unfold rowOf
  apply List.map_congr_left
  intro j hj
  exact h j (List.mem_range.1 hj)
theorem rowOf_zero (n : Nat) : ints (rowOf n (fun _ => 0)) = List.replicate n (.int .i64 0) := by
  unfold ints rowOf
  rw [List.map_map]
  apply List.ext_getElem
  · simp
  · intro j h1 h2
    simp
theorem ints_set (zs : List Int) (i : Nat) (z : Int) : (ints zs).set i (.int .i64 z) = ints (zs.set i z) := by
  unfold ints
  rw [List.map_set]

/-- Of each place its partner's place, or -1. -/
def pairs (zs : List Int) : List Int := rowOf zs.length (par (fn zs) zs.length)
theorem pairs_len (zs : List Int) : (pairs zs).length = zs.length := rowOf_len _ _
/-- Pairs' answer. -/
def PairsPost (zs : List Int) (w : World) (e : Ending) (w' : World) : Prop :=
  Below w.heap.size w w' ∧ ((4096 < zs.length ∧ e = .returned (.tuple #[.slice none 0 0, .int .i64 2])) ∨ (zs.length ≤ 4096 ∧ ∃ v, e = .returned (.tuple #[v, .int .i64 0]) ∧ Reads w' v (pairs zs)))

theorem groups_mono {w : World} {base b n : Nat} {D : DataW Unit} (h : w.ownsGroups Try.prog 3 base 3 .i64 b n D) : w.ownsGroups Try.prog 3 base 3 .i64 b (n + 1) D := by
  obtain ⟨es, clock, hb, F, hs, hD, hbb, hlen, hap⟩ := h
  exact ⟨es, clock, hb, F, Nat.le_succ_of_le hs, hD, hbb, fun x hx zs ho => Nat.le_succ_of_le (hlen x hx zs ho), hap⟩
/-- One place more, where nothing is told of the places ahead of it. -/
theorem row_quiet (f : Nat → Int) (n k : Nat) (hq : shuts (f k) = true → stk f (brk (f k)) k = []) : rowOf n (fun j => if j = k then -1 else par f k j) = rowOf n (par f (k + 1)) := by
  refine rowOf_congr _ _ _ fun j _ => ?_
  by_cases hj : j = k
  · subst hj
    rw [if_pos rfl, par_new]
    split
    · rename_i h
      rw [hq h]
      rfl
    · rfl
  · rw [if_neg hj]
    refine (par_same hj ?_).symm
    rintro ⟨h1, h2⟩
    rw [hq h1] at h2
    cases h2
theorem row_pair (f : Nat → Int) (n k p : Nat) (r : List Nat) (hs : shuts (f k) = true) (hp : stk f (brk (f k)) k = p :: r) :
    rowOf n (fun j => if j = p then (k : Int) else if j = k then (p : Int) else if j = k then -1 else par f k j) = rowOf n (par f (k + 1)) := by
  have hpk : p < k := (((holds f k).wait _ _).1 (by rw [hp]; exact List.mem_cons_self ..)).1
  refine rowOf_congr _ _ _ fun j _ => ?_
  by_cases hjp : j = p
  · subst hjp
    rw [if_pos rfl]
    exact (par_hit (by omega) hs (by rw [hp]; rfl)).symm
  · rw [if_neg hjp]
    by_cases hj : j = k
    · subst hj
      rw [if_pos rfl, par_new, if_pos hs, hp]
      rfl
    · rw [if_neg hj, if_neg hj]
      refine (par_same hj ?_).symm
      rintro ⟨_, h2⟩
      rw [hp] at h2
      exact hjp (Option.some.inj h2).symm
theorem stk_shut_nil {f : Nat → Int} {k : Nat} (hs : shuts (f k) = true) (h : stk f (brk (f k)) k = []) (o : Int) : stk f o (k + 1) = stk f o k := by
  by_cases ho : brk (f k) = o
  · rw [stk_shut hs ho, ← ho, h]
    rfl
  · refine stk_other (fun h => ho h.2) ?_
    rintro ⟨h1, _⟩
    rcases sort (f k) with h4 | h4 | h4
    · rw [h4.2.1] at hs; cases hs
    · rw [h4.1] at h1; cases h1
    · rw [h4.1] at h1; cases h1
theorem stk_shut_ne {f : Nat → Int} {k : Nat} (hs : shuts (f k) = true) {o : Int} (ho : o ≠ brk (f k)) : stk f o (k + 1) = stk f o k := by
  refine stk_other (fun h => ho h.2.symm) ?_
  rintro ⟨h1, _⟩
  rcases sort (f k) with h4 | h4 | h4
  · rw [h4.2.1] at hs; cases hs
  · rw [h4.1] at h1; cases h1
  · rw [h4.1] at h1; cases h1

theorem grown_next {w w1 w2 : World} {row : Option Nat} (h : w.grownBy w1 row) (h2 : w1.grownBy w2 row) : w.grownBy w2 row :=
  ⟨h2.os.trans h.os, h2.tape.trans h.tape, h2.output.trans h.output, Nat.le_trans h.size h2.size, fun k hk hn => (h2.block k (Nat.lt_of_lt_of_le hk h.size) hn).trans (h.block k hk hn)⟩
theorem grown_drew {w w1 : World} {row : Option Nat} (h : w.grownBy w1 row) : w.grownBy w1.drew row := ⟨h.os, h.tape, h.output, h.size, h.block⟩
/-- An owned slice, its last one left out. -/
theorem owned_shrink {w : World} {B g n cp : Nat} {xs : List Value} (h : w.ownsRow B 3 1 (.slice (some ⟨g, 0, none⟩) (n + 1) cp) (n + 1) xs) : w.ownsRow B 3 1 (.slice (some ⟨g, 0, none⟩) n cp) n (xs.take n) := by
  obtain ⟨h1, h2⟩ := h
  refine ⟨by rw [List.length_take]; omega, .inr ?_⟩
  rcases h2 with ⟨hv, _⟩ | ⟨g', cap', cur, hv, hB, hg, hn, hm, hs, ht⟩
  · cases hv
  · simp only [Value.slice.injEq, Option.some.injEq, Addr.mk.injEq] at hv
    obtain ⟨⟨rfl, _⟩, _, rfl⟩ := hv
    refine ⟨g, cp, cur, rfl, hB, hg, by omega, hm, hs, ?_⟩
    rw [← ht, List.take_take]
    congr 1
    omega
theorem nats_wf {l : List Nat} (h : ∀ p ∈ l, p ≤ 4096) : ∀ z ∈ nats l, (Lit.int .i64 z).wf = true := by
  intro z hz
  obtain ⟨p, hp, rfl⟩ := List.mem_map.1 hz
  have := h p hp
  exact int_wf _ (by omega) (by omega)

theorem pairs_large (a : Option Addr) (n cap : Nat) (zs : List Int) (w : World) (hn : n = zs.length) (hpl : 4096 < n) (hm : n ≤ maxLen) :
    Calls Try.prog 84 #[.slice a n cap] w fun e w' => PairsPost zs w e w' := by
  have Hn : Hid (n = zs.length) := hn
  clear hn
  go_enter Try.func84, Try.ntmps84
  go_wp2_with fail
  go_ret2
  exact ⟨Below.refl _ _, .inl ⟨by rw [← Hn.out]; exact hpl, rfl⟩⟩

set_option maxHeartbeats 2000000 in
theorem pairs_some (b off cap : Nat) (zs : List Int) (w : World) (hpl : zs.length ≤ 4096) (hb : b < w.heap.size)
    (hcp : ∀ j, j < zs.length → w.cell? ⟨b, off + j, none⟩ = some (.int .i64 (zs.getD j 0))) :
    Calls Try.prog 84 #[.slice (some ⟨b, off, none⟩) zs.length cap] w fun e w' => PairsPost zs w e w' := by
  have hmm := @run_makeMap Try.prog
  obtain ⟨i0, hi, hz0, hz1, hz2⟩ := info_parts info3
  have Hcp : Hid (∀ j, j < zs.length → w.cell? ⟨b, off + j, none⟩ = some (.int .i64 (zs.getD j 0))) := hcp
  clear hcp
  go_enter Try.func84, Try.ntmps84
  go_wp2_with (at_make; refine wpList_make_full _ rfl _ _ 22 rfl w.heap.size 3 i0 (.int .i64 0) 1 Try.underlying22 hi hz0 hz1 .i64 .i64 _ _ zs.length rfl rfl rfl rfl (by rw [hz2]; omega) (by unfold maxLen; omega) (Nat.le_refl _) ?_)
  intro w1 hown0 hgr
  have hlt1 : w.heap.size < w1.heap.size := (hown0.lt _ rfl).2
  have Hown : Hid (w1.ownsRow w.heap.size 3 1 (.slice (some ⟨w.heap.size, 0, none⟩) zs.length zs.length) zs.length (ints (rowOf zs.length (par (fn zs) 0)))) := by
    show World.ownsRow _ _ _ _ _ _ _
    rw [show par (fn zs) 0 = (fun _ => 0) from rfl, rowOf_zero, ← toList_madeCells_one]
    exact hown0
  clear hown0
  have hb1 : Below w.heap.size w w1 := (Below.refl _ _).grown hgr (Nat.le_refl _) (fun j hj => by cases hj)
  clear hgr
  go_wp2_with fail
  have Hst : Hid ((w1.alloc (.map #[] 0)).ownsRow w.heap.size 3 1 (.slice (some ⟨w.heap.size, 0, none⟩) zs.length zs.length) zs.length (ints (rowOf zs.length (par (fn zs) 0)))) := Hown.out.alloc _
  have hb2 : Below w.heap.size w (w1.alloc (.map #[] 0)) := hb1.alloc hb1.size _
  clear Hown
  go_loopw [21] (fun u wr => ∃ (k : Nat) (D : DataW Unit), u = .int .i64 (k : Int) ∧ k ≤ zs.length ∧ HoldsStk (fun o => stk (fn zs) o k) D ∧
      Hid (wr.ownsRow w.heap.size 3 1 (.slice (some ⟨w.heap.size, 0, none⟩) zs.length zs.length) zs.length (ints (rowOf zs.length (par (fn zs) k)))) ∧
      wr.ownsGroups Try.prog 3 (w1.heap.size + 1) 3 .i64 w1.heap.size k D ∧ Below w.heap.size w wr ∧ w1.heap.size + 1 ≤ wr.heap.size)
    (fun u _ => zs.length - (intOf u).toNat)
  case atStart => exact ⟨0, .map [], rfl, by omega, stk_none, Hst.out, World.ownsGroups_made _ _ _ _ _, hb2, by simp⟩
  case round =>
    obtain ⟨k, D, rfl, hk, hD, Ho, hgs, hbr, hsz⟩ := hrel
    by_cases hlt : k < zs.length
    · have hcx : wr.cell? ⟨b, off + k, none⟩ = some (.int .i64 (zs.getD k 0)) := (hbr.cell (by exact hb)).trans (Hcp.out _ hlt)
      have hfro := Ho.out.frozenAt k
      obtain ⟨v0, hst⟩ : ∃ v, wr.cell? ⟨w.heap.size, k, none⟩ = some v := by
        rw [Ho.out.cellAt k (by omega)]
        exact ⟨_, List.getElem?_eq_getElem (by rw [ints_len, rowOf_len]; exact hlt)⟩
      obtain ⟨c, hc⟩ : ∃ c, c = zs.getD k 0 := ⟨_, rfl⟩
      have Hc : Hid (fn zs k = c) := hc.symm
      rw [← hc] at hcx
      clear hc
      have Ho1 : Hid ((wr.setCell ⟨w.heap.size, k, none⟩ (.int .i64 (-1))).ownsRow w.heap.size 3 1 (.slice (some ⟨w.heap.size, 0, none⟩) zs.length zs.length) zs.length (ints (rowOf zs.length (fun j => if j = k then -1 else par (fn zs) k j)))) := by
        have h := (Ho.out.stored k (.int .i64 (-1))).1
        rw [ints_set, rowOf_set] at h
        exact h
      have Hg1 : Hid (wr.grownBy (wr.setCell ⟨w.heap.size, k, none⟩ (.int .i64 (-1))) (some w.heap.size)) := (Ho.out.stored k (.int .i64 (-1))).2
      clear Ho
      have hgs1 := groups_kept hgs Hg1.out (by omega) (by omega)
      have hbr1 : Below w.heap.size w (wr.setCell ⟨w.heap.size, k, none⟩ (.int .i64 (-1))) := hbr.grown Hg1.out hbr.size (fun j hj => by cases hj; exact Nat.le_refl _)
      have hsz1 : w1.heap.size + 1 ≤ (wr.setCell ⟨w.heap.size, k, none⟩ (.int .i64 (-1))).heap.size := Nat.le_trans hsz Hg1.out.size
      clear hgs hbr hsz Hg1
      go_wp2_with fail
      refine (brk_go _ _).mono ?_
      rintro e w2 ⟨rfl, hw2⟩
      rw [hw2]
      clear hw2 w2 hst hfro hcx v0
      generalize wr.setCell ⟨w.heap.size, k, none⟩ (.int .i64 (-1)) = wr1 at *
      by_cases hs : shuts c = true
      · have hkc : brk c = 40 ∨ brk c = 91 ∨ brk c = 123 := by rcases shuts_cases hs with rfl | rfl | rfl <;> decide
        obtain ⟨v, zs', hrun, hat, hoi, hzl, hback⟩ := groups_at_off hgs1 law3 Try.underlying126 (zero22 _) (by unfold maxLen; omega) (key_int (brk c) (by omega) (by omega))
        have hzs := stk_look hD hat hoi
        have Hks : Hid (shuts (fn zs k) = true ∧ brk (fn zs k) = brk c) := by
          show _ ∧ _
          rw [Hc.out]
          exact ⟨hs, rfl⟩
        clear hat
        cases hstk : stk (fn zs) (brk c) k with
        | nil =>
          rw [hstk] at hzs
          obtain rfl : zs' = [] := hzs
          have Hrel : Hid (HoldsStk (fun o => stk (fn zs) o (k + 1)) D ∧ rowOf zs.length (fun j => if j = k then -1 else par (fn zs) k j) = rowOf zs.length (par (fn zs) (k + 1))) := by
            have h1 : stk (fn zs) (brk (fn zs k)) k = [] := by rw [Hks.out.2]; exact hstk
            exact ⟨hD.of (stk_shut_nil Hks.out.1 h1), row_quiet _ _ _ (fun _ => h1)⟩
          obtain ⟨a, cp, rfl⟩ : ∃ a cp, v = .slice a 0 cp := by
            rcases hoi.1.2 with ⟨rfl, _⟩ | ⟨g, cp, cur, rfl, _⟩
            · exact ⟨_, _, rfl⟩
            · exact ⟨_, _, rfl⟩
          clear hoi hback hstk hzl
          rw [hs]
          generalize brk c = o at *
          go_wp2_with fail
          go_roundw
          case rel => exact ⟨k + 1, D, by go_num, by omega, Hrel.out.1, by rw [← Hrel.out.2]; exact Ho1.out, groups_mono hgs1, hbr1, hsz1⟩
          case measure => simp [intOf]; omega
        | cons p r =>
          rw [hstk] at hzs
          have hpk : p < k := (((holds (fn zs) k).wait _ _).1 (by rw [hstk]; exact List.mem_cons_self ..)).1
          have hl' : zs'.length = r.length + 1 := by rw [hzs, nats_len, List.length_reverse, List.length_cons]
          obtain ⟨g, cp, hv⟩ : ∃ g cp, v = .slice (some ⟨g, 0, none⟩) (r.length + 1) cp := by
            rcases hoi.1.2 with ⟨_, h0⟩ | ⟨g, cp, cur, hv, _⟩
            · omega
            · exact ⟨g, cp, by rw [hv, hl']⟩
          subst hv
          have hcv : wr1.cell? ⟨g, r.length, none⟩ = some (.int .i64 (p : Int)) := by
            have h := hoi.1
            rw [hl'] at h
            rw [h.cellAt r.length (by omega), hzs]
            unfold nats
            simp
          have hgB : w.heap.size < g := by have := (hoi.1.lt g rfl).1; omega
          have hrk : r.length ≤ k := by omega
          have hrcp : r.length + 1 ≤ cp := by
            rcases hoi.1.2 with ⟨h0, _⟩ | ⟨g', cp', cur, hv, _, _, hn, _⟩
            · cases h0
            · simp only [Value.slice.injEq] at hv
              omega
          have hrcp2 : r.length ≤ cp := by omega
          have hck : ∃ u, wr1.cell? ⟨w.heap.size, k, none⟩ = some u := by
            rw [Ho1.out.cellAt k (by omega)]
            exact ⟨_, List.getElem?_eq_getElem (by rw [ints_len, rowOf_len]; exact hlt)⟩
          have hcp' : ∃ u, wr1.cell? ⟨w.heap.size, p, none⟩ = some u := by
            rw [Ho1.out.cellAt p (by omega)]
            exact ⟨_, List.getElem?_eq_getElem (by rw [ints_len, rowOf_len]; omega)⟩
          obtain ⟨uk, hck⟩ := hck
          obtain ⟨up, hcp'⟩ := hcp'
          have hf1 := Ho1.out.frozenAt k
          have hf2 := Ho1.out.frozenAt p
          have hI1 : (r.length : Int) < (r.length : Int) + 1 := by omega
          have hI2 : (0 : Int) ≤ (r.length : Int) := by omega
          have hI3 : (p : Int) < (zs.length : Int) := by omega
          have hI4 : (k : Int) < (zs.length : Int) := by omega
          have hW1 : IntKind.i64.wrap (r.length : Int) = (r.length : Int) := IntWalk.i64_in _ ⟨by omega, by omega⟩
          have hrl : r.length ≤ 4096 := by omega
          have Ho3 : Hid ((((wr1.setCell ⟨w.heap.size, k, none⟩ (.int .i64 (p : Int))).setCell ⟨w.heap.size, p, none⟩ (.int .i64 (k : Int))).drew).ownsRow w.heap.size 3 1 (.slice (some ⟨w.heap.size, 0, none⟩) zs.length zs.length) zs.length (ints (rowOf zs.length (par (fn zs) (k + 1))))) := by
            have h := ((Ho1.out.stored k (.int .i64 (p : Int))).1.stored p (.int .i64 (k : Int))).1
            rw [ints_set, rowOf_set, ints_set, rowOf_set, row_pair (fn zs) zs.length k p r Hks.out.1 (by rw [Hks.out.2]; exact hstk)] at h
            exact h
          have Hg3 : Hid (wr1.grownBy (((wr1.setCell ⟨w.heap.size, k, none⟩ (.int .i64 (p : Int))).setCell ⟨w.heap.size, p, none⟩ (.int .i64 (k : Int))).drew) (some w.heap.size)) :=
            grown_drew (grown_next (Ho1.out.stored k (.int .i64 (p : Int))).2 ((Ho1.out.stored k (.int .i64 (p : Int))).1.stored p (.int .i64 (k : Int))).2)
          have Hback : Hid ((((wr1.setCell ⟨w.heap.size, k, none⟩ (.int .i64 (p : Int))).setCell ⟨w.heap.size, p, none⟩ (.int .i64 (k : Int))).drew).groupBack Try.prog 126 3 (w1.heap.size + 1) 3 .i64 w1.heap.size k D (.int .i64 (brk c)) (.int .i64 (brk c)) (.slice (some ⟨g, 0, none⟩) (r.length + 1) cp)) :=
            hback _ _ Hg3.out (by omega) (by omega)
          have Hoi : Hid ((((wr1.setCell ⟨w.heap.size, k, none⟩ (.int .i64 (p : Int))).setCell ⟨w.heap.size, p, none⟩ (.int .i64 (k : Int))).drew).ownsInts (w1.heap.size + 1) 3 .i64 (.slice (some ⟨g, 0, none⟩) r.length cp) (nats r.reverse)) := by
            have h := hoi.kept Hg3.out (.inr (by intro he; have h5 : g = w.heap.size := Option.some.inj he; omega))
            refine ⟨?_, nats_wf ?_⟩
            · have h1 := h.1
              rw [hl'] at h1
              have h2 := owned_shrink h1
              rw [hzs] at h2
              rw [nats_len, List.length_reverse]
              have e : ((nats (p :: r).reverse).map (Value.int .i64)).take r.length = (nats r.reverse).map (Value.int .i64) := by
                unfold nats
                rw [List.reverse_cons, List.map_append, List.map_append]
                rw [List.take_append_of_le_length (by simp)]
                rw [List.take_of_length_le (by simp)]
              rw [← e]
              exact h2
            · intro q hq
              have := (((holds (fn zs) k).wait (brk c) q).1 (by rw [hstk]; exact List.mem_cons_of_mem _ (List.mem_reverse.1 hq))).1
              omega
          have Hput : Hid (∀ (w' : World), w'.ownsInts (w1.heap.size + 1) 3 .i64 (.slice (some ⟨g, 0, none⟩) r.length cp) (nats r.reverse) → HoldsStk (fun o => stk (fn zs) o (k + 1)) (D.put (.int .i64 (brk c)) (rowDatum .i64 (.slice (some ⟨g, 0, none⟩) r.length cp) (nats r.reverse)))) := by
            intro w' hw'
            refine stk_put hD hw' ?_ ?_
            · show nats r.reverse = nats (stk (fn zs) (brk c) (k + 1)).reverse
              rw [stk_shut Hks.out.1 Hks.out.2, hstk]
              rfl
            · intro o' ho'
              exact stk_shut_ne Hks.out.1 (by rw [Hks.out.2]; exact ho')
          have Hrk : Hid (r.length ≤ k) := hrk
          rw [hs]
          clear hback hzl hl' hoi hzs hstk hD Ho1
          generalize brk c = o at *
          go_wp2_with fail
          go_region
          generalize ((wr1.setCell ⟨w.heap.size, k, none⟩ (.int .i64 (p : Int))).setCell ⟨w.heap.size, p, none⟩ (.int .i64 (k : Int))).drew = wr3 at *
          have hrl2 : (nats r.reverse).length ≤ k + 1 := by rw [nats_len, List.length_reverse]; exact Nat.le_succ_of_le Hrk.out
          go_wp2_with (at_mapUpdate; refine wpList_mapUpdate_back _ rfl _ _ _ 126 rfl Hback.out rfl rfl rfl (grown_refl _ _) Hoi.out hrl2 (.inl rfl) ?_)
          intro w4 hgs4 hgr4
          have hb4 : Below w.heap.size w w4 := (hbr1.grown Hg3.out hbr1.size (fun j hj => by cases hj; exact Nat.le_refl _)).grown hgr4 (Nat.le_trans hbr1.size Hg3.out.size) (fun j hj => by cases hj; omega)
          have Ho4 : Hid (w4.ownsRow w.heap.size 3 1 (.slice (some ⟨w.heap.size, 0, none⟩) zs.length zs.length) zs.length (ints (rowOf zs.length (par (fn zs) (k + 1))))) := Ho3.out.kept hgr4 (.inr (by intro he; have h5 : w.heap.size = w1.heap.size := Option.some.inj he; omega))
          have hsz4 : w1.heap.size + 1 ≤ w4.heap.size := Nat.le_trans hsz1 (Nat.le_trans Hg3.out.size hgr4.size)
          have Hgs4 : Hid (w4.ownsGroups Try.prog 3 (w1.heap.size + 1) 3 .i64 w1.heap.size (k + 1) (D.put (.int .i64 o) (rowDatum .i64 (.slice (some ⟨g, 0, none⟩) r.length cp) (nats r.reverse)))) := hgs4
          clear hgs4 hgr4 hbr1 hsz1
          go_wp2_with fail
          go_roundw
          case rel => exact ⟨k + 1, _, by go_num, by omega, Hput.out _ Hoi.out, Ho4.out, Hgs4.out, hb4, hsz4⟩
          case measure => simp [intOf]; omega
      · have hs2 : shuts c = false := by simpa using hs
        clear hs
        by_cases hop : opens c = true
        · have hco : c = 40 ∨ c = 91 ∨ c = 123 := opens_cases hop
          obtain ⟨v, zs', hrun, hat, hoi, hzl, hback⟩ := groups_at_off hgs1 law3 Try.underlying126 (zero22 _) (by unfold maxLen; omega) (key_int c (by omega) (by omega))
          have hzs := stk_look hD hat hoi
          have Hks : Hid (shuts (fn zs k) = false ∧ opens (fn zs k) = true ∧ fn zs k = c) := by
            show _ ∧ _ ∧ _
            rw [Hc.out]
            exact ⟨hs2, hop, rfl⟩
          have Hback : Hid (wr1.groupBack Try.prog 126 3 (w1.heap.size + 1) 3 .i64 w1.heap.size k D (.int .i64 c) (.int .i64 c) v) := hback _ w.heap.size (grown_refl _ _) (by omega) (by omega)
          have Hrow : Hid (rowOf zs.length (fun j => if j = k then -1 else par (fn zs) k j) = rowOf zs.length (par (fn zs) (k + 1))) := row_quiet _ _ _ (fun h => by rw [Hks.out.1] at h; cases h)
          have Hput : Hid (∀ (w' : World) (v' : Value), w'.ownsInts (w1.heap.size + 1) 3 .i64 v' (zs' ++ [(k : Int)]) → HoldsStk (fun o => stk (fn zs) o (k + 1)) (D.put (.int .i64 c) (rowDatum .i64 v' (zs' ++ [(k : Int)])))) := by
            intro w' v' hw'
            refine stk_put hD hw' ?_ ?_
            · show zs' ++ [(k : Int)] = nats (stk (fn zs) c (k + 1)).reverse
              rw [stk_open Hks.out.2.1 Hks.out.2.2, hzs]
              unfold nats
              simp
            · intro o' ho'
              refine stk_other (fun h => by rw [Hks.out.1] at h; cases h.1) (fun h => ho' ?_)
              rw [← h.2, Hks.out.2.2]
          have Hwf : Hid ((Lit.int .i64 (k : Int)).wf = true) := int_wf _ (by omega) (by omega)
          have Hoi : Hid (wr1.ownsInts (w1.heap.size + 1) 3 .i64 v zs') := hoi
          have hkc : (brk c != 0) = true := by rcases hco with rfl | rfl | rfl <;> decide
          clear hat hback hzs hD hoi hco hop
          rw [hs2]
          generalize brk c = kc at *
          go_wp2_with (first
            | (at_builtin; refine wpList_append_own_at _ rfl _ _ 22 rfl (w1.heap.size + 1) 3 i0 (.int .i64 0) 1 8 Try.underlying22 hi hz0 hz1 hz2 rfl (by decide) _ _ _ rfl (Hoi.out.1.alloc _) ⟨wr1.heap.size, 0, none⟩ 1 1 [.int .i64 (k : Int)] rfl rfl (cell_one_new _ _ _) (ints_oneCell .i64 [(k : Int)]) (by unfold maxLen; omega) (by omega) (by simp; omega) ?_; intro v' w3 hown' hgrow hnil hloc)
            | (at_mapUpdate; refine wpList_mapUpdate_back _ rfl _ _ _ 126 rfl Hback.out rfl rfl rfl ((World.grownBy_alloc _ _ _).trans hgrow) (Hoi.out.appended hown' Hwf.out) (by simp; omega) (by rcases hloc with h | h <;> first | exact Or.inl h | exact Or.inr ⟨_, h, by simp⟩) ?_; intro w4 hgs4 hgr4))
          have hoi' := Hoi.out.appended hown' Hwf.out
          have hgall := (World.grownBy_alloc wr1 _ _).trans hgrow
          have Hput4 : Hid (HoldsStk (fun o => stk (fn zs) o (k + 1)) (D.put (.int .i64 c) (rowDatum .i64 v' (zs' ++ [(k : Int)])))) := Hput.out _ _ hoi'
          have hb4 : Below w.heap.size w w4 := hbr1.groups Hoi.out hgall hgr4 hbr1.size (by omega) (by omega)
          have hvB : v.ownBlock ≠ some w.heap.size := by
            intro he
            have := (Hoi.out.1.lt _ he).1
            omega
          have Ho4 : Hid (w4.ownsRow w.heap.size 3 1 (.slice (some ⟨w.heap.size, 0, none⟩) zs.length zs.length) zs.length (ints (rowOf zs.length (par (fn zs) (k + 1))))) := by
            show World.ownsRow _ _ _ _ _ _ _
            rw [← Hrow.out]
            exact (Ho1.out.kept hgall (.inr (fun he => hvB he.symm))).kept hgr4 (.inr (by intro he; have h5 : w.heap.size = w1.heap.size := Option.some.inj he; omega))
          have hsz4 : w1.heap.size + 1 ≤ w4.heap.size := Nat.le_trans hsz1 (Nat.le_trans hgall.size hgr4.size)
          have Hgs4 : Hid (w4.ownsGroups Try.prog 3 (w1.heap.size + 1) 3 .i64 w1.heap.size (k + 1) (D.put (.int .i64 c) (rowDatum .i64 v' (zs' ++ [(k : Int)])))) := hgs4
          clear hgs4 hgr4 hbr1 hsz1 hoi' hgall hown' hgrow hnil hloc hvB hzl Hoi
          go_roundw
          case rel => exact ⟨k + 1, _, by go_num, by omega, Hput4.out, Ho4.out, Hgs4.out, hb4, hsz4⟩
          case measure => simp [intOf]; omega
        · have Hrow : Hid (HoldsStk (fun o => stk (fn zs) o (k + 1)) D ∧ rowOf zs.length (fun j => if j = k then -1 else par (fn zs) k j) = rowOf zs.length (par (fn zs) (k + 1))) := by
            refine ⟨hD.of fun o => stk_other (fun h => ?_) (fun h => ?_), row_quiet _ _ _ (fun h => ?_)⟩
            · rw [Hc.out, hs2] at h
              cases h.1
            · rw [Hc.out] at h
              exact hop h.1
            · rw [Hc.out, hs2] at h
              cases h
          have hkc : brk c = 0 := by
            rcases sort c with h | h | h
            · exact absurd h.1 hop
            · rw [hs2] at h; cases h.2.1
            · exact h.2.2
          rw [hs2, hkc]
          clear hkc hop hD hs2
          go_wp2_with fail
          go_roundw
          case rel => exact ⟨k + 1, D, by go_num, by omega, Hrow.out.1, by rw [← Hrow.out.2]; exact Ho1.out, groups_mono hgs1, hbr1, hsz1⟩
          case measure => simp [intOf]; omega
    · obtain rfl : k = zs.length := by omega
      have Hr : Hid (Reads wr (.slice (some ⟨w.heap.size, 0, none⟩) zs.length zs.length) (pairs zs)) := by
        have h2 := owned_reads (zs := pairs zs) (v := .slice (some ⟨w.heap.size, 0, none⟩) zs.length zs.length) (w := wr) (B := w.heap.size)
        rw [pairs_len] at h2
        exact h2 Ho.out
      clear Ho hgs hD
      go_wp2_with fail
      go_ret2
      exact ⟨hbr, .inr ⟨hpl, _, rfl, Hr.out⟩⟩

set_option maxHeartbeats 1000000 in
theorem pairs_empty (a : Option Addr) (cap : Nat) (w : World) : Calls Try.prog 84 #[.slice a 0 cap] w fun e w' => PairsPost [] w e w' := by
  have hmm := @run_makeMap Try.prog
  obtain ⟨i0, hi, hz0, hz1, hz2⟩ := info_parts info3
  go_enter Try.func84, Try.ntmps84
  go_wp2_with (at_make; refine wpList_make_full _ rfl _ _ 22 rfl w.heap.size 3 i0 (.int .i64 0) 1 Try.underlying22 hi hz0 hz1 .i64 .i64 _ _ 0 rfl rfl rfl rfl (by rw [hz2]; omega) (by unfold maxLen; omega) (Nat.le_refl _) ?_)
  intro w1 hown0 hgr
  have hb1 : Below w.heap.size w w1 := (Below.refl _ _).grown hgr (Nat.le_refl _) (fun j hj => by cases hj)
  have hb2 : Below w.heap.size w (w1.alloc (.map #[] 0)) := hb1.alloc hb1.size _
  clear hgr hown0 hb1
  go_wp2_with fail
  refine wp_loop_rounds 1 ?_
  rw [rounds_succ]
  go_wp2_with fail
  go_ret2
  exact ⟨hb2, .inr ⟨by decide, _, rfl, .inl ⟨_, _, rfl, rfl⟩⟩⟩

theorem pairs_any (v : Value) (zs : List Int) (w : World) (h : Reads w v zs) (hm : zs.length ≤ maxLen) :
    Calls Try.prog 84 #[v] w fun e w' => PairsPost zs w e w' := by
  obtain ⟨a, cap, hv⟩ := h.shape
  by_cases hl : 4096 < zs.length
  · rw [hv]
    exact pairs_large a zs.length cap zs w rfl hl hm
  · rcases h with ⟨a, cap, rfl, rfl⟩ | ⟨b, off, cap, rfl, hcap, hmm, hlt, hc⟩
    · exact pairs_empty a cap w
    · exact pairs_some b off cap zs w (by omega) hlt hc
end Go.Proofs.Ytpgjaoemkadenab.Seek
