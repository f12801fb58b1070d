/- The contracts of motion.Go and motion.Range. -/
import Derived.Test.YtobcohgfpbmahaaLeadGo
set_option linter.unusedVariables false
set_option linter.unusedSimpArgs false
namespace Go.Proofs.Ytobcohgfpbmahaa.Plain
theorem mchk_zero {n : Nat} {k c key : Int} (h : mchk n k c key = 0) : n ≤ 4096 ∧ (∃ j : Nat, k = (j : Int) ∧ j ≤ n - 1) ∧ 0 ≤ c ∧ c ≤ 999 ∧ isk key = true := by
  unfold mchk at h
  by_cases h1 : 4096 < n
  · rw [if_pos h1] at h
    exact absurd h (by decide)
  · rw [if_neg h1] at h
    by_cases h2 : k < 0 ∨ max ((n : Int) - 1) 0 < k ∨ c < 0 ∨ 999 < c
    · rw [if_pos h2] at h
      exact absurd h (by decide)
    · rw [if_neg h2] at h
      by_cases h3 : isk key = true
      · exact ⟨by omega, ⟨k.toNat, by omega, by omega⟩, by omega, by omega, h3⟩
      · rw [if_neg h3] at h
        exact absurd h (by decide)
theorem mchk_right {n j : Nat} {c key : Int} (h1 : n ≤ 4096) (h2 : j ≤ n - 1) (h3 : 0 ≤ c) (h4 : c ≤ 999) (h5 : isk key = true) : mchk n (j : Int) c key = 0 := by
  unfold mchk
  rw [if_neg (by omega), if_neg (by omega), if_pos h5]
theorem times_is {c : Int} : max c 1 = (times c : Int) := by
  unfold times
  omega
theorem goes_bad {zs : List Int} {k c key arg : Int} {op : Bool} (h : mchk zs.length k c key ≠ 0) : goes zs k c key arg op = (0, false, mchk zs.length k c key) := if_neg h
theorem goes_good {zs : List Int} {j : Nat} {c key arg : Int} {op : Bool} (h : mchk zs.length (j : Int) c key = 0) :
    goes zs (j : Int) c key arg op = if (lead zs j (times c) key arg op).2 = true then ((lead zs j (times c) key arg op).1, wth key, 0) else (0, false, 5) := if_pos h
end Go.Proofs.Ytobcohgfpbmahaa.Plain
namespace Go.Proofs.Ytobcohgfpbmahaa.Seek
open Go.RowKit Plain

/-- What Go tells. -/
def GoPost (r : Int × Bool × Int) (w : World) (e : Ending) (w' : World) : Prop := e = .returned (.tuple #[.int .i64 r.1, .bool r.2.1, .int .i64 r.2.2]) ∧ Below w.heap.size w w'
theorem GoPost.mk {r : Int × Bool × Int} {x z : Int} {y : Bool} {w w' : World} (h : r = (x, y, z)) (hb : Below w.heap.size w w') : GoPost r w (.returned (.tuple #[.int .i64 x, .bool y, .int .i64 z])) w' :=
  ⟨by rw [h], hb⟩

theorem box_key (w : World) (x y z : Value) : (w.alloc (.cells #[x, y, z] 24)).cell? ⟨w.heap.size, 0, none⟩ = some x := by
  unfold World.cell?
  simp only
  rw [show ∀ o, (w.alloc o).heap[w.heap.size]? = some o from fun o => by show (w.heap.push o)[w.heap.size]? = _; simp [Array.getElem?_push]]
  rfl

set_option maxHeartbeats 1000000 in
theorem go_go (v : Value) (zs : List Int) (k c key arg : Int) (op : Bool) (w : World) (hp : Reads w v zs) :
    Calls Try.prog 8 #[v, .int .i64 k, .agg #[.int .i64 key, .int .i64 c, .int .i64 arg], .bool op] w fun e w' => GoPost (goes zs k c key arg op) w e w' := by
  obtain ⟨a, cap, rfl⟩ := hp.shape
  obtain ⟨r, hr⟩ : ∃ r, r = goes zs k c key arg op := ⟨_, rfl⟩
  rw [← hr]
  obtain ⟨q, hq⟩ : ∃ q, q = mchk zs.length k c key := ⟨_, rfl⟩
  have HK : Hid (Calls Try.prog 10 #[.slice a zs.length cap, .int .i64 k, .agg #[.int .i64 key, .int .i64 c, .int .i64 arg]] (w.alloc (.cells #[.int .i64 key, .int .i64 c, .int .i64 arg] 24)) fun e w' =>
      e = .returned (.int .i64 q) ∧ Below (w.alloc (.cells #[.int .i64 key, .int .i64 c, .int .i64 arg] 24)).heap.size (w.alloc (.cells #[.int .i64 key, .int .i64 c, .int .i64 arg] 24)) w') := by
    rw [hq]
    exact mcheck_go a zs.length cap k c key arg _
  by_cases h0 : q = 0
  · have hm : mchk zs.length k c key = 0 := hq.symm.trans h0
    obtain ⟨hl, ⟨j, rfl, hj⟩, hc0, hc9, hkey⟩ := mchk_zero hm
    have Hg : Hid (r = if (lead zs j (times c) key arg op).2 = true then ((lead zs j (times c) key arg op).1, wth key, 0) else (0, false, 5)) := hr.trans (goes_good hm)
    have HL : Hid (∀ w1, Below w.heap.size w w1 → Calls Try.prog 17 #[.slice a zs.length cap, .int .i64 (j : Int), .agg #[.int .i64 key, .int .i64 c, .int .i64 arg], .bool op] w1 fun e w' => LeadPost (lead zs j (times c) key arg op) w1 e w') :=
      fun w1 hb => lead_go _ zs j (times c) key c arg op w1 (hp.below hb) hl hj hc0 hc9 times_is hkey
    subst h0
    clear hr hq hm hp
    go_enter Try.func8, Try.ntmps8
    go_wp2_with fail
    refine HK.out.mono ?_
    rintro e w1 ⟨rfl, hb1⟩
    have hB1 : Below w.heap.size w w1 := below_trans (box24 _ _) hb1 (by rw [size_alloc]; omega)
    have hcell : ∀ i (x : Value), (w.alloc (.cells #[.int .i64 key, .int .i64 c, .int .i64 arg] 24)).cell? ⟨w.heap.size, i, none⟩ = some x → w1.cell? ⟨w.heap.size, i, none⟩ = some x := fun i x h => (hb1.cell (by rw [size_alloc]; exact Nat.lt_succ_self _)).trans h
    clear HK
    go_wp2_with fail
    refine (HL.out w1 hB1).mono ?_
    obtain ⟨L, hL⟩ : ∃ L, L = lead zs j (times c) key arg op := ⟨_, rfl⟩
    rw [← hL]
    have Hg2 : Hid (r = if L.2 = true then (L.1, wth key, 0) else (0, false, 5)) := by rw [hL]; exact Hg.out
    clear Hg HL hL
    rintro e w2 ⟨rfl, hb2⟩
    have HB : Hid (Below w.heap.size w w2) := below_trans hB1 hb2 hB1.size
    have hck : w2.cell? ⟨w.heap.size, 0, none⟩ = some (.int .i64 key) := (hb2.cell (Nat.lt_of_lt_of_le (by rw [size_alloc]; exact Nat.lt_succ_self _) hb1.size)).trans (hcell 0 _ (box_key _ _ _ _))
    clear hb2 hb1 hcell
    obtain ⟨x, y⟩ := L
    cases y with
    | true =>
      have Hg3 : Hid (r = (x, wth key, 0)) := Hg2.out
      clear Hg2
      go_wp2_with fail
      refine (takesWith_go key w2).mono ?_
      rintro e w3 ⟨rfl, hw3⟩
      rw [hw3]
      clear hw3 w3
      go_wp2_with fail
      go_ret3
      exact GoPost.mk Hg3.out HB.out
    | false =>
      have Hg3 : Hid (r = (0, false, 5)) := Hg2.out
      clear Hg2
      go_wp2_with fail
      go_ret3
      exact GoPost.mk Hg3.out HB.out
  · have hgb : r = (0, false, q) := by rw [hr, hq]; exact goes_bad (by rw [← hq]; exact h0)
    have Hg : Hid (r = (0, false, q)) := hgb
    have hqb : (q != 0) = true := by simpa using h0
    clear hr hq h0 hgb hp
    go_enter Try.func8, Try.ntmps8
    go_wp2_with fail
    refine HK.out.mono ?_
    rintro e w1 ⟨rfl, hb1⟩
    have HB : Hid (Below w.heap.size w w1) := below_trans (box24 _ _) hb1 (by rw [size_alloc]; omega)
    clear HK hb1
    go_wp2_with fail
    go_ret3
    exact GoPost.mk Hg.out HB.out

/-- What Range tells. -/
def RangePost (r : Int × Int × Int) (w : World) (e : Ending) (w' : World) : Prop := e = .returned (.tuple #[.int .i64 r.1, .int .i64 r.2.1, .int .i64 r.2.2]) ∧ Below w.heap.size w w'
theorem RangePost.mk {r : Int × Int × Int} {x y z : Int} {w w' : World} (h1 : r.1 = x) (h2 : r.2.1 = y) (h3 : r.2.2 = z) (hb : Below w.heap.size w w') : RangePost r w (.returned (.tuple #[.int .i64 x, .int .i64 y, .int .i64 z])) w' :=
  ⟨by rw [h1, h2, h3], hb⟩

set_option maxHeartbeats 1000000 in
theorem range_go (v : Value) (zs : List Int) (k c key arg : Int) (w : World) (hp : Reads w v zs) (hin : ∀ x y, goes zs k c key arg true = (x, y, 0) → 0 ≤ k ∧ k ≤ 4096 ∧ 0 ≤ x ∧ x ≤ 4096) :
    Calls Try.prog 9 #[v, .int .i64 k, .agg #[.int .i64 key, .int .i64 c, .int .i64 arg]] w fun e w' => RangePost (ranges zs k c key arg) w e w' := by
  obtain ⟨a, cap, rfl⟩ := hp.shape
  obtain ⟨r, hr⟩ : ∃ r, r = ranges zs k c key arg := ⟨_, rfl⟩
  rw [← hr]
  obtain ⟨G, hG⟩ : ∃ G, G = goes zs k c key arg true := ⟨_, rfl⟩
  have hrG : r = if G.2.2 = 0 then (min k G.1, if G.2.1 = true then max k G.1 + 1 else max k G.1, 0) else (0, 0, G.2.2) := by rw [hr, hG]; rfl
  rw [← hG] at hin
  have HK : Hid (Calls Try.prog 8 #[.slice a zs.length cap, .int .i64 k, .agg #[.int .i64 key, .int .i64 c, .int .i64 arg], .bool true] (w.alloc (.cells #[.int .i64 key, .int .i64 c, .int .i64 arg] 24)) fun e w' =>
      GoPost G (w.alloc (.cells #[.int .i64 key, .int .i64 c, .int .i64 arg] 24)) e w') := by
    rw [hG]
    exact go_go _ zs k c key arg true _ (hp.below (box24 _ _))
  clear hr hG hp
  obtain ⟨x, y, z⟩ := G
  by_cases h0 : z = 0
  · subst h0
    obtain ⟨hk1, hk2, hx1, hx2⟩ := hin x y rfl
    clear hin
    cases y with
    | true =>
      have H1 : Hid (r.1 = min k x) := by rw [hrG]; rfl
      have H2 : Hid (r.2.1 = max k x + 1) := by rw [hrG]; rfl
      have H3 : Hid (r.2.2 = 0) := by rw [hrG]; rfl
      clear hrG
      go_enter Try.func9, Try.ntmps9
      go_wp2_with fail
      refine HK.out.mono ?_
      rintro e w1 ⟨rfl, hb1⟩
      have HB : Hid (Below w.heap.size w w1) := below_trans (box24 _ _) hb1 (by rw [size_alloc]; omega)
      clear HK hb1
      go_wp2_with fail
      all_goals (
        go_ret3
        refine RangePost.mk (H1.out.trans ?_) (H2.out.trans ?_) H3.out HB.out
        · omega
        · omega)
    | false =>
      have H1 : Hid (r.1 = min k x) := by rw [hrG]; rfl
      have H2 : Hid (r.2.1 = max k x) := by rw [hrG]; rfl
      have H3 : Hid (r.2.2 = 0) := by rw [hrG]; rfl
      clear hrG
      go_enter Try.func9, Try.ntmps9
      go_wp2_with fail
      refine HK.out.mono ?_
      rintro e w1 ⟨rfl, hb1⟩
      have HB : Hid (Below w.heap.size w w1) := below_trans (box24 _ _) hb1 (by rw [size_alloc]; omega)
      clear HK hb1
      go_wp2_with fail
      all_goals (
        go_ret3
        refine RangePost.mk (H1.out.trans ?_) (H2.out.trans ?_) H3.out HB.out
        · omega
        · omega)
  · have hzb : (z != 0) = true := by simpa using h0
    have hr2 : r = (0, 0, z) := by rw [hrG]; exact if_neg h0
    have H1 : Hid (r.1 = 0) := by rw [hr2]; rfl
    have H2 : Hid (r.2.1 = 0) := by rw [hr2]; rfl
    have H3 : Hid (r.2.2 = z) := by rw [hr2]; rfl
    clear hrG hr2 h0 hin
    go_enter Try.func9, Try.ntmps9
    go_wp2_with fail
    refine HK.out.mono ?_
    rintro e w1 ⟨rfl, hb1⟩
    have HB : Hid (Below w.heap.size w w1) := below_trans (box24 _ _) hb1 (by rw [size_alloc]; omega)
    clear HK hb1
    go_wp2_with fail
    go_ret3
    exact RangePost.mk H1.out H2.out H3.out HB.out
end Go.Proofs.Ytobcohgfpbmahaa.Seek
