/- The document's Range, and the walk of MotionSays. -/
import Derived.Test.YtobcohgfpbmahaaRefLead
import Derived.Test.YtobcohgfpbmahaaInWalk
set_option linter.unusedVariables false
set_option linter.unusedSimpArgs false
namespace Go.Proofs.Ytobcohgfpbmahaa.Plain
/-- P24: what the document's Range tells. -/
def spans (r : Int × Bool) (t : Bool) (k : Int) : Int × Int × Bool :=
  if r.2 = true then (min k r.1, if t = true then max k r.1 + 1 else max k r.1, true) else (0, 0, false)
theorem ranges_bad {zs : List Int} {k c key arg : Int} (h : mchk zs.length k c key ≠ 0) : ranges zs k c key arg = (0, 0, mchk zs.length k c key) := by
  unfold ranges
  rw [goes_bad h, if_neg h]
theorem ranges_good {zs : List Int} {j : Nat} {c key arg : Int} (h : mchk zs.length (j : Int) c key = 0) :
    ranges zs (j : Int) c key arg = ((spans (lead zs j (times c) key arg true) (wth key) j).1, (spans (lead zs j (times c) key arg true) (wth key) j).2.1, if (lead zs j (times c) key arg true).2 = true then 0 else 5) := by
  unfold ranges
  rw [goes_good h]
  generalize lead zs j (times c) key arg true = L
  obtain ⟨x, y⟩ := L
  cases y <;> rfl
theorem times_cases {c : Int} (h0 : 0 ≤ c) (h9 : c ≤ 999) : (c = 0 ∧ times c = 1) ∨ (((times c : Int) == 0) = false ∧ c = (times c : Int)) := by
  by_cases h : c = 0
  · left
    subst h
    exact ⟨rfl, rfl⟩
  · right
    have : c = (times c : Int) := by unfold times; omega
    exact ⟨beq_eq_false_iff_ne.2 (by omega), this⟩
end Go.Proofs.Ytobcohgfpbmahaa.Plain
namespace Go.Proofs.Ytobcohgfpbmahaa.Seek
open Go.RowKit Plain

theorem three {s1 s2 x y : Int} {w w' : World} (h1 : s1 = x) (h2 : s2 = y) (hb : Below w.heap.size w w') :
    Ending.returned (.tuple #[.int .i64 x, .int .i64 y, .bool true]) = Ending.returned (.tuple #[.int .i64 s1, .int .i64 s2, .bool true]) ∧ Below w.heap.size w w' := ⟨by rw [h1, h2], hb⟩

set_option maxHeartbeats 1000000 in
theorem refrange_go (v : Value) (zs : List Int) (k n : Nat) (key c arg : Int) (w : World) (hp : Reads w v zs) (hl : zs.length ≤ 4096) (hk : k ≤ zs.length - 1) (hn1 : 1 ≤ n) (hn9 : n ≤ 999) (hn : (c = 0 ∧ n = 1) ∨ (((n : Int) == 0) = false ∧ c = (n : Int))) (hkey : isk key = true) :
    Calls Try.prog 12 #[v, .int .i64 (k : Int), .agg #[.int .i64 key, .int .i64 c, .int .i64 arg]] w fun e w' =>
      e = .returned (.tuple #[.int .i64 (spans (lead zs k n key arg true) (wth key) k).1, .int .i64 (spans (lead zs k n key arg true) (wth key) k).2.1, .bool (spans (lead zs k n key arg true) (wth key) k).2.2]) ∧ Below w.heap.size w w' := by
  obtain ⟨a, cap, rfl⟩ := hp.shape
  have HG : Hid (Calls Try.prog 11 #[.slice a zs.length cap, .int .i64 (k : Int), .agg #[.int .i64 key, .int .i64 c, .int .i64 arg], .bool true] (w.alloc (.cells #[.int .i64 key, .int .i64 c, .int .i64 arg] 24)) fun e w' => RefLead (lead zs k n key arg true) (wth key) (w.alloc (.cells #[.int .i64 key, .int .i64 c, .int .i64 arg] 24)) e w') :=
    refgo_go _ zs k n key c arg true _ (hp.below (box24 _ _)) hl hk hn1 hn9 hn hkey
  have hin := fun h => lead_in (zs := zs) (k := k) (n := n) (key := key) (arg := arg) (op := true) hl hk hn1 hkey h
  have hk9 : (k : Int) ≤ 4096 := by omega
  have hl9 : (zs.length : Int) ≤ 4096 := by omega
  generalize lead zs k n key arg true = L at *
  obtain ⟨x, y⟩ := L
  clear hp hn hn1 hn9
  cases y with
  | true =>
    obtain ⟨h1, h2, _, _⟩ := hin rfl
    have hx1 : 0 ≤ x := h1
    have hx2 : x ≤ (zs.length : Int) := h2
    clear h1 h2 hin
    generalize wth key = t at *
    obtain ⟨s1, hs1⟩ : ∃ s1, s1 = min (k : Int) x := ⟨_, rfl⟩
    obtain ⟨s2, hs2⟩ : ∃ s2, s2 = if t = true then max (k : Int) x + 1 else max (k : Int) x := ⟨_, rfl⟩
    have hsp : spans (x, true) t k = (s1, s2, true) := by rw [hs1, hs2]; rfl
    rw [hsp]
    have HS1 : Hid (s1 = min (k : Int) x) := hs1
    have HS2 : Hid (s2 = if t = true then max (k : Int) x + 1 else max (k : Int) x) := hs2
    clear hsp hs1 hs2
    go_enter Try.func12, Try.ntmps12
    go_wp2_with fail
    refine HG.out.mono ?_
    clear HG
    rintro e w1 ⟨hb1, x1, y1, rfl, hxy⟩
    have e1 : x1 = x := (hxy rfl).1
    have e2 : y1 = t := (hxy rfl).2
    rw [e1, e2]
    clear e1 e2
    have HB : Hid (Below w.heap.size w w1) := below_trans (box24 _ _) hb1 (by rw [size_alloc]; omega)
    clear hxy hb1
    cases t with
    | true =>
      have HS3 : Hid (s2 = max (k : Int) x + 1) := HS2.out
      clear HS2
      go_wp2_with fail
      all_goals (
        go_ret3
        refine three (HS1.out.trans ?_) (HS3.out.trans ?_) HB.out
        · omega
        · omega)
    | false =>
      have HS3 : Hid (s2 = max (k : Int) x) := HS2.out
      clear HS2
      go_wp2_with fail
      all_goals (
        go_ret3
        refine three (HS1.out.trans ?_) (HS3.out.trans ?_) HB.out
        · omega
        · omega)
  | false =>
    clear hin
    generalize wth key = t at *
    have hsp : spans (x, false) t k = (0, 0, false) := rfl
    rw [hsp]
    clear hsp
    go_enter Try.func12, Try.ntmps12
    go_wp2_with fail
    refine HG.out.mono ?_
    clear HG
    rintro e w1 ⟨hb1, x1, y1, rfl, hxy⟩
    have HB : Hid (Below w.heap.size w w1) := below_trans (box24 _ _) hb1 (by rw [size_alloc]; omega)
    clear hxy hb1
    go_wp2_with fail
    go_ret3
    exact ⟨rfl, HB.out⟩

set_option maxHeartbeats 4000000 in
theorem says_walk (v : Value) (zs : List Int) (k key c arg : Int) (op : Bool) (w : World) (hp : Reads w v zs) (hr : zs.length * 8 ≤ 140737488351232) :
    Calls Try.prog 3 #[v, .int .i64 k, .agg #[.int .i64 key, .int .i64 c, .int .i64 arg], .bool op] w fun e w' => e = .returned (.bool true) ∧ Below w.heap.size w w' := by
  obtain ⟨a, cap, rfl⟩ := hp.shape
  have Hp : Hid (Reads w (.slice a zs.length cap) zs) := hp
  clear hp hr
  obtain ⟨q, hq⟩ : ∃ q, q = mchk zs.length k c key := ⟨_, rfl⟩
  have Hq : Hid (mchk zs.length k c key = q) := hq.symm
  obtain ⟨G, hG⟩ : ∃ G, G = goes zs k c key arg op := ⟨_, rfl⟩
  have HG : Hid (goes zs k c key arg op = G) := hG.symm
  obtain ⟨R, hR⟩ : ∃ R, R = ranges zs k c key arg := ⟨_, rfl⟩
  have HR : Hid (ranges zs k c key arg = R) := hR.symm
  clear hq hG hR
  go_enter Try.func3, Try.ntmps3
  go_wp2_with fail
  refine (moveErr_go a zs.length cap k c key arg _).mono ?_
  rw [Hq.out]
  rintro e w1 ⟨rfl, hb1⟩
  have HB1 : Hid (Below w.heap.size w w1) := below_trans (box24 _ _) hb1 (by rw [size_alloc]; omega)
  have HM1 : Hid (Moved w1 w.heap.size key c arg) := (moved_new _ _ _ _).below hb1
  clear hb1
  obtain ⟨m0, c0, c1, c2⟩ := HM1.out
  clear m0
  go_wp2_with fail
  refine (go_go _ zs k c key arg op w1 (Hp.out.below HB1.out)).mono ?_
  rw [HG.out]
  rintro e w2 ⟨rfl, hb2⟩
  have HB2 : Hid (Below w.heap.size w w2) := below_trans HB1.out hb2 HB1.out.size
  have HM2 : Hid (Moved w2 w.heap.size key c arg) := HM1.out.below hb2
  clear hb2 HB1 HM1 c0 c1 c2
  obtain ⟨m0, c0, c1, c2⟩ := HM2.out
  clear m0
  go_wp2_with fail
  refine (range_go _ zs k c key arg w2 (Hp.out.below HB2.out) (fun x y h => goes_in2 h)).mono ?_
  rw [HR.out]
  rintro e w3 ⟨rfl, hb3⟩
  have HB3 : Hid (Below w.heap.size w w3) := below_trans HB2.out hb3 HB2.out.size
  have HM3 : Hid (Moved w3 w.heap.size key c arg) := HM2.out.below hb3
  clear hb3 HB2 HM2 c0 c1 c2
  obtain ⟨m0, c0, c1, c2⟩ := HM3.out
  clear m0
  go_wp2_with fail
  refine (mcheck_go a zs.length cap k c key arg w3).mono ?_
  rw [Hq.out]
  rintro e w4 ⟨rfl, hb4⟩
  have HB4 : Hid (Below w.heap.size w w4) := below_trans HB3.out hb4 HB3.out.size
  have HM4 : Hid (Moved w4 w.heap.size key c arg) := HM3.out.below hb4
  clear hb4 HB3 HM3 c0 c1 c2
  have hqq : (q != q) = false := bne_self_eq_false q
  by_cases h0 : q = 0
  · subst h0
    obtain ⟨hl, ⟨j, rfl, hj⟩, hc0, hc9, hkey⟩ := mchk_zero Hq.out
    have hn1 : 1 ≤ times c := by unfold times; omega
    have hn9 : times c ≤ 999 := by unfold times; omega
    have hnc := times_cases hc0 hc9
    have HRG : Hid (∀ w', Below w.heap.size w w' → Calls Try.prog 11 #[.slice a zs.length cap, .int .i64 (j : Int), .agg #[.int .i64 key, .int .i64 c, .int .i64 arg], .bool op] w' fun e w'' => RefLead (lead zs j (times c) key arg op) (wth key) w' e w'') := fun w' hb => refgo_go _ zs j (times c) key c arg op w' (Hp.out.below hb) hl hj hn1 hn9 hnc hkey
    have HRR : Hid (∀ w', Below w.heap.size w w' → Calls Try.prog 12 #[.slice a zs.length cap, .int .i64 (j : Int), .agg #[.int .i64 key, .int .i64 c, .int .i64 arg]] w' fun e w'' => e = .returned (.tuple #[.int .i64 (spans (lead zs j (times c) key arg true) (wth key) j).1, .int .i64 (spans (lead zs j (times c) key arg true) (wth key) j).2.1, .bool (spans (lead zs j (times c) key arg true) (wth key) j).2.2]) ∧ Below w'.heap.size w' w'') := fun w' hb => refrange_go _ zs j (times c) key c arg w' (Hp.out.below hb) hl hj hn1 hn9 hnc hkey
    have HG2 : Hid (G = if (lead zs j (times c) key arg op).2 = true then ((lead zs j (times c) key arg op).1, wth key, 0) else (0, false, 5)) := HG.out.symm.trans (goes_good Hq.out)
    have HR2 : Hid (R = ((spans (lead zs j (times c) key arg true) (wth key) j).1, (spans (lead zs j (times c) key arg true) (wth key) j).2.1, if (lead zs j (times c) key arg true).2 = true then 0 else 5)) := HR.out.symm.trans (ranges_good Hq.out)
    clear hnc hn1 hn9 hc0 hc9 hkey Hq HG HR hqq
    generalize lead zs j (times c) key arg op = L at *
    generalize lead zs j (times c) key arg true = L' at *
    generalize wth key = t at *
    obtain ⟨x, y⟩ := L
    obtain ⟨x', y'⟩ := L'
    obtain ⟨S, hS⟩ : ∃ S, S = spans (x', y') t j := ⟨_, rfl⟩
    have HS : Hid (S = spans (x', y') t j) := hS
    rw [← hS] at HRR HR2
    clear hS
    obtain ⟨s1, s2, s3⟩ := S
    obtain ⟨m0, c0, c1, c2⟩ := HM4.out
    clear m0
    go_wp2_with fail
    refine (HRG.out w4 HB4.out).mono ?_
    rintro e w5 ⟨hb5, x1, y1, rfl, hxy⟩
    have HB5 : Hid (Below w.heap.size w w5) := below_trans HB4.out hb5 HB4.out.size
    have HM5 : Hid (Moved w5 w.heap.size key c arg) := HM4.out.below hb5
    clear hb5 HB4 HM4 c0 c1 c2 HRG
    obtain ⟨m0, c0, c1, c2⟩ := HM5.out
    clear m0 HM5
    cases y with
    | true =>
      have e1 : x1 = x := (hxy rfl).1
      have e2 : y1 = t := (hxy rfl).2
      rw [e1, e2]
      clear e1 e2 hxy
      have hG3 : G = (x, t, 0) := HG2.out
      clear HG2
      subst hG3
      have hx0 : (x != x) = false := bne_self_eq_false x
      have ht0 : (t != t) = false := bne_self_eq_false t
      go_wp2_with fail
      refine (HRR.out w5 HB5.out).mono ?_
      rintro e w6 ⟨rfl, hb6⟩
      have HB6 : Hid (Below w.heap.size w w6) := below_trans HB5.out hb6 HB5.out.size
      clear hb6 HRR HB5 c0 c1 c2
      cases y' with
      | true =>
        have hs3 : s3 = true := (congrArg (fun q => q.2.2) HS.out)
        have hR3 : R = (s1, s2, 0) := HR2.out
        subst hs3 hR3
        clear HS HR2
        go_wp2_with fail
        go_ret
        exact ⟨rfl, HB6.out⟩
      | false =>
        have hs3 : (s1, s2, s3) = (0, 0, false) := HS.out
        have hR3 : R = (s1, s2, 5) := HR2.out
        cases hs3
        subst hR3
        clear HS HR2
        go_wp2_with fail
        go_ret
        exact ⟨rfl, HB6.out⟩
    | false =>
      clear hxy
      have hG3 : G = (0, false, 5) := HG2.out
      clear HG2
      subst hG3
      go_wp2_with fail
      refine (HRR.out w5 HB5.out).mono ?_
      rintro e w6 ⟨rfl, hb6⟩
      have HB6 : Hid (Below w.heap.size w w6) := below_trans HB5.out hb6 HB5.out.size
      clear hb6 HRR HB5 c0 c1 c2
      cases y' with
      | true =>
        have hs3 : s3 = true := (congrArg (fun q => q.2.2) HS.out)
        have hR3 : R = (s1, s2, 0) := HR2.out
        subst hs3 hR3
        clear HS HR2
        go_wp2_with fail
        go_ret
        exact ⟨rfl, HB6.out⟩
      | false =>
        have hs3 : (s1, s2, s3) = (0, 0, false) := HS.out
        have hR3 : R = (s1, s2, 5) := HR2.out
        cases hs3
        subst hR3
        clear HS HR2
        go_wp2_with fail
        go_ret
        exact ⟨rfl, HB6.out⟩
  · have hne : mchk zs.length k c key ≠ 0 := by rw [Hq.out]; exact h0
    have hG2 : G = (0, false, q) := HG.out.symm.trans ((goes_bad hne).trans (by rw [Hq.out]))
    have hR2 : R = (0, 0, q) := HR.out.symm.trans ((ranges_bad hne).trans (by rw [Hq.out]))
    have hqb : (q != 0) = true := by simpa using h0
    subst hG2 hR2
    clear h0 hne Hq HG HR
    go_wp2_with fail
    go_ret
    exact ⟨rfl, HB4.out⟩
end Go.Proofs.Ytobcohgfpbmahaa.Seek
