/- The contracts of motion.lead, motion.Go and motion.Range. -/
import Derived.Test.YtpgjaoemkadenaaM04
set_option linter.unusedVariables false
set_option linter.unusedSimpArgs false
set_option maxRecDepth 100000
namespace Go.Proofs.Ytpgjaoemkadenaa.Seek
open Go.RowKit Plain

set_option maxHeartbeats 1000000 in
theorem lead_104 (v : Value) (zs : List Int) (k n : Nat) (c arg : Int) (op : Bool) (w : World) (hp : Reads w v zs) (hl : zs.length ≤ 4096) (hk : k ≤ zs.length - 1) (hc0 : 0 ≤ c) (hc9 : c ≤ 999) (hn : max c 1 = (n : Int)) :
    Calls Try.prog 64 #[v, .int .i64 (k : Int), .agg #[.int .i64 104, .int .i64 c, .int .i64 arg], .bool op] w fun e w' => LeadPost (lead zs k n 104 arg op) w e w' := by
  obtain ⟨a, cap, rfl⟩ := hp.shape
  have hn1 : 1 ≤ (n : Int) := by omega
  have hn9 : (n : Int) ≤ 999 := by omega
  have hk9 : (k : Int) ≤ 4096 := by omega
  have hl9 : (zs.length : Int) ≤ 4096 := by omega
  obtain ⟨r, hr⟩ : ∃ r, r = lead zs k n 104 arg op := ⟨_, rfl⟩
  rw [← hr]
  have H1 : Hid (r.1 = max ((k : Int) - n) 0) := by rw [hr]; rfl
  have H2 : Hid (r.2 = decide (0 < (k : Int))) := by rw [hr]; rfl
  clear hr hp
  go_enter Try.func64, Try.ntmps64
  go_wp2_with fail
  all_goals (
    go_ret2
    refine LeadPost.mk (H1.out.trans ?_) (H2.out.trans ?_) (mbox24 _ _)
    · omega
    · first | rfl | (simp only [Int.natCast_pos]))

set_option maxHeartbeats 1000000 in
theorem lead_48 (v : Value) (zs : List Int) (k n : Nat) (c arg : Int) (op : Bool) (w : World) (hp : Reads w v zs) (hl : zs.length ≤ 4096) (hk : k ≤ zs.length - 1) (hc0 : 0 ≤ c) (hc9 : c ≤ 999) (hn : max c 1 = (n : Int)) :
    Calls Try.prog 64 #[v, .int .i64 (k : Int), .agg #[.int .i64 48, .int .i64 c, .int .i64 arg], .bool op] w fun e w' => LeadPost (lead zs k n 48 arg op) w e w' := by
  obtain ⟨a, cap, rfl⟩ := hp.shape
  have hn1 : 1 ≤ (n : Int) := by omega
  have hn9 : (n : Int) ≤ 999 := by omega
  have hk9 : (k : Int) ≤ 4096 := by omega
  have hl9 : (zs.length : Int) ≤ 4096 := by omega
  obtain ⟨r, hr⟩ : ∃ r, r = lead zs k n 48 arg op := ⟨_, rfl⟩
  rw [← hr]
  have H1 : Hid (r.1 = 0) := by rw [hr]; rfl
  have H2 : Hid (r.2 = true) := by rw [hr]; rfl
  clear hr hp
  go_enter Try.func64, Try.ntmps64
  go_wp2_with fail
  all_goals (
    go_ret2
    exact LeadPost.mk H1.out H2.out (mbox24 _ _))

set_option maxHeartbeats 1000000 in
theorem lead_108 (v : Value) (zs : List Int) (k n : Nat) (c arg : Int) (op : Bool) (w : World) (hp : Reads w v zs) (hl : zs.length ≤ 4096) (hk : k ≤ zs.length - 1) (hc0 : 0 ≤ c) (hc9 : c ≤ 999) (hn : max c 1 = (n : Int)) :
    Calls Try.prog 64 #[v, .int .i64 (k : Int), .agg #[.int .i64 108, .int .i64 c, .int .i64 arg], .bool op] w fun e w' => LeadPost (lead zs k n 108 arg op) w e w' := by
  obtain ⟨a, cap, rfl⟩ := hp.shape
  have hn1 : 1 ≤ (n : Int) := by omega
  have hn9 : (n : Int) ≤ 999 := by omega
  have hk9 : (k : Int) ≤ 4096 := by omega
  have hl9 : (zs.length : Int) ≤ 4096 := by omega
  obtain ⟨r, hr⟩ : ∃ r, r = lead zs k n 108 arg op := ⟨_, rfl⟩
  rw [← hr]
  obtain ⟨x, hx⟩ : ∃ x, x = min ((k : Int) + n) (endOf zs op) := ⟨_, rfl⟩
  obtain ⟨y, hy⟩ : ∃ y, y = decide ((k : Int) < endOf zs op) := ⟨_, rfl⟩
  have H1 : Hid (r.1 = x) := by rw [hr, hx]; rfl
  have H2 : Hid (r.2 = y) := by rw [hr, hy]; rfl
  have HC : Hid (∀ N : Int, N = (n : Int) → Calls Try.prog 76 #[.slice a zs.length cap, .int .i64 (k : Int), .int .i64 N, .bool op] (w.alloc (.cells #[.int .i64 108, .int .i64 c, .int .i64 arg] 90)) fun e w' => e = .returned (.tuple #[.int .i64 x, .bool y]) ∧ w' = (w.alloc (.cells #[.int .i64 108, .int .i64 c, .int .i64 arg] 90))) := by
    intro N hN
    subst hN
    rw [hx, hy]
    exact toRight_go a zs cap k n op _ hl (by omega) (by omega)
  clear hr hp hx
  try clear hy
  go_enter Try.func64, Try.ntmps64
  go_wp2_with fail
  all_goals (
    refine (HC.out _ (by omega)).mono ?_
    rintro e w1 ⟨rfl, hw1⟩
    rw [hw1]
    clear hw1 w1 HC
    go_wp2_with fail
    all_goals (
      go_ret2
      refine LeadPost.mk (H1.out.trans ?_) (H2.out.trans ?_) (mbox24 _ _)
      · rfl
      · first | rfl | (simp only [Int.natCast_pos])))

set_option maxHeartbeats 1000000 in
theorem lead_94 (v : Value) (zs : List Int) (k n : Nat) (c arg : Int) (op : Bool) (w : World) (hp : Reads w v zs) (hl : zs.length ≤ 4096) (hk : k ≤ zs.length - 1) (hc0 : 0 ≤ c) (hc9 : c ≤ 999) (hn : max c 1 = (n : Int)) :
    Calls Try.prog 64 #[v, .int .i64 (k : Int), .agg #[.int .i64 94, .int .i64 c, .int .i64 arg], .bool op] w fun e w' => LeadPost (lead zs k n 94 arg op) w e w' := by
  obtain ⟨a, cap, rfl⟩ := hp.shape
  have hn1 : 1 ≤ (n : Int) := by omega
  have hn9 : (n : Int) ≤ 999 := by omega
  have hk9 : (k : Int) ≤ 4096 := by omega
  have hl9 : (zs.length : Int) ≤ 4096 := by omega
  obtain ⟨r, hr⟩ : ∃ r, r = lead zs k n 94 arg op := ⟨_, rfl⟩
  rw [← hr]
  obtain ⟨x, hx⟩ : ∃ x, x = solid zs := ⟨_, rfl⟩
  have H1 : Hid (r.1 = x) := by rw [hr, hx]; rfl
  have H2 : Hid (r.2 = true) := by rw [hr]; rfl
  have HC : Hid (∀ N : Int, N = (n : Int) → Calls Try.prog 77 #[.slice a zs.length cap] (w.alloc (.cells #[.int .i64 94, .int .i64 c, .int .i64 arg] 90)) fun e w' => e = .returned (.int .i64 x) ∧ w' = (w.alloc (.cells #[.int .i64 94, .int .i64 c, .int .i64 arg] 90))) := by
    intro N hN
    subst hN
    rw [hx]
    exact solid_go _ zs _ (hp.below (mbox24 _ _)) hl
  clear hr hp hx
  try clear hy
  go_enter Try.func64, Try.ntmps64
  go_wp2_with fail
  all_goals (
    refine (HC.out _ (by omega)).mono ?_
    rintro e w1 ⟨rfl, hw1⟩
    rw [hw1]
    clear hw1 w1 HC
    go_wp2_with fail
    all_goals (
      go_ret2
      refine LeadPost.mk (H1.out.trans ?_) (H2.out.trans ?_) (mbox24 _ _)
      · rfl
      · first | rfl | (simp only [Int.natCast_pos])))

set_option maxHeartbeats 1000000 in
theorem lead_98 (v : Value) (zs : List Int) (k n : Nat) (c arg : Int) (op : Bool) (w : World) (hp : Reads w v zs) (hl : zs.length ≤ 4096) (hk : k ≤ zs.length - 1) (hc0 : 0 ≤ c) (hc9 : c ≤ 999) (hn : max c 1 = (n : Int)) :
    Calls Try.prog 64 #[v, .int .i64 (k : Int), .agg #[.int .i64 98, .int .i64 c, .int .i64 arg], .bool op] w fun e w' => LeadPost (lead zs k n 98 arg op) w e w' := by
  obtain ⟨a, cap, rfl⟩ := hp.shape
  have hn1 : 1 ≤ (n : Int) := by omega
  have hn9 : (n : Int) ≤ 999 := by omega
  have hk9 : (k : Int) ≤ 4096 := by omega
  have hl9 : (zs.length : Int) ≤ 4096 := by omega
  obtain ⟨r, hr⟩ : ∃ r, r = lead zs k n 98 arg op := ⟨_, rfl⟩
  rw [← hr]
  obtain ⟨x, hx⟩ : ∃ x, x = iter (fun x => back zs x false) n k := ⟨_, rfl⟩
  have H1 : Hid (r.1 = x) := by rw [hr, hx]; rfl
  have H2 : Hid (r.2 = decide (0 < (k : Int))) := by rw [hr]; rfl
  have HC : Hid (∀ N : Int, N = (n : Int) → Calls Try.prog 78 #[.func (.func 29) #[] #[], .slice a zs.length cap, .int .i64 (k : Int), .int .i64 N, .bool false] (w.alloc (.cells #[.int .i64 98, .int .i64 c, .int .i64 arg] 90)) fun e w' => e = .returned (.int .i64 x) ∧ w' = (w.alloc (.cells #[.int .i64 98, .int .i64 c, .int .i64 arg] 90))) := by
    intro N hN
    subst hN
    rw [hx]
    exact again_go 29 (fun x => back zs x false) (fun x => chk zs.length x) _ _ _ _ _ _ _ (by omega) (by omega) (fun x => back_go _ zs x false _ (hp.below (mbox24 _ _)))
  clear hr hp hx
  try clear hy
  go_enter Try.func64, Try.ntmps64
  go_wp2_with fail
  all_goals (
    refine (HC.out _ (by omega)).mono ?_
    rintro e w1 ⟨rfl, hw1⟩
    rw [hw1]
    clear hw1 w1 HC
    go_wp2_with fail
    all_goals (
      go_ret2
      refine LeadPost.mk (H1.out.trans ?_) (H2.out.trans ?_) (mbox24 _ _)
      · rfl
      · first | rfl | (simp only [Int.natCast_pos])))

set_option maxHeartbeats 1000000 in
theorem lead_66 (v : Value) (zs : List Int) (k n : Nat) (c arg : Int) (op : Bool) (w : World) (hp : Reads w v zs) (hl : zs.length ≤ 4096) (hk : k ≤ zs.length - 1) (hc0 : 0 ≤ c) (hc9 : c ≤ 999) (hn : max c 1 = (n : Int)) :
    Calls Try.prog 64 #[v, .int .i64 (k : Int), .agg #[.int .i64 66, .int .i64 c, .int .i64 arg], .bool op] w fun e w' => LeadPost (lead zs k n 66 arg op) w e w' := by
  obtain ⟨a, cap, rfl⟩ := hp.shape
  have hn1 : 1 ≤ (n : Int) := by omega
  have hn9 : (n : Int) ≤ 999 := by omega
  have hk9 : (k : Int) ≤ 4096 := by omega
  have hl9 : (zs.length : Int) ≤ 4096 := by omega
  obtain ⟨r, hr⟩ : ∃ r, r = lead zs k n 66 arg op := ⟨_, rfl⟩
  rw [← hr]
  obtain ⟨x, hx⟩ : ∃ x, x = iter (fun x => back zs x true) n k := ⟨_, rfl⟩
  have H1 : Hid (r.1 = x) := by rw [hr, hx]; rfl
  have H2 : Hid (r.2 = decide (0 < (k : Int))) := by rw [hr]; rfl
  have HC : Hid (∀ N : Int, N = (n : Int) → Calls Try.prog 78 #[.func (.func 29) #[] #[], .slice a zs.length cap, .int .i64 (k : Int), .int .i64 N, .bool true] (w.alloc (.cells #[.int .i64 66, .int .i64 c, .int .i64 arg] 90)) fun e w' => e = .returned (.int .i64 x) ∧ w' = (w.alloc (.cells #[.int .i64 66, .int .i64 c, .int .i64 arg] 90))) := by
    intro N hN
    subst hN
    rw [hx]
    exact again_go 29 (fun x => back zs x true) (fun x => chk zs.length x) _ _ _ _ _ _ _ (by omega) (by omega) (fun x => back_go _ zs x true _ (hp.below (mbox24 _ _)))
  clear hr hp hx
  try clear hy
  go_enter Try.func64, Try.ntmps64
  go_wp2_with fail
  all_goals (
    refine (HC.out _ (by omega)).mono ?_
    rintro e w1 ⟨rfl, hw1⟩
    rw [hw1]
    clear hw1 w1 HC
    go_wp2_with fail
    all_goals (
      go_ret2
      refine LeadPost.mk (H1.out.trans ?_) (H2.out.trans ?_) (mbox24 _ _)
      · rfl
      · first | rfl | (simp only [Int.natCast_pos])))

set_option maxHeartbeats 1000000 in
theorem lead_36 (v : Value) (zs : List Int) (k n : Nat) (c arg : Int) (op : Bool) (w : World) (hp : Reads w v zs) (hl : zs.length ≤ 4096) (hk : k ≤ zs.length - 1) (hc0 : 0 ≤ c) (hc9 : c ≤ 999) (hn : max c 1 = (n : Int)) :
    Calls Try.prog 64 #[v, .int .i64 (k : Int), .agg #[.int .i64 36, .int .i64 c, .int .i64 arg], .bool op] w fun e w' => LeadPost (lead zs k n 36 arg op) w e w' := by
  obtain ⟨a, cap, rfl⟩ := hp.shape
  have hn1 : 1 ≤ (n : Int) := by omega
  have hn9 : (n : Int) ≤ 999 := by omega
  have hk9 : (k : Int) ≤ 4096 := by omega
  have hl9 : (zs.length : Int) ≤ 4096 := by omega
  obtain ⟨r, hr⟩ : ∃ r, r = lead zs k n 36 arg op := ⟨_, rfl⟩
  rw [← hr]
  by_cases hz : zs.length = 0
  · have h : lead zs k n 36 arg op = (0, false) := (if_pos hz : (if zs.length = 0 then ((0 : Int), false) else lineLead zs k n 36 arg op) = (0, false))
    have H1 : Hid (r.1 = 0) := congrArg Prod.fst (hr.trans h)
    have H2 : Hid (r.2 = false) := congrArg Prod.snd (hr.trans h)
    clear h
    rw [hz]
    clear hr hp hz hl9
    go_enter Try.func64, Try.ntmps64
    go_wp2_with fail
    all_goals (
      go_ret2
      exact LeadPost.mk H1.out H2.out (mbox24 _ _))
  · have Hr : Hid (r = lineLead zs k n 36 arg op) := by
      rw [hr]
      exact (if_neg hz : (if zs.length = 0 then ((0 : Int), false) else lineLead zs k n 36 arg op) = _)
    rcases hp with ⟨_, _, _, h0⟩ | ⟨b, off, cap', hv, hcap, hcm, hb, hcell⟩
    · exact absurd (congrArg List.length h0) (by simpa using hz)
    cases hv
    have HC : Hid (∀ N : Int, N = (n : Int) → Calls Try.prog 79 #[.slice (some ⟨b, off, none⟩) zs.length cap, .int .i64 (k : Int), .int .i64 N, .agg #[.int .i64 36, .int .i64 c, .int .i64 arg], .bool op] (w.alloc (.cells #[.int .i64 36, .int .i64 c, .int .i64 arg] 90)) fun e w' => LeadPost r (w.alloc (.cells #[.int .i64 36, .int .i64 c, .int .i64 arg] 90)) e w') := by
      intro N hN
      subst hN
      rw [Hr.out]
      exact line_36 b off cap zs k n c arg op _ hl (by rw [size_alloc]; omega) hcap hcm (by omega) (by omega) (by omega) (cells_alloc hb (mbox24 _ _) hcell)
    have hz0 : ((zs.length : Int) == 0) = false := beq_eq_false_iff_ne.2 (by omega)
    clear hr hcell hcm hcap hz Hr
    go_enter Try.func64, Try.ntmps64
    go_wp2_with fail
    all_goals (
      refine (HC.out _ (by omega)).mono ?_
      rintro e w1 ⟨rfl, hb1⟩
      have Hb1 : Hid (Below w.heap.size w w1) := below_trans (mbox24 _ _) hb1 (by rw [size_alloc]; omega)
      clear HC hb1
      go_wp2_with fail
      go_ret2
      exact LeadPost.mk rfl rfl Hb1.out)

set_option maxHeartbeats 1000000 in
theorem lead_124 (v : Value) (zs : List Int) (k n : Nat) (c arg : Int) (op : Bool) (w : World) (hp : Reads w v zs) (hl : zs.length ≤ 4096) (hk : k ≤ zs.length - 1) (hc0 : 0 ≤ c) (hc9 : c ≤ 999) (hn : max c 1 = (n : Int)) :
    Calls Try.prog 64 #[v, .int .i64 (k : Int), .agg #[.int .i64 124, .int .i64 c, .int .i64 arg], .bool op] w fun e w' => LeadPost (lead zs k n 124 arg op) w e w' := by
  obtain ⟨a, cap, rfl⟩ := hp.shape
  have hn1 : 1 ≤ (n : Int) := by omega
  have hn9 : (n : Int) ≤ 999 := by omega
  have hk9 : (k : Int) ≤ 4096 := by omega
  have hl9 : (zs.length : Int) ≤ 4096 := by omega
  obtain ⟨r, hr⟩ : ∃ r, r = lead zs k n 124 arg op := ⟨_, rfl⟩
  rw [← hr]
  by_cases hz : zs.length = 0
  · have h : lead zs k n 124 arg op = (0, false) := (if_pos hz : (if zs.length = 0 then ((0 : Int), false) else lineLead zs k n 124 arg op) = (0, false))
    have H1 : Hid (r.1 = 0) := congrArg Prod.fst (hr.trans h)
    have H2 : Hid (r.2 = false) := congrArg Prod.snd (hr.trans h)
    clear h
    rw [hz]
    clear hr hp hz hl9
    go_enter Try.func64, Try.ntmps64
    go_wp2_with fail
    all_goals (
      go_ret2
      exact LeadPost.mk H1.out H2.out (mbox24 _ _))
  · have Hr : Hid (r = lineLead zs k n 124 arg op) := by
      rw [hr]
      exact (if_neg hz : (if zs.length = 0 then ((0 : Int), false) else lineLead zs k n 124 arg op) = _)
    rcases hp with ⟨_, _, _, h0⟩ | ⟨b, off, cap', hv, hcap, hcm, hb, hcell⟩
    · exact absurd (congrArg List.length h0) (by simpa using hz)
    cases hv
    have HC : Hid (∀ N : Int, N = (n : Int) → Calls Try.prog 79 #[.slice (some ⟨b, off, none⟩) zs.length cap, .int .i64 (k : Int), .int .i64 N, .agg #[.int .i64 124, .int .i64 c, .int .i64 arg], .bool op] (w.alloc (.cells #[.int .i64 124, .int .i64 c, .int .i64 arg] 90)) fun e w' => LeadPost r (w.alloc (.cells #[.int .i64 124, .int .i64 c, .int .i64 arg] 90)) e w') := by
      intro N hN
      subst hN
      rw [Hr.out]
      exact line_124 b off cap zs k n c arg op _ hl (by rw [size_alloc]; omega) hcap hcm (by omega) (by omega) (by omega) (cells_alloc hb (mbox24 _ _) hcell)
    have hz0 : ((zs.length : Int) == 0) = false := beq_eq_false_iff_ne.2 (by omega)
    clear hr hcell hcm hcap hz Hr
    go_enter Try.func64, Try.ntmps64
    go_wp2_with fail
    all_goals (
      refine (HC.out _ (by omega)).mono ?_
      rintro e w1 ⟨rfl, hb1⟩
      have Hb1 : Hid (Below w.heap.size w w1) := below_trans (mbox24 _ _) hb1 (by rw [size_alloc]; omega)
      clear HC hb1
      go_wp2_with fail
      go_ret2
      exact LeadPost.mk rfl rfl Hb1.out)

set_option maxHeartbeats 1000000 in
theorem lead_119 (v : Value) (zs : List Int) (k n : Nat) (c arg : Int) (op : Bool) (w : World) (hp : Reads w v zs) (hl : zs.length ≤ 4096) (hk : k ≤ zs.length - 1) (hc0 : 0 ≤ c) (hc9 : c ≤ 999) (hn : max c 1 = (n : Int)) :
    Calls Try.prog 64 #[v, .int .i64 (k : Int), .agg #[.int .i64 119, .int .i64 c, .int .i64 arg], .bool op] w fun e w' => LeadPost (lead zs k n 119 arg op) w e w' := by
  obtain ⟨a, cap, rfl⟩ := hp.shape
  have hn1 : 1 ≤ (n : Int) := by omega
  have hn9 : (n : Int) ≤ 999 := by omega
  have hk9 : (k : Int) ≤ 4096 := by omega
  have hl9 : (zs.length : Int) ≤ 4096 := by omega
  obtain ⟨r, hr⟩ : ∃ r, r = lead zs k n 119 arg op := ⟨_, rfl⟩
  rw [← hr]
  by_cases hz : zs.length = 0
  · have h : lead zs k n 119 arg op = (0, false) := (if_pos hz : (if zs.length = 0 then ((0 : Int), false) else lineLead zs k n 119 arg op) = (0, false))
    have H1 : Hid (r.1 = 0) := congrArg Prod.fst (hr.trans h)
    have H2 : Hid (r.2 = false) := congrArg Prod.snd (hr.trans h)
    clear h
    rw [hz]
    clear hr hp hz hl9
    go_enter Try.func64, Try.ntmps64
    go_wp2_with fail
    all_goals (
      go_ret2
      exact LeadPost.mk H1.out H2.out (mbox24 _ _))
  · have Hr : Hid (r = lineLead zs k n 119 arg op) := by
      rw [hr]
      exact (if_neg hz : (if zs.length = 0 then ((0 : Int), false) else lineLead zs k n 119 arg op) = _)
    rcases hp with ⟨_, _, _, h0⟩ | ⟨b, off, cap', hv, hcap, hcm, hb, hcell⟩
    · exact absurd (congrArg List.length h0) (by simpa using hz)
    cases hv
    have HC : Hid (∀ N : Int, N = (n : Int) → Calls Try.prog 79 #[.slice (some ⟨b, off, none⟩) zs.length cap, .int .i64 (k : Int), .int .i64 N, .agg #[.int .i64 119, .int .i64 c, .int .i64 arg], .bool op] (w.alloc (.cells #[.int .i64 119, .int .i64 c, .int .i64 arg] 90)) fun e w' => LeadPost r (w.alloc (.cells #[.int .i64 119, .int .i64 c, .int .i64 arg] 90)) e w') := by
      intro N hN
      subst hN
      rw [Hr.out]
      exact line_119 b off cap zs k n c arg op _ hl (by rw [size_alloc]; omega) hcap hcm (by omega) (by omega) (by omega) (cells_alloc hb (mbox24 _ _) hcell)
    have hz0 : ((zs.length : Int) == 0) = false := beq_eq_false_iff_ne.2 (by omega)
    clear hr hcell hcm hcap hz Hr
    go_enter Try.func64, Try.ntmps64
    go_wp2_with fail
    all_goals (
      refine (HC.out _ (by omega)).mono ?_
      rintro e w1 ⟨rfl, hb1⟩
      have Hb1 : Hid (Below w.heap.size w w1) := below_trans (mbox24 _ _) hb1 (by rw [size_alloc]; omega)
      clear HC hb1
      go_wp2_with fail
      go_ret2
      exact LeadPost.mk rfl rfl Hb1.out)

set_option maxHeartbeats 1000000 in
theorem lead_87 (v : Value) (zs : List Int) (k n : Nat) (c arg : Int) (op : Bool) (w : World) (hp : Reads w v zs) (hl : zs.length ≤ 4096) (hk : k ≤ zs.length - 1) (hc0 : 0 ≤ c) (hc9 : c ≤ 999) (hn : max c 1 = (n : Int)) :
    Calls Try.prog 64 #[v, .int .i64 (k : Int), .agg #[.int .i64 87, .int .i64 c, .int .i64 arg], .bool op] w fun e w' => LeadPost (lead zs k n 87 arg op) w e w' := by
  obtain ⟨a, cap, rfl⟩ := hp.shape
  have hn1 : 1 ≤ (n : Int) := by omega
  have hn9 : (n : Int) ≤ 999 := by omega
  have hk9 : (k : Int) ≤ 4096 := by omega
  have hl9 : (zs.length : Int) ≤ 4096 := by omega
  obtain ⟨r, hr⟩ : ∃ r, r = lead zs k n 87 arg op := ⟨_, rfl⟩
  rw [← hr]
  by_cases hz : zs.length = 0
  · have h : lead zs k n 87 arg op = (0, false) := (if_pos hz : (if zs.length = 0 then ((0 : Int), false) else lineLead zs k n 87 arg op) = (0, false))
    have H1 : Hid (r.1 = 0) := congrArg Prod.fst (hr.trans h)
    have H2 : Hid (r.2 = false) := congrArg Prod.snd (hr.trans h)
    clear h
    rw [hz]
    clear hr hp hz hl9
    go_enter Try.func64, Try.ntmps64
    go_wp2_with fail
    all_goals (
      go_ret2
      exact LeadPost.mk H1.out H2.out (mbox24 _ _))
  · have Hr : Hid (r = lineLead zs k n 87 arg op) := by
      rw [hr]
      exact (if_neg hz : (if zs.length = 0 then ((0 : Int), false) else lineLead zs k n 87 arg op) = _)
    rcases hp with ⟨_, _, _, h0⟩ | ⟨b, off, cap', hv, hcap, hcm, hb, hcell⟩
    · exact absurd (congrArg List.length h0) (by simpa using hz)
    cases hv
    have HC : Hid (∀ N : Int, N = (n : Int) → Calls Try.prog 79 #[.slice (some ⟨b, off, none⟩) zs.length cap, .int .i64 (k : Int), .int .i64 N, .agg #[.int .i64 87, .int .i64 c, .int .i64 arg], .bool op] (w.alloc (.cells #[.int .i64 87, .int .i64 c, .int .i64 arg] 90)) fun e w' => LeadPost r (w.alloc (.cells #[.int .i64 87, .int .i64 c, .int .i64 arg] 90)) e w') := by
      intro N hN
      subst hN
      rw [Hr.out]
      exact line_87 b off cap zs k n c arg op _ hl (by rw [size_alloc]; omega) hcap hcm (by omega) (by omega) (by omega) (cells_alloc hb (mbox24 _ _) hcell)
    have hz0 : ((zs.length : Int) == 0) = false := beq_eq_false_iff_ne.2 (by omega)
    clear hr hcell hcm hcap hz Hr
    go_enter Try.func64, Try.ntmps64
    go_wp2_with fail
    all_goals (
      refine (HC.out _ (by omega)).mono ?_
      rintro e w1 ⟨rfl, hb1⟩
      have Hb1 : Hid (Below w.heap.size w w1) := below_trans (mbox24 _ _) hb1 (by rw [size_alloc]; omega)
      clear HC hb1
      go_wp2_with fail
      go_ret2
      exact LeadPost.mk rfl rfl Hb1.out)

set_option maxHeartbeats 1000000 in
theorem lead_101 (v : Value) (zs : List Int) (k n : Nat) (c arg : Int) (op : Bool) (w : World) (hp : Reads w v zs) (hl : zs.length ≤ 4096) (hk : k ≤ zs.length - 1) (hc0 : 0 ≤ c) (hc9 : c ≤ 999) (hn : max c 1 = (n : Int)) :
    Calls Try.prog 64 #[v, .int .i64 (k : Int), .agg #[.int .i64 101, .int .i64 c, .int .i64 arg], .bool op] w fun e w' => LeadPost (lead zs k n 101 arg op) w e w' := by
  obtain ⟨a, cap, rfl⟩ := hp.shape
  have hn1 : 1 ≤ (n : Int) := by omega
  have hn9 : (n : Int) ≤ 999 := by omega
  have hk9 : (k : Int) ≤ 4096 := by omega
  have hl9 : (zs.length : Int) ≤ 4096 := by omega
  obtain ⟨r, hr⟩ : ∃ r, r = lead zs k n 101 arg op := ⟨_, rfl⟩
  rw [← hr]
  by_cases hz : zs.length = 0
  · have h : lead zs k n 101 arg op = (0, false) := (if_pos hz : (if zs.length = 0 then ((0 : Int), false) else lineLead zs k n 101 arg op) = (0, false))
    have H1 : Hid (r.1 = 0) := congrArg Prod.fst (hr.trans h)
    have H2 : Hid (r.2 = false) := congrArg Prod.snd (hr.trans h)
    clear h
    rw [hz]
    clear hr hp hz hl9
    go_enter Try.func64, Try.ntmps64
    go_wp2_with fail
    all_goals (
      go_ret2
      exact LeadPost.mk H1.out H2.out (mbox24 _ _))
  · have Hr : Hid (r = lineLead zs k n 101 arg op) := by
      rw [hr]
      exact (if_neg hz : (if zs.length = 0 then ((0 : Int), false) else lineLead zs k n 101 arg op) = _)
    rcases hp with ⟨_, _, _, h0⟩ | ⟨b, off, cap', hv, hcap, hcm, hb, hcell⟩
    · exact absurd (congrArg List.length h0) (by simpa using hz)
    cases hv
    have HC : Hid (∀ N : Int, N = (n : Int) → Calls Try.prog 79 #[.slice (some ⟨b, off, none⟩) zs.length cap, .int .i64 (k : Int), .int .i64 N, .agg #[.int .i64 101, .int .i64 c, .int .i64 arg], .bool op] (w.alloc (.cells #[.int .i64 101, .int .i64 c, .int .i64 arg] 90)) fun e w' => LeadPost r (w.alloc (.cells #[.int .i64 101, .int .i64 c, .int .i64 arg] 90)) e w') := by
      intro N hN
      subst hN
      rw [Hr.out]
      exact line_101 b off cap zs k n c arg op _ hl (by rw [size_alloc]; omega) hcap hcm (by omega) (by omega) (by omega) (cells_alloc hb (mbox24 _ _) hcell)
    have hz0 : ((zs.length : Int) == 0) = false := beq_eq_false_iff_ne.2 (by omega)
    clear hr hcell hcm hcap hz Hr
    go_enter Try.func64, Try.ntmps64
    go_wp2_with fail
    all_goals (
      refine (HC.out _ (by omega)).mono ?_
      rintro e w1 ⟨rfl, hb1⟩
      have Hb1 : Hid (Below w.heap.size w w1) := below_trans (mbox24 _ _) hb1 (by rw [size_alloc]; omega)
      clear HC hb1
      go_wp2_with fail
      go_ret2
      exact LeadPost.mk rfl rfl Hb1.out)

set_option maxHeartbeats 1000000 in
theorem lead_69 (v : Value) (zs : List Int) (k n : Nat) (c arg : Int) (op : Bool) (w : World) (hp : Reads w v zs) (hl : zs.length ≤ 4096) (hk : k ≤ zs.length - 1) (hc0 : 0 ≤ c) (hc9 : c ≤ 999) (hn : max c 1 = (n : Int)) :
    Calls Try.prog 64 #[v, .int .i64 (k : Int), .agg #[.int .i64 69, .int .i64 c, .int .i64 arg], .bool op] w fun e w' => LeadPost (lead zs k n 69 arg op) w e w' := by
  obtain ⟨a, cap, rfl⟩ := hp.shape
  have hn1 : 1 ≤ (n : Int) := by omega
  have hn9 : (n : Int) ≤ 999 := by omega
  have hk9 : (k : Int) ≤ 4096 := by omega
  have hl9 : (zs.length : Int) ≤ 4096 := by omega
  obtain ⟨r, hr⟩ : ∃ r, r = lead zs k n 69 arg op := ⟨_, rfl⟩
  rw [← hr]
  by_cases hz : zs.length = 0
  · have h : lead zs k n 69 arg op = (0, false) := (if_pos hz : (if zs.length = 0 then ((0 : Int), false) else lineLead zs k n 69 arg op) = (0, false))
    have H1 : Hid (r.1 = 0) := congrArg Prod.fst (hr.trans h)
    have H2 : Hid (r.2 = false) := congrArg Prod.snd (hr.trans h)
    clear h
    rw [hz]
    clear hr hp hz hl9
    go_enter Try.func64, Try.ntmps64
    go_wp2_with fail
    all_goals (
      go_ret2
      exact LeadPost.mk H1.out H2.out (mbox24 _ _))
  · have Hr : Hid (r = lineLead zs k n 69 arg op) := by
      rw [hr]
      exact (if_neg hz : (if zs.length = 0 then ((0 : Int), false) else lineLead zs k n 69 arg op) = _)
    rcases hp with ⟨_, _, _, h0⟩ | ⟨b, off, cap', hv, hcap, hcm, hb, hcell⟩
    · exact absurd (congrArg List.length h0) (by simpa using hz)
    cases hv
    have HC : Hid (∀ N : Int, N = (n : Int) → Calls Try.prog 79 #[.slice (some ⟨b, off, none⟩) zs.length cap, .int .i64 (k : Int), .int .i64 N, .agg #[.int .i64 69, .int .i64 c, .int .i64 arg], .bool op] (w.alloc (.cells #[.int .i64 69, .int .i64 c, .int .i64 arg] 90)) fun e w' => LeadPost r (w.alloc (.cells #[.int .i64 69, .int .i64 c, .int .i64 arg] 90)) e w') := by
      intro N hN
      subst hN
      rw [Hr.out]
      exact line_69 b off cap zs k n c arg op _ hl (by rw [size_alloc]; omega) hcap hcm (by omega) (by omega) (by omega) (cells_alloc hb (mbox24 _ _) hcell)
    have hz0 : ((zs.length : Int) == 0) = false := beq_eq_false_iff_ne.2 (by omega)
    clear hr hcell hcm hcap hz Hr
    go_enter Try.func64, Try.ntmps64
    go_wp2_with fail
    all_goals (
      refine (HC.out _ (by omega)).mono ?_
      rintro e w1 ⟨rfl, hb1⟩
      have Hb1 : Hid (Below w.heap.size w w1) := below_trans (mbox24 _ _) hb1 (by rw [size_alloc]; omega)
      clear HC hb1
      go_wp2_with fail
      go_ret2
      exact LeadPost.mk rfl rfl Hb1.out)

set_option maxHeartbeats 1000000 in
theorem lead_37 (v : Value) (zs : List Int) (k n : Nat) (c arg : Int) (op : Bool) (w : World) (hp : Reads w v zs) (hl : zs.length ≤ 4096) (hk : k ≤ zs.length - 1) (hc0 : 0 ≤ c) (hc9 : c ≤ 999) (hn : max c 1 = (n : Int)) :
    Calls Try.prog 64 #[v, .int .i64 (k : Int), .agg #[.int .i64 37, .int .i64 c, .int .i64 arg], .bool op] w fun e w' => LeadPost (lead zs k n 37 arg op) w e w' := by
  obtain ⟨a, cap, rfl⟩ := hp.shape
  have hn1 : 1 ≤ (n : Int) := by omega
  have hn9 : (n : Int) ≤ 999 := by omega
  have hk9 : (k : Int) ≤ 4096 := by omega
  have hl9 : (zs.length : Int) ≤ 4096 := by omega
  obtain ⟨r, hr⟩ : ∃ r, r = lead zs k n 37 arg op := ⟨_, rfl⟩
  rw [← hr]
  by_cases hz : zs.length = 0
  · have h : lead zs k n 37 arg op = (0, false) := (if_pos hz : (if zs.length = 0 then ((0 : Int), false) else lineLead zs k n 37 arg op) = (0, false))
    have H1 : Hid (r.1 = 0) := congrArg Prod.fst (hr.trans h)
    have H2 : Hid (r.2 = false) := congrArg Prod.snd (hr.trans h)
    clear h
    rw [hz]
    clear hr hp hz hl9
    go_enter Try.func64, Try.ntmps64
    go_wp2_with fail
    all_goals (
      go_ret2
      exact LeadPost.mk H1.out H2.out (mbox24 _ _))
  · have Hr : Hid (r = lineLead zs k n 37 arg op) := by
      rw [hr]
      exact (if_neg hz : (if zs.length = 0 then ((0 : Int), false) else lineLead zs k n 37 arg op) = _)
    rcases hp with ⟨_, _, _, h0⟩ | ⟨b, off, cap', hv, hcap, hcm, hb, hcell⟩
    · exact absurd (congrArg List.length h0) (by simpa using hz)
    cases hv
    have HC : Hid (∀ N : Int, N = (n : Int) → Calls Try.prog 79 #[.slice (some ⟨b, off, none⟩) zs.length cap, .int .i64 (k : Int), .int .i64 N, .agg #[.int .i64 37, .int .i64 c, .int .i64 arg], .bool op] (w.alloc (.cells #[.int .i64 37, .int .i64 c, .int .i64 arg] 90)) fun e w' => LeadPost r (w.alloc (.cells #[.int .i64 37, .int .i64 c, .int .i64 arg] 90)) e w') := by
      intro N hN
      subst hN
      rw [Hr.out]
      exact line_37 b off cap zs k n c arg op _ hl (by rw [size_alloc]; omega) hcap hcm (by omega) (by omega) (by omega) (cells_alloc hb (mbox24 _ _) hcell)
    have hz0 : ((zs.length : Int) == 0) = false := beq_eq_false_iff_ne.2 (by omega)
    clear hr hcell hcm hcap hz Hr
    go_enter Try.func64, Try.ntmps64
    go_wp2_with fail
    all_goals (
      refine (HC.out _ (by omega)).mono ?_
      rintro e w1 ⟨rfl, hb1⟩
      have Hb1 : Hid (Below w.heap.size w w1) := below_trans (mbox24 _ _) hb1 (by rw [size_alloc]; omega)
      clear HC hb1
      go_wp2_with fail
      go_ret2
      exact LeadPost.mk rfl rfl Hb1.out)

set_option maxHeartbeats 1000000 in
theorem lead_102 (v : Value) (zs : List Int) (k n : Nat) (c arg : Int) (op : Bool) (w : World) (hp : Reads w v zs) (hl : zs.length ≤ 4096) (hk : k ≤ zs.length - 1) (hc0 : 0 ≤ c) (hc9 : c ≤ 999) (hn : max c 1 = (n : Int)) :
    Calls Try.prog 64 #[v, .int .i64 (k : Int), .agg #[.int .i64 102, .int .i64 c, .int .i64 arg], .bool op] w fun e w' => LeadPost (lead zs k n 102 arg op) w e w' := by
  obtain ⟨a, cap, rfl⟩ := hp.shape
  have hn1 : 1 ≤ (n : Int) := by omega
  have hn9 : (n : Int) ≤ 999 := by omega
  have hk9 : (k : Int) ≤ 4096 := by omega
  have hl9 : (zs.length : Int) ≤ 4096 := by omega
  obtain ⟨r, hr⟩ : ∃ r, r = lead zs k n 102 arg op := ⟨_, rfl⟩
  rw [← hr]
  by_cases hz : zs.length = 0
  · have h : lead zs k n 102 arg op = (0, false) := (if_pos hz : (if zs.length = 0 then ((0 : Int), false) else lineLead zs k n 102 arg op) = (0, false))
    have H1 : Hid (r.1 = 0) := congrArg Prod.fst (hr.trans h)
    have H2 : Hid (r.2 = false) := congrArg Prod.snd (hr.trans h)
    clear h
    rw [hz]
    clear hr hp hz hl9
    go_enter Try.func64, Try.ntmps64
    go_wp2_with fail
    all_goals (
      go_ret2
      exact LeadPost.mk H1.out H2.out (mbox24 _ _))
  · have Hr : Hid (r = lineLead zs k n 102 arg op) := by
      rw [hr]
      exact (if_neg hz : (if zs.length = 0 then ((0 : Int), false) else lineLead zs k n 102 arg op) = _)
    rcases hp with ⟨_, _, _, h0⟩ | ⟨b, off, cap', hv, hcap, hcm, hb, hcell⟩
    · exact absurd (congrArg List.length h0) (by simpa using hz)
    cases hv
    have HC : Hid (∀ N : Int, N = (n : Int) → Calls Try.prog 79 #[.slice (some ⟨b, off, none⟩) zs.length cap, .int .i64 (k : Int), .int .i64 N, .agg #[.int .i64 102, .int .i64 c, .int .i64 arg], .bool op] (w.alloc (.cells #[.int .i64 102, .int .i64 c, .int .i64 arg] 90)) fun e w' => LeadPost r (w.alloc (.cells #[.int .i64 102, .int .i64 c, .int .i64 arg] 90)) e w') := by
      intro N hN
      subst hN
      rw [Hr.out]
      exact line_102 b off cap zs k n c arg op _ hl (by rw [size_alloc]; omega) hcap hcm (by omega) (by omega) (by omega) (cells_alloc hb (mbox24 _ _) hcell)
    have hz0 : ((zs.length : Int) == 0) = false := beq_eq_false_iff_ne.2 (by omega)
    clear hr hcell hcm hcap hz Hr
    go_enter Try.func64, Try.ntmps64
    go_wp2_with fail
    all_goals (
      refine (HC.out _ (by omega)).mono ?_
      rintro e w1 ⟨rfl, hb1⟩
      have Hb1 : Hid (Below w.heap.size w w1) := below_trans (mbox24 _ _) hb1 (by rw [size_alloc]; omega)
      clear HC hb1
      go_wp2_with fail
      go_ret2
      exact LeadPost.mk rfl rfl Hb1.out)

set_option maxHeartbeats 1000000 in
theorem lead_116 (v : Value) (zs : List Int) (k n : Nat) (c arg : Int) (op : Bool) (w : World) (hp : Reads w v zs) (hl : zs.length ≤ 4096) (hk : k ≤ zs.length - 1) (hc0 : 0 ≤ c) (hc9 : c ≤ 999) (hn : max c 1 = (n : Int)) :
    Calls Try.prog 64 #[v, .int .i64 (k : Int), .agg #[.int .i64 116, .int .i64 c, .int .i64 arg], .bool op] w fun e w' => LeadPost (lead zs k n 116 arg op) w e w' := by
  obtain ⟨a, cap, rfl⟩ := hp.shape
  have hn1 : 1 ≤ (n : Int) := by omega
  have hn9 : (n : Int) ≤ 999 := by omega
  have hk9 : (k : Int) ≤ 4096 := by omega
  have hl9 : (zs.length : Int) ≤ 4096 := by omega
  obtain ⟨r, hr⟩ : ∃ r, r = lead zs k n 116 arg op := ⟨_, rfl⟩
  rw [← hr]
  by_cases hz : zs.length = 0
  · have h : lead zs k n 116 arg op = (0, false) := (if_pos hz : (if zs.length = 0 then ((0 : Int), false) else lineLead zs k n 116 arg op) = (0, false))
    have H1 : Hid (r.1 = 0) := congrArg Prod.fst (hr.trans h)
    have H2 : Hid (r.2 = false) := congrArg Prod.snd (hr.trans h)
    clear h
    rw [hz]
    clear hr hp hz hl9
    go_enter Try.func64, Try.ntmps64
    go_wp2_with fail
    all_goals (
      go_ret2
      exact LeadPost.mk H1.out H2.out (mbox24 _ _))
  · have Hr : Hid (r = lineLead zs k n 116 arg op) := by
      rw [hr]
      exact (if_neg hz : (if zs.length = 0 then ((0 : Int), false) else lineLead zs k n 116 arg op) = _)
    rcases hp with ⟨_, _, _, h0⟩ | ⟨b, off, cap', hv, hcap, hcm, hb, hcell⟩
    · exact absurd (congrArg List.length h0) (by simpa using hz)
    cases hv
    have HC : Hid (∀ N : Int, N = (n : Int) → Calls Try.prog 79 #[.slice (some ⟨b, off, none⟩) zs.length cap, .int .i64 (k : Int), .int .i64 N, .agg #[.int .i64 116, .int .i64 c, .int .i64 arg], .bool op] (w.alloc (.cells #[.int .i64 116, .int .i64 c, .int .i64 arg] 90)) fun e w' => LeadPost r (w.alloc (.cells #[.int .i64 116, .int .i64 c, .int .i64 arg] 90)) e w') := by
      intro N hN
      subst hN
      rw [Hr.out]
      exact line_116 b off cap zs k n c arg op _ hl (by rw [size_alloc]; omega) hcap hcm (by omega) (by omega) (by omega) (cells_alloc hb (mbox24 _ _) hcell)
    have hz0 : ((zs.length : Int) == 0) = false := beq_eq_false_iff_ne.2 (by omega)
    clear hr hcell hcm hcap hz Hr
    go_enter Try.func64, Try.ntmps64
    go_wp2_with fail
    all_goals (
      refine (HC.out _ (by omega)).mono ?_
      rintro e w1 ⟨rfl, hb1⟩
      have Hb1 : Hid (Below w.heap.size w w1) := below_trans (mbox24 _ _) hb1 (by rw [size_alloc]; omega)
      clear HC hb1
      go_wp2_with fail
      go_ret2
      exact LeadPost.mk rfl rfl Hb1.out)

set_option maxHeartbeats 1000000 in
theorem lead_70 (v : Value) (zs : List Int) (k n : Nat) (c arg : Int) (op : Bool) (w : World) (hp : Reads w v zs) (hl : zs.length ≤ 4096) (hk : k ≤ zs.length - 1) (hc0 : 0 ≤ c) (hc9 : c ≤ 999) (hn : max c 1 = (n : Int)) :
    Calls Try.prog 64 #[v, .int .i64 (k : Int), .agg #[.int .i64 70, .int .i64 c, .int .i64 arg], .bool op] w fun e w' => LeadPost (lead zs k n 70 arg op) w e w' := by
  obtain ⟨a, cap, rfl⟩ := hp.shape
  have hn1 : 1 ≤ (n : Int) := by omega
  have hn9 : (n : Int) ≤ 999 := by omega
  have hk9 : (k : Int) ≤ 4096 := by omega
  have hl9 : (zs.length : Int) ≤ 4096 := by omega
  obtain ⟨r, hr⟩ : ∃ r, r = lead zs k n 70 arg op := ⟨_, rfl⟩
  rw [← hr]
  by_cases hz : zs.length = 0
  · have h : lead zs k n 70 arg op = (0, false) := (if_pos hz : (if zs.length = 0 then ((0 : Int), false) else lineLead zs k n 70 arg op) = (0, false))
    have H1 : Hid (r.1 = 0) := congrArg Prod.fst (hr.trans h)
    have H2 : Hid (r.2 = false) := congrArg Prod.snd (hr.trans h)
    clear h
    rw [hz]
    clear hr hp hz hl9
    go_enter Try.func64, Try.ntmps64
    go_wp2_with fail
    all_goals (
      go_ret2
      exact LeadPost.mk H1.out H2.out (mbox24 _ _))
  · have Hr : Hid (r = lineLead zs k n 70 arg op) := by
      rw [hr]
      exact (if_neg hz : (if zs.length = 0 then ((0 : Int), false) else lineLead zs k n 70 arg op) = _)
    rcases hp with ⟨_, _, _, h0⟩ | ⟨b, off, cap', hv, hcap, hcm, hb, hcell⟩
    · exact absurd (congrArg List.length h0) (by simpa using hz)
    cases hv
    have HC : Hid (∀ N : Int, N = (n : Int) → Calls Try.prog 79 #[.slice (some ⟨b, off, none⟩) zs.length cap, .int .i64 (k : Int), .int .i64 N, .agg #[.int .i64 70, .int .i64 c, .int .i64 arg], .bool op] (w.alloc (.cells #[.int .i64 70, .int .i64 c, .int .i64 arg] 90)) fun e w' => LeadPost r (w.alloc (.cells #[.int .i64 70, .int .i64 c, .int .i64 arg] 90)) e w') := by
      intro N hN
      subst hN
      rw [Hr.out]
      exact line_70 b off cap zs k n c arg op _ hl (by rw [size_alloc]; omega) hcap hcm (by omega) (by omega) (by omega) (cells_alloc hb (mbox24 _ _) hcell)
    have hz0 : ((zs.length : Int) == 0) = false := beq_eq_false_iff_ne.2 (by omega)
    clear hr hcell hcm hcap hz Hr
    go_enter Try.func64, Try.ntmps64
    go_wp2_with fail
    all_goals (
      refine (HC.out _ (by omega)).mono ?_
      rintro e w1 ⟨rfl, hb1⟩
      have Hb1 : Hid (Below w.heap.size w w1) := below_trans (mbox24 _ _) hb1 (by rw [size_alloc]; omega)
      clear HC hb1
      go_wp2_with fail
      go_ret2
      exact LeadPost.mk rfl rfl Hb1.out)

set_option maxHeartbeats 1000000 in
theorem lead_84 (v : Value) (zs : List Int) (k n : Nat) (c arg : Int) (op : Bool) (w : World) (hp : Reads w v zs) (hl : zs.length ≤ 4096) (hk : k ≤ zs.length - 1) (hc0 : 0 ≤ c) (hc9 : c ≤ 999) (hn : max c 1 = (n : Int)) :
    Calls Try.prog 64 #[v, .int .i64 (k : Int), .agg #[.int .i64 84, .int .i64 c, .int .i64 arg], .bool op] w fun e w' => LeadPost (lead zs k n 84 arg op) w e w' := by
  obtain ⟨a, cap, rfl⟩ := hp.shape
  have hn1 : 1 ≤ (n : Int) := by omega
  have hn9 : (n : Int) ≤ 999 := by omega
  have hk9 : (k : Int) ≤ 4096 := by omega
  have hl9 : (zs.length : Int) ≤ 4096 := by omega
  obtain ⟨r, hr⟩ : ∃ r, r = lead zs k n 84 arg op := ⟨_, rfl⟩
  rw [← hr]
  by_cases hz : zs.length = 0
  · have h : lead zs k n 84 arg op = (0, false) := (if_pos hz : (if zs.length = 0 then ((0 : Int), false) else lineLead zs k n 84 arg op) = (0, false))
    have H1 : Hid (r.1 = 0) := congrArg Prod.fst (hr.trans h)
    have H2 : Hid (r.2 = false) := congrArg Prod.snd (hr.trans h)
    clear h
    rw [hz]
    clear hr hp hz hl9
    go_enter Try.func64, Try.ntmps64
    go_wp2_with fail
    all_goals (
      go_ret2
      exact LeadPost.mk H1.out H2.out (mbox24 _ _))
  · have Hr : Hid (r = lineLead zs k n 84 arg op) := by
      rw [hr]
      exact (if_neg hz : (if zs.length = 0 then ((0 : Int), false) else lineLead zs k n 84 arg op) = _)
    rcases hp with ⟨_, _, _, h0⟩ | ⟨b, off, cap', hv, hcap, hcm, hb, hcell⟩
    · exact absurd (congrArg List.length h0) (by simpa using hz)
    cases hv
    have HC : Hid (∀ N : Int, N = (n : Int) → Calls Try.prog 79 #[.slice (some ⟨b, off, none⟩) zs.length cap, .int .i64 (k : Int), .int .i64 N, .agg #[.int .i64 84, .int .i64 c, .int .i64 arg], .bool op] (w.alloc (.cells #[.int .i64 84, .int .i64 c, .int .i64 arg] 90)) fun e w' => LeadPost r (w.alloc (.cells #[.int .i64 84, .int .i64 c, .int .i64 arg] 90)) e w') := by
      intro N hN
      subst hN
      rw [Hr.out]
      exact line_84 b off cap zs k n c arg op _ hl (by rw [size_alloc]; omega) hcap hcm (by omega) (by omega) (by omega) (cells_alloc hb (mbox24 _ _) hcell)
    have hz0 : ((zs.length : Int) == 0) = false := beq_eq_false_iff_ne.2 (by omega)
    clear hr hcell hcm hcap hz Hr
    go_enter Try.func64, Try.ntmps64
    go_wp2_with fail
    all_goals (
      refine (HC.out _ (by omega)).mono ?_
      rintro e w1 ⟨rfl, hb1⟩
      have Hb1 : Hid (Below w.heap.size w w1) := below_trans (mbox24 _ _) hb1 (by rw [size_alloc]; omega)
      clear HC hb1
      go_wp2_with fail
      go_ret2
      exact LeadPost.mk rfl rfl Hb1.out)

theorem lead_go (v : Value) (zs : List Int) (k n : Nat) (key c arg : Int) (op : Bool) (w : World) (hp : Reads w v zs) (hl : zs.length ≤ 4096) (hk : k ≤ zs.length - 1) (hc0 : 0 ≤ c) (hc9 : c ≤ 999) (hn : max c 1 = (n : Int)) (hkey : isk key = true) :
    Calls Try.prog 64 #[v, .int .i64 (k : Int), .agg #[.int .i64 key, .int .i64 c, .int .i64 arg], .bool op] w fun e w' => LeadPost (lead zs k n key arg op) w e w' := by
  unfold isk at hkey
  rcases of_decide_eq_true hkey with rfl | rfl | rfl | rfl | rfl | rfl | rfl | rfl | rfl | rfl | rfl | rfl | rfl | rfl | rfl | rfl | rfl
  · exact lead_104 v zs k n c arg op w hp hl hk hc0 hc9 hn
  · exact lead_108 v zs k n c arg op w hp hl hk hc0 hc9 hn
  · exact lead_48 v zs k n c arg op w hp hl hk hc0 hc9 hn
  · exact lead_94 v zs k n c arg op w hp hl hk hc0 hc9 hn
  · exact lead_98 v zs k n c arg op w hp hl hk hc0 hc9 hn
  · exact lead_66 v zs k n c arg op w hp hl hk hc0 hc9 hn
  · exact lead_36 v zs k n c arg op w hp hl hk hc0 hc9 hn
  · exact lead_124 v zs k n c arg op w hp hl hk hc0 hc9 hn
  · exact lead_119 v zs k n c arg op w hp hl hk hc0 hc9 hn
  · exact lead_87 v zs k n c arg op w hp hl hk hc0 hc9 hn
  · exact lead_101 v zs k n c arg op w hp hl hk hc0 hc9 hn
  · exact lead_69 v zs k n c arg op w hp hl hk hc0 hc9 hn
  · exact lead_37 v zs k n c arg op w hp hl hk hc0 hc9 hn
  · exact lead_102 v zs k n c arg op w hp hl hk hc0 hc9 hn
  · exact lead_116 v zs k n c arg op w hp hl hk hc0 hc9 hn
  · exact lead_70 v zs k n c arg op w hp hl hk hc0 hc9 hn
  · exact lead_84 v zs k n c arg op w hp hl hk hc0 hc9 hn
end Go.Proofs.Ytpgjaoemkadenaa.Seek
