/- Texts of one claim, one behind the other: LeadGo, GoGo. -/
import Derived.Test.YtpgjaoemkadenabM15
/- The contracts of motion.lead, motion.Go and motion.Range. -/
set_option linter.unusedVariables false
set_option linter.unusedSimpArgs false
set_option maxRecDepth 100000
namespace Go.Proofs.Ytpgjaoemkadenab.Seek
open Go.RowKit Plain

set_option maxHeartbeats 1000000 in
theorem lead_104 (v : Value) (zs : List Int) (k n : Nat) (c arg : Int) (op : Bool) (w : World) (hp : Reads w v zs) (hl : zs.length ≤ 4096) (hk : k ≤ zs.length - 1) (hc0 : 0 ≤ c) (hc9 : c ≤ 999) (hn : max c 1 = (n : Int)) :
    Calls Try.prog 66 #[v, .int .i64 (k : Int), .agg #[.int .i64 104, .int .i64 c, .int .i64 arg], .bool op] w fun e w' => LeadPost (lead zs k n 104 arg op) w e w' := by
  obtain ⟨a, cap, rfl⟩ := hp.shape
  have hn1 : 1 ≤ (n : Int) := by omega
  have hn9 : (n : Int) ≤ 999 := by omega
  have hk9 : (k : Int) ≤ 4096 := by omega
  have hl9 : (zs.length : Int) ≤ 4096 := by omega
  obtain ⟨r, hr⟩ : ∃ r, r = lead zs k n 104 arg op := ⟨_, rfl⟩
  rw [← hr]
  have H1 : Hid (r.1 = max ((k : Int) - n) 0) := by rw [hr]; rfl
  have H2 : Hid (r.2 = decide (0 < (k : Int))) := by rw [hr]; rfl
  clear hr hp
  go_enter Try.func66, Try.ntmps66
  go_wp2_with fail
  all_goals (
    go_ret2
    refine LeadPost.mk (H1.out.trans ?_) (H2.out.trans ?_) (mbox24 _ _)
    · omega
    · first | rfl | (simp only [Int.natCast_pos]))

set_option maxHeartbeats 1000000 in
theorem lead_48 (v : Value) (zs : List Int) (k n : Nat) (c arg : Int) (op : Bool) (w : World) (hp : Reads w v zs) (hl : zs.length ≤ 4096) (hk : k ≤ zs.length - 1) (hc0 : 0 ≤ c) (hc9 : c ≤ 999) (hn : max c 1 = (n : Int)) :
    Calls Try.prog 66 #[v, .int .i64 (k : Int), .agg #[.int .i64 48, .int .i64 c, .int .i64 arg], .bool op] w fun e w' => LeadPost (lead zs k n 48 arg op) w e w' := by
  obtain ⟨a, cap, rfl⟩ := hp.shape
  have hn1 : 1 ≤ (n : Int) := by omega
  have hn9 : (n : Int) ≤ 999 := by omega
  have hk9 : (k : Int) ≤ 4096 := by omega
  have hl9 : (zs.length : Int) ≤ 4096 := by omega
  obtain ⟨r, hr⟩ : ∃ r, r = lead zs k n 48 arg op := ⟨_, rfl⟩
  rw [← hr]
  have H1 : Hid (r.1 = 0) := by rw [hr]; rfl
  have H2 : Hid (r.2 = true) := by rw [hr]; rfl
  clear hr hp
  go_enter Try.func66, Try.ntmps66
  go_wp2_with fail
  all_goals (
    go_ret2
    exact LeadPost.mk H1.out H2.out (mbox24 _ _))

set_option maxHeartbeats 1000000 in
theorem lead_108 (v : Value) (zs : List Int) (k n : Nat) (c arg : Int) (op : Bool) (w : World) (hp : Reads w v zs) (hl : zs.length ≤ 4096) (hk : k ≤ zs.length - 1) (hc0 : 0 ≤ c) (hc9 : c ≤ 999) (hn : max c 1 = (n : Int)) :
    Calls Try.prog 66 #[v, .int .i64 (k : Int), .agg #[.int .i64 108, .int .i64 c, .int .i64 arg], .bool op] w fun e w' => LeadPost (lead zs k n 108 arg op) w e w' := by
  obtain ⟨a, cap, rfl⟩ := hp.shape
  have hn1 : 1 ≤ (n : Int) := by omega
  have hn9 : (n : Int) ≤ 999 := by omega
  have hk9 : (k : Int) ≤ 4096 := by omega
  have hl9 : (zs.length : Int) ≤ 4096 := by omega
  obtain ⟨r, hr⟩ : ∃ r, r = lead zs k n 108 arg op := ⟨_, rfl⟩
  rw [← hr]
  obtain ⟨x, hx⟩ : ∃ x, x = min ((k : Int) + n) (endOf zs op) := ⟨_, rfl⟩
  obtain ⟨y, hy⟩ : ∃ y, y = decide ((k : Int) < endOf zs op) := ⟨_, rfl⟩
  have H1 : Hid (r.1 = x) := by rw [hr, hx]; rfl
  have H2 : Hid (r.2 = y) := by rw [hr, hy]; rfl
  have HC : Hid (∀ N : Int, N = (n : Int) → Calls Try.prog 76 #[.slice a zs.length cap, .int .i64 (k : Int), .int .i64 N, .bool op] (w.alloc (.cells #[.int .i64 108, .int .i64 c, .int .i64 arg] 99)) fun e w' => e = .returned (.tuple #[.int .i64 x, .bool y]) ∧ w' = (w.alloc (.cells #[.int .i64 108, .int .i64 c, .int .i64 arg] 99))) := by
    intro N hN
    subst hN
    rw [hx, hy]
    exact toRight_go a zs cap k n op _ hl (by omega) (by omega)
  clear hr hp hx
  try clear hy
  go_enter Try.func66, Try.ntmps66
  go_wp2_with fail
  all_goals (
    refine (HC.out _ (by omega)).mono ?_
    rintro e w1 ⟨rfl, hw1⟩
    rw [hw1]
    clear hw1 w1 HC
    go_wp2_with fail
    all_goals (
      go_ret2
      refine LeadPost.mk (H1.out.trans ?_) (H2.out.trans ?_) (mbox24 _ _)
      · rfl
      · first | rfl | (simp only [Int.natCast_pos])))

set_option maxHeartbeats 1000000 in
theorem lead_94 (v : Value) (zs : List Int) (k n : Nat) (c arg : Int) (op : Bool) (w : World) (hp : Reads w v zs) (hl : zs.length ≤ 4096) (hk : k ≤ zs.length - 1) (hc0 : 0 ≤ c) (hc9 : c ≤ 999) (hn : max c 1 = (n : Int)) :
    Calls Try.prog 66 #[v, .int .i64 (k : Int), .agg #[.int .i64 94, .int .i64 c, .int .i64 arg], .bool op] w fun e w' => LeadPost (lead zs k n 94 arg op) w e w' := by
  obtain ⟨a, cap, rfl⟩ := hp.shape
  have hn1 : 1 ≤ (n : Int) := by omega
  have hn9 : (n : Int) ≤ 999 := by omega
  have hk9 : (k : Int) ≤ 4096 := by omega
  have hl9 : (zs.length : Int) ≤ 4096 := by omega
  obtain ⟨r, hr⟩ : ∃ r, r = lead zs k n 94 arg op := ⟨_, rfl⟩
  rw [← hr]
  obtain ⟨x, hx⟩ : ∃ x, x = solid zs := ⟨_, rfl⟩
  have H1 : Hid (r.1 = x) := by rw [hr, hx]; rfl
  have H2 : Hid (r.2 = true) := by rw [hr]; rfl
  have HC : Hid (∀ N : Int, N = (n : Int) → Calls Try.prog 77 #[.slice a zs.length cap] (w.alloc (.cells #[.int .i64 94, .int .i64 c, .int .i64 arg] 99)) fun e w' => e = .returned (.int .i64 x) ∧ w' = (w.alloc (.cells #[.int .i64 94, .int .i64 c, .int .i64 arg] 99))) := by
    intro N hN
    subst hN
    rw [hx]
    exact solid_go _ zs _ (hp.below (mbox24 _ _)) hl
  clear hr hp hx
  try clear hy
  go_enter Try.func66, Try.ntmps66
  go_wp2_with fail
  all_goals (
    refine (HC.out _ (by omega)).mono ?_
    rintro e w1 ⟨rfl, hw1⟩
    rw [hw1]
    clear hw1 w1 HC
    go_wp2_with fail
    all_goals (
      go_ret2
      refine LeadPost.mk (H1.out.trans ?_) (H2.out.trans ?_) (mbox24 _ _)
      · rfl
      · first | rfl | (simp only [Int.natCast_pos])))

set_option maxHeartbeats 1000000 in
theorem lead_98 (v : Value) (zs : List Int) (k n : Nat) (c arg : Int) (op : Bool) (w : World) (hp : Reads w v zs) (hl : zs.length ≤ 4096) (hk : k ≤ zs.length - 1) (hc0 : 0 ≤ c) (hc9 : c ≤ 999) (hn : max c 1 = (n : Int)) :
    Calls Try.prog 66 #[v, .int .i64 (k : Int), .agg #[.int .i64 98, .int .i64 c, .int .i64 arg], .bool op] w fun e w' => LeadPost (lead zs k n 98 arg op) w e w' := by
  obtain ⟨a, cap, rfl⟩ := hp.shape
  have hn1 : 1 ≤ (n : Int) := by omega
  have hn9 : (n : Int) ≤ 999 := by omega
  have hk9 : (k : Int) ≤ 4096 := by omega
  have hl9 : (zs.length : Int) ≤ 4096 := by omega
  obtain ⟨r, hr⟩ : ∃ r, r = lead zs k n 98 arg op := ⟨_, rfl⟩
  rw [← hr]
  obtain ⟨x, hx⟩ : ∃ x, x = iter (fun x => back zs x false) n k := ⟨_, rfl⟩
  have H1 : Hid (r.1 = x) := by rw [hr, hx]; rfl
  have H2 : Hid (r.2 = decide (0 < (k : Int))) := by rw [hr]; rfl
  have HC : Hid (∀ N : Int, N = (n : Int) → Calls Try.prog 78 #[.func (.func 46) #[] #[], .slice a zs.length cap, .int .i64 (k : Int), .int .i64 N, .bool false] (w.alloc (.cells #[.int .i64 98, .int .i64 c, .int .i64 arg] 99)) fun e w' => e = .returned (.int .i64 x) ∧ w' = (w.alloc (.cells #[.int .i64 98, .int .i64 c, .int .i64 arg] 99))) := by
    intro N hN
    subst hN
    rw [hx]
    exact again_go 46 (fun x => back zs x false) (fun x => chk zs.length x) _ _ _ _ _ _ _ (by omega) (by omega) (fun x => back_go _ zs x false _ (hp.below (mbox24 _ _)))
  clear hr hp hx
  try clear hy
  go_enter Try.func66, Try.ntmps66
  go_wp2_with fail
  all_goals (
    refine (HC.out _ (by omega)).mono ?_
    rintro e w1 ⟨rfl, hw1⟩
    rw [hw1]
    clear hw1 w1 HC
    go_wp2_with fail
    all_goals (
      go_ret2
      refine LeadPost.mk (H1.out.trans ?_) (H2.out.trans ?_) (mbox24 _ _)
      · rfl
      · first | rfl | (simp only [Int.natCast_pos])))

set_option maxHeartbeats 1000000 in
theorem lead_66 (v : Value) (zs : List Int) (k n : Nat) (c arg : Int) (op : Bool) (w : World) (hp : Reads w v zs) (hl : zs.length ≤ 4096) (hk : k ≤ zs.length - 1) (hc0 : 0 ≤ c) (hc9 : c ≤ 999) (hn : max c 1 = (n : Int)) :
    Calls Try.prog 66 #[v, .int .i64 (k : Int), .agg #[.int .i64 66, .int .i64 c, .int .i64 arg], .bool op] w fun e w' => LeadPost (lead zs k n 66 arg op) w e w' := by
  obtain ⟨a, cap, rfl⟩ := hp.shape
  have hn1 : 1 ≤ (n : Int) := by omega
  have hn9 : (n : Int) ≤ 999 := by omega
  have hk9 : (k : Int) ≤ 4096 := by omega
  have hl9 : (zs.length : Int) ≤ 4096 := by omega
  obtain ⟨r, hr⟩ : ∃ r, r = lead zs k n 66 arg op := ⟨_, rfl⟩
  rw [← hr]
  obtain ⟨x, hx⟩ : ∃ x, x = iter (fun x => back zs x true) n k := ⟨_, rfl⟩
  have H1 : Hid (r.1 = x) := by rw [hr, hx]; rfl
  have H2 : Hid (r.2 = decide (0 < (k : Int))) := by rw [hr]; rfl
  have HC : Hid (∀ N : Int, N = (n : Int) → Calls Try.prog 78 #[.func (.func 46) #[] #[], .slice a zs.length cap, .int .i64 (k : Int), .int .i64 N, .bool true] (w.alloc (.cells #[.int .i64 66, .int .i64 c, .int .i64 arg] 99)) fun e w' => e = .returned (.int .i64 x) ∧ w' = (w.alloc (.cells #[.int .i64 66, .int .i64 c, .int .i64 arg] 99))) := by
    intro N hN
    subst hN
    rw [hx]
    exact again_go 46 (fun x => back zs x true) (fun x => chk zs.length x) _ _ _ _ _ _ _ (by omega) (by omega) (fun x => back_go _ zs x true _ (hp.below (mbox24 _ _)))
  clear hr hp hx
  try clear hy
  go_enter Try.func66, Try.ntmps66
  go_wp2_with fail
  all_goals (
    refine (HC.out _ (by omega)).mono ?_
    rintro e w1 ⟨rfl, hw1⟩
    rw [hw1]
    clear hw1 w1 HC
    go_wp2_with fail
    all_goals (
      go_ret2
      refine LeadPost.mk (H1.out.trans ?_) (H2.out.trans ?_) (mbox24 _ _)
      · rfl
      · first | rfl | (simp only [Int.natCast_pos])))

set_option maxHeartbeats 1000000 in
theorem lead_36 (v : Value) (zs : List Int) (k n : Nat) (c arg : Int) (op : Bool) (w : World) (hp : Reads w v zs) (hl : zs.length ≤ 4096) (hk : k ≤ zs.length - 1) (hc0 : 0 ≤ c) (hc9 : c ≤ 999) (hn : max c 1 = (n : Int)) :
    Calls Try.prog 66 #[v, .int .i64 (k : Int), .agg #[.int .i64 36, .int .i64 c, .int .i64 arg], .bool op] w fun e w' => LeadPost (lead zs k n 36 arg op) w e w' := by
  obtain ⟨a, cap, rfl⟩ := hp.shape
  have hn1 : 1 ≤ (n : Int) := by omega
  have hn9 : (n : Int) ≤ 999 := by omega
  have hk9 : (k : Int) ≤ 4096 := by omega
  have hl9 : (zs.length : Int) ≤ 4096 := by omega
  obtain ⟨r, hr⟩ : ∃ r, r = lead zs k n 36 arg op := ⟨_, rfl⟩
  rw [← hr]
  by_cases hz : zs.length = 0
  · have h : lead zs k n 36 arg op = (0, false) := (if_pos hz : (if zs.length = 0 then ((0 : Int), false) else lineLead zs k n 36 arg op) = (0, false))
    have H1 : Hid (r.1 = 0) := congrArg Prod.fst (hr.trans h)
    have H2 : Hid (r.2 = false) := congrArg Prod.snd (hr.trans h)
    clear h
    rw [hz]
    clear hr hp hz hl9
    go_enter Try.func66, Try.ntmps66
    go_wp2_with fail
    all_goals (
      go_ret2
      exact LeadPost.mk H1.out H2.out (mbox24 _ _))
  · have Hr : Hid (r = lineLead zs k n 36 arg op) := by
      rw [hr]
      exact (if_neg hz : (if zs.length = 0 then ((0 : Int), false) else lineLead zs k n 36 arg op) = _)
    rcases hp with ⟨_, _, _, h0⟩ | ⟨b, off, cap', hv, hcap, hcm, hb, hcell⟩
    · exact absurd (congrArg List.length h0) (by simpa using hz)
    cases hv
    have HC : Hid (∀ N : Int, N = (n : Int) → Calls Try.prog 79 #[.slice (some ⟨b, off, none⟩) zs.length cap, .int .i64 (k : Int), .int .i64 N, .agg #[.int .i64 36, .int .i64 c, .int .i64 arg], .bool op] (w.alloc (.cells #[.int .i64 36, .int .i64 c, .int .i64 arg] 99)) fun e w' => LeadPost r (w.alloc (.cells #[.int .i64 36, .int .i64 c, .int .i64 arg] 99)) e w') := by
      intro N hN
      subst hN
      rw [Hr.out]
      exact line_36 b off cap zs k n c arg op _ hl (by rw [size_alloc]; omega) hcap hcm (by omega) (by omega) (by omega) (cells_alloc hb (mbox24 _ _) hcell)
    have hz0 : ((zs.length : Int) == 0) = false := beq_eq_false_iff_ne.2 (by omega)
    clear hr hcell hcm hcap hz Hr
    go_enter Try.func66, Try.ntmps66
    go_wp2_with fail
    all_goals (
      refine (HC.out _ (by omega)).mono ?_
      rintro e w1 ⟨rfl, hb1⟩
      have Hb1 : Hid (Below w.heap.size w w1) := below_trans (mbox24 _ _) hb1 (by rw [size_alloc]; omega)
      clear HC hb1
      go_wp2_with fail
      go_ret2
      exact LeadPost.mk rfl rfl Hb1.out)

set_option maxHeartbeats 1000000 in
theorem lead_124 (v : Value) (zs : List Int) (k n : Nat) (c arg : Int) (op : Bool) (w : World) (hp : Reads w v zs) (hl : zs.length ≤ 4096) (hk : k ≤ zs.length - 1) (hc0 : 0 ≤ c) (hc9 : c ≤ 999) (hn : max c 1 = (n : Int)) :
    Calls Try.prog 66 #[v, .int .i64 (k : Int), .agg #[.int .i64 124, .int .i64 c, .int .i64 arg], .bool op] w fun e w' => LeadPost (lead zs k n 124 arg op) w e w' := by
  obtain ⟨a, cap, rfl⟩ := hp.shape
  have hn1 : 1 ≤ (n : Int) := by omega
  have hn9 : (n : Int) ≤ 999 := by omega
  have hk9 : (k : Int) ≤ 4096 := by omega
  have hl9 : (zs.length : Int) ≤ 4096 := by omega
  obtain ⟨r, hr⟩ : ∃ r, r = lead zs k n 124 arg op := ⟨_, rfl⟩
  rw [← hr]
  by_cases hz : zs.length = 0
  · have h : lead zs k n 124 arg op = (0, false) := (if_pos hz : (if zs.length = 0 then ((0 : Int), false) else lineLead zs k n 124 arg op) = (0, false))
    have H1 : Hid (r.1 = 0) := congrArg Prod.fst (hr.trans h)
    have H2 : Hid (r.2 = false) := congrArg Prod.snd (hr.trans h)
    clear h
    rw [hz]
    clear hr hp hz hl9
    go_enter Try.func66, Try.ntmps66
    go_wp2_with fail
    all_goals (
      go_ret2
      exact LeadPost.mk H1.out H2.out (mbox24 _ _))
  · have Hr : Hid (r = lineLead zs k n 124 arg op) := by
      rw [hr]
      exact (if_neg hz : (if zs.length = 0 then ((0 : Int), false) else lineLead zs k n 124 arg op) = _)
    rcases hp with ⟨_, _, _, h0⟩ | ⟨b, off, cap', hv, hcap, hcm, hb, hcell⟩
    · exact absurd (congrArg List.length h0) (by simpa using hz)
    cases hv
    have HC : Hid (∀ N : Int, N = (n : Int) → Calls Try.prog 79 #[.slice (some ⟨b, off, none⟩) zs.length cap, .int .i64 (k : Int), .int .i64 N, .agg #[.int .i64 124, .int .i64 c, .int .i64 arg], .bool op] (w.alloc (.cells #[.int .i64 124, .int .i64 c, .int .i64 arg] 99)) fun e w' => LeadPost r (w.alloc (.cells #[.int .i64 124, .int .i64 c, .int .i64 arg] 99)) e w') := by
      intro N hN
      subst hN
      rw [Hr.out]
      exact line_124 b off cap zs k n c arg op _ hl (by rw [size_alloc]; omega) hcap hcm (by omega) (by omega) (by omega) (cells_alloc hb (mbox24 _ _) hcell)
    have hz0 : ((zs.length : Int) == 0) = false := beq_eq_false_iff_ne.2 (by omega)
    clear hr hcell hcm hcap hz Hr
    go_enter Try.func66, Try.ntmps66
    go_wp2_with fail
    all_goals (
      refine (HC.out _ (by omega)).mono ?_
      rintro e w1 ⟨rfl, hb1⟩
      have Hb1 : Hid (Below w.heap.size w w1) := below_trans (mbox24 _ _) hb1 (by rw [size_alloc]; omega)
      clear HC hb1
      go_wp2_with fail
      go_ret2
      exact LeadPost.mk rfl rfl Hb1.out)

set_option maxHeartbeats 1000000 in
theorem lead_119 (v : Value) (zs : List Int) (k n : Nat) (c arg : Int) (op : Bool) (w : World) (hp : Reads w v zs) (hl : zs.length ≤ 4096) (hk : k ≤ zs.length - 1) (hc0 : 0 ≤ c) (hc9 : c ≤ 999) (hn : max c 1 = (n : Int)) :
    Calls Try.prog 66 #[v, .int .i64 (k : Int), .agg #[.int .i64 119, .int .i64 c, .int .i64 arg], .bool op] w fun e w' => LeadPost (lead zs k n 119 arg op) w e w' := by
  obtain ⟨a, cap, rfl⟩ := hp.shape
  have hn1 : 1 ≤ (n : Int) := by omega
  have hn9 : (n : Int) ≤ 999 := by omega
  have hk9 : (k : Int) ≤ 4096 := by omega
  have hl9 : (zs.length : Int) ≤ 4096 := by omega
  obtain ⟨r, hr⟩ : ∃ r, r = lead zs k n 119 arg op := ⟨_, rfl⟩
  rw [← hr]
  by_cases hz : zs.length = 0
  · have h : lead zs k n 119 arg op = (0, false) := (if_pos hz : (if zs.length = 0 then ((0 : Int), false) else lineLead zs k n 119 arg op) = (0, false))
    have H1 : Hid (r.1 = 0) := congrArg Prod.fst (hr.trans h)
    have H2 : Hid (r.2 = false) := congrArg Prod.snd (hr.trans h)
    clear h
    rw [hz]
    clear hr hp hz hl9
    go_enter Try.func66, Try.ntmps66
    go_wp2_with fail
    all_goals (
      go_ret2
      exact LeadPost.mk H1.out H2.out (mbox24 _ _))
  · have Hr : Hid (r = lineLead zs k n 119 arg op) := by
      rw [hr]
      exact (if_neg hz : (if zs.length = 0 then ((0 : Int), false) else lineLead zs k n 119 arg op) = _)
    rcases hp with ⟨_, _, _, h0⟩ | ⟨b, off, cap', hv, hcap, hcm, hb, hcell⟩
    · exact absurd (congrArg List.length h0) (by simpa using hz)
    cases hv
    have HC : Hid (∀ N : Int, N = (n : Int) → Calls Try.prog 79 #[.slice (some ⟨b, off, none⟩) zs.length cap, .int .i64 (k : Int), .int .i64 N, .agg #[.int .i64 119, .int .i64 c, .int .i64 arg], .bool op] (w.alloc (.cells #[.int .i64 119, .int .i64 c, .int .i64 arg] 99)) fun e w' => LeadPost r (w.alloc (.cells #[.int .i64 119, .int .i64 c, .int .i64 arg] 99)) e w') := by
      intro N hN
      subst hN
      rw [Hr.out]
      exact line_119 b off cap zs k n c arg op _ hl (by rw [size_alloc]; omega) hcap hcm (by omega) (by omega) (by omega) (cells_alloc hb (mbox24 _ _) hcell)
    have hz0 : ((zs.length : Int) == 0) = false := beq_eq_false_iff_ne.2 (by omega)
    clear hr hcell hcm hcap hz Hr
    go_enter Try.func66, Try.ntmps66
    go_wp2_with fail
    all_goals (
      refine (HC.out _ (by omega)).mono ?_
      rintro e w1 ⟨rfl, hb1⟩
      have Hb1 : Hid (Below w.heap.size w w1) := below_trans (mbox24 _ _) hb1 (by rw [size_alloc]; omega)
      clear HC hb1
      go_wp2_with fail
      go_ret2
      exact LeadPost.mk rfl rfl Hb1.out)

set_option maxHeartbeats 1000000 in
theorem lead_87 (v : Value) (zs : List Int) (k n : Nat) (c arg : Int) (op : Bool) (w : World) (hp : Reads w v zs) (hl : zs.length ≤ 4096) (hk : k ≤ zs.length - 1) (hc0 : 0 ≤ c) (hc9 : c ≤ 999) (hn : max c 1 = (n : Int)) :
    Calls Try.prog 66 #[v, .int .i64 (k : Int), .agg #[.int .i64 87, .int .i64 c, .int .i64 arg], .bool op] w fun e w' => LeadPost (lead zs k n 87 arg op) w e w' := by
  obtain ⟨a, cap, rfl⟩ := hp.shape
  have hn1 : 1 ≤ (n : Int) := by omega
  have hn9 : (n : Int) ≤ 999 := by omega
  have hk9 : (k : Int) ≤ 4096 := by omega
  have hl9 : (zs.length : Int) ≤ 4096 := by omega
  obtain ⟨r, hr⟩ : ∃ r, r = lead zs k n 87 arg op := ⟨_, rfl⟩
  rw [← hr]
  by_cases hz : zs.length = 0
  · have h : lead zs k n 87 arg op = (0, false) := (if_pos hz : (if zs.length = 0 then ((0 : Int), false) else lineLead zs k n 87 arg op) = (0, false))
    have H1 : Hid (r.1 = 0) := congrArg Prod.fst (hr.trans h)
    have H2 : Hid (r.2 = false) := congrArg Prod.snd (hr.trans h)
    clear h
    rw [hz]
    clear hr hp hz hl9
    go_enter Try.func66, Try.ntmps66
    go_wp2_with fail
    all_goals (
      go_ret2
      exact LeadPost.mk H1.out H2.out (mbox24 _ _))
  · have Hr : Hid (r = lineLead zs k n 87 arg op) := by
      rw [hr]
      exact (if_neg hz : (if zs.length = 0 then ((0 : Int), false) else lineLead zs k n 87 arg op) = _)
    rcases hp with ⟨_, _, _, h0⟩ | ⟨b, off, cap', hv, hcap, hcm, hb, hcell⟩
    · exact absurd (congrArg List.length h0) (by simpa using hz)
    cases hv
    have HC : Hid (∀ N : Int, N = (n : Int) → Calls Try.prog 79 #[.slice (some ⟨b, off, none⟩) zs.length cap, .int .i64 (k : Int), .int .i64 N, .agg #[.int .i64 87, .int .i64 c, .int .i64 arg], .bool op] (w.alloc (.cells #[.int .i64 87, .int .i64 c, .int .i64 arg] 99)) fun e w' => LeadPost r (w.alloc (.cells #[.int .i64 87, .int .i64 c, .int .i64 arg] 99)) e w') := by
      intro N hN
      subst hN
      rw [Hr.out]
      exact line_87 b off cap zs k n c arg op _ hl (by rw [size_alloc]; omega) hcap hcm (by omega) (by omega) (by omega) (cells_alloc hb (mbox24 _ _) hcell)
    have hz0 : ((zs.length : Int) == 0) = false := beq_eq_false_iff_ne.2 (by omega)
    clear hr hcell hcm hcap hz Hr
    go_enter Try.func66, Try.ntmps66
    go_wp2_with fail
    all_goals (
      refine (HC.out _ (by omega)).mono ?_
      rintro e w1 ⟨rfl, hb1⟩
      have Hb1 : Hid (Below w.heap.size w w1) := below_trans (mbox24 _ _) hb1 (by rw [size_alloc]; omega)
      clear HC hb1
      go_wp2_with fail
      go_ret2
      exact LeadPost.mk rfl rfl Hb1.out)

set_option maxHeartbeats 1000000 in
theorem lead_101 (v : Value) (zs : List Int) (k n : Nat) (c arg : Int) (op : Bool) (w : World) (hp : Reads w v zs) (hl : zs.length ≤ 4096) (hk : k ≤ zs.length - 1) (hc0 : 0 ≤ c) (hc9 : c ≤ 999) (hn : max c 1 = (n : Int)) :
    Calls Try.prog 66 #[v, .int .i64 (k : Int), .agg #[.int .i64 101, .int .i64 c, .int .i64 arg], .bool op] w fun e w' => LeadPost (lead zs k n 101 arg op) w e w' := by
  obtain ⟨a, cap, rfl⟩ := hp.shape
  have hn1 : 1 ≤ (n : Int) := by omega
  have hn9 : (n : Int) ≤ 999 := by omega
  have hk9 : (k : Int) ≤ 4096 := by omega
  have hl9 : (zs.length : Int) ≤ 4096 := by omega
  obtain ⟨r, hr⟩ : ∃ r, r = lead zs k n 101 arg op := ⟨_, rfl⟩
  rw [← hr]
  by_cases hz : zs.length = 0
  · have h : lead zs k n 101 arg op = (0, false) := (if_pos hz : (if zs.length = 0 then ((0 : Int), false) else lineLead zs k n 101 arg op) = (0, false))
    have H1 : Hid (r.1 = 0) := congrArg Prod.fst (hr.trans h)
    have H2 : Hid (r.2 = false) := congrArg Prod.snd (hr.trans h)
    clear h
    rw [hz]
    clear hr hp hz hl9
    go_enter Try.func66, Try.ntmps66
    go_wp2_with fail
    all_goals (
      go_ret2
      exact LeadPost.mk H1.out H2.out (mbox24 _ _))
  · have Hr : Hid (r = lineLead zs k n 101 arg op) := by
      rw [hr]
      exact (if_neg hz : (if zs.length = 0 then ((0 : Int), false) else lineLead zs k n 101 arg op) = _)
    rcases hp with ⟨_, _, _, h0⟩ | ⟨b, off, cap', hv, hcap, hcm, hb, hcell⟩
    · exact absurd (congrArg List.length h0) (by simpa using hz)
    cases hv
    have HC : Hid (∀ N : Int, N = (n : Int) → Calls Try.prog 79 #[.slice (some ⟨b, off, none⟩) zs.length cap, .int .i64 (k : Int), .int .i64 N, .agg #[.int .i64 101, .int .i64 c, .int .i64 arg], .bool op] (w.alloc (.cells #[.int .i64 101, .int .i64 c, .int .i64 arg] 99)) fun e w' => LeadPost r (w.alloc (.cells #[.int .i64 101, .int .i64 c, .int .i64 arg] 99)) e w') := by
      intro N hN
      subst hN
      rw [Hr.out]
      exact line_101 b off cap zs k n c arg op _ hl (by rw [size_alloc]; omega) hcap hcm (by omega) (by omega) (by omega) (cells_alloc hb (mbox24 _ _) hcell)
    have hz0 : ((zs.length : Int) == 0) = false := beq_eq_false_iff_ne.2 (by omega)
    clear hr hcell hcm hcap hz Hr
    go_enter Try.func66, Try.ntmps66
    go_wp2_with fail
    all_goals (
      refine (HC.out _ (by omega)).mono ?_
      rintro e w1 ⟨rfl, hb1⟩
      have Hb1 : Hid (Below w.heap.size w w1) := below_trans (mbox24 _ _) hb1 (by rw [size_alloc]; omega)
      clear HC hb1
      go_wp2_with fail
      go_ret2
      exact LeadPost.mk rfl rfl Hb1.out)

set_option maxHeartbeats 1000000 in
theorem lead_69 (v : Value) (zs : List Int) (k n : Nat) (c arg : Int) (op : Bool) (w : World) (hp : Reads w v zs) (hl : zs.length ≤ 4096) (hk : k ≤ zs.length - 1) (hc0 : 0 ≤ c) (hc9 : c ≤ 999) (hn : max c 1 = (n : Int)) :
    Calls Try.prog 66 #[v, .int .i64 (k : Int), .agg #[.int .i64 69, .int .i64 c, .int .i64 arg], .bool op] w fun e w' => LeadPost (lead zs k n 69 arg op) w e w' := by
  obtain ⟨a, cap, rfl⟩ := hp.shape
  have hn1 : 1 ≤ (n : Int) := by omega
  have hn9 : (n : Int) ≤ 999 := by omega
  have hk9 : (k : Int) ≤ 4096 := by omega
  have hl9 : (zs.length : Int) ≤ 4096 := by omega
  obtain ⟨r, hr⟩ : ∃ r, r = lead zs k n 69 arg op := ⟨_, rfl⟩
  rw [← hr]
  by_cases hz : zs.length = 0
  · have h : lead zs k n 69 arg op = (0, false) := (if_pos hz : (if zs.length = 0 then ((0 : Int), false) else lineLead zs k n 69 arg op) = (0, false))
    have H1 : Hid (r.1 = 0) := congrArg Prod.fst (hr.trans h)
    have H2 : Hid (r.2 = false) := congrArg Prod.snd (hr.trans h)
    clear h
    rw [hz]
    clear hr hp hz hl9
    go_enter Try.func66, Try.ntmps66
    go_wp2_with fail
    all_goals (
      go_ret2
      exact LeadPost.mk H1.out H2.out (mbox24 _ _))
  · have Hr : Hid (r = lineLead zs k n 69 arg op) := by
      rw [hr]
      exact (if_neg hz : (if zs.length = 0 then ((0 : Int), false) else lineLead zs k n 69 arg op) = _)
    rcases hp with ⟨_, _, _, h0⟩ | ⟨b, off, cap', hv, hcap, hcm, hb, hcell⟩
    · exact absurd (congrArg List.length h0) (by simpa using hz)
    cases hv
    have HC : Hid (∀ N : Int, N = (n : Int) → Calls Try.prog 79 #[.slice (some ⟨b, off, none⟩) zs.length cap, .int .i64 (k : Int), .int .i64 N, .agg #[.int .i64 69, .int .i64 c, .int .i64 arg], .bool op] (w.alloc (.cells #[.int .i64 69, .int .i64 c, .int .i64 arg] 99)) fun e w' => LeadPost r (w.alloc (.cells #[.int .i64 69, .int .i64 c, .int .i64 arg] 99)) e w') := by
      intro N hN
      subst hN
      rw [Hr.out]
      exact line_69 b off cap zs k n c arg op _ hl (by rw [size_alloc]; omega) hcap hcm (by omega) (by omega) (by omega) (cells_alloc hb (mbox24 _ _) hcell)
    have hz0 : ((zs.length : Int) == 0) = false := beq_eq_false_iff_ne.2 (by omega)
    clear hr hcell hcm hcap hz Hr
    go_enter Try.func66, Try.ntmps66
    go_wp2_with fail
    all_goals (
      refine (HC.out _ (by omega)).mono ?_
      rintro e w1 ⟨rfl, hb1⟩
      have Hb1 : Hid (Below w.heap.size w w1) := below_trans (mbox24 _ _) hb1 (by rw [size_alloc]; omega)
      clear HC hb1
      go_wp2_with fail
      go_ret2
      exact LeadPost.mk rfl rfl Hb1.out)

set_option maxHeartbeats 1000000 in
theorem lead_37 (v : Value) (zs : List Int) (k n : Nat) (c arg : Int) (op : Bool) (w : World) (hp : Reads w v zs) (hl : zs.length ≤ 4096) (hk : k ≤ zs.length - 1) (hc0 : 0 ≤ c) (hc9 : c ≤ 999) (hn : max c 1 = (n : Int)) :
    Calls Try.prog 66 #[v, .int .i64 (k : Int), .agg #[.int .i64 37, .int .i64 c, .int .i64 arg], .bool op] w fun e w' => LeadPost (lead zs k n 37 arg op) w e w' := by
  obtain ⟨a, cap, rfl⟩ := hp.shape
  have hn1 : 1 ≤ (n : Int) := by omega
  have hn9 : (n : Int) ≤ 999 := by omega
  have hk9 : (k : Int) ≤ 4096 := by omega
  have hl9 : (zs.length : Int) ≤ 4096 := by omega
  obtain ⟨r, hr⟩ : ∃ r, r = lead zs k n 37 arg op := ⟨_, rfl⟩
  rw [← hr]
  by_cases hz : zs.length = 0
  · have h : lead zs k n 37 arg op = (0, false) := (if_pos hz : (if zs.length = 0 then ((0 : Int), false) else lineLead zs k n 37 arg op) = (0, false))
    have H1 : Hid (r.1 = 0) := congrArg Prod.fst (hr.trans h)
    have H2 : Hid (r.2 = false) := congrArg Prod.snd (hr.trans h)
    clear h
    rw [hz]
    clear hr hp hz hl9
    go_enter Try.func66, Try.ntmps66
    go_wp2_with fail
    all_goals (
      go_ret2
      exact LeadPost.mk H1.out H2.out (mbox24 _ _))
  · have Hr : Hid (r = lineLead zs k n 37 arg op) := by
      rw [hr]
      exact (if_neg hz : (if zs.length = 0 then ((0 : Int), false) else lineLead zs k n 37 arg op) = _)
    rcases hp with ⟨_, _, _, h0⟩ | ⟨b, off, cap', hv, hcap, hcm, hb, hcell⟩
    · exact absurd (congrArg List.length h0) (by simpa using hz)
    cases hv
    have HC : Hid (∀ N : Int, N = (n : Int) → Calls Try.prog 79 #[.slice (some ⟨b, off, none⟩) zs.length cap, .int .i64 (k : Int), .int .i64 N, .agg #[.int .i64 37, .int .i64 c, .int .i64 arg], .bool op] (w.alloc (.cells #[.int .i64 37, .int .i64 c, .int .i64 arg] 99)) fun e w' => LeadPost r (w.alloc (.cells #[.int .i64 37, .int .i64 c, .int .i64 arg] 99)) e w') := by
      intro N hN
      subst hN
      rw [Hr.out]
      exact line_37 b off cap zs k n c arg op _ hl (by rw [size_alloc]; omega) hcap hcm (by omega) (by omega) (by omega) (cells_alloc hb (mbox24 _ _) hcell)
    have hz0 : ((zs.length : Int) == 0) = false := beq_eq_false_iff_ne.2 (by omega)
    clear hr hcell hcm hcap hz Hr
    go_enter Try.func66, Try.ntmps66
    go_wp2_with fail
    all_goals (
      refine (HC.out _ (by omega)).mono ?_
      rintro e w1 ⟨rfl, hb1⟩
      have Hb1 : Hid (Below w.heap.size w w1) := below_trans (mbox24 _ _) hb1 (by rw [size_alloc]; omega)
      clear HC hb1
      go_wp2_with fail
      go_ret2
      exact LeadPost.mk rfl rfl Hb1.out)

set_option maxHeartbeats 1000000 in
theorem lead_102 (v : Value) (zs : List Int) (k n : Nat) (c arg : Int) (op : Bool) (w : World) (hp : Reads w v zs) (hl : zs.length ≤ 4096) (hk : k ≤ zs.length - 1) (hc0 : 0 ≤ c) (hc9 : c ≤ 999) (hn : max c 1 = (n : Int)) :
    Calls Try.prog 66 #[v, .int .i64 (k : Int), .agg #[.int .i64 102, .int .i64 c, .int .i64 arg], .bool op] w fun e w' => LeadPost (lead zs k n 102 arg op) w e w' := by
  obtain ⟨a, cap, rfl⟩ := hp.shape
  have hn1 : 1 ≤ (n : Int) := by omega
  have hn9 : (n : Int) ≤ 999 := by omega
  have hk9 : (k : Int) ≤ 4096 := by omega
  have hl9 : (zs.length : Int) ≤ 4096 := by omega
  obtain ⟨r, hr⟩ : ∃ r, r = lead zs k n 102 arg op := ⟨_, rfl⟩
  rw [← hr]
  by_cases hz : zs.length = 0
  · have h : lead zs k n 102 arg op = (0, false) := (if_pos hz : (if zs.length = 0 then ((0 : Int), false) else lineLead zs k n 102 arg op) = (0, false))
    have H1 : Hid (r.1 = 0) := congrArg Prod.fst (hr.trans h)
    have H2 : Hid (r.2 = false) := congrArg Prod.snd (hr.trans h)
    clear h
    rw [hz]
    clear hr hp hz hl9
    go_enter Try.func66, Try.ntmps66
    go_wp2_with fail
    all_goals (
      go_ret2
      exact LeadPost.mk H1.out H2.out (mbox24 _ _))
  · have Hr : Hid (r = lineLead zs k n 102 arg op) := by
      rw [hr]
      exact (if_neg hz : (if zs.length = 0 then ((0 : Int), false) else lineLead zs k n 102 arg op) = _)
    rcases hp with ⟨_, _, _, h0⟩ | ⟨b, off, cap', hv, hcap, hcm, hb, hcell⟩
    · exact absurd (congrArg List.length h0) (by simpa using hz)
    cases hv
    have HC : Hid (∀ N : Int, N = (n : Int) → Calls Try.prog 79 #[.slice (some ⟨b, off, none⟩) zs.length cap, .int .i64 (k : Int), .int .i64 N, .agg #[.int .i64 102, .int .i64 c, .int .i64 arg], .bool op] (w.alloc (.cells #[.int .i64 102, .int .i64 c, .int .i64 arg] 99)) fun e w' => LeadPost r (w.alloc (.cells #[.int .i64 102, .int .i64 c, .int .i64 arg] 99)) e w') := by
      intro N hN
      subst hN
      rw [Hr.out]
      exact line_102 b off cap zs k n c arg op _ hl (by rw [size_alloc]; omega) hcap hcm (by omega) (by omega) (by omega) (cells_alloc hb (mbox24 _ _) hcell)
    have hz0 : ((zs.length : Int) == 0) = false := beq_eq_false_iff_ne.2 (by omega)
    clear hr hcell hcm hcap hz Hr
    go_enter Try.func66, Try.ntmps66
    go_wp2_with fail
    all_goals (
      refine (HC.out _ (by omega)).mono ?_
      rintro e w1 ⟨rfl, hb1⟩
      have Hb1 : Hid (Below w.heap.size w w1) := below_trans (mbox24 _ _) hb1 (by rw [size_alloc]; omega)
      clear HC hb1
      go_wp2_with fail
      go_ret2
      exact LeadPost.mk rfl rfl Hb1.out)

set_option maxHeartbeats 1000000 in
theorem lead_116 (v : Value) (zs : List Int) (k n : Nat) (c arg : Int) (op : Bool) (w : World) (hp : Reads w v zs) (hl : zs.length ≤ 4096) (hk : k ≤ zs.length - 1) (hc0 : 0 ≤ c) (hc9 : c ≤ 999) (hn : max c 1 = (n : Int)) :
    Calls Try.prog 66 #[v, .int .i64 (k : Int), .agg #[.int .i64 116, .int .i64 c, .int .i64 arg], .bool op] w fun e w' => LeadPost (lead zs k n 116 arg op) w e w' := by
  obtain ⟨a, cap, rfl⟩ := hp.shape
  have hn1 : 1 ≤ (n : Int) := by omega
  have hn9 : (n : Int) ≤ 999 := by omega
  have hk9 : (k : Int) ≤ 4096 := by omega
  have hl9 : (zs.length : Int) ≤ 4096 := by omega
  obtain ⟨r, hr⟩ : ∃ r, r = lead zs k n 116 arg op := ⟨_, rfl⟩
  rw [← hr]
  by_cases hz : zs.length = 0
  · have h : lead zs k n 116 arg op = (0, false) := (if_pos hz : (if zs.length = 0 then ((0 : Int), false) else lineLead zs k n 116 arg op) = (0, false))
    have H1 : Hid (r.1 = 0) := congrArg Prod.fst (hr.trans h)
    have H2 : Hid (r.2 = false) := congrArg Prod.snd (hr.trans h)
    clear h
    rw [hz]
    clear hr hp hz hl9
    go_enter Try.func66, Try.ntmps66
    go_wp2_with fail
    all_goals (
      go_ret2
      exact LeadPost.mk H1.out H2.out (mbox24 _ _))
  · have Hr : Hid (r = lineLead zs k n 116 arg op) := by
      rw [hr]
      exact (if_neg hz : (if zs.length = 0 then ((0 : Int), false) else lineLead zs k n 116 arg op) = _)
    rcases hp with ⟨_, _, _, h0⟩ | ⟨b, off, cap', hv, hcap, hcm, hb, hcell⟩
    · exact absurd (congrArg List.length h0) (by simpa using hz)
    cases hv
    have HC : Hid (∀ N : Int, N = (n : Int) → Calls Try.prog 79 #[.slice (some ⟨b, off, none⟩) zs.length cap, .int .i64 (k : Int), .int .i64 N, .agg #[.int .i64 116, .int .i64 c, .int .i64 arg], .bool op] (w.alloc (.cells #[.int .i64 116, .int .i64 c, .int .i64 arg] 99)) fun e w' => LeadPost r (w.alloc (.cells #[.int .i64 116, .int .i64 c, .int .i64 arg] 99)) e w') := by
      intro N hN
      subst hN
      rw [Hr.out]
      exact line_116 b off cap zs k n c arg op _ hl (by rw [size_alloc]; omega) hcap hcm (by omega) (by omega) (by omega) (cells_alloc hb (mbox24 _ _) hcell)
    have hz0 : ((zs.length : Int) == 0) = false := beq_eq_false_iff_ne.2 (by omega)
    clear hr hcell hcm hcap hz Hr
    go_enter Try.func66, Try.ntmps66
    go_wp2_with fail
    all_goals (
      refine (HC.out _ (by omega)).mono ?_
      rintro e w1 ⟨rfl, hb1⟩
      have Hb1 : Hid (Below w.heap.size w w1) := below_trans (mbox24 _ _) hb1 (by rw [size_alloc]; omega)
      clear HC hb1
      go_wp2_with fail
      go_ret2
      exact LeadPost.mk rfl rfl Hb1.out)

set_option maxHeartbeats 1000000 in
theorem lead_70 (v : Value) (zs : List Int) (k n : Nat) (c arg : Int) (op : Bool) (w : World) (hp : Reads w v zs) (hl : zs.length ≤ 4096) (hk : k ≤ zs.length - 1) (hc0 : 0 ≤ c) (hc9 : c ≤ 999) (hn : max c 1 = (n : Int)) :
    Calls Try.prog 66 #[v, .int .i64 (k : Int), .agg #[.int .i64 70, .int .i64 c, .int .i64 arg], .bool op] w fun e w' => LeadPost (lead zs k n 70 arg op) w e w' := by
  obtain ⟨a, cap, rfl⟩ := hp.shape
  have hn1 : 1 ≤ (n : Int) := by omega
  have hn9 : (n : Int) ≤ 999 := by omega
  have hk9 : (k : Int) ≤ 4096 := by omega
  have hl9 : (zs.length : Int) ≤ 4096 := by omega
  obtain ⟨r, hr⟩ : ∃ r, r = lead zs k n 70 arg op := ⟨_, rfl⟩
  rw [← hr]
  by_cases hz : zs.length = 0
  · have h : lead zs k n 70 arg op = (0, false) := (if_pos hz : (if zs.length = 0 then ((0 : Int), false) else lineLead zs k n 70 arg op) = (0, false))
    have H1 : Hid (r.1 = 0) := congrArg Prod.fst (hr.trans h)
    have H2 : Hid (r.2 = false) := congrArg Prod.snd (hr.trans h)
    clear h
    rw [hz]
    clear hr hp hz hl9
    go_enter Try.func66, Try.ntmps66
    go_wp2_with fail
    all_goals (
      go_ret2
      exact LeadPost.mk H1.out H2.out (mbox24 _ _))
  · have Hr : Hid (r = lineLead zs k n 70 arg op) := by
      rw [hr]
      exact (if_neg hz : (if zs.length = 0 then ((0 : Int), false) else lineLead zs k n 70 arg op) = _)
    rcases hp with ⟨_, _, _, h0⟩ | ⟨b, off, cap', hv, hcap, hcm, hb, hcell⟩
    · exact absurd (congrArg List.length h0) (by simpa using hz)
    cases hv
    have HC : Hid (∀ N : Int, N = (n : Int) → Calls Try.prog 79 #[.slice (some ⟨b, off, none⟩) zs.length cap, .int .i64 (k : Int), .int .i64 N, .agg #[.int .i64 70, .int .i64 c, .int .i64 arg], .bool op] (w.alloc (.cells #[.int .i64 70, .int .i64 c, .int .i64 arg] 99)) fun e w' => LeadPost r (w.alloc (.cells #[.int .i64 70, .int .i64 c, .int .i64 arg] 99)) e w') := by
      intro N hN
      subst hN
      rw [Hr.out]
      exact line_70 b off cap zs k n c arg op _ hl (by rw [size_alloc]; omega) hcap hcm (by omega) (by omega) (by omega) (cells_alloc hb (mbox24 _ _) hcell)
    have hz0 : ((zs.length : Int) == 0) = false := beq_eq_false_iff_ne.2 (by omega)
    clear hr hcell hcm hcap hz Hr
    go_enter Try.func66, Try.ntmps66
    go_wp2_with fail
    all_goals (
      refine (HC.out _ (by omega)).mono ?_
      rintro e w1 ⟨rfl, hb1⟩
      have Hb1 : Hid (Below w.heap.size w w1) := below_trans (mbox24 _ _) hb1 (by rw [size_alloc]; omega)
      clear HC hb1
      go_wp2_with fail
      go_ret2
      exact LeadPost.mk rfl rfl Hb1.out)

set_option maxHeartbeats 1000000 in
theorem lead_84 (v : Value) (zs : List Int) (k n : Nat) (c arg : Int) (op : Bool) (w : World) (hp : Reads w v zs) (hl : zs.length ≤ 4096) (hk : k ≤ zs.length - 1) (hc0 : 0 ≤ c) (hc9 : c ≤ 999) (hn : max c 1 = (n : Int)) :
    Calls Try.prog 66 #[v, .int .i64 (k : Int), .agg #[.int .i64 84, .int .i64 c, .int .i64 arg], .bool op] w fun e w' => LeadPost (lead zs k n 84 arg op) w e w' := by
  obtain ⟨a, cap, rfl⟩ := hp.shape
  have hn1 : 1 ≤ (n : Int) := by omega
  have hn9 : (n : Int) ≤ 999 := by omega
  have hk9 : (k : Int) ≤ 4096 := by omega
  have hl9 : (zs.length : Int) ≤ 4096 := by omega
  obtain ⟨r, hr⟩ : ∃ r, r = lead zs k n 84 arg op := ⟨_, rfl⟩
  rw [← hr]
  by_cases hz : zs.length = 0
  · have h : lead zs k n 84 arg op = (0, false) := (if_pos hz : (if zs.length = 0 then ((0 : Int), false) else lineLead zs k n 84 arg op) = (0, false))
    have H1 : Hid (r.1 = 0) := congrArg Prod.fst (hr.trans h)
    have H2 : Hid (r.2 = false) := congrArg Prod.snd (hr.trans h)
    clear h
    rw [hz]
    clear hr hp hz hl9
    go_enter Try.func66, Try.ntmps66
    go_wp2_with fail
    all_goals (
      go_ret2
      exact LeadPost.mk H1.out H2.out (mbox24 _ _))
  · have Hr : Hid (r = lineLead zs k n 84 arg op) := by
      rw [hr]
      exact (if_neg hz : (if zs.length = 0 then ((0 : Int), false) else lineLead zs k n 84 arg op) = _)
    rcases hp with ⟨_, _, _, h0⟩ | ⟨b, off, cap', hv, hcap, hcm, hb, hcell⟩
    · exact absurd (congrArg List.length h0) (by simpa using hz)
    cases hv
    have HC : Hid (∀ N : Int, N = (n : Int) → Calls Try.prog 79 #[.slice (some ⟨b, off, none⟩) zs.length cap, .int .i64 (k : Int), .int .i64 N, .agg #[.int .i64 84, .int .i64 c, .int .i64 arg], .bool op] (w.alloc (.cells #[.int .i64 84, .int .i64 c, .int .i64 arg] 99)) fun e w' => LeadPost r (w.alloc (.cells #[.int .i64 84, .int .i64 c, .int .i64 arg] 99)) e w') := by
      intro N hN
      subst hN
      rw [Hr.out]
      exact line_84 b off cap zs k n c arg op _ hl (by rw [size_alloc]; omega) hcap hcm (by omega) (by omega) (by omega) (cells_alloc hb (mbox24 _ _) hcell)
    have hz0 : ((zs.length : Int) == 0) = false := beq_eq_false_iff_ne.2 (by omega)
    clear hr hcell hcm hcap hz Hr
    go_enter Try.func66, Try.ntmps66
    go_wp2_with fail
    all_goals (
      refine (HC.out _ (by omega)).mono ?_
      rintro e w1 ⟨rfl, hb1⟩
      have Hb1 : Hid (Below w.heap.size w w1) := below_trans (mbox24 _ _) hb1 (by rw [size_alloc]; omega)
      clear HC hb1
      go_wp2_with fail
      go_ret2
      exact LeadPost.mk rfl rfl Hb1.out)

theorem lead_go (v : Value) (zs : List Int) (k n : Nat) (key c arg : Int) (op : Bool) (w : World) (hp : Reads w v zs) (hl : zs.length ≤ 4096) (hk : k ≤ zs.length - 1) (hc0 : 0 ≤ c) (hc9 : c ≤ 999) (hn : max c 1 = (n : Int)) (hkey : isk key = true) :
    Calls Try.prog 66 #[v, .int .i64 (k : Int), .agg #[.int .i64 key, .int .i64 c, .int .i64 arg], .bool op] w fun e w' => LeadPost (lead zs k n key arg op) w e w' := by
  unfold isk at hkey
  rcases of_decide_eq_true hkey with rfl | rfl | rfl | rfl | rfl | rfl | rfl | rfl | rfl | rfl | rfl | rfl | rfl | rfl | rfl | rfl | rfl
  · exact lead_104 v zs k n c arg op w hp hl hk hc0 hc9 hn
  · exact lead_108 v zs k n c arg op w hp hl hk hc0 hc9 hn
  · exact lead_48 v zs k n c arg op w hp hl hk hc0 hc9 hn
  · exact lead_94 v zs k n c arg op w hp hl hk hc0 hc9 hn
  · exact lead_98 v zs k n c arg op w hp hl hk hc0 hc9 hn
  · exact lead_66 v zs k n c arg op w hp hl hk hc0 hc9 hn
  · exact lead_36 v zs k n c arg op w hp hl hk hc0 hc9 hn
  · exact lead_124 v zs k n c arg op w hp hl hk hc0 hc9 hn
  · exact lead_119 v zs k n c arg op w hp hl hk hc0 hc9 hn
  · exact lead_87 v zs k n c arg op w hp hl hk hc0 hc9 hn
  · exact lead_101 v zs k n c arg op w hp hl hk hc0 hc9 hn
  · exact lead_69 v zs k n c arg op w hp hl hk hc0 hc9 hn
  · exact lead_37 v zs k n c arg op w hp hl hk hc0 hc9 hn
  · exact lead_102 v zs k n c arg op w hp hl hk hc0 hc9 hn
  · exact lead_116 v zs k n c arg op w hp hl hk hc0 hc9 hn
  · exact lead_70 v zs k n c arg op w hp hl hk hc0 hc9 hn
  · exact lead_84 v zs k n c arg op w hp hl hk hc0 hc9 hn
end Go.Proofs.Ytpgjaoemkadenab.Seek

/- The contracts of motion.Go and motion.Range. -/
set_option linter.unusedVariables false
set_option linter.unusedSimpArgs false
set_option maxRecDepth 100000
namespace Go.Proofs.Ytpgjaoemkadenab.Plain
theorem mchk_zero {n : Nat} {k c key : Int} (h : mchk n k c key = 0) : n ≤ 4096 ∧ (∃ j : Nat, k = (j : Int) ∧ j ≤ n - 1) ∧ 0 ≤ c ∧ c ≤ 999 ∧ isk key = true := by
  unfold mchk at h
  by_cases h1 : 4096 < n
  · rw [if_pos h1] at h
    exact absurd h (by decide)
  · rw [if_neg h1] at h
    by_cases h2 : k < 0 ∨ max ((n : Int) - 1) 0 < k ∨ c < 0 ∨ 999 < c
    · rw [if_pos h2] at h
      exact absurd h (by decide)
    · rw [if_neg h2] at h
      by_cases h3 : isk key = true
      · exact ⟨by omega, ⟨k.toNat, by omega, by omega⟩, by omega, by omega, h3⟩
      · rw [if_neg h3] at h
        exact absurd h (by decide)
theorem mchk_right {n j : Nat} {c key : Int} (h1 : n ≤ 4096) (h2 : j ≤ n - 1) (h3 : 0 ≤ c) (h4 : c ≤ 999) (h5 : isk key = true) : mchk n (j : Int) c key = 0 := by
  unfold mchk
  rw [if_neg (by omega), if_neg (by omega), if_pos h5]
theorem times_is {c : Int} : max c 1 = (times c : Int) := by
  unfold times
  omega
theorem goes_bad {zs : List Int} {k c key arg : Int} {op : Bool} (h : mchk zs.length k c key ≠ 0) : goes zs k c key arg op = (0, false, mchk zs.length k c key) := if_neg h
theorem goes_good {zs : List Int} {j : Nat} {c key arg : Int} {op : Bool} (h : mchk zs.length (j : Int) c key = 0) :
    goes zs (j : Int) c key arg op = if (lead zs j (times c) key arg op).2 = true then ((lead zs j (times c) key arg op).1, wth key, 0) else (0, false, 5) := if_pos h
end Go.Proofs.Ytpgjaoemkadenab.Plain
namespace Go.Proofs.Ytpgjaoemkadenab.Seek
open Go.RowKit Plain

/-- What Go tells. -/
def GoPost (r : Int × Bool × Int) (w : World) (e : Ending) (w' : World) : Prop := e = .returned (.tuple #[.int .i64 r.1, .bool r.2.1, .int .i64 r.2.2]) ∧ Below w.heap.size w w'
theorem GoPost.mk {r : Int × Bool × Int} {x z : Int} {y : Bool} {w w' : World} (h : r = (x, y, z)) (hb : Below w.heap.size w w') : GoPost r w (.returned (.tuple #[.int .i64 x, .bool y, .int .i64 z])) w' :=
  ⟨by rw [h], hb⟩

theorem box_key (w : World) (x y z : Value) : (w.alloc (.cells #[x, y, z] 99)).cell? ⟨w.heap.size, 0, none⟩ = some x := by
  unfold World.cell?
  simp only
  rw [show ∀ o, (w.alloc o).heap[w.heap.size]? = some o from fun o => by show (w.heap.push o)[w.heap.size]? = _; simp [Array.getElem?_push]]
  rfl

set_option maxHeartbeats 1000000 in
theorem go_go (v : Value) (zs : List Int) (k c key arg : Int) (op : Bool) (w : World) (hp : Reads w v zs) :
    Calls Try.prog 53 #[v, .int .i64 k, .agg #[.int .i64 key, .int .i64 c, .int .i64 arg], .bool op] w fun e w' => GoPost (goes zs k c key arg op) w e w' := by
  obtain ⟨a, cap, rfl⟩ := hp.shape
  obtain ⟨r, hr⟩ : ∃ r, r = goes zs k c key arg op := ⟨_, rfl⟩
  rw [← hr]
  obtain ⟨q, hq⟩ : ∃ q, q = mchk zs.length k c key := ⟨_, rfl⟩
  have HK : Hid (Calls Try.prog 65 #[.slice a zs.length cap, .int .i64 k, .agg #[.int .i64 key, .int .i64 c, .int .i64 arg]] (w.alloc (.cells #[.int .i64 key, .int .i64 c, .int .i64 arg] 99)) fun e w' =>
      e = .returned (.int .i64 q) ∧ Below (w.alloc (.cells #[.int .i64 key, .int .i64 c, .int .i64 arg] 99)).heap.size (w.alloc (.cells #[.int .i64 key, .int .i64 c, .int .i64 arg] 99)) w') := by
    rw [hq]
    exact mcheck_go a zs.length cap k c key arg _
  by_cases h0 : q = 0
  · have hm : mchk zs.length k c key = 0 := hq.symm.trans h0
    obtain ⟨hl, ⟨j, rfl, hj⟩, hc0, hc9, hkey⟩ := mchk_zero hm
    have Hg : Hid (r = if (lead zs j (times c) key arg op).2 = true then ((lead zs j (times c) key arg op).1, wth key, 0) else (0, false, 5)) := hr.trans (goes_good hm)
    have HL : Hid (∀ w1, Below w.heap.size w w1 → Calls Try.prog 66 #[.slice a zs.length cap, .int .i64 (j : Int), .agg #[.int .i64 key, .int .i64 c, .int .i64 arg], .bool op] w1 fun e w' => LeadPost (lead zs j (times c) key arg op) w1 e w') :=
      fun w1 hb => lead_go _ zs j (times c) key c arg op w1 (hp.below hb) hl hj hc0 hc9 times_is hkey
    subst h0
    clear hr hq hm hp
    go_enter Try.func53, Try.ntmps53
    go_wp2_with fail
    refine HK.out.mono ?_
    rintro e w1 ⟨rfl, hb1⟩
    have hB1 : Below w.heap.size w w1 := below_trans (mbox24 _ _) hb1 (by rw [size_alloc]; omega)
    have hcell : ∀ i (x : Value), (w.alloc (.cells #[.int .i64 key, .int .i64 c, .int .i64 arg] 99)).cell? ⟨w.heap.size, i, none⟩ = some x → w1.cell? ⟨w.heap.size, i, none⟩ = some x := fun i x h => (hb1.cell (by rw [size_alloc]; exact Nat.lt_succ_self _)).trans h
    clear HK
    go_wp2_with fail
    refine (HL.out w1 hB1).mono ?_
    obtain ⟨L, hL⟩ : ∃ L, L = lead zs j (times c) key arg op := ⟨_, rfl⟩
    rw [← hL]
    have Hg2 : Hid (r = if L.2 = true then (L.1, wth key, 0) else (0, false, 5)) := by rw [hL]; exact Hg.out
    clear Hg HL hL
    rintro e w2 ⟨rfl, hb2⟩
    have HB : Hid (Below w.heap.size w w2) := below_trans hB1 hb2 hB1.size
    have hck : w2.cell? ⟨w.heap.size, 0, none⟩ = some (.int .i64 key) := (hb2.cell (Nat.lt_of_lt_of_le (by rw [size_alloc]; exact Nat.lt_succ_self _) hb1.size)).trans (hcell 0 _ (box_key _ _ _ _))
    clear hb2 hb1 hcell
    obtain ⟨x, y⟩ := L
    cases y with
    | true =>
      have Hg3 : Hid (r = (x, wth key, 0)) := Hg2.out
      clear Hg2
      go_wp2_with fail
      refine (takesWith_go key w2).mono ?_
      rintro e w3 ⟨rfl, hw3⟩
      rw [hw3]
      clear hw3 w3
      go_wp2_with fail
      go_ret3
      exact GoPost.mk Hg3.out HB.out
    | false =>
      have Hg3 : Hid (r = (0, false, 5)) := Hg2.out
      clear Hg2
      go_wp2_with fail
      go_ret3
      exact GoPost.mk Hg3.out HB.out
  · have hgb : r = (0, false, q) := by rw [hr, hq]; exact goes_bad (by rw [← hq]; exact h0)
    have Hg : Hid (r = (0, false, q)) := hgb
    have hqb : (q != 0) = true := by simpa using h0
    clear hr hq h0 hgb hp
    go_enter Try.func53, Try.ntmps53
    go_wp2_with fail
    refine HK.out.mono ?_
    rintro e w1 ⟨rfl, hb1⟩
    have HB : Hid (Below w.heap.size w w1) := below_trans (mbox24 _ _) hb1 (by rw [size_alloc]; omega)
    clear HK hb1
    go_wp2_with fail
    go_ret3
    exact GoPost.mk Hg.out HB.out

/-- What Range tells. -/
def RangePost (r : Int × Int × Int) (w : World) (e : Ending) (w' : World) : Prop := e = .returned (.tuple #[.int .i64 r.1, .int .i64 r.2.1, .int .i64 r.2.2]) ∧ Below w.heap.size w w'
theorem RangePost.mk {r : Int × Int × Int} {x y z : Int} {w w' : World} (h1 : r.1 = x) (h2 : r.2.1 = y) (h3 : r.2.2 = z) (hb : Below w.heap.size w w') : RangePost r w (.returned (.tuple #[.int .i64 x, .int .i64 y, .int .i64 z])) w' :=
  ⟨by rw [h1, h2, h3], hb⟩

set_option maxHeartbeats 1000000 in
theorem range_go (v : Value) (zs : List Int) (k c key arg : Int) (w : World) (hp : Reads w v zs) (hin : ∀ x y, goes zs k c key arg true = (x, y, 0) → 0 ≤ k ∧ k ≤ 4096 ∧ 0 ≤ x ∧ x ≤ 4096) :
    Calls Try.prog 60 #[v, .int .i64 k, .agg #[.int .i64 key, .int .i64 c, .int .i64 arg]] w fun e w' => RangePost (ranges zs k c key arg) w e w' := by
  obtain ⟨a, cap, rfl⟩ := hp.shape
  obtain ⟨r, hr⟩ : ∃ r, r = ranges zs k c key arg := ⟨_, rfl⟩
  rw [← hr]
  obtain ⟨G, hG⟩ : ∃ G, G = goes zs k c key arg true := ⟨_, rfl⟩
  have hrG : r = if G.2.2 = 0 then (min k G.1, if G.2.1 = true then max k G.1 + 1 else max k G.1, 0) else (0, 0, G.2.2) := by rw [hr, hG]; rfl
  rw [← hG] at hin
  have HK : Hid (Calls Try.prog 53 #[.slice a zs.length cap, .int .i64 k, .agg #[.int .i64 key, .int .i64 c, .int .i64 arg], .bool true] (w.alloc (.cells #[.int .i64 key, .int .i64 c, .int .i64 arg] 99)) fun e w' =>
      GoPost G (w.alloc (.cells #[.int .i64 key, .int .i64 c, .int .i64 arg] 99)) e w') := by
    rw [hG]
    exact go_go _ zs k c key arg true _ (hp.below (mbox24 _ _))
  clear hr hG hp
  obtain ⟨x, y, z⟩ := G
  by_cases h0 : z = 0
  · subst h0
    obtain ⟨hk1, hk2, hx1, hx2⟩ := hin x y rfl
    clear hin
    cases y with
    | true =>
      have H1 : Hid (r.1 = min k x) := by rw [hrG]; rfl
      have H2 : Hid (r.2.1 = max k x + 1) := by rw [hrG]; rfl
      have H3 : Hid (r.2.2 = 0) := by rw [hrG]; rfl
      clear hrG
      go_enter Try.func60, Try.ntmps60
      go_wp2_with fail
      refine HK.out.mono ?_
      rintro e w1 ⟨rfl, hb1⟩
      have HB : Hid (Below w.heap.size w w1) := below_trans (mbox24 _ _) hb1 (by rw [size_alloc]; omega)
      clear HK hb1
      go_wp2_with fail
      all_goals (
        go_ret3
        refine RangePost.mk (H1.out.trans ?_) (H2.out.trans ?_) H3.out HB.out
        · omega
        · omega)
    | false =>
      have H1 : Hid (r.1 = min k x) := by rw [hrG]; rfl
      have H2 : Hid (r.2.1 = max k x) := by rw [hrG]; rfl
      have H3 : Hid (r.2.2 = 0) := by rw [hrG]; rfl
      clear hrG
      go_enter Try.func60, Try.ntmps60
      go_wp2_with fail
      refine HK.out.mono ?_
      rintro e w1 ⟨rfl, hb1⟩
      have HB : Hid (Below w.heap.size w w1) := below_trans (mbox24 _ _) hb1 (by rw [size_alloc]; omega)
      clear HK hb1
      go_wp2_with fail
      all_goals (
        go_ret3
        refine RangePost.mk (H1.out.trans ?_) (H2.out.trans ?_) H3.out HB.out
        · omega
        · omega)
  · have hzb : (z != 0) = true := by simpa using h0
    have hr2 : r = (0, 0, z) := by rw [hrG]; exact if_neg h0
    have H1 : Hid (r.1 = 0) := by rw [hr2]; rfl
    have H2 : Hid (r.2.1 = 0) := by rw [hr2]; rfl
    have H3 : Hid (r.2.2 = z) := by rw [hr2]; rfl
    clear hrG hr2 h0 hin
    go_enter Try.func60, Try.ntmps60
    go_wp2_with fail
    refine HK.out.mono ?_
    rintro e w1 ⟨rfl, hb1⟩
    have HB : Hid (Below w.heap.size w w1) := below_trans (mbox24 _ _) hb1 (by rw [size_alloc]; omega)
    clear HK hb1
    go_wp2_with fail
    go_ret3
    exact RangePost.mk H1.out H2.out H3.out HB.out
end Go.Proofs.Ytpgjaoemkadenab.Seek
