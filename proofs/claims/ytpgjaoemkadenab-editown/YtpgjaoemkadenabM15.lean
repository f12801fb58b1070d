/- The contract of motion.leadOnLine, key by key. -/
import Derived.Test.YtpgjaoemkadenabM02
import Derived.Test.YtpgjaoemkadenabM14
set_option linter.unusedVariables false
set_option linter.unusedSimpArgs false
set_option maxRecDepth 100000
namespace Go.Proofs.Ytpgjaoemkadenab.Seek
open Go.RowKit Plain

/-- What leadOnLine and lead tell. -/
def LeadPost (r : Int × Bool) (w : World) (e : Ending) (w' : World) : Prop := e = .returned (.tuple #[.int .i64 r.1, .bool r.2]) ∧ Below w.heap.size w w'
theorem LeadPost.mk {r : Int × Bool} {x : Int} {y : Bool} {w w' : World} (h1 : r.1 = x) (h2 : r.2 = y) (hb : Below w.heap.size w w') : LeadPost r w (.returned (.tuple #[.int .i64 x, .bool y])) w' :=
  ⟨by rw [h1, h2], hb⟩
theorem cells_alloc {b off : Nat} {zs : List Int} {w w' : World} (hb : b < w.heap.size) (hbel : Below w.heap.size w w') (hc : ∀ j, j < zs.length → w.cell? ⟨b, off + j, none⟩ = some (.int .i64 (zs.getD j 0))) :
    ∀ j, j < zs.length → w'.cell? ⟨b, off + j, none⟩ = some (.int .i64 (zs.getD j 0)) := fun j hj => (hbel.cell hb).trans (hc j hj)

set_option maxHeartbeats 1000000 in
theorem line_36 (b off cap : Nat) (zs : List Int) (k n : Nat) (c arg : Int) (op : Bool) (w : World) (hl : zs.length ≤ 4096) (hb : b < w.heap.size) (hcap : zs.length ≤ cap) (hcm : cap ≤ maxLen) (hk : k < zs.length) (hn : 1 ≤ n) (hn2 : n ≤ 999)
    (hc : ∀ j, j < zs.length → w.cell? ⟨b, off + j, none⟩ = some (.int .i64 (zs.getD j 0))) :
    Calls Try.prog 79 #[.slice (some ⟨b, off, none⟩) zs.length cap, .int .i64 (k : Int), .int .i64 (n : Int), .agg #[.int .i64 36, .int .i64 c, .int .i64 arg], .bool op] w fun e w' => LeadPost (lineLead zs k n 36 arg op) w e w' := by
  obtain ⟨r, hr⟩ : ∃ r, r = lineLead zs k n 36 arg op := ⟨_, rfl⟩
  rw [← hr]
  have H1 : Hid (r.1 = (zs.length : Int) - 1) := by rw [hr]; rfl
  have H2 : Hid (r.2 = true) := by rw [hr]; rfl
  clear hr hc
  go_enter Try.func79, Try.ntmps79
  go_wp2_with fail
  go_ret2
  exact LeadPost.mk H1.out H2.out (mbox24 _ _)

set_option maxHeartbeats 1000000 in
theorem line_124 (b off cap : Nat) (zs : List Int) (k n : Nat) (c arg : Int) (op : Bool) (w : World) (hl : zs.length ≤ 4096) (hb : b < w.heap.size) (hcap : zs.length ≤ cap) (hcm : cap ≤ maxLen) (hk : k < zs.length) (hn : 1 ≤ n) (hn2 : n ≤ 999)
    (hc : ∀ j, j < zs.length → w.cell? ⟨b, off + j, none⟩ = some (.int .i64 (zs.getD j 0))) :
    Calls Try.prog 79 #[.slice (some ⟨b, off, none⟩) zs.length cap, .int .i64 (k : Int), .int .i64 (n : Int), .agg #[.int .i64 124, .int .i64 c, .int .i64 arg], .bool op] w fun e w' => LeadPost (lineLead zs k n 124 arg op) w e w' := by
  obtain ⟨r, hr⟩ : ∃ r, r = lineLead zs k n 124 arg op := ⟨_, rfl⟩
  rw [← hr]
  have H1 : Hid (r.1 = min ((n : Int) - 1) ((zs.length : Int) - 1)) := by rw [hr]; rfl
  have H2 : Hid (r.2 = true) := by rw [hr]; rfl
  clear hr hc
  go_enter Try.func79, Try.ntmps79
  go_wp2_with fail
  all_goals (
    go_ret2
    refine LeadPost.mk (H1.out.trans ?_) H2.out (mbox24 _ _)
    omega)

set_option maxHeartbeats 1000000 in
theorem line_119 (b off cap : Nat) (zs : List Int) (k n : Nat) (c arg : Int) (op : Bool) (w : World) (hl : zs.length ≤ 4096) (hb : b < w.heap.size) (hcap : zs.length ≤ cap) (hcm : cap ≤ maxLen) (hk : k < zs.length) (hn : 1 ≤ n) (hn2 : n ≤ 999)
    (hc : ∀ j, j < zs.length → w.cell? ⟨b, off + j, none⟩ = some (.int .i64 (zs.getD j 0))) :
    Calls Try.prog 79 #[.slice (some ⟨b, off, none⟩) zs.length cap, .int .i64 (k : Int), .int .i64 (n : Int), .agg #[.int .i64 119, .int .i64 c, .int .i64 arg], .bool op] w fun e w' => LeadPost (lineLead zs k n 119 arg op) w e w' := by
  obtain ⟨r, hr⟩ : ∃ r, r = lineLead zs k n 119 arg op := ⟨_, rfl⟩
  rw [← hr]
  obtain ⟨t, ht⟩ : ∃ t, t = iter (fun x => next zs x false) n k := ⟨_, rfl⟩
  have Ht : Hid (t = iter (fun x => next zs x false) n k) := ht
  have H1 : Hid (r.1 = if op = true then t else min t ((zs.length : Int) - 1)) := by rw [hr, ht]; rfl
  have H2 : Hid (r.2 = ((if op = true then t else min t ((zs.length : Int) - 1)) != (k : Int))) := by rw [hr, ht]; rfl
  have HC : Hid (Calls Try.prog 78 #[.func (.func 85) #[] #[], .slice (some ⟨b, off, none⟩) zs.length cap, .int .i64 (k : Int), .int .i64 (n : Int), .bool false] (w.alloc (.cells #[.int .i64 119, .int .i64 c, .int .i64 arg] 99)) fun e w' => e = .returned (.int .i64 t) ∧ w' = (w.alloc (.cells #[.int .i64 119, .int .i64 c, .int .i64 arg] 99))) := by
    rw [ht]
    exact again_go 85 (fun x => next zs x false) (fun x => chk zs.length x) _ _ _ _ _ _ _ (by omega) hn2 (fun x => next_go _ zs x false _ (.inr ⟨b, off, cap, rfl, hcap, hcm, by rw [size_alloc]; omega, cells_alloc hb (mbox24 _ _) hc⟩))
  clear hr ht hc
  cases op with
  | true =>
    have H1' : Hid (r.1 = t) := H1.out
    have H2' : Hid (r.2 = (t != (k : Int))) := H2.out
    clear H1 H2
    go_enter Try.func79, Try.ntmps79
    go_wp2_with fail
    refine HC.out.mono ?_
    rintro e w1 ⟨rfl, hw1⟩
    rw [hw1]
    clear hw1 w1 HC
    go_wp2_with fail
    all_goals (
      go_ret2
      exact LeadPost.mk H1'.out H2'.out (mbox24 _ _))
  | false =>
    obtain ⟨y, hy⟩ : ∃ y, y = min t ((zs.length : Int) - 1) := ⟨_, rfl⟩
    have H1' : Hid (r.1 = y) := by rw [hy]; exact H1.out
    have H2' : Hid (r.2 = (y != (k : Int))) := by rw [hy]; exact H2.out
    have hy' : min t ((zs.length : Int) - 1) = y := hy.symm
    have Hy : Hid (y = min t ((zs.length : Int) - 1)) := hy
    clear H1 H2 hy
    go_enter Try.func79, Try.ntmps79
    go_wp2_with fail
    refine HC.out.mono ?_
    rintro e w1 ⟨rfl, hw1⟩
    rw [hw1]
    clear hw1 w1 HC
    go_wp2_with fail
    all_goals (
      go_ret2
      first
        | exact LeadPost.mk H1'.out H2'.out (mbox24 _ _)
        | (refine LeadPost.mk (H1'.out.trans ?_) (H2'.out.trans ?_) (mbox24 _ _)
           · omega
           · refine congrArg (fun x => x != (k : Int)) ?_
             omega))

set_option maxHeartbeats 1000000 in
theorem line_87 (b off cap : Nat) (zs : List Int) (k n : Nat) (c arg : Int) (op : Bool) (w : World) (hl : zs.length ≤ 4096) (hb : b < w.heap.size) (hcap : zs.length ≤ cap) (hcm : cap ≤ maxLen) (hk : k < zs.length) (hn : 1 ≤ n) (hn2 : n ≤ 999)
    (hc : ∀ j, j < zs.length → w.cell? ⟨b, off + j, none⟩ = some (.int .i64 (zs.getD j 0))) :
    Calls Try.prog 79 #[.slice (some ⟨b, off, none⟩) zs.length cap, .int .i64 (k : Int), .int .i64 (n : Int), .agg #[.int .i64 87, .int .i64 c, .int .i64 arg], .bool op] w fun e w' => LeadPost (lineLead zs k n 87 arg op) w e w' := by
  obtain ⟨r, hr⟩ : ∃ r, r = lineLead zs k n 87 arg op := ⟨_, rfl⟩
  rw [← hr]
  obtain ⟨t, ht⟩ : ∃ t, t = iter (fun x => next zs x true) n k := ⟨_, rfl⟩
  have Ht : Hid (t = iter (fun x => next zs x true) n k) := ht
  have H1 : Hid (r.1 = if op = true then t else min t ((zs.length : Int) - 1)) := by rw [hr, ht]; rfl
  have H2 : Hid (r.2 = ((if op = true then t else min t ((zs.length : Int) - 1)) != (k : Int))) := by rw [hr, ht]; rfl
  have HC : Hid (Calls Try.prog 78 #[.func (.func 85) #[] #[], .slice (some ⟨b, off, none⟩) zs.length cap, .int .i64 (k : Int), .int .i64 (n : Int), .bool true] (w.alloc (.cells #[.int .i64 87, .int .i64 c, .int .i64 arg] 99)) fun e w' => e = .returned (.int .i64 t) ∧ w' = (w.alloc (.cells #[.int .i64 87, .int .i64 c, .int .i64 arg] 99))) := by
    rw [ht]
    exact again_go 85 (fun x => next zs x true) (fun x => chk zs.length x) _ _ _ _ _ _ _ (by omega) hn2 (fun x => next_go _ zs x true _ (.inr ⟨b, off, cap, rfl, hcap, hcm, by rw [size_alloc]; omega, cells_alloc hb (mbox24 _ _) hc⟩))
  clear hr ht hc
  cases op with
  | true =>
    have H1' : Hid (r.1 = t) := H1.out
    have H2' : Hid (r.2 = (t != (k : Int))) := H2.out
    clear H1 H2
    go_enter Try.func79, Try.ntmps79
    go_wp2_with fail
    refine HC.out.mono ?_
    rintro e w1 ⟨rfl, hw1⟩
    rw [hw1]
    clear hw1 w1 HC
    go_wp2_with fail
    all_goals (
      go_ret2
      exact LeadPost.mk H1'.out H2'.out (mbox24 _ _))
  | false =>
    obtain ⟨y, hy⟩ : ∃ y, y = min t ((zs.length : Int) - 1) := ⟨_, rfl⟩
    have H1' : Hid (r.1 = y) := by rw [hy]; exact H1.out
    have H2' : Hid (r.2 = (y != (k : Int))) := by rw [hy]; exact H2.out
    have hy' : min t ((zs.length : Int) - 1) = y := hy.symm
    have Hy : Hid (y = min t ((zs.length : Int) - 1)) := hy
    clear H1 H2 hy
    go_enter Try.func79, Try.ntmps79
    go_wp2_with fail
    refine HC.out.mono ?_
    rintro e w1 ⟨rfl, hw1⟩
    rw [hw1]
    clear hw1 w1 HC
    go_wp2_with fail
    all_goals (
      go_ret2
      first
        | exact LeadPost.mk H1'.out H2'.out (mbox24 _ _)
        | (refine LeadPost.mk (H1'.out.trans ?_) (H2'.out.trans ?_) (mbox24 _ _)
           · omega
           · refine congrArg (fun x => x != (k : Int)) ?_
             omega))

set_option maxHeartbeats 1000000 in
theorem line_101 (b off cap : Nat) (zs : List Int) (k n : Nat) (c arg : Int) (op : Bool) (w : World) (hl : zs.length ≤ 4096) (hb : b < w.heap.size) (hcap : zs.length ≤ cap) (hcm : cap ≤ maxLen) (hk : k < zs.length) (hn : 1 ≤ n) (hn2 : n ≤ 999)
    (hc : ∀ j, j < zs.length → w.cell? ⟨b, off + j, none⟩ = some (.int .i64 (zs.getD j 0))) :
    Calls Try.prog 79 #[.slice (some ⟨b, off, none⟩) zs.length cap, .int .i64 (k : Int), .int .i64 (n : Int), .agg #[.int .i64 101, .int .i64 c, .int .i64 arg], .bool op] w fun e w' => LeadPost (lineLead zs k n 101 arg op) w e w' := by
  obtain ⟨r, hr⟩ : ∃ r, r = lineLead zs k n 101 arg op := ⟨_, rfl⟩
  rw [← hr]
  obtain ⟨t, ht⟩ : ∃ t, t = iter (fun x => last zs x false) n k := ⟨_, rfl⟩
  have Ht : Hid (t = iter (fun x => last zs x false) n k) := ht
  have H1 : Hid (r.1 = t) := by rw [hr, ht]; rfl
  have H2 : Hid (r.2 = (op || t != (k : Int))) := by rw [hr, ht]; rfl
  have HC : Hid (Calls Try.prog 78 #[.func (.func 86) #[] #[], .slice (some ⟨b, off, none⟩) zs.length cap, .int .i64 (k : Int), .int .i64 (n : Int), .bool false] (w.alloc (.cells #[.int .i64 101, .int .i64 c, .int .i64 arg] 99)) fun e w' => e = .returned (.int .i64 t) ∧ w' = (w.alloc (.cells #[.int .i64 101, .int .i64 c, .int .i64 arg] 99))) := by
    rw [ht]
    exact again_go 86 (fun x => last zs x false) (fun x => chk zs.length x) _ _ _ _ _ _ _ (by omega) hn2 (fun x => last_go _ zs x false _ (.inr ⟨b, off, cap, rfl, hcap, hcm, by rw [size_alloc]; omega, cells_alloc hb (mbox24 _ _) hc⟩))
  clear hr ht hc
  cases op with
  | true =>
    have H1' : Hid (r.1 = t) := H1.out
    have H2' : Hid (r.2 = true) := H2.out
    clear H1 H2
    go_enter Try.func79, Try.ntmps79
    go_wp2_with fail
    refine HC.out.mono ?_
    rintro e w1 ⟨rfl, hw1⟩
    rw [hw1]
    clear hw1 w1 HC
    go_wp2_with fail
    all_goals (
      go_ret2
      exact LeadPost.mk H1'.out H2'.out (mbox24 _ _))
  | false =>
    have H1' : Hid (r.1 = t) := H1.out
    have H2' : Hid (r.2 = (t != (k : Int))) := H2.out
    clear H1 H2
    go_enter Try.func79, Try.ntmps79
    go_wp2_with fail
    refine HC.out.mono ?_
    rintro e w1 ⟨rfl, hw1⟩
    rw [hw1]
    clear hw1 w1 HC
    go_wp2_with fail
    all_goals (
      go_ret2
      first
        | exact LeadPost.mk H1'.out H2'.out (mbox24 _ _)
        | (refine LeadPost.mk (H1'.out.trans ?_) (H2'.out.trans ?_) (mbox24 _ _)
           · omega
           · refine congrArg (fun x => x != (k : Int)) ?_
             omega))

set_option maxHeartbeats 1000000 in
theorem line_69 (b off cap : Nat) (zs : List Int) (k n : Nat) (c arg : Int) (op : Bool) (w : World) (hl : zs.length ≤ 4096) (hb : b < w.heap.size) (hcap : zs.length ≤ cap) (hcm : cap ≤ maxLen) (hk : k < zs.length) (hn : 1 ≤ n) (hn2 : n ≤ 999)
    (hc : ∀ j, j < zs.length → w.cell? ⟨b, off + j, none⟩ = some (.int .i64 (zs.getD j 0))) :
    Calls Try.prog 79 #[.slice (some ⟨b, off, none⟩) zs.length cap, .int .i64 (k : Int), .int .i64 (n : Int), .agg #[.int .i64 69, .int .i64 c, .int .i64 arg], .bool op] w fun e w' => LeadPost (lineLead zs k n 69 arg op) w e w' := by
  obtain ⟨r, hr⟩ : ∃ r, r = lineLead zs k n 69 arg op := ⟨_, rfl⟩
  rw [← hr]
  obtain ⟨t, ht⟩ : ∃ t, t = iter (fun x => last zs x true) n k := ⟨_, rfl⟩
  have Ht : Hid (t = iter (fun x => last zs x true) n k) := ht
  have H1 : Hid (r.1 = t) := by rw [hr, ht]; rfl
  have H2 : Hid (r.2 = (op || t != (k : Int))) := by rw [hr, ht]; rfl
  have HC : Hid (Calls Try.prog 78 #[.func (.func 86) #[] #[], .slice (some ⟨b, off, none⟩) zs.length cap, .int .i64 (k : Int), .int .i64 (n : Int), .bool true] (w.alloc (.cells #[.int .i64 69, .int .i64 c, .int .i64 arg] 99)) fun e w' => e = .returned (.int .i64 t) ∧ w' = (w.alloc (.cells #[.int .i64 69, .int .i64 c, .int .i64 arg] 99))) := by
    rw [ht]
    exact again_go 86 (fun x => last zs x true) (fun x => chk zs.length x) _ _ _ _ _ _ _ (by omega) hn2 (fun x => last_go _ zs x true _ (.inr ⟨b, off, cap, rfl, hcap, hcm, by rw [size_alloc]; omega, cells_alloc hb (mbox24 _ _) hc⟩))
  clear hr ht hc
  cases op with
  | true =>
    have H1' : Hid (r.1 = t) := H1.out
    have H2' : Hid (r.2 = true) := H2.out
    clear H1 H2
    go_enter Try.func79, Try.ntmps79
    go_wp2_with fail
    refine HC.out.mono ?_
    rintro e w1 ⟨rfl, hw1⟩
    rw [hw1]
    clear hw1 w1 HC
    go_wp2_with fail
    all_goals (
      go_ret2
      exact LeadPost.mk H1'.out H2'.out (mbox24 _ _))
  | false =>
    have H1' : Hid (r.1 = t) := H1.out
    have H2' : Hid (r.2 = (t != (k : Int))) := H2.out
    clear H1 H2
    go_enter Try.func79, Try.ntmps79
    go_wp2_with fail
    refine HC.out.mono ?_
    rintro e w1 ⟨rfl, hw1⟩
    rw [hw1]
    clear hw1 w1 HC
    go_wp2_with fail
    all_goals (
      go_ret2
      first
        | exact LeadPost.mk H1'.out H2'.out (mbox24 _ _)
        | (refine LeadPost.mk (H1'.out.trans ?_) (H2'.out.trans ?_) (mbox24 _ _)
           · omega
           · refine congrArg (fun x => x != (k : Int)) ?_
             omega))

set_option maxHeartbeats 1000000 in
theorem line_37 (b off cap : Nat) (zs : List Int) (k n : Nat) (c arg : Int) (op : Bool) (w : World) (hl : zs.length ≤ 4096) (hb : b < w.heap.size) (hcap : zs.length ≤ cap) (hcm : cap ≤ maxLen) (hk : k < zs.length) (hn : 1 ≤ n) (hn2 : n ≤ 999)
    (hc : ∀ j, j < zs.length → w.cell? ⟨b, off + j, none⟩ = some (.int .i64 (zs.getD j 0))) :
    Calls Try.prog 79 #[.slice (some ⟨b, off, none⟩) zs.length cap, .int .i64 (k : Int), .int .i64 (n : Int), .agg #[.int .i64 37, .int .i64 c, .int .i64 arg], .bool op] w fun e w' => LeadPost (lineLead zs k n 37 arg op) w e w' := by
  obtain ⟨r, hr⟩ : ∃ r, r = lineLead zs k n 37 arg op := ⟨_, rfl⟩
  rw [← hr]
  have H1 : Hid (r.1 = (mate zs k).1) := by rw [hr]; rfl
  have H2 : Hid (r.2 = (mate zs k).2) := by rw [hr]; rfl
  clear hr
  obtain ⟨x, hx⟩ : ∃ x, x = (mate zs k).1 := ⟨_, rfl⟩
  obtain ⟨y, hy⟩ : ∃ y, y = (mate zs k).2 := ⟨_, rfl⟩
  rw [← hx] at H1
  rw [← hy] at H2
  have HC : Hid (Calls Try.prog 87 #[.slice (some ⟨b, off, none⟩) zs.length cap, .int .i64 (k : Int)] (w.alloc (.cells #[.int .i64 37, .int .i64 c, .int .i64 arg] 99)) fun e w' => e = .returned (.tuple #[.int .i64 x, .bool y]) ∧ Below (w.alloc (.cells #[.int .i64 37, .int .i64 c, .int .i64 arg] 99)).heap.size (w.alloc (.cells #[.int .i64 37, .int .i64 c, .int .i64 arg] 99)) w') := by
    rw [hx, hy]
    exact partner_some b off cap zs k _ hl (by rw [size_alloc]; omega) hcap hcm (by omega) (by omega) (cells_alloc hb (mbox24 _ _) hc)
  clear hx hy hc
  go_enter Try.func79, Try.ntmps79
  go_wp2_with fail
  refine HC.out.mono ?_
  rintro e w1 ⟨rfl, hb1⟩
  have Hb1 : Hid (Below w.heap.size w w1) := below_trans (mbox24 _ _) hb1 (by rw [size_alloc]; omega)
  clear HC hb1
  go_wp2_with fail
  go_ret2
  exact LeadPost.mk H1.out H2.out Hb1.out

set_option maxHeartbeats 1000000 in
theorem line_102 (b off cap : Nat) (zs : List Int) (k n : Nat) (c arg : Int) (op : Bool) (w : World) (hl : zs.length ≤ 4096) (hb : b < w.heap.size) (hcap : zs.length ≤ cap) (hcm : cap ≤ maxLen) (hk : k < zs.length) (hn : 1 ≤ n) (hn2 : n ≤ 999)
    (hc : ∀ j, j < zs.length → w.cell? ⟨b, off + j, none⟩ = some (.int .i64 (zs.getD j 0))) :
    Calls Try.prog 79 #[.slice (some ⟨b, off, none⟩) zs.length cap, .int .i64 (k : Int), .int .i64 (n : Int), .agg #[.int .i64 102, .int .i64 c, .int .i64 arg], .bool op] w fun e w' => LeadPost (lineLead zs k n 102 arg op) w e w' := by
  obtain ⟨r, hr⟩ : ∃ r, r = lineLead zs k n 102 arg op := ⟨_, rfl⟩
  rw [← hr]
  have H1 : Hid (r.1 = (rightHit zs k n arg).1) := by rw [hr]; rfl
  have H2 : Hid (r.2 = (rightHit zs k n arg).2) := by rw [hr]; rfl
  clear hr
  obtain ⟨x, hx⟩ : ∃ x, x = (rightHit zs k n arg).1 := ⟨_, rfl⟩
  obtain ⟨y, hy⟩ : ∃ y, y = (rightHit zs k n arg).2 := ⟨_, rfl⟩
  have hx1 : 0 ≤ x := by rw [hx]; exact (right_bounds _ _ _ _).1
  have hx2 : x ≤ 4096 := by rw [hx]; exact Int.le_trans (right_bounds _ _ _ _).2 (by omega)
  rw [← hx] at H1
  rw [← hy] at H2
  have HC : Hid (Calls Try.prog 88 #[.slice (some ⟨b, off, none⟩) zs.length cap, .int .i64 (k : Int), .int .i64 (n : Int), .int .i64 1, .int .i64 arg] (w.alloc (.cells #[.int .i64 102, .int .i64 c, .int .i64 arg] 99)) fun e w' => e = .returned (.tuple #[.int .i64 x, .bool y]) ∧ w' = (w.alloc (.cells #[.int .i64 102, .int .i64 c, .int .i64 arg] 99))) := by
    rw [hx, hy]
    exact find_right b off cap zs k n arg _ hl (by omega) hn hn2 (cells_alloc hb (mbox24 _ _) hc)
  clear hx hy hc
  go_enter Try.func79, Try.ntmps79
  go_wp2_with fail
  refine HC.out.mono ?_
  rintro e w1 ⟨rfl, hw1⟩
  rw [hw1]
  clear hw1 w1 HC
  go_wp2_with fail
  go_ret2
  exact LeadPost.mk H1.out H2.out (mbox24 _ _)

set_option maxHeartbeats 1000000 in
theorem line_116 (b off cap : Nat) (zs : List Int) (k n : Nat) (c arg : Int) (op : Bool) (w : World) (hl : zs.length ≤ 4096) (hb : b < w.heap.size) (hcap : zs.length ≤ cap) (hcm : cap ≤ maxLen) (hk : k < zs.length) (hn : 1 ≤ n) (hn2 : n ≤ 999)
    (hc : ∀ j, j < zs.length → w.cell? ⟨b, off + j, none⟩ = some (.int .i64 (zs.getD j 0))) :
    Calls Try.prog 79 #[.slice (some ⟨b, off, none⟩) zs.length cap, .int .i64 (k : Int), .int .i64 (n : Int), .agg #[.int .i64 116, .int .i64 c, .int .i64 arg], .bool op] w fun e w' => LeadPost (lineLead zs k n 116 arg op) w e w' := by
  obtain ⟨r, hr⟩ : ∃ r, r = lineLead zs k n 116 arg op := ⟨_, rfl⟩
  rw [← hr]
  have H1 : Hid (r.1 = (rightHit zs k n arg).1 - 1) := by rw [hr]; rfl
  have H2 : Hid (r.2 = (rightHit zs k n arg).2) := by rw [hr]; rfl
  clear hr
  obtain ⟨x, hx⟩ : ∃ x, x = (rightHit zs k n arg).1 := ⟨_, rfl⟩
  obtain ⟨y, hy⟩ : ∃ y, y = (rightHit zs k n arg).2 := ⟨_, rfl⟩
  have hx1 : 0 ≤ x := by rw [hx]; exact (right_bounds _ _ _ _).1
  have hx2 : x ≤ 4096 := by rw [hx]; exact Int.le_trans (right_bounds _ _ _ _).2 (by omega)
  rw [← hx] at H1
  rw [← hy] at H2
  have HC : Hid (Calls Try.prog 88 #[.slice (some ⟨b, off, none⟩) zs.length cap, .int .i64 (k : Int), .int .i64 (n : Int), .int .i64 1, .int .i64 arg] (w.alloc (.cells #[.int .i64 116, .int .i64 c, .int .i64 arg] 99)) fun e w' => e = .returned (.tuple #[.int .i64 x, .bool y]) ∧ w' = (w.alloc (.cells #[.int .i64 116, .int .i64 c, .int .i64 arg] 99))) := by
    rw [hx, hy]
    exact find_right b off cap zs k n arg _ hl (by omega) hn hn2 (cells_alloc hb (mbox24 _ _) hc)
  clear hx hy hc
  go_enter Try.func79, Try.ntmps79
  go_wp2_with fail
  refine HC.out.mono ?_
  rintro e w1 ⟨rfl, hw1⟩
  rw [hw1]
  clear hw1 w1 HC
  go_wp2_with fail
  go_ret2
  exact LeadPost.mk H1.out H2.out (mbox24 _ _)

set_option maxHeartbeats 1000000 in
theorem line_70 (b off cap : Nat) (zs : List Int) (k n : Nat) (c arg : Int) (op : Bool) (w : World) (hl : zs.length ≤ 4096) (hb : b < w.heap.size) (hcap : zs.length ≤ cap) (hcm : cap ≤ maxLen) (hk : k < zs.length) (hn : 1 ≤ n) (hn2 : n ≤ 999)
    (hc : ∀ j, j < zs.length → w.cell? ⟨b, off + j, none⟩ = some (.int .i64 (zs.getD j 0))) :
    Calls Try.prog 79 #[.slice (some ⟨b, off, none⟩) zs.length cap, .int .i64 (k : Int), .int .i64 (n : Int), .agg #[.int .i64 70, .int .i64 c, .int .i64 arg], .bool op] w fun e w' => LeadPost (lineLead zs k n 70 arg op) w e w' := by
  obtain ⟨r, hr⟩ : ∃ r, r = lineLead zs k n 70 arg op := ⟨_, rfl⟩
  rw [← hr]
  have H1 : Hid (r.1 = (leftHit zs k n arg).1) := by rw [hr]; rfl
  have H2 : Hid (r.2 = (leftHit zs k n arg).2) := by rw [hr]; rfl
  clear hr
  obtain ⟨x, hx⟩ : ∃ x, x = (leftHit zs k n arg).1 := ⟨_, rfl⟩
  obtain ⟨y, hy⟩ : ∃ y, y = (leftHit zs k n arg).2 := ⟨_, rfl⟩
  have hx1 : 0 ≤ x := by rw [hx]; exact (left_bounds _ _ _ _).1
  have hx2 : x ≤ 4096 := by rw [hx]; exact Int.le_trans (left_bounds _ _ _ _).2 (by omega)
  rw [← hx] at H1
  rw [← hy] at H2
  have HC : Hid (Calls Try.prog 88 #[.slice (some ⟨b, off, none⟩) zs.length cap, .int .i64 (k : Int), .int .i64 (n : Int), .int .i64 (-1), .int .i64 arg] (w.alloc (.cells #[.int .i64 70, .int .i64 c, .int .i64 arg] 99)) fun e w' => e = .returned (.tuple #[.int .i64 x, .bool y]) ∧ w' = (w.alloc (.cells #[.int .i64 70, .int .i64 c, .int .i64 arg] 99))) := by
    rw [hx, hy]
    exact find_left b off cap zs k n arg _ hl (by omega) hn hn2 (cells_alloc hb (mbox24 _ _) hc)
  clear hx hy hc
  go_enter Try.func79, Try.ntmps79
  go_wp2_with fail
  refine HC.out.mono ?_
  rintro e w1 ⟨rfl, hw1⟩
  rw [hw1]
  clear hw1 w1 HC
  go_wp2_with fail
  go_ret2
  exact LeadPost.mk H1.out H2.out (mbox24 _ _)

set_option maxHeartbeats 1000000 in
theorem line_84 (b off cap : Nat) (zs : List Int) (k n : Nat) (c arg : Int) (op : Bool) (w : World) (hl : zs.length ≤ 4096) (hb : b < w.heap.size) (hcap : zs.length ≤ cap) (hcm : cap ≤ maxLen) (hk : k < zs.length) (hn : 1 ≤ n) (hn2 : n ≤ 999)
    (hc : ∀ j, j < zs.length → w.cell? ⟨b, off + j, none⟩ = some (.int .i64 (zs.getD j 0))) :
    Calls Try.prog 79 #[.slice (some ⟨b, off, none⟩) zs.length cap, .int .i64 (k : Int), .int .i64 (n : Int), .agg #[.int .i64 84, .int .i64 c, .int .i64 arg], .bool op] w fun e w' => LeadPost (lineLead zs k n 84 arg op) w e w' := by
  obtain ⟨r, hr⟩ : ∃ r, r = lineLead zs k n 84 arg op := ⟨_, rfl⟩
  rw [← hr]
  have H1 : Hid (r.1 = (leftHit zs k n arg).1 + 1) := by rw [hr]; rfl
  have H2 : Hid (r.2 = (leftHit zs k n arg).2) := by rw [hr]; rfl
  clear hr
  obtain ⟨x, hx⟩ : ∃ x, x = (leftHit zs k n arg).1 := ⟨_, rfl⟩
  obtain ⟨y, hy⟩ : ∃ y, y = (leftHit zs k n arg).2 := ⟨_, rfl⟩
  have hx1 : 0 ≤ x := by rw [hx]; exact (left_bounds _ _ _ _).1
  have hx2 : x ≤ 4096 := by rw [hx]; exact Int.le_trans (left_bounds _ _ _ _).2 (by omega)
  rw [← hx] at H1
  rw [← hy] at H2
  have HC : Hid (Calls Try.prog 88 #[.slice (some ⟨b, off, none⟩) zs.length cap, .int .i64 (k : Int), .int .i64 (n : Int), .int .i64 (-1), .int .i64 arg] (w.alloc (.cells #[.int .i64 84, .int .i64 c, .int .i64 arg] 99)) fun e w' => e = .returned (.tuple #[.int .i64 x, .bool y]) ∧ w' = (w.alloc (.cells #[.int .i64 84, .int .i64 c, .int .i64 arg] 99))) := by
    rw [hx, hy]
    exact find_left b off cap zs k n arg _ hl (by omega) hn hn2 (cells_alloc hb (mbox24 _ _) hc)
  clear hx hy hc
  go_enter Try.func79, Try.ntmps79
  go_wp2_with fail
  refine HC.out.mono ?_
  rintro e w1 ⟨rfl, hw1⟩
  rw [hw1]
  clear hw1 w1 HC
  go_wp2_with fail
  go_ret2
  exact LeadPost.mk H1.out H2.out (mbox24 _ _)

theorem line_go (b off cap : Nat) (zs : List Int) (k n : Nat) (key c arg : Int) (op : Bool) (w : World) (hl : zs.length ≤ 4096) (hb : b < w.heap.size) (hcap : zs.length ≤ cap) (hcm : cap ≤ maxLen) (hk : k < zs.length) (hn : 1 ≤ n) (hn2 : n ≤ 999)
    (hc : ∀ j, j < zs.length → w.cell? ⟨b, off + j, none⟩ = some (.int .i64 (zs.getD j 0))) (hkey : key = 36 ∨ key = 124 ∨ key = 119 ∨ key = 87 ∨ key = 101 ∨ key = 69 ∨ key = 37 ∨ key = 102 ∨ key = 116 ∨ key = 70 ∨ key = 84) :
    Calls Try.prog 79 #[.slice (some ⟨b, off, none⟩) zs.length cap, .int .i64 (k : Int), .int .i64 (n : Int), .agg #[.int .i64 key, .int .i64 c, .int .i64 arg], .bool op] w fun e w' => LeadPost (lineLead zs k n key arg op) w e w' := by
  rcases hkey with rfl | rfl | rfl | rfl | rfl | rfl | rfl | rfl | rfl | rfl | rfl
  · exact line_36 b off cap zs k n c arg op w hl hb hcap hcm hk hn hn2 hc
  · exact line_124 b off cap zs k n c arg op w hl hb hcap hcm hk hn hn2 hc
  · exact line_119 b off cap zs k n c arg op w hl hb hcap hcm hk hn hn2 hc
  · exact line_87 b off cap zs k n c arg op w hl hb hcap hcm hk hn hn2 hc
  · exact line_101 b off cap zs k n c arg op w hl hb hcap hcm hk hn hn2 hc
  · exact line_69 b off cap zs k n c arg op w hl hb hcap hcm hk hn hn2 hc
  · exact line_37 b off cap zs k n c arg op w hl hb hcap hcm hk hn hn2 hc
  · exact line_102 b off cap zs k n c arg op w hl hb hcap hcm hk hn hn2 hc
  · exact line_116 b off cap zs k n c arg op w hl hb hcap hcm hk hn hn2 hc
  · exact line_70 b off cap zs k n c arg op w hl hb hcap hcm hk hn hn2 hc
  · exact line_84 b off cap zs k n c arg op w hl hb hcap hcm hk hn hn2 hc
end Go.Proofs.Ytpgjaoemkadenab.Seek
