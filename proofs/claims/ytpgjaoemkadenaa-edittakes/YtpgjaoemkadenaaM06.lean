/- Texts of one claim, one behind the other: GoGo, Leads, Opn, Things. -/
import Derived.Test.YtpgjaoemkadenaaM05
import Derived.Test.YtpgjaoemkadenaaM02
import Derived.Laws.IdiomStrings
import Derived.BigQuiet
import Derived.Test.YtpgjaoemkadenaaM01
/- The contracts of motion.Go and motion.Range. -/
set_option linter.unusedVariables false
set_option linter.unusedSimpArgs false
set_option maxRecDepth 100000
namespace Go.Proofs.Ytpgjaoemkadenaa.Plain
theorem mchk_zero {n : Nat} {k c key : Int} (h : mchk n k c key = 0) : n ≤ 4096 ∧ (∃ j : Nat, k = (j : Int) ∧ j ≤ n - 1) ∧ 0 ≤ c ∧ c ≤ 999 ∧ isk key = true := by
  unfold mchk at h
  by_cases h1 : 4096 < n
  · rw [if_pos h1] at h
    exact absurd h (by decide)
  · rw [if_neg h1] at h
    by_cases h2 : k < 0 ∨ max ((n : Int) - 1) 0 < k ∨ c < 0 ∨ 999 < c
    · rw [if_pos h2] at h
      exact absurd h (by decide)
    · rw [if_neg h2] at h
      by_cases h3 : isk key = true
      · exact ⟨by omega, ⟨k.toNat, by omega, by omega⟩, by omega, by omega, h3⟩
      · rw [if_neg h3] at h
        exact absurd h (by decide)
theorem mchk_right {n j : Nat} {c key : Int} (h1 : n ≤ 4096) (h2 : j ≤ n - 1) (h3 : 0 ≤ c) (h4 : c ≤ 999) (h5 : isk key = true) : mchk n (j : Int) c key = 0 := by
  unfold mchk
  rw [if_neg (by omega), if_neg (by omega), if_pos h5]
theorem times_is {c : Int} : max c 1 = (times c : Int) := by
  unfold times
  omega
theorem goes_bad {zs : List Int} {k c key arg : Int} {op : Bool} (h : mchk zs.length k c key ≠ 0) : goes zs k c key arg op = (0, false, mchk zs.length k c key) := if_neg h
theorem goes_good {zs : List Int} {j : Nat} {c key arg : Int} {op : Bool} (h : mchk zs.length (j : Int) c key = 0) :
    goes zs (j : Int) c key arg op = if (lead zs j (times c) key arg op).2 = true then ((lead zs j (times c) key arg op).1, wth key, 0) else (0, false, 5) := if_pos h
end Go.Proofs.Ytpgjaoemkadenaa.Plain
namespace Go.Proofs.Ytpgjaoemkadenaa.Seek
open Go.RowKit Plain

/-- What Go tells. -/
def GoPost (r : Int × Bool × Int) (w : World) (e : Ending) (w' : World) : Prop := e = .returned (.tuple #[.int .i64 r.1, .bool r.2.1, .int .i64 r.2.2]) ∧ Below w.heap.size w w'
theorem GoPost.mk {r : Int × Bool × Int} {x z : Int} {y : Bool} {w w' : World} (h : r = (x, y, z)) (hb : Below w.heap.size w w') : GoPost r w (.returned (.tuple #[.int .i64 x, .bool y, .int .i64 z])) w' :=
  ⟨by rw [h], hb⟩

theorem box_key (w : World) (x y z : Value) : (w.alloc (.cells #[x, y, z] 90)).cell? ⟨w.heap.size, 0, none⟩ = some x := by
  unfold World.cell?
  simp only
  rw [show ∀ o, (w.alloc o).heap[w.heap.size]? = some o from fun o => by show (w.heap.push o)[w.heap.size]? = _; simp [Array.getElem?_push]]
  rfl

set_option maxHeartbeats 1000000 in
theorem go_go (v : Value) (zs : List Int) (k c key arg : Int) (op : Bool) (w : World) (hp : Reads w v zs) :
    Calls Try.prog 52 #[v, .int .i64 k, .agg #[.int .i64 key, .int .i64 c, .int .i64 arg], .bool op] w fun e w' => GoPost (goes zs k c key arg op) w e w' := by
  obtain ⟨a, cap, rfl⟩ := hp.shape
  obtain ⟨r, hr⟩ : ∃ r, r = goes zs k c key arg op := ⟨_, rfl⟩
  rw [← hr]
  obtain ⟨q, hq⟩ : ∃ q, q = mchk zs.length k c key := ⟨_, rfl⟩
  have HK : Hid (Calls Try.prog 63 #[.slice a zs.length cap, .int .i64 k, .agg #[.int .i64 key, .int .i64 c, .int .i64 arg]] (w.alloc (.cells #[.int .i64 key, .int .i64 c, .int .i64 arg] 90)) fun e w' =>
      e = .returned (.int .i64 q) ∧ Below (w.alloc (.cells #[.int .i64 key, .int .i64 c, .int .i64 arg] 90)).heap.size (w.alloc (.cells #[.int .i64 key, .int .i64 c, .int .i64 arg] 90)) w') := by
    rw [hq]
    exact mcheck_go a zs.length cap k c key arg _
  by_cases h0 : q = 0
  · have hm : mchk zs.length k c key = 0 := hq.symm.trans h0
    obtain ⟨hl, ⟨j, rfl, hj⟩, hc0, hc9, hkey⟩ := mchk_zero hm
    have Hg : Hid (r = if (lead zs j (times c) key arg op).2 = true then ((lead zs j (times c) key arg op).1, wth key, 0) else (0, false, 5)) := hr.trans (goes_good hm)
    have HL : Hid (∀ w1, Below w.heap.size w w1 → Calls Try.prog 64 #[.slice a zs.length cap, .int .i64 (j : Int), .agg #[.int .i64 key, .int .i64 c, .int .i64 arg], .bool op] w1 fun e w' => LeadPost (lead zs j (times c) key arg op) w1 e w') :=
      fun w1 hb => lead_go _ zs j (times c) key c arg op w1 (hp.below hb) hl hj hc0 hc9 times_is hkey
    subst h0
    clear hr hq hm hp
    go_enter Try.func52, Try.ntmps52
    go_wp2_with fail
    refine HK.out.mono ?_
    rintro e w1 ⟨rfl, hb1⟩
    have hB1 : Below w.heap.size w w1 := below_trans (mbox24 _ _) hb1 (by rw [size_alloc]; omega)
    have hcell : ∀ i (x : Value), (w.alloc (.cells #[.int .i64 key, .int .i64 c, .int .i64 arg] 90)).cell? ⟨w.heap.size, i, none⟩ = some x → w1.cell? ⟨w.heap.size, i, none⟩ = some x := fun i x h => (hb1.cell (by rw [size_alloc]; exact Nat.lt_succ_self _)).trans h
    clear HK
    go_wp2_with fail
    refine (HL.out w1 hB1).mono ?_
    obtain ⟨L, hL⟩ : ∃ L, L = lead zs j (times c) key arg op := ⟨_, rfl⟩
    rw [← hL]
    have Hg2 : Hid (r = if L.2 = true then (L.1, wth key, 0) else (0, false, 5)) := by rw [hL]; exact Hg.out
    clear Hg HL hL
    rintro e w2 ⟨rfl, hb2⟩
    have HB : Hid (Below w.heap.size w w2) := below_trans hB1 hb2 hB1.size
    have hck : w2.cell? ⟨w.heap.size, 0, none⟩ = some (.int .i64 key) := (hb2.cell (Nat.lt_of_lt_of_le (by rw [size_alloc]; exact Nat.lt_succ_self _) hb1.size)).trans (hcell 0 _ (box_key _ _ _ _))
    clear hb2 hb1 hcell
    obtain ⟨x, y⟩ := L
    cases y with
    | true =>
      have Hg3 : Hid (r = (x, wth key, 0)) := Hg2.out
      clear Hg2
      go_wp2_with fail
      refine (takesWith_go key w2).mono ?_
      rintro e w3 ⟨rfl, hw3⟩
      rw [hw3]
      clear hw3 w3
      go_wp2_with fail
      go_ret3
      exact GoPost.mk Hg3.out HB.out
    | false =>
      have Hg3 : Hid (r = (0, false, 5)) := Hg2.out
      clear Hg2
      go_wp2_with fail
      go_ret3
      exact GoPost.mk Hg3.out HB.out
  · have hgb : r = (0, false, q) := by rw [hr, hq]; exact goes_bad (by rw [← hq]; exact h0)
    have Hg : Hid (r = (0, false, q)) := hgb
    have hqb : (q != 0) = true := by simpa using h0
    clear hr hq h0 hgb hp
    go_enter Try.func52, Try.ntmps52
    go_wp2_with fail
    refine HK.out.mono ?_
    rintro e w1 ⟨rfl, hb1⟩
    have HB : Hid (Below w.heap.size w w1) := below_trans (mbox24 _ _) hb1 (by rw [size_alloc]; omega)
    clear HK hb1
    go_wp2_with fail
    go_ret3
    exact GoPost.mk Hg.out HB.out

/-- What Range tells. -/
def RangePost (r : Int × Int × Int) (w : World) (e : Ending) (w' : World) : Prop := e = .returned (.tuple #[.int .i64 r.1, .int .i64 r.2.1, .int .i64 r.2.2]) ∧ Below w.heap.size w w'
theorem RangePost.mk {r : Int × Int × Int} {x y z : Int} {w w' : World} (h1 : r.1 = x) (h2 : r.2.1 = y) (h3 : r.2.2 = z) (hb : Below w.heap.size w w') : RangePost r w (.returned (.tuple #[.int .i64 x, .int .i64 y, .int .i64 z])) w' :=
  ⟨by rw [h1, h2, h3], hb⟩

set_option maxHeartbeats 1000000 in
theorem range_go (v : Value) (zs : List Int) (k c key arg : Int) (w : World) (hp : Reads w v zs) (hin : ∀ x y, goes zs k c key arg true = (x, y, 0) → 0 ≤ k ∧ k ≤ 4096 ∧ 0 ≤ x ∧ x ≤ 4096) :
    Calls Try.prog 57 #[v, .int .i64 k, .agg #[.int .i64 key, .int .i64 c, .int .i64 arg]] w fun e w' => RangePost (ranges zs k c key arg) w e w' := by
  obtain ⟨a, cap, rfl⟩ := hp.shape
  obtain ⟨r, hr⟩ : ∃ r, r = ranges zs k c key arg := ⟨_, rfl⟩
  rw [← hr]
  obtain ⟨G, hG⟩ : ∃ G, G = goes zs k c key arg true := ⟨_, rfl⟩
  have hrG : r = if G.2.2 = 0 then (min k G.1, if G.2.1 = true then max k G.1 + 1 else max k G.1, 0) else (0, 0, G.2.2) := by rw [hr, hG]; rfl
  rw [← hG] at hin
  have HK : Hid (Calls Try.prog 52 #[.slice a zs.length cap, .int .i64 k, .agg #[.int .i64 key, .int .i64 c, .int .i64 arg], .bool true] (w.alloc (.cells #[.int .i64 key, .int .i64 c, .int .i64 arg] 90)) fun e w' =>
      GoPost G (w.alloc (.cells #[.int .i64 key, .int .i64 c, .int .i64 arg] 90)) e w') := by
    rw [hG]
    exact go_go _ zs k c key arg true _ (hp.below (mbox24 _ _))
  clear hr hG hp
  obtain ⟨x, y, z⟩ := G
  by_cases h0 : z = 0
  · subst h0
    obtain ⟨hk1, hk2, hx1, hx2⟩ := hin x y rfl
    clear hin
    cases y with
    | true =>
      have H1 : Hid (r.1 = min k x) := by rw [hrG]; rfl
      have H2 : Hid (r.2.1 = max k x + 1) := by rw [hrG]; rfl
      have H3 : Hid (r.2.2 = 0) := by rw [hrG]; rfl
      clear hrG
      go_enter Try.func57, Try.ntmps57
      go_wp2_with fail
      refine HK.out.mono ?_
      rintro e w1 ⟨rfl, hb1⟩
      have HB : Hid (Below w.heap.size w w1) := below_trans (mbox24 _ _) hb1 (by rw [size_alloc]; omega)
      clear HK hb1
      go_wp2_with fail
      all_goals (
        go_ret3
        refine RangePost.mk (H1.out.trans ?_) (H2.out.trans ?_) H3.out HB.out
        · omega
        · omega)
    | false =>
      have H1 : Hid (r.1 = min k x) := by rw [hrG]; rfl
      have H2 : Hid (r.2.1 = max k x) := by rw [hrG]; rfl
      have H3 : Hid (r.2.2 = 0) := by rw [hrG]; rfl
      clear hrG
      go_enter Try.func57, Try.ntmps57
      go_wp2_with fail
      refine HK.out.mono ?_
      rintro e w1 ⟨rfl, hb1⟩
      have HB : Hid (Below w.heap.size w w1) := below_trans (mbox24 _ _) hb1 (by rw [size_alloc]; omega)
      clear HK hb1
      go_wp2_with fail
      all_goals (
        go_ret3
        refine RangePost.mk (H1.out.trans ?_) (H2.out.trans ?_) H3.out HB.out
        · omega
        · omega)
  · have hzb : (z != 0) = true := by simpa using h0
    have hr2 : r = (0, 0, z) := by rw [hrG]; exact if_neg h0
    have H1 : Hid (r.1 = 0) := by rw [hr2]; rfl
    have H2 : Hid (r.2.1 = 0) := by rw [hr2]; rfl
    have H3 : Hid (r.2.2 = z) := by rw [hr2]; rfl
    clear hrG hr2 h0 hin
    go_enter Try.func57, Try.ntmps57
    go_wp2_with fail
    refine HK.out.mono ?_
    rintro e w1 ⟨rfl, hb1⟩
    have HB : Hid (Below w.heap.size w w1) := below_trans (mbox24 _ _) hb1 (by rw [size_alloc]; omega)
    clear HK hb1
    go_wp2_with fail
    go_ret3
    exact RangePost.mk H1.out H2.out H3.out HB.out
end Go.Proofs.Ytpgjaoemkadenaa.Seek

/- Plain mathematics: wherever a motion leads, it is in the line; so many times is as often once; to a partner and back. -/
set_option linter.unusedVariables false
set_option linter.unusedSimpArgs false
set_option maxRecDepth 100000
namespace Go.Proofs.Ytpgjaoemkadenaa.Plain
open Seek
theorem iter_keeps {P : Int → Prop} {f : Int → Int} (h : ∀ x, P x → P (f x)) {k : Int} (hk : P k) : ∀ n, P (iter f n k)
  | 0 => hk
  | n + 1 => h _ (iter_keeps h hk n)
theorem up_in (p : Nat → Bool) (d : Int) (n i : Nat) (hd : 0 ≤ d) (hd2 : d ≤ n) : 0 ≤ up p d n i ∧ up p d n i ≤ (n : Int) ∧ (up p d n i = d ∨ ((i : Int) ≤ up p d n i ∧ up p d n i < (n : Int))) := by
  rcases up_spec p d n i with ⟨j, hj, h1, h2, _⟩ | ⟨hj, _⟩
  · rw [hj]
    exact ⟨by omega, by omega, .inr ⟨by omega, by omega⟩⟩
  · rw [hj]
    exact ⟨hd, hd2, .inl rfl⟩
theorem next_in {zs : List Int} {x : Int} {b : Bool} (hl : zs.length ≤ 4096) (h0 : 0 ≤ x) (h1 : x ≤ (zs.length : Int)) :
    0 ≤ next zs x b ∧ next zs x b ≤ (zs.length : Int) ∧ (x < (zs.length : Int) → x < next zs x b) := by
  have hc : chk zs.length x = 0 := by
    have := chk_right hl (show x.toNat ≤ zs.length by omega)
    rwa [show ((x.toNat : Nat) : Int) = x by omega] at this
  have hn : next zs x b = up (bgn zs b) zs.length zs.length (x.toNat + 1) := by unfold next; rw [if_pos hc]
  rw [hn]
  obtain ⟨h2, h3, h4⟩ := up_in (bgn zs b) (zs.length : Int) zs.length (x.toNat + 1) (by omega) (by omega)
  exact ⟨h2, h3, fun hx => by rcases h4 with h4 | ⟨h4, _⟩ <;> omega⟩
theorem last_in {zs : List Int} {x : Int} {b : Bool} (hl : zs.length ≤ 4096) (hne : 0 < zs.length) (h0 : 0 ≤ x) (h1 : x ≤ (zs.length : Int)) :
    0 ≤ last zs x b ∧ last zs x b ≤ (zs.length : Int) - 1 := by
  have hc : chk zs.length x = 0 := by
    have := chk_right hl (show x.toNat ≤ zs.length by omega)
    rwa [show ((x.toNat : Nat) : Int) = x by omega] at this
  have hn : last zs x b = up (fin zs b) ((zs.length - 1 : Nat) : Int) zs.length (x.toNat + 1) := by unfold last; rw [if_pos hc]
  rw [hn]
  obtain ⟨h2, h3, h4⟩ := up_in (fin zs b) ((zs.length - 1 : Nat) : Int) zs.length (x.toNat + 1) (by omega) (by omega)
  exact ⟨h2, by rcases h4 with h4 | ⟨h4, _⟩ <;> omega⟩
theorem down_le (p : Nat → Bool) (i : Nat) : down p i ≤ i ∧ (0 < i → down p i < i) := by
  rcases down_spec p i with ⟨h1, _⟩ | ⟨h1, _⟩ <;> exact ⟨by omega, fun _ => by omega⟩
theorem back_in {zs : List Int} {x : Int} {b : Bool} (hl : zs.length ≤ 4096) (h0 : 0 ≤ x) (h1 : x ≤ (zs.length : Int)) :
    0 ≤ back zs x b ∧ back zs x b ≤ x := by
  have hc : chk zs.length x = 0 := by
    have := chk_right hl (show x.toNat ≤ zs.length by omega)
    rwa [show ((x.toNat : Nat) : Int) = x by omega] at this
  have hn : back zs x b = (down (bgn zs b) x.toNat : Int) := by unfold back; rw [if_pos hc]
  rw [hn]
  have := (down_le (bgn zs b) x.toNat).1
  exact ⟨by omega, by omega⟩
/-- What a partner is. -/
theorem par_back {zs : List Int} {i : Nat} (hi : i < zs.length) (h : 0 ≤ par (fn zs) zs.length i) :
    ∃ j, j < zs.length ∧ par (fn zs) zs.length i = (j : Int) ∧ par (fn zs) zs.length j = (i : Int) ∧ brk (fn zs j) = fn zs i ∧ brk (fn zs j) ≠ 0 := by
  rcases (holds (fn zs) zs.length).told i hi with h1 | ⟨j, h1, h2, h3, h4, h5⟩
  · omega
  · have hb : brk (fn zs j) = fn zs i := by
      rcases (holds (fn zs) zs.length).told j h1 with g1 | ⟨i', g1, g2, g3, g4, g5⟩
      · rw [h3] at g1
        omega
      · rw [h3] at g2
        have : i = i' := by omega
        rw [g4, this]
    refine ⟨j, h1, h2, h3, hb, ?_⟩
    rcases h5 with ⟨_, h6, _⟩ | ⟨_, h6, _⟩
    · rcases opens_cases h6 with h | h | h <;> rw [h] <;> decide
    · rcases shuts_cases h6 with h | h | h <;> rw [h] <;> decide
theorem mate_in {zs : List Int} {k : Nat} (h : (mate zs k).2 = true) : ∃ i j : Nat, k ≤ i ∧ i < zs.length ∧ j < zs.length ∧ (mate zs k).1 = (j : Int) ∧ par (fn zs) zs.length j = (i : Int) ∧ brk (fn zs j) = fn zs i ∧ brk (fn zs j) ≠ 0 ∧ (∀ x, k ≤ x → x < i → brk (zs.getD x 0) = 0) := by
  rcases up_spec (fun i => brk (zs.getD i 0) != 0) (-1) zs.length k with ⟨i, hi, h1, h2, h3, h4⟩ | ⟨hi, _⟩
  · rw [mate_at hi] at h ⊢
    obtain ⟨j, g1, g2, g3, g4, g5⟩ := par_back h2 (of_decide_eq_true h)
    exact ⟨i, j, h1, h2, g1, g2, g3, g4, g5, fun x hx hxi => by simpa using h4 x hx hxi⟩
  · rw [mate_none hi] at h
    cases h
theorem mate_of {zs : List Int} {i j : Nat} (h : i < zs.length) (hb : brk (fn zs i) ≠ 0) (hp : par (fn zs) zs.length i = (j : Int)) : mate zs i = ((j : Int), true) := by
  have hb' : (fun i => brk (zs.getD i 0) != 0) i = true := by
    show (brk (fn zs i) != 0) = true
    simpa using hb
  rw [mate_at (up_hit h hb'), hp]
  exact congrArg (fun b => ((j : Int), b)) (decide_eq_true (by omega))

theorem solid_in {zs : List Int} : 0 ≤ solid zs ∧ solid zs ≤ max ((zs.length : Int) - 1) 0 := by
  unfold solid
  rcases up_spec (fun i => knd zs false i != 0) (max ((zs.length : Int) - 1) 0) zs.length 0 with ⟨j, hj, h1, h2, _⟩ | ⟨hj, _⟩ <;> rw [hj] <;> exact ⟨by omega, by omega⟩
theorem told_some {o : Option Nat} (h : (told o).2 = true) : ∃ j, o = some j ∧ told o = ((j : Int), true) := by
  cases o with
  | none => cases h
  | some j => exact ⟨j, rfl, rfl⟩
theorem right_in {zs : List Int} {k n : Nat} {c : Int} (h : (rightHit zs k n c).2 = true) : ∃ j : Nat, (rightHit zs k n c).1 = (j : Int) ∧ k < j ∧ j < zs.length := by
  obtain ⟨j, h1, h2⟩ := told_some h
  have := goUp_lt _ _ _ _ _ h1
  exact ⟨j, by unfold rightHit; rw [h2], by omega, by omega⟩
theorem left_in {zs : List Int} {k n : Nat} {c : Int} (h : (leftHit zs k n c).2 = true) : ∃ j : Nat, (leftHit zs k n c).1 = (j : Int) ∧ j < k := by
  obtain ⟨j, h1, h2⟩ := told_some h
  have := goDn_lt _ _ _ _ h1
  exact ⟨j, by unfold leftHit; rw [h2], by omega⟩

theorem in_of {x y len : Int} {op t : Bool} (h : y = x) (h0 : 0 ≤ x) (h1 : x ≤ len) (h2 : op = false → x ≤ max (len - 1) 0) (h3 : t = true → x ≤ len - 1) :
    0 ≤ y ∧ y ≤ len ∧ (op = false → y ≤ max (len - 1) 0) ∧ (t = true → y ≤ len - 1) := by
  subst h
  exact ⟨h0, h1, h2, h3⟩
theorem lead_line {zs : List Int} {k n : Nat} {key arg : Int} {op : Bool} (hz : zs.length ≠ 0) (hkey : key = 36 ∨ key = 124 ∨ key = 119 ∨ key = 87 ∨ key = 101 ∨ key = 69 ∨ key = 37 ∨ key = 102 ∨ key = 116 ∨ key = 70 ∨ key = 84) :
    lead zs k n key arg op = lineLead zs k n key arg op := by
  unfold lead
  rw [if_neg (by omega), if_neg (by omega), if_neg (by omega), if_neg (by omega), if_neg (by omega), if_neg hz]
theorem lead_none {zs : List Int} {k n : Nat} {key arg : Int} {op : Bool} (hz : zs.length = 0) (hkey : key = 36 ∨ key = 124 ∨ key = 119 ∨ key = 87 ∨ key = 101 ∨ key = 69 ∨ key = 37 ∨ key = 102 ∨ key = 116 ∨ key = 70 ∨ key = 84) :
    lead zs k n key arg op = (0, false) := by
  unfold lead
  rw [if_neg (by omega), if_neg (by omega), if_neg (by omega), if_neg (by omega), if_neg (by omega), if_pos hz]
theorem back_iter {zs : List Int} {k : Nat} (b : Bool) (hl : zs.length ≤ 4096) (hk : k ≤ zs.length) (n : Nat) : 0 ≤ iter (fun x => back zs x b) n k ∧ iter (fun x => back zs x b) n k ≤ (k : Int) :=
  iter_keeps (P := fun x => 0 ≤ x ∧ x ≤ (k : Int)) (fun x hx => by have := back_in (b := b) hl hx.1 (by omega); exact ⟨this.1, by omega⟩) ⟨by omega, by omega⟩ n
theorem next_iter {zs : List Int} {k : Nat} (b : Bool) (hl : zs.length ≤ 4096) (hk : k ≤ zs.length) (n : Nat) : 0 ≤ iter (fun x => next zs x b) n k ∧ iter (fun x => next zs x b) n k ≤ (zs.length : Int) :=
  iter_keeps (P := fun x => 0 ≤ x ∧ x ≤ (zs.length : Int)) (fun x hx => by have := next_in (b := b) hl hx.1 hx.2; exact ⟨this.1, this.2.1⟩) ⟨by omega, by omega⟩ n
theorem last_iter {zs : List Int} {k : Nat} (b : Bool) (hl : zs.length ≤ 4096) (hk : k < zs.length) (n : Nat) : 0 ≤ iter (fun x => last zs x b) n k ∧ iter (fun x => last zs x b) n k ≤ (zs.length : Int) - 1 :=
  iter_keeps (P := fun x => 0 ≤ x ∧ x ≤ (zs.length : Int) - 1) (fun x hx => last_in (b := b) hl (by omega) hx.1 (by omega)) ⟨by omega, by omega⟩ n

/-- Wherever a motion leads. -/
theorem lead_in {zs : List Int} {k n : Nat} {key arg : Int} {op : Bool} (hl : zs.length ≤ 4096) (hk : k ≤ zs.length - 1) (hn : 1 ≤ n) (hkey : isk key = true) (h : (lead zs k n key arg op).2 = true) :
    0 ≤ (lead zs k n key arg op).1 ∧ (lead zs k n key arg op).1 ≤ (zs.length : Int) ∧ (op = false → (lead zs k n key arg op).1 ≤ max ((zs.length : Int) - 1) 0) ∧ (wth key = true → (lead zs k n key arg op).1 ≤ (zs.length : Int) - 1) := by
  unfold isk at hkey
  rcases of_decide_eq_true hkey with rfl | rfl | rfl | rfl | rfl | rfl | hline
  · exact in_of (x := max ((k : Int) - n) 0) rfl (by omega) (by omega) (fun _ => by omega) (fun h => by cases h)
  · have h2 : (decide ((k : Int) < endOf zs op)) = true := h
    have h3 := of_decide_eq_true h2
    have h4 : endOf zs op ≤ (zs.length : Int) := by unfold endOf; split <;> omega
    have h5 : op = false → endOf zs op = (zs.length : Int) - 1 := fun hop => by subst hop; rfl
    exact in_of (x := min ((k : Int) + n) (endOf zs op)) rfl (by omega) (by omega) (fun hop => by have := h5 hop; omega) (fun h => by cases h)
  · exact in_of (x := 0) rfl (by omega) (by omega) (fun _ => by omega) (fun h => by cases h)
  · have hs := @solid_in zs
    by_cases hz : zs.length = 0
    · exact in_of (x := solid zs) rfl hs.1 (by omega) (fun _ => hs.2) (fun h => by cases h)
    · exact in_of (x := solid zs) rfl hs.1 (by omega) (fun _ => hs.2) (fun h => by cases h)
  · have hi := back_iter (zs := zs) (k := k) false hl (by omega) n
    exact in_of (x := iter (fun x => back zs x false) n k) rfl hi.1 (by omega) (fun _ => by omega) (fun h => by cases h)
  · have hi := back_iter (zs := zs) (k := k) true hl (by omega) n
    exact in_of (x := iter (fun x => back zs x true) n k) rfl hi.1 (by omega) (fun _ => by omega) (fun h => by cases h)
  · by_cases hz : zs.length = 0
    · rw [lead_none hz hline] at h
      cases h
    · rw [lead_line hz hline] at h ⊢
      have hk' : k < zs.length := by omega
      rcases hline with rfl | rfl | rfl | rfl | rfl | rfl | rfl | rfl | rfl | rfl | rfl
      · exact in_of (x := (zs.length : Int) - 1) rfl (by omega) (by omega) (fun _ => by omega) (fun _ => by omega)
      · exact in_of (x := min ((n : Int) - 1) ((zs.length : Int) - 1)) rfl (by omega) (by omega) (fun _ => by omega) (fun _ => by omega)
      · have hi := next_iter (zs := zs) (k := k) false hl (by omega) n
        cases op
        · exact in_of (x := min (iter (fun x => next zs x false) n k) ((zs.length : Int) - 1)) rfl (by omega) (by omega) (fun _ => by omega) (fun h => by cases h)
        · exact in_of (x := iter (fun x => next zs x false) n k) rfl (by omega) (by omega) (fun h => by cases h) (fun h => by cases h)
      · have hi := next_iter (zs := zs) (k := k) true hl (by omega) n
        cases op
        · exact in_of (x := min (iter (fun x => next zs x true) n k) ((zs.length : Int) - 1)) rfl (by omega) (by omega) (fun _ => by omega) (fun h => by cases h)
        · exact in_of (x := iter (fun x => next zs x true) n k) rfl (by omega) (by omega) (fun h => by cases h) (fun h => by cases h)
      · have hi := last_iter (zs := zs) (k := k) false hl hk' n
        exact in_of (x := iter (fun x => last zs x false) n k) rfl (by omega) (by omega) (fun _ => by omega) (fun _ => by omega)
      · have hi := last_iter (zs := zs) (k := k) true hl hk' n
        exact in_of (x := iter (fun x => last zs x true) n k) rfl (by omega) (by omega) (fun _ => by omega) (fun _ => by omega)
      · obtain ⟨i, j, _, _, h1, h2, _⟩ := mate_in (zs := zs) (k := k) h
        exact in_of (x := (j : Int)) h2 (by omega) (by omega) (fun _ => by omega) (fun _ => by omega)
      · obtain ⟨j, h1, h2, h3⟩ := right_in (zs := zs) (k := k) (n := n) (c := arg) h
        exact in_of (x := (j : Int)) h1 (by omega) (by omega) (fun _ => by omega) (fun _ => by omega)
      · obtain ⟨j, h1, h2, h3⟩ := right_in (zs := zs) (k := k) (n := n) (c := arg) h
        exact in_of (x := (j : Int) - 1) (congrArg (fun x => x - 1) h1) (by omega) (by omega) (fun _ => by omega) (fun _ => by omega)
      · obtain ⟨j, h1, h2⟩ := left_in (zs := zs) (k := k) (n := n) (c := arg) h
        exact in_of (x := (j : Int)) h1 (by omega) (by omega) (fun _ => by omega) (fun _ => by omega)
      · obtain ⟨j, h1, h2⟩ := left_in (zs := zs) (k := k) (n := n) (c := arg) h
        exact in_of (x := (j : Int) + 1) (congrArg (fun x => x + 1) h1) (by omega) (by omega) (fun _ => by omega) (fun _ => by omega)
/-- What Go tells is in the line. -/
theorem goes_in {zs : List Int} {k c key arg : Int} {op : Bool} {x : Int} {y : Bool} (h : goes zs k c key arg op = (x, y, 0)) :
    0 ≤ k ∧ k ≤ max ((zs.length : Int) - 1) 0 ∧ zs.length ≤ 4096 ∧ 0 ≤ x ∧ x ≤ (zs.length : Int) ∧ (op = false → x ≤ max ((zs.length : Int) - 1) 0) ∧ (y = true → x ≤ (zs.length : Int) - 1) := by
  by_cases hm : mchk zs.length k c key = 0
  · obtain ⟨hl, ⟨j, rfl, hj⟩, hc0, hc9, hkey⟩ := mchk_zero hm
    rw [goes_good hm] at h
    by_cases h2 : (lead zs j (times c) key arg op).2 = true
    · rw [if_pos h2] at h
      have hn : 1 ≤ times c := by unfold times; omega
      obtain ⟨g1, g2, g3, g4⟩ := lead_in hl hj hn hkey h2
      cases h
      exact ⟨by omega, by omega, hl, g1, g2, g3, g4⟩
    · rw [if_neg h2] at h
      cases h
  · rw [goes_bad hm] at h
    exact absurd (congrArg (fun q => q.2.2) h) hm
theorem goes_in2 {zs : List Int} {k c key arg : Int} {op : Bool} {x : Int} {y : Bool} (h : goes zs k c key arg op = (x, y, 0)) : 0 ≤ k ∧ k ≤ 4096 ∧ 0 ≤ x ∧ x ≤ 4096 := by
  obtain ⟨h1, h2, h3, h4, h5, _⟩ := goes_in h
  exact ⟨h1, by omega, h4, by omega⟩
/-- What Range tells touches the place. -/
theorem ranges_in (zs : List Int) (k c key arg : Int) :
    ((ranges zs k c key arg).2.2 ≠ 0 ∧ (ranges zs k c key arg).1 = 0 ∧ (ranges zs k c key arg).2.1 = 0) ∨
    ((ranges zs k c key arg).2.2 = 0 ∧ 0 ≤ (ranges zs k c key arg).1 ∧ (ranges zs k c key arg).1 ≤ k ∧ k ≤ (ranges zs k c key arg).2.1 ∧ (ranges zs k c key arg).2.1 ≤ (zs.length : Int)) := by
  obtain ⟨G, hG⟩ : ∃ G, G = goes zs k c key arg true := ⟨_, rfl⟩
  unfold ranges
  rw [← hG]
  obtain ⟨x, y, z⟩ := G
  by_cases h0 : z = 0
  · right
    subst h0
    obtain ⟨h1, h2, h3, h4, h5, h6, h7⟩ := goes_in hG.symm
    rw [if_pos rfl]
    refine ⟨rfl, ?_, ?_, ?_, ?_⟩
    · show 0 ≤ min k x
      omega
    · show min k x ≤ k
      omega
    · show k ≤ if y = true then max k x + 1 else max k x
      split <;> omega
    · show (if y = true then max k x + 1 else max k x) ≤ _
      split
      · rename_i hy
        have := h7 hy
        omega
      · by_cases hz : zs.length = 0
        · omega
        · omega
  · left
    rw [if_neg h0]
    exact ⟨h0, rfl, rfl⟩
end Go.Proofs.Ytpgjaoemkadenaa.Plain

/- The contract of the document's bracket. -/
set_option linter.unusedVariables false
set_option linter.unusedSimpArgs false
set_option maxRecDepth 100000
namespace Go.Proofs.Ytpgjaoemkadenaa.Plain
/-- The bracket of its brk that opens, and the one that closes. -/
def opn (c : Int) : Int := if opens c = true then c else if shuts c = true then brk c else 0
def sht (c : Int) : Int := if opens c = true then brk c else if shuts c = true then c else 0
theorem opn_open {c : Int} (h : opens c = true) : opn c = c ∧ sht c = brk c := by
  unfold opn sht
  rw [if_pos h, if_pos h]
  exact ⟨rfl, rfl⟩
theorem opn_shut {c : Int} (h : shuts c = true) : opn c = brk c ∧ sht c = c := by
  have h2 : opens c = false := by
    rcases sort c with h4 | h4 | h4
    · rw [h4.2.1] at h; cases h
    · exact h4.1
    · exact h4.1
  unfold opn sht
  rw [h2, if_neg (by decide), if_pos h, if_neg (by decide), if_pos h]
  exact ⟨rfl, rfl⟩
theorem opn_other {c : Int} (h1 : opens c = false) (h2 : shuts c = false) : opn c = 0 ∧ sht c = 0 := by
  unfold opn sht
  rw [h1, h2]
  exact ⟨rfl, rfl⟩
end Go.Proofs.Ytpgjaoemkadenaa.Plain
namespace Go.Proofs.Ytpgjaoemkadenaa.Seek
open Go.RowKit Plain

end Go.Proofs.Ytpgjaoemkadenaa.Seek

/- Things around a place, in plain mathematics. -/
set_option linter.unusedVariables false
set_option linter.unusedSimpArgs false
set_option maxRecDepth 100000
namespace Go.Proofs.Ytpgjaoemkadenaa.Plain
open Seek
/-- Down from i as long as p holds of the place ahead. -/
def lo (p : Nat → Bool) : Nat → Nat
  | 0 => 0
  | i + 1 => if p i = true then lo p i else i + 1
def hiF (p : Nat → Bool) : Nat → Nat → Nat
  | 0, i => i
  | n + 1, i => if p i = true then hiF p n (i + 1) else i
/-- Up from i, below n, as long as p holds. -/
def hi (p : Nat → Bool) (n i : Nat) : Nat := hiF p (n - i) i
theorem lo_hit {p : Nat → Bool} {i : Nat} (h : p i = true) : lo p (i + 1) = lo p i := if_pos h
theorem lo_miss {p : Nat → Bool} {i : Nat} (h : p i = false) : lo p (i + 1) = i + 1 := if_neg (by rw [h]; decide)
theorem hi_hit {p : Nat → Bool} {n i : Nat} (hin : i < n) (h : p i = true) : hi p n i = hi p n (i + 1) := by
  unfold hi
  rw [show n - i = (n - (i + 1)) + 1 by omega]
  exact if_pos h
theorem hi_miss {p : Nat → Bool} {n i : Nat} (hin : i < n) (h : p i = false) : hi p n i = i := by
  unfold hi
  rw [show n - i = (n - (i + 1)) + 1 by omega]
  exact if_neg (by rw [h]; decide)
theorem hi_done {p : Nat → Bool} {n i : Nat} (h : n ≤ i) : hi p n i = i := by
  unfold hi
  rw [show n - i = 0 by omega]
  rfl
theorem lo_spec (p : Nat → Bool) : ∀ i, lo p i ≤ i ∧ ∀ x, lo p i ≤ x → x < i → p x = true
  | 0 => ⟨Nat.le_refl _, fun x _ h => absurd h (by omega)⟩
  | i + 1 => by
    obtain ⟨h1, h2⟩ := lo_spec p i
    by_cases h : p i = true
    · rw [lo_hit h]
      refine ⟨by omega, fun x hx hxi => ?_⟩
      by_cases hx2 : x = i
      · rw [hx2]; exact h
      · exact h2 x hx (by omega)
    · rw [lo_miss (by simpa using h)]
      exact ⟨Nat.le_refl _, fun x hx hxi => absurd hx (by omega)⟩
theorem hiF_spec (p : Nat → Bool) : ∀ n i, i ≤ hiF p n i ∧ hiF p n i ≤ i + n ∧ ∀ x, i ≤ x → x < hiF p n i → p x = true
  | 0, i => ⟨Nat.le_refl _, Nat.le_refl _, fun x h1 h2 => by
      have h3 : x < i := h2
      omega⟩
  | n + 1, i => by
    obtain ⟨h1, h2, h3⟩ := hiF_spec p n (i + 1)
    by_cases h : p i = true
    · rw [show hiF p (n + 1) i = hiF p n (i + 1) from if_pos h]
      refine ⟨by omega, by omega, fun x hx hxi => ?_⟩
      by_cases hx2 : x = i
      · rw [hx2]; exact h
      · exact h3 x (by omega) hxi
    · rw [show hiF p (n + 1) i = i from if_neg h]
      exact ⟨Nat.le_refl _, by omega, fun x hx hxi => absurd hx (by omega)⟩
theorem hi_spec (p : Nat → Bool) (n i : Nat) (h : i ≤ n) : i ≤ hi p n i ∧ hi p n i ≤ n ∧ ∀ x, i ≤ x → x < hi p n i → p x = true := by
  obtain ⟨h1, h2, h3⟩ := hiF_spec p (n - i) i
  exact ⟨h1, by unfold hi; omega, h3⟩

/-- The kind at a place. -/
def kd (zs : List Int) (b : Bool) (i : Nat) : Int := kind (zs.getD i 0) b
def same (zs : List Int) (b : Bool) (k i : Nat) : Bool := kd zs b i == kd zs b k
/-- Where the run at k begins. -/
def rlo (zs : List Int) (b : Bool) (k : Nat) : Nat := lo (same zs b k) k
/-- The place behind its end. -/
def rhi (zs : List Int) (b : Bool) (k : Nat) : Nat := hi (same zs b k) zs.length (k + 1)
theorem run_spec {zs : List Int} {b : Bool} {k : Nat} (h : k < zs.length) : rlo zs b k ≤ k ∧ k < rhi zs b k ∧ rhi zs b k ≤ zs.length ∧ ∀ x, rlo zs b k ≤ x → x < rhi zs b k → kd zs b x = kd zs b k := by
  obtain ⟨h1, h2⟩ := lo_spec (same zs b k) k
  obtain ⟨h3, h4, h5⟩ := hi_spec (same zs b k) zs.length (k + 1) (by omega)
  refine ⟨h1, h3, h4, fun x hx hx2 => ?_⟩
  by_cases h6 : x < k
  · have := h2 x hx h6
    simpa [same] using this
  · by_cases h7 : x = k
    · rw [h7]
    · have := h5 x (by omega) hx2
      simpa [same] using this
/-- P25: a word. -/
def wrd (zs : List Int) (b ar : Bool) (k : Nat) : Nat × Nat :=
  if ar = true then
    (if rhi zs b k < zs.length ∧ (kd zs b k = 0 ∨ kd zs b (rhi zs b k) = 0) then (rlo zs b k, rhi zs b (rhi zs b k))
    else if kd zs b k ≠ 0 ∧ 0 < rlo zs b k ∧ kd zs b (rlo zs b k - 1) = 0 then (rlo zs b (rlo zs b k - 1), rhi zs b k)
    else (rlo zs b k, rhi zs b k))
  else (rlo zs b k, rhi zs b k)
theorem wrd_none (zs : List Int) (b : Bool) (k : Nat) : wrd zs b false k = (rlo zs b k, rhi zs b k) := if_neg (by decide)
theorem wrd_right {zs : List Int} {b : Bool} {k : Nat} (h : rhi zs b k < zs.length) (h2 : kd zs b k = 0 ∨ kd zs b (rhi zs b k) = 0) : wrd zs b true k = (rlo zs b k, rhi zs b (rhi zs b k)) := by
  unfold wrd
  rw [if_pos rfl, if_pos ⟨h, h2⟩]
theorem wrd_left {zs : List Int} {b : Bool} {k : Nat} (h : ¬ (rhi zs b k < zs.length ∧ (kd zs b k = 0 ∨ kd zs b (rhi zs b k) = 0))) (h2 : kd zs b k ≠ 0) (h3 : 0 < rlo zs b k) (h4 : kd zs b (rlo zs b k - 1) = 0) :
    wrd zs b true k = (rlo zs b (rlo zs b k - 1), rhi zs b k) := by
  unfold wrd
  rw [if_pos rfl, if_neg h, if_pos ⟨h2, h3, h4⟩]
theorem wrd_alone {zs : List Int} {b : Bool} {k : Nat} (h : ¬ (rhi zs b k < zs.length ∧ (kd zs b k = 0 ∨ kd zs b (rhi zs b k) = 0))) (h2 : ¬ (kd zs b k ≠ 0 ∧ 0 < rlo zs b k ∧ kd zs b (rlo zs b k - 1) = 0)) :
    wrd zs b true k = (rlo zs b k, rhi zs b k) := by
  unfold wrd
  rw [if_pos rfl, if_neg h, if_neg h2]
/-- A word with what is around it has the word within it. -/
theorem wrd_in {zs : List Int} {b : Bool} {k : Nat} (h : k < zs.length) : (wrd zs b true k).1 ≤ rlo zs b k ∧ rhi zs b k ≤ (wrd zs b true k).2 ∧ (wrd zs b true k).2 ≤ zs.length := by
  obtain ⟨h1, h2, h3, h4⟩ := run_spec (b := b) h
  by_cases h5 : rhi zs b k < zs.length ∧ (kd zs b k = 0 ∨ kd zs b (rhi zs b k) = 0)
  · rw [wrd_right h5.1 h5.2]
    obtain ⟨g1, g2, g3, _⟩ := run_spec (b := b) h5.1
    exact ⟨Nat.le_refl _, by show rhi zs b k ≤ rhi zs b (rhi zs b k); omega, g3⟩
  · by_cases h6 : kd zs b k ≠ 0 ∧ 0 < rlo zs b k ∧ kd zs b (rlo zs b k - 1) = 0
    · rw [wrd_left h5 h6.1 h6.2.1 h6.2.2]
      obtain ⟨g1, g2, g3, _⟩ := run_spec (b := b) (show rlo zs b k - 1 < zs.length by omega)
      exact ⟨by show rlo zs b (rlo zs b k - 1) ≤ rlo zs b k; omega, Nat.le_refl _, h3⟩
    · rw [wrd_alone h5 h6]
      exact ⟨Nat.le_refl _, Nat.le_refl _, h3⟩

/-- Whether a pair of brackets o that reaches k opens there. -/
def brp (zs : List Int) (k o : Int) (i : Nat) : Bool := decide ((i : Int) ≤ k) && zs.getD i 0 == o && decide (k ≤ par (fn zs) zs.length i)
/-- P26: the last such pair that opens ahead of place i. -/
def bfind (zs : List Int) (k o : Int) : Nat → Option (Nat × Nat)
  | 0 => none
  | i + 1 => if brp zs k o i = true then some (i, (par (fn zs) zs.length i).toNat) else bfind zs k o i
theorem bfind_hit {zs : List Int} {k o : Int} {i : Nat} (h : brp zs k o i = true) : bfind zs k o (i + 1) = some (i, (par (fn zs) zs.length i).toNat) := if_pos h
theorem bfind_miss {zs : List Int} {k o : Int} {i : Nat} (h : brp zs k o i = false) : bfind zs k o (i + 1) = bfind zs k o i := if_neg (by rw [h]; decide)
theorem brp_true {zs : List Int} {k o : Int} {i : Nat} : brp zs k o i = true ↔ (i : Int) ≤ k ∧ zs.getD i 0 = o ∧ k ≤ par (fn zs) zs.length i := by
  unfold brp
  rw [Bool.and_eq_true, Bool.and_eq_true, decide_eq_true_eq, decide_eq_true_eq, beq_iff_eq, and_assoc]
theorem brp_far {zs : List Int} {k o : Int} {i : Nat} (h : k < (i : Int)) : brp zs k o i = false := by
  rw [← Bool.not_eq_true, brp_true]
  omega
/-- Behind k none opens. -/
theorem bfind_far {zs : List Int} {k o : Int} {m : Nat} (hm : k < (m : Int)) : ∀ n, m ≤ n → bfind zs k o n = bfind zs k o m
  | 0, h => by rw [show m = 0 by omega]
  | n + 1, h => by
    by_cases h2 : m = n + 1
    · rw [h2]
    · rw [bfind_miss (brp_far (by omega)), bfind_far hm n (by omega)]
theorem bfind_spec {zs : List Int} {k o : Int} : ∀ {n : Nat} {a z : Nat}, bfind zs k o n = some (a, z) → a < n ∧ brp zs k o a = true ∧ z = (par (fn zs) zs.length a).toNat ∧ ∀ i, a < i → i < n → brp zs k o i = false
  | 0, a, z, h => by cases h
  | n + 1, a, z, h => by
    by_cases h2 : brp zs k o n = true
    · rw [bfind_hit h2] at h
      cases h
      exact ⟨by omega, h2, rfl, fun i h3 h4 => absurd h3 (by omega)⟩
    · have h3 : brp zs k o n = false := by simpa using h2
      rw [bfind_miss h3] at h
      obtain ⟨g1, g2, g3, g4⟩ := bfind_spec h
      refine ⟨by omega, g2, g3, fun i h4 h5 => ?_⟩
      by_cases h6 : i = n
      · rw [h6]; exact h3
      · exact g4 i h4 (by omega)

/-- P26: signs two by two, from place i on; a: the one that waits for its second. -/
def qfind (f : Nat → Int) (s k : Int) : Nat → Nat → Option Nat → Option (Nat × Nat)
  | 0, _, _ => none
  | n + 1, i, none => if f i = s then qfind f s k n (i + 1) (some i) else qfind f s k n (i + 1) none
  | n + 1, i, some a => if f i = s then (if k ≤ (i : Int) then some (a, i) else qfind f s k n (i + 1) none) else qfind f s k n (i + 1) (some a)
theorem qfind_other {f : Nat → Int} {s k : Int} {n i : Nat} {a : Option Nat} (h : f i ≠ s) : qfind f s k (n + 1) i a = qfind f s k n (i + 1) a := by
  cases a with
  | none => exact if_neg h
  | some a => exact if_neg h
theorem qfind_first {f : Nat → Int} {s k : Int} {n i : Nat} (h : f i = s) : qfind f s k (n + 1) i none = qfind f s k n (i + 1) (some i) := if_pos h
theorem qfind_found {f : Nat → Int} {s k : Int} {n i a : Nat} (h : f i = s) (hk : k ≤ (i : Int)) : qfind f s k (n + 1) i (some a) = some (a, i) := by
  show (if f i = s then (if k ≤ (i : Int) then some (a, i) else qfind f s k n (i + 1) none) else qfind f s k n (i + 1) (some a)) = _
  rw [if_pos h, if_pos hk]
theorem qfind_early {f : Nat → Int} {s k : Int} {n i a : Nat} (h : f i = s) (hk : ¬ k ≤ (i : Int)) : qfind f s k (n + 1) i (some a) = qfind f s k n (i + 1) none := by
  show (if f i = s then (if k ≤ (i : Int) then some (a, i) else qfind f s k n (i + 1) none) else qfind f s k n (i + 1) (some a)) = _
  rw [if_pos h, if_neg hk]
theorem qfind_spec {f : Nat → Int} {s k : Int} : ∀ {n i : Nat} {c : Option Nat} {a z : Nat}, (∀ x, c = some x → x < i) → qfind f s k n i c = some (a, z) → a < z ∧ z < i + n ∧ k ≤ (z : Int)
  | 0, i, c, a, z, _, h => by
    cases c <;> cases h
  | n + 1, i, c, a, z, hc, h => by
    by_cases h2 : f i = s
    · cases c with
      | none =>
        rw [qfind_first h2] at h
        have := qfind_spec (fun x hx => by cases hx; omega) h
        omega
      | some b =>
        have hb := hc b rfl
        by_cases h3 : k ≤ (i : Int)
        · rw [qfind_found h2 h3] at h
          cases h
          omega
        · rw [qfind_early h2 h3] at h
          have := qfind_spec (fun x hx => by cases hx) h
          omega
    · rw [qfind_other h2] at h
      have := qfind_spec (fun x hx => Nat.lt_succ_of_lt (hc x hx)) h
      omega
/-- The signs in a list of places, two by two. -/
def two (k : Int) : List Nat → Option (Nat × Nat)
  | [] => none
  | [_] => none
  | a :: z :: r => if k ≤ (z : Int) then some (a, z) else two k r
/-- The places of a sign, from i on. -/
def spotsOf (f : Nat → Int) (s : Int) (n i : Nat) : List Nat := (List.range' i n).filter fun j => f j == s
theorem spotsOf_hit {f : Nat → Int} {s : Int} {n i : Nat} (h : f i = s) : spotsOf f s (n + 1) i = i :: spotsOf f s n (i + 1) := by
  unfold spotsOf
  rw [List.range'_succ, List.filter_cons_of_pos (by simpa using h)]
theorem spotsOf_miss {f : Nat → Int} {s : Int} {n i : Nat} (h : f i ≠ s) : spotsOf f s (n + 1) i = spotsOf f s n (i + 1) := by
  unfold spotsOf
  rw [List.range'_succ, List.filter_cons_of_neg (by simpa using h)]
theorem qfind_two {f : Nat → Int} {s k : Int} : ∀ (n i : Nat) (c : Option Nat), qfind f s k n i c = two k (c.toList ++ spotsOf f s n i)
  | 0, i, none => rfl
  | 0, i, some a => rfl
  | n + 1, i, c => by
    by_cases h : f i = s
    · rw [spotsOf_hit h]
      cases c with
      | none =>
        rw [qfind_first h, qfind_two n (i + 1) (some i)]
        rfl
      | some a =>
        by_cases hk : k ≤ (i : Int)
        · rw [qfind_found h hk]
          show _ = if k ≤ (i : Int) then some (a, i) else two k (spotsOf f s n (i + 1))
          rw [if_pos hk]
        · rw [qfind_early h hk, qfind_two n (i + 1) none]
          show _ = if k ≤ (i : Int) then some (a, i) else two k (spotsOf f s n (i + 1))
          rw [if_neg hk]
          rfl
    · rw [spotsOf_miss h, qfind_other h]
      exact qfind_two n (i + 1) c

/-- The pair of signs. -/
def pick (zs : List Int) (k key : Int) : Option (Nat × Nat) := if brk key = 0 then qfind (fn zs) key k zs.length 0 none else bfind zs k (opn key) zs.length
def otold (ar : Bool) : Option (Nat × Nat) → Int × Int × Int
  | none => (0, 0, 6)
  | some (a, z) => if ar = true then ((a : Int), (z : Int) + 1, 0) else ((a : Int) + 1, (z : Int), 0)
/-- Three numbers as Of has them. -/
def trip : Option (Nat × Nat) → Int × Int × Bool
  | none => (0, 0, false)
  | some (a, z) => ((a : Int), (z : Int), true)
/-- Whether the key is one of those with signs. -/
def sgn (key : Int) : Bool := brk key != 0 || key == 34 || key == 39 || key == 96
/-- P25, P26: the answer. -/
def thing (zs : List Int) (k : Int) (ar : Bool) (key : Int) : Int × Int × Int :=
  if 4096 < zs.length then (0, 0, 2)
  else if k < 0 ∨ ((zs.length - 1 : Nat) : Int) < k then (0, 0, 1)
  else if key = 119 ∨ key = 87 then
    (if zs.length = 0 then (0, 0, 6) else (((wrd zs (key == 87) ar k.toNat).1 : Int), ((wrd zs (key == 87) ar k.toNat).2 : Int), 0))
  else if sgn key = true then otold ar (pick zs k key) else (0, 0, 9)
theorem thing_large {zs : List Int} {k : Int} {ar : Bool} {key : Int} (h : 4096 < zs.length) : thing zs k ar key = (0, 0, 2) := if_pos h
theorem thing_arg {zs : List Int} {k : Int} {ar : Bool} {key : Int} (h : ¬ 4096 < zs.length) (h2 : k < 0 ∨ ((zs.length - 1 : Nat) : Int) < k) : thing zs k ar key = (0, 0, 1) := by
  unfold thing
  rw [if_neg h, if_pos h2]
theorem thing_word {zs : List Int} {k : Int} {ar : Bool} {key : Int} (h : ¬ 4096 < zs.length) (h2 : ¬ (k < 0 ∨ ((zs.length - 1 : Nat) : Int) < k)) (h3 : key = 119 ∨ key = 87) :
    thing zs k ar key = if zs.length = 0 then (0, 0, 6) else (((wrd zs (key == 87) ar k.toNat).1 : Int), ((wrd zs (key == 87) ar k.toNat).2 : Int), 0) := by
  unfold thing
  rw [if_neg h, if_neg h2, if_pos h3]
theorem sgn_word {key : Int} (h : sgn key = true) : ¬ (key = 119 ∨ key = 87) := by
  rintro (rfl | rfl) <;> exact absurd h (by decide)
theorem thing_sign {zs : List Int} {k : Int} {ar : Bool} {key : Int} (h : ¬ 4096 < zs.length) (h2 : ¬ (k < 0 ∨ ((zs.length - 1 : Nat) : Int) < k)) (h3 : sgn key = true) :
    thing zs k ar key = otold ar (pick zs k key) := by
  unfold thing
  rw [if_neg h, if_neg h2, if_neg (sgn_word h3), if_pos h3]
theorem thing_key {zs : List Int} {k : Int} {ar : Bool} {key : Int} (h : ¬ 4096 < zs.length) (h2 : ¬ (k < 0 ∨ ((zs.length - 1 : Nat) : Int) < k)) (h3 : ¬ (key = 119 ∨ key = 87)) (h4 : sgn key = false) :
    thing zs k ar key = (0, 0, 9) := by
  unfold thing
  rw [if_neg h, if_neg h2, if_neg h3, if_neg (by rw [h4]; decide)]
end Go.Proofs.Ytpgjaoemkadenaa.Plain
