/- The contract of keys.Take. -/
import Derived.Test.YtjpgjhdkgmddfaaCheck
set_option linter.unusedVariables false
set_option linter.unusedSimpArgs false
namespace Go.Proofs.Ytjpgjhdkgmddfaa.Seek
open Go.RowKit Plain

/-- What Take tells. -/
def tkn (f r o s t k : Int) : Took × Int := if right f r o s t = true then (stp f r o s t k, 0) else ((zer, zer, 0), 1)
def TakePost (R : Took × Int) (w : World) (e : Ending) (w' : World) : Prop := e = .returned (.tuple #[fv R.1.1, fv R.1.2.1, .int .i64 R.1.2.2, .int .i64 R.2]) ∧ Below w.heap.size w w'
theorem ret_take {fn : Func} {R : Ending → World → Prop} {a : Act} {w : World} (i j k l : Nat) (hres : fn.results = #[.cell i 23, .cell j 27, .tmp k, .tmp l]) (g1 g2 : Nat) (hi : a.tmps.getD i undef = .pointer (some ⟨g1, 0, none⟩))
    (hj : a.tmps.getD j undef = .pointer (some ⟨g2, 0, none⟩)) (p c : Five) (n m : Int) (hk : a.tmps.getD k undef = .int .i64 n) (hl : a.tmps.getD l undef = .int .i64 m) (h1 : BoxF w 23 g1 p) (h2 : BoxF w 27 g2 c) (hd : a.defers = [])
    (hR : R (.returned (.tuple #[fv p, fv c, .int .i64 n, .int .i64 m])) w) : bodyPost Try.prog fn R .ret a w := by
  refine bodyPost_ret (v := .tuple #[fv p, fv c, .int .i64 n, .int .i64 m]) ?_ hd hR
  have h3 : (results fn a.tmps).run Try.prog w = ((asAddr (a.tmps.getD i undef)).run Try.prog w).andThen fun x w₁ => ((loadVar 23 x).run Try.prog w₁).andThen fun u w₂ =>
      ((asAddr (a.tmps.getD j undef)).run Try.prog w₂).andThen fun y w₃ => ((loadVar 27 y).run Try.prog w₃).andThen fun v w₄ => .ok (.tuple #[u, v, a.tmps.getD k undef, a.tmps.getD l undef]) w₄ := by
    simp only [results, hres]
    simp [Sem.run_bind, Result.andThen]
  rw [h3, hi, hj, hk, hl]
  simp only [asAddr, Sem.run_pure, Result.andThen_ok, load_row (.inl rfl) h1, load_row (.inr rfl) h2]
set_option maxHeartbeats 2000000 in
theorem take_go (f r o s t k : Int) (w : World) : Calls Try.prog 6 #[.agg #[.int .i64 f, .int .i64 r, .int .i64 o, .int .i64 s, .int .i64 t], .int .i64 k] w fun e w' => TakePost (tkn f r o s t k) w e w' := by
  obtain ⟨T, hT⟩ : ∃ T, T = tkn f r o s t k := ⟨_, rfl⟩
  rw [← hT]
  have HK : Hid (∀ w1, Calls Try.prog 7 #[.agg #[.int .i64 f, .int .i64 r, .int .i64 o, .int .i64 s, .int .i64 t]] w1 fun e w' => e = .returned (.int .i64 (pchk f r o s t)) ∧ Below w1.heap.size w1 w') := fun w1 => check_go f r o s t w1
  cases h : right f r o s t with
  | false =>
    have HT : Hid (T = ((zer, zer, 0), 1)) := by show T = _; rw [hT]; unfold tkn; rw [if_neg (by rw [h]; decide)]
    rw [pchk_bad h] at HK
    clear hT h
    go_enter Try.func6, Try.ntmps6
    go_wp2_with fail
    have HE : Hid (Enter w _ (f, r, o, s, t) w.heap.size (w.heap.size + 1) (w.heap.size + 1 + 1)) := enter_is w f r o s t
    refine (HK.out _).mono ?_
    rintro e w1 ⟨rfl, hb⟩
    have HE1 : Hid (Enter w w1 (f, r, o, s, t) w.heap.size (w.heap.size + 1) (w.heap.size + 1 + 1)) := HE.out.below hb
    clear HE hb HK
    go_wp2_with (first | (refine storeF rfl 23 _ _ rfl (.inl rfl) _ rfl zer zer rfl HE1.out.2.1 ?_) | (refine storeF rfl 27 _ _ rfl (.inr rfl) _ rfl zer zer rfl (HE1.out.2.2.1.other _ (by omega)) ?_))
    rw [HT.out]
    exact ret_take 4 5 6 7 Try.results6 _ _ rfl rfl zer zer 0 1 rfl rfl ((HE1.out.2.1.row _).other _ (by omega)) ((HE1.out.2.2.1.other _ (by omega)).row _) rfl ⟨rfl, below_row (below_row HE1.out.2.2.2.1 (by omega) _) (by omega) _⟩
  | true =>
    have HT : Hid (T = (stp f r o s t k, 0)) := by show T = _; rw [hT]; unfold tkn; rw [if_pos h]
    rw [pchk_good h] at HK
    have HS : Hid (∀ w1, Calls Try.prog 15 #[.agg #[.int .i64 f, .int .i64 r, .int .i64 o, .int .i64 s, .int .i64 t], .int .i64 k] w1 fun e w' => TookPost (stp f r o s t k) w1 e w') := fun w1 => step_go f r o s t k w1 h
    clear hT h
    obtain ⟨R, hR⟩ : ∃ R, R = stp f r o s t k := ⟨_, rfl⟩
    rw [← hR] at HT HS
    clear hR
    obtain ⟨⟨p0, p1, p2, p3, p4⟩, ⟨q0, q1, q2, q3, q4⟩, n⟩ := R
    go_enter Try.func6, Try.ntmps6
    go_wp2_with fail
    have HE : Hid (Enter w _ (f, r, o, s, t) w.heap.size (w.heap.size + 1) (w.heap.size + 1 + 1)) := enter_is w f r o s t
    refine (HK.out _).mono ?_
    rintro e w1 ⟨rfl, hb⟩
    have HE1 : Hid (Enter w w1 (f, r, o, s, t) w.heap.size (w.heap.size + 1) (w.heap.size + 1 + 1)) := HE.out.below hb
    clear HE hb HK
    obtain ⟨c0, c1, c2, c3, c4⟩ := HE1.out.cells
    go_wp2_with fail
    refine (HS.out _).mono ?_
    rintro e w2 ⟨rfl, hb⟩
    have HE2 : Hid (Enter w w2 (f, r, o, s, t) w.heap.size (w.heap.size + 1) (w.heap.size + 1 + 1)) := HE1.out.below hb
    clear HE1 hb HS c0 c1 c2 c3 c4
    simp only [fv]
    go_wp2_with fail
    have HB3 : Hid _ := two_boxes w2 (p0, p1, p2, p3, p4) (q0, q1, q2, q3, q4)
    have HB : Hid (BoxF ((w2.alloc (.cells #[.int .i64 p0, .int .i64 p1, .int .i64 p2, .int .i64 p3, .int .i64 p4] 23)).alloc (.cells #[.int .i64 q0, .int .i64 q1, .int .i64 q2, .int .i64 q3, .int .i64 q4] 27)) 23 w2.heap.size (p0, p1, p2, p3, p4) ∧
      BoxF ((w2.alloc (.cells #[.int .i64 p0, .int .i64 p1, .int .i64 p2, .int .i64 p3, .int .i64 p4] 23)).alloc (.cells #[.int .i64 q0, .int .i64 q1, .int .i64 q2, .int .i64 q3, .int .i64 q4] 27)) 27 (w2.heap.size + 1) (q0, q1, q2, q3, q4) ∧
      Below w2.heap.size w2 ((w2.alloc (.cells #[.int .i64 p0, .int .i64 p1, .int .i64 p2, .int .i64 p3, .int .i64 p4] 23)).alloc (.cells #[.int .i64 q0, .int .i64 q1, .int .i64 q2, .int .i64 q3, .int .i64 q4] 27))) := HB3.out
    clear HB3
    generalize (w2.alloc (.cells #[.int .i64 p0, .int .i64 p1, .int .i64 p2, .int .i64 p3, .int .i64 p4] 23)).alloc (.cells #[.int .i64 q0, .int .i64 q1, .int .i64 q2, .int .i64 q3, .int .i64 q4] 27) = w3 at *
    have HE3 : Hid (Enter w w3 (f, r, o, s, t) w.heap.size (w.heap.size + 1) (w.heap.size + 1 + 1)) := HE2.out.below HB.out.2.2
    have HN : Hid (w.heap.size + 1 + 1 < w2.heap.size) := HE2.out.2.2.1.lt
    clear HE2
    refine wp_region_held_drew (S := fun w' => BoxF w' 23 w2.heap.size (p0, p1, p2, p3, p4) ∧ BoxF w' 27 (w2.heap.size + 1) (q0, q1, q2, q3, q4)) (by kernel_rfl) ⟨HB.out.1, HB.out.2.1⟩ (fun hHeld => ?_)
    refine wpAnyH_take (i := 0) (oi := ⟨some 26, .load 23 (.tmp 9), 23, _, _, none⟩) (v := fv (p0, p1, p2, p3, p4)) rfl (by kernel_rfl) (by kernel_rfl) (by kernel_rfl) (fun _ _ _ h => h) (Or.inl ⟨by rfl, fun w hS => exec_load 23 _ rfl (.inl rfl) w2.heap.size rfl hS.1⟩) hHeld ?_
    refine wpAnyH_take (i := 1) (oi := ⟨some 27, .load 27 (.tmp 10), 27, _, _, none⟩) (v := fv (q0, q1, q2, q3, q4)) rfl (by kernel_rfl) (by kernel_rfl) (by kernel_rfl) (fun _ _ _ h => h) (Or.inl ⟨by rfl, fun w hS => exec_load 27 _ rfl (.inr rfl) (w2.heap.size + 1) rfl hS.2⟩) hHeld ?_
    refine wpAnyH_take (i := 2) (oi := ⟨some 28, .move (.tmp 11), 3, _, _, none⟩) (v := .int .i64 n) rfl (by kernel_rfl) (by kernel_rfl) (by kernel_rfl) (fun _ _ _ h => h) (Or.inl ⟨by rfl, fun w hS => rfl⟩) hHeld ?_
    refine wpAnyH_ready (rs := [3]) (by kernel_rfl) (by simp) ?_
    refine AllReadyH.cons (o := ⟨none, .store 23 (.tmp 4) (.tmp 26), 0, _, _, none⟩) rfl (fun K hK => ?_) AllReadyH.nil
    refine step_storeF rfl 23 (.tmp 4) (.tmp 26) rfl (.inl rfl) (w.heap.size + 1) rfl (p0, p1, p2, p3, p4) zer rfl HE3.out.2.1 ?_
    refine hK.out _ _ ⟨BoxF.other hHeld.1 _ (by have := HN.out; omega), BoxF.other hHeld.2 _ (by have := HN.out; omega)⟩ (fun hHeld => ?_)
    clear hK K
    refine wpAnyH_ready (rs := [4]) (by kernel_rfl) (by simp) ?_
    refine AllReadyH.cons (o := ⟨none, .store 27 (.tmp 5) (.tmp 27), 0, _, _, none⟩) rfl (fun K hK => ?_) AllReadyH.nil
    refine step_storeF rfl 27 (.tmp 5) (.tmp 27) rfl (.inr rfl) (w.heap.size + 1 + 1) rfl (q0, q1, q2, q3, q4) zer rfl (HE3.out.2.2.1.other _ (by omega)) ?_
    refine hK.out _ _ ⟨BoxF.other hHeld.1 _ (by have := HN.out; omega), BoxF.other hHeld.2 _ (by have := HN.out; omega)⟩ (fun hHeld => ?_)
    clear hK K
    refine wpAnyH_take (i := 5) (oi := ⟨some 6, .assign (.tmp 28), 3, _, _, none⟩) (v := .int .i64 n) rfl (by kernel_rfl) (by kernel_rfl) (by kernel_rfl) (fun _ _ _ h => h) (Or.inl ⟨by rfl, fun w hS => rfl⟩) hHeld ?_
    refine wpAnyH_take (i := 6) (oi := ⟨some 7, .assign (.const (.int .i64 0)), 24, _, _, none⟩) (v := .int .i64 0) rfl (by kernel_rfl) (by kernel_rfl) (by kernel_rfl) (fun _ _ _ h => h) (Or.inl ⟨by rfl, fun w hS => rfl⟩) hHeld ?_
    refine wpAnyH_done (by kernel_rfl) ?_ _
    clear hHeld
    simp only [Act.put, List.setIfInBounds_toArray, List.set_cons_zero, List.set_cons_succ]
    go_wp2_with fail
    rw [HT.out]
    exact ret_take 4 5 6 7 Try.results6 _ _ rfl rfl (p0, p1, p2, p3, p4) (q0, q1, q2, q3, q4) n 0 rfl rfl ((BoxF.row (w := w3.drew) HE3.out.2.1 _).other _ (by omega)) ((BoxF.other (w := w3.drew) HE3.out.2.2.1 _ (by omega)).row _) rfl
      ⟨rfl, below_row (below_row (below_drewN HE3.out.2.2.2.1 1) (by omega) _) (by omega) _⟩
end Go.Proofs.Ytjpgjhdkgmddfaa.Seek
