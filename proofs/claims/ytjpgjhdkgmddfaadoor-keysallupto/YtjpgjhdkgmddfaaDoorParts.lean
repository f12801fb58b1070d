/- The contracts of the small functions of package keys: wrong, more, wait, both, done, meant, counted. -/
import Derived.Test.YtjpgjhdkgmddfaaDoorFives
import Derived.Deep.RegionHeld3
import Derived.Deep.RegionWith
import Derived.Deep.Cut
import Derived.Deep.CutRange
import Derived.BigQuiet
import Derived.Deep.RegionLaw
set_option linter.unusedVariables false
set_option linter.unusedSimpArgs false
namespace Go.Proofs.YtjpgjhdkgmddfaaDoor.Seek
open Go.RowKit Plain

set_option maxHeartbeats 400000 in
theorem wrong_go (w : World) : Calls Tryd.prog 21 #[] w fun e w' => TookPost wrg w e w' := by
  go_enter Tryd.func21, Tryd.ntmps21
  go_wp2_with fail
  have h2 := BoxF.new (w.alloc (.cells (row5 zer) 27)) 24 zer
  rw [size_alloc] at h2
  exact ret_took 0 1 2 Tryd.results21 _ _ rfl rfl zer zer 3 rfl ((BoxF.new w 27 zer).alloc _) h2 rfl ⟨rfl, (box_below _ _).alloc (by rw [size_alloc]; omega) _⟩

set_option maxHeartbeats 400000 in
theorem more_go (f r o s t : Int) (w : World) : Calls Tryd.prog 24 #[.agg #[.int .i64 f, .int .i64 r, .int .i64 o, .int .i64 s, .int .i64 t]] w fun e w' => TookPost (mor (f, r, o, s, t)) w e w' := by
  go_enter Tryd.func24, Tryd.ntmps24
  go_wp2_with fail
  have h1 := BoxF.new (w.alloc (.cells (row5 (f, r, o, s, t)) 27)) 27 (f, r, o, s, t)
  have h2 := BoxF.new ((w.alloc (.cells (row5 (f, r, o, s, t)) 27)).alloc (.cells (row5 (f, r, o, s, t)) 27)) 24 zer
  rw [size_alloc] at h1 h2
  rw [size_alloc] at h2
  exact ret_took 2 3 4 Tryd.results24 _ _ rfl rfl (f, r, o, s, t) zer 1 rfl (h1.alloc _) h2 rfl ⟨rfl, ((box_below _ _).alloc (by rw [size_alloc]; omega) _).alloc (by rw [size_alloc, size_alloc]; omega) _⟩

set_option maxHeartbeats 400000 in
theorem both_go (f s : Int) (w : World) (hf : 0 ≤ f ∧ f ≤ 999) (hs : 0 ≤ s ∧ s ≤ 999) : Calls Tryd.prog 40 #[.int .i64 f, .int .i64 s] w fun e w' => e = .returned (.int .i64 (bth f s)) ∧ w' = w := by
  obtain ⟨b, hb⟩ : ∃ b, b = bth f s := ⟨_, rfl⟩
  rw [← hb]
  obtain ⟨hf0, hf9⟩ := hf
  obtain ⟨hs0, hs9⟩ := hs
  by_cases h1 : f = 0
  · subst h1
    have HB : Hid (b = s) := by
      show b = s
      rw [hb]
      unfold bth
      rw [if_pos (.inl rfl)]
      omega
    clear hb
    go_enter Tryd.func40, Tryd.ntmps40
    go_wp2_with fail
    go_ret
    exact ⟨by rw [HB.out]; first | rfl | (refine congrArg (fun x => Ending.returned (Value.int .i64 x)) ?_; omega), rfl⟩
  · have hf1 : (f == 0) = false := by simpa using h1
    by_cases h2 : s = 0
    · subst h2
      have HB : Hid (b = f) := by
        show b = f
        rw [hb]
        unfold bth
        rw [if_pos (.inr rfl)]
        omega
      clear hb h1
      go_enter Tryd.func40, Tryd.ntmps40
      go_wp2_with fail
      go_ret
      exact ⟨by rw [HB.out]; first | rfl | (refine congrArg (fun x => Ending.returned (Value.int .i64 x)) ?_; omega), rfl⟩
    · have hs1 : (s == 0) = false := by simpa using h2
      obtain ⟨m, hm⟩ : ∃ m, f * s = m := ⟨_, rfl⟩
      have hm0 : 0 ≤ m := by rw [← hm]; exact Int.mul_nonneg hf0 hs0
      have hm9 : m ≤ 998001 := by
        rw [← hm]
        have := Int.mul_le_mul hf9 hs9 hs0 (by decide)
        omega
      have HB : Hid (b = min m 999) := by
        show b = min m 999
        rw [hb, ← hm]
        unfold bth
        rw [if_neg (fun h => h.elim h1 h2)]
      clear hb h1 h2
      go_enter Tryd.func40, Tryd.ntmps40
      go_wp2_with fail
      all_goals (
        go_ret
        refine ⟨?_, rfl⟩
        rw [HB.out]
        refine congrArg (fun x => Ending.returned (Value.int .i64 x)) ?_
        omega)

set_option maxHeartbeats 400000 in
theorem meant_go (f r o s t : Int) (w : World) : Calls Tryd.prog 23 #[.agg #[.int .i64 f, .int .i64 r, .int .i64 o, .int .i64 s, .int .i64 t]] w fun e w' => e = .returned (.int .i64 (mnt f o s)) ∧ Below w.heap.size w w' := by
  by_cases h1 : o = 0
  · subst h1
    rw [show mnt f 0 s = f from if_neg (by decide)]
    go_enter Tryd.func23, Tryd.ntmps23
    go_wp2_with fail
    go_ret
    exact ⟨rfl, box_below _ _⟩
  · rw [show mnt f o s = s from if_pos h1]
    have h2 : (o != 0) = true := by simpa using h1
    clear h1
    go_enter Tryd.func23, Tryd.ntmps23
    go_wp2_with fail
    go_ret
    exact ⟨rfl, box_below _ _⟩

set_option maxHeartbeats 400000 in
theorem wait_go (f r o s t k : Int) (w : World) : Calls Tryd.prog 29 #[.agg #[.int .i64 f, .int .i64 r, .int .i64 o, .int .i64 s, .int .i64 t], .int .i64 k] w fun e w' => TookPost (wtg f r o s t k) w e w' := by
  go_enter Tryd.func29, Tryd.ntmps29
  go_wp2_with fail
  have HE : Hid (Enter w _ (f, r, o, s, k) _ _ _) := enter_new w (f, r, o, s, k)
  refine (more_go f r o s k _).mono ?_
  rintro e w1 ⟨rfl, hb⟩
  have HE1 : Hid (Enter w w1 (f, r, o, s, k) w.heap.size (w.heap.size + 1) (w.heap.size + 1 + 1)) := HE.out.below hb
  clear HE hb
  go_wp2_with (first | (refine storeF rfl 27 _ _ rfl (.inl rfl) _ rfl (mor (f, r, o, s, k)).1 zer rfl HE1.out.2.1 ?_) | (refine storeF rfl 24 _ _ rfl (.inr rfl) _ rfl (mor (f, r, o, s, k)).2.1 zer rfl (HE1.out.2.2.1.other _ (by omega)) ?_))
  exact HE1.out.end 4 5 6 Tryd.results29 rfl rfl rfl rfl

/-- The world of a call with a part and a key, at its beginning. -/
theorem enter_is (w : World) (f r o s t : Int) : Enter w (((w.alloc (Obj.cells #[Value.int IntKind.i64 f, Value.int IntKind.i64 r, Value.int IntKind.i64 o, Value.int IntKind.i64 s, Value.int IntKind.i64 t] 27)).alloc (Obj.cells #[Value.int IntKind.i64 0, Value.int IntKind.i64 0, Value.int IntKind.i64 0, Value.int IntKind.i64 0, Value.int IntKind.i64 0] 27)).alloc (Obj.cells #[Value.int IntKind.i64 0, Value.int IntKind.i64 0, Value.int IntKind.i64 0, Value.int IntKind.i64 0, Value.int IntKind.i64 0] 24)) (f, r, o, s, t) w.heap.size (w.heap.size + 1) (w.heap.size + 1 + 1) := enter_new w (f, r, o, s, t)

set_option maxHeartbeats 1000000 in
theorem done_go (f r o s t v a : Int) (w : World) (hf : 0 ≤ f ∧ f ≤ 999) (hs : 0 ≤ s ∧ s ≤ 999) : Calls Tryd.prog 28 #[.agg #[.int .i64 f, .int .i64 r, .int .i64 o, .int .i64 s, .int .i64 t], .int .i64 v, .int .i64 a] w fun e w' => TookPost (don f r o s v a) w e w' := by
  have HC : Hid (∀ wx, Calls Tryd.prog 40 #[.int .i64 f, .int .i64 s] wx fun e w' => e = .returned (.int .i64 (bth f s)) ∧ w' = wx) := fun wx => both_go f s wx hf hs
  clear hf hs
  obtain ⟨m, hm⟩ : ∃ m, m = bth f s := ⟨_, rfl⟩
  have HM : Hid (m = bth f s) := hm
  rw [← hm] at HC
  clear hm
  go_enter Tryd.func28, Tryd.ntmps28
  go_wp2_with fail
  have HE : Hid (Enter w _ (f, r, o, s, t) w.heap.size (w.heap.size + 1) (w.heap.size + 1 + 1)) := enter_is w f r o s t
  generalize (((w.alloc (Obj.cells #[Value.int IntKind.i64 f, Value.int IntKind.i64 r, Value.int IntKind.i64 o, Value.int IntKind.i64 s, Value.int IntKind.i64 t] 27)).alloc (Obj.cells #[Value.int IntKind.i64 0, Value.int IntKind.i64 0, Value.int IntKind.i64 0, Value.int IntKind.i64 0, Value.int IntKind.i64 0] 27)).alloc (Obj.cells #[Value.int IntKind.i64 0, Value.int IntKind.i64 0, Value.int IntKind.i64 0, Value.int IntKind.i64 0, Value.int IntKind.i64 0] 24)) = w1 at *
  have HCS : Hid (∀ w', Below w1.heap.size w1 w' → w'.cell? ⟨w.heap.size, 0, none⟩ = some (.int .i64 f) ∧ w'.cell? ⟨w.heap.size, 1, none⟩ = some (.int .i64 r) ∧ w'.cell? ⟨w.heap.size, 2, none⟩ = some (.int .i64 o) ∧ w'.cell? ⟨w.heap.size, 3, none⟩ = some (.int .i64 s)) :=
    fun w' hb => ⟨(HE.out.below hb).1.c0, (HE.out.below hb).1.c1, (HE.out.below hb).1.c2, (HE.out.below hb).1.c3⟩
  go_region_held3 (fun w' => w'.cell? ⟨w.heap.size, 0, none⟩ = some (.int .i64 f) ∧ w'.cell? ⟨w.heap.size, 1, none⟩ = some (.int .i64 r) ∧ w'.cell? ⟨w.heap.size, 2, none⟩ = some (.int .i64 o) ∧ w'.cell? ⟨w.heap.size, 3, none⟩ = some (.int .i64 s))
    ((refine HCS.out _ ?_; (repeat (first | assumption | exact Below.refl _ _ | refine below_dr ?_ | refine below_al ?_ _ | (refine below_st ?_ (by exact Nat.le_refl _) _)))))
    (first | (go_at_call 40; refine (HC.out _).mono ?_; rintro e w' ⟨rfl, rfl⟩))
  all_goals (
    have HL : Hid (w1.heap.size ≠ w.heap.size + 1 ∧ w1.heap.size ≠ w.heap.size + 1 + 1) := by have h1 := HE.out.2.1.lt; have h2 := HE.out.2.2.1.lt; exact ⟨by omega, by omega⟩
    have HB : Hid (Below w1.heap.size w1 (w1.alloc (Obj.cells #[Value.int IntKind.i64 m, Value.int IntKind.i64 r, Value.int IntKind.i64 o, Value.int IntKind.i64 v, Value.int IntKind.i64 a] 24)).drew) := below_dr (below_al (Below.refl _ _) _)
    have HZ : Hid (BoxF (w1.alloc (Obj.cells #[Value.int IntKind.i64 m, Value.int IntKind.i64 r, Value.int IntKind.i64 o, Value.int IntKind.i64 v, Value.int IntKind.i64 a] 24)).drew 24 w1.heap.size (m, r, o, v, a)) := BoxF.new w1 24 (m, r, o, v, a)
    generalize (w1.alloc (Obj.cells #[Value.int IntKind.i64 m, Value.int IntKind.i64 r, Value.int IntKind.i64 o, Value.int IntKind.i64 v, Value.int IntKind.i64 a] 24)).drew = w2 at *
    have HE2 : Hid (Enter w w2 (f, r, o, s, t) w.heap.size (w.heap.size + 1) (w.heap.size + 1 + 1)) := HE.out.below HB.out
    clear HE HB HC HCS
    go_wp2_with fail
    refine wp_region_held_drew (S := fun w' => BoxF w' 24 w1.heap.size (m, r, o, v, a)) (by kernel_rfl) HZ.out (fun hHeld => ?_)
    refine wpAnyH_take (i := 0) (oi := ⟨some 22, .build 27 #[], 27, _, _, none⟩) (v := fv zer) rfl (by kernel_rfl) (by kernel_rfl) (by kernel_rfl) (fun _ _ _ h => h) (Or.inl ⟨by rfl, fun w hS => exec_zero 27 rfl (.inl rfl) w⟩) hHeld ?_
    refine wpAnyH_take (i := 1) (oi := ⟨some 23, .load 24 (.tmp 9), 24, _, _, none⟩) (v := fv (m, r, o, v, a)) rfl (by kernel_rfl) (by kernel_rfl) (by kernel_rfl) (fun _ _ _ h => h) (Or.inl ⟨by rfl, fun w hS => exec_load 24 _ rfl (.inr rfl) w1.heap.size rfl hS⟩) hHeld ?_
    refine wpAnyH_ready (rs := [2]) (by kernel_rfl) (by simp) ?_
    refine AllReadyH.cons (o := ⟨none, .store 27 (.tmp 6) (.tmp 22), 0, _, _, none⟩) rfl (fun K hK => ?_) AllReadyH.nil
    refine step_storeF rfl 27 (.tmp 6) (.tmp 22) rfl (.inl rfl) (w.heap.size + 1) rfl zer zer rfl HE2.out.2.1 ?_
    refine hK.out _ _ (BoxF.other hHeld _ HL.out.1) (fun hHeld => ?_)
    clear hK K
    refine wpAnyH_ready (rs := [3]) (by kernel_rfl) (by simp) ?_
    refine AllReadyH.cons (o := ⟨none, .store 24 (.tmp 7) (.tmp 23), 0, _, _, none⟩) rfl (fun K hK => ?_) AllReadyH.nil
    refine step_storeF rfl 24 (.tmp 7) (.tmp 23) rfl (.inr rfl) (w.heap.size + 1 + 1) rfl (m, r, o, v, a) zer rfl (HE2.out.2.2.1.other _ (by omega)) ?_
    refine hK.out _ _ (BoxF.other hHeld _ HL.out.2) (fun hHeld => ?_)
    clear hK K
    refine wpAnyH_take (i := 4) (oi := ⟨some 8, .assign (.const (.int .i64 2)), 3, _, _, none⟩) (v := .int .i64 2) rfl (by kernel_rfl) (by kernel_rfl) (by kernel_rfl) (fun _ _ _ h => h) (Or.inl ⟨by rfl, fun w hS => rfl⟩) hHeld ?_
    refine wpAnyH_done (by kernel_rfl) ?_ _
    clear hHeld
    simp only [Act.put, List.setIfInBounds_toArray, List.set_cons_zero, List.set_cons_succ]
    go_wp2_with fail
    have HT : Hid (don f r o s v a = (zer, (m, r, o, v, a), 2)) := by show don f r o s v a = _; rw [HM.out]; rfl
    rw [HT.out]
    refine ret_two (R := (zer, (m, r, o, v, a), 2)) 6 7 8 Tryd.results28 (w := w2.drew) HE2.out.2.1 HE2.out.2.2.1 (by omega) (below_drewN HE2.out.2.2.2.1 1) (by omega) rfl rfl rfl rfl)
end Go.Proofs.YtjpgjhdkgmddfaaDoor.Seek
