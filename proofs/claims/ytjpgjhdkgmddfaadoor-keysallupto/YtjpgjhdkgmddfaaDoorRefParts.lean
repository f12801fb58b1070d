/- The contracts of the document's whole and of the function literals of its Take. -/
import Derived.Test.YtjpgjhdkgmddfaaDoorParts
set_option linter.unusedVariables false
set_option linter.unusedSimpArgs false
namespace Go.Proofs.YtjpgjhdkgmddfaaDoor.Seek
open Go.RowKit Plain

set_option maxHeartbeats 400000 in
theorem refWrong_go (w : World) : Calls Tryd.prog 32 #[] w fun e w' => TookPost wrg w e w' := by
  go_enter Tryd.func32, Tryd.ntmps32
  go_wp2_with fail
  have h2 := BoxF.new (w.alloc (.cells (row5 zer) 27)) 24 zer
  rw [size_alloc] at h2
  exact ret_took 0 1 2 Tryd.results32 _ _ rfl rfl zer zer 3 rfl ((BoxF.new w 27 zer).alloc _) h2 rfl ⟨rfl, (box_below _ _).alloc (by rw [size_alloc]; omega) _⟩

set_option maxHeartbeats 400000 in
theorem refMore_go (f r o s t : Int) (w : World) : Calls Tryd.prog 35 #[.agg #[.int .i64 f, .int .i64 r, .int .i64 o, .int .i64 s, .int .i64 t]] w fun e w' => TookPost (mor (f, r, o, s, t)) w e w' := by
  go_enter Tryd.func35, Tryd.ntmps35
  go_wp2_with fail
  have h1 := BoxF.new (w.alloc (.cells (row5 (f, r, o, s, t)) 27)) 27 (f, r, o, s, t)
  have h2 := BoxF.new ((w.alloc (.cells (row5 (f, r, o, s, t)) 27)).alloc (.cells (row5 (f, r, o, s, t)) 27)) 24 zer
  rw [size_alloc] at h1 h2
  rw [size_alloc] at h2
  exact ret_took 2 3 4 Tryd.results35 _ _ rfl rfl (f, r, o, s, t) zer 1 rfl (h1.alloc _) h2 rfl ⟨rfl, ((box_below _ _).alloc (by rw [size_alloc]; omega) _).alloc (by rw [size_alloc, size_alloc]; omega) _⟩

/-- Both counts as one, as the document's own has them. -/
def whn (f s : Int) : Int := min (if f = 0 ∨ s = 0 then f + s else f * s) 999
theorem whn_ways (f s : Int) (hf : 0 ≤ f ∧ f ≤ 999) (hs : 0 ≤ s ∧ s ≤ 999) : whn f s = bth f s := by
  have := whl_don (r := 0) (o := 0) (v := 0) (a := 0) hf hs
  unfold whl don at this
  exact congrArg (fun q : Took => q.2.1.1) this
theorem wht_new (w : World) (p c : Five) : BoxF ((w.alloc (.cells (row5 p) 27)).alloc (.cells (row5 c) 24)) 24 (w.heap.size + 1) c ∧ Below w.heap.size w ((w.alloc (.cells (row5 p) 27)).alloc (.cells (row5 c) 24)) := by
  have h2 := BoxF.new (w.alloc (.cells (row5 p) 27)) 24 c
  rw [size_alloc] at h2
  exact ⟨h2, (box_below _ _).alloc (by rw [size_alloc]; omega) _⟩

set_option maxHeartbeats 1000000 in
theorem whole_go (f r o s t v a : Int) (w : World) (hf : 0 ≤ f ∧ f ≤ 999) (hs : 0 ≤ s ∧ s ≤ 999) : Calls Tryd.prog 34 #[.agg #[.int .i64 f, .int .i64 r, .int .i64 o, .int .i64 s, .int .i64 t], .int .i64 v, .int .i64 a] w fun e w' =>
    e = .returned (fv (bth f s, r, o, v, a)) ∧ Below w.heap.size w w' := by
  obtain ⟨b, hb⟩ : ∃ b, b = bth f s := ⟨_, rfl⟩
  rw [← hb]
  obtain ⟨hf0, hf9⟩ := hf
  obtain ⟨hs0, hs9⟩ := hs
  obtain ⟨m, hm⟩ : ∃ m, f * s = m := ⟨_, rfl⟩
  have hm0 : 0 ≤ m := by rw [← hm]; exact Int.mul_nonneg hf0 hs0
  have hm9 : m ≤ 998001 := by
    rw [← hm]
    have := Int.mul_le_mul hf9 hs9 hs0 (by decide)
    omega
  by_cases h1 : f = 0
  · subst h1
    have HB : Hid (b = s) := by
      show b = s
      rw [hb]
      unfold bth
      rw [if_pos (.inl rfl)]
      omega
    clear hb hm hm0 hm9
    go_enter Tryd.func34, Tryd.ntmps34
    go_wp2_with fail
    rw [HB.out]
    obtain ⟨h2, h3⟩ := wht_new w (0, r, o, s, t) (s, r, o, v, a)
    exact ret_part 6 24 (.inr rfl) Tryd.results34 _ rfl _ h2 rfl ⟨rfl, h3⟩
  · have hf1 : (f == 0) = false := by simpa using h1
    by_cases h2 : s = 0
    · subst h2
      have HB : Hid (b = f) := by
        show b = f
        rw [hb]
        unfold bth
        rw [if_pos (.inr rfl)]
        omega
      clear hb h1 hm hm0 hm9
      go_enter Tryd.func34, Tryd.ntmps34
      go_wp2_with fail
      rw [HB.out]
      obtain ⟨h2, h3⟩ := wht_new w (f, r, o, 0, t) (f, r, o, v, a)
      exact ret_part 6 24 (.inr rfl) Tryd.results34 _ rfl _ h2 rfl ⟨rfl, h3⟩
    · have hs1 : (s == 0) = false := by simpa using h2
      have hb2 : b = min m 999 := by
        rw [hb, ← hm]
        unfold bth
        rw [if_neg (fun h => h.elim h1 h2)]
      clear hb h1 h2
      by_cases h3 : m ≤ 999
      · obtain rfl : b = m := by omega
        clear hb2
        go_enter Tryd.func34, Tryd.ntmps34
        go_wp2_with fail
        obtain ⟨h2, h3⟩ := wht_new w (f, r, o, s, t) (b, r, o, v, a)
        exact ret_part 6 24 (.inr rfl) Tryd.results34 _ rfl _ h2 rfl ⟨rfl, h3⟩
      · obtain rfl : b = 999 := by omega
        have h4 : 999 < m := by omega
        clear hb2 h3
        go_enter Tryd.func34, Tryd.ntmps34
        go_wp2_with fail
        obtain ⟨h2, h3⟩ := wht_new w (f, r, o, s, t) (999, r, o, v, a)
        exact ret_part 6 24 (.inr rfl) Tryd.results34 _ rfl _ h2 rfl ⟨rfl, h3⟩

/-- Two variables of nothing. -/
def two_boxes0 (w : World) : Prop := BoxF ((w.alloc (.cells (row5 zer) 27)).alloc (.cells (row5 zer) 24)) 27 w.heap.size zer ∧ BoxF ((w.alloc (.cells (row5 zer) 27)).alloc (.cells (row5 zer) 24)) 24 (w.heap.size + 1) zer ∧
    Below w.heap.size w ((w.alloc (.cells (row5 zer) 27)).alloc (.cells (row5 zer) 24))
theorem two_boxes0_is (w : World) : two_boxes0 w := ⟨(BoxF.new w 27 zer).alloc _, (wht_new w zer zer).1, (wht_new w zer zer).2⟩
set_option maxHeartbeats 1000000 in
theorem refDone_go (f r o s t v a : Int) (g : Nat) (w : World) (hf : 0 ≤ f ∧ f ≤ 999) (hs : 0 ≤ s ∧ s ≤ 999) (hg : BoxF w 27 g (f, r, o, s, t)) :
    Calls Tryd.prog 33 #[.int .i64 v, .int .i64 a, .pointer (some ⟨g, 0, none⟩)] w fun e w' => TookPost (don f r o s v a) w e w' := by
  have HW : Hid (∀ w1, Calls Tryd.prog 34 #[.agg #[.int .i64 f, .int .i64 r, .int .i64 o, .int .i64 s, .int .i64 t], .int .i64 v, .int .i64 a] w1 fun e w' => e = .returned (fv (bth f s, r, o, v, a)) ∧ Below w1.heap.size w1 w') := fun w1 => whole_go f r o s t v a w1 hf hs
  have c0 : ∀ o1 o2, ((w.alloc o1).alloc o2).cell? ⟨g, 0, none⟩ = some (.int .i64 f) := fun o1 o2 => ((hg.alloc o1).alloc o2).c0
  have c1 : ∀ o1 o2, ((w.alloc o1).alloc o2).cell? ⟨g, 1, none⟩ = some (.int .i64 r) := fun o1 o2 => ((hg.alloc o1).alloc o2).c1
  have c2 : ∀ o1 o2, ((w.alloc o1).alloc o2).cell? ⟨g, 2, none⟩ = some (.int .i64 o) := fun o1 o2 => ((hg.alloc o1).alloc o2).c2
  have c3 : ∀ o1 o2, ((w.alloc o1).alloc o2).cell? ⟨g, 3, none⟩ = some (.int .i64 s) := fun o1 o2 => ((hg.alloc o1).alloc o2).c3
  have c4 : ∀ o1 o2, ((w.alloc o1).alloc o2).cell? ⟨g, 4, none⟩ = some (.int .i64 t) := fun o1 o2 => ((hg.alloc o1).alloc o2).c4
  have HN : Hid (two_boxes0 w) := two_boxes0_is w
  clear hf hs hg
  obtain ⟨m, hm⟩ : ∃ m, m = bth f s := ⟨_, rfl⟩
  have HM : Hid (don f r o s v a = (zer, (m, r, o, v, a), 2)) := by show don f r o s v a = _; rw [hm]; rfl
  rw [HM.out]
  rw [← hm] at HW
  clear hm HM
  go_enter Tryd.func33, Tryd.ntmps33
  go_wp2_with fail
  refine (HW.out _).mono ?_
  rintro e w1 ⟨rfl, hb⟩
  have HB : Hid (BoxF w1 27 w.heap.size zer ∧ BoxF w1 24 (w.heap.size + 1) zer ∧ Below w.heap.size w w1) := ⟨HN.out.1.below hb, HN.out.2.1.below hb, HN.out.2.2.trans (hb.mono HN.out.2.2.size)⟩
  clear HN HW hb c0 c1 c2 c3 c4
  go_wp2_with (first | (refine storeF rfl 27 _ _ rfl (.inl rfl) _ rfl zer zer rfl HB.out.1 ?_) | (refine storeF rfl 24 _ _ rfl (.inr rfl) _ rfl (m, r, o, v, a) zer rfl (HB.out.2.1.other _ (by omega)) ?_))
  exact ret_two (R := (zer, (m, r, o, v, a), 2)) 5 6 7 Tryd.results33 HB.out.1 HB.out.2.1 (by omega) HB.out.2.2 (Nat.le_refl _) rfl rfl rfl rfl
end Go.Proofs.YtjpgjhdkgmddfaaDoor.Seek
