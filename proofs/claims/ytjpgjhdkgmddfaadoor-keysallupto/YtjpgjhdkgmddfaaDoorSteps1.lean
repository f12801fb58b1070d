/- The contracts of keys.named, operator, withOp, withoutOp, counted, awaited and step. -/
import Derived.Test.YtjpgjhdkgmddfaaDoorParts
set_option linter.unusedVariables false
set_option linter.unusedSimpArgs false
namespace Go.Proofs.YtjpgjhdkgmddfaaDoor.Seek
open Go.RowKit Plain

set_option maxHeartbeats 1000000 in
theorem named_go (f r o s t k : Int) (w : World) :
    Calls Tryd.prog 39 #[.agg #[.int .i64 f, .int .i64 r, .int .i64 o, .int .i64 s, .int .i64 t], .int .i64 k] w fun e w' => TookPost (nmd f r o s t k) w e w' := by
  unfold nmd
  cases hl : letter k
  · rw [if_neg (by decide)]
    have HL : Hid (letter k = false) := hl
    clear hl
    go_enter Tryd.func39, Tryd.ntmps39
    go_wp2_with fail
    have HE1 : Hid (Enter w _ (f, r, o, s, t) w.heap.size (w.heap.size + 1) (w.heap.size + 1 + 1)) := enter_is w f r o s t
    generalize (((w.alloc (Obj.cells #[Value.int IntKind.i64 f, Value.int IntKind.i64 r, Value.int IntKind.i64 o, Value.int IntKind.i64 s, Value.int IntKind.i64 t] 27)).alloc (Obj.cells #[Value.int IntKind.i64 0, Value.int IntKind.i64 0, Value.int IntKind.i64 0, Value.int IntKind.i64 0, Value.int IntKind.i64 0] 27)).alloc (Obj.cells #[Value.int IntKind.i64 0, Value.int IntKind.i64 0, Value.int IntKind.i64 0, Value.int IntKind.i64 0, Value.int IntKind.i64 0] 24)) = w1 at *
    obtain ⟨c0, c1, c2, c3, c4⟩ := HE1.out.cells
    refine (isLetter_go k _).mono ?_
    rintro e w' ⟨rfl, rfl⟩
    rw [HL.out]
    go_wp2_with fail
    refine (wrong_go _).mono ?_
    rintro e w2 ⟨rfl, hb⟩
    have HE2 : Hid (Enter w w2 (f, r, o, s, t) w.heap.size (w.heap.size + 1) (w.heap.size + 1 + 1)) := HE1.out.below hb
    clear hb
    clear HE1
    go_wp2_with (first | (refine storeF rfl 27 _ _ rfl (.inl rfl) _ rfl wrg.1 zer rfl HE2.out.2.1 ?_) | (refine storeF rfl 24 _ _ rfl (.inr rfl) _ rfl wrg.2.1 zer rfl (HE2.out.2.2.1.other _ (by omega)) ?_))
    exact HE2.out.end 4 5 6 Tryd.results39 rfl rfl rfl rfl
  · rw [if_pos rfl]
    have HL : Hid (letter k = true) := hl
    clear hl
    go_enter Tryd.func39, Tryd.ntmps39
    go_wp2_with fail
    refine (isLetter_go k _).mono ?_
    rintro e w' ⟨rfl, rfl⟩
    rw [HL.out]
    go_wp2_with fail
    have HE1 : Hid (Enter w _ (f, k, o, s, 0) _ _ _) := enter_new w (f, k, o, s, 0)
    refine (more_go f k o s 0 _).mono ?_
    rintro e w2 ⟨rfl, hb⟩
    have HE2 : Hid (Enter w w2 (f, k, o, s, 0) w.heap.size (w.heap.size + 1) (w.heap.size + 1 + 1)) := HE1.out.below hb
    clear hb
    clear HE1
    go_wp2_with (first | (refine storeF rfl 27 _ _ rfl (.inl rfl) _ rfl (mor (f, k, o, s, 0)).1 zer rfl HE2.out.2.1 ?_) | (refine storeF rfl 24 _ _ rfl (.inr rfl) _ rfl (mor (f, k, o, s, 0)).2.1 zer rfl (HE2.out.2.2.1.other _ (by omega)) ?_))
    exact HE2.out.end 4 5 6 Tryd.results39 rfl rfl rfl rfl

set_option maxHeartbeats 1000000 in
theorem operator_go (f r o s t k : Int) (w : World) (hf : 0 ≤ f ∧ f ≤ 999) (hs : 0 ≤ s ∧ s ≤ 999) :
    Calls Tryd.prog 27 #[.agg #[.int .i64 f, .int .i64 r, .int .i64 o, .int .i64 s, .int .i64 t], .int .i64 k] w fun e w' => TookPost (opr f r o s t k) w e w' := by
  unfold opr
  by_cases h1 : o = 0
  · subst h1
    rw [if_pos rfl]
    go_enter Tryd.func27, Tryd.ntmps27
    go_wp2_with fail
    have HE1 : Hid (Enter w _ (f, r, k, s, t) _ _ _) := enter_new w (f, r, k, s, t)
    refine (more_go f r k s t _).mono ?_
    rintro e w2 ⟨rfl, hb⟩
    have HE2 : Hid (Enter w w2 (f, r, k, s, t) w.heap.size (w.heap.size + 1) (w.heap.size + 1 + 1)) := HE1.out.below hb
    clear hb
    clear HE1
    go_wp2_with (first | (refine storeF rfl 27 _ _ rfl (.inl rfl) _ rfl (mor (f, r, k, s, t)).1 zer rfl HE2.out.2.1 ?_) | (refine storeF rfl 24 _ _ rfl (.inr rfl) _ rfl (mor (f, r, k, s, t)).2.1 zer rfl (HE2.out.2.2.1.other _ (by omega)) ?_))
    exact HE2.out.end 4 5 6 Tryd.results27 rfl rfl rfl rfl
  · rw [if_neg h1]
    have h2 : (o == 0) = false := by simpa using h1
    have HC : Hid ((0 ≤ f ∧ f ≤ 999) ∧ (0 ≤ s ∧ s ≤ 999)) := ⟨hf, hs⟩
    clear h1 hf hs
    by_cases h3 : o = k
    · subst h3
      rw [if_pos rfl]
      go_enter Tryd.func27, Tryd.ntmps27
      go_wp2_with fail
      have HE1 : Hid (Enter w _ (f, r, o, s, t) w.heap.size (w.heap.size + 1) (w.heap.size + 1 + 1)) := enter_is w f r o s t
      generalize (((w.alloc (Obj.cells #[Value.int IntKind.i64 f, Value.int IntKind.i64 r, Value.int IntKind.i64 o, Value.int IntKind.i64 s, Value.int IntKind.i64 t] 27)).alloc (Obj.cells #[Value.int IntKind.i64 0, Value.int IntKind.i64 0, Value.int IntKind.i64 0, Value.int IntKind.i64 0, Value.int IntKind.i64 0] 27)).alloc (Obj.cells #[Value.int IntKind.i64 0, Value.int IntKind.i64 0, Value.int IntKind.i64 0, Value.int IntKind.i64 0, Value.int IntKind.i64 0] 24)) = w1 at *
      obtain ⟨c0, c1, c2, c3, c4⟩ := HE1.out.cells
      refine (done_go f r o s t o 0 _ HC.out.1 HC.out.2).mono ?_
      rintro e w2 ⟨rfl, hb⟩
      have HE2 : Hid (Enter w w2 (f, r, o, s, t) w.heap.size (w.heap.size + 1) (w.heap.size + 1 + 1)) := HE1.out.below hb
      clear hb
      clear HE1
      go_wp2_with (first | (refine storeF rfl 27 _ _ rfl (.inl rfl) _ rfl (don f r o s o 0).1 zer rfl HE2.out.2.1 ?_) | (refine storeF rfl 24 _ _ rfl (.inr rfl) _ rfl (don f r o s o 0).2.1 zer rfl (HE2.out.2.2.1.other _ (by omega)) ?_))
      exact HE2.out.end 4 5 6 Tryd.results27 rfl rfl rfl rfl
    · rw [if_neg h3]
      have h4 : (o == k) = false := by simpa using h3
      clear h3
      go_enter Tryd.func27, Tryd.ntmps27
      go_wp2_with fail
      have HE1 : Hid (Enter w _ (f, r, o, s, t) w.heap.size (w.heap.size + 1) (w.heap.size + 1 + 1)) := enter_is w f r o s t
      generalize (((w.alloc (Obj.cells #[Value.int IntKind.i64 f, Value.int IntKind.i64 r, Value.int IntKind.i64 o, Value.int IntKind.i64 s, Value.int IntKind.i64 t] 27)).alloc (Obj.cells #[Value.int IntKind.i64 0, Value.int IntKind.i64 0, Value.int IntKind.i64 0, Value.int IntKind.i64 0, Value.int IntKind.i64 0] 27)).alloc (Obj.cells #[Value.int IntKind.i64 0, Value.int IntKind.i64 0, Value.int IntKind.i64 0, Value.int IntKind.i64 0, Value.int IntKind.i64 0] 24)) = w1 at *
      obtain ⟨c0, c1, c2, c3, c4⟩ := HE1.out.cells
      refine (wrong_go _).mono ?_
      rintro e w2 ⟨rfl, hb⟩
      have HE2 : Hid (Enter w w2 (f, r, o, s, t) w.heap.size (w.heap.size + 1) (w.heap.size + 1 + 1)) := HE1.out.below hb
      clear hb
      clear HE1
      go_wp2_with (first | (refine storeF rfl 27 _ _ rfl (.inl rfl) _ rfl wrg.1 zer rfl HE2.out.2.1 ?_) | (refine storeF rfl 24 _ _ rfl (.inr rfl) _ rfl wrg.2.1 zer rfl (HE2.out.2.2.1.other _ (by omega)) ?_))
      exact HE2.out.end 4 5 6 Tryd.results27 rfl rfl rfl rfl

set_option maxHeartbeats 1000000 in
theorem withOp_go (f r o s t k : Int) (w : World) :
    Calls Tryd.prog 30 #[.agg #[.int .i64 f, .int .i64 r, .int .i64 o, .int .i64 s, .int .i64 t], .int .i64 k] w fun e w' => TookPost (wop f r o s t k) w e w' := by
  unfold wop
  cases hl : has sids k
  · rw [if_neg (by decide)]
    have HL : Hid (has (codes ⟨#[105, 97]⟩) k = false) := hl
    clear hl
    go_enter Tryd.func30, Tryd.ntmps30
    go_wp2_with fail
    have HE1 : Hid (Enter w _ (f, r, o, s, t) w.heap.size (w.heap.size + 1) (w.heap.size + 1 + 1)) := enter_is w f r o s t
    generalize (((w.alloc (Obj.cells #[Value.int IntKind.i64 f, Value.int IntKind.i64 r, Value.int IntKind.i64 o, Value.int IntKind.i64 s, Value.int IntKind.i64 t] 27)).alloc (Obj.cells #[Value.int IntKind.i64 0, Value.int IntKind.i64 0, Value.int IntKind.i64 0, Value.int IntKind.i64 0, Value.int IntKind.i64 0] 27)).alloc (Obj.cells #[Value.int IntKind.i64 0, Value.int IntKind.i64 0, Value.int IntKind.i64 0, Value.int IntKind.i64 0, Value.int IntKind.i64 0] 24)) = w1 at *
    obtain ⟨c0, c1, c2, c3, c4⟩ := HE1.out.cells
    refine (among_go ⟨#[105, 97]⟩ k false _ (ascii_of (by decide)) (by decide) HL.out).mono ?_
    rintro e w2 ⟨rfl, hb⟩
    have HE2 : Hid (Enter w w2 (f, r, o, s, t) w.heap.size (w.heap.size + 1) (w.heap.size + 1 + 1)) := HE1.out.below hb
    clear hb
    clear HE1 c0 c1 c2 c3 c4
    obtain ⟨c0, c1, c2, c3, c4⟩ := HE2.out.cells
    go_wp2_with fail
    refine (wrong_go _).mono ?_
    rintro e w3 ⟨rfl, hb⟩
    have HE3 : Hid (Enter w w3 (f, r, o, s, t) w.heap.size (w.heap.size + 1) (w.heap.size + 1 + 1)) := HE2.out.below hb
    clear hb
    clear HE2
    go_wp2_with (first | (refine storeF rfl 27 _ _ rfl (.inl rfl) _ rfl wrg.1 zer rfl HE3.out.2.1 ?_) | (refine storeF rfl 24 _ _ rfl (.inr rfl) _ rfl wrg.2.1 zer rfl (HE3.out.2.2.1.other _ (by omega)) ?_))
    exact HE3.out.end 4 5 6 Tryd.results30 rfl rfl rfl rfl
  · rw [if_pos rfl]
    have HL : Hid (has (codes ⟨#[105, 97]⟩) k = true) := hl
    clear hl
    go_enter Tryd.func30, Tryd.ntmps30
    go_wp2_with fail
    have HE1 : Hid (Enter w _ (f, r, o, s, t) w.heap.size (w.heap.size + 1) (w.heap.size + 1 + 1)) := enter_is w f r o s t
    generalize (((w.alloc (Obj.cells #[Value.int IntKind.i64 f, Value.int IntKind.i64 r, Value.int IntKind.i64 o, Value.int IntKind.i64 s, Value.int IntKind.i64 t] 27)).alloc (Obj.cells #[Value.int IntKind.i64 0, Value.int IntKind.i64 0, Value.int IntKind.i64 0, Value.int IntKind.i64 0, Value.int IntKind.i64 0] 27)).alloc (Obj.cells #[Value.int IntKind.i64 0, Value.int IntKind.i64 0, Value.int IntKind.i64 0, Value.int IntKind.i64 0, Value.int IntKind.i64 0] 24)) = w1 at *
    obtain ⟨c0, c1, c2, c3, c4⟩ := HE1.out.cells
    refine (among_go ⟨#[105, 97]⟩ k true _ (ascii_of (by decide)) (by decide) HL.out).mono ?_
    rintro e w2 ⟨rfl, hb⟩
    have HE2 : Hid (Enter w w2 (f, r, o, s, t) w.heap.size (w.heap.size + 1) (w.heap.size + 1 + 1)) := HE1.out.below hb
    clear hb
    clear HE1 c0 c1 c2 c3 c4
    obtain ⟨c0, c1, c2, c3, c4⟩ := HE2.out.cells
    go_wp2_with fail
    refine (wait_go f r o s t k _).mono ?_
    rintro e w3 ⟨rfl, hb⟩
    have HE3 : Hid (Enter w w3 (f, r, o, s, t) w.heap.size (w.heap.size + 1) (w.heap.size + 1 + 1)) := HE2.out.below hb
    clear hb
    clear HE2
    go_wp2_with (first | (refine storeF rfl 27 _ _ rfl (.inl rfl) _ rfl (wtg f r o s t k).1 zer rfl HE3.out.2.1 ?_) | (refine storeF rfl 24 _ _ rfl (.inr rfl) _ rfl (wtg f r o s t k).2.1 zer rfl (HE3.out.2.2.1.other _ (by omega)) ?_))
    exact HE3.out.end 4 5 6 Tryd.results30 rfl rfl rfl rfl

set_option maxHeartbeats 1000000 in
theorem withoutOp_go (f r o s t k : Int) (w : World) (hf : 0 ≤ f ∧ f ≤ 999) (hs : 0 ≤ s ∧ s ≤ 999) :
    Calls Tryd.prog 31 #[.agg #[.int .i64 f, .int .i64 r, .int .i64 o, .int .i64 s, .int .i64 t], .int .i64 k] w fun e w' => TookPost (wno f r o s t k) w e w' := by
  unfold wno
  have HC : Hid ((0 ≤ f ∧ f ≤ 999) ∧ (0 ≤ s ∧ s ≤ 999)) := ⟨hf, hs⟩
  clear hf hs
  by_cases h1 : k = 34 ∧ r = 0 ∨ k = 114
  · rw [if_pos h1]
    rcases h1 with ⟨rfl, rfl⟩ | rfl
    · skip
      go_enter Tryd.func31, Tryd.ntmps31
      go_wp2_with fail
      have HE1 : Hid (Enter w _ (f, 0, o, s, t) _ _ _) := enter_new w (f, 0, o, s, t)
      refine (wait_go f 0 o s t 34 _).mono ?_
      rintro e w2 ⟨rfl, hb⟩
      have HE2 : Hid (Enter w w2 (f, 0, o, s, t) w.heap.size (w.heap.size + 1) (w.heap.size + 1 + 1)) := HE1.out.below hb
      clear hb
      clear HE1
      go_wp2_with (first | (refine storeF rfl 27 _ _ rfl (.inl rfl) _ rfl (wtg f 0 o s t 34).1 zer rfl HE2.out.2.1 ?_) | (refine storeF rfl 24 _ _ rfl (.inr rfl) _ rfl (wtg f 0 o s t 34).2.1 zer rfl (HE2.out.2.2.1.other _ (by omega)) ?_))
      exact HE2.out.end 4 5 6 Tryd.results31 rfl rfl rfl rfl
    · skip
      go_enter Tryd.func31, Tryd.ntmps31
      go_wp2_with fail
      have HE1 : Hid (Enter w _ (f, r, o, s, t) _ _ _) := enter_new w (f, r, o, s, t)
      refine (wait_go f r o s t 114 _).mono ?_
      rintro e w2 ⟨rfl, hb⟩
      have HE2 : Hid (Enter w w2 (f, r, o, s, t) w.heap.size (w.heap.size + 1) (w.heap.size + 1 + 1)) := HE1.out.below hb
      clear hb
      clear HE1
      go_wp2_with (first | (refine storeF rfl 27 _ _ rfl (.inl rfl) _ rfl (wtg f r o s t 114).1 zer rfl HE2.out.2.1 ?_) | (refine storeF rfl 24 _ _ rfl (.inr rfl) _ rfl (wtg f r o s t 114).2.1 zer rfl (HE2.out.2.2.1.other _ (by omega)) ?_))
      exact HE2.out.end 4 5 6 Tryd.results31 rfl rfl rfl rfl
  · rw [if_neg h1]
    have HA : Hid ((k == 34) = false ∨ ((k == 34) = true ∧ (r == 0) = false)) := by
      by_cases h2 : k = 34
      · exact .inr ⟨by simpa using h2, by simp only [beq_eq_false_iff_ne]; omega⟩
      · exact .inl (by simpa using h2)
    have h4 : (k == 114) = false := by simp only [beq_eq_false_iff_ne]; omega
    clear h1
    cases hl : has lons k
    · rw [if_neg (by decide)]
      have HL : Hid (has (codes ⟨#[105, 97, 73, 65, 115, 83, 67, 68, 120, 88, 112, 80, 89, 126, 117, 85, 46, 106, 107, 71, 47, 63, 110, 78, 82]⟩) k = false) := hl
      clear hl
      rcases HA.out with ha | ⟨ha, ha2⟩
      · skip
        clear HA
        go_enter Tryd.func31, Tryd.ntmps31
        go_wp2_with fail
        have HE1 : Hid (Enter w _ (f, r, o, s, t) w.heap.size (w.heap.size + 1) (w.heap.size + 1 + 1)) := enter_is w f r o s t
        generalize (((w.alloc (Obj.cells #[Value.int IntKind.i64 f, Value.int IntKind.i64 r, Value.int IntKind.i64 o, Value.int IntKind.i64 s, Value.int IntKind.i64 t] 27)).alloc (Obj.cells #[Value.int IntKind.i64 0, Value.int IntKind.i64 0, Value.int IntKind.i64 0, Value.int IntKind.i64 0, Value.int IntKind.i64 0] 27)).alloc (Obj.cells #[Value.int IntKind.i64 0, Value.int IntKind.i64 0, Value.int IntKind.i64 0, Value.int IntKind.i64 0, Value.int IntKind.i64 0] 24)) = w1 at *
        obtain ⟨c0, c1, c2, c3, c4⟩ := HE1.out.cells
        clear ha
        refine (among_go ⟨#[105, 97, 73, 65, 115, 83, 67, 68, 120, 88, 112, 80, 89, 126, 117, 85, 46, 106, 107, 71, 47, 63, 110, 78, 82]⟩ k false _ (ascii_of (by decide)) (by decide) HL.out).mono ?_
        rintro e w2 ⟨rfl, hb⟩
        have HE2 : Hid (Enter w w2 (f, r, o, s, t) w.heap.size (w.heap.size + 1) (w.heap.size + 1 + 1)) := HE1.out.below hb
        clear hb
        clear HE1 c0 c1 c2 c3 c4
        obtain ⟨c0, c1, c2, c3, c4⟩ := HE2.out.cells
        go_wp2_with fail
        refine (wrong_go _).mono ?_
        rintro e w3 ⟨rfl, hb⟩
        have HE3 : Hid (Enter w w3 (f, r, o, s, t) w.heap.size (w.heap.size + 1) (w.heap.size + 1 + 1)) := HE2.out.below hb
        clear hb
        clear HE2
        go_wp2_with (first | (refine storeF rfl 27 _ _ rfl (.inl rfl) _ rfl wrg.1 zer rfl HE3.out.2.1 ?_) | (refine storeF rfl 24 _ _ rfl (.inr rfl) _ rfl wrg.2.1 zer rfl (HE3.out.2.2.1.other _ (by omega)) ?_))
        exact HE3.out.end 4 5 6 Tryd.results31 rfl rfl rfl rfl
      · skip
        clear HA
        go_enter Tryd.func31, Tryd.ntmps31
        go_wp2_with fail
        have HE1 : Hid (Enter w _ (f, r, o, s, t) w.heap.size (w.heap.size + 1) (w.heap.size + 1 + 1)) := enter_is w f r o s t
        generalize (((w.alloc (Obj.cells #[Value.int IntKind.i64 f, Value.int IntKind.i64 r, Value.int IntKind.i64 o, Value.int IntKind.i64 s, Value.int IntKind.i64 t] 27)).alloc (Obj.cells #[Value.int IntKind.i64 0, Value.int IntKind.i64 0, Value.int IntKind.i64 0, Value.int IntKind.i64 0, Value.int IntKind.i64 0] 27)).alloc (Obj.cells #[Value.int IntKind.i64 0, Value.int IntKind.i64 0, Value.int IntKind.i64 0, Value.int IntKind.i64 0, Value.int IntKind.i64 0] 24)) = w1 at *
        obtain ⟨c0, c1, c2, c3, c4⟩ := HE1.out.cells
        clear ha ha2
        refine (among_go ⟨#[105, 97, 73, 65, 115, 83, 67, 68, 120, 88, 112, 80, 89, 126, 117, 85, 46, 106, 107, 71, 47, 63, 110, 78, 82]⟩ k false _ (ascii_of (by decide)) (by decide) HL.out).mono ?_
        rintro e w2 ⟨rfl, hb⟩
        have HE2 : Hid (Enter w w2 (f, r, o, s, t) w.heap.size (w.heap.size + 1) (w.heap.size + 1 + 1)) := HE1.out.below hb
        clear hb
        clear HE1 c0 c1 c2 c3 c4
        obtain ⟨c0, c1, c2, c3, c4⟩ := HE2.out.cells
        go_wp2_with fail
        refine (wrong_go _).mono ?_
        rintro e w3 ⟨rfl, hb⟩
        have HE3 : Hid (Enter w w3 (f, r, o, s, t) w.heap.size (w.heap.size + 1) (w.heap.size + 1 + 1)) := HE2.out.below hb
        clear hb
        clear HE2
        go_wp2_with (first | (refine storeF rfl 27 _ _ rfl (.inl rfl) _ rfl wrg.1 zer rfl HE3.out.2.1 ?_) | (refine storeF rfl 24 _ _ rfl (.inr rfl) _ rfl wrg.2.1 zer rfl (HE3.out.2.2.1.other _ (by omega)) ?_))
        exact HE3.out.end 4 5 6 Tryd.results31 rfl rfl rfl rfl
    · rw [if_pos rfl]
      have HL : Hid (has (codes ⟨#[105, 97, 73, 65, 115, 83, 67, 68, 120, 88, 112, 80, 89, 126, 117, 85, 46, 106, 107, 71, 47, 63, 110, 78, 82]⟩) k = true) := hl
      clear hl
      rcases HA.out with ha | ⟨ha, ha2⟩
      · skip
        clear HA
        go_enter Tryd.func31, Tryd.ntmps31
        go_wp2_with fail
        have HE1 : Hid (Enter w _ (f, r, o, s, t) w.heap.size (w.heap.size + 1) (w.heap.size + 1 + 1)) := enter_is w f r o s t
        generalize (((w.alloc (Obj.cells #[Value.int IntKind.i64 f, Value.int IntKind.i64 r, Value.int IntKind.i64 o, Value.int IntKind.i64 s, Value.int IntKind.i64 t] 27)).alloc (Obj.cells #[Value.int IntKind.i64 0, Value.int IntKind.i64 0, Value.int IntKind.i64 0, Value.int IntKind.i64 0, Value.int IntKind.i64 0] 27)).alloc (Obj.cells #[Value.int IntKind.i64 0, Value.int IntKind.i64 0, Value.int IntKind.i64 0, Value.int IntKind.i64 0, Value.int IntKind.i64 0] 24)) = w1 at *
        obtain ⟨c0, c1, c2, c3, c4⟩ := HE1.out.cells
        clear ha
        refine (among_go ⟨#[105, 97, 73, 65, 115, 83, 67, 68, 120, 88, 112, 80, 89, 126, 117, 85, 46, 106, 107, 71, 47, 63, 110, 78, 82]⟩ k true _ (ascii_of (by decide)) (by decide) HL.out).mono ?_
        rintro e w2 ⟨rfl, hb⟩
        have HE2 : Hid (Enter w w2 (f, r, o, s, t) w.heap.size (w.heap.size + 1) (w.heap.size + 1 + 1)) := HE1.out.below hb
        clear hb
        clear HE1 c0 c1 c2 c3 c4
        obtain ⟨c0, c1, c2, c3, c4⟩ := HE2.out.cells
        go_wp2_with fail
        refine (done_go f r o s t k 0 _ HC.out.1 HC.out.2).mono ?_
        rintro e w3 ⟨rfl, hb⟩
        have HE3 : Hid (Enter w w3 (f, r, o, s, t) w.heap.size (w.heap.size + 1) (w.heap.size + 1 + 1)) := HE2.out.below hb
        clear hb
        clear HE2
        go_wp2_with (first | (refine storeF rfl 27 _ _ rfl (.inl rfl) _ rfl (don f r o s k 0).1 zer rfl HE3.out.2.1 ?_) | (refine storeF rfl 24 _ _ rfl (.inr rfl) _ rfl (don f r o s k 0).2.1 zer rfl (HE3.out.2.2.1.other _ (by omega)) ?_))
        exact HE3.out.end 4 5 6 Tryd.results31 rfl rfl rfl rfl
      · skip
        clear HA
        go_enter Tryd.func31, Tryd.ntmps31
        go_wp2_with fail
        have HE1 : Hid (Enter w _ (f, r, o, s, t) w.heap.size (w.heap.size + 1) (w.heap.size + 1 + 1)) := enter_is w f r o s t
        generalize (((w.alloc (Obj.cells #[Value.int IntKind.i64 f, Value.int IntKind.i64 r, Value.int IntKind.i64 o, Value.int IntKind.i64 s, Value.int IntKind.i64 t] 27)).alloc (Obj.cells #[Value.int IntKind.i64 0, Value.int IntKind.i64 0, Value.int IntKind.i64 0, Value.int IntKind.i64 0, Value.int IntKind.i64 0] 27)).alloc (Obj.cells #[Value.int IntKind.i64 0, Value.int IntKind.i64 0, Value.int IntKind.i64 0, Value.int IntKind.i64 0, Value.int IntKind.i64 0] 24)) = w1 at *
        obtain ⟨c0, c1, c2, c3, c4⟩ := HE1.out.cells
        clear ha ha2
        refine (among_go ⟨#[105, 97, 73, 65, 115, 83, 67, 68, 120, 88, 112, 80, 89, 126, 117, 85, 46, 106, 107, 71, 47, 63, 110, 78, 82]⟩ k true _ (ascii_of (by decide)) (by decide) HL.out).mono ?_
        rintro e w2 ⟨rfl, hb⟩
        have HE2 : Hid (Enter w w2 (f, r, o, s, t) w.heap.size (w.heap.size + 1) (w.heap.size + 1 + 1)) := HE1.out.below hb
        clear hb
        clear HE1 c0 c1 c2 c3 c4
        obtain ⟨c0, c1, c2, c3, c4⟩ := HE2.out.cells
        go_wp2_with fail
        refine (done_go f r o s t k 0 _ HC.out.1 HC.out.2).mono ?_
        rintro e w3 ⟨rfl, hb⟩
        have HE3 : Hid (Enter w w3 (f, r, o, s, t) w.heap.size (w.heap.size + 1) (w.heap.size + 1 + 1)) := HE2.out.below hb
        clear hb
        clear HE2
        go_wp2_with (first | (refine storeF rfl 27 _ _ rfl (.inl rfl) _ rfl (don f r o s k 0).1 zer rfl HE3.out.2.1 ?_) | (refine storeF rfl 24 _ _ rfl (.inr rfl) _ rfl (don f r o s k 0).2.1 zer rfl (HE3.out.2.2.1.other _ (by omega)) ?_))
        exact HE3.out.end 4 5 6 Tryd.results31 rfl rfl rfl rfl

set_option maxHeartbeats 1000000 in
theorem awaited_go (f r o s t k : Int) (w : World) (hf : 0 ≤ f ∧ f ≤ 999) (hs : 0 ≤ s ∧ s ≤ 999) :
    Calls Tryd.prog 22 #[.agg #[.int .i64 f, .int .i64 r, .int .i64 o, .int .i64 s, .int .i64 t], .int .i64 k] w fun e w' => TookPost (awt f r o s t k) w e w' := by
  unfold awt
  have HC : Hid ((0 ≤ f ∧ f ≤ 999) ∧ (0 ≤ s ∧ s ≤ 999)) := ⟨hf, hs⟩
  clear hf hs
  by_cases h1 : t = 34
  · subst h1
    rw [if_pos rfl]
    go_enter Tryd.func22, Tryd.ntmps22
    go_wp2_with fail
    have HE1 : Hid (Enter w _ (f, r, o, s, 34) _ _ _) := enter_new w (f, r, o, s, 34)
    refine (named_go f r o s 34 k _).mono ?_
    rintro e w2 ⟨rfl, hb⟩
    have HE2 : Hid (Enter w w2 (f, r, o, s, 34) w.heap.size (w.heap.size + 1) (w.heap.size + 1 + 1)) := HE1.out.below hb
    clear hb
    clear HE1
    go_wp2_with (first | (refine storeF rfl 27 _ _ rfl (.inl rfl) _ rfl (nmd f r o s 34 k).1 zer rfl HE2.out.2.1 ?_) | (refine storeF rfl 24 _ _ rfl (.inr rfl) _ rfl (nmd f r o s 34 k).2.1 zer rfl (HE2.out.2.2.1.other _ (by omega)) ?_))
    exact HE2.out.end 4 5 6 Tryd.results22 rfl rfl rfl rfl
  · rw [if_neg h1]
    have h2 : (t == 34) = false := by simpa using h1
    clear h1
    cases hl : has sids t
    · rw [if_neg (fun h => absurd h.1 (by decide))]
      have HL : Hid (has (codes ⟨#[105, 97]⟩) t = false) := hl
      clear hl
      go_enter Tryd.func22, Tryd.ntmps22
      go_wp2_with fail
      have HE1 : Hid (Enter w _ (f, r, o, s, t) w.heap.size (w.heap.size + 1) (w.heap.size + 1 + 1)) := enter_is w f r o s t
      generalize (((w.alloc (Obj.cells #[Value.int IntKind.i64 f, Value.int IntKind.i64 r, Value.int IntKind.i64 o, Value.int IntKind.i64 s, Value.int IntKind.i64 t] 27)).alloc (Obj.cells #[Value.int IntKind.i64 0, Value.int IntKind.i64 0, Value.int IntKind.i64 0, Value.int IntKind.i64 0, Value.int IntKind.i64 0] 27)).alloc (Obj.cells #[Value.int IntKind.i64 0, Value.int IntKind.i64 0, Value.int IntKind.i64 0, Value.int IntKind.i64 0, Value.int IntKind.i64 0] 24)) = w1 at *
      obtain ⟨c0, c1, c2, c3, c4⟩ := HE1.out.cells
      clear h2
      refine (among_go ⟨#[105, 97]⟩ t false _ (ascii_of (by decide)) (by decide) HL.out).mono ?_
      rintro e w2 ⟨rfl, hb⟩
      have HE2 : Hid (Enter w w2 (f, r, o, s, t) w.heap.size (w.heap.size + 1) (w.heap.size + 1 + 1)) := HE1.out.below hb
      clear hb
      clear HE1 c0 c1 c2 c3 c4
      obtain ⟨c0, c1, c2, c3, c4⟩ := HE2.out.cells
      go_wp2_with fail
      refine (done_go f r o s t t k _ HC.out.1 HC.out.2).mono ?_
      rintro e w3 ⟨rfl, hb⟩
      have HE3 : Hid (Enter w w3 (f, r, o, s, t) w.heap.size (w.heap.size + 1) (w.heap.size + 1 + 1)) := HE2.out.below hb
      clear hb
      clear HE2
      go_wp2_with (first | (refine storeF rfl 27 _ _ rfl (.inl rfl) _ rfl (don f r o s t k).1 zer rfl HE3.out.2.1 ?_) | (refine storeF rfl 24 _ _ rfl (.inr rfl) _ rfl (don f r o s t k).2.1 zer rfl (HE3.out.2.2.1.other _ (by omega)) ?_))
      exact HE3.out.end 4 5 6 Tryd.results22 rfl rfl rfl rfl
    · skip
      have HL : Hid (has (codes ⟨#[105, 97]⟩) t = true) := hl
      clear hl
      cases hm : has thgs k
      · rw [if_pos ⟨rfl, rfl⟩]
        have HM : Hid (has (codes ⟨#[119, 87, 40, 41, 91, 93, 123, 125, 34, 39, 96]⟩) k = false) := hm
        clear hm
        go_enter Tryd.func22, Tryd.ntmps22
        go_wp2_with fail
        have HE1 : Hid (Enter w _ (f, r, o, s, t) w.heap.size (w.heap.size + 1) (w.heap.size + 1 + 1)) := enter_is w f r o s t
        generalize (((w.alloc (Obj.cells #[Value.int IntKind.i64 f, Value.int IntKind.i64 r, Value.int IntKind.i64 o, Value.int IntKind.i64 s, Value.int IntKind.i64 t] 27)).alloc (Obj.cells #[Value.int IntKind.i64 0, Value.int IntKind.i64 0, Value.int IntKind.i64 0, Value.int IntKind.i64 0, Value.int IntKind.i64 0] 27)).alloc (Obj.cells #[Value.int IntKind.i64 0, Value.int IntKind.i64 0, Value.int IntKind.i64 0, Value.int IntKind.i64 0, Value.int IntKind.i64 0] 24)) = w1 at *
        obtain ⟨c0, c1, c2, c3, c4⟩ := HE1.out.cells
        clear h2
        refine (among_go ⟨#[105, 97]⟩ t true _ (ascii_of (by decide)) (by decide) HL.out).mono ?_
        rintro e w2 ⟨rfl, hb⟩
        have HE2 : Hid (Enter w w2 (f, r, o, s, t) w.heap.size (w.heap.size + 1) (w.heap.size + 1 + 1)) := HE1.out.below hb
        clear hb
        clear HE1 c0 c1 c2 c3 c4
        obtain ⟨c0, c1, c2, c3, c4⟩ := HE2.out.cells
        go_wp2_with fail
        refine (among_go ⟨#[119, 87, 40, 41, 91, 93, 123, 125, 34, 39, 96]⟩ k false _ (ascii_of (by decide)) (by decide) HM.out).mono ?_
        rintro e w3 ⟨rfl, hb⟩
        have HE3 : Hid (Enter w w3 (f, r, o, s, t) w.heap.size (w.heap.size + 1) (w.heap.size + 1 + 1)) := HE2.out.below hb
        clear hb
        clear HE2 c0 c1 c2 c3 c4
        obtain ⟨c0, c1, c2, c3, c4⟩ := HE3.out.cells
        go_wp2_with fail
        refine (wrong_go _).mono ?_
        rintro e w4 ⟨rfl, hb⟩
        have HE4 : Hid (Enter w w4 (f, r, o, s, t) w.heap.size (w.heap.size + 1) (w.heap.size + 1 + 1)) := HE3.out.below hb
        clear hb
        clear HE3
        go_wp2_with (first | (refine storeF rfl 27 _ _ rfl (.inl rfl) _ rfl wrg.1 zer rfl HE4.out.2.1 ?_) | (refine storeF rfl 24 _ _ rfl (.inr rfl) _ rfl wrg.2.1 zer rfl (HE4.out.2.2.1.other _ (by omega)) ?_))
        exact HE4.out.end 4 5 6 Tryd.results22 rfl rfl rfl rfl
      · rw [if_neg (fun h => absurd h.2 (by decide))]
        have HM : Hid (has (codes ⟨#[119, 87, 40, 41, 91, 93, 123, 125, 34, 39, 96]⟩) k = true) := hm
        clear hm
        go_enter Tryd.func22, Tryd.ntmps22
        go_wp2_with fail
        have HE1 : Hid (Enter w _ (f, r, o, s, t) w.heap.size (w.heap.size + 1) (w.heap.size + 1 + 1)) := enter_is w f r o s t
        generalize (((w.alloc (Obj.cells #[Value.int IntKind.i64 f, Value.int IntKind.i64 r, Value.int IntKind.i64 o, Value.int IntKind.i64 s, Value.int IntKind.i64 t] 27)).alloc (Obj.cells #[Value.int IntKind.i64 0, Value.int IntKind.i64 0, Value.int IntKind.i64 0, Value.int IntKind.i64 0, Value.int IntKind.i64 0] 27)).alloc (Obj.cells #[Value.int IntKind.i64 0, Value.int IntKind.i64 0, Value.int IntKind.i64 0, Value.int IntKind.i64 0, Value.int IntKind.i64 0] 24)) = w1 at *
        obtain ⟨c0, c1, c2, c3, c4⟩ := HE1.out.cells
        clear h2
        refine (among_go ⟨#[105, 97]⟩ t true _ (ascii_of (by decide)) (by decide) HL.out).mono ?_
        rintro e w2 ⟨rfl, hb⟩
        have HE2 : Hid (Enter w w2 (f, r, o, s, t) w.heap.size (w.heap.size + 1) (w.heap.size + 1 + 1)) := HE1.out.below hb
        clear hb
        clear HE1 c0 c1 c2 c3 c4
        obtain ⟨c0, c1, c2, c3, c4⟩ := HE2.out.cells
        go_wp2_with fail
        refine (among_go ⟨#[119, 87, 40, 41, 91, 93, 123, 125, 34, 39, 96]⟩ k true _ (ascii_of (by decide)) (by decide) HM.out).mono ?_
        rintro e w3 ⟨rfl, hb⟩
        have HE3 : Hid (Enter w w3 (f, r, o, s, t) w.heap.size (w.heap.size + 1) (w.heap.size + 1 + 1)) := HE2.out.below hb
        clear hb
        clear HE2 c0 c1 c2 c3 c4
        obtain ⟨c0, c1, c2, c3, c4⟩ := HE3.out.cells
        go_wp2_with fail
        refine (done_go f r o s t t k _ HC.out.1 HC.out.2).mono ?_
        rintro e w4 ⟨rfl, hb⟩
        have HE4 : Hid (Enter w w4 (f, r, o, s, t) w.heap.size (w.heap.size + 1) (w.heap.size + 1 + 1)) := HE3.out.below hb
        clear hb
        clear HE3
        go_wp2_with (first | (refine storeF rfl 27 _ _ rfl (.inl rfl) _ rfl (don f r o s t k).1 zer rfl HE4.out.2.1 ?_) | (refine storeF rfl 24 _ _ rfl (.inr rfl) _ rfl (don f r o s t k).2.1 zer rfl (HE4.out.2.2.1.other _ (by omega)) ?_))
        exact HE4.out.end 4 5 6 Tryd.results22 rfl rfl rfl rfl

set_option maxHeartbeats 1000000 in
theorem counted_go (f r o s t k : Int) (w : World) (hf : 0 ≤ f ∧ f ≤ 999) (hs : 0 ≤ s ∧ s ≤ 999) (hk0 : 48 ≤ k) (hk9 : k ≤ 57) :
    Calls Tryd.prog 25 #[.agg #[.int .i64 f, .int .i64 r, .int .i64 o, .int .i64 s, .int .i64 t], .int .i64 k] w fun e w' => e = .returned (fv (cntd f r o s t k)) ∧ Below w.heap.size w w' := by
  have hm : 0 ≤ mnt f o s ∧ mnt f o s ≤ 999 := by unfold mnt; split <;> omega
  obtain ⟨m, hM⟩ : ∃ m, m = mnt f o s := ⟨_, rfl⟩
  have HM : Hid (mnt f o s = m) := hM.symm
  rw [← hM] at hm
  obtain ⟨hm0, hm9⟩ := hm
  have HC : Hid (cnt f o s k = min (10 * m + k - 48) 999) := by show _ = _; unfold cnt; rw [hM]
  clear hf hs hM
  obtain ⟨q, hq, hq2⟩ : ∃ q, q = min (10 * m + k - 48) 999 ∧ ((q = 10 * m + k - 48 ∧ 10 * m + k - 48 ≤ 999) ∨ (q = 999 ∧ 999 < 10 * m + k - 48)) := by
    refine ⟨_, rfl, ?_⟩
    omega
  rw [← hq] at HC
  clear hq
  by_cases h1 : o = 0
  · subst h1
    have HR : Hid (cntd f r 0 s t k = (q, r, 0, s, t)) := by show cntd f r 0 s t k = _; unfold cntd; rw [if_neg (by decide), HC.out]
    rw [HR.out]
    clear HR HC
    rcases hq2 with ⟨rfl, hq3⟩ | ⟨rfl, hq3⟩
    · skip
      have HE : Hid (BoxF ((w.alloc (.cells #[.int .i64 f, .int .i64 r, .int .i64 0, .int .i64 s, .int .i64 t] 27)).alloc (.cells #[.int .i64 0, .int .i64 0, .int .i64 0, .int .i64 0, .int .i64 0] 27)) 27 w.heap.size (f, r, 0, s, t) ∧ BoxF ((w.alloc (.cells #[.int .i64 f, .int .i64 r, .int .i64 0, .int .i64 s, .int .i64 t] 27)).alloc (.cells #[.int .i64 0, .int .i64 0, .int .i64 0, .int .i64 0, .int .i64 0] 27)) 27 (w.heap.size + 1) zer ∧ Below w.heap.size w ((w.alloc (.cells #[.int .i64 f, .int .i64 r, .int .i64 0, .int .i64 s, .int .i64 t] 27)).alloc (.cells #[.int .i64 0, .int .i64 0, .int .i64 0, .int .i64 0, .int .i64 0] 27))) := two_new w (f, r, 0, s, t)
      go_enter Tryd.func25, Tryd.ntmps25
      go_wp2_with fail
      refine (meant_go f r 0 s t _).mono ?_
      rw [HM.out]
      rintro e w1 ⟨rfl, hb⟩
      have HE1 : Hid (BoxF w1 27 w.heap.size (f, r, 0, s, t) ∧ BoxF w1 27 (w.heap.size + 1) zer ∧ Below w.heap.size w w1) := ⟨HE.out.1.below hb, HE.out.2.1.below hb, HE.out.2.2.trans (hb.mono HE.out.2.2.size)⟩
      clear HE hb HM
      have c0 := HE1.out.1.c0
      have c1 := HE1.out.1.c1
      have c2 := HE1.out.1.c2
      have c3 := HE1.out.1.c3
      have c4 := HE1.out.1.c4
      have hfr := HE1.out.1.fr
      simp only at c0 c1 c2 c3 c4
      go_wp2_with (first | (refine storeF rfl 27 _ _ rfl (.inl rfl) (w.heap.size + 1) rfl ((10 * m + k - 48), r, 0, s, t) zer rfl (HE1.out.2.1.far _ _ (by show w.heap.size ≠ w.heap.size + 1; omega)) ?_))
      exact ret_part 4 27 (.inl rfl) Tryd.results25 _ rfl _ ((HE1.out.2.1.far _ _ (by show w.heap.size ≠ w.heap.size + 1; omega)).row _) rfl ⟨rfl, below_row (Below.setCell HE1.out.2.2 (Nat.le_refl _) _) (by omega) _⟩
    · skip
      have HE : Hid (BoxF ((w.alloc (.cells #[.int .i64 f, .int .i64 r, .int .i64 0, .int .i64 s, .int .i64 t] 27)).alloc (.cells #[.int .i64 0, .int .i64 0, .int .i64 0, .int .i64 0, .int .i64 0] 27)) 27 w.heap.size (f, r, 0, s, t) ∧ BoxF ((w.alloc (.cells #[.int .i64 f, .int .i64 r, .int .i64 0, .int .i64 s, .int .i64 t] 27)).alloc (.cells #[.int .i64 0, .int .i64 0, .int .i64 0, .int .i64 0, .int .i64 0] 27)) 27 (w.heap.size + 1) zer ∧ Below w.heap.size w ((w.alloc (.cells #[.int .i64 f, .int .i64 r, .int .i64 0, .int .i64 s, .int .i64 t] 27)).alloc (.cells #[.int .i64 0, .int .i64 0, .int .i64 0, .int .i64 0, .int .i64 0] 27))) := two_new w (f, r, 0, s, t)
      go_enter Tryd.func25, Tryd.ntmps25
      go_wp2_with fail
      refine (meant_go f r 0 s t _).mono ?_
      rw [HM.out]
      rintro e w1 ⟨rfl, hb⟩
      have HE1 : Hid (BoxF w1 27 w.heap.size (f, r, 0, s, t) ∧ BoxF w1 27 (w.heap.size + 1) zer ∧ Below w.heap.size w w1) := ⟨HE.out.1.below hb, HE.out.2.1.below hb, HE.out.2.2.trans (hb.mono HE.out.2.2.size)⟩
      clear HE hb HM
      have c0 := HE1.out.1.c0
      have c1 := HE1.out.1.c1
      have c2 := HE1.out.1.c2
      have c3 := HE1.out.1.c3
      have c4 := HE1.out.1.c4
      have hfr := HE1.out.1.fr
      simp only at c0 c1 c2 c3 c4
      go_wp2_with (first | (refine storeF rfl 27 _ _ rfl (.inl rfl) (w.heap.size + 1) rfl ((999), r, 0, s, t) zer rfl (HE1.out.2.1.far _ _ (by show w.heap.size ≠ w.heap.size + 1; omega)) ?_))
      exact ret_part 4 27 (.inl rfl) Tryd.results25 _ rfl _ ((HE1.out.2.1.far _ _ (by show w.heap.size ≠ w.heap.size + 1; omega)).row _) rfl ⟨rfl, below_row (Below.setCell HE1.out.2.2 (Nat.le_refl _) _) (by omega) _⟩
  · have h2 : (o != 0) = true := by simpa using h1
    have HR : Hid (cntd f r o s t k = (f, r, o, q, t)) := by show cntd f r o s t k = _; unfold cntd; rw [if_pos h1, HC.out]
    rw [HR.out]
    clear HR HC h1
    rcases hq2 with ⟨rfl, hq3⟩ | ⟨rfl, hq3⟩
    · skip
      have HE : Hid (BoxF ((w.alloc (.cells #[.int .i64 f, .int .i64 r, .int .i64 o, .int .i64 s, .int .i64 t] 27)).alloc (.cells #[.int .i64 0, .int .i64 0, .int .i64 0, .int .i64 0, .int .i64 0] 27)) 27 w.heap.size (f, r, o, s, t) ∧ BoxF ((w.alloc (.cells #[.int .i64 f, .int .i64 r, .int .i64 o, .int .i64 s, .int .i64 t] 27)).alloc (.cells #[.int .i64 0, .int .i64 0, .int .i64 0, .int .i64 0, .int .i64 0] 27)) 27 (w.heap.size + 1) zer ∧ Below w.heap.size w ((w.alloc (.cells #[.int .i64 f, .int .i64 r, .int .i64 o, .int .i64 s, .int .i64 t] 27)).alloc (.cells #[.int .i64 0, .int .i64 0, .int .i64 0, .int .i64 0, .int .i64 0] 27))) := two_new w (f, r, o, s, t)
      go_enter Tryd.func25, Tryd.ntmps25
      go_wp2_with fail
      refine (meant_go f r o s t _).mono ?_
      rw [HM.out]
      rintro e w1 ⟨rfl, hb⟩
      have HE1 : Hid (BoxF w1 27 w.heap.size (f, r, o, s, t) ∧ BoxF w1 27 (w.heap.size + 1) zer ∧ Below w.heap.size w w1) := ⟨HE.out.1.below hb, HE.out.2.1.below hb, HE.out.2.2.trans (hb.mono HE.out.2.2.size)⟩
      clear HE hb HM
      have c0 := HE1.out.1.c0
      have c1 := HE1.out.1.c1
      have c2 := HE1.out.1.c2
      have c3 := HE1.out.1.c3
      have c4 := HE1.out.1.c4
      have hfr := HE1.out.1.fr
      simp only at c0 c1 c2 c3 c4
      go_wp2_with (first | (refine storeF rfl 27 _ _ rfl (.inl rfl) (w.heap.size + 1) rfl (f, r, o, (10 * m + k - 48), t) zer rfl (HE1.out.2.1.far _ _ (by show w.heap.size ≠ w.heap.size + 1; omega)) ?_))
      exact ret_part 4 27 (.inl rfl) Tryd.results25 _ rfl _ ((HE1.out.2.1.far _ _ (by show w.heap.size ≠ w.heap.size + 1; omega)).row _) rfl ⟨rfl, below_row (Below.setCell HE1.out.2.2 (Nat.le_refl _) _) (by omega) _⟩
    · skip
      have HE : Hid (BoxF ((w.alloc (.cells #[.int .i64 f, .int .i64 r, .int .i64 o, .int .i64 s, .int .i64 t] 27)).alloc (.cells #[.int .i64 0, .int .i64 0, .int .i64 0, .int .i64 0, .int .i64 0] 27)) 27 w.heap.size (f, r, o, s, t) ∧ BoxF ((w.alloc (.cells #[.int .i64 f, .int .i64 r, .int .i64 o, .int .i64 s, .int .i64 t] 27)).alloc (.cells #[.int .i64 0, .int .i64 0, .int .i64 0, .int .i64 0, .int .i64 0] 27)) 27 (w.heap.size + 1) zer ∧ Below w.heap.size w ((w.alloc (.cells #[.int .i64 f, .int .i64 r, .int .i64 o, .int .i64 s, .int .i64 t] 27)).alloc (.cells #[.int .i64 0, .int .i64 0, .int .i64 0, .int .i64 0, .int .i64 0] 27))) := two_new w (f, r, o, s, t)
      go_enter Tryd.func25, Tryd.ntmps25
      go_wp2_with fail
      refine (meant_go f r o s t _).mono ?_
      rw [HM.out]
      rintro e w1 ⟨rfl, hb⟩
      have HE1 : Hid (BoxF w1 27 w.heap.size (f, r, o, s, t) ∧ BoxF w1 27 (w.heap.size + 1) zer ∧ Below w.heap.size w w1) := ⟨HE.out.1.below hb, HE.out.2.1.below hb, HE.out.2.2.trans (hb.mono HE.out.2.2.size)⟩
      clear HE hb HM
      have c0 := HE1.out.1.c0
      have c1 := HE1.out.1.c1
      have c2 := HE1.out.1.c2
      have c3 := HE1.out.1.c3
      have c4 := HE1.out.1.c4
      have hfr := HE1.out.1.fr
      simp only at c0 c1 c2 c3 c4
      go_wp2_with (first | (refine storeF rfl 27 _ _ rfl (.inl rfl) (w.heap.size + 1) rfl (f, r, o, (999), t) zer rfl (HE1.out.2.1.far _ _ (by show w.heap.size ≠ w.heap.size + 1; omega)) ?_))
      exact ret_part 4 27 (.inl rfl) Tryd.results25 _ rfl _ ((HE1.out.2.1.far _ _ (by show w.heap.size ≠ w.heap.size + 1; omega)).row _) rfl ⟨rfl, below_row (Below.setCell HE1.out.2.2 (Nat.le_refl _) _) (by omega) _⟩

end Go.Proofs.YtjpgjhdkgmddfaaDoor.Seek
