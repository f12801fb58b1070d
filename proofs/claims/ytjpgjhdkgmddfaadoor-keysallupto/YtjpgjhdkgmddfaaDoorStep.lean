/- The contract of keys.step. -/
import Derived.Test.YtjpgjhdkgmddfaaDoorSteps1
set_option linter.unusedVariables false
set_option linter.unusedSimpArgs false
namespace Go.Proofs.YtjpgjhdkgmddfaaDoor.Seek
open Go.RowKit Plain

set_option maxHeartbeats 1000000 in
theorem step_low (f r o s t k : Int) (w : World) (h : low k = true) :
    Calls Tryd.prog 14 #[.agg #[.int .i64 f, .int .i64 r, .int .i64 o, .int .i64 s, .int .i64 t], .int .i64 k] w fun e w' => TookPost wrg w e w' := by
  have h1 := of_decide_eq_true h
  clear h
  by_cases h2 : k < 32
  · clear h1
    go_enter Tryd.func14, Tryd.ntmps14
    go_wp2_with fail
    have HE1 : Hid (Enter w _ (f, r, o, s, t) w.heap.size (w.heap.size + 1) (w.heap.size + 1 + 1)) := enter_is w f r o s t
    generalize (((w.alloc (Obj.cells #[Value.int IntKind.i64 f, Value.int IntKind.i64 r, Value.int IntKind.i64 o, Value.int IntKind.i64 s, Value.int IntKind.i64 t] 27)).alloc (Obj.cells #[Value.int IntKind.i64 0, Value.int IntKind.i64 0, Value.int IntKind.i64 0, Value.int IntKind.i64 0, Value.int IntKind.i64 0] 27)).alloc (Obj.cells #[Value.int IntKind.i64 0, Value.int IntKind.i64 0, Value.int IntKind.i64 0, Value.int IntKind.i64 0, Value.int IntKind.i64 0] 24)) = w1 at *
    refine (wrong_go _).mono ?_
    rintro e w2 ⟨rfl, hb⟩
    have HE2 : Hid (Enter w w2 (f, r, o, s, t) w.heap.size (w.heap.size + 1) (w.heap.size + 1 + 1)) := HE1.out.below hb
    clear hb
    clear HE1
    go_wp2_with (first | (refine storeF rfl 27 _ _ rfl (.inl rfl) _ rfl wrg.1 zer rfl HE2.out.2.1 ?_) | (refine storeF rfl 24 _ _ rfl (.inr rfl) _ rfl wrg.2.1 zer rfl (HE2.out.2.2.1.other _ (by omega)) ?_))
    exact HE2.out.end 4 5 6 Tryd.results14 rfl rfl rfl rfl
  · have h3 : k = 127 := by omega
    subst h3
    clear h1 h2
    go_enter Tryd.func14, Tryd.ntmps14
    go_wp2_with fail
    have HE1 : Hid (Enter w _ (f, r, o, s, t) w.heap.size (w.heap.size + 1) (w.heap.size + 1 + 1)) := enter_is w f r o s t
    generalize (((w.alloc (Obj.cells #[Value.int IntKind.i64 f, Value.int IntKind.i64 r, Value.int IntKind.i64 o, Value.int IntKind.i64 s, Value.int IntKind.i64 t] 27)).alloc (Obj.cells #[Value.int IntKind.i64 0, Value.int IntKind.i64 0, Value.int IntKind.i64 0, Value.int IntKind.i64 0, Value.int IntKind.i64 0] 27)).alloc (Obj.cells #[Value.int IntKind.i64 0, Value.int IntKind.i64 0, Value.int IntKind.i64 0, Value.int IntKind.i64 0, Value.int IntKind.i64 0] 24)) = w1 at *
    refine (wrong_go _).mono ?_
    rintro e w2 ⟨rfl, hb⟩
    have HE2 : Hid (Enter w w2 (f, r, o, s, t) w.heap.size (w.heap.size + 1) (w.heap.size + 1 + 1)) := HE1.out.below hb
    clear hb
    clear HE1
    go_wp2_with (first | (refine storeF rfl 27 _ _ rfl (.inl rfl) _ rfl wrg.1 zer rfl HE2.out.2.1 ?_) | (refine storeF rfl 24 _ _ rfl (.inr rfl) _ rfl wrg.2.1 zer rfl (HE2.out.2.2.1.other _ (by omega)) ?_))
    exact HE2.out.end 4 5 6 Tryd.results14 rfl rfl rfl rfl

set_option maxHeartbeats 1000000 in
theorem step_wait (f r o s t k : Int) (w : World) (hf : 0 ≤ f ∧ f ≤ 999) (hs : 0 ≤ s ∧ s ≤ 999) (h1 : 32 ≤ k) (h2 : (k == 127) = false) (h3 : t ≠ 0) :
    Calls Tryd.prog 14 #[.agg #[.int .i64 f, .int .i64 r, .int .i64 o, .int .i64 s, .int .i64 t], .int .i64 k] w fun e w' => TookPost (awt f r o s t k) w e w' := by
  have HC : Hid ((0 ≤ f ∧ f ≤ 999) ∧ (0 ≤ s ∧ s ≤ 999)) := ⟨hf, hs⟩
  clear hf hs
  have h4 : (t != 0) = true := by simpa using h3
  clear h3
  go_enter Tryd.func14, Tryd.ntmps14
  go_wp2_with fail
  have HE1 : Hid (Enter w _ (f, r, o, s, t) w.heap.size (w.heap.size + 1) (w.heap.size + 1 + 1)) := enter_is w f r o s t
  generalize (((w.alloc (Obj.cells #[Value.int IntKind.i64 f, Value.int IntKind.i64 r, Value.int IntKind.i64 o, Value.int IntKind.i64 s, Value.int IntKind.i64 t] 27)).alloc (Obj.cells #[Value.int IntKind.i64 0, Value.int IntKind.i64 0, Value.int IntKind.i64 0, Value.int IntKind.i64 0, Value.int IntKind.i64 0] 27)).alloc (Obj.cells #[Value.int IntKind.i64 0, Value.int IntKind.i64 0, Value.int IntKind.i64 0, Value.int IntKind.i64 0, Value.int IntKind.i64 0] 24)) = w1 at *
  obtain ⟨c0, c1, c2, c3, c4⟩ := HE1.out.cells
  refine (awaited_go f r o s t k _ HC.out.1 HC.out.2).mono ?_
  rintro e w2 ⟨rfl, hb⟩
  have HE2 : Hid (Enter w w2 (f, r, o, s, t) w.heap.size (w.heap.size + 1) (w.heap.size + 1 + 1)) := HE1.out.below hb
  clear hb
  clear HE1
  go_wp2_with (first | (refine storeF rfl 27 _ _ rfl (.inl rfl) _ rfl (awt f r o s t k).1 zer rfl HE2.out.2.1 ?_) | (refine storeF rfl 24 _ _ rfl (.inr rfl) _ rfl (awt f r o s t k).2.1 zer rfl (HE2.out.2.2.1.other _ (by omega)) ?_))
  exact HE2.out.end 4 5 6 Tryd.results14 rfl rfl rfl rfl

set_option maxHeartbeats 1000000 in
theorem step_digit (f r o s k : Int) (w : World) (hf : 0 ≤ f ∧ f ≤ 999) (hs : 0 ≤ s ∧ s ≤ 999) (h1 : 48 ≤ k) (h2 : k ≤ 57) (h3 : dig f o s k = true) :
    Calls Tryd.prog 14 #[.agg #[.int .i64 f, .int .i64 r, .int .i64 o, .int .i64 s, .int .i64 0], .int .i64 k] w fun e w' => TookPost (mor (cntd f r o s 0 k)) w e w' := by
  have hd := of_decide_eq_true h3
  clear h3
  have HC : Hid (Calls Tryd.prog 25 #[.agg #[.int .i64 f, .int .i64 r, .int .i64 o, .int .i64 s, .int .i64 0], .int .i64 k] = fun w1 R => Calls Tryd.prog 25 #[.agg #[.int .i64 f, .int .i64 r, .int .i64 o, .int .i64 s, .int .i64 0], .int .i64 k] w1 R) := rfl
  clear HC
  have HD : Hid (∀ w1, Calls Tryd.prog 25 #[.agg #[.int .i64 f, .int .i64 r, .int .i64 o, .int .i64 s, .int .i64 0], .int .i64 k] w1 fun e w' => e = .returned (fv (cntd f r o s 0 k)) ∧ Below w1.heap.size w1 w') := fun w1 => counted_go f r o s 0 k w1 hf hs h1 h2
  obtain ⟨c, hc⟩ : ∃ c, c = cntd f r o s 0 k := ⟨_, rfl⟩
  rw [← hc] at HD
  rw [← hc]
  clear hc hf hs
  by_cases h4 : k = 48
  · subst h4
    have hm : 0 < mnt f o s := by omega
    have HM : Hid (∀ w1, Calls Tryd.prog 23 #[.agg #[.int .i64 f, .int .i64 r, .int .i64 o, .int .i64 s, .int .i64 0]] w1 fun e w' => e = .returned (.int .i64 (mnt f o s)) ∧ Below w1.heap.size w1 w') := fun w1 => meant_go f r o s 0 w1
    generalize mnt f o s = m at *
    clear hd
    go_enter Tryd.func14, Tryd.ntmps14
    go_wp2_with fail
    have HE1 : Hid (Enter w _ (f, r, o, s, 0) w.heap.size (w.heap.size + 1) (w.heap.size + 1 + 1)) := enter_is w f r o s 0
    generalize (((w.alloc (Obj.cells #[Value.int IntKind.i64 f, Value.int IntKind.i64 r, Value.int IntKind.i64 o, Value.int IntKind.i64 s, Value.int IntKind.i64 0] 27)).alloc (Obj.cells #[Value.int IntKind.i64 0, Value.int IntKind.i64 0, Value.int IntKind.i64 0, Value.int IntKind.i64 0, Value.int IntKind.i64 0] 27)).alloc (Obj.cells #[Value.int IntKind.i64 0, Value.int IntKind.i64 0, Value.int IntKind.i64 0, Value.int IntKind.i64 0, Value.int IntKind.i64 0] 24)) = w1 at *
    obtain ⟨c0, c1, c2, c3, c4⟩ := HE1.out.cells
    refine (HM.out _).mono ?_
    rintro e w2 ⟨rfl, hb⟩
    have HE2 : Hid (Enter w w2 (f, r, o, s, 0) w.heap.size (w.heap.size + 1) (w.heap.size + 1 + 1)) := HE1.out.below hb
    clear hb HE1 HM c0 c1 c2 c3 c4
    obtain ⟨c0, c1, c2, c3, c4⟩ := HE2.out.cells
    go_wp2_with fail
    clear c0 c1 c2 c3 c4
    refine (HD.out _).mono ?_
    rintro e w3 ⟨rfl, hb⟩
    have HE3 : Hid (Enter w w3 (f, r, o, s, 0) w.heap.size (w.heap.size + 1) (w.heap.size + 1 + 1)) := HE2.out.below hb
    clear hb HE2
    go_wp2_with fail
    refine (more_go c.1 c.2.1 c.2.2.1 c.2.2.2.1 c.2.2.2.2 _).mono ?_
    rintro e w4 ⟨rfl, hb⟩
    have HE4 : Hid (Enter w w4 (f, r, o, s, 0) w.heap.size (w.heap.size + 1) (w.heap.size + 1 + 1)) := HE3.out.below hb
    clear hb
    clear HE3
    go_wp2_with (first | (refine storeF rfl 27 _ _ rfl (.inl rfl) _ rfl (mor c).1 zer rfl HE4.out.2.1 ?_) | (refine storeF rfl 24 _ _ rfl (.inr rfl) _ rfl (mor c).2.1 zer rfl (HE4.out.2.2.1.other _ (by omega)) ?_))
    exact HE4.out.end 4 5 6 Tryd.results14 rfl rfl rfl rfl
  · have h5 : 49 ≤ k := by omega
    have h6 : (k == 127) = false := by simp only [beq_eq_false_iff_ne]; omega
    clear h4 hd
    go_enter Tryd.func14, Tryd.ntmps14
    go_wp2_with fail
    have HE1 : Hid (Enter w _ (f, r, o, s, 0) w.heap.size (w.heap.size + 1) (w.heap.size + 1 + 1)) := enter_is w f r o s 0
    generalize (((w.alloc (Obj.cells #[Value.int IntKind.i64 f, Value.int IntKind.i64 r, Value.int IntKind.i64 o, Value.int IntKind.i64 s, Value.int IntKind.i64 0] 27)).alloc (Obj.cells #[Value.int IntKind.i64 0, Value.int IntKind.i64 0, Value.int IntKind.i64 0, Value.int IntKind.i64 0, Value.int IntKind.i64 0] 27)).alloc (Obj.cells #[Value.int IntKind.i64 0, Value.int IntKind.i64 0, Value.int IntKind.i64 0, Value.int IntKind.i64 0, Value.int IntKind.i64 0] 24)) = w1 at *
    refine (HD.out _).mono ?_
    rintro e w2 ⟨rfl, hb⟩
    have HE2 : Hid (Enter w w2 (f, r, o, s, 0) w.heap.size (w.heap.size + 1) (w.heap.size + 1 + 1)) := HE1.out.below hb
    clear hb HE1
    go_wp2_with fail
    refine (more_go c.1 c.2.1 c.2.2.1 c.2.2.2.1 c.2.2.2.2 _).mono ?_
    rintro e w3 ⟨rfl, hb⟩
    have HE3 : Hid (Enter w w3 (f, r, o, s, 0) w.heap.size (w.heap.size + 1) (w.heap.size + 1 + 1)) := HE2.out.below hb
    clear hb
    clear HE2
    go_wp2_with (first | (refine storeF rfl 27 _ _ rfl (.inl rfl) _ rfl (mor c).1 zer rfl HE3.out.2.1 ?_) | (refine storeF rfl 24 _ _ rfl (.inr rfl) _ rfl (mor c).2.1 zer rfl (HE3.out.2.2.1.other _ (by omega)) ?_))
    exact HE3.out.end 4 5 6 Tryd.results14 rfl rfl rfl rfl

set_option maxHeartbeats 1000000 in
theorem step_zero (f r o s : Int) (w : World) (hf : 0 ≤ f ∧ f ≤ 999) (hs : 0 ≤ s ∧ s ≤ 999) (h3 : dig f o s 48 = false) :
    Calls Tryd.prog 14 #[.agg #[.int .i64 f, .int .i64 r, .int .i64 o, .int .i64 s, .int .i64 0], .int .i64 48] w fun e w' => TookPost (don f r o s 48 0) w e w' := by
  have hm : mnt f o s ≤ 0 := by
    have := of_decide_eq_false h3
    omega
  clear h3
  have HC : Hid ((0 ≤ f ∧ f ≤ 999) ∧ (0 ≤ s ∧ s ≤ 999)) := ⟨hf, hs⟩
  clear hf hs
  have HM : Hid (∀ w1, Calls Tryd.prog 23 #[.agg #[.int .i64 f, .int .i64 r, .int .i64 o, .int .i64 s, .int .i64 0]] w1 fun e w' => e = .returned (.int .i64 (mnt f o s)) ∧ Below w1.heap.size w1 w') := fun w1 => meant_go f r o s 0 w1
  generalize mnt f o s = m at *
  go_enter Tryd.func14, Tryd.ntmps14
  go_wp2_with fail
  have HE1 : Hid (Enter w _ (f, r, o, s, 0) w.heap.size (w.heap.size + 1) (w.heap.size + 1 + 1)) := enter_is w f r o s 0
  generalize (((w.alloc (Obj.cells #[Value.int IntKind.i64 f, Value.int IntKind.i64 r, Value.int IntKind.i64 o, Value.int IntKind.i64 s, Value.int IntKind.i64 0] 27)).alloc (Obj.cells #[Value.int IntKind.i64 0, Value.int IntKind.i64 0, Value.int IntKind.i64 0, Value.int IntKind.i64 0, Value.int IntKind.i64 0] 27)).alloc (Obj.cells #[Value.int IntKind.i64 0, Value.int IntKind.i64 0, Value.int IntKind.i64 0, Value.int IntKind.i64 0, Value.int IntKind.i64 0] 24)) = w1 at *
  obtain ⟨c0, c1, c2, c3, c4⟩ := HE1.out.cells
  refine (HM.out _).mono ?_
  rintro e w2 ⟨rfl, hb⟩
  have HE2 : Hid (Enter w w2 (f, r, o, s, 0) w.heap.size (w.heap.size + 1) (w.heap.size + 1 + 1)) := HE1.out.below hb
  clear hb HE1 HM c0 c1 c2 c3 c4
  obtain ⟨c0, c1, c2, c3, c4⟩ := HE2.out.cells
  go_wp2_with fail
  refine (among_go ⟨#[100, 99, 121]⟩ 48 false _ (ascii_of (by decide)) (by decide) (by decide)).mono ?_
  rintro e w3 ⟨rfl, hb⟩
  have HE3 : Hid (Enter w w3 (f, r, o, s, 0) w.heap.size (w.heap.size + 1) (w.heap.size + 1 + 1)) := HE2.out.below hb
  clear hb
  clear HE2 c0 c1 c2 c3 c4
  obtain ⟨c0, c1, c2, c3, c4⟩ := HE3.out.cells
  go_wp2_with fail
  refine (among_go ⟨#[104, 108, 48, 94, 36, 124, 119, 87, 98, 66, 101, 69, 37, 59, 44]⟩ 48 true _ (ascii_of (by decide)) (by decide) (by decide)).mono ?_
  rintro e w4 ⟨rfl, hb⟩
  have HE4 : Hid (Enter w w4 (f, r, o, s, 0) w.heap.size (w.heap.size + 1) (w.heap.size + 1 + 1)) := HE3.out.below hb
  clear hb
  clear HE3 c0 c1 c2 c3 c4
  obtain ⟨c0, c1, c2, c3, c4⟩ := HE4.out.cells
  go_wp2_with fail
  refine (done_go f r o s 0 48 0 _ HC.out.1 HC.out.2).mono ?_
  rintro e w5 ⟨rfl, hb⟩
  have HE5 : Hid (Enter w w5 (f, r, o, s, 0) w.heap.size (w.heap.size + 1) (w.heap.size + 1 + 1)) := HE4.out.below hb
  clear hb
  clear HE4
  go_wp2_with (first | (refine storeF rfl 27 _ _ rfl (.inl rfl) _ rfl (don f r o s 48 0).1 zer rfl HE5.out.2.1 ?_) | (refine storeF rfl 24 _ _ rfl (.inr rfl) _ rfl (don f r o s 48 0).2.1 zer rfl (HE5.out.2.2.1.other _ (by omega)) ?_))
  exact HE5.out.end 4 5 6 Tryd.results14 rfl rfl rfl rfl

set_option maxHeartbeats 1000000 in
theorem step_other (f r o s k : Int) (w : World) (hf : 0 ≤ f ∧ f ≤ 999) (hs : 0 ≤ s ∧ s ≤ 999) (h1 : 32 ≤ k) (h2 : (k == 127) = false) (h3 : k < 48 ∨ 57 < k) :
    Calls Tryd.prog 14 #[.agg #[.int .i64 f, .int .i64 r, .int .i64 o, .int .i64 s, .int .i64 0], .int .i64 k] w fun e w' => TookPost (if has ops k = true then opr f r o s 0 k else if has mots k = true then don f r o s k 0 else if has fnds k = true then wtg f r o s 0 k else if o ≠ 0 then wop f r o s 0 k else wno f r o s 0 k) w e w' := by
  have HC : Hid ((0 ≤ f ∧ f ≤ 999) ∧ (0 ≤ s ∧ s ≤ 999)) := ⟨hf, hs⟩
  clear hf hs
  have h48 : (k == 48) = false := by simp only [beq_eq_false_iff_ne]; omega
  obtain ⟨R, hR⟩ : ∃ R : Took, R = if has ops k = true then opr f r o s 0 k else if has mots k = true then don f r o s k 0 else if has fnds k = true then wtg f r o s 0 k else if o ≠ 0 then wop f r o s 0 k else wno f r o s 0 k := ⟨_, rfl⟩
  rw [← hR]
  have HR : Hid (R = if has ops k = true then opr f r o s 0 k else if has mots k = true then don f r o s k 0 else if has fnds k = true then wtg f r o s 0 k else if o ≠ 0 then wop f r o s 0 k else wno f r o s 0 k) := hR
  clear hR
  rcases h3 with h3 | h3
  · have h49 : k < 49 := by omega
    go_enter Tryd.func14, Tryd.ntmps14
    go_wp2_with fail
    have HE1 : Hid (Enter w _ (f, r, o, s, 0) w.heap.size (w.heap.size + 1) (w.heap.size + 1 + 1)) := enter_is w f r o s 0
    generalize (((w.alloc (Obj.cells #[Value.int IntKind.i64 f, Value.int IntKind.i64 r, Value.int IntKind.i64 o, Value.int IntKind.i64 s, Value.int IntKind.i64 0] 27)).alloc (Obj.cells #[Value.int IntKind.i64 0, Value.int IntKind.i64 0, Value.int IntKind.i64 0, Value.int IntKind.i64 0, Value.int IntKind.i64 0] 27)).alloc (Obj.cells #[Value.int IntKind.i64 0, Value.int IntKind.i64 0, Value.int IntKind.i64 0, Value.int IntKind.i64 0, Value.int IntKind.i64 0] 24)) = w1 at *
    obtain ⟨c0, c1, c2, c3, c4⟩ := HE1.out.cells
    clear h1 h2 h3 h48 h49
    cases hops : has ops k
    case true =>
      have HS : Hid (has (codes ⟨#[100, 99, 121]⟩) k = true) := hops
      obtain rfl : R = opr f r o s 0 k := HR.out.trans (if_pos hops)
      clear HR hops
      refine (among_go ⟨#[100, 99, 121]⟩ k true _ (ascii_of (by decide)) (by decide) HS.out).mono ?_
      rintro e w2 ⟨rfl, hb⟩
      have HE2 : Hid (Enter w w2 (f, r, o, s, 0) w.heap.size (w.heap.size + 1) (w.heap.size + 1 + 1)) := HE1.out.below hb
      clear hb
      clear HE1 c0 c1 c2 c3 c4
      obtain ⟨c0, c1, c2, c3, c4⟩ := HE2.out.cells
      go_wp2_with fail
      refine (operator_go f r o s 0 k _ HC.out.1 HC.out.2).mono ?_
      rintro e w3 ⟨rfl, hb⟩
      have HE3 : Hid (Enter w w3 (f, r, o, s, 0) w.heap.size (w.heap.size + 1) (w.heap.size + 1 + 1)) := HE2.out.below hb
      clear hb
      clear HE2
      go_wp2_with (first | (refine storeF rfl 27 _ _ rfl (.inl rfl) _ rfl (opr f r o s 0 k).1 zer rfl HE3.out.2.1 ?_) | (refine storeF rfl 24 _ _ rfl (.inr rfl) _ rfl (opr f r o s 0 k).2.1 zer rfl (HE3.out.2.2.1.other _ (by omega)) ?_))
      exact HE3.out.end 4 5 6 Tryd.results14 rfl rfl rfl rfl
    case false =>
      have HS0 : Hid (has (codes ⟨#[100, 99, 121]⟩) k = false) := hops
      have HR0 : Hid (R = if has mots k = true then don f r o s k 0 else if has fnds k = true then wtg f r o s 0 k else if o ≠ 0 then wop f r o s 0 k else wno f r o s 0 k) := HR.out.trans (if_neg (by rw [hops]; decide))
      clear HR hops
      refine (among_go ⟨#[100, 99, 121]⟩ k false _ (ascii_of (by decide)) (by decide) HS0.out).mono ?_
      rintro e w2 ⟨rfl, hb⟩
      have HE2 : Hid (Enter w w2 (f, r, o, s, 0) w.heap.size (w.heap.size + 1) (w.heap.size + 1 + 1)) := HE1.out.below hb
      clear hb
      clear HE1 c0 c1 c2 c3 c4
      obtain ⟨c0, c1, c2, c3, c4⟩ := HE2.out.cells
      go_wp2_with fail
      cases hmots : has mots k
      case true =>
        have HS : Hid (has (codes ⟨#[104, 108, 48, 94, 36, 124, 119, 87, 98, 66, 101, 69, 37, 59, 44]⟩) k = true) := hmots
        obtain rfl : R = don f r o s k 0 := HR0.out.trans (if_pos hmots)
        clear HR0 hmots
        refine (among_go ⟨#[104, 108, 48, 94, 36, 124, 119, 87, 98, 66, 101, 69, 37, 59, 44]⟩ k true _ (ascii_of (by decide)) (by decide) HS.out).mono ?_
        rintro e w3 ⟨rfl, hb⟩
        have HE3 : Hid (Enter w w3 (f, r, o, s, 0) w.heap.size (w.heap.size + 1) (w.heap.size + 1 + 1)) := HE2.out.below hb
        clear hb
        clear HE2 c0 c1 c2 c3 c4
        obtain ⟨c0, c1, c2, c3, c4⟩ := HE3.out.cells
        go_wp2_with fail
        refine (done_go f r o s 0 k 0 _ HC.out.1 HC.out.2).mono ?_
        rintro e w4 ⟨rfl, hb⟩
        have HE4 : Hid (Enter w w4 (f, r, o, s, 0) w.heap.size (w.heap.size + 1) (w.heap.size + 1 + 1)) := HE3.out.below hb
        clear hb
        clear HE3
        go_wp2_with (first | (refine storeF rfl 27 _ _ rfl (.inl rfl) _ rfl (don f r o s k 0).1 zer rfl HE4.out.2.1 ?_) | (refine storeF rfl 24 _ _ rfl (.inr rfl) _ rfl (don f r o s k 0).2.1 zer rfl (HE4.out.2.2.1.other _ (by omega)) ?_))
        exact HE4.out.end 4 5 6 Tryd.results14 rfl rfl rfl rfl
      case false =>
        have HS1 : Hid (has (codes ⟨#[104, 108, 48, 94, 36, 124, 119, 87, 98, 66, 101, 69, 37, 59, 44]⟩) k = false) := hmots
        have HR1 : Hid (R = if has fnds k = true then wtg f r o s 0 k else if o ≠ 0 then wop f r o s 0 k else wno f r o s 0 k) := HR0.out.trans (if_neg (by rw [hmots]; decide))
        clear HR0 hmots
        refine (among_go ⟨#[104, 108, 48, 94, 36, 124, 119, 87, 98, 66, 101, 69, 37, 59, 44]⟩ k false _ (ascii_of (by decide)) (by decide) HS1.out).mono ?_
        rintro e w3 ⟨rfl, hb⟩
        have HE3 : Hid (Enter w w3 (f, r, o, s, 0) w.heap.size (w.heap.size + 1) (w.heap.size + 1 + 1)) := HE2.out.below hb
        clear hb
        clear HE2 c0 c1 c2 c3 c4
        obtain ⟨c0, c1, c2, c3, c4⟩ := HE3.out.cells
        go_wp2_with fail
        cases hfnds : has fnds k
        case true =>
          have HS : Hid (has (codes ⟨#[102, 70, 116, 84]⟩) k = true) := hfnds
          obtain rfl : R = wtg f r o s 0 k := HR1.out.trans (if_pos hfnds)
          clear HR1 hfnds
          refine (among_go ⟨#[102, 70, 116, 84]⟩ k true _ (ascii_of (by decide)) (by decide) HS.out).mono ?_
          rintro e w4 ⟨rfl, hb⟩
          have HE4 : Hid (Enter w w4 (f, r, o, s, 0) w.heap.size (w.heap.size + 1) (w.heap.size + 1 + 1)) := HE3.out.below hb
          clear hb
          clear HE3 c0 c1 c2 c3 c4
          obtain ⟨c0, c1, c2, c3, c4⟩ := HE4.out.cells
          go_wp2_with fail
          refine (wait_go f r o s 0 k _).mono ?_
          rintro e w5 ⟨rfl, hb⟩
          have HE5 : Hid (Enter w w5 (f, r, o, s, 0) w.heap.size (w.heap.size + 1) (w.heap.size + 1 + 1)) := HE4.out.below hb
          clear hb
          clear HE4
          go_wp2_with (first | (refine storeF rfl 27 _ _ rfl (.inl rfl) _ rfl (wtg f r o s 0 k).1 zer rfl HE5.out.2.1 ?_) | (refine storeF rfl 24 _ _ rfl (.inr rfl) _ rfl (wtg f r o s 0 k).2.1 zer rfl (HE5.out.2.2.1.other _ (by omega)) ?_))
          exact HE5.out.end 4 5 6 Tryd.results14 rfl rfl rfl rfl
        case false =>
          have HS2 : Hid (has (codes ⟨#[102, 70, 116, 84]⟩) k = false) := hfnds
          have HR2 : Hid (R = if o ≠ 0 then wop f r o s 0 k else wno f r o s 0 k) := HR1.out.trans (if_neg (by rw [hfnds]; decide))
          clear HR1 hfnds
          clear HS0 HS1
          refine (among_go ⟨#[102, 70, 116, 84]⟩ k false _ (ascii_of (by decide)) (by decide) HS2.out).mono ?_
          rintro e w4 ⟨rfl, hb⟩
          have HE4 : Hid (Enter w w4 (f, r, o, s, 0) w.heap.size (w.heap.size + 1) (w.heap.size + 1 + 1)) := HE3.out.below hb
          clear hb
          clear HE3 c0 c1 c2 c3 c4 HS2
          obtain ⟨c0, c1, c2, c3, c4⟩ := HE4.out.cells
          by_cases ho : o = 0
          · obtain rfl : R = wno f r o s 0 k := HR2.out.trans (if_neg (fun h => h ho))
            subst ho
            clear HR2
            go_wp2_with fail
            refine (withoutOp_go f r 0 s 0 k _ HC.out.1 HC.out.2).mono ?_
            rintro e w5 ⟨rfl, hb⟩
            have HE5 : Hid (Enter w w5 (f, r, 0, s, 0) w.heap.size (w.heap.size + 1) (w.heap.size + 1 + 1)) := HE4.out.below hb
            clear hb
            clear HE4
            go_wp2_with (first | (refine storeF rfl 27 _ _ rfl (.inl rfl) _ rfl (wno f r 0 s 0 k).1 zer rfl HE5.out.2.1 ?_) | (refine storeF rfl 24 _ _ rfl (.inr rfl) _ rfl (wno f r 0 s 0 k).2.1 zer rfl (HE5.out.2.2.1.other _ (by omega)) ?_))
            exact HE5.out.end 4 5 6 Tryd.results14 rfl rfl rfl rfl
          · obtain rfl : R = wop f r o s 0 k := HR2.out.trans (if_pos ho)
            have ho2 : (o != 0) = true := by simpa using ho
            clear HR2 ho
            go_wp2_with fail
            refine (withOp_go f r o s 0 k _).mono ?_
            rintro e w5 ⟨rfl, hb⟩
            have HE5 : Hid (Enter w w5 (f, r, o, s, 0) w.heap.size (w.heap.size + 1) (w.heap.size + 1 + 1)) := HE4.out.below hb
            clear hb
            clear HE4
            go_wp2_with (first | (refine storeF rfl 27 _ _ rfl (.inl rfl) _ rfl (wop f r o s 0 k).1 zer rfl HE5.out.2.1 ?_) | (refine storeF rfl 24 _ _ rfl (.inr rfl) _ rfl (wop f r o s 0 k).2.1 zer rfl (HE5.out.2.2.1.other _ (by omega)) ?_))
            exact HE5.out.end 4 5 6 Tryd.results14 rfl rfl rfl rfl
  · have h49 : 49 ≤ k := by omega
    go_enter Tryd.func14, Tryd.ntmps14
    go_wp2_with fail
    have HE1 : Hid (Enter w _ (f, r, o, s, 0) w.heap.size (w.heap.size + 1) (w.heap.size + 1 + 1)) := enter_is w f r o s 0
    generalize (((w.alloc (Obj.cells #[Value.int IntKind.i64 f, Value.int IntKind.i64 r, Value.int IntKind.i64 o, Value.int IntKind.i64 s, Value.int IntKind.i64 0] 27)).alloc (Obj.cells #[Value.int IntKind.i64 0, Value.int IntKind.i64 0, Value.int IntKind.i64 0, Value.int IntKind.i64 0, Value.int IntKind.i64 0] 27)).alloc (Obj.cells #[Value.int IntKind.i64 0, Value.int IntKind.i64 0, Value.int IntKind.i64 0, Value.int IntKind.i64 0, Value.int IntKind.i64 0] 24)) = w1 at *
    obtain ⟨c0, c1, c2, c3, c4⟩ := HE1.out.cells
    clear h1 h2 h3 h48 h49
    cases hops : has ops k
    case true =>
      have HS : Hid (has (codes ⟨#[100, 99, 121]⟩) k = true) := hops
      obtain rfl : R = opr f r o s 0 k := HR.out.trans (if_pos hops)
      clear HR hops
      refine (among_go ⟨#[100, 99, 121]⟩ k true _ (ascii_of (by decide)) (by decide) HS.out).mono ?_
      rintro e w2 ⟨rfl, hb⟩
      have HE2 : Hid (Enter w w2 (f, r, o, s, 0) w.heap.size (w.heap.size + 1) (w.heap.size + 1 + 1)) := HE1.out.below hb
      clear hb
      clear HE1 c0 c1 c2 c3 c4
      obtain ⟨c0, c1, c2, c3, c4⟩ := HE2.out.cells
      go_wp2_with fail
      refine (operator_go f r o s 0 k _ HC.out.1 HC.out.2).mono ?_
      rintro e w3 ⟨rfl, hb⟩
      have HE3 : Hid (Enter w w3 (f, r, o, s, 0) w.heap.size (w.heap.size + 1) (w.heap.size + 1 + 1)) := HE2.out.below hb
      clear hb
      clear HE2
      go_wp2_with (first | (refine storeF rfl 27 _ _ rfl (.inl rfl) _ rfl (opr f r o s 0 k).1 zer rfl HE3.out.2.1 ?_) | (refine storeF rfl 24 _ _ rfl (.inr rfl) _ rfl (opr f r o s 0 k).2.1 zer rfl (HE3.out.2.2.1.other _ (by omega)) ?_))
      exact HE3.out.end 4 5 6 Tryd.results14 rfl rfl rfl rfl
    case false =>
      have HS0 : Hid (has (codes ⟨#[100, 99, 121]⟩) k = false) := hops
      have HR0 : Hid (R = if has mots k = true then don f r o s k 0 else if has fnds k = true then wtg f r o s 0 k else if o ≠ 0 then wop f r o s 0 k else wno f r o s 0 k) := HR.out.trans (if_neg (by rw [hops]; decide))
      clear HR hops
      refine (among_go ⟨#[100, 99, 121]⟩ k false _ (ascii_of (by decide)) (by decide) HS0.out).mono ?_
      rintro e w2 ⟨rfl, hb⟩
      have HE2 : Hid (Enter w w2 (f, r, o, s, 0) w.heap.size (w.heap.size + 1) (w.heap.size + 1 + 1)) := HE1.out.below hb
      clear hb
      clear HE1 c0 c1 c2 c3 c4
      obtain ⟨c0, c1, c2, c3, c4⟩ := HE2.out.cells
      go_wp2_with fail
      cases hmots : has mots k
      case true =>
        have HS : Hid (has (codes ⟨#[104, 108, 48, 94, 36, 124, 119, 87, 98, 66, 101, 69, 37, 59, 44]⟩) k = true) := hmots
        obtain rfl : R = don f r o s k 0 := HR0.out.trans (if_pos hmots)
        clear HR0 hmots
        refine (among_go ⟨#[104, 108, 48, 94, 36, 124, 119, 87, 98, 66, 101, 69, 37, 59, 44]⟩ k true _ (ascii_of (by decide)) (by decide) HS.out).mono ?_
        rintro e w3 ⟨rfl, hb⟩
        have HE3 : Hid (Enter w w3 (f, r, o, s, 0) w.heap.size (w.heap.size + 1) (w.heap.size + 1 + 1)) := HE2.out.below hb
        clear hb
        clear HE2 c0 c1 c2 c3 c4
        obtain ⟨c0, c1, c2, c3, c4⟩ := HE3.out.cells
        go_wp2_with fail
        refine (done_go f r o s 0 k 0 _ HC.out.1 HC.out.2).mono ?_
        rintro e w4 ⟨rfl, hb⟩
        have HE4 : Hid (Enter w w4 (f, r, o, s, 0) w.heap.size (w.heap.size + 1) (w.heap.size + 1 + 1)) := HE3.out.below hb
        clear hb
        clear HE3
        go_wp2_with (first | (refine storeF rfl 27 _ _ rfl (.inl rfl) _ rfl (don f r o s k 0).1 zer rfl HE4.out.2.1 ?_) | (refine storeF rfl 24 _ _ rfl (.inr rfl) _ rfl (don f r o s k 0).2.1 zer rfl (HE4.out.2.2.1.other _ (by omega)) ?_))
        exact HE4.out.end 4 5 6 Tryd.results14 rfl rfl rfl rfl
      case false =>
        have HS1 : Hid (has (codes ⟨#[104, 108, 48, 94, 36, 124, 119, 87, 98, 66, 101, 69, 37, 59, 44]⟩) k = false) := hmots
        have HR1 : Hid (R = if has fnds k = true then wtg f r o s 0 k else if o ≠ 0 then wop f r o s 0 k else wno f r o s 0 k) := HR0.out.trans (if_neg (by rw [hmots]; decide))
        clear HR0 hmots
        refine (among_go ⟨#[104, 108, 48, 94, 36, 124, 119, 87, 98, 66, 101, 69, 37, 59, 44]⟩ k false _ (ascii_of (by decide)) (by decide) HS1.out).mono ?_
        rintro e w3 ⟨rfl, hb⟩
        have HE3 : Hid (Enter w w3 (f, r, o, s, 0) w.heap.size (w.heap.size + 1) (w.heap.size + 1 + 1)) := HE2.out.below hb
        clear hb
        clear HE2 c0 c1 c2 c3 c4
        obtain ⟨c0, c1, c2, c3, c4⟩ := HE3.out.cells
        go_wp2_with fail
        cases hfnds : has fnds k
        case true =>
          have HS : Hid (has (codes ⟨#[102, 70, 116, 84]⟩) k = true) := hfnds
          obtain rfl : R = wtg f r o s 0 k := HR1.out.trans (if_pos hfnds)
          clear HR1 hfnds
          refine (among_go ⟨#[102, 70, 116, 84]⟩ k true _ (ascii_of (by decide)) (by decide) HS.out).mono ?_
          rintro e w4 ⟨rfl, hb⟩
          have HE4 : Hid (Enter w w4 (f, r, o, s, 0) w.heap.size (w.heap.size + 1) (w.heap.size + 1 + 1)) := HE3.out.below hb
          clear hb
          clear HE3 c0 c1 c2 c3 c4
          obtain ⟨c0, c1, c2, c3, c4⟩ := HE4.out.cells
          go_wp2_with fail
          refine (wait_go f r o s 0 k _).mono ?_
          rintro e w5 ⟨rfl, hb⟩
          have HE5 : Hid (Enter w w5 (f, r, o, s, 0) w.heap.size (w.heap.size + 1) (w.heap.size + 1 + 1)) := HE4.out.below hb
          clear hb
          clear HE4
          go_wp2_with (first | (refine storeF rfl 27 _ _ rfl (.inl rfl) _ rfl (wtg f r o s 0 k).1 zer rfl HE5.out.2.1 ?_) | (refine storeF rfl 24 _ _ rfl (.inr rfl) _ rfl (wtg f r o s 0 k).2.1 zer rfl (HE5.out.2.2.1.other _ (by omega)) ?_))
          exact HE5.out.end 4 5 6 Tryd.results14 rfl rfl rfl rfl
        case false =>
          have HS2 : Hid (has (codes ⟨#[102, 70, 116, 84]⟩) k = false) := hfnds
          have HR2 : Hid (R = if o ≠ 0 then wop f r o s 0 k else wno f r o s 0 k) := HR1.out.trans (if_neg (by rw [hfnds]; decide))
          clear HR1 hfnds
          clear HS0 HS1
          refine (among_go ⟨#[102, 70, 116, 84]⟩ k false _ (ascii_of (by decide)) (by decide) HS2.out).mono ?_
          rintro e w4 ⟨rfl, hb⟩
          have HE4 : Hid (Enter w w4 (f, r, o, s, 0) w.heap.size (w.heap.size + 1) (w.heap.size + 1 + 1)) := HE3.out.below hb
          clear hb
          clear HE3 c0 c1 c2 c3 c4 HS2
          obtain ⟨c0, c1, c2, c3, c4⟩ := HE4.out.cells
          by_cases ho : o = 0
          · obtain rfl : R = wno f r o s 0 k := HR2.out.trans (if_neg (fun h => h ho))
            subst ho
            clear HR2
            go_wp2_with fail
            refine (withoutOp_go f r 0 s 0 k _ HC.out.1 HC.out.2).mono ?_
            rintro e w5 ⟨rfl, hb⟩
            have HE5 : Hid (Enter w w5 (f, r, 0, s, 0) w.heap.size (w.heap.size + 1) (w.heap.size + 1 + 1)) := HE4.out.below hb
            clear hb
            clear HE4
            go_wp2_with (first | (refine storeF rfl 27 _ _ rfl (.inl rfl) _ rfl (wno f r 0 s 0 k).1 zer rfl HE5.out.2.1 ?_) | (refine storeF rfl 24 _ _ rfl (.inr rfl) _ rfl (wno f r 0 s 0 k).2.1 zer rfl (HE5.out.2.2.1.other _ (by omega)) ?_))
            exact HE5.out.end 4 5 6 Tryd.results14 rfl rfl rfl rfl
          · obtain rfl : R = wop f r o s 0 k := HR2.out.trans (if_pos ho)
            have ho2 : (o != 0) = true := by simpa using ho
            clear HR2 ho
            go_wp2_with fail
            refine (withOp_go f r o s 0 k _).mono ?_
            rintro e w5 ⟨rfl, hb⟩
            have HE5 : Hid (Enter w w5 (f, r, o, s, 0) w.heap.size (w.heap.size + 1) (w.heap.size + 1 + 1)) := HE4.out.below hb
            clear hb
            clear HE4
            go_wp2_with (first | (refine storeF rfl 27 _ _ rfl (.inl rfl) _ rfl (wop f r o s 0 k).1 zer rfl HE5.out.2.1 ?_) | (refine storeF rfl 24 _ _ rfl (.inr rfl) _ rfl (wop f r o s 0 k).2.1 zer rfl (HE5.out.2.2.1.other _ (by omega)) ?_))
            exact HE5.out.end 4 5 6 Tryd.results14 rfl rfl rfl rfl

theorem step_go (f r o s t k : Int) (w : World) (h : right f r o s t = true) : Calls Tryd.prog 14 #[.agg #[.int .i64 f, .int .i64 r, .int .i64 o, .int .i64 s, .int .i64 t], .int .i64 k] w fun e w' => TookPost (stp f r o s t k) w e w' := by
  obtain ⟨hf, hs, _⟩ := right_cases h
  unfold stp
  by_cases h1 : low k = true
  · rw [if_pos h1]
    exact step_low f r o s t k w h1
  rw [if_neg h1]
  have h1' : ¬ (k < 32 ∨ k = 127) := fun h => h1 (decide_eq_true h)
  have h2 : 32 ≤ k := by omega
  have h3 : (k == 127) = false := by simp only [beq_eq_false_iff_ne]; omega
  by_cases ht : t = 0
  · subst ht
    rw [if_neg (show ¬ (0 : Int) ≠ 0 by decide)]
    by_cases h4 : dig f o s k = true
    · rw [if_pos h4]
      have := of_decide_eq_true h4
      exact step_digit f r o s k w hf hs (by omega) (by omega) h4
    · rw [if_neg h4]
      by_cases h5 : k = 48
      · subst h5
        rw [if_neg (by decide), if_pos (by decide)]
        exact step_zero f r o s w hf hs (bool_no h4)
      · have h6 := of_decide_eq_false (bool_no h4)
        exact step_other f r o s k w hf hs h2 h3 (by omega)
  · rw [if_pos (show t ≠ 0 from ht)]
    exact step_wait f r o s t k w hf hs h2 h3 ht
end Go.Proofs.YtjpgjhdkgmddfaaDoor.Seek
