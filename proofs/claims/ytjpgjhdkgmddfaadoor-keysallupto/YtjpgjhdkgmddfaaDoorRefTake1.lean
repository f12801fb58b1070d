/- The document's Take: keys that are wrong, and keys that are waited for. -/
import Derived.Test.YtjpgjhdkgmddfaaDoorRefTake0
set_option linter.unusedVariables false
set_option linter.unusedSimpArgs false
namespace Go.Proofs.YtjpgjhdkgmddfaaDoor.Seek
open Go.RowKit Plain

set_option maxRecDepth 100000 in
set_option maxHeartbeats 2000000 in
theorem ref_low (f r o s t k : Int) (w : World) (h : low k = true) :
    Calls Tryd.prog 15 #[.agg #[.int .i64 f, .int .i64 r, .int .i64 o, .int .i64 s, .int .i64 t], .int .i64 k] w fun e w' => TookPost (wrg) w e w' := by
  have h1 := of_decide_eq_true h
  clear h
  by_cases h2 : k < 32
  · clear h1
    go_enter Tryd.func15, Tryd.ntmps15
    go_wp2_with fail
    have HE1 : Hid (Ent w ((((w.alloc (.cells #[.int .i64 f, .int .i64 r, .int .i64 o, .int .i64 s, .int .i64 t] 27)).alloc (.cells #[.int .i64 0, .int .i64 0, .int .i64 0, .int .i64 0, .int .i64 0] 27)).alloc (.cells #[.int .i64 0, .int .i64 0, .int .i64 0, .int .i64 0, .int .i64 0] 24)).alloc (.cells #[.int .i64 f, .int .i64 r, .int .i64 o, .int .i64 s, .int .i64 t] 27)) (f, r, o, s, t) (f, r, o, s, t)) := ent_is w (f, r, o, s, t)
    generalize ((((w.alloc (.cells #[.int .i64 f, .int .i64 r, .int .i64 o, .int .i64 s, .int .i64 t] 27)).alloc (.cells #[.int .i64 0, .int .i64 0, .int .i64 0, .int .i64 0, .int .i64 0] 27)).alloc (.cells #[.int .i64 0, .int .i64 0, .int .i64 0, .int .i64 0, .int .i64 0] 24)).alloc (.cells #[.int .i64 f, .int .i64 r, .int .i64 o, .int .i64 s, .int .i64 t] 27)) = w1 at *
    obtain ⟨c0, c1, c2, c3, c4⟩ : w1.cell? ⟨w.heap.size, 0, none⟩ = some (.int .i64 f) ∧ w1.cell? ⟨w.heap.size, 1, none⟩ = some (.int .i64 r) ∧ w1.cell? ⟨w.heap.size, 2, none⟩ = some (.int .i64 o) ∧ w1.cell? ⟨w.heap.size, 3, none⟩ = some (.int .i64 s) ∧ w1.cell? ⟨w.heap.size, 4, none⟩ = some (.int .i64 t) := ⟨HE1.out.1.1.c0, HE1.out.1.1.c1, HE1.out.1.1.c2, HE1.out.1.1.c3, HE1.out.1.1.c4⟩
    obtain ⟨d0, d1, d2, d3, d4⟩ : w1.cell? ⟨w.heap.size + 1 + 1 + 1, 0, none⟩ = some (.int .i64 f) ∧ w1.cell? ⟨w.heap.size + 1 + 1 + 1, 1, none⟩ = some (.int .i64 r) ∧ w1.cell? ⟨w.heap.size + 1 + 1 + 1, 2, none⟩ = some (.int .i64 o) ∧ w1.cell? ⟨w.heap.size + 1 + 1 + 1, 3, none⟩ = some (.int .i64 s) ∧ w1.cell? ⟨w.heap.size + 1 + 1 + 1, 4, none⟩ = some (.int .i64 t) := ⟨HE1.out.2.c0, HE1.out.2.c1, HE1.out.2.c2, HE1.out.2.c3, HE1.out.2.c4⟩
    have hfr := HE1.out.2.fr
    refine (refWrong_go _).mono ?_
    rintro e w2 ⟨rfl, hb⟩
    have HF : Hid (Enter w w2 (f, r, o, s, t) w.heap.size (w.heap.size + 1) (w.heap.size + 1 + 1)) := Enter.below HE1.out.1 hb
    clear hb HE1 c0 c1 c2 c3 c4 d0 d1 d2 d3 d4 hfr
    go_wp2_with (first | (refine storeF rfl 27 _ _ rfl (.inl rfl) _ rfl wrg.1 zer rfl HF.out.2.1 ?_) | (refine storeF rfl 24 _ _ rfl (.inr rfl) _ rfl wrg.2.1 zer rfl (HF.out.2.2.1.other _ (by omega)) ?_))
    exact HF.out.end 4 5 6 Tryd.results15 rfl rfl rfl rfl
  · have h3 : k = 127 := by omega
    subst h3
    clear h1 h2
    go_enter Tryd.func15, Tryd.ntmps15
    go_wp2_with fail
    have HE1 : Hid (Ent w ((((w.alloc (.cells #[.int .i64 f, .int .i64 r, .int .i64 o, .int .i64 s, .int .i64 t] 27)).alloc (.cells #[.int .i64 0, .int .i64 0, .int .i64 0, .int .i64 0, .int .i64 0] 27)).alloc (.cells #[.int .i64 0, .int .i64 0, .int .i64 0, .int .i64 0, .int .i64 0] 24)).alloc (.cells #[.int .i64 f, .int .i64 r, .int .i64 o, .int .i64 s, .int .i64 t] 27)) (f, r, o, s, t) (f, r, o, s, t)) := ent_is w (f, r, o, s, t)
    generalize ((((w.alloc (.cells #[.int .i64 f, .int .i64 r, .int .i64 o, .int .i64 s, .int .i64 t] 27)).alloc (.cells #[.int .i64 0, .int .i64 0, .int .i64 0, .int .i64 0, .int .i64 0] 27)).alloc (.cells #[.int .i64 0, .int .i64 0, .int .i64 0, .int .i64 0, .int .i64 0] 24)).alloc (.cells #[.int .i64 f, .int .i64 r, .int .i64 o, .int .i64 s, .int .i64 t] 27)) = w1 at *
    obtain ⟨c0, c1, c2, c3, c4⟩ : w1.cell? ⟨w.heap.size, 0, none⟩ = some (.int .i64 f) ∧ w1.cell? ⟨w.heap.size, 1, none⟩ = some (.int .i64 r) ∧ w1.cell? ⟨w.heap.size, 2, none⟩ = some (.int .i64 o) ∧ w1.cell? ⟨w.heap.size, 3, none⟩ = some (.int .i64 s) ∧ w1.cell? ⟨w.heap.size, 4, none⟩ = some (.int .i64 t) := ⟨HE1.out.1.1.c0, HE1.out.1.1.c1, HE1.out.1.1.c2, HE1.out.1.1.c3, HE1.out.1.1.c4⟩
    obtain ⟨d0, d1, d2, d3, d4⟩ : w1.cell? ⟨w.heap.size + 1 + 1 + 1, 0, none⟩ = some (.int .i64 f) ∧ w1.cell? ⟨w.heap.size + 1 + 1 + 1, 1, none⟩ = some (.int .i64 r) ∧ w1.cell? ⟨w.heap.size + 1 + 1 + 1, 2, none⟩ = some (.int .i64 o) ∧ w1.cell? ⟨w.heap.size + 1 + 1 + 1, 3, none⟩ = some (.int .i64 s) ∧ w1.cell? ⟨w.heap.size + 1 + 1 + 1, 4, none⟩ = some (.int .i64 t) := ⟨HE1.out.2.c0, HE1.out.2.c1, HE1.out.2.c2, HE1.out.2.c3, HE1.out.2.c4⟩
    have hfr := HE1.out.2.fr
    refine (refWrong_go _).mono ?_
    rintro e w2 ⟨rfl, hb⟩
    have HF : Hid (Enter w w2 (f, r, o, s, t) w.heap.size (w.heap.size + 1) (w.heap.size + 1 + 1)) := Enter.below HE1.out.1 hb
    clear hb HE1 c0 c1 c2 c3 c4 d0 d1 d2 d3 d4 hfr
    go_wp2_with (first | (refine storeF rfl 27 _ _ rfl (.inl rfl) _ rfl wrg.1 zer rfl HF.out.2.1 ?_) | (refine storeF rfl 24 _ _ rfl (.inr rfl) _ rfl wrg.2.1 zer rfl (HF.out.2.2.1.other _ (by omega)) ?_))
    exact HF.out.end 4 5 6 Tryd.results15 rfl rfl rfl rfl

set_option maxRecDepth 100000 in
set_option maxHeartbeats 2000000 in
theorem ref_quote (f r o s k : Int) (w : World) (h1 : 32 ≤ k) (h2 : (k == 127) = false) :
    Calls Tryd.prog 15 #[.agg #[.int .i64 f, .int .i64 r, .int .i64 o, .int .i64 s, .int .i64 34], .int .i64 k] w fun e w' => TookPost (if letter k = true then mor (f, k, o, s, 0) else wrg) w e w' := by
  cases hl : letter k
  case false =>
    have HL : Hid (letter k = false) := hl
    rw [if_neg (by decide)]
    clear hl
    go_enter Tryd.func15, Tryd.ntmps15
    go_wp2_with fail
    have HE1 : Hid (Ent w ((((w.alloc (.cells #[.int .i64 f, .int .i64 r, .int .i64 o, .int .i64 s, .int .i64 34] 27)).alloc (.cells #[.int .i64 0, .int .i64 0, .int .i64 0, .int .i64 0, .int .i64 0] 27)).alloc (.cells #[.int .i64 0, .int .i64 0, .int .i64 0, .int .i64 0, .int .i64 0] 24)).alloc (.cells #[.int .i64 f, .int .i64 r, .int .i64 o, .int .i64 s, .int .i64 34] 27)) (f, r, o, s, 34) (f, r, o, s, 34)) := ent_is w (f, r, o, s, 34)
    generalize ((((w.alloc (.cells #[.int .i64 f, .int .i64 r, .int .i64 o, .int .i64 s, .int .i64 34] 27)).alloc (.cells #[.int .i64 0, .int .i64 0, .int .i64 0, .int .i64 0, .int .i64 0] 27)).alloc (.cells #[.int .i64 0, .int .i64 0, .int .i64 0, .int .i64 0, .int .i64 0] 24)).alloc (.cells #[.int .i64 f, .int .i64 r, .int .i64 o, .int .i64 s, .int .i64 34] 27)) = w1 at *
    obtain ⟨c0, c1, c2, c3, c4⟩ : w1.cell? ⟨w.heap.size, 0, none⟩ = some (.int .i64 f) ∧ w1.cell? ⟨w.heap.size, 1, none⟩ = some (.int .i64 r) ∧ w1.cell? ⟨w.heap.size, 2, none⟩ = some (.int .i64 o) ∧ w1.cell? ⟨w.heap.size, 3, none⟩ = some (.int .i64 s) ∧ w1.cell? ⟨w.heap.size, 4, none⟩ = some (.int .i64 34) := ⟨HE1.out.1.1.c0, HE1.out.1.1.c1, HE1.out.1.1.c2, HE1.out.1.1.c3, HE1.out.1.1.c4⟩
    obtain ⟨d0, d1, d2, d3, d4⟩ : w1.cell? ⟨w.heap.size + 1 + 1 + 1, 0, none⟩ = some (.int .i64 f) ∧ w1.cell? ⟨w.heap.size + 1 + 1 + 1, 1, none⟩ = some (.int .i64 r) ∧ w1.cell? ⟨w.heap.size + 1 + 1 + 1, 2, none⟩ = some (.int .i64 o) ∧ w1.cell? ⟨w.heap.size + 1 + 1 + 1, 3, none⟩ = some (.int .i64 s) ∧ w1.cell? ⟨w.heap.size + 1 + 1 + 1, 4, none⟩ = some (.int .i64 34) := ⟨HE1.out.2.c0, HE1.out.2.c1, HE1.out.2.c2, HE1.out.2.c3, HE1.out.2.c4⟩
    have hfr := HE1.out.2.fr
    refine (refLetter_go k _).mono ?_
    rintro e w' ⟨rfl, rfl⟩
    rw [HL.out]
    go_wp2_with fail
    refine (refWrong_go _).mono ?_
    rintro e w2 ⟨rfl, hb⟩
    have HF : Hid (Enter w w2 (f, r, o, s, 34) w.heap.size (w.heap.size + 1) (w.heap.size + 1 + 1)) := Enter.below HE1.out.1 hb
    clear hb HE1 c0 c1 c2 c3 c4 d0 d1 d2 d3 d4 hfr
    go_wp2_with (first | (refine storeF rfl 27 _ _ rfl (.inl rfl) _ rfl wrg.1 zer rfl HF.out.2.1 ?_) | (refine storeF rfl 24 _ _ rfl (.inr rfl) _ rfl wrg.2.1 zer rfl (HF.out.2.2.1.other _ (by omega)) ?_))
    exact HF.out.end 4 5 6 Tryd.results15 rfl rfl rfl rfl
  case true =>
    have HL : Hid (letter k = true) := hl
    rw [if_pos rfl]
    clear hl
    go_enter Tryd.func15, Tryd.ntmps15
    go_wp2_with fail
    have HE1 : Hid (Ent w ((((w.alloc (.cells #[.int .i64 f, .int .i64 r, .int .i64 o, .int .i64 s, .int .i64 34] 27)).alloc (.cells #[.int .i64 0, .int .i64 0, .int .i64 0, .int .i64 0, .int .i64 0] 27)).alloc (.cells #[.int .i64 0, .int .i64 0, .int .i64 0, .int .i64 0, .int .i64 0] 24)).alloc (.cells #[.int .i64 f, .int .i64 r, .int .i64 o, .int .i64 s, .int .i64 34] 27)) (f, r, o, s, 34) (f, r, o, s, 34)) := ent_is w (f, r, o, s, 34)
    generalize ((((w.alloc (.cells #[.int .i64 f, .int .i64 r, .int .i64 o, .int .i64 s, .int .i64 34] 27)).alloc (.cells #[.int .i64 0, .int .i64 0, .int .i64 0, .int .i64 0, .int .i64 0] 27)).alloc (.cells #[.int .i64 0, .int .i64 0, .int .i64 0, .int .i64 0, .int .i64 0] 24)).alloc (.cells #[.int .i64 f, .int .i64 r, .int .i64 o, .int .i64 s, .int .i64 34] 27)) = w1 at *
    obtain ⟨c0, c1, c2, c3, c4⟩ : w1.cell? ⟨w.heap.size, 0, none⟩ = some (.int .i64 f) ∧ w1.cell? ⟨w.heap.size, 1, none⟩ = some (.int .i64 r) ∧ w1.cell? ⟨w.heap.size, 2, none⟩ = some (.int .i64 o) ∧ w1.cell? ⟨w.heap.size, 3, none⟩ = some (.int .i64 s) ∧ w1.cell? ⟨w.heap.size, 4, none⟩ = some (.int .i64 34) := ⟨HE1.out.1.1.c0, HE1.out.1.1.c1, HE1.out.1.1.c2, HE1.out.1.1.c3, HE1.out.1.1.c4⟩
    obtain ⟨d0, d1, d2, d3, d4⟩ : w1.cell? ⟨w.heap.size + 1 + 1 + 1, 0, none⟩ = some (.int .i64 f) ∧ w1.cell? ⟨w.heap.size + 1 + 1 + 1, 1, none⟩ = some (.int .i64 r) ∧ w1.cell? ⟨w.heap.size + 1 + 1 + 1, 2, none⟩ = some (.int .i64 o) ∧ w1.cell? ⟨w.heap.size + 1 + 1 + 1, 3, none⟩ = some (.int .i64 s) ∧ w1.cell? ⟨w.heap.size + 1 + 1 + 1, 4, none⟩ = some (.int .i64 34) := ⟨HE1.out.2.c0, HE1.out.2.c1, HE1.out.2.c2, HE1.out.2.c3, HE1.out.2.c4⟩
    have hfr := HE1.out.2.fr
    refine (refLetter_go k _).mono ?_
    rintro e w' ⟨rfl, rfl⟩
    rw [HL.out]
    go_wp2_with fail
    refine (refMore_go f k o s 0 _).mono ?_
    rintro e w2 ⟨rfl, hb⟩
    have HF : Hid (Enter w w2 (f, r, o, s, 34) w.heap.size (w.heap.size + 1) (w.heap.size + 1 + 1)) := Enter.below (Enter.far (Enter.far HE1.out.1 _ _ (by show w.heap.size + 1 + 1 < w.heap.size + 1 + 1 + 1; omega) (by omega)) _ _ (by show w.heap.size + 1 + 1 < w.heap.size + 1 + 1 + 1; omega) (by omega)) hb
    clear hb HE1 c0 c1 c2 c3 c4 d0 d1 d2 d3 d4 hfr
    go_wp2_with (first | (refine storeF rfl 27 _ _ rfl (.inl rfl) _ rfl (mor (f, k, o, s, 0)).1 zer rfl HF.out.2.1 ?_) | (refine storeF rfl 24 _ _ rfl (.inr rfl) _ rfl (mor (f, k, o, s, 0)).2.1 zer rfl (HF.out.2.2.1.other _ (by omega)) ?_))
    exact HF.out.end 4 5 6 Tryd.results15 rfl rfl rfl rfl

set_option maxRecDepth 100000 in
set_option maxHeartbeats 2000000 in
theorem ref_wait (f r o s t k : Int) (w : World) (hf : 0 ≤ f ∧ f ≤ 999) (hs : 0 ≤ s ∧ s ≤ 999) (h1 : 32 ≤ k) (h2 : (k == 127) = false) (h3 : t ≠ 34) (h4 : t ≠ 0) :
    Calls Tryd.prog 15 #[.agg #[.int .i64 f, .int .i64 r, .int .i64 o, .int .i64 s, .int .i64 t], .int .i64 k] w fun e w' => TookPost (if has sids t = true then (if has thgs k = true then don f r o s t k else wrg) else don f r o s t k) w e w' := by
  have HC : Hid ((0 ≤ f ∧ f ≤ 999) ∧ (0 ≤ s ∧ s ≤ 999)) := ⟨hf, hs⟩
  clear hf hs
  have g1 : (t == 34) = false := by simpa using h3
  have g2 : (t != 0) = true := by simpa using h4
  clear h3 h4
  cases hl : has sids t
  case false =>
    rw [if_neg (by decide)]
    have HL : Hid (has (codes ⟨#[105, 97]⟩) t = false) := hl
    clear hl
    go_enter Tryd.func15, Tryd.ntmps15
    go_wp2_with fail
    have HE1 : Hid (Ent w ((((w.alloc (.cells #[.int .i64 f, .int .i64 r, .int .i64 o, .int .i64 s, .int .i64 t] 27)).alloc (.cells #[.int .i64 0, .int .i64 0, .int .i64 0, .int .i64 0, .int .i64 0] 27)).alloc (.cells #[.int .i64 0, .int .i64 0, .int .i64 0, .int .i64 0, .int .i64 0] 24)).alloc (.cells #[.int .i64 f, .int .i64 r, .int .i64 o, .int .i64 s, .int .i64 t] 27)) (f, r, o, s, t) (f, r, o, s, t)) := ent_is w (f, r, o, s, t)
    generalize ((((w.alloc (.cells #[.int .i64 f, .int .i64 r, .int .i64 o, .int .i64 s, .int .i64 t] 27)).alloc (.cells #[.int .i64 0, .int .i64 0, .int .i64 0, .int .i64 0, .int .i64 0] 27)).alloc (.cells #[.int .i64 0, .int .i64 0, .int .i64 0, .int .i64 0, .int .i64 0] 24)).alloc (.cells #[.int .i64 f, .int .i64 r, .int .i64 o, .int .i64 s, .int .i64 t] 27)) = w1 at *
    obtain ⟨c0, c1, c2, c3, c4⟩ : w1.cell? ⟨w.heap.size, 0, none⟩ = some (.int .i64 f) ∧ w1.cell? ⟨w.heap.size, 1, none⟩ = some (.int .i64 r) ∧ w1.cell? ⟨w.heap.size, 2, none⟩ = some (.int .i64 o) ∧ w1.cell? ⟨w.heap.size, 3, none⟩ = some (.int .i64 s) ∧ w1.cell? ⟨w.heap.size, 4, none⟩ = some (.int .i64 t) := ⟨HE1.out.1.1.c0, HE1.out.1.1.c1, HE1.out.1.1.c2, HE1.out.1.1.c3, HE1.out.1.1.c4⟩
    obtain ⟨d0, d1, d2, d3, d4⟩ : w1.cell? ⟨w.heap.size + 1 + 1 + 1, 0, none⟩ = some (.int .i64 f) ∧ w1.cell? ⟨w.heap.size + 1 + 1 + 1, 1, none⟩ = some (.int .i64 r) ∧ w1.cell? ⟨w.heap.size + 1 + 1 + 1, 2, none⟩ = some (.int .i64 o) ∧ w1.cell? ⟨w.heap.size + 1 + 1 + 1, 3, none⟩ = some (.int .i64 s) ∧ w1.cell? ⟨w.heap.size + 1 + 1 + 1, 4, none⟩ = some (.int .i64 t) := ⟨HE1.out.2.c0, HE1.out.2.c1, HE1.out.2.c2, HE1.out.2.c3, HE1.out.2.c4⟩
    have hfr := HE1.out.2.fr
    refine (in_go ⟨#[105, 97]⟩ t false _ (by decide) HL.out).mono ?_
    rintro e w2 ⟨rfl, hb⟩
    have HE2 : Hid (Ent w w2 (f, r, o, s, t) (f, r, o, s, t)) := HE1.out.below hb
    clear hb HE1 c0 c1 c2 c3 c4 d0 d1 d2 d3 d4 hfr
    obtain ⟨c0, c1, c2, c3, c4⟩ : w2.cell? ⟨w.heap.size, 0, none⟩ = some (.int .i64 f) ∧ w2.cell? ⟨w.heap.size, 1, none⟩ = some (.int .i64 r) ∧ w2.cell? ⟨w.heap.size, 2, none⟩ = some (.int .i64 o) ∧ w2.cell? ⟨w.heap.size, 3, none⟩ = some (.int .i64 s) ∧ w2.cell? ⟨w.heap.size, 4, none⟩ = some (.int .i64 t) := ⟨HE2.out.1.1.c0, HE2.out.1.1.c1, HE2.out.1.1.c2, HE2.out.1.1.c3, HE2.out.1.1.c4⟩
    obtain ⟨d0, d1, d2, d3, d4⟩ : w2.cell? ⟨w.heap.size + 1 + 1 + 1, 0, none⟩ = some (.int .i64 f) ∧ w2.cell? ⟨w.heap.size + 1 + 1 + 1, 1, none⟩ = some (.int .i64 r) ∧ w2.cell? ⟨w.heap.size + 1 + 1 + 1, 2, none⟩ = some (.int .i64 o) ∧ w2.cell? ⟨w.heap.size + 1 + 1 + 1, 3, none⟩ = some (.int .i64 s) ∧ w2.cell? ⟨w.heap.size + 1 + 1 + 1, 4, none⟩ = some (.int .i64 t) := ⟨HE2.out.2.c0, HE2.out.2.c1, HE2.out.2.c2, HE2.out.2.c3, HE2.out.2.c4⟩
    have hfr := HE2.out.2.fr
    go_wp2_with fail
    refine (refDone_go f r o s t t k w.heap.size _ HC.out.1 HC.out.2 HE2.out.1.1).mono ?_
    rintro e w3 ⟨rfl, hb⟩
    have HF : Hid (Enter w w3 (f, r, o, s, t) w.heap.size (w.heap.size + 1) (w.heap.size + 1 + 1)) := Enter.below HE2.out.1 hb
    clear hb HE2 c0 c1 c2 c3 c4 d0 d1 d2 d3 d4 hfr
    go_wp2_with (first | (refine storeF rfl 27 _ _ rfl (.inl rfl) _ rfl (don f r o s t k).1 zer rfl HF.out.2.1 ?_) | (refine storeF rfl 24 _ _ rfl (.inr rfl) _ rfl (don f r o s t k).2.1 zer rfl (HF.out.2.2.1.other _ (by omega)) ?_))
    exact HF.out.end 4 5 6 Tryd.results15 rfl rfl rfl rfl
  case true =>
    rw [if_pos rfl]
    have HL : Hid (has (codes ⟨#[105, 97]⟩) t = true) := hl
    clear hl
    cases hm : has thgs k
    case false =>
      rw [if_neg (by decide)]
      have HM : Hid (has (codes ⟨#[119, 87, 40, 41, 91, 93, 123, 125, 34, 39, 96]⟩) k = false) := hm
      clear hm
      go_enter Tryd.func15, Tryd.ntmps15
      go_wp2_with fail
      have HE1 : Hid (Ent w ((((w.alloc (.cells #[.int .i64 f, .int .i64 r, .int .i64 o, .int .i64 s, .int .i64 t] 27)).alloc (.cells #[.int .i64 0, .int .i64 0, .int .i64 0, .int .i64 0, .int .i64 0] 27)).alloc (.cells #[.int .i64 0, .int .i64 0, .int .i64 0, .int .i64 0, .int .i64 0] 24)).alloc (.cells #[.int .i64 f, .int .i64 r, .int .i64 o, .int .i64 s, .int .i64 t] 27)) (f, r, o, s, t) (f, r, o, s, t)) := ent_is w (f, r, o, s, t)
      generalize ((((w.alloc (.cells #[.int .i64 f, .int .i64 r, .int .i64 o, .int .i64 s, .int .i64 t] 27)).alloc (.cells #[.int .i64 0, .int .i64 0, .int .i64 0, .int .i64 0, .int .i64 0] 27)).alloc (.cells #[.int .i64 0, .int .i64 0, .int .i64 0, .int .i64 0, .int .i64 0] 24)).alloc (.cells #[.int .i64 f, .int .i64 r, .int .i64 o, .int .i64 s, .int .i64 t] 27)) = w1 at *
      obtain ⟨c0, c1, c2, c3, c4⟩ : w1.cell? ⟨w.heap.size, 0, none⟩ = some (.int .i64 f) ∧ w1.cell? ⟨w.heap.size, 1, none⟩ = some (.int .i64 r) ∧ w1.cell? ⟨w.heap.size, 2, none⟩ = some (.int .i64 o) ∧ w1.cell? ⟨w.heap.size, 3, none⟩ = some (.int .i64 s) ∧ w1.cell? ⟨w.heap.size, 4, none⟩ = some (.int .i64 t) := ⟨HE1.out.1.1.c0, HE1.out.1.1.c1, HE1.out.1.1.c2, HE1.out.1.1.c3, HE1.out.1.1.c4⟩
      obtain ⟨d0, d1, d2, d3, d4⟩ : w1.cell? ⟨w.heap.size + 1 + 1 + 1, 0, none⟩ = some (.int .i64 f) ∧ w1.cell? ⟨w.heap.size + 1 + 1 + 1, 1, none⟩ = some (.int .i64 r) ∧ w1.cell? ⟨w.heap.size + 1 + 1 + 1, 2, none⟩ = some (.int .i64 o) ∧ w1.cell? ⟨w.heap.size + 1 + 1 + 1, 3, none⟩ = some (.int .i64 s) ∧ w1.cell? ⟨w.heap.size + 1 + 1 + 1, 4, none⟩ = some (.int .i64 t) := ⟨HE1.out.2.c0, HE1.out.2.c1, HE1.out.2.c2, HE1.out.2.c3, HE1.out.2.c4⟩
      have hfr := HE1.out.2.fr
      refine (in_go ⟨#[105, 97]⟩ t true _ (by decide) HL.out).mono ?_
      rintro e w2 ⟨rfl, hb⟩
      have HE2 : Hid (Ent w w2 (f, r, o, s, t) (f, r, o, s, t)) := HE1.out.below hb
      clear hb HE1 c0 c1 c2 c3 c4 d0 d1 d2 d3 d4 hfr
      obtain ⟨c0, c1, c2, c3, c4⟩ : w2.cell? ⟨w.heap.size, 0, none⟩ = some (.int .i64 f) ∧ w2.cell? ⟨w.heap.size, 1, none⟩ = some (.int .i64 r) ∧ w2.cell? ⟨w.heap.size, 2, none⟩ = some (.int .i64 o) ∧ w2.cell? ⟨w.heap.size, 3, none⟩ = some (.int .i64 s) ∧ w2.cell? ⟨w.heap.size, 4, none⟩ = some (.int .i64 t) := ⟨HE2.out.1.1.c0, HE2.out.1.1.c1, HE2.out.1.1.c2, HE2.out.1.1.c3, HE2.out.1.1.c4⟩
      obtain ⟨d0, d1, d2, d3, d4⟩ : w2.cell? ⟨w.heap.size + 1 + 1 + 1, 0, none⟩ = some (.int .i64 f) ∧ w2.cell? ⟨w.heap.size + 1 + 1 + 1, 1, none⟩ = some (.int .i64 r) ∧ w2.cell? ⟨w.heap.size + 1 + 1 + 1, 2, none⟩ = some (.int .i64 o) ∧ w2.cell? ⟨w.heap.size + 1 + 1 + 1, 3, none⟩ = some (.int .i64 s) ∧ w2.cell? ⟨w.heap.size + 1 + 1 + 1, 4, none⟩ = some (.int .i64 t) := ⟨HE2.out.2.c0, HE2.out.2.c1, HE2.out.2.c2, HE2.out.2.c3, HE2.out.2.c4⟩
      have hfr := HE2.out.2.fr
      go_wp2_with fail
      refine (in_go ⟨#[119, 87, 40, 41, 91, 93, 123, 125, 34, 39, 96]⟩ k false _ (by decide) HM.out).mono ?_
      rintro e w3 ⟨rfl, hb⟩
      have HE3 : Hid (Ent w w3 (f, r, o, s, t) (f, r, o, s, t)) := HE2.out.below hb
      clear hb HE2 c0 c1 c2 c3 c4 d0 d1 d2 d3 d4 hfr
      obtain ⟨c0, c1, c2, c3, c4⟩ : w3.cell? ⟨w.heap.size, 0, none⟩ = some (.int .i64 f) ∧ w3.cell? ⟨w.heap.size, 1, none⟩ = some (.int .i64 r) ∧ w3.cell? ⟨w.heap.size, 2, none⟩ = some (.int .i64 o) ∧ w3.cell? ⟨w.heap.size, 3, none⟩ = some (.int .i64 s) ∧ w3.cell? ⟨w.heap.size, 4, none⟩ = some (.int .i64 t) := ⟨HE3.out.1.1.c0, HE3.out.1.1.c1, HE3.out.1.1.c2, HE3.out.1.1.c3, HE3.out.1.1.c4⟩
      obtain ⟨d0, d1, d2, d3, d4⟩ : w3.cell? ⟨w.heap.size + 1 + 1 + 1, 0, none⟩ = some (.int .i64 f) ∧ w3.cell? ⟨w.heap.size + 1 + 1 + 1, 1, none⟩ = some (.int .i64 r) ∧ w3.cell? ⟨w.heap.size + 1 + 1 + 1, 2, none⟩ = some (.int .i64 o) ∧ w3.cell? ⟨w.heap.size + 1 + 1 + 1, 3, none⟩ = some (.int .i64 s) ∧ w3.cell? ⟨w.heap.size + 1 + 1 + 1, 4, none⟩ = some (.int .i64 t) := ⟨HE3.out.2.c0, HE3.out.2.c1, HE3.out.2.c2, HE3.out.2.c3, HE3.out.2.c4⟩
      have hfr := HE3.out.2.fr
      go_wp2_with fail
      refine (refWrong_go _).mono ?_
      rintro e w4 ⟨rfl, hb⟩
      have HF : Hid (Enter w w4 (f, r, o, s, t) w.heap.size (w.heap.size + 1) (w.heap.size + 1 + 1)) := Enter.below HE3.out.1 hb
      clear hb HE3 c0 c1 c2 c3 c4 d0 d1 d2 d3 d4 hfr
      go_wp2_with (first | (refine storeF rfl 27 _ _ rfl (.inl rfl) _ rfl wrg.1 zer rfl HF.out.2.1 ?_) | (refine storeF rfl 24 _ _ rfl (.inr rfl) _ rfl wrg.2.1 zer rfl (HF.out.2.2.1.other _ (by omega)) ?_))
      exact HF.out.end 4 5 6 Tryd.results15 rfl rfl rfl rfl
    case true =>
      rw [if_pos rfl]
      have HM : Hid (has (codes ⟨#[119, 87, 40, 41, 91, 93, 123, 125, 34, 39, 96]⟩) k = true) := hm
      clear hm
      go_enter Tryd.func15, Tryd.ntmps15
      go_wp2_with fail
      have HE1 : Hid (Ent w ((((w.alloc (.cells #[.int .i64 f, .int .i64 r, .int .i64 o, .int .i64 s, .int .i64 t] 27)).alloc (.cells #[.int .i64 0, .int .i64 0, .int .i64 0, .int .i64 0, .int .i64 0] 27)).alloc (.cells #[.int .i64 0, .int .i64 0, .int .i64 0, .int .i64 0, .int .i64 0] 24)).alloc (.cells #[.int .i64 f, .int .i64 r, .int .i64 o, .int .i64 s, .int .i64 t] 27)) (f, r, o, s, t) (f, r, o, s, t)) := ent_is w (f, r, o, s, t)
      generalize ((((w.alloc (.cells #[.int .i64 f, .int .i64 r, .int .i64 o, .int .i64 s, .int .i64 t] 27)).alloc (.cells #[.int .i64 0, .int .i64 0, .int .i64 0, .int .i64 0, .int .i64 0] 27)).alloc (.cells #[.int .i64 0, .int .i64 0, .int .i64 0, .int .i64 0, .int .i64 0] 24)).alloc (.cells #[.int .i64 f, .int .i64 r, .int .i64 o, .int .i64 s, .int .i64 t] 27)) = w1 at *
      obtain ⟨c0, c1, c2, c3, c4⟩ : w1.cell? ⟨w.heap.size, 0, none⟩ = some (.int .i64 f) ∧ w1.cell? ⟨w.heap.size, 1, none⟩ = some (.int .i64 r) ∧ w1.cell? ⟨w.heap.size, 2, none⟩ = some (.int .i64 o) ∧ w1.cell? ⟨w.heap.size, 3, none⟩ = some (.int .i64 s) ∧ w1.cell? ⟨w.heap.size, 4, none⟩ = some (.int .i64 t) := ⟨HE1.out.1.1.c0, HE1.out.1.1.c1, HE1.out.1.1.c2, HE1.out.1.1.c3, HE1.out.1.1.c4⟩
      obtain ⟨d0, d1, d2, d3, d4⟩ : w1.cell? ⟨w.heap.size + 1 + 1 + 1, 0, none⟩ = some (.int .i64 f) ∧ w1.cell? ⟨w.heap.size + 1 + 1 + 1, 1, none⟩ = some (.int .i64 r) ∧ w1.cell? ⟨w.heap.size + 1 + 1 + 1, 2, none⟩ = some (.int .i64 o) ∧ w1.cell? ⟨w.heap.size + 1 + 1 + 1, 3, none⟩ = some (.int .i64 s) ∧ w1.cell? ⟨w.heap.size + 1 + 1 + 1, 4, none⟩ = some (.int .i64 t) := ⟨HE1.out.2.c0, HE1.out.2.c1, HE1.out.2.c2, HE1.out.2.c3, HE1.out.2.c4⟩
      have hfr := HE1.out.2.fr
      refine (in_go ⟨#[105, 97]⟩ t true _ (by decide) HL.out).mono ?_
      rintro e w2 ⟨rfl, hb⟩
      have HE2 : Hid (Ent w w2 (f, r, o, s, t) (f, r, o, s, t)) := HE1.out.below hb
      clear hb HE1 c0 c1 c2 c3 c4 d0 d1 d2 d3 d4 hfr
      obtain ⟨c0, c1, c2, c3, c4⟩ : w2.cell? ⟨w.heap.size, 0, none⟩ = some (.int .i64 f) ∧ w2.cell? ⟨w.heap.size, 1, none⟩ = some (.int .i64 r) ∧ w2.cell? ⟨w.heap.size, 2, none⟩ = some (.int .i64 o) ∧ w2.cell? ⟨w.heap.size, 3, none⟩ = some (.int .i64 s) ∧ w2.cell? ⟨w.heap.size, 4, none⟩ = some (.int .i64 t) := ⟨HE2.out.1.1.c0, HE2.out.1.1.c1, HE2.out.1.1.c2, HE2.out.1.1.c3, HE2.out.1.1.c4⟩
      obtain ⟨d0, d1, d2, d3, d4⟩ : w2.cell? ⟨w.heap.size + 1 + 1 + 1, 0, none⟩ = some (.int .i64 f) ∧ w2.cell? ⟨w.heap.size + 1 + 1 + 1, 1, none⟩ = some (.int .i64 r) ∧ w2.cell? ⟨w.heap.size + 1 + 1 + 1, 2, none⟩ = some (.int .i64 o) ∧ w2.cell? ⟨w.heap.size + 1 + 1 + 1, 3, none⟩ = some (.int .i64 s) ∧ w2.cell? ⟨w.heap.size + 1 + 1 + 1, 4, none⟩ = some (.int .i64 t) := ⟨HE2.out.2.c0, HE2.out.2.c1, HE2.out.2.c2, HE2.out.2.c3, HE2.out.2.c4⟩
      have hfr := HE2.out.2.fr
      go_wp2_with fail
      refine (in_go ⟨#[119, 87, 40, 41, 91, 93, 123, 125, 34, 39, 96]⟩ k true _ (by decide) HM.out).mono ?_
      rintro e w3 ⟨rfl, hb⟩
      have HE3 : Hid (Ent w w3 (f, r, o, s, t) (f, r, o, s, t)) := HE2.out.below hb
      clear hb HE2 c0 c1 c2 c3 c4 d0 d1 d2 d3 d4 hfr
      obtain ⟨c0, c1, c2, c3, c4⟩ : w3.cell? ⟨w.heap.size, 0, none⟩ = some (.int .i64 f) ∧ w3.cell? ⟨w.heap.size, 1, none⟩ = some (.int .i64 r) ∧ w3.cell? ⟨w.heap.size, 2, none⟩ = some (.int .i64 o) ∧ w3.cell? ⟨w.heap.size, 3, none⟩ = some (.int .i64 s) ∧ w3.cell? ⟨w.heap.size, 4, none⟩ = some (.int .i64 t) := ⟨HE3.out.1.1.c0, HE3.out.1.1.c1, HE3.out.1.1.c2, HE3.out.1.1.c3, HE3.out.1.1.c4⟩
      obtain ⟨d0, d1, d2, d3, d4⟩ : w3.cell? ⟨w.heap.size + 1 + 1 + 1, 0, none⟩ = some (.int .i64 f) ∧ w3.cell? ⟨w.heap.size + 1 + 1 + 1, 1, none⟩ = some (.int .i64 r) ∧ w3.cell? ⟨w.heap.size + 1 + 1 + 1, 2, none⟩ = some (.int .i64 o) ∧ w3.cell? ⟨w.heap.size + 1 + 1 + 1, 3, none⟩ = some (.int .i64 s) ∧ w3.cell? ⟨w.heap.size + 1 + 1 + 1, 4, none⟩ = some (.int .i64 t) := ⟨HE3.out.2.c0, HE3.out.2.c1, HE3.out.2.c2, HE3.out.2.c3, HE3.out.2.c4⟩
      have hfr := HE3.out.2.fr
      go_wp2_with fail
      refine (refDone_go f r o s t t k w.heap.size _ HC.out.1 HC.out.2 HE3.out.1.1).mono ?_
      rintro e w4 ⟨rfl, hb⟩
      have HF : Hid (Enter w w4 (f, r, o, s, t) w.heap.size (w.heap.size + 1) (w.heap.size + 1 + 1)) := Enter.below HE3.out.1 hb
      clear hb HE3 c0 c1 c2 c3 c4 d0 d1 d2 d3 d4 hfr
      go_wp2_with (first | (refine storeF rfl 27 _ _ rfl (.inl rfl) _ rfl (don f r o s t k).1 zer rfl HF.out.2.1 ?_) | (refine storeF rfl 24 _ _ rfl (.inr rfl) _ rfl (don f r o s t k).2.1 zer rfl (HF.out.2.2.1.other _ (by omega)) ?_))
      exact HF.out.end 4 5 6 Tryd.results15 rfl rfl rfl rfl

end Go.Proofs.YtjpgjhdkgmddfaaDoor.Seek
