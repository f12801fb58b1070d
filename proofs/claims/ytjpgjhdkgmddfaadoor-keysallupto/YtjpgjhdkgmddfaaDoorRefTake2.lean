/- The document's Take: digits. -/
import Derived.Test.YtjpgjhdkgmddfaaDoorRefTake0
set_option linter.unusedVariables false
set_option linter.unusedSimpArgs false
namespace Go.Proofs.YtjpgjhdkgmddfaaDoor.Seek
open Go.RowKit Plain

set_option maxRecDepth 100000 in
set_option maxHeartbeats 2000000 in
theorem ref_digit (f r o s k : Int) (w : World) (hf : 0 ≤ f ∧ f ≤ 999) (hs : 0 ≤ s ∧ s ≤ 999) (h1 : 48 ≤ k) (h2 : k ≤ 57) (h3 : dig f o s k = true) :
    Calls Tryd.prog 15 #[.agg #[.int .i64 f, .int .i64 r, .int .i64 o, .int .i64 s, .int .i64 0], .int .i64 k] w fun e w' => TookPost (mor (cntd f r o s 0 k)) w e w' := by
  have hd := of_decide_eq_true h3
  clear h3
  have hm : 0 ≤ mnt f o s ∧ mnt f o s ≤ 999 := by unfold mnt; split <;> omega
  obtain ⟨m, hM⟩ : ∃ m, m = mnt f o s := ⟨_, rfl⟩
  have HCN : Hid (cnt f o s k = min (10 * m + k - 48) 999) := by show _ = _; unfold cnt; rw [hM]
  rw [← hM] at hm hd
  obtain ⟨hm0, hm9⟩ := hm
  obtain ⟨q, hq, hq2⟩ : ∃ q, q = min (10 * m + k - 48) 999 ∧ ((q = m * 10 + k - 48 ∧ m * 10 + k - 48 < 999) ∨ (q = 999 ∧ 999 ≤ m * 10 + k - 48)) := by
    refine ⟨_, rfl, ?_⟩
    omega
  rw [← hq] at HCN
  clear hq hf hs
  have g127 : (k == 127) = false := by simp only [beq_eq_false_iff_ne]; omega
  by_cases h1' : o = 0
  · subst h1'
    have HR : Hid (cntd f r 0 s 0 k = (q, r, 0, s, 0)) := by show cntd f r 0 s 0 k = _; unfold cntd; rw [if_neg (by decide), HCN.out]
    rw [HR.out]
    clear HR HCN
    have hmf : f = m := by rw [hM]; exact (if_neg (by decide)).symm
    subst hmf
    clear hM
    by_cases hk : k = 48
    · subst hk
      have hm1 : 0 < f := by omega
      replace hq2 : (q = f * 10 ∧ f * 10 < 999) ∨ (q = 999 ∧ 999 ≤ f * 10) := by omega
      clear hd
      rcases hq2 with ⟨rfl, hq3⟩ | ⟨rfl, hq3⟩
      · skip
        go_enter Tryd.func15, Tryd.ntmps15
        go_wp2_with fail
        have HE1 : Hid (Ent w ((((w.alloc (.cells #[.int .i64 f, .int .i64 r, .int .i64 0, .int .i64 s, .int .i64 0] 27)).alloc (.cells #[.int .i64 0, .int .i64 0, .int .i64 0, .int .i64 0, .int .i64 0] 27)).alloc (.cells #[.int .i64 0, .int .i64 0, .int .i64 0, .int .i64 0, .int .i64 0] 24)).alloc (.cells #[.int .i64 f, .int .i64 r, .int .i64 0, .int .i64 s, .int .i64 0] 27)) (f, r, 0, s, 0) (f, r, 0, s, 0)) := ent_is w (f, r, 0, s, 0)
        generalize ((((w.alloc (.cells #[.int .i64 f, .int .i64 r, .int .i64 0, .int .i64 s, .int .i64 0] 27)).alloc (.cells #[.int .i64 0, .int .i64 0, .int .i64 0, .int .i64 0, .int .i64 0] 27)).alloc (.cells #[.int .i64 0, .int .i64 0, .int .i64 0, .int .i64 0, .int .i64 0] 24)).alloc (.cells #[.int .i64 f, .int .i64 r, .int .i64 0, .int .i64 s, .int .i64 0] 27)) = w1 at *
        obtain ⟨c0, c1, c2, c3, c4⟩ : w1.cell? ⟨w.heap.size, 0, none⟩ = some (.int .i64 f) ∧ w1.cell? ⟨w.heap.size, 1, none⟩ = some (.int .i64 r) ∧ w1.cell? ⟨w.heap.size, 2, none⟩ = some (.int .i64 0) ∧ w1.cell? ⟨w.heap.size, 3, none⟩ = some (.int .i64 s) ∧ w1.cell? ⟨w.heap.size, 4, none⟩ = some (.int .i64 0) := ⟨HE1.out.1.1.c0, HE1.out.1.1.c1, HE1.out.1.1.c2, HE1.out.1.1.c3, HE1.out.1.1.c4⟩
        obtain ⟨d0, d1, d2, d3, d4⟩ : w1.cell? ⟨w.heap.size + 1 + 1 + 1, 0, none⟩ = some (.int .i64 f) ∧ w1.cell? ⟨w.heap.size + 1 + 1 + 1, 1, none⟩ = some (.int .i64 r) ∧ w1.cell? ⟨w.heap.size + 1 + 1 + 1, 2, none⟩ = some (.int .i64 0) ∧ w1.cell? ⟨w.heap.size + 1 + 1 + 1, 3, none⟩ = some (.int .i64 s) ∧ w1.cell? ⟨w.heap.size + 1 + 1 + 1, 4, none⟩ = some (.int .i64 0) := ⟨HE1.out.2.c0, HE1.out.2.c1, HE1.out.2.c2, HE1.out.2.c3, HE1.out.2.c4⟩
        have hfr := HE1.out.2.fr
        refine (in_go ⟨#[105, 97]⟩ 0 false _ (by decide) (by decide)).mono ?_
        rintro e w2 ⟨rfl, hb⟩
        have HE2 : Hid (Ent w w2 (f, r, 0, s, 0) (f, r, 0, s, 0)) := HE1.out.below hb
        clear hb HE1 c0 c1 c2 c3 c4 d0 d1 d2 d3 d4 hfr
        obtain ⟨c0, c1, c2, c3, c4⟩ : w2.cell? ⟨w.heap.size, 0, none⟩ = some (.int .i64 f) ∧ w2.cell? ⟨w.heap.size, 1, none⟩ = some (.int .i64 r) ∧ w2.cell? ⟨w.heap.size, 2, none⟩ = some (.int .i64 0) ∧ w2.cell? ⟨w.heap.size, 3, none⟩ = some (.int .i64 s) ∧ w2.cell? ⟨w.heap.size, 4, none⟩ = some (.int .i64 0) := ⟨HE2.out.1.1.c0, HE2.out.1.1.c1, HE2.out.1.1.c2, HE2.out.1.1.c3, HE2.out.1.1.c4⟩
        obtain ⟨d0, d1, d2, d3, d4⟩ : w2.cell? ⟨w.heap.size + 1 + 1 + 1, 0, none⟩ = some (.int .i64 f) ∧ w2.cell? ⟨w.heap.size + 1 + 1 + 1, 1, none⟩ = some (.int .i64 r) ∧ w2.cell? ⟨w.heap.size + 1 + 1 + 1, 2, none⟩ = some (.int .i64 0) ∧ w2.cell? ⟨w.heap.size + 1 + 1 + 1, 3, none⟩ = some (.int .i64 s) ∧ w2.cell? ⟨w.heap.size + 1 + 1 + 1, 4, none⟩ = some (.int .i64 0) := ⟨HE2.out.2.c0, HE2.out.2.c1, HE2.out.2.c2, HE2.out.2.c3, HE2.out.2.c4⟩
        have hfr := HE2.out.2.fr
        go_wp2_with fail
        refine (in_go ⟨#[49, 50, 51, 52, 53, 54, 55, 56, 57]⟩ 48 false _ (by decide) (by decide)).mono ?_
        rintro e w3 ⟨rfl, hb⟩
        have HE3 : Hid (Ent w w3 (f, r, 0, s, 0) (f, r, 0, s, 0)) := HE2.out.below hb
        clear hb HE2 c0 c1 c2 c3 c4 d0 d1 d2 d3 d4 hfr
        obtain ⟨c0, c1, c2, c3, c4⟩ : w3.cell? ⟨w.heap.size, 0, none⟩ = some (.int .i64 f) ∧ w3.cell? ⟨w.heap.size, 1, none⟩ = some (.int .i64 r) ∧ w3.cell? ⟨w.heap.size, 2, none⟩ = some (.int .i64 0) ∧ w3.cell? ⟨w.heap.size, 3, none⟩ = some (.int .i64 s) ∧ w3.cell? ⟨w.heap.size, 4, none⟩ = some (.int .i64 0) := ⟨HE3.out.1.1.c0, HE3.out.1.1.c1, HE3.out.1.1.c2, HE3.out.1.1.c3, HE3.out.1.1.c4⟩
        obtain ⟨d0, d1, d2, d3, d4⟩ : w3.cell? ⟨w.heap.size + 1 + 1 + 1, 0, none⟩ = some (.int .i64 f) ∧ w3.cell? ⟨w.heap.size + 1 + 1 + 1, 1, none⟩ = some (.int .i64 r) ∧ w3.cell? ⟨w.heap.size + 1 + 1 + 1, 2, none⟩ = some (.int .i64 0) ∧ w3.cell? ⟨w.heap.size + 1 + 1 + 1, 3, none⟩ = some (.int .i64 s) ∧ w3.cell? ⟨w.heap.size + 1 + 1 + 1, 4, none⟩ = some (.int .i64 0) := ⟨HE3.out.2.c0, HE3.out.2.c1, HE3.out.2.c2, HE3.out.2.c3, HE3.out.2.c4⟩
        have hfr := HE3.out.2.fr
        go_wp2_with fail
        refine (refMore_go (f * 10) r 0 s 0 _).mono ?_
        rintro e w4 ⟨rfl, hb⟩
        have HF : Hid (Enter w w4 (f, r, 0, s, 0) w.heap.size (w.heap.size + 1) (w.heap.size + 1 + 1)) := Enter.below (Enter.far HE3.out.1 _ _ (by show w.heap.size + 1 + 1 < w.heap.size + 1 + 1 + 1; omega) (by omega)) hb
        clear hb HE3 c0 c1 c2 c3 c4 d0 d1 d2 d3 d4 hfr
        go_wp2_with (first | (refine storeF rfl 27 _ _ rfl (.inl rfl) _ rfl (mor ((f * 10), r, 0, s, 0)).1 zer rfl HF.out.2.1 ?_) | (refine storeF rfl 24 _ _ rfl (.inr rfl) _ rfl (mor ((f * 10), r, 0, s, 0)).2.1 zer rfl (HF.out.2.2.1.other _ (by omega)) ?_))
        exact HF.out.end 4 5 6 Tryd.results15 rfl rfl rfl rfl
      · skip
        go_enter Tryd.func15, Tryd.ntmps15
        go_wp2_with fail
        have HE1 : Hid (Ent w ((((w.alloc (.cells #[.int .i64 f, .int .i64 r, .int .i64 0, .int .i64 s, .int .i64 0] 27)).alloc (.cells #[.int .i64 0, .int .i64 0, .int .i64 0, .int .i64 0, .int .i64 0] 27)).alloc (.cells #[.int .i64 0, .int .i64 0, .int .i64 0, .int .i64 0, .int .i64 0] 24)).alloc (.cells #[.int .i64 f, .int .i64 r, .int .i64 0, .int .i64 s, .int .i64 0] 27)) (f, r, 0, s, 0) (f, r, 0, s, 0)) := ent_is w (f, r, 0, s, 0)
        generalize ((((w.alloc (.cells #[.int .i64 f, .int .i64 r, .int .i64 0, .int .i64 s, .int .i64 0] 27)).alloc (.cells #[.int .i64 0, .int .i64 0, .int .i64 0, .int .i64 0, .int .i64 0] 27)).alloc (.cells #[.int .i64 0, .int .i64 0, .int .i64 0, .int .i64 0, .int .i64 0] 24)).alloc (.cells #[.int .i64 f, .int .i64 r, .int .i64 0, .int .i64 s, .int .i64 0] 27)) = w1 at *
        obtain ⟨c0, c1, c2, c3, c4⟩ : w1.cell? ⟨w.heap.size, 0, none⟩ = some (.int .i64 f) ∧ w1.cell? ⟨w.heap.size, 1, none⟩ = some (.int .i64 r) ∧ w1.cell? ⟨w.heap.size, 2, none⟩ = some (.int .i64 0) ∧ w1.cell? ⟨w.heap.size, 3, none⟩ = some (.int .i64 s) ∧ w1.cell? ⟨w.heap.size, 4, none⟩ = some (.int .i64 0) := ⟨HE1.out.1.1.c0, HE1.out.1.1.c1, HE1.out.1.1.c2, HE1.out.1.1.c3, HE1.out.1.1.c4⟩
        obtain ⟨d0, d1, d2, d3, d4⟩ : w1.cell? ⟨w.heap.size + 1 + 1 + 1, 0, none⟩ = some (.int .i64 f) ∧ w1.cell? ⟨w.heap.size + 1 + 1 + 1, 1, none⟩ = some (.int .i64 r) ∧ w1.cell? ⟨w.heap.size + 1 + 1 + 1, 2, none⟩ = some (.int .i64 0) ∧ w1.cell? ⟨w.heap.size + 1 + 1 + 1, 3, none⟩ = some (.int .i64 s) ∧ w1.cell? ⟨w.heap.size + 1 + 1 + 1, 4, none⟩ = some (.int .i64 0) := ⟨HE1.out.2.c0, HE1.out.2.c1, HE1.out.2.c2, HE1.out.2.c3, HE1.out.2.c4⟩
        have hfr := HE1.out.2.fr
        refine (in_go ⟨#[105, 97]⟩ 0 false _ (by decide) (by decide)).mono ?_
        rintro e w2 ⟨rfl, hb⟩
        have HE2 : Hid (Ent w w2 (f, r, 0, s, 0) (f, r, 0, s, 0)) := HE1.out.below hb
        clear hb HE1 c0 c1 c2 c3 c4 d0 d1 d2 d3 d4 hfr
        obtain ⟨c0, c1, c2, c3, c4⟩ : w2.cell? ⟨w.heap.size, 0, none⟩ = some (.int .i64 f) ∧ w2.cell? ⟨w.heap.size, 1, none⟩ = some (.int .i64 r) ∧ w2.cell? ⟨w.heap.size, 2, none⟩ = some (.int .i64 0) ∧ w2.cell? ⟨w.heap.size, 3, none⟩ = some (.int .i64 s) ∧ w2.cell? ⟨w.heap.size, 4, none⟩ = some (.int .i64 0) := ⟨HE2.out.1.1.c0, HE2.out.1.1.c1, HE2.out.1.1.c2, HE2.out.1.1.c3, HE2.out.1.1.c4⟩
        obtain ⟨d0, d1, d2, d3, d4⟩ : w2.cell? ⟨w.heap.size + 1 + 1 + 1, 0, none⟩ = some (.int .i64 f) ∧ w2.cell? ⟨w.heap.size + 1 + 1 + 1, 1, none⟩ = some (.int .i64 r) ∧ w2.cell? ⟨w.heap.size + 1 + 1 + 1, 2, none⟩ = some (.int .i64 0) ∧ w2.cell? ⟨w.heap.size + 1 + 1 + 1, 3, none⟩ = some (.int .i64 s) ∧ w2.cell? ⟨w.heap.size + 1 + 1 + 1, 4, none⟩ = some (.int .i64 0) := ⟨HE2.out.2.c0, HE2.out.2.c1, HE2.out.2.c2, HE2.out.2.c3, HE2.out.2.c4⟩
        have hfr := HE2.out.2.fr
        go_wp2_with fail
        refine (in_go ⟨#[49, 50, 51, 52, 53, 54, 55, 56, 57]⟩ 48 false _ (by decide) (by decide)).mono ?_
        rintro e w3 ⟨rfl, hb⟩
        have HE3 : Hid (Ent w w3 (f, r, 0, s, 0) (f, r, 0, s, 0)) := HE2.out.below hb
        clear hb HE2 c0 c1 c2 c3 c4 d0 d1 d2 d3 d4 hfr
        obtain ⟨c0, c1, c2, c3, c4⟩ : w3.cell? ⟨w.heap.size, 0, none⟩ = some (.int .i64 f) ∧ w3.cell? ⟨w.heap.size, 1, none⟩ = some (.int .i64 r) ∧ w3.cell? ⟨w.heap.size, 2, none⟩ = some (.int .i64 0) ∧ w3.cell? ⟨w.heap.size, 3, none⟩ = some (.int .i64 s) ∧ w3.cell? ⟨w.heap.size, 4, none⟩ = some (.int .i64 0) := ⟨HE3.out.1.1.c0, HE3.out.1.1.c1, HE3.out.1.1.c2, HE3.out.1.1.c3, HE3.out.1.1.c4⟩
        obtain ⟨d0, d1, d2, d3, d4⟩ : w3.cell? ⟨w.heap.size + 1 + 1 + 1, 0, none⟩ = some (.int .i64 f) ∧ w3.cell? ⟨w.heap.size + 1 + 1 + 1, 1, none⟩ = some (.int .i64 r) ∧ w3.cell? ⟨w.heap.size + 1 + 1 + 1, 2, none⟩ = some (.int .i64 0) ∧ w3.cell? ⟨w.heap.size + 1 + 1 + 1, 3, none⟩ = some (.int .i64 s) ∧ w3.cell? ⟨w.heap.size + 1 + 1 + 1, 4, none⟩ = some (.int .i64 0) := ⟨HE3.out.2.c0, HE3.out.2.c1, HE3.out.2.c2, HE3.out.2.c3, HE3.out.2.c4⟩
        have hfr := HE3.out.2.fr
        go_wp2_with fail
        refine (refMore_go (999) r 0 s 0 _).mono ?_
        rintro e w4 ⟨rfl, hb⟩
        have HF : Hid (Enter w w4 (f, r, 0, s, 0) w.heap.size (w.heap.size + 1) (w.heap.size + 1 + 1)) := Enter.below (Enter.far HE3.out.1 _ _ (by show w.heap.size + 1 + 1 < w.heap.size + 1 + 1 + 1; omega) (by omega)) hb
        clear hb HE3 c0 c1 c2 c3 c4 d0 d1 d2 d3 d4 hfr
        go_wp2_with (first | (refine storeF rfl 27 _ _ rfl (.inl rfl) _ rfl (mor ((999), r, 0, s, 0)).1 zer rfl HF.out.2.1 ?_) | (refine storeF rfl 24 _ _ rfl (.inr rfl) _ rfl (mor ((999), r, 0, s, 0)).2.1 zer rfl (HF.out.2.2.1.other _ (by omega)) ?_))
        exact HF.out.end 4 5 6 Tryd.results15 rfl rfl rfl rfl
    · have HS : Hid (has (codes ⟨#[49, 50, 51, 52, 53, 54, 55, 56, 57]⟩) k = true) := (has_digs k).2 (by omega)
      clear hd hk
      rcases hq2 with ⟨rfl, hq3⟩ | ⟨rfl, hq3⟩
      · skip
        go_enter Tryd.func15, Tryd.ntmps15
        go_wp2_with fail
        have HE1 : Hid (Ent w ((((w.alloc (.cells #[.int .i64 f, .int .i64 r, .int .i64 0, .int .i64 s, .int .i64 0] 27)).alloc (.cells #[.int .i64 0, .int .i64 0, .int .i64 0, .int .i64 0, .int .i64 0] 27)).alloc (.cells #[.int .i64 0, .int .i64 0, .int .i64 0, .int .i64 0, .int .i64 0] 24)).alloc (.cells #[.int .i64 f, .int .i64 r, .int .i64 0, .int .i64 s, .int .i64 0] 27)) (f, r, 0, s, 0) (f, r, 0, s, 0)) := ent_is w (f, r, 0, s, 0)
        generalize ((((w.alloc (.cells #[.int .i64 f, .int .i64 r, .int .i64 0, .int .i64 s, .int .i64 0] 27)).alloc (.cells #[.int .i64 0, .int .i64 0, .int .i64 0, .int .i64 0, .int .i64 0] 27)).alloc (.cells #[.int .i64 0, .int .i64 0, .int .i64 0, .int .i64 0, .int .i64 0] 24)).alloc (.cells #[.int .i64 f, .int .i64 r, .int .i64 0, .int .i64 s, .int .i64 0] 27)) = w1 at *
        obtain ⟨c0, c1, c2, c3, c4⟩ : w1.cell? ⟨w.heap.size, 0, none⟩ = some (.int .i64 f) ∧ w1.cell? ⟨w.heap.size, 1, none⟩ = some (.int .i64 r) ∧ w1.cell? ⟨w.heap.size, 2, none⟩ = some (.int .i64 0) ∧ w1.cell? ⟨w.heap.size, 3, none⟩ = some (.int .i64 s) ∧ w1.cell? ⟨w.heap.size, 4, none⟩ = some (.int .i64 0) := ⟨HE1.out.1.1.c0, HE1.out.1.1.c1, HE1.out.1.1.c2, HE1.out.1.1.c3, HE1.out.1.1.c4⟩
        obtain ⟨d0, d1, d2, d3, d4⟩ : w1.cell? ⟨w.heap.size + 1 + 1 + 1, 0, none⟩ = some (.int .i64 f) ∧ w1.cell? ⟨w.heap.size + 1 + 1 + 1, 1, none⟩ = some (.int .i64 r) ∧ w1.cell? ⟨w.heap.size + 1 + 1 + 1, 2, none⟩ = some (.int .i64 0) ∧ w1.cell? ⟨w.heap.size + 1 + 1 + 1, 3, none⟩ = some (.int .i64 s) ∧ w1.cell? ⟨w.heap.size + 1 + 1 + 1, 4, none⟩ = some (.int .i64 0) := ⟨HE1.out.2.c0, HE1.out.2.c1, HE1.out.2.c2, HE1.out.2.c3, HE1.out.2.c4⟩
        have hfr := HE1.out.2.fr
        refine (in_go ⟨#[105, 97]⟩ 0 false _ (by decide) (by decide)).mono ?_
        rintro e w2 ⟨rfl, hb⟩
        have HE2 : Hid (Ent w w2 (f, r, 0, s, 0) (f, r, 0, s, 0)) := HE1.out.below hb
        clear hb HE1 c0 c1 c2 c3 c4 d0 d1 d2 d3 d4 hfr
        obtain ⟨c0, c1, c2, c3, c4⟩ : w2.cell? ⟨w.heap.size, 0, none⟩ = some (.int .i64 f) ∧ w2.cell? ⟨w.heap.size, 1, none⟩ = some (.int .i64 r) ∧ w2.cell? ⟨w.heap.size, 2, none⟩ = some (.int .i64 0) ∧ w2.cell? ⟨w.heap.size, 3, none⟩ = some (.int .i64 s) ∧ w2.cell? ⟨w.heap.size, 4, none⟩ = some (.int .i64 0) := ⟨HE2.out.1.1.c0, HE2.out.1.1.c1, HE2.out.1.1.c2, HE2.out.1.1.c3, HE2.out.1.1.c4⟩
        obtain ⟨d0, d1, d2, d3, d4⟩ : w2.cell? ⟨w.heap.size + 1 + 1 + 1, 0, none⟩ = some (.int .i64 f) ∧ w2.cell? ⟨w.heap.size + 1 + 1 + 1, 1, none⟩ = some (.int .i64 r) ∧ w2.cell? ⟨w.heap.size + 1 + 1 + 1, 2, none⟩ = some (.int .i64 0) ∧ w2.cell? ⟨w.heap.size + 1 + 1 + 1, 3, none⟩ = some (.int .i64 s) ∧ w2.cell? ⟨w.heap.size + 1 + 1 + 1, 4, none⟩ = some (.int .i64 0) := ⟨HE2.out.2.c0, HE2.out.2.c1, HE2.out.2.c2, HE2.out.2.c3, HE2.out.2.c4⟩
        have hfr := HE2.out.2.fr
        go_wp2_with fail
        refine (in_go ⟨#[49, 50, 51, 52, 53, 54, 55, 56, 57]⟩ k true _ (by decide) HS.out).mono ?_
        rintro e w3 ⟨rfl, hb⟩
        have HE3 : Hid (Ent w w3 (f, r, 0, s, 0) (f, r, 0, s, 0)) := HE2.out.below hb
        clear hb HE2 c0 c1 c2 c3 c4 d0 d1 d2 d3 d4 hfr
        obtain ⟨c0, c1, c2, c3, c4⟩ : w3.cell? ⟨w.heap.size, 0, none⟩ = some (.int .i64 f) ∧ w3.cell? ⟨w.heap.size, 1, none⟩ = some (.int .i64 r) ∧ w3.cell? ⟨w.heap.size, 2, none⟩ = some (.int .i64 0) ∧ w3.cell? ⟨w.heap.size, 3, none⟩ = some (.int .i64 s) ∧ w3.cell? ⟨w.heap.size, 4, none⟩ = some (.int .i64 0) := ⟨HE3.out.1.1.c0, HE3.out.1.1.c1, HE3.out.1.1.c2, HE3.out.1.1.c3, HE3.out.1.1.c4⟩
        obtain ⟨d0, d1, d2, d3, d4⟩ : w3.cell? ⟨w.heap.size + 1 + 1 + 1, 0, none⟩ = some (.int .i64 f) ∧ w3.cell? ⟨w.heap.size + 1 + 1 + 1, 1, none⟩ = some (.int .i64 r) ∧ w3.cell? ⟨w.heap.size + 1 + 1 + 1, 2, none⟩ = some (.int .i64 0) ∧ w3.cell? ⟨w.heap.size + 1 + 1 + 1, 3, none⟩ = some (.int .i64 s) ∧ w3.cell? ⟨w.heap.size + 1 + 1 + 1, 4, none⟩ = some (.int .i64 0) := ⟨HE3.out.2.c0, HE3.out.2.c1, HE3.out.2.c2, HE3.out.2.c3, HE3.out.2.c4⟩
        have hfr := HE3.out.2.fr
        go_wp2_with fail
        refine (refMore_go (f * 10 + k - 48) r 0 s 0 _).mono ?_
        rintro e w4 ⟨rfl, hb⟩
        have HF : Hid (Enter w w4 (f, r, 0, s, 0) w.heap.size (w.heap.size + 1) (w.heap.size + 1 + 1)) := Enter.below (Enter.far HE3.out.1 _ _ (by show w.heap.size + 1 + 1 < w.heap.size + 1 + 1 + 1; omega) (by omega)) hb
        clear hb HE3 c0 c1 c2 c3 c4 d0 d1 d2 d3 d4 hfr
        go_wp2_with (first | (refine storeF rfl 27 _ _ rfl (.inl rfl) _ rfl (mor ((f * 10 + k - 48), r, 0, s, 0)).1 zer rfl HF.out.2.1 ?_) | (refine storeF rfl 24 _ _ rfl (.inr rfl) _ rfl (mor ((f * 10 + k - 48), r, 0, s, 0)).2.1 zer rfl (HF.out.2.2.1.other _ (by omega)) ?_))
        exact HF.out.end 4 5 6 Tryd.results15 rfl rfl rfl rfl
      · skip
        go_enter Tryd.func15, Tryd.ntmps15
        go_wp2_with fail
        have HE1 : Hid (Ent w ((((w.alloc (.cells #[.int .i64 f, .int .i64 r, .int .i64 0, .int .i64 s, .int .i64 0] 27)).alloc (.cells #[.int .i64 0, .int .i64 0, .int .i64 0, .int .i64 0, .int .i64 0] 27)).alloc (.cells #[.int .i64 0, .int .i64 0, .int .i64 0, .int .i64 0, .int .i64 0] 24)).alloc (.cells #[.int .i64 f, .int .i64 r, .int .i64 0, .int .i64 s, .int .i64 0] 27)) (f, r, 0, s, 0) (f, r, 0, s, 0)) := ent_is w (f, r, 0, s, 0)
        generalize ((((w.alloc (.cells #[.int .i64 f, .int .i64 r, .int .i64 0, .int .i64 s, .int .i64 0] 27)).alloc (.cells #[.int .i64 0, .int .i64 0, .int .i64 0, .int .i64 0, .int .i64 0] 27)).alloc (.cells #[.int .i64 0, .int .i64 0, .int .i64 0, .int .i64 0, .int .i64 0] 24)).alloc (.cells #[.int .i64 f, .int .i64 r, .int .i64 0, .int .i64 s, .int .i64 0] 27)) = w1 at *
        obtain ⟨c0, c1, c2, c3, c4⟩ : w1.cell? ⟨w.heap.size, 0, none⟩ = some (.int .i64 f) ∧ w1.cell? ⟨w.heap.size, 1, none⟩ = some (.int .i64 r) ∧ w1.cell? ⟨w.heap.size, 2, none⟩ = some (.int .i64 0) ∧ w1.cell? ⟨w.heap.size, 3, none⟩ = some (.int .i64 s) ∧ w1.cell? ⟨w.heap.size, 4, none⟩ = some (.int .i64 0) := ⟨HE1.out.1.1.c0, HE1.out.1.1.c1, HE1.out.1.1.c2, HE1.out.1.1.c3, HE1.out.1.1.c4⟩
        obtain ⟨d0, d1, d2, d3, d4⟩ : w1.cell? ⟨w.heap.size + 1 + 1 + 1, 0, none⟩ = some (.int .i64 f) ∧ w1.cell? ⟨w.heap.size + 1 + 1 + 1, 1, none⟩ = some (.int .i64 r) ∧ w1.cell? ⟨w.heap.size + 1 + 1 + 1, 2, none⟩ = some (.int .i64 0) ∧ w1.cell? ⟨w.heap.size + 1 + 1 + 1, 3, none⟩ = some (.int .i64 s) ∧ w1.cell? ⟨w.heap.size + 1 + 1 + 1, 4, none⟩ = some (.int .i64 0) := ⟨HE1.out.2.c0, HE1.out.2.c1, HE1.out.2.c2, HE1.out.2.c3, HE1.out.2.c4⟩
        have hfr := HE1.out.2.fr
        refine (in_go ⟨#[105, 97]⟩ 0 false _ (by decide) (by decide)).mono ?_
        rintro e w2 ⟨rfl, hb⟩
        have HE2 : Hid (Ent w w2 (f, r, 0, s, 0) (f, r, 0, s, 0)) := HE1.out.below hb
        clear hb HE1 c0 c1 c2 c3 c4 d0 d1 d2 d3 d4 hfr
        obtain ⟨c0, c1, c2, c3, c4⟩ : w2.cell? ⟨w.heap.size, 0, none⟩ = some (.int .i64 f) ∧ w2.cell? ⟨w.heap.size, 1, none⟩ = some (.int .i64 r) ∧ w2.cell? ⟨w.heap.size, 2, none⟩ = some (.int .i64 0) ∧ w2.cell? ⟨w.heap.size, 3, none⟩ = some (.int .i64 s) ∧ w2.cell? ⟨w.heap.size, 4, none⟩ = some (.int .i64 0) := ⟨HE2.out.1.1.c0, HE2.out.1.1.c1, HE2.out.1.1.c2, HE2.out.1.1.c3, HE2.out.1.1.c4⟩
        obtain ⟨d0, d1, d2, d3, d4⟩ : w2.cell? ⟨w.heap.size + 1 + 1 + 1, 0, none⟩ = some (.int .i64 f) ∧ w2.cell? ⟨w.heap.size + 1 + 1 + 1, 1, none⟩ = some (.int .i64 r) ∧ w2.cell? ⟨w.heap.size + 1 + 1 + 1, 2, none⟩ = some (.int .i64 0) ∧ w2.cell? ⟨w.heap.size + 1 + 1 + 1, 3, none⟩ = some (.int .i64 s) ∧ w2.cell? ⟨w.heap.size + 1 + 1 + 1, 4, none⟩ = some (.int .i64 0) := ⟨HE2.out.2.c0, HE2.out.2.c1, HE2.out.2.c2, HE2.out.2.c3, HE2.out.2.c4⟩
        have hfr := HE2.out.2.fr
        go_wp2_with fail
        refine (in_go ⟨#[49, 50, 51, 52, 53, 54, 55, 56, 57]⟩ k true _ (by decide) HS.out).mono ?_
        rintro e w3 ⟨rfl, hb⟩
        have HE3 : Hid (Ent w w3 (f, r, 0, s, 0) (f, r, 0, s, 0)) := HE2.out.below hb
        clear hb HE2 c0 c1 c2 c3 c4 d0 d1 d2 d3 d4 hfr
        obtain ⟨c0, c1, c2, c3, c4⟩ : w3.cell? ⟨w.heap.size, 0, none⟩ = some (.int .i64 f) ∧ w3.cell? ⟨w.heap.size, 1, none⟩ = some (.int .i64 r) ∧ w3.cell? ⟨w.heap.size, 2, none⟩ = some (.int .i64 0) ∧ w3.cell? ⟨w.heap.size, 3, none⟩ = some (.int .i64 s) ∧ w3.cell? ⟨w.heap.size, 4, none⟩ = some (.int .i64 0) := ⟨HE3.out.1.1.c0, HE3.out.1.1.c1, HE3.out.1.1.c2, HE3.out.1.1.c3, HE3.out.1.1.c4⟩
        obtain ⟨d0, d1, d2, d3, d4⟩ : w3.cell? ⟨w.heap.size + 1 + 1 + 1, 0, none⟩ = some (.int .i64 f) ∧ w3.cell? ⟨w.heap.size + 1 + 1 + 1, 1, none⟩ = some (.int .i64 r) ∧ w3.cell? ⟨w.heap.size + 1 + 1 + 1, 2, none⟩ = some (.int .i64 0) ∧ w3.cell? ⟨w.heap.size + 1 + 1 + 1, 3, none⟩ = some (.int .i64 s) ∧ w3.cell? ⟨w.heap.size + 1 + 1 + 1, 4, none⟩ = some (.int .i64 0) := ⟨HE3.out.2.c0, HE3.out.2.c1, HE3.out.2.c2, HE3.out.2.c3, HE3.out.2.c4⟩
        have hfr := HE3.out.2.fr
        go_wp2_with fail
        refine (refMore_go (999) r 0 s 0 _).mono ?_
        rintro e w4 ⟨rfl, hb⟩
        have HF : Hid (Enter w w4 (f, r, 0, s, 0) w.heap.size (w.heap.size + 1) (w.heap.size + 1 + 1)) := Enter.below (Enter.far HE3.out.1 _ _ (by show w.heap.size + 1 + 1 < w.heap.size + 1 + 1 + 1; omega) (by omega)) hb
        clear hb HE3 c0 c1 c2 c3 c4 d0 d1 d2 d3 d4 hfr
        go_wp2_with (first | (refine storeF rfl 27 _ _ rfl (.inl rfl) _ rfl (mor ((999), r, 0, s, 0)).1 zer rfl HF.out.2.1 ?_) | (refine storeF rfl 24 _ _ rfl (.inr rfl) _ rfl (mor ((999), r, 0, s, 0)).2.1 zer rfl (HF.out.2.2.1.other _ (by omega)) ?_))
        exact HF.out.end 4 5 6 Tryd.results15 rfl rfl rfl rfl
  · have g0 : (o != 0) = true := by simpa using h1'
    have HR : Hid (cntd f r o s 0 k = (f, r, o, q, 0)) := by show cntd f r o s 0 k = _; unfold cntd; rw [if_pos h1', HCN.out]
    rw [HR.out]
    clear HR HCN
    have hmf : s = m := by rw [hM]; exact (if_pos h1').symm
    subst hmf
    clear hM h1'
    by_cases hk : k = 48
    · subst hk
      have hm1 : 0 < s := by omega
      replace hq2 : (q = s * 10 ∧ s * 10 < 999) ∨ (q = 999 ∧ 999 ≤ s * 10) := by omega
      clear hd
      rcases hq2 with ⟨rfl, hq3⟩ | ⟨rfl, hq3⟩
      · skip
        go_enter Tryd.func15, Tryd.ntmps15
        go_wp2_with fail
        have HE1 : Hid (Ent w ((((w.alloc (.cells #[.int .i64 f, .int .i64 r, .int .i64 o, .int .i64 s, .int .i64 0] 27)).alloc (.cells #[.int .i64 0, .int .i64 0, .int .i64 0, .int .i64 0, .int .i64 0] 27)).alloc (.cells #[.int .i64 0, .int .i64 0, .int .i64 0, .int .i64 0, .int .i64 0] 24)).alloc (.cells #[.int .i64 f, .int .i64 r, .int .i64 o, .int .i64 s, .int .i64 0] 27)) (f, r, o, s, 0) (f, r, o, s, 0)) := ent_is w (f, r, o, s, 0)
        generalize ((((w.alloc (.cells #[.int .i64 f, .int .i64 r, .int .i64 o, .int .i64 s, .int .i64 0] 27)).alloc (.cells #[.int .i64 0, .int .i64 0, .int .i64 0, .int .i64 0, .int .i64 0] 27)).alloc (.cells #[.int .i64 0, .int .i64 0, .int .i64 0, .int .i64 0, .int .i64 0] 24)).alloc (.cells #[.int .i64 f, .int .i64 r, .int .i64 o, .int .i64 s, .int .i64 0] 27)) = w1 at *
        obtain ⟨c0, c1, c2, c3, c4⟩ : w1.cell? ⟨w.heap.size, 0, none⟩ = some (.int .i64 f) ∧ w1.cell? ⟨w.heap.size, 1, none⟩ = some (.int .i64 r) ∧ w1.cell? ⟨w.heap.size, 2, none⟩ = some (.int .i64 o) ∧ w1.cell? ⟨w.heap.size, 3, none⟩ = some (.int .i64 s) ∧ w1.cell? ⟨w.heap.size, 4, none⟩ = some (.int .i64 0) := ⟨HE1.out.1.1.c0, HE1.out.1.1.c1, HE1.out.1.1.c2, HE1.out.1.1.c3, HE1.out.1.1.c4⟩
        obtain ⟨d0, d1, d2, d3, d4⟩ : w1.cell? ⟨w.heap.size + 1 + 1 + 1, 0, none⟩ = some (.int .i64 f) ∧ w1.cell? ⟨w.heap.size + 1 + 1 + 1, 1, none⟩ = some (.int .i64 r) ∧ w1.cell? ⟨w.heap.size + 1 + 1 + 1, 2, none⟩ = some (.int .i64 o) ∧ w1.cell? ⟨w.heap.size + 1 + 1 + 1, 3, none⟩ = some (.int .i64 s) ∧ w1.cell? ⟨w.heap.size + 1 + 1 + 1, 4, none⟩ = some (.int .i64 0) := ⟨HE1.out.2.c0, HE1.out.2.c1, HE1.out.2.c2, HE1.out.2.c3, HE1.out.2.c4⟩
        have hfr := HE1.out.2.fr
        refine (in_go ⟨#[105, 97]⟩ 0 false _ (by decide) (by decide)).mono ?_
        rintro e w2 ⟨rfl, hb⟩
        have HE2 : Hid (Ent w w2 (f, r, o, s, 0) (f, r, o, s, 0)) := HE1.out.below hb
        clear hb HE1 c0 c1 c2 c3 c4 d0 d1 d2 d3 d4 hfr
        obtain ⟨c0, c1, c2, c3, c4⟩ : w2.cell? ⟨w.heap.size, 0, none⟩ = some (.int .i64 f) ∧ w2.cell? ⟨w.heap.size, 1, none⟩ = some (.int .i64 r) ∧ w2.cell? ⟨w.heap.size, 2, none⟩ = some (.int .i64 o) ∧ w2.cell? ⟨w.heap.size, 3, none⟩ = some (.int .i64 s) ∧ w2.cell? ⟨w.heap.size, 4, none⟩ = some (.int .i64 0) := ⟨HE2.out.1.1.c0, HE2.out.1.1.c1, HE2.out.1.1.c2, HE2.out.1.1.c3, HE2.out.1.1.c4⟩
        obtain ⟨d0, d1, d2, d3, d4⟩ : w2.cell? ⟨w.heap.size + 1 + 1 + 1, 0, none⟩ = some (.int .i64 f) ∧ w2.cell? ⟨w.heap.size + 1 + 1 + 1, 1, none⟩ = some (.int .i64 r) ∧ w2.cell? ⟨w.heap.size + 1 + 1 + 1, 2, none⟩ = some (.int .i64 o) ∧ w2.cell? ⟨w.heap.size + 1 + 1 + 1, 3, none⟩ = some (.int .i64 s) ∧ w2.cell? ⟨w.heap.size + 1 + 1 + 1, 4, none⟩ = some (.int .i64 0) := ⟨HE2.out.2.c0, HE2.out.2.c1, HE2.out.2.c2, HE2.out.2.c3, HE2.out.2.c4⟩
        have hfr := HE2.out.2.fr
        go_wp2_with fail
        refine (in_go ⟨#[49, 50, 51, 52, 53, 54, 55, 56, 57]⟩ 48 false _ (by decide) (by decide)).mono ?_
        rintro e w3 ⟨rfl, hb⟩
        have HE3 : Hid (Ent w w3 (f, r, o, s, 0) (f, r, o, s, 0)) := HE2.out.below hb
        clear hb HE2 c0 c1 c2 c3 c4 d0 d1 d2 d3 d4 hfr
        obtain ⟨c0, c1, c2, c3, c4⟩ : w3.cell? ⟨w.heap.size, 0, none⟩ = some (.int .i64 f) ∧ w3.cell? ⟨w.heap.size, 1, none⟩ = some (.int .i64 r) ∧ w3.cell? ⟨w.heap.size, 2, none⟩ = some (.int .i64 o) ∧ w3.cell? ⟨w.heap.size, 3, none⟩ = some (.int .i64 s) ∧ w3.cell? ⟨w.heap.size, 4, none⟩ = some (.int .i64 0) := ⟨HE3.out.1.1.c0, HE3.out.1.1.c1, HE3.out.1.1.c2, HE3.out.1.1.c3, HE3.out.1.1.c4⟩
        obtain ⟨d0, d1, d2, d3, d4⟩ : w3.cell? ⟨w.heap.size + 1 + 1 + 1, 0, none⟩ = some (.int .i64 f) ∧ w3.cell? ⟨w.heap.size + 1 + 1 + 1, 1, none⟩ = some (.int .i64 r) ∧ w3.cell? ⟨w.heap.size + 1 + 1 + 1, 2, none⟩ = some (.int .i64 o) ∧ w3.cell? ⟨w.heap.size + 1 + 1 + 1, 3, none⟩ = some (.int .i64 s) ∧ w3.cell? ⟨w.heap.size + 1 + 1 + 1, 4, none⟩ = some (.int .i64 0) := ⟨HE3.out.2.c0, HE3.out.2.c1, HE3.out.2.c2, HE3.out.2.c3, HE3.out.2.c4⟩
        have hfr := HE3.out.2.fr
        go_wp2_with fail
        refine (refMore_go f r o (s * 10) 0 _).mono ?_
        rintro e w4 ⟨rfl, hb⟩
        have HF : Hid (Enter w w4 (f, r, o, s, 0) w.heap.size (w.heap.size + 1) (w.heap.size + 1 + 1)) := Enter.below (Enter.far HE3.out.1 _ _ (by show w.heap.size + 1 + 1 < w.heap.size + 1 + 1 + 1; omega) (by omega)) hb
        clear hb HE3 c0 c1 c2 c3 c4 d0 d1 d2 d3 d4 hfr
        go_wp2_with (first | (refine storeF rfl 27 _ _ rfl (.inl rfl) _ rfl (mor (f, r, o, (s * 10), 0)).1 zer rfl HF.out.2.1 ?_) | (refine storeF rfl 24 _ _ rfl (.inr rfl) _ rfl (mor (f, r, o, (s * 10), 0)).2.1 zer rfl (HF.out.2.2.1.other _ (by omega)) ?_))
        exact HF.out.end 4 5 6 Tryd.results15 rfl rfl rfl rfl
      · skip
        go_enter Tryd.func15, Tryd.ntmps15
        go_wp2_with fail
        have HE1 : Hid (Ent w ((((w.alloc (.cells #[.int .i64 f, .int .i64 r, .int .i64 o, .int .i64 s, .int .i64 0] 27)).alloc (.cells #[.int .i64 0, .int .i64 0, .int .i64 0, .int .i64 0, .int .i64 0] 27)).alloc (.cells #[.int .i64 0, .int .i64 0, .int .i64 0, .int .i64 0, .int .i64 0] 24)).alloc (.cells #[.int .i64 f, .int .i64 r, .int .i64 o, .int .i64 s, .int .i64 0] 27)) (f, r, o, s, 0) (f, r, o, s, 0)) := ent_is w (f, r, o, s, 0)
        generalize ((((w.alloc (.cells #[.int .i64 f, .int .i64 r, .int .i64 o, .int .i64 s, .int .i64 0] 27)).alloc (.cells #[.int .i64 0, .int .i64 0, .int .i64 0, .int .i64 0, .int .i64 0] 27)).alloc (.cells #[.int .i64 0, .int .i64 0, .int .i64 0, .int .i64 0, .int .i64 0] 24)).alloc (.cells #[.int .i64 f, .int .i64 r, .int .i64 o, .int .i64 s, .int .i64 0] 27)) = w1 at *
        obtain ⟨c0, c1, c2, c3, c4⟩ : w1.cell? ⟨w.heap.size, 0, none⟩ = some (.int .i64 f) ∧ w1.cell? ⟨w.heap.size, 1, none⟩ = some (.int .i64 r) ∧ w1.cell? ⟨w.heap.size, 2, none⟩ = some (.int .i64 o) ∧ w1.cell? ⟨w.heap.size, 3, none⟩ = some (.int .i64 s) ∧ w1.cell? ⟨w.heap.size, 4, none⟩ = some (.int .i64 0) := ⟨HE1.out.1.1.c0, HE1.out.1.1.c1, HE1.out.1.1.c2, HE1.out.1.1.c3, HE1.out.1.1.c4⟩
        obtain ⟨d0, d1, d2, d3, d4⟩ : w1.cell? ⟨w.heap.size + 1 + 1 + 1, 0, none⟩ = some (.int .i64 f) ∧ w1.cell? ⟨w.heap.size + 1 + 1 + 1, 1, none⟩ = some (.int .i64 r) ∧ w1.cell? ⟨w.heap.size + 1 + 1 + 1, 2, none⟩ = some (.int .i64 o) ∧ w1.cell? ⟨w.heap.size + 1 + 1 + 1, 3, none⟩ = some (.int .i64 s) ∧ w1.cell? ⟨w.heap.size + 1 + 1 + 1, 4, none⟩ = some (.int .i64 0) := ⟨HE1.out.2.c0, HE1.out.2.c1, HE1.out.2.c2, HE1.out.2.c3, HE1.out.2.c4⟩
        have hfr := HE1.out.2.fr
        refine (in_go ⟨#[105, 97]⟩ 0 false _ (by decide) (by decide)).mono ?_
        rintro e w2 ⟨rfl, hb⟩
        have HE2 : Hid (Ent w w2 (f, r, o, s, 0) (f, r, o, s, 0)) := HE1.out.below hb
        clear hb HE1 c0 c1 c2 c3 c4 d0 d1 d2 d3 d4 hfr
        obtain ⟨c0, c1, c2, c3, c4⟩ : w2.cell? ⟨w.heap.size, 0, none⟩ = some (.int .i64 f) ∧ w2.cell? ⟨w.heap.size, 1, none⟩ = some (.int .i64 r) ∧ w2.cell? ⟨w.heap.size, 2, none⟩ = some (.int .i64 o) ∧ w2.cell? ⟨w.heap.size, 3, none⟩ = some (.int .i64 s) ∧ w2.cell? ⟨w.heap.size, 4, none⟩ = some (.int .i64 0) := ⟨HE2.out.1.1.c0, HE2.out.1.1.c1, HE2.out.1.1.c2, HE2.out.1.1.c3, HE2.out.1.1.c4⟩
        obtain ⟨d0, d1, d2, d3, d4⟩ : w2.cell? ⟨w.heap.size + 1 + 1 + 1, 0, none⟩ = some (.int .i64 f) ∧ w2.cell? ⟨w.heap.size + 1 + 1 + 1, 1, none⟩ = some (.int .i64 r) ∧ w2.cell? ⟨w.heap.size + 1 + 1 + 1, 2, none⟩ = some (.int .i64 o) ∧ w2.cell? ⟨w.heap.size + 1 + 1 + 1, 3, none⟩ = some (.int .i64 s) ∧ w2.cell? ⟨w.heap.size + 1 + 1 + 1, 4, none⟩ = some (.int .i64 0) := ⟨HE2.out.2.c0, HE2.out.2.c1, HE2.out.2.c2, HE2.out.2.c3, HE2.out.2.c4⟩
        have hfr := HE2.out.2.fr
        go_wp2_with fail
        refine (in_go ⟨#[49, 50, 51, 52, 53, 54, 55, 56, 57]⟩ 48 false _ (by decide) (by decide)).mono ?_
        rintro e w3 ⟨rfl, hb⟩
        have HE3 : Hid (Ent w w3 (f, r, o, s, 0) (f, r, o, s, 0)) := HE2.out.below hb
        clear hb HE2 c0 c1 c2 c3 c4 d0 d1 d2 d3 d4 hfr
        obtain ⟨c0, c1, c2, c3, c4⟩ : w3.cell? ⟨w.heap.size, 0, none⟩ = some (.int .i64 f) ∧ w3.cell? ⟨w.heap.size, 1, none⟩ = some (.int .i64 r) ∧ w3.cell? ⟨w.heap.size, 2, none⟩ = some (.int .i64 o) ∧ w3.cell? ⟨w.heap.size, 3, none⟩ = some (.int .i64 s) ∧ w3.cell? ⟨w.heap.size, 4, none⟩ = some (.int .i64 0) := ⟨HE3.out.1.1.c0, HE3.out.1.1.c1, HE3.out.1.1.c2, HE3.out.1.1.c3, HE3.out.1.1.c4⟩
        obtain ⟨d0, d1, d2, d3, d4⟩ : w3.cell? ⟨w.heap.size + 1 + 1 + 1, 0, none⟩ = some (.int .i64 f) ∧ w3.cell? ⟨w.heap.size + 1 + 1 + 1, 1, none⟩ = some (.int .i64 r) ∧ w3.cell? ⟨w.heap.size + 1 + 1 + 1, 2, none⟩ = some (.int .i64 o) ∧ w3.cell? ⟨w.heap.size + 1 + 1 + 1, 3, none⟩ = some (.int .i64 s) ∧ w3.cell? ⟨w.heap.size + 1 + 1 + 1, 4, none⟩ = some (.int .i64 0) := ⟨HE3.out.2.c0, HE3.out.2.c1, HE3.out.2.c2, HE3.out.2.c3, HE3.out.2.c4⟩
        have hfr := HE3.out.2.fr
        go_wp2_with fail
        refine (refMore_go f r o (999) 0 _).mono ?_
        rintro e w4 ⟨rfl, hb⟩
        have HF : Hid (Enter w w4 (f, r, o, s, 0) w.heap.size (w.heap.size + 1) (w.heap.size + 1 + 1)) := Enter.below (Enter.far HE3.out.1 _ _ (by show w.heap.size + 1 + 1 < w.heap.size + 1 + 1 + 1; omega) (by omega)) hb
        clear hb HE3 c0 c1 c2 c3 c4 d0 d1 d2 d3 d4 hfr
        go_wp2_with (first | (refine storeF rfl 27 _ _ rfl (.inl rfl) _ rfl (mor (f, r, o, (999), 0)).1 zer rfl HF.out.2.1 ?_) | (refine storeF rfl 24 _ _ rfl (.inr rfl) _ rfl (mor (f, r, o, (999), 0)).2.1 zer rfl (HF.out.2.2.1.other _ (by omega)) ?_))
        exact HF.out.end 4 5 6 Tryd.results15 rfl rfl rfl rfl
    · have HS : Hid (has (codes ⟨#[49, 50, 51, 52, 53, 54, 55, 56, 57]⟩) k = true) := (has_digs k).2 (by omega)
      clear hd hk
      rcases hq2 with ⟨rfl, hq3⟩ | ⟨rfl, hq3⟩
      · skip
        go_enter Tryd.func15, Tryd.ntmps15
        go_wp2_with fail
        have HE1 : Hid (Ent w ((((w.alloc (.cells #[.int .i64 f, .int .i64 r, .int .i64 o, .int .i64 s, .int .i64 0] 27)).alloc (.cells #[.int .i64 0, .int .i64 0, .int .i64 0, .int .i64 0, .int .i64 0] 27)).alloc (.cells #[.int .i64 0, .int .i64 0, .int .i64 0, .int .i64 0, .int .i64 0] 24)).alloc (.cells #[.int .i64 f, .int .i64 r, .int .i64 o, .int .i64 s, .int .i64 0] 27)) (f, r, o, s, 0) (f, r, o, s, 0)) := ent_is w (f, r, o, s, 0)
        generalize ((((w.alloc (.cells #[.int .i64 f, .int .i64 r, .int .i64 o, .int .i64 s, .int .i64 0] 27)).alloc (.cells #[.int .i64 0, .int .i64 0, .int .i64 0, .int .i64 0, .int .i64 0] 27)).alloc (.cells #[.int .i64 0, .int .i64 0, .int .i64 0, .int .i64 0, .int .i64 0] 24)).alloc (.cells #[.int .i64 f, .int .i64 r, .int .i64 o, .int .i64 s, .int .i64 0] 27)) = w1 at *
        obtain ⟨c0, c1, c2, c3, c4⟩ : w1.cell? ⟨w.heap.size, 0, none⟩ = some (.int .i64 f) ∧ w1.cell? ⟨w.heap.size, 1, none⟩ = some (.int .i64 r) ∧ w1.cell? ⟨w.heap.size, 2, none⟩ = some (.int .i64 o) ∧ w1.cell? ⟨w.heap.size, 3, none⟩ = some (.int .i64 s) ∧ w1.cell? ⟨w.heap.size, 4, none⟩ = some (.int .i64 0) := ⟨HE1.out.1.1.c0, HE1.out.1.1.c1, HE1.out.1.1.c2, HE1.out.1.1.c3, HE1.out.1.1.c4⟩
        obtain ⟨d0, d1, d2, d3, d4⟩ : w1.cell? ⟨w.heap.size + 1 + 1 + 1, 0, none⟩ = some (.int .i64 f) ∧ w1.cell? ⟨w.heap.size + 1 + 1 + 1, 1, none⟩ = some (.int .i64 r) ∧ w1.cell? ⟨w.heap.size + 1 + 1 + 1, 2, none⟩ = some (.int .i64 o) ∧ w1.cell? ⟨w.heap.size + 1 + 1 + 1, 3, none⟩ = some (.int .i64 s) ∧ w1.cell? ⟨w.heap.size + 1 + 1 + 1, 4, none⟩ = some (.int .i64 0) := ⟨HE1.out.2.c0, HE1.out.2.c1, HE1.out.2.c2, HE1.out.2.c3, HE1.out.2.c4⟩
        have hfr := HE1.out.2.fr
        refine (in_go ⟨#[105, 97]⟩ 0 false _ (by decide) (by decide)).mono ?_
        rintro e w2 ⟨rfl, hb⟩
        have HE2 : Hid (Ent w w2 (f, r, o, s, 0) (f, r, o, s, 0)) := HE1.out.below hb
        clear hb HE1 c0 c1 c2 c3 c4 d0 d1 d2 d3 d4 hfr
        obtain ⟨c0, c1, c2, c3, c4⟩ : w2.cell? ⟨w.heap.size, 0, none⟩ = some (.int .i64 f) ∧ w2.cell? ⟨w.heap.size, 1, none⟩ = some (.int .i64 r) ∧ w2.cell? ⟨w.heap.size, 2, none⟩ = some (.int .i64 o) ∧ w2.cell? ⟨w.heap.size, 3, none⟩ = some (.int .i64 s) ∧ w2.cell? ⟨w.heap.size, 4, none⟩ = some (.int .i64 0) := ⟨HE2.out.1.1.c0, HE2.out.1.1.c1, HE2.out.1.1.c2, HE2.out.1.1.c3, HE2.out.1.1.c4⟩
        obtain ⟨d0, d1, d2, d3, d4⟩ : w2.cell? ⟨w.heap.size + 1 + 1 + 1, 0, none⟩ = some (.int .i64 f) ∧ w2.cell? ⟨w.heap.size + 1 + 1 + 1, 1, none⟩ = some (.int .i64 r) ∧ w2.cell? ⟨w.heap.size + 1 + 1 + 1, 2, none⟩ = some (.int .i64 o) ∧ w2.cell? ⟨w.heap.size + 1 + 1 + 1, 3, none⟩ = some (.int .i64 s) ∧ w2.cell? ⟨w.heap.size + 1 + 1 + 1, 4, none⟩ = some (.int .i64 0) := ⟨HE2.out.2.c0, HE2.out.2.c1, HE2.out.2.c2, HE2.out.2.c3, HE2.out.2.c4⟩
        have hfr := HE2.out.2.fr
        go_wp2_with fail
        refine (in_go ⟨#[49, 50, 51, 52, 53, 54, 55, 56, 57]⟩ k true _ (by decide) HS.out).mono ?_
        rintro e w3 ⟨rfl, hb⟩
        have HE3 : Hid (Ent w w3 (f, r, o, s, 0) (f, r, o, s, 0)) := HE2.out.below hb
        clear hb HE2 c0 c1 c2 c3 c4 d0 d1 d2 d3 d4 hfr
        obtain ⟨c0, c1, c2, c3, c4⟩ : w3.cell? ⟨w.heap.size, 0, none⟩ = some (.int .i64 f) ∧ w3.cell? ⟨w.heap.size, 1, none⟩ = some (.int .i64 r) ∧ w3.cell? ⟨w.heap.size, 2, none⟩ = some (.int .i64 o) ∧ w3.cell? ⟨w.heap.size, 3, none⟩ = some (.int .i64 s) ∧ w3.cell? ⟨w.heap.size, 4, none⟩ = some (.int .i64 0) := ⟨HE3.out.1.1.c0, HE3.out.1.1.c1, HE3.out.1.1.c2, HE3.out.1.1.c3, HE3.out.1.1.c4⟩
        obtain ⟨d0, d1, d2, d3, d4⟩ : w3.cell? ⟨w.heap.size + 1 + 1 + 1, 0, none⟩ = some (.int .i64 f) ∧ w3.cell? ⟨w.heap.size + 1 + 1 + 1, 1, none⟩ = some (.int .i64 r) ∧ w3.cell? ⟨w.heap.size + 1 + 1 + 1, 2, none⟩ = some (.int .i64 o) ∧ w3.cell? ⟨w.heap.size + 1 + 1 + 1, 3, none⟩ = some (.int .i64 s) ∧ w3.cell? ⟨w.heap.size + 1 + 1 + 1, 4, none⟩ = some (.int .i64 0) := ⟨HE3.out.2.c0, HE3.out.2.c1, HE3.out.2.c2, HE3.out.2.c3, HE3.out.2.c4⟩
        have hfr := HE3.out.2.fr
        go_wp2_with fail
        refine (refMore_go f r o (s * 10 + k - 48) 0 _).mono ?_
        rintro e w4 ⟨rfl, hb⟩
        have HF : Hid (Enter w w4 (f, r, o, s, 0) w.heap.size (w.heap.size + 1) (w.heap.size + 1 + 1)) := Enter.below (Enter.far HE3.out.1 _ _ (by show w.heap.size + 1 + 1 < w.heap.size + 1 + 1 + 1; omega) (by omega)) hb
        clear hb HE3 c0 c1 c2 c3 c4 d0 d1 d2 d3 d4 hfr
        go_wp2_with (first | (refine storeF rfl 27 _ _ rfl (.inl rfl) _ rfl (mor (f, r, o, (s * 10 + k - 48), 0)).1 zer rfl HF.out.2.1 ?_) | (refine storeF rfl 24 _ _ rfl (.inr rfl) _ rfl (mor (f, r, o, (s * 10 + k - 48), 0)).2.1 zer rfl (HF.out.2.2.1.other _ (by omega)) ?_))
        exact HF.out.end 4 5 6 Tryd.results15 rfl rfl rfl rfl
      · skip
        go_enter Tryd.func15, Tryd.ntmps15
        go_wp2_with fail
        have HE1 : Hid (Ent w ((((w.alloc (.cells #[.int .i64 f, .int .i64 r, .int .i64 o, .int .i64 s, .int .i64 0] 27)).alloc (.cells #[.int .i64 0, .int .i64 0, .int .i64 0, .int .i64 0, .int .i64 0] 27)).alloc (.cells #[.int .i64 0, .int .i64 0, .int .i64 0, .int .i64 0, .int .i64 0] 24)).alloc (.cells #[.int .i64 f, .int .i64 r, .int .i64 o, .int .i64 s, .int .i64 0] 27)) (f, r, o, s, 0) (f, r, o, s, 0)) := ent_is w (f, r, o, s, 0)
        generalize ((((w.alloc (.cells #[.int .i64 f, .int .i64 r, .int .i64 o, .int .i64 s, .int .i64 0] 27)).alloc (.cells #[.int .i64 0, .int .i64 0, .int .i64 0, .int .i64 0, .int .i64 0] 27)).alloc (.cells #[.int .i64 0, .int .i64 0, .int .i64 0, .int .i64 0, .int .i64 0] 24)).alloc (.cells #[.int .i64 f, .int .i64 r, .int .i64 o, .int .i64 s, .int .i64 0] 27)) = w1 at *
        obtain ⟨c0, c1, c2, c3, c4⟩ : w1.cell? ⟨w.heap.size, 0, none⟩ = some (.int .i64 f) ∧ w1.cell? ⟨w.heap.size, 1, none⟩ = some (.int .i64 r) ∧ w1.cell? ⟨w.heap.size, 2, none⟩ = some (.int .i64 o) ∧ w1.cell? ⟨w.heap.size, 3, none⟩ = some (.int .i64 s) ∧ w1.cell? ⟨w.heap.size, 4, none⟩ = some (.int .i64 0) := ⟨HE1.out.1.1.c0, HE1.out.1.1.c1, HE1.out.1.1.c2, HE1.out.1.1.c3, HE1.out.1.1.c4⟩
        obtain ⟨d0, d1, d2, d3, d4⟩ : w1.cell? ⟨w.heap.size + 1 + 1 + 1, 0, none⟩ = some (.int .i64 f) ∧ w1.cell? ⟨w.heap.size + 1 + 1 + 1, 1, none⟩ = some (.int .i64 r) ∧ w1.cell? ⟨w.heap.size + 1 + 1 + 1, 2, none⟩ = some (.int .i64 o) ∧ w1.cell? ⟨w.heap.size + 1 + 1 + 1, 3, none⟩ = some (.int .i64 s) ∧ w1.cell? ⟨w.heap.size + 1 + 1 + 1, 4, none⟩ = some (.int .i64 0) := ⟨HE1.out.2.c0, HE1.out.2.c1, HE1.out.2.c2, HE1.out.2.c3, HE1.out.2.c4⟩
        have hfr := HE1.out.2.fr
        refine (in_go ⟨#[105, 97]⟩ 0 false _ (by decide) (by decide)).mono ?_
        rintro e w2 ⟨rfl, hb⟩
        have HE2 : Hid (Ent w w2 (f, r, o, s, 0) (f, r, o, s, 0)) := HE1.out.below hb
        clear hb HE1 c0 c1 c2 c3 c4 d0 d1 d2 d3 d4 hfr
        obtain ⟨c0, c1, c2, c3, c4⟩ : w2.cell? ⟨w.heap.size, 0, none⟩ = some (.int .i64 f) ∧ w2.cell? ⟨w.heap.size, 1, none⟩ = some (.int .i64 r) ∧ w2.cell? ⟨w.heap.size, 2, none⟩ = some (.int .i64 o) ∧ w2.cell? ⟨w.heap.size, 3, none⟩ = some (.int .i64 s) ∧ w2.cell? ⟨w.heap.size, 4, none⟩ = some (.int .i64 0) := ⟨HE2.out.1.1.c0, HE2.out.1.1.c1, HE2.out.1.1.c2, HE2.out.1.1.c3, HE2.out.1.1.c4⟩
        obtain ⟨d0, d1, d2, d3, d4⟩ : w2.cell? ⟨w.heap.size + 1 + 1 + 1, 0, none⟩ = some (.int .i64 f) ∧ w2.cell? ⟨w.heap.size + 1 + 1 + 1, 1, none⟩ = some (.int .i64 r) ∧ w2.cell? ⟨w.heap.size + 1 + 1 + 1, 2, none⟩ = some (.int .i64 o) ∧ w2.cell? ⟨w.heap.size + 1 + 1 + 1, 3, none⟩ = some (.int .i64 s) ∧ w2.cell? ⟨w.heap.size + 1 + 1 + 1, 4, none⟩ = some (.int .i64 0) := ⟨HE2.out.2.c0, HE2.out.2.c1, HE2.out.2.c2, HE2.out.2.c3, HE2.out.2.c4⟩
        have hfr := HE2.out.2.fr
        go_wp2_with fail
        refine (in_go ⟨#[49, 50, 51, 52, 53, 54, 55, 56, 57]⟩ k true _ (by decide) HS.out).mono ?_
        rintro e w3 ⟨rfl, hb⟩
        have HE3 : Hid (Ent w w3 (f, r, o, s, 0) (f, r, o, s, 0)) := HE2.out.below hb
        clear hb HE2 c0 c1 c2 c3 c4 d0 d1 d2 d3 d4 hfr
        obtain ⟨c0, c1, c2, c3, c4⟩ : w3.cell? ⟨w.heap.size, 0, none⟩ = some (.int .i64 f) ∧ w3.cell? ⟨w.heap.size, 1, none⟩ = some (.int .i64 r) ∧ w3.cell? ⟨w.heap.size, 2, none⟩ = some (.int .i64 o) ∧ w3.cell? ⟨w.heap.size, 3, none⟩ = some (.int .i64 s) ∧ w3.cell? ⟨w.heap.size, 4, none⟩ = some (.int .i64 0) := ⟨HE3.out.1.1.c0, HE3.out.1.1.c1, HE3.out.1.1.c2, HE3.out.1.1.c3, HE3.out.1.1.c4⟩
        obtain ⟨d0, d1, d2, d3, d4⟩ : w3.cell? ⟨w.heap.size + 1 + 1 + 1, 0, none⟩ = some (.int .i64 f) ∧ w3.cell? ⟨w.heap.size + 1 + 1 + 1, 1, none⟩ = some (.int .i64 r) ∧ w3.cell? ⟨w.heap.size + 1 + 1 + 1, 2, none⟩ = some (.int .i64 o) ∧ w3.cell? ⟨w.heap.size + 1 + 1 + 1, 3, none⟩ = some (.int .i64 s) ∧ w3.cell? ⟨w.heap.size + 1 + 1 + 1, 4, none⟩ = some (.int .i64 0) := ⟨HE3.out.2.c0, HE3.out.2.c1, HE3.out.2.c2, HE3.out.2.c3, HE3.out.2.c4⟩
        have hfr := HE3.out.2.fr
        go_wp2_with fail
        refine (refMore_go f r o (999) 0 _).mono ?_
        rintro e w4 ⟨rfl, hb⟩
        have HF : Hid (Enter w w4 (f, r, o, s, 0) w.heap.size (w.heap.size + 1) (w.heap.size + 1 + 1)) := Enter.below (Enter.far HE3.out.1 _ _ (by show w.heap.size + 1 + 1 < w.heap.size + 1 + 1 + 1; omega) (by omega)) hb
        clear hb HE3 c0 c1 c2 c3 c4 d0 d1 d2 d3 d4 hfr
        go_wp2_with (first | (refine storeF rfl 27 _ _ rfl (.inl rfl) _ rfl (mor (f, r, o, (999), 0)).1 zer rfl HF.out.2.1 ?_) | (refine storeF rfl 24 _ _ rfl (.inr rfl) _ rfl (mor (f, r, o, (999), 0)).2.1 zer rfl (HF.out.2.2.1.other _ (by omega)) ?_))
        exact HF.out.end 4 5 6 Tryd.results15 rfl rfl rfl rfl

set_option maxRecDepth 100000 in
set_option maxHeartbeats 2000000 in
theorem ref_zero (f r o s : Int) (w : World) (hf : 0 ≤ f ∧ f ≤ 999) (hs : 0 ≤ s ∧ s ≤ 999) (h3 : dig f o s 48 = false) :
    Calls Tryd.prog 15 #[.agg #[.int .i64 f, .int .i64 r, .int .i64 o, .int .i64 s, .int .i64 0], .int .i64 48] w fun e w' => TookPost (don f r o s 48 0) w e w' := by
  have hm : mnt f o s ≤ 0 := by
    have := of_decide_eq_false h3
    omega
  clear h3
  have HC : Hid ((0 ≤ f ∧ f ≤ 999) ∧ (0 ≤ s ∧ s ≤ 999)) := ⟨hf, hs⟩
  clear hf hs
  by_cases h1 : o = 0
  · subst h1
    have hm2 : f ≤ 0 := by rw [show mnt f 0 s = f from if_neg (by decide)] at hm; exact hm
    clear hm
    go_enter Tryd.func15, Tryd.ntmps15
    go_wp2_with fail
    have HE1 : Hid (Ent w ((((w.alloc (.cells #[.int .i64 f, .int .i64 r, .int .i64 0, .int .i64 s, .int .i64 0] 27)).alloc (.cells #[.int .i64 0, .int .i64 0, .int .i64 0, .int .i64 0, .int .i64 0] 27)).alloc (.cells #[.int .i64 0, .int .i64 0, .int .i64 0, .int .i64 0, .int .i64 0] 24)).alloc (.cells #[.int .i64 f, .int .i64 r, .int .i64 0, .int .i64 s, .int .i64 0] 27)) (f, r, 0, s, 0) (f, r, 0, s, 0)) := ent_is w (f, r, 0, s, 0)
    generalize ((((w.alloc (.cells #[.int .i64 f, .int .i64 r, .int .i64 0, .int .i64 s, .int .i64 0] 27)).alloc (.cells #[.int .i64 0, .int .i64 0, .int .i64 0, .int .i64 0, .int .i64 0] 27)).alloc (.cells #[.int .i64 0, .int .i64 0, .int .i64 0, .int .i64 0, .int .i64 0] 24)).alloc (.cells #[.int .i64 f, .int .i64 r, .int .i64 0, .int .i64 s, .int .i64 0] 27)) = w1 at *
    obtain ⟨c0, c1, c2, c3, c4⟩ : w1.cell? ⟨w.heap.size, 0, none⟩ = some (.int .i64 f) ∧ w1.cell? ⟨w.heap.size, 1, none⟩ = some (.int .i64 r) ∧ w1.cell? ⟨w.heap.size, 2, none⟩ = some (.int .i64 0) ∧ w1.cell? ⟨w.heap.size, 3, none⟩ = some (.int .i64 s) ∧ w1.cell? ⟨w.heap.size, 4, none⟩ = some (.int .i64 0) := ⟨HE1.out.1.1.c0, HE1.out.1.1.c1, HE1.out.1.1.c2, HE1.out.1.1.c3, HE1.out.1.1.c4⟩
    obtain ⟨d0, d1, d2, d3, d4⟩ : w1.cell? ⟨w.heap.size + 1 + 1 + 1, 0, none⟩ = some (.int .i64 f) ∧ w1.cell? ⟨w.heap.size + 1 + 1 + 1, 1, none⟩ = some (.int .i64 r) ∧ w1.cell? ⟨w.heap.size + 1 + 1 + 1, 2, none⟩ = some (.int .i64 0) ∧ w1.cell? ⟨w.heap.size + 1 + 1 + 1, 3, none⟩ = some (.int .i64 s) ∧ w1.cell? ⟨w.heap.size + 1 + 1 + 1, 4, none⟩ = some (.int .i64 0) := ⟨HE1.out.2.c0, HE1.out.2.c1, HE1.out.2.c2, HE1.out.2.c3, HE1.out.2.c4⟩
    have hfr := HE1.out.2.fr
    refine (in_go ⟨#[105, 97]⟩ 0 false _ (by decide) (by decide)).mono ?_
    rintro e w2 ⟨rfl, hb⟩
    have HE2 : Hid (Ent w w2 (f, r, 0, s, 0) (f, r, 0, s, 0)) := HE1.out.below hb
    clear hb HE1 c0 c1 c2 c3 c4 d0 d1 d2 d3 d4 hfr
    obtain ⟨c0, c1, c2, c3, c4⟩ : w2.cell? ⟨w.heap.size, 0, none⟩ = some (.int .i64 f) ∧ w2.cell? ⟨w.heap.size, 1, none⟩ = some (.int .i64 r) ∧ w2.cell? ⟨w.heap.size, 2, none⟩ = some (.int .i64 0) ∧ w2.cell? ⟨w.heap.size, 3, none⟩ = some (.int .i64 s) ∧ w2.cell? ⟨w.heap.size, 4, none⟩ = some (.int .i64 0) := ⟨HE2.out.1.1.c0, HE2.out.1.1.c1, HE2.out.1.1.c2, HE2.out.1.1.c3, HE2.out.1.1.c4⟩
    obtain ⟨d0, d1, d2, d3, d4⟩ : w2.cell? ⟨w.heap.size + 1 + 1 + 1, 0, none⟩ = some (.int .i64 f) ∧ w2.cell? ⟨w.heap.size + 1 + 1 + 1, 1, none⟩ = some (.int .i64 r) ∧ w2.cell? ⟨w.heap.size + 1 + 1 + 1, 2, none⟩ = some (.int .i64 0) ∧ w2.cell? ⟨w.heap.size + 1 + 1 + 1, 3, none⟩ = some (.int .i64 s) ∧ w2.cell? ⟨w.heap.size + 1 + 1 + 1, 4, none⟩ = some (.int .i64 0) := ⟨HE2.out.2.c0, HE2.out.2.c1, HE2.out.2.c2, HE2.out.2.c3, HE2.out.2.c4⟩
    have hfr := HE2.out.2.fr
    go_wp2_with fail
    refine (in_go ⟨#[49, 50, 51, 52, 53, 54, 55, 56, 57]⟩ 48 false _ (by decide) (by decide)).mono ?_
    rintro e w3 ⟨rfl, hb⟩
    have HE3 : Hid (Ent w w3 (f, r, 0, s, 0) (f, r, 0, s, 0)) := HE2.out.below hb
    clear hb HE2 c0 c1 c2 c3 c4 d0 d1 d2 d3 d4 hfr
    obtain ⟨c0, c1, c2, c3, c4⟩ : w3.cell? ⟨w.heap.size, 0, none⟩ = some (.int .i64 f) ∧ w3.cell? ⟨w.heap.size, 1, none⟩ = some (.int .i64 r) ∧ w3.cell? ⟨w.heap.size, 2, none⟩ = some (.int .i64 0) ∧ w3.cell? ⟨w.heap.size, 3, none⟩ = some (.int .i64 s) ∧ w3.cell? ⟨w.heap.size, 4, none⟩ = some (.int .i64 0) := ⟨HE3.out.1.1.c0, HE3.out.1.1.c1, HE3.out.1.1.c2, HE3.out.1.1.c3, HE3.out.1.1.c4⟩
    obtain ⟨d0, d1, d2, d3, d4⟩ : w3.cell? ⟨w.heap.size + 1 + 1 + 1, 0, none⟩ = some (.int .i64 f) ∧ w3.cell? ⟨w.heap.size + 1 + 1 + 1, 1, none⟩ = some (.int .i64 r) ∧ w3.cell? ⟨w.heap.size + 1 + 1 + 1, 2, none⟩ = some (.int .i64 0) ∧ w3.cell? ⟨w.heap.size + 1 + 1 + 1, 3, none⟩ = some (.int .i64 s) ∧ w3.cell? ⟨w.heap.size + 1 + 1 + 1, 4, none⟩ = some (.int .i64 0) := ⟨HE3.out.2.c0, HE3.out.2.c1, HE3.out.2.c2, HE3.out.2.c3, HE3.out.2.c4⟩
    have hfr := HE3.out.2.fr
    go_wp2_with fail
    refine (in_go ⟨#[100, 99, 121]⟩ 48 false _ (by decide) (by decide)).mono ?_
    rintro e w4 ⟨rfl, hb⟩
    have HE4 : Hid (Ent w w4 (f, r, 0, s, 0) (f, r, 0, s, 0)) := HE3.out.below hb
    clear hb HE3 c0 c1 c2 c3 c4 d0 d1 d2 d3 d4 hfr
    obtain ⟨c0, c1, c2, c3, c4⟩ : w4.cell? ⟨w.heap.size, 0, none⟩ = some (.int .i64 f) ∧ w4.cell? ⟨w.heap.size, 1, none⟩ = some (.int .i64 r) ∧ w4.cell? ⟨w.heap.size, 2, none⟩ = some (.int .i64 0) ∧ w4.cell? ⟨w.heap.size, 3, none⟩ = some (.int .i64 s) ∧ w4.cell? ⟨w.heap.size, 4, none⟩ = some (.int .i64 0) := ⟨HE4.out.1.1.c0, HE4.out.1.1.c1, HE4.out.1.1.c2, HE4.out.1.1.c3, HE4.out.1.1.c4⟩
    obtain ⟨d0, d1, d2, d3, d4⟩ : w4.cell? ⟨w.heap.size + 1 + 1 + 1, 0, none⟩ = some (.int .i64 f) ∧ w4.cell? ⟨w.heap.size + 1 + 1 + 1, 1, none⟩ = some (.int .i64 r) ∧ w4.cell? ⟨w.heap.size + 1 + 1 + 1, 2, none⟩ = some (.int .i64 0) ∧ w4.cell? ⟨w.heap.size + 1 + 1 + 1, 3, none⟩ = some (.int .i64 s) ∧ w4.cell? ⟨w.heap.size + 1 + 1 + 1, 4, none⟩ = some (.int .i64 0) := ⟨HE4.out.2.c0, HE4.out.2.c1, HE4.out.2.c2, HE4.out.2.c3, HE4.out.2.c4⟩
    have hfr := HE4.out.2.fr
    go_wp2_with fail
    refine (in_go ⟨#[100, 99, 121]⟩ 48 false _ (by decide) (by decide)).mono ?_
    rintro e w5 ⟨rfl, hb⟩
    have HE5 : Hid (Ent w w5 (f, r, 0, s, 0) (f, r, 0, s, 0)) := HE4.out.below hb
    clear hb HE4 c0 c1 c2 c3 c4 d0 d1 d2 d3 d4 hfr
    obtain ⟨c0, c1, c2, c3, c4⟩ : w5.cell? ⟨w.heap.size, 0, none⟩ = some (.int .i64 f) ∧ w5.cell? ⟨w.heap.size, 1, none⟩ = some (.int .i64 r) ∧ w5.cell? ⟨w.heap.size, 2, none⟩ = some (.int .i64 0) ∧ w5.cell? ⟨w.heap.size, 3, none⟩ = some (.int .i64 s) ∧ w5.cell? ⟨w.heap.size, 4, none⟩ = some (.int .i64 0) := ⟨HE5.out.1.1.c0, HE5.out.1.1.c1, HE5.out.1.1.c2, HE5.out.1.1.c3, HE5.out.1.1.c4⟩
    obtain ⟨d0, d1, d2, d3, d4⟩ : w5.cell? ⟨w.heap.size + 1 + 1 + 1, 0, none⟩ = some (.int .i64 f) ∧ w5.cell? ⟨w.heap.size + 1 + 1 + 1, 1, none⟩ = some (.int .i64 r) ∧ w5.cell? ⟨w.heap.size + 1 + 1 + 1, 2, none⟩ = some (.int .i64 0) ∧ w5.cell? ⟨w.heap.size + 1 + 1 + 1, 3, none⟩ = some (.int .i64 s) ∧ w5.cell? ⟨w.heap.size + 1 + 1 + 1, 4, none⟩ = some (.int .i64 0) := ⟨HE5.out.2.c0, HE5.out.2.c1, HE5.out.2.c2, HE5.out.2.c3, HE5.out.2.c4⟩
    have hfr := HE5.out.2.fr
    go_wp2_with fail
    refine (in_go ⟨#[104, 108, 48, 94, 36, 124, 119, 87, 98, 66, 101, 69, 37, 59, 44]⟩ 48 true _ (by decide) (by decide)).mono ?_
    rintro e w6 ⟨rfl, hb⟩
    have HE6 : Hid (Ent w w6 (f, r, 0, s, 0) (f, r, 0, s, 0)) := HE5.out.below hb
    clear hb HE5 c0 c1 c2 c3 c4 d0 d1 d2 d3 d4 hfr
    obtain ⟨c0, c1, c2, c3, c4⟩ : w6.cell? ⟨w.heap.size, 0, none⟩ = some (.int .i64 f) ∧ w6.cell? ⟨w.heap.size, 1, none⟩ = some (.int .i64 r) ∧ w6.cell? ⟨w.heap.size, 2, none⟩ = some (.int .i64 0) ∧ w6.cell? ⟨w.heap.size, 3, none⟩ = some (.int .i64 s) ∧ w6.cell? ⟨w.heap.size, 4, none⟩ = some (.int .i64 0) := ⟨HE6.out.1.1.c0, HE6.out.1.1.c1, HE6.out.1.1.c2, HE6.out.1.1.c3, HE6.out.1.1.c4⟩
    obtain ⟨d0, d1, d2, d3, d4⟩ : w6.cell? ⟨w.heap.size + 1 + 1 + 1, 0, none⟩ = some (.int .i64 f) ∧ w6.cell? ⟨w.heap.size + 1 + 1 + 1, 1, none⟩ = some (.int .i64 r) ∧ w6.cell? ⟨w.heap.size + 1 + 1 + 1, 2, none⟩ = some (.int .i64 0) ∧ w6.cell? ⟨w.heap.size + 1 + 1 + 1, 3, none⟩ = some (.int .i64 s) ∧ w6.cell? ⟨w.heap.size + 1 + 1 + 1, 4, none⟩ = some (.int .i64 0) := ⟨HE6.out.2.c0, HE6.out.2.c1, HE6.out.2.c2, HE6.out.2.c3, HE6.out.2.c4⟩
    have hfr := HE6.out.2.fr
    go_wp2_with fail
    refine (refDone_go f r 0 s 0 48 0 w.heap.size _ HC.out.1 HC.out.2 HE6.out.1.1).mono ?_
    rintro e w7 ⟨rfl, hb⟩
    have HF : Hid (Enter w w7 (f, r, 0, s, 0) w.heap.size (w.heap.size + 1) (w.heap.size + 1 + 1)) := Enter.below HE6.out.1 hb
    clear hb HE6 c0 c1 c2 c3 c4 d0 d1 d2 d3 d4 hfr
    go_wp2_with (first | (refine storeF rfl 27 _ _ rfl (.inl rfl) _ rfl (don f r 0 s 48 0).1 zer rfl HF.out.2.1 ?_) | (refine storeF rfl 24 _ _ rfl (.inr rfl) _ rfl (don f r 0 s 48 0).2.1 zer rfl (HF.out.2.2.1.other _ (by omega)) ?_))
    exact HF.out.end 4 5 6 Tryd.results15 rfl rfl rfl rfl
  · have g0 : (o != 0) = true := by simpa using h1
    have hm2 : s ≤ 0 := by rw [show mnt f o s = s from if_pos h1] at hm; exact hm
    clear hm h1
    go_enter Tryd.func15, Tryd.ntmps15
    go_wp2_with fail
    have HE1 : Hid (Ent w ((((w.alloc (.cells #[.int .i64 f, .int .i64 r, .int .i64 o, .int .i64 s, .int .i64 0] 27)).alloc (.cells #[.int .i64 0, .int .i64 0, .int .i64 0, .int .i64 0, .int .i64 0] 27)).alloc (.cells #[.int .i64 0, .int .i64 0, .int .i64 0, .int .i64 0, .int .i64 0] 24)).alloc (.cells #[.int .i64 f, .int .i64 r, .int .i64 o, .int .i64 s, .int .i64 0] 27)) (f, r, o, s, 0) (f, r, o, s, 0)) := ent_is w (f, r, o, s, 0)
    generalize ((((w.alloc (.cells #[.int .i64 f, .int .i64 r, .int .i64 o, .int .i64 s, .int .i64 0] 27)).alloc (.cells #[.int .i64 0, .int .i64 0, .int .i64 0, .int .i64 0, .int .i64 0] 27)).alloc (.cells #[.int .i64 0, .int .i64 0, .int .i64 0, .int .i64 0, .int .i64 0] 24)).alloc (.cells #[.int .i64 f, .int .i64 r, .int .i64 o, .int .i64 s, .int .i64 0] 27)) = w1 at *
    obtain ⟨c0, c1, c2, c3, c4⟩ : w1.cell? ⟨w.heap.size, 0, none⟩ = some (.int .i64 f) ∧ w1.cell? ⟨w.heap.size, 1, none⟩ = some (.int .i64 r) ∧ w1.cell? ⟨w.heap.size, 2, none⟩ = some (.int .i64 o) ∧ w1.cell? ⟨w.heap.size, 3, none⟩ = some (.int .i64 s) ∧ w1.cell? ⟨w.heap.size, 4, none⟩ = some (.int .i64 0) := ⟨HE1.out.1.1.c0, HE1.out.1.1.c1, HE1.out.1.1.c2, HE1.out.1.1.c3, HE1.out.1.1.c4⟩
    obtain ⟨d0, d1, d2, d3, d4⟩ : w1.cell? ⟨w.heap.size + 1 + 1 + 1, 0, none⟩ = some (.int .i64 f) ∧ w1.cell? ⟨w.heap.size + 1 + 1 + 1, 1, none⟩ = some (.int .i64 r) ∧ w1.cell? ⟨w.heap.size + 1 + 1 + 1, 2, none⟩ = some (.int .i64 o) ∧ w1.cell? ⟨w.heap.size + 1 + 1 + 1, 3, none⟩ = some (.int .i64 s) ∧ w1.cell? ⟨w.heap.size + 1 + 1 + 1, 4, none⟩ = some (.int .i64 0) := ⟨HE1.out.2.c0, HE1.out.2.c1, HE1.out.2.c2, HE1.out.2.c3, HE1.out.2.c4⟩
    have hfr := HE1.out.2.fr
    refine (in_go ⟨#[105, 97]⟩ 0 false _ (by decide) (by decide)).mono ?_
    rintro e w2 ⟨rfl, hb⟩
    have HE2 : Hid (Ent w w2 (f, r, o, s, 0) (f, r, o, s, 0)) := HE1.out.below hb
    clear hb HE1 c0 c1 c2 c3 c4 d0 d1 d2 d3 d4 hfr
    obtain ⟨c0, c1, c2, c3, c4⟩ : w2.cell? ⟨w.heap.size, 0, none⟩ = some (.int .i64 f) ∧ w2.cell? ⟨w.heap.size, 1, none⟩ = some (.int .i64 r) ∧ w2.cell? ⟨w.heap.size, 2, none⟩ = some (.int .i64 o) ∧ w2.cell? ⟨w.heap.size, 3, none⟩ = some (.int .i64 s) ∧ w2.cell? ⟨w.heap.size, 4, none⟩ = some (.int .i64 0) := ⟨HE2.out.1.1.c0, HE2.out.1.1.c1, HE2.out.1.1.c2, HE2.out.1.1.c3, HE2.out.1.1.c4⟩
    obtain ⟨d0, d1, d2, d3, d4⟩ : w2.cell? ⟨w.heap.size + 1 + 1 + 1, 0, none⟩ = some (.int .i64 f) ∧ w2.cell? ⟨w.heap.size + 1 + 1 + 1, 1, none⟩ = some (.int .i64 r) ∧ w2.cell? ⟨w.heap.size + 1 + 1 + 1, 2, none⟩ = some (.int .i64 o) ∧ w2.cell? ⟨w.heap.size + 1 + 1 + 1, 3, none⟩ = some (.int .i64 s) ∧ w2.cell? ⟨w.heap.size + 1 + 1 + 1, 4, none⟩ = some (.int .i64 0) := ⟨HE2.out.2.c0, HE2.out.2.c1, HE2.out.2.c2, HE2.out.2.c3, HE2.out.2.c4⟩
    have hfr := HE2.out.2.fr
    go_wp2_with fail
    refine (in_go ⟨#[49, 50, 51, 52, 53, 54, 55, 56, 57]⟩ 48 false _ (by decide) (by decide)).mono ?_
    rintro e w3 ⟨rfl, hb⟩
    have HE3 : Hid (Ent w w3 (f, r, o, s, 0) (f, r, o, s, 0)) := HE2.out.below hb
    clear hb HE2 c0 c1 c2 c3 c4 d0 d1 d2 d3 d4 hfr
    obtain ⟨c0, c1, c2, c3, c4⟩ : w3.cell? ⟨w.heap.size, 0, none⟩ = some (.int .i64 f) ∧ w3.cell? ⟨w.heap.size, 1, none⟩ = some (.int .i64 r) ∧ w3.cell? ⟨w.heap.size, 2, none⟩ = some (.int .i64 o) ∧ w3.cell? ⟨w.heap.size, 3, none⟩ = some (.int .i64 s) ∧ w3.cell? ⟨w.heap.size, 4, none⟩ = some (.int .i64 0) := ⟨HE3.out.1.1.c0, HE3.out.1.1.c1, HE3.out.1.1.c2, HE3.out.1.1.c3, HE3.out.1.1.c4⟩
    obtain ⟨d0, d1, d2, d3, d4⟩ : w3.cell? ⟨w.heap.size + 1 + 1 + 1, 0, none⟩ = some (.int .i64 f) ∧ w3.cell? ⟨w.heap.size + 1 + 1 + 1, 1, none⟩ = some (.int .i64 r) ∧ w3.cell? ⟨w.heap.size + 1 + 1 + 1, 2, none⟩ = some (.int .i64 o) ∧ w3.cell? ⟨w.heap.size + 1 + 1 + 1, 3, none⟩ = some (.int .i64 s) ∧ w3.cell? ⟨w.heap.size + 1 + 1 + 1, 4, none⟩ = some (.int .i64 0) := ⟨HE3.out.2.c0, HE3.out.2.c1, HE3.out.2.c2, HE3.out.2.c3, HE3.out.2.c4⟩
    have hfr := HE3.out.2.fr
    go_wp2_with fail
    refine (in_go ⟨#[100, 99, 121]⟩ 48 false _ (by decide) (by decide)).mono ?_
    rintro e w4 ⟨rfl, hb⟩
    have HE4 : Hid (Ent w w4 (f, r, o, s, 0) (f, r, o, s, 0)) := HE3.out.below hb
    clear hb HE3 c0 c1 c2 c3 c4 d0 d1 d2 d3 d4 hfr
    obtain ⟨c0, c1, c2, c3, c4⟩ : w4.cell? ⟨w.heap.size, 0, none⟩ = some (.int .i64 f) ∧ w4.cell? ⟨w.heap.size, 1, none⟩ = some (.int .i64 r) ∧ w4.cell? ⟨w.heap.size, 2, none⟩ = some (.int .i64 o) ∧ w4.cell? ⟨w.heap.size, 3, none⟩ = some (.int .i64 s) ∧ w4.cell? ⟨w.heap.size, 4, none⟩ = some (.int .i64 0) := ⟨HE4.out.1.1.c0, HE4.out.1.1.c1, HE4.out.1.1.c2, HE4.out.1.1.c3, HE4.out.1.1.c4⟩
    obtain ⟨d0, d1, d2, d3, d4⟩ : w4.cell? ⟨w.heap.size + 1 + 1 + 1, 0, none⟩ = some (.int .i64 f) ∧ w4.cell? ⟨w.heap.size + 1 + 1 + 1, 1, none⟩ = some (.int .i64 r) ∧ w4.cell? ⟨w.heap.size + 1 + 1 + 1, 2, none⟩ = some (.int .i64 o) ∧ w4.cell? ⟨w.heap.size + 1 + 1 + 1, 3, none⟩ = some (.int .i64 s) ∧ w4.cell? ⟨w.heap.size + 1 + 1 + 1, 4, none⟩ = some (.int .i64 0) := ⟨HE4.out.2.c0, HE4.out.2.c1, HE4.out.2.c2, HE4.out.2.c3, HE4.out.2.c4⟩
    have hfr := HE4.out.2.fr
    go_wp2_with fail
    refine (in_go ⟨#[100, 99, 121]⟩ 48 false _ (by decide) (by decide)).mono ?_
    rintro e w5 ⟨rfl, hb⟩
    have HE5 : Hid (Ent w w5 (f, r, o, s, 0) (f, r, o, s, 0)) := HE4.out.below hb
    clear hb HE4 c0 c1 c2 c3 c4 d0 d1 d2 d3 d4 hfr
    obtain ⟨c0, c1, c2, c3, c4⟩ : w5.cell? ⟨w.heap.size, 0, none⟩ = some (.int .i64 f) ∧ w5.cell? ⟨w.heap.size, 1, none⟩ = some (.int .i64 r) ∧ w5.cell? ⟨w.heap.size, 2, none⟩ = some (.int .i64 o) ∧ w5.cell? ⟨w.heap.size, 3, none⟩ = some (.int .i64 s) ∧ w5.cell? ⟨w.heap.size, 4, none⟩ = some (.int .i64 0) := ⟨HE5.out.1.1.c0, HE5.out.1.1.c1, HE5.out.1.1.c2, HE5.out.1.1.c3, HE5.out.1.1.c4⟩
    obtain ⟨d0, d1, d2, d3, d4⟩ : w5.cell? ⟨w.heap.size + 1 + 1 + 1, 0, none⟩ = some (.int .i64 f) ∧ w5.cell? ⟨w.heap.size + 1 + 1 + 1, 1, none⟩ = some (.int .i64 r) ∧ w5.cell? ⟨w.heap.size + 1 + 1 + 1, 2, none⟩ = some (.int .i64 o) ∧ w5.cell? ⟨w.heap.size + 1 + 1 + 1, 3, none⟩ = some (.int .i64 s) ∧ w5.cell? ⟨w.heap.size + 1 + 1 + 1, 4, none⟩ = some (.int .i64 0) := ⟨HE5.out.2.c0, HE5.out.2.c1, HE5.out.2.c2, HE5.out.2.c3, HE5.out.2.c4⟩
    have hfr := HE5.out.2.fr
    go_wp2_with fail
    refine (in_go ⟨#[104, 108, 48, 94, 36, 124, 119, 87, 98, 66, 101, 69, 37, 59, 44]⟩ 48 true _ (by decide) (by decide)).mono ?_
    rintro e w6 ⟨rfl, hb⟩
    have HE6 : Hid (Ent w w6 (f, r, o, s, 0) (f, r, o, s, 0)) := HE5.out.below hb
    clear hb HE5 c0 c1 c2 c3 c4 d0 d1 d2 d3 d4 hfr
    obtain ⟨c0, c1, c2, c3, c4⟩ : w6.cell? ⟨w.heap.size, 0, none⟩ = some (.int .i64 f) ∧ w6.cell? ⟨w.heap.size, 1, none⟩ = some (.int .i64 r) ∧ w6.cell? ⟨w.heap.size, 2, none⟩ = some (.int .i64 o) ∧ w6.cell? ⟨w.heap.size, 3, none⟩ = some (.int .i64 s) ∧ w6.cell? ⟨w.heap.size, 4, none⟩ = some (.int .i64 0) := ⟨HE6.out.1.1.c0, HE6.out.1.1.c1, HE6.out.1.1.c2, HE6.out.1.1.c3, HE6.out.1.1.c4⟩
    obtain ⟨d0, d1, d2, d3, d4⟩ : w6.cell? ⟨w.heap.size + 1 + 1 + 1, 0, none⟩ = some (.int .i64 f) ∧ w6.cell? ⟨w.heap.size + 1 + 1 + 1, 1, none⟩ = some (.int .i64 r) ∧ w6.cell? ⟨w.heap.size + 1 + 1 + 1, 2, none⟩ = some (.int .i64 o) ∧ w6.cell? ⟨w.heap.size + 1 + 1 + 1, 3, none⟩ = some (.int .i64 s) ∧ w6.cell? ⟨w.heap.size + 1 + 1 + 1, 4, none⟩ = some (.int .i64 0) := ⟨HE6.out.2.c0, HE6.out.2.c1, HE6.out.2.c2, HE6.out.2.c3, HE6.out.2.c4⟩
    have hfr := HE6.out.2.fr
    go_wp2_with fail
    refine (refDone_go f r o s 0 48 0 w.heap.size _ HC.out.1 HC.out.2 HE6.out.1.1).mono ?_
    rintro e w7 ⟨rfl, hb⟩
    have HF : Hid (Enter w w7 (f, r, o, s, 0) w.heap.size (w.heap.size + 1) (w.heap.size + 1 + 1)) := Enter.below HE6.out.1 hb
    clear hb HE6 c0 c1 c2 c3 c4 d0 d1 d2 d3 d4 hfr
    go_wp2_with (first | (refine storeF rfl 27 _ _ rfl (.inl rfl) _ rfl (don f r o s 48 0).1 zer rfl HF.out.2.1 ?_) | (refine storeF rfl 24 _ _ rfl (.inr rfl) _ rfl (don f r o s 48 0).2.1 zer rfl (HF.out.2.2.1.other _ (by omega)) ?_))
    exact HF.out.end 4 5 6 Tryd.results15 rfl rfl rfl rfl

end Go.Proofs.YtjpgjhdkgmddfaaDoor.Seek
