/- The document's Take: other keys without an operator. -/
import Derived.Test.YtjpgjhdkgmddfaaDoorRefTake0
set_option linter.unusedVariables false
set_option linter.unusedSimpArgs false
namespace Go.Proofs.YtjpgjhdkgmddfaaDoor.Seek
open Go.RowKit Plain

set_option maxRecDepth 100000 in
set_option maxHeartbeats 2000000 in
theorem ref_plain (f r s k : Int) (w : World) (hf : 0 ≤ f ∧ f ≤ 999) (hs : 0 ≤ s ∧ s ≤ 999) (h1 : 32 ≤ k) (h2 : (k == 127) = false) (h3 : k < 48 ∨ 57 < k) :
    Calls Tryd.prog 15 #[.agg #[.int .i64 f, .int .i64 r, .int .i64 0, .int .i64 s, .int .i64 0], .int .i64 k] w fun e w' => TookPost (if has ops k = true ∧ 0 = 0 then mor (f, r, k, s, 0) else if (has ops k = true ∧ 0 = k) ∨ has mots k = true then don f r 0 s k 0 else if has fnds k = true ∨ (has sids k = true ∧ 0 ≠ 0) ∨ (0 = 0 ∧ k = 114) ∨ (0 = 0 ∧ r = 0 ∧ k = 34) then mor (f, r, 0, s, k) else if 0 = 0 ∧ has lons k = true then don f r 0 s k 0 else wrg) w e w' := by
  have HC : Hid ((0 ≤ f ∧ f ≤ 999) ∧ (0 ≤ s ∧ s ≤ 999)) := ⟨hf, hs⟩
  clear hf hs
  obtain ⟨R, hR⟩ : ∃ R : Took, R = if has ops k = true ∧ 0 = 0 then mor (f, r, k, s, 0) else if (has ops k = true ∧ 0 = k) ∨ has mots k = true then don f r 0 s k 0 else if has fnds k = true ∨ (has sids k = true ∧ 0 ≠ 0) ∨ (0 = 0 ∧ k = 114) ∨ (0 = 0 ∧ r = 0 ∧ k = 34) then mor (f, r, 0, s, k) else if 0 = 0 ∧ has lons k = true then don f r 0 s k 0 else wrg := ⟨_, rfl⟩
  rw [← hR]
  have HR : Hid (R = if has ops k = true ∧ 0 = 0 then mor (f, r, k, s, 0) else if (has ops k = true ∧ 0 = k) ∨ has mots k = true then don f r 0 s k 0 else if has fnds k = true ∨ (has sids k = true ∧ 0 ≠ 0) ∨ (0 = 0 ∧ k = 114) ∨ (0 = 0 ∧ r = 0 ∧ k = 34) then mor (f, r, 0, s, k) else if 0 = 0 ∧ has lons k = true then don f r 0 s k 0 else wrg) := hR
  clear hR
  have hdigs : has digs k = false := bool_no (fun g => by have := (has_digs k).1 g; omega)
  have g48 : (k == 48) = false := by simp only [beq_eq_false_iff_ne]; omega
  have Hdigs : Hid (has (codes ⟨#[49, 50, 51, 52, 53, 54, 55, 56, 57]⟩) k = false) := hdigs
  clear hdigs h3
  cases hops : has ops k
  case true =>
    have Hops : Hid (has (codes ⟨#[100, 99, 121]⟩) k = true) := hops
    obtain rfl : R = mor (f, r, k, s, 0) := HR.out.trans (by simp [hops])
    clear HR
    clear hops
    go_enter Tryd.func15, Tryd.ntmps15
    go_wp2_with fail
    have HE1 : Hid (Ent w ((((w.alloc (.cells #[.int .i64 f, .int .i64 r, .int .i64 0, .int .i64 s, .int .i64 0] 27)).alloc (.cells #[.int .i64 0, .int .i64 0, .int .i64 0, .int .i64 0, .int .i64 0] 27)).alloc (.cells #[.int .i64 0, .int .i64 0, .int .i64 0, .int .i64 0, .int .i64 0] 24)).alloc (.cells #[.int .i64 f, .int .i64 r, .int .i64 0, .int .i64 s, .int .i64 0] 27)) (f, r, 0, s, 0) (f, r, 0, s, 0)) := ent_is w (f, r, 0, s, 0)
    generalize ((((w.alloc (.cells #[.int .i64 f, .int .i64 r, .int .i64 0, .int .i64 s, .int .i64 0] 27)).alloc (.cells #[.int .i64 0, .int .i64 0, .int .i64 0, .int .i64 0, .int .i64 0] 27)).alloc (.cells #[.int .i64 0, .int .i64 0, .int .i64 0, .int .i64 0, .int .i64 0] 24)).alloc (.cells #[.int .i64 f, .int .i64 r, .int .i64 0, .int .i64 s, .int .i64 0] 27)) = w1 at *
    obtain ⟨c0, c1, c2, c3, c4⟩ : w1.cell? ⟨w.heap.size, 0, none⟩ = some (.int .i64 f) ∧ w1.cell? ⟨w.heap.size, 1, none⟩ = some (.int .i64 r) ∧ w1.cell? ⟨w.heap.size, 2, none⟩ = some (.int .i64 0) ∧ w1.cell? ⟨w.heap.size, 3, none⟩ = some (.int .i64 s) ∧ w1.cell? ⟨w.heap.size, 4, none⟩ = some (.int .i64 0) := ⟨HE1.out.1.1.c0, HE1.out.1.1.c1, HE1.out.1.1.c2, HE1.out.1.1.c3, HE1.out.1.1.c4⟩
    obtain ⟨d0, d1, d2, d3, d4⟩ : w1.cell? ⟨w.heap.size + 1 + 1 + 1, 0, none⟩ = some (.int .i64 f) ∧ w1.cell? ⟨w.heap.size + 1 + 1 + 1, 1, none⟩ = some (.int .i64 r) ∧ w1.cell? ⟨w.heap.size + 1 + 1 + 1, 2, none⟩ = some (.int .i64 0) ∧ w1.cell? ⟨w.heap.size + 1 + 1 + 1, 3, none⟩ = some (.int .i64 s) ∧ w1.cell? ⟨w.heap.size + 1 + 1 + 1, 4, none⟩ = some (.int .i64 0) := ⟨HE1.out.2.c0, HE1.out.2.c1, HE1.out.2.c2, HE1.out.2.c3, HE1.out.2.c4⟩
    have hfr := HE1.out.2.fr
    refine (in_go ⟨#[105, 97]⟩ 0 false _ (by decide) (by decide)).mono ?_
    rintro e w2 ⟨rfl, hb⟩
    have HE2 : Hid (Ent w w2 (f, r, 0, s, 0) (f, r, 0, s, 0)) := HE1.out.below hb
    clear hb HE1 c0 c1 c2 c3 c4 d0 d1 d2 d3 d4 hfr
    obtain ⟨c0, c1, c2, c3, c4⟩ : w2.cell? ⟨w.heap.size, 0, none⟩ = some (.int .i64 f) ∧ w2.cell? ⟨w.heap.size, 1, none⟩ = some (.int .i64 r) ∧ w2.cell? ⟨w.heap.size, 2, none⟩ = some (.int .i64 0) ∧ w2.cell? ⟨w.heap.size, 3, none⟩ = some (.int .i64 s) ∧ w2.cell? ⟨w.heap.size, 4, none⟩ = some (.int .i64 0) := ⟨HE2.out.1.1.c0, HE2.out.1.1.c1, HE2.out.1.1.c2, HE2.out.1.1.c3, HE2.out.1.1.c4⟩
    obtain ⟨d0, d1, d2, d3, d4⟩ : w2.cell? ⟨w.heap.size + 1 + 1 + 1, 0, none⟩ = some (.int .i64 f) ∧ w2.cell? ⟨w.heap.size + 1 + 1 + 1, 1, none⟩ = some (.int .i64 r) ∧ w2.cell? ⟨w.heap.size + 1 + 1 + 1, 2, none⟩ = some (.int .i64 0) ∧ w2.cell? ⟨w.heap.size + 1 + 1 + 1, 3, none⟩ = some (.int .i64 s) ∧ w2.cell? ⟨w.heap.size + 1 + 1 + 1, 4, none⟩ = some (.int .i64 0) := ⟨HE2.out.2.c0, HE2.out.2.c1, HE2.out.2.c2, HE2.out.2.c3, HE2.out.2.c4⟩
    have hfr := HE2.out.2.fr
    go_wp2_with fail
    refine (in_go ⟨#[49, 50, 51, 52, 53, 54, 55, 56, 57]⟩ k false _ (by decide) Hdigs.out).mono ?_
    rintro e w3 ⟨rfl, hb⟩
    have HE3 : Hid (Ent w w3 (f, r, 0, s, 0) (f, r, 0, s, 0)) := HE2.out.below hb
    clear hb HE2 c0 c1 c2 c3 c4 d0 d1 d2 d3 d4 hfr
    obtain ⟨c0, c1, c2, c3, c4⟩ : w3.cell? ⟨w.heap.size, 0, none⟩ = some (.int .i64 f) ∧ w3.cell? ⟨w.heap.size, 1, none⟩ = some (.int .i64 r) ∧ w3.cell? ⟨w.heap.size, 2, none⟩ = some (.int .i64 0) ∧ w3.cell? ⟨w.heap.size, 3, none⟩ = some (.int .i64 s) ∧ w3.cell? ⟨w.heap.size, 4, none⟩ = some (.int .i64 0) := ⟨HE3.out.1.1.c0, HE3.out.1.1.c1, HE3.out.1.1.c2, HE3.out.1.1.c3, HE3.out.1.1.c4⟩
    obtain ⟨d0, d1, d2, d3, d4⟩ : w3.cell? ⟨w.heap.size + 1 + 1 + 1, 0, none⟩ = some (.int .i64 f) ∧ w3.cell? ⟨w.heap.size + 1 + 1 + 1, 1, none⟩ = some (.int .i64 r) ∧ w3.cell? ⟨w.heap.size + 1 + 1 + 1, 2, none⟩ = some (.int .i64 0) ∧ w3.cell? ⟨w.heap.size + 1 + 1 + 1, 3, none⟩ = some (.int .i64 s) ∧ w3.cell? ⟨w.heap.size + 1 + 1 + 1, 4, none⟩ = some (.int .i64 0) := ⟨HE3.out.2.c0, HE3.out.2.c1, HE3.out.2.c2, HE3.out.2.c3, HE3.out.2.c4⟩
    have hfr := HE3.out.2.fr
    go_wp2_with fail
    refine (in_go ⟨#[100, 99, 121]⟩ k true _ (by decide) Hops.out).mono ?_
    rintro e w4 ⟨rfl, hb⟩
    have HE4 : Hid (Ent w w4 (f, r, 0, s, 0) (f, r, 0, s, 0)) := HE3.out.below hb
    clear hb HE3 c0 c1 c2 c3 c4 d0 d1 d2 d3 d4 hfr
    obtain ⟨c0, c1, c2, c3, c4⟩ : w4.cell? ⟨w.heap.size, 0, none⟩ = some (.int .i64 f) ∧ w4.cell? ⟨w.heap.size, 1, none⟩ = some (.int .i64 r) ∧ w4.cell? ⟨w.heap.size, 2, none⟩ = some (.int .i64 0) ∧ w4.cell? ⟨w.heap.size, 3, none⟩ = some (.int .i64 s) ∧ w4.cell? ⟨w.heap.size, 4, none⟩ = some (.int .i64 0) := ⟨HE4.out.1.1.c0, HE4.out.1.1.c1, HE4.out.1.1.c2, HE4.out.1.1.c3, HE4.out.1.1.c4⟩
    obtain ⟨d0, d1, d2, d3, d4⟩ : w4.cell? ⟨w.heap.size + 1 + 1 + 1, 0, none⟩ = some (.int .i64 f) ∧ w4.cell? ⟨w.heap.size + 1 + 1 + 1, 1, none⟩ = some (.int .i64 r) ∧ w4.cell? ⟨w.heap.size + 1 + 1 + 1, 2, none⟩ = some (.int .i64 0) ∧ w4.cell? ⟨w.heap.size + 1 + 1 + 1, 3, none⟩ = some (.int .i64 s) ∧ w4.cell? ⟨w.heap.size + 1 + 1 + 1, 4, none⟩ = some (.int .i64 0) := ⟨HE4.out.2.c0, HE4.out.2.c1, HE4.out.2.c2, HE4.out.2.c3, HE4.out.2.c4⟩
    have hfr := HE4.out.2.fr
    go_wp2_with fail
    refine (refMore_go f r k s 0 _).mono ?_
    rintro e w5 ⟨rfl, hb⟩
    have HF : Hid (Enter w w5 (f, r, 0, s, 0) w.heap.size (w.heap.size + 1) (w.heap.size + 1 + 1)) := Enter.below (Enter.far HE4.out.1 _ _ (by show w.heap.size + 1 + 1 < w.heap.size + 1 + 1 + 1; omega) (by omega)) hb
    clear hb HE4 c0 c1 c2 c3 c4 d0 d1 d2 d3 d4 hfr
    go_wp2_with (first | (refine storeF rfl 27 _ _ rfl (.inl rfl) _ rfl (mor (f, r, k, s, 0)).1 zer rfl HF.out.2.1 ?_) | (refine storeF rfl 24 _ _ rfl (.inr rfl) _ rfl (mor (f, r, k, s, 0)).2.1 zer rfl (HF.out.2.2.1.other _ (by omega)) ?_))
    exact HF.out.end 4 5 6 Tryd.results15 rfl rfl rfl rfl
  case false =>
    have Hops : Hid (has (codes ⟨#[100, 99, 121]⟩) k = false) := hops
    cases hmots : has mots k
    case true =>
      have Hmots : Hid (has (codes ⟨#[104, 108, 48, 94, 36, 124, 119, 87, 98, 66, 101, 69, 37, 59, 44]⟩) k = true) := hmots
      obtain rfl : R = don f r 0 s k 0 := HR.out.trans (by simp [hops, hmots])
      clear HR
      clear hops hmots
      go_enter Tryd.func15, Tryd.ntmps15
      go_wp2_with fail
      have HE1 : Hid (Ent w ((((w.alloc (.cells #[.int .i64 f, .int .i64 r, .int .i64 0, .int .i64 s, .int .i64 0] 27)).alloc (.cells #[.int .i64 0, .int .i64 0, .int .i64 0, .int .i64 0, .int .i64 0] 27)).alloc (.cells #[.int .i64 0, .int .i64 0, .int .i64 0, .int .i64 0, .int .i64 0] 24)).alloc (.cells #[.int .i64 f, .int .i64 r, .int .i64 0, .int .i64 s, .int .i64 0] 27)) (f, r, 0, s, 0) (f, r, 0, s, 0)) := ent_is w (f, r, 0, s, 0)
      generalize ((((w.alloc (.cells #[.int .i64 f, .int .i64 r, .int .i64 0, .int .i64 s, .int .i64 0] 27)).alloc (.cells #[.int .i64 0, .int .i64 0, .int .i64 0, .int .i64 0, .int .i64 0] 27)).alloc (.cells #[.int .i64 0, .int .i64 0, .int .i64 0, .int .i64 0, .int .i64 0] 24)).alloc (.cells #[.int .i64 f, .int .i64 r, .int .i64 0, .int .i64 s, .int .i64 0] 27)) = w1 at *
      obtain ⟨c0, c1, c2, c3, c4⟩ : w1.cell? ⟨w.heap.size, 0, none⟩ = some (.int .i64 f) ∧ w1.cell? ⟨w.heap.size, 1, none⟩ = some (.int .i64 r) ∧ w1.cell? ⟨w.heap.size, 2, none⟩ = some (.int .i64 0) ∧ w1.cell? ⟨w.heap.size, 3, none⟩ = some (.int .i64 s) ∧ w1.cell? ⟨w.heap.size, 4, none⟩ = some (.int .i64 0) := ⟨HE1.out.1.1.c0, HE1.out.1.1.c1, HE1.out.1.1.c2, HE1.out.1.1.c3, HE1.out.1.1.c4⟩
      obtain ⟨d0, d1, d2, d3, d4⟩ : w1.cell? ⟨w.heap.size + 1 + 1 + 1, 0, none⟩ = some (.int .i64 f) ∧ w1.cell? ⟨w.heap.size + 1 + 1 + 1, 1, none⟩ = some (.int .i64 r) ∧ w1.cell? ⟨w.heap.size + 1 + 1 + 1, 2, none⟩ = some (.int .i64 0) ∧ w1.cell? ⟨w.heap.size + 1 + 1 + 1, 3, none⟩ = some (.int .i64 s) ∧ w1.cell? ⟨w.heap.size + 1 + 1 + 1, 4, none⟩ = some (.int .i64 0) := ⟨HE1.out.2.c0, HE1.out.2.c1, HE1.out.2.c2, HE1.out.2.c3, HE1.out.2.c4⟩
      have hfr := HE1.out.2.fr
      refine (in_go ⟨#[105, 97]⟩ 0 false _ (by decide) (by decide)).mono ?_
      rintro e w2 ⟨rfl, hb⟩
      have HE2 : Hid (Ent w w2 (f, r, 0, s, 0) (f, r, 0, s, 0)) := HE1.out.below hb
      clear hb HE1 c0 c1 c2 c3 c4 d0 d1 d2 d3 d4 hfr
      obtain ⟨c0, c1, c2, c3, c4⟩ : w2.cell? ⟨w.heap.size, 0, none⟩ = some (.int .i64 f) ∧ w2.cell? ⟨w.heap.size, 1, none⟩ = some (.int .i64 r) ∧ w2.cell? ⟨w.heap.size, 2, none⟩ = some (.int .i64 0) ∧ w2.cell? ⟨w.heap.size, 3, none⟩ = some (.int .i64 s) ∧ w2.cell? ⟨w.heap.size, 4, none⟩ = some (.int .i64 0) := ⟨HE2.out.1.1.c0, HE2.out.1.1.c1, HE2.out.1.1.c2, HE2.out.1.1.c3, HE2.out.1.1.c4⟩
      obtain ⟨d0, d1, d2, d3, d4⟩ : w2.cell? ⟨w.heap.size + 1 + 1 + 1, 0, none⟩ = some (.int .i64 f) ∧ w2.cell? ⟨w.heap.size + 1 + 1 + 1, 1, none⟩ = some (.int .i64 r) ∧ w2.cell? ⟨w.heap.size + 1 + 1 + 1, 2, none⟩ = some (.int .i64 0) ∧ w2.cell? ⟨w.heap.size + 1 + 1 + 1, 3, none⟩ = some (.int .i64 s) ∧ w2.cell? ⟨w.heap.size + 1 + 1 + 1, 4, none⟩ = some (.int .i64 0) := ⟨HE2.out.2.c0, HE2.out.2.c1, HE2.out.2.c2, HE2.out.2.c3, HE2.out.2.c4⟩
      have hfr := HE2.out.2.fr
      go_wp2_with fail
      refine (in_go ⟨#[49, 50, 51, 52, 53, 54, 55, 56, 57]⟩ k false _ (by decide) Hdigs.out).mono ?_
      rintro e w3 ⟨rfl, hb⟩
      have HE3 : Hid (Ent w w3 (f, r, 0, s, 0) (f, r, 0, s, 0)) := HE2.out.below hb
      clear hb HE2 c0 c1 c2 c3 c4 d0 d1 d2 d3 d4 hfr
      obtain ⟨c0, c1, c2, c3, c4⟩ : w3.cell? ⟨w.heap.size, 0, none⟩ = some (.int .i64 f) ∧ w3.cell? ⟨w.heap.size, 1, none⟩ = some (.int .i64 r) ∧ w3.cell? ⟨w.heap.size, 2, none⟩ = some (.int .i64 0) ∧ w3.cell? ⟨w.heap.size, 3, none⟩ = some (.int .i64 s) ∧ w3.cell? ⟨w.heap.size, 4, none⟩ = some (.int .i64 0) := ⟨HE3.out.1.1.c0, HE3.out.1.1.c1, HE3.out.1.1.c2, HE3.out.1.1.c3, HE3.out.1.1.c4⟩
      obtain ⟨d0, d1, d2, d3, d4⟩ : w3.cell? ⟨w.heap.size + 1 + 1 + 1, 0, none⟩ = some (.int .i64 f) ∧ w3.cell? ⟨w.heap.size + 1 + 1 + 1, 1, none⟩ = some (.int .i64 r) ∧ w3.cell? ⟨w.heap.size + 1 + 1 + 1, 2, none⟩ = some (.int .i64 0) ∧ w3.cell? ⟨w.heap.size + 1 + 1 + 1, 3, none⟩ = some (.int .i64 s) ∧ w3.cell? ⟨w.heap.size + 1 + 1 + 1, 4, none⟩ = some (.int .i64 0) := ⟨HE3.out.2.c0, HE3.out.2.c1, HE3.out.2.c2, HE3.out.2.c3, HE3.out.2.c4⟩
      have hfr := HE3.out.2.fr
      go_wp2_with fail
      refine (in_go ⟨#[100, 99, 121]⟩ k false _ (by decide) Hops.out).mono ?_
      rintro e w4 ⟨rfl, hb⟩
      have HE4 : Hid (Ent w w4 (f, r, 0, s, 0) (f, r, 0, s, 0)) := HE3.out.below hb
      clear hb HE3 c0 c1 c2 c3 c4 d0 d1 d2 d3 d4 hfr
      obtain ⟨c0, c1, c2, c3, c4⟩ : w4.cell? ⟨w.heap.size, 0, none⟩ = some (.int .i64 f) ∧ w4.cell? ⟨w.heap.size, 1, none⟩ = some (.int .i64 r) ∧ w4.cell? ⟨w.heap.size, 2, none⟩ = some (.int .i64 0) ∧ w4.cell? ⟨w.heap.size, 3, none⟩ = some (.int .i64 s) ∧ w4.cell? ⟨w.heap.size, 4, none⟩ = some (.int .i64 0) := ⟨HE4.out.1.1.c0, HE4.out.1.1.c1, HE4.out.1.1.c2, HE4.out.1.1.c3, HE4.out.1.1.c4⟩
      obtain ⟨d0, d1, d2, d3, d4⟩ : w4.cell? ⟨w.heap.size + 1 + 1 + 1, 0, none⟩ = some (.int .i64 f) ∧ w4.cell? ⟨w.heap.size + 1 + 1 + 1, 1, none⟩ = some (.int .i64 r) ∧ w4.cell? ⟨w.heap.size + 1 + 1 + 1, 2, none⟩ = some (.int .i64 0) ∧ w4.cell? ⟨w.heap.size + 1 + 1 + 1, 3, none⟩ = some (.int .i64 s) ∧ w4.cell? ⟨w.heap.size + 1 + 1 + 1, 4, none⟩ = some (.int .i64 0) := ⟨HE4.out.2.c0, HE4.out.2.c1, HE4.out.2.c2, HE4.out.2.c3, HE4.out.2.c4⟩
      have hfr := HE4.out.2.fr
      go_wp2_with fail
      refine (in_go ⟨#[100, 99, 121]⟩ k false _ (by decide) Hops.out).mono ?_
      rintro e w5 ⟨rfl, hb⟩
      have HE5 : Hid (Ent w w5 (f, r, 0, s, 0) (f, r, 0, s, 0)) := HE4.out.below hb
      clear hb HE4 c0 c1 c2 c3 c4 d0 d1 d2 d3 d4 hfr
      obtain ⟨c0, c1, c2, c3, c4⟩ : w5.cell? ⟨w.heap.size, 0, none⟩ = some (.int .i64 f) ∧ w5.cell? ⟨w.heap.size, 1, none⟩ = some (.int .i64 r) ∧ w5.cell? ⟨w.heap.size, 2, none⟩ = some (.int .i64 0) ∧ w5.cell? ⟨w.heap.size, 3, none⟩ = some (.int .i64 s) ∧ w5.cell? ⟨w.heap.size, 4, none⟩ = some (.int .i64 0) := ⟨HE5.out.1.1.c0, HE5.out.1.1.c1, HE5.out.1.1.c2, HE5.out.1.1.c3, HE5.out.1.1.c4⟩
      obtain ⟨d0, d1, d2, d3, d4⟩ : w5.cell? ⟨w.heap.size + 1 + 1 + 1, 0, none⟩ = some (.int .i64 f) ∧ w5.cell? ⟨w.heap.size + 1 + 1 + 1, 1, none⟩ = some (.int .i64 r) ∧ w5.cell? ⟨w.heap.size + 1 + 1 + 1, 2, none⟩ = some (.int .i64 0) ∧ w5.cell? ⟨w.heap.size + 1 + 1 + 1, 3, none⟩ = some (.int .i64 s) ∧ w5.cell? ⟨w.heap.size + 1 + 1 + 1, 4, none⟩ = some (.int .i64 0) := ⟨HE5.out.2.c0, HE5.out.2.c1, HE5.out.2.c2, HE5.out.2.c3, HE5.out.2.c4⟩
      have hfr := HE5.out.2.fr
      go_wp2_with fail
      refine (in_go ⟨#[104, 108, 48, 94, 36, 124, 119, 87, 98, 66, 101, 69, 37, 59, 44]⟩ k true _ (by decide) Hmots.out).mono ?_
      rintro e w6 ⟨rfl, hb⟩
      have HE6 : Hid (Ent w w6 (f, r, 0, s, 0) (f, r, 0, s, 0)) := HE5.out.below hb
      clear hb HE5 c0 c1 c2 c3 c4 d0 d1 d2 d3 d4 hfr
      obtain ⟨c0, c1, c2, c3, c4⟩ : w6.cell? ⟨w.heap.size, 0, none⟩ = some (.int .i64 f) ∧ w6.cell? ⟨w.heap.size, 1, none⟩ = some (.int .i64 r) ∧ w6.cell? ⟨w.heap.size, 2, none⟩ = some (.int .i64 0) ∧ w6.cell? ⟨w.heap.size, 3, none⟩ = some (.int .i64 s) ∧ w6.cell? ⟨w.heap.size, 4, none⟩ = some (.int .i64 0) := ⟨HE6.out.1.1.c0, HE6.out.1.1.c1, HE6.out.1.1.c2, HE6.out.1.1.c3, HE6.out.1.1.c4⟩
      obtain ⟨d0, d1, d2, d3, d4⟩ : w6.cell? ⟨w.heap.size + 1 + 1 + 1, 0, none⟩ = some (.int .i64 f) ∧ w6.cell? ⟨w.heap.size + 1 + 1 + 1, 1, none⟩ = some (.int .i64 r) ∧ w6.cell? ⟨w.heap.size + 1 + 1 + 1, 2, none⟩ = some (.int .i64 0) ∧ w6.cell? ⟨w.heap.size + 1 + 1 + 1, 3, none⟩ = some (.int .i64 s) ∧ w6.cell? ⟨w.heap.size + 1 + 1 + 1, 4, none⟩ = some (.int .i64 0) := ⟨HE6.out.2.c0, HE6.out.2.c1, HE6.out.2.c2, HE6.out.2.c3, HE6.out.2.c4⟩
      have hfr := HE6.out.2.fr
      go_wp2_with fail
      refine (refDone_go f r 0 s 0 k 0 w.heap.size _ HC.out.1 HC.out.2 HE6.out.1.1).mono ?_
      rintro e w7 ⟨rfl, hb⟩
      have HF : Hid (Enter w w7 (f, r, 0, s, 0) w.heap.size (w.heap.size + 1) (w.heap.size + 1 + 1)) := Enter.below HE6.out.1 hb
      clear hb HE6 c0 c1 c2 c3 c4 d0 d1 d2 d3 d4 hfr
      go_wp2_with (first | (refine storeF rfl 27 _ _ rfl (.inl rfl) _ rfl (don f r 0 s k 0).1 zer rfl HF.out.2.1 ?_) | (refine storeF rfl 24 _ _ rfl (.inr rfl) _ rfl (don f r 0 s k 0).2.1 zer rfl (HF.out.2.2.1.other _ (by omega)) ?_))
      exact HF.out.end 4 5 6 Tryd.results15 rfl rfl rfl rfl
    case false =>
      have Hmots : Hid (has (codes ⟨#[104, 108, 48, 94, 36, 124, 119, 87, 98, 66, 101, 69, 37, 59, 44]⟩) k = false) := hmots
      cases hfnds : has fnds k
      case true =>
        have Hfnds : Hid (has (codes ⟨#[102, 70, 116, 84]⟩) k = true) := hfnds
        obtain rfl : R = mor (f, r, 0, s, k) := HR.out.trans (by simp [hops, hmots, hfnds])
        clear HR
        clear hops hmots hfnds
        go_enter Tryd.func15, Tryd.ntmps15
        go_wp2_with fail
        have HE1 : Hid (Ent w ((((w.alloc (.cells #[.int .i64 f, .int .i64 r, .int .i64 0, .int .i64 s, .int .i64 0] 27)).alloc (.cells #[.int .i64 0, .int .i64 0, .int .i64 0, .int .i64 0, .int .i64 0] 27)).alloc (.cells #[.int .i64 0, .int .i64 0, .int .i64 0, .int .i64 0, .int .i64 0] 24)).alloc (.cells #[.int .i64 f, .int .i64 r, .int .i64 0, .int .i64 s, .int .i64 0] 27)) (f, r, 0, s, 0) (f, r, 0, s, 0)) := ent_is w (f, r, 0, s, 0)
        generalize ((((w.alloc (.cells #[.int .i64 f, .int .i64 r, .int .i64 0, .int .i64 s, .int .i64 0] 27)).alloc (.cells #[.int .i64 0, .int .i64 0, .int .i64 0, .int .i64 0, .int .i64 0] 27)).alloc (.cells #[.int .i64 0, .int .i64 0, .int .i64 0, .int .i64 0, .int .i64 0] 24)).alloc (.cells #[.int .i64 f, .int .i64 r, .int .i64 0, .int .i64 s, .int .i64 0] 27)) = w1 at *
        obtain ⟨c0, c1, c2, c3, c4⟩ : w1.cell? ⟨w.heap.size, 0, none⟩ = some (.int .i64 f) ∧ w1.cell? ⟨w.heap.size, 1, none⟩ = some (.int .i64 r) ∧ w1.cell? ⟨w.heap.size, 2, none⟩ = some (.int .i64 0) ∧ w1.cell? ⟨w.heap.size, 3, none⟩ = some (.int .i64 s) ∧ w1.cell? ⟨w.heap.size, 4, none⟩ = some (.int .i64 0) := ⟨HE1.out.1.1.c0, HE1.out.1.1.c1, HE1.out.1.1.c2, HE1.out.1.1.c3, HE1.out.1.1.c4⟩
        obtain ⟨d0, d1, d2, d3, d4⟩ : w1.cell? ⟨w.heap.size + 1 + 1 + 1, 0, none⟩ = some (.int .i64 f) ∧ w1.cell? ⟨w.heap.size + 1 + 1 + 1, 1, none⟩ = some (.int .i64 r) ∧ w1.cell? ⟨w.heap.size + 1 + 1 + 1, 2, none⟩ = some (.int .i64 0) ∧ w1.cell? ⟨w.heap.size + 1 + 1 + 1, 3, none⟩ = some (.int .i64 s) ∧ w1.cell? ⟨w.heap.size + 1 + 1 + 1, 4, none⟩ = some (.int .i64 0) := ⟨HE1.out.2.c0, HE1.out.2.c1, HE1.out.2.c2, HE1.out.2.c3, HE1.out.2.c4⟩
        have hfr := HE1.out.2.fr
        refine (in_go ⟨#[105, 97]⟩ 0 false _ (by decide) (by decide)).mono ?_
        rintro e w2 ⟨rfl, hb⟩
        have HE2 : Hid (Ent w w2 (f, r, 0, s, 0) (f, r, 0, s, 0)) := HE1.out.below hb
        clear hb HE1 c0 c1 c2 c3 c4 d0 d1 d2 d3 d4 hfr
        obtain ⟨c0, c1, c2, c3, c4⟩ : w2.cell? ⟨w.heap.size, 0, none⟩ = some (.int .i64 f) ∧ w2.cell? ⟨w.heap.size, 1, none⟩ = some (.int .i64 r) ∧ w2.cell? ⟨w.heap.size, 2, none⟩ = some (.int .i64 0) ∧ w2.cell? ⟨w.heap.size, 3, none⟩ = some (.int .i64 s) ∧ w2.cell? ⟨w.heap.size, 4, none⟩ = some (.int .i64 0) := ⟨HE2.out.1.1.c0, HE2.out.1.1.c1, HE2.out.1.1.c2, HE2.out.1.1.c3, HE2.out.1.1.c4⟩
        obtain ⟨d0, d1, d2, d3, d4⟩ : w2.cell? ⟨w.heap.size + 1 + 1 + 1, 0, none⟩ = some (.int .i64 f) ∧ w2.cell? ⟨w.heap.size + 1 + 1 + 1, 1, none⟩ = some (.int .i64 r) ∧ w2.cell? ⟨w.heap.size + 1 + 1 + 1, 2, none⟩ = some (.int .i64 0) ∧ w2.cell? ⟨w.heap.size + 1 + 1 + 1, 3, none⟩ = some (.int .i64 s) ∧ w2.cell? ⟨w.heap.size + 1 + 1 + 1, 4, none⟩ = some (.int .i64 0) := ⟨HE2.out.2.c0, HE2.out.2.c1, HE2.out.2.c2, HE2.out.2.c3, HE2.out.2.c4⟩
        have hfr := HE2.out.2.fr
        go_wp2_with fail
        refine (in_go ⟨#[49, 50, 51, 52, 53, 54, 55, 56, 57]⟩ k false _ (by decide) Hdigs.out).mono ?_
        rintro e w3 ⟨rfl, hb⟩
        have HE3 : Hid (Ent w w3 (f, r, 0, s, 0) (f, r, 0, s, 0)) := HE2.out.below hb
        clear hb HE2 c0 c1 c2 c3 c4 d0 d1 d2 d3 d4 hfr
        obtain ⟨c0, c1, c2, c3, c4⟩ : w3.cell? ⟨w.heap.size, 0, none⟩ = some (.int .i64 f) ∧ w3.cell? ⟨w.heap.size, 1, none⟩ = some (.int .i64 r) ∧ w3.cell? ⟨w.heap.size, 2, none⟩ = some (.int .i64 0) ∧ w3.cell? ⟨w.heap.size, 3, none⟩ = some (.int .i64 s) ∧ w3.cell? ⟨w.heap.size, 4, none⟩ = some (.int .i64 0) := ⟨HE3.out.1.1.c0, HE3.out.1.1.c1, HE3.out.1.1.c2, HE3.out.1.1.c3, HE3.out.1.1.c4⟩
        obtain ⟨d0, d1, d2, d3, d4⟩ : w3.cell? ⟨w.heap.size + 1 + 1 + 1, 0, none⟩ = some (.int .i64 f) ∧ w3.cell? ⟨w.heap.size + 1 + 1 + 1, 1, none⟩ = some (.int .i64 r) ∧ w3.cell? ⟨w.heap.size + 1 + 1 + 1, 2, none⟩ = some (.int .i64 0) ∧ w3.cell? ⟨w.heap.size + 1 + 1 + 1, 3, none⟩ = some (.int .i64 s) ∧ w3.cell? ⟨w.heap.size + 1 + 1 + 1, 4, none⟩ = some (.int .i64 0) := ⟨HE3.out.2.c0, HE3.out.2.c1, HE3.out.2.c2, HE3.out.2.c3, HE3.out.2.c4⟩
        have hfr := HE3.out.2.fr
        go_wp2_with fail
        refine (in_go ⟨#[100, 99, 121]⟩ k false _ (by decide) Hops.out).mono ?_
        rintro e w4 ⟨rfl, hb⟩
        have HE4 : Hid (Ent w w4 (f, r, 0, s, 0) (f, r, 0, s, 0)) := HE3.out.below hb
        clear hb HE3 c0 c1 c2 c3 c4 d0 d1 d2 d3 d4 hfr
        obtain ⟨c0, c1, c2, c3, c4⟩ : w4.cell? ⟨w.heap.size, 0, none⟩ = some (.int .i64 f) ∧ w4.cell? ⟨w.heap.size, 1, none⟩ = some (.int .i64 r) ∧ w4.cell? ⟨w.heap.size, 2, none⟩ = some (.int .i64 0) ∧ w4.cell? ⟨w.heap.size, 3, none⟩ = some (.int .i64 s) ∧ w4.cell? ⟨w.heap.size, 4, none⟩ = some (.int .i64 0) := ⟨HE4.out.1.1.c0, HE4.out.1.1.c1, HE4.out.1.1.c2, HE4.out.1.1.c3, HE4.out.1.1.c4⟩
        obtain ⟨d0, d1, d2, d3, d4⟩ : w4.cell? ⟨w.heap.size + 1 + 1 + 1, 0, none⟩ = some (.int .i64 f) ∧ w4.cell? ⟨w.heap.size + 1 + 1 + 1, 1, none⟩ = some (.int .i64 r) ∧ w4.cell? ⟨w.heap.size + 1 + 1 + 1, 2, none⟩ = some (.int .i64 0) ∧ w4.cell? ⟨w.heap.size + 1 + 1 + 1, 3, none⟩ = some (.int .i64 s) ∧ w4.cell? ⟨w.heap.size + 1 + 1 + 1, 4, none⟩ = some (.int .i64 0) := ⟨HE4.out.2.c0, HE4.out.2.c1, HE4.out.2.c2, HE4.out.2.c3, HE4.out.2.c4⟩
        have hfr := HE4.out.2.fr
        go_wp2_with fail
        refine (in_go ⟨#[100, 99, 121]⟩ k false _ (by decide) Hops.out).mono ?_
        rintro e w5 ⟨rfl, hb⟩
        have HE5 : Hid (Ent w w5 (f, r, 0, s, 0) (f, r, 0, s, 0)) := HE4.out.below hb
        clear hb HE4 c0 c1 c2 c3 c4 d0 d1 d2 d3 d4 hfr
        obtain ⟨c0, c1, c2, c3, c4⟩ : w5.cell? ⟨w.heap.size, 0, none⟩ = some (.int .i64 f) ∧ w5.cell? ⟨w.heap.size, 1, none⟩ = some (.int .i64 r) ∧ w5.cell? ⟨w.heap.size, 2, none⟩ = some (.int .i64 0) ∧ w5.cell? ⟨w.heap.size, 3, none⟩ = some (.int .i64 s) ∧ w5.cell? ⟨w.heap.size, 4, none⟩ = some (.int .i64 0) := ⟨HE5.out.1.1.c0, HE5.out.1.1.c1, HE5.out.1.1.c2, HE5.out.1.1.c3, HE5.out.1.1.c4⟩
        obtain ⟨d0, d1, d2, d3, d4⟩ : w5.cell? ⟨w.heap.size + 1 + 1 + 1, 0, none⟩ = some (.int .i64 f) ∧ w5.cell? ⟨w.heap.size + 1 + 1 + 1, 1, none⟩ = some (.int .i64 r) ∧ w5.cell? ⟨w.heap.size + 1 + 1 + 1, 2, none⟩ = some (.int .i64 0) ∧ w5.cell? ⟨w.heap.size + 1 + 1 + 1, 3, none⟩ = some (.int .i64 s) ∧ w5.cell? ⟨w.heap.size + 1 + 1 + 1, 4, none⟩ = some (.int .i64 0) := ⟨HE5.out.2.c0, HE5.out.2.c1, HE5.out.2.c2, HE5.out.2.c3, HE5.out.2.c4⟩
        have hfr := HE5.out.2.fr
        go_wp2_with fail
        refine (in_go ⟨#[104, 108, 48, 94, 36, 124, 119, 87, 98, 66, 101, 69, 37, 59, 44]⟩ k false _ (by decide) Hmots.out).mono ?_
        rintro e w6 ⟨rfl, hb⟩
        have HE6 : Hid (Ent w w6 (f, r, 0, s, 0) (f, r, 0, s, 0)) := HE5.out.below hb
        clear hb HE5 c0 c1 c2 c3 c4 d0 d1 d2 d3 d4 hfr
        obtain ⟨c0, c1, c2, c3, c4⟩ : w6.cell? ⟨w.heap.size, 0, none⟩ = some (.int .i64 f) ∧ w6.cell? ⟨w.heap.size, 1, none⟩ = some (.int .i64 r) ∧ w6.cell? ⟨w.heap.size, 2, none⟩ = some (.int .i64 0) ∧ w6.cell? ⟨w.heap.size, 3, none⟩ = some (.int .i64 s) ∧ w6.cell? ⟨w.heap.size, 4, none⟩ = some (.int .i64 0) := ⟨HE6.out.1.1.c0, HE6.out.1.1.c1, HE6.out.1.1.c2, HE6.out.1.1.c3, HE6.out.1.1.c4⟩
        obtain ⟨d0, d1, d2, d3, d4⟩ : w6.cell? ⟨w.heap.size + 1 + 1 + 1, 0, none⟩ = some (.int .i64 f) ∧ w6.cell? ⟨w.heap.size + 1 + 1 + 1, 1, none⟩ = some (.int .i64 r) ∧ w6.cell? ⟨w.heap.size + 1 + 1 + 1, 2, none⟩ = some (.int .i64 0) ∧ w6.cell? ⟨w.heap.size + 1 + 1 + 1, 3, none⟩ = some (.int .i64 s) ∧ w6.cell? ⟨w.heap.size + 1 + 1 + 1, 4, none⟩ = some (.int .i64 0) := ⟨HE6.out.2.c0, HE6.out.2.c1, HE6.out.2.c2, HE6.out.2.c3, HE6.out.2.c4⟩
        have hfr := HE6.out.2.fr
        go_wp2_with fail
        refine (in_go ⟨#[102, 70, 116, 84]⟩ k true _ (by decide) Hfnds.out).mono ?_
        rintro e w7 ⟨rfl, hb⟩
        have HE7 : Hid (Ent w w7 (f, r, 0, s, 0) (f, r, 0, s, 0)) := HE6.out.below hb
        clear hb HE6 c0 c1 c2 c3 c4 d0 d1 d2 d3 d4 hfr
        obtain ⟨c0, c1, c2, c3, c4⟩ : w7.cell? ⟨w.heap.size, 0, none⟩ = some (.int .i64 f) ∧ w7.cell? ⟨w.heap.size, 1, none⟩ = some (.int .i64 r) ∧ w7.cell? ⟨w.heap.size, 2, none⟩ = some (.int .i64 0) ∧ w7.cell? ⟨w.heap.size, 3, none⟩ = some (.int .i64 s) ∧ w7.cell? ⟨w.heap.size, 4, none⟩ = some (.int .i64 0) := ⟨HE7.out.1.1.c0, HE7.out.1.1.c1, HE7.out.1.1.c2, HE7.out.1.1.c3, HE7.out.1.1.c4⟩
        obtain ⟨d0, d1, d2, d3, d4⟩ : w7.cell? ⟨w.heap.size + 1 + 1 + 1, 0, none⟩ = some (.int .i64 f) ∧ w7.cell? ⟨w.heap.size + 1 + 1 + 1, 1, none⟩ = some (.int .i64 r) ∧ w7.cell? ⟨w.heap.size + 1 + 1 + 1, 2, none⟩ = some (.int .i64 0) ∧ w7.cell? ⟨w.heap.size + 1 + 1 + 1, 3, none⟩ = some (.int .i64 s) ∧ w7.cell? ⟨w.heap.size + 1 + 1 + 1, 4, none⟩ = some (.int .i64 0) := ⟨HE7.out.2.c0, HE7.out.2.c1, HE7.out.2.c2, HE7.out.2.c3, HE7.out.2.c4⟩
        have hfr := HE7.out.2.fr
        go_wp2_with fail
        refine (refMore_go f r 0 s k _).mono ?_
        rintro e w8 ⟨rfl, hb⟩
        have HF : Hid (Enter w w8 (f, r, 0, s, 0) w.heap.size (w.heap.size + 1) (w.heap.size + 1 + 1)) := Enter.below (Enter.far HE7.out.1 _ _ (by show w.heap.size + 1 + 1 < w.heap.size + 1 + 1 + 1; omega) (by omega)) hb
        clear hb HE7 c0 c1 c2 c3 c4 d0 d1 d2 d3 d4 hfr
        go_wp2_with (first | (refine storeF rfl 27 _ _ rfl (.inl rfl) _ rfl (mor (f, r, 0, s, k)).1 zer rfl HF.out.2.1 ?_) | (refine storeF rfl 24 _ _ rfl (.inr rfl) _ rfl (mor (f, r, 0, s, k)).2.1 zer rfl (HF.out.2.2.1.other _ (by omega)) ?_))
        exact HF.out.end 4 5 6 Tryd.results15 rfl rfl rfl rfl
      case false =>
        have Hfnds : Hid (has (codes ⟨#[102, 70, 116, 84]⟩) k = false) := hfnds
        cases hsids : has sids k
        case true =>
          have Hsids : Hid (has (codes ⟨#[105, 97]⟩) k = true) := hsids
          have hk := (has_sids k).1 hsids
          have hlons : has lons k = true := by rw [has_lone]; omega
          have n1 : ¬ k = 114 := by omega
          have n2 : ¬ k = 34 := by omega
          have g2 : (k == 114) = false := by simpa using n1
          have g3 : (k == 34) = false := by simpa using n2
          have Hlons : Hid (has (codes ⟨#[105, 97, 73, 65, 115, 83, 67, 68, 120, 88, 112, 80, 89, 126, 117, 85, 46, 106, 107, 71, 47, 63, 110, 78, 82]⟩) k = true) := hlons
          obtain rfl : R = don f r 0 s k 0 := HR.out.trans (by simp [hops, hmots, hfnds, hsids, hlons, n1, n2])
          clear HR
          clear hops hmots hfnds hsids hlons n1 n2 hk
          by_cases hr : r = 0
          · subst hr
            go_enter Tryd.func15, Tryd.ntmps15
            go_wp2_with fail
            have HE1 : Hid (Ent w ((((w.alloc (.cells #[.int .i64 f, .int .i64 0, .int .i64 0, .int .i64 s, .int .i64 0] 27)).alloc (.cells #[.int .i64 0, .int .i64 0, .int .i64 0, .int .i64 0, .int .i64 0] 27)).alloc (.cells #[.int .i64 0, .int .i64 0, .int .i64 0, .int .i64 0, .int .i64 0] 24)).alloc (.cells #[.int .i64 f, .int .i64 0, .int .i64 0, .int .i64 s, .int .i64 0] 27)) (f, 0, 0, s, 0) (f, 0, 0, s, 0)) := ent_is w (f, 0, 0, s, 0)
            generalize ((((w.alloc (.cells #[.int .i64 f, .int .i64 0, .int .i64 0, .int .i64 s, .int .i64 0] 27)).alloc (.cells #[.int .i64 0, .int .i64 0, .int .i64 0, .int .i64 0, .int .i64 0] 27)).alloc (.cells #[.int .i64 0, .int .i64 0, .int .i64 0, .int .i64 0, .int .i64 0] 24)).alloc (.cells #[.int .i64 f, .int .i64 0, .int .i64 0, .int .i64 s, .int .i64 0] 27)) = w1 at *
            obtain ⟨c0, c1, c2, c3, c4⟩ : w1.cell? ⟨w.heap.size, 0, none⟩ = some (.int .i64 f) ∧ w1.cell? ⟨w.heap.size, 1, none⟩ = some (.int .i64 0) ∧ w1.cell? ⟨w.heap.size, 2, none⟩ = some (.int .i64 0) ∧ w1.cell? ⟨w.heap.size, 3, none⟩ = some (.int .i64 s) ∧ w1.cell? ⟨w.heap.size, 4, none⟩ = some (.int .i64 0) := ⟨HE1.out.1.1.c0, HE1.out.1.1.c1, HE1.out.1.1.c2, HE1.out.1.1.c3, HE1.out.1.1.c4⟩
            obtain ⟨d0, d1, d2, d3, d4⟩ : w1.cell? ⟨w.heap.size + 1 + 1 + 1, 0, none⟩ = some (.int .i64 f) ∧ w1.cell? ⟨w.heap.size + 1 + 1 + 1, 1, none⟩ = some (.int .i64 0) ∧ w1.cell? ⟨w.heap.size + 1 + 1 + 1, 2, none⟩ = some (.int .i64 0) ∧ w1.cell? ⟨w.heap.size + 1 + 1 + 1, 3, none⟩ = some (.int .i64 s) ∧ w1.cell? ⟨w.heap.size + 1 + 1 + 1, 4, none⟩ = some (.int .i64 0) := ⟨HE1.out.2.c0, HE1.out.2.c1, HE1.out.2.c2, HE1.out.2.c3, HE1.out.2.c4⟩
            have hfr := HE1.out.2.fr
            refine (in_go ⟨#[105, 97]⟩ 0 false _ (by decide) (by decide)).mono ?_
            rintro e w2 ⟨rfl, hb⟩
            have HE2 : Hid (Ent w w2 (f, 0, 0, s, 0) (f, 0, 0, s, 0)) := HE1.out.below hb
            clear hb HE1 c0 c1 c2 c3 c4 d0 d1 d2 d3 d4 hfr
            obtain ⟨c0, c1, c2, c3, c4⟩ : w2.cell? ⟨w.heap.size, 0, none⟩ = some (.int .i64 f) ∧ w2.cell? ⟨w.heap.size, 1, none⟩ = some (.int .i64 0) ∧ w2.cell? ⟨w.heap.size, 2, none⟩ = some (.int .i64 0) ∧ w2.cell? ⟨w.heap.size, 3, none⟩ = some (.int .i64 s) ∧ w2.cell? ⟨w.heap.size, 4, none⟩ = some (.int .i64 0) := ⟨HE2.out.1.1.c0, HE2.out.1.1.c1, HE2.out.1.1.c2, HE2.out.1.1.c3, HE2.out.1.1.c4⟩
            obtain ⟨d0, d1, d2, d3, d4⟩ : w2.cell? ⟨w.heap.size + 1 + 1 + 1, 0, none⟩ = some (.int .i64 f) ∧ w2.cell? ⟨w.heap.size + 1 + 1 + 1, 1, none⟩ = some (.int .i64 0) ∧ w2.cell? ⟨w.heap.size + 1 + 1 + 1, 2, none⟩ = some (.int .i64 0) ∧ w2.cell? ⟨w.heap.size + 1 + 1 + 1, 3, none⟩ = some (.int .i64 s) ∧ w2.cell? ⟨w.heap.size + 1 + 1 + 1, 4, none⟩ = some (.int .i64 0) := ⟨HE2.out.2.c0, HE2.out.2.c1, HE2.out.2.c2, HE2.out.2.c3, HE2.out.2.c4⟩
            have hfr := HE2.out.2.fr
            go_wp2_with fail
            refine (in_go ⟨#[49, 50, 51, 52, 53, 54, 55, 56, 57]⟩ k false _ (by decide) Hdigs.out).mono ?_
            rintro e w3 ⟨rfl, hb⟩
            have HE3 : Hid (Ent w w3 (f, 0, 0, s, 0) (f, 0, 0, s, 0)) := HE2.out.below hb
            clear hb HE2 c0 c1 c2 c3 c4 d0 d1 d2 d3 d4 hfr
            obtain ⟨c0, c1, c2, c3, c4⟩ : w3.cell? ⟨w.heap.size, 0, none⟩ = some (.int .i64 f) ∧ w3.cell? ⟨w.heap.size, 1, none⟩ = some (.int .i64 0) ∧ w3.cell? ⟨w.heap.size, 2, none⟩ = some (.int .i64 0) ∧ w3.cell? ⟨w.heap.size, 3, none⟩ = some (.int .i64 s) ∧ w3.cell? ⟨w.heap.size, 4, none⟩ = some (.int .i64 0) := ⟨HE3.out.1.1.c0, HE3.out.1.1.c1, HE3.out.1.1.c2, HE3.out.1.1.c3, HE3.out.1.1.c4⟩
            obtain ⟨d0, d1, d2, d3, d4⟩ : w3.cell? ⟨w.heap.size + 1 + 1 + 1, 0, none⟩ = some (.int .i64 f) ∧ w3.cell? ⟨w.heap.size + 1 + 1 + 1, 1, none⟩ = some (.int .i64 0) ∧ w3.cell? ⟨w.heap.size + 1 + 1 + 1, 2, none⟩ = some (.int .i64 0) ∧ w3.cell? ⟨w.heap.size + 1 + 1 + 1, 3, none⟩ = some (.int .i64 s) ∧ w3.cell? ⟨w.heap.size + 1 + 1 + 1, 4, none⟩ = some (.int .i64 0) := ⟨HE3.out.2.c0, HE3.out.2.c1, HE3.out.2.c2, HE3.out.2.c3, HE3.out.2.c4⟩
            have hfr := HE3.out.2.fr
            go_wp2_with fail
            refine (in_go ⟨#[100, 99, 121]⟩ k false _ (by decide) Hops.out).mono ?_
            rintro e w4 ⟨rfl, hb⟩
            have HE4 : Hid (Ent w w4 (f, 0, 0, s, 0) (f, 0, 0, s, 0)) := HE3.out.below hb
            clear hb HE3 c0 c1 c2 c3 c4 d0 d1 d2 d3 d4 hfr
            obtain ⟨c0, c1, c2, c3, c4⟩ : w4.cell? ⟨w.heap.size, 0, none⟩ = some (.int .i64 f) ∧ w4.cell? ⟨w.heap.size, 1, none⟩ = some (.int .i64 0) ∧ w4.cell? ⟨w.heap.size, 2, none⟩ = some (.int .i64 0) ∧ w4.cell? ⟨w.heap.size, 3, none⟩ = some (.int .i64 s) ∧ w4.cell? ⟨w.heap.size, 4, none⟩ = some (.int .i64 0) := ⟨HE4.out.1.1.c0, HE4.out.1.1.c1, HE4.out.1.1.c2, HE4.out.1.1.c3, HE4.out.1.1.c4⟩
            obtain ⟨d0, d1, d2, d3, d4⟩ : w4.cell? ⟨w.heap.size + 1 + 1 + 1, 0, none⟩ = some (.int .i64 f) ∧ w4.cell? ⟨w.heap.size + 1 + 1 + 1, 1, none⟩ = some (.int .i64 0) ∧ w4.cell? ⟨w.heap.size + 1 + 1 + 1, 2, none⟩ = some (.int .i64 0) ∧ w4.cell? ⟨w.heap.size + 1 + 1 + 1, 3, none⟩ = some (.int .i64 s) ∧ w4.cell? ⟨w.heap.size + 1 + 1 + 1, 4, none⟩ = some (.int .i64 0) := ⟨HE4.out.2.c0, HE4.out.2.c1, HE4.out.2.c2, HE4.out.2.c3, HE4.out.2.c4⟩
            have hfr := HE4.out.2.fr
            go_wp2_with fail
            refine (in_go ⟨#[100, 99, 121]⟩ k false _ (by decide) Hops.out).mono ?_
            rintro e w5 ⟨rfl, hb⟩
            have HE5 : Hid (Ent w w5 (f, 0, 0, s, 0) (f, 0, 0, s, 0)) := HE4.out.below hb
            clear hb HE4 c0 c1 c2 c3 c4 d0 d1 d2 d3 d4 hfr
            obtain ⟨c0, c1, c2, c3, c4⟩ : w5.cell? ⟨w.heap.size, 0, none⟩ = some (.int .i64 f) ∧ w5.cell? ⟨w.heap.size, 1, none⟩ = some (.int .i64 0) ∧ w5.cell? ⟨w.heap.size, 2, none⟩ = some (.int .i64 0) ∧ w5.cell? ⟨w.heap.size, 3, none⟩ = some (.int .i64 s) ∧ w5.cell? ⟨w.heap.size, 4, none⟩ = some (.int .i64 0) := ⟨HE5.out.1.1.c0, HE5.out.1.1.c1, HE5.out.1.1.c2, HE5.out.1.1.c3, HE5.out.1.1.c4⟩
            obtain ⟨d0, d1, d2, d3, d4⟩ : w5.cell? ⟨w.heap.size + 1 + 1 + 1, 0, none⟩ = some (.int .i64 f) ∧ w5.cell? ⟨w.heap.size + 1 + 1 + 1, 1, none⟩ = some (.int .i64 0) ∧ w5.cell? ⟨w.heap.size + 1 + 1 + 1, 2, none⟩ = some (.int .i64 0) ∧ w5.cell? ⟨w.heap.size + 1 + 1 + 1, 3, none⟩ = some (.int .i64 s) ∧ w5.cell? ⟨w.heap.size + 1 + 1 + 1, 4, none⟩ = some (.int .i64 0) := ⟨HE5.out.2.c0, HE5.out.2.c1, HE5.out.2.c2, HE5.out.2.c3, HE5.out.2.c4⟩
            have hfr := HE5.out.2.fr
            go_wp2_with fail
            refine (in_go ⟨#[104, 108, 48, 94, 36, 124, 119, 87, 98, 66, 101, 69, 37, 59, 44]⟩ k false _ (by decide) Hmots.out).mono ?_
            rintro e w6 ⟨rfl, hb⟩
            have HE6 : Hid (Ent w w6 (f, 0, 0, s, 0) (f, 0, 0, s, 0)) := HE5.out.below hb
            clear hb HE5 c0 c1 c2 c3 c4 d0 d1 d2 d3 d4 hfr
            obtain ⟨c0, c1, c2, c3, c4⟩ : w6.cell? ⟨w.heap.size, 0, none⟩ = some (.int .i64 f) ∧ w6.cell? ⟨w.heap.size, 1, none⟩ = some (.int .i64 0) ∧ w6.cell? ⟨w.heap.size, 2, none⟩ = some (.int .i64 0) ∧ w6.cell? ⟨w.heap.size, 3, none⟩ = some (.int .i64 s) ∧ w6.cell? ⟨w.heap.size, 4, none⟩ = some (.int .i64 0) := ⟨HE6.out.1.1.c0, HE6.out.1.1.c1, HE6.out.1.1.c2, HE6.out.1.1.c3, HE6.out.1.1.c4⟩
            obtain ⟨d0, d1, d2, d3, d4⟩ : w6.cell? ⟨w.heap.size + 1 + 1 + 1, 0, none⟩ = some (.int .i64 f) ∧ w6.cell? ⟨w.heap.size + 1 + 1 + 1, 1, none⟩ = some (.int .i64 0) ∧ w6.cell? ⟨w.heap.size + 1 + 1 + 1, 2, none⟩ = some (.int .i64 0) ∧ w6.cell? ⟨w.heap.size + 1 + 1 + 1, 3, none⟩ = some (.int .i64 s) ∧ w6.cell? ⟨w.heap.size + 1 + 1 + 1, 4, none⟩ = some (.int .i64 0) := ⟨HE6.out.2.c0, HE6.out.2.c1, HE6.out.2.c2, HE6.out.2.c3, HE6.out.2.c4⟩
            have hfr := HE6.out.2.fr
            go_wp2_with fail
            refine (in_go ⟨#[102, 70, 116, 84]⟩ k false _ (by decide) Hfnds.out).mono ?_
            rintro e w7 ⟨rfl, hb⟩
            have HE7 : Hid (Ent w w7 (f, 0, 0, s, 0) (f, 0, 0, s, 0)) := HE6.out.below hb
            clear hb HE6 c0 c1 c2 c3 c4 d0 d1 d2 d3 d4 hfr
            obtain ⟨c0, c1, c2, c3, c4⟩ : w7.cell? ⟨w.heap.size, 0, none⟩ = some (.int .i64 f) ∧ w7.cell? ⟨w.heap.size, 1, none⟩ = some (.int .i64 0) ∧ w7.cell? ⟨w.heap.size, 2, none⟩ = some (.int .i64 0) ∧ w7.cell? ⟨w.heap.size, 3, none⟩ = some (.int .i64 s) ∧ w7.cell? ⟨w.heap.size, 4, none⟩ = some (.int .i64 0) := ⟨HE7.out.1.1.c0, HE7.out.1.1.c1, HE7.out.1.1.c2, HE7.out.1.1.c3, HE7.out.1.1.c4⟩
            obtain ⟨d0, d1, d2, d3, d4⟩ : w7.cell? ⟨w.heap.size + 1 + 1 + 1, 0, none⟩ = some (.int .i64 f) ∧ w7.cell? ⟨w.heap.size + 1 + 1 + 1, 1, none⟩ = some (.int .i64 0) ∧ w7.cell? ⟨w.heap.size + 1 + 1 + 1, 2, none⟩ = some (.int .i64 0) ∧ w7.cell? ⟨w.heap.size + 1 + 1 + 1, 3, none⟩ = some (.int .i64 s) ∧ w7.cell? ⟨w.heap.size + 1 + 1 + 1, 4, none⟩ = some (.int .i64 0) := ⟨HE7.out.2.c0, HE7.out.2.c1, HE7.out.2.c2, HE7.out.2.c3, HE7.out.2.c4⟩
            have hfr := HE7.out.2.fr
            go_wp2_with fail
            refine (in_go ⟨#[105, 97]⟩ k true _ (by decide) Hsids.out).mono ?_
            rintro e w8 ⟨rfl, hb⟩
            have HE8 : Hid (Ent w w8 (f, 0, 0, s, 0) (f, 0, 0, s, 0)) := HE7.out.below hb
            clear hb HE7 c0 c1 c2 c3 c4 d0 d1 d2 d3 d4 hfr
            obtain ⟨c0, c1, c2, c3, c4⟩ : w8.cell? ⟨w.heap.size, 0, none⟩ = some (.int .i64 f) ∧ w8.cell? ⟨w.heap.size, 1, none⟩ = some (.int .i64 0) ∧ w8.cell? ⟨w.heap.size, 2, none⟩ = some (.int .i64 0) ∧ w8.cell? ⟨w.heap.size, 3, none⟩ = some (.int .i64 s) ∧ w8.cell? ⟨w.heap.size, 4, none⟩ = some (.int .i64 0) := ⟨HE8.out.1.1.c0, HE8.out.1.1.c1, HE8.out.1.1.c2, HE8.out.1.1.c3, HE8.out.1.1.c4⟩
            obtain ⟨d0, d1, d2, d3, d4⟩ : w8.cell? ⟨w.heap.size + 1 + 1 + 1, 0, none⟩ = some (.int .i64 f) ∧ w8.cell? ⟨w.heap.size + 1 + 1 + 1, 1, none⟩ = some (.int .i64 0) ∧ w8.cell? ⟨w.heap.size + 1 + 1 + 1, 2, none⟩ = some (.int .i64 0) ∧ w8.cell? ⟨w.heap.size + 1 + 1 + 1, 3, none⟩ = some (.int .i64 s) ∧ w8.cell? ⟨w.heap.size + 1 + 1 + 1, 4, none⟩ = some (.int .i64 0) := ⟨HE8.out.2.c0, HE8.out.2.c1, HE8.out.2.c2, HE8.out.2.c3, HE8.out.2.c4⟩
            have hfr := HE8.out.2.fr
            go_wp2_with fail
            refine (in_go ⟨#[105, 97, 73, 65, 115, 83, 67, 68, 120, 88, 112, 80, 89, 126, 117, 85, 46, 106, 107, 71, 47, 63, 110, 78, 82]⟩ k true _ (by decide) Hlons.out).mono ?_
            rintro e w9 ⟨rfl, hb⟩
            have HE9 : Hid (Ent w w9 (f, 0, 0, s, 0) (f, 0, 0, s, 0)) := HE8.out.below hb
            clear hb HE8 c0 c1 c2 c3 c4 d0 d1 d2 d3 d4 hfr
            obtain ⟨c0, c1, c2, c3, c4⟩ : w9.cell? ⟨w.heap.size, 0, none⟩ = some (.int .i64 f) ∧ w9.cell? ⟨w.heap.size, 1, none⟩ = some (.int .i64 0) ∧ w9.cell? ⟨w.heap.size, 2, none⟩ = some (.int .i64 0) ∧ w9.cell? ⟨w.heap.size, 3, none⟩ = some (.int .i64 s) ∧ w9.cell? ⟨w.heap.size, 4, none⟩ = some (.int .i64 0) := ⟨HE9.out.1.1.c0, HE9.out.1.1.c1, HE9.out.1.1.c2, HE9.out.1.1.c3, HE9.out.1.1.c4⟩
            obtain ⟨d0, d1, d2, d3, d4⟩ : w9.cell? ⟨w.heap.size + 1 + 1 + 1, 0, none⟩ = some (.int .i64 f) ∧ w9.cell? ⟨w.heap.size + 1 + 1 + 1, 1, none⟩ = some (.int .i64 0) ∧ w9.cell? ⟨w.heap.size + 1 + 1 + 1, 2, none⟩ = some (.int .i64 0) ∧ w9.cell? ⟨w.heap.size + 1 + 1 + 1, 3, none⟩ = some (.int .i64 s) ∧ w9.cell? ⟨w.heap.size + 1 + 1 + 1, 4, none⟩ = some (.int .i64 0) := ⟨HE9.out.2.c0, HE9.out.2.c1, HE9.out.2.c2, HE9.out.2.c3, HE9.out.2.c4⟩
            have hfr := HE9.out.2.fr
            go_wp2_with fail
            refine (refDone_go f 0 0 s 0 k 0 w.heap.size _ HC.out.1 HC.out.2 HE9.out.1.1).mono ?_
            rintro e w10 ⟨rfl, hb⟩
            have HF : Hid (Enter w w10 (f, 0, 0, s, 0) w.heap.size (w.heap.size + 1) (w.heap.size + 1 + 1)) := Enter.below HE9.out.1 hb
            clear hb HE9 c0 c1 c2 c3 c4 d0 d1 d2 d3 d4 hfr
            go_wp2_with (first | (refine storeF rfl 27 _ _ rfl (.inl rfl) _ rfl (don f 0 0 s k 0).1 zer rfl HF.out.2.1 ?_) | (refine storeF rfl 24 _ _ rfl (.inr rfl) _ rfl (don f 0 0 s k 0).2.1 zer rfl (HF.out.2.2.1.other _ (by omega)) ?_))
            exact HF.out.end 4 5 6 Tryd.results15 rfl rfl rfl rfl
          · have g4 : (r == 0) = false := by simpa using hr
            clear hr
            go_enter Tryd.func15, Tryd.ntmps15
            go_wp2_with fail
            have HE1 : Hid (Ent w ((((w.alloc (.cells #[.int .i64 f, .int .i64 r, .int .i64 0, .int .i64 s, .int .i64 0] 27)).alloc (.cells #[.int .i64 0, .int .i64 0, .int .i64 0, .int .i64 0, .int .i64 0] 27)).alloc (.cells #[.int .i64 0, .int .i64 0, .int .i64 0, .int .i64 0, .int .i64 0] 24)).alloc (.cells #[.int .i64 f, .int .i64 r, .int .i64 0, .int .i64 s, .int .i64 0] 27)) (f, r, 0, s, 0) (f, r, 0, s, 0)) := ent_is w (f, r, 0, s, 0)
            generalize ((((w.alloc (.cells #[.int .i64 f, .int .i64 r, .int .i64 0, .int .i64 s, .int .i64 0] 27)).alloc (.cells #[.int .i64 0, .int .i64 0, .int .i64 0, .int .i64 0, .int .i64 0] 27)).alloc (.cells #[.int .i64 0, .int .i64 0, .int .i64 0, .int .i64 0, .int .i64 0] 24)).alloc (.cells #[.int .i64 f, .int .i64 r, .int .i64 0, .int .i64 s, .int .i64 0] 27)) = w1 at *
            obtain ⟨c0, c1, c2, c3, c4⟩ : w1.cell? ⟨w.heap.size, 0, none⟩ = some (.int .i64 f) ∧ w1.cell? ⟨w.heap.size, 1, none⟩ = some (.int .i64 r) ∧ w1.cell? ⟨w.heap.size, 2, none⟩ = some (.int .i64 0) ∧ w1.cell? ⟨w.heap.size, 3, none⟩ = some (.int .i64 s) ∧ w1.cell? ⟨w.heap.size, 4, none⟩ = some (.int .i64 0) := ⟨HE1.out.1.1.c0, HE1.out.1.1.c1, HE1.out.1.1.c2, HE1.out.1.1.c3, HE1.out.1.1.c4⟩
            obtain ⟨d0, d1, d2, d3, d4⟩ : w1.cell? ⟨w.heap.size + 1 + 1 + 1, 0, none⟩ = some (.int .i64 f) ∧ w1.cell? ⟨w.heap.size + 1 + 1 + 1, 1, none⟩ = some (.int .i64 r) ∧ w1.cell? ⟨w.heap.size + 1 + 1 + 1, 2, none⟩ = some (.int .i64 0) ∧ w1.cell? ⟨w.heap.size + 1 + 1 + 1, 3, none⟩ = some (.int .i64 s) ∧ w1.cell? ⟨w.heap.size + 1 + 1 + 1, 4, none⟩ = some (.int .i64 0) := ⟨HE1.out.2.c0, HE1.out.2.c1, HE1.out.2.c2, HE1.out.2.c3, HE1.out.2.c4⟩
            have hfr := HE1.out.2.fr
            refine (in_go ⟨#[105, 97]⟩ 0 false _ (by decide) (by decide)).mono ?_
            rintro e w2 ⟨rfl, hb⟩
            have HE2 : Hid (Ent w w2 (f, r, 0, s, 0) (f, r, 0, s, 0)) := HE1.out.below hb
            clear hb HE1 c0 c1 c2 c3 c4 d0 d1 d2 d3 d4 hfr
            obtain ⟨c0, c1, c2, c3, c4⟩ : w2.cell? ⟨w.heap.size, 0, none⟩ = some (.int .i64 f) ∧ w2.cell? ⟨w.heap.size, 1, none⟩ = some (.int .i64 r) ∧ w2.cell? ⟨w.heap.size, 2, none⟩ = some (.int .i64 0) ∧ w2.cell? ⟨w.heap.size, 3, none⟩ = some (.int .i64 s) ∧ w2.cell? ⟨w.heap.size, 4, none⟩ = some (.int .i64 0) := ⟨HE2.out.1.1.c0, HE2.out.1.1.c1, HE2.out.1.1.c2, HE2.out.1.1.c3, HE2.out.1.1.c4⟩
            obtain ⟨d0, d1, d2, d3, d4⟩ : w2.cell? ⟨w.heap.size + 1 + 1 + 1, 0, none⟩ = some (.int .i64 f) ∧ w2.cell? ⟨w.heap.size + 1 + 1 + 1, 1, none⟩ = some (.int .i64 r) ∧ w2.cell? ⟨w.heap.size + 1 + 1 + 1, 2, none⟩ = some (.int .i64 0) ∧ w2.cell? ⟨w.heap.size + 1 + 1 + 1, 3, none⟩ = some (.int .i64 s) ∧ w2.cell? ⟨w.heap.size + 1 + 1 + 1, 4, none⟩ = some (.int .i64 0) := ⟨HE2.out.2.c0, HE2.out.2.c1, HE2.out.2.c2, HE2.out.2.c3, HE2.out.2.c4⟩
            have hfr := HE2.out.2.fr
            go_wp2_with fail
            refine (in_go ⟨#[49, 50, 51, 52, 53, 54, 55, 56, 57]⟩ k false _ (by decide) Hdigs.out).mono ?_
            rintro e w3 ⟨rfl, hb⟩
            have HE3 : Hid (Ent w w3 (f, r, 0, s, 0) (f, r, 0, s, 0)) := HE2.out.below hb
            clear hb HE2 c0 c1 c2 c3 c4 d0 d1 d2 d3 d4 hfr
            obtain ⟨c0, c1, c2, c3, c4⟩ : w3.cell? ⟨w.heap.size, 0, none⟩ = some (.int .i64 f) ∧ w3.cell? ⟨w.heap.size, 1, none⟩ = some (.int .i64 r) ∧ w3.cell? ⟨w.heap.size, 2, none⟩ = some (.int .i64 0) ∧ w3.cell? ⟨w.heap.size, 3, none⟩ = some (.int .i64 s) ∧ w3.cell? ⟨w.heap.size, 4, none⟩ = some (.int .i64 0) := ⟨HE3.out.1.1.c0, HE3.out.1.1.c1, HE3.out.1.1.c2, HE3.out.1.1.c3, HE3.out.1.1.c4⟩
            obtain ⟨d0, d1, d2, d3, d4⟩ : w3.cell? ⟨w.heap.size + 1 + 1 + 1, 0, none⟩ = some (.int .i64 f) ∧ w3.cell? ⟨w.heap.size + 1 + 1 + 1, 1, none⟩ = some (.int .i64 r) ∧ w3.cell? ⟨w.heap.size + 1 + 1 + 1, 2, none⟩ = some (.int .i64 0) ∧ w3.cell? ⟨w.heap.size + 1 + 1 + 1, 3, none⟩ = some (.int .i64 s) ∧ w3.cell? ⟨w.heap.size + 1 + 1 + 1, 4, none⟩ = some (.int .i64 0) := ⟨HE3.out.2.c0, HE3.out.2.c1, HE3.out.2.c2, HE3.out.2.c3, HE3.out.2.c4⟩
            have hfr := HE3.out.2.fr
            go_wp2_with fail
            refine (in_go ⟨#[100, 99, 121]⟩ k false _ (by decide) Hops.out).mono ?_
            rintro e w4 ⟨rfl, hb⟩
            have HE4 : Hid (Ent w w4 (f, r, 0, s, 0) (f, r, 0, s, 0)) := HE3.out.below hb
            clear hb HE3 c0 c1 c2 c3 c4 d0 d1 d2 d3 d4 hfr
            obtain ⟨c0, c1, c2, c3, c4⟩ : w4.cell? ⟨w.heap.size, 0, none⟩ = some (.int .i64 f) ∧ w4.cell? ⟨w.heap.size, 1, none⟩ = some (.int .i64 r) ∧ w4.cell? ⟨w.heap.size, 2, none⟩ = some (.int .i64 0) ∧ w4.cell? ⟨w.heap.size, 3, none⟩ = some (.int .i64 s) ∧ w4.cell? ⟨w.heap.size, 4, none⟩ = some (.int .i64 0) := ⟨HE4.out.1.1.c0, HE4.out.1.1.c1, HE4.out.1.1.c2, HE4.out.1.1.c3, HE4.out.1.1.c4⟩
            obtain ⟨d0, d1, d2, d3, d4⟩ : w4.cell? ⟨w.heap.size + 1 + 1 + 1, 0, none⟩ = some (.int .i64 f) ∧ w4.cell? ⟨w.heap.size + 1 + 1 + 1, 1, none⟩ = some (.int .i64 r) ∧ w4.cell? ⟨w.heap.size + 1 + 1 + 1, 2, none⟩ = some (.int .i64 0) ∧ w4.cell? ⟨w.heap.size + 1 + 1 + 1, 3, none⟩ = some (.int .i64 s) ∧ w4.cell? ⟨w.heap.size + 1 + 1 + 1, 4, none⟩ = some (.int .i64 0) := ⟨HE4.out.2.c0, HE4.out.2.c1, HE4.out.2.c2, HE4.out.2.c3, HE4.out.2.c4⟩
            have hfr := HE4.out.2.fr
            go_wp2_with fail
            refine (in_go ⟨#[100, 99, 121]⟩ k false _ (by decide) Hops.out).mono ?_
            rintro e w5 ⟨rfl, hb⟩
            have HE5 : Hid (Ent w w5 (f, r, 0, s, 0) (f, r, 0, s, 0)) := HE4.out.below hb
            clear hb HE4 c0 c1 c2 c3 c4 d0 d1 d2 d3 d4 hfr
            obtain ⟨c0, c1, c2, c3, c4⟩ : w5.cell? ⟨w.heap.size, 0, none⟩ = some (.int .i64 f) ∧ w5.cell? ⟨w.heap.size, 1, none⟩ = some (.int .i64 r) ∧ w5.cell? ⟨w.heap.size, 2, none⟩ = some (.int .i64 0) ∧ w5.cell? ⟨w.heap.size, 3, none⟩ = some (.int .i64 s) ∧ w5.cell? ⟨w.heap.size, 4, none⟩ = some (.int .i64 0) := ⟨HE5.out.1.1.c0, HE5.out.1.1.c1, HE5.out.1.1.c2, HE5.out.1.1.c3, HE5.out.1.1.c4⟩
            obtain ⟨d0, d1, d2, d3, d4⟩ : w5.cell? ⟨w.heap.size + 1 + 1 + 1, 0, none⟩ = some (.int .i64 f) ∧ w5.cell? ⟨w.heap.size + 1 + 1 + 1, 1, none⟩ = some (.int .i64 r) ∧ w5.cell? ⟨w.heap.size + 1 + 1 + 1, 2, none⟩ = some (.int .i64 0) ∧ w5.cell? ⟨w.heap.size + 1 + 1 + 1, 3, none⟩ = some (.int .i64 s) ∧ w5.cell? ⟨w.heap.size + 1 + 1 + 1, 4, none⟩ = some (.int .i64 0) := ⟨HE5.out.2.c0, HE5.out.2.c1, HE5.out.2.c2, HE5.out.2.c3, HE5.out.2.c4⟩
            have hfr := HE5.out.2.fr
            go_wp2_with fail
            refine (in_go ⟨#[104, 108, 48, 94, 36, 124, 119, 87, 98, 66, 101, 69, 37, 59, 44]⟩ k false _ (by decide) Hmots.out).mono ?_
            rintro e w6 ⟨rfl, hb⟩
            have HE6 : Hid (Ent w w6 (f, r, 0, s, 0) (f, r, 0, s, 0)) := HE5.out.below hb
            clear hb HE5 c0 c1 c2 c3 c4 d0 d1 d2 d3 d4 hfr
            obtain ⟨c0, c1, c2, c3, c4⟩ : w6.cell? ⟨w.heap.size, 0, none⟩ = some (.int .i64 f) ∧ w6.cell? ⟨w.heap.size, 1, none⟩ = some (.int .i64 r) ∧ w6.cell? ⟨w.heap.size, 2, none⟩ = some (.int .i64 0) ∧ w6.cell? ⟨w.heap.size, 3, none⟩ = some (.int .i64 s) ∧ w6.cell? ⟨w.heap.size, 4, none⟩ = some (.int .i64 0) := ⟨HE6.out.1.1.c0, HE6.out.1.1.c1, HE6.out.1.1.c2, HE6.out.1.1.c3, HE6.out.1.1.c4⟩
            obtain ⟨d0, d1, d2, d3, d4⟩ : w6.cell? ⟨w.heap.size + 1 + 1 + 1, 0, none⟩ = some (.int .i64 f) ∧ w6.cell? ⟨w.heap.size + 1 + 1 + 1, 1, none⟩ = some (.int .i64 r) ∧ w6.cell? ⟨w.heap.size + 1 + 1 + 1, 2, none⟩ = some (.int .i64 0) ∧ w6.cell? ⟨w.heap.size + 1 + 1 + 1, 3, none⟩ = some (.int .i64 s) ∧ w6.cell? ⟨w.heap.size + 1 + 1 + 1, 4, none⟩ = some (.int .i64 0) := ⟨HE6.out.2.c0, HE6.out.2.c1, HE6.out.2.c2, HE6.out.2.c3, HE6.out.2.c4⟩
            have hfr := HE6.out.2.fr
            go_wp2_with fail
            refine (in_go ⟨#[102, 70, 116, 84]⟩ k false _ (by decide) Hfnds.out).mono ?_
            rintro e w7 ⟨rfl, hb⟩
            have HE7 : Hid (Ent w w7 (f, r, 0, s, 0) (f, r, 0, s, 0)) := HE6.out.below hb
            clear hb HE6 c0 c1 c2 c3 c4 d0 d1 d2 d3 d4 hfr
            obtain ⟨c0, c1, c2, c3, c4⟩ : w7.cell? ⟨w.heap.size, 0, none⟩ = some (.int .i64 f) ∧ w7.cell? ⟨w.heap.size, 1, none⟩ = some (.int .i64 r) ∧ w7.cell? ⟨w.heap.size, 2, none⟩ = some (.int .i64 0) ∧ w7.cell? ⟨w.heap.size, 3, none⟩ = some (.int .i64 s) ∧ w7.cell? ⟨w.heap.size, 4, none⟩ = some (.int .i64 0) := ⟨HE7.out.1.1.c0, HE7.out.1.1.c1, HE7.out.1.1.c2, HE7.out.1.1.c3, HE7.out.1.1.c4⟩
            obtain ⟨d0, d1, d2, d3, d4⟩ : w7.cell? ⟨w.heap.size + 1 + 1 + 1, 0, none⟩ = some (.int .i64 f) ∧ w7.cell? ⟨w.heap.size + 1 + 1 + 1, 1, none⟩ = some (.int .i64 r) ∧ w7.cell? ⟨w.heap.size + 1 + 1 + 1, 2, none⟩ = some (.int .i64 0) ∧ w7.cell? ⟨w.heap.size + 1 + 1 + 1, 3, none⟩ = some (.int .i64 s) ∧ w7.cell? ⟨w.heap.size + 1 + 1 + 1, 4, none⟩ = some (.int .i64 0) := ⟨HE7.out.2.c0, HE7.out.2.c1, HE7.out.2.c2, HE7.out.2.c3, HE7.out.2.c4⟩
            have hfr := HE7.out.2.fr
            go_wp2_with fail
            refine (in_go ⟨#[105, 97]⟩ k true _ (by decide) Hsids.out).mono ?_
            rintro e w8 ⟨rfl, hb⟩
            have HE8 : Hid (Ent w w8 (f, r, 0, s, 0) (f, r, 0, s, 0)) := HE7.out.below hb
            clear hb HE7 c0 c1 c2 c3 c4 d0 d1 d2 d3 d4 hfr
            obtain ⟨c0, c1, c2, c3, c4⟩ : w8.cell? ⟨w.heap.size, 0, none⟩ = some (.int .i64 f) ∧ w8.cell? ⟨w.heap.size, 1, none⟩ = some (.int .i64 r) ∧ w8.cell? ⟨w.heap.size, 2, none⟩ = some (.int .i64 0) ∧ w8.cell? ⟨w.heap.size, 3, none⟩ = some (.int .i64 s) ∧ w8.cell? ⟨w.heap.size, 4, none⟩ = some (.int .i64 0) := ⟨HE8.out.1.1.c0, HE8.out.1.1.c1, HE8.out.1.1.c2, HE8.out.1.1.c3, HE8.out.1.1.c4⟩
            obtain ⟨d0, d1, d2, d3, d4⟩ : w8.cell? ⟨w.heap.size + 1 + 1 + 1, 0, none⟩ = some (.int .i64 f) ∧ w8.cell? ⟨w.heap.size + 1 + 1 + 1, 1, none⟩ = some (.int .i64 r) ∧ w8.cell? ⟨w.heap.size + 1 + 1 + 1, 2, none⟩ = some (.int .i64 0) ∧ w8.cell? ⟨w.heap.size + 1 + 1 + 1, 3, none⟩ = some (.int .i64 s) ∧ w8.cell? ⟨w.heap.size + 1 + 1 + 1, 4, none⟩ = some (.int .i64 0) := ⟨HE8.out.2.c0, HE8.out.2.c1, HE8.out.2.c2, HE8.out.2.c3, HE8.out.2.c4⟩
            have hfr := HE8.out.2.fr
            go_wp2_with fail
            refine (in_go ⟨#[105, 97, 73, 65, 115, 83, 67, 68, 120, 88, 112, 80, 89, 126, 117, 85, 46, 106, 107, 71, 47, 63, 110, 78, 82]⟩ k true _ (by decide) Hlons.out).mono ?_
            rintro e w9 ⟨rfl, hb⟩
            have HE9 : Hid (Ent w w9 (f, r, 0, s, 0) (f, r, 0, s, 0)) := HE8.out.below hb
            clear hb HE8 c0 c1 c2 c3 c4 d0 d1 d2 d3 d4 hfr
            obtain ⟨c0, c1, c2, c3, c4⟩ : w9.cell? ⟨w.heap.size, 0, none⟩ = some (.int .i64 f) ∧ w9.cell? ⟨w.heap.size, 1, none⟩ = some (.int .i64 r) ∧ w9.cell? ⟨w.heap.size, 2, none⟩ = some (.int .i64 0) ∧ w9.cell? ⟨w.heap.size, 3, none⟩ = some (.int .i64 s) ∧ w9.cell? ⟨w.heap.size, 4, none⟩ = some (.int .i64 0) := ⟨HE9.out.1.1.c0, HE9.out.1.1.c1, HE9.out.1.1.c2, HE9.out.1.1.c3, HE9.out.1.1.c4⟩
            obtain ⟨d0, d1, d2, d3, d4⟩ : w9.cell? ⟨w.heap.size + 1 + 1 + 1, 0, none⟩ = some (.int .i64 f) ∧ w9.cell? ⟨w.heap.size + 1 + 1 + 1, 1, none⟩ = some (.int .i64 r) ∧ w9.cell? ⟨w.heap.size + 1 + 1 + 1, 2, none⟩ = some (.int .i64 0) ∧ w9.cell? ⟨w.heap.size + 1 + 1 + 1, 3, none⟩ = some (.int .i64 s) ∧ w9.cell? ⟨w.heap.size + 1 + 1 + 1, 4, none⟩ = some (.int .i64 0) := ⟨HE9.out.2.c0, HE9.out.2.c1, HE9.out.2.c2, HE9.out.2.c3, HE9.out.2.c4⟩
            have hfr := HE9.out.2.fr
            go_wp2_with fail
            refine (refDone_go f r 0 s 0 k 0 w.heap.size _ HC.out.1 HC.out.2 HE9.out.1.1).mono ?_
            rintro e w10 ⟨rfl, hb⟩
            have HF : Hid (Enter w w10 (f, r, 0, s, 0) w.heap.size (w.heap.size + 1) (w.heap.size + 1 + 1)) := Enter.below HE9.out.1 hb
            clear hb HE9 c0 c1 c2 c3 c4 d0 d1 d2 d3 d4 hfr
            go_wp2_with (first | (refine storeF rfl 27 _ _ rfl (.inl rfl) _ rfl (don f r 0 s k 0).1 zer rfl HF.out.2.1 ?_) | (refine storeF rfl 24 _ _ rfl (.inr rfl) _ rfl (don f r 0 s k 0).2.1 zer rfl (HF.out.2.2.1.other _ (by omega)) ?_))
            exact HF.out.end 4 5 6 Tryd.results15 rfl rfl rfl rfl
        case false =>
          have Hsids : Hid (has (codes ⟨#[105, 97]⟩) k = false) := hsids
          by_cases h114 : k = 114
          · subst h114
            obtain rfl : R = mor (f, r, 0, s, 114) := HR.out.trans (by simp [hops, hmots, hfnds, hsids])
            clear HR
            clear hops hmots hfnds hsids
            go_enter Tryd.func15, Tryd.ntmps15
            go_wp2_with fail
            have HE1 : Hid (Ent w ((((w.alloc (.cells #[.int .i64 f, .int .i64 r, .int .i64 0, .int .i64 s, .int .i64 0] 27)).alloc (.cells #[.int .i64 0, .int .i64 0, .int .i64 0, .int .i64 0, .int .i64 0] 27)).alloc (.cells #[.int .i64 0, .int .i64 0, .int .i64 0, .int .i64 0, .int .i64 0] 24)).alloc (.cells #[.int .i64 f, .int .i64 r, .int .i64 0, .int .i64 s, .int .i64 0] 27)) (f, r, 0, s, 0) (f, r, 0, s, 0)) := ent_is w (f, r, 0, s, 0)
            generalize ((((w.alloc (.cells #[.int .i64 f, .int .i64 r, .int .i64 0, .int .i64 s, .int .i64 0] 27)).alloc (.cells #[.int .i64 0, .int .i64 0, .int .i64 0, .int .i64 0, .int .i64 0] 27)).alloc (.cells #[.int .i64 0, .int .i64 0, .int .i64 0, .int .i64 0, .int .i64 0] 24)).alloc (.cells #[.int .i64 f, .int .i64 r, .int .i64 0, .int .i64 s, .int .i64 0] 27)) = w1 at *
            obtain ⟨c0, c1, c2, c3, c4⟩ : w1.cell? ⟨w.heap.size, 0, none⟩ = some (.int .i64 f) ∧ w1.cell? ⟨w.heap.size, 1, none⟩ = some (.int .i64 r) ∧ w1.cell? ⟨w.heap.size, 2, none⟩ = some (.int .i64 0) ∧ w1.cell? ⟨w.heap.size, 3, none⟩ = some (.int .i64 s) ∧ w1.cell? ⟨w.heap.size, 4, none⟩ = some (.int .i64 0) := ⟨HE1.out.1.1.c0, HE1.out.1.1.c1, HE1.out.1.1.c2, HE1.out.1.1.c3, HE1.out.1.1.c4⟩
            obtain ⟨d0, d1, d2, d3, d4⟩ : w1.cell? ⟨w.heap.size + 1 + 1 + 1, 0, none⟩ = some (.int .i64 f) ∧ w1.cell? ⟨w.heap.size + 1 + 1 + 1, 1, none⟩ = some (.int .i64 r) ∧ w1.cell? ⟨w.heap.size + 1 + 1 + 1, 2, none⟩ = some (.int .i64 0) ∧ w1.cell? ⟨w.heap.size + 1 + 1 + 1, 3, none⟩ = some (.int .i64 s) ∧ w1.cell? ⟨w.heap.size + 1 + 1 + 1, 4, none⟩ = some (.int .i64 0) := ⟨HE1.out.2.c0, HE1.out.2.c1, HE1.out.2.c2, HE1.out.2.c3, HE1.out.2.c4⟩
            have hfr := HE1.out.2.fr
            refine (in_go ⟨#[105, 97]⟩ 0 false _ (by decide) (by decide)).mono ?_
            rintro e w2 ⟨rfl, hb⟩
            have HE2 : Hid (Ent w w2 (f, r, 0, s, 0) (f, r, 0, s, 0)) := HE1.out.below hb
            clear hb HE1 c0 c1 c2 c3 c4 d0 d1 d2 d3 d4 hfr
            obtain ⟨c0, c1, c2, c3, c4⟩ : w2.cell? ⟨w.heap.size, 0, none⟩ = some (.int .i64 f) ∧ w2.cell? ⟨w.heap.size, 1, none⟩ = some (.int .i64 r) ∧ w2.cell? ⟨w.heap.size, 2, none⟩ = some (.int .i64 0) ∧ w2.cell? ⟨w.heap.size, 3, none⟩ = some (.int .i64 s) ∧ w2.cell? ⟨w.heap.size, 4, none⟩ = some (.int .i64 0) := ⟨HE2.out.1.1.c0, HE2.out.1.1.c1, HE2.out.1.1.c2, HE2.out.1.1.c3, HE2.out.1.1.c4⟩
            obtain ⟨d0, d1, d2, d3, d4⟩ : w2.cell? ⟨w.heap.size + 1 + 1 + 1, 0, none⟩ = some (.int .i64 f) ∧ w2.cell? ⟨w.heap.size + 1 + 1 + 1, 1, none⟩ = some (.int .i64 r) ∧ w2.cell? ⟨w.heap.size + 1 + 1 + 1, 2, none⟩ = some (.int .i64 0) ∧ w2.cell? ⟨w.heap.size + 1 + 1 + 1, 3, none⟩ = some (.int .i64 s) ∧ w2.cell? ⟨w.heap.size + 1 + 1 + 1, 4, none⟩ = some (.int .i64 0) := ⟨HE2.out.2.c0, HE2.out.2.c1, HE2.out.2.c2, HE2.out.2.c3, HE2.out.2.c4⟩
            have hfr := HE2.out.2.fr
            go_wp2_with fail
            refine (in_go ⟨#[49, 50, 51, 52, 53, 54, 55, 56, 57]⟩ 114 false _ (by decide) Hdigs.out).mono ?_
            rintro e w3 ⟨rfl, hb⟩
            have HE3 : Hid (Ent w w3 (f, r, 0, s, 0) (f, r, 0, s, 0)) := HE2.out.below hb
            clear hb HE2 c0 c1 c2 c3 c4 d0 d1 d2 d3 d4 hfr
            obtain ⟨c0, c1, c2, c3, c4⟩ : w3.cell? ⟨w.heap.size, 0, none⟩ = some (.int .i64 f) ∧ w3.cell? ⟨w.heap.size, 1, none⟩ = some (.int .i64 r) ∧ w3.cell? ⟨w.heap.size, 2, none⟩ = some (.int .i64 0) ∧ w3.cell? ⟨w.heap.size, 3, none⟩ = some (.int .i64 s) ∧ w3.cell? ⟨w.heap.size, 4, none⟩ = some (.int .i64 0) := ⟨HE3.out.1.1.c0, HE3.out.1.1.c1, HE3.out.1.1.c2, HE3.out.1.1.c3, HE3.out.1.1.c4⟩
            obtain ⟨d0, d1, d2, d3, d4⟩ : w3.cell? ⟨w.heap.size + 1 + 1 + 1, 0, none⟩ = some (.int .i64 f) ∧ w3.cell? ⟨w.heap.size + 1 + 1 + 1, 1, none⟩ = some (.int .i64 r) ∧ w3.cell? ⟨w.heap.size + 1 + 1 + 1, 2, none⟩ = some (.int .i64 0) ∧ w3.cell? ⟨w.heap.size + 1 + 1 + 1, 3, none⟩ = some (.int .i64 s) ∧ w3.cell? ⟨w.heap.size + 1 + 1 + 1, 4, none⟩ = some (.int .i64 0) := ⟨HE3.out.2.c0, HE3.out.2.c1, HE3.out.2.c2, HE3.out.2.c3, HE3.out.2.c4⟩
            have hfr := HE3.out.2.fr
            go_wp2_with fail
            refine (in_go ⟨#[100, 99, 121]⟩ 114 false _ (by decide) Hops.out).mono ?_
            rintro e w4 ⟨rfl, hb⟩
            have HE4 : Hid (Ent w w4 (f, r, 0, s, 0) (f, r, 0, s, 0)) := HE3.out.below hb
            clear hb HE3 c0 c1 c2 c3 c4 d0 d1 d2 d3 d4 hfr
            obtain ⟨c0, c1, c2, c3, c4⟩ : w4.cell? ⟨w.heap.size, 0, none⟩ = some (.int .i64 f) ∧ w4.cell? ⟨w.heap.size, 1, none⟩ = some (.int .i64 r) ∧ w4.cell? ⟨w.heap.size, 2, none⟩ = some (.int .i64 0) ∧ w4.cell? ⟨w.heap.size, 3, none⟩ = some (.int .i64 s) ∧ w4.cell? ⟨w.heap.size, 4, none⟩ = some (.int .i64 0) := ⟨HE4.out.1.1.c0, HE4.out.1.1.c1, HE4.out.1.1.c2, HE4.out.1.1.c3, HE4.out.1.1.c4⟩
            obtain ⟨d0, d1, d2, d3, d4⟩ : w4.cell? ⟨w.heap.size + 1 + 1 + 1, 0, none⟩ = some (.int .i64 f) ∧ w4.cell? ⟨w.heap.size + 1 + 1 + 1, 1, none⟩ = some (.int .i64 r) ∧ w4.cell? ⟨w.heap.size + 1 + 1 + 1, 2, none⟩ = some (.int .i64 0) ∧ w4.cell? ⟨w.heap.size + 1 + 1 + 1, 3, none⟩ = some (.int .i64 s) ∧ w4.cell? ⟨w.heap.size + 1 + 1 + 1, 4, none⟩ = some (.int .i64 0) := ⟨HE4.out.2.c0, HE4.out.2.c1, HE4.out.2.c2, HE4.out.2.c3, HE4.out.2.c4⟩
            have hfr := HE4.out.2.fr
            go_wp2_with fail
            refine (in_go ⟨#[100, 99, 121]⟩ 114 false _ (by decide) Hops.out).mono ?_
            rintro e w5 ⟨rfl, hb⟩
            have HE5 : Hid (Ent w w5 (f, r, 0, s, 0) (f, r, 0, s, 0)) := HE4.out.below hb
            clear hb HE4 c0 c1 c2 c3 c4 d0 d1 d2 d3 d4 hfr
            obtain ⟨c0, c1, c2, c3, c4⟩ : w5.cell? ⟨w.heap.size, 0, none⟩ = some (.int .i64 f) ∧ w5.cell? ⟨w.heap.size, 1, none⟩ = some (.int .i64 r) ∧ w5.cell? ⟨w.heap.size, 2, none⟩ = some (.int .i64 0) ∧ w5.cell? ⟨w.heap.size, 3, none⟩ = some (.int .i64 s) ∧ w5.cell? ⟨w.heap.size, 4, none⟩ = some (.int .i64 0) := ⟨HE5.out.1.1.c0, HE5.out.1.1.c1, HE5.out.1.1.c2, HE5.out.1.1.c3, HE5.out.1.1.c4⟩
            obtain ⟨d0, d1, d2, d3, d4⟩ : w5.cell? ⟨w.heap.size + 1 + 1 + 1, 0, none⟩ = some (.int .i64 f) ∧ w5.cell? ⟨w.heap.size + 1 + 1 + 1, 1, none⟩ = some (.int .i64 r) ∧ w5.cell? ⟨w.heap.size + 1 + 1 + 1, 2, none⟩ = some (.int .i64 0) ∧ w5.cell? ⟨w.heap.size + 1 + 1 + 1, 3, none⟩ = some (.int .i64 s) ∧ w5.cell? ⟨w.heap.size + 1 + 1 + 1, 4, none⟩ = some (.int .i64 0) := ⟨HE5.out.2.c0, HE5.out.2.c1, HE5.out.2.c2, HE5.out.2.c3, HE5.out.2.c4⟩
            have hfr := HE5.out.2.fr
            go_wp2_with fail
            refine (in_go ⟨#[104, 108, 48, 94, 36, 124, 119, 87, 98, 66, 101, 69, 37, 59, 44]⟩ 114 false _ (by decide) Hmots.out).mono ?_
            rintro e w6 ⟨rfl, hb⟩
            have HE6 : Hid (Ent w w6 (f, r, 0, s, 0) (f, r, 0, s, 0)) := HE5.out.below hb
            clear hb HE5 c0 c1 c2 c3 c4 d0 d1 d2 d3 d4 hfr
            obtain ⟨c0, c1, c2, c3, c4⟩ : w6.cell? ⟨w.heap.size, 0, none⟩ = some (.int .i64 f) ∧ w6.cell? ⟨w.heap.size, 1, none⟩ = some (.int .i64 r) ∧ w6.cell? ⟨w.heap.size, 2, none⟩ = some (.int .i64 0) ∧ w6.cell? ⟨w.heap.size, 3, none⟩ = some (.int .i64 s) ∧ w6.cell? ⟨w.heap.size, 4, none⟩ = some (.int .i64 0) := ⟨HE6.out.1.1.c0, HE6.out.1.1.c1, HE6.out.1.1.c2, HE6.out.1.1.c3, HE6.out.1.1.c4⟩
            obtain ⟨d0, d1, d2, d3, d4⟩ : w6.cell? ⟨w.heap.size + 1 + 1 + 1, 0, none⟩ = some (.int .i64 f) ∧ w6.cell? ⟨w.heap.size + 1 + 1 + 1, 1, none⟩ = some (.int .i64 r) ∧ w6.cell? ⟨w.heap.size + 1 + 1 + 1, 2, none⟩ = some (.int .i64 0) ∧ w6.cell? ⟨w.heap.size + 1 + 1 + 1, 3, none⟩ = some (.int .i64 s) ∧ w6.cell? ⟨w.heap.size + 1 + 1 + 1, 4, none⟩ = some (.int .i64 0) := ⟨HE6.out.2.c0, HE6.out.2.c1, HE6.out.2.c2, HE6.out.2.c3, HE6.out.2.c4⟩
            have hfr := HE6.out.2.fr
            go_wp2_with fail
            refine (in_go ⟨#[102, 70, 116, 84]⟩ 114 false _ (by decide) Hfnds.out).mono ?_
            rintro e w7 ⟨rfl, hb⟩
            have HE7 : Hid (Ent w w7 (f, r, 0, s, 0) (f, r, 0, s, 0)) := HE6.out.below hb
            clear hb HE6 c0 c1 c2 c3 c4 d0 d1 d2 d3 d4 hfr
            obtain ⟨c0, c1, c2, c3, c4⟩ : w7.cell? ⟨w.heap.size, 0, none⟩ = some (.int .i64 f) ∧ w7.cell? ⟨w.heap.size, 1, none⟩ = some (.int .i64 r) ∧ w7.cell? ⟨w.heap.size, 2, none⟩ = some (.int .i64 0) ∧ w7.cell? ⟨w.heap.size, 3, none⟩ = some (.int .i64 s) ∧ w7.cell? ⟨w.heap.size, 4, none⟩ = some (.int .i64 0) := ⟨HE7.out.1.1.c0, HE7.out.1.1.c1, HE7.out.1.1.c2, HE7.out.1.1.c3, HE7.out.1.1.c4⟩
            obtain ⟨d0, d1, d2, d3, d4⟩ : w7.cell? ⟨w.heap.size + 1 + 1 + 1, 0, none⟩ = some (.int .i64 f) ∧ w7.cell? ⟨w.heap.size + 1 + 1 + 1, 1, none⟩ = some (.int .i64 r) ∧ w7.cell? ⟨w.heap.size + 1 + 1 + 1, 2, none⟩ = some (.int .i64 0) ∧ w7.cell? ⟨w.heap.size + 1 + 1 + 1, 3, none⟩ = some (.int .i64 s) ∧ w7.cell? ⟨w.heap.size + 1 + 1 + 1, 4, none⟩ = some (.int .i64 0) := ⟨HE7.out.2.c0, HE7.out.2.c1, HE7.out.2.c2, HE7.out.2.c3, HE7.out.2.c4⟩
            have hfr := HE7.out.2.fr
            go_wp2_with fail
            refine (in_go ⟨#[105, 97]⟩ 114 false _ (by decide) Hsids.out).mono ?_
            rintro e w8 ⟨rfl, hb⟩
            have HE8 : Hid (Ent w w8 (f, r, 0, s, 0) (f, r, 0, s, 0)) := HE7.out.below hb
            clear hb HE7 c0 c1 c2 c3 c4 d0 d1 d2 d3 d4 hfr
            obtain ⟨c0, c1, c2, c3, c4⟩ : w8.cell? ⟨w.heap.size, 0, none⟩ = some (.int .i64 f) ∧ w8.cell? ⟨w.heap.size, 1, none⟩ = some (.int .i64 r) ∧ w8.cell? ⟨w.heap.size, 2, none⟩ = some (.int .i64 0) ∧ w8.cell? ⟨w.heap.size, 3, none⟩ = some (.int .i64 s) ∧ w8.cell? ⟨w.heap.size, 4, none⟩ = some (.int .i64 0) := ⟨HE8.out.1.1.c0, HE8.out.1.1.c1, HE8.out.1.1.c2, HE8.out.1.1.c3, HE8.out.1.1.c4⟩
            obtain ⟨d0, d1, d2, d3, d4⟩ : w8.cell? ⟨w.heap.size + 1 + 1 + 1, 0, none⟩ = some (.int .i64 f) ∧ w8.cell? ⟨w.heap.size + 1 + 1 + 1, 1, none⟩ = some (.int .i64 r) ∧ w8.cell? ⟨w.heap.size + 1 + 1 + 1, 2, none⟩ = some (.int .i64 0) ∧ w8.cell? ⟨w.heap.size + 1 + 1 + 1, 3, none⟩ = some (.int .i64 s) ∧ w8.cell? ⟨w.heap.size + 1 + 1 + 1, 4, none⟩ = some (.int .i64 0) := ⟨HE8.out.2.c0, HE8.out.2.c1, HE8.out.2.c2, HE8.out.2.c3, HE8.out.2.c4⟩
            have hfr := HE8.out.2.fr
            go_wp2_with fail
            refine (refMore_go f r 0 s 114 _).mono ?_
            rintro e w9 ⟨rfl, hb⟩
            have HF : Hid (Enter w w9 (f, r, 0, s, 0) w.heap.size (w.heap.size + 1) (w.heap.size + 1 + 1)) := Enter.below (Enter.far HE8.out.1 _ _ (by show w.heap.size + 1 + 1 < w.heap.size + 1 + 1 + 1; omega) (by omega)) hb
            clear hb HE8 c0 c1 c2 c3 c4 d0 d1 d2 d3 d4 hfr
            go_wp2_with (first | (refine storeF rfl 27 _ _ rfl (.inl rfl) _ rfl (mor (f, r, 0, s, 114)).1 zer rfl HF.out.2.1 ?_) | (refine storeF rfl 24 _ _ rfl (.inr rfl) _ rfl (mor (f, r, 0, s, 114)).2.1 zer rfl (HF.out.2.2.1.other _ (by omega)) ?_))
            exact HF.out.end 4 5 6 Tryd.results15 rfl rfl rfl rfl
          · have g2 : (k == 114) = false := by simpa using h114
            by_cases hr : r = 0
            · subst hr
              by_cases h34 : k = 34
              · subst h34
                obtain rfl : R = mor (f, 0, 0, s, 34) := HR.out.trans (by simp [hops, hmots, hfnds, hsids])
                clear HR
                clear hops hmots hfnds hsids h114
                go_enter Tryd.func15, Tryd.ntmps15
                go_wp2_with fail
                have HE1 : Hid (Ent w ((((w.alloc (.cells #[.int .i64 f, .int .i64 0, .int .i64 0, .int .i64 s, .int .i64 0] 27)).alloc (.cells #[.int .i64 0, .int .i64 0, .int .i64 0, .int .i64 0, .int .i64 0] 27)).alloc (.cells #[.int .i64 0, .int .i64 0, .int .i64 0, .int .i64 0, .int .i64 0] 24)).alloc (.cells #[.int .i64 f, .int .i64 0, .int .i64 0, .int .i64 s, .int .i64 0] 27)) (f, 0, 0, s, 0) (f, 0, 0, s, 0)) := ent_is w (f, 0, 0, s, 0)
                generalize ((((w.alloc (.cells #[.int .i64 f, .int .i64 0, .int .i64 0, .int .i64 s, .int .i64 0] 27)).alloc (.cells #[.int .i64 0, .int .i64 0, .int .i64 0, .int .i64 0, .int .i64 0] 27)).alloc (.cells #[.int .i64 0, .int .i64 0, .int .i64 0, .int .i64 0, .int .i64 0] 24)).alloc (.cells #[.int .i64 f, .int .i64 0, .int .i64 0, .int .i64 s, .int .i64 0] 27)) = w1 at *
                obtain ⟨c0, c1, c2, c3, c4⟩ : w1.cell? ⟨w.heap.size, 0, none⟩ = some (.int .i64 f) ∧ w1.cell? ⟨w.heap.size, 1, none⟩ = some (.int .i64 0) ∧ w1.cell? ⟨w.heap.size, 2, none⟩ = some (.int .i64 0) ∧ w1.cell? ⟨w.heap.size, 3, none⟩ = some (.int .i64 s) ∧ w1.cell? ⟨w.heap.size, 4, none⟩ = some (.int .i64 0) := ⟨HE1.out.1.1.c0, HE1.out.1.1.c1, HE1.out.1.1.c2, HE1.out.1.1.c3, HE1.out.1.1.c4⟩
                obtain ⟨d0, d1, d2, d3, d4⟩ : w1.cell? ⟨w.heap.size + 1 + 1 + 1, 0, none⟩ = some (.int .i64 f) ∧ w1.cell? ⟨w.heap.size + 1 + 1 + 1, 1, none⟩ = some (.int .i64 0) ∧ w1.cell? ⟨w.heap.size + 1 + 1 + 1, 2, none⟩ = some (.int .i64 0) ∧ w1.cell? ⟨w.heap.size + 1 + 1 + 1, 3, none⟩ = some (.int .i64 s) ∧ w1.cell? ⟨w.heap.size + 1 + 1 + 1, 4, none⟩ = some (.int .i64 0) := ⟨HE1.out.2.c0, HE1.out.2.c1, HE1.out.2.c2, HE1.out.2.c3, HE1.out.2.c4⟩
                have hfr := HE1.out.2.fr
                refine (in_go ⟨#[105, 97]⟩ 0 false _ (by decide) (by decide)).mono ?_
                rintro e w2 ⟨rfl, hb⟩
                have HE2 : Hid (Ent w w2 (f, 0, 0, s, 0) (f, 0, 0, s, 0)) := HE1.out.below hb
                clear hb HE1 c0 c1 c2 c3 c4 d0 d1 d2 d3 d4 hfr
                obtain ⟨c0, c1, c2, c3, c4⟩ : w2.cell? ⟨w.heap.size, 0, none⟩ = some (.int .i64 f) ∧ w2.cell? ⟨w.heap.size, 1, none⟩ = some (.int .i64 0) ∧ w2.cell? ⟨w.heap.size, 2, none⟩ = some (.int .i64 0) ∧ w2.cell? ⟨w.heap.size, 3, none⟩ = some (.int .i64 s) ∧ w2.cell? ⟨w.heap.size, 4, none⟩ = some (.int .i64 0) := ⟨HE2.out.1.1.c0, HE2.out.1.1.c1, HE2.out.1.1.c2, HE2.out.1.1.c3, HE2.out.1.1.c4⟩
                obtain ⟨d0, d1, d2, d3, d4⟩ : w2.cell? ⟨w.heap.size + 1 + 1 + 1, 0, none⟩ = some (.int .i64 f) ∧ w2.cell? ⟨w.heap.size + 1 + 1 + 1, 1, none⟩ = some (.int .i64 0) ∧ w2.cell? ⟨w.heap.size + 1 + 1 + 1, 2, none⟩ = some (.int .i64 0) ∧ w2.cell? ⟨w.heap.size + 1 + 1 + 1, 3, none⟩ = some (.int .i64 s) ∧ w2.cell? ⟨w.heap.size + 1 + 1 + 1, 4, none⟩ = some (.int .i64 0) := ⟨HE2.out.2.c0, HE2.out.2.c1, HE2.out.2.c2, HE2.out.2.c3, HE2.out.2.c4⟩
                have hfr := HE2.out.2.fr
                go_wp2_with fail
                refine (in_go ⟨#[49, 50, 51, 52, 53, 54, 55, 56, 57]⟩ 34 false _ (by decide) Hdigs.out).mono ?_
                rintro e w3 ⟨rfl, hb⟩
                have HE3 : Hid (Ent w w3 (f, 0, 0, s, 0) (f, 0, 0, s, 0)) := HE2.out.below hb
                clear hb HE2 c0 c1 c2 c3 c4 d0 d1 d2 d3 d4 hfr
                obtain ⟨c0, c1, c2, c3, c4⟩ : w3.cell? ⟨w.heap.size, 0, none⟩ = some (.int .i64 f) ∧ w3.cell? ⟨w.heap.size, 1, none⟩ = some (.int .i64 0) ∧ w3.cell? ⟨w.heap.size, 2, none⟩ = some (.int .i64 0) ∧ w3.cell? ⟨w.heap.size, 3, none⟩ = some (.int .i64 s) ∧ w3.cell? ⟨w.heap.size, 4, none⟩ = some (.int .i64 0) := ⟨HE3.out.1.1.c0, HE3.out.1.1.c1, HE3.out.1.1.c2, HE3.out.1.1.c3, HE3.out.1.1.c4⟩
                obtain ⟨d0, d1, d2, d3, d4⟩ : w3.cell? ⟨w.heap.size + 1 + 1 + 1, 0, none⟩ = some (.int .i64 f) ∧ w3.cell? ⟨w.heap.size + 1 + 1 + 1, 1, none⟩ = some (.int .i64 0) ∧ w3.cell? ⟨w.heap.size + 1 + 1 + 1, 2, none⟩ = some (.int .i64 0) ∧ w3.cell? ⟨w.heap.size + 1 + 1 + 1, 3, none⟩ = some (.int .i64 s) ∧ w3.cell? ⟨w.heap.size + 1 + 1 + 1, 4, none⟩ = some (.int .i64 0) := ⟨HE3.out.2.c0, HE3.out.2.c1, HE3.out.2.c2, HE3.out.2.c3, HE3.out.2.c4⟩
                have hfr := HE3.out.2.fr
                go_wp2_with fail
                refine (in_go ⟨#[100, 99, 121]⟩ 34 false _ (by decide) Hops.out).mono ?_
                rintro e w4 ⟨rfl, hb⟩
                have HE4 : Hid (Ent w w4 (f, 0, 0, s, 0) (f, 0, 0, s, 0)) := HE3.out.below hb
                clear hb HE3 c0 c1 c2 c3 c4 d0 d1 d2 d3 d4 hfr
                obtain ⟨c0, c1, c2, c3, c4⟩ : w4.cell? ⟨w.heap.size, 0, none⟩ = some (.int .i64 f) ∧ w4.cell? ⟨w.heap.size, 1, none⟩ = some (.int .i64 0) ∧ w4.cell? ⟨w.heap.size, 2, none⟩ = some (.int .i64 0) ∧ w4.cell? ⟨w.heap.size, 3, none⟩ = some (.int .i64 s) ∧ w4.cell? ⟨w.heap.size, 4, none⟩ = some (.int .i64 0) := ⟨HE4.out.1.1.c0, HE4.out.1.1.c1, HE4.out.1.1.c2, HE4.out.1.1.c3, HE4.out.1.1.c4⟩
                obtain ⟨d0, d1, d2, d3, d4⟩ : w4.cell? ⟨w.heap.size + 1 + 1 + 1, 0, none⟩ = some (.int .i64 f) ∧ w4.cell? ⟨w.heap.size + 1 + 1 + 1, 1, none⟩ = some (.int .i64 0) ∧ w4.cell? ⟨w.heap.size + 1 + 1 + 1, 2, none⟩ = some (.int .i64 0) ∧ w4.cell? ⟨w.heap.size + 1 + 1 + 1, 3, none⟩ = some (.int .i64 s) ∧ w4.cell? ⟨w.heap.size + 1 + 1 + 1, 4, none⟩ = some (.int .i64 0) := ⟨HE4.out.2.c0, HE4.out.2.c1, HE4.out.2.c2, HE4.out.2.c3, HE4.out.2.c4⟩
                have hfr := HE4.out.2.fr
                go_wp2_with fail
                refine (in_go ⟨#[100, 99, 121]⟩ 34 false _ (by decide) Hops.out).mono ?_
                rintro e w5 ⟨rfl, hb⟩
                have HE5 : Hid (Ent w w5 (f, 0, 0, s, 0) (f, 0, 0, s, 0)) := HE4.out.below hb
                clear hb HE4 c0 c1 c2 c3 c4 d0 d1 d2 d3 d4 hfr
                obtain ⟨c0, c1, c2, c3, c4⟩ : w5.cell? ⟨w.heap.size, 0, none⟩ = some (.int .i64 f) ∧ w5.cell? ⟨w.heap.size, 1, none⟩ = some (.int .i64 0) ∧ w5.cell? ⟨w.heap.size, 2, none⟩ = some (.int .i64 0) ∧ w5.cell? ⟨w.heap.size, 3, none⟩ = some (.int .i64 s) ∧ w5.cell? ⟨w.heap.size, 4, none⟩ = some (.int .i64 0) := ⟨HE5.out.1.1.c0, HE5.out.1.1.c1, HE5.out.1.1.c2, HE5.out.1.1.c3, HE5.out.1.1.c4⟩
                obtain ⟨d0, d1, d2, d3, d4⟩ : w5.cell? ⟨w.heap.size + 1 + 1 + 1, 0, none⟩ = some (.int .i64 f) ∧ w5.cell? ⟨w.heap.size + 1 + 1 + 1, 1, none⟩ = some (.int .i64 0) ∧ w5.cell? ⟨w.heap.size + 1 + 1 + 1, 2, none⟩ = some (.int .i64 0) ∧ w5.cell? ⟨w.heap.size + 1 + 1 + 1, 3, none⟩ = some (.int .i64 s) ∧ w5.cell? ⟨w.heap.size + 1 + 1 + 1, 4, none⟩ = some (.int .i64 0) := ⟨HE5.out.2.c0, HE5.out.2.c1, HE5.out.2.c2, HE5.out.2.c3, HE5.out.2.c4⟩
                have hfr := HE5.out.2.fr
                go_wp2_with fail
                refine (in_go ⟨#[104, 108, 48, 94, 36, 124, 119, 87, 98, 66, 101, 69, 37, 59, 44]⟩ 34 false _ (by decide) Hmots.out).mono ?_
                rintro e w6 ⟨rfl, hb⟩
                have HE6 : Hid (Ent w w6 (f, 0, 0, s, 0) (f, 0, 0, s, 0)) := HE5.out.below hb
                clear hb HE5 c0 c1 c2 c3 c4 d0 d1 d2 d3 d4 hfr
                obtain ⟨c0, c1, c2, c3, c4⟩ : w6.cell? ⟨w.heap.size, 0, none⟩ = some (.int .i64 f) ∧ w6.cell? ⟨w.heap.size, 1, none⟩ = some (.int .i64 0) ∧ w6.cell? ⟨w.heap.size, 2, none⟩ = some (.int .i64 0) ∧ w6.cell? ⟨w.heap.size, 3, none⟩ = some (.int .i64 s) ∧ w6.cell? ⟨w.heap.size, 4, none⟩ = some (.int .i64 0) := ⟨HE6.out.1.1.c0, HE6.out.1.1.c1, HE6.out.1.1.c2, HE6.out.1.1.c3, HE6.out.1.1.c4⟩
                obtain ⟨d0, d1, d2, d3, d4⟩ : w6.cell? ⟨w.heap.size + 1 + 1 + 1, 0, none⟩ = some (.int .i64 f) ∧ w6.cell? ⟨w.heap.size + 1 + 1 + 1, 1, none⟩ = some (.int .i64 0) ∧ w6.cell? ⟨w.heap.size + 1 + 1 + 1, 2, none⟩ = some (.int .i64 0) ∧ w6.cell? ⟨w.heap.size + 1 + 1 + 1, 3, none⟩ = some (.int .i64 s) ∧ w6.cell? ⟨w.heap.size + 1 + 1 + 1, 4, none⟩ = some (.int .i64 0) := ⟨HE6.out.2.c0, HE6.out.2.c1, HE6.out.2.c2, HE6.out.2.c3, HE6.out.2.c4⟩
                have hfr := HE6.out.2.fr
                go_wp2_with fail
                refine (in_go ⟨#[102, 70, 116, 84]⟩ 34 false _ (by decide) Hfnds.out).mono ?_
                rintro e w7 ⟨rfl, hb⟩
                have HE7 : Hid (Ent w w7 (f, 0, 0, s, 0) (f, 0, 0, s, 0)) := HE6.out.below hb
                clear hb HE6 c0 c1 c2 c3 c4 d0 d1 d2 d3 d4 hfr
                obtain ⟨c0, c1, c2, c3, c4⟩ : w7.cell? ⟨w.heap.size, 0, none⟩ = some (.int .i64 f) ∧ w7.cell? ⟨w.heap.size, 1, none⟩ = some (.int .i64 0) ∧ w7.cell? ⟨w.heap.size, 2, none⟩ = some (.int .i64 0) ∧ w7.cell? ⟨w.heap.size, 3, none⟩ = some (.int .i64 s) ∧ w7.cell? ⟨w.heap.size, 4, none⟩ = some (.int .i64 0) := ⟨HE7.out.1.1.c0, HE7.out.1.1.c1, HE7.out.1.1.c2, HE7.out.1.1.c3, HE7.out.1.1.c4⟩
                obtain ⟨d0, d1, d2, d3, d4⟩ : w7.cell? ⟨w.heap.size + 1 + 1 + 1, 0, none⟩ = some (.int .i64 f) ∧ w7.cell? ⟨w.heap.size + 1 + 1 + 1, 1, none⟩ = some (.int .i64 0) ∧ w7.cell? ⟨w.heap.size + 1 + 1 + 1, 2, none⟩ = some (.int .i64 0) ∧ w7.cell? ⟨w.heap.size + 1 + 1 + 1, 3, none⟩ = some (.int .i64 s) ∧ w7.cell? ⟨w.heap.size + 1 + 1 + 1, 4, none⟩ = some (.int .i64 0) := ⟨HE7.out.2.c0, HE7.out.2.c1, HE7.out.2.c2, HE7.out.2.c3, HE7.out.2.c4⟩
                have hfr := HE7.out.2.fr
                go_wp2_with fail
                refine (in_go ⟨#[105, 97]⟩ 34 false _ (by decide) Hsids.out).mono ?_
                rintro e w8 ⟨rfl, hb⟩
                have HE8 : Hid (Ent w w8 (f, 0, 0, s, 0) (f, 0, 0, s, 0)) := HE7.out.below hb
                clear hb HE7 c0 c1 c2 c3 c4 d0 d1 d2 d3 d4 hfr
                obtain ⟨c0, c1, c2, c3, c4⟩ : w8.cell? ⟨w.heap.size, 0, none⟩ = some (.int .i64 f) ∧ w8.cell? ⟨w.heap.size, 1, none⟩ = some (.int .i64 0) ∧ w8.cell? ⟨w.heap.size, 2, none⟩ = some (.int .i64 0) ∧ w8.cell? ⟨w.heap.size, 3, none⟩ = some (.int .i64 s) ∧ w8.cell? ⟨w.heap.size, 4, none⟩ = some (.int .i64 0) := ⟨HE8.out.1.1.c0, HE8.out.1.1.c1, HE8.out.1.1.c2, HE8.out.1.1.c3, HE8.out.1.1.c4⟩
                obtain ⟨d0, d1, d2, d3, d4⟩ : w8.cell? ⟨w.heap.size + 1 + 1 + 1, 0, none⟩ = some (.int .i64 f) ∧ w8.cell? ⟨w.heap.size + 1 + 1 + 1, 1, none⟩ = some (.int .i64 0) ∧ w8.cell? ⟨w.heap.size + 1 + 1 + 1, 2, none⟩ = some (.int .i64 0) ∧ w8.cell? ⟨w.heap.size + 1 + 1 + 1, 3, none⟩ = some (.int .i64 s) ∧ w8.cell? ⟨w.heap.size + 1 + 1 + 1, 4, none⟩ = some (.int .i64 0) := ⟨HE8.out.2.c0, HE8.out.2.c1, HE8.out.2.c2, HE8.out.2.c3, HE8.out.2.c4⟩
                have hfr := HE8.out.2.fr
                go_wp2_with fail
                refine (refMore_go f 0 0 s 34 _).mono ?_
                rintro e w9 ⟨rfl, hb⟩
                have HF : Hid (Enter w w9 (f, 0, 0, s, 0) w.heap.size (w.heap.size + 1) (w.heap.size + 1 + 1)) := Enter.below (Enter.far HE8.out.1 _ _ (by show w.heap.size + 1 + 1 < w.heap.size + 1 + 1 + 1; omega) (by omega)) hb
                clear hb HE8 c0 c1 c2 c3 c4 d0 d1 d2 d3 d4 hfr
                go_wp2_with (first | (refine storeF rfl 27 _ _ rfl (.inl rfl) _ rfl (mor (f, 0, 0, s, 34)).1 zer rfl HF.out.2.1 ?_) | (refine storeF rfl 24 _ _ rfl (.inr rfl) _ rfl (mor (f, 0, 0, s, 34)).2.1 zer rfl (HF.out.2.2.1.other _ (by omega)) ?_))
                exact HF.out.end 4 5 6 Tryd.results15 rfl rfl rfl rfl
              · have g3 : (k == 34) = false := by simpa using h34
                cases hlons : has lons k
                case false =>
                  have Hlons : Hid (has (codes ⟨#[105, 97, 73, 65, 115, 83, 67, 68, 120, 88, 112, 80, 89, 126, 117, 85, 46, 106, 107, 71, 47, 63, 110, 78, 82]⟩) k = false) := hlons
                  obtain rfl : R = wrg := HR.out.trans (by simp [hops, hmots, hfnds, hsids, hlons, h114, h34])
                  clear HR
                  clear hops hmots hfnds hsids hlons h114 h34
                  go_enter Tryd.func15, Tryd.ntmps15
                  go_wp2_with fail
                  have HE1 : Hid (Ent w ((((w.alloc (.cells #[.int .i64 f, .int .i64 0, .int .i64 0, .int .i64 s, .int .i64 0] 27)).alloc (.cells #[.int .i64 0, .int .i64 0, .int .i64 0, .int .i64 0, .int .i64 0] 27)).alloc (.cells #[.int .i64 0, .int .i64 0, .int .i64 0, .int .i64 0, .int .i64 0] 24)).alloc (.cells #[.int .i64 f, .int .i64 0, .int .i64 0, .int .i64 s, .int .i64 0] 27)) (f, 0, 0, s, 0) (f, 0, 0, s, 0)) := ent_is w (f, 0, 0, s, 0)
                  generalize ((((w.alloc (.cells #[.int .i64 f, .int .i64 0, .int .i64 0, .int .i64 s, .int .i64 0] 27)).alloc (.cells #[.int .i64 0, .int .i64 0, .int .i64 0, .int .i64 0, .int .i64 0] 27)).alloc (.cells #[.int .i64 0, .int .i64 0, .int .i64 0, .int .i64 0, .int .i64 0] 24)).alloc (.cells #[.int .i64 f, .int .i64 0, .int .i64 0, .int .i64 s, .int .i64 0] 27)) = w1 at *
                  obtain ⟨c0, c1, c2, c3, c4⟩ : w1.cell? ⟨w.heap.size, 0, none⟩ = some (.int .i64 f) ∧ w1.cell? ⟨w.heap.size, 1, none⟩ = some (.int .i64 0) ∧ w1.cell? ⟨w.heap.size, 2, none⟩ = some (.int .i64 0) ∧ w1.cell? ⟨w.heap.size, 3, none⟩ = some (.int .i64 s) ∧ w1.cell? ⟨w.heap.size, 4, none⟩ = some (.int .i64 0) := ⟨HE1.out.1.1.c0, HE1.out.1.1.c1, HE1.out.1.1.c2, HE1.out.1.1.c3, HE1.out.1.1.c4⟩
                  obtain ⟨d0, d1, d2, d3, d4⟩ : w1.cell? ⟨w.heap.size + 1 + 1 + 1, 0, none⟩ = some (.int .i64 f) ∧ w1.cell? ⟨w.heap.size + 1 + 1 + 1, 1, none⟩ = some (.int .i64 0) ∧ w1.cell? ⟨w.heap.size + 1 + 1 + 1, 2, none⟩ = some (.int .i64 0) ∧ w1.cell? ⟨w.heap.size + 1 + 1 + 1, 3, none⟩ = some (.int .i64 s) ∧ w1.cell? ⟨w.heap.size + 1 + 1 + 1, 4, none⟩ = some (.int .i64 0) := ⟨HE1.out.2.c0, HE1.out.2.c1, HE1.out.2.c2, HE1.out.2.c3, HE1.out.2.c4⟩
                  have hfr := HE1.out.2.fr
                  refine (in_go ⟨#[105, 97]⟩ 0 false _ (by decide) (by decide)).mono ?_
                  rintro e w2 ⟨rfl, hb⟩
                  have HE2 : Hid (Ent w w2 (f, 0, 0, s, 0) (f, 0, 0, s, 0)) := HE1.out.below hb
                  clear hb HE1 c0 c1 c2 c3 c4 d0 d1 d2 d3 d4 hfr
                  obtain ⟨c0, c1, c2, c3, c4⟩ : w2.cell? ⟨w.heap.size, 0, none⟩ = some (.int .i64 f) ∧ w2.cell? ⟨w.heap.size, 1, none⟩ = some (.int .i64 0) ∧ w2.cell? ⟨w.heap.size, 2, none⟩ = some (.int .i64 0) ∧ w2.cell? ⟨w.heap.size, 3, none⟩ = some (.int .i64 s) ∧ w2.cell? ⟨w.heap.size, 4, none⟩ = some (.int .i64 0) := ⟨HE2.out.1.1.c0, HE2.out.1.1.c1, HE2.out.1.1.c2, HE2.out.1.1.c3, HE2.out.1.1.c4⟩
                  obtain ⟨d0, d1, d2, d3, d4⟩ : w2.cell? ⟨w.heap.size + 1 + 1 + 1, 0, none⟩ = some (.int .i64 f) ∧ w2.cell? ⟨w.heap.size + 1 + 1 + 1, 1, none⟩ = some (.int .i64 0) ∧ w2.cell? ⟨w.heap.size + 1 + 1 + 1, 2, none⟩ = some (.int .i64 0) ∧ w2.cell? ⟨w.heap.size + 1 + 1 + 1, 3, none⟩ = some (.int .i64 s) ∧ w2.cell? ⟨w.heap.size + 1 + 1 + 1, 4, none⟩ = some (.int .i64 0) := ⟨HE2.out.2.c0, HE2.out.2.c1, HE2.out.2.c2, HE2.out.2.c3, HE2.out.2.c4⟩
                  have hfr := HE2.out.2.fr
                  go_wp2_with fail
                  refine (in_go ⟨#[49, 50, 51, 52, 53, 54, 55, 56, 57]⟩ k false _ (by decide) Hdigs.out).mono ?_
                  rintro e w3 ⟨rfl, hb⟩
                  have HE3 : Hid (Ent w w3 (f, 0, 0, s, 0) (f, 0, 0, s, 0)) := HE2.out.below hb
                  clear hb HE2 c0 c1 c2 c3 c4 d0 d1 d2 d3 d4 hfr
                  obtain ⟨c0, c1, c2, c3, c4⟩ : w3.cell? ⟨w.heap.size, 0, none⟩ = some (.int .i64 f) ∧ w3.cell? ⟨w.heap.size, 1, none⟩ = some (.int .i64 0) ∧ w3.cell? ⟨w.heap.size, 2, none⟩ = some (.int .i64 0) ∧ w3.cell? ⟨w.heap.size, 3, none⟩ = some (.int .i64 s) ∧ w3.cell? ⟨w.heap.size, 4, none⟩ = some (.int .i64 0) := ⟨HE3.out.1.1.c0, HE3.out.1.1.c1, HE3.out.1.1.c2, HE3.out.1.1.c3, HE3.out.1.1.c4⟩
                  obtain ⟨d0, d1, d2, d3, d4⟩ : w3.cell? ⟨w.heap.size + 1 + 1 + 1, 0, none⟩ = some (.int .i64 f) ∧ w3.cell? ⟨w.heap.size + 1 + 1 + 1, 1, none⟩ = some (.int .i64 0) ∧ w3.cell? ⟨w.heap.size + 1 + 1 + 1, 2, none⟩ = some (.int .i64 0) ∧ w3.cell? ⟨w.heap.size + 1 + 1 + 1, 3, none⟩ = some (.int .i64 s) ∧ w3.cell? ⟨w.heap.size + 1 + 1 + 1, 4, none⟩ = some (.int .i64 0) := ⟨HE3.out.2.c0, HE3.out.2.c1, HE3.out.2.c2, HE3.out.2.c3, HE3.out.2.c4⟩
                  have hfr := HE3.out.2.fr
                  go_wp2_with fail
                  refine (in_go ⟨#[100, 99, 121]⟩ k false _ (by decide) Hops.out).mono ?_
                  rintro e w4 ⟨rfl, hb⟩
                  have HE4 : Hid (Ent w w4 (f, 0, 0, s, 0) (f, 0, 0, s, 0)) := HE3.out.below hb
                  clear hb HE3 c0 c1 c2 c3 c4 d0 d1 d2 d3 d4 hfr
                  obtain ⟨c0, c1, c2, c3, c4⟩ : w4.cell? ⟨w.heap.size, 0, none⟩ = some (.int .i64 f) ∧ w4.cell? ⟨w.heap.size, 1, none⟩ = some (.int .i64 0) ∧ w4.cell? ⟨w.heap.size, 2, none⟩ = some (.int .i64 0) ∧ w4.cell? ⟨w.heap.size, 3, none⟩ = some (.int .i64 s) ∧ w4.cell? ⟨w.heap.size, 4, none⟩ = some (.int .i64 0) := ⟨HE4.out.1.1.c0, HE4.out.1.1.c1, HE4.out.1.1.c2, HE4.out.1.1.c3, HE4.out.1.1.c4⟩
                  obtain ⟨d0, d1, d2, d3, d4⟩ : w4.cell? ⟨w.heap.size + 1 + 1 + 1, 0, none⟩ = some (.int .i64 f) ∧ w4.cell? ⟨w.heap.size + 1 + 1 + 1, 1, none⟩ = some (.int .i64 0) ∧ w4.cell? ⟨w.heap.size + 1 + 1 + 1, 2, none⟩ = some (.int .i64 0) ∧ w4.cell? ⟨w.heap.size + 1 + 1 + 1, 3, none⟩ = some (.int .i64 s) ∧ w4.cell? ⟨w.heap.size + 1 + 1 + 1, 4, none⟩ = some (.int .i64 0) := ⟨HE4.out.2.c0, HE4.out.2.c1, HE4.out.2.c2, HE4.out.2.c3, HE4.out.2.c4⟩
                  have hfr := HE4.out.2.fr
                  go_wp2_with fail
                  refine (in_go ⟨#[100, 99, 121]⟩ k false _ (by decide) Hops.out).mono ?_
                  rintro e w5 ⟨rfl, hb⟩
                  have HE5 : Hid (Ent w w5 (f, 0, 0, s, 0) (f, 0, 0, s, 0)) := HE4.out.below hb
                  clear hb HE4 c0 c1 c2 c3 c4 d0 d1 d2 d3 d4 hfr
                  obtain ⟨c0, c1, c2, c3, c4⟩ : w5.cell? ⟨w.heap.size, 0, none⟩ = some (.int .i64 f) ∧ w5.cell? ⟨w.heap.size, 1, none⟩ = some (.int .i64 0) ∧ w5.cell? ⟨w.heap.size, 2, none⟩ = some (.int .i64 0) ∧ w5.cell? ⟨w.heap.size, 3, none⟩ = some (.int .i64 s) ∧ w5.cell? ⟨w.heap.size, 4, none⟩ = some (.int .i64 0) := ⟨HE5.out.1.1.c0, HE5.out.1.1.c1, HE5.out.1.1.c2, HE5.out.1.1.c3, HE5.out.1.1.c4⟩
                  obtain ⟨d0, d1, d2, d3, d4⟩ : w5.cell? ⟨w.heap.size + 1 + 1 + 1, 0, none⟩ = some (.int .i64 f) ∧ w5.cell? ⟨w.heap.size + 1 + 1 + 1, 1, none⟩ = some (.int .i64 0) ∧ w5.cell? ⟨w.heap.size + 1 + 1 + 1, 2, none⟩ = some (.int .i64 0) ∧ w5.cell? ⟨w.heap.size + 1 + 1 + 1, 3, none⟩ = some (.int .i64 s) ∧ w5.cell? ⟨w.heap.size + 1 + 1 + 1, 4, none⟩ = some (.int .i64 0) := ⟨HE5.out.2.c0, HE5.out.2.c1, HE5.out.2.c2, HE5.out.2.c3, HE5.out.2.c4⟩
                  have hfr := HE5.out.2.fr
                  go_wp2_with fail
                  refine (in_go ⟨#[104, 108, 48, 94, 36, 124, 119, 87, 98, 66, 101, 69, 37, 59, 44]⟩ k false _ (by decide) Hmots.out).mono ?_
                  rintro e w6 ⟨rfl, hb⟩
                  have HE6 : Hid (Ent w w6 (f, 0, 0, s, 0) (f, 0, 0, s, 0)) := HE5.out.below hb
                  clear hb HE5 c0 c1 c2 c3 c4 d0 d1 d2 d3 d4 hfr
                  obtain ⟨c0, c1, c2, c3, c4⟩ : w6.cell? ⟨w.heap.size, 0, none⟩ = some (.int .i64 f) ∧ w6.cell? ⟨w.heap.size, 1, none⟩ = some (.int .i64 0) ∧ w6.cell? ⟨w.heap.size, 2, none⟩ = some (.int .i64 0) ∧ w6.cell? ⟨w.heap.size, 3, none⟩ = some (.int .i64 s) ∧ w6.cell? ⟨w.heap.size, 4, none⟩ = some (.int .i64 0) := ⟨HE6.out.1.1.c0, HE6.out.1.1.c1, HE6.out.1.1.c2, HE6.out.1.1.c3, HE6.out.1.1.c4⟩
                  obtain ⟨d0, d1, d2, d3, d4⟩ : w6.cell? ⟨w.heap.size + 1 + 1 + 1, 0, none⟩ = some (.int .i64 f) ∧ w6.cell? ⟨w.heap.size + 1 + 1 + 1, 1, none⟩ = some (.int .i64 0) ∧ w6.cell? ⟨w.heap.size + 1 + 1 + 1, 2, none⟩ = some (.int .i64 0) ∧ w6.cell? ⟨w.heap.size + 1 + 1 + 1, 3, none⟩ = some (.int .i64 s) ∧ w6.cell? ⟨w.heap.size + 1 + 1 + 1, 4, none⟩ = some (.int .i64 0) := ⟨HE6.out.2.c0, HE6.out.2.c1, HE6.out.2.c2, HE6.out.2.c3, HE6.out.2.c4⟩
                  have hfr := HE6.out.2.fr
                  go_wp2_with fail
                  refine (in_go ⟨#[102, 70, 116, 84]⟩ k false _ (by decide) Hfnds.out).mono ?_
                  rintro e w7 ⟨rfl, hb⟩
                  have HE7 : Hid (Ent w w7 (f, 0, 0, s, 0) (f, 0, 0, s, 0)) := HE6.out.below hb
                  clear hb HE6 c0 c1 c2 c3 c4 d0 d1 d2 d3 d4 hfr
                  obtain ⟨c0, c1, c2, c3, c4⟩ : w7.cell? ⟨w.heap.size, 0, none⟩ = some (.int .i64 f) ∧ w7.cell? ⟨w.heap.size, 1, none⟩ = some (.int .i64 0) ∧ w7.cell? ⟨w.heap.size, 2, none⟩ = some (.int .i64 0) ∧ w7.cell? ⟨w.heap.size, 3, none⟩ = some (.int .i64 s) ∧ w7.cell? ⟨w.heap.size, 4, none⟩ = some (.int .i64 0) := ⟨HE7.out.1.1.c0, HE7.out.1.1.c1, HE7.out.1.1.c2, HE7.out.1.1.c3, HE7.out.1.1.c4⟩
                  obtain ⟨d0, d1, d2, d3, d4⟩ : w7.cell? ⟨w.heap.size + 1 + 1 + 1, 0, none⟩ = some (.int .i64 f) ∧ w7.cell? ⟨w.heap.size + 1 + 1 + 1, 1, none⟩ = some (.int .i64 0) ∧ w7.cell? ⟨w.heap.size + 1 + 1 + 1, 2, none⟩ = some (.int .i64 0) ∧ w7.cell? ⟨w.heap.size + 1 + 1 + 1, 3, none⟩ = some (.int .i64 s) ∧ w7.cell? ⟨w.heap.size + 1 + 1 + 1, 4, none⟩ = some (.int .i64 0) := ⟨HE7.out.2.c0, HE7.out.2.c1, HE7.out.2.c2, HE7.out.2.c3, HE7.out.2.c4⟩
                  have hfr := HE7.out.2.fr
                  go_wp2_with fail
                  refine (in_go ⟨#[105, 97]⟩ k false _ (by decide) Hsids.out).mono ?_
                  rintro e w8 ⟨rfl, hb⟩
                  have HE8 : Hid (Ent w w8 (f, 0, 0, s, 0) (f, 0, 0, s, 0)) := HE7.out.below hb
                  clear hb HE7 c0 c1 c2 c3 c4 d0 d1 d2 d3 d4 hfr
                  obtain ⟨c0, c1, c2, c3, c4⟩ : w8.cell? ⟨w.heap.size, 0, none⟩ = some (.int .i64 f) ∧ w8.cell? ⟨w.heap.size, 1, none⟩ = some (.int .i64 0) ∧ w8.cell? ⟨w.heap.size, 2, none⟩ = some (.int .i64 0) ∧ w8.cell? ⟨w.heap.size, 3, none⟩ = some (.int .i64 s) ∧ w8.cell? ⟨w.heap.size, 4, none⟩ = some (.int .i64 0) := ⟨HE8.out.1.1.c0, HE8.out.1.1.c1, HE8.out.1.1.c2, HE8.out.1.1.c3, HE8.out.1.1.c4⟩
                  obtain ⟨d0, d1, d2, d3, d4⟩ : w8.cell? ⟨w.heap.size + 1 + 1 + 1, 0, none⟩ = some (.int .i64 f) ∧ w8.cell? ⟨w.heap.size + 1 + 1 + 1, 1, none⟩ = some (.int .i64 0) ∧ w8.cell? ⟨w.heap.size + 1 + 1 + 1, 2, none⟩ = some (.int .i64 0) ∧ w8.cell? ⟨w.heap.size + 1 + 1 + 1, 3, none⟩ = some (.int .i64 s) ∧ w8.cell? ⟨w.heap.size + 1 + 1 + 1, 4, none⟩ = some (.int .i64 0) := ⟨HE8.out.2.c0, HE8.out.2.c1, HE8.out.2.c2, HE8.out.2.c3, HE8.out.2.c4⟩
                  have hfr := HE8.out.2.fr
                  go_wp2_with fail
                  refine (in_go ⟨#[105, 97, 73, 65, 115, 83, 67, 68, 120, 88, 112, 80, 89, 126, 117, 85, 46, 106, 107, 71, 47, 63, 110, 78, 82]⟩ k false _ (by decide) Hlons.out).mono ?_
                  rintro e w9 ⟨rfl, hb⟩
                  have HE9 : Hid (Ent w w9 (f, 0, 0, s, 0) (f, 0, 0, s, 0)) := HE8.out.below hb
                  clear hb HE8 c0 c1 c2 c3 c4 d0 d1 d2 d3 d4 hfr
                  obtain ⟨c0, c1, c2, c3, c4⟩ : w9.cell? ⟨w.heap.size, 0, none⟩ = some (.int .i64 f) ∧ w9.cell? ⟨w.heap.size, 1, none⟩ = some (.int .i64 0) ∧ w9.cell? ⟨w.heap.size, 2, none⟩ = some (.int .i64 0) ∧ w9.cell? ⟨w.heap.size, 3, none⟩ = some (.int .i64 s) ∧ w9.cell? ⟨w.heap.size, 4, none⟩ = some (.int .i64 0) := ⟨HE9.out.1.1.c0, HE9.out.1.1.c1, HE9.out.1.1.c2, HE9.out.1.1.c3, HE9.out.1.1.c4⟩
                  obtain ⟨d0, d1, d2, d3, d4⟩ : w9.cell? ⟨w.heap.size + 1 + 1 + 1, 0, none⟩ = some (.int .i64 f) ∧ w9.cell? ⟨w.heap.size + 1 + 1 + 1, 1, none⟩ = some (.int .i64 0) ∧ w9.cell? ⟨w.heap.size + 1 + 1 + 1, 2, none⟩ = some (.int .i64 0) ∧ w9.cell? ⟨w.heap.size + 1 + 1 + 1, 3, none⟩ = some (.int .i64 s) ∧ w9.cell? ⟨w.heap.size + 1 + 1 + 1, 4, none⟩ = some (.int .i64 0) := ⟨HE9.out.2.c0, HE9.out.2.c1, HE9.out.2.c2, HE9.out.2.c3, HE9.out.2.c4⟩
                  have hfr := HE9.out.2.fr
                  go_wp2_with fail
                  refine (refWrong_go _).mono ?_
                  rintro e w10 ⟨rfl, hb⟩
                  have HF : Hid (Enter w w10 (f, 0, 0, s, 0) w.heap.size (w.heap.size + 1) (w.heap.size + 1 + 1)) := Enter.below HE9.out.1 hb
                  clear hb HE9 c0 c1 c2 c3 c4 d0 d1 d2 d3 d4 hfr
                  go_wp2_with (first | (refine storeF rfl 27 _ _ rfl (.inl rfl) _ rfl wrg.1 zer rfl HF.out.2.1 ?_) | (refine storeF rfl 24 _ _ rfl (.inr rfl) _ rfl wrg.2.1 zer rfl (HF.out.2.2.1.other _ (by omega)) ?_))
                  exact HF.out.end 4 5 6 Tryd.results15 rfl rfl rfl rfl
                case true =>
                  have Hlons : Hid (has (codes ⟨#[105, 97, 73, 65, 115, 83, 67, 68, 120, 88, 112, 80, 89, 126, 117, 85, 46, 106, 107, 71, 47, 63, 110, 78, 82]⟩) k = true) := hlons
                  obtain rfl : R = don f 0 0 s k 0 := HR.out.trans (by simp [hops, hmots, hfnds, hsids, hlons, h114, h34])
                  clear HR
                  clear hops hmots hfnds hsids hlons h114 h34
                  go_enter Tryd.func15, Tryd.ntmps15
                  go_wp2_with fail
                  have HE1 : Hid (Ent w ((((w.alloc (.cells #[.int .i64 f, .int .i64 0, .int .i64 0, .int .i64 s, .int .i64 0] 27)).alloc (.cells #[.int .i64 0, .int .i64 0, .int .i64 0, .int .i64 0, .int .i64 0] 27)).alloc (.cells #[.int .i64 0, .int .i64 0, .int .i64 0, .int .i64 0, .int .i64 0] 24)).alloc (.cells #[.int .i64 f, .int .i64 0, .int .i64 0, .int .i64 s, .int .i64 0] 27)) (f, 0, 0, s, 0) (f, 0, 0, s, 0)) := ent_is w (f, 0, 0, s, 0)
                  generalize ((((w.alloc (.cells #[.int .i64 f, .int .i64 0, .int .i64 0, .int .i64 s, .int .i64 0] 27)).alloc (.cells #[.int .i64 0, .int .i64 0, .int .i64 0, .int .i64 0, .int .i64 0] 27)).alloc (.cells #[.int .i64 0, .int .i64 0, .int .i64 0, .int .i64 0, .int .i64 0] 24)).alloc (.cells #[.int .i64 f, .int .i64 0, .int .i64 0, .int .i64 s, .int .i64 0] 27)) = w1 at *
                  obtain ⟨c0, c1, c2, c3, c4⟩ : w1.cell? ⟨w.heap.size, 0, none⟩ = some (.int .i64 f) ∧ w1.cell? ⟨w.heap.size, 1, none⟩ = some (.int .i64 0) ∧ w1.cell? ⟨w.heap.size, 2, none⟩ = some (.int .i64 0) ∧ w1.cell? ⟨w.heap.size, 3, none⟩ = some (.int .i64 s) ∧ w1.cell? ⟨w.heap.size, 4, none⟩ = some (.int .i64 0) := ⟨HE1.out.1.1.c0, HE1.out.1.1.c1, HE1.out.1.1.c2, HE1.out.1.1.c3, HE1.out.1.1.c4⟩
                  obtain ⟨d0, d1, d2, d3, d4⟩ : w1.cell? ⟨w.heap.size + 1 + 1 + 1, 0, none⟩ = some (.int .i64 f) ∧ w1.cell? ⟨w.heap.size + 1 + 1 + 1, 1, none⟩ = some (.int .i64 0) ∧ w1.cell? ⟨w.heap.size + 1 + 1 + 1, 2, none⟩ = some (.int .i64 0) ∧ w1.cell? ⟨w.heap.size + 1 + 1 + 1, 3, none⟩ = some (.int .i64 s) ∧ w1.cell? ⟨w.heap.size + 1 + 1 + 1, 4, none⟩ = some (.int .i64 0) := ⟨HE1.out.2.c0, HE1.out.2.c1, HE1.out.2.c2, HE1.out.2.c3, HE1.out.2.c4⟩
                  have hfr := HE1.out.2.fr
                  refine (in_go ⟨#[105, 97]⟩ 0 false _ (by decide) (by decide)).mono ?_
                  rintro e w2 ⟨rfl, hb⟩
                  have HE2 : Hid (Ent w w2 (f, 0, 0, s, 0) (f, 0, 0, s, 0)) := HE1.out.below hb
                  clear hb HE1 c0 c1 c2 c3 c4 d0 d1 d2 d3 d4 hfr
                  obtain ⟨c0, c1, c2, c3, c4⟩ : w2.cell? ⟨w.heap.size, 0, none⟩ = some (.int .i64 f) ∧ w2.cell? ⟨w.heap.size, 1, none⟩ = some (.int .i64 0) ∧ w2.cell? ⟨w.heap.size, 2, none⟩ = some (.int .i64 0) ∧ w2.cell? ⟨w.heap.size, 3, none⟩ = some (.int .i64 s) ∧ w2.cell? ⟨w.heap.size, 4, none⟩ = some (.int .i64 0) := ⟨HE2.out.1.1.c0, HE2.out.1.1.c1, HE2.out.1.1.c2, HE2.out.1.1.c3, HE2.out.1.1.c4⟩
                  obtain ⟨d0, d1, d2, d3, d4⟩ : w2.cell? ⟨w.heap.size + 1 + 1 + 1, 0, none⟩ = some (.int .i64 f) ∧ w2.cell? ⟨w.heap.size + 1 + 1 + 1, 1, none⟩ = some (.int .i64 0) ∧ w2.cell? ⟨w.heap.size + 1 + 1 + 1, 2, none⟩ = some (.int .i64 0) ∧ w2.cell? ⟨w.heap.size + 1 + 1 + 1, 3, none⟩ = some (.int .i64 s) ∧ w2.cell? ⟨w.heap.size + 1 + 1 + 1, 4, none⟩ = some (.int .i64 0) := ⟨HE2.out.2.c0, HE2.out.2.c1, HE2.out.2.c2, HE2.out.2.c3, HE2.out.2.c4⟩
                  have hfr := HE2.out.2.fr
                  go_wp2_with fail
                  refine (in_go ⟨#[49, 50, 51, 52, 53, 54, 55, 56, 57]⟩ k false _ (by decide) Hdigs.out).mono ?_
                  rintro e w3 ⟨rfl, hb⟩
                  have HE3 : Hid (Ent w w3 (f, 0, 0, s, 0) (f, 0, 0, s, 0)) := HE2.out.below hb
                  clear hb HE2 c0 c1 c2 c3 c4 d0 d1 d2 d3 d4 hfr
                  obtain ⟨c0, c1, c2, c3, c4⟩ : w3.cell? ⟨w.heap.size, 0, none⟩ = some (.int .i64 f) ∧ w3.cell? ⟨w.heap.size, 1, none⟩ = some (.int .i64 0) ∧ w3.cell? ⟨w.heap.size, 2, none⟩ = some (.int .i64 0) ∧ w3.cell? ⟨w.heap.size, 3, none⟩ = some (.int .i64 s) ∧ w3.cell? ⟨w.heap.size, 4, none⟩ = some (.int .i64 0) := ⟨HE3.out.1.1.c0, HE3.out.1.1.c1, HE3.out.1.1.c2, HE3.out.1.1.c3, HE3.out.1.1.c4⟩
                  obtain ⟨d0, d1, d2, d3, d4⟩ : w3.cell? ⟨w.heap.size + 1 + 1 + 1, 0, none⟩ = some (.int .i64 f) ∧ w3.cell? ⟨w.heap.size + 1 + 1 + 1, 1, none⟩ = some (.int .i64 0) ∧ w3.cell? ⟨w.heap.size + 1 + 1 + 1, 2, none⟩ = some (.int .i64 0) ∧ w3.cell? ⟨w.heap.size + 1 + 1 + 1, 3, none⟩ = some (.int .i64 s) ∧ w3.cell? ⟨w.heap.size + 1 + 1 + 1, 4, none⟩ = some (.int .i64 0) := ⟨HE3.out.2.c0, HE3.out.2.c1, HE3.out.2.c2, HE3.out.2.c3, HE3.out.2.c4⟩
                  have hfr := HE3.out.2.fr
                  go_wp2_with fail
                  refine (in_go ⟨#[100, 99, 121]⟩ k false _ (by decide) Hops.out).mono ?_
                  rintro e w4 ⟨rfl, hb⟩
                  have HE4 : Hid (Ent w w4 (f, 0, 0, s, 0) (f, 0, 0, s, 0)) := HE3.out.below hb
                  clear hb HE3 c0 c1 c2 c3 c4 d0 d1 d2 d3 d4 hfr
                  obtain ⟨c0, c1, c2, c3, c4⟩ : w4.cell? ⟨w.heap.size, 0, none⟩ = some (.int .i64 f) ∧ w4.cell? ⟨w.heap.size, 1, none⟩ = some (.int .i64 0) ∧ w4.cell? ⟨w.heap.size, 2, none⟩ = some (.int .i64 0) ∧ w4.cell? ⟨w.heap.size, 3, none⟩ = some (.int .i64 s) ∧ w4.cell? ⟨w.heap.size, 4, none⟩ = some (.int .i64 0) := ⟨HE4.out.1.1.c0, HE4.out.1.1.c1, HE4.out.1.1.c2, HE4.out.1.1.c3, HE4.out.1.1.c4⟩
                  obtain ⟨d0, d1, d2, d3, d4⟩ : w4.cell? ⟨w.heap.size + 1 + 1 + 1, 0, none⟩ = some (.int .i64 f) ∧ w4.cell? ⟨w.heap.size + 1 + 1 + 1, 1, none⟩ = some (.int .i64 0) ∧ w4.cell? ⟨w.heap.size + 1 + 1 + 1, 2, none⟩ = some (.int .i64 0) ∧ w4.cell? ⟨w.heap.size + 1 + 1 + 1, 3, none⟩ = some (.int .i64 s) ∧ w4.cell? ⟨w.heap.size + 1 + 1 + 1, 4, none⟩ = some (.int .i64 0) := ⟨HE4.out.2.c0, HE4.out.2.c1, HE4.out.2.c2, HE4.out.2.c3, HE4.out.2.c4⟩
                  have hfr := HE4.out.2.fr
                  go_wp2_with fail
                  refine (in_go ⟨#[100, 99, 121]⟩ k false _ (by decide) Hops.out).mono ?_
                  rintro e w5 ⟨rfl, hb⟩
                  have HE5 : Hid (Ent w w5 (f, 0, 0, s, 0) (f, 0, 0, s, 0)) := HE4.out.below hb
                  clear hb HE4 c0 c1 c2 c3 c4 d0 d1 d2 d3 d4 hfr
                  obtain ⟨c0, c1, c2, c3, c4⟩ : w5.cell? ⟨w.heap.size, 0, none⟩ = some (.int .i64 f) ∧ w5.cell? ⟨w.heap.size, 1, none⟩ = some (.int .i64 0) ∧ w5.cell? ⟨w.heap.size, 2, none⟩ = some (.int .i64 0) ∧ w5.cell? ⟨w.heap.size, 3, none⟩ = some (.int .i64 s) ∧ w5.cell? ⟨w.heap.size, 4, none⟩ = some (.int .i64 0) := ⟨HE5.out.1.1.c0, HE5.out.1.1.c1, HE5.out.1.1.c2, HE5.out.1.1.c3, HE5.out.1.1.c4⟩
                  obtain ⟨d0, d1, d2, d3, d4⟩ : w5.cell? ⟨w.heap.size + 1 + 1 + 1, 0, none⟩ = some (.int .i64 f) ∧ w5.cell? ⟨w.heap.size + 1 + 1 + 1, 1, none⟩ = some (.int .i64 0) ∧ w5.cell? ⟨w.heap.size + 1 + 1 + 1, 2, none⟩ = some (.int .i64 0) ∧ w5.cell? ⟨w.heap.size + 1 + 1 + 1, 3, none⟩ = some (.int .i64 s) ∧ w5.cell? ⟨w.heap.size + 1 + 1 + 1, 4, none⟩ = some (.int .i64 0) := ⟨HE5.out.2.c0, HE5.out.2.c1, HE5.out.2.c2, HE5.out.2.c3, HE5.out.2.c4⟩
                  have hfr := HE5.out.2.fr
                  go_wp2_with fail
                  refine (in_go ⟨#[104, 108, 48, 94, 36, 124, 119, 87, 98, 66, 101, 69, 37, 59, 44]⟩ k false _ (by decide) Hmots.out).mono ?_
                  rintro e w6 ⟨rfl, hb⟩
                  have HE6 : Hid (Ent w w6 (f, 0, 0, s, 0) (f, 0, 0, s, 0)) := HE5.out.below hb
                  clear hb HE5 c0 c1 c2 c3 c4 d0 d1 d2 d3 d4 hfr
                  obtain ⟨c0, c1, c2, c3, c4⟩ : w6.cell? ⟨w.heap.size, 0, none⟩ = some (.int .i64 f) ∧ w6.cell? ⟨w.heap.size, 1, none⟩ = some (.int .i64 0) ∧ w6.cell? ⟨w.heap.size, 2, none⟩ = some (.int .i64 0) ∧ w6.cell? ⟨w.heap.size, 3, none⟩ = some (.int .i64 s) ∧ w6.cell? ⟨w.heap.size, 4, none⟩ = some (.int .i64 0) := ⟨HE6.out.1.1.c0, HE6.out.1.1.c1, HE6.out.1.1.c2, HE6.out.1.1.c3, HE6.out.1.1.c4⟩
                  obtain ⟨d0, d1, d2, d3, d4⟩ : w6.cell? ⟨w.heap.size + 1 + 1 + 1, 0, none⟩ = some (.int .i64 f) ∧ w6.cell? ⟨w.heap.size + 1 + 1 + 1, 1, none⟩ = some (.int .i64 0) ∧ w6.cell? ⟨w.heap.size + 1 + 1 + 1, 2, none⟩ = some (.int .i64 0) ∧ w6.cell? ⟨w.heap.size + 1 + 1 + 1, 3, none⟩ = some (.int .i64 s) ∧ w6.cell? ⟨w.heap.size + 1 + 1 + 1, 4, none⟩ = some (.int .i64 0) := ⟨HE6.out.2.c0, HE6.out.2.c1, HE6.out.2.c2, HE6.out.2.c3, HE6.out.2.c4⟩
                  have hfr := HE6.out.2.fr
                  go_wp2_with fail
                  refine (in_go ⟨#[102, 70, 116, 84]⟩ k false _ (by decide) Hfnds.out).mono ?_
                  rintro e w7 ⟨rfl, hb⟩
                  have HE7 : Hid (Ent w w7 (f, 0, 0, s, 0) (f, 0, 0, s, 0)) := HE6.out.below hb
                  clear hb HE6 c0 c1 c2 c3 c4 d0 d1 d2 d3 d4 hfr
                  obtain ⟨c0, c1, c2, c3, c4⟩ : w7.cell? ⟨w.heap.size, 0, none⟩ = some (.int .i64 f) ∧ w7.cell? ⟨w.heap.size, 1, none⟩ = some (.int .i64 0) ∧ w7.cell? ⟨w.heap.size, 2, none⟩ = some (.int .i64 0) ∧ w7.cell? ⟨w.heap.size, 3, none⟩ = some (.int .i64 s) ∧ w7.cell? ⟨w.heap.size, 4, none⟩ = some (.int .i64 0) := ⟨HE7.out.1.1.c0, HE7.out.1.1.c1, HE7.out.1.1.c2, HE7.out.1.1.c3, HE7.out.1.1.c4⟩
                  obtain ⟨d0, d1, d2, d3, d4⟩ : w7.cell? ⟨w.heap.size + 1 + 1 + 1, 0, none⟩ = some (.int .i64 f) ∧ w7.cell? ⟨w.heap.size + 1 + 1 + 1, 1, none⟩ = some (.int .i64 0) ∧ w7.cell? ⟨w.heap.size + 1 + 1 + 1, 2, none⟩ = some (.int .i64 0) ∧ w7.cell? ⟨w.heap.size + 1 + 1 + 1, 3, none⟩ = some (.int .i64 s) ∧ w7.cell? ⟨w.heap.size + 1 + 1 + 1, 4, none⟩ = some (.int .i64 0) := ⟨HE7.out.2.c0, HE7.out.2.c1, HE7.out.2.c2, HE7.out.2.c3, HE7.out.2.c4⟩
                  have hfr := HE7.out.2.fr
                  go_wp2_with fail
                  refine (in_go ⟨#[105, 97]⟩ k false _ (by decide) Hsids.out).mono ?_
                  rintro e w8 ⟨rfl, hb⟩
                  have HE8 : Hid (Ent w w8 (f, 0, 0, s, 0) (f, 0, 0, s, 0)) := HE7.out.below hb
                  clear hb HE7 c0 c1 c2 c3 c4 d0 d1 d2 d3 d4 hfr
                  obtain ⟨c0, c1, c2, c3, c4⟩ : w8.cell? ⟨w.heap.size, 0, none⟩ = some (.int .i64 f) ∧ w8.cell? ⟨w.heap.size, 1, none⟩ = some (.int .i64 0) ∧ w8.cell? ⟨w.heap.size, 2, none⟩ = some (.int .i64 0) ∧ w8.cell? ⟨w.heap.size, 3, none⟩ = some (.int .i64 s) ∧ w8.cell? ⟨w.heap.size, 4, none⟩ = some (.int .i64 0) := ⟨HE8.out.1.1.c0, HE8.out.1.1.c1, HE8.out.1.1.c2, HE8.out.1.1.c3, HE8.out.1.1.c4⟩
                  obtain ⟨d0, d1, d2, d3, d4⟩ : w8.cell? ⟨w.heap.size + 1 + 1 + 1, 0, none⟩ = some (.int .i64 f) ∧ w8.cell? ⟨w.heap.size + 1 + 1 + 1, 1, none⟩ = some (.int .i64 0) ∧ w8.cell? ⟨w.heap.size + 1 + 1 + 1, 2, none⟩ = some (.int .i64 0) ∧ w8.cell? ⟨w.heap.size + 1 + 1 + 1, 3, none⟩ = some (.int .i64 s) ∧ w8.cell? ⟨w.heap.size + 1 + 1 + 1, 4, none⟩ = some (.int .i64 0) := ⟨HE8.out.2.c0, HE8.out.2.c1, HE8.out.2.c2, HE8.out.2.c3, HE8.out.2.c4⟩
                  have hfr := HE8.out.2.fr
                  go_wp2_with fail
                  refine (in_go ⟨#[105, 97, 73, 65, 115, 83, 67, 68, 120, 88, 112, 80, 89, 126, 117, 85, 46, 106, 107, 71, 47, 63, 110, 78, 82]⟩ k true _ (by decide) Hlons.out).mono ?_
                  rintro e w9 ⟨rfl, hb⟩
                  have HE9 : Hid (Ent w w9 (f, 0, 0, s, 0) (f, 0, 0, s, 0)) := HE8.out.below hb
                  clear hb HE8 c0 c1 c2 c3 c4 d0 d1 d2 d3 d4 hfr
                  obtain ⟨c0, c1, c2, c3, c4⟩ : w9.cell? ⟨w.heap.size, 0, none⟩ = some (.int .i64 f) ∧ w9.cell? ⟨w.heap.size, 1, none⟩ = some (.int .i64 0) ∧ w9.cell? ⟨w.heap.size, 2, none⟩ = some (.int .i64 0) ∧ w9.cell? ⟨w.heap.size, 3, none⟩ = some (.int .i64 s) ∧ w9.cell? ⟨w.heap.size, 4, none⟩ = some (.int .i64 0) := ⟨HE9.out.1.1.c0, HE9.out.1.1.c1, HE9.out.1.1.c2, HE9.out.1.1.c3, HE9.out.1.1.c4⟩
                  obtain ⟨d0, d1, d2, d3, d4⟩ : w9.cell? ⟨w.heap.size + 1 + 1 + 1, 0, none⟩ = some (.int .i64 f) ∧ w9.cell? ⟨w.heap.size + 1 + 1 + 1, 1, none⟩ = some (.int .i64 0) ∧ w9.cell? ⟨w.heap.size + 1 + 1 + 1, 2, none⟩ = some (.int .i64 0) ∧ w9.cell? ⟨w.heap.size + 1 + 1 + 1, 3, none⟩ = some (.int .i64 s) ∧ w9.cell? ⟨w.heap.size + 1 + 1 + 1, 4, none⟩ = some (.int .i64 0) := ⟨HE9.out.2.c0, HE9.out.2.c1, HE9.out.2.c2, HE9.out.2.c3, HE9.out.2.c4⟩
                  have hfr := HE9.out.2.fr
                  go_wp2_with fail
                  refine (refDone_go f 0 0 s 0 k 0 w.heap.size _ HC.out.1 HC.out.2 HE9.out.1.1).mono ?_
                  rintro e w10 ⟨rfl, hb⟩
                  have HF : Hid (Enter w w10 (f, 0, 0, s, 0) w.heap.size (w.heap.size + 1) (w.heap.size + 1 + 1)) := Enter.below HE9.out.1 hb
                  clear hb HE9 c0 c1 c2 c3 c4 d0 d1 d2 d3 d4 hfr
                  go_wp2_with (first | (refine storeF rfl 27 _ _ rfl (.inl rfl) _ rfl (don f 0 0 s k 0).1 zer rfl HF.out.2.1 ?_) | (refine storeF rfl 24 _ _ rfl (.inr rfl) _ rfl (don f 0 0 s k 0).2.1 zer rfl (HF.out.2.2.1.other _ (by omega)) ?_))
                  exact HF.out.end 4 5 6 Tryd.results15 rfl rfl rfl rfl
            · have g4 : (r == 0) = false := by simpa using hr
              cases hlons : has lons k
              case false =>
                have Hlons : Hid (has (codes ⟨#[105, 97, 73, 65, 115, 83, 67, 68, 120, 88, 112, 80, 89, 126, 117, 85, 46, 106, 107, 71, 47, 63, 110, 78, 82]⟩) k = false) := hlons
                obtain rfl : R = wrg := HR.out.trans (by simp [hops, hmots, hfnds, hsids, hlons, h114, hr])
                clear HR
                clear hops hmots hfnds hsids hlons h114 hr
                go_enter Tryd.func15, Tryd.ntmps15
                go_wp2_with fail
                have HE1 : Hid (Ent w ((((w.alloc (.cells #[.int .i64 f, .int .i64 r, .int .i64 0, .int .i64 s, .int .i64 0] 27)).alloc (.cells #[.int .i64 0, .int .i64 0, .int .i64 0, .int .i64 0, .int .i64 0] 27)).alloc (.cells #[.int .i64 0, .int .i64 0, .int .i64 0, .int .i64 0, .int .i64 0] 24)).alloc (.cells #[.int .i64 f, .int .i64 r, .int .i64 0, .int .i64 s, .int .i64 0] 27)) (f, r, 0, s, 0) (f, r, 0, s, 0)) := ent_is w (f, r, 0, s, 0)
                generalize ((((w.alloc (.cells #[.int .i64 f, .int .i64 r, .int .i64 0, .int .i64 s, .int .i64 0] 27)).alloc (.cells #[.int .i64 0, .int .i64 0, .int .i64 0, .int .i64 0, .int .i64 0] 27)).alloc (.cells #[.int .i64 0, .int .i64 0, .int .i64 0, .int .i64 0, .int .i64 0] 24)).alloc (.cells #[.int .i64 f, .int .i64 r, .int .i64 0, .int .i64 s, .int .i64 0] 27)) = w1 at *
                obtain ⟨c0, c1, c2, c3, c4⟩ : w1.cell? ⟨w.heap.size, 0, none⟩ = some (.int .i64 f) ∧ w1.cell? ⟨w.heap.size, 1, none⟩ = some (.int .i64 r) ∧ w1.cell? ⟨w.heap.size, 2, none⟩ = some (.int .i64 0) ∧ w1.cell? ⟨w.heap.size, 3, none⟩ = some (.int .i64 s) ∧ w1.cell? ⟨w.heap.size, 4, none⟩ = some (.int .i64 0) := ⟨HE1.out.1.1.c0, HE1.out.1.1.c1, HE1.out.1.1.c2, HE1.out.1.1.c3, HE1.out.1.1.c4⟩
                obtain ⟨d0, d1, d2, d3, d4⟩ : w1.cell? ⟨w.heap.size + 1 + 1 + 1, 0, none⟩ = some (.int .i64 f) ∧ w1.cell? ⟨w.heap.size + 1 + 1 + 1, 1, none⟩ = some (.int .i64 r) ∧ w1.cell? ⟨w.heap.size + 1 + 1 + 1, 2, none⟩ = some (.int .i64 0) ∧ w1.cell? ⟨w.heap.size + 1 + 1 + 1, 3, none⟩ = some (.int .i64 s) ∧ w1.cell? ⟨w.heap.size + 1 + 1 + 1, 4, none⟩ = some (.int .i64 0) := ⟨HE1.out.2.c0, HE1.out.2.c1, HE1.out.2.c2, HE1.out.2.c3, HE1.out.2.c4⟩
                have hfr := HE1.out.2.fr
                refine (in_go ⟨#[105, 97]⟩ 0 false _ (by decide) (by decide)).mono ?_
                rintro e w2 ⟨rfl, hb⟩
                have HE2 : Hid (Ent w w2 (f, r, 0, s, 0) (f, r, 0, s, 0)) := HE1.out.below hb
                clear hb HE1 c0 c1 c2 c3 c4 d0 d1 d2 d3 d4 hfr
                obtain ⟨c0, c1, c2, c3, c4⟩ : w2.cell? ⟨w.heap.size, 0, none⟩ = some (.int .i64 f) ∧ w2.cell? ⟨w.heap.size, 1, none⟩ = some (.int .i64 r) ∧ w2.cell? ⟨w.heap.size, 2, none⟩ = some (.int .i64 0) ∧ w2.cell? ⟨w.heap.size, 3, none⟩ = some (.int .i64 s) ∧ w2.cell? ⟨w.heap.size, 4, none⟩ = some (.int .i64 0) := ⟨HE2.out.1.1.c0, HE2.out.1.1.c1, HE2.out.1.1.c2, HE2.out.1.1.c3, HE2.out.1.1.c4⟩
                obtain ⟨d0, d1, d2, d3, d4⟩ : w2.cell? ⟨w.heap.size + 1 + 1 + 1, 0, none⟩ = some (.int .i64 f) ∧ w2.cell? ⟨w.heap.size + 1 + 1 + 1, 1, none⟩ = some (.int .i64 r) ∧ w2.cell? ⟨w.heap.size + 1 + 1 + 1, 2, none⟩ = some (.int .i64 0) ∧ w2.cell? ⟨w.heap.size + 1 + 1 + 1, 3, none⟩ = some (.int .i64 s) ∧ w2.cell? ⟨w.heap.size + 1 + 1 + 1, 4, none⟩ = some (.int .i64 0) := ⟨HE2.out.2.c0, HE2.out.2.c1, HE2.out.2.c2, HE2.out.2.c3, HE2.out.2.c4⟩
                have hfr := HE2.out.2.fr
                go_wp2_with fail
                refine (in_go ⟨#[49, 50, 51, 52, 53, 54, 55, 56, 57]⟩ k false _ (by decide) Hdigs.out).mono ?_
                rintro e w3 ⟨rfl, hb⟩
                have HE3 : Hid (Ent w w3 (f, r, 0, s, 0) (f, r, 0, s, 0)) := HE2.out.below hb
                clear hb HE2 c0 c1 c2 c3 c4 d0 d1 d2 d3 d4 hfr
                obtain ⟨c0, c1, c2, c3, c4⟩ : w3.cell? ⟨w.heap.size, 0, none⟩ = some (.int .i64 f) ∧ w3.cell? ⟨w.heap.size, 1, none⟩ = some (.int .i64 r) ∧ w3.cell? ⟨w.heap.size, 2, none⟩ = some (.int .i64 0) ∧ w3.cell? ⟨w.heap.size, 3, none⟩ = some (.int .i64 s) ∧ w3.cell? ⟨w.heap.size, 4, none⟩ = some (.int .i64 0) := ⟨HE3.out.1.1.c0, HE3.out.1.1.c1, HE3.out.1.1.c2, HE3.out.1.1.c3, HE3.out.1.1.c4⟩
                obtain ⟨d0, d1, d2, d3, d4⟩ : w3.cell? ⟨w.heap.size + 1 + 1 + 1, 0, none⟩ = some (.int .i64 f) ∧ w3.cell? ⟨w.heap.size + 1 + 1 + 1, 1, none⟩ = some (.int .i64 r) ∧ w3.cell? ⟨w.heap.size + 1 + 1 + 1, 2, none⟩ = some (.int .i64 0) ∧ w3.cell? ⟨w.heap.size + 1 + 1 + 1, 3, none⟩ = some (.int .i64 s) ∧ w3.cell? ⟨w.heap.size + 1 + 1 + 1, 4, none⟩ = some (.int .i64 0) := ⟨HE3.out.2.c0, HE3.out.2.c1, HE3.out.2.c2, HE3.out.2.c3, HE3.out.2.c4⟩
                have hfr := HE3.out.2.fr
                go_wp2_with fail
                refine (in_go ⟨#[100, 99, 121]⟩ k false _ (by decide) Hops.out).mono ?_
                rintro e w4 ⟨rfl, hb⟩
                have HE4 : Hid (Ent w w4 (f, r, 0, s, 0) (f, r, 0, s, 0)) := HE3.out.below hb
                clear hb HE3 c0 c1 c2 c3 c4 d0 d1 d2 d3 d4 hfr
                obtain ⟨c0, c1, c2, c3, c4⟩ : w4.cell? ⟨w.heap.size, 0, none⟩ = some (.int .i64 f) ∧ w4.cell? ⟨w.heap.size, 1, none⟩ = some (.int .i64 r) ∧ w4.cell? ⟨w.heap.size, 2, none⟩ = some (.int .i64 0) ∧ w4.cell? ⟨w.heap.size, 3, none⟩ = some (.int .i64 s) ∧ w4.cell? ⟨w.heap.size, 4, none⟩ = some (.int .i64 0) := ⟨HE4.out.1.1.c0, HE4.out.1.1.c1, HE4.out.1.1.c2, HE4.out.1.1.c3, HE4.out.1.1.c4⟩
                obtain ⟨d0, d1, d2, d3, d4⟩ : w4.cell? ⟨w.heap.size + 1 + 1 + 1, 0, none⟩ = some (.int .i64 f) ∧ w4.cell? ⟨w.heap.size + 1 + 1 + 1, 1, none⟩ = some (.int .i64 r) ∧ w4.cell? ⟨w.heap.size + 1 + 1 + 1, 2, none⟩ = some (.int .i64 0) ∧ w4.cell? ⟨w.heap.size + 1 + 1 + 1, 3, none⟩ = some (.int .i64 s) ∧ w4.cell? ⟨w.heap.size + 1 + 1 + 1, 4, none⟩ = some (.int .i64 0) := ⟨HE4.out.2.c0, HE4.out.2.c1, HE4.out.2.c2, HE4.out.2.c3, HE4.out.2.c4⟩
                have hfr := HE4.out.2.fr
                go_wp2_with fail
                refine (in_go ⟨#[100, 99, 121]⟩ k false _ (by decide) Hops.out).mono ?_
                rintro e w5 ⟨rfl, hb⟩
                have HE5 : Hid (Ent w w5 (f, r, 0, s, 0) (f, r, 0, s, 0)) := HE4.out.below hb
                clear hb HE4 c0 c1 c2 c3 c4 d0 d1 d2 d3 d4 hfr
                obtain ⟨c0, c1, c2, c3, c4⟩ : w5.cell? ⟨w.heap.size, 0, none⟩ = some (.int .i64 f) ∧ w5.cell? ⟨w.heap.size, 1, none⟩ = some (.int .i64 r) ∧ w5.cell? ⟨w.heap.size, 2, none⟩ = some (.int .i64 0) ∧ w5.cell? ⟨w.heap.size, 3, none⟩ = some (.int .i64 s) ∧ w5.cell? ⟨w.heap.size, 4, none⟩ = some (.int .i64 0) := ⟨HE5.out.1.1.c0, HE5.out.1.1.c1, HE5.out.1.1.c2, HE5.out.1.1.c3, HE5.out.1.1.c4⟩
                obtain ⟨d0, d1, d2, d3, d4⟩ : w5.cell? ⟨w.heap.size + 1 + 1 + 1, 0, none⟩ = some (.int .i64 f) ∧ w5.cell? ⟨w.heap.size + 1 + 1 + 1, 1, none⟩ = some (.int .i64 r) ∧ w5.cell? ⟨w.heap.size + 1 + 1 + 1, 2, none⟩ = some (.int .i64 0) ∧ w5.cell? ⟨w.heap.size + 1 + 1 + 1, 3, none⟩ = some (.int .i64 s) ∧ w5.cell? ⟨w.heap.size + 1 + 1 + 1, 4, none⟩ = some (.int .i64 0) := ⟨HE5.out.2.c0, HE5.out.2.c1, HE5.out.2.c2, HE5.out.2.c3, HE5.out.2.c4⟩
                have hfr := HE5.out.2.fr
                go_wp2_with fail
                refine (in_go ⟨#[104, 108, 48, 94, 36, 124, 119, 87, 98, 66, 101, 69, 37, 59, 44]⟩ k false _ (by decide) Hmots.out).mono ?_
                rintro e w6 ⟨rfl, hb⟩
                have HE6 : Hid (Ent w w6 (f, r, 0, s, 0) (f, r, 0, s, 0)) := HE5.out.below hb
                clear hb HE5 c0 c1 c2 c3 c4 d0 d1 d2 d3 d4 hfr
                obtain ⟨c0, c1, c2, c3, c4⟩ : w6.cell? ⟨w.heap.size, 0, none⟩ = some (.int .i64 f) ∧ w6.cell? ⟨w.heap.size, 1, none⟩ = some (.int .i64 r) ∧ w6.cell? ⟨w.heap.size, 2, none⟩ = some (.int .i64 0) ∧ w6.cell? ⟨w.heap.size, 3, none⟩ = some (.int .i64 s) ∧ w6.cell? ⟨w.heap.size, 4, none⟩ = some (.int .i64 0) := ⟨HE6.out.1.1.c0, HE6.out.1.1.c1, HE6.out.1.1.c2, HE6.out.1.1.c3, HE6.out.1.1.c4⟩
                obtain ⟨d0, d1, d2, d3, d4⟩ : w6.cell? ⟨w.heap.size + 1 + 1 + 1, 0, none⟩ = some (.int .i64 f) ∧ w6.cell? ⟨w.heap.size + 1 + 1 + 1, 1, none⟩ = some (.int .i64 r) ∧ w6.cell? ⟨w.heap.size + 1 + 1 + 1, 2, none⟩ = some (.int .i64 0) ∧ w6.cell? ⟨w.heap.size + 1 + 1 + 1, 3, none⟩ = some (.int .i64 s) ∧ w6.cell? ⟨w.heap.size + 1 + 1 + 1, 4, none⟩ = some (.int .i64 0) := ⟨HE6.out.2.c0, HE6.out.2.c1, HE6.out.2.c2, HE6.out.2.c3, HE6.out.2.c4⟩
                have hfr := HE6.out.2.fr
                go_wp2_with fail
                refine (in_go ⟨#[102, 70, 116, 84]⟩ k false _ (by decide) Hfnds.out).mono ?_
                rintro e w7 ⟨rfl, hb⟩
                have HE7 : Hid (Ent w w7 (f, r, 0, s, 0) (f, r, 0, s, 0)) := HE6.out.below hb
                clear hb HE6 c0 c1 c2 c3 c4 d0 d1 d2 d3 d4 hfr
                obtain ⟨c0, c1, c2, c3, c4⟩ : w7.cell? ⟨w.heap.size, 0, none⟩ = some (.int .i64 f) ∧ w7.cell? ⟨w.heap.size, 1, none⟩ = some (.int .i64 r) ∧ w7.cell? ⟨w.heap.size, 2, none⟩ = some (.int .i64 0) ∧ w7.cell? ⟨w.heap.size, 3, none⟩ = some (.int .i64 s) ∧ w7.cell? ⟨w.heap.size, 4, none⟩ = some (.int .i64 0) := ⟨HE7.out.1.1.c0, HE7.out.1.1.c1, HE7.out.1.1.c2, HE7.out.1.1.c3, HE7.out.1.1.c4⟩
                obtain ⟨d0, d1, d2, d3, d4⟩ : w7.cell? ⟨w.heap.size + 1 + 1 + 1, 0, none⟩ = some (.int .i64 f) ∧ w7.cell? ⟨w.heap.size + 1 + 1 + 1, 1, none⟩ = some (.int .i64 r) ∧ w7.cell? ⟨w.heap.size + 1 + 1 + 1, 2, none⟩ = some (.int .i64 0) ∧ w7.cell? ⟨w.heap.size + 1 + 1 + 1, 3, none⟩ = some (.int .i64 s) ∧ w7.cell? ⟨w.heap.size + 1 + 1 + 1, 4, none⟩ = some (.int .i64 0) := ⟨HE7.out.2.c0, HE7.out.2.c1, HE7.out.2.c2, HE7.out.2.c3, HE7.out.2.c4⟩
                have hfr := HE7.out.2.fr
                go_wp2_with fail
                refine (in_go ⟨#[105, 97]⟩ k false _ (by decide) Hsids.out).mono ?_
                rintro e w8 ⟨rfl, hb⟩
                have HE8 : Hid (Ent w w8 (f, r, 0, s, 0) (f, r, 0, s, 0)) := HE7.out.below hb
                clear hb HE7 c0 c1 c2 c3 c4 d0 d1 d2 d3 d4 hfr
                obtain ⟨c0, c1, c2, c3, c4⟩ : w8.cell? ⟨w.heap.size, 0, none⟩ = some (.int .i64 f) ∧ w8.cell? ⟨w.heap.size, 1, none⟩ = some (.int .i64 r) ∧ w8.cell? ⟨w.heap.size, 2, none⟩ = some (.int .i64 0) ∧ w8.cell? ⟨w.heap.size, 3, none⟩ = some (.int .i64 s) ∧ w8.cell? ⟨w.heap.size, 4, none⟩ = some (.int .i64 0) := ⟨HE8.out.1.1.c0, HE8.out.1.1.c1, HE8.out.1.1.c2, HE8.out.1.1.c3, HE8.out.1.1.c4⟩
                obtain ⟨d0, d1, d2, d3, d4⟩ : w8.cell? ⟨w.heap.size + 1 + 1 + 1, 0, none⟩ = some (.int .i64 f) ∧ w8.cell? ⟨w.heap.size + 1 + 1 + 1, 1, none⟩ = some (.int .i64 r) ∧ w8.cell? ⟨w.heap.size + 1 + 1 + 1, 2, none⟩ = some (.int .i64 0) ∧ w8.cell? ⟨w.heap.size + 1 + 1 + 1, 3, none⟩ = some (.int .i64 s) ∧ w8.cell? ⟨w.heap.size + 1 + 1 + 1, 4, none⟩ = some (.int .i64 0) := ⟨HE8.out.2.c0, HE8.out.2.c1, HE8.out.2.c2, HE8.out.2.c3, HE8.out.2.c4⟩
                have hfr := HE8.out.2.fr
                go_wp2_with fail
                refine (in_go ⟨#[105, 97, 73, 65, 115, 83, 67, 68, 120, 88, 112, 80, 89, 126, 117, 85, 46, 106, 107, 71, 47, 63, 110, 78, 82]⟩ k false _ (by decide) Hlons.out).mono ?_
                rintro e w9 ⟨rfl, hb⟩
                have HE9 : Hid (Ent w w9 (f, r, 0, s, 0) (f, r, 0, s, 0)) := HE8.out.below hb
                clear hb HE8 c0 c1 c2 c3 c4 d0 d1 d2 d3 d4 hfr
                obtain ⟨c0, c1, c2, c3, c4⟩ : w9.cell? ⟨w.heap.size, 0, none⟩ = some (.int .i64 f) ∧ w9.cell? ⟨w.heap.size, 1, none⟩ = some (.int .i64 r) ∧ w9.cell? ⟨w.heap.size, 2, none⟩ = some (.int .i64 0) ∧ w9.cell? ⟨w.heap.size, 3, none⟩ = some (.int .i64 s) ∧ w9.cell? ⟨w.heap.size, 4, none⟩ = some (.int .i64 0) := ⟨HE9.out.1.1.c0, HE9.out.1.1.c1, HE9.out.1.1.c2, HE9.out.1.1.c3, HE9.out.1.1.c4⟩
                obtain ⟨d0, d1, d2, d3, d4⟩ : w9.cell? ⟨w.heap.size + 1 + 1 + 1, 0, none⟩ = some (.int .i64 f) ∧ w9.cell? ⟨w.heap.size + 1 + 1 + 1, 1, none⟩ = some (.int .i64 r) ∧ w9.cell? ⟨w.heap.size + 1 + 1 + 1, 2, none⟩ = some (.int .i64 0) ∧ w9.cell? ⟨w.heap.size + 1 + 1 + 1, 3, none⟩ = some (.int .i64 s) ∧ w9.cell? ⟨w.heap.size + 1 + 1 + 1, 4, none⟩ = some (.int .i64 0) := ⟨HE9.out.2.c0, HE9.out.2.c1, HE9.out.2.c2, HE9.out.2.c3, HE9.out.2.c4⟩
                have hfr := HE9.out.2.fr
                go_wp2_with fail
                refine (refWrong_go _).mono ?_
                rintro e w10 ⟨rfl, hb⟩
                have HF : Hid (Enter w w10 (f, r, 0, s, 0) w.heap.size (w.heap.size + 1) (w.heap.size + 1 + 1)) := Enter.below HE9.out.1 hb
                clear hb HE9 c0 c1 c2 c3 c4 d0 d1 d2 d3 d4 hfr
                go_wp2_with (first | (refine storeF rfl 27 _ _ rfl (.inl rfl) _ rfl wrg.1 zer rfl HF.out.2.1 ?_) | (refine storeF rfl 24 _ _ rfl (.inr rfl) _ rfl wrg.2.1 zer rfl (HF.out.2.2.1.other _ (by omega)) ?_))
                exact HF.out.end 4 5 6 Tryd.results15 rfl rfl rfl rfl
              case true =>
                have Hlons : Hid (has (codes ⟨#[105, 97, 73, 65, 115, 83, 67, 68, 120, 88, 112, 80, 89, 126, 117, 85, 46, 106, 107, 71, 47, 63, 110, 78, 82]⟩) k = true) := hlons
                obtain rfl : R = don f r 0 s k 0 := HR.out.trans (by simp [hops, hmots, hfnds, hsids, hlons, h114, hr])
                clear HR
                clear hops hmots hfnds hsids hlons h114 hr
                go_enter Tryd.func15, Tryd.ntmps15
                go_wp2_with fail
                have HE1 : Hid (Ent w ((((w.alloc (.cells #[.int .i64 f, .int .i64 r, .int .i64 0, .int .i64 s, .int .i64 0] 27)).alloc (.cells #[.int .i64 0, .int .i64 0, .int .i64 0, .int .i64 0, .int .i64 0] 27)).alloc (.cells #[.int .i64 0, .int .i64 0, .int .i64 0, .int .i64 0, .int .i64 0] 24)).alloc (.cells #[.int .i64 f, .int .i64 r, .int .i64 0, .int .i64 s, .int .i64 0] 27)) (f, r, 0, s, 0) (f, r, 0, s, 0)) := ent_is w (f, r, 0, s, 0)
                generalize ((((w.alloc (.cells #[.int .i64 f, .int .i64 r, .int .i64 0, .int .i64 s, .int .i64 0] 27)).alloc (.cells #[.int .i64 0, .int .i64 0, .int .i64 0, .int .i64 0, .int .i64 0] 27)).alloc (.cells #[.int .i64 0, .int .i64 0, .int .i64 0, .int .i64 0, .int .i64 0] 24)).alloc (.cells #[.int .i64 f, .int .i64 r, .int .i64 0, .int .i64 s, .int .i64 0] 27)) = w1 at *
                obtain ⟨c0, c1, c2, c3, c4⟩ : w1.cell? ⟨w.heap.size, 0, none⟩ = some (.int .i64 f) ∧ w1.cell? ⟨w.heap.size, 1, none⟩ = some (.int .i64 r) ∧ w1.cell? ⟨w.heap.size, 2, none⟩ = some (.int .i64 0) ∧ w1.cell? ⟨w.heap.size, 3, none⟩ = some (.int .i64 s) ∧ w1.cell? ⟨w.heap.size, 4, none⟩ = some (.int .i64 0) := ⟨HE1.out.1.1.c0, HE1.out.1.1.c1, HE1.out.1.1.c2, HE1.out.1.1.c3, HE1.out.1.1.c4⟩
                obtain ⟨d0, d1, d2, d3, d4⟩ : w1.cell? ⟨w.heap.size + 1 + 1 + 1, 0, none⟩ = some (.int .i64 f) ∧ w1.cell? ⟨w.heap.size + 1 + 1 + 1, 1, none⟩ = some (.int .i64 r) ∧ w1.cell? ⟨w.heap.size + 1 + 1 + 1, 2, none⟩ = some (.int .i64 0) ∧ w1.cell? ⟨w.heap.size + 1 + 1 + 1, 3, none⟩ = some (.int .i64 s) ∧ w1.cell? ⟨w.heap.size + 1 + 1 + 1, 4, none⟩ = some (.int .i64 0) := ⟨HE1.out.2.c0, HE1.out.2.c1, HE1.out.2.c2, HE1.out.2.c3, HE1.out.2.c4⟩
                have hfr := HE1.out.2.fr
                refine (in_go ⟨#[105, 97]⟩ 0 false _ (by decide) (by decide)).mono ?_
                rintro e w2 ⟨rfl, hb⟩
                have HE2 : Hid (Ent w w2 (f, r, 0, s, 0) (f, r, 0, s, 0)) := HE1.out.below hb
                clear hb HE1 c0 c1 c2 c3 c4 d0 d1 d2 d3 d4 hfr
                obtain ⟨c0, c1, c2, c3, c4⟩ : w2.cell? ⟨w.heap.size, 0, none⟩ = some (.int .i64 f) ∧ w2.cell? ⟨w.heap.size, 1, none⟩ = some (.int .i64 r) ∧ w2.cell? ⟨w.heap.size, 2, none⟩ = some (.int .i64 0) ∧ w2.cell? ⟨w.heap.size, 3, none⟩ = some (.int .i64 s) ∧ w2.cell? ⟨w.heap.size, 4, none⟩ = some (.int .i64 0) := ⟨HE2.out.1.1.c0, HE2.out.1.1.c1, HE2.out.1.1.c2, HE2.out.1.1.c3, HE2.out.1.1.c4⟩
                obtain ⟨d0, d1, d2, d3, d4⟩ : w2.cell? ⟨w.heap.size + 1 + 1 + 1, 0, none⟩ = some (.int .i64 f) ∧ w2.cell? ⟨w.heap.size + 1 + 1 + 1, 1, none⟩ = some (.int .i64 r) ∧ w2.cell? ⟨w.heap.size + 1 + 1 + 1, 2, none⟩ = some (.int .i64 0) ∧ w2.cell? ⟨w.heap.size + 1 + 1 + 1, 3, none⟩ = some (.int .i64 s) ∧ w2.cell? ⟨w.heap.size + 1 + 1 + 1, 4, none⟩ = some (.int .i64 0) := ⟨HE2.out.2.c0, HE2.out.2.c1, HE2.out.2.c2, HE2.out.2.c3, HE2.out.2.c4⟩
                have hfr := HE2.out.2.fr
                go_wp2_with fail
                refine (in_go ⟨#[49, 50, 51, 52, 53, 54, 55, 56, 57]⟩ k false _ (by decide) Hdigs.out).mono ?_
                rintro e w3 ⟨rfl, hb⟩
                have HE3 : Hid (Ent w w3 (f, r, 0, s, 0) (f, r, 0, s, 0)) := HE2.out.below hb
                clear hb HE2 c0 c1 c2 c3 c4 d0 d1 d2 d3 d4 hfr
                obtain ⟨c0, c1, c2, c3, c4⟩ : w3.cell? ⟨w.heap.size, 0, none⟩ = some (.int .i64 f) ∧ w3.cell? ⟨w.heap.size, 1, none⟩ = some (.int .i64 r) ∧ w3.cell? ⟨w.heap.size, 2, none⟩ = some (.int .i64 0) ∧ w3.cell? ⟨w.heap.size, 3, none⟩ = some (.int .i64 s) ∧ w3.cell? ⟨w.heap.size, 4, none⟩ = some (.int .i64 0) := ⟨HE3.out.1.1.c0, HE3.out.1.1.c1, HE3.out.1.1.c2, HE3.out.1.1.c3, HE3.out.1.1.c4⟩
                obtain ⟨d0, d1, d2, d3, d4⟩ : w3.cell? ⟨w.heap.size + 1 + 1 + 1, 0, none⟩ = some (.int .i64 f) ∧ w3.cell? ⟨w.heap.size + 1 + 1 + 1, 1, none⟩ = some (.int .i64 r) ∧ w3.cell? ⟨w.heap.size + 1 + 1 + 1, 2, none⟩ = some (.int .i64 0) ∧ w3.cell? ⟨w.heap.size + 1 + 1 + 1, 3, none⟩ = some (.int .i64 s) ∧ w3.cell? ⟨w.heap.size + 1 + 1 + 1, 4, none⟩ = some (.int .i64 0) := ⟨HE3.out.2.c0, HE3.out.2.c1, HE3.out.2.c2, HE3.out.2.c3, HE3.out.2.c4⟩
                have hfr := HE3.out.2.fr
                go_wp2_with fail
                refine (in_go ⟨#[100, 99, 121]⟩ k false _ (by decide) Hops.out).mono ?_
                rintro e w4 ⟨rfl, hb⟩
                have HE4 : Hid (Ent w w4 (f, r, 0, s, 0) (f, r, 0, s, 0)) := HE3.out.below hb
                clear hb HE3 c0 c1 c2 c3 c4 d0 d1 d2 d3 d4 hfr
                obtain ⟨c0, c1, c2, c3, c4⟩ : w4.cell? ⟨w.heap.size, 0, none⟩ = some (.int .i64 f) ∧ w4.cell? ⟨w.heap.size, 1, none⟩ = some (.int .i64 r) ∧ w4.cell? ⟨w.heap.size, 2, none⟩ = some (.int .i64 0) ∧ w4.cell? ⟨w.heap.size, 3, none⟩ = some (.int .i64 s) ∧ w4.cell? ⟨w.heap.size, 4, none⟩ = some (.int .i64 0) := ⟨HE4.out.1.1.c0, HE4.out.1.1.c1, HE4.out.1.1.c2, HE4.out.1.1.c3, HE4.out.1.1.c4⟩
                obtain ⟨d0, d1, d2, d3, d4⟩ : w4.cell? ⟨w.heap.size + 1 + 1 + 1, 0, none⟩ = some (.int .i64 f) ∧ w4.cell? ⟨w.heap.size + 1 + 1 + 1, 1, none⟩ = some (.int .i64 r) ∧ w4.cell? ⟨w.heap.size + 1 + 1 + 1, 2, none⟩ = some (.int .i64 0) ∧ w4.cell? ⟨w.heap.size + 1 + 1 + 1, 3, none⟩ = some (.int .i64 s) ∧ w4.cell? ⟨w.heap.size + 1 + 1 + 1, 4, none⟩ = some (.int .i64 0) := ⟨HE4.out.2.c0, HE4.out.2.c1, HE4.out.2.c2, HE4.out.2.c3, HE4.out.2.c4⟩
                have hfr := HE4.out.2.fr
                go_wp2_with fail
                refine (in_go ⟨#[100, 99, 121]⟩ k false _ (by decide) Hops.out).mono ?_
                rintro e w5 ⟨rfl, hb⟩
                have HE5 : Hid (Ent w w5 (f, r, 0, s, 0) (f, r, 0, s, 0)) := HE4.out.below hb
                clear hb HE4 c0 c1 c2 c3 c4 d0 d1 d2 d3 d4 hfr
                obtain ⟨c0, c1, c2, c3, c4⟩ : w5.cell? ⟨w.heap.size, 0, none⟩ = some (.int .i64 f) ∧ w5.cell? ⟨w.heap.size, 1, none⟩ = some (.int .i64 r) ∧ w5.cell? ⟨w.heap.size, 2, none⟩ = some (.int .i64 0) ∧ w5.cell? ⟨w.heap.size, 3, none⟩ = some (.int .i64 s) ∧ w5.cell? ⟨w.heap.size, 4, none⟩ = some (.int .i64 0) := ⟨HE5.out.1.1.c0, HE5.out.1.1.c1, HE5.out.1.1.c2, HE5.out.1.1.c3, HE5.out.1.1.c4⟩
                obtain ⟨d0, d1, d2, d3, d4⟩ : w5.cell? ⟨w.heap.size + 1 + 1 + 1, 0, none⟩ = some (.int .i64 f) ∧ w5.cell? ⟨w.heap.size + 1 + 1 + 1, 1, none⟩ = some (.int .i64 r) ∧ w5.cell? ⟨w.heap.size + 1 + 1 + 1, 2, none⟩ = some (.int .i64 0) ∧ w5.cell? ⟨w.heap.size + 1 + 1 + 1, 3, none⟩ = some (.int .i64 s) ∧ w5.cell? ⟨w.heap.size + 1 + 1 + 1, 4, none⟩ = some (.int .i64 0) := ⟨HE5.out.2.c0, HE5.out.2.c1, HE5.out.2.c2, HE5.out.2.c3, HE5.out.2.c4⟩
                have hfr := HE5.out.2.fr
                go_wp2_with fail
                refine (in_go ⟨#[104, 108, 48, 94, 36, 124, 119, 87, 98, 66, 101, 69, 37, 59, 44]⟩ k false _ (by decide) Hmots.out).mono ?_
                rintro e w6 ⟨rfl, hb⟩
                have HE6 : Hid (Ent w w6 (f, r, 0, s, 0) (f, r, 0, s, 0)) := HE5.out.below hb
                clear hb HE5 c0 c1 c2 c3 c4 d0 d1 d2 d3 d4 hfr
                obtain ⟨c0, c1, c2, c3, c4⟩ : w6.cell? ⟨w.heap.size, 0, none⟩ = some (.int .i64 f) ∧ w6.cell? ⟨w.heap.size, 1, none⟩ = some (.int .i64 r) ∧ w6.cell? ⟨w.heap.size, 2, none⟩ = some (.int .i64 0) ∧ w6.cell? ⟨w.heap.size, 3, none⟩ = some (.int .i64 s) ∧ w6.cell? ⟨w.heap.size, 4, none⟩ = some (.int .i64 0) := ⟨HE6.out.1.1.c0, HE6.out.1.1.c1, HE6.out.1.1.c2, HE6.out.1.1.c3, HE6.out.1.1.c4⟩
                obtain ⟨d0, d1, d2, d3, d4⟩ : w6.cell? ⟨w.heap.size + 1 + 1 + 1, 0, none⟩ = some (.int .i64 f) ∧ w6.cell? ⟨w.heap.size + 1 + 1 + 1, 1, none⟩ = some (.int .i64 r) ∧ w6.cell? ⟨w.heap.size + 1 + 1 + 1, 2, none⟩ = some (.int .i64 0) ∧ w6.cell? ⟨w.heap.size + 1 + 1 + 1, 3, none⟩ = some (.int .i64 s) ∧ w6.cell? ⟨w.heap.size + 1 + 1 + 1, 4, none⟩ = some (.int .i64 0) := ⟨HE6.out.2.c0, HE6.out.2.c1, HE6.out.2.c2, HE6.out.2.c3, HE6.out.2.c4⟩
                have hfr := HE6.out.2.fr
                go_wp2_with fail
                refine (in_go ⟨#[102, 70, 116, 84]⟩ k false _ (by decide) Hfnds.out).mono ?_
                rintro e w7 ⟨rfl, hb⟩
                have HE7 : Hid (Ent w w7 (f, r, 0, s, 0) (f, r, 0, s, 0)) := HE6.out.below hb
                clear hb HE6 c0 c1 c2 c3 c4 d0 d1 d2 d3 d4 hfr
                obtain ⟨c0, c1, c2, c3, c4⟩ : w7.cell? ⟨w.heap.size, 0, none⟩ = some (.int .i64 f) ∧ w7.cell? ⟨w.heap.size, 1, none⟩ = some (.int .i64 r) ∧ w7.cell? ⟨w.heap.size, 2, none⟩ = some (.int .i64 0) ∧ w7.cell? ⟨w.heap.size, 3, none⟩ = some (.int .i64 s) ∧ w7.cell? ⟨w.heap.size, 4, none⟩ = some (.int .i64 0) := ⟨HE7.out.1.1.c0, HE7.out.1.1.c1, HE7.out.1.1.c2, HE7.out.1.1.c3, HE7.out.1.1.c4⟩
                obtain ⟨d0, d1, d2, d3, d4⟩ : w7.cell? ⟨w.heap.size + 1 + 1 + 1, 0, none⟩ = some (.int .i64 f) ∧ w7.cell? ⟨w.heap.size + 1 + 1 + 1, 1, none⟩ = some (.int .i64 r) ∧ w7.cell? ⟨w.heap.size + 1 + 1 + 1, 2, none⟩ = some (.int .i64 0) ∧ w7.cell? ⟨w.heap.size + 1 + 1 + 1, 3, none⟩ = some (.int .i64 s) ∧ w7.cell? ⟨w.heap.size + 1 + 1 + 1, 4, none⟩ = some (.int .i64 0) := ⟨HE7.out.2.c0, HE7.out.2.c1, HE7.out.2.c2, HE7.out.2.c3, HE7.out.2.c4⟩
                have hfr := HE7.out.2.fr
                go_wp2_with fail
                refine (in_go ⟨#[105, 97]⟩ k false _ (by decide) Hsids.out).mono ?_
                rintro e w8 ⟨rfl, hb⟩
                have HE8 : Hid (Ent w w8 (f, r, 0, s, 0) (f, r, 0, s, 0)) := HE7.out.below hb
                clear hb HE7 c0 c1 c2 c3 c4 d0 d1 d2 d3 d4 hfr
                obtain ⟨c0, c1, c2, c3, c4⟩ : w8.cell? ⟨w.heap.size, 0, none⟩ = some (.int .i64 f) ∧ w8.cell? ⟨w.heap.size, 1, none⟩ = some (.int .i64 r) ∧ w8.cell? ⟨w.heap.size, 2, none⟩ = some (.int .i64 0) ∧ w8.cell? ⟨w.heap.size, 3, none⟩ = some (.int .i64 s) ∧ w8.cell? ⟨w.heap.size, 4, none⟩ = some (.int .i64 0) := ⟨HE8.out.1.1.c0, HE8.out.1.1.c1, HE8.out.1.1.c2, HE8.out.1.1.c3, HE8.out.1.1.c4⟩
                obtain ⟨d0, d1, d2, d3, d4⟩ : w8.cell? ⟨w.heap.size + 1 + 1 + 1, 0, none⟩ = some (.int .i64 f) ∧ w8.cell? ⟨w.heap.size + 1 + 1 + 1, 1, none⟩ = some (.int .i64 r) ∧ w8.cell? ⟨w.heap.size + 1 + 1 + 1, 2, none⟩ = some (.int .i64 0) ∧ w8.cell? ⟨w.heap.size + 1 + 1 + 1, 3, none⟩ = some (.int .i64 s) ∧ w8.cell? ⟨w.heap.size + 1 + 1 + 1, 4, none⟩ = some (.int .i64 0) := ⟨HE8.out.2.c0, HE8.out.2.c1, HE8.out.2.c2, HE8.out.2.c3, HE8.out.2.c4⟩
                have hfr := HE8.out.2.fr
                go_wp2_with fail
                refine (in_go ⟨#[105, 97, 73, 65, 115, 83, 67, 68, 120, 88, 112, 80, 89, 126, 117, 85, 46, 106, 107, 71, 47, 63, 110, 78, 82]⟩ k true _ (by decide) Hlons.out).mono ?_
                rintro e w9 ⟨rfl, hb⟩
                have HE9 : Hid (Ent w w9 (f, r, 0, s, 0) (f, r, 0, s, 0)) := HE8.out.below hb
                clear hb HE8 c0 c1 c2 c3 c4 d0 d1 d2 d3 d4 hfr
                obtain ⟨c0, c1, c2, c3, c4⟩ : w9.cell? ⟨w.heap.size, 0, none⟩ = some (.int .i64 f) ∧ w9.cell? ⟨w.heap.size, 1, none⟩ = some (.int .i64 r) ∧ w9.cell? ⟨w.heap.size, 2, none⟩ = some (.int .i64 0) ∧ w9.cell? ⟨w.heap.size, 3, none⟩ = some (.int .i64 s) ∧ w9.cell? ⟨w.heap.size, 4, none⟩ = some (.int .i64 0) := ⟨HE9.out.1.1.c0, HE9.out.1.1.c1, HE9.out.1.1.c2, HE9.out.1.1.c3, HE9.out.1.1.c4⟩
                obtain ⟨d0, d1, d2, d3, d4⟩ : w9.cell? ⟨w.heap.size + 1 + 1 + 1, 0, none⟩ = some (.int .i64 f) ∧ w9.cell? ⟨w.heap.size + 1 + 1 + 1, 1, none⟩ = some (.int .i64 r) ∧ w9.cell? ⟨w.heap.size + 1 + 1 + 1, 2, none⟩ = some (.int .i64 0) ∧ w9.cell? ⟨w.heap.size + 1 + 1 + 1, 3, none⟩ = some (.int .i64 s) ∧ w9.cell? ⟨w.heap.size + 1 + 1 + 1, 4, none⟩ = some (.int .i64 0) := ⟨HE9.out.2.c0, HE9.out.2.c1, HE9.out.2.c2, HE9.out.2.c3, HE9.out.2.c4⟩
                have hfr := HE9.out.2.fr
                go_wp2_with fail
                refine (refDone_go f r 0 s 0 k 0 w.heap.size _ HC.out.1 HC.out.2 HE9.out.1.1).mono ?_
                rintro e w10 ⟨rfl, hb⟩
                have HF : Hid (Enter w w10 (f, r, 0, s, 0) w.heap.size (w.heap.size + 1) (w.heap.size + 1 + 1)) := Enter.below HE9.out.1 hb
                clear hb HE9 c0 c1 c2 c3 c4 d0 d1 d2 d3 d4 hfr
                go_wp2_with (first | (refine storeF rfl 27 _ _ rfl (.inl rfl) _ rfl (don f r 0 s k 0).1 zer rfl HF.out.2.1 ?_) | (refine storeF rfl 24 _ _ rfl (.inr rfl) _ rfl (don f r 0 s k 0).2.1 zer rfl (HF.out.2.2.1.other _ (by omega)) ?_))
                exact HF.out.end 4 5 6 Tryd.results15 rfl rfl rfl rfl

end Go.Proofs.YtjpgjhdkgmddfaaDoor.Seek
