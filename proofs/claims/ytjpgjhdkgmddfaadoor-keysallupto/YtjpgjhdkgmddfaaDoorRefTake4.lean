/- The document's Take: other keys with an operator. -/
import Derived.Test.YtjpgjhdkgmddfaaDoorRefTake0
set_option linter.unusedVariables false
set_option linter.unusedSimpArgs false
namespace Go.Proofs.YtjpgjhdkgmddfaaDoor.Seek
open Go.RowKit Plain

set_option maxRecDepth 100000 in
set_option maxHeartbeats 2000000 in
theorem ref_op (f r o s k : Int) (w : World) (hf : 0 ≤ f ∧ f ≤ 999) (hs : 0 ≤ s ∧ s ≤ 999) (h1 : 32 ≤ k) (h2 : (k == 127) = false) (h3 : k < 48 ∨ 57 < k) (ho : o ≠ 0) :
    Calls Tryd.prog 15 #[.agg #[.int .i64 f, .int .i64 r, .int .i64 o, .int .i64 s, .int .i64 0], .int .i64 k] w fun e w' => TookPost (if has ops k = true ∧ o = 0 then mor (f, r, k, s, 0) else if (has ops k = true ∧ o = k) ∨ has mots k = true then don f r o s k 0 else if has fnds k = true ∨ (has sids k = true ∧ o ≠ 0) ∨ (o = 0 ∧ k = 114) ∨ (o = 0 ∧ r = 0 ∧ k = 34) then mor (f, r, o, s, k) else if o = 0 ∧ has lons k = true then don f r o s k 0 else wrg) w e w' := by
  have HC : Hid ((0 ≤ f ∧ f ≤ 999) ∧ (0 ≤ s ∧ s ≤ 999)) := ⟨hf, hs⟩
  clear hf hs
  obtain ⟨R, hR⟩ : ∃ R : Took, R = if has ops k = true ∧ o = 0 then mor (f, r, k, s, 0) else if (has ops k = true ∧ o = k) ∨ has mots k = true then don f r o s k 0 else if has fnds k = true ∨ (has sids k = true ∧ o ≠ 0) ∨ (o = 0 ∧ k = 114) ∨ (o = 0 ∧ r = 0 ∧ k = 34) then mor (f, r, o, s, k) else if o = 0 ∧ has lons k = true then don f r o s k 0 else wrg := ⟨_, rfl⟩
  rw [← hR]
  have HR : Hid (R = if has ops k = true ∧ o = 0 then mor (f, r, k, s, 0) else if (has ops k = true ∧ o = k) ∨ has mots k = true then don f r o s k 0 else if has fnds k = true ∨ (has sids k = true ∧ o ≠ 0) ∨ (o = 0 ∧ k = 114) ∨ (o = 0 ∧ r = 0 ∧ k = 34) then mor (f, r, o, s, k) else if o = 0 ∧ has lons k = true then don f r o s k 0 else wrg) := hR
  clear hR
  have hdigs : has digs k = false := bool_no (fun g => by have := (has_digs k).1 g; omega)
  have g48 : (k == 48) = false := by simp only [beq_eq_false_iff_ne]; omega
  have Hdigs : Hid (has (codes ⟨#[49, 50, 51, 52, 53, 54, 55, 56, 57]⟩) k = false) := hdigs
  clear hdigs h3
  have g0 : (o != 0) = true := by simpa using ho
  have g1 : (o == 0) = false := by simpa using ho
  cases hops : has ops k
  case true =>
    have Hops : Hid (has (codes ⟨#[100, 99, 121]⟩) k = true) := hops
    by_cases hok : o = k
    · subst hok
      obtain rfl : R = don f r o s o 0 := HR.out.trans (by simp [hops, ho])
      clear HR
      clear hops ho
      go_enter Tryd.func15, Tryd.ntmps15
      go_wp2_with fail
      have HE1 : Hid (Ent w ((((w.alloc (.cells #[.int .i64 f, .int .i64 r, .int .i64 o, .int .i64 s, .int .i64 0] 27)).alloc (.cells #[.int .i64 0, .int .i64 0, .int .i64 0, .int .i64 0, .int .i64 0] 27)).alloc (.cells #[.int .i64 0, .int .i64 0, .int .i64 0, .int .i64 0, .int .i64 0] 24)).alloc (.cells #[.int .i64 f, .int .i64 r, .int .i64 o, .int .i64 s, .int .i64 0] 27)) (f, r, o, s, 0) (f, r, o, s, 0)) := ent_is w (f, r, o, s, 0)
      generalize ((((w.alloc (.cells #[.int .i64 f, .int .i64 r, .int .i64 o, .int .i64 s, .int .i64 0] 27)).alloc (.cells #[.int .i64 0, .int .i64 0, .int .i64 0, .int .i64 0, .int .i64 0] 27)).alloc (.cells #[.int .i64 0, .int .i64 0, .int .i64 0, .int .i64 0, .int .i64 0] 24)).alloc (.cells #[.int .i64 f, .int .i64 r, .int .i64 o, .int .i64 s, .int .i64 0] 27)) = w1 at *
      obtain ⟨c0, c1, c2, c3, c4⟩ : w1.cell? ⟨w.heap.size, 0, none⟩ = some (.int .i64 f) ∧ w1.cell? ⟨w.heap.size, 1, none⟩ = some (.int .i64 r) ∧ w1.cell? ⟨w.heap.size, 2, none⟩ = some (.int .i64 o) ∧ w1.cell? ⟨w.heap.size, 3, none⟩ = some (.int .i64 s) ∧ w1.cell? ⟨w.heap.size, 4, none⟩ = some (.int .i64 0) := ⟨HE1.out.1.1.c0, HE1.out.1.1.c1, HE1.out.1.1.c2, HE1.out.1.1.c3, HE1.out.1.1.c4⟩
      obtain ⟨d0, d1, d2, d3, d4⟩ : w1.cell? ⟨w.heap.size + 1 + 1 + 1, 0, none⟩ = some (.int .i64 f) ∧ w1.cell? ⟨w.heap.size + 1 + 1 + 1, 1, none⟩ = some (.int .i64 r) ∧ w1.cell? ⟨w.heap.size + 1 + 1 + 1, 2, none⟩ = some (.int .i64 o) ∧ w1.cell? ⟨w.heap.size + 1 + 1 + 1, 3, none⟩ = some (.int .i64 s) ∧ w1.cell? ⟨w.heap.size + 1 + 1 + 1, 4, none⟩ = some (.int .i64 0) := ⟨HE1.out.2.c0, HE1.out.2.c1, HE1.out.2.c2, HE1.out.2.c3, HE1.out.2.c4⟩
      have hfr := HE1.out.2.fr
      refine (in_go ⟨#[105, 97]⟩ 0 false _ (by decide) (by decide)).mono ?_
      rintro e w2 ⟨rfl, hb⟩
      have HE2 : Hid (Ent w w2 (f, r, o, s, 0) (f, r, o, s, 0)) := HE1.out.below hb
      clear hb HE1 c0 c1 c2 c3 c4 d0 d1 d2 d3 d4 hfr
      obtain ⟨c0, c1, c2, c3, c4⟩ : w2.cell? ⟨w.heap.size, 0, none⟩ = some (.int .i64 f) ∧ w2.cell? ⟨w.heap.size, 1, none⟩ = some (.int .i64 r) ∧ w2.cell? ⟨w.heap.size, 2, none⟩ = some (.int .i64 o) ∧ w2.cell? ⟨w.heap.size, 3, none⟩ = some (.int .i64 s) ∧ w2.cell? ⟨w.heap.size, 4, none⟩ = some (.int .i64 0) := ⟨HE2.out.1.1.c0, HE2.out.1.1.c1, HE2.out.1.1.c2, HE2.out.1.1.c3, HE2.out.1.1.c4⟩
      obtain ⟨d0, d1, d2, d3, d4⟩ : w2.cell? ⟨w.heap.size + 1 + 1 + 1, 0, none⟩ = some (.int .i64 f) ∧ w2.cell? ⟨w.heap.size + 1 + 1 + 1, 1, none⟩ = some (.int .i64 r) ∧ w2.cell? ⟨w.heap.size + 1 + 1 + 1, 2, none⟩ = some (.int .i64 o) ∧ w2.cell? ⟨w.heap.size + 1 + 1 + 1, 3, none⟩ = some (.int .i64 s) ∧ w2.cell? ⟨w.heap.size + 1 + 1 + 1, 4, none⟩ = some (.int .i64 0) := ⟨HE2.out.2.c0, HE2.out.2.c1, HE2.out.2.c2, HE2.out.2.c3, HE2.out.2.c4⟩
      have hfr := HE2.out.2.fr
      go_wp2_with fail
      refine (in_go ⟨#[49, 50, 51, 52, 53, 54, 55, 56, 57]⟩ o false _ (by decide) Hdigs.out).mono ?_
      rintro e w3 ⟨rfl, hb⟩
      have HE3 : Hid (Ent w w3 (f, r, o, s, 0) (f, r, o, s, 0)) := HE2.out.below hb
      clear hb HE2 c0 c1 c2 c3 c4 d0 d1 d2 d3 d4 hfr
      obtain ⟨c0, c1, c2, c3, c4⟩ : w3.cell? ⟨w.heap.size, 0, none⟩ = some (.int .i64 f) ∧ w3.cell? ⟨w.heap.size, 1, none⟩ = some (.int .i64 r) ∧ w3.cell? ⟨w.heap.size, 2, none⟩ = some (.int .i64 o) ∧ w3.cell? ⟨w.heap.size, 3, none⟩ = some (.int .i64 s) ∧ w3.cell? ⟨w.heap.size, 4, none⟩ = some (.int .i64 0) := ⟨HE3.out.1.1.c0, HE3.out.1.1.c1, HE3.out.1.1.c2, HE3.out.1.1.c3, HE3.out.1.1.c4⟩
      obtain ⟨d0, d1, d2, d3, d4⟩ : w3.cell? ⟨w.heap.size + 1 + 1 + 1, 0, none⟩ = some (.int .i64 f) ∧ w3.cell? ⟨w.heap.size + 1 + 1 + 1, 1, none⟩ = some (.int .i64 r) ∧ w3.cell? ⟨w.heap.size + 1 + 1 + 1, 2, none⟩ = some (.int .i64 o) ∧ w3.cell? ⟨w.heap.size + 1 + 1 + 1, 3, none⟩ = some (.int .i64 s) ∧ w3.cell? ⟨w.heap.size + 1 + 1 + 1, 4, none⟩ = some (.int .i64 0) := ⟨HE3.out.2.c0, HE3.out.2.c1, HE3.out.2.c2, HE3.out.2.c3, HE3.out.2.c4⟩
      have hfr := HE3.out.2.fr
      go_wp2_with fail
      refine (in_go ⟨#[100, 99, 121]⟩ o true _ (by decide) Hops.out).mono ?_
      rintro e w4 ⟨rfl, hb⟩
      have HE4 : Hid (Ent w w4 (f, r, o, s, 0) (f, r, o, s, 0)) := HE3.out.below hb
      clear hb HE3 c0 c1 c2 c3 c4 d0 d1 d2 d3 d4 hfr
      obtain ⟨c0, c1, c2, c3, c4⟩ : w4.cell? ⟨w.heap.size, 0, none⟩ = some (.int .i64 f) ∧ w4.cell? ⟨w.heap.size, 1, none⟩ = some (.int .i64 r) ∧ w4.cell? ⟨w.heap.size, 2, none⟩ = some (.int .i64 o) ∧ w4.cell? ⟨w.heap.size, 3, none⟩ = some (.int .i64 s) ∧ w4.cell? ⟨w.heap.size, 4, none⟩ = some (.int .i64 0) := ⟨HE4.out.1.1.c0, HE4.out.1.1.c1, HE4.out.1.1.c2, HE4.out.1.1.c3, HE4.out.1.1.c4⟩
      obtain ⟨d0, d1, d2, d3, d4⟩ : w4.cell? ⟨w.heap.size + 1 + 1 + 1, 0, none⟩ = some (.int .i64 f) ∧ w4.cell? ⟨w.heap.size + 1 + 1 + 1, 1, none⟩ = some (.int .i64 r) ∧ w4.cell? ⟨w.heap.size + 1 + 1 + 1, 2, none⟩ = some (.int .i64 o) ∧ w4.cell? ⟨w.heap.size + 1 + 1 + 1, 3, none⟩ = some (.int .i64 s) ∧ w4.cell? ⟨w.heap.size + 1 + 1 + 1, 4, none⟩ = some (.int .i64 0) := ⟨HE4.out.2.c0, HE4.out.2.c1, HE4.out.2.c2, HE4.out.2.c3, HE4.out.2.c4⟩
      have hfr := HE4.out.2.fr
      go_wp2_with fail
      refine (in_go ⟨#[100, 99, 121]⟩ o true _ (by decide) Hops.out).mono ?_
      rintro e w5 ⟨rfl, hb⟩
      have HE5 : Hid (Ent w w5 (f, r, o, s, 0) (f, r, o, s, 0)) := HE4.out.below hb
      clear hb HE4 c0 c1 c2 c3 c4 d0 d1 d2 d3 d4 hfr
      obtain ⟨c0, c1, c2, c3, c4⟩ : w5.cell? ⟨w.heap.size, 0, none⟩ = some (.int .i64 f) ∧ w5.cell? ⟨w.heap.size, 1, none⟩ = some (.int .i64 r) ∧ w5.cell? ⟨w.heap.size, 2, none⟩ = some (.int .i64 o) ∧ w5.cell? ⟨w.heap.size, 3, none⟩ = some (.int .i64 s) ∧ w5.cell? ⟨w.heap.size, 4, none⟩ = some (.int .i64 0) := ⟨HE5.out.1.1.c0, HE5.out.1.1.c1, HE5.out.1.1.c2, HE5.out.1.1.c3, HE5.out.1.1.c4⟩
      obtain ⟨d0, d1, d2, d3, d4⟩ : w5.cell? ⟨w.heap.size + 1 + 1 + 1, 0, none⟩ = some (.int .i64 f) ∧ w5.cell? ⟨w.heap.size + 1 + 1 + 1, 1, none⟩ = some (.int .i64 r) ∧ w5.cell? ⟨w.heap.size + 1 + 1 + 1, 2, none⟩ = some (.int .i64 o) ∧ w5.cell? ⟨w.heap.size + 1 + 1 + 1, 3, none⟩ = some (.int .i64 s) ∧ w5.cell? ⟨w.heap.size + 1 + 1 + 1, 4, none⟩ = some (.int .i64 0) := ⟨HE5.out.2.c0, HE5.out.2.c1, HE5.out.2.c2, HE5.out.2.c3, HE5.out.2.c4⟩
      have hfr := HE5.out.2.fr
      go_wp2_with fail
      refine (refDone_go f r o s 0 o 0 w.heap.size _ HC.out.1 HC.out.2 HE5.out.1.1).mono ?_
      rintro e w6 ⟨rfl, hb⟩
      have HF : Hid (Enter w w6 (f, r, o, s, 0) w.heap.size (w.heap.size + 1) (w.heap.size + 1 + 1)) := Enter.below HE5.out.1 hb
      clear hb HE5 c0 c1 c2 c3 c4 d0 d1 d2 d3 d4 hfr
      go_wp2_with (first | (refine storeF rfl 27 _ _ rfl (.inl rfl) _ rfl (don f r o s o 0).1 zer rfl HF.out.2.1 ?_) | (refine storeF rfl 24 _ _ rfl (.inr rfl) _ rfl (don f r o s o 0).2.1 zer rfl (HF.out.2.2.1.other _ (by omega)) ?_))
      exact HF.out.end 4 5 6 Tryd.results15 rfl rfl rfl rfl
    · have g5 : (o == k) = false := by simpa using hok
      have hk := (has_ops k).1 hops
      have hmots : has mots k = false := bool_no (fun g => by have := (has_mots k).1 g; omega)
      have hfnds : has fnds k = false := bool_no (fun g => by have := (has_fnds k).1 g; omega)
      have hsids : has sids k = false := bool_no (fun g => by have := (has_sids k).1 g; omega)
      have Hmots : Hid (has (codes ⟨#[104, 108, 48, 94, 36, 124, 119, 87, 98, 66, 101, 69, 37, 59, 44]⟩) k = false) := hmots
      have Hfnds : Hid (has (codes ⟨#[102, 70, 116, 84]⟩) k = false) := hfnds
      have Hsids : Hid (has (codes ⟨#[105, 97]⟩) k = false) := hsids
      obtain rfl : R = wrg := HR.out.trans (by simp [hops, ho, hok, hmots, hfnds, hsids])
      clear HR
      clear hops ho hok hmots hfnds hsids hk
      go_enter Tryd.func15, Tryd.ntmps15
      go_wp2_with fail
      have HE1 : Hid (Ent w ((((w.alloc (.cells #[.int .i64 f, .int .i64 r, .int .i64 o, .int .i64 s, .int .i64 0] 27)).alloc (.cells #[.int .i64 0, .int .i64 0, .int .i64 0, .int .i64 0, .int .i64 0] 27)).alloc (.cells #[.int .i64 0, .int .i64 0, .int .i64 0, .int .i64 0, .int .i64 0] 24)).alloc (.cells #[.int .i64 f, .int .i64 r, .int .i64 o, .int .i64 s, .int .i64 0] 27)) (f, r, o, s, 0) (f, r, o, s, 0)) := ent_is w (f, r, o, s, 0)
      generalize ((((w.alloc (.cells #[.int .i64 f, .int .i64 r, .int .i64 o, .int .i64 s, .int .i64 0] 27)).alloc (.cells #[.int .i64 0, .int .i64 0, .int .i64 0, .int .i64 0, .int .i64 0] 27)).alloc (.cells #[.int .i64 0, .int .i64 0, .int .i64 0, .int .i64 0, .int .i64 0] 24)).alloc (.cells #[.int .i64 f, .int .i64 r, .int .i64 o, .int .i64 s, .int .i64 0] 27)) = w1 at *
      obtain ⟨c0, c1, c2, c3, c4⟩ : w1.cell? ⟨w.heap.size, 0, none⟩ = some (.int .i64 f) ∧ w1.cell? ⟨w.heap.size, 1, none⟩ = some (.int .i64 r) ∧ w1.cell? ⟨w.heap.size, 2, none⟩ = some (.int .i64 o) ∧ w1.cell? ⟨w.heap.size, 3, none⟩ = some (.int .i64 s) ∧ w1.cell? ⟨w.heap.size, 4, none⟩ = some (.int .i64 0) := ⟨HE1.out.1.1.c0, HE1.out.1.1.c1, HE1.out.1.1.c2, HE1.out.1.1.c3, HE1.out.1.1.c4⟩
      obtain ⟨d0, d1, d2, d3, d4⟩ : w1.cell? ⟨w.heap.size + 1 + 1 + 1, 0, none⟩ = some (.int .i64 f) ∧ w1.cell? ⟨w.heap.size + 1 + 1 + 1, 1, none⟩ = some (.int .i64 r) ∧ w1.cell? ⟨w.heap.size + 1 + 1 + 1, 2, none⟩ = some (.int .i64 o) ∧ w1.cell? ⟨w.heap.size + 1 + 1 + 1, 3, none⟩ = some (.int .i64 s) ∧ w1.cell? ⟨w.heap.size + 1 + 1 + 1, 4, none⟩ = some (.int .i64 0) := ⟨HE1.out.2.c0, HE1.out.2.c1, HE1.out.2.c2, HE1.out.2.c3, HE1.out.2.c4⟩
      have hfr := HE1.out.2.fr
      refine (in_go ⟨#[105, 97]⟩ 0 false _ (by decide) (by decide)).mono ?_
      rintro e w2 ⟨rfl, hb⟩
      have HE2 : Hid (Ent w w2 (f, r, o, s, 0) (f, r, o, s, 0)) := HE1.out.below hb
      clear hb HE1 c0 c1 c2 c3 c4 d0 d1 d2 d3 d4 hfr
      obtain ⟨c0, c1, c2, c3, c4⟩ : w2.cell? ⟨w.heap.size, 0, none⟩ = some (.int .i64 f) ∧ w2.cell? ⟨w.heap.size, 1, none⟩ = some (.int .i64 r) ∧ w2.cell? ⟨w.heap.size, 2, none⟩ = some (.int .i64 o) ∧ w2.cell? ⟨w.heap.size, 3, none⟩ = some (.int .i64 s) ∧ w2.cell? ⟨w.heap.size, 4, none⟩ = some (.int .i64 0) := ⟨HE2.out.1.1.c0, HE2.out.1.1.c1, HE2.out.1.1.c2, HE2.out.1.1.c3, HE2.out.1.1.c4⟩
      obtain ⟨d0, d1, d2, d3, d4⟩ : w2.cell? ⟨w.heap.size + 1 + 1 + 1, 0, none⟩ = some (.int .i64 f) ∧ w2.cell? ⟨w.heap.size + 1 + 1 + 1, 1, none⟩ = some (.int .i64 r) ∧ w2.cell? ⟨w.heap.size + 1 + 1 + 1, 2, none⟩ = some (.int .i64 o) ∧ w2.cell? ⟨w.heap.size + 1 + 1 + 1, 3, none⟩ = some (.int .i64 s) ∧ w2.cell? ⟨w.heap.size + 1 + 1 + 1, 4, none⟩ = some (.int .i64 0) := ⟨HE2.out.2.c0, HE2.out.2.c1, HE2.out.2.c2, HE2.out.2.c3, HE2.out.2.c4⟩
      have hfr := HE2.out.2.fr
      go_wp2_with fail
      refine (in_go ⟨#[49, 50, 51, 52, 53, 54, 55, 56, 57]⟩ k false _ (by decide) Hdigs.out).mono ?_
      rintro e w3 ⟨rfl, hb⟩
      have HE3 : Hid (Ent w w3 (f, r, o, s, 0) (f, r, o, s, 0)) := HE2.out.below hb
      clear hb HE2 c0 c1 c2 c3 c4 d0 d1 d2 d3 d4 hfr
      obtain ⟨c0, c1, c2, c3, c4⟩ : w3.cell? ⟨w.heap.size, 0, none⟩ = some (.int .i64 f) ∧ w3.cell? ⟨w.heap.size, 1, none⟩ = some (.int .i64 r) ∧ w3.cell? ⟨w.heap.size, 2, none⟩ = some (.int .i64 o) ∧ w3.cell? ⟨w.heap.size, 3, none⟩ = some (.int .i64 s) ∧ w3.cell? ⟨w.heap.size, 4, none⟩ = some (.int .i64 0) := ⟨HE3.out.1.1.c0, HE3.out.1.1.c1, HE3.out.1.1.c2, HE3.out.1.1.c3, HE3.out.1.1.c4⟩
      obtain ⟨d0, d1, d2, d3, d4⟩ : w3.cell? ⟨w.heap.size + 1 + 1 + 1, 0, none⟩ = some (.int .i64 f) ∧ w3.cell? ⟨w.heap.size + 1 + 1 + 1, 1, none⟩ = some (.int .i64 r) ∧ w3.cell? ⟨w.heap.size + 1 + 1 + 1, 2, none⟩ = some (.int .i64 o) ∧ w3.cell? ⟨w.heap.size + 1 + 1 + 1, 3, none⟩ = some (.int .i64 s) ∧ w3.cell? ⟨w.heap.size + 1 + 1 + 1, 4, none⟩ = some (.int .i64 0) := ⟨HE3.out.2.c0, HE3.out.2.c1, HE3.out.2.c2, HE3.out.2.c3, HE3.out.2.c4⟩
      have hfr := HE3.out.2.fr
      go_wp2_with fail
      refine (in_go ⟨#[100, 99, 121]⟩ k true _ (by decide) Hops.out).mono ?_
      rintro e w4 ⟨rfl, hb⟩
      have HE4 : Hid (Ent w w4 (f, r, o, s, 0) (f, r, o, s, 0)) := HE3.out.below hb
      clear hb HE3 c0 c1 c2 c3 c4 d0 d1 d2 d3 d4 hfr
      obtain ⟨c0, c1, c2, c3, c4⟩ : w4.cell? ⟨w.heap.size, 0, none⟩ = some (.int .i64 f) ∧ w4.cell? ⟨w.heap.size, 1, none⟩ = some (.int .i64 r) ∧ w4.cell? ⟨w.heap.size, 2, none⟩ = some (.int .i64 o) ∧ w4.cell? ⟨w.heap.size, 3, none⟩ = some (.int .i64 s) ∧ w4.cell? ⟨w.heap.size, 4, none⟩ = some (.int .i64 0) := ⟨HE4.out.1.1.c0, HE4.out.1.1.c1, HE4.out.1.1.c2, HE4.out.1.1.c3, HE4.out.1.1.c4⟩
      obtain ⟨d0, d1, d2, d3, d4⟩ : w4.cell? ⟨w.heap.size + 1 + 1 + 1, 0, none⟩ = some (.int .i64 f) ∧ w4.cell? ⟨w.heap.size + 1 + 1 + 1, 1, none⟩ = some (.int .i64 r) ∧ w4.cell? ⟨w.heap.size + 1 + 1 + 1, 2, none⟩ = some (.int .i64 o) ∧ w4.cell? ⟨w.heap.size + 1 + 1 + 1, 3, none⟩ = some (.int .i64 s) ∧ w4.cell? ⟨w.heap.size + 1 + 1 + 1, 4, none⟩ = some (.int .i64 0) := ⟨HE4.out.2.c0, HE4.out.2.c1, HE4.out.2.c2, HE4.out.2.c3, HE4.out.2.c4⟩
      have hfr := HE4.out.2.fr
      go_wp2_with fail
      refine (in_go ⟨#[100, 99, 121]⟩ k true _ (by decide) Hops.out).mono ?_
      rintro e w5 ⟨rfl, hb⟩
      have HE5 : Hid (Ent w w5 (f, r, o, s, 0) (f, r, o, s, 0)) := HE4.out.below hb
      clear hb HE4 c0 c1 c2 c3 c4 d0 d1 d2 d3 d4 hfr
      obtain ⟨c0, c1, c2, c3, c4⟩ : w5.cell? ⟨w.heap.size, 0, none⟩ = some (.int .i64 f) ∧ w5.cell? ⟨w.heap.size, 1, none⟩ = some (.int .i64 r) ∧ w5.cell? ⟨w.heap.size, 2, none⟩ = some (.int .i64 o) ∧ w5.cell? ⟨w.heap.size, 3, none⟩ = some (.int .i64 s) ∧ w5.cell? ⟨w.heap.size, 4, none⟩ = some (.int .i64 0) := ⟨HE5.out.1.1.c0, HE5.out.1.1.c1, HE5.out.1.1.c2, HE5.out.1.1.c3, HE5.out.1.1.c4⟩
      obtain ⟨d0, d1, d2, d3, d4⟩ : w5.cell? ⟨w.heap.size + 1 + 1 + 1, 0, none⟩ = some (.int .i64 f) ∧ w5.cell? ⟨w.heap.size + 1 + 1 + 1, 1, none⟩ = some (.int .i64 r) ∧ w5.cell? ⟨w.heap.size + 1 + 1 + 1, 2, none⟩ = some (.int .i64 o) ∧ w5.cell? ⟨w.heap.size + 1 + 1 + 1, 3, none⟩ = some (.int .i64 s) ∧ w5.cell? ⟨w.heap.size + 1 + 1 + 1, 4, none⟩ = some (.int .i64 0) := ⟨HE5.out.2.c0, HE5.out.2.c1, HE5.out.2.c2, HE5.out.2.c3, HE5.out.2.c4⟩
      have hfr := HE5.out.2.fr
      go_wp2_with fail
      refine (in_go ⟨#[104, 108, 48, 94, 36, 124, 119, 87, 98, 66, 101, 69, 37, 59, 44]⟩ k false _ (by decide) Hmots.out).mono ?_
      rintro e w6 ⟨rfl, hb⟩
      have HE6 : Hid (Ent w w6 (f, r, o, s, 0) (f, r, o, s, 0)) := HE5.out.below hb
      clear hb HE5 c0 c1 c2 c3 c4 d0 d1 d2 d3 d4 hfr
      obtain ⟨c0, c1, c2, c3, c4⟩ : w6.cell? ⟨w.heap.size, 0, none⟩ = some (.int .i64 f) ∧ w6.cell? ⟨w.heap.size, 1, none⟩ = some (.int .i64 r) ∧ w6.cell? ⟨w.heap.size, 2, none⟩ = some (.int .i64 o) ∧ w6.cell? ⟨w.heap.size, 3, none⟩ = some (.int .i64 s) ∧ w6.cell? ⟨w.heap.size, 4, none⟩ = some (.int .i64 0) := ⟨HE6.out.1.1.c0, HE6.out.1.1.c1, HE6.out.1.1.c2, HE6.out.1.1.c3, HE6.out.1.1.c4⟩
      obtain ⟨d0, d1, d2, d3, d4⟩ : w6.cell? ⟨w.heap.size + 1 + 1 + 1, 0, none⟩ = some (.int .i64 f) ∧ w6.cell? ⟨w.heap.size + 1 + 1 + 1, 1, none⟩ = some (.int .i64 r) ∧ w6.cell? ⟨w.heap.size + 1 + 1 + 1, 2, none⟩ = some (.int .i64 o) ∧ w6.cell? ⟨w.heap.size + 1 + 1 + 1, 3, none⟩ = some (.int .i64 s) ∧ w6.cell? ⟨w.heap.size + 1 + 1 + 1, 4, none⟩ = some (.int .i64 0) := ⟨HE6.out.2.c0, HE6.out.2.c1, HE6.out.2.c2, HE6.out.2.c3, HE6.out.2.c4⟩
      have hfr := HE6.out.2.fr
      go_wp2_with fail
      refine (in_go ⟨#[102, 70, 116, 84]⟩ k false _ (by decide) Hfnds.out).mono ?_
      rintro e w7 ⟨rfl, hb⟩
      have HE7 : Hid (Ent w w7 (f, r, o, s, 0) (f, r, o, s, 0)) := HE6.out.below hb
      clear hb HE6 c0 c1 c2 c3 c4 d0 d1 d2 d3 d4 hfr
      obtain ⟨c0, c1, c2, c3, c4⟩ : w7.cell? ⟨w.heap.size, 0, none⟩ = some (.int .i64 f) ∧ w7.cell? ⟨w.heap.size, 1, none⟩ = some (.int .i64 r) ∧ w7.cell? ⟨w.heap.size, 2, none⟩ = some (.int .i64 o) ∧ w7.cell? ⟨w.heap.size, 3, none⟩ = some (.int .i64 s) ∧ w7.cell? ⟨w.heap.size, 4, none⟩ = some (.int .i64 0) := ⟨HE7.out.1.1.c0, HE7.out.1.1.c1, HE7.out.1.1.c2, HE7.out.1.1.c3, HE7.out.1.1.c4⟩
      obtain ⟨d0, d1, d2, d3, d4⟩ : w7.cell? ⟨w.heap.size + 1 + 1 + 1, 0, none⟩ = some (.int .i64 f) ∧ w7.cell? ⟨w.heap.size + 1 + 1 + 1, 1, none⟩ = some (.int .i64 r) ∧ w7.cell? ⟨w.heap.size + 1 + 1 + 1, 2, none⟩ = some (.int .i64 o) ∧ w7.cell? ⟨w.heap.size + 1 + 1 + 1, 3, none⟩ = some (.int .i64 s) ∧ w7.cell? ⟨w.heap.size + 1 + 1 + 1, 4, none⟩ = some (.int .i64 0) := ⟨HE7.out.2.c0, HE7.out.2.c1, HE7.out.2.c2, HE7.out.2.c3, HE7.out.2.c4⟩
      have hfr := HE7.out.2.fr
      go_wp2_with fail
      refine (in_go ⟨#[105, 97]⟩ k false _ (by decide) Hsids.out).mono ?_
      rintro e w8 ⟨rfl, hb⟩
      have HE8 : Hid (Ent w w8 (f, r, o, s, 0) (f, r, o, s, 0)) := HE7.out.below hb
      clear hb HE7 c0 c1 c2 c3 c4 d0 d1 d2 d3 d4 hfr
      obtain ⟨c0, c1, c2, c3, c4⟩ : w8.cell? ⟨w.heap.size, 0, none⟩ = some (.int .i64 f) ∧ w8.cell? ⟨w.heap.size, 1, none⟩ = some (.int .i64 r) ∧ w8.cell? ⟨w.heap.size, 2, none⟩ = some (.int .i64 o) ∧ w8.cell? ⟨w.heap.size, 3, none⟩ = some (.int .i64 s) ∧ w8.cell? ⟨w.heap.size, 4, none⟩ = some (.int .i64 0) := ⟨HE8.out.1.1.c0, HE8.out.1.1.c1, HE8.out.1.1.c2, HE8.out.1.1.c3, HE8.out.1.1.c4⟩
      obtain ⟨d0, d1, d2, d3, d4⟩ : w8.cell? ⟨w.heap.size + 1 + 1 + 1, 0, none⟩ = some (.int .i64 f) ∧ w8.cell? ⟨w.heap.size + 1 + 1 + 1, 1, none⟩ = some (.int .i64 r) ∧ w8.cell? ⟨w.heap.size + 1 + 1 + 1, 2, none⟩ = some (.int .i64 o) ∧ w8.cell? ⟨w.heap.size + 1 + 1 + 1, 3, none⟩ = some (.int .i64 s) ∧ w8.cell? ⟨w.heap.size + 1 + 1 + 1, 4, none⟩ = some (.int .i64 0) := ⟨HE8.out.2.c0, HE8.out.2.c1, HE8.out.2.c2, HE8.out.2.c3, HE8.out.2.c4⟩
      have hfr := HE8.out.2.fr
      go_wp2_with fail
      refine (refWrong_go _).mono ?_
      rintro e w9 ⟨rfl, hb⟩
      have HF : Hid (Enter w w9 (f, r, o, s, 0) w.heap.size (w.heap.size + 1) (w.heap.size + 1 + 1)) := Enter.below HE8.out.1 hb
      clear hb HE8 c0 c1 c2 c3 c4 d0 d1 d2 d3 d4 hfr
      go_wp2_with (first | (refine storeF rfl 27 _ _ rfl (.inl rfl) _ rfl wrg.1 zer rfl HF.out.2.1 ?_) | (refine storeF rfl 24 _ _ rfl (.inr rfl) _ rfl wrg.2.1 zer rfl (HF.out.2.2.1.other _ (by omega)) ?_))
      exact HF.out.end 4 5 6 Tryd.results15 rfl rfl rfl rfl
  case false =>
    have Hops : Hid (has (codes ⟨#[100, 99, 121]⟩) k = false) := hops
    cases hmots : has mots k
    case true =>
      have Hmots : Hid (has (codes ⟨#[104, 108, 48, 94, 36, 124, 119, 87, 98, 66, 101, 69, 37, 59, 44]⟩) k = true) := hmots
      obtain rfl : R = don f r o s k 0 := HR.out.trans (by simp [hops, ho, hmots])
      clear HR
      clear hops ho hmots
      go_enter Tryd.func15, Tryd.ntmps15
      go_wp2_with fail
      have HE1 : Hid (Ent w ((((w.alloc (.cells #[.int .i64 f, .int .i64 r, .int .i64 o, .int .i64 s, .int .i64 0] 27)).alloc (.cells #[.int .i64 0, .int .i64 0, .int .i64 0, .int .i64 0, .int .i64 0] 27)).alloc (.cells #[.int .i64 0, .int .i64 0, .int .i64 0, .int .i64 0, .int .i64 0] 24)).alloc (.cells #[.int .i64 f, .int .i64 r, .int .i64 o, .int .i64 s, .int .i64 0] 27)) (f, r, o, s, 0) (f, r, o, s, 0)) := ent_is w (f, r, o, s, 0)
      generalize ((((w.alloc (.cells #[.int .i64 f, .int .i64 r, .int .i64 o, .int .i64 s, .int .i64 0] 27)).alloc (.cells #[.int .i64 0, .int .i64 0, .int .i64 0, .int .i64 0, .int .i64 0] 27)).alloc (.cells #[.int .i64 0, .int .i64 0, .int .i64 0, .int .i64 0, .int .i64 0] 24)).alloc (.cells #[.int .i64 f, .int .i64 r, .int .i64 o, .int .i64 s, .int .i64 0] 27)) = w1 at *
      obtain ⟨c0, c1, c2, c3, c4⟩ : w1.cell? ⟨w.heap.size, 0, none⟩ = some (.int .i64 f) ∧ w1.cell? ⟨w.heap.size, 1, none⟩ = some (.int .i64 r) ∧ w1.cell? ⟨w.heap.size, 2, none⟩ = some (.int .i64 o) ∧ w1.cell? ⟨w.heap.size, 3, none⟩ = some (.int .i64 s) ∧ w1.cell? ⟨w.heap.size, 4, none⟩ = some (.int .i64 0) := ⟨HE1.out.1.1.c0, HE1.out.1.1.c1, HE1.out.1.1.c2, HE1.out.1.1.c3, HE1.out.1.1.c4⟩
      obtain ⟨d0, d1, d2, d3, d4⟩ : w1.cell? ⟨w.heap.size + 1 + 1 + 1, 0, none⟩ = some (.int .i64 f) ∧ w1.cell? ⟨w.heap.size + 1 + 1 + 1, 1, none⟩ = some (.int .i64 r) ∧ w1.cell? ⟨w.heap.size + 1 + 1 + 1, 2, none⟩ = some (.int .i64 o) ∧ w1.cell? ⟨w.heap.size + 1 + 1 + 1, 3, none⟩ = some (.int .i64 s) ∧ w1.cell? ⟨w.heap.size + 1 + 1 + 1, 4, none⟩ = some (.int .i64 0) := ⟨HE1.out.2.c0, HE1.out.2.c1, HE1.out.2.c2, HE1.out.2.c3, HE1.out.2.c4⟩
      have hfr := HE1.out.2.fr
      refine (in_go ⟨#[105, 97]⟩ 0 false _ (by decide) (by decide)).mono ?_
      rintro e w2 ⟨rfl, hb⟩
      have HE2 : Hid (Ent w w2 (f, r, o, s, 0) (f, r, o, s, 0)) := HE1.out.below hb
      clear hb HE1 c0 c1 c2 c3 c4 d0 d1 d2 d3 d4 hfr
      obtain ⟨c0, c1, c2, c3, c4⟩ : w2.cell? ⟨w.heap.size, 0, none⟩ = some (.int .i64 f) ∧ w2.cell? ⟨w.heap.size, 1, none⟩ = some (.int .i64 r) ∧ w2.cell? ⟨w.heap.size, 2, none⟩ = some (.int .i64 o) ∧ w2.cell? ⟨w.heap.size, 3, none⟩ = some (.int .i64 s) ∧ w2.cell? ⟨w.heap.size, 4, none⟩ = some (.int .i64 0) := ⟨HE2.out.1.1.c0, HE2.out.1.1.c1, HE2.out.1.1.c2, HE2.out.1.1.c3, HE2.out.1.1.c4⟩
      obtain ⟨d0, d1, d2, d3, d4⟩ : w2.cell? ⟨w.heap.size + 1 + 1 + 1, 0, none⟩ = some (.int .i64 f) ∧ w2.cell? ⟨w.heap.size + 1 + 1 + 1, 1, none⟩ = some (.int .i64 r) ∧ w2.cell? ⟨w.heap.size + 1 + 1 + 1, 2, none⟩ = some (.int .i64 o) ∧ w2.cell? ⟨w.heap.size + 1 + 1 + 1, 3, none⟩ = some (.int .i64 s) ∧ w2.cell? ⟨w.heap.size + 1 + 1 + 1, 4, none⟩ = some (.int .i64 0) := ⟨HE2.out.2.c0, HE2.out.2.c1, HE2.out.2.c2, HE2.out.2.c3, HE2.out.2.c4⟩
      have hfr := HE2.out.2.fr
      go_wp2_with fail
      refine (in_go ⟨#[49, 50, 51, 52, 53, 54, 55, 56, 57]⟩ k false _ (by decide) Hdigs.out).mono ?_
      rintro e w3 ⟨rfl, hb⟩
      have HE3 : Hid (Ent w w3 (f, r, o, s, 0) (f, r, o, s, 0)) := HE2.out.below hb
      clear hb HE2 c0 c1 c2 c3 c4 d0 d1 d2 d3 d4 hfr
      obtain ⟨c0, c1, c2, c3, c4⟩ : w3.cell? ⟨w.heap.size, 0, none⟩ = some (.int .i64 f) ∧ w3.cell? ⟨w.heap.size, 1, none⟩ = some (.int .i64 r) ∧ w3.cell? ⟨w.heap.size, 2, none⟩ = some (.int .i64 o) ∧ w3.cell? ⟨w.heap.size, 3, none⟩ = some (.int .i64 s) ∧ w3.cell? ⟨w.heap.size, 4, none⟩ = some (.int .i64 0) := ⟨HE3.out.1.1.c0, HE3.out.1.1.c1, HE3.out.1.1.c2, HE3.out.1.1.c3, HE3.out.1.1.c4⟩
      obtain ⟨d0, d1, d2, d3, d4⟩ : w3.cell? ⟨w.heap.size + 1 + 1 + 1, 0, none⟩ = some (.int .i64 f) ∧ w3.cell? ⟨w.heap.size + 1 + 1 + 1, 1, none⟩ = some (.int .i64 r) ∧ w3.cell? ⟨w.heap.size + 1 + 1 + 1, 2, none⟩ = some (.int .i64 o) ∧ w3.cell? ⟨w.heap.size + 1 + 1 + 1, 3, none⟩ = some (.int .i64 s) ∧ w3.cell? ⟨w.heap.size + 1 + 1 + 1, 4, none⟩ = some (.int .i64 0) := ⟨HE3.out.2.c0, HE3.out.2.c1, HE3.out.2.c2, HE3.out.2.c3, HE3.out.2.c4⟩
      have hfr := HE3.out.2.fr
      go_wp2_with fail
      refine (in_go ⟨#[100, 99, 121]⟩ k false _ (by decide) Hops.out).mono ?_
      rintro e w4 ⟨rfl, hb⟩
      have HE4 : Hid (Ent w w4 (f, r, o, s, 0) (f, r, o, s, 0)) := HE3.out.below hb
      clear hb HE3 c0 c1 c2 c3 c4 d0 d1 d2 d3 d4 hfr
      obtain ⟨c0, c1, c2, c3, c4⟩ : w4.cell? ⟨w.heap.size, 0, none⟩ = some (.int .i64 f) ∧ w4.cell? ⟨w.heap.size, 1, none⟩ = some (.int .i64 r) ∧ w4.cell? ⟨w.heap.size, 2, none⟩ = some (.int .i64 o) ∧ w4.cell? ⟨w.heap.size, 3, none⟩ = some (.int .i64 s) ∧ w4.cell? ⟨w.heap.size, 4, none⟩ = some (.int .i64 0) := ⟨HE4.out.1.1.c0, HE4.out.1.1.c1, HE4.out.1.1.c2, HE4.out.1.1.c3, HE4.out.1.1.c4⟩
      obtain ⟨d0, d1, d2, d3, d4⟩ : w4.cell? ⟨w.heap.size + 1 + 1 + 1, 0, none⟩ = some (.int .i64 f) ∧ w4.cell? ⟨w.heap.size + 1 + 1 + 1, 1, none⟩ = some (.int .i64 r) ∧ w4.cell? ⟨w.heap.size + 1 + 1 + 1, 2, none⟩ = some (.int .i64 o) ∧ w4.cell? ⟨w.heap.size + 1 + 1 + 1, 3, none⟩ = some (.int .i64 s) ∧ w4.cell? ⟨w.heap.size + 1 + 1 + 1, 4, none⟩ = some (.int .i64 0) := ⟨HE4.out.2.c0, HE4.out.2.c1, HE4.out.2.c2, HE4.out.2.c3, HE4.out.2.c4⟩
      have hfr := HE4.out.2.fr
      go_wp2_with fail
      refine (in_go ⟨#[100, 99, 121]⟩ k false _ (by decide) Hops.out).mono ?_
      rintro e w5 ⟨rfl, hb⟩
      have HE5 : Hid (Ent w w5 (f, r, o, s, 0) (f, r, o, s, 0)) := HE4.out.below hb
      clear hb HE4 c0 c1 c2 c3 c4 d0 d1 d2 d3 d4 hfr
      obtain ⟨c0, c1, c2, c3, c4⟩ : w5.cell? ⟨w.heap.size, 0, none⟩ = some (.int .i64 f) ∧ w5.cell? ⟨w.heap.size, 1, none⟩ = some (.int .i64 r) ∧ w5.cell? ⟨w.heap.size, 2, none⟩ = some (.int .i64 o) ∧ w5.cell? ⟨w.heap.size, 3, none⟩ = some (.int .i64 s) ∧ w5.cell? ⟨w.heap.size, 4, none⟩ = some (.int .i64 0) := ⟨HE5.out.1.1.c0, HE5.out.1.1.c1, HE5.out.1.1.c2, HE5.out.1.1.c3, HE5.out.1.1.c4⟩
      obtain ⟨d0, d1, d2, d3, d4⟩ : w5.cell? ⟨w.heap.size + 1 + 1 + 1, 0, none⟩ = some (.int .i64 f) ∧ w5.cell? ⟨w.heap.size + 1 + 1 + 1, 1, none⟩ = some (.int .i64 r) ∧ w5.cell? ⟨w.heap.size + 1 + 1 + 1, 2, none⟩ = some (.int .i64 o) ∧ w5.cell? ⟨w.heap.size + 1 + 1 + 1, 3, none⟩ = some (.int .i64 s) ∧ w5.cell? ⟨w.heap.size + 1 + 1 + 1, 4, none⟩ = some (.int .i64 0) := ⟨HE5.out.2.c0, HE5.out.2.c1, HE5.out.2.c2, HE5.out.2.c3, HE5.out.2.c4⟩
      have hfr := HE5.out.2.fr
      go_wp2_with fail
      refine (in_go ⟨#[104, 108, 48, 94, 36, 124, 119, 87, 98, 66, 101, 69, 37, 59, 44]⟩ k true _ (by decide) Hmots.out).mono ?_
      rintro e w6 ⟨rfl, hb⟩
      have HE6 : Hid (Ent w w6 (f, r, o, s, 0) (f, r, o, s, 0)) := HE5.out.below hb
      clear hb HE5 c0 c1 c2 c3 c4 d0 d1 d2 d3 d4 hfr
      obtain ⟨c0, c1, c2, c3, c4⟩ : w6.cell? ⟨w.heap.size, 0, none⟩ = some (.int .i64 f) ∧ w6.cell? ⟨w.heap.size, 1, none⟩ = some (.int .i64 r) ∧ w6.cell? ⟨w.heap.size, 2, none⟩ = some (.int .i64 o) ∧ w6.cell? ⟨w.heap.size, 3, none⟩ = some (.int .i64 s) ∧ w6.cell? ⟨w.heap.size, 4, none⟩ = some (.int .i64 0) := ⟨HE6.out.1.1.c0, HE6.out.1.1.c1, HE6.out.1.1.c2, HE6.out.1.1.c3, HE6.out.1.1.c4⟩
      obtain ⟨d0, d1, d2, d3, d4⟩ : w6.cell? ⟨w.heap.size + 1 + 1 + 1, 0, none⟩ = some (.int .i64 f) ∧ w6.cell? ⟨w.heap.size + 1 + 1 + 1, 1, none⟩ = some (.int .i64 r) ∧ w6.cell? ⟨w.heap.size + 1 + 1 + 1, 2, none⟩ = some (.int .i64 o) ∧ w6.cell? ⟨w.heap.size + 1 + 1 + 1, 3, none⟩ = some (.int .i64 s) ∧ w6.cell? ⟨w.heap.size + 1 + 1 + 1, 4, none⟩ = some (.int .i64 0) := ⟨HE6.out.2.c0, HE6.out.2.c1, HE6.out.2.c2, HE6.out.2.c3, HE6.out.2.c4⟩
      have hfr := HE6.out.2.fr
      go_wp2_with fail
      refine (refDone_go f r o s 0 k 0 w.heap.size _ HC.out.1 HC.out.2 HE6.out.1.1).mono ?_
      rintro e w7 ⟨rfl, hb⟩
      have HF : Hid (Enter w w7 (f, r, o, s, 0) w.heap.size (w.heap.size + 1) (w.heap.size + 1 + 1)) := Enter.below HE6.out.1 hb
      clear hb HE6 c0 c1 c2 c3 c4 d0 d1 d2 d3 d4 hfr
      go_wp2_with (first | (refine storeF rfl 27 _ _ rfl (.inl rfl) _ rfl (don f r o s k 0).1 zer rfl HF.out.2.1 ?_) | (refine storeF rfl 24 _ _ rfl (.inr rfl) _ rfl (don f r o s k 0).2.1 zer rfl (HF.out.2.2.1.other _ (by omega)) ?_))
      exact HF.out.end 4 5 6 Tryd.results15 rfl rfl rfl rfl
    case false =>
      have Hmots : Hid (has (codes ⟨#[104, 108, 48, 94, 36, 124, 119, 87, 98, 66, 101, 69, 37, 59, 44]⟩) k = false) := hmots
      cases hfnds : has fnds k
      case true =>
        have Hfnds : Hid (has (codes ⟨#[102, 70, 116, 84]⟩) k = true) := hfnds
        obtain rfl : R = mor (f, r, o, s, k) := HR.out.trans (by simp [hops, ho, hmots, hfnds])
        clear HR
        clear hops ho hmots hfnds
        go_enter Tryd.func15, Tryd.ntmps15
        go_wp2_with fail
        have HE1 : Hid (Ent w ((((w.alloc (.cells #[.int .i64 f, .int .i64 r, .int .i64 o, .int .i64 s, .int .i64 0] 27)).alloc (.cells #[.int .i64 0, .int .i64 0, .int .i64 0, .int .i64 0, .int .i64 0] 27)).alloc (.cells #[.int .i64 0, .int .i64 0, .int .i64 0, .int .i64 0, .int .i64 0] 24)).alloc (.cells #[.int .i64 f, .int .i64 r, .int .i64 o, .int .i64 s, .int .i64 0] 27)) (f, r, o, s, 0) (f, r, o, s, 0)) := ent_is w (f, r, o, s, 0)
        generalize ((((w.alloc (.cells #[.int .i64 f, .int .i64 r, .int .i64 o, .int .i64 s, .int .i64 0] 27)).alloc (.cells #[.int .i64 0, .int .i64 0, .int .i64 0, .int .i64 0, .int .i64 0] 27)).alloc (.cells #[.int .i64 0, .int .i64 0, .int .i64 0, .int .i64 0, .int .i64 0] 24)).alloc (.cells #[.int .i64 f, .int .i64 r, .int .i64 o, .int .i64 s, .int .i64 0] 27)) = w1 at *
        obtain ⟨c0, c1, c2, c3, c4⟩ : w1.cell? ⟨w.heap.size, 0, none⟩ = some (.int .i64 f) ∧ w1.cell? ⟨w.heap.size, 1, none⟩ = some (.int .i64 r) ∧ w1.cell? ⟨w.heap.size, 2, none⟩ = some (.int .i64 o) ∧ w1.cell? ⟨w.heap.size, 3, none⟩ = some (.int .i64 s) ∧ w1.cell? ⟨w.heap.size, 4, none⟩ = some (.int .i64 0) := ⟨HE1.out.1.1.c0, HE1.out.1.1.c1, HE1.out.1.1.c2, HE1.out.1.1.c3, HE1.out.1.1.c4⟩
        obtain ⟨d0, d1, d2, d3, d4⟩ : w1.cell? ⟨w.heap.size + 1 + 1 + 1, 0, none⟩ = some (.int .i64 f) ∧ w1.cell? ⟨w.heap.size + 1 + 1 + 1, 1, none⟩ = some (.int .i64 r) ∧ w1.cell? ⟨w.heap.size + 1 + 1 + 1, 2, none⟩ = some (.int .i64 o) ∧ w1.cell? ⟨w.heap.size + 1 + 1 + 1, 3, none⟩ = some (.int .i64 s) ∧ w1.cell? ⟨w.heap.size + 1 + 1 + 1, 4, none⟩ = some (.int .i64 0) := ⟨HE1.out.2.c0, HE1.out.2.c1, HE1.out.2.c2, HE1.out.2.c3, HE1.out.2.c4⟩
        have hfr := HE1.out.2.fr
        refine (in_go ⟨#[105, 97]⟩ 0 false _ (by decide) (by decide)).mono ?_
        rintro e w2 ⟨rfl, hb⟩
        have HE2 : Hid (Ent w w2 (f, r, o, s, 0) (f, r, o, s, 0)) := HE1.out.below hb
        clear hb HE1 c0 c1 c2 c3 c4 d0 d1 d2 d3 d4 hfr
        obtain ⟨c0, c1, c2, c3, c4⟩ : w2.cell? ⟨w.heap.size, 0, none⟩ = some (.int .i64 f) ∧ w2.cell? ⟨w.heap.size, 1, none⟩ = some (.int .i64 r) ∧ w2.cell? ⟨w.heap.size, 2, none⟩ = some (.int .i64 o) ∧ w2.cell? ⟨w.heap.size, 3, none⟩ = some (.int .i64 s) ∧ w2.cell? ⟨w.heap.size, 4, none⟩ = some (.int .i64 0) := ⟨HE2.out.1.1.c0, HE2.out.1.1.c1, HE2.out.1.1.c2, HE2.out.1.1.c3, HE2.out.1.1.c4⟩
        obtain ⟨d0, d1, d2, d3, d4⟩ : w2.cell? ⟨w.heap.size + 1 + 1 + 1, 0, none⟩ = some (.int .i64 f) ∧ w2.cell? ⟨w.heap.size + 1 + 1 + 1, 1, none⟩ = some (.int .i64 r) ∧ w2.cell? ⟨w.heap.size + 1 + 1 + 1, 2, none⟩ = some (.int .i64 o) ∧ w2.cell? ⟨w.heap.size + 1 + 1 + 1, 3, none⟩ = some (.int .i64 s) ∧ w2.cell? ⟨w.heap.size + 1 + 1 + 1, 4, none⟩ = some (.int .i64 0) := ⟨HE2.out.2.c0, HE2.out.2.c1, HE2.out.2.c2, HE2.out.2.c3, HE2.out.2.c4⟩
        have hfr := HE2.out.2.fr
        go_wp2_with fail
        refine (in_go ⟨#[49, 50, 51, 52, 53, 54, 55, 56, 57]⟩ k false _ (by decide) Hdigs.out).mono ?_
        rintro e w3 ⟨rfl, hb⟩
        have HE3 : Hid (Ent w w3 (f, r, o, s, 0) (f, r, o, s, 0)) := HE2.out.below hb
        clear hb HE2 c0 c1 c2 c3 c4 d0 d1 d2 d3 d4 hfr
        obtain ⟨c0, c1, c2, c3, c4⟩ : w3.cell? ⟨w.heap.size, 0, none⟩ = some (.int .i64 f) ∧ w3.cell? ⟨w.heap.size, 1, none⟩ = some (.int .i64 r) ∧ w3.cell? ⟨w.heap.size, 2, none⟩ = some (.int .i64 o) ∧ w3.cell? ⟨w.heap.size, 3, none⟩ = some (.int .i64 s) ∧ w3.cell? ⟨w.heap.size, 4, none⟩ = some (.int .i64 0) := ⟨HE3.out.1.1.c0, HE3.out.1.1.c1, HE3.out.1.1.c2, HE3.out.1.1.c3, HE3.out.1.1.c4⟩
        obtain ⟨d0, d1, d2, d3, d4⟩ : w3.cell? ⟨w.heap.size + 1 + 1 + 1, 0, none⟩ = some (.int .i64 f) ∧ w3.cell? ⟨w.heap.size + 1 + 1 + 1, 1, none⟩ = some (.int .i64 r) ∧ w3.cell? ⟨w.heap.size + 1 + 1 + 1, 2, none⟩ = some (.int .i64 o) ∧ w3.cell? ⟨w.heap.size + 1 + 1 + 1, 3, none⟩ = some (.int .i64 s) ∧ w3.cell? ⟨w.heap.size + 1 + 1 + 1, 4, none⟩ = some (.int .i64 0) := ⟨HE3.out.2.c0, HE3.out.2.c1, HE3.out.2.c2, HE3.out.2.c3, HE3.out.2.c4⟩
        have hfr := HE3.out.2.fr
        go_wp2_with fail
        refine (in_go ⟨#[100, 99, 121]⟩ k false _ (by decide) Hops.out).mono ?_
        rintro e w4 ⟨rfl, hb⟩
        have HE4 : Hid (Ent w w4 (f, r, o, s, 0) (f, r, o, s, 0)) := HE3.out.below hb
        clear hb HE3 c0 c1 c2 c3 c4 d0 d1 d2 d3 d4 hfr
        obtain ⟨c0, c1, c2, c3, c4⟩ : w4.cell? ⟨w.heap.size, 0, none⟩ = some (.int .i64 f) ∧ w4.cell? ⟨w.heap.size, 1, none⟩ = some (.int .i64 r) ∧ w4.cell? ⟨w.heap.size, 2, none⟩ = some (.int .i64 o) ∧ w4.cell? ⟨w.heap.size, 3, none⟩ = some (.int .i64 s) ∧ w4.cell? ⟨w.heap.size, 4, none⟩ = some (.int .i64 0) := ⟨HE4.out.1.1.c0, HE4.out.1.1.c1, HE4.out.1.1.c2, HE4.out.1.1.c3, HE4.out.1.1.c4⟩
        obtain ⟨d0, d1, d2, d3, d4⟩ : w4.cell? ⟨w.heap.size + 1 + 1 + 1, 0, none⟩ = some (.int .i64 f) ∧ w4.cell? ⟨w.heap.size + 1 + 1 + 1, 1, none⟩ = some (.int .i64 r) ∧ w4.cell? ⟨w.heap.size + 1 + 1 + 1, 2, none⟩ = some (.int .i64 o) ∧ w4.cell? ⟨w.heap.size + 1 + 1 + 1, 3, none⟩ = some (.int .i64 s) ∧ w4.cell? ⟨w.heap.size + 1 + 1 + 1, 4, none⟩ = some (.int .i64 0) := ⟨HE4.out.2.c0, HE4.out.2.c1, HE4.out.2.c2, HE4.out.2.c3, HE4.out.2.c4⟩
        have hfr := HE4.out.2.fr
        go_wp2_with fail
        refine (in_go ⟨#[100, 99, 121]⟩ k false _ (by decide) Hops.out).mono ?_
        rintro e w5 ⟨rfl, hb⟩
        have HE5 : Hid (Ent w w5 (f, r, o, s, 0) (f, r, o, s, 0)) := HE4.out.below hb
        clear hb HE4 c0 c1 c2 c3 c4 d0 d1 d2 d3 d4 hfr
        obtain ⟨c0, c1, c2, c3, c4⟩ : w5.cell? ⟨w.heap.size, 0, none⟩ = some (.int .i64 f) ∧ w5.cell? ⟨w.heap.size, 1, none⟩ = some (.int .i64 r) ∧ w5.cell? ⟨w.heap.size, 2, none⟩ = some (.int .i64 o) ∧ w5.cell? ⟨w.heap.size, 3, none⟩ = some (.int .i64 s) ∧ w5.cell? ⟨w.heap.size, 4, none⟩ = some (.int .i64 0) := ⟨HE5.out.1.1.c0, HE5.out.1.1.c1, HE5.out.1.1.c2, HE5.out.1.1.c3, HE5.out.1.1.c4⟩
        obtain ⟨d0, d1, d2, d3, d4⟩ : w5.cell? ⟨w.heap.size + 1 + 1 + 1, 0, none⟩ = some (.int .i64 f) ∧ w5.cell? ⟨w.heap.size + 1 + 1 + 1, 1, none⟩ = some (.int .i64 r) ∧ w5.cell? ⟨w.heap.size + 1 + 1 + 1, 2, none⟩ = some (.int .i64 o) ∧ w5.cell? ⟨w.heap.size + 1 + 1 + 1, 3, none⟩ = some (.int .i64 s) ∧ w5.cell? ⟨w.heap.size + 1 + 1 + 1, 4, none⟩ = some (.int .i64 0) := ⟨HE5.out.2.c0, HE5.out.2.c1, HE5.out.2.c2, HE5.out.2.c3, HE5.out.2.c4⟩
        have hfr := HE5.out.2.fr
        go_wp2_with fail
        refine (in_go ⟨#[104, 108, 48, 94, 36, 124, 119, 87, 98, 66, 101, 69, 37, 59, 44]⟩ k false _ (by decide) Hmots.out).mono ?_
        rintro e w6 ⟨rfl, hb⟩
        have HE6 : Hid (Ent w w6 (f, r, o, s, 0) (f, r, o, s, 0)) := HE5.out.below hb
        clear hb HE5 c0 c1 c2 c3 c4 d0 d1 d2 d3 d4 hfr
        obtain ⟨c0, c1, c2, c3, c4⟩ : w6.cell? ⟨w.heap.size, 0, none⟩ = some (.int .i64 f) ∧ w6.cell? ⟨w.heap.size, 1, none⟩ = some (.int .i64 r) ∧ w6.cell? ⟨w.heap.size, 2, none⟩ = some (.int .i64 o) ∧ w6.cell? ⟨w.heap.size, 3, none⟩ = some (.int .i64 s) ∧ w6.cell? ⟨w.heap.size, 4, none⟩ = some (.int .i64 0) := ⟨HE6.out.1.1.c0, HE6.out.1.1.c1, HE6.out.1.1.c2, HE6.out.1.1.c3, HE6.out.1.1.c4⟩
        obtain ⟨d0, d1, d2, d3, d4⟩ : w6.cell? ⟨w.heap.size + 1 + 1 + 1, 0, none⟩ = some (.int .i64 f) ∧ w6.cell? ⟨w.heap.size + 1 + 1 + 1, 1, none⟩ = some (.int .i64 r) ∧ w6.cell? ⟨w.heap.size + 1 + 1 + 1, 2, none⟩ = some (.int .i64 o) ∧ w6.cell? ⟨w.heap.size + 1 + 1 + 1, 3, none⟩ = some (.int .i64 s) ∧ w6.cell? ⟨w.heap.size + 1 + 1 + 1, 4, none⟩ = some (.int .i64 0) := ⟨HE6.out.2.c0, HE6.out.2.c1, HE6.out.2.c2, HE6.out.2.c3, HE6.out.2.c4⟩
        have hfr := HE6.out.2.fr
        go_wp2_with fail
        refine (in_go ⟨#[102, 70, 116, 84]⟩ k true _ (by decide) Hfnds.out).mono ?_
        rintro e w7 ⟨rfl, hb⟩
        have HE7 : Hid (Ent w w7 (f, r, o, s, 0) (f, r, o, s, 0)) := HE6.out.below hb
        clear hb HE6 c0 c1 c2 c3 c4 d0 d1 d2 d3 d4 hfr
        obtain ⟨c0, c1, c2, c3, c4⟩ : w7.cell? ⟨w.heap.size, 0, none⟩ = some (.int .i64 f) ∧ w7.cell? ⟨w.heap.size, 1, none⟩ = some (.int .i64 r) ∧ w7.cell? ⟨w.heap.size, 2, none⟩ = some (.int .i64 o) ∧ w7.cell? ⟨w.heap.size, 3, none⟩ = some (.int .i64 s) ∧ w7.cell? ⟨w.heap.size, 4, none⟩ = some (.int .i64 0) := ⟨HE7.out.1.1.c0, HE7.out.1.1.c1, HE7.out.1.1.c2, HE7.out.1.1.c3, HE7.out.1.1.c4⟩
        obtain ⟨d0, d1, d2, d3, d4⟩ : w7.cell? ⟨w.heap.size + 1 + 1 + 1, 0, none⟩ = some (.int .i64 f) ∧ w7.cell? ⟨w.heap.size + 1 + 1 + 1, 1, none⟩ = some (.int .i64 r) ∧ w7.cell? ⟨w.heap.size + 1 + 1 + 1, 2, none⟩ = some (.int .i64 o) ∧ w7.cell? ⟨w.heap.size + 1 + 1 + 1, 3, none⟩ = some (.int .i64 s) ∧ w7.cell? ⟨w.heap.size + 1 + 1 + 1, 4, none⟩ = some (.int .i64 0) := ⟨HE7.out.2.c0, HE7.out.2.c1, HE7.out.2.c2, HE7.out.2.c3, HE7.out.2.c4⟩
        have hfr := HE7.out.2.fr
        go_wp2_with fail
        refine (refMore_go f r o s k _).mono ?_
        rintro e w8 ⟨rfl, hb⟩
        have HF : Hid (Enter w w8 (f, r, o, s, 0) w.heap.size (w.heap.size + 1) (w.heap.size + 1 + 1)) := Enter.below (Enter.far HE7.out.1 _ _ (by show w.heap.size + 1 + 1 < w.heap.size + 1 + 1 + 1; omega) (by omega)) hb
        clear hb HE7 c0 c1 c2 c3 c4 d0 d1 d2 d3 d4 hfr
        go_wp2_with (first | (refine storeF rfl 27 _ _ rfl (.inl rfl) _ rfl (mor (f, r, o, s, k)).1 zer rfl HF.out.2.1 ?_) | (refine storeF rfl 24 _ _ rfl (.inr rfl) _ rfl (mor (f, r, o, s, k)).2.1 zer rfl (HF.out.2.2.1.other _ (by omega)) ?_))
        exact HF.out.end 4 5 6 Tryd.results15 rfl rfl rfl rfl
      case false =>
        have Hfnds : Hid (has (codes ⟨#[102, 70, 116, 84]⟩) k = false) := hfnds
        cases hsids : has sids k
        case true =>
          have Hsids : Hid (has (codes ⟨#[105, 97]⟩) k = true) := hsids
          obtain rfl : R = mor (f, r, o, s, k) := HR.out.trans (by simp [hops, ho, hmots, hfnds, hsids])
          clear HR
          clear hops ho hmots hfnds hsids
          go_enter Tryd.func15, Tryd.ntmps15
          go_wp2_with fail
          have HE1 : Hid (Ent w ((((w.alloc (.cells #[.int .i64 f, .int .i64 r, .int .i64 o, .int .i64 s, .int .i64 0] 27)).alloc (.cells #[.int .i64 0, .int .i64 0, .int .i64 0, .int .i64 0, .int .i64 0] 27)).alloc (.cells #[.int .i64 0, .int .i64 0, .int .i64 0, .int .i64 0, .int .i64 0] 24)).alloc (.cells #[.int .i64 f, .int .i64 r, .int .i64 o, .int .i64 s, .int .i64 0] 27)) (f, r, o, s, 0) (f, r, o, s, 0)) := ent_is w (f, r, o, s, 0)
          generalize ((((w.alloc (.cells #[.int .i64 f, .int .i64 r, .int .i64 o, .int .i64 s, .int .i64 0] 27)).alloc (.cells #[.int .i64 0, .int .i64 0, .int .i64 0, .int .i64 0, .int .i64 0] 27)).alloc (.cells #[.int .i64 0, .int .i64 0, .int .i64 0, .int .i64 0, .int .i64 0] 24)).alloc (.cells #[.int .i64 f, .int .i64 r, .int .i64 o, .int .i64 s, .int .i64 0] 27)) = w1 at *
          obtain ⟨c0, c1, c2, c3, c4⟩ : w1.cell? ⟨w.heap.size, 0, none⟩ = some (.int .i64 f) ∧ w1.cell? ⟨w.heap.size, 1, none⟩ = some (.int .i64 r) ∧ w1.cell? ⟨w.heap.size, 2, none⟩ = some (.int .i64 o) ∧ w1.cell? ⟨w.heap.size, 3, none⟩ = some (.int .i64 s) ∧ w1.cell? ⟨w.heap.size, 4, none⟩ = some (.int .i64 0) := ⟨HE1.out.1.1.c0, HE1.out.1.1.c1, HE1.out.1.1.c2, HE1.out.1.1.c3, HE1.out.1.1.c4⟩
          obtain ⟨d0, d1, d2, d3, d4⟩ : w1.cell? ⟨w.heap.size + 1 + 1 + 1, 0, none⟩ = some (.int .i64 f) ∧ w1.cell? ⟨w.heap.size + 1 + 1 + 1, 1, none⟩ = some (.int .i64 r) ∧ w1.cell? ⟨w.heap.size + 1 + 1 + 1, 2, none⟩ = some (.int .i64 o) ∧ w1.cell? ⟨w.heap.size + 1 + 1 + 1, 3, none⟩ = some (.int .i64 s) ∧ w1.cell? ⟨w.heap.size + 1 + 1 + 1, 4, none⟩ = some (.int .i64 0) := ⟨HE1.out.2.c0, HE1.out.2.c1, HE1.out.2.c2, HE1.out.2.c3, HE1.out.2.c4⟩
          have hfr := HE1.out.2.fr
          refine (in_go ⟨#[105, 97]⟩ 0 false _ (by decide) (by decide)).mono ?_
          rintro e w2 ⟨rfl, hb⟩
          have HE2 : Hid (Ent w w2 (f, r, o, s, 0) (f, r, o, s, 0)) := HE1.out.below hb
          clear hb HE1 c0 c1 c2 c3 c4 d0 d1 d2 d3 d4 hfr
          obtain ⟨c0, c1, c2, c3, c4⟩ : w2.cell? ⟨w.heap.size, 0, none⟩ = some (.int .i64 f) ∧ w2.cell? ⟨w.heap.size, 1, none⟩ = some (.int .i64 r) ∧ w2.cell? ⟨w.heap.size, 2, none⟩ = some (.int .i64 o) ∧ w2.cell? ⟨w.heap.size, 3, none⟩ = some (.int .i64 s) ∧ w2.cell? ⟨w.heap.size, 4, none⟩ = some (.int .i64 0) := ⟨HE2.out.1.1.c0, HE2.out.1.1.c1, HE2.out.1.1.c2, HE2.out.1.1.c3, HE2.out.1.1.c4⟩
          obtain ⟨d0, d1, d2, d3, d4⟩ : w2.cell? ⟨w.heap.size + 1 + 1 + 1, 0, none⟩ = some (.int .i64 f) ∧ w2.cell? ⟨w.heap.size + 1 + 1 + 1, 1, none⟩ = some (.int .i64 r) ∧ w2.cell? ⟨w.heap.size + 1 + 1 + 1, 2, none⟩ = some (.int .i64 o) ∧ w2.cell? ⟨w.heap.size + 1 + 1 + 1, 3, none⟩ = some (.int .i64 s) ∧ w2.cell? ⟨w.heap.size + 1 + 1 + 1, 4, none⟩ = some (.int .i64 0) := ⟨HE2.out.2.c0, HE2.out.2.c1, HE2.out.2.c2, HE2.out.2.c3, HE2.out.2.c4⟩
          have hfr := HE2.out.2.fr
          go_wp2_with fail
          refine (in_go ⟨#[49, 50, 51, 52, 53, 54, 55, 56, 57]⟩ k false _ (by decide) Hdigs.out).mono ?_
          rintro e w3 ⟨rfl, hb⟩
          have HE3 : Hid (Ent w w3 (f, r, o, s, 0) (f, r, o, s, 0)) := HE2.out.below hb
          clear hb HE2 c0 c1 c2 c3 c4 d0 d1 d2 d3 d4 hfr
          obtain ⟨c0, c1, c2, c3, c4⟩ : w3.cell? ⟨w.heap.size, 0, none⟩ = some (.int .i64 f) ∧ w3.cell? ⟨w.heap.size, 1, none⟩ = some (.int .i64 r) ∧ w3.cell? ⟨w.heap.size, 2, none⟩ = some (.int .i64 o) ∧ w3.cell? ⟨w.heap.size, 3, none⟩ = some (.int .i64 s) ∧ w3.cell? ⟨w.heap.size, 4, none⟩ = some (.int .i64 0) := ⟨HE3.out.1.1.c0, HE3.out.1.1.c1, HE3.out.1.1.c2, HE3.out.1.1.c3, HE3.out.1.1.c4⟩
          obtain ⟨d0, d1, d2, d3, d4⟩ : w3.cell? ⟨w.heap.size + 1 + 1 + 1, 0, none⟩ = some (.int .i64 f) ∧ w3.cell? ⟨w.heap.size + 1 + 1 + 1, 1, none⟩ = some (.int .i64 r) ∧ w3.cell? ⟨w.heap.size + 1 + 1 + 1, 2, none⟩ = some (.int .i64 o) ∧ w3.cell? ⟨w.heap.size + 1 + 1 + 1, 3, none⟩ = some (.int .i64 s) ∧ w3.cell? ⟨w.heap.size + 1 + 1 + 1, 4, none⟩ = some (.int .i64 0) := ⟨HE3.out.2.c0, HE3.out.2.c1, HE3.out.2.c2, HE3.out.2.c3, HE3.out.2.c4⟩
          have hfr := HE3.out.2.fr
          go_wp2_with fail
          refine (in_go ⟨#[100, 99, 121]⟩ k false _ (by decide) Hops.out).mono ?_
          rintro e w4 ⟨rfl, hb⟩
          have HE4 : Hid (Ent w w4 (f, r, o, s, 0) (f, r, o, s, 0)) := HE3.out.below hb
          clear hb HE3 c0 c1 c2 c3 c4 d0 d1 d2 d3 d4 hfr
          obtain ⟨c0, c1, c2, c3, c4⟩ : w4.cell? ⟨w.heap.size, 0, none⟩ = some (.int .i64 f) ∧ w4.cell? ⟨w.heap.size, 1, none⟩ = some (.int .i64 r) ∧ w4.cell? ⟨w.heap.size, 2, none⟩ = some (.int .i64 o) ∧ w4.cell? ⟨w.heap.size, 3, none⟩ = some (.int .i64 s) ∧ w4.cell? ⟨w.heap.size, 4, none⟩ = some (.int .i64 0) := ⟨HE4.out.1.1.c0, HE4.out.1.1.c1, HE4.out.1.1.c2, HE4.out.1.1.c3, HE4.out.1.1.c4⟩
          obtain ⟨d0, d1, d2, d3, d4⟩ : w4.cell? ⟨w.heap.size + 1 + 1 + 1, 0, none⟩ = some (.int .i64 f) ∧ w4.cell? ⟨w.heap.size + 1 + 1 + 1, 1, none⟩ = some (.int .i64 r) ∧ w4.cell? ⟨w.heap.size + 1 + 1 + 1, 2, none⟩ = some (.int .i64 o) ∧ w4.cell? ⟨w.heap.size + 1 + 1 + 1, 3, none⟩ = some (.int .i64 s) ∧ w4.cell? ⟨w.heap.size + 1 + 1 + 1, 4, none⟩ = some (.int .i64 0) := ⟨HE4.out.2.c0, HE4.out.2.c1, HE4.out.2.c2, HE4.out.2.c3, HE4.out.2.c4⟩
          have hfr := HE4.out.2.fr
          go_wp2_with fail
          refine (in_go ⟨#[100, 99, 121]⟩ k false _ (by decide) Hops.out).mono ?_
          rintro e w5 ⟨rfl, hb⟩
          have HE5 : Hid (Ent w w5 (f, r, o, s, 0) (f, r, o, s, 0)) := HE4.out.below hb
          clear hb HE4 c0 c1 c2 c3 c4 d0 d1 d2 d3 d4 hfr
          obtain ⟨c0, c1, c2, c3, c4⟩ : w5.cell? ⟨w.heap.size, 0, none⟩ = some (.int .i64 f) ∧ w5.cell? ⟨w.heap.size, 1, none⟩ = some (.int .i64 r) ∧ w5.cell? ⟨w.heap.size, 2, none⟩ = some (.int .i64 o) ∧ w5.cell? ⟨w.heap.size, 3, none⟩ = some (.int .i64 s) ∧ w5.cell? ⟨w.heap.size, 4, none⟩ = some (.int .i64 0) := ⟨HE5.out.1.1.c0, HE5.out.1.1.c1, HE5.out.1.1.c2, HE5.out.1.1.c3, HE5.out.1.1.c4⟩
          obtain ⟨d0, d1, d2, d3, d4⟩ : w5.cell? ⟨w.heap.size + 1 + 1 + 1, 0, none⟩ = some (.int .i64 f) ∧ w5.cell? ⟨w.heap.size + 1 + 1 + 1, 1, none⟩ = some (.int .i64 r) ∧ w5.cell? ⟨w.heap.size + 1 + 1 + 1, 2, none⟩ = some (.int .i64 o) ∧ w5.cell? ⟨w.heap.size + 1 + 1 + 1, 3, none⟩ = some (.int .i64 s) ∧ w5.cell? ⟨w.heap.size + 1 + 1 + 1, 4, none⟩ = some (.int .i64 0) := ⟨HE5.out.2.c0, HE5.out.2.c1, HE5.out.2.c2, HE5.out.2.c3, HE5.out.2.c4⟩
          have hfr := HE5.out.2.fr
          go_wp2_with fail
          refine (in_go ⟨#[104, 108, 48, 94, 36, 124, 119, 87, 98, 66, 101, 69, 37, 59, 44]⟩ k false _ (by decide) Hmots.out).mono ?_
          rintro e w6 ⟨rfl, hb⟩
          have HE6 : Hid (Ent w w6 (f, r, o, s, 0) (f, r, o, s, 0)) := HE5.out.below hb
          clear hb HE5 c0 c1 c2 c3 c4 d0 d1 d2 d3 d4 hfr
          obtain ⟨c0, c1, c2, c3, c4⟩ : w6.cell? ⟨w.heap.size, 0, none⟩ = some (.int .i64 f) ∧ w6.cell? ⟨w.heap.size, 1, none⟩ = some (.int .i64 r) ∧ w6.cell? ⟨w.heap.size, 2, none⟩ = some (.int .i64 o) ∧ w6.cell? ⟨w.heap.size, 3, none⟩ = some (.int .i64 s) ∧ w6.cell? ⟨w.heap.size, 4, none⟩ = some (.int .i64 0) := ⟨HE6.out.1.1.c0, HE6.out.1.1.c1, HE6.out.1.1.c2, HE6.out.1.1.c3, HE6.out.1.1.c4⟩
          obtain ⟨d0, d1, d2, d3, d4⟩ : w6.cell? ⟨w.heap.size + 1 + 1 + 1, 0, none⟩ = some (.int .i64 f) ∧ w6.cell? ⟨w.heap.size + 1 + 1 + 1, 1, none⟩ = some (.int .i64 r) ∧ w6.cell? ⟨w.heap.size + 1 + 1 + 1, 2, none⟩ = some (.int .i64 o) ∧ w6.cell? ⟨w.heap.size + 1 + 1 + 1, 3, none⟩ = some (.int .i64 s) ∧ w6.cell? ⟨w.heap.size + 1 + 1 + 1, 4, none⟩ = some (.int .i64 0) := ⟨HE6.out.2.c0, HE6.out.2.c1, HE6.out.2.c2, HE6.out.2.c3, HE6.out.2.c4⟩
          have hfr := HE6.out.2.fr
          go_wp2_with fail
          refine (in_go ⟨#[102, 70, 116, 84]⟩ k false _ (by decide) Hfnds.out).mono ?_
          rintro e w7 ⟨rfl, hb⟩
          have HE7 : Hid (Ent w w7 (f, r, o, s, 0) (f, r, o, s, 0)) := HE6.out.below hb
          clear hb HE6 c0 c1 c2 c3 c4 d0 d1 d2 d3 d4 hfr
          obtain ⟨c0, c1, c2, c3, c4⟩ : w7.cell? ⟨w.heap.size, 0, none⟩ = some (.int .i64 f) ∧ w7.cell? ⟨w.heap.size, 1, none⟩ = some (.int .i64 r) ∧ w7.cell? ⟨w.heap.size, 2, none⟩ = some (.int .i64 o) ∧ w7.cell? ⟨w.heap.size, 3, none⟩ = some (.int .i64 s) ∧ w7.cell? ⟨w.heap.size, 4, none⟩ = some (.int .i64 0) := ⟨HE7.out.1.1.c0, HE7.out.1.1.c1, HE7.out.1.1.c2, HE7.out.1.1.c3, HE7.out.1.1.c4⟩
          obtain ⟨d0, d1, d2, d3, d4⟩ : w7.cell? ⟨w.heap.size + 1 + 1 + 1, 0, none⟩ = some (.int .i64 f) ∧ w7.cell? ⟨w.heap.size + 1 + 1 + 1, 1, none⟩ = some (.int .i64 r) ∧ w7.cell? ⟨w.heap.size + 1 + 1 + 1, 2, none⟩ = some (.int .i64 o) ∧ w7.cell? ⟨w.heap.size + 1 + 1 + 1, 3, none⟩ = some (.int .i64 s) ∧ w7.cell? ⟨w.heap.size + 1 + 1 + 1, 4, none⟩ = some (.int .i64 0) := ⟨HE7.out.2.c0, HE7.out.2.c1, HE7.out.2.c2, HE7.out.2.c3, HE7.out.2.c4⟩
          have hfr := HE7.out.2.fr
          go_wp2_with fail
          refine (in_go ⟨#[105, 97]⟩ k true _ (by decide) Hsids.out).mono ?_
          rintro e w8 ⟨rfl, hb⟩
          have HE8 : Hid (Ent w w8 (f, r, o, s, 0) (f, r, o, s, 0)) := HE7.out.below hb
          clear hb HE7 c0 c1 c2 c3 c4 d0 d1 d2 d3 d4 hfr
          obtain ⟨c0, c1, c2, c3, c4⟩ : w8.cell? ⟨w.heap.size, 0, none⟩ = some (.int .i64 f) ∧ w8.cell? ⟨w.heap.size, 1, none⟩ = some (.int .i64 r) ∧ w8.cell? ⟨w.heap.size, 2, none⟩ = some (.int .i64 o) ∧ w8.cell? ⟨w.heap.size, 3, none⟩ = some (.int .i64 s) ∧ w8.cell? ⟨w.heap.size, 4, none⟩ = some (.int .i64 0) := ⟨HE8.out.1.1.c0, HE8.out.1.1.c1, HE8.out.1.1.c2, HE8.out.1.1.c3, HE8.out.1.1.c4⟩
          obtain ⟨d0, d1, d2, d3, d4⟩ : w8.cell? ⟨w.heap.size + 1 + 1 + 1, 0, none⟩ = some (.int .i64 f) ∧ w8.cell? ⟨w.heap.size + 1 + 1 + 1, 1, none⟩ = some (.int .i64 r) ∧ w8.cell? ⟨w.heap.size + 1 + 1 + 1, 2, none⟩ = some (.int .i64 o) ∧ w8.cell? ⟨w.heap.size + 1 + 1 + 1, 3, none⟩ = some (.int .i64 s) ∧ w8.cell? ⟨w.heap.size + 1 + 1 + 1, 4, none⟩ = some (.int .i64 0) := ⟨HE8.out.2.c0, HE8.out.2.c1, HE8.out.2.c2, HE8.out.2.c3, HE8.out.2.c4⟩
          have hfr := HE8.out.2.fr
          go_wp2_with fail
          refine (refMore_go f r o s k _).mono ?_
          rintro e w9 ⟨rfl, hb⟩
          have HF : Hid (Enter w w9 (f, r, o, s, 0) w.heap.size (w.heap.size + 1) (w.heap.size + 1 + 1)) := Enter.below (Enter.far HE8.out.1 _ _ (by show w.heap.size + 1 + 1 < w.heap.size + 1 + 1 + 1; omega) (by omega)) hb
          clear hb HE8 c0 c1 c2 c3 c4 d0 d1 d2 d3 d4 hfr
          go_wp2_with (first | (refine storeF rfl 27 _ _ rfl (.inl rfl) _ rfl (mor (f, r, o, s, k)).1 zer rfl HF.out.2.1 ?_) | (refine storeF rfl 24 _ _ rfl (.inr rfl) _ rfl (mor (f, r, o, s, k)).2.1 zer rfl (HF.out.2.2.1.other _ (by omega)) ?_))
          exact HF.out.end 4 5 6 Tryd.results15 rfl rfl rfl rfl
        case false =>
          have Hsids : Hid (has (codes ⟨#[105, 97]⟩) k = false) := hsids
          obtain rfl : R = wrg := HR.out.trans (by simp [hops, ho, hmots, hfnds, hsids])
          clear HR
          clear hops ho hmots hfnds hsids
          go_enter Tryd.func15, Tryd.ntmps15
          go_wp2_with fail
          have HE1 : Hid (Ent w ((((w.alloc (.cells #[.int .i64 f, .int .i64 r, .int .i64 o, .int .i64 s, .int .i64 0] 27)).alloc (.cells #[.int .i64 0, .int .i64 0, .int .i64 0, .int .i64 0, .int .i64 0] 27)).alloc (.cells #[.int .i64 0, .int .i64 0, .int .i64 0, .int .i64 0, .int .i64 0] 24)).alloc (.cells #[.int .i64 f, .int .i64 r, .int .i64 o, .int .i64 s, .int .i64 0] 27)) (f, r, o, s, 0) (f, r, o, s, 0)) := ent_is w (f, r, o, s, 0)
          generalize ((((w.alloc (.cells #[.int .i64 f, .int .i64 r, .int .i64 o, .int .i64 s, .int .i64 0] 27)).alloc (.cells #[.int .i64 0, .int .i64 0, .int .i64 0, .int .i64 0, .int .i64 0] 27)).alloc (.cells #[.int .i64 0, .int .i64 0, .int .i64 0, .int .i64 0, .int .i64 0] 24)).alloc (.cells #[.int .i64 f, .int .i64 r, .int .i64 o, .int .i64 s, .int .i64 0] 27)) = w1 at *
          obtain ⟨c0, c1, c2, c3, c4⟩ : w1.cell? ⟨w.heap.size, 0, none⟩ = some (.int .i64 f) ∧ w1.cell? ⟨w.heap.size, 1, none⟩ = some (.int .i64 r) ∧ w1.cell? ⟨w.heap.size, 2, none⟩ = some (.int .i64 o) ∧ w1.cell? ⟨w.heap.size, 3, none⟩ = some (.int .i64 s) ∧ w1.cell? ⟨w.heap.size, 4, none⟩ = some (.int .i64 0) := ⟨HE1.out.1.1.c0, HE1.out.1.1.c1, HE1.out.1.1.c2, HE1.out.1.1.c3, HE1.out.1.1.c4⟩
          obtain ⟨d0, d1, d2, d3, d4⟩ : w1.cell? ⟨w.heap.size + 1 + 1 + 1, 0, none⟩ = some (.int .i64 f) ∧ w1.cell? ⟨w.heap.size + 1 + 1 + 1, 1, none⟩ = some (.int .i64 r) ∧ w1.cell? ⟨w.heap.size + 1 + 1 + 1, 2, none⟩ = some (.int .i64 o) ∧ w1.cell? ⟨w.heap.size + 1 + 1 + 1, 3, none⟩ = some (.int .i64 s) ∧ w1.cell? ⟨w.heap.size + 1 + 1 + 1, 4, none⟩ = some (.int .i64 0) := ⟨HE1.out.2.c0, HE1.out.2.c1, HE1.out.2.c2, HE1.out.2.c3, HE1.out.2.c4⟩
          have hfr := HE1.out.2.fr
          refine (in_go ⟨#[105, 97]⟩ 0 false _ (by decide) (by decide)).mono ?_
          rintro e w2 ⟨rfl, hb⟩
          have HE2 : Hid (Ent w w2 (f, r, o, s, 0) (f, r, o, s, 0)) := HE1.out.below hb
          clear hb HE1 c0 c1 c2 c3 c4 d0 d1 d2 d3 d4 hfr
          obtain ⟨c0, c1, c2, c3, c4⟩ : w2.cell? ⟨w.heap.size, 0, none⟩ = some (.int .i64 f) ∧ w2.cell? ⟨w.heap.size, 1, none⟩ = some (.int .i64 r) ∧ w2.cell? ⟨w.heap.size, 2, none⟩ = some (.int .i64 o) ∧ w2.cell? ⟨w.heap.size, 3, none⟩ = some (.int .i64 s) ∧ w2.cell? ⟨w.heap.size, 4, none⟩ = some (.int .i64 0) := ⟨HE2.out.1.1.c0, HE2.out.1.1.c1, HE2.out.1.1.c2, HE2.out.1.1.c3, HE2.out.1.1.c4⟩
          obtain ⟨d0, d1, d2, d3, d4⟩ : w2.cell? ⟨w.heap.size + 1 + 1 + 1, 0, none⟩ = some (.int .i64 f) ∧ w2.cell? ⟨w.heap.size + 1 + 1 + 1, 1, none⟩ = some (.int .i64 r) ∧ w2.cell? ⟨w.heap.size + 1 + 1 + 1, 2, none⟩ = some (.int .i64 o) ∧ w2.cell? ⟨w.heap.size + 1 + 1 + 1, 3, none⟩ = some (.int .i64 s) ∧ w2.cell? ⟨w.heap.size + 1 + 1 + 1, 4, none⟩ = some (.int .i64 0) := ⟨HE2.out.2.c0, HE2.out.2.c1, HE2.out.2.c2, HE2.out.2.c3, HE2.out.2.c4⟩
          have hfr := HE2.out.2.fr
          go_wp2_with fail
          refine (in_go ⟨#[49, 50, 51, 52, 53, 54, 55, 56, 57]⟩ k false _ (by decide) Hdigs.out).mono ?_
          rintro e w3 ⟨rfl, hb⟩
          have HE3 : Hid (Ent w w3 (f, r, o, s, 0) (f, r, o, s, 0)) := HE2.out.below hb
          clear hb HE2 c0 c1 c2 c3 c4 d0 d1 d2 d3 d4 hfr
          obtain ⟨c0, c1, c2, c3, c4⟩ : w3.cell? ⟨w.heap.size, 0, none⟩ = some (.int .i64 f) ∧ w3.cell? ⟨w.heap.size, 1, none⟩ = some (.int .i64 r) ∧ w3.cell? ⟨w.heap.size, 2, none⟩ = some (.int .i64 o) ∧ w3.cell? ⟨w.heap.size, 3, none⟩ = some (.int .i64 s) ∧ w3.cell? ⟨w.heap.size, 4, none⟩ = some (.int .i64 0) := ⟨HE3.out.1.1.c0, HE3.out.1.1.c1, HE3.out.1.1.c2, HE3.out.1.1.c3, HE3.out.1.1.c4⟩
          obtain ⟨d0, d1, d2, d3, d4⟩ : w3.cell? ⟨w.heap.size + 1 + 1 + 1, 0, none⟩ = some (.int .i64 f) ∧ w3.cell? ⟨w.heap.size + 1 + 1 + 1, 1, none⟩ = some (.int .i64 r) ∧ w3.cell? ⟨w.heap.size + 1 + 1 + 1, 2, none⟩ = some (.int .i64 o) ∧ w3.cell? ⟨w.heap.size + 1 + 1 + 1, 3, none⟩ = some (.int .i64 s) ∧ w3.cell? ⟨w.heap.size + 1 + 1 + 1, 4, none⟩ = some (.int .i64 0) := ⟨HE3.out.2.c0, HE3.out.2.c1, HE3.out.2.c2, HE3.out.2.c3, HE3.out.2.c4⟩
          have hfr := HE3.out.2.fr
          go_wp2_with fail
          refine (in_go ⟨#[100, 99, 121]⟩ k false _ (by decide) Hops.out).mono ?_
          rintro e w4 ⟨rfl, hb⟩
          have HE4 : Hid (Ent w w4 (f, r, o, s, 0) (f, r, o, s, 0)) := HE3.out.below hb
          clear hb HE3 c0 c1 c2 c3 c4 d0 d1 d2 d3 d4 hfr
          obtain ⟨c0, c1, c2, c3, c4⟩ : w4.cell? ⟨w.heap.size, 0, none⟩ = some (.int .i64 f) ∧ w4.cell? ⟨w.heap.size, 1, none⟩ = some (.int .i64 r) ∧ w4.cell? ⟨w.heap.size, 2, none⟩ = some (.int .i64 o) ∧ w4.cell? ⟨w.heap.size, 3, none⟩ = some (.int .i64 s) ∧ w4.cell? ⟨w.heap.size, 4, none⟩ = some (.int .i64 0) := ⟨HE4.out.1.1.c0, HE4.out.1.1.c1, HE4.out.1.1.c2, HE4.out.1.1.c3, HE4.out.1.1.c4⟩
          obtain ⟨d0, d1, d2, d3, d4⟩ : w4.cell? ⟨w.heap.size + 1 + 1 + 1, 0, none⟩ = some (.int .i64 f) ∧ w4.cell? ⟨w.heap.size + 1 + 1 + 1, 1, none⟩ = some (.int .i64 r) ∧ w4.cell? ⟨w.heap.size + 1 + 1 + 1, 2, none⟩ = some (.int .i64 o) ∧ w4.cell? ⟨w.heap.size + 1 + 1 + 1, 3, none⟩ = some (.int .i64 s) ∧ w4.cell? ⟨w.heap.size + 1 + 1 + 1, 4, none⟩ = some (.int .i64 0) := ⟨HE4.out.2.c0, HE4.out.2.c1, HE4.out.2.c2, HE4.out.2.c3, HE4.out.2.c4⟩
          have hfr := HE4.out.2.fr
          go_wp2_with fail
          refine (in_go ⟨#[100, 99, 121]⟩ k false _ (by decide) Hops.out).mono ?_
          rintro e w5 ⟨rfl, hb⟩
          have HE5 : Hid (Ent w w5 (f, r, o, s, 0) (f, r, o, s, 0)) := HE4.out.below hb
          clear hb HE4 c0 c1 c2 c3 c4 d0 d1 d2 d3 d4 hfr
          obtain ⟨c0, c1, c2, c3, c4⟩ : w5.cell? ⟨w.heap.size, 0, none⟩ = some (.int .i64 f) ∧ w5.cell? ⟨w.heap.size, 1, none⟩ = some (.int .i64 r) ∧ w5.cell? ⟨w.heap.size, 2, none⟩ = some (.int .i64 o) ∧ w5.cell? ⟨w.heap.size, 3, none⟩ = some (.int .i64 s) ∧ w5.cell? ⟨w.heap.size, 4, none⟩ = some (.int .i64 0) := ⟨HE5.out.1.1.c0, HE5.out.1.1.c1, HE5.out.1.1.c2, HE5.out.1.1.c3, HE5.out.1.1.c4⟩
          obtain ⟨d0, d1, d2, d3, d4⟩ : w5.cell? ⟨w.heap.size + 1 + 1 + 1, 0, none⟩ = some (.int .i64 f) ∧ w5.cell? ⟨w.heap.size + 1 + 1 + 1, 1, none⟩ = some (.int .i64 r) ∧ w5.cell? ⟨w.heap.size + 1 + 1 + 1, 2, none⟩ = some (.int .i64 o) ∧ w5.cell? ⟨w.heap.size + 1 + 1 + 1, 3, none⟩ = some (.int .i64 s) ∧ w5.cell? ⟨w.heap.size + 1 + 1 + 1, 4, none⟩ = some (.int .i64 0) := ⟨HE5.out.2.c0, HE5.out.2.c1, HE5.out.2.c2, HE5.out.2.c3, HE5.out.2.c4⟩
          have hfr := HE5.out.2.fr
          go_wp2_with fail
          refine (in_go ⟨#[104, 108, 48, 94, 36, 124, 119, 87, 98, 66, 101, 69, 37, 59, 44]⟩ k false _ (by decide) Hmots.out).mono ?_
          rintro e w6 ⟨rfl, hb⟩
          have HE6 : Hid (Ent w w6 (f, r, o, s, 0) (f, r, o, s, 0)) := HE5.out.below hb
          clear hb HE5 c0 c1 c2 c3 c4 d0 d1 d2 d3 d4 hfr
          obtain ⟨c0, c1, c2, c3, c4⟩ : w6.cell? ⟨w.heap.size, 0, none⟩ = some (.int .i64 f) ∧ w6.cell? ⟨w.heap.size, 1, none⟩ = some (.int .i64 r) ∧ w6.cell? ⟨w.heap.size, 2, none⟩ = some (.int .i64 o) ∧ w6.cell? ⟨w.heap.size, 3, none⟩ = some (.int .i64 s) ∧ w6.cell? ⟨w.heap.size, 4, none⟩ = some (.int .i64 0) := ⟨HE6.out.1.1.c0, HE6.out.1.1.c1, HE6.out.1.1.c2, HE6.out.1.1.c3, HE6.out.1.1.c4⟩
          obtain ⟨d0, d1, d2, d3, d4⟩ : w6.cell? ⟨w.heap.size + 1 + 1 + 1, 0, none⟩ = some (.int .i64 f) ∧ w6.cell? ⟨w.heap.size + 1 + 1 + 1, 1, none⟩ = some (.int .i64 r) ∧ w6.cell? ⟨w.heap.size + 1 + 1 + 1, 2, none⟩ = some (.int .i64 o) ∧ w6.cell? ⟨w.heap.size + 1 + 1 + 1, 3, none⟩ = some (.int .i64 s) ∧ w6.cell? ⟨w.heap.size + 1 + 1 + 1, 4, none⟩ = some (.int .i64 0) := ⟨HE6.out.2.c0, HE6.out.2.c1, HE6.out.2.c2, HE6.out.2.c3, HE6.out.2.c4⟩
          have hfr := HE6.out.2.fr
          go_wp2_with fail
          refine (in_go ⟨#[102, 70, 116, 84]⟩ k false _ (by decide) Hfnds.out).mono ?_
          rintro e w7 ⟨rfl, hb⟩
          have HE7 : Hid (Ent w w7 (f, r, o, s, 0) (f, r, o, s, 0)) := HE6.out.below hb
          clear hb HE6 c0 c1 c2 c3 c4 d0 d1 d2 d3 d4 hfr
          obtain ⟨c0, c1, c2, c3, c4⟩ : w7.cell? ⟨w.heap.size, 0, none⟩ = some (.int .i64 f) ∧ w7.cell? ⟨w.heap.size, 1, none⟩ = some (.int .i64 r) ∧ w7.cell? ⟨w.heap.size, 2, none⟩ = some (.int .i64 o) ∧ w7.cell? ⟨w.heap.size, 3, none⟩ = some (.int .i64 s) ∧ w7.cell? ⟨w.heap.size, 4, none⟩ = some (.int .i64 0) := ⟨HE7.out.1.1.c0, HE7.out.1.1.c1, HE7.out.1.1.c2, HE7.out.1.1.c3, HE7.out.1.1.c4⟩
          obtain ⟨d0, d1, d2, d3, d4⟩ : w7.cell? ⟨w.heap.size + 1 + 1 + 1, 0, none⟩ = some (.int .i64 f) ∧ w7.cell? ⟨w.heap.size + 1 + 1 + 1, 1, none⟩ = some (.int .i64 r) ∧ w7.cell? ⟨w.heap.size + 1 + 1 + 1, 2, none⟩ = some (.int .i64 o) ∧ w7.cell? ⟨w.heap.size + 1 + 1 + 1, 3, none⟩ = some (.int .i64 s) ∧ w7.cell? ⟨w.heap.size + 1 + 1 + 1, 4, none⟩ = some (.int .i64 0) := ⟨HE7.out.2.c0, HE7.out.2.c1, HE7.out.2.c2, HE7.out.2.c3, HE7.out.2.c4⟩
          have hfr := HE7.out.2.fr
          go_wp2_with fail
          refine (in_go ⟨#[105, 97]⟩ k false _ (by decide) Hsids.out).mono ?_
          rintro e w8 ⟨rfl, hb⟩
          have HE8 : Hid (Ent w w8 (f, r, o, s, 0) (f, r, o, s, 0)) := HE7.out.below hb
          clear hb HE7 c0 c1 c2 c3 c4 d0 d1 d2 d3 d4 hfr
          obtain ⟨c0, c1, c2, c3, c4⟩ : w8.cell? ⟨w.heap.size, 0, none⟩ = some (.int .i64 f) ∧ w8.cell? ⟨w.heap.size, 1, none⟩ = some (.int .i64 r) ∧ w8.cell? ⟨w.heap.size, 2, none⟩ = some (.int .i64 o) ∧ w8.cell? ⟨w.heap.size, 3, none⟩ = some (.int .i64 s) ∧ w8.cell? ⟨w.heap.size, 4, none⟩ = some (.int .i64 0) := ⟨HE8.out.1.1.c0, HE8.out.1.1.c1, HE8.out.1.1.c2, HE8.out.1.1.c3, HE8.out.1.1.c4⟩
          obtain ⟨d0, d1, d2, d3, d4⟩ : w8.cell? ⟨w.heap.size + 1 + 1 + 1, 0, none⟩ = some (.int .i64 f) ∧ w8.cell? ⟨w.heap.size + 1 + 1 + 1, 1, none⟩ = some (.int .i64 r) ∧ w8.cell? ⟨w.heap.size + 1 + 1 + 1, 2, none⟩ = some (.int .i64 o) ∧ w8.cell? ⟨w.heap.size + 1 + 1 + 1, 3, none⟩ = some (.int .i64 s) ∧ w8.cell? ⟨w.heap.size + 1 + 1 + 1, 4, none⟩ = some (.int .i64 0) := ⟨HE8.out.2.c0, HE8.out.2.c1, HE8.out.2.c2, HE8.out.2.c3, HE8.out.2.c4⟩
          have hfr := HE8.out.2.fr
          go_wp2_with fail
          refine (refWrong_go _).mono ?_
          rintro e w9 ⟨rfl, hb⟩
          have HF : Hid (Enter w w9 (f, r, o, s, 0) w.heap.size (w.heap.size + 1) (w.heap.size + 1 + 1)) := Enter.below HE8.out.1 hb
          clear hb HE8 c0 c1 c2 c3 c4 d0 d1 d2 d3 d4 hfr
          go_wp2_with (first | (refine storeF rfl 27 _ _ rfl (.inl rfl) _ rfl wrg.1 zer rfl HF.out.2.1 ?_) | (refine storeF rfl 24 _ _ rfl (.inr rfl) _ rfl wrg.2.1 zer rfl (HF.out.2.2.1.other _ (by omega)) ?_))
          exact HF.out.end 4 5 6 Tryd.results15 rfl rfl rfl rfl

end Go.Proofs.YtjpgjhdkgmddfaaDoor.Seek
