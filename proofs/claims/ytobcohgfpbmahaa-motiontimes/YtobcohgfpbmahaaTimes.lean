/- Plain mathematics: so many times a motion is as often the motion once. -/
import Derived.Test.YtobcohgfpbmahaaLeads
set_option linter.unusedVariables false
set_option linter.unusedSimpArgs false
namespace Go.Proofs.Ytobcohgfpbmahaa.Plain
open Seek
theorem goUp_first (p : Nat → Bool) : ∀ (f i q a : Nat), goUp p f i q = some a → 1 ≤ q → ∃ b, goUp p f i 1 = some b ∧ (q = 1 → a = b) ∧ (2 ≤ q → goUp p (i + f - (b + 1)) (b + 1) (q - 1) = some a)
  | 0, _, _, _, h, _ => by cases h
  | f + 1, i, q, a, h, hq => by
    unfold goUp at h
    by_cases hp : p i = true
    · rw [if_pos hp] at h
      refine ⟨i, by unfold goUp; rw [if_pos hp, if_pos rfl], fun h1 => ?_, fun h2 => ?_⟩
      · rw [if_pos h1] at h
        cases h
        rfl
      · rw [if_neg (by omega)] at h
        rw [show i + (f + 1) - (i + 1) = f by omega]
        exact h
    · rw [if_neg hp] at h
      obtain ⟨b, h1, h2, h3⟩ := goUp_first p f (i + 1) q a h hq
      refine ⟨b, by unfold goUp; rw [if_neg hp]; exact h1, h2, fun hh => ?_⟩
      rw [show i + (f + 1) - (b + 1) = i + 1 + f - (b + 1) by omega]
      exact h3 hh
theorem goDn_first (p : Nat → Bool) : ∀ (i q a : Nat), goDn p i q = some a → 1 ≤ q → ∃ b, goDn p i 1 = some b ∧ (q = 1 → a = b) ∧ (2 ≤ q → goDn p b (q - 1) = some a)
  | 0, _, _, h, _ => by cases h
  | i + 1, q, a, h, hq => by
    unfold goDn at h
    by_cases hp : p i = true
    · rw [if_pos hp] at h
      refine ⟨i, by unfold goDn; rw [if_pos hp, if_pos rfl], fun h1 => ?_, fun h2 => ?_⟩
      · rw [if_pos h1] at h
        cases h
        rfl
      · rw [if_neg (by omega)] at h
        exact h
    · rw [if_neg hp] at h
      obtain ⟨b, h1, h2, h3⟩ := goDn_first p i q a h hq
      exact ⟨b, by unfold goDn; rw [if_neg hp]; exact h1, h2, h3⟩
/-- What is kept from step to step. -/
def Steps (zs : List Int) (key : Int) (op : Bool) (n : Nat) (t k : Int) : Prop :=
  ∃ Inv : Nat → Int → Prop, Inv 0 k ∧
    (∀ i p, i < n → Inv i p → (key ≠ 102 ∧ key ≠ 70 ∧ ((goes zs p 1 key 97 op).2.2 ≠ 0 ∨ (zs.length : Int) ≤ (goes zs p 1 key 97 op).1)) ∨
      ((goes zs p 1 key 97 op).2.2 = 0 ∧ (goes zs p 1 key 97 op).1 < (zs.length : Int) ∧ Inv (i + 1) (goes zs p 1 key 97 op).1)) ∧
    (∀ p, Inv n p → p = t)
theorem goes_once {zs : List Int} {q : Nat} {key : Int} {op : Bool} (hl : zs.length ≤ 4096) (hq : q ≤ zs.length - 1) (hk : isk key = true) :
    ((lead zs q 1 key 97 op).2 = false ∧ (goes zs (q : Int) 1 key 97 op).2.2 ≠ 0) ∨
    ((lead zs q 1 key 97 op).2 = true ∧ (goes zs (q : Int) 1 key 97 op).2.2 = 0 ∧ (goes zs (q : Int) 1 key 97 op).1 = (lead zs q 1 key 97 op).1) := by
  rw [goes_good (mchk_right hl hq (by decide) (by decide) hk)]
  have h1 : times 1 = 1 := rfl
  rw [h1]
  cases h : (lead zs q 1 key 97 op).2 with
  | true => exact .inr ⟨rfl, rfl, rfl⟩
  | false => exact .inl ⟨rfl, (by decide : (5 : Int) ≠ 0)⟩
theorem goes_many {zs : List Int} {k n key t : Int} {y op : Bool} (h : goes zs k n key 97 op = (t, y, 0)) (hn : 1 ≤ n) :
    ∃ j N : Nat, k = (j : Int) ∧ n = (N : Int) ∧ 1 ≤ N ∧ N ≤ 999 ∧ j ≤ zs.length - 1 ∧ zs.length ≤ 4096 ∧ isk key = true ∧ (lead zs j N key 97 op).2 = true ∧ (lead zs j N key 97 op).1 = t := by
  by_cases hm : mchk zs.length k n key = 0
  · obtain ⟨hl, ⟨j, rfl, hj⟩, hc0, hc9, hkey⟩ := mchk_zero hm
    rw [goes_good hm] at h
    have ht : n = (times n : Int) := by unfold times; omega
    by_cases h2 : (lead zs j (times n) key 97 op).2 = true
    · rw [if_pos h2] at h
      refine ⟨j, times n, rfl, ht, by omega, by omega, hj, hl, hkey, h2, ?_⟩
      exact congrArg (fun q => q.1) h
    · rw [if_neg h2] at h
      cases h
  · rw [goes_bad hm] at h
    exact absurd (congrArg (fun q => q.2.2) h) hm
theorem steps_h {zs : List Int} {j N : Nat} {op : Bool} {t : Int} (hl : zs.length ≤ 4096) (hj : j ≤ zs.length - 1) (hN : 1 ≤ N) (h2 : (lead zs j N 104 97 op).2 = true) (h1 : (lead zs j N 104 97 op).1 = t) : Steps zs 104 op N t (j : Int) := by
  have h3 : max ((j : Int) - N) 0 = t := h1
  refine ⟨fun i p => ∃ q : Nat, p = (q : Int) ∧ q + i = j, ⟨j, rfl, rfl⟩, ?_, ?_⟩
  · rintro i p hi ⟨q, rfl, hq⟩
    rcases goes_once (zs := zs) (q := q) (key := 104) (op := op) hl (by omega) (by decide) with ⟨_, g⟩ | ⟨g1, g2, g3⟩
    · exact .inl ⟨by decide, by decide, .inl g⟩
    · have g4 : decide (0 < (q : Int)) = true := g1
      have g5 := of_decide_eq_true g4
      have g6 : (lead zs q 1 104 97 op).1 = max ((q : Int) - (1 : Nat)) 0 := rfl
      rw [g3, g6]
      exact .inr ⟨g2, by omega, q - 1, by omega, by omega⟩
  · rintro p ⟨q, rfl, hq⟩
    omega
theorem steps_l {zs : List Int} {j N : Nat} {op : Bool} {t : Int} (hl : zs.length ≤ 4096) (hj : j ≤ zs.length - 1) (hN : 1 ≤ N) (h2 : (lead zs j N 108 97 op).2 = true) (h1 : (lead zs j N 108 97 op).1 = t) : Steps zs 108 op N t (j : Int) := by
  have h3 : min ((j : Int) + N) (endOf zs op) = t := h1
  have h4 : decide ((j : Int) < endOf zs op) = true := h2
  have h5 := of_decide_eq_true h4
  have h6 : (zs.length : Int) - 1 ≤ endOf zs op ∧ endOf zs op ≤ (zs.length : Int) := by unfold endOf; split <;> omega
  refine ⟨fun i p => ∃ q : Nat, p = (q : Int) ∧ q = j + i ∧ q ≤ zs.length - 1, ⟨j, rfl, rfl, hj⟩, ?_, ?_⟩
  · rintro i p hi ⟨q, rfl, hq, hq2⟩
    rcases goes_once (zs := zs) (q := q) (key := 108) (op := op) hl hq2 (by decide) with ⟨_, g⟩ | ⟨g1, g2, g3⟩
    · exact .inl ⟨by decide, by decide, .inl g⟩
    · have g4 : decide ((q : Int) < endOf zs op) = true := g1
      have g5 := of_decide_eq_true g4
      have g6 : (lead zs q 1 108 97 op).1 = min ((q : Int) + (1 : Nat)) (endOf zs op) := rfl
      rw [g3, g6]
      by_cases hb : (zs.length : Int) ≤ min ((q : Int) + (1 : Nat)) (endOf zs op)
      · exact .inl ⟨by decide, by decide, .inr hb⟩
      · exact .inr ⟨g2, by omega, q + 1, by omega, by omega, by omega⟩
  · rintro p ⟨q, rfl, hq, hq2⟩
    omega
theorem steps_b {zs : List Int} {j N : Nat} {op : Bool} {t : Int} (b : Bool) (key : Int) (hk : key = if b = true then 66 else 98) (hl : zs.length ≤ 4096) (hj : j ≤ zs.length - 1) (hN : 1 ≤ N) (h2 : (lead zs j N key 97 op).2 = true) (h1 : (lead zs j N key 97 op).1 = t) : Steps zs key op N t (j : Int) := by
  have hL : ∀ q n, lead zs q n key 97 op = (iter (fun x => back zs x b) n q, decide (0 < (q : Int))) := fun q n => by subst hk; cases b <;> rfl
  have hk1 : key ≠ 102 ∧ key ≠ 70 ∧ isk key = true := by subst hk; cases b <;> decide
  rw [hL] at h1 h2
  refine ⟨fun i p => ∃ q : Nat, p = (q : Int) ∧ (q : Int) = iter (fun x => back zs x b) i j ∧ q ≤ zs.length - 1, ⟨j, rfl, rfl, hj⟩, ?_, ?_⟩
  · rintro i p hi ⟨q, rfl, hq, hq2⟩
    rcases goes_once (zs := zs) (q := q) (key := key) (op := op) hl hq2 hk1.2.2 with ⟨_, g⟩ | ⟨g1, g2, g3⟩
    · exact .inl ⟨hk1.1, hk1.2.1, .inl g⟩
    · rw [hL] at g1 g3
      have g5 := of_decide_eq_true g1
      have g6 := back_in (zs := zs) (x := (q : Int)) (b := b) hl (by omega) (by omega)
      have g7 : (goes zs (q : Int) 1 key 97 op).1 = back zs (q : Int) b := g3
      rw [g7]
      refine .inr ⟨g2, by omega, (back zs (q : Int) b).toNat, by omega, ?_, by omega⟩
      have g8 : iter (fun x => back zs x b) (i + 1) j = back zs (iter (fun x => back zs x b) i j) b := rfl
      rw [g8, ← hq]
      omega
  · rintro p ⟨q, rfl, hq, hq2⟩
    rw [hq]
    exact h1
theorem steps_e {zs : List Int} {j N : Nat} {op : Bool} {t : Int} (b : Bool) (key : Int) (hk : key = if b = true then 69 else 101) (hl : zs.length ≤ 4096) (hj : j ≤ zs.length - 1) (hN : 1 ≤ N) (h2 : (lead zs j N key 97 op).2 = true) (h1 : (lead zs j N key 97 op).1 = t) : Steps zs key op N t (j : Int) := by
  have hk1 : key ≠ 102 ∧ key ≠ 70 ∧ isk key = true := by subst hk; cases b <;> decide
  have hk2 : key = 36 ∨ key = 124 ∨ key = 119 ∨ key = 87 ∨ key = 101 ∨ key = 69 ∨ key = 37 ∨ key = 102 ∨ key = 116 ∨ key = 70 ∨ key = 84 := by subst hk; cases b <;> decide
  by_cases hz : zs.length = 0
  · rw [lead_none hz hk2] at h2
    cases h2
  have hL : ∀ q n, lead zs q n key 97 op = (iter (fun x => last zs x b) n q, op || iter (fun x => last zs x b) n q != (q : Int)) := fun q n => by rw [lead_line hz hk2]; subst hk; cases b <;> rfl
  rw [hL] at h1 h2
  refine ⟨fun i p => ∃ q : Nat, p = (q : Int) ∧ (q : Int) = iter (fun x => last zs x b) i j ∧ q ≤ zs.length - 1, ⟨j, rfl, rfl, hj⟩, ?_, ?_⟩
  · rintro i p hi ⟨q, rfl, hq, hq2⟩
    rcases goes_once (zs := zs) (q := q) (key := key) (op := op) hl hq2 hk1.2.2 with ⟨_, g⟩ | ⟨g1, g2, g3⟩
    · exact .inl ⟨hk1.1, hk1.2.1, .inl g⟩
    · rw [hL] at g3
      have g6 := last_in (zs := zs) (x := (q : Int)) (b := b) hl (by omega) (by omega) (by omega)
      have g7 : (goes zs (q : Int) 1 key 97 op).1 = last zs (q : Int) b := g3
      rw [g7]
      refine .inr ⟨g2, by omega, (last zs (q : Int) b).toNat, by omega, ?_, by omega⟩
      have g8 : iter (fun x => last zs x b) (i + 1) j = last zs (iter (fun x => last zs x b) i j) b := rfl
      rw [g8, ← hq]
      omega
  · rintro p ⟨q, rfl, hq, hq2⟩
    rw [hq]
    exact h1
theorem steps_f {zs : List Int} {j N : Nat} {op : Bool} {t : Int} (hl : zs.length ≤ 4096) (hj : j ≤ zs.length - 1) (hN : 1 ≤ N) (h2 : (lead zs j N 102 97 op).2 = true) (h1 : (lead zs j N 102 97 op).1 = t) : Steps zs 102 op N t (j : Int) := by
  by_cases hz : zs.length = 0
  · rw [lead_none hz (by decide)] at h2
    cases h2
  have hL : ∀ q n, lead zs q n 102 97 op = told (goUp (hit zs 97) (zs.length - (q + 1)) (q + 1) n) := fun q n => by rw [lead_line hz (by decide)]; rfl
  rw [hL] at h1 h2
  obtain ⟨A, hA, hA2⟩ := told_some h2
  rw [hA2] at h1
  have ht : (A : Int) = t := h1
  refine ⟨fun i p => ∃ q : Nat, p = (q : Int) ∧ q ≤ zs.length - 1 ∧ (i < N → goUp (hit zs 97) (zs.length - (q + 1)) (q + 1) (N - i) = some A) ∧ (i = N → q = A), ⟨j, rfl, hj, fun _ => hA, fun h => by omega⟩, ?_, ?_⟩
  · rintro i p hi ⟨q, rfl, hq, hq2, _⟩
    obtain ⟨b, g1, g2, g3⟩ := goUp_first _ _ _ _ _ (hq2 hi) (by omega)
    have g4 := goUp_lt _ _ _ _ _ g1
    rcases goes_once (zs := zs) (q := q) (key := 102) (op := op) hl hq (by decide) with ⟨g, _⟩ | ⟨g5, g6, g7⟩
    · rw [hL, g1] at g
      cases g
    · rw [hL, g1] at g7
      have g8 : (goes zs (q : Int) 1 102 97 op).1 = (b : Int) := g7
      rw [g8]
      refine .inr ⟨g6, by omega, b, rfl, by omega, fun hh => ?_, fun hh => (g2 (by omega)).symm⟩
      have := g3 (by omega)
      rw [show q + 1 + (zs.length - (q + 1)) - (b + 1) = zs.length - (b + 1) by omega] at this
      rw [show N - (i + 1) = N - i - 1 by omega]
      exact this
  · rintro p ⟨q, rfl, hq, _, h⟩
    rw [h rfl]
    exact ht
theorem steps_F {zs : List Int} {j N : Nat} {op : Bool} {t : Int} (hl : zs.length ≤ 4096) (hj : j ≤ zs.length - 1) (hN : 1 ≤ N) (h2 : (lead zs j N 70 97 op).2 = true) (h1 : (lead zs j N 70 97 op).1 = t) : Steps zs 70 op N t (j : Int) := by
  by_cases hz : zs.length = 0
  · rw [lead_none hz (by decide)] at h2
    cases h2
  have hL : ∀ q n, lead zs q n 70 97 op = told (goDn (hit zs 97) q n) := fun q n => by rw [lead_line hz (by decide)]; rfl
  rw [hL] at h1 h2
  obtain ⟨A, hA, hA2⟩ := told_some h2
  rw [hA2] at h1
  have ht : (A : Int) = t := h1
  refine ⟨fun i p => ∃ q : Nat, p = (q : Int) ∧ q ≤ zs.length - 1 ∧ (i < N → goDn (hit zs 97) q (N - i) = some A) ∧ (i = N → q = A), ⟨j, rfl, hj, fun _ => hA, fun h => by omega⟩, ?_, ?_⟩
  · rintro i p hi ⟨q, rfl, hq, hq2, _⟩
    obtain ⟨b, g1, g2, g3⟩ := goDn_first _ _ _ _ (hq2 hi) (by omega)
    have g4 := goDn_lt _ _ _ _ g1
    rcases goes_once (zs := zs) (q := q) (key := 70) (op := op) hl hq (by decide) with ⟨g, _⟩ | ⟨g5, g6, g7⟩
    · rw [hL, g1] at g
      cases g
    · rw [hL, g1] at g7
      have g8 : (goes zs (q : Int) 1 70 97 op).1 = (b : Int) := g7
      rw [g8]
      refine .inr ⟨g6, by omega, b, rfl, by omega, fun hh => ?_, fun hh => (g2 (by omega)).symm⟩
      have := g3 (by omega)
      rw [show N - (i + 1) = N - i - 1 by omega]
      exact this
  · rintro p ⟨q, rfl, hq, _, h⟩
    rw [h rfl]
    exact ht
theorem steps {zs : List Int} {j N : Nat} {key : Int} {op : Bool} {t : Int} (hkey : key = 104 ∨ key = 108 ∨ key = 98 ∨ key = 66 ∨ key = 101 ∨ key = 69 ∨ key = 102 ∨ key = 70) (hl : zs.length ≤ 4096) (hj : j ≤ zs.length - 1) (hN : 1 ≤ N) (h2 : (lead zs j N key 97 op).2 = true) (h1 : (lead zs j N key 97 op).1 = t) : Steps zs key op N t (j : Int) := by
  rcases hkey with rfl | rfl | rfl | rfl | rfl | rfl | rfl | rfl
  · exact steps_h hl hj hN h2 h1
  · exact steps_l hl hj hN h2 h1
  · exact steps_b false _ rfl hl hj hN h2 h1
  · exact steps_b true _ rfl hl hj hN h2 h1
  · exact steps_e false _ rfl hl hj hN h2 h1
  · exact steps_e true _ rfl hl hj hN h2 h1
  · exact steps_f hl hj hN h2 h1
  · exact steps_F hl hj hN h2 h1
end Go.Proofs.Ytobcohgfpbmahaa.Plain
