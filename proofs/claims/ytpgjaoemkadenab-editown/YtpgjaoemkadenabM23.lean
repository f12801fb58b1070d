/- What holds of things: with what is around them, and without. -/
import Derived.Test.YtpgjaoemkadenabM21
import Derived.Test.YtpgjaoemkadenabM22
import Derived.Test.YtpgjaoemkadenabM01
set_option linter.unusedVariables false
set_option linter.unusedSimpArgs false
set_option maxRecDepth 100000
namespace Go.Proofs.Ytpgjaoemkadenab.Plain
open Seek
/-- A pair of signs that was found. -/
theorem pick_spec {zs : List Int} {k key : Int} {p z : Nat} (hk : 0 ≤ k) (h : pick zs k key = some (p, z)) : p < z ∧ z < zs.length ∧ k ≤ (z : Int) := by
  unfold pick at h
  split at h
  · have := qfind_spec (fun x hx => by cases hx) h
    omega
  · rename_i h0
    obtain ⟨h1, h2, h3, _⟩ := bfind_spec h
    obtain ⟨g1, g2, g3⟩ := brp_true.1 h2
    have ho : opens (opn key) = true := by
      rcases sort key with g | g | g
      · rw [(opn_open g.1).1]; exact g.1
      · rw [(opn_shut g.2.1).1]; exact g.2.2.2.1
      · exact absurd g.2.2 h0
    rcases (holds (fn zs) zs.length).told p h1 with g | ⟨i, i1, i2, _, _, i3⟩
    · omega
    · have hop : opens (fn zs p) = true := by rw [show fn zs p = zs.getD p 0 from rfl, g2]; exact ho
      rcases i3 with ⟨i4, _, _⟩ | ⟨_, _, i4⟩
      · rw [not_both hop] at i4
        cases i4
      · omega
/-- No thing at all: the same error, and no places. -/
def NoThing (zs : List Int) (k key : Int) : Prop := ∃ e : Int, e ≠ 0 ∧ thing zs k false key = (0, 0, e) ∧ thing zs k true key = (0, 0, e)
/-- A word. -/
def WordThing (zs : List Int) (k key : Int) : Prop := (key = 119 ∨ key = 87) ∧ zs.length ≤ 4096 ∧ ∃ j A Z C D : Nat, k = (j : Int) ∧ thing zs k false key = ((A : Int), (Z : Int), 0) ∧ thing zs k true key = ((C : Int), (D : Int), 0) ∧
  C ≤ A ∧ A ≤ j ∧ j < Z ∧ Z ≤ D ∧ D ≤ zs.length ∧ ∀ x, A ≤ x → x < Z → kd zs (key == 87) x = kd zs (key == 87) j
/-- What signs hold. -/
def SignThing (zs : List Int) (k key : Int) : Prop := ¬ (key = 119 ∨ key = 87) ∧ zs.length ≤ 4096 ∧ ∃ j p z : Nat, k = (j : Int) ∧ thing zs k false key = ((p : Int) + 1, (z : Int), 0) ∧ thing zs k true key = ((p : Int), (z : Int) + 1, 0) ∧
  p < z ∧ z < zs.length ∧ j ≤ z
theorem thing_cases (zs : List Int) (k key : Int) : NoThing zs k key ∨ WordThing zs k key ∨ SignThing zs k key := by
  by_cases h : 4096 < zs.length
  · exact .inl ⟨2, by decide, thing_large h, thing_large h⟩
  · by_cases hk : k < 0 ∨ ((zs.length - 1 : Nat) : Int) < k
    · exact .inl ⟨1, by decide, thing_arg h hk, thing_arg h hk⟩
    · obtain ⟨j, rfl⟩ : ∃ j : Nat, k = (j : Int) := ⟨k.toNat, by omega⟩
      by_cases hw : key = 119 ∨ key = 87
      · by_cases hz : zs.length = 0
        · exact .inl ⟨6, by decide, (thing_word h hk hw).trans (if_pos hz), (thing_word h hk hw).trans (if_pos hz)⟩
        · have hj : j < zs.length := by omega
          obtain ⟨h1, h2, h3, h4⟩ := run_spec (b := key == 87) hj
          obtain ⟨g1, g2, g3⟩ := wrd_in (b := key == 87) hj
          refine .inr (.inl ⟨hw, by omega, j, rlo zs (key == 87) j, rhi zs (key == 87) j, (wrd zs (key == 87) true j).1, (wrd zs (key == 87) true j).2, rfl, ?_, ?_, g1, h1, h2, g2, g3, h4⟩)
          · rw [thing_word h hk hw, if_neg hz, Int.toNat_natCast, wrd_none]
          · rw [thing_word h hk hw, if_neg hz, Int.toNat_natCast]
      · cases hs : sgn key with
        | false => exact .inl ⟨9, by decide, thing_key h hk hw hs, thing_key h hk hw hs⟩
        | true =>
          cases hp : pick zs j key with
          | none =>
            refine .inl ⟨6, by decide, ?_, ?_⟩
            · rw [thing_sign h hk hs, hp]; rfl
            · rw [thing_sign h hk hs, hp]; rfl
          | some t =>
            obtain ⟨p, z⟩ := t
            obtain ⟨h1, h2, h3⟩ := pick_spec (by omega) hp
            refine .inr (.inr ⟨hw, by omega, j, p, z, rfl, ?_, ?_, h1, h2, by omega⟩)
            · rw [thing_sign h hk hs, hp]; rfl
            · rw [thing_sign h hk hs, hp]; rfl

/-- Brackets within a pair of their kind have their partners within it. -/
theorem inner_open {f : Nat → Int} {n p z i : Nat} (hn : p < n) (ho : opens (f p) = true) (hp : par f n p = (z : Int)) (hi : p < i) (hz : i < z) (hzn : z < n) (hf : f i = f p) : ∃ m : Nat, par f n i = (m : Int) ∧ i < m ∧ m < z := by
  obtain ⟨m, h1, h2⟩ := (holds f n).nest p i z hi (by omega) ho hf.symm hp hz
  refine ⟨m, h1, ?_, h2⟩
  rcases (holds f n).told i (by omega) with g | ⟨q, _, g2, _, _, g3⟩
  · rw [g] at h1; omega
  · rcases g3 with ⟨g4, _, _⟩ | ⟨_, _, g4⟩
    · rw [not_both (by rw [hf]; exact ho)] at g4; cases g4
    · omega
theorem inner_shut {f : Nat → Int} {n p z i : Nat} (hn : p < n) (ho : opens (f p) = true) (hp : par f n p = (z : Int)) (hi : p < i) (hz : i < z) (hzn : z < n) (hf : f i = brk (f p)) : ∃ m : Nat, par f n i = (m : Int) ∧ p < m ∧ m < i := by
  obtain ⟨hs, hbb⟩ := shuts_kind ho
  have hsi : shuts (f i) = true := by rw [hf]; exact hs
  have hno : opens (f i) = false := not_both2 hsi
  have hst := par_stays hno n (show i < n by omega)
  rw [if_pos hsi, hf, hbb] at hst
  have hwait : p ∈ stk f (f p) i := by
    refine ((holds f i).wait (f p) p).2 ⟨hi, rfl, ho, ?_⟩
    rcases (holds f i).told p hi with g | ⟨q, g1, g2, _⟩
    · exact g
    · have := par_keeps g2 hi n (by omega)
      rw [hp] at this
      omega
  cases hl : stk f (f p) i with
  | nil => rw [hl] at hwait; cases hwait
  | cons m r =>
    rw [hl] at hst
    have hst2 : par f n i = (m : Int) := hst
    have hm := ((holds f i).wait (f p) m).1 (by rw [hl]; simp)
    have hle : p ≤ m := by
      rw [hl] at hwait
      rcases List.mem_cons.1 hwait with g | g
      · omega
      · have hd := (holds f i).down (f p)
        rw [hl, List.pairwise_cons] at hd
        have := hd.1 p g
        omega
    have hne : m ≠ p := by
      rintro rfl
      rcases (holds f n).told i (by omega) with g | ⟨q, _, g2, g3, _⟩
      · rw [g] at hst2; omega
      · rw [g2] at hst2
        obtain rfl : q = m := by omega
        rw [g3] at hp
        omega
    exact ⟨m, hst2, by omega, hm.1⟩
/-- What ObjectBrackets asks, where there is a pair. -/
def PairThing (zs : List Int) (k key : Int) : Prop := zs.length ≤ 4096 ∧ ∃ j p z : Nat, k = (j : Int) ∧ thing zs k false key = ((p : Int) + 1, (z : Int), 0) ∧ p < z ∧ z < zs.length ∧ p ≤ j ∧ j ≤ z ∧ par (fn zs) zs.length p = (z : Int) ∧
  (∀ i, p < i → i < z → zs.getD i 0 = zs.getD p 0 ∨ zs.getD i 0 = zs.getD z 0 → ((p : Int) < par (fn zs) zs.length i ∧ par (fn zs) zs.length i < (z : Int))) ∧
  (∀ i, p < i → i < z → zs.getD i 0 = zs.getD p 0 → ¬ (i ≤ j ∧ (j : Int) ≤ par (fn zs) zs.length i))
theorem pair_cases (zs : List Int) (k key : Int) (h0 : brk key ≠ 0) : (∃ e : Int, e ≠ 0 ∧ thing zs k false key = (0, 0, e)) ∨ PairThing zs k key := by
  by_cases h : 4096 < zs.length
  · exact .inl ⟨2, by decide, thing_large h⟩
  · by_cases hk : k < 0 ∨ ((zs.length - 1 : Nat) : Int) < k
    · exact .inl ⟨1, by decide, thing_arg h hk⟩
    · obtain ⟨j, rfl⟩ : ∃ j : Nat, k = (j : Int) := ⟨k.toNat, by omega⟩
      have hs : sgn key = true := by
        unfold sgn
        rw [show (brk key != 0) = true from by simpa using h0]
        rfl
      have hth := fun ar => thing_sign (ar := ar) h hk hs
      cases hp : pick zs j key with
      | none =>
        refine .inl ⟨6, by decide, ?_⟩
        rw [hth, hp]; rfl
      | some t =>
        obtain ⟨p, z⟩ := t
        obtain ⟨h1, h2, h3⟩ := pick_spec (by omega) hp
        have hp2 := hp
        unfold pick at hp2
        rw [if_neg h0] at hp2
        obtain ⟨g1, g2, g3, g4⟩ := bfind_spec hp2
        obtain ⟨g5, g6, g7⟩ := brp_true.1 g2
        have ho : opens (fn zs p) = true := by
          rw [show fn zs p = zs.getD p 0 from rfl, g6]
          rcases sort key with g | g | g
          · rw [(opn_open g.1).1]; exact g.1
          · rw [(opn_shut g.2.1).1]; exact g.2.2.2.1
          · exact absurd g.2.2 h0
        have hpar : par (fn zs) zs.length p = (z : Int) := by omega
        have hbz : brk (fn zs p) = fn zs z := by
          rcases (holds (fn zs) zs.length).told p g1 with g | ⟨q, _, q2, _, q4, _⟩
          · rw [g] at hpar; omega
          · rw [q2] at hpar
            obtain rfl : q = z := by omega
            exact q4
        refine .inr ⟨by omega, j, p, z, rfl, by rw [hth, hp]; rfl, h1, h2, by omega, by omega, hpar, ?_, ?_⟩
        · rintro i hi hiz (hf | hf)
          · obtain ⟨m, m1, m2, m3⟩ := inner_open g1 ho hpar hi hiz h2 hf
            omega
          · obtain ⟨m, m1, m2, m3⟩ := inner_shut g1 ho hpar hi hiz h2 (show fn zs i = brk (fn zs p) by rw [hbz]; exact hf)
            omega
        · intro i hi hiz hf hcon
          have := g4 i hi (by omega)
          rw [← Bool.not_eq_true] at this
          exact this (brp_true.2 ⟨by omega, hf.trans g6, hcon.2⟩)
end Go.Proofs.Ytpgjaoemkadenab.Plain
