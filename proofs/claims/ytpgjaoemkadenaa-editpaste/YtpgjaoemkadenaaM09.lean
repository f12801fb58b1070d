/- Texts of one claim, one behind the other: Counts, InMath, Shelf, Lists, Owns. -/
import Derived.Test.YtpgjaoemkadenaaM01
import Derived.Test.YtpgjaoemkadenaaM08
import Derived.Shelf.Bits.Mul64
import Derived.Shelf.Slices.Equal
import Derived.Ground.Names2Prog
import Derived.Shelf.Slices.Clone
import Derived.Shelf.Slices.Empties2
import Derived.Test.YtpgjaoemkadenaaProg
import Derived.Laws.OwnMore
/- A bracket's partner, by counting, in plain mathematics. -/
set_option linter.unusedVariables false
set_option linter.unusedSimpArgs false
set_option maxRecDepth 100000
namespace Go.Proofs.Ytpgjaoemkadenaa.Plain

theorem not_both {c : Int} (h : opens c = true) : shuts c = false := by
  rcases sort c with h4 | h4 | h4
  · exact h4.2.1
  · rw [h4.1] at h; cases h
  · rw [h4.1] at h; cases h
theorem not_both2 {c : Int} (h : shuts c = true) : opens c = false := by
  rcases sort c with h4 | h4 | h4
  · rw [h4.2.1] at h; cases h
  · exact h4.1
  · exact h4.1
theorem shuts_kind {o : Int} (h : opens o = true) : shuts (brk o) = true ∧ brk (brk o) = o := by
  rcases sort o with h4 | h4 | h4
  · exact h4.2.2.2
  · rw [h4.1] at h; cases h
  · rw [h4.1] at h; cases h
theorem opens_kind {s : Int} (h : shuts s = true) : opens (brk s) = true ∧ brk (brk s) = s := by
  rcases sort s with h4 | h4 | h4
  · rw [h4.2.1] at h; cases h
  · exact h4.2.2.2
  · rw [h4.2.1] at h; cases h
/-- Which bracket closes this brk. -/
theorem shuts_of {c o : Int} (h : opens o = true) (hs : shuts c = true) (hk : brk c = o) : c = brk o := by
  rw [← hk]
  exact (opens_kind hs).2.symm
theorem stk_at_shut {f : Nat → Int} {o : Int} {m : Nat} (ho : opens o = true) (h : f m = brk o) : stk f o (m + 1) = (stk f o m).tail := by
  have h2 := shuts_kind ho
  exact stk_shut (by rw [h]; exact h2.1) (by rw [h]; exact h2.2)
theorem stk_at_other {f : Nat → Int} {o : Int} {m : Nat} (ho : opens o = true) (h1 : f m ≠ o) (h2 : f m ≠ brk o) : stk f o (m + 1) = stk f o m :=
  stk_other (fun h => h2 (shuts_of ho h.1 h.2)) (fun h => h1 h.2)
theorem drop_tail {α : Type} (l : List α) (d : Nat) : l.tail.drop d = l.drop (d + 1) := by
  cases l with
  | nil => simp
  | cons a l => rfl

/-- Going on from an opening bracket at place k: ahead of place m so many are open, its own one among them. -/
def Fw (f : Nat → Int) (k m d : Nat) : Prop := (m = k ∧ d = 0) ∨ (k < m ∧ 1 ≤ d ∧ ((stk f (f k) m).drop (d - 1)).head? = some k)
theorem fw_open {f : Nat → Int} {k m d : Nat} (ho : opens (f k) = true) (h : Fw f k m d) (hm : f m = f k) : Fw f k (m + 1) (d + 1) := by
  have hst : stk f (f k) (m + 1) = m :: stk f (f k) m := stk_open (by rw [hm]; exact ho) hm
  rcases h with ⟨rfl, rfl⟩ | ⟨h1, h2, h3⟩
  · refine .inr ⟨by omega, by omega, ?_⟩
    rw [hst]
    rfl
  · refine .inr ⟨by omega, by omega, ?_⟩
    rw [hst]
    obtain ⟨d', rfl⟩ : ∃ d', d = d' + 1 := ⟨d - 1, by omega⟩
    exact h3
theorem fw_shut {f : Nat → Int} {k m d : Nat} (ho : opens (f k) = true) (h : Fw f k m (d + 2)) (hm : f m = brk (f k)) : Fw f k (m + 1) (d + 1) := by
  rcases h with ⟨_, h⟩ | ⟨h1, h2, h3⟩
  · omega
  · refine .inr ⟨by omega, by omega, ?_⟩
    rw [stk_at_shut ho hm, show d + 1 - 1 = d by omega, drop_tail]
    exact h3
theorem fw_other {f : Nat → Int} {k m d : Nat} (ho : opens (f k) = true) (h : Fw f k m d) (h1 : f m ≠ f k) (h2 : f m ≠ brk (f k)) : Fw f k (m + 1) d := by
  rcases h with ⟨rfl, _⟩ | ⟨h3, h4, h5⟩
  · exact absurd rfl h1
  · exact .inr ⟨by omega, h4, by rw [stk_at_other ho h1 h2]; exact h5⟩
theorem fw_found {f : Nat → Int} {k m n : Nat} (ho : opens (f k) = true) (h : Fw f k m 1) (hm : f m = brk (f k)) (hn : m < n) : par f n k = (m : Int) := by
  rcases h with ⟨_, h⟩ | ⟨h1, h2, h3⟩
  · omega
  · have h4 := shuts_kind ho
    have hs : shuts (f m) = true := by rw [hm]; exact h4.1
    have hk : brk (f m) = f k := by rw [hm]; exact h4.2
    exact par_keeps (par_hit (by omega) hs (by rw [hk]; exact h3)) (by omega) n (by omega)
theorem fw_none {f : Nat → Int} {k n d : Nat} (ho : opens (f k) = true) (h : Fw f k n d) (hk : k < n) : par f n k = -1 := by
  rcases h with ⟨h, _⟩ | ⟨h1, h2, h3⟩
  · omega
  · have hm : k ∈ (stk f (f k) n).drop (d - 1) := List.mem_of_head? h3
    exact (((holds f n).wait _ _).1 (List.mem_of_mem_drop hm)).2.2.2
theorem fw_pos {f : Nat → Int} {k m d : Nat} (ho : opens (f k) = true) (h : Fw f k m d) (hm : f m = brk (f k)) : 1 ≤ d := by
  rcases h with ⟨rfl, _⟩ | ⟨_, h2, _⟩
  · have h4 := (shuts_kind ho).1
    rw [← hm, not_both ho] at h4
    cases h4
  · exact h2

/-- Going back from a closing bracket at place k: behind the first m places so many are closed. -/
def Bw (f : Nat → Int) (k m d : Nat) : Prop := (m = k + 1 ∧ d = 0) ∨ (m ≤ k ∧ 1 ≤ d ∧ (stk f (brk (f k)) k).head? = ((stk f (brk (f k)) m).drop (d - 1)).head?)
theorem bw_shut {f : Nat → Int} {k m d : Nat} (hs : shuts (f k) = true) (h : Bw f k (m + 1) d) (hm : f m = f k) : Bw f k m (d + 1) := by
  have ho := opens_kind hs
  rcases h with ⟨h1, rfl⟩ | ⟨h1, h2, h3⟩
  · obtain rfl : m = k := by omega
    exact .inr ⟨by omega, by omega, rfl⟩
  · refine .inr ⟨by omega, by omega, ?_⟩
    rw [stk_at_shut ho.1 (by rw [hm]; exact ho.2.symm), drop_tail] at h3
    rw [h3]
    congr 2
    omega
theorem bw_open {f : Nat → Int} {k m d : Nat} (hs : shuts (f k) = true) (h : Bw f k (m + 1) (d + 2)) (hm : f m = brk (f k)) : Bw f k m (d + 1) := by
  have ho := opens_kind hs
  rcases h with ⟨_, h⟩ | ⟨h1, h2, h3⟩
  · omega
  · refine .inr ⟨by omega, by omega, ?_⟩
    rw [stk_open (by rw [hm]; exact ho.1) hm] at h3
    rw [h3]
    rfl
theorem bw_other {f : Nat → Int} {k m d : Nat} (hs : shuts (f k) = true) (h : Bw f k (m + 1) d) (h1 : f m ≠ f k) (h2 : f m ≠ brk (f k)) : Bw f k m d := by
  have ho := opens_kind hs
  rcases h with ⟨h3, _⟩ | ⟨h3, h4, h5⟩
  · obtain rfl : m = k := by omega
    exact absurd rfl h1
  · refine .inr ⟨by omega, h4, ?_⟩
    rw [stk_at_other ho.1 h2 (by rw [ho.2]; exact h1)] at h5
    exact h5
theorem bw_found {f : Nat → Int} {k m n : Nat} (hs : shuts (f k) = true) (h : Bw f k (m + 1) 1) (hm : f m = brk (f k)) (hn : k < n) : par f n k = (m : Int) := by
  have ho := opens_kind hs
  rcases h with ⟨_, h⟩ | ⟨h1, h2, h3⟩
  · omega
  · rw [stk_open (by rw [hm]; exact ho.1) hm] at h3
    rw [par_stays (not_both2 hs) n hn, if_pos hs]
    cases hst : stk f (brk (f k)) k with
    | nil =>
      rw [hst] at h3
      cases h3
    | cons p r =>
      rw [hst] at h3
      have h4 : p = m := Option.some.inj h3
      rw [h4]
      rfl
theorem bw_none {f : Nat → Int} {k n d : Nat} (hs : shuts (f k) = true) (h : Bw f k 0 d) (hn : k < n) : par f n k = -1 := by
  rcases h with ⟨h, _⟩ | ⟨h1, h2, h3⟩
  · omega
  · rw [par_stays (not_both2 hs) n hn, if_pos hs]
    cases hst : stk f (brk (f k)) k with
    | nil => rfl
    | cons p r =>
      rw [hst, stk] at h3
      simp at h3
theorem bw_pos {f : Nat → Int} {k m d : Nat} (hs : shuts (f k) = true) (h : Bw f k (m + 1) d) (hm : f m = brk (f k)) : 1 ≤ d := by
  rcases h with ⟨h1, _⟩ | ⟨_, h2, _⟩
  · obtain rfl : m = k := by omega
    have h4 := (opens_kind hs).1
    rw [← hm, not_both2 hs] at h4
    cases h4
  · exact h2
end Go.Proofs.Ytpgjaoemkadenaa.Plain

/- What holds of things: with what is around them, and without. -/
set_option linter.unusedVariables false
set_option linter.unusedSimpArgs false
set_option maxRecDepth 100000
namespace Go.Proofs.Ytpgjaoemkadenaa.Plain
open Seek
/-- A pair of signs that was found. -/
theorem pick_spec {zs : List Int} {k key : Int} {p z : Nat} (hk : 0 ≤ k) (h : pick zs k key = some (p, z)) : p < z ∧ z < zs.length ∧ k ≤ (z : Int) := by
  unfold pick at h
  split at h
  · have := qfind_spec (fun x hx => by cases hx) h
    omega
  · rename_i h0
    obtain ⟨h1, h2, h3, _⟩ := bfind_spec h
    obtain ⟨g1, g2, g3⟩ := brp_true.1 h2
    have ho : opens (opn key) = true := by
      rcases sort key with g | g | g
      · rw [(opn_open g.1).1]; exact g.1
      · rw [(opn_shut g.2.1).1]; exact g.2.2.2.1
      · exact absurd g.2.2 h0
    rcases (holds (fn zs) zs.length).told p h1 with g | ⟨i, i1, i2, _, _, i3⟩
    · omega
    · have hop : opens (fn zs p) = true := by rw [show fn zs p = zs.getD p 0 from rfl, g2]; exact ho
      rcases i3 with ⟨i4, _, _⟩ | ⟨_, _, i4⟩
      · rw [not_both hop] at i4
        cases i4
      · omega
/-- No thing at all: the same error, and no places. -/
def NoThing (zs : List Int) (k key : Int) : Prop := ∃ e : Int, e ≠ 0 ∧ thing zs k false key = (0, 0, e) ∧ thing zs k true key = (0, 0, e)
/-- A word. -/
def WordThing (zs : List Int) (k key : Int) : Prop := (key = 119 ∨ key = 87) ∧ zs.length ≤ 4096 ∧ ∃ j A Z C D : Nat, k = (j : Int) ∧ thing zs k false key = ((A : Int), (Z : Int), 0) ∧ thing zs k true key = ((C : Int), (D : Int), 0) ∧
  C ≤ A ∧ A ≤ j ∧ j < Z ∧ Z ≤ D ∧ D ≤ zs.length ∧ ∀ x, A ≤ x → x < Z → kd zs (key == 87) x = kd zs (key == 87) j
/-- What signs hold. -/
def SignThing (zs : List Int) (k key : Int) : Prop := ¬ (key = 119 ∨ key = 87) ∧ zs.length ≤ 4096 ∧ ∃ j p z : Nat, k = (j : Int) ∧ thing zs k false key = ((p : Int) + 1, (z : Int), 0) ∧ thing zs k true key = ((p : Int), (z : Int) + 1, 0) ∧
  p < z ∧ z < zs.length ∧ j ≤ z
theorem thing_cases (zs : List Int) (k key : Int) : NoThing zs k key ∨ WordThing zs k key ∨ SignThing zs k key := by
  by_cases h : 4096 < zs.length
  · exact .inl ⟨2, by decide, thing_large h, thing_large h⟩
  · by_cases hk : k < 0 ∨ ((zs.length - 1 : Nat) : Int) < k
    · exact .inl ⟨1, by decide, thing_arg h hk, thing_arg h hk⟩
    · obtain ⟨j, rfl⟩ : ∃ j : Nat, k = (j : Int) := ⟨k.toNat, by omega⟩
      by_cases hw : key = 119 ∨ key = 87
      · by_cases hz : zs.length = 0
        · exact .inl ⟨6, by decide, (thing_word h hk hw).trans (if_pos hz), (thing_word h hk hw).trans (if_pos hz)⟩
        · have hj : j < zs.length := by omega
          obtain ⟨h1, h2, h3, h4⟩ := run_spec (b := key == 87) hj
          obtain ⟨g1, g2, g3⟩ := wrd_in (b := key == 87) hj
          refine .inr (.inl ⟨hw, by omega, j, rlo zs (key == 87) j, rhi zs (key == 87) j, (wrd zs (key == 87) true j).1, (wrd zs (key == 87) true j).2, rfl, ?_, ?_, g1, h1, h2, g2, g3, h4⟩)
          · rw [thing_word h hk hw, if_neg hz, Int.toNat_natCast, wrd_none]
          · rw [thing_word h hk hw, if_neg hz, Int.toNat_natCast]
      · cases hs : sgn key with
        | false => exact .inl ⟨9, by decide, thing_key h hk hw hs, thing_key h hk hw hs⟩
        | true =>
          cases hp : pick zs j key with
          | none =>
            refine .inl ⟨6, by decide, ?_, ?_⟩
            · rw [thing_sign h hk hs, hp]; rfl
            · rw [thing_sign h hk hs, hp]; rfl
          | some t =>
            obtain ⟨p, z⟩ := t
            obtain ⟨h1, h2, h3⟩ := pick_spec (by omega) hp
            refine .inr (.inr ⟨hw, by omega, j, p, z, rfl, ?_, ?_, h1, h2, by omega⟩)
            · rw [thing_sign h hk hs, hp]; rfl
            · rw [thing_sign h hk hs, hp]; rfl

/-- Brackets within a pair of their kind have their partners within it. -/
theorem inner_open {f : Nat → Int} {n p z i : Nat} (hn : p < n) (ho : opens (f p) = true) (hp : par f n p = (z : Int)) (hi : p < i) (hz : i < z) (hzn : z < n) (hf : f i = f p) : ∃ m : Nat, par f n i = (m : Int) ∧ i < m ∧ m < z := by
  obtain ⟨m, h1, h2⟩ := (holds f n).nest p i z hi (by omega) ho hf.symm hp hz
  refine ⟨m, h1, ?_, h2⟩
  rcases (holds f n).told i (by omega) with g | ⟨q, _, g2, _, _, g3⟩
  · rw [g] at h1; omega
  · rcases g3 with ⟨g4, _, _⟩ | ⟨_, _, g4⟩
    · rw [not_both (by rw [hf]; exact ho)] at g4; cases g4
    · omega
theorem inner_shut {f : Nat → Int} {n p z i : Nat} (hn : p < n) (ho : opens (f p) = true) (hp : par f n p = (z : Int)) (hi : p < i) (hz : i < z) (hzn : z < n) (hf : f i = brk (f p)) : ∃ m : Nat, par f n i = (m : Int) ∧ p < m ∧ m < i := by
  obtain ⟨hs, hbb⟩ := shuts_kind ho
  have hsi : shuts (f i) = true := by rw [hf]; exact hs
  have hno : opens (f i) = false := not_both2 hsi
  have hst := par_stays hno n (show i < n by omega)
  rw [if_pos hsi, hf, hbb] at hst
  have hwait : p ∈ stk f (f p) i := by
    refine ((holds f i).wait (f p) p).2 ⟨hi, rfl, ho, ?_⟩
    rcases (holds f i).told p hi with g | ⟨q, g1, g2, _⟩
    · exact g
    · have := par_keeps g2 hi n (by omega)
      rw [hp] at this
      omega
  cases hl : stk f (f p) i with
  | nil => rw [hl] at hwait; cases hwait
  | cons m r =>
    rw [hl] at hst
    have hst2 : par f n i = (m : Int) := hst
    have hm := ((holds f i).wait (f p) m).1 (by rw [hl]; simp)
    have hle : p ≤ m := by
      rw [hl] at hwait
      rcases List.mem_cons.1 hwait with g | g
      · omega
      · have hd := (holds f i).down (f p)
        rw [hl, List.pairwise_cons] at hd
        have := hd.1 p g
        omega
    have hne : m ≠ p := by
      rintro rfl
      rcases (holds f n).told i (by omega) with g | ⟨q, _, g2, g3, _⟩
      · rw [g] at hst2; omega
      · rw [g2] at hst2
        obtain rfl : q = m := by omega
        rw [g3] at hp
        omega
    exact ⟨m, hst2, by omega, hm.1⟩
/-- What ObjectBrackets asks, where there is a pair. -/
def PairThing (zs : List Int) (k key : Int) : Prop := zs.length ≤ 4096 ∧ ∃ j p z : Nat, k = (j : Int) ∧ thing zs k false key = ((p : Int) + 1, (z : Int), 0) ∧ p < z ∧ z < zs.length ∧ p ≤ j ∧ j ≤ z ∧ par (fn zs) zs.length p = (z : Int) ∧
  (∀ i, p < i → i < z → zs.getD i 0 = zs.getD p 0 ∨ zs.getD i 0 = zs.getD z 0 → ((p : Int) < par (fn zs) zs.length i ∧ par (fn zs) zs.length i < (z : Int))) ∧
  (∀ i, p < i → i < z → zs.getD i 0 = zs.getD p 0 → ¬ (i ≤ j ∧ (j : Int) ≤ par (fn zs) zs.length i))
theorem pair_cases (zs : List Int) (k key : Int) (h0 : brk key ≠ 0) : (∃ e : Int, e ≠ 0 ∧ thing zs k false key = (0, 0, e)) ∨ PairThing zs k key := by
  by_cases h : 4096 < zs.length
  · exact .inl ⟨2, by decide, thing_large h⟩
  · by_cases hk : k < 0 ∨ ((zs.length - 1 : Nat) : Int) < k
    · exact .inl ⟨1, by decide, thing_arg h hk⟩
    · obtain ⟨j, rfl⟩ : ∃ j : Nat, k = (j : Int) := ⟨k.toNat, by omega⟩
      have hs : sgn key = true := by
        unfold sgn
        rw [show (brk key != 0) = true from by simpa using h0]
        rfl
      have hth := fun ar => thing_sign (ar := ar) h hk hs
      cases hp : pick zs j key with
      | none =>
        refine .inl ⟨6, by decide, ?_⟩
        rw [hth, hp]; rfl
      | some t =>
        obtain ⟨p, z⟩ := t
        obtain ⟨h1, h2, h3⟩ := pick_spec (by omega) hp
        have hp2 := hp
        unfold pick at hp2
        rw [if_neg h0] at hp2
        obtain ⟨g1, g2, g3, g4⟩ := bfind_spec hp2
        obtain ⟨g5, g6, g7⟩ := brp_true.1 g2
        have ho : opens (fn zs p) = true := by
          rw [show fn zs p = zs.getD p 0 from rfl, g6]
          rcases sort key with g | g | g
          · rw [(opn_open g.1).1]; exact g.1
          · rw [(opn_shut g.2.1).1]; exact g.2.2.2.1
          · exact absurd g.2.2 h0
        have hpar : par (fn zs) zs.length p = (z : Int) := by omega
        have hbz : brk (fn zs p) = fn zs z := by
          rcases (holds (fn zs) zs.length).told p g1 with g | ⟨q, _, q2, _, q4, _⟩
          · rw [g] at hpar; omega
          · rw [q2] at hpar
            obtain rfl : q = z := by omega
            exact q4
        refine .inr ⟨by omega, j, p, z, rfl, by rw [hth, hp]; rfl, h1, h2, by omega, by omega, hpar, ?_, ?_⟩
        · rintro i hi hiz (hf | hf)
          · obtain ⟨m, m1, m2, m3⟩ := inner_open g1 ho hpar hi hiz h2 hf
            omega
          · obtain ⟨m, m1, m2, m3⟩ := inner_shut g1 ho hpar hi hiz h2 (show fn zs i = brk (fn zs p) by rw [hbz]; exact hf)
            omega
        · intro i hi hiz hf hcon
          have := g4 i hi (by omega)
          rw [← Bool.not_eq_true] at this
          exact this (brp_true.2 ⟨by omega, hf.trans g6, hcon.2⟩)
end Go.Proofs.Ytpgjaoemkadenaa.Plain

/-
  DERIVED: THE SHELF's CONTRACTS AT THIS DUMP, IN PLAIN WORDS (tools/lay-plain.mjs out of 'TryShelf.lean', which tools/lay-shelf.mjs wrote): THE SAME DECLARATIONS UNDER THE SAME NAMES: 'import', 'namespace', 'open', 'def', 'theorem' AND NOTHING ELSE: no command of the shelf's: FOR A HAND-IN. Each laying: the table of numbers ('.._ren') and one theorem, a field a fact of the dump's own or the kernel's comparison; each contract: ONE APPLICATION.
-/
set_option linter.unusedVariables false
set_option linter.unusedSimpArgs false
namespace Go.Proofs
open Go.Shelf
def Try.lays264_ren : Go.Shelf.Ren := ⟨fun | 264 => 74 | n => n, fun | 53 => 110 | 46 => 98 | n => n, fun | n => n⟩
theorem Try.lays264 : Go.Proofs.Lays.n264 Try.prog Try.lays264_ren := {
  mixed := by kernel_rfl
  f264 := Try.func74.trans (congrArg some (by kernel_rfl))
  t46 := Try.underlying98
  a46 := Try.isAgg98
  z46 := Try.sizeOf98
  v46 := Try.zeroValue98
  t53 := Try.underlying110
  a53 := Try.isAgg110
  z53 := Try.sizeOf110
  v53 := Try.zeroValue110 }
open Go.RowKit Go.Lib in
theorem Try.bits_Mul64 (x y : Nat) (hx : x < 18446744073709551616) (hy : y < 18446744073709551616) (w : World) :
    Calls Try.prog 74 #[.int .u64 x, .int .u64 y] w fun e w' => e = .returned (.tuple #[.int .u64 ((x * y / 18446744073709551616 : Nat) : Int), .int .u64 ((x * y % 18446744073709551616 : Nat) : Int)]) ∧ w' = w := Any.bits_Mul64 Try.lays264 x y hx hy w
def Try.lays212_ren : Go.Shelf.Ren := ⟨fun | 212 => 62 | 263 => 73 | 264 => 74 | n => n, fun | 46 => 98 | 51 => 107 | 146 => 108 | 53 => 110 | 148 => 111 | n => n, fun | n => n⟩
theorem Try.lays212 : Go.Proofs.Lays.n212 Try.prog Try.lays212_ren := {
  mixed := by kernel_rfl
  f212 := Try.func62.trans (congrArg some (by kernel_rfl))
  f263 := Try.func73.trans (congrArg some (by kernel_rfl))
  f264 := Try.func74.trans (congrArg some (by kernel_rfl))
  t46 := Try.underlying98
  a46 := Try.isAgg98
  z46 := Try.sizeOf98
  v46 := Try.zeroValue98
  t51 := Try.underlying107
  a51 := Try.isAgg107
  z51 := Try.sizeOf107
  v51 := Try.zeroValue107
  t53 := Try.underlying110
  a53 := Try.isAgg110
  z53 := Try.sizeOf110
  v53 := Try.zeroValue110
  t146 := Try.underlying108
  a146 := Try.isAgg108
  z146 := Try.sizeOf108
  v146 := Try.zeroValue108
  t148 := Try.underlying111
  a148 := Try.isAgg111
  z148 := Try.sizeOf111
  v148 := Try.zeroValue111 }
open Go.RowKit Go.Lib in
/-- math/bits.Mul: "Mul returns the full-width product of x and y": on a machine of 64 bits: Mul64's. (LAID: no walk: one application.) -/
theorem Try.bits_Mul (x y : Nat) (hx : x < 18446744073709551616) (hy : y < 18446744073709551616) (w : World) :
    Calls Try.prog 62 #[.int .u64 x, .int .u64 y] w fun e w' => e = .returned (.tuple #[.int .u64 ((x * y / 18446744073709551616 : Nat) : Int), .int .u64 ((x * y % 18446744073709551616 : Nat) : Int)]) ∧ w' = w := Any.bits_Mul Try.lays212 x y hx hy w
def Try.lays111_ren : Go.Shelf.Ren := ⟨fun | 111 => 13 | n => n, fun | 28 => 22 | 3 => 3 | 4 => 4 | 0 => 0 | n => n, fun | n => n⟩
theorem Try.lays111 : Go.Proofs.Lays.n111 Try.prog Try.lays111_ren := {
  mixed := by kernel_rfl
  f111 := Try.func13.trans (congrArg some (by kernel_rfl))
  t0 := Try.underlying0
  a0 := Try.isAgg0
  z0 := Try.sizeOf0
  v0 := Try.zeroValue0
  t3 := Try.underlying3
  a3 := Try.isAgg3
  z3 := Try.sizeOf3
  v3 := Try.zeroValue3
  t4 := Try.underlying4
  a4 := Try.isAgg4
  z4 := Try.sizeOf4
  v4 := Try.zeroValue4
  t28 := Try.underlying22
  a28 := Try.isAgg22
  z28 := Try.sizeOf22
  v28 := Try.zeroValue22 }
open Go.RowKit Go.Lib in
/-- slices.Equal at []int: "Equal reports whether two slices are equal: the same length and all elements equal. If the lengths are different, Equal returns false. Otherwise, the elements are compared in increasing index order, and the comparison stops at the first unequal pair. Empty and nil slices are considered equal.": IT RETURNS WHETHER THE TWO LISTS OF ELEMENTS ARE ONE; the world is as it was but for the count of draws (the test 's1[i] != s2[i]' has two reads, whose order the model draws, once a round). 'xs', 'ys': what the cells behind the two addresses hold (the spare capacity too, if you have it); 'xs.take n', 'ys.take m': the elements. THE TWO SLICES MAY OVERLAP. (LAID: no walk: one application.) -/
theorem Try.slices_Equal_int (b1 o1 n c b2 o2 m d : Nat) (xs ys : List Int) (w : World) (hx : n ≤ xs.length) (hy : m ≤ ys.length) (hbig : n ≤ 9223372036854775807) (hbig2 : m ≤ 9223372036854775807) (hc1 : ∀ j, j < xs.length → w.cell? ⟨b1, o1 + j, none⟩ = some (.int .i64 (xs.getD j 0))) (hc2 : ∀ j, j < ys.length → w.cell? ⟨b2, o2 + j, none⟩ = some (.int .i64 (ys.getD j 0))) :
    Calls Try.prog 13 #[.slice (some ⟨b1, o1, none⟩) n c, .slice (some ⟨b2, o2, none⟩) m d] w fun e w' => e = .returned (.bool (xs.take n == ys.take m)) ∧ ∃ q, w' = w.drewN q := Any.slices_Equal_int Try.lays111 b1 o1 n c b2 o2 m d xs ys w hx hy hbig hbig2 hc1 hc2
open Go.RowKit Go.Lib in
/-- The same where the first is of length 0 (a nil one too): no cell is asked for. (LAID: no walk: one application.) -/
theorem Try.slices_Equal_int_empty (a1 a2 : Option Addr) (c m d : Nat) (w : World) (hbig2 : m ≤ 9223372036854775807) :
    Calls Try.prog 13 #[.slice a1 0 c, .slice a2 m d] w fun e w' => e = .returned (.bool (decide (m = 0))) ∧ w' = w := Any.slices_Equal_int_empty Try.lays111 a1 a2 c m d w hbig2
def Try.laysNm215_ren : Go.Shelf.Ren := ⟨fun | 15 => 61 | n => n, fun | 22 => 22 | 3 => 3 | 4 => 4 | n => n, fun | n => n⟩
theorem Try.laysNm215 : Go.Proofs.Lays2.n15 Try.prog Try.laysNm215_ren := {
  mixed := by kernel_rfl
  f15 := Try.func61.trans (congrArg some (by kernel_rfl))
  t3 := Try.underlying3
  a3 := Try.isAgg3
  z3 := Try.sizeOf3
  v3 := Try.zeroValue3
  t4 := Try.underlying4
  a4 := Try.isAgg4
  z4 := Try.sizeOf4
  v4 := Try.zeroValue4
  t22 := Try.underlying22
  a22 := Try.isAgg22
  z22 := Try.sizeOf22
  v22 := Try.zeroValue22
  i3 := by kernel_rfl }
open Go.RowKit Go.Lib in
/-- slices.Clone at []int: "Clone returns a copy of the slice. The elements are copied using assignment, so this is a shallow clone. The result may have additional unused capacity. The result preserves the nilness of s.": OF A SLICE THAT IS NOT nil IT RETURNS A SLICE THAT IS NOT nil, OF THE SAME ELEMENTS, IN MEMORY OF THE CALL's OWN: in the how-to's words (6f): 'w'.ownsRow B e 1 v' n cells': v' begins at the head of a row among the blocks from B on (B: the heap's size at the call), not frozen, whose first cells are the elements · 'Below B w w'': below B all is as it was. The capacity is whatever the run-time gives. 'zs': what the cells behind the slice's address hold; 'zs.take n': its elements. (LAID: no walk: one application.) -/
theorem Try.slices_Clone_int (b off n c : Nat) (zs : List Int) (w : World) (hz : n ≤ zs.length) (hbig : n * 8 ≤ 140737488355328) (hc : ∀ j, j < zs.length → w.cell? ⟨b, off + j, none⟩ = some (.int .i64 (zs.getD j 0))) :
    Calls Try.prog 61 #[.slice (some ⟨b, off, none⟩) n c] w fun e w' => ∃ v', e = .returned v' ∧ w'.ownsRow w.heap.size 3 1 v' n ((zs.take n).map (Value.int .i64)) ∧ v' ≠ .slice none 0 0 ∧ Below w.heap.size w w' := Any.slices_Clone_int Try.laysNm215 b off n c zs w hz hbig hc
open Go.RowKit Go.Lib in
/-- The same at nil: nil comes back; the world is as it was. (LAID: no walk: one application.) -/
theorem Try.slices_Clone_int_nil (n c : Nat) (w : World) :
    Calls Try.prog 61 #[.slice none n c] w fun e w' => e = .returned (.slice none 0 0) ∧ w' = w := Any.slices_Clone_int_nil Try.laysNm215 n c w
open Go.RowKit Go.Lib in
/-- The same at a slice of length 0 that is not nil, WHATEVER ITS ADDRESS (no cell is asked for): a slice that is not nil and owns nothing comes back. (LAID: no walk: one application.) -/
theorem Try.slices_Clone_int_zero (a : Addr) (c : Nat) (w : World) :
    Calls Try.prog 61 #[.slice (some a) 0 c] w fun e w' => ∃ v', e = .returned v' ∧ w'.ownsRow w.heap.size 3 1 v' 0 [] ∧ v' ≠ .slice none 0 0 ∧ Below w.heap.size w w' := Any.slices_Clone_int_zero Try.laysNm215 a c w
open Go.RowKit Go.Lib in
theorem Try.slices_Equal_int_lens (a1 a2 : Option Addr) (n c m d : Nat) (w : World) (hnm : n ≠ m) :
    Calls Try.prog 13 #[.slice a1 n c, .slice a2 m d] w fun e w' => e = .returned (.bool false) ∧ w' = w := Any.slices_Equal_int_lens Try.lays111 a1 a2 n c m d w hnm
end Go.Proofs

/- The library's Equal of slices that can be read; parts; literals. -/
set_option linter.unusedVariables false
set_option linter.unusedSimpArgs false
set_option maxRecDepth 100000
namespace Go.Proofs.Ytpgjaoemkadenaa.Seek
open Go.RowKit

theorem equal_any (v1 v2 : Value) (xs ys : List Int) (w : World) (h1 : Reads w v1 xs) (h2 : Reads w v2 ys) (hx : xs.length ≤ maxLen) (hy : ys.length ≤ maxLen) :
    Calls Try.prog 13 #[v1, v2] w fun e w' => e = .returned (.bool (xs == ys)) ∧ ∃ q, w' = w.drewN q := by
  unfold maxLen at hx hy
  by_cases hl : xs.length = ys.length
  · rcases h1 with ⟨a1, c1, rfl, rfl⟩ | ⟨b1, o1, c1, rfl, _, _, _, hc1⟩
    · obtain rfl := List.length_eq_zero_iff.1 hl.symm
      obtain ⟨a2, c2, rfl⟩ := h2.shape
      refine (Try.slices_Equal_int_empty a1 a2 c1 0 c2 w (by decide)).mono ?_
      rintro e w' ⟨rfl, rfl⟩
      exact ⟨rfl, 0, rfl⟩
    · rcases h2 with ⟨a2, c2, rfl, rfl⟩ | ⟨b2, o2, c2, rfl, _, _, _, hc2⟩
      · obtain rfl := List.length_eq_zero_iff.1 hl
        refine (Try.slices_Equal_int_empty _ a2 c1 0 c2 w (by decide)).mono ?_
        rintro e w' ⟨rfl, rfl⟩
        exact ⟨rfl, 0, rfl⟩
      · refine (Try.slices_Equal_int b1 o1 xs.length c1 b2 o2 ys.length c2 xs ys w (Nat.le_refl _) (Nat.le_refl _) hx hy hc1 hc2).mono ?_
        rintro e w' ⟨rfl, hq⟩
        exact ⟨by rw [List.take_length, List.take_length], hq⟩
  · obtain ⟨a1, c1, rfl⟩ := h1.shape
    obtain ⟨a2, c2, rfl⟩ := h2.shape
    refine (Try.slices_Equal_int_lens a1 a2 xs.length c1 ys.length c2 w hl).mono ?_
    rintro e w' ⟨rfl, rfl⟩
    refine ⟨?_, 0, rfl⟩
    rw [show (xs == ys) = false from by simp only [beq_eq_false_iff_ne]; intro h; exact hl (by rw [h])]

/-- A part of a slice. -/
theorem reads_part {w : World} {b off : Nat} {zs : List Int} (h : ∀ j, j < zs.length → w.cell? ⟨b, off + j, none⟩ = some (.int .i64 (zs.getD j 0))) (hb : b < w.heap.size)
    (i n c : Nat) (hin : i + n ≤ zs.length) (hc : n ≤ c) (hm : c ≤ maxLen) : Reads w (.slice (some ⟨b, off + i, none⟩) n c) ((zs.drop i).take n) := by
  have hl : ((zs.drop i).take n).length = n := by rw [List.length_take, List.length_drop]; omega
  refine .inr ⟨b, off + i, c, by rw [hl], by rw [hl]; exact hc, hm, hb, fun j hj => ?_⟩
  rw [hl] at hj
  have := h (i + j) (by omega)
  rw [Nat.add_assoc, this]
  simp [List.getD_eq_getElem?_getD, List.getElem?_take, hj, List.getElem?_drop]
/-- A literal list in new memory. -/
theorem reads_new (w : World) (zs : List Int) (h : zs.length ≤ maxLen) : Reads (w.alloc (.cells (ints zs).toArray 3)) (.slice (some ⟨w.heap.size, 0, none⟩) zs.length zs.length) zs := by
  refine .inr ⟨w.heap.size, 0, zs.length, rfl, Nat.le_refl _, h, by show w.heap.size < (w.heap.push _).size; simp, fun j hj => ?_⟩
  rw [Nat.zero_add]
  unfold World.cell?
  simp only
  rw [show ∀ o, (w.alloc o).heap[w.heap.size]? = some o from fun o => by show (w.heap.push o)[w.heap.size]? = _; simp]
  unfold ints
  simp [hj]
end Go.Proofs.Ytpgjaoemkadenaa.Seek

/- Slices that the call has made: slices.Clone of them. -/
set_option linter.unusedVariables false
set_option linter.unusedSimpArgs false
set_option maxRecDepth 100000
namespace Go.Proofs.Ytpgjaoemkadenaa.Seek
open Go.RowKit

/-- The slice v holds the numbers zs, in memory of the call's own from block B on (or it is empty). -/
def Own (w : World) (B : Nat) (v : Value) (zs : List Int) : Prop :=
  (∃ a cap, v = .slice a 0 cap ∧ zs = []) ∨ (zs ≠ [] ∧ ∃ g cap, v = .slice (some ⟨g, 0, none⟩) zs.length cap ∧ B ≤ g ∧ g < w.heap.size ∧ w.ownsRow B 3 1 v zs.length (ints zs))
theorem own_of {w : World} {B : Nat} {v : Value} {zs : List Int} (h : w.ownsRow B 3 1 v zs.length (ints zs)) : Own w B v zs := by
  by_cases hz : zs = []
  · subst hz
    rcases h.2 with ⟨rfl, _⟩ | ⟨g, cap, cur, rfl, _⟩
    · exact .inl ⟨_, _, rfl, rfl⟩
    · exact .inl ⟨_, _, rfl, rfl⟩
  · have hh := h
    rcases h.2 with ⟨_, h0⟩ | ⟨g, cap, cur, hv, hB, hg, _⟩
    · exact absurd (List.length_eq_zero_iff.1 h0) hz
    · exact .inr ⟨hz, g, cap, hv, hB, (Array.getElem?_eq_some_iff.1 hg).1, hh⟩
theorem Own.reads {w : World} {B : Nat} {v : Value} {zs : List Int} (h : Own w B v zs) : Reads w v zs := by
  rcases h with h | ⟨_, g, cap, _, _, _, h⟩
  · exact .inl h
  · exact owned_reads h
theorem Own.below {w w' : World} {B : Nat} {v : Value} {zs : List Int} (h : Own w B v zs) (hb : Below w.heap.size w w') : Own w' B v zs := by
  rcases h with h | ⟨hz, g, cap, hv, hB, hg, h⟩
  · exact .inl h
  · exact .inr ⟨hz, g, cap, hv, hB, Nat.lt_of_lt_of_le hg hb.size, owned_below h hb⟩
theorem Own.less {w : World} {B B' : Nat} {v : Value} {zs : List Int} (h : Own w B v zs) (hb : B' ≤ B) : Own w B' v zs := by
  rcases h with h | ⟨hz, g, cap, hv, hB, hg, h⟩
  · exact .inl h
  · exact .inr ⟨hz, g, cap, hv, by omega, hg, owned_less h hb⟩
/-- Two slices that share no memory. -/
def Apart (v u : Value) (zs ys : List Int) : Prop := zs = [] ∨ ys = [] ∨ v.ownBlock ≠ u.ownBlock
theorem Apart.symm {v u : Value} {zs ys : List Int} (h : Apart v u zs ys) : Apart u v ys zs := by
  rcases h with h | h | h
  · exact .inr (.inl h)
  · exact .inl h
  · exact .inr (.inr (Ne.symm h))
theorem apart_of {w w' : World} {B C : Nat} {v u : Value} {zs ys : List Int} (h : Own w B v zs) (h2 : Own w' C u ys) (hc : w.heap.size ≤ C) : Apart v u zs ys := by
  rcases h with ⟨_, _, _, h⟩ | ⟨hz, g, cap, hv, hB, hg, _⟩
  · exact .inl h
  · rcases h2 with ⟨_, _, _, h⟩ | ⟨hy, g2, cap2, hu, hB2, hg2, _⟩
    · exact .inr (.inl h)
    · refine .inr (.inr ?_)
      rw [hv, hu]
      simp only [Value.ownBlock]
      intro h
      have := Option.some.inj h
      omega
theorem Own.kept {w w' : World} {B : Nat} {v : Value} {zs : List Int} {g : Nat} (h : Own w B v zs) (hg : w.grownBy w' (some g)) (hne : zs = [] ∨ v.ownBlock ≠ some g) : Own w' B v zs := by
  rcases h with h | ⟨hz, g1, cap, hv, hB, hg1, h⟩
  · exact .inl h
  · exact .inr ⟨hz, g1, cap, hv, hB, Nat.lt_of_lt_of_le hg1 hg.size, h.kept hg (.inr (hne.resolve_left hz))⟩

theorem clone_any (v : Value) (zs : List Int) (w : World) (h : Reads w v zs) (hr : zs.length * 8 ≤ 140737488355328) :
    Calls Try.prog 61 #[v] w fun e w' => Below w.heap.size w w' ∧ ∃ v', e = .returned v' ∧ Own w' w.heap.size v' zs := by
  rcases h with ⟨a, cap, rfl, rfl⟩ | ⟨b, off, cap, rfl, _, _, _, hc⟩
  · cases a with
    | none =>
      refine (Try.slices_Clone_int_nil 0 cap w).mono ?_
      rintro e w' ⟨rfl, rfl⟩
      exact ⟨Below.refl _ _, _, rfl, .inl ⟨_, _, rfl, rfl⟩⟩
    | some a =>
      refine (Try.slices_Clone_int_zero a cap w).mono ?_
      rintro e w' ⟨v', rfl, hown, _, hb⟩
      exact ⟨hb, v', rfl, own_of hown⟩
  · refine (Try.slices_Clone_int b off zs.length cap zs w (Nat.le_refl _) hr hc).mono ?_
    rintro e w' ⟨v', rfl, hown, _, hb⟩
    rw [List.take_length] at hown
    exact ⟨hb, v', rfl, own_of hown⟩

theorem grown_trans {w w1 w2 : World} {row : Option Nat} (h : w.grownBy w1 row) (h2 : w1.grownBy w2 row) : w.grownBy w2 row :=
  ⟨h2.os.trans h.os, h2.tape.trans h.tape, h2.output.trans h.output, Nat.le_trans h.size h2.size, fun k hk hn => (h2.block k (Nat.lt_of_lt_of_le hk h.size) hn).trans (h.block k hk hn)⟩
end Go.Proofs.Ytpgjaoemkadenaa.Seek
