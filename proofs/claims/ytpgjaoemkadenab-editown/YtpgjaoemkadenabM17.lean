/- Plain mathematics: wherever a motion leads, it is in the line; so many times is as often once; to a partner and back. -/
import Derived.Test.YtpgjaoemkadenabM16
set_option linter.unusedVariables false
set_option linter.unusedSimpArgs false
set_option maxRecDepth 100000
namespace Go.Proofs.Ytpgjaoemkadenab.Plain
open Seek
theorem iter_keeps {P : Int → Prop} {f : Int → Int} (h : ∀ x, P x → P (f x)) {k : Int} (hk : P k) : ∀ n, P (iter f n k)
  | 0 => hk
  | n + 1 => h _ (iter_keeps h hk n)
theorem up_in (p : Nat → Bool) (d : Int) (n i : Nat) (hd : 0 ≤ d) (hd2 : d ≤ n) : 0 ≤ up p d n i ∧ up p d n i ≤ (n : Int) ∧ (up p d n i = d ∨ ((i : Int) ≤ up p d n i ∧ up p d n i < (n : Int))) := by
  rcases up_spec p d n i with ⟨j, hj, h1, h2, _⟩ | ⟨hj, _⟩
  · rw [hj]
    exact ⟨by omega, by omega, .inr ⟨by omega, by omega⟩⟩
  · rw [hj]
    exact ⟨hd, hd2, .inl rfl⟩
theorem next_in {zs : List Int} {x : Int} {b : Bool} (hl : zs.length ≤ 4096) (h0 : 0 ≤ x) (h1 : x ≤ (zs.length : Int)) :
    0 ≤ next zs x b ∧ next zs x b ≤ (zs.length : Int) ∧ (x < (zs.length : Int) → x < next zs x b) := by
  have hc : chk zs.length x = 0 := by
    have := chk_right hl (show x.toNat ≤ zs.length by omega)
    rwa [show ((x.toNat : Nat) : Int) = x by omega] at this
  have hn : next zs x b = up (bgn zs b) zs.length zs.length (x.toNat + 1) := by unfold next; rw [if_pos hc]
  rw [hn]
  obtain ⟨h2, h3, h4⟩ := up_in (bgn zs b) (zs.length : Int) zs.length (x.toNat + 1) (by omega) (by omega)
  exact ⟨h2, h3, fun hx => by rcases h4 with h4 | ⟨h4, _⟩ <;> omega⟩
theorem last_in {zs : List Int} {x : Int} {b : Bool} (hl : zs.length ≤ 4096) (hne : 0 < zs.length) (h0 : 0 ≤ x) (h1 : x ≤ (zs.length : Int)) :
    0 ≤ last zs x b ∧ last zs x b ≤ (zs.length : Int) - 1 := by
  have hc : chk zs.length x = 0 := by
    have := chk_right hl (show x.toNat ≤ zs.length by omega)
    rwa [show ((x.toNat : Nat) : Int) = x by omega] at this
  have hn : last zs x b = up (fin zs b) ((zs.length - 1 : Nat) : Int) zs.length (x.toNat + 1) := by unfold last; rw [if_pos hc]
  rw [hn]
  obtain ⟨h2, h3, h4⟩ := up_in (fin zs b) ((zs.length - 1 : Nat) : Int) zs.length (x.toNat + 1) (by omega) (by omega)
  exact ⟨h2, by rcases h4 with h4 | ⟨h4, _⟩ <;> omega⟩
theorem down_le (p : Nat → Bool) (i : Nat) : down p i ≤ i ∧ (0 < i → down p i < i) := by
  rcases down_spec p i with ⟨h1, _⟩ | ⟨h1, _⟩ <;> exact ⟨by omega, fun _ => by omega⟩
theorem back_in {zs : List Int} {x : Int} {b : Bool} (hl : zs.length ≤ 4096) (h0 : 0 ≤ x) (h1 : x ≤ (zs.length : Int)) :
    0 ≤ back zs x b ∧ back zs x b ≤ x := by
  have hc : chk zs.length x = 0 := by
    have := chk_right hl (show x.toNat ≤ zs.length by omega)
    rwa [show ((x.toNat : Nat) : Int) = x by omega] at this
  have hn : back zs x b = (down (bgn zs b) x.toNat : Int) := by unfold back; rw [if_pos hc]
  rw [hn]
  have := (down_le (bgn zs b) x.toNat).1
  exact ⟨by omega, by omega⟩
/-- What a partner is. -/
theorem par_back {zs : List Int} {i : Nat} (hi : i < zs.length) (h : 0 ≤ par (fn zs) zs.length i) :
    ∃ j, j < zs.length ∧ par (fn zs) zs.length i = (j : Int) ∧ par (fn zs) zs.length j = (i : Int) ∧ brk (fn zs j) = fn zs i ∧ brk (fn zs j) ≠ 0 := by
  rcases (holds (fn zs) zs.length).told i hi with h1 | ⟨j, h1, h2, h3, h4, h5⟩
  · omega
  · have hb : brk (fn zs j) = fn zs i := by
      rcases (holds (fn zs) zs.length).told j h1 with g1 | ⟨i', g1, g2, g3, g4, g5⟩
      · rw [h3] at g1
        omega
      · rw [h3] at g2
        have : i = i' := by omega
        rw [g4, this]
    refine ⟨j, h1, h2, h3, hb, ?_⟩
    rcases h5 with ⟨_, h6, _⟩ | ⟨_, h6, _⟩
    · rcases opens_cases h6 with h | h | h <;> rw [h] <;> decide
    · rcases shuts_cases h6 with h | h | h <;> rw [h] <;> decide
theorem mate_in {zs : List Int} {k : Nat} (h : (mate zs k).2 = true) : ∃ i j : Nat, k ≤ i ∧ i < zs.length ∧ j < zs.length ∧ (mate zs k).1 = (j : Int) ∧ par (fn zs) zs.length j = (i : Int) ∧ brk (fn zs j) = fn zs i ∧ brk (fn zs j) ≠ 0 ∧ (∀ x, k ≤ x → x < i → brk (zs.getD x 0) = 0) := by
  rcases up_spec (fun i => brk (zs.getD i 0) != 0) (-1) zs.length k with ⟨i, hi, h1, h2, h3, h4⟩ | ⟨hi, _⟩
  · rw [mate_at hi] at h ⊢
    obtain ⟨j, g1, g2, g3, g4, g5⟩ := par_back h2 (of_decide_eq_true h)
    exact ⟨i, j, h1, h2, g1, g2, g3, g4, g5, fun x hx hxi => by simpa using h4 x hx hxi⟩
  · rw [mate_none hi] at h
    cases h
theorem mate_of {zs : List Int} {i j : Nat} (h : i < zs.length) (hb : brk (fn zs i) ≠ 0) (hp : par (fn zs) zs.length i = (j : Int)) : mate zs i = ((j : Int), true) := by
  have hb' : (fun i => brk (zs.getD i 0) != 0) i = true := by
    show (brk (fn zs i) != 0) = true
    simpa using hb
  rw [mate_at (up_hit h hb'), hp]
  exact congrArg (fun b => ((j : Int), b)) (decide_eq_true (by omega))

theorem solid_in {zs : List Int} : 0 ≤ solid zs ∧ solid zs ≤ max ((zs.length : Int) - 1) 0 := by
  unfold solid
  rcases up_spec (fun i => knd zs false i != 0) (max ((zs.length : Int) - 1) 0) zs.length 0 with ⟨j, hj, h1, h2, _⟩ | ⟨hj, _⟩ <;> rw [hj] <;> exact ⟨by omega, by omega⟩
theorem told_some {o : Option Nat} (h : (told o).2 = true) : ∃ j, o = some j ∧ told o = ((j : Int), true) := by
  cases o with
  | none => cases h
  | some j => exact ⟨j, rfl, rfl⟩
theorem right_in {zs : List Int} {k n : Nat} {c : Int} (h : (rightHit zs k n c).2 = true) : ∃ j : Nat, (rightHit zs k n c).1 = (j : Int) ∧ k < j ∧ j < zs.length := by
  obtain ⟨j, h1, h2⟩ := told_some h
  have := goUp_lt _ _ _ _ _ h1
  exact ⟨j, by unfold rightHit; rw [h2], by omega, by omega⟩
theorem left_in {zs : List Int} {k n : Nat} {c : Int} (h : (leftHit zs k n c).2 = true) : ∃ j : Nat, (leftHit zs k n c).1 = (j : Int) ∧ j < k := by
  obtain ⟨j, h1, h2⟩ := told_some h
  have := goDn_lt _ _ _ _ h1
  exact ⟨j, by unfold leftHit; rw [h2], by omega⟩

theorem in_of {x y len : Int} {op t : Bool} (h : y = x) (h0 : 0 ≤ x) (h1 : x ≤ len) (h2 : op = false → x ≤ max (len - 1) 0) (h3 : t = true → x ≤ len - 1) :
    0 ≤ y ∧ y ≤ len ∧ (op = false → y ≤ max (len - 1) 0) ∧ (t = true → y ≤ len - 1) := by
  subst h
  exact ⟨h0, h1, h2, h3⟩
theorem lead_line {zs : List Int} {k n : Nat} {key arg : Int} {op : Bool} (hz : zs.length ≠ 0) (hkey : key = 36 ∨ key = 124 ∨ key = 119 ∨ key = 87 ∨ key = 101 ∨ key = 69 ∨ key = 37 ∨ key = 102 ∨ key = 116 ∨ key = 70 ∨ key = 84) :
    lead zs k n key arg op = lineLead zs k n key arg op := by
  unfold lead
  rw [if_neg (by omega), if_neg (by omega), if_neg (by omega), if_neg (by omega), if_neg (by omega), if_neg hz]
theorem lead_none {zs : List Int} {k n : Nat} {key arg : Int} {op : Bool} (hz : zs.length = 0) (hkey : key = 36 ∨ key = 124 ∨ key = 119 ∨ key = 87 ∨ key = 101 ∨ key = 69 ∨ key = 37 ∨ key = 102 ∨ key = 116 ∨ key = 70 ∨ key = 84) :
    lead zs k n key arg op = (0, false) := by
  unfold lead
  rw [if_neg (by omega), if_neg (by omega), if_neg (by omega), if_neg (by omega), if_neg (by omega), if_pos hz]
theorem back_iter {zs : List Int} {k : Nat} (b : Bool) (hl : zs.length ≤ 4096) (hk : k ≤ zs.length) (n : Nat) : 0 ≤ iter (fun x => back zs x b) n k ∧ iter (fun x => back zs x b) n k ≤ (k : Int) :=
  iter_keeps (P := fun x => 0 ≤ x ∧ x ≤ (k : Int)) (fun x hx => by have := back_in (b := b) hl hx.1 (by omega); exact ⟨this.1, by omega⟩) ⟨by omega, by omega⟩ n
theorem next_iter {zs : List Int} {k : Nat} (b : Bool) (hl : zs.length ≤ 4096) (hk : k ≤ zs.length) (n : Nat) : 0 ≤ iter (fun x => next zs x b) n k ∧ iter (fun x => next zs x b) n k ≤ (zs.length : Int) :=
  iter_keeps (P := fun x => 0 ≤ x ∧ x ≤ (zs.length : Int)) (fun x hx => by have := next_in (b := b) hl hx.1 hx.2; exact ⟨this.1, this.2.1⟩) ⟨by omega, by omega⟩ n
theorem last_iter {zs : List Int} {k : Nat} (b : Bool) (hl : zs.length ≤ 4096) (hk : k < zs.length) (n : Nat) : 0 ≤ iter (fun x => last zs x b) n k ∧ iter (fun x => last zs x b) n k ≤ (zs.length : Int) - 1 :=
  iter_keeps (P := fun x => 0 ≤ x ∧ x ≤ (zs.length : Int) - 1) (fun x hx => last_in (b := b) hl (by omega) hx.1 (by omega)) ⟨by omega, by omega⟩ n

/-- Wherever a motion leads. -/
theorem lead_in {zs : List Int} {k n : Nat} {key arg : Int} {op : Bool} (hl : zs.length ≤ 4096) (hk : k ≤ zs.length - 1) (hn : 1 ≤ n) (hkey : isk key = true) (h : (lead zs k n key arg op).2 = true) :
    0 ≤ (lead zs k n key arg op).1 ∧ (lead zs k n key arg op).1 ≤ (zs.length : Int) ∧ (op = false → (lead zs k n key arg op).1 ≤ max ((zs.length : Int) - 1) 0) ∧ (wth key = true → (lead zs k n key arg op).1 ≤ (zs.length : Int) - 1) := by
  unfold isk at hkey
  rcases of_decide_eq_true hkey with rfl | rfl | rfl | rfl | rfl | rfl | hline
  · exact in_of (x := max ((k : Int) - n) 0) rfl (by omega) (by omega) (fun _ => by omega) (fun h => by cases h)
  · have h2 : (decide ((k : Int) < endOf zs op)) = true := h
    have h3 := of_decide_eq_true h2
    have h4 : endOf zs op ≤ (zs.length : Int) := by unfold endOf; split <;> omega
    have h5 : op = false → endOf zs op = (zs.length : Int) - 1 := fun hop => by subst hop; rfl
    exact in_of (x := min ((k : Int) + n) (endOf zs op)) rfl (by omega) (by omega) (fun hop => by have := h5 hop; omega) (fun h => by cases h)
  · exact in_of (x := 0) rfl (by omega) (by omega) (fun _ => by omega) (fun h => by cases h)
  · have hs := @solid_in zs
    by_cases hz : zs.length = 0
    · exact in_of (x := solid zs) rfl hs.1 (by omega) (fun _ => hs.2) (fun h => by cases h)
    · exact in_of (x := solid zs) rfl hs.1 (by omega) (fun _ => hs.2) (fun h => by cases h)
  · have hi := back_iter (zs := zs) (k := k) false hl (by omega) n
    exact in_of (x := iter (fun x => back zs x false) n k) rfl hi.1 (by omega) (fun _ => by omega) (fun h => by cases h)
  · have hi := back_iter (zs := zs) (k := k) true hl (by omega) n
    exact in_of (x := iter (fun x => back zs x true) n k) rfl hi.1 (by omega) (fun _ => by omega) (fun h => by cases h)
  · by_cases hz : zs.length = 0
    · rw [lead_none hz hline] at h
      cases h
    · rw [lead_line hz hline] at h ⊢
      have hk' : k < zs.length := by omega
      rcases hline with rfl | rfl | rfl | rfl | rfl | rfl | rfl | rfl | rfl | rfl | rfl
      · exact in_of (x := (zs.length : Int) - 1) rfl (by omega) (by omega) (fun _ => by omega) (fun _ => by omega)
      · exact in_of (x := min ((n : Int) - 1) ((zs.length : Int) - 1)) rfl (by omega) (by omega) (fun _ => by omega) (fun _ => by omega)
      · have hi := next_iter (zs := zs) (k := k) false hl (by omega) n
        cases op
        · exact in_of (x := min (iter (fun x => next zs x false) n k) ((zs.length : Int) - 1)) rfl (by omega) (by omega) (fun _ => by omega) (fun h => by cases h)
        · exact in_of (x := iter (fun x => next zs x false) n k) rfl (by omega) (by omega) (fun h => by cases h) (fun h => by cases h)
      · have hi := next_iter (zs := zs) (k := k) true hl (by omega) n
        cases op
        · exact in_of (x := min (iter (fun x => next zs x true) n k) ((zs.length : Int) - 1)) rfl (by omega) (by omega) (fun _ => by omega) (fun h => by cases h)
        · exact in_of (x := iter (fun x => next zs x true) n k) rfl (by omega) (by omega) (fun h => by cases h) (fun h => by cases h)
      · have hi := last_iter (zs := zs) (k := k) false hl hk' n
        exact in_of (x := iter (fun x => last zs x false) n k) rfl (by omega) (by omega) (fun _ => by omega) (fun _ => by omega)
      · have hi := last_iter (zs := zs) (k := k) true hl hk' n
        exact in_of (x := iter (fun x => last zs x true) n k) rfl (by omega) (by omega) (fun _ => by omega) (fun _ => by omega)
      · obtain ⟨i, j, _, _, h1, h2, _⟩ := mate_in (zs := zs) (k := k) h
        exact in_of (x := (j : Int)) h2 (by omega) (by omega) (fun _ => by omega) (fun _ => by omega)
      · obtain ⟨j, h1, h2, h3⟩ := right_in (zs := zs) (k := k) (n := n) (c := arg) h
        exact in_of (x := (j : Int)) h1 (by omega) (by omega) (fun _ => by omega) (fun _ => by omega)
      · obtain ⟨j, h1, h2, h3⟩ := right_in (zs := zs) (k := k) (n := n) (c := arg) h
        exact in_of (x := (j : Int) - 1) (congrArg (fun x => x - 1) h1) (by omega) (by omega) (fun _ => by omega) (fun _ => by omega)
      · obtain ⟨j, h1, h2⟩ := left_in (zs := zs) (k := k) (n := n) (c := arg) h
        exact in_of (x := (j : Int)) h1 (by omega) (by omega) (fun _ => by omega) (fun _ => by omega)
      · obtain ⟨j, h1, h2⟩ := left_in (zs := zs) (k := k) (n := n) (c := arg) h
        exact in_of (x := (j : Int) + 1) (congrArg (fun x => x + 1) h1) (by omega) (by omega) (fun _ => by omega) (fun _ => by omega)
/-- What Go tells is in the line. -/
theorem goes_in {zs : List Int} {k c key arg : Int} {op : Bool} {x : Int} {y : Bool} (h : goes zs k c key arg op = (x, y, 0)) :
    0 ≤ k ∧ k ≤ max ((zs.length : Int) - 1) 0 ∧ zs.length ≤ 4096 ∧ 0 ≤ x ∧ x ≤ (zs.length : Int) ∧ (op = false → x ≤ max ((zs.length : Int) - 1) 0) ∧ (y = true → x ≤ (zs.length : Int) - 1) := by
  by_cases hm : mchk zs.length k c key = 0
  · obtain ⟨hl, ⟨j, rfl, hj⟩, hc0, hc9, hkey⟩ := mchk_zero hm
    rw [goes_good hm] at h
    by_cases h2 : (lead zs j (times c) key arg op).2 = true
    · rw [if_pos h2] at h
      have hn : 1 ≤ times c := by unfold times; omega
      obtain ⟨g1, g2, g3, g4⟩ := lead_in hl hj hn hkey h2
      cases h
      exact ⟨by omega, by omega, hl, g1, g2, g3, g4⟩
    · rw [if_neg h2] at h
      cases h
  · rw [goes_bad hm] at h
    exact absurd (congrArg (fun q => q.2.2) h) hm
theorem goes_in2 {zs : List Int} {k c key arg : Int} {op : Bool} {x : Int} {y : Bool} (h : goes zs k c key arg op = (x, y, 0)) : 0 ≤ k ∧ k ≤ 4096 ∧ 0 ≤ x ∧ x ≤ 4096 := by
  obtain ⟨h1, h2, h3, h4, h5, _⟩ := goes_in h
  exact ⟨h1, by omega, h4, by omega⟩
/-- What Range tells touches the place. -/
theorem ranges_in (zs : List Int) (k c key arg : Int) :
    ((ranges zs k c key arg).2.2 ≠ 0 ∧ (ranges zs k c key arg).1 = 0 ∧ (ranges zs k c key arg).2.1 = 0) ∨
    ((ranges zs k c key arg).2.2 = 0 ∧ 0 ≤ (ranges zs k c key arg).1 ∧ (ranges zs k c key arg).1 ≤ k ∧ k ≤ (ranges zs k c key arg).2.1 ∧ (ranges zs k c key arg).2.1 ≤ (zs.length : Int)) := by
  obtain ⟨G, hG⟩ : ∃ G, G = goes zs k c key arg true := ⟨_, rfl⟩
  unfold ranges
  rw [← hG]
  obtain ⟨x, y, z⟩ := G
  by_cases h0 : z = 0
  · right
    subst h0
    obtain ⟨h1, h2, h3, h4, h5, h6, h7⟩ := goes_in hG.symm
    rw [if_pos rfl]
    refine ⟨rfl, ?_, ?_, ?_, ?_⟩
    · show 0 ≤ min k x
      omega
    · show min k x ≤ k
      omega
    · show k ≤ if y = true then max k x + 1 else max k x
      split <;> omega
    · show (if y = true then max k x + 1 else max k x) ≤ _
      split
      · rename_i hy
        have := h7 hy
        omega
      · by_cases hz : zs.length = 0
        · omega
        · omega
  · left
    rw [if_neg h0]
    exact ⟨h0, rfl, rfl⟩
end Go.Proofs.Ytpgjaoemkadenab.Plain
