/- Plain mathematics of feed: what is pending can be gone on with; how bytes are taken one character after another; however they are cut it is the same. -/
import Derived.Test.YtbefcdkjkjeonaaDoorFull
set_option linter.unusedVariables false
set_option linter.unusedSimpArgs false
namespace Go.Proofs.YtbefcdkjkjeonaaDoor.Plain
open Go.Lib

theorem mk2 (a b : UInt8) (h1 : 194 ≤ a.toNat) (h2 : a.toNat < 224) (h3 : 128 ≤ b.toNat) (h4 : b.toNat < 192) : ∃ c, Ok c ∧ 128 ≤ c ∧ [a, b] = bytes c := by
  obtain ⟨x, hx⟩ : ∃ x, a.toNat = x := ⟨_, rfl⟩
  obtain ⟨y, hy⟩ : ∃ y, b.toNat = y := ⟨_, rfl⟩
  rw [hx] at h1 h2
  rw [hy] at h3 h4
  obtain ⟨c, hc⟩ : ∃ c, c = (x - 192) * 64 + (y - 128) := ⟨_, rfl⟩
  refine ⟨c, by unfold Ok; omega, by omega, ?_⟩
  unfold bytes
  rw [if_neg (by omega), if_pos (by omega), of_toNat hx, of_toNat hy, show 192 + c / 64 = x by omega, show 128 + c % 64 = y by omega]
theorem mk3 (a b d : UInt8) (h1 : 224 ≤ a.toNat) (h2 : a.toNat < 240) (h3 : (if a.toNat = 224 then 160 else 128) ≤ b.toNat) (h4 : b.toNat ≤ (if a.toNat = 237 then 159 else 191)) (h5 : 128 ≤ d.toNat) (h6 : d.toNat < 192) :
    ∃ c, Ok c ∧ 128 ≤ c ∧ [a, b, d] = bytes c := by
  obtain ⟨x, hx⟩ : ∃ x, a.toNat = x := ⟨_, rfl⟩
  obtain ⟨y, hy⟩ : ∃ y, b.toNat = y := ⟨_, rfl⟩
  obtain ⟨z, hz⟩ : ∃ z, d.toNat = z := ⟨_, rfl⟩
  rw [hx] at h1 h2 h3 h4
  rw [hy] at h3 h4
  rw [hz] at h5 h6
  have hb : 128 ≤ y ∧ y < 192 ∧ (x = 224 → 160 ≤ y) ∧ (x = 237 → y ≤ 159) := by split at h3 <;> split at h4 <;> omega
  obtain ⟨c, hc⟩ : ∃ c, c = (x - 224) * 4096 + (y - 128) * 64 + (z - 128) := ⟨_, rfl⟩
  refine ⟨c, by unfold Ok; omega, by omega, ?_⟩
  unfold bytes
  rw [if_neg (by omega), if_neg (by omega), if_pos (by omega), of_toNat hx, of_toNat hy, of_toNat hz, show 224 + c / 4096 = x by omega, show 128 + c / 64 % 64 = y by omega, show 128 + c % 64 = z by omega]
theorem mk4 (a b d e : UInt8) (h1 : 240 ≤ a.toNat) (h2 : a.toNat ≤ 244) (h3 : (if a.toNat = 240 then 144 else 128) ≤ b.toNat) (h4 : b.toNat ≤ (if a.toNat = 244 then 143 else 191)) (h5 : 128 ≤ d.toNat) (h6 : d.toNat < 192) (h7 : 128 ≤ e.toNat) (h8 : e.toNat < 192) :
    ∃ c, Ok c ∧ 128 ≤ c ∧ [a, b, d, e] = bytes c := by
  obtain ⟨x, hx⟩ : ∃ x, a.toNat = x := ⟨_, rfl⟩
  obtain ⟨y, hy⟩ : ∃ y, b.toNat = y := ⟨_, rfl⟩
  obtain ⟨z, hz⟩ : ∃ z, d.toNat = z := ⟨_, rfl⟩
  obtain ⟨t, ht⟩ : ∃ t, e.toNat = t := ⟨_, rfl⟩
  rw [hx] at h1 h2 h3 h4
  rw [hy] at h3 h4
  rw [hz] at h5 h6
  rw [ht] at h7 h8
  have hb : 128 ≤ y ∧ y < 192 ∧ (x = 240 → 144 ≤ y) ∧ (x = 244 → y ≤ 143) := by split at h3 <;> split at h4 <;> omega
  obtain ⟨c, hc⟩ : ∃ c, c = (x - 240) * 262144 + (y - 128) * 4096 + (z - 128) * 64 + (t - 128) := ⟨_, rfl⟩
  refine ⟨c, by unfold Ok; omega, by omega, ?_⟩
  unfold bytes
  rw [if_neg (by omega), if_neg (by omega), if_neg (by omega), of_toNat hx, of_toNat hy, of_toNat hz, of_toNat ht, show 240 + c / 262144 = x by omega, show 128 + c / 4096 % 64 = y by omega, show 128 + c / 64 % 64 = z by omega, show 128 + c % 64 = t by omega]

/-- The bytes that a character can be ended with. -/
def ends : List (List UInt8) := [[128], [128, 128], [191, 191], [128, 128, 128], [191, 191, 191]]
theorem ends_cont (m : List UInt8) (h : m ∈ ends) : ∃ b r, m = b :: r ∧ 128 ≤ b.toNat ∧ b.toNat < 192 := by
  simp only [ends, List.mem_cons, List.not_mem_nil, or_false] at h
  rcases h with rfl | rfl | rfl | rfl | rfl <;> exact ⟨_, _, rfl, by decide, by decide⟩
theorem pend_len (l : List UInt8) (h : full l = false) : l.length ≤ 3 := by
  match l, h with
  | [], _ => simp
  | [_], _ => simp
  | [_, _], _ => simp
  | [_, _, _], _ => simp
  | a :: b :: c :: d :: r, h => rw [full_four] at h; cases h
/-- What is pending is a beginning of a character. -/
theorem finish (l : List UInt8) (h : full l = false) (h0 : l ≠ []) : ∃ m ∈ ends, ∃ c, Ok c ∧ 128 ≤ c ∧ l ++ m = bytes c := by
  match l, h, h0 with
  | [], _, h0 => exact absurd rfl h0
  | [a], h, _ =>
    rw [full1] at h
    simp only [decide_eq_false_iff_not] at h
    rcases lead_inv (x := a.toNat) (by omega) with ⟨x1, x2, _⟩ | ⟨x1, x2, _⟩ | ⟨x1, x2, _⟩
    · exact ⟨[128], by decide, mk2 a 128 x1 x2 (by decide) (by decide)⟩
    · by_cases e : a.toNat = 224
      · exact ⟨[191, 191], by decide, mk3 a 191 191 x1 x2 (by rw [if_pos e]; decide) (by rw [if_neg (by omega)]; decide) (by decide) (by decide)⟩
      · exact ⟨[128, 128], by decide, mk3 a 128 128 x1 x2 (by rw [if_neg e]; decide) (by split <;> decide) (by decide) (by decide)⟩
    · by_cases e : a.toNat = 240
      · exact ⟨[191, 191, 191], by decide, mk4 a 191 191 191 x1 x2 (by rw [if_pos e]; decide) (by rw [if_neg (by omega)]; decide) (by decide) (by decide) (by decide) (by decide)⟩
      · exact ⟨[128, 128, 128], by decide, mk4 a 128 128 128 x1 x2 (by rw [if_neg e]; decide) (by split <;> decide) (by decide) (by decide) (by decide) (by decide)⟩
  | [a, b], h, _ =>
    rw [full2] at h
    simp only [decide_eq_false_iff_not] at h
    rcases lead_inv (x := a.toNat) (by omega) with ⟨x1, x2, _⟩ | ⟨x1, x2, _⟩ | ⟨x1, x2, _⟩
    · omega
    · obtain ⟨_, L1, L2⟩ := lead3 x1 x2
      rw [L1, L2] at h
      exact ⟨[128], by decide, mk3 a b 128 x1 x2 (by omega) (by omega) (by decide) (by decide)⟩
    · obtain ⟨_, L1, L2⟩ := lead4 x1 x2
      rw [L1, L2] at h
      exact ⟨[128, 128], by decide, mk4 a b 128 128 x1 x2 (by omega) (by omega) (by decide) (by decide) (by decide) (by decide)⟩
  | [a, b, d], h, _ =>
    rw [full3] at h
    simp only [decide_eq_false_iff_not, List.length_nil] at h
    rcases lead_inv (x := a.toNat) (by omega) with ⟨x1, x2, _⟩ | ⟨x1, x2, _⟩ | ⟨x1, x2, _⟩
    · omega
    · omega
    · obtain ⟨_, L1, L2⟩ := lead4 x1 x2
      rw [L1, L2] at h
      exact ⟨[128], by decide, mk4 a b d 128 x1 x2 (by omega) (by omega) (by omega) (by omega) (by decide) (by decide)⟩
  | a :: b :: c :: d :: r, h, _ => rw [full_four] at h; cases h
theorem get_all (l : List UInt8) (c : Nat) (h : Ok c) (e : l = bytes c) : get l = (c, l.length, 0) := by
  have := get_bytes c h []
  rw [List.append_nil] at this
  rw [e, this]
theorem get_full (l : List UInt8) (h : (get l).2.2 = 0) : full l = true := by
  obtain ⟨c, n, er, hg⟩ : ∃ c n er, get l = (c, n, er) := ⟨_, _, _, rfl⟩
  rw [hg] at h
  simp only at h
  subst h
  obtain ⟨hc, hn, he⟩ := get_inv l c n hg
  rw [he]
  exact full_append _ _ (full_bytes c hc)
/-- All of it is one character: not pending ahead of its end. -/
theorem get_part (l m : List UInt8) (c : Nat) (hm : m ≠ []) (h : get (l ++ m) = (c, l.length + m.length, 0)) : full l = false := by
  obtain ⟨hc, hn, he⟩ := get_inv _ _ _ h
  refine full_part c hc l m hm ?_
  rw [List.drop_of_length_le (by rw [List.length_append]; exact Nat.le_refl _), List.append_nil] at he
  exact he
/-- Bytes that are decided say what they say whatever stands behind. -/
theorem get_append (l x : List UInt8) (h : full l = true) : ((get l).2.2 = 0 ∧ get (l ++ x) = get l) ∨ ((get l).2.2 ≠ 0 ∧ (get (l ++ x)).2.2 ≠ 0) := by
  by_cases h0 : (get l).2.2 = 0
  · obtain ⟨c, n, er, hg⟩ : ∃ c n er, get l = (c, n, er) := ⟨_, _, _, rfl⟩
    rw [hg] at h0
    simp only at h0
    subst h0
    obtain ⟨hc, hn, he⟩ := get_inv l c n hg
    refine .inl ⟨by rw [hg], ?_⟩
    rw [hg]
    rw [he, List.append_assoc, get_bytes c hc, hn]
  · refine .inr ⟨h0, fun h1 => ?_⟩
    obtain ⟨c, n, er, hg⟩ : ∃ c n er, get (l ++ x) = (c, n, er) := ⟨_, _, _, rfl⟩
    rw [hg] at h1
    simp only at h1
    subst h1
    obtain ⟨hc, hn, he⟩ := get_inv _ c n hg
    by_cases hl : (bytes c).length ≤ l.length
    · have : l = bytes c ++ l.drop (bytes c).length := by
        have ht := congrArg (List.take (bytes c).length) he
        rw [List.take_append_of_le_length hl, List.take_left' rfl] at ht
        conv => lhs; rw [← List.take_append_drop (bytes c).length l, ht]
      apply h0
      rw [this, get_bytes c hc]
    · have ht := congrArg (List.take (bytes c).length) he
      rw [List.take_left' rfl, List.take_append, List.take_of_length_le (by omega)] at ht
      have := full_part c hc l (x.take ((bytes c).length - l.length)) (fun e => by
        rw [e, List.append_nil] at ht
        rw [ht] at hl
        exact hl (Nat.le_refl _)) ht
      rw [this] at h
      cases h

/-- How many bytes are one Bad. -/
def bad (l : List UInt8) : Nat := if full (l.take 2) then 1 else if full (l.take 3) then 2 else 3
/-- What is decided first, and how many bytes it takes. -/
def step (l : List UInt8) : Nat × Nat := if (get l).2.2 = 0 then ((get l).1, (get l).2.1) else (65533, bad l)
theorem bad_append (l x : List UInt8) (h : full l = true) : bad (l ++ x) = bad l := by
  unfold bad
  by_cases h2 : 2 ≤ l.length
  · rw [List.take_append_of_le_length h2]
    by_cases h3 : 3 ≤ l.length
    · rw [List.take_append_of_le_length h3]
    · have e : l.take 2 = l := List.take_of_length_le (by omega)
      rw [e, h]
      rfl
  · have e : l.take 2 = l := List.take_of_length_le (by omega)
    have e2 : (l ++ x).take 2 = l ++ x.take (2 - l.length) := by rw [List.take_append, e]
    rw [e, e2, h, full_append _ _ h]
    rfl
theorem step_append (l x : List UInt8) (h : full l = true) : step (l ++ x) = step l := by
  unfold step
  rcases get_append l x h with ⟨h0, h1⟩ | ⟨h0, h1⟩
  · rw [h1, if_pos h0, if_pos h0]
  · rw [if_neg h0, if_neg h1, bad_append l x h]
theorem bad_pos (l : List UInt8) : 1 ≤ bad l := by
  unfold bad
  repeat' split
  all_goals omega
theorem bad_le (l : List UInt8) (h : full l = true) : bad l ≤ l.length := by
  unfold bad
  have h1 : 1 ≤ l.length := by
    cases l with
    | nil => cases h
    | cons _ _ => simp
  by_cases h2 : l.length ≤ 2
  · rw [List.take_of_length_le h2, h]
    exact h1
  · split
    · exact h1
    · by_cases h3 : l.length ≤ 3
      · rw [List.take_of_length_le h3, h]
        simp
        omega
      · split <;> omega
theorem ok_bad : Ok 65533 := by unfold Ok; omega
theorem step_facts (l : List UInt8) (h : full l = true) : Ok (step l).1 ∧ 1 ≤ (step l).2 ∧ (step l).2 ≤ l.length := by
  unfold step
  split
  · rename_i h0
    obtain ⟨c, n, er, hg⟩ : ∃ c n er, get l = (c, n, er) := ⟨_, _, _, rfl⟩
    rw [hg] at h0 ⊢
    simp only at h0 ⊢
    subst h0
    obtain ⟨hc, hn, he⟩ := get_inv l c n hg
    have := congrArg List.length he
    rw [List.length_append] at this
    exact ⟨hc, by rw [hn]; exact bytes_pos c, by omega⟩
  · exact ⟨ok_bad, bad_pos l, bad_le l h⟩

/-- The characters cs are taken off the front of l, one after another: m is left. -/
def Takes : List Nat → List UInt8 → List UInt8 → Prop
  | [], l, m => m = l
  | c :: cs, l, m => full l = true ∧ (step l).1 = c ∧ Takes cs (l.drop (step l).2) m
/-- All that is decided is taken. -/
def Dec (cs : List Nat) (l m : List UInt8) : Prop := Takes cs l m ∧ full m = false
theorem Takes.trans : ∀ {cs ds : List Nat} {l m r : List UInt8}, Takes cs l m → Takes ds m r → Takes (cs ++ ds) l r
  | [], _, _, _, _, h, k => by rw [show _ = _ from h] at k; exact k
  | _ :: _, _, _, _, _, ⟨h1, h2, h3⟩, k => ⟨h1, h2, Takes.trans h3 k⟩
theorem Takes.snoc {cs : List Nat} {l m : List UInt8} (h : Takes cs l m) (hf : full m = true) : Takes (cs ++ [(step m).1]) l (m.drop (step m).2) :=
  h.trans ⟨hf, rfl, rfl⟩
theorem Takes.append (x : List UInt8) : ∀ {cs : List Nat} {l m : List UInt8}, Takes cs l m → Takes cs (l ++ x) (m ++ x)
  | [], _, _, h => by rw [show _ = _ from h]; exact rfl
  | _ :: _, l, _, ⟨h1, h2, h3⟩ => by
    refine ⟨full_append l x h1, by rw [step_append l x h1]; exact h2, ?_⟩
    rw [step_append l x h1, List.drop_append_of_le_length (step_facts l h1).2.2]
    exact Takes.append x h3
theorem Dec.one : ∀ {cs ds : List Nat} {l m r : List UInt8}, Dec cs l m → Dec ds l r → cs = ds ∧ m = r
  | [], [], _, _, _, ⟨h, _⟩, ⟨k, _⟩ => ⟨rfl, (show _ = _ from h).trans (show _ = _ from k).symm⟩
  | [], _ :: _, _, _, _, ⟨h, hf⟩, ⟨⟨k, _, _⟩, _⟩ => by rw [show _ = _ from h, k] at hf; cases hf
  | _ :: _, [], _, _, _, ⟨⟨k, _, _⟩, _⟩, ⟨h, hf⟩ => by rw [show _ = _ from h, k] at hf; cases hf
  | _ :: _, _ :: _, _, _, _, ⟨⟨_, h2, h3⟩, hf⟩, ⟨⟨_, k2, k3⟩, kf⟩ => by
    obtain ⟨e1, e2⟩ := Dec.one ⟨h3, hf⟩ ⟨k3, kf⟩
    exact ⟨by rw [← h2, ← k2, e1], e2⟩
theorem Takes.facts : ∀ {cs : List Nat} {l m : List UInt8}, Takes cs l m → Oks cs ∧ cs.length + m.length ≤ l.length ∧ m = l.drop (l.length - m.length)
  | [], l, m, h => by
    rw [show m = l from h]
    exact ⟨(fun _ h => absurd h List.not_mem_nil), by simp, by simp⟩
  | c :: cs, l, m, ⟨h1, h2, h3⟩ => by
    obtain ⟨i1, i2, i3⟩ := Takes.facts h3
    obtain ⟨s1, s2, s3⟩ := step_facts l h1
    rw [List.length_drop] at i2 i3
    refine ⟨fun x hx => ?_, by simp; omega, ?_⟩
    · rcases List.mem_cons.1 hx with rfl | hx
      · rw [← h2]; exact s1
      · exact i1 x hx
    · rw [List.drop_drop] at i3
      have e : (step l).2 + (l.length - (step l).2 - m.length) = l.length - m.length := by omega
      rw [e] at i3
      exact i3
theorem takes_text : ∀ (cs : List Nat), Oks cs → Takes cs (text cs) []
  | [], _ => rfl
  | c :: cs, h => by
    have hg := get_text c cs h
    have h0 : (get (text (c :: cs))).2.2 = 0 := by rw [hg]
    have hs : step (text (c :: cs)) = (c, (bytes c).length) := by unfold step; rw [if_pos h0, hg]
    refine ⟨get_full _ h0, by rw [hs], ?_⟩
    rw [hs, text_cons, List.drop_left' rfl]
    exact takes_text cs h.tail
theorem dec_text (cs : List Nat) (h : Oks cs) : Dec cs (text cs) [] := ⟨takes_text cs h, rfl⟩
theorem Dec.then {cs ds : List Nat} {l x m r : List UInt8} (h : Dec cs l m) (k : Dec ds (m ++ x) r) : Dec (cs ++ ds) (l ++ x) r := ⟨(h.1.append x).trans k.1, k.2⟩
/-- With the end. -/
def closed (cs : List Nat) (m : List UInt8) : List Nat := cs ++ (if m = [] then [] else [65533])
/-- Some byte more makes what is pending a character, or leaves it pending. -/
theorem waits (p : List UInt8) (h : full p = false) (h0 : p ≠ []) : ∃ b : UInt8, 128 ≤ b.toNat ∧ b.toNat < 192 ∧ (Dec [] (p ++ [b]) (p ++ [b]) ∨ ∃ c, 128 ≤ c ∧ Dec [c] (p ++ [b]) []) := by
  obtain ⟨m, hm, c, hc, hc1, he⟩ := finish p h h0
  obtain ⟨b, r, rfl, hb1, hb2⟩ := ends_cont m hm
  refine ⟨b, hb1, hb2, ?_⟩
  cases r with
  | nil =>
    refine .inr ⟨c, hc1, ?_⟩
    rw [he]
    have := dec_text [c] (fun x hx => by simp at hx; subst hx; exact hc)
    rw [text_one] at this
    exact this
  | cons d r =>
    refine .inl ⟨rfl, full_part c hc _ (d :: r) (by simp) ?_⟩
    rw [List.append_assoc]
    exact he
end Go.Proofs.YtbefcdkjkjeonaaDoor.Plain
