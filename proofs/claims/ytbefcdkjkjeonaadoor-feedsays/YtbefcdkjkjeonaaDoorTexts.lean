/- Plain mathematics of texts of characters: the beginnings of a list of bytes that are characters. -/
import Derived.Test.YtbefcdkjkjeonaaDoorChars
set_option linter.unusedVariables false
namespace Go.Proofs.YtbefcdkjkjeonaaDoor.Plain

def text (cs : List Nat) : List UInt8 := cs.flatMap bytes
def Oks (cs : List Nat) : Prop := ∀ c ∈ cs, Ok c
theorem text_nil : text [] = [] := rfl
theorem text_cons (c : Nat) (cs : List Nat) : text (c :: cs) = bytes c ++ text cs := by simp [text]
theorem text_append (a b : List Nat) : text (a ++ b) = text a ++ text b := by simp [text]
theorem text_one (c : Nat) : text [c] = bytes c := by simp [text]
theorem text_len (cs : List Nat) : cs.length ≤ (text cs).length := by
  induction cs with
  | nil => exact Nat.zero_le _
  | cons c cs ih => rw [text_cons, List.length_append, List.length_cons]; have := bytes_pos c; omega
theorem text_le (cs : List Nat) : (text cs).length ≤ 4 * cs.length := by
  induction cs with
  | nil => exact Nat.zero_le _
  | cons c cs ih => rw [text_cons, List.length_append, List.length_cons]; have := bytes_le c; omega
theorem Oks.tail {c : Nat} {cs : List Nat} (h : Oks (c :: cs)) : Oks cs := fun x hx => h x (List.mem_cons_of_mem _ hx)
theorem Oks.head {c : Nat} {cs : List Nat} (h : Oks (c :: cs)) : Ok c := h c (List.mem_cons_self ..)
theorem Oks.append {a b : List Nat} (h : Oks a) (k : Oks b) : Oks (a ++ b) := fun x hx => by
  rcases List.mem_append.1 hx with hx | hx
  · exact h x hx
  · exact k x hx

/-- The first p bytes are the characters cs. -/
structure Part (l : List UInt8) (cs : List Nat) (p : Nat) : Prop where
  oks : Oks cs
  le : p ≤ l.length
  is : l.take p = text cs

theorem Part.zero (l : List UInt8) : Part l [] 0 := ⟨(fun _ h => absurd h List.not_mem_nil), Nat.zero_le _, by simp [text]⟩
theorem Part.size {l : List UInt8} {cs : List Nat} {p : Nat} (h : Part l cs p) : p = (text cs).length := by
  rw [← h.is, List.length_take]; have := h.le; omega
theorem Part.len {l : List UInt8} {cs : List Nat} {p : Nat} (h : Part l cs p) : cs.length ≤ p := by
  have := text_len cs; have := h.size; omega
theorem Part.eq {l : List UInt8} {cs : List Nat} {p : Nat} (h : Part l cs p) : l = text cs ++ l.drop p := by
  rw [← h.is, List.take_append_drop]
theorem Part.of (cs : List Nat) (r : List UInt8) (h : Oks cs) : Part (text cs ++ r) cs (text cs).length :=
  ⟨h, by simp, by simp⟩
theorem Part.mk' {l : List UInt8} {cs : List Nat} {r : List UInt8} (h : Oks cs) (e : l = text cs ++ r) : Part l cs (text cs).length := by
  rw [e]; exact Part.of cs r h

theorem Part.step {l : List UInt8} {cs : List Nat} {p c n : Nat} (h : Part l cs p) (hg : get (l.drop p) = (c, n, 0)) :
    Part l (cs ++ [c]) (p + n) ∧ 0 < n ∧ Ok c ∧ n = (bytes c).length := by
  obtain ⟨hc, hn, he⟩ := get_inv _ _ _ hg
  have hs := h.size
  have hp : Part l (cs ++ [c]) (text (cs ++ [c])).length := by
    refine Part.mk' (r := (l.drop p).drop n) (h.oks.append (fun x hx => by rw [List.mem_singleton.1 hx]; exact hc)) ?_
    rw [text_append, text_one, List.append_assoc, ← he]
    exact h.eq
  have : (text (cs ++ [c])).length = p + n := by rw [text_append, text_one, List.length_append, ← hs, ← hn]
  rw [this] at hp
  exact ⟨hp, by rw [hn]; exact bytes_pos c, hc, hn⟩

/-- Of a text of characters a beginning that is characters is a beginning of these. -/
theorem text_split : ∀ (cs ds : List Nat) (r : List UInt8), Oks cs → Oks ds → text cs ++ r = text ds → ∃ es, ds = cs ++ es ∧ r = text es
  | [], ds, r, _, _, h => ⟨ds, rfl, by simpa [text_nil] using h⟩
  | c :: cs, [], r, _, _, h => by
    exfalso
    have := congrArg List.length h
    rw [text_cons, text_nil] at this
    simp only [List.length_append, List.length_nil] at this
    have := bytes_pos c
    omega
  | c :: cs, d :: ds, r, hc, hd, h => by
    rw [text_cons, text_cons, List.append_assoc] at h
    have h1 := get_bytes c hc.head (text cs ++ r)
    have h2 := get_bytes d hd.head (text ds)
    rw [h, h2] at h1
    have e : d = c := (Prod.mk.inj h1).1
    subst e
    obtain ⟨es, e1, e2⟩ := text_split cs ds r hc.tail hd.tail (List.append_cancel_left h)
    exact ⟨es, by rw [e1]; rfl, e2⟩

theorem get_text (c : Nat) (cs : List Nat) (h : Oks (c :: cs)) : get (text (c :: cs)) = (c, (bytes c).length, 0) := by
  rw [text_cons]; exact get_bytes c h.head _

/-- All's answer of a text of characters can be no other. -/
theorem Part.of_text {ds cs : List Nat} {p : Nat} (hd : Oks ds) (h : Part (text ds) cs p) : ∃ es, ds = cs ++ es ∧ (text ds).drop p = text es :=
  text_split cs ds _ h.oks hd h.eq.symm

theorem Part.whole {ds cs : List Nat} {p : Nat} (hd : Oks ds) (h : Part (text ds) cs p) (hp : p = (text ds).length) : cs = ds := by
  obtain ⟨es, e1, e2⟩ := h.of_text hd
  rw [hp, List.drop_length] at e2
  cases es with
  | nil => rw [e1, List.append_nil]
  | cons e es =>
    have := congrArg List.length e2
    rw [text_cons] at this
    have := bytes_pos e
    simp at *
    omega
theorem Part.no_err {ds cs : List Nat} {p : Nat} (hd : Oks ds) (h : Part (text ds) cs p) (hp : p < (text ds).length) : (get ((text ds).drop p)).2.2 = 0 := by
  obtain ⟨es, e1, e2⟩ := h.of_text hd
  cases es with
  | nil =>
    have := congrArg List.length e2
    simp [text_nil] at this
    omega
  | cons e es =>
    rw [e2, get_text e es (fun x hx => hd x (by rw [e1]; exact List.mem_append_right _ hx))]

/-- Errors: what is told with them, and which they are. -/
theorem fin_err (o : Nat) (p : Nat × Nat) : (fin o p).2.2 = 0 ∨ fin o p = (0, 0, (fin o p).2.2) := by
  unfold fin
  by_cases h1 : p.2 = 0
  · rw [if_pos h1]
    by_cases h2 : Lib.runeLen (p.1 : Int) = (o : Int)
    · rw [if_pos h2]; exact .inl rfl
    · rw [if_neg h2]; exact .inr rfl
  · rw [if_neg h1]; exact .inr rfl
theorem get_err (l : List UInt8) : (get l).2.2 = 0 ∨ get l = (0, 0, (get l).2.2) := by
  cases l with
  | nil => exact .inr rfl
  | cons b r =>
    have hg : get (b :: r) = if b.toNat < 128 then (b.toNat, 1, 0) else if b.toNat < 192 ∨ 248 ≤ b.toNat then (0, 0, 4) else fin (need b.toNat) (cont (need b.toNat - 1) (low b.toNat) r) := rfl
    rw [hg]
    split
    · exact .inl rfl
    · split
      · exact .inr rfl
      · exact fin_err _ _
theorem cont_err (k c : Nat) (l : List UInt8) : (cont k c l).2 ≤ 4 := by
  induction k generalizing c l with
  | zero => rw [cont_zero]; exact Nat.zero_le _
  | succ k ih =>
    cases l with
    | nil => show (3 : Nat) ≤ 4; decide
    | cons b r =>
      show (if b.toNat / 64 = 2 then cont k (c * 64 + b.toNat % 64) r else (0, 4)).2 ≤ 4
      split
      · exact ih _ _
      · exact Nat.le_refl _
theorem get_err_le (l : List UInt8) : (get l).2.2 ≤ 4 := by
  cases l with
  | nil => show (3 : Nat) ≤ 4; decide
  | cons b r =>
    have hg : get (b :: r) = if b.toNat < 128 then (b.toNat, 1, 0) else if b.toNat < 192 ∨ 248 ≤ b.toNat then (0, 0, 4) else fin (need b.toNat) (cont (need b.toNat - 1) (low b.toNat) r) := rfl
    rw [hg]
    split
    · exact Nat.zero_le _
    · split
      · exact Nat.le_refl _
      · unfold fin
        split
        · split
          · exact Nat.zero_le _
          · exact Nat.le_refl _
        · exact cont_err _ _ _
end Go.Proofs.YtbefcdkjkjeonaaDoor.Plain
