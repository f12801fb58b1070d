/- Plain mathematics: within a character's bytes none begins but at their beginning; from any place no more than three bytes are passed till one does. -/
import Derived.Test.YtdhoackhjojobaaTexts
namespace Go.Proofs.Ytdhoackhjojobaa.Plain

/-- x is where one of the first i characters begins. -/
def isStart (cs : List Nat) (i x : Nat) : Bool := (List.range i).any (fun j => (text (cs.take j)).length == x)
theorem isStart_iff (cs : List Nat) (i x : Nat) : isStart cs i x = true ↔ ∃ j, j < i ∧ (text (cs.take j)).length = x := by
  unfold isStart
  rw [List.any_eq_true]
  constructor
  · rintro ⟨j, hj, he⟩
    exact ⟨j, List.mem_range.1 hj, beq_iff_eq.1 he⟩
  · rintro ⟨j, hj, he⟩
    exact ⟨j, List.mem_range.2 hj, beq_iff_eq.2 he⟩
theorem isStart_zero (cs : List Nat) (x : Nat) : isStart cs 0 x = false := rfl
theorem isStart_succ (cs : List Nat) (i x : Nat) : isStart cs (i + 1) x = (isStart cs i x || ((text (cs.take i)).length == x)) := by
  unfold isStart
  rw [List.range_succ, List.any_append]
  simp

theorem take_succ_text (cs : List Nat) (i : Nat) (h : i < cs.length) : (text (cs.take (i + 1))).length = (text (cs.take i)).length + (bytes cs[i]).length := by
  rw [List.take_succ_eq_append_getElem h, text_append, text_one, List.length_append]

theorem text_drop (cs : List Nat) (i : Nat) : (text cs).drop (text (cs.take i)).length = text (cs.drop i) := by
  have h : text cs = text (cs.take i) ++ text (cs.drop i) := by rw [← text_append, List.take_append_drop]
  rw [h, List.drop_left]

/-- Where a place lies: in which character, and how far behind its beginning. -/
theorem place : ∀ (cs : List Nat) (k : Nat), k < (text cs).length → ∃ i, ∃ h : i < cs.length, ∃ j, j < (bytes cs[i]).length ∧ k = (text (cs.take i)).length + j
  | [], k, h => absurd h (Nat.not_lt_zero k)
  | c :: cs, k, h => by
    rw [text_cons, List.length_append] at h
    by_cases hk : k < (bytes c).length
    · exact ⟨0, Nat.zero_lt_succ _, k, hk, by simp [text_nil]⟩
    · obtain ⟨i, hi, j, hj, e⟩ := place cs (k - (bytes c).length) (by omega)
      refine ⟨i + 1, Nat.succ_lt_succ hi, j, hj, ?_⟩
      rw [List.take_succ_cons, text_cons, List.length_append]
      omega

theorem bytes_cont (c j : Nat) (hj : 0 < j) (b : UInt8) (h : (bytes c)[j]? = some b) : 128 ≤ b.toNat ∧ b.toNat < 192 := by
  have hm : ∀ n : Nat, n % 64 < 64 := fun n => Nat.mod_lt _ (by decide)
  have m1 := hm c; have m2 := hm (c / 64); have m3 := hm (c / 4096)
  have key : ∀ n, n < 64 → b = UInt8.ofNat (128 + n) → 128 ≤ b.toNat ∧ b.toNat < 192 := fun n hn e => by
    rw [e, toNat_of (by omega)]; omega
  unfold bytes at h
  split at h
  · match j, hj, h with
    | j + 1, _, h => simp at h
  · split at h
    · match j, hj, h with
      | 1, _, h => exact key _ m1 (Option.some.inj h).symm
      | j + 2, _, h => simp at h
    · split at h
      · match j, hj, h with
        | 1, _, h => exact key _ m2 (Option.some.inj h).symm
        | 2, _, h => exact key _ m1 (Option.some.inj h).symm
        | j + 3, _, h => simp at h
      · match j, hj, h with
        | 1, _, h => exact key _ m3 (Option.some.inj h).symm
        | 2, _, h => exact key _ m2 (Option.some.inj h).symm
        | 3, _, h => exact key _ m1 (Option.some.inj h).symm
        | j + 4, _, h => simp at h

theorem get_cont (b : UInt8) (r : List UInt8) (h0 : 128 ≤ b.toNat) (h1 : b.toNat < 192) : get (b :: r) = (0, 0, 4) := by
  show (if b.toNat < 128 then _ else _) = _
  rw [if_neg (by omega), if_pos (.inl h1)]

/-- A character begins at a place just if Get reads one there. -/
theorem start_iff (cs : List Nat) (hok : Oks cs) (k : Nat) (hk : k < (text cs).length) : ((get ((text cs).drop k)).2.2 = 0) ↔ isStart cs cs.length k = true := by
  constructor
  · intro hg
    obtain ⟨i, hi, j, hj, e⟩ := place cs k hk
    by_cases h0 : j = 0
    · exact (isStart_iff _ _ _).2 ⟨i, hi, by omega⟩
    · exfalso
      have hd : (text cs).drop k = (text (cs.drop i)).drop j := by rw [e, ← List.drop_drop, text_drop]
      rw [List.drop_eq_getElem_cons hi, text_cons] at hd
      obtain ⟨b, hb⟩ : ∃ b, (bytes cs[i])[j]? = some b := ⟨_, List.getElem?_eq_getElem hj⟩
      obtain ⟨c1, c2⟩ := bytes_cont _ j (by omega) b hb
      rw [List.drop_append_of_le_length (by omega), List.drop_eq_getElem_cons hj] at hd
      have hbe : (bytes cs[i])[j] = b := (List.getElem?_eq_some_iff.1 hb).2
      rw [hbe, List.cons_append] at hd
      rw [hd, get_cont b _ c1 c2] at hg
      exact absurd hg (by decide)
  · intro h
    obtain ⟨i, hi, e⟩ := (isStart_iff _ _ _).1 h
    rw [← e, text_drop, List.drop_eq_getElem_cons hi, get_text _ _ (fun x hx => hok x ?_)]
    rw [← List.drop_eq_getElem_cons hi] at hx
    exact List.mem_of_mem_drop hx

/-- No more than three bytes are passed till one begins, or the text ends. -/
theorem soon (cs : List Nat) (k : Nat) (hk : k < (text cs).length) : ∃ n, n < 4 ∧ (k + n = (text cs).length ∨ isStart cs cs.length (k + n) = true) := by
  obtain ⟨i, hi, j, hj, e⟩ := place cs k hk
  have h4 := bytes_le cs[i]
  by_cases h0 : j = 0
  · exact ⟨0, by omega, .inr ((isStart_iff _ _ _).2 ⟨i, hi, by omega⟩)⟩
  · refine ⟨(bytes cs[i]).length - j, by omega, ?_⟩
    have hs := take_succ_text cs i hi
    by_cases hl : i + 1 < cs.length
    · exact .inr ((isStart_iff _ _ _).2 ⟨i + 1, hl, by omega⟩)
    · left
      have : cs.take (i + 1) = cs := List.take_of_length_le (by omega)
      rw [this] at hs
      omega
end Go.Proofs.Ytdhoackhjojobaa.Plain
