/- Plain mathematics: a character's bytes are that character, whatever stands behind; bytes that are a character are just its bytes; texts of characters. -/
import Derived.Test.YtbefcdkjkjeonaaDoorCode
import Derived.Test.YtbefcdkjkjeonaaDoorMath
set_option linter.unusedVariables false
namespace Go.Proofs.YtbefcdkjkjeonaaDoor.Plain

/-- A character. -/
def Ok (c : Nat) : Prop := c < 55296 ∨ (57343 < c ∧ c ≤ 1114111)
theorem Ok.le {c : Nat} (h : Ok c) : c ≤ 1114111 := by unfold Ok at h; omega
theorem ok_valid {c : Nat} (h : Ok c) : Utf8.valid (c : Int) = true := by
  unfold Ok at h
  simp [Utf8.valid]
  omega
theorem valid_ok {c : Int} (h : Utf8.valid c = true) : Ok c.toNat := by
  simp [Utf8.valid] at h
  unfold Ok
  omega
theorem encode_nat (c : Nat) (h : Ok c) : (Utf8.encode (c : Int)).data.toList = bytes c := by
  rw [encode_bytes _ (ok_valid h)]; simp

theorem toNat_of {n : Nat} (h : n < 256) : (UInt8.ofNat n).toNat = n := by simp; omega
theorem of_toNat {b : UInt8} {n : Nat} (h : b.toNat = n) : b = UInt8.ofNat n := by rw [← h]; simp
theorem bytes_pos (c : Nat) : 0 < (bytes c).length := by
  unfold bytes
  split
  · simp
  · split
    · simp
    · split <;> simp
theorem bytes_le (c : Nat) : (bytes c).length ≤ 4 := by
  unfold bytes
  split
  · simp
  · split
    · simp
    · split <;> simp

theorem runeLen_nat (c o : Nat) (h : Ok c) (ho : o = if c < 128 then 1 else if c < 2048 then 2 else if c < 65536 then 3 else 4) : Lib.runeLen (c : Int) = (o : Int) := by
  unfold Lib.runeLen
  unfold Ok at h
  rw [if_neg (by omega)]
  by_cases h1 : c < 128
  · rw [if_pos (by omega)]; rw [if_pos h1] at ho; rw [ho]; rfl
  · rw [if_neg (by omega)]; rw [if_neg h1] at ho
    by_cases h2 : c < 2048
    · rw [if_pos (by omega)]; rw [if_pos h2] at ho; rw [ho]; rfl
    · rw [if_neg (by omega), if_neg (by omega)]; rw [if_neg h2] at ho
      by_cases h3 : c < 65536
      · rw [if_pos (by omega)]; rw [if_pos h3] at ho; rw [ho]; rfl
      · rw [if_neg (by omega), if_pos (by omega)]; rw [if_neg h3] at ho; rw [ho]; rfl

theorem runeLen_inv (c o : Nat) (h : Lib.runeLen (c : Int) = (o : Int)) : Ok c ∧ o = if c < 128 then 1 else if c < 2048 then 2 else if c < 65536 then 3 else 4 := by
  unfold Lib.runeLen at h
  unfold Ok
  rw [if_neg (by omega)] at h
  by_cases h1 : c < 128
  · rw [if_pos (by omega)] at h; rw [if_pos h1]; omega
  · rw [if_neg (by omega)] at h; rw [if_neg h1]
    by_cases h2 : c < 2048
    · rw [if_pos (by omega)] at h; rw [if_pos h2]; omega
    · rw [if_neg (by omega)] at h; rw [if_neg h2]
      by_cases h4 : 0xD800 ≤ (c : Int) ∧ (c : Int) ≤ 0xDFFF
      · rw [if_pos h4] at h; omega
      · rw [if_neg h4] at h
        by_cases h3 : c < 65536
        · rw [if_pos (by omega)] at h; rw [if_pos h3]; omega
        · rw [if_neg (by omega)] at h; rw [if_neg h3]
          by_cases h5 : (c : Int) ≤ 0x10FFFF
          · rw [if_pos h5] at h; omega
          · rw [if_neg h5] at h; omega

theorem cont_zero (c : Nat) (l : List UInt8) : cont 0 c l = (c, 0) := by cases l <;> rfl
theorem cont_step (k c n : Nat) (r : List UInt8) (h0 : 128 ≤ n) (h1 : n < 192) : cont (k + 1) c (UInt8.ofNat n :: r) = cont k (c * 64 + (n - 128)) r := by
  show (if (UInt8.ofNat n).toNat / 64 = 2 then cont k (c * 64 + (UInt8.ofNat n).toNat % 64) r else (0, 4)) = _
  rw [toNat_of (by omega), if_pos (by omega), show n % 64 = n - 128 from by omega]
theorem get_cons (n : Nat) (r : List UInt8) (h : n < 256) : get (UInt8.ofNat n :: r) =
    if n < 128 then (n, 1, 0) else if n < 192 ∨ 248 ≤ n then (0, 0, 4) else fin (need n) (cont (need n - 1) (low n) r) := by
  show (if (UInt8.ofNat n).toNat < 128 then _ else _) = _
  rw [toNat_of h]
theorem fin_ok (o c d : Nat) (h : Lib.runeLen (c : Int) = (o : Int)) (hd : d = c) : fin o (d, 0) = (c, o, 0) := by
  subst hd
  unfold fin
  rw [if_pos rfl]
  exact if_pos h

/-- A character's bytes are that character, whatever stands behind. -/
theorem get_bytes (c : Nat) (h : Ok c) (r : List UInt8) : get (bytes c ++ r) = (c, (bytes c).length, 0) := by
  have hle := h.le
  unfold bytes
  by_cases h1 : c < 128
  · rw [if_pos h1]
    show get (UInt8.ofNat c :: r) = _
    rw [get_cons c r (by omega), if_pos h1]; rfl
  · rw [if_neg h1]
    by_cases h2 : c < 2048
    · rw [if_pos h2]
      show get (UInt8.ofNat (192 + c / 64) :: UInt8.ofNat (128 + c % 64) :: r) = (c, 2, 0)
      rw [get_cons _ _ (by omega), if_neg (by omega), if_neg (by omega)]
      unfold need low
      rw [if_pos (by omega), if_pos (by omega), cont_step _ _ _ _ (by omega) (by omega), cont_zero]
      exact fin_ok 2 c _ (runeLen_nat c 2 h (by rw [if_neg h1, if_pos h2])) (by omega)
    · rw [if_neg h2]
      by_cases h3 : c < 65536
      · rw [if_pos h3]
        show get (UInt8.ofNat (224 + c / 4096) :: UInt8.ofNat (128 + c / 64 % 64) :: UInt8.ofNat (128 + c % 64) :: r) = (c, 3, 0)
        rw [get_cons _ _ (by omega), if_neg (by omega), if_neg (by omega)]
        unfold need low
        rw [if_neg (by omega), if_pos (by omega), if_neg (by omega), if_pos (by omega), cont_step _ _ _ _ (by omega) (by omega), cont_step _ _ _ _ (by omega) (by omega), cont_zero]
        exact fin_ok 3 c _ (runeLen_nat c 3 h (by rw [if_neg h1, if_neg h2, if_pos h3])) (by omega)
      · rw [if_neg h3]
        show get (UInt8.ofNat (240 + c / 262144) :: UInt8.ofNat (128 + c / 4096 % 64) :: UInt8.ofNat (128 + c / 64 % 64) :: UInt8.ofNat (128 + c % 64) :: r) = (c, 4, 0)
        rw [get_cons _ _ (by omega), if_neg (by omega), if_neg (by omega)]
        unfold need low
        rw [if_neg (by omega), if_neg (by omega), if_neg (by omega), if_neg (by omega), cont_step _ _ _ _ (by omega) (by omega), cont_step _ _ _ _ (by omega) (by omega), cont_step _ _ _ _ (by omega) (by omega), cont_zero]
        exact fin_ok 4 c _ (runeLen_nat c 4 h (by rw [if_neg h1, if_neg h2, if_neg h3])) (by omega)

theorem cont_inv (k c : Nat) (l : List UInt8) (h : (cont (k + 1) c l).2 = 0) : ∃ b r, l = b :: r ∧ b.toNat / 64 = 2 ∧ cont (k + 1) c l = cont k (c * 64 + b.toNat % 64) r := by
  cases l with
  | nil => exact absurd h (by show ¬ (3 : Nat) = 0; decide)
  | cons b r =>
    by_cases hb : b.toNat / 64 = 2
    · exact ⟨b, r, rfl, hb, if_pos hb⟩
    · exfalso
      have e : cont (k + 1) c (b :: r) = (0, 4) := if_neg hb
      rw [e] at h
      exact absurd h (by decide)

theorem fin_inv (o c k : Nat) (p : Nat × Nat) (h : fin o p = (c, k, 0)) : p.2 = 0 ∧ p.1 = c ∧ k = o ∧ Lib.runeLen (c : Int) = (o : Int) := by
  unfold fin at h
  by_cases h1 : p.2 = 0
  · rw [if_pos h1] at h
    by_cases h2 : Lib.runeLen (p.1 : Int) = (o : Int)
    · rw [if_pos h2] at h
      simp only [Prod.mk.injEq] at h
      obtain ⟨h3, h4, _⟩ := h
      exact ⟨h1, h3, h4.symm, h3 ▸ h2⟩
    · rw [if_neg h2] at h
      simp at h
  · rw [if_neg h1] at h
    simp at h
    exact absurd h.2.2 h1

/-- Bytes that are a character are just its bytes. -/
theorem get_inv (l : List UInt8) (c k : Nat) (h : get l = (c, k, 0)) : Ok c ∧ k = (bytes c).length ∧ l = bytes c ++ l.drop k := by
  cases l with
  | nil => exact absurd h (by show ¬ ((0, 0, 3) : Nat × Nat × Nat) = (c, k, 0); simp)
  | cons b r =>
    have hg : get (b :: r) = if b.toNat < 128 then (b.toNat, 1, 0) else if b.toNat < 192 ∨ 248 ≤ b.toNat then (0, 0, 4) else fin (need b.toNat) (cont (need b.toNat - 1) (low b.toNat) r) := rfl
    rw [hg] at h
    by_cases h1 : b.toNat < 128
    · rw [if_pos h1] at h
      simp only [Prod.mk.injEq] at h
      obtain ⟨h2, h3, _⟩ := h
      subst h2 h3
      refine ⟨.inl (by omega), ?_, ?_⟩ <;> unfold bytes <;> rw [if_pos h1]
      · rfl
      · show b :: r = UInt8.ofNat b.toNat :: r
        simp
    · rw [if_neg h1] at h
      by_cases h2 : b.toNat < 192 ∨ 248 ≤ b.toNat
      · rw [if_pos h2] at h; simp at h
      · rw [if_neg h2] at h
        obtain ⟨e0, e1, e2, e3⟩ := fin_inv _ _ _ _ h
        obtain ⟨hok, hn⟩ := runeLen_inv _ _ e3
        refine ⟨hok, ?_⟩
        have hle := hok.le
        unfold need low at e0 e1
        unfold need at hn e2
        by_cases h3 : b.toNat < 224
        · rw [if_pos h3] at hn e2; rw [if_pos h3, if_pos h3] at e0 e1
          have hc : ¬ c < 128 ∧ c < 2048 := by
            split at hn
            · omega
            · split at hn
              · omega
              · split at hn <;> omega
          obtain ⟨b1, r1, rfl, hb1, q1⟩ := cont_inv 0 _ r e0
          rw [show (2 - 1 : Nat) = 0 + 1 from rfl, q1, cont_zero] at e1
          have hb2 := UInt8.toNat_lt b1
          simp only at e1
          subst e2
          unfold bytes
          rw [if_neg hc.1, if_pos hc.2]
          refine ⟨rfl, ?_⟩
          show b :: b1 :: r1 = UInt8.ofNat (192 + c / 64) :: UInt8.ofNat (128 + c % 64) :: r1
          rw [← of_toNat (b := b) (by omega), ← of_toNat (b := b1) (by omega)]
        · rw [if_neg h3] at hn e2; rw [if_neg h3, if_neg h3] at e0 e1
          by_cases h4 : b.toNat < 240
          · rw [if_pos h4] at hn e2; rw [if_pos h4, if_pos h4] at e0 e1
            have hc : ¬ c < 128 ∧ ¬ c < 2048 ∧ c < 65536 := by
              split at hn
              · omega
              · split at hn
                · omega
                · split at hn <;> omega
            obtain ⟨b1, r1, rfl, hb1, q1⟩ := cont_inv 1 _ r e0
            rw [show (3 - 1 : Nat) = 1 + 1 from rfl, q1] at e0 e1
            obtain ⟨b2, r2, rfl, hb2, q2⟩ := cont_inv 0 _ r1 e0
            rw [q2, cont_zero] at e1
            have hc1 := UInt8.toNat_lt b1
            have hc2 := UInt8.toNat_lt b2
            simp only at e1
            subst e2
            unfold bytes
            rw [if_neg hc.1, if_neg hc.2.1, if_pos hc.2.2]
            refine ⟨rfl, ?_⟩
            show b :: b1 :: b2 :: r2 = UInt8.ofNat (224 + c / 4096) :: UInt8.ofNat (128 + c / 64 % 64) :: UInt8.ofNat (128 + c % 64) :: r2
            rw [← of_toNat (b := b) (by omega), ← of_toNat (b := b1) (by omega), ← of_toNat (b := b2) (by omega)]
          · rw [if_neg h4] at hn e2; rw [if_neg h4, if_neg h4] at e0 e1
            have hc : ¬ c < 128 ∧ ¬ c < 2048 ∧ ¬ c < 65536 := by
              split at hn
              · omega
              · split at hn
                · omega
                · split at hn <;> omega
            obtain ⟨b1, r1, rfl, hb1, q1⟩ := cont_inv 2 _ r e0
            rw [show (4 - 1 : Nat) = 2 + 1 from rfl, q1] at e0 e1
            obtain ⟨b2, r2, rfl, hb2, q2⟩ := cont_inv 1 _ r1 e0
            rw [q2] at e0 e1
            obtain ⟨b3, r3, rfl, hb3, q3⟩ := cont_inv 0 _ r2 e0
            rw [q3, cont_zero] at e1
            have hc1 := UInt8.toNat_lt b1
            have hc2 := UInt8.toNat_lt b2
            have hc3 := UInt8.toNat_lt b3
            simp only at e1
            subst e2
            unfold bytes
            rw [if_neg hc.1, if_neg hc.2.1, if_neg hc.2.2]
            refine ⟨rfl, ?_⟩
            show b :: b1 :: b2 :: b3 :: r3 = UInt8.ofNat (240 + c / 262144) :: UInt8.ofNat (128 + c / 4096 % 64) :: UInt8.ofNat (128 + c / 64 % 64) :: UInt8.ofNat (128 + c % 64) :: r3
            rw [← of_toNat (b := b) (by omega), ← of_toNat (b := b1) (by omega), ← of_toNat (b := b2) (by omega), ← of_toNat (b := b3) (by omega)]

end Go.Proofs.YtbefcdkjkjeonaaDoor.Plain
