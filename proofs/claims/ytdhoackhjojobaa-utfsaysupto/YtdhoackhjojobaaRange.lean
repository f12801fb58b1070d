/- Plain mathematics: what ranging over a string reads at a place is what Get reads there, or the character Bad and one byte. -/
import Derived.Test.YtdhoackhjojobaaTexts
import Derived.Laws.RangeAny
namespace Go.Proofs.Ytdhoackhjojobaa.Plain

theorem at_some (s : ByteArray) (p k : Nat) (b : UInt8) (h : (s.data.toList.drop p)[k]? = some b) : p + k < s.size ∧ (s.get! (p + k)).toNat = b.toNat := by
  rw [List.getElem?_drop] at h
  obtain ⟨h1, h2⟩ := List.getElem?_eq_some_iff.1 h
  have h3 : p + k < s.size := by rw [Array.length_toList] at h1; exact h1
  refine ⟨h3, ?_⟩
  have e : s.get! (p + k) = s[p + k]'h3 := by
    have := get_at s (p + k) h3
    rwa [Nat.add_zero] at this
  rw [e, ← h2]
  rfl
theorem at_none (s : ByteArray) (p k : Nat) (h : (s.data.toList.drop p)[k]? = none) : ¬ p + k < s.size := by
  intro hk
  rw [List.getElem?_drop] at h
  have := List.getElem?_eq_none_iff.1 h
  rw [Array.length_toList] at this
  have : s.size = s.data.size := rfl
  omega

/-- What ranging reads, with the four bytes named. -/
theorem decode_named (s : ByteArray) (p a0 a1 a2 a3 : Nat) (h0 : (s.get! (p + 0)).toNat = a0) (h1 : (s.get! (p + 1)).toNat = a1) (h2 : (s.get! (p + 2)).toNat = a2) (h3 : (s.get! (p + 3)).toNat = a3) :
    Utf8.decode s p =
      if a0 < 128 then (a0, 1)
      else if (a0 / 32 == 6 && (decide (p + 1 < s.size) && a1 / 64 == 2)) = true then
        (if a0 % 32 * 64 + a1 % 64 ≥ 128 then (a0 % 32 * 64 + a1 % 64, 2) else (65533, 1))
      else if (a0 / 16 == 14 && (decide (p + 1 < s.size) && a1 / 64 == 2) && (decide (p + 2 < s.size) && a2 / 64 == 2)) = true then
        (if (decide (a0 % 16 * 4096 + a1 % 64 * 64 + a2 % 64 ≥ 2048) && Utf8.valid ((a0 % 16 * 4096 + a1 % 64 * 64 + a2 % 64 : Nat) : Int)) = true then (a0 % 16 * 4096 + a1 % 64 * 64 + a2 % 64, 3) else (65533, 1))
      else if (a0 / 8 == 30 && (decide (p + 1 < s.size) && a1 / 64 == 2) && (decide (p + 2 < s.size) && a2 / 64 == 2) && (decide (p + 3 < s.size) && a3 / 64 == 2)) = true then
        (if (decide (a0 % 8 * 262144 + a1 % 64 * 4096 + a2 % 64 * 64 + a3 % 64 ≥ 65536) && Utf8.valid ((a0 % 8 * 262144 + a1 % 64 * 4096 + a2 % 64 * 64 + a3 % 64 : Nat) : Int)) = true then (a0 % 8 * 262144 + a1 % 64 * 4096 + a2 % 64 * 64 + a3 % 64, 4) else (65533, 1))
      else (65533, 1) := by
  subst h0 h1 h2 h3
  rfl

theorem valid_iff (c : Nat) : Utf8.valid (c : Int) = true ↔ Ok c := by
  constructor
  · intro h
    have := valid_ok h
    simpa using this
  · exact ok_valid

theorem get_cons' (b : UInt8) (r : List UInt8) : get (b :: r) =
    if b.toNat < 128 then (b.toNat, 1, 0) else if b.toNat < 192 ∨ 248 ≤ b.toNat then (0, 0, 4) else fin (need b.toNat) (cont (need b.toNat - 1) (low b.toNat) r) := rfl
theorem cont_cons (k c : Nat) (b : UInt8) (r : List UInt8) (h : b.toNat / 64 = 2) : cont (k + 1) c (b :: r) = cont k (c * 64 + b.toNat % 64) r := if_pos h

theorem decode_get_ok (s : ByteArray) (p c n : Nat) (hg : get (s.data.toList.drop p) = (c, n, 0)) : Utf8.decode s p = (c, n) := by
  obtain ⟨hok, hn, hl⟩ := get_inv _ _ _ hg
  have hle := hok.le
  have hidx : ∀ k b, (bytes c)[k]? = some b → p + k < s.size ∧ (s.get! (p + k)).toNat = b.toNat := fun k b hb => by
    refine at_some s p k b ?_
    rw [hl, List.getElem?_append_left (List.getElem?_eq_some_iff.1 hb).1]
    exact hb
  have hm : ∀ n : Nat, n % 64 < 64 := fun n => Nat.mod_lt _ (by decide)
  have m1 := hm c; have m2 := hm (c / 64); have m3 := hm (c / 4096)
  rw [hn]
  unfold bytes at hidx ⊢
  by_cases h1 : c < 128
  · rw [if_pos h1] at hidx ⊢
    obtain ⟨q0, e0⟩ := hidx 0 _ rfl
    rw [toNat_of (by omega)] at e0
    rw [decode_named s p _ _ _ _ e0 rfl rfl rfl, if_pos h1]
    rfl
  · rw [if_neg h1] at hidx ⊢
    by_cases h2 : c < 2048
    · rw [if_pos h2] at hidx ⊢
      obtain ⟨q0, e0⟩ := hidx 0 _ rfl
      obtain ⟨q1, e1⟩ := hidx 1 _ rfl
      rw [toNat_of (by omega)] at e0 e1
      rw [decode_named s p _ _ _ _ e0 e1 rfl rfl, if_neg (by omega), if_pos (by simp; omega), if_pos (by omega)]
      exact Prod.ext (by show _ = c; omega) rfl
    · rw [if_neg h2] at hidx ⊢
      by_cases h3 : c < 65536
      · rw [if_pos h3] at hidx ⊢
        obtain ⟨q0, e0⟩ := hidx 0 _ rfl
        obtain ⟨q1, e1⟩ := hidx 1 _ rfl
        obtain ⟨q2, e2⟩ := hidx 2 _ rfl
        rw [toNat_of (by omega)] at e0 e1 e2
        have hc : (224 + c / 4096) % 16 * 4096 + (128 + c / 64 % 64) % 64 * 64 + (128 + c % 64) % 64 = c := by omega
        rw [decode_named s p _ _ _ _ e0 e1 e2 rfl, if_neg (by omega), if_neg (by simp; omega), if_pos (by simp; omega), hc, if_pos (by rw [ok_valid hok]; simp; omega)]
        rfl
      · rw [if_neg h3] at hidx ⊢
        obtain ⟨q0, e0⟩ := hidx 0 _ rfl
        obtain ⟨q1, e1⟩ := hidx 1 _ rfl
        obtain ⟨q2, e2⟩ := hidx 2 _ rfl
        obtain ⟨q3, e3⟩ := hidx 3 _ rfl
        rw [toNat_of (by omega)] at e0 e1 e2 e3
        have hc : (240 + c / 262144) % 8 * 262144 + (128 + c / 4096 % 64) % 64 * 4096 + (128 + c / 64 % 64) % 64 * 64 + (128 + c % 64) % 64 = c := by omega
        rw [decode_named s p _ _ _ _ e0 e1 e2 e3, if_neg (by omega), if_neg (by simp; omega), if_neg (by simp; omega), if_pos (by simp; omega), hc, if_pos (by rw [ok_valid hok]; simp; omega)]
        rfl

/-- The bytes behind a place, as a list that begins with those that are named. -/
theorem byte_at (s : ByteArray) (p k : Nat) (h : p + k < s.size) : ∃ b : UInt8, (s.data.toList.drop p)[k]? = some b ∧ (s.get! (p + k)).toNat = b.toNat := by
  cases hb : (s.data.toList.drop p)[k]? with
  | none => exact absurd h (at_none s p k hb)
  | some b => exact ⟨b, rfl, (at_some s p k b hb).2⟩

theorem decode_get_bad (s : ByteArray) (p : Nat) (hp : p < s.size) (hg : (get (s.data.toList.drop p)).2.2 ≠ 0) : Utf8.decode s p = (65533, 1) := by
  rw [decode_named s p _ _ _ _ rfl rfl rfl rfl]
  obtain ⟨b0, i0, e0⟩ := byte_at s p 0 hp
  rw [e0]
  generalize hl : s.data.toList.drop p = l at hg i0
  have hat : ∀ k, p + k < s.size → ∃ b : UInt8, l[k]? = some b ∧ (s.get! (p + k)).toNat = b.toNat := fun k hk => by rw [← hl]; exact byte_at s p k hk
  cases l with
  | nil => cases i0
  | cons b r =>
    have hb : b = b0 := Option.some.inj i0
    subst hb
    rw [get_cons'] at hg
    by_cases h1 : b.toNat < 128
    · rw [if_pos h1] at hg; exact absurd rfl hg
    · rw [if_neg h1] at hg ⊢
      by_cases c2 : (b.toNat / 32 == 6 && (decide (p + 1 < s.size) && (s.get! (p + 1)).toNat / 64 == 2)) = true
      · rw [if_pos c2]
        simp only [Bool.and_eq_true, beq_iff_eq, decide_eq_true_eq] at c2
        obtain ⟨d0, d1, d2⟩ := c2
        obtain ⟨b1, i1, e1⟩ := hat 1 d1
        rw [e1] at d2 ⊢
        have hr : ∃ r1, r = b1 :: r1 := by cases r with
          | nil => cases i1
          | cons x y => exact ⟨y, by rw [Option.some.inj i1]⟩
        obtain ⟨r1, rfl⟩ := hr
        have hb := UInt8.toNat_lt b
        refine if_neg fun hge => hg ?_
        unfold need low
        rw [if_neg (by omega), if_pos (by omega), if_pos (by omega), show (2 - 1 : Nat) = 0 + 1 from rfl, cont_cons _ _ _ _ d2, cont_zero]
        rw [fin_ok 2 _ _ (runeLen_nat _ 2 (.inl (by omega)) (by rw [if_neg (by omega), if_pos (by omega)])) rfl]
      · rw [if_neg c2]
        by_cases c3 : (b.toNat / 16 == 14 && (decide (p + 1 < s.size) && (s.get! (p + 1)).toNat / 64 == 2) && (decide (p + 2 < s.size) && (s.get! (p + 2)).toNat / 64 == 2)) = true
        · rw [if_pos c3]
          simp only [Bool.and_eq_true, beq_iff_eq, decide_eq_true_eq] at c3
          obtain ⟨⟨d0, d1, d2⟩, d3, d4⟩ := c3
          obtain ⟨b1, i1, e1⟩ := hat 1 d1
          obtain ⟨b2, i2, e2⟩ := hat 2 d3
          rw [e1] at d2 ⊢
          rw [e2] at d4 ⊢
          have hr : ∃ r1, r = b1 :: b2 :: r1 := by
            match r, i1, i2 with
            | x :: y :: z, i1, i2 => exact ⟨z, by rw [← Option.some.inj i1, ← Option.some.inj i2]⟩
          obtain ⟨r1, rfl⟩ := hr
          have hb := UInt8.toNat_lt b
          refine if_neg fun hge => hg ?_
          rw [Bool.and_eq_true, decide_eq_true_eq, valid_iff] at hge
          obtain ⟨g1, g2⟩ := hge
          unfold need low
          rw [if_neg (by omega), if_neg (by omega), if_pos (by omega), if_neg (by omega), if_pos (by omega), show (3 - 1 : Nat) = 1 + 1 from rfl, cont_cons _ _ _ _ d2, cont_cons _ _ _ _ d4, cont_zero]
          rw [fin_ok 3 _ _ (runeLen_nat _ 3 g2 (by rw [if_neg (by omega), if_neg (by omega), if_pos (by omega)])) (by omega)]
        · rw [if_neg c3]
          by_cases c4 : (b.toNat / 8 == 30 && (decide (p + 1 < s.size) && (s.get! (p + 1)).toNat / 64 == 2) && (decide (p + 2 < s.size) && (s.get! (p + 2)).toNat / 64 == 2) && (decide (p + 3 < s.size) && (s.get! (p + 3)).toNat / 64 == 2)) = true
          · rw [if_pos c4]
            simp only [Bool.and_eq_true, beq_iff_eq, decide_eq_true_eq] at c4
            obtain ⟨⟨⟨d0, d1, d2⟩, d3, d4⟩, d5, d6⟩ := c4
            obtain ⟨b1, i1, e1⟩ := hat 1 d1
            obtain ⟨b2, i2, e2⟩ := hat 2 d3
            obtain ⟨b3, i3, e3⟩ := hat 3 d5
            rw [e1] at d2 ⊢
            rw [e2] at d4 ⊢
            rw [e3] at d6 ⊢
            have hr : ∃ r1, r = b1 :: b2 :: b3 :: r1 := by
              match r, i1, i2, i3 with
              | x :: y :: z :: t, i1, i2, i3 => exact ⟨t, by rw [← Option.some.inj i1, ← Option.some.inj i2, ← Option.some.inj i3]⟩
            obtain ⟨r1, rfl⟩ := hr
            have hb := UInt8.toNat_lt b
            refine if_neg fun hge => hg ?_
            rw [Bool.and_eq_true, decide_eq_true_eq, valid_iff] at hge
            obtain ⟨g1, g2⟩ := hge
            unfold need low
            rw [if_neg (by omega), if_neg (by omega), if_neg (by omega), if_neg (by omega), if_neg (by omega), show (4 - 1 : Nat) = 2 + 1 from rfl, cont_cons _ _ _ _ d2, cont_cons _ _ _ _ d4, cont_cons _ _ _ _ d6, cont_zero]
            rw [fin_ok 4 _ _ (runeLen_nat _ 4 g2 (by rw [if_neg (by omega), if_neg (by omega), if_neg (by omega)])) (by omega)]
          · rw [if_neg c4]
end Go.Proofs.Ytdhoackhjojobaa.Plain
