/- Plain mathematics of a character's bytes: the greater character has the greater bytes. -/
import GoSem.Core.Utf8
import GoSem.Op.String
import Derived.Lib.Strings
namespace Go.Proofs.YtbefcdkjkjeonaaDoor.Plain

/-- The bytes of a character by division. -/
def bytes (n : Nat) : List UInt8 :=
  if n < 128 then [UInt8.ofNat n]
  else if n < 2048 then [UInt8.ofNat (192 + n / 64), UInt8.ofNat (128 + n % 64)]
  else if n < 65536 then [UInt8.ofNat (224 + n / 4096), UInt8.ofNat (128 + n / 64 % 64), UInt8.ofNat (128 + n % 64)]
  else [UInt8.ofNat (240 + n / 262144), UInt8.ofNat (128 + n / 4096 % 64), UInt8.ofNat (128 + n / 64 % 64), UInt8.ofNat (128 + n % 64)]

theorem encode_bytes (c : Int) (h : Utf8.valid c = true) : (Utf8.encode c).data.toList = bytes c.toNat := by
  unfold Utf8.encode bytes
  simp only [h, if_true]
  split
  · rfl
  · split
    · rfl
    · split <;> rfl

theorem lt_of (a b : Nat) (ha : a < 256) (hb : b < 256) : (decide (UInt8.ofNat a < UInt8.ofNat b)) = decide (a < b) := by
  rw [Bool.eq_iff_iff]; simp [UInt8.lt_iff_toNat_lt]; omega
theorem eq_of (a b : Nat) (ha : a < 256) (hb : b < 256) : (UInt8.ofNat a == UInt8.ofNat b) = decide (a = b) := by
  rw [Bool.eq_iff_iff]; simp only [beq_iff_eq, decide_eq_true_eq]
  constructor
  · intro h
    have := congrArg UInt8.toNat h
    simp at this
    omega
  · intro h; rw [h]

theorem less_cons (a b : Nat) (x y : List UInt8) (ha : a < 256) (hb : b < 256) :
    Op.bytesLess (UInt8.ofNat a :: x) (UInt8.ofNat b :: y) = (decide (a < b) || (decide (a = b) && Op.bytesLess x y)) := by
  show (decide (UInt8.ofNat a < UInt8.ofNat b) || (UInt8.ofNat a == UInt8.ofNat b && Op.bytesLess x y)) = _
  rw [lt_of a b ha hb, eq_of a b ha hb]

theorem less_nil : Op.bytesLess [] [] = false := rfl

theorem bytes_less (a b : Nat) (ha : a ≤ 1114111) (hb : b ≤ 1114111) : Op.bytesLess (bytes a) (bytes b) = decide (a < b) := by
  unfold bytes
  have hh : ∀ n : Nat, n % 64 < 64 := fun n => Nat.mod_lt _ (by decide)
  have h1 := hh a; have h2 := hh b; have h3 := hh (a / 64); have h4 := hh (b / 64); have h5 := hh (a / 4096); have h6 := hh (b / 4096)
  split
  · split
    · rw [less_cons _ _ _ _ (by omega) (by omega), less_nil, Bool.eq_iff_iff]; simp
    · split
      · rw [less_cons _ _ _ _ (by omega) (by omega), Bool.eq_iff_iff]; simp; omega
      · split
        · rw [less_cons _ _ _ _ (by omega) (by omega), Bool.eq_iff_iff]; simp; omega
        · rw [less_cons _ _ _ _ (by omega) (by omega), Bool.eq_iff_iff]; simp; omega
  · split
    · split
      · rw [less_cons _ _ _ _ (by omega) (by omega), Bool.eq_iff_iff]; simp; omega
      · split
        · rw [less_cons _ _ _ _ (by omega) (by omega), less_cons _ _ _ _ (by omega) (by omega), less_nil, Bool.eq_iff_iff]; simp; omega
        · split
          · rw [less_cons _ _ _ _ (by omega) (by omega), Bool.eq_iff_iff]; simp; omega
          · rw [less_cons _ _ _ _ (by omega) (by omega), Bool.eq_iff_iff]; simp; omega
    · split
      · split
        · rw [less_cons _ _ _ _ (by omega) (by omega), Bool.eq_iff_iff]; simp; omega
        · split
          · rw [less_cons _ _ _ _ (by omega) (by omega), Bool.eq_iff_iff]; simp; omega
          · split
            · rw [less_cons _ _ _ _ (by omega) (by omega), less_cons _ _ _ _ (by omega) (by omega), less_cons _ _ _ _ (by omega) (by omega), less_nil, Bool.eq_iff_iff]; simp; omega
            · rw [less_cons _ _ _ _ (by omega) (by omega), Bool.eq_iff_iff]; simp; omega
      · split
        · rw [less_cons _ _ _ _ (by omega) (by omega), Bool.eq_iff_iff]; simp; omega
        · split
          · rw [less_cons _ _ _ _ (by omega) (by omega), Bool.eq_iff_iff]; simp; omega
          · split
            · rw [less_cons _ _ _ _ (by omega) (by omega), Bool.eq_iff_iff]; simp; omega
            · rw [less_cons _ _ _ _ (by omega) (by omega), less_cons _ _ _ _ (by omega) (by omega), less_cons _ _ _ _ (by omega) (by omega), less_cons _ _ _ _ (by omega) (by omega), less_nil, Bool.eq_iff_iff]; simp; omega

theorem valid_bounds {c : Int} (h : Utf8.valid c = true) : 0 ≤ c ∧ c ≤ 1114111 := by
  simp [Utf8.valid] at h
  omega

theorem encode_less (a b : Int) (ha : Utf8.valid a = true) (hb : Utf8.valid b = true) :
    Op.bytesLess (Utf8.encode a).toList (Utf8.encode b).toList = decide (a < b) := by
  rw [Lib.toList_data, Lib.toList_data, encode_bytes a ha, encode_bytes b hb]
  obtain ⟨a0, a1⟩ := valid_bounds ha
  obtain ⟨b0, b1⟩ := valid_bounds hb
  rw [bytes_less _ _ (by omega) (by omega), Bool.eq_iff_iff]
  simp
  omega
end Go.Proofs.YtbefcdkjkjeonaaDoor.Plain
