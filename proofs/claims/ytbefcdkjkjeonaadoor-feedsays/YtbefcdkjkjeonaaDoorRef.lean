/- The contracts of the document's answer for single characters: Char, Put, ones. -/
import Derived.Test.YtbefcdkjkjeonaaDoorAll
import Derived.Laws.IdiomStrings
import Derived.WideShapes
set_option linter.unusedVariables false
namespace Go.Proofs.YtbefcdkjkjeonaaDoor.Utf
open Go.RowKit

set_option maxHeartbeats 400000 in
theorem char_any (c : Int) (w : World) :
    Calls Tryd.prog 25 #[.int .i64 c] w fun e w' => e = .returned (.bool (Utf8.valid c)) ∧ w' = w := by
  rw [validRune_eq]
  unfold validRune
  by_cases h1 : 0 ≤ c
  · by_cases h3 : c < 55296
    · go_enter Tryd.func25, Tryd.ntmps25
      go_wp2
      go_ret
      exact ⟨by simp [h1, h3], rfl⟩
    · by_cases h4 : 57343 < c
      · by_cases h2 : c ≤ 1114111
        · go_enter Tryd.func25, Tryd.ntmps25
          go_wp2
          go_ret
          exact ⟨by simp, rfl⟩
        · go_enter Tryd.func25, Tryd.ntmps25
          go_wp2
          go_ret
          exact ⟨by simp; omega, rfl⟩
      · go_enter Tryd.func25, Tryd.ntmps25
        go_wp2
        go_ret
        exact ⟨by simp; omega, rfl⟩
  · by_cases h4 : 57343 < c
    · omega
    · go_enter Tryd.func25, Tryd.ntmps25
      go_wp2
      go_ret
      exact ⟨by simp; omega, rfl⟩

/-- A new row of bytes, read as a string. -/
theorem conv_new (w : World) (l : List UInt8) (vs : Array Value) (n : Nat) (hv : vs = (l.map fun b => Value.int .u8 (b.toNat : Int)).toArray) (hn : n = l.length) :
    (convert 43 9 (.slice (some ⟨w.heap.size, 0, none⟩) n n)).run Tryd.prog (w.alloc (.cells vs 5)) = .ok (.string ⟨l.toArray⟩) (w.alloc (.cells vs 5)) := by
  subst hv hn
  refine run_convert_bytes_back _ 43 9 5 _ _ l Tryd.underlying43 Tryd.underlying5 Tryd.underlying9 ?_
  intro j hj
  rw [show (⟨w.heap.size, 0, none⟩ : Addr).add j = ⟨w.heap.size, j, none⟩ from Go.WideShapes.add_plain w.heap.size 0 j |>.trans (by rw [Nat.zero_add])]
  rw [World.cell?_alloc_mark]
  simp [hj]

set_option maxRecDepth 100000 in
set_option maxHeartbeats 1000000 in
theorem rput1 (c : Nat) (w : World) (h1 : c < 128) :
    Calls Tryd.prog 26 #[.int .i64 (c : Int)] w fun e w' => e = .returned (.string ⟨(Plain.bytes c).toArray⟩) ∧ Below w.heap.size w w' := by
  have t0 : ((UInt8.ofNat (c)).toNat : Int) = (c : Int) := by rw [Plain.toNat_of (by omega)]
  have hcv : (convert 43 9 (.slice (some ⟨w.heap.size, 0, none⟩) 1 1)).run Tryd.prog (w.alloc (.cells #[.int .u8 (c : Int)] 5)) = .ok (.string ⟨(Plain.bytes c).toArray⟩) (w.alloc (.cells #[.int .u8 (c : Int)] 5)) := by
    refine conv_new w (Plain.bytes c) _ _ ?_ ?_
    · unfold Plain.bytes
      rw [if_pos h1]
      simp only [List.map_cons, List.map_nil, t0]
    · unfold Plain.bytes
      rw [if_pos h1]
      rfl
  clear t0
  have g1 : (c : Int) < 128 := by omega
  clear h1
  go_enter Tryd.func26, Tryd.ntmps26
  go_wp2
  go_ret
  exact ⟨rfl, (Below.refl _ _).alloc (Nat.le_refl _) _⟩

set_option maxRecDepth 100000 in
set_option maxHeartbeats 1000000 in
theorem rput2 (c : Nat) (w : World) (h1 : ¬ c < 128) (h2 : c < 2048) :
    Calls Tryd.prog 26 #[.int .i64 (c : Int)] w fun e w' => e = .returned (.string ⟨(Plain.bytes c).toArray⟩) ∧ Below w.heap.size w w' := by
  have t0 : ((UInt8.ofNat (192 + c / 64)).toNat : Int) = 192 + (c : Int) / 64 := by rw [Plain.toNat_of (by omega)]; omega
  have t1 : ((UInt8.ofNat (128 + c % 64)).toNat : Int) = 128 + (c : Int) % 64 := by rw [Plain.toNat_of (by omega)]; omega
  have hcv : (convert 43 9 (.slice (some ⟨w.heap.size, 0, none⟩) 2 2)).run Tryd.prog (w.alloc (.cells #[.int .u8 ((192 + (c : Int) / 64)), .int .u8 ((128 + (c : Int) % 64))] 5)) = .ok (.string ⟨(Plain.bytes c).toArray⟩) (w.alloc (.cells #[.int .u8 ((192 + (c : Int) / 64)), .int .u8 ((128 + (c : Int) % 64))] 5)) := by
    refine conv_new w (Plain.bytes c) _ _ ?_ ?_
    · unfold Plain.bytes
      rw [if_neg h1, if_pos h2]
      simp only [List.map_cons, List.map_nil, t0, t1]
    · unfold Plain.bytes
      rw [if_neg h1, if_pos h2]
      rfl
  clear t0 t1
  have g1 : ¬ (c : Int) < 128 := by omega
  have g2 : (c : Int) < 2048 := by omega
  clear h1 h2
  go_enter Tryd.func26, Tryd.ntmps26
  go_wp2
  go_ret
  exact ⟨rfl, (Below.refl _ _).alloc (Nat.le_refl _) _⟩

set_option maxRecDepth 100000 in
set_option maxHeartbeats 1000000 in
theorem rput3 (c : Nat) (w : World) (h1 : ¬ c < 128) (h2 : ¬ c < 2048) (h3 : c < 65536) :
    Calls Tryd.prog 26 #[.int .i64 (c : Int)] w fun e w' => e = .returned (.string ⟨(Plain.bytes c).toArray⟩) ∧ Below w.heap.size w w' := by
  have t0 : ((UInt8.ofNat (224 + c / 4096)).toNat : Int) = 224 + (c : Int) / 4096 := by rw [Plain.toNat_of (by omega)]; omega
  have t1 : ((UInt8.ofNat (128 + c / 64 % 64)).toNat : Int) = 128 + (c : Int) / 64 % 64 := by rw [Plain.toNat_of (by omega)]; omega
  have t2 : ((UInt8.ofNat (128 + c % 64)).toNat : Int) = 128 + (c : Int) % 64 := by rw [Plain.toNat_of (by omega)]; omega
  have hcv : (convert 43 9 (.slice (some ⟨w.heap.size, 0, none⟩) 3 3)).run Tryd.prog (w.alloc (.cells #[.int .u8 ((224 + (c : Int) / 4096)), .int .u8 ((128 + (c : Int) / 64 % 64)), .int .u8 ((128 + (c : Int) % 64))] 5)) = .ok (.string ⟨(Plain.bytes c).toArray⟩) (w.alloc (.cells #[.int .u8 ((224 + (c : Int) / 4096)), .int .u8 ((128 + (c : Int) / 64 % 64)), .int .u8 ((128 + (c : Int) % 64))] 5)) := by
    refine conv_new w (Plain.bytes c) _ _ ?_ ?_
    · unfold Plain.bytes
      rw [if_neg h1, if_neg h2, if_pos h3]
      simp only [List.map_cons, List.map_nil, t0, t1, t2]
    · unfold Plain.bytes
      rw [if_neg h1, if_neg h2, if_pos h3]
      rfl
  clear t0 t1 t2
  have g1 : ¬ (c : Int) < 128 := by omega
  have g2 : ¬ (c : Int) < 2048 := by omega
  have g3 : (c : Int) < 65536 := by omega
  clear h1 h2 h3
  go_enter Tryd.func26, Tryd.ntmps26
  go_wp2
  go_ret
  exact ⟨rfl, (Below.refl _ _).alloc (Nat.le_refl _) _⟩

set_option maxRecDepth 100000 in
set_option maxHeartbeats 1000000 in
theorem rput4 (c : Nat) (w : World) (h1 : ¬ c < 128) (h2 : ¬ c < 2048) (h3 : ¬ c < 65536) (h4 : c ≤ 1114111) :
    Calls Tryd.prog 26 #[.int .i64 (c : Int)] w fun e w' => e = .returned (.string ⟨(Plain.bytes c).toArray⟩) ∧ Below w.heap.size w w' := by
  have t0 : ((UInt8.ofNat (240 + c / 262144)).toNat : Int) = 240 + (c : Int) / 262144 := by rw [Plain.toNat_of (by omega)]; omega
  have t1 : ((UInt8.ofNat (128 + c / 4096 % 64)).toNat : Int) = 128 + (c : Int) / 4096 % 64 := by rw [Plain.toNat_of (by omega)]; omega
  have t2 : ((UInt8.ofNat (128 + c / 64 % 64)).toNat : Int) = 128 + (c : Int) / 64 % 64 := by rw [Plain.toNat_of (by omega)]; omega
  have t3 : ((UInt8.ofNat (128 + c % 64)).toNat : Int) = 128 + (c : Int) % 64 := by rw [Plain.toNat_of (by omega)]; omega
  have hcv : (convert 43 9 (.slice (some ⟨w.heap.size, 0, none⟩) 4 4)).run Tryd.prog (w.alloc (.cells #[.int .u8 ((240 + (c : Int) / 262144)), .int .u8 ((128 + (c : Int) / 4096 % 64)), .int .u8 ((128 + (c : Int) / 64 % 64)), .int .u8 ((128 + (c : Int) % 64))] 5)) = .ok (.string ⟨(Plain.bytes c).toArray⟩) (w.alloc (.cells #[.int .u8 ((240 + (c : Int) / 262144)), .int .u8 ((128 + (c : Int) / 4096 % 64)), .int .u8 ((128 + (c : Int) / 64 % 64)), .int .u8 ((128 + (c : Int) % 64))] 5)) := by
    refine conv_new w (Plain.bytes c) _ _ ?_ ?_
    · unfold Plain.bytes
      rw [if_neg h1, if_neg h2, if_neg h3]
      simp only [List.map_cons, List.map_nil, t0, t1, t2, t3]
    · unfold Plain.bytes
      rw [if_neg h1, if_neg h2, if_neg h3]
      rfl
  clear t0 t1 t2 t3
  have g1 : ¬ (c : Int) < 128 := by omega
  have g2 : ¬ (c : Int) < 2048 := by omega
  have g3 : ¬ (c : Int) < 65536 := by omega
  have g4 : (c : Int) ≤ 1114111 := by omega
  clear h1 h2 h3 h4
  go_enter Tryd.func26, Tryd.ntmps26
  go_wp2
  go_ret
  exact ⟨rfl, (Below.refl _ _).alloc (Nat.le_refl _) _⟩

/-- Put of the document's answer, of a character. -/
theorem rput_nat (n : Nat) (w : World) (hn : n ≤ 1114111) :
    Calls Tryd.prog 26 #[.int .i64 (n : Int)] w fun e w' => e = .returned (.string ⟨(Plain.bytes n).toArray⟩) ∧ Below w.heap.size w w' := by
  by_cases h1 : n < 128
  · exact rput1 n w h1
  · by_cases h2 : n < 2048
    · exact rput2 n w h1 h2
    · by_cases h3 : n < 65536
      · exact rput3 n w h1 h2 h3
      · exact rput4 n w h1 h2 h3 hn
theorem rput_any (c : Int) (w : World) (hv : Utf8.valid c = true) :
    Calls Tryd.prog 26 #[.int .i64 c] w fun e w' => e = .returned (.string (Utf8.encode c)) ∧ Below w.heap.size w w' := by
  have hc : ((c.toNat : Nat) : Int) = c := Int.toNat_of_nonneg (Plain.valid_bounds hv).1
  have he : Utf8.encode c = ⟨(Plain.bytes c.toNat).toArray⟩ := by rw [← Plain.encode_bytes c hv]
  have h := rput_nat c.toNat w (Plain.valid_ok hv).le
  rw [hc] at h
  rw [he]
  exact h

/-- The ones at the top of a byte. -/
def ones (x : Nat) : Nat :=
  if x < 128 then 0 else if x < 192 then 1 else if x < 224 then 2 else if x < 240 then 3 else if x < 248 then 4 else if x < 252 then 5 else if x < 254 then 6 else if x < 255 then 7 else 8
def top (j : Nat) : Nat := 256 - 2 ^ (8 - j)
theorem and1F : ∀ n : Fin 256, bits .and .u8 (n.val : Int) 1 = ((n.val % 2 : Nat) : Int) := by decide +kernel
theorem and1 (n : Nat) (h : n < 256) : bits .and .u8 (n : Int) 1 = ((n % 2 : Nat) : Int) := and1F ⟨n, h⟩
theorem ones_of (x j : Nat) (hj : j ≤ 8) (hx : x < 256) (h0 : top j ≤ x) (h1 : j = 8 ∨ x < top (j + 1)) : ones x = j := by
  unfold ones
  rcases (by omega : j = 0 ∨ j = 1 ∨ j = 2 ∨ j = 3 ∨ j = 4 ∨ j = 5 ∨ j = 6 ∨ j = 7 ∨ j = 8) with rfl | rfl | rfl | rfl | rfl | rfl | rfl | rfl | rfl <;>
    simp [top] at h0 h1 <;> repeat' (first | omega | split)

set_option maxHeartbeats 1000000 in
theorem ones_any (x : Nat) (w : World) (hx : x < 256) :
    Calls Tryd.prog 24 #[.int .u8 (x : Int)] w fun e w' => e = .returned (.int .i64 (ones x : Int)) ∧ w' = w := by
  go_enter Tryd.func24, Tryd.ntmps24
  go_wp2
  go_loop [3] (fun v => ∃ j : Nat, j ≤ 8 ∧ v = .int .i64 (j : Int) ∧ Hid (top j ≤ x)) (fun v => (8 - intOf v).toNat)
  case atStart => exact ⟨0, by omega, rfl, Nat.zero_le _⟩
  case round =>
    obtain ⟨j, hj, rfl, hT⟩ := hrel
    rcases (by omega : j = 0 ∨ j = 1 ∨ j = 2 ∨ j = 3 ∨ j = 4 ∨ j = 5 ∨ j = 6 ∨ j = 7 ∨ j = 8) with rfl | rfl | rfl | rfl | rfl | rfl | rfl | rfl | rfl
    · have hA : bits .and .u8 ((x : Int) / 128) 1 = ((x / 128 % 2 : Nat) : Int) := by
        rw [show ((x : Int) / 128) = ((x / 128 : Nat) : Int) from by omega]; exact and1 _ (by omega)
      have hT' : 0 ≤ x := hT.out
      by_cases hb : 128 ≤ x
      · have h1 : ((x / 128 % 2 : Nat) : Int) = 1 := by omega
        rw [h1] at hA
        clear h1
        go_wp2_with fail
        exact ⟨⟨1, by omega, rfl, hb⟩, by simp [intOf]⟩
      · have h1 : ((x / 128 % 2 : Nat) : Int) = 0 := by omega
        rw [h1] at hA
        clear h1
        have ho : Hid (ones x = 0) := ones_of x 0 (by omega) hx hT.out (.inr (by show x < 128; omega))
        go_wp2_with fail
        go_ret
        exact ⟨by rw [ho.out]; rfl, rfl⟩
    · have hA : bits .and .u8 ((x : Int) / 64) 1 = ((x / 64 % 2 : Nat) : Int) := by
        rw [show ((x : Int) / 64) = ((x / 64 : Nat) : Int) from by omega]; exact and1 _ (by omega)
      have hT' : 128 ≤ x := hT.out
      by_cases hb : 192 ≤ x
      · have h1 : ((x / 64 % 2 : Nat) : Int) = 1 := by omega
        rw [h1] at hA
        clear h1
        go_wp2_with fail
        exact ⟨⟨2, by omega, rfl, hb⟩, by simp [intOf]⟩
      · have h1 : ((x / 64 % 2 : Nat) : Int) = 0 := by omega
        rw [h1] at hA
        clear h1
        have ho : Hid (ones x = 1) := ones_of x 1 (by omega) hx hT.out (.inr (by show x < 192; omega))
        go_wp2_with fail
        go_ret
        exact ⟨by rw [ho.out]; rfl, rfl⟩
    · have hA : bits .and .u8 ((x : Int) / 32) 1 = ((x / 32 % 2 : Nat) : Int) := by
        rw [show ((x : Int) / 32) = ((x / 32 : Nat) : Int) from by omega]; exact and1 _ (by omega)
      have hT' : 192 ≤ x := hT.out
      by_cases hb : 224 ≤ x
      · have h1 : ((x / 32 % 2 : Nat) : Int) = 1 := by omega
        rw [h1] at hA
        clear h1
        go_wp2_with fail
        exact ⟨⟨3, by omega, rfl, hb⟩, by simp [intOf]⟩
      · have h1 : ((x / 32 % 2 : Nat) : Int) = 0 := by omega
        rw [h1] at hA
        clear h1
        have ho : Hid (ones x = 2) := ones_of x 2 (by omega) hx hT.out (.inr (by show x < 224; omega))
        go_wp2_with fail
        go_ret
        exact ⟨by rw [ho.out]; rfl, rfl⟩
    · have hA : bits .and .u8 ((x : Int) / 16) 1 = ((x / 16 % 2 : Nat) : Int) := by
        rw [show ((x : Int) / 16) = ((x / 16 : Nat) : Int) from by omega]; exact and1 _ (by omega)
      have hT' : 224 ≤ x := hT.out
      by_cases hb : 240 ≤ x
      · have h1 : ((x / 16 % 2 : Nat) : Int) = 1 := by omega
        rw [h1] at hA
        clear h1
        go_wp2_with fail
        exact ⟨⟨4, by omega, rfl, hb⟩, by simp [intOf]⟩
      · have h1 : ((x / 16 % 2 : Nat) : Int) = 0 := by omega
        rw [h1] at hA
        clear h1
        have ho : Hid (ones x = 3) := ones_of x 3 (by omega) hx hT.out (.inr (by show x < 240; omega))
        go_wp2_with fail
        go_ret
        exact ⟨by rw [ho.out]; rfl, rfl⟩
    · have hA : bits .and .u8 ((x : Int) / 8) 1 = ((x / 8 % 2 : Nat) : Int) := by
        rw [show ((x : Int) / 8) = ((x / 8 : Nat) : Int) from by omega]; exact and1 _ (by omega)
      have hT' : 240 ≤ x := hT.out
      by_cases hb : 248 ≤ x
      · have h1 : ((x / 8 % 2 : Nat) : Int) = 1 := by omega
        rw [h1] at hA
        clear h1
        go_wp2_with fail
        exact ⟨⟨5, by omega, rfl, hb⟩, by simp [intOf]⟩
      · have h1 : ((x / 8 % 2 : Nat) : Int) = 0 := by omega
        rw [h1] at hA
        clear h1
        have ho : Hid (ones x = 4) := ones_of x 4 (by omega) hx hT.out (.inr (by show x < 248; omega))
        go_wp2_with fail
        go_ret
        exact ⟨by rw [ho.out]; rfl, rfl⟩
    · have hA : bits .and .u8 ((x : Int) / 4) 1 = ((x / 4 % 2 : Nat) : Int) := by
        rw [show ((x : Int) / 4) = ((x / 4 : Nat) : Int) from by omega]; exact and1 _ (by omega)
      have hT' : 248 ≤ x := hT.out
      by_cases hb : 252 ≤ x
      · have h1 : ((x / 4 % 2 : Nat) : Int) = 1 := by omega
        rw [h1] at hA
        clear h1
        go_wp2_with fail
        exact ⟨⟨6, by omega, rfl, hb⟩, by simp [intOf]⟩
      · have h1 : ((x / 4 % 2 : Nat) : Int) = 0 := by omega
        rw [h1] at hA
        clear h1
        have ho : Hid (ones x = 5) := ones_of x 5 (by omega) hx hT.out (.inr (by show x < 252; omega))
        go_wp2_with fail
        go_ret
        exact ⟨by rw [ho.out]; rfl, rfl⟩
    · have hA : bits .and .u8 ((x : Int) / 2) 1 = ((x / 2 % 2 : Nat) : Int) := by
        rw [show ((x : Int) / 2) = ((x / 2 : Nat) : Int) from by omega]; exact and1 _ (by omega)
      have hT' : 252 ≤ x := hT.out
      by_cases hb : 254 ≤ x
      · have h1 : ((x / 2 % 2 : Nat) : Int) = 1 := by omega
        rw [h1] at hA
        clear h1
        go_wp2_with fail
        exact ⟨⟨7, by omega, rfl, hb⟩, by simp [intOf]⟩
      · have h1 : ((x / 2 % 2 : Nat) : Int) = 0 := by omega
        rw [h1] at hA
        clear h1
        have ho : Hid (ones x = 6) := ones_of x 6 (by omega) hx hT.out (.inr (by show x < 254; omega))
        go_wp2_with fail
        go_ret
        exact ⟨by rw [ho.out]; rfl, rfl⟩
    · have hA : bits .and .u8 ((x : Int)) 1 = ((x % 2 : Nat) : Int) := by
        rw [show ((x : Int)) = ((x : Nat) : Int) from by omega]; exact and1 _ (by omega)
      have hT' : 254 ≤ x := hT.out
      by_cases hb : 255 ≤ x
      · have h1 : ((x % 2 : Nat) : Int) = 1 := by omega
        rw [h1] at hA
        clear h1
        go_wp2_with fail
        exact ⟨⟨8, by omega, rfl, hb⟩, by simp [intOf]⟩
      · have h1 : ((x % 2 : Nat) : Int) = 0 := by omega
        rw [h1] at hA
        clear h1
        have ho : Hid (ones x = 7) := ones_of x 7 (by omega) hx hT.out (.inr (by show x < 255; omega))
        go_wp2_with fail
        go_ret
        exact ⟨by rw [ho.out]; rfl, rfl⟩
    · have ho : Hid (ones x = 8) := ones_of x 8 (by omega) hx hT.out (.inl rfl)
      go_wp2_with fail
      go_ret
      exact ⟨by rw [ho.out]; rfl, rfl⟩
end Go.Proofs.YtbefcdkjkjeonaaDoor.Utf
