/- ObjectIn's function literal, and the library's IndexFunc and ContainsFunc with it. -/
import Derived.Test.YtcmcaifcncabgaaKind
import Derived.Deep.RegionWith
set_option linter.unusedVariables false
set_option linter.unusedSimpArgs false
namespace Go.Proofs.Ytcmcaifcncabgaa.Seek
open Go.RowKit Plain

set_option maxHeartbeats 1000000 in
theorem fun_in (B1 B2 B3 bl o n cap : Nat) (x z : Int) (j : Nat) (b : Bool) (w : World) (h1 : w.cell? ⟨B1, 0, none⟩ = some (.bool b)) (h2 : w.cell? ⟨B2, 0, none⟩ = some (.slice (some ⟨bl, o, none⟩) n cap))
    (h3 : w.cell? ⟨B3, 0, none⟩ = some (.int .i64 (j : Int))) (hj : j < n) (hn : n ≤ 4096) (hz : w.cell? ⟨bl, o + j, none⟩ = some (.int .i64 z)) (hk : kind x b = kind z b) :
    Calls Try.prog 10 #[.int .i64 x, .pointer (some ⟨B1, 0, none⟩), .pointer (some ⟨B2, 0, none⟩), .pointer (some ⟨B3, 0, none⟩)] w fun e w' => e = .returned (.bool false) ∧ ∃ q, w' = w.drewN q := by
  have hI : (j : Int) < (n : Int) := by omega
  obtain ⟨K, hK⟩ : ∃ K, K = kind z b := ⟨_, rfl⟩
  have HX : Hid (∀ w, Calls Try.prog 11 #[.int .i64 x, .bool b] w fun e w' => e = .returned (.int .i64 K) ∧ w' = w) := fun w => by rw [hK, ← hk]; exact kind_go x b w
  have HZ : Hid (∀ w, Calls Try.prog 11 #[.int .i64 z, .bool b] w fun e w' => e = .returned (.int .i64 K) ∧ w' = w) := fun w => by rw [hK]; exact kind_go z b w
  clear hK hk
  go_enter Try.func10, Try.ntmps10
  go_wp2_with fail
  go_quiet (first
    | (go_at_call_of 11 x; exact Calls.quiet_of_same (HX.out _))
    | (go_at_call_of 11 z; exact Calls.quiet_of_same (HZ.out _)))
  go_wp2_with fail
  go_ret
  exact ⟨by simp, nq, rfl⟩

set_option maxHeartbeats 1000000 in
theorem index_in (b off n cap : Nat) (f : Nat → Int) (p1 p2 p3 : Value) (w : World) (hn : n ≤ 4096) (hc : ∀ j, j < n → w.cell? ⟨b, off + j, none⟩ = some (.int .i64 (f j)))
    (hf : ∀ j, j < n → ∀ q, Calls Try.prog 10 #[.int .i64 (f j), p1, p2, p3] (w.drewN q) fun e w' => e = .returned (.bool false) ∧ ∃ q', w' = w.drewN q') :
    Calls Try.prog 23 #[.slice (some ⟨b, off, none⟩) n cap, .func (.func 10) #[] #[p1, p2, p3]] w fun e w' => e = .returned (.int .i64 (-1)) ∧ ∃ q, w' = w.drewN q := by
  have Hc : Hid (∀ j, j < n → w.cell? ⟨b, off + j, none⟩ = some (.int .i64 (f j))) := hc
  have Hf : Hid (∀ j, j < n → ∀ wx, (∃ q, wx = w.drewN q) → Calls Try.prog 10 #[.int .i64 (f j), p1, p2, p3] wx fun e w' => e = .returned (.bool false) ∧ ∃ q', w' = w.drewN q') := fun j hj wx hq => by
    obtain ⟨q, rfl⟩ := hq
    exact hf j hj q
  clear hc hf
  go_enter Try.func23, Try.ntmps23
  go_wp2_with fail
  go_loopw [8] (fun u8 wr => ∃ m : Nat, u8 = .int .i64 (m : Int) ∧ m ≤ n ∧ Hid (∃ q, wr = w.drewN q)) (fun u8 _ => n - (intOf u8).toNat)
  case atStart => exact ⟨0, rfl, by omega, 0, rfl⟩
  case round =>
    obtain ⟨m, rfl, hm, Hq⟩ := hrel
    by_cases hlt : m < n
    · have hI : (m : Int) < (n : Int) := by omega
      have hcx : wr.cell? ⟨b, off + m, none⟩ = some (.int .i64 (f m)) := by obtain ⟨q, hq⟩ := Hq.out; rw [hq]; exact Hc.out m hlt
      have Hz : Hid (Calls Try.prog 10 #[.int .i64 (f m), p1, p2, p3] wr fun e w' => e = .returned (.bool false) ∧ ∃ q', w' = w.drewN q') := Hf.out m hlt wr Hq.out
      generalize f m = z at *
      go_wp2_with fail
      refine Hz.out.mono ?_
      rintro e w1 ⟨rfl, hw1⟩
      have Hq1 : Hid (∃ q, w1 = w.drewN q) := hw1
      clear hw1
      go_wp2_with fail
      go_roundw
      case rel => exact ⟨m + 1, by go_num, by omega, Hq1.out⟩
      case measure => simp [intOf]; omega
    · have hI : (n : Int) ≤ (m : Int) := by omega
      go_wp2_with fail
      all_goals (
        go_ret
        exact ⟨rfl, Hq.out⟩)

theorem contains_in (b off n cap : Nat) (f : Nat → Int) (p1 p2 p3 : Value) (w : World) (hn : n ≤ 4096) (hc : ∀ j, j < n → w.cell? ⟨b, off + j, none⟩ = some (.int .i64 (f j)))
    (hf : ∀ j, j < n → ∀ q, Calls Try.prog 10 #[.int .i64 (f j), p1, p2, p3] (w.drewN q) fun e w' => e = .returned (.bool false) ∧ ∃ q', w' = w.drewN q') :
    Calls Try.prog 9 #[.slice (some ⟨b, off, none⟩) n cap, .func (.func 10) #[] #[p1, p2, p3]] w fun e w' => e = .returned (.bool false) ∧ ∃ q, w' = w.drewN q := by
  have H : Hid (Calls Try.prog 23 #[.slice (some ⟨b, off, none⟩) n cap, .func (.func 10) #[] #[p1, p2, p3]] w fun e w' => e = .returned (.int .i64 (-1)) ∧ ∃ q, w' = w.drewN q) := index_in b off n cap f p1 p2 p3 w hn hc hf
  clear hc hf
  go_enter Try.func9, Try.ntmps9
  go_wp2_with fail
  refine H.out.mono ?_
  rintro e w1 ⟨rfl, hw1⟩
  have Hq : Hid (∃ q, w1 = w.drewN q) := hw1
  clear hw1
  go_wp2_with fail
  go_ret
  exact ⟨rfl, Hq.out⟩
end Go.Proofs.Ytcmcaifcncabgaa.Seek
