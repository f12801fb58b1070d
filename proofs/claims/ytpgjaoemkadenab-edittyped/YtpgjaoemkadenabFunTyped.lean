/- EditTyped's function literal, and the library's IndexFunc and ContainsFunc with it. -/
import Derived.Test.YtpgjaoemkadenabTypedMath
set_option linter.unusedVariables false
set_option linter.unusedSimpArgs false
set_option maxRecDepth 100000
namespace Go.Proofs.Ytpgjaoemkadenab.Seek
open Go.RowKit Plain

theorem fun_typed (c : Int) (w : World) : Calls Try.prog 9 #[.int .i64 c] w fun e w' => e = .returned (.bool (!plainKey c)) ∧ w' = w := by
  by_cases h1 : c < 32
  · rw [show plainKey c = false by unfold plainKey; rw [decide_eq_true h1]; rfl]
    go_enter Try.func9, Try.ntmps9
    go_wp2_with fail
    go_ret
    exact ⟨by first | rfl | simp, rfl⟩
  · by_cases h2 : c = 127
    · subst h2
      rw [show plainKey 127 = false from rfl]
      go_enter Try.func9, Try.ntmps9
      go_wp2_with fail
      go_ret
      exact ⟨by first | rfl | simp, rfl⟩
    · rw [show plainKey c = true by unfold plainKey; rw [decide_eq_false h1, decide_eq_false h2]; rfl]
      have hb : (c == 127) = false := by simpa using h2
      go_enter Try.func9, Try.ntmps9
      go_wp2_with fail
      all_goals first
        | (exfalso; omega)
        | (go_ret; exact ⟨by first | rfl | simp [hb], rfl⟩)

/-- Whether one of some numbers is none that stands for itself. -/
def odd (ks : List Int) : Bool := ks.any fun c => !plainKey c
set_option maxHeartbeats 1000000 in
theorem index_typed (v : Value) (ks : List Int) (w : World) (h : Reads w v ks) (hm : Mild ks) :
    Calls Try.prog 20 #[v, .func (.func 9) #[] #[]] w fun e w' => (∃ r : Int, e = .returned (.int .i64 r) ∧ decide (0 ≤ r) = odd ks) ∧ w' = w := by
  obtain ⟨a, cap, rfl⟩ := h.shape
  have HV : Hid (Reads w (.slice a ks.length cap) ks) := h
  unfold Mild at hm
  clear h
  go_enter Try.func20, Try.ntmps20
  go_wp2_with fail
  go_loop [8] (fun u8 => ∃ m : Nat, u8 = .int .i64 (m : Int) ∧ m ≤ ks.length ∧ Hid (odd (ks.take m) = false)) (fun u8 => ks.length - (intOf u8).toNat)
  case atStart => exact ⟨0, rfl, Nat.zero_le _, rfl⟩
  case round =>
    obtain ⟨m, rfl, hml, Ho⟩ := hrel
    by_cases hlt : m < ks.length
    · have hI : (m : Int) < (ks.length : Int) := by omega
      obtain ⟨bk, ok, hak, hck⟩ : ∃ b o, a = some ⟨b, o, none⟩ ∧ w.cell? ⟨b, o + m, none⟩ = some (.int .i64 (ks.getD m 0)) := by
        rcases HV.out with ⟨_, _, _, hnil⟩ | ⟨b, o, c, hv, _, _, _, hc⟩
        · rw [hnil] at hlt; cases hlt
        · simp only [Value.slice.injEq] at hv
          exact ⟨b, o, hv.1, hc m hlt⟩
      subst hak
      have HT : Hid (ks.take (m + 1) = ks.take m ++ [ks.getD m 0]) := by
        show _ = _
        rw [List.take_add_one, List.getD_eq_getElem?_getD, List.getElem?_eq_getElem hlt]
        rfl
      have HIn : Hid (ks.getD m 0 ∈ ks) := by
        show _ ∈ _
        rw [List.getD_eq_getElem?_getD, List.getElem?_eq_getElem hlt]
        exact List.getElem_mem hlt
      generalize ks.getD m 0 = c at *
      go_wp2_with fail
      refine (fun_typed c w).mono ?_
      rintro e w1 ⟨rfl, hw1⟩
      rw [hw1]
      clear hw1 w1
      cases hp : plainKey c with
      | true =>
        have Ho2 : Hid (odd (ks.take (m + 1)) = false) := by
          show _ = _
          rw [HT.out]
          unfold odd
          rw [List.any_append]
          have := Ho.out
          unfold odd at this
          rw [this]
          simp [hp]
        clear hp HT
        go_wp2_with fail
        go_round
        case rel => exact ⟨m + 1, by go_num, by omega, Ho2.out⟩
        case measure => simp [intOf]; omega
      | false =>
        have Ho2 : Hid (odd ks = true) := by
          show _ = _
          unfold odd
          rw [List.any_eq_true]
          exact ⟨c, HIn.out, by rw [hp]; rfl⟩
        clear hp HT
        go_wp2_with fail
        go_ret
        exact ⟨⟨_, rfl, by rw [Ho2.out]; exact decide_eq_true (Int.natCast_nonneg m)⟩, rfl⟩
    · have hI : ¬ (m : Int) < (ks.length : Int) := by omega
      have HE : Hid (odd ks = false) := by
        have h1 := Ho.out
        rw [List.take_of_length_le (by omega)] at h1
        exact h1
      go_wp2_with fail
      go_ret
      exact ⟨⟨_, rfl, by rw [HE.out]; rfl⟩, rfl⟩
theorem contains_typed (v : Value) (ks : List Int) (w : World) (h : Reads w v ks) (hm : Mild ks) :
    Calls Try.prog 8 #[v, .func (.func 9) #[] #[]] w fun e w' => e = .returned (.bool (odd ks)) ∧ w' = w := by
  obtain ⟨a, cap, rfl⟩ := h.shape
  have H : Hid (Calls Try.prog 20 #[.slice a ks.length cap, .func (.func 9) #[] #[]] w fun e w' => (∃ r : Int, e = .returned (.int .i64 r) ∧ decide (0 ≤ r) = odd ks) ∧ w' = w) := index_typed _ ks w h hm
  clear h
  go_enter Try.func8, Try.ntmps8
  go_wp2_with fail
  refine H.out.mono ?_
  rintro e w1 ⟨⟨r, rfl, hr⟩, hw1⟩
  have HR : Hid (decide (0 ≤ r) = odd ks) := hr
  rw [hw1]
  clear hw1 w1 hr
  go_wp2_with fail
  go_ret
  exact ⟨by rw [← HR.out]; rfl, rfl⟩
end Go.Proofs.Ytpgjaoemkadenab.Seek
