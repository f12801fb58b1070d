/- The contracts of the document's times and of its function literals. -/
import Derived.Test.YtobcohgfpbmahaaMoves
import Derived.Test.YtobcohgfpbmahaaRefGo
set_option linter.unusedVariables false
set_option linter.unusedSimpArgs false
namespace Go.Proofs.Ytobcohgfpbmahaa.Seek
open Go.RowKit Plain

set_option maxHeartbeats 1000000 in
theorem times_go (g : Nat) (f : Int → Int) (P : Int → Prop) (B1 B2 : Nat) (k : Int) (n : Nat) (w : World) (hg : g = 21 ∨ g = 23 ∨ g = 25) (hn : n ≤ 999) (hP : P k) (hPf : ∀ x, P x → P (f x))
    (H : ∀ x, P x → Calls Try.prog g #[.int .i64 x, .pointer (some ⟨B1, 0, none⟩), .pointer (some ⟨B2, 0, none⟩)] w fun e w' => e = .returned (.int .i64 (f x)) ∧ w' = w) :
    Calls Try.prog 20 #[.int .i64 (n : Int), .int .i64 k, .func (.func g) #[] #[.pointer (some ⟨B1, 0, none⟩), .pointer (some ⟨B2, 0, none⟩)]] w fun e w' => e = .returned (.int .i64 (iter f n k)) ∧ w' = w := by
  obtain ⟨r, hr⟩ : ∃ r, r = iter f n k := ⟨_, rfl⟩
  have Hr : Hid (r = iter f n k) := hr
  have HH : Hid (∀ x, P x → Calls Try.prog g #[.int .i64 x, .pointer (some ⟨B1, 0, none⟩), .pointer (some ⟨B2, 0, none⟩)] w fun e w' => e = .returned (.int .i64 (f x)) ∧ w' = w) := H
  have HP : Hid (P k) := hP
  have HF : Hid (∀ x, P x → P (f x)) := hPf
  rw [← hr]
  clear hr H hP hPf
  rcases hg with rfl | rfl | rfl
  all_goals (
    go_enter Try.func20, Try.ntmps20
    go_wp2_with fail
    go_loop [1, 8] (fun u1 u8 => ∃ (m : Nat) (x : Int), u1 = .int .i64 x ∧ u8 = .int .i64 (m : Int) ∧ m ≤ n ∧ Hid (x = iter f m k) ∧ Hid (P x)) (fun _ u8 => n - (intOf u8).toNat)
    case atStart => exact ⟨0, k, rfl, rfl, by omega, rfl, HP.out⟩
    case round =>
      obtain ⟨m, x, rfl, rfl, hm, Hx, HPx⟩ := hrel
      by_cases hlt : m < n
      · have hI : (m : Int) < (n : Int) := by omega
        go_wp2_with fail
        refine (HH.out x HPx.out).mono ?_
        rintro e w1 ⟨rfl, hw1⟩
        rw [hw1]
        clear hw1 w1
        go_wp2_with fail
        go_round
        case rel => exact ⟨m + 1, f x, rfl, by go_num, by omega, congrArg f Hx.out, HF.out x HPx.out⟩
        case measure => simp [intOf]; omega
      · have hI : (n : Int) ≤ (m : Int) := by omega
        have hmn : m = n := by omega
        have Hm : Hid (x = r) := Hx.out.trans ((congrArg (fun q => iter f q k) hmn).trans Hr.out.symm)
        clear hmn
        go_wp2_with fail
        all_goals (
          go_ret
          rw [Hm.out]
          exact ⟨rfl, rfl⟩))

theorem fun21_go (B1 B2 : Nat) (a : Option Addr) (cap : Nat) (zs : List Int) (x key : Int) (b : Bool) (w : World) (hp : Reads w (.slice a zs.length cap) zs) (hl : zs.length ≤ 4096) (hx0 : 0 ≤ x) (hx1 : x ≤ (zs.length : Int)) (hb : (key == 66) = b)
    (h1 : w.cell? ⟨B1, 0, none⟩ = some (.slice a zs.length cap)) (h2 : w.cell? ⟨B2, 0, none⟩ = some (.int .i64 key)) :
    Calls Try.prog 21 #[.int .i64 x, .pointer (some ⟨B1, 0, none⟩), .pointer (some ⟨B2, 0, none⟩)] w fun e w' => e = .returned (.int .i64 (back zs x b)) ∧ w' = w := by
  obtain ⟨j, rfl⟩ : ∃ j : Nat, x = (j : Int) := ⟨x.toNat, by omega⟩
  have hj : j ≤ zs.length := by omega
  have hc := chk_right hl hj
  have hv : back zs (j : Int) b = (down (bgn zs b) j : Int) := by unfold back; rw [if_pos hc]; rfl
  have HC : Hid (Calls Try.prog 22 #[.slice a zs.length cap, .int .i64 (j : Int), .bool b] w fun e w' => e = .returned (.int .i64 (back zs (j : Int) b)) ∧ w' = w) := by
    rw [hv]
    exact refback_go _ zs j b w hp hl hj
  generalize back zs (j : Int) b = r at *
  clear hv hc hp
  go_enter Try.func21, Try.ntmps21
  go_wp2_with fail
  refine HC.out.mono ?_
  rintro e w1 ⟨rfl, hw1⟩
  rw [hw1]
  clear hw1 w1
  go_wp2_with fail
  go_ret
  exact ⟨rfl, rfl⟩

theorem fun23_go (B1 B2 : Nat) (a : Option Addr) (cap : Nat) (zs : List Int) (x key : Int) (b : Bool) (w : World) (hp : Reads w (.slice a zs.length cap) zs) (hl : zs.length ≤ 4096) (hx0 : 0 ≤ x) (hx1 : x ≤ (zs.length : Int)) (hb : (key == 87) = b)
    (h1 : w.cell? ⟨B1, 0, none⟩ = some (.slice a zs.length cap)) (h2 : w.cell? ⟨B2, 0, none⟩ = some (.int .i64 key)) :
    Calls Try.prog 23 #[.int .i64 x, .pointer (some ⟨B1, 0, none⟩), .pointer (some ⟨B2, 0, none⟩)] w fun e w' => e = .returned (.int .i64 (next zs x b)) ∧ w' = w := by
  obtain ⟨j, rfl⟩ : ∃ j : Nat, x = (j : Int) := ⟨x.toNat, by omega⟩
  have hj : j ≤ zs.length := by omega
  have hc := chk_right hl hj
  have hv : next zs (j : Int) b = up (bgn zs b) (zs.length : Int) zs.length (j + 1) := by unfold next; rw [if_pos hc]; rfl
  have HC : Hid (Calls Try.prog 24 #[.slice a zs.length cap, .int .i64 (j : Int), .bool b] w fun e w' => e = .returned (.int .i64 (next zs (j : Int) b)) ∧ w' = w) := by
    rw [hv]
    exact refnext_go _ zs j b w hp hl hj
  generalize next zs (j : Int) b = r at *
  clear hv hc hp
  go_enter Try.func23, Try.ntmps23
  go_wp2_with fail
  refine HC.out.mono ?_
  rintro e w1 ⟨rfl, hw1⟩
  rw [hw1]
  clear hw1 w1
  go_wp2_with fail
  go_ret
  exact ⟨rfl, rfl⟩

theorem fun25_go (B1 B2 : Nat) (a : Option Addr) (cap : Nat) (zs : List Int) (x key : Int) (b : Bool) (w : World) (hp : Reads w (.slice a zs.length cap) zs) (hl : zs.length ≤ 4096) (hx0 : 0 ≤ x) (hx1 : x ≤ (zs.length : Int)) (hb : (key == 69) = b)
    (h1 : w.cell? ⟨B1, 0, none⟩ = some (.slice a zs.length cap)) (h2 : w.cell? ⟨B2, 0, none⟩ = some (.int .i64 key)) :
    Calls Try.prog 25 #[.int .i64 x, .pointer (some ⟨B1, 0, none⟩), .pointer (some ⟨B2, 0, none⟩)] w fun e w' => e = .returned (.int .i64 (last zs x b)) ∧ w' = w := by
  obtain ⟨j, rfl⟩ : ∃ j : Nat, x = (j : Int) := ⟨x.toNat, by omega⟩
  have hj : j ≤ zs.length := by omega
  have hc := chk_right hl hj
  have hv : last zs (j : Int) b = up (fin zs b) ((zs.length - 1 : Nat) : Int) zs.length (j + 1) := by unfold last; rw [if_pos hc]; rfl
  have HC : Hid (Calls Try.prog 26 #[.slice a zs.length cap, .int .i64 (j : Int), .bool b] w fun e w' => e = .returned (.int .i64 (last zs (j : Int) b)) ∧ w' = w) := by
    rw [hv]
    exact reflast_go _ zs j b w hp hl hj
  generalize last zs (j : Int) b = r at *
  clear hv hc hp
  go_enter Try.func25, Try.ntmps25
  go_wp2_with fail
  refine HC.out.mono ?_
  rintro e w1 ⟨rfl, hw1⟩
  rw [hw1]
  clear hw1 w1
  go_wp2_with fail
  go_ret
  exact ⟨rfl, rfl⟩

end Go.Proofs.Ytobcohgfpbmahaa.Seek
