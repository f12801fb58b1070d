/- The contract of WordWays' function literal, where a word begins. -/
import Derived.Test.YtpjpkndinobijaaPlaces
import Derived.Deep.RegionWith
set_option linter.unusedVariables false
set_option linter.unusedSimpArgs false
namespace Go.Proofs.Ytpjpkndinobijaa.Seek
open Go.RowKit Plain

set_option maxHeartbeats 1000000 in
theorem fun_cells (B1 B2 bl o n cap : Nat) (y z : Int) (i : Nat) (b : Bool) (w : World) (h1 : w.cell? ⟨B1, 0, none⟩ = some (.slice (some ⟨bl, o, none⟩) n cap)) (h2 : w.cell? ⟨B2, 0, none⟩ = some (.bool b))
    (hi : i + 1 < n) (hn : n ≤ 4096) (hy : w.cell? ⟨bl, o + (i + 1), none⟩ = some (.int .i64 y)) (hz : w.cell? ⟨bl, o + i, none⟩ = some (.int .i64 z))
    (k1 : (kind y b != 0) = true) (k2 : (kind z b != kind y b) = true) :
    Calls Try.prog 15 #[.int .i64 ((i : Int) + 1), .pointer (some ⟨B1, 0, none⟩), .pointer (some ⟨B2, 0, none⟩)] w fun e w' => e = .returned (.bool true) ∧ ∃ q, w' = w.drewN q := by
  have hI : (i : Int) + 1 < (n : Int) := by omega
  have hI2 : ((i : Int) + 1 == 0) = false := by simp; omega
  have hW1 : IntKind.i64.wrap ((i : Int) + 1 - 1) = (i : Int) := by rw [IntWalk.i64_in _ ⟨by omega, by omega⟩]; omega
  have hT : ((i : Int) + 1).toNat = i + 1 := by omega
  go_enter Try.func15, Try.ntmps15
  go_wp2_with fail
  go_quiet (first
    | (go_at_call_of 9 y; exact Calls.quiet_of_same (kind_go y b _))
    | (go_at_call_of 9 z; exact Calls.quiet_of_same (kind_go z b _)))
  go_wp2_with fail
  go_ret
  exact ⟨rfl, nq, rfl⟩
end Go.Proofs.Ytpjpkndinobijaa.Seek
namespace Go.Proofs.Ytpjpkndinobijaa.Seek
open Go.RowKit Plain
theorem fun_begins (B1 B2 : Nat) (a : Option Addr) (cap : Nat) (zs : List Int) (m : Nat) (b : Bool) (w : World) (hp : Reads w (.slice a zs.length cap) zs) (h1 : w.cell? ⟨B1, 0, none⟩ = some (.slice a zs.length cap))
    (h2 : w.cell? ⟨B2, 0, none⟩ = some (.bool b)) (hl : zs.length ≤ 4096) (hm : 1 ≤ m) (hm2 : m < zs.length) (hb : bgn zs b m = true) :
    Calls Try.prog 15 #[.int .i64 (m : Int), .pointer (some ⟨B1, 0, none⟩), .pointer (some ⟨B2, 0, none⟩)] w fun e w' => e = .returned (.bool true) ∧ ∃ q, w' = w.drewN q := by
  rcases hp with ⟨_, _, _, rfl⟩ | ⟨bl, o, c, he, _, _, _, hc⟩
  · exact absurd hm2 (by simp)
  · simp only [Value.slice.injEq] at he
    obtain ⟨rfl, _, rfl⟩ := he
    obtain ⟨i, rfl⟩ : ∃ i, m = i + 1 := ⟨m - 1, by omega⟩
    unfold bgn at hb
    rw [Nat.add_sub_cancel, knd_in hm2, knd_in (by omega), Bool.and_eq_true] at hb
    have e1 : ((i + 1 : Nat) : Int) = (i : Int) + 1 := by omega
    rw [e1]
    exact fun_cells B1 B2 bl o zs.length cap _ _ i b w h1 h2 hm2 hl (hc (i + 1) hm2) (hc i (by omega)) hb.1 (by rw [bne_comm]; exact hb.2)
end Go.Proofs.Ytpjpkndinobijaa.Seek
