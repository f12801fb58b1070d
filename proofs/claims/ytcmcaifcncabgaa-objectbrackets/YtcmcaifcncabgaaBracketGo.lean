/- The contract of the document's bracket. -/
import Derived.Test.YtcmcaifcncabgaaPairsGo
import Derived.Laws.IdiomStrings
import Derived.BigQuiet
set_option linter.unusedVariables false
set_option linter.unusedSimpArgs false
namespace Go.Proofs.Ytcmcaifcncabgaa.Plain
/-- The bracket of its brk that opens, and the one that closes. -/
def opn (c : Int) : Int := if opens c = true then c else if shuts c = true then brk c else 0
def sht (c : Int) : Int := if opens c = true then brk c else if shuts c = true then c else 0
theorem opn_open {c : Int} (h : opens c = true) : opn c = c ∧ sht c = brk c := by
  unfold opn sht
  rw [if_pos h, if_pos h]
  exact ⟨rfl, rfl⟩
theorem opn_shut {c : Int} (h : shuts c = true) : opn c = brk c ∧ sht c = c := by
  have h2 : opens c = false := by
    rcases sort c with h4 | h4 | h4
    · rw [h4.2.1] at h; cases h
    · exact h4.1
    · exact h4.1
  unfold opn sht
  rw [h2, if_neg (by decide), if_pos h, if_neg (by decide), if_pos h]
  exact ⟨rfl, rfl⟩
theorem opn_other {c : Int} (h1 : opens c = false) (h2 : shuts c = false) : opn c = 0 ∧ sht c = 0 := by
  unfold opn sht
  rw [h1, h2]
  exact ⟨rfl, rfl⟩
end Go.Proofs.Ytcmcaifcncabgaa.Plain
namespace Go.Proofs.Ytcmcaifcncabgaa.Seek
open Go.RowKit Plain

def BracketPost (c : Int) (w : World) (e : Ending) (w' : World) : Prop := e = .returned (.tuple #[.int .i64 (opn c), .int .i64 (sht c)]) ∧ Below w.heap.size w w'

set_option maxHeartbeats 4000000 in
theorem bracket_40 (w : World) : Calls Try.prog 21 #[.int .i64 40] w fun e w' => BracketPost 40 w e w' := by
  have f1 : ((⟨#[40, 41]⟩ : ByteArray)[0]'(by decide)).toNat = 40 := rfl
  have f2 : ((⟨#[40, 41]⟩ : ByteArray)[1]'(by decide)).toNat = 41 := rfl
  have f3 : ((⟨#[91, 93]⟩ : ByteArray)[0]'(by decide)).toNat = 91 := rfl
  have f4 : ((⟨#[91, 93]⟩ : ByteArray)[1]'(by decide)).toNat = 93 := rfl
  have f5 : ((⟨#[123, 125]⟩ : ByteArray)[0]'(by decide)).toNat = 123 := rfl
  have f6 : ((⟨#[123, 125]⟩ : ByteArray)[1]'(by decide)).toNat = 125 := rfl
  go_enter Try.func21, Try.ntmps21
  go_wp2_with fail
  refine wp_loop_rounds 1 ?_
  rw [rounds_succ]
  go_wp2_with fail
  go_region
  go_wp2_with fail
  go_ret2
  exact ⟨rfl, below_drewN ((Below.refl _ _).alloc (Nat.le_refl _) _) 1⟩
set_option maxHeartbeats 4000000 in
theorem bracket_41 (w : World) : Calls Try.prog 21 #[.int .i64 41] w fun e w' => BracketPost 41 w e w' := by
  have f1 : ((⟨#[40, 41]⟩ : ByteArray)[0]'(by decide)).toNat = 40 := rfl
  have f2 : ((⟨#[40, 41]⟩ : ByteArray)[1]'(by decide)).toNat = 41 := rfl
  have f3 : ((⟨#[91, 93]⟩ : ByteArray)[0]'(by decide)).toNat = 91 := rfl
  have f4 : ((⟨#[91, 93]⟩ : ByteArray)[1]'(by decide)).toNat = 93 := rfl
  have f5 : ((⟨#[123, 125]⟩ : ByteArray)[0]'(by decide)).toNat = 123 := rfl
  have f6 : ((⟨#[123, 125]⟩ : ByteArray)[1]'(by decide)).toNat = 125 := rfl
  go_enter Try.func21, Try.ntmps21
  go_wp2_with fail
  refine wp_loop_rounds 1 ?_
  rw [rounds_succ]
  go_wp2_with fail
  go_region
  go_wp2_with fail
  go_ret2
  exact ⟨rfl, below_drewN ((Below.refl _ _).alloc (Nat.le_refl _) _) 1⟩
set_option maxHeartbeats 4000000 in
theorem bracket_91 (w : World) : Calls Try.prog 21 #[.int .i64 91] w fun e w' => BracketPost 91 w e w' := by
  have f1 : ((⟨#[40, 41]⟩ : ByteArray)[0]'(by decide)).toNat = 40 := rfl
  have f2 : ((⟨#[40, 41]⟩ : ByteArray)[1]'(by decide)).toNat = 41 := rfl
  have f3 : ((⟨#[91, 93]⟩ : ByteArray)[0]'(by decide)).toNat = 91 := rfl
  have f4 : ((⟨#[91, 93]⟩ : ByteArray)[1]'(by decide)).toNat = 93 := rfl
  have f5 : ((⟨#[123, 125]⟩ : ByteArray)[0]'(by decide)).toNat = 123 := rfl
  have f6 : ((⟨#[123, 125]⟩ : ByteArray)[1]'(by decide)).toNat = 125 := rfl
  go_enter Try.func21, Try.ntmps21
  go_wp2_with fail
  refine wp_loop_rounds 2 ?_
  rw [rounds_succ]
  go_wp2_with fail
  rw [rounds_succ]
  go_wp2_with fail
  go_region
  go_wp2_with fail
  go_ret2
  exact ⟨rfl, below_drewN ((Below.refl _ _).alloc (Nat.le_refl _) _) 1⟩
set_option maxHeartbeats 4000000 in
theorem bracket_93 (w : World) : Calls Try.prog 21 #[.int .i64 93] w fun e w' => BracketPost 93 w e w' := by
  have f1 : ((⟨#[40, 41]⟩ : ByteArray)[0]'(by decide)).toNat = 40 := rfl
  have f2 : ((⟨#[40, 41]⟩ : ByteArray)[1]'(by decide)).toNat = 41 := rfl
  have f3 : ((⟨#[91, 93]⟩ : ByteArray)[0]'(by decide)).toNat = 91 := rfl
  have f4 : ((⟨#[91, 93]⟩ : ByteArray)[1]'(by decide)).toNat = 93 := rfl
  have f5 : ((⟨#[123, 125]⟩ : ByteArray)[0]'(by decide)).toNat = 123 := rfl
  have f6 : ((⟨#[123, 125]⟩ : ByteArray)[1]'(by decide)).toNat = 125 := rfl
  go_enter Try.func21, Try.ntmps21
  go_wp2_with fail
  refine wp_loop_rounds 2 ?_
  rw [rounds_succ]
  go_wp2_with fail
  rw [rounds_succ]
  go_wp2_with fail
  go_region
  go_wp2_with fail
  go_ret2
  exact ⟨rfl, below_drewN ((Below.refl _ _).alloc (Nat.le_refl _) _) 1⟩
set_option maxHeartbeats 4000000 in
theorem bracket_123 (w : World) : Calls Try.prog 21 #[.int .i64 123] w fun e w' => BracketPost 123 w e w' := by
  have f1 : ((⟨#[40, 41]⟩ : ByteArray)[0]'(by decide)).toNat = 40 := rfl
  have f2 : ((⟨#[40, 41]⟩ : ByteArray)[1]'(by decide)).toNat = 41 := rfl
  have f3 : ((⟨#[91, 93]⟩ : ByteArray)[0]'(by decide)).toNat = 91 := rfl
  have f4 : ((⟨#[91, 93]⟩ : ByteArray)[1]'(by decide)).toNat = 93 := rfl
  have f5 : ((⟨#[123, 125]⟩ : ByteArray)[0]'(by decide)).toNat = 123 := rfl
  have f6 : ((⟨#[123, 125]⟩ : ByteArray)[1]'(by decide)).toNat = 125 := rfl
  go_enter Try.func21, Try.ntmps21
  go_wp2_with fail
  refine wp_loop_rounds 3 ?_
  rw [rounds_succ]
  go_wp2_with fail
  rw [rounds_succ]
  go_wp2_with fail
  rw [rounds_succ]
  go_wp2_with fail
  go_region
  go_wp2_with fail
  go_ret2
  exact ⟨rfl, below_drewN ((Below.refl _ _).alloc (Nat.le_refl _) _) 1⟩
set_option maxHeartbeats 4000000 in
theorem bracket_125 (w : World) : Calls Try.prog 21 #[.int .i64 125] w fun e w' => BracketPost 125 w e w' := by
  have f1 : ((⟨#[40, 41]⟩ : ByteArray)[0]'(by decide)).toNat = 40 := rfl
  have f2 : ((⟨#[40, 41]⟩ : ByteArray)[1]'(by decide)).toNat = 41 := rfl
  have f3 : ((⟨#[91, 93]⟩ : ByteArray)[0]'(by decide)).toNat = 91 := rfl
  have f4 : ((⟨#[91, 93]⟩ : ByteArray)[1]'(by decide)).toNat = 93 := rfl
  have f5 : ((⟨#[123, 125]⟩ : ByteArray)[0]'(by decide)).toNat = 123 := rfl
  have f6 : ((⟨#[123, 125]⟩ : ByteArray)[1]'(by decide)).toNat = 125 := rfl
  go_enter Try.func21, Try.ntmps21
  go_wp2_with fail
  refine wp_loop_rounds 3 ?_
  rw [rounds_succ]
  go_wp2_with fail
  rw [rounds_succ]
  go_wp2_with fail
  rw [rounds_succ]
  go_wp2_with fail
  go_region
  go_wp2_with fail
  go_ret2
  exact ⟨rfl, below_drewN ((Below.refl _ _).alloc (Nat.le_refl _) _) 1⟩
set_option maxHeartbeats 4000000 in
theorem bracket_other (c : Int) (w : World) (h1 : opens c = false) (h2 : shuts c = false) : Calls Try.prog 21 #[.int .i64 c] w fun e w' => BracketPost c w e w' := by
  have H : Hid (opn c = 0 ∧ sht c = 0) := opn_other h1 h2
  unfold opens at h1
  unfold shuts at h2
  simp only [Bool.or_eq_false_iff] at h1 h2
  obtain ⟨⟨g1, g2⟩, g3⟩ := h1
  obtain ⟨⟨g4, g5⟩, g6⟩ := h2
  have f1 : ((⟨#[40, 41]⟩ : ByteArray)[0]'(by decide)).toNat = 40 := rfl
  have f2 : ((⟨#[40, 41]⟩ : ByteArray)[1]'(by decide)).toNat = 41 := rfl
  have f3 : ((⟨#[91, 93]⟩ : ByteArray)[0]'(by decide)).toNat = 91 := rfl
  have f4 : ((⟨#[91, 93]⟩ : ByteArray)[1]'(by decide)).toNat = 93 := rfl
  have f5 : ((⟨#[123, 125]⟩ : ByteArray)[0]'(by decide)).toNat = 123 := rfl
  have f6 : ((⟨#[123, 125]⟩ : ByteArray)[1]'(by decide)).toNat = 125 := rfl
  go_enter Try.func21, Try.ntmps21
  go_wp2_with fail
  refine wp_loop_rounds 4 ?_
  rw [rounds_succ]
  go_wp2_with fail
  rw [rounds_succ]
  go_wp2_with fail
  rw [rounds_succ]
  go_wp2_with fail
  rw [rounds_succ]
  go_wp2_with fail
  go_ret2
  refine ⟨?_, (Below.refl _ _).alloc (Nat.le_refl _) _⟩
  rw [H.out.1, H.out.2]
  rfl
theorem bracket_go (c : Int) (w : World) : Calls Try.prog 21 #[.int .i64 c] w fun e w' => BracketPost c w e w' := by
  by_cases h1 : opens c = true
  · rcases opens_cases h1 with rfl | rfl | rfl
    · exact bracket_40 w
    · exact bracket_91 w
    · exact bracket_123 w
  · by_cases h2 : shuts c = true
    · rcases shuts_cases h2 with rfl | rfl | rfl
      · exact bracket_41 w
      · exact bracket_93 w
      · exact bracket_125 w
    · exact bracket_other c w (by simpa using h1) (by simpa using h2)
end Go.Proofs.Ytcmcaifcncabgaa.Seek
