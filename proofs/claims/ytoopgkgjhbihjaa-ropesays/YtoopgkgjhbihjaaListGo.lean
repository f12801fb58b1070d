/- The contracts of List's closure, of rope.each with it, and of List. -/
import Derived.Test.YtoopgkgjhbihjaaLenGo
import Derived.Test.YtoopgkgjhbihjaaConcatAny
set_option linter.unusedVariables false
set_option linter.unusedSimpArgs false
namespace Go.Proofs.Ytoopgkgjhbihjaa.Seek
open Go.RowKit

/-- The closure's variable, and what it has gathered. -/
def Gathers (w : World) (n₀ bx g cap : Nat) (xs : List Int) : Prop :=
  Boxed w bx 22 (.slice (some ⟨g, 0, none⟩) xs.length cap) ∧ w.ownsRow n₀ 3 1 (.slice (some ⟨g, 0, none⟩) xs.length cap) xs.length (ints xs) ∧ n₀ ≤ bx ∧ n₀ ≤ g ∧ n₀ ≤ w.heap.size

set_option maxHeartbeats 1000000 in
theorem gather (n₀ bx g cap : Nat) (xs : List Int) (k c : Int) (w : World) (h : Gathers w n₀ bx g cap xs) (hroom : xs.length + 1 ≤ cap) :
    Calls Try.prog 27 #[.int .i64 k, .int .i64 c, .pointer (some ⟨bx, 0, none⟩)] w fun e w' => e = .returned (.bool true) ∧ Gathers w' n₀ bx g cap (xs ++ [c]) ∧ Below n₀ w w' := by
  obtain ⟨hb, hown, hbx, hg, hn⟩ := h
  have hc := hb.cell
  have hf := hb.frozen
  have Hb : Hid (Boxed w bx 22 (.slice (some ⟨g, 0, none⟩) xs.length cap)) := hb
  have Hown : Hid (w.ownsRow n₀ 3 1 (.slice (some ⟨g, 0, none⟩) xs.length cap) xs.length (ints xs)) := hown
  clear hb hown
  have Ho : Hid ((w.alloc (.cells #[.int .i64 c] 3)).ownsRow n₀ 3 1 (.slice (some ⟨g, 0, none⟩) xs.length cap) xs.length (ints xs)) := Hown.out.alloc _
  have Hr : Hid (Reads (w.alloc (.cells #[.int .i64 c] 3)) (.slice (some ⟨w.heap.size, 0, none⟩) 1 1) [c]) := reads_new w [c] (by show 1 ≤ maxLen; decide)
  have hroom' : xs.length + [c].length ≤ cap := hroom
  go_enter Try.func27, Try.ntmps27
  go_wp2_with (at_builtin; refine append_reads rfl _ _ rfl n₀ g cap _ xs [c] rfl Ho.out rfl Hr.out hroom' ?_)
  intro w1 ho1 hgr1
  obtain ⟨hv1, hv2, hr2, _, hb2⟩ := Boxed.appended Hb.out (by decide) Hown.out hn hbx ho1 hgr1
  have hc1 := hv1.cell
  have hf1 := hv1.frozen
  have hsz : n₀ ≤ w1.heap.size := Nat.le_trans hn (by have := hb2.size; rw [size_set] at this; exact this)
  have Hfin : Hid (Gathers (w1.setCell ⟨bx, 0, none⟩ (.slice (some ⟨g, 0, none⟩) (xs.length + 1) cap)) n₀ bx g cap (xs ++ [c]) ∧ Below n₀ w (w1.setCell ⟨bx, 0, none⟩ (.slice (some ⟨g, 0, none⟩) (xs.length + 1) cap))) := by
    refine ⟨⟨?_, ?_, hbx, hg, by rw [size_set]; exact hsz⟩, hb2⟩
    · rw [List.length_append]
      exact hv2
    · rw [List.length_append]
      exact hr2
  clear hv1 hv2 hr2 hb2 ho1 hgr1 Ho Hr Hb Hown hc hf
  go_wp2_with fail
  go_ret
  exact ⟨rfl, Hfin.out⟩

/-- List's function. -/
abbrev gatherer (bx : Nat) : Value := .func (.func 27) #[] #[.pointer (some ⟨bx, 0, none⟩)]

theorem each_nil (k : Int) (f : Value) (w : World) : Calls Try.prog 26 #[.pointer none, .int .i64 k, f] w fun e w' => e = .returned (.bool true) ∧ w' = w := by
  go_enter Try.func26, Try.ntmps26
  go_wp2_with fail
  go_ret
  exact ⟨rfl, rfl⟩

theorem each_step (n₀ bx g cap b : Nat) (pl pr : Option Addr) (k M : Nat) (x : Int) (xs zl zr : List Int) (w : World) (hb : b < n₀) (c0 : w.cell? ⟨b, 0, none⟩ = some (.pointer pl)) (c1 : w.cell? ⟨b, 1, none⟩ = some (.pointer pr)) (c2 : w.cell? ⟨b, 2, none⟩ = some (.int .i64 x))
    (hk : k ≤ 4096) (hM : M ≤ 4096) (hroom : (xs ++ zl).length + 1 ≤ cap)
    (hsz : Calls Try.prog 25 #[.pointer pl] w fun e w' => e = .returned (.int .i64 (M : Int)) ∧ w' = w)
    (hl : Calls Try.prog 26 #[.pointer pl, .int .i64 (k : Int), gatherer bx] w fun e w' => e = .returned (.bool true) ∧ Gathers w' n₀ bx g cap (xs ++ zl) ∧ Below n₀ w w')
    (hr : ∀ w1, Below n₀ w w1 → Gathers w1 n₀ bx g cap (xs ++ zl ++ [x]) → Calls Try.prog 26 #[.pointer pr, .int .i64 ((k : Int) + (M : Int) + 1), gatherer bx] w1 fun e w' => e = .returned (.bool true) ∧ Gathers w' n₀ bx g cap (xs ++ zl ++ [x] ++ zr) ∧ Below n₀ w1 w') :
    Calls Try.prog 26 #[.pointer (some ⟨b, 0, none⟩), .int .i64 (k : Int), gatherer bx] w fun e w' => e = .returned (.bool true) ∧ Gathers w' n₀ bx g cap (xs ++ zl ++ [x] ++ zr) ∧ Below n₀ w w' := by
  have Hsz : Hid _ := hsz
  have Hl : Hid _ := hl
  have Hr : Hid _ := hr
  clear hsz hl hr
  go_enter Try.func26, Try.ntmps26
  go_wp2_with fail
  refine Calls.mono Hsz.out ?_
  rintro e w' ⟨rfl, rfl⟩
  go_wp2_with fail
  refine Calls.mono Hl.out ?_
  rintro e w1 ⟨rfl, hg1, hb1⟩
  have d2 : w1.cell? ⟨b, 2, none⟩ = some (.int .i64 x) := (hb1.cell (by exact hb)).trans c2
  have d1 : w1.cell? ⟨b, 1, none⟩ = some (.pointer pr) := (hb1.cell (by exact hb)).trans c1
  have Hg1 : Hid _ := hg1
  clear hg1
  go_wp2_with fail
  refine Calls.mono (gather n₀ bx g cap _ _ _ w1 Hg1.out hroom) ?_
  rintro e w2 ⟨rfl, hg2, hb2⟩
  have f1 : w2.cell? ⟨b, 1, none⟩ = some (.pointer pr) := (hb2.cell (by exact hb)).trans d1
  have Hg2 : Hid _ := hg2
  have hB2 := hb1.trans hb2
  clear hg2 Hg1 d1 d2
  go_wp2_with fail
  refine Calls.mono (Hr.out w2 hB2 Hg2.out) ?_
  rintro e w3 ⟨rfl, hg3, hb3⟩
  have hB3 := hB2.trans hb3
  have Hg3 : Hid _ := hg3
  clear hg3 f1 Hg2 hb3 hb2 hb1 hB2
  go_wp2_with fail
  go_ret
  exact ⟨rfl, Hg3.out, hB3⟩
end Go.Proofs.Ytoopgkgjhbihjaa.Seek
