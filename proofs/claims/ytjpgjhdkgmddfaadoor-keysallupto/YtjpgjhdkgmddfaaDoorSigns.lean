/- The contracts of keys.isCount, keys.isLetter, keys.among and of the document's isLetter and in. -/
import Derived.Test.YtjpgjhdkgmddfaaDoorCmds
import Derived.Test.YtjpgjhdkgmddfaaDoorOf
import Derived.Laws.RangeString
set_option linter.unusedVariables false
set_option linter.unusedSimpArgs false
namespace Go.Proofs.YtjpgjhdkgmddfaaDoor.Seek
open Go.RowKit Plain

theorem has_take {l : List Int} {k : Int} {j : Nat} (h : ∀ i, i < j → l.getD i 0 ≠ k) (hj : l.length ≤ j) : has l k = false := by
  unfold has
  rw [List.any_eq_false]
  intro x hx
  obtain ⟨i, hi, rfl⟩ := List.mem_iff_getElem.1 hx
  have := h i (by omega)
  rw [List.getD_eq_getElem?_getD, List.getElem?_eq_getElem hi] at this
  simpa using this
theorem has_at {l : List Int} {k : Int} {j : Nat} (hj : j < l.length) (h : l.getD j 0 = k) : has l k = true := by
  unfold has
  rw [List.any_eq_true]
  refine ⟨l[j], List.getElem_mem hj, ?_⟩
  rw [List.getD_eq_getElem?_getD, List.getElem?_eq_getElem hj] at h
  simpa using h
theorem codes_at (s : ByteArray) (p : Nat) (h : p < s.size) : (codes s).getD p 0 = ((s[p]'h).toNat : Int) := by
  unfold codes
  rw [List.getD_eq_getElem?_getD, List.getElem?_map]
  have hl : p < s.data.toList.length := by rw [Array.length_toList]; exact h
  rw [List.getElem?_eq_getElem hl]
  simp
  rfl

set_option maxHeartbeats 1000000 in
theorem isCount_go (n : Int) (w : World) : Calls Tryd.prog 16 #[.int .i64 n] w fun e w' => e = .returned (.bool (count n)) ∧ w' = w := by
  obtain ⟨b, hb⟩ : ∃ b, b = count n := ⟨_, rfl⟩
  have HB : Hid (b = decide (0 ≤ n ∧ n ≤ 999)) := hb
  rw [← hb]
  clear hb
  go_enter Tryd.func16, Tryd.ntmps16
  go_wp2_with fail
  all_goals (
    go_ret
    refine ⟨congrArg (fun x => Ending.returned (Value.bool x)) (?_ : _ = b), rfl⟩
    rw [HB.out, Bool.eq_iff_iff]
    simp only [decide_eq_true_eq, Bool.or_eq_true, Bool.false_eq_true, eq_self_iff_true, true_iff, false_iff]
    omega)
set_option maxHeartbeats 1000000 in
theorem isLetter_go (n : Int) (w : World) : Calls Tryd.prog 42 #[.int .i64 n] w fun e w' => e = .returned (.bool (letter n)) ∧ w' = w := by
  obtain ⟨b, hb⟩ : ∃ b, b = letter n := ⟨_, rfl⟩
  have HB : Hid (b = decide (97 ≤ n ∧ n ≤ 122 ∨ 65 ≤ n ∧ n ≤ 90)) := hb
  rw [← hb]
  clear hb
  go_enter Tryd.func42, Tryd.ntmps42
  go_wp2_with fail
  all_goals (
    go_ret
    refine ⟨congrArg (fun x => Ending.returned (Value.bool x)) (?_ : _ = b), rfl⟩
    rw [HB.out, Bool.eq_iff_iff]
    simp only [decide_eq_true_eq, Bool.or_eq_true, Bool.false_eq_true, eq_self_iff_true, true_iff, false_iff]
    omega)
set_option maxHeartbeats 1000000 in
theorem refLetter_go (n : Int) (w : World) : Calls Tryd.prog 36 #[.int .i64 n] w fun e w' => e = .returned (.bool (letter n)) ∧ w' = w := by
  obtain ⟨b, hb⟩ : ∃ b, b = letter n := ⟨_, rfl⟩
  have HB : Hid (b = decide (97 ≤ n ∧ n ≤ 122 ∨ 65 ≤ n ∧ n ≤ 90)) := hb
  rw [← hb]
  clear hb
  go_enter Tryd.func36, Tryd.ntmps36
  go_wp2_with fail
  all_goals (
    go_ret
    refine ⟨congrArg (fun x => Ending.returned (Value.bool x)) (?_ : _ = b), rfl⟩
    rw [HB.out, Bool.eq_iff_iff]
    simp only [decide_eq_true_eq, Bool.or_eq_true, Bool.false_eq_true, eq_self_iff_true, true_iff, false_iff]
    omega)

/-- A sign of a text. -/
def Ascii (s : ByteArray) : Prop := ∀ p (h : p < s.size), (s[p]'h).toNat < 128
theorem ascii_of {s : ByteArray} (h : s.data.toList.all (fun b => b.toNat < 128) = true) : Ascii s := by
  intro p hp
  have h2 := List.all_eq_true.1 h (s[p]'hp) (by
    have hl : p < s.data.toList.length := by rw [Array.length_toList]; exact hp
    have : s.data.toList[p] = s[p]'hp := by simp; rfl
    rw [← this]
    exact List.getElem_mem hl)
  exact of_decide_eq_true h2

set_option maxHeartbeats 2000000 in
theorem among_go (s : ByteArray) (k : Int) (b : Bool) (w : World) (hs : Ascii s) (hz : s.size ≤ 4096) (hb : has (codes s) k = b) :
    Calls Tryd.prog 26 #[.string s, .int .i64 k] w fun e w' => e = .returned (.bool b) ∧ Below w.heap.size w w' := by
  have Hs : Hid (Ascii s) := hs
  have Hb : Hid (has (codes s) k = b) := hb
  have HBW : Hid (∀ p, Below w.heap.size w (w.iter s p)) := fun p => (Below.refl _ _).alloc (Nat.le_refl _) _
  clear hs hb
  go_enter Tryd.func26, Tryd.ntmps26
  go_wp2_with fail
  go_loopw [6] (fun _ wr => ∃ p : Nat, wr = w.iter s p ∧ p ≤ s.size ∧ Hid (∀ j, j < p → (codes s).getD j 0 ≠ k)) (fun _ wr => s.size - wr.iterPos w.heap.size)
  case atStart => exact ⟨0, rfl, by omega, fun j hj => by omega⟩
  case round =>
    obtain ⟨p, rfl, hp, Hp⟩ := hrel
    by_cases hlt : p < s.size
    · have hnx0 : ∀ ty, (Instr.next (.pointer (some ⟨w.heap.size, 0, none⟩)) true ty).run Tryd.prog (w.iter s p) = _ := fun ty => run_next_ascii (P := Tryd.prog) w s p ty hlt (Hs.out p hlt)
      obtain ⟨q, hq⟩ : ∃ q : Nat, q = (s[p]'hlt).toNat := ⟨_, rfl⟩
      have hnx : ∀ ty, (Instr.next (.pointer (some ⟨w.heap.size, 0, none⟩)) true ty).run Tryd.prog (w.iter s p) = .ok (.tuple #[.bool true, .int .i64 p, .int .i32 (q : Nat)]) (w.iter s (p + 1)) := fun ty => by rw [hq]; exact hnx0 ty
      have hq128 : (q : Int) < 128 := by have := Hs.out p hlt; omega
      have Hqk : Hid ((codes s).getD p 0 = (q : Int)) := by rw [hq]; exact codes_at s p hlt
      have Hlt : Hid (p < (codes s).length) := by show _ < _; rw [codes_len]; exact hlt
      clear hnx0 hq
      by_cases he : (q : Int) = k
      · have hr : b = true := by rw [← Hb.out]; exact has_at Hlt.out (Hqk.out.trans he)
        subst hr
        have heb : ((q : Int) == k) = true := by simpa using he
        clear he
        go_wp2_with fail
        go_ret
        exact ⟨rfl, HBW.out _⟩
      · have heb : ((q : Int) == k) = false := by simpa using he
        have Hp2 : Hid (∀ j, j < p + 1 → (codes s).getD j 0 ≠ k) := fun j hj => by
          by_cases hjp : j < p
          · exact Hp.out j hjp
          · rw [show j = p by omega, Hqk.out]
            exact he
        clear he
        go_wp2_with fail
        go_roundw
        case rel => exact ⟨p + 1, rfl, by omega, Hp2.out⟩
        case measure => rw [World.iterPos_iter, World.iterPos_iter]; omega
    · have hnx : ∀ ty, (Instr.next (.pointer (some ⟨w.heap.size, 0, none⟩)) true ty).run Tryd.prog (w.iter s p) = .ok (.tuple #[.bool false]) (w.iter s p) := fun ty => run_next_end (P := Tryd.prog) w s p ty hlt
      have hr : b = false := by rw [← Hb.out]; exact has_take Hp.out (by rw [codes_len]; omega)
      subst hr
      clear Hb
      go_wp2_with fail
      go_ret
      exact ⟨rfl, HBW.out _⟩

set_option maxHeartbeats 2000000 in
theorem in_go (s : ByteArray) (k : Int) (b : Bool) (w : World) (hz : s.size ≤ 4096) (hb : has (codes s) k = b) :
    Calls Tryd.prog 19 #[.int .i64 k, .string s] w fun e w' => e = .returned (.bool b) ∧ Below w.heap.size w w' := by
  have Hb : Hid (has (codes s) k = b) := hb
  obtain ⟨cap, w1, hconv, hb1, hlt1, hcells⟩ := conv_bytes s w
  have Hc : Hid (∀ j (h : j < s.size), w1.cell? ⟨w.heap.size, j, none⟩ = some (.int .u8 ((s[j]'h).toNat : Int))) := hcells
  have HB1 : Hid (Below w.heap.size w w1) := hb1
  clear hcells hb hb1
  go_enter Tryd.func19, Tryd.ntmps19
  go_wp2_with fail
  go_loop [10] (fun u10 => ∃ p : Nat, u10 = .int .i64 (p : Int) ∧ p ≤ s.size ∧ Hid (∀ j, j < p → (codes s).getD j 0 ≠ k)) (fun u10 => s.size - (intOf u10).toNat)
  case atStart => exact ⟨0, rfl, by omega, fun j hj => by omega⟩
  case round =>
    obtain ⟨p, rfl, hp, Hp⟩ := hrel
    by_cases hlt : p < s.size
    · have hcx := Hc.out p hlt
      have hI : (p : Int) < (s.size : Int) := by omega
      have hx : (s[p]'hlt).toNat ≤ 255 := by have := (s[p]'hlt).toNat_lt; omega
      have Hqk : Hid ((codes s).getD p 0 = ((s[p]'hlt).toNat : Int)) := codes_at s p hlt
      have Hlt : Hid (p < (codes s).length) := by show _ < _; rw [codes_len]; exact hlt
      generalize (s[p]'hlt).toNat = q at hcx hx Hqk
      by_cases he : (q : Int) = k
      · have hr : b = true := by rw [← Hb.out]; exact has_at Hlt.out (Hqk.out.trans he)
        subst hr
        have heb : ((q : Int) == k) = true := by simpa using he
        clear he
        go_wp2_with fail
        go_ret
        exact ⟨rfl, HB1.out⟩
      · have heb : ((q : Int) == k) = false := by simpa using he
        have Hp2 : Hid (∀ j, j < p + 1 → (codes s).getD j 0 ≠ k) := fun j hj => by
          by_cases hjp : j < p
          · exact Hp.out j hjp
          · rw [show j = p by omega, Hqk.out]
            exact he
        clear he
        go_wp2_with fail
        go_round
        case rel => exact ⟨p + 1, by go_num, by omega, Hp2.out⟩
        case measure => simp [intOf]; omega
    · have hr : b = false := by rw [← Hb.out]; exact has_take Hp.out (by rw [codes_len]; omega)
      obtain rfl : p = s.size := by omega
      subst hr
      clear Hb
      go_wp2_with fail
      go_ret
      exact ⟨rfl, HB1.out⟩
end Go.Proofs.YtjpgjhdkgmddfaaDoor.Seek
