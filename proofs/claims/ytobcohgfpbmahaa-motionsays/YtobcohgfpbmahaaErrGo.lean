/- The contract of the document's MoveErr. -/
import Derived.Test.YtobcohgfpbmahaaCheckGo
import Derived.Test.YtobcohgfpbmahaaGoGo
set_option linter.unusedVariables false
set_option linter.unusedSimpArgs false
namespace Go.Proofs.Ytobcohgfpbmahaa.Plain
def keyList : List Int := [104, 108, 48, 94, 36, 124, 119, 87, 98, 66, 101, 69, 37, 102, 70, 116, 84]
theorem isk_at : ∀ j, j < 17 → isk (keyList.getD j 0) = true := by decide
theorem isk_in {c : Int} (h : isk c = true) : ∃ j, j < 17 ∧ keyList.getD j 0 = c := by
  unfold isk at h
  rcases of_decide_eq_true h with rfl | rfl | rfl | rfl | rfl | rfl | rfl | rfl | rfl | rfl | rfl | rfl | rfl | rfl | rfl | rfl | rfl
  · exact ⟨0, by decide, by decide⟩
  · exact ⟨1, by decide, by decide⟩
  · exact ⟨2, by decide, by decide⟩
  · exact ⟨3, by decide, by decide⟩
  · exact ⟨8, by decide, by decide⟩
  · exact ⟨9, by decide, by decide⟩
  · exact ⟨4, by decide, by decide⟩
  · exact ⟨5, by decide, by decide⟩
  · exact ⟨6, by decide, by decide⟩
  · exact ⟨7, by decide, by decide⟩
  · exact ⟨10, by decide, by decide⟩
  · exact ⟨11, by decide, by decide⟩
  · exact ⟨12, by decide, by decide⟩
  · exact ⟨13, by decide, by decide⟩
  · exact ⟨15, by decide, by decide⟩
  · exact ⟨14, by decide, by decide⟩
  · exact ⟨16, by decide, by decide⟩
end Go.Proofs.Ytobcohgfpbmahaa.Plain
namespace Go.Proofs.Ytobcohgfpbmahaa.Seek
open Go.RowKit Plain
def keyText : ByteArray := ⟨#[104, 108, 48, 94, 36, 124, 119, 87, 98, 66, 101, 69, 37, 102, 70, 116, 84]⟩
theorem keyText_at : ∀ j : Fin 17, (keyText[j.1]'(by have := j.2; show j.1 < 17; omega)).toNat < 128 ∧ (((keyText[j.1]'(by have := j.2; show j.1 < 17; omega)).toNat : Nat) : Int) = keyList.getD j.1 0 := by decide +kernel
theorem iter_cell (w : World) (s : ByteArray) (p b i : Nat) (h : b < w.heap.size) : (w.iter s p).cell? ⟨b, i, none⟩ = w.cell? ⟨b, i, none⟩ := World.cell?_of_block (w := w) (Below.heap_alloc w _ b h)

set_option maxHeartbeats 2000000 in
theorem moveErr_loop (a : Option Addr) (n cap : Nat) (k c key arg : Int) (w : World) (hI : (n : Int) ≤ 4096) (hk : (k < 0) = False) (hk2 : k = 0 ∨ (0 < k ∧ k < (n : Int))) (hc0 : 0 ≤ c) (hc9 : c ≤ 999) :
    Calls Try.prog 7 #[.slice a n cap, .int .i64 k, .agg #[.int .i64 key, .int .i64 c, .int .i64 arg]] w fun e w' =>
    e = .returned (.int .i64 (if isk key = true then 0 else 9)) ∧ Below w.heap.size w w' := by
  obtain ⟨r, hr⟩ : ∃ r : Int, r = if isk key = true then 0 else 9 := ⟨_, rfl⟩
  have Hr : Hid (r = if isk key = true then 0 else 9) := hr
  rw [← hr]
  clear hr hk
  rcases hk2 with rfl | ⟨hk1, hk2⟩
  all_goals (
    go_enter Try.func7, Try.ntmps7
    go_wp2_with fail
    have HB : Hid (Below w.heap.size w (w.alloc (.cells #[.int .i64 key, .int .i64 c, .int .i64 arg] 24))) := box24 _ _
    have Hc : Hid ((w.alloc (.cells #[.int .i64 key, .int .i64 c, .int .i64 arg] 24)).cell? ⟨w.heap.size, 0, none⟩ = some (.int .i64 key)) := box_key _ _ _ _
    have Hs : Hid (w.heap.size < (w.alloc (.cells #[.int .i64 key, .int .i64 c, .int .i64 arg] 24)).heap.size) := by rw [size_alloc]; exact Nat.lt_succ_self _
    have Hs2 : Hid (w.heap.size + 1 = (w.alloc (.cells #[.int .i64 key, .int .i64 c, .int .i64 arg] 24)).heap.size) := (size_alloc _ _).symm
    rw [Hs2.out]
    generalize w.alloc (.cells #[.int .i64 key, .int .i64 c, .int .i64 arg] 24) = W at *
    clear Hs2
    have Hck : Hid (∀ p, (W.iter ⟨#[104, 108, 48, 94, 36, 124, 119, 87, 98, 66, 101, 69, 37, 102, 70, 116, 84]⟩ p).cell? ⟨w.heap.size, 0, none⟩ = some (.int .i64 key)) := fun p => (iter_cell W _ p _ 0 Hs.out).trans Hc.out
    have HBW : Hid (∀ p, Below w.heap.size w (W.iter ⟨#[104, 108, 48, 94, 36, 124, 119, 87, 98, 66, 101, 69, 37, 102, 70, 116, 84]⟩ p)) := fun p => HB.out.alloc HB.out.size _
    clear Hc HB Hs
    go_loopw [8] (fun _ wr => ∃ p : Nat, wr = W.iter ⟨#[104, 108, 48, 94, 36, 124, 119, 87, 98, 66, 101, 69, 37, 102, 70, 116, 84]⟩ p ∧ p ≤ 17 ∧ Hid (∀ j, j < p → keyList.getD j 0 ≠ key)) (fun _ wr => 17 - wr.iterPos W.heap.size)
    case atStart => exact ⟨0, rfl, by omega, fun j hj => by omega⟩
    case round =>
      obtain ⟨p, rfl, hp, Hp⟩ := hrel
      by_cases hlt : p < 17
      · have hnx0 : ∀ ty, (Instr.next (.pointer (some ⟨W.heap.size, 0, none⟩)) true ty).run Try.prog (W.iter ⟨#[104, 108, 48, 94, 36, 124, 119, 87, 98, 66, 101, 69, 37, 102, 70, 116, 84]⟩ p) = _ := fun ty => run_next_ascii (P := Try.prog) W ⟨#[104, 108, 48, 94, 36, 124, 119, 87, 98, 66, 101, 69, 37, 102, 70, 116, 84]⟩ p ty hlt (keyText_at ⟨p, hlt⟩).1
        obtain ⟨q, hq⟩ : ∃ q : Nat, q = (keyText[p]'hlt).toNat := ⟨_, rfl⟩
        have hnx : ∀ ty, (Instr.next (.pointer (some ⟨W.heap.size, 0, none⟩)) true ty).run Try.prog (W.iter ⟨#[104, 108, 48, 94, 36, 124, 119, 87, 98, 66, 101, 69, 37, 102, 70, 116, 84]⟩ p) = .ok (.tuple #[.bool true, .int .i64 p, .int .i32 (q : Nat)]) (W.iter ⟨#[104, 108, 48, 94, 36, 124, 119, 87, 98, 66, 101, 69, 37, 102, 70, 116, 84]⟩ (p + 1)) := fun ty => by rw [hq]; exact hnx0 ty
        have hq128' : q < 128 := by rw [hq]; exact (keyText_at ⟨p, hlt⟩).1
        have hq128 : (q : Int) < 128 := by omega
        have Hqk : Hid ((q : Int) = keyList.getD p 0) := by rw [hq]; exact (keyText_at ⟨p, hlt⟩).2
        have hcx := Hck.out (p + 1)
        clear hnx0 hq hq128'
        by_cases he : (q : Int) = key
        · have hr0 : r = 0 := by
            rw [Hr.out, ← he, Hqk.out, isk_at p hlt]
            rfl
          subst hr0
          have heb : ((q : Int) == key) = true := by simpa using he
          clear he
          go_wp2_with fail
          go_ret
          exact ⟨rfl, HBW.out _⟩
        · have heb : ((q : Int) == key) = false := by simpa using he
          have Hp2 : Hid (∀ j, j < p + 1 → keyList.getD j 0 ≠ key) := fun j hj => by
            by_cases hjp : j < p
            · exact Hp.out j hjp
            · rw [show j = p by omega, ← Hqk.out]
              exact he
          clear he
          go_wp2_with fail
          go_roundw
          case rel => exact ⟨p + 1, rfl, by omega, Hp2.out⟩
          case measure => rw [World.iterPos_iter, World.iterPos_iter]; omega
      · obtain rfl : p = 17 := by omega
        have hnx : ∀ ty, (Instr.next (.pointer (some ⟨W.heap.size, 0, none⟩)) true ty).run Try.prog (W.iter ⟨#[104, 108, 48, 94, 36, 124, 119, 87, 98, 66, 101, 69, 37, 102, 70, 116, 84]⟩ 17) = .ok (.tuple #[.bool false]) (W.iter ⟨#[104, 108, 48, 94, 36, 124, 119, 87, 98, 66, 101, 69, 37, 102, 70, 116, 84]⟩ 17) := fun ty => run_next_end (P := Try.prog) W ⟨#[104, 108, 48, 94, 36, 124, 119, 87, 98, 66, 101, 69, 37, 102, 70, 116, 84]⟩ 17 ty (by decide)
        have hr9 : r = 9 := by
          rw [Hr.out, if_neg]
          intro hk
          obtain ⟨j, hj, hjk⟩ := isk_in hk
          exact Hp.out j hj hjk
        subst hr9
        clear Hr
        go_wp2_with fail
        go_ret
        exact ⟨rfl, HBW.out _⟩)

set_option maxHeartbeats 2000000 in
theorem moveErr_go (a : Option Addr) (n cap : Nat) (k c key arg : Int) (w : World) : Calls Try.prog 7 #[.slice a n cap, .int .i64 k, .agg #[.int .i64 key, .int .i64 c, .int .i64 arg]] w fun e w' =>
    e = .returned (.int .i64 (mchk n k c key)) ∧ Below w.heap.size w w' := by
  by_cases h1 : 4096 < n
  · have hk : mchk n k c key = 2 := by unfold mchk; rw [if_pos h1]
    rw [hk]
    clear hk
    have hI : (4096 : Int) < (n : Int) := by omega
    go_enter Try.func7, Try.ntmps7
    go_wp2_with fail
    go_ret
    exact ⟨rfl, box24 _ _⟩
  · have hI : (n : Int) ≤ 4096 := by omega
    by_cases h2 : k < 0
    · have hk : mchk n k c key = 1 := by unfold mchk; rw [if_neg h1, if_pos (.inl h2)]
      rw [hk]
      clear hk h1
      go_enter Try.func7, Try.ntmps7
      go_wp2_with fail
      go_ret
      exact ⟨rfl, box24 _ _⟩
    · have h2' : 0 ≤ k := by omega
      by_cases h3 : 0 < k ∧ (n : Int) ≤ k
      · have hk : mchk n k c key = 1 := by unfold mchk; rw [if_neg h1, if_pos (by omega)]
        rw [hk]
        obtain ⟨h4, h5⟩ := h3
        clear hk h1 h2 h2'
        go_enter Try.func7, Try.ntmps7
        go_wp2_with fail
        go_ret
        exact ⟨rfl, box24 _ _⟩
      · have h3' : k = 0 ∨ (0 < k ∧ k < (n : Int)) := by omega
        by_cases h4 : c < 0
        · have hk : mchk n k c key = 1 := by unfold mchk; rw [if_neg h1, if_pos (.inr (.inr (.inl h4)))]
          rw [hk]
          clear hk h1 h2 h3
          rcases h3' with rfl | ⟨h5, h6⟩
          all_goals (
            go_enter Try.func7, Try.ntmps7
            go_wp2_with fail
            go_ret
            exact ⟨rfl, box24 _ _⟩)
        · have h4' : 0 ≤ c := by omega
          by_cases h5 : 999 < c
          · have hk : mchk n k c key = 1 := by unfold mchk; rw [if_neg h1, if_pos (.inr (.inr (.inr h5)))]
            rw [hk]
            clear hk h1 h2 h3 h4
            rcases h3' with rfl | ⟨h6, h7⟩
            all_goals (
              go_enter Try.func7, Try.ntmps7
              go_wp2_with fail
              go_ret
              exact ⟨rfl, box24 _ _⟩)
          · have hk : mchk n k c key = if isk key = true then 0 else 9 := by unfold mchk; rw [if_neg h1, if_neg (by omega)]
            rw [hk]
            exact moveErr_loop a n cap k c key arg w hI (eq_false h2) h3' h4' (by omega)
end Go.Proofs.Ytobcohgfpbmahaa.Seek
