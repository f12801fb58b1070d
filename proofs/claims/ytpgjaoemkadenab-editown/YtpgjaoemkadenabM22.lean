/- The contract of fairkeep.of: a string's bytes as numbers. -/
import Derived.Test.YtpgjaoemkadenabM01
import Derived.Laws.IdiomStrings
set_option linter.unusedVariables false
set_option linter.unusedSimpArgs false
set_option maxRecDepth 100000
namespace Go.Proofs.Ytpgjaoemkadenab.Seek
open Go.RowKit

/-- A string's bytes as numbers. -/
def codes (s : ByteArray) : List Int := s.data.toList.map fun b => (b.toNat : Int)
theorem codes_len (s : ByteArray) : (codes s).length = s.size := by unfold codes; simp
theorem codes_take (s : ByteArray) (k : Nat) (h : k < s.size) : (codes s).take (k + 1) = (codes s).take k ++ [((s[k]'h).toNat : Int)] := by
  rw [List.take_succ_eq_append_getElem (by rw [codes_len]; exact h)]
  unfold codes
  simp
  rfl

theorem conv_bytes (s : ByteArray) (w : World) : ∃ cap w1, (convert 9 54 (.string s)).run Try.prog w = .ok (.slice (some ⟨w.heap.size, 0, none⟩) s.size cap) w1 ∧ Below w.heap.size w w1 ∧
    w.heap.size < w1.heap.size ∧ ∀ j (h : j < s.size), w1.cell? ⟨w.heap.size, j, none⟩ = some (.int .u8 ((s[j]'h).toNat : Int)) := by
  refine ⟨_, _, run_bytes_of_string w 9 54 5 s Try.underlying9 Try.underlying54 Try.underlying5, ?_, ?_, ?_⟩
  · exact (below_drewN (Below.refl _ _) 1).alloc (Nat.le_refl _) _
  · show w.heap.size < (w.heap.push _).size
    simp
  · intro j h
    unfold World.cell?
    simp only
    rw [show ∀ o, (w.drew.alloc o).heap[w.heap.size]? = some o from fun o => by show (w.heap.push o)[w.heap.size]? = _; simp]
    simp only
    exact bytesRow_at s _ j h

set_option maxHeartbeats 1000000 in
theorem of_any (s : ByteArray) (w : World) (hs : s.size ≤ 4096) :
    Calls Try.prog 6 #[.string s] w fun e w' => Below w.heap.size w w' ∧ ∃ v, e = .returned v ∧ w'.ownsRow w.heap.size 3 1 v (codes s).length (ints (codes s)) := by
  obtain ⟨i0, hi, hz0, hz1, hz2⟩ := info_parts info3
  obtain ⟨cap, w1, hconv, hb1, hlt1, hcells⟩ := conv_bytes s w
  have Hc : Hid (∀ j (h : j < s.size), w1.cell? ⟨w.heap.size, j, none⟩ = some (.int .u8 ((s[j]'h).toNat : Int))) := hcells
  clear hcells
  go_enter Try.func6, Try.ntmps6
  go_wp2_with fail
  go_loopw [3, 9] (fun u3 u9 wr => ∃ k : Nat, u9 = .int .i64 (k : Int) ∧ k ≤ s.size ∧ wr.ownsRow w1.heap.size 3 1 u3 ((codes s).take k).length (ints ((codes s).take k)) ∧ Below w1.heap.size w1 wr)
    (fun _ u _ => s.size - (intOf u).toNat)
  case atStart => exact ⟨0, rfl, by omega, World.ownsRow_nil _ _ _ _, Below.refl _ _⟩
  case round =>
    obtain ⟨k, rfl, hk, hown, hbr⟩ := hrel
    have hbs := hbr.size
    by_cases hlt : k < s.size
    · have hcx : wr.cell? ⟨w.heap.size, k, none⟩ = some (.int .u8 ((s[k]'hlt).toNat : Int)) := (hbr.cell (by exact hlt1)).trans (Hc.out k hlt)
      have hx : (s[k]'hlt).toNat ≤ 255 := by have := (s[k]'hlt).toNat_lt; omega
      have Ht : Hid ((codes s).take (k + 1) = (codes s).take k ++ [((s[k]'hlt).toNat : Int)]) := codes_take s k hlt
      have hn1 : ((codes s).take k ++ [((s[k]'hlt).toNat : Int)]).length = ((codes s).take k).length + 1 := by simp
      have hn2 : ((codes s).take k).length ≤ 4096 := by rw [List.length_take, codes_len]; omega
      generalize (s[k]'hlt).toNat = x at hcx hx Ht hn1
      go_wp2_with (at_builtin; refine wpList_append_own _ rfl _ _ 22 rfl w1.heap.size 3 i0 (.int .i64 0) 1 8 Try.underlying22 hi hz0 hz1 hz2 rfl (by decide) _ _ _ rfl (hown.alloc _) ⟨wr.heap.size, 0, none⟩ 1 1 [.int .i64 (x : Int)] rfl rfl ?c1 ?c2 ?c3 ?c4 ?c5 ?_)
      case c1 =>
        intro j u hj
        match j, hj with
        | 0, hj => simp at hj; subst hj; simp [Addr.add]
      case c2 => intro u hu; simp at hu; subst hu; rfl
      case c3 => unfold maxLen; omega
      case c4 => omega
      case c5 => simp; omega
      intro v' w5 hown' hgrow _
      have hb5 : Below w1.heap.size w1 w5 := (hbr.alloc hbr.size _).grown hgrow (by simp; omega) (fun j hj => (hown.lt j hj).1)
      have Ho5 : Hid (w5.ownsRow w1.heap.size 3 1 v' ((codes s).take (k + 1)).length (ints ((codes s).take (k + 1)))) := by
        show World.ownsRow _ _ _ _ _ _ _
        rw [Ht.out, hn1]
        rw [List.length_take]
        unfold ints at hown' ⊢
        rw [List.map_append]
        exact hown'
      clear hown' hgrow hown hbr
      go_wp2_with fail
      go_roundw
      case rel => exact ⟨k + 1, by go_num, by omega, Ho5.out, hb5⟩
      case measure => simp [intOf]; omega
    · obtain rfl : k = s.size := by omega
      have Ho : Hid (wr.ownsRow w1.heap.size 3 1 u3 (codes s).length (ints (codes s))) := by
        rw [List.take_of_length_le (by rw [codes_len]; exact Nat.le_refl _)] at hown
        exact hown
      clear hown
      go_wp2_with fail
      go_ret
      exact ⟨hb1.trans (hbr.mono hb1.size), _, rfl, owned_less Ho.out hb1.size⟩
end Go.Proofs.Ytpgjaoemkadenab.Seek
