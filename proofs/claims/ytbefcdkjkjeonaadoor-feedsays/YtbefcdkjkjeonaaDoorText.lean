/- The contract of Text over the translation: of a slice of ints that are characters it answers their bytes; of one that has another number it answers ErrArg. -/
import Derived.Test.YtbefcdkjkjeonaaDoorPut
import Derived.Test.YtbefcdkjkjeonaaDoorShelf
import Derived.Test.YtbefcdkjkjeonaaDoorTexts
set_option linter.unusedVariables false
namespace Go.Proofs.YtbefcdkjkjeonaaDoor.Utf
open Go.RowKit

def Valids (zs : List Int) : Prop := ∀ z ∈ zs, Utf8.valid z = true
def nats (zs : List Int) : List Nat := zs.map Int.toNat
theorem nats_oks {zs : List Int} (h : Valids zs) : Plain.Oks (nats zs) := by
  intro c hc
  obtain ⟨z, hz, rfl⟩ := List.mem_map.1 hc
  exact Plain.valid_ok (h z hz)
theorem nats_len (zs : List Int) : (nats zs).length = zs.length := List.length_map ..
theorem nats_take_succ (zs : List Int) (k : Nat) (hk : k < zs.length) : nats (zs.take (k + 1)) = nats (zs.take k) ++ [(zs.getD k 0).toNat] := by
  unfold nats
  rw [List.take_succ_eq_append_getElem hk, List.map_append]
  simp [List.getD_eq_getElem?_getD, hk]
theorem getD_mem (zs : List Int) (k : Nat) (hk : k < zs.length) : zs.getD k 0 ∈ zs := by
  rw [List.getD_eq_getElem?_getD, List.getElem?_eq_getElem hk]
  exact List.getElem_mem hk
/-- Text's answer. -/
def TextPost (zs : List Int) (w : World) (e : Ending) (w' : World) : Prop :=
  Below w.heap.size w w' ∧
    ((Valids zs ∧ e = .returned (.tuple #[.string ⟨(Plain.text (nats zs)).toArray⟩, .int .i64 0])) ∨
     (¬ Valids zs ∧ e = .returned (.tuple #[.string ⟨#[]⟩, .int .i64 1])))

set_option maxHeartbeats 1000000 in
theorem text_some (b off len cap : Nat) (zs : List Int) (w : World) (hz : zs.length = len) (hreach : len * 8 ≤ 140737488355328) (hb : b < w.heap.size)
    (hc : ∀ j, j < zs.length → w.cell? ⟨b, off + j, none⟩ = some (.int .i64 (zs.getD j 0))) :
    Calls Tryd.prog 14 #[.slice (some ⟨b, off, none⟩) len cap] w fun e w' => TextPost zs w e w' := by
  have Hc : Hid (∀ j, j < zs.length → w.cell? ⟨b, off + j, none⟩ = some (.int .i64 (zs.getD j 0))) := hc
  clear hc
  go_enter Tryd.func14, Tryd.ntmps14
  go_wp2_with fail
  go_loopw [11] (fun i wr => ∃ k : Nat, k ≤ len ∧ i = .int .i64 (k : Int) ∧ Hid (Valids (zs.take k)) ∧ Lib.IsBuilder 51 5 w.heap.size w.heap.size (Lib.byteCells (Plain.text (nats (zs.take k)))) wr ∧ Below w.heap.size w wr)
    (fun i _ => len - (intOf i).toNat)
  case atStart => exact ⟨0, Nat.zero_le _, rfl, (fun _ h => by simp at h), Lib.fresh_isBuilder 51 5 w, (Below.refl _ _).alloc (Nat.le_refl _) _⟩
  case round =>
    obtain ⟨k, hk, rfl, hv, hB, hbl⟩ := hrel
    by_cases hlt : k < len
    · have hcx : wr.cell? ⟨b, off + k, none⟩ = some (.int .i64 (zs.getD k 0)) := (hbl.cell (by exact hb)).trans (Hc.out k (by omega))
      generalize hzk : zs.getD k 0 = z at hcx
      have Hz : Hid (zs.getD k 0 = z) := hzk
      clear hzk
      go_wp2_with fail
      cases hval : Utf8.valid z with
      | true =>
        refine (put_yes z _ hval).mono ?_
        rintro e w' ⟨rfl, rfl⟩
        have hsz : (Lib.byteCells (Plain.text (nats (zs.take k)))).length + (Utf8.encode z).size ≤ 140737488355328 := by
          rw [Lib.byteCells_length]
          have h1 := Plain.text_le (nats (zs.take k))
          rw [nats_len, List.length_take] at h1
          have h2 : (Utf8.encode z).size ≤ 4 := by
            have h3 := congrArg List.length (Plain.encode_bytes z hval)
            rw [Array.length_toList] at h3
            have h4 := Plain.bytes_le z.toNat
            show (Utf8.encode z).data.size ≤ 4
            omega
          omega
        have hbs := hbl.size
        go_wp2_with fail
        refine (Tryd.Builder_WriteString _ _ _ _ _ hB hsz hbs).mono ?_
        rintro e w1 ⟨rfl, hB1, hbl1⟩
        have hv1 : Hid (Valids (zs.take (k + 1))) := by
          intro y hy
          rw [List.take_succ_eq_append_getElem (by omega)] at hy
          rcases List.mem_append.1 hy with hy | hy
          · exact hv.out y hy
          · rw [List.mem_singleton.1 hy]
            have h := Hz.out
            rw [List.getD_eq_getElem?_getD, List.getElem?_eq_getElem (by omega)] at h
            rw [show zs[k] = z from h]
            exact hval
        have hB2 : Lib.IsBuilder 51 5 w.heap.size w.heap.size (Lib.byteCells (Plain.text (nats (zs.take (k + 1))))) w1 := by
          right
          rw [nats_take_succ zs k (by omega), Plain.text_append, Plain.text_one, Hz.out, Lib.byteCells_append, ← Plain.encode_bytes z hval, ← Lib.strCells_eq]
          exact hB1
        have hbl2 := hbl.trans hbl1
        clear hB hB1 hbl1 hbl hsz hbs hcx hval
        go_wp2_with fail
        go_roundw
        case rel => exact ⟨k + 1, by omega, by go_num, hv1, hB2, hbl2⟩
        case measure => simp [intOf]; omega
      | false =>
        refine (put_no z _ hval).mono ?_
        rintro e w' ⟨rfl, rfl⟩
        go_wp2_with fail
        go_ret2
        refine ⟨hbl, .inr ⟨fun h => ?_, rfl⟩⟩
        have := h z (by rw [← Hz.out]; exact getD_mem zs k (by omega))
        rw [hval] at this
        cases this
    · obtain rfl : k = len := by omega
      have hbs := hbl.size
      rw [List.take_of_length_le (by omega)] at hv hB
      go_wp2_with fail
      refine (Tryd.Builder_String_any _ _ _ _ hB hbs).mono ?_
      rintro e w1 ⟨rfl, hbl1⟩
      go_wp2_with fail
      go_ret2
      exact ⟨hbl.trans hbl1, .inl ⟨hv.out, rfl⟩⟩

set_option maxHeartbeats 1000000 in
theorem text_empty (a : Option Addr) (cap : Nat) (w : World) :
    Calls Tryd.prog 14 #[.slice a 0 cap] w fun e w' => TextPost [] w e w' := by
  have hB : Lib.IsBuilder 51 5 w.heap.size w.heap.size (Lib.byteCells []) (w.alloc (.cells #[.pointer none, .slice none 0 0] 51)) := Lib.fresh_isBuilder 51 5 w
  go_enter Tryd.func14, Tryd.ntmps14
  go_wp2_with fail
  refine wp_loop_rounds 1 ?_
  rw [rounds_succ]
  go_wp2_with fail
  refine (Tryd.Builder_String_any _ _ _ _ hB (by simp)).mono ?_
  rintro e w1 ⟨rfl, hbl1⟩
  go_wp2_with fail
  go_ret2
  exact ⟨((Below.refl _ _).alloc (Nat.le_refl _) _).trans hbl1, .inl ⟨(fun _ h => by cases h), rfl⟩⟩
end Go.Proofs.YtbefcdkjkjeonaaDoor.Utf
