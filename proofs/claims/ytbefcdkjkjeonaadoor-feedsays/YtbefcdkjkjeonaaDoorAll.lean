/- The contract of All over the translation. -/
import Derived.Test.YtbefcdkjkjeonaaDoorGet
import Derived.Test.YtbefcdkjkjeonaaDoorTexts
set_option linter.unusedVariables false
namespace Go.Proofs.YtbefcdkjkjeonaaDoor.Utf
open Go.RowKit
theorem info3 : (Tryd.prog.info? 3).map (fun i => (i.zero, i.size, i.bytes)) = some (some (Value.int .i64 0), 1, 8) := by kernel_rfl

def ints (cs : List Nat) : List Value := cs.map (fun (c : Nat) => Value.int .i64 (c : Int))
/-- All's answer. -/
def AllPost (l : List UInt8) (w : World) (e : Ending) (w' : World) : Prop :=
  Below w.heap.size w w' ∧ ∃ (cs : List Nat) (p er : Nat) (v : Value), Plain.Part l cs p ∧ e = .returned (.tuple #[v, .int .i64 (p : Int), .int .i64 (er : Int)]) ∧
    ((er = 0 ∧ p = l.length ∧ w'.ownsRow w.heap.size 3 1 v cs.length (ints cs)) ∨ (er ≠ 0 ∧ p < l.length ∧ er = (Plain.get (l.drop p)).2.2 ∧ v = .slice none 0 0))

theorem extract_drop (s : ByteArray) (p : Nat) : (s.extract p s.size).data.toList = s.data.toList.drop p := by
  rw [ByteArray.data_extract, Array.toList_extract]
  show List.take (s.size - p) (List.drop p s.data.toList) = _
  exact List.take_of_length_le (by rw [List.length_drop, Array.length_toList]; exact Nat.le_refl _)

set_option maxHeartbeats 1000000 in
theorem all_any (s : ByteArray) (w : World) (hs : s.size ≤ 9223372036854775807) (hroom : ∀ cs p, Plain.Part s.data.toList cs p → cs.length * 8 ≤ 140737488355328) :
    Calls Tryd.prog 15 #[.string s] w fun e w' => AllPost s.data.toList w e w' := by
  obtain ⟨i0, hi, hz0, hz1, hz2⟩ := info_parts info3
  have Hroom : Hid (∀ cs p, Plain.Part s.data.toList cs p → cs.length * 8 ≤ 140737488355328) := hroom
  clear hroom
  go_enter Tryd.func15, Tryd.ntmps15
  go_wp2_with fail
  go_loopw [5, 6] (fun v i wr => ∃ (cs : List Nat) (p : Nat), i = .int .i64 (p : Int) ∧ p ≤ s.size ∧ Hid (Plain.Part s.data.toList cs p) ∧ wr.ownsRow w.heap.size 3 1 v cs.length (ints cs) ∧ Below w.heap.size w wr)
    (fun _ i _ => s.size - (intOf i).toNat)
  case atStart => exact ⟨[], 0, rfl, Nat.zero_le _, Plain.Part.zero _, World.ownsRow_nil _ _ _ _, Below.refl _ _⟩
  case round =>
    obtain ⟨cs, p, rfl, hp, Hp, hown, hb⟩ := hrel
    by_cases hlt : p < s.size
    · go_wp2_with fail
      have hex : Hid ((s.extract p s.size).data.toList = s.data.toList.drop p) := extract_drop s p
      have hsz : (s.extract p s.size).size ≤ 9223372036854775807 := by rw [ByteArray.size_extract]; omega
      refine (get_any _ _ hsz).mono ?_
      rintro e w1 ⟨rfl, hw1⟩
      have hown1 : w1.ownsRow w.heap.size 3 1 u5 cs.length (ints cs) := by obtain ⟨q, rfl⟩ := hw1; exact hown
      have hb1 : Below w.heap.size w w1 := by obtain ⟨q, rfl⟩ := hw1; exact ⟨hb.os, hb.tape, hb.output, hb.size, hb.block⟩
      clear hw1 hown hb
      rw [hex.out]
      have hgt := Plain.get_err (s.data.toList.drop p)
      obtain ⟨c, n, er, hg⟩ : ∃ c n er, Plain.get (s.data.toList.drop p) = (c, n, er) := ⟨_, _, _, rfl⟩
      rw [hg] at hgt ⊢
      simp only at hgt
      have Hg : Hid (Plain.get (s.data.toList.drop p) = (c, n, er)) := hg
      clear hg hsz
      unfold out
      simp only
      by_cases her : er = 0
      · subst her
        clear hgt
        obtain ⟨hp', hn, hc, hnb⟩ := Hp.out.step Hg.out
        have hroom := Hroom.out _ _ hp'
        have hpl : p + n ≤ s.size := by have := hp'.le; rw [Array.length_toList] at this; exact this
        have Hp' : Hid (Plain.Part s.data.toList (cs ++ [c]) (p + n)) := hp'
        clear hp' hnb
        have hcl : (cs ++ [c]).length = cs.length + 1 := by simp
        go_wp2_with (at_builtin; refine wpList_append_own _ rfl _ _ 23 rfl w.heap.size 3 i0 (.int .i64 0) 1 8 Tryd.underlying23 hi hz0 hz1 hz2 rfl (by decide) _ _ _ rfl (hown1.alloc _) ⟨w1.heap.size, 0, none⟩ 1 1 [.int .i64 (c : Int)] rfl rfl ?c1 ?c2 ?c3 ?c4 ?c5 ?_)
        case c1 =>
          intro j u hj
          match j, hj with
          | 0, hj => simp at hj; subst hj; simp [Addr.add]
        case c2 => intro u hu; simp at hu; subst hu; rfl
        case c3 => unfold maxLen; omega
        case c4 => omega
        case c5 => have := hb1.size; simp; omega
        intro v' w2 hown' hgrow _
        have hb2 : Below w.heap.size w w2 := (hb1.alloc hb1.size _).grown hgrow (by have := hb1.size; simp; omega) (fun j hj => (hown1.lt j hj).1)
        have hown2 : w2.ownsRow w.heap.size 3 1 v' (cs ++ [c]).length (ints (cs ++ [c])) := by
          unfold ints at hown' ⊢
          rw [List.map_append, hcl]
          exact hown'
        clear hown' hgrow hown1 hb1
        go_wp2_with fail
        go_roundw
        case rel => exact ⟨cs ++ [c], p + n, by go_num, hpl, Hp'.out, hown2, hb2⟩
        case measure => simp [intOf]; omega
      · have her2 : ((er : Int) == 0) = false := by simp; omega
        have Hgt : Hid (er = 0 ∨ (c, n, er) = (0, 0, er)) := hgt
        clear hgt
        go_wp2_with fail
        go_ret3
        refine ⟨hb1, cs, p, er, _, Hp.out, rfl, .inr ⟨her, ?_, ?_, rfl⟩⟩
        · rw [Array.length_toList]; exact hlt
        · rw [Hg.out]
    · go_wp2_with fail
      go_ret3
      refine ⟨hb, cs, p, 0, _, Hp.out, rfl, .inl ⟨rfl, ?_, hown⟩⟩
      rw [Array.length_toList]
      show p = s.size
      omega
end Go.Proofs.YtbefcdkjkjeonaaDoor.Utf
