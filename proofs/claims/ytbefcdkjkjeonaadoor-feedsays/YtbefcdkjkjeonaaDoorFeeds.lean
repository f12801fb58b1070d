/- The contracts of feed.Feed and feed.End. -/
import Derived.Test.YtbefcdkjkjeonaaDoorFeed
set_option linter.unusedVariables false
set_option linter.unusedSimpArgs false
namespace Go.Proofs.YtbefcdkjkjeonaaDoor.Utf
open Go.RowKit

def sizeOf' : Value → Nat
  | .string t => t.size
  | _ => 0
def str (l : List UInt8) : Value := .string ⟨l.toArray⟩
theorem str_of (t : ByteArray) : Value.string t = str t.data.toList := by
  unfold str
  cases t
  rfl
/-- Feed's answer. -/
def FeedPost (p s : List UInt8) (w : World) (e : Ending) (w' : World) : Prop :=
  Below w.heap.size w w' ∧
  ((Plain.full p = true ∧ e = .returned (.tuple #[.string ⟨#[]⟩, .slice none 0 0, .int .i64 4])) ∨
   (Plain.full p = false ∧ 4096 < s.length ∧ e = .returned (.tuple #[.string ⟨#[]⟩, .slice none 0 0, .int .i64 2])) ∨
   (Plain.full p = false ∧ s.length ≤ 4096 ∧ ∃ cs m v, Plain.Dec cs (p ++ s) m ∧ e = .returned (.tuple #[str m, v, .int .i64 0]) ∧ w'.ownsRow w.heap.size 3 1 v cs.length (ints cs)))

theorem owned_below {w w' : World} {B : Nat} {v : Value} {n : Nat} {xs : List Value} (h : w.ownsRow B 3 1 v n xs) (hb : Below w.heap.size w w') : w'.ownsRow B 3 1 v n xs := by
  refine ⟨h.1, ?_⟩
  rcases h.2 with hn | ⟨g, cap, cur, hv, hB, hg, rest⟩
  · exact .inl hn
  · exact .inr ⟨g, cap, cur, hv, hB, (hb.block g (Array.getElem?_eq_some_iff.1 hg).1).trans hg, rest⟩
theorem append_list (p s : ByteArray) : (p ++ s).data.toList = p.data.toList ++ s.data.toList := by
  rw [ByteArray.data_append, Array.toList_append]

set_option maxHeartbeats 1000000 in
theorem feed_any (p s : ByteArray) (w : World) (hp : p.size ≤ 9223372036854775807) (hs : s.size ≤ 9223372036854775807) (hT : Tabs w) :
    Calls Tryd.prog 8 #[.string p, .string s] w fun e w' => FeedPost p.data.toList s.data.toList w e w' := by
  obtain ⟨i0, hi, hz0, hz1, hz2⟩ := info_parts info3
  obtain ⟨f, hf⟩ : ∃ f, Plain.full p.data.toList = f := ⟨_, rfl⟩
  have Hf : Hid (Plain.full p.data.toList = f) := hf
  clear hf
  have hsl := size_list s
  have Hsl : Hid (s.data.toList.length = s.size) := hsl
  clear hsl
  go_enter Tryd.func8, Tryd.ntmps8
  go_wp2_with fail
  refine (check_any p _ f Hf (by omega) hT.1).mono ?_
  rintro e w1 ⟨rfl, hb1⟩
  have hT1 := hT.below hb1
  cases f with
  | true =>
    unfold chk
    simp only [cond_true]
    go_wp2_with fail
    go_ret3
    exact ⟨hb1, .inl ⟨Hf.out, rfl⟩⟩
  | false =>
    unfold chk
    simp only [cond_false]
    have hp3 : p.size ≤ 3 := by rw [← size_list]; exact Plain.pend_len _ Hf.out
    by_cases hlt : 4096 < s.size
    · go_wp2_with fail
      go_ret3
      exact ⟨hb1, .inr (.inl ⟨Hf.out, by rw [Hsl.out]; exact hlt, rfl⟩)⟩
    · go_wp2_with fail
      go_loopw [8, 9] (fun v lf wr => ∃ (cs : List Nat) (t : ByteArray), lf = .string t ∧ t.size ≤ 4099 ∧ cs.length + t.size ≤ 4099 ∧ Hid (Plain.Takes cs (p.data.toList ++ s.data.toList) t.data.toList) ∧ wr.ownsRow w.heap.size 3 1 v cs.length (ints cs) ∧ Below w.heap.size w wr)
        (fun _ lf _ => sizeOf' lf)
      case atStart => exact ⟨[], p ++ s, rfl, by rw [ByteArray.size_append]; omega, by rw [ByteArray.size_append]; simp; omega, append_list p s, World.ownsRow_nil _ _ _ _, hb1⟩
      case round =>
        obtain ⟨cs, t, rfl, ht, hct, Ht, hown, hb⟩ := hrel
        clear hb1 hT1
        go_wp2_with fail
        refine (decided_any t _ (by omega) (hT.below hb).1).mono ?_
        rintro e w2 ⟨rfl, hb2⟩
        have hown2 := owned_below hown hb2
        have hbw := below_trans hb hb2
        clear hb2 hb hown
        cases hq : Plain.full t.data.toList with
        | true =>
          have Hq : Hid (Plain.full t.data.toList = true) := hq
          clear hq
          obtain ⟨c, n, hst⟩ : ∃ c n, Plain.step t.data.toList = (c, n) := ⟨_, _, rfl⟩
          have hsn := Ht.out.snoc Hq.out
          have hfa := Plain.step_facts _ Hq.out
          rw [hst] at hsn hfa
          rw [size_list] at hfa
          have Hst : Hid (Plain.step t.data.toList = (c, n)) := hst
          have Hsn : Hid (Plain.Takes (cs ++ [c]) (p.data.toList ++ s.data.toList) (t.data.toList.drop n)) := hsn
          have hn1 : 1 ≤ n := hfa.2.1
          have hn2 : n ≤ t.size := hfa.2.2
          clear hst hsn hfa
          go_wp2_with fail
          refine (next_any t _ c n Hst (by omega) (hT.below hbw) Hq).mono ?_
          rintro e w3 ⟨rfl, hb3⟩
          have hown3 := owned_below hown2 hb3
          have hb4 := below_trans hbw hb3
          clear hb3 hbw hown2
          have hcl : (cs ++ [c]).length = cs.length + 1 := by simp
          go_wp2_with (at_builtin; refine wpList_append_own _ rfl _ _ 23 rfl w.heap.size 3 i0 (.int .i64 0) 1 8 Tryd.underlying23 hi hz0 hz1 hz2 rfl (by decide) _ _ _ rfl (hown3.alloc _) ⟨w3.heap.size, 0, none⟩ 1 1 [.int .i64 (c : Int)] rfl rfl ?c1 ?c2 ?c3 ?c4 ?c5 ?_)
          case c1 =>
            intro j u hj
            match j, hj with
            | 0, hj => simp at hj; subst hj; simp [Addr.add]
          case c2 => intro u hu; simp at hu; subst hu; rfl
          case c3 => unfold maxLen; omega
          case c4 => omega
          case c5 => have := hb4.size; simp; omega
          intro v' w5 hown' hgrow _
          have hb5 : Below w.heap.size w w5 := (hb4.alloc hb4.size _).grown hgrow (by have := hb4.size; simp; omega) (fun j hj => (hown3.lt j hj).1)
          have hown5 : w5.ownsRow w.heap.size 3 1 v' (cs ++ [c]).length (ints (cs ++ [c])) := by
            unfold ints at hown' ⊢
            rw [List.map_append, hcl]
            exact hown'
          clear hown' hgrow hown3 hb4
          go_wp2_with fail
          go_roundw
          case rel =>
            refine ⟨cs ++ [c], t.extract n t.size, by first | rfl | go_num, by rw [ByteArray.size_extract]; omega, by rw [ByteArray.size_extract, hcl]; omega, ?_, hown5, hb5⟩
            show Plain.Takes _ _ _
            rw [extract_drop]
            exact Hsn.out
          case measure => simp [sizeOf', ByteArray.size_extract]; omega
        | false =>
          have Hq : Hid (Plain.full t.data.toList = false) := hq
          clear hq
          go_wp2_with fail
          refine (clone_any t _ (by omega)).mono ?_
          rintro e w3 ⟨rfl, hb3⟩
          have hown3 := owned_below hown2 hb3
          have hb4 := below_trans hbw hb3
          clear hb3 hbw hown2
          go_wp2_with fail
          go_ret3
          refine ⟨hb4, .inr (.inr ⟨Hf.out, by rw [Hsl.out]; omega, cs, t.data.toList, _, ⟨Ht.out, Hq.out⟩, ?_, hown3⟩)⟩
          rw [← str_of]
          rfl

/-- End's answer. -/
def EndPost (p : List UInt8) (w : World) (e : Ending) (w' : World) : Prop :=
  Below w.heap.size w w' ∧
  ((Plain.full p = true ∧ e = .returned (.tuple #[.slice none 0 0, .int .i64 4])) ∨
   (Plain.full p = false ∧ ∃ v cs, cs = (if p = [] then [] else [65533]) ∧ e = .returned (.tuple #[v, .int .i64 0]) ∧ w'.ownsRow w.heap.size 3 1 v cs.length (ints cs)))
set_option maxHeartbeats 1000000 in
theorem end_any (p : ByteArray) (w : World) (hp : p.size ≤ 9223372036854775807) (hT : Tabs w) :
    Calls Tryd.prog 9 #[.string p] w fun e w' => EndPost p.data.toList w e w' := by
  obtain ⟨f, hf⟩ : ∃ f, Plain.full p.data.toList = f := ⟨_, rfl⟩
  have Hf : Hid (Plain.full p.data.toList = f) := hf
  clear hf
  go_enter Tryd.func9, Tryd.ntmps9
  go_wp2_with fail
  refine (check_any p _ f Hf (by omega) hT.1).mono ?_
  rintro e w1 ⟨rfl, hb1⟩
  cases f with
  | true =>
    unfold chk
    simp only [cond_true]
    go_wp2_with fail
    go_ret2
    exact ⟨hb1, .inl ⟨Hf.out, rfl⟩⟩
  | false =>
    unfold chk
    simp only [cond_false]
    by_cases h0 : p.size = 0
    · obtain rfl := is_nil p h0
      go_wp2_with fail
      go_ret2
      exact ⟨hb1, .inr ⟨Hf.out, _, [], rfl, rfl, World.ownsRow_nil _ _ _ _⟩⟩
    · have hne := not_nil p (by omega)
      have hcs : Hid ([65533] = (if p.data.toList = [] then [] else [65533])) := by
        show _ = _
        rw [if_neg]
        intro h
        have := size_list p
        rw [h] at this
        simp at this
        omega
      go_wp2_with fail
      go_ret2
      refine ⟨hb1.alloc hb1.size _, .inr ⟨Hf.out, _, [65533], hcs.out, rfl, rfl, .inr ⟨_, 1, _, rfl, hb1.size, heap_alloc_new _ _, Nat.le_refl _, by unfold maxLen; omega, rfl, rfl⟩⟩⟩
end Go.Proofs.YtbefcdkjkjeonaaDoor.Utf
