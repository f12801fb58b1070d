/- The contract of the document's answer for All: the same as All's own; and that All's answer can be no other. -/
import Derived.Test.YtdhoackhjojobaaRefGet
import Derived.Test.YtdhoackhjojobaaReads
set_option linter.unusedVariables false
namespace Go.Proofs.Ytdhoackhjojobaa.Utf
open Go.RowKit

theorem owned_below {w w' : World} {B : Nat} {v : Value} {n : Nat} {xs : List Value} (h : w.ownsRow B 3 1 v n xs) (hb : Below w.heap.size w w') : w'.ownsRow B 3 1 v n xs := by
  refine ⟨h.1, ?_⟩
  rcases h.2 with hn | ⟨g, cap, cur, hv, hB, hg, rest⟩
  · exact .inl hn
  · exact .inr ⟨g, cap, cur, hv, hB, (hb.block g (Array.getElem?_eq_some_iff.1 hg).1).trans hg, rest⟩

set_option maxHeartbeats 1000000 in
theorem rall_any (s : ByteArray) (w : World) (hs : s.size ≤ 9223372036854775807) (hroom : ∀ cs p, Plain.Part s.data.toList cs p → cs.length * 8 ≤ 140737488355328) :
    Calls Try.prog 14 #[.string s] w fun e w' => AllPost s.data.toList w e w' := by
  obtain ⟨i0, hi, hz0, hz1, hz2⟩ := info_parts info3
  have Hroom : Hid (∀ cs p, Plain.Part s.data.toList cs p → cs.length * 8 ≤ 140737488355328) := hroom
  clear hroom
  go_enter Try.func14, Try.ntmps14
  go_wp2_with fail
  go_loopw [5, 6] (fun v i wr => ∃ (cs : List Nat) (p : Nat), i = .int .i64 (p : Int) ∧ p ≤ s.size ∧ Hid (Plain.Part s.data.toList cs p) ∧ wr.ownsRow w.heap.size 3 1 v cs.length (ints cs) ∧ Below w.heap.size w wr)
    (fun _ i _ => s.size - (intOf i).toNat)
  case atStart => exact ⟨[], 0, rfl, Nat.zero_le _, Plain.Part.zero _, World.ownsRow_nil _ _ _ _, Below.refl _ _⟩
  case round =>
    obtain ⟨cs, p, rfl, hp, Hp, hown, hb⟩ := hrel
    by_cases hlt : p < s.size
    · go_wp2_with fail
      have hex : Hid ((s.extract p s.size).data.toList = s.data.toList.drop p) := extract_drop s p
      have hsz : (s.extract p s.size).size ≤ 9223372036854775807 := by rw [ByteArray.size_extract]; omega
      refine (rget_any _ _ hsz).mono ?_
      rintro e w1 ⟨rfl, hw1⟩
      have hown1 : w1.ownsRow w.heap.size 3 1 u5 cs.length (ints cs) := owned_below hown hw1
      have hb1 : Below w.heap.size w w1 := hb.trans (hw1.mono hb.size)
      clear hw1 hown hb
      rw [hex.out]
      have hgt := Plain.get_err (s.data.toList.drop p)
      obtain ⟨c, n, er, hg⟩ : ∃ c n er, Plain.get (s.data.toList.drop p) = (c, n, er) := ⟨_, _, _, rfl⟩
      rw [hg] at hgt ⊢
      simp only at hgt
      have Hg : Hid (Plain.get (s.data.toList.drop p) = (c, n, er)) := hg
      clear hg hsz
      unfold out
      simp only
      by_cases her : er = 0
      · subst her
        clear hgt
        obtain ⟨hp', hn, hc, hnb⟩ := Hp.out.step Hg.out
        have hroom := Hroom.out _ _ hp'
        have hpl : p + n ≤ s.size := by have := hp'.le; rw [Array.length_toList] at this; exact this
        have Hp' : Hid (Plain.Part s.data.toList (cs ++ [c]) (p + n)) := hp'
        clear hp' hnb
        have hcl : (cs ++ [c]).length = cs.length + 1 := by simp
        go_wp2_with (at_builtin; refine wpList_append_own _ rfl _ _ 22 rfl w.heap.size 3 i0 (.int .i64 0) 1 8 Try.underlying22 hi hz0 hz1 hz2 rfl (by decide) _ _ _ rfl (hown1.alloc _) ⟨w1.heap.size, 0, none⟩ 1 1 [.int .i64 (c : Int)] rfl rfl ?c1 ?c2 ?c3 ?c4 ?c5 ?_)
        case c1 =>
          intro j u hj
          match j, hj with
          | 0, hj => simp at hj; subst hj; simp [Addr.add]
        case c2 => intro u hu; simp at hu; subst hu; rfl
        case c3 => unfold maxLen; omega
        case c4 => omega
        case c5 => have := hb1.size; simp; omega
        intro v' w2 hown' hgrow _
        have hb2 : Below w.heap.size w w2 := (hb1.alloc hb1.size _).grown hgrow (by have := hb1.size; simp; omega) (fun j hj => (hown1.lt j hj).1)
        have hown2 : w2.ownsRow w.heap.size 3 1 v' (cs ++ [c]).length (ints (cs ++ [c])) := by
          unfold ints at hown' ⊢
          rw [List.map_append, hcl]
          exact hown'
        clear hown' hgrow hown1 hb1
        go_wp2_with fail
        go_roundw
        case rel => exact ⟨cs ++ [c], p + n, by go_num, hpl, Hp'.out, hown2, hb2⟩
        case measure => simp [intOf]; omega
      · have her2 : ((er : Int) == 0) = false := by simp; omega
        have Hgt : Hid (er = 0 ∨ (c, n, er) = (0, 0, er)) := hgt
        clear hgt
        go_wp2_with fail
        go_ret3
        refine ⟨hb1, cs, p, er, _, Hp.out, rfl, .inr ⟨her, ?_, ?_, rfl⟩⟩
        · rw [Array.length_toList]; exact hlt
        · rw [Hg.out]
    · go_wp2_with fail
      go_ret3
      refine ⟨hb, cs, p, 0, _, Hp.out, rfl, .inl ⟨rfl, ?_, hown⟩⟩
      rw [Array.length_toList]
      show p = s.size
      omega

theorem part_le {l : List UInt8} {cs ds : List Nat} {p q : Nat} (hp : Plain.Part l cs p) (hq : Plain.Part l ds q) (hle : p ≤ q) (he : p = l.length ∨ (Plain.get (l.drop p)).2.2 ≠ 0) : cs = ds ∧ p = q := by
  have h1 : Plain.text cs ++ (l.drop p).take (q - p) = Plain.text ds := by
    rw [← hp.is, ← hq.is]
    have h2 : l.take q = l.take (p + (q - p)) := by rw [show p + (q - p) = q from by omega]
    rw [h2, List.take_add]
  obtain ⟨es, e1, e2⟩ := Plain.text_split cs ds _ hp.oks hq.oks h1
  cases es with
  | nil =>
    rw [List.append_nil] at e1
    subst e1
    exact ⟨rfl, hp.size.trans hq.size.symm⟩
  | cons e es =>
    exfalso
    have hoks : Plain.Oks (e :: es) := fun x hx => hq.oks x (by rw [e1]; exact List.mem_append_right _ hx)
    rcases he with he | he
    · rw [he, List.drop_length, List.take_nil] at e2
      have := congrArg List.length e2
      rw [Plain.text_cons, List.length_append] at this
      have := Plain.bytes_pos e
      simp at *
      omega
    · have h3 : l.drop p = Plain.text (e :: es) ++ (l.drop p).drop (q - p) := by rw [← e2, List.take_append_drop]
      rw [h3, Plain.text_cons, List.append_assoc, Plain.get_bytes e hoks.head] at he
      exact he rfl
theorem part_one {l : List UInt8} {cs ds : List Nat} {p q : Nat} (hp : Plain.Part l cs p) (hq : Plain.Part l ds q) (he : p = l.length ∨ (Plain.get (l.drop p)).2.2 ≠ 0) (hf : q = l.length ∨ (Plain.get (l.drop q)).2.2 ≠ 0) : cs = ds ∧ p = q := by
  rcases Nat.le_total p q with h | h
  · exact part_le hp hq h he
  · obtain ⟨a, b⟩ := part_le hq hp h hf
    exact ⟨a.symm, b.symm⟩

/-- What is told of a list of bytes: the characters, the place, the error. -/
structure Told (l : List UInt8) (cs : List Nat) (p er : Nat) : Prop where
  part : Plain.Part l cs p
  fits : (er = 0 ∧ p = l.length) ∨ (er ≠ 0 ∧ p < l.length ∧ er = (Plain.get (l.drop p)).2.2)
theorem Told.ends {l : List UInt8} {cs : List Nat} {p er : Nat} (h : Told l cs p er) : p = l.length ∨ (Plain.get (l.drop p)).2.2 ≠ 0 := by
  rcases h.fits with ⟨_, h⟩ | ⟨h0, _, h1⟩
  · exact .inl h
  · exact .inr (h1 ▸ h0)
theorem Told.one {l : List UInt8} {cs ds : List Nat} {p q er fr : Nat} (h : Told l cs p er) (k : Told l ds q fr) : cs = ds ∧ p = q ∧ er = fr := by
  obtain ⟨rfl, rfl⟩ := part_one h.part k.part h.ends k.ends
  refine ⟨rfl, rfl, ?_⟩
  rcases h.fits with ⟨a, b⟩ | ⟨a, b, c⟩ <;> rcases k.fits with ⟨a', b'⟩ | ⟨a', b', c'⟩ <;> omega

/-- The numbers of the slice that is told. -/
def given (cs : List Nat) (er : Nat) : List Int := if er = 0 then casts cs else []
theorem all_told {l : List UInt8} {w w' : World} {e : Ending} (h : AllPost l w e w') :
    Below w.heap.size w w' ∧ ∃ (cs : List Nat) (p er : Nat) (v : Value), Told l cs p er ∧ e = .returned (.tuple #[v, .int .i64 (p : Int), .int .i64 (er : Int)]) ∧ Reads w' v (given cs er) := by
  obtain ⟨hb, cs, p, er, v, hp, he, hc⟩ := h
  refine ⟨hb, cs, p, er, v, ⟨hp, ?_⟩, he, ?_⟩
  · rcases hc with ⟨a, b, _⟩ | ⟨a, b, c, _⟩
    · exact .inl ⟨a, b⟩
    · exact .inr ⟨a, b, c⟩
  · unfold given
    rcases hc with ⟨a, b, c⟩ | ⟨a, b, c, d⟩
    · rw [if_pos a]; exact owned_reads c
    · rw [if_neg a]; exact .inl ⟨none, 0, d, rfl⟩
theorem count_told {l : List UInt8} {w w' : World} {e : Ending} (h : CountPost l w e w') :
    Below w.heap.size w w' ∧ ∃ (cs : List Nat) (p er : Nat), Told l cs p er ∧ e = .returned (.tuple #[.int .i64 ((given cs er).length : Int), .int .i64 (er : Int)]) := by
  obtain ⟨hb, cs, p, er, hp, hc⟩ := h
  refine ⟨hb, cs, p, er, ⟨hp, ?_⟩, ?_⟩
  · rcases hc with ⟨a, b, _⟩ | ⟨a, b, c, _⟩
    · exact .inl ⟨a, b⟩
    · exact .inr ⟨a, b, c⟩
  · unfold given
    rcases hc with ⟨a, b, c⟩ | ⟨a, b, c, d⟩
    · rw [if_pos a, casts_len, a]; exact c
    · rw [if_neg a]; exact d
end Go.Proofs.Ytdhoackhjojobaa.Utf
