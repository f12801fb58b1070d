/- The contract of Count over the translation: how many characters a string has, or the first error. -/
import Derived.Test.YtdhoackhjojobaaAll
import Derived.Test.YtdhoackhjojobaaRange
set_option linter.unusedVariables false
namespace Go.Proofs.Ytdhoackhjojobaa.Utf
open Go.RowKit

/-- Count's answer. -/
def CountPost (l : List UInt8) (w : World) (e : Ending) (w' : World) : Prop :=
  Below w.heap.size w w' ∧ ∃ (cs : List Nat) (p er : Nat), Plain.Part l cs p ∧
    ((er = 0 ∧ p = l.length ∧ e = .returned (.tuple #[.int .i64 (cs.length : Int), .int .i64 0])) ∨ (er ≠ 0 ∧ p < l.length ∧ er = (Plain.get (l.drop p)).2.2 ∧ e = .returned (.tuple #[.int .i64 0, .int .i64 (er : Int)])))

theorem iter_below (w : World) (q : Nat) (s : ByteArray) (p : Nat) : Below w.heap.size w ((w.drewN q).iter s p) :=
  ⟨rfl, rfl, rfl, by simp [World.iter], fun k hk => Below.heap_alloc (w.drewN q) _ k hk⟩

theorem iter_drewN (w : World) (q q1 : Nat) (s : ByteArray) (p : Nat) : ((w.drewN q).iter s p).drewN q1 = (w.drewN (q + q1)).iter s p := by
  simp [World.iter, World.alloc, World.drewN, Nat.add_assoc]

set_option maxHeartbeats 1000000 in
theorem count_any (s : ByteArray) (w : World) (hs : s.size ≤ 9223372036854775807) :
    Calls Try.prog 15 #[.string s] w fun e w' => CountPost s.data.toList w e w' := by
  go_enter Try.func15, Try.ntmps15
  go_wp2_with fail
  go_loopw [4] (fun v wr => ∃ (q : Nat) (cs : List Nat) (p : Nat), wr = (w.drewN q).iter s p ∧ v = .int .i64 (cs.length : Int) ∧ p ≤ s.size ∧ cs.length ≤ p ∧ Hid (Plain.Part s.data.toList cs p))
    (fun _ wr => s.size - wr.iterPos w.heap.size)
  case atStart => exact ⟨0, [], 0, rfl, rfl, Nat.zero_le _, Nat.zero_le _, Plain.Part.zero _⟩
  case round =>
    obtain ⟨q, cs, p, rfl, rfl, hp, hcl, Hp⟩ := hrel
    by_cases hlt : p < s.size
    · have hnx : ∀ ty, (Instr.next (.pointer (some ⟨w.heap.size, 0, none⟩)) true ty).run Try.prog ((w.drewN q).iter s p) =
          .ok (.tuple #[.bool true, .int .i64 p, .int .i32 (Utf8.decode s p).1]) ((w.drewN q).iter s (p + (Utf8.decode s p).2)) := fun ty => run_next_any (P := Try.prog) (w.drewN q) s p ty hlt
      obtain ⟨c, n, er, hg⟩ : ∃ c n er, Plain.get (s.data.toList.drop p) = (c, n, er) := ⟨_, _, _, rfl⟩
      have Hg : Hid (Plain.get (s.data.toList.drop p) = (c, n, er)) := hg
      have hex : Hid ((s.extract p s.size).data.toList = s.data.toList.drop p) := extract_drop s p
      have hsz : (s.extract p s.size).size ≤ 9223372036854775807 := by rw [ByteArray.size_extract]; omega
      by_cases her : er = 0
      · subst her
        rw [Plain.decode_get_ok s p c n hg] at hnx
        simp only at hnx
        obtain ⟨hp', hn, hc, hnb⟩ := Hp.out.step hg
        have hpl : p + n ≤ s.size := by have := hp'.le; rw [Array.length_toList] at this; exact this
        have hcl2 : (cs ++ [c]).length = cs.length + 1 := by simp
        have Hcl : Hid ((cs ++ [c]).length = cs.length + 1) := hcl2
        have Hp' : Hid (Plain.Part s.data.toList (cs ++ [c]) (p + n)) := hp'
        clear hp' hnb hg hcl2 hc
        by_cases hbad : c = 65533
        · subst hbad
          go_wp2_with fail
          refine (get_any _ _ hsz).mono ?_
          rintro e w1 ⟨rfl, q1, rfl⟩
          rw [hex.out, Hg.out]
          unfold out
          simp only
          have hw1 : ((w.drewN q).iter s (p + n)).drewN q1 = (w.drewN (q + q1)).iter s (p + n) := iter_drewN w q q1 s (p + n)
          rw [hw1]
          clear hnx
          go_wp2_with fail
          refine ⟨⟨q + q1, cs ++ [65533], p + n, rfl, by rw [Hcl.out]; go_num, hpl, by rw [Hcl.out]; omega, Hp'.out⟩, ?_⟩
          rw [show w.heap.size = (w.drewN (q + q1)).heap.size from rfl, World.iterPos_iter]
          rw [show (w.drewN (q + q1)).heap.size = (w.drewN q).heap.size from rfl, World.iterPos_iter]
          omega
        · have hb2 : ((c : Int) == 65533) = false := by simp; omega
          go_wp2_with fail
          refine ⟨⟨q, cs ++ [c], p + n, rfl, by rw [Hcl.out]; go_num, hpl, by rw [Hcl.out]; omega, Hp'.out⟩, ?_⟩
          rw [show w.heap.size = (w.drewN q).heap.size from rfl, World.iterPos_iter, World.iterPos_iter]
          omega
      · rw [Plain.decode_get_bad s p hlt (by rw [hg]; exact her)] at hnx
        simp only at hnx
        clear hg
        go_wp2_with fail
        refine (get_any _ _ hsz).mono ?_
        rintro e w1 ⟨rfl, q1, rfl⟩
        rw [hex.out, Hg.out]
        unfold out
        simp only
        have hw1 : ((w.drewN q).iter s (p + 1)).drewN q1 = (w.drewN (q + q1)).iter s (p + 1) := iter_drewN w q q1 s (p + 1)
        rw [hw1]
        have her2 : ((er : Int) == 0) = false := by simp; omega
        clear hnx
        go_wp2_with fail
        go_ret2
        refine ⟨iter_below _ _ _ _, cs, p, er, Hp.out, .inr ⟨her, ?_, ?_, rfl⟩⟩
        · rw [Array.length_toList]; exact hlt
        · rw [Hg.out]
    · have hnx : ∀ ty, (Instr.next (.pointer (some ⟨w.heap.size, 0, none⟩)) true ty).run Try.prog ((w.drewN q).iter s p) =
          .ok (.tuple #[.bool false]) ((w.drewN q).iter s p) := fun ty => run_next_end (P := Try.prog) (w.drewN q) s p ty hlt
      go_wp2_with fail
      go_ret2
      refine ⟨iter_below _ _ _ _, cs, p, 0, Hp.out, .inl ⟨rfl, ?_, rfl⟩⟩
      rw [Array.length_toList]
      show p = s.size
      omega
end Go.Proofs.Ytdhoackhjojobaa.Utf
