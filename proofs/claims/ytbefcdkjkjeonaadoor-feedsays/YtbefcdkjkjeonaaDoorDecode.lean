/- The contract of the document's Decode: what is pending, and the characters. -/
import Derived.Test.YtbefcdkjkjeonaaDoorBegins
import Derived.Deep.RegionLaw
set_option linter.unusedVariables false
set_option linter.unusedSimpArgs false
namespace Go.Proofs.YtbefcdkjkjeonaaDoor.Plain
/-- How many bytes the document's loop has found, ahead of its place k. -/
def nbf (l : List UInt8) (k : Nat) : Nat := if 4 ≤ k ∧ full (l.take 3) = false then 3 else if 3 ≤ k ∧ full (l.take 2) = false then 2 else 1
theorem full_take {l : List UInt8} {a b : Nat} (h : a ≤ b) (hf : full (l.take a) = true) : full (l.take b) = true := by
  have e : l.take b = l.take a ++ (l.take b).drop a := by
    conv => lhs; rw [← List.take_append_drop a (l.take b)]
    rw [List.take_take, Nat.min_eq_left h]
  rw [e]
  exact full_append _ _ hf
theorem nbf_two (l : List UInt8) : nbf l 2 = 1 := by
  unfold nbf
  rw [if_neg (by omega), if_neg (by omega)]
theorem nbf_step (l : List UInt8) (k : Nat) (h2 : 2 ≤ k) (h3 : k ≤ 3) : nbf l (k + 1) = if full (l.take k) = false then k else nbf l k := by
  unfold nbf
  rcases (by omega : k = 2 ∨ k = 3) with rfl | rfl
  · simp
  · simp
theorem nbf_done (l : List UInt8) (k : Nat) (hf : full l = true) (h2 : 2 ≤ k) (h4 : k ≤ 4) (hk : k = 4 ∨ l.length ≤ k) : nbf l k = bad l := by
  unfold nbf bad
  rcases (by omega : k = 2 ∨ k = 3 ∨ k = 4) with rfl | rfl | rfl
  · rw [List.take_of_length_le (i := 2) (by omega), hf]
    simp
  · rw [List.take_of_length_le (i := 3) (by omega), hf]
    cases full (l.take 2) <;> simp
  · cases h : full (l.take 2) with
    | true =>
      rw [full_take (by omega) h]
      simp
    | false =>
      cases full (l.take 3) <;> simp
theorem nbf_le (l : List UInt8) (k : Nat) : 1 ≤ nbf l k ∧ nbf l k ≤ 3 := by
  unfold nbf
  repeat' split
  all_goals omega
end Go.Proofs.YtbefcdkjkjeonaaDoor.Plain
namespace Go.Proofs.YtbefcdkjkjeonaaDoor.Utf
open Go.RowKit

/-- One number more, as a step of a region that draws its order. -/
theorem step_push {ops : Array Oper} {o : Oper} {a : Act} {w : World} {K : Act → World → Prop} {Q : Exit → Act → World → Prop} {E : Prop}
    (hg : o.guard = none) (s x : Operand) (hop : o.op = Op.call { callee := Callee.builtin Builtin.append, args := #[s, x], argTypes := #[23, 23] })
    (B : Nat) (v : Value) (cs : List Nat) (c : Nat) (g : Nat) (hs : a.eval s = v) (hx : a.eval x = .slice (some ⟨g, 0, none⟩) 1 1)
    (hown : w.ownsRow B 3 1 v cs.length (ints cs)) (hc : w.cell? ⟨g, 0, none⟩ = some (.int .i64 (c : Int))) (hroom : (cs.length + 1) * 8 ≤ 140737488355328) (hbase : B ≤ w.heap.size)
    (hK : ∀ v' w', w'.ownsRow B 3 1 v' (cs ++ [c]).length (ints (cs ++ [c])) → Below B w w' → K (a.put o.dst v') w') :
    if Region.wanted o (yielded ops a.tmps) = true then Oper.wp Tryd.prog o a w K Q else E := by
  obtain ⟨i0, hi, hz0, hz1, hz2⟩ := info_parts info3
  have hw : Region.wanted o (yielded ops a.tmps) = true := by simp [Region.wanted, hg]
  rw [if_pos hw]
  refine wp_append_own w s x 23 hop B 3 i0 (.int .i64 0) 1 8 Tryd.underlying23 hi hz0 hz1 hz2 rfl (by decide) v cs.length (ints cs) hs hown ⟨g, 0, none⟩ 1 1 [.int .i64 (c : Int)] hx rfl ?_ ?_ (by unfold maxLen; omega) hroom hbase ?_
  · intro j u hj
    match j, hj with
    | 0, hj => simp at hj; subst hj; simpa [Addr.add] using hc
  · intro u hu
    simp at hu
    subst hu
    rfl
  · intro v' w' hown' hgrow _
    refine hK v' w' ?_ ((Below.refl _ _).grown hgrow hbase (fun j hj => (hown.lt j hj).1))
    unfold ints at hown' ⊢
    rw [List.map_append, List.length_append]
    exact hown'
theorem cell_new (w : World) (c : Int) : (w.alloc (.cells #[.int .i64 c] 3)).cell? ⟨w.heap.size, 0, none⟩ = some (.int .i64 c) := by simp

/-- Decode's answer. -/
def DecodePost (l : List UInt8) (w : World) (e : Ending) (w' : World) : Prop :=
  Below w.heap.size w w' ∧ ∃ cs m v, Plain.Dec cs l m ∧ e = .returned (.tuple #[str m, v]) ∧ w'.ownsRow w.heap.size 3 1 v cs.length (ints cs)
theorem below_drew {w w1 : World} {B : Nat} (h : Below B w w1) : Below B w w1.drew := ⟨h.os, h.tape, h.output, h.size, h.block⟩

set_option maxHeartbeats 4000000 in
set_option maxRecDepth 100000 in
theorem decode_any (s : ByteArray) (w : World) (hs : s.size ≤ 4099) :
    Calls Tryd.prog 11 #[.string s] w fun e w' => DecodePost s.data.toList w e w' := by
  go_enter Tryd.func11, Tryd.ntmps11
  go_wp2_with fail
  go_loopw [0, 4] (fun lf v wr => ∃ (cs : List Nat) (t : ByteArray), lf = .string t ∧ t.size ≤ 4099 ∧ cs.length + t.size ≤ 4099 ∧ Hid (Plain.Takes cs s.data.toList t.data.toList) ∧ wr.ownsRow w.heap.size 3 1 v cs.length (ints cs) ∧ Below w.heap.size w wr)
    (fun lf _ _ => sizeOf' lf)
  case atStart => exact ⟨[], s, rfl, hs, by simpa using hs, rfl, World.ownsRow_nil _ _ _ _, Below.refl _ _⟩
  case round =>
    obtain ⟨cs, t, rfl, ht, hct, Ht, hown, hb⟩ := hrel
    by_cases h0 : t.size = 0
    · obtain rfl := is_nil t h0
      go_wp2_with fail
      go_ret2
      exact ⟨hb, cs, [], _, ⟨Ht.out, rfl⟩, rfl, hown⟩
    · have hne := not_nil t (by omega)
      go_wp2_with fail
      refine (rget_any t _ (by omega)).mono ?_
      rintro e w1 ⟨rfl, hb1⟩
      have hown1 := owned_below hown hb1
      have hbw := below_trans hb hb1
      clear hb1 hb hown
      have hbs := hbw.size
      obtain ⟨c, n, er, hg⟩ : ∃ c n er, Plain.get t.data.toList = (c, n, er) := ⟨_, _, _, rfl⟩
      rw [hg]
      have Hg : Hid (Plain.get t.data.toList = (c, n, er)) := hg
      clear hg
      unfold out
      simp only
      by_cases her : er = 0
      · subst her
        have Hq : Hid (Plain.full t.data.toList = true) := Plain.get_full _ (by rw [Hg.out])
        have hst : Plain.step t.data.toList = (c, n) := by unfold Plain.step; rw [Hg.out, if_pos rfl]
        have hsn := Ht.out.snoc Hq.out
        have hfa := Plain.step_facts _ Hq.out
        rw [hst] at hsn hfa
        rw [size_list] at hfa
        have Hsn : Hid (Plain.Takes (cs ++ [c]) s.data.toList (t.data.toList.drop n)) := hsn
        have hn1 : 1 ≤ n := hfa.2.1
        have hn2 : n ≤ t.size := hfa.2.2
        clear hst hsn hfa
        go_wp2_with fail
        go_region_law (refine step_push rfl (.tmp 20) (.tmp 22) rfl w.heap.size u4 cs c w1.heap.size (by simp [Act.eval, Act.put]) (by simp [Act.eval, Act.put]) (World.ownsRow.alloc (show w1.drew.ownsRow _ _ _ _ _ _ from hown1) _) (cell_new w1.drew _) (by omega) (by simp; omega) ?_; intro v' w5 hown5 hb5)
        have hb6 : Below w.heap.size w w5 := (below_drew (hbw.alloc hbs _)).trans hb5
        have hcl : (cs ++ [c]).length = cs.length + 1 := by simp
        clear hown1 hb5 hbw
        go_simp
        go_wp2_with fail
        go_roundw
        case rel =>
          refine ⟨cs ++ [c], t.extract n t.size, by first | rfl | go_num, by rw [ByteArray.size_extract]; omega, by rw [ByteArray.size_extract, hcl]; omega, ?_, by rw [hcl]; first | exact hown5 | (rw [hcl] at hown5; exact hown5), hb6⟩
          show Plain.Takes _ _ _
          rw [extract_drop]
          exact Hsn.out
        case measure => simp [sizeOf', ByteArray.size_extract]; omega
      · have her2 : ((er : Int) == 0) = false := by simp; omega
        have Hst : Hid (Plain.step t.data.toList = (65533, Plain.bad t.data.toList)) := by
          show _ = _
          unfold Plain.step
          rw [Hg.out, if_neg her]
        obtain ⟨f, hf⟩ : ∃ f, Plain.full t.data.toList = f := ⟨_, rfl⟩
        have Hf : Hid (Plain.full t.data.toList = f) := hf
        clear hf Hg
        go_wp2_with fail
        refine (begins_any t _ f (by omega) (by omega) Hf).mono ?_
        rintro e w2 ⟨rfl, hb2⟩
        have hown2 := owned_below hown1 hb2
        have hbw2 := below_trans hbw hb2
        have hbs2 := hbw2.size
        clear hb2 hbw hown1 hbs
        cases f with
        | false =>
          simp only [Bool.not_false]
          go_wp2_with fail
          go_ret2
          exact ⟨hbw2, cs, t.data.toList, _, ⟨Ht.out, Hf.out⟩, by rw [← str_of]; rfl, hown2⟩
        | true =>
          simp only [Bool.not_true]
          go_wp2_with fail
          go_loopw [8, 9] (fun a k wr => ∃ k' : Nat, k = .int .i64 (k' : Int) ∧ (∃ n : Nat, a = .int .i64 (n : Int) ∧ Hid (n = Plain.nbf t.data.toList k')) ∧ 2 ≤ k' ∧ k' ≤ 4 ∧ (k' = 2 ∨ k' ≤ t.size) ∧ wr.ownsRow w.heap.size 3 1 u4 cs.length (ints cs) ∧ Below w.heap.size w wr) (fun _ k _ => 4 - (intOf k).toNat)
          case atStart => exact ⟨2, rfl, ⟨1, rfl, (Plain.nbf_two _).symm⟩, by omega, by omega, .inl rfl, hown2, hbw2⟩
          case round =>
            obtain ⟨k, rfl, ⟨n, rfl, Hn⟩, hk2, hk4, hks, hown3, hbw3⟩ := hrel
            clear hown2 hbw2 hbs2
            by_cases hk3 : k ≤ 3
            · by_cases hkt : k < t.size
              · go_wp2_with fail
                have hex : Hid ((t.extract 0 k).data.toList = t.data.toList.take k) := extract_take t k
                have hexs : (t.extract 0 k).size = k := by rw [ByteArray.size_extract]; omega
                obtain ⟨g, hg⟩ : ∃ g, Plain.full (t.extract 0 k).data.toList = g := ⟨_, rfl⟩
                have Hg : Hid (Plain.full (t.extract 0 k).data.toList = g) := hg
                clear hg
                refine (begins_any (t.extract 0 k) _ g (by omega) (by omega) Hg).mono ?_
                rintro e w4 ⟨rfl, hb4⟩
                have hown4 := owned_below hown3 hb4
                have hbw4 := below_trans hbw3 hb4
                have Hnx : Hid (Plain.nbf t.data.toList (k + 1) = if g = false then k else Plain.nbf t.data.toList k) := by
                  show _ = _
                  rw [Plain.nbf_step _ k hk2 hk3, ← hex.out, Hg.out]
                clear hb4 hown3 hbw3 hex hexs Hg
                cases g with
                | false =>
                  simp only [Bool.not_false]
                  go_wp2_with fail
                  go_roundw
                  case rel => exact ⟨k + 1, by go_num, ⟨k, rfl, by rw [Hnx.out]; rfl⟩, by omega, by omega, .inr (by omega), hown4, hbw4⟩
                  case measure => simp [intOf]; omega
                | true =>
                  simp only [Bool.not_true]
                  go_wp2_with fail
                  go_roundw
                  case rel => exact ⟨k + 1, by go_num, ⟨n, rfl, by rw [Hnx.out]; exact Hn.out⟩, by omega, by omega, .inr (by omega), hown4, hbw4⟩
                  case measure => simp [intOf]; omega
              · have hnb : Plain.bad t.data.toList = n := by rw [Hn.out]; exact (Plain.nbf_done _ k Hf.out hk2 hk4 (by rw [size_list]; omega)).symm
                have hst := Hst.out
                rw [hnb] at hst
                have hsn := Ht.out.snoc Hf.out
                have hfa := Plain.step_facts _ Hf.out
                rw [hst] at hsn hfa
                rw [size_list] at hfa
                have Hsn : Hid (Plain.Takes (cs ++ [65533]) s.data.toList (t.data.toList.drop n)) := hsn
                have hn1 : 1 ≤ n := hfa.2.1
                have hn2 : n ≤ t.size := hfa.2.2
                have hbs3 := hbw3.size
                clear hst hsn hfa hnb Hst
                go_wp2_with fail
                go_region_law (refine step_push rfl (.tmp 46) (.tmp 47) rfl w.heap.size u4 cs 65533 wr.heap.size (by simp [Act.eval, Act.put]) (by simp [Act.eval, Act.put]) (World.ownsRow.alloc (show wr.drew.ownsRow _ _ _ _ _ _ from hown3) _) (cell_new wr.drew _) (by omega) (by simp; omega) ?_; intro v' w5 hown5 hb5)
                have hb6 : Below w.heap.size w w5 := (below_drew (hbw3.alloc hbs3 _)).trans hb5
                have hcl : (cs ++ [65533]).length = cs.length + 1 := by simp
                clear hown3 hb5 hbw3
                go_simp
                go_wp2_with fail
                go_roundw
                case rel =>
                  refine ⟨cs ++ [65533], t.extract n t.size, by first | rfl | go_num, by rw [ByteArray.size_extract]; omega, by rw [ByteArray.size_extract, hcl]; omega, ?_, by rw [hcl]; first | exact hown5 | (rw [hcl] at hown5; exact hown5), hb6⟩
                  show Plain.Takes _ _ _
                  rw [extract_drop]
                  exact Hsn.out
                case measure => simp [sizeOf', ByteArray.size_extract]; omega
            · have hnb : Plain.bad t.data.toList = n := by rw [Hn.out]; exact (Plain.nbf_done _ k Hf.out hk2 hk4 (by rw [size_list]; omega)).symm
              have hst := Hst.out
              rw [hnb] at hst
              have hsn := Ht.out.snoc Hf.out
              have hfa := Plain.step_facts _ Hf.out
              rw [hst] at hsn hfa
              rw [size_list] at hfa
              have Hsn : Hid (Plain.Takes (cs ++ [65533]) s.data.toList (t.data.toList.drop n)) := hsn
              have hn1 : 1 ≤ n := hfa.2.1
              have hn2 : n ≤ t.size := hfa.2.2
              have hbs3 := hbw3.size
              clear hst hsn hfa hnb Hst
              go_wp2_with fail
              go_region_law (refine step_push rfl (.tmp 46) (.tmp 47) rfl w.heap.size u4 cs 65533 wr.heap.size (by simp [Act.eval, Act.put]) (by simp [Act.eval, Act.put]) (World.ownsRow.alloc (show wr.drew.ownsRow _ _ _ _ _ _ from hown3) _) (cell_new wr.drew _) (by omega) (by simp; omega) ?_; intro v' w5 hown5 hb5)
              have hb6 : Below w.heap.size w w5 := (below_drew (hbw3.alloc hbs3 _)).trans hb5
              have hcl : (cs ++ [65533]).length = cs.length + 1 := by simp
              clear hown3 hb5 hbw3
              go_simp
              go_wp2_with fail
              go_roundw
              case rel =>
                refine ⟨cs ++ [65533], t.extract n t.size, by first | rfl | go_num, by rw [ByteArray.size_extract]; omega, by rw [ByteArray.size_extract, hcl]; omega, ?_, by rw [hcl]; first | exact hown5 | (rw [hcl] at hown5; exact hown5), hb6⟩
                show Plain.Takes _ _ _
                rw [extract_drop]
                exact Hsn.out
              case measure => simp [sizeOf', ByteArray.size_extract]; omega
end Go.Proofs.YtbefcdkjkjeonaaDoor.Utf
