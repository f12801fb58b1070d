/- The contracts of mark.moved and mark.Move. -/
import Derived.Test.YteggadicomighaaCheckGo
import Derived.Test.YteggadicomighaaAppends
import Derived.Test.YteggadicomighaaMarks
set_option linter.unusedVariables false
set_option linter.unusedSimpArgs false
namespace Go.Proofs.Yteggadicomighaa.Seek
open Go.RowKit Plain

theorem take_more (ns : List Nsp) (k : Nat) (s : Nsp) (h : ns[k]? = some s) : ns.take (k + 1) = ns.take k ++ [s] := by rw [List.take_add_one, h]; rfl
/-- Where place k is behind the first j splices. -/
def mvs (ns : List Nsp) (k : Nat) (stick : Bool) (j : Nat) : Int := mvd (ns.take j) k stick
theorem mvs_more (ns : List Nsp) (k : Nat) (stick : Bool) (j : Nat) (s : Nsp) (h : ns[j]? = some s) :
    mvs ns k stick (j + 1) = mvs ns k stick j - ((min s.2.1 k - s.1 : Nat) : Int) + (if comes k stick s then (s.2.2.length : Int) else 0) := by
  unfold mvs mvd
  rw [take_more ns j s h, lost_append, come_append, lost_cons, come_cons]
  have e1 : lost k [] = 0 := rfl
  have e2 : come k stick [] = 0 := rfl
  rw [e1, e2]
  split <;> omega
theorem mvs_range {n : Nat} {ns : List Nsp} (h : Fits n ns) (k : Nat) (stick : Bool) (j : Nat) (hk : k ≤ n) : 0 ≤ mvs ns k stick j ∧ mvs ns k stick j ≤ 8192 := by
  have e1 : lost k ns = lost k (ns.take j) + lost k (ns.drop j) := by rw [← lost_append, List.take_append_drop]
  have e2 : come k stick ns = come k stick (ns.take j) + come k stick (ns.drop j) := by rw [← come_append, List.take_append_drop]
  have h1 := lost_le h.2.1 k
  have h2 := come_le k stick ns
  have h3 := h.puts_le
  have h4 := h.1
  unfold mvs mvd
  omega
/-- Behind the first splice that begins behind k nothing moves it. -/
theorem mvs_far {n : Nat} {ns : List Nsp} (h : Okay n 0 ns) (k : Nat) (stick : Bool) (j : Nat) (s : Nsp) (hj : ns[j]? = some s) (hf : k < s.1) : mvs ns k stick j = mvd ns k stick := by
  have hlt : j < ns.length := (List.getElem?_eq_some_iff.1 hj).1
  have hd : ns.drop j = s :: ns.drop (j + 1) := by
    rw [List.drop_eq_getElem_cons hlt]
    rw [List.getElem?_eq_getElem hlt] at hj
    rw [Option.some.inj hj]
  have far : ∀ q ∈ ns.drop j, k < q.1 := by
    have ho : Okay n 0 (ns.drop j) := h.drop j
    rw [hd] at ho ⊢
    obtain ⟨_, h2, _, _, h5⟩ := ho
    intro q hq
    rcases List.mem_cons.1 hq with rfl | hq
    · exact hf
    · have := h5.least q hq
      omega
  have e1 : lost k ns = lost k (ns.take j) + lost k (ns.drop j) := by rw [← lost_append, List.take_append_drop]
  have e2 : come k stick ns = come k stick (ns.take j) + come k stick (ns.drop j) := by rw [← come_append, List.take_append_drop]
  rw [lost_far k _ far] at e1
  rw [come_far k stick _ far] at e2
  unfold mvs mvd
  omega

set_option maxHeartbeats 4000000 in
theorem moved_any (v : Value) (ns : List Nsp) (n k : Nat) (stick : Bool) (w : World) (h2 : ReadsE w v (ups ns)) (hF : Fits n ns) (hk : k ≤ n) :
    Calls Try.prog 19 #[v, .int .i64 (k : Int), .bool stick] w fun e w' => e = .returned (.int .i64 (mvd ns k stick)) ∧ Below w.heap.size w w' := by
  obtain ⟨a2, cap2, rfl⟩ := h2.shape
  rw [ups_len] at h2 ⊢
  have HE1 : Hid (∀ j, j < ns.length → ∃ b off, a2 = some ⟨b, off, none⟩ ∧ b < w.heap.size ∧ SplAt w b (off + j * 3) ((ups ns).getD j spl0)) := by
    have h3 : ReadsE w (.slice a2 (ups ns).length cap2) (ups ns) := by rw [ups_len]; exact h2
    intro j hj
    exact h3.each j (by rw [ups_len]; exact hj)
  have hcnt := hF.2.1.count
  have hn := hF.1
  have HF : Hid (Fits n ns) := hF
  clear h2 hF
  obtain ⟨R, hR⟩ : ∃ R, R = mvd ns k stick := ⟨_, rfl⟩
  have HR : Hid (R = mvd ns k stick) := hR
  rw [← hR]
  clear hR
  go_enter Try.func19, Try.ntmps19
  go_wp2_with fail
  go_loopw [7, 14] (fun u7 u14 wr => ∃ (j : Nat) (A : Int), u14 = .int .i64 (j : Int) ∧ u7 = .int .i64 A ∧ j ≤ ns.length ∧ 0 ≤ A ∧ A ≤ 8192 ∧ Hid (A = mvs ns k stick j) ∧ Hid (Below w.heap.size w wr))
    (fun _ u14 _ => ns.length - (intOf u14).toNat)
  case atStart =>
    have e : mvs ns k stick 0 = (k : Int) := by
      show (k : Int) - ((0 : Nat) : Int) + ((0 : Nat) : Int) = k
      omega
    exact ⟨0, (k : Int), rfl, rfl, Nat.zero_le _, by omega, by omega, e.symm, Below.refl _ _⟩
  case round =>
    obtain ⟨j, A, rfl, rfl, hj, hA0, hA1, HA, Hb⟩ := hrel
    have hbs := Hb.out.size
    by_cases hlt : j < ns.length
    · obtain ⟨s, hs1, hs2, hs3⟩ := ups_at ns j hlt
      obtain ⟨b, off, hae, hbl, hsp⟩ := HE1.out j hlt
      subst hae
      have hsp2 := hsp.below Hb.out hbl
      rw [hs2] at hsp2
      obtain ⟨g1, g2, g3⟩ := HF.out.2.1.at_ j hs3
      have HN : Hid (mvs ns k stick (j + 1) = A - ((min s.2.1 k - s.1 : Nat) : Int) + (if comes k stick s then (s.2.2.length : Int) else 0)) := by
        show _ = _
        rw [mvs_more ns k stick j s hs3, HA.out]
      have HG : Hid (0 ≤ mvs ns k stick (j + 1) ∧ mvs ns k stick (j + 1) ≤ 8192) := mvs_range HF.out k stick (j + 1) hk
      have HFar : Hid (k < s.1 → A = R) := fun hf => by rw [HA.out, HR.out]; exact mvs_far HF.out.2.1 k stick j s hs3 hf
      have hx : s.2.2.length ≤ 4096 := Nat.le_trans (puts_mem (List.mem_of_getElem? hs3)) HF.out.puts_le
      clear hs1 hs2 hs3 hsp HA
      obtain ⟨f, t, x⟩ := s
      obtain ⟨c0, c1, _, a3, cap3, c2, _⟩ := hsp2
      simp only [up] at c0 c1 c2
      simp only at g2 g3 hx
      have HbA : Hid (Below w.heap.size w (wr.alloc (.cells #[.int .i64 (f : Int), .int .i64 (t : Int), .slice a3 x.length cap3] 37))) := Hb.out.alloc hbs _
      by_cases hf : k < f
      · have HE : Hid (A = R) := HFar.out hf
        go_wp2_with fail
        go_ret
        exact ⟨by rw [HE.out]; rfl, HbA.out⟩
      · clear HFar
        by_cases htk : t ≤ k
        · have HD : Hid (mvs ns k stick (j + 1) = A - ((t : Int) - (f : Int)) + (if (!stick || decide (f < k)) = true then (x.length : Int) else 0)) := by
            show _ = _
            rw [HN.out]
            have e1 : ((min t k - f : Nat) : Int) = (t : Int) - (f : Int) := by omega
            have e2 : comes k stick (f, t, x) = (!stick || decide (f < k)) := by
              unfold comes
              simp only
              rw [decide_eq_true htk, decide_eq_true (by omega : f ≤ k), Bool.and_true, Bool.and_true, Bool.or_comm]
            simp only
            rw [e1, e2]
          clear HN
          by_cases hfk : f < k
          · rw [decide_eq_true hfk, Bool.or_true, if_pos rfl] at HD
            go_wp2_with fail
            all_goals first
              | (exfalso; omega)
              | (go_roundw
                 case rel => exact ⟨j + 1, A - ((t : Int) - (f : Int)) + (x.length : Int), by go_num, rfl, by omega, by have := HG.out; have := HD.out; omega, by have := HG.out; have := HD.out; omega, HD.out.symm, HbA.out⟩
                 case measure => simp [intOf] <;> omega)
          · rw [decide_eq_false hfk, Bool.or_false] at HD
            cases stick with
            | true =>
              rw [if_neg (by decide)] at HD
              go_wp2_with fail
              all_goals first
                | (exfalso; omega)
                | (go_roundw
                   case rel => exact ⟨j + 1, A - ((t : Int) - (f : Int)), by go_num, by first | rfl | (congr 1; omega), by omega, by have := HG.out; have := HD.out; omega, by have := HG.out; have := HD.out; omega, by have := HD.out; show _ = _; omega, HbA.out⟩
                   case measure => simp [intOf] <;> omega)
            | false =>
              rw [if_pos (by decide)] at HD
              go_wp2_with fail
              all_goals first
                | (exfalso; omega)
                | (go_roundw
                   case rel => exact ⟨j + 1, A - ((t : Int) - (f : Int)) + (x.length : Int), by go_num, by first | rfl | (congr 1; omega), by omega, by have := HG.out; have := HD.out; omega, by have := HG.out; have := HD.out; omega, HD.out.symm, HbA.out⟩
                   case measure => simp [intOf] <;> omega)
        · have HD : Hid (mvs ns k stick (j + 1) = A - ((k : Int) - (f : Int)) + (if (!stick) = true then (x.length : Int) else 0)) := by
            show _ = _
            rw [HN.out]
            have e1 : ((min t k - f : Nat) : Int) = (k : Int) - (f : Int) := by omega
            have e2 : comes k stick (f, t, x) = (!stick) := by
              unfold comes
              simp only
              rw [decide_eq_false htk, decide_eq_true (by omega : f ≤ k), Bool.and_false, Bool.and_true, Bool.false_or]
            simp only
            rw [e1, e2]
          clear HN
          cases stick with
          | true =>
            rw [if_neg (by decide)] at HD
            go_wp2_with fail
            all_goals first
              | (exfalso; omega)
              | (go_roundw
                 case rel => exact ⟨j + 1, A - ((k : Int) - (f : Int)), by go_num, by first | rfl | (congr 1; omega), by omega, by have := HG.out; have := HD.out; omega, by have := HG.out; have := HD.out; omega, by have := HD.out; show _ = _; omega, HbA.out⟩
                 case measure => simp [intOf] <;> omega)
          | false =>
            rw [if_pos (by decide)] at HD
            go_wp2_with fail
            all_goals first
              | (exfalso; omega)
              | (go_roundw
                 case rel => exact ⟨j + 1, A - ((k : Int) - (f : Int)) + (x.length : Int), by go_num, by first | rfl | (congr 1; omega), by omega, by have := HG.out; have := HD.out; omega, by have := HG.out; have := HD.out; omega, HD.out.symm, HbA.out⟩
                 case measure => simp [intOf] <;> omega)
    · obtain rfl : j = ns.length := by omega
      have HE : Hid (A = R) := by
        show A = R
        rw [HA.out, HR.out]
        unfold mvs
        rw [List.take_length]
      clear HA
      go_wp2_with fail
      go_ret
      exact ⟨by rw [HE.out]; rfl, Hb.out⟩

theorem move_err (n : Int) (v : Value) (es : List Spl) (k : Int) (stick : Bool) (w : World) (h2 : ReadsE w v es) (hc : chk n es ≠ 0) :
    Calls Try.prog 7 #[.int .i64 n, v, .int .i64 k, .bool stick] w fun e w' => e = .returned (.tuple #[.int .i64 0, .int .i64 (chk n es)]) ∧ Below w.heap.size w w' := by
  obtain ⟨c, hC⟩ : ∃ c, c = chk n es := ⟨_, rfl⟩
  rw [← hC] at hc ⊢
  have HC : Hid (c = chk n es) := hC
  have H2 : Hid (ReadsE w v es) := h2
  have hcb : (c != 0) = true := by simpa using hc
  clear h2 hC hc
  go_enter Try.func7, Try.ntmps7
  go_wp2_with fail
  refine (check_any _ _ es w H2.out).mono ?_
  rw [← HC.out]
  rintro e w1 ⟨rfl, hb1⟩
  go_wp2_with fail
  go_ret2
  exact ⟨rfl, hb1⟩
theorem move_arg (n : Int) (v : Value) (es : List Spl) (k : Int) (stick : Bool) (w : World) (h2 : ReadsE w v es) (hc : chk n es = 0) (hk : k < 0 ∨ k > n) :
    Calls Try.prog 7 #[.int .i64 n, v, .int .i64 k, .bool stick] w fun e w' => e = .returned (.tuple #[.int .i64 0, .int .i64 1]) ∧ Below w.heap.size w w' := by
  have HC : Hid (chk n es = 0) := hc
  have H2 : Hid (ReadsE w v es) := h2
  clear h2 hc
  go_enter Try.func7, Try.ntmps7
  go_wp2_with fail
  refine (check_any _ _ es w H2.out).mono ?_
  rw [HC.out]
  rintro e w1 ⟨rfl, hb1⟩
  go_wp2_with fail
  all_goals first
    | (go_ret2; exact ⟨rfl, hb1⟩)
    | (exfalso; omega)
theorem move_ok (v : Value) (ns : List Nsp) (n k : Nat) (stick : Bool) (w : World) (h2 : ReadsE w v (ups ns)) (hF : Fits n ns) (hk : k ≤ n) :
    Calls Try.prog 7 #[.int .i64 (n : Int), v, .int .i64 (k : Int), .bool stick] w fun e w' => e = .returned (.tuple #[.int .i64 (mvd ns k stick), .int .i64 0]) ∧ Below w.heap.size w w' := by
  have HC : Hid (chk (n : Int) (ups ns) = 0) := hF.chk
  have H2 : Hid (ReadsE w v (ups ns)) := h2
  have HF : Hid (Fits n ns) := hF
  have hn := hF.1
  clear h2 hF
  go_enter Try.func7, Try.ntmps7
  go_wp2_with fail
  refine (check_any _ _ (ups ns) w H2.out).mono ?_
  rw [HC.out]
  rintro e w1 ⟨rfl, hb1⟩
  have HB1 : Hid (Below w.heap.size w w1) := hb1
  have H21 : Hid (ReadsE w1 v (ups ns)) := H2.out.below hb1
  clear hb1
  go_wp2_with fail
  refine (moved_any v ns n k stick w1 H21.out HF.out hk).mono ?_
  rintro e w2 ⟨rfl, hb2⟩
  have HB2 : Hid (Below w.heap.size w w2) := below_trans HB1.out hb2 HB1.out.size
  clear hb2
  go_wp2_with fail
  go_ret2
  exact ⟨rfl, HB2.out⟩
end Go.Proofs.Yteggadicomighaa.Seek
