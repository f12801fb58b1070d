/- The contract of the document's Moved. -/
import Derived.Test.YteggadicomighaaAtGo
import Derived.Test.YteggadicomighaaMoveGo
set_option linter.unusedVariables false
set_option linter.unusedSimpArgs false
namespace Go.Proofs.Yteggadicomighaa.Seek
open Go.RowKit Plain

theorem gon_gone : ∀ (ns : List Nsp) (i : Nat), gon ns i = gone ns i := by
  intro ns i
  unfold gon gone
  suffices h : ∀ (ns : List Nsp) (acc : Bool), ns.foldl (fun acc s => acc || (decide (s.1 ≤ i) && decide (i < s.2.1))) acc = (acc || ns.any fun s => decide (s.1 ≤ i) && decide (i < s.2.1)) by
    rw [h ns false, Bool.false_or]
  intro ns
  induction ns with
  | nil => intro acc; simp
  | cons s r ih =>
    intro acc
    rw [List.foldl_cons, ih, List.any_cons, Bool.or_assoc]
theorem stays_le (ns : List Nsp) : ∀ k, stays ns k ≤ k
  | 0 => Nat.le_refl _
  | k + 1 => by
    have := stays_le ns k
    have e : stays ns (k + 1) = stays ns k + (if gone ns k then 0 else 1) := rfl
    rw [e]
    split <;> omega
/-- What comes of the first j splices. -/
theorem come_take (ns : List Nsp) (k : Nat) (stick : Bool) (j : Nat) (s : Nsp) (h : ns[j]? = some s) : come k stick (ns.take (j + 1)) = come k stick (ns.take j) + (if comes k stick s then s.2.2.length else 0) := by
  rw [take_more ns j s h, come_append, come_cons]
  have e2 : come k stick [] = 0 := rfl
  rw [e2, Nat.add_zero]
theorem come_take_le (ns : List Nsp) (k : Nat) (stick : Bool) (j : Nat) : come k stick (ns.take j) ≤ come k stick ns := by
  have e2 : come k stick ns = come k stick (ns.take j) + come k stick (ns.drop j) := by rw [← come_append, List.take_append_drop]
  omega

set_option maxRecDepth 100000 in
set_option maxHeartbeats 4000000 in
theorem refMoved_any (v : Value) (ns : List Nsp) (n k : Nat) (stick : Bool) (w : World) (h2 : ReadsE w v (ups ns)) (hF : Fits n ns) (hk : k ≤ n) :
    Calls Try.prog 11 #[v, .int .i64 (k : Int), .bool stick] w fun e w' => e = .returned (.int .i64 (mvd ns k stick)) ∧ Below w.heap.size w w' := by
  have H2 : Hid (∀ wx, Below w.heap.size w wx → ReadsE wx v (ups ns)) := fun wx hb => h2.below hb
  obtain ⟨a2, cap2, rfl⟩ := h2.shape
  rw [ups_len] at h2 H2 ⊢
  have HE1 : Hid (∀ j, j < ns.length → ∃ b off, a2 = some ⟨b, off, none⟩ ∧ b < w.heap.size ∧ SplAt w b (off + j * 3) ((ups ns).getD j spl0)) := by
    have h3 : ReadsE w (.slice a2 (ups ns).length cap2) (ups ns) := by rw [ups_len]; exact h2
    intro j hj
    exact h3.each j (by rw [ups_len]; exact hj)
  have hcnt := hF.2.1.count
  have hn := hF.1
  have HF : Hid (Fits n ns) := hF
  have hput := hF.puts_le
  have hcome : come k stick ns ≤ 4096 := Nat.le_trans (come_le k stick ns) hput
  obtain ⟨R, hR⟩ : ∃ R, R = mvd ns k stick := ⟨_, rfl⟩
  have HR : Hid (R = (stays ns k : Int) + (come k stick ns : Int)) := by
    show R = _
    rw [hR]
    have := stays_lost hF.2.1 k
    unfold mvd
    omega
  rw [← hR]
  clear hR h2 hF hput
  go_enter Try.func11, Try.ntmps11
  go_wp2_with fail
  go_loopw [7, 15, 8, 9, 10] (fun u7 u15 u8 u9 u10 wr => ∃ (i : Nat), u15 = .int .i64 (i : Int) ∧ u7 = .int .i64 (stays ns i : Int) ∧ i ≤ k ∧ Hid (Below w.heap.size w wr))
    (fun _ u15 _ _ _ _ => k - (intOf u15).toNat)
  case atStart => exact ⟨0, rfl, rfl, Nat.zero_le _, Below.refl _ _⟩
  case round =>
    obtain ⟨i, rfl, rfl, hi, Hb⟩ := hrel
    have hbs := Hb.out.size
    have hsi := stays_le ns i
    by_cases hlt : i < k
    · have HS : Hid (stays ns (i + 1) = stays ns i + (if gone ns i then 0 else 1)) := rfl
      go_wp2_with fail
      refine (at_any _ ns i wr (H2.out _ Hb.out) (by omega) (by omega)).mono ?_
      rintro e w1 ⟨hb1, tv, rfl, htv⟩
      have HB1 : Hid (Below w.heap.size w w1) := below_trans Hb.out hb1 hbs
      rw [gon_gone]
      obtain ⟨at_, ct, rfl⟩ := htv.shape
      clear hb1 htv
      cases hg : gone ns i with
      | true =>
        rw [hg, if_pos rfl, Nat.add_zero] at HS
        clear hg
        generalize stays ns i = S at *
        go_wp2_with fail
        go_roundw
        case rel => exact ⟨i + 1, by go_num, by rw [HS.out]; rfl, by omega, HB1.out⟩
        case measure => simp [intOf] <;> omega
      | false =>
        rw [hg, if_neg (by decide)] at HS
        clear hg
        generalize stays ns i = S at *
        go_wp2_with fail
        go_roundw
        case rel => exact ⟨i + 1, by go_num, by rw [HS.out]; go_num, by omega, HB1.out⟩
        case measure => simp [intOf] <;> omega
    · obtain rfl : i = k := by omega
      obtain ⟨S, hS⟩ : ∃ S, S = stays ns i := ⟨_, rfl⟩
      rw [← hS] at HR hsi ⊢
      clear hS
      go_wp2_with fail
      go_loopw [7, 31, 12, 13] (fun u7 u31 u12 u13 wz => ∃ (j C : Nat), u31 = .int .i64 (j : Int) ∧ u7 = .int .i64 ((S : Int) + (C : Int)) ∧ j ≤ ns.length ∧ C ≤ 4096 ∧ Hid (C = come i stick (ns.take j)) ∧ Hid (Below w.heap.size w wz))
        (fun _ u31 _ _ _ => ns.length - (intOf u31).toNat)
      case atStart => exact ⟨0, 0, rfl, by simp, Nat.zero_le _, Nat.zero_le _, rfl, Hb.out⟩
      case round =>
        obtain ⟨j, C, rfl, rfl, hj, hC, HC, Hb2⟩ := hrel
        have hbs2 := Hb2.out.size
        by_cases hlt2 : j < ns.length
        · obtain ⟨s, hs1, hs2, hs3⟩ := ups_at ns j hlt2
          obtain ⟨b, off, hae, hbl, hsp⟩ := HE1.out j hlt2
          subst hae
          have hsp2 := hsp.below Hb2.out hbl
          rw [hs2] at hsp2
          have HN : Hid (come i stick (ns.take (j + 1)) = C + (if comes i stick s then s.2.2.length else 0)) := by
            show _ = _
            rw [come_take ns i stick j s hs3, HC.out]
          have HG : Hid (come i stick (ns.take (j + 1)) ≤ 4096) := Nat.le_trans (come_take_le ns i stick (j + 1)) hcome
          have hx : s.2.2.length ≤ 4096 := Nat.le_trans (puts_mem (List.mem_of_getElem? hs3)) HF.out.puts_le
          clear hs1 hs2 hs3 hsp HC
          obtain ⟨f, t, x⟩ := s
          obtain ⟨c0, c1, _, a3, cap3, c2, _⟩ := hsp2
          simp only [up] at c0 c1 c2
          simp only at hx
          have HbA : Hid (Below w.heap.size w (wr.alloc (.cells #[.int .i64 (f : Int), .int .i64 (t : Int), .slice a3 x.length cap3] 37))) := Hb2.out.alloc hbs2 _
          have hcs : comes i stick (f, t, x) = ((decide (f < i) && decide (t ≤ i)) || (!stick && decide (f ≤ i))) := rfl
          rw [hcs] at HN
          clear hcs
          by_cases a1 : f < i ∧ t ≤ i
          · have HD : Hid (come i stick (ns.take (j + 1)) = C + x.length) := by
              show _ = _
              rw [HN.out, decide_eq_true a1.1, decide_eq_true a1.2]
              rfl
            obtain ⟨a1, a2⟩ := a1
            clear HN
            go_wp2_with fail
            all_goals first
              | (exfalso; omega)
              | (go_roundw
                 case rel => exact ⟨j + 1, C + x.length, by go_num, by congr 1; omega, by omega, by rw [← HD.out]; exact HG.out, HD.out.symm, HbA.out⟩
                 case measure => simp [intOf] <;> omega)
          · have e1 : (decide (f < i) && decide (t ≤ i)) = false := by
              by_cases q : f < i
              · rw [decide_eq_true q, decide_eq_false (by omega)]; rfl
              · rw [decide_eq_false q]; rfl
            rw [e1, Bool.false_or] at HN
            clear e1
            cases stick with
            | true =>
              have HD : Hid (come i true (ns.take (j + 1)) = C) := by
                show _ = _
                rw [HN.out]
                rfl
              clear HN
              have a2 : i ≤ f ∨ (f < i ∧ i < t) := by omega
              clear a1
              rcases a2 with a2 | ⟨a2, a3⟩
              all_goals (
                go_wp2_with fail
                all_goals first
                  | (exfalso; omega)
                  | (go_roundw
                     case rel => exact ⟨j + 1, C, by go_num, by first | rfl | (congr 1; omega), by omega, hC, HD.out.symm, HbA.out⟩
                     case measure => simp [intOf] <;> omega))
            | false =>
              by_cases a2 : f ≤ i
              · have HD : Hid (come i false (ns.take (j + 1)) = C + x.length) := by
                  show _ = _
                  rw [HN.out, decide_eq_true a2]
                  rfl
                clear HN
                have a4 : i ≤ f ∨ (f < i ∧ i < t) := by omega
                clear a1
                rcases a4 with a4 | ⟨a4, a5⟩
                all_goals (
                  go_wp2_with fail
                  all_goals first
                    | (exfalso; omega)
                    | (go_roundw
                       case rel => exact ⟨j + 1, C + x.length, by go_num, by congr 1; omega, by omega, by rw [← HD.out]; exact HG.out, HD.out.symm, HbA.out⟩
                       case measure => simp [intOf] <;> omega))
              · have HD : Hid (come i false (ns.take (j + 1)) = C) := by
                  show _ = _
                  rw [HN.out, decide_eq_false a2]
                  rfl
                clear HN
                clear a1
                have a4 : i < f := by omega
                clear a2
                go_wp2_with fail
                all_goals first
                  | (exfalso; omega)
                  | (go_roundw
                     case rel => exact ⟨j + 1, C, by go_num, by first | rfl | (congr 1; omega), by omega, hC, HD.out.symm, HbA.out⟩
                     case measure => simp [intOf] <;> omega)
        · obtain rfl : j = ns.length := by omega
          rw [List.take_length] at HC
          have HE : Hid ((S : Int) + (C : Int) = R) := by
            show _ = _
            rw [HR.out, HC.out]
          clear HC
          go_wp2_with fail
          go_ret
          exact ⟨by rw [HE.out]; rfl, Hb2.out⟩
end Go.Proofs.Yteggadicomighaa.Seek
