/- The contract of slices.Repeat; slices.Concat of one and of three. -/
import Derived.Test.YtpgjaoemkadenabM25
import Derived.Deep.RegionLaw
set_option linter.unusedVariables false
set_option linter.unusedSimpArgs false
set_option maxRecDepth 100000
namespace Go.Proofs.Ytpgjaoemkadenab.Seek
open Go.RowKit Plain

theorem new_cells (w : World) (cs : List Value) (t : TypeId) (j : Nat) (x : Value) (h : cs[j]? = some x) : (w.alloc (.cells cs.toArray t)).cell? ⟨w.heap.size, j, none⟩ = some x := by
  rw [(BoxC.new w t cs).cell j, h]
theorem concat1 (v1 : Value) (x1 : List Int) (w : World) (h1 : Reads w v1 x1) (hb : x1.length * 8 ≤ 281474976710656) :
    Calls Try.prog 10 #[.slice (some ⟨w.heap.size, 0, none⟩) 1 1] (w.alloc (.cells #[v1] 22)) fun e w' => ConcatPost x1 (w.alloc (.cells #[v1] 22)) e w' := by
  have hj : joined (fun j => x1) 1 = x1 := by simp [joined]
  have := concat_any w.heap.size 1 1 (fun j => v1) (fun j => x1) (w.alloc (.cells #[v1] 22)) (by decide) (by rw [size_alloc]; omega)
    (fun j hj => by
      match j, hj with
      | 0, _ => exact new_cells w [v1] _ 0 _ rfl)
    (fun j hj => h1.below (box_below _ _)) (by rw [hj]; exact hb)
  rw [hj] at this
  exact this
theorem concat3 (v1 v2 v3 : Value) (x1 x2 x3 : List Int) (w : World) (h1 : Reads w v1 x1) (h2 : Reads w v2 x2) (h3 : Reads w v3 x3) (hb : (x1 ++ x2 ++ x3).length * 8 ≤ 281474976710656) :
    Calls Try.prog 10 #[.slice (some ⟨w.heap.size, 0, none⟩) 3 3] (w.alloc (.cells #[v1, v2, v3] 22)) fun e w' => ConcatPost (x1 ++ x2 ++ x3) (w.alloc (.cells #[v1, v2, v3] 22)) e w' := by
  have hj : joined (fun j => match j with | 0 => x1 | 1 => x2 | _ => x3) 3 = x1 ++ x2 ++ x3 := by simp [joined]
  have := concat_any w.heap.size 3 3 (fun j => match j with | 0 => v1 | 1 => v2 | _ => v3) (fun j => match j with | 0 => x1 | 1 => x2 | _ => x3) (w.alloc (.cells #[v1, v2, v3] 22)) (by decide) (by rw [size_alloc]; omega)
    (fun j hj => by
      match j, hj with
      | 0, _ => exact new_cells w [v1, v2, v3] _ 0 _ rfl
      | 1, _ => exact new_cells w [v1, v2, v3] _ 1 _ rfl
      | 2, _ => exact new_cells w [v1, v2, v3] _ 2 _ rfl)
    (fun j hj => by
      match j, hj with
      | 0, _ => exact h1.below (box_below _ _)
      | 1, _ => exact h2.below (box_below _ _)
      | 2, _ => exact h3.below (box_below _ _)) (by rw [hj]; exact hb)
  rw [hj] at this
  exact this

set_option maxHeartbeats 2000000 in
theorem repeat_any (v : Value) (zs : List Int) (n : Nat) (w : World) (h : Reads w v zs) (hb : n * zs.length ≤ 1000000) (hn : n ≤ 1000000) :
    Calls Try.prog 11 #[v, .int .i64 (n : Int)] w fun e w' => ConcatPost (rep n zs) w e w' := by
  obtain ⟨a, cap, rfl⟩ := h.shape
  have hzl : zs.length ≤ maxLen := by rcases h with ⟨_, _, _, rfl⟩ | ⟨_, _, cap, _, h1, h2, _⟩ <;> first | decide | omega
  have H : Hid (Reads w (.slice a zs.length cap) zs) := h
  unfold maxLen at hzl
  obtain ⟨L, hL⟩ : ∃ L, L = n * zs.length := ⟨_, rfl⟩
  have HL : Hid (L = n * zs.length) := hL
  have hL2 : L ≤ 1000000 := by omega
  have hmul : Calls Try.prog 22 #[.int .u64 (zs.length : Int), .int .u64 (n : Int)] w fun e w' => e = .returned (.tuple #[.int .u64 0, .int .u64 (L : Int)]) ∧ w' = w := by
    refine (Try.bits_Mul zs.length n (by omega) (by omega) w).mono ?_
    rintro e w' ⟨rfl, rfl⟩
    have e1 : zs.length * n = L := by rw [hL, Nat.mul_comm]
    rw [e1]
    refine ⟨?_, rfl⟩
    have e2 : L / 18446744073709551616 = 0 := by omega
    have e3 : L % 18446744073709551616 = L := by omega
    rw [e2, e3]
    rfl
  have HM : Hid (Calls Try.prog 22 #[.int .u64 (zs.length : Int), .int .u64 (n : Int)] w fun e w' => e = .returned (.tuple #[.int .u64 0, .int .u64 (L : Int)]) ∧ w' = w) := hmul
  obtain ⟨i0, hi, hz0, hz1, hz2⟩ := info_parts info3
  obtain ⟨R, hR⟩ : ∃ R, R = rep n zs := ⟨_, rfl⟩
  have HR : Hid (R = rep n zs) := hR
  have hRl : R.length = L := by rw [hR, rep_len, hL]
  have HRL : Hid (R.length = L) := hRl
  have em : madeCells #[.int .i64 0] L = (filled R 0).toArray := by
    have h1 := made_fill L
    have h2 : filled R 0 = List.replicate L (.int .i64 0) := by unfold filled; simp [hRl, ints]
    rw [h2, ← h1]
  have hmk : ∀ w : World, (Instr.makeSlice 22 (.int .i64 (L : Int)) (.int .i64 (L : Int))).run Try.prog w = .ok (.slice (some ⟨w.heap.size, 0, none⟩) L L) (w.alloc (.cells (filled R 0).toArray 3)) := by
    intro w
    have hr := run_make (P := Try.prog) w 22 3 i0 _ Try.underlying22 hi hz0 .i64 .i64 (L : Int) (L : Int) (by omega) (by omega) (by rw [hz2]; omega) (by omega)
    rw [hz1, Nat.mul_one] at hr
    have e : ((L : Int)).toNat = L := by omega
    rw [e, show (Value.int .i64 0).cells = #[.int .i64 0] from rfl, em] at hr
    exact hr
  have hcp : ∀ (q k : Nat), q * zs.length + k * zs.length ≤ L → k ≤ q → ∀ j v, (ints ((R.drop (q * zs.length)).take (k * zs.length)))[j]? = some v → j < k * zs.length ∧ v = .int .i64 (R.getD j 0) := by
    intro q k h1 h2 j v hv
    have hj : j < k * zs.length := by
      have := (List.getElem?_eq_some_iff.1 hv).1
      rw [ints_len, List.length_take] at this
      omega
    refine ⟨hj, ?_⟩
    unfold ints at hv
    rw [List.getElem?_map, List.getElem?_take, if_pos hj, List.getElem?_drop, hR, rep_copy zs n q k (by omega) h2 j hj, ← hR, List.getElem?_eq_getElem (by omega)] at hv
    rw [List.getD_eq_getElem?_getD, List.getElem?_eq_getElem (by omega)]
    simpa using hv.symm
  obtain ⟨k0, hk0⟩ : ∃ k0, k0 = min n 1 := ⟨_, rfl⟩
  have hk0L : k0 * zs.length ≤ L := by
    rw [hL]
    exact Nat.mul_le_mul_right _ (by omega)
  have hfirst : ∀ j v, (ints ((R.drop 0).take (k0 * zs.length)))[j]? = some v → ∃ b o, a = some ⟨b, o, none⟩ ∧ ∀ o', (w.alloc o').cell? ((⟨b, o, none⟩ : Addr).add j) = some v := by
    intro j v hv
    have hj : j < k0 * zs.length := by
      have := (List.getElem?_eq_some_iff.1 hv).1
      rw [ints_len, List.length_take] at this
      omega
    have hk1 : k0 = 1 := by
      rcases Nat.eq_zero_or_pos k0 with h0 | h0
      · rw [h0, Nat.zero_mul] at hj; omega
      · omega
    rw [hk1, Nat.one_mul] at hj
    have hjL : j < L := by rw [hk1, Nat.one_mul] at hk0L; omega
    rcases H.out with ⟨_, _, _, hz⟩ | ⟨b, o, c, hv2, _, _, hlt, hc⟩
    · rw [hz] at hj; cases hj
    · simp only [Value.slice.injEq] at hv2
      refine ⟨b, o, hv2.1, fun o' => ?_⟩
      rw [Addr.add_mid, (box_below w o').cell (by exact hlt), hc j hj]
      unfold ints at hv
      rw [List.drop_zero, List.getElem?_map, List.getElem?_take, if_pos (by rw [hk1, Nat.one_mul]; exact hj), hR, rep_get n zs j (by omega), Nat.mod_eq_of_lt hj] at hv
      simpa using hv
  have HF : Hid (∀ j v, (ints ((R.drop 0).take (k0 * zs.length)))[j]? = some v → ∃ b o, a = some ⟨b, o, none⟩ ∧ ∀ o', (w.alloc o').cell? ((⟨b, o, none⟩ : Addr).add j) = some v) := hfirst
  have HC : Hid (∀ (q k : Nat), q * zs.length + k * zs.length ≤ L → k ≤ q → ∀ j v, (ints ((R.drop (q * zs.length)).take (k * zs.length)))[j]? = some v → j < k * zs.length ∧ v = .int .i64 (R.getD j 0)) := hcp
  have hlen0 : (ints ((R.drop 0).take (k0 * zs.length))).length = k0 * zs.length := by rw [ints_len, List.length_take, List.drop_zero]; omega
  have hmin : k0 * zs.length = Nat.min zs.length L := by
    show _ = min zs.length L
    rcases Nat.eq_zero_or_pos n with h0 | h0
    · rw [show k0 = 0 by omega, Nat.zero_mul]
      rw [h0, Nat.zero_mul] at hL
      omega
    · rw [show k0 = 1 by omega, Nat.one_mul]
      have := Nat.mul_le_mul_right zs.length h0
      omega
  have HK0 : Hid (k0 * zs.length ≤ L ∧ k0 ≤ n ∧ (1 ≤ k0 ∨ L = 0)) := ⟨hk0L, by omega, by
    rcases Nat.eq_zero_or_pos n with h0 | h0
    · right; rw [hL, h0, Nat.zero_mul]
    · left; omega⟩
  have HL0 : Hid ((ints ((R.drop 0).take (k0 * zs.length))).length = k0 * zs.length) := hlen0
  have HMN : Hid (k0 * zs.length = Nat.min zs.length L) := hmin
  have HN : Hid (k0 = min n 1) := hk0
  clear h hi hz0 hz1 hz2 hb hL hmul hR hRl em hcp hfirst hk0L hlen0 hmin hk0
  rw [← HR.out]
  have q2 : (L : Int) ≤ 9223372036854775807 := by omega
  have q3 : (0 : Int) ≤ (n : Int) := by omega
  go_enter Try.func11, Try.ntmps11
  go_wp2_with fail
  refine HM.out.mono ?_
  rintro e w' ⟨rfl, hw'⟩
  rw [hw']
  clear hw' w'
  have HG0 : Hid ((w.alloc (.cells (filled R 0).toArray 3)).heap[w.heap.size]? = some (.cells (filled R 0).toArray 3 (0, 0))) := heap_new _ _
  have HP : Hid (0 < (ints ((R.drop 0).take (k0 * zs.length))).length → ∃ ad, a = some ad ∧ ∀ j v, (ints ((R.drop 0).take (k0 * zs.length)))[j]? = some v → (w.alloc (.cells (filled R 0).toArray 3)).cell? (ad.add j) = some v) := by
    intro hpos
    obtain ⟨b, o, ha, _⟩ := HF.out 0 _ (List.getElem?_eq_getElem hpos)
    refine ⟨_, ha, fun j v hv => ?_⟩
    obtain ⟨b2, o2, ha2, hh⟩ := HF.out j v hv
    rw [ha] at ha2
    simp only [Option.some.injEq, Addr.mk.injEq] at ha2
    rw [ha2.1, ha2.2.1]
    exact hh _
  have HFi : Hid (0 + (ints ((R.drop 0).take (k0 * zs.length))).length ≤ (filled R 0).length) := by
    show _ ≤ _
    rw [HL0.out, filled_len R 0 (Nat.zero_le _), HRL.out, Nat.zero_add]
    exact HK0.out.1
  have HMN2 : Hid ((ints ((R.drop 0).take (k0 * zs.length))).length = Nat.min zs.length L) := HL0.out.trans HMN.out
  have H1s : Hid (∀ v ∈ ints ((R.drop 0).take (k0 * zs.length)), v.oneCell' = true) := one_ints _
  have HSt : Hid (splice (filled R 0) 0 (ints ((R.drop 0).take (k0 * zs.length))) = filled R (k0 * zs.length)) := by
    have e := filled_step R 0 (k0 * zs.length) (by rw [HRL.out, Nat.zero_add]; exact HK0.out.1)
    rw [Nat.zero_add] at e
    exact e
  have HBo : Hid (∀ o', Below w.heap.size w (w.alloc o')) := fun o' => box_below _ _
  obtain ⟨cs0, hcs0⟩ : ∃ cs0, cs0 = ints ((R.drop 0).take (k0 * zs.length)) := ⟨_, rfl⟩
  rw [← hcs0] at HP HFi HMN2 H1s HSt HL0
  obtain ⟨f0, hf0⟩ : ∃ f0, f0 = filled R 0 := ⟨_, rfl⟩
  rw [← hf0] at HP HFi HSt HG0 hmk
  clear hcs0 hf0 HF HMN
  go_wp2_with (refine wpList_copy_splice rfl _ _ 22 22 rfl 3 Try.underlying22 info3s (some ⟨w.heap.size, 0, none⟩) a L L zs.length cap rfl rfl w.heap.size 0 f0 3 HG0.out cs0 HMN2.out (fun h0 => ⟨rfl, HP.out h0⟩) HFi.out H1s.out w.heap.size w (HBo.out _) (Nat.le_refl _) ?_)
  intro w1 hg1 hb1
  have HG1 : Hid (w1.heap[w.heap.size]? = some (.cells (filled R (k0 * zs.length)).toArray 3 (0, 0))) := by
    rw [← HSt.out]
    exact hg1.out
  have HB1 : Hid (Below w.heap.size w w1) := hb1
  have HS : Hid (w.heap.size < w1.heap.size) := (Array.getElem?_eq_some_iff.1 hg1.out).1
  rw [HL0.out]
  clear hg1 hb1 HG0 HL0 HP HFi HMN2 H1s HSt HBo hmk
  go_wp2_with fail
  go_loopw [8] (fun u8 wr => ∃ m : Nat, u8 = .int .i64 (m : Int) ∧ m ≤ L ∧ Hid (∃ q, m = q * zs.length ∧ q ≤ n ∧ (1 ≤ q ∨ L = 0)) ∧ Hid (wr.heap[w.heap.size]? = some (.cells (filled R m).toArray 3 (0, 0))) ∧ Hid (Below w.heap.size w wr)) (fun u8 _ => L - (intOf u8).toNat)
  case atStart => exact ⟨k0 * zs.length, rfl, HK0.out.1, ⟨k0, rfl, HK0.out.2⟩, HG1.out, HB1.out⟩
  case round =>
    obtain ⟨m, rfl, hm, Hq0, Hg, Hb⟩ := hrel
    by_cases hlt : m < L
    · obtain ⟨q, hq⟩ := Hq0.out
      have Hq : Hid (m = q * zs.length ∧ q ≤ n ∧ (1 ≤ q ∨ L = 0)) := hq
      clear hq Hq0
      have hne : ¬ L = m := by omega
      have hI : (m : Int) < (L : Int) := by omega
      have hI2 : (m : Int) ≤ (L : Int) := by omega
      obtain ⟨k, hk⟩ : ∃ k, k = min q (n - q) := ⟨_, rfl⟩
      have hqn : q < n := by
        have h1 := HL.out
        have h2 := Hq.out.1
        rcases Nat.lt_or_ge q n with h3 | h3
        · exact h3
        · have := Nat.mul_le_mul_right zs.length h3
          omega
      have hzp : 0 < zs.length := by
        rcases Nat.eq_zero_or_pos zs.length with h0 | h0
        · have := HL.out; rw [h0, Nat.mul_zero] at this; omega
        · exact h0
      have hq1 : 1 ≤ q := by have := Hq.out.2.2; omega
      have hkm : k * zs.length = min m (L - m) := by
        have e1 : L - m = (n - q) * zs.length := by rw [HL.out, Hq.out.1, Nat.sub_mul]
        rw [e1, Hq.out.1, hk]
        rcases Nat.le_total q (n - q) with h3 | h3
        · rw [Nat.min_eq_left h3, Nat.min_eq_left (Nat.mul_le_mul_right _ h3)]
        · rw [Nat.min_eq_right h3, Nat.min_eq_right (Nat.mul_le_mul_right _ h3)]
      have hk1 : 0 < k * zs.length := Nat.mul_pos (by omega) hzp
      have hle : m + k * zs.length ≤ L := by omega
      have HLen : Hid ((ints ((R.drop m).take (k * zs.length))).length = k * zs.length) := by
        show _ = _
        rw [ints_len, List.length_take, List.length_drop, HRL.out]
        omega
      have HMin : Hid ((ints ((R.drop m).take (k * zs.length))).length = Nat.min m (L - m)) := HLen.out.trans hkm
      have HSrc : Hid (∀ j v, (ints ((R.drop m).take (k * zs.length)))[j]? = some v → wr.drew.cell? ((⟨w.heap.size, 0, none⟩ : Addr).add j) = some v) := by
        intro j v hv
        have hmq := Hq.out.1
        rw [hmq] at hv
        obtain ⟨hj, rfl⟩ := HC.out q k (by omega) (by omega) j v hv
        rw [Addr.add_mid, Nat.zero_add]
        show wr.cell? ⟨w.heap.size, j, none⟩ = _
        rw [cell_of_row wr _ _ _ _ _ Hg.out, List.getElem?_toArray]
        exact filled_cell R m j (by omega) (by rw [HRL.out]; omega)
      have HNext : Hid (splice (filled R m) m (ints ((R.drop m).take (k * zs.length))) = filled R (m + k * zs.length)) := filled_step R m _ (by rw [HRL.out]; omega)
      have HFit : Hid (m + (ints ((R.drop m).take (k * zs.length))).length ≤ (filled R m).length) := by
        show _ ≤ _
        rw [HLen.out, filled_len R m (by rw [HRL.out]; omega), HRL.out]
        exact hle
      have HBd : Hid (Below w.heap.size w wr.drew) := Hb.out.drew
      have HGd : Hid (wr.drew.heap[w.heap.size]? = some (.cells (filled R m).toArray 3 (0, 0))) := Hg.out
      have HQ2 : Hid (m + k * zs.length = (q + k) * zs.length ∧ q + k ≤ n ∧ (1 ≤ q + k ∨ L = 0)) := ⟨by rw [Nat.add_mul, ← Hq.out.1], by omega, by omega⟩
      obtain ⟨kl, hkl⟩ : ∃ kl, kl = k * zs.length := ⟨_, rfl⟩
      rw [← hkl] at HLen HMin HSrc HNext HFit HQ2 hk1 hle hkm
      obtain ⟨cs, hcs⟩ : ∃ cs, cs = ints ((R.drop m).take kl) := ⟨_, rfl⟩
      have H1 : Hid (∀ v ∈ cs, v.oneCell' = true) := by rw [hcs]; exact one_ints _
      rw [← hcs] at HLen HMin HSrc HNext HFit
      have hwr : w.heap.size < wr.heap.size := (Array.getElem?_eq_some_iff.1 Hg.out).1
      clear hcs hk hkl Hq Hg Hb hkm
      have hw8 : IntKind.i64.wrap ((m : Int) + (kl : Int)) = (m : Int) + (kl : Int) := by rw [IntKind.wrap_i64]; omega
      go_wp2_with fail
      go_region_law (refine step_copy_splice rfl (.tmp 41) (.tmp 44) 22 22 rfl 3 Try.underlying22 info3s (some ⟨w.heap.size, m, none⟩) (some ⟨w.heap.size, 0, none⟩) (L - m) (L - m) m L (by simp [Act.eval, Act.put]) (by simp [Act.eval, Act.put]) w.heap.size m (filled R m) 3 HGd.out cs HMin.out (fun _ => ⟨rfl, _, rfl, HSrc.out⟩) HFit.out H1.out w.heap.size w HBd.out (Nat.le_refl _) ?_; intro w4 hg4 hb4)
      all_goals (
        have HG4 : Hid (w4.heap[w.heap.size]? = some (.cells (filled R (m + kl)).toArray 3 (0, 0))) := by rw [← HNext.out]; exact hg4.out
        have HB4 : Hid (Below w.heap.size w w4) := hb4
        rw [HLen.out]
        clear hg4 hb4 HNext HSrc HFit H1 HMin HGd HBd
        go_simp
        go_roundw
        case rel => exact ⟨_, _, _, _, _, _, _, _, _, _, _, _, _, _, ⟨m + kl, by push_cast; rfl, hle, ⟨q + k, HQ2.out⟩, HG4.out, HB4.out⟩, rfl⟩
        case measure => simp [intOf] <;> omega)
    · have hI : ¬ (m : Int) < (L : Int) := by omega
      obtain rfl : m = L := by omega
      go_wp2_with fail
      go_ret
      have e := HRL.out
      have hG := Hg.out
      rw [← e, filled_all] at hG
      rw [← e]
      exact ⟨Hb.out, _, rfl, own_row wr w.heap.size _ R (Nat.le_refl _) hG (by rw [e]; unfold maxLen; omega)⟩
end Go.Proofs.Ytpgjaoemkadenab.Seek
