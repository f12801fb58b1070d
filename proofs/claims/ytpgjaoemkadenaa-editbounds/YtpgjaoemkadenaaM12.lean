/- Texts of one claim, one behind the other: RepGo, Edits, SMemory. -/
import Derived.Test.YtpgjaoemkadenaaM11
import Derived.Deep.RegionLaw
import Derived.Test.YtpgjaoemkadenaaM01
import Derived.Laws.OwnMore
/- The contract of slices.Repeat; slices.Concat of one and of three. -/
set_option linter.unusedVariables false
set_option linter.unusedSimpArgs false
set_option maxRecDepth 100000
namespace Go.Proofs.Ytpgjaoemkadenaa.Seek
open Go.RowKit Plain

theorem new_cells (w : World) (cs : List Value) (t : TypeId) (j : Nat) (x : Value) (h : cs[j]? = some x) : (w.alloc (.cells cs.toArray t)).cell? ⟨w.heap.size, j, none⟩ = some x := by
  rw [(BoxC.new w t cs).cell j, h]
theorem concat1 (v1 : Value) (x1 : List Int) (w : World) (h1 : Reads w v1 x1) (hb : x1.length * 8 ≤ 281474976710656) :
    Calls Try.prog 15 #[.slice (some ⟨w.heap.size, 0, none⟩) 1 1] (w.alloc (.cells #[v1] 22)) fun e w' => ConcatPost x1 (w.alloc (.cells #[v1] 22)) e w' := by
  have hj : joined (fun j => x1) 1 = x1 := by simp [joined]
  have := concat_any w.heap.size 1 1 (fun j => v1) (fun j => x1) (w.alloc (.cells #[v1] 22)) (by decide) (by rw [size_alloc]; omega)
    (fun j hj => by
      match j, hj with
      | 0, _ => exact new_cells w [v1] _ 0 _ rfl)
    (fun j hj => h1.below (box_below _ _)) (by rw [hj]; exact hb)
  rw [hj] at this
  exact this
theorem concat3 (v1 v2 v3 : Value) (x1 x2 x3 : List Int) (w : World) (h1 : Reads w v1 x1) (h2 : Reads w v2 x2) (h3 : Reads w v3 x3) (hb : (x1 ++ x2 ++ x3).length * 8 ≤ 281474976710656) :
    Calls Try.prog 15 #[.slice (some ⟨w.heap.size, 0, none⟩) 3 3] (w.alloc (.cells #[v1, v2, v3] 22)) fun e w' => ConcatPost (x1 ++ x2 ++ x3) (w.alloc (.cells #[v1, v2, v3] 22)) e w' := by
  have hj : joined (fun j => match j with | 0 => x1 | 1 => x2 | _ => x3) 3 = x1 ++ x2 ++ x3 := by simp [joined]
  have := concat_any w.heap.size 3 3 (fun j => match j with | 0 => v1 | 1 => v2 | _ => v3) (fun j => match j with | 0 => x1 | 1 => x2 | _ => x3) (w.alloc (.cells #[v1, v2, v3] 22)) (by decide) (by rw [size_alloc]; omega)
    (fun j hj => by
      match j, hj with
      | 0, _ => exact new_cells w [v1, v2, v3] _ 0 _ rfl
      | 1, _ => exact new_cells w [v1, v2, v3] _ 1 _ rfl
      | 2, _ => exact new_cells w [v1, v2, v3] _ 2 _ rfl)
    (fun j hj => by
      match j, hj with
      | 0, _ => exact h1.below (box_below _ _)
      | 1, _ => exact h2.below (box_below _ _)
      | 2, _ => exact h3.below (box_below _ _)) (by rw [hj]; exact hb)
  rw [hj] at this
  exact this

set_option maxHeartbeats 2000000 in
theorem repeat_any (v : Value) (zs : List Int) (n : Nat) (w : World) (h : Reads w v zs) (hb : n * zs.length ≤ 1000000) (hn : n ≤ 1000000) :
    Calls Try.prog 50 #[v, .int .i64 (n : Int)] w fun e w' => ConcatPost (rep n zs) w e w' := by
  obtain ⟨a, cap, rfl⟩ := h.shape
  have hzl : zs.length ≤ maxLen := by rcases h with ⟨_, _, _, rfl⟩ | ⟨_, _, cap, _, h1, h2, _⟩ <;> first | decide | omega
  have H : Hid (Reads w (.slice a zs.length cap) zs) := h
  unfold maxLen at hzl
  obtain ⟨L, hL⟩ : ∃ L, L = n * zs.length := ⟨_, rfl⟩
  have HL : Hid (L = n * zs.length) := hL
  have hL2 : L ≤ 1000000 := by omega
  have hmul : Calls Try.prog 62 #[.int .u64 (zs.length : Int), .int .u64 (n : Int)] w fun e w' => e = .returned (.tuple #[.int .u64 0, .int .u64 (L : Int)]) ∧ w' = w := by
    refine (Try.bits_Mul zs.length n (by omega) (by omega) w).mono ?_
    rintro e w' ⟨rfl, rfl⟩
    have e1 : zs.length * n = L := by rw [hL, Nat.mul_comm]
    rw [e1]
    refine ⟨?_, rfl⟩
    have e2 : L / 18446744073709551616 = 0 := by omega
    have e3 : L % 18446744073709551616 = L := by omega
    rw [e2, e3]
    rfl
  have HM : Hid (Calls Try.prog 62 #[.int .u64 (zs.length : Int), .int .u64 (n : Int)] w fun e w' => e = .returned (.tuple #[.int .u64 0, .int .u64 (L : Int)]) ∧ w' = w) := hmul
  obtain ⟨i0, hi, hz0, hz1, hz2⟩ := info_parts info3
  obtain ⟨R, hR⟩ : ∃ R, R = rep n zs := ⟨_, rfl⟩
  have HR : Hid (R = rep n zs) := hR
  have hRl : R.length = L := by rw [hR, rep_len, hL]
  have HRL : Hid (R.length = L) := hRl
  have em : madeCells #[.int .i64 0] L = (filled R 0).toArray := by
    have h1 := made_fill L
    have h2 : filled R 0 = List.replicate L (.int .i64 0) := by unfold filled; simp [hRl, ints]
    rw [h2, ← h1]
  have hmk : ∀ w : World, (Instr.makeSlice 22 (.int .i64 (L : Int)) (.int .i64 (L : Int))).run Try.prog w = .ok (.slice (some ⟨w.heap.size, 0, none⟩) L L) (w.alloc (.cells (filled R 0).toArray 3)) := by
    intro w
    have hr := run_make (P := Try.prog) w 22 3 i0 _ Try.underlying22 hi hz0 .i64 .i64 (L : Int) (L : Int) (by omega) (by omega) (by rw [hz2]; omega) (by omega)
    rw [hz1, Nat.mul_one] at hr
    have e : ((L : Int)).toNat = L := by omega
    rw [e, show (Value.int .i64 0).cells = #[.int .i64 0] from rfl, em] at hr
    exact hr
  have hcp : ∀ (q k : Nat), q * zs.length + k * zs.length ≤ L → k ≤ q → ∀ j v, (ints ((R.drop (q * zs.length)).take (k * zs.length)))[j]? = some v → j < k * zs.length ∧ v = .int .i64 (R.getD j 0) := by
    intro q k h1 h2 j v hv
    have hj : j < k * zs.length := by
      have := (List.getElem?_eq_some_iff.1 hv).1
      rw [ints_len, List.length_take] at this
      omega
    refine ⟨hj, ?_⟩
    unfold ints at hv
    rw [List.getElem?_map, List.getElem?_take, if_pos hj, List.getElem?_drop, hR, rep_copy zs n q k (by omega) h2 j hj, ← hR, List.getElem?_eq_getElem (by omega)] at hv
    rw [List.getD_eq_getElem?_getD, List.getElem?_eq_getElem (by omega)]
    simpa using hv.symm
  obtain ⟨k0, hk0⟩ : ∃ k0, k0 = min n 1 := ⟨_, rfl⟩
  have hk0L : k0 * zs.length ≤ L := by
    rw [hL]
    exact Nat.mul_le_mul_right _ (by omega)
  have hfirst : ∀ j v, (ints ((R.drop 0).take (k0 * zs.length)))[j]? = some v → ∃ b o, a = some ⟨b, o, none⟩ ∧ ∀ o', (w.alloc o').cell? ((⟨b, o, none⟩ : Addr).add j) = some v := by
    intro j v hv
    have hj : j < k0 * zs.length := by
      have := (List.getElem?_eq_some_iff.1 hv).1
      rw [ints_len, List.length_take] at this
      omega
    have hk1 : k0 = 1 := by
      rcases Nat.eq_zero_or_pos k0 with h0 | h0
      · rw [h0, Nat.zero_mul] at hj; omega
      · omega
    rw [hk1, Nat.one_mul] at hj
    have hjL : j < L := by rw [hk1, Nat.one_mul] at hk0L; omega
    rcases H.out with ⟨_, _, _, hz⟩ | ⟨b, o, c, hv2, _, _, hlt, hc⟩
    · rw [hz] at hj; cases hj
    · simp only [Value.slice.injEq] at hv2
      refine ⟨b, o, hv2.1, fun o' => ?_⟩
      rw [Addr.add_mid, (box_below w o').cell (by exact hlt), hc j hj]
      unfold ints at hv
      rw [List.drop_zero, List.getElem?_map, List.getElem?_take, if_pos (by rw [hk1, Nat.one_mul]; exact hj), hR, rep_get n zs j (by omega), Nat.mod_eq_of_lt hj] at hv
      simpa using hv
  have HF : Hid (∀ j v, (ints ((R.drop 0).take (k0 * zs.length)))[j]? = some v → ∃ b o, a = some ⟨b, o, none⟩ ∧ ∀ o', (w.alloc o').cell? ((⟨b, o, none⟩ : Addr).add j) = some v) := hfirst
  have HC : Hid (∀ (q k : Nat), q * zs.length + k * zs.length ≤ L → k ≤ q → ∀ j v, (ints ((R.drop (q * zs.length)).take (k * zs.length)))[j]? = some v → j < k * zs.length ∧ v = .int .i64 (R.getD j 0)) := hcp
  have hlen0 : (ints ((R.drop 0).take (k0 * zs.length))).length = k0 * zs.length := by rw [ints_len, List.length_take, List.drop_zero]; omega
  have hmin : k0 * zs.length = Nat.min zs.length L := by
    show _ = min zs.length L
    rcases Nat.eq_zero_or_pos n with h0 | h0
    · rw [show k0 = 0 by omega, Nat.zero_mul]
      rw [h0, Nat.zero_mul] at hL
      omega
    · rw [show k0 = 1 by omega, Nat.one_mul]
      have := Nat.mul_le_mul_right zs.length h0
      omega
  have HK0 : Hid (k0 * zs.length ≤ L ∧ k0 ≤ n ∧ (1 ≤ k0 ∨ L = 0)) := ⟨hk0L, by omega, by
    rcases Nat.eq_zero_or_pos n with h0 | h0
    · right; rw [hL, h0, Nat.zero_mul]
    · left; omega⟩
  have HL0 : Hid ((ints ((R.drop 0).take (k0 * zs.length))).length = k0 * zs.length) := hlen0
  have HMN : Hid (k0 * zs.length = Nat.min zs.length L) := hmin
  have HN : Hid (k0 = min n 1) := hk0
  clear h hi hz0 hz1 hz2 hb hL hmul hR hRl em hcp hfirst hk0L hlen0 hmin hk0
  rw [← HR.out]
  have q2 : (L : Int) ≤ 9223372036854775807 := by omega
  have q3 : (0 : Int) ≤ (n : Int) := by omega
  go_enter Try.func50, Try.ntmps50
  go_wp2_with fail
  refine HM.out.mono ?_
  rintro e w' ⟨rfl, hw'⟩
  rw [hw']
  clear hw' w'
  have HG0 : Hid ((w.alloc (.cells (filled R 0).toArray 3)).heap[w.heap.size]? = some (.cells (filled R 0).toArray 3 (0, 0))) := heap_new _ _
  have HP : Hid (0 < (ints ((R.drop 0).take (k0 * zs.length))).length → ∃ ad, a = some ad ∧ ∀ j v, (ints ((R.drop 0).take (k0 * zs.length)))[j]? = some v → (w.alloc (.cells (filled R 0).toArray 3)).cell? (ad.add j) = some v) := by
    intro hpos
    obtain ⟨b, o, ha, _⟩ := HF.out 0 _ (List.getElem?_eq_getElem hpos)
    refine ⟨_, ha, fun j v hv => ?_⟩
    obtain ⟨b2, o2, ha2, hh⟩ := HF.out j v hv
    rw [ha] at ha2
    simp only [Option.some.injEq, Addr.mk.injEq] at ha2
    rw [ha2.1, ha2.2.1]
    exact hh _
  have HFi : Hid (0 + (ints ((R.drop 0).take (k0 * zs.length))).length ≤ (filled R 0).length) := by
    show _ ≤ _
    rw [HL0.out, filled_len R 0 (Nat.zero_le _), HRL.out, Nat.zero_add]
    exact HK0.out.1
  have HMN2 : Hid ((ints ((R.drop 0).take (k0 * zs.length))).length = Nat.min zs.length L) := HL0.out.trans HMN.out
  have H1s : Hid (∀ v ∈ ints ((R.drop 0).take (k0 * zs.length)), v.oneCell' = true) := one_ints _
  have HSt : Hid (splice (filled R 0) 0 (ints ((R.drop 0).take (k0 * zs.length))) = filled R (k0 * zs.length)) := by
    have e := filled_step R 0 (k0 * zs.length) (by rw [HRL.out, Nat.zero_add]; exact HK0.out.1)
    rw [Nat.zero_add] at e
    exact e
  have HBo : Hid (∀ o', Below w.heap.size w (w.alloc o')) := fun o' => box_below _ _
  obtain ⟨cs0, hcs0⟩ : ∃ cs0, cs0 = ints ((R.drop 0).take (k0 * zs.length)) := ⟨_, rfl⟩
  rw [← hcs0] at HP HFi HMN2 H1s HSt HL0
  obtain ⟨f0, hf0⟩ : ∃ f0, f0 = filled R 0 := ⟨_, rfl⟩
  rw [← hf0] at HP HFi HSt HG0 hmk
  clear hcs0 hf0 HF HMN
  go_wp2_with (refine wpList_copy_splice rfl _ _ 22 22 rfl 3 Try.underlying22 info3s (some ⟨w.heap.size, 0, none⟩) a L L zs.length cap rfl rfl w.heap.size 0 f0 3 HG0.out cs0 HMN2.out (fun h0 => ⟨rfl, HP.out h0⟩) HFi.out H1s.out w.heap.size w (HBo.out _) (Nat.le_refl _) ?_)
  intro w1 hg1 hb1
  have HG1 : Hid (w1.heap[w.heap.size]? = some (.cells (filled R (k0 * zs.length)).toArray 3 (0, 0))) := by
    rw [← HSt.out]
    exact hg1.out
  have HB1 : Hid (Below w.heap.size w w1) := hb1
  have HS : Hid (w.heap.size < w1.heap.size) := (Array.getElem?_eq_some_iff.1 hg1.out).1
  rw [HL0.out]
  clear hg1 hb1 HG0 HL0 HP HFi HMN2 H1s HSt HBo hmk
  go_wp2_with fail
  go_loopw [8] (fun u8 wr => ∃ m : Nat, u8 = .int .i64 (m : Int) ∧ m ≤ L ∧ Hid (∃ q, m = q * zs.length ∧ q ≤ n ∧ (1 ≤ q ∨ L = 0)) ∧ Hid (wr.heap[w.heap.size]? = some (.cells (filled R m).toArray 3 (0, 0))) ∧ Hid (Below w.heap.size w wr)) (fun u8 _ => L - (intOf u8).toNat)
  case atStart => exact ⟨k0 * zs.length, rfl, HK0.out.1, ⟨k0, rfl, HK0.out.2⟩, HG1.out, HB1.out⟩
  case round =>
    obtain ⟨m, rfl, hm, Hq0, Hg, Hb⟩ := hrel
    by_cases hlt : m < L
    · obtain ⟨q, hq⟩ := Hq0.out
      have Hq : Hid (m = q * zs.length ∧ q ≤ n ∧ (1 ≤ q ∨ L = 0)) := hq
      clear hq Hq0
      have hne : ¬ L = m := by omega
      have hI : (m : Int) < (L : Int) := by omega
      have hI2 : (m : Int) ≤ (L : Int) := by omega
      obtain ⟨k, hk⟩ : ∃ k, k = min q (n - q) := ⟨_, rfl⟩
      have hqn : q < n := by
        have h1 := HL.out
        have h2 := Hq.out.1
        rcases Nat.lt_or_ge q n with h3 | h3
        · exact h3
        · have := Nat.mul_le_mul_right zs.length h3
          omega
      have hzp : 0 < zs.length := by
        rcases Nat.eq_zero_or_pos zs.length with h0 | h0
        · have := HL.out; rw [h0, Nat.mul_zero] at this; omega
        · exact h0
      have hq1 : 1 ≤ q := by have := Hq.out.2.2; omega
      have hkm : k * zs.length = min m (L - m) := by
        have e1 : L - m = (n - q) * zs.length := by rw [HL.out, Hq.out.1, Nat.sub_mul]
        rw [e1, Hq.out.1, hk]
        rcases Nat.le_total q (n - q) with h3 | h3
        · rw [Nat.min_eq_left h3, Nat.min_eq_left (Nat.mul_le_mul_right _ h3)]
        · rw [Nat.min_eq_right h3, Nat.min_eq_right (Nat.mul_le_mul_right _ h3)]
      have hk1 : 0 < k * zs.length := Nat.mul_pos (by omega) hzp
      have hle : m + k * zs.length ≤ L := by omega
      have HLen : Hid ((ints ((R.drop m).take (k * zs.length))).length = k * zs.length) := by
        show _ = _
        rw [ints_len, List.length_take, List.length_drop, HRL.out]
        omega
      have HMin : Hid ((ints ((R.drop m).take (k * zs.length))).length = Nat.min m (L - m)) := HLen.out.trans hkm
      have HSrc : Hid (∀ j v, (ints ((R.drop m).take (k * zs.length)))[j]? = some v → wr.drew.cell? ((⟨w.heap.size, 0, none⟩ : Addr).add j) = some v) := by
        intro j v hv
        have hmq := Hq.out.1
        rw [hmq] at hv
        obtain ⟨hj, rfl⟩ := HC.out q k (by omega) (by omega) j v hv
        rw [Addr.add_mid, Nat.zero_add]
        show wr.cell? ⟨w.heap.size, j, none⟩ = _
        rw [cell_of_row wr _ _ _ _ _ Hg.out, List.getElem?_toArray]
        exact filled_cell R m j (by omega) (by rw [HRL.out]; omega)
      have HNext : Hid (splice (filled R m) m (ints ((R.drop m).take (k * zs.length))) = filled R (m + k * zs.length)) := filled_step R m _ (by rw [HRL.out]; omega)
      have HFit : Hid (m + (ints ((R.drop m).take (k * zs.length))).length ≤ (filled R m).length) := by
        show _ ≤ _
        rw [HLen.out, filled_len R m (by rw [HRL.out]; omega), HRL.out]
        exact hle
      have HBd : Hid (Below w.heap.size w wr.drew) := Hb.out.drew
      have HGd : Hid (wr.drew.heap[w.heap.size]? = some (.cells (filled R m).toArray 3 (0, 0))) := Hg.out
      have HQ2 : Hid (m + k * zs.length = (q + k) * zs.length ∧ q + k ≤ n ∧ (1 ≤ q + k ∨ L = 0)) := ⟨by rw [Nat.add_mul, ← Hq.out.1], by omega, by omega⟩
      obtain ⟨kl, hkl⟩ : ∃ kl, kl = k * zs.length := ⟨_, rfl⟩
      rw [← hkl] at HLen HMin HSrc HNext HFit HQ2 hk1 hle hkm
      obtain ⟨cs, hcs⟩ : ∃ cs, cs = ints ((R.drop m).take kl) := ⟨_, rfl⟩
      have H1 : Hid (∀ v ∈ cs, v.oneCell' = true) := by rw [hcs]; exact one_ints _
      rw [← hcs] at HLen HMin HSrc HNext HFit
      have hwr : w.heap.size < wr.heap.size := (Array.getElem?_eq_some_iff.1 Hg.out).1
      clear hcs hk hkl Hq Hg Hb hkm
      have hw8 : IntKind.i64.wrap ((m : Int) + (kl : Int)) = (m : Int) + (kl : Int) := by rw [IntKind.wrap_i64]; omega
      go_wp2_with fail
      go_region_law (refine step_copy_splice rfl (.tmp 41) (.tmp 44) 22 22 rfl 3 Try.underlying22 info3s (some ⟨w.heap.size, m, none⟩) (some ⟨w.heap.size, 0, none⟩) (L - m) (L - m) m L (by simp [Act.eval, Act.put]) (by simp [Act.eval, Act.put]) w.heap.size m (filled R m) 3 HGd.out cs HMin.out (fun _ => ⟨rfl, _, rfl, HSrc.out⟩) HFit.out H1.out w.heap.size w HBd.out (Nat.le_refl _) ?_; intro w4 hg4 hb4)
      all_goals (
        have HG4 : Hid (w4.heap[w.heap.size]? = some (.cells (filled R (m + kl)).toArray 3 (0, 0))) := by rw [← HNext.out]; exact hg4.out
        have HB4 : Hid (Below w.heap.size w w4) := hb4
        rw [HLen.out]
        clear hg4 hb4 HNext HSrc HFit H1 HMin HGd HBd
        go_simp
        go_roundw
        case rel => exact ⟨_, _, _, _, _, _, _, _, _, _, _, _, _, _, ⟨m + kl, by push_cast; rfl, hle, ⟨q + k, HQ2.out⟩, HG4.out, HB4.out⟩, rfl⟩
        case measure => simp [intOf] <;> omega)
    · have hI : ¬ (m : Int) < (L : Int) := by omega
      obtain rfl : m = L := by omega
      go_wp2_with fail
      go_ret
      have e := HRL.out
      have hG := Hg.out
      rw [← e, filled_all] at hG
      rw [← e]
      exact ⟨Hb.out, _, rfl, own_row wr w.heap.size _ R (Nat.le_refl _) hG (by rw [e]; unfold maxLen; omega)⟩
end Go.Proofs.Ytpgjaoemkadenaa.Seek

/- Plain mathematics of edits: which are right, what they make of a line, what undoes them. -/
set_option linter.unusedVariables false
set_option linter.unusedSimpArgs false
set_option maxRecDepth 100000
namespace Go.Proofs.Ytpgjaoemkadenaa.Plain

/-- A splice as it comes: from, to, text. -/
abbrev Spl := Int × Int × List Int
/-- A splice at places. -/
abbrev Nsp := Nat × Nat × List Int
def sup (s : Nsp) : Spl := ((s.1 : Int), (s.2.1 : Int), s.2.2)
def ups (ns : List Nsp) : List Spl := ns.map sup
theorem ups_len (ns : List Nsp) : (ups ns).length = ns.length := List.length_map ..

/-- Check's way from a splice on. -/
def chkGo (n : Int) : Int → Int → List Spl → Int
  | _, size, [] => if size > 4096 then 2 else 0
  | last, size, s :: r =>
    if s.1 ≤ last ∨ s.1 > s.2.1 ∨ s.2.1 > n ∨ (s.1 = s.2.1 ∧ s.2.2.length = 0) then 4
    else if s.2.2.length > 4096 ∨ size + ((s.2.2.length : Int) - (s.2.1 - s.1)) > 8192 then 2
    else chkGo n s.2.1 (size + ((s.2.2.length : Int) - (s.2.1 - s.1))) r
/-- Check's answer. -/
def schk (n : Int) (es : List Spl) : Int := if n < 0 ∨ n > 4096 then 1 else chkGo n (-1) n es

/-- Right splices of a line of n, from place lo on. -/
def Okay (n : Nat) : Nat → List Nsp → Prop
  | _, [] => True
  | lo, s :: r => lo ≤ s.1 ∧ s.1 ≤ s.2.1 ∧ s.2.1 ≤ n ∧ (s.1 < s.2.1 ∨ 0 < s.2.2.length) ∧ Okay n (s.2.1 + 1) r
/-- How many are put in, how many go. -/
def puts : List Nsp → Nat
  | [] => 0
  | s :: r => s.2.2.length + puts r
def sgoes : List Nsp → Nat
  | [] => 0
  | s :: r => (s.2.1 - s.1) + sgoes r
def seg (l : List Int) (a b : Nat) : List Int := (l.drop a).take (b - a)
/-- What is made of a line, from a place on. -/
def app (l : List Int) : Nat → List Nsp → List Int
  | a, [] => l.drop a
  | a, s :: r => seg l a s.1 ++ s.2.2 ++ app l s.2.1 r
/-- What undoes it: a, the place in the line; m, the place in what is made of it. -/
def und (l : List Int) : Nat → Nat → List Nsp → List Nsp
  | _, _, [] => []
  | a, m, s :: r => (m + (s.1 - a), m + (s.1 - a) + s.2.2.length, seg l s.1 s.2.1) :: und l s.2.1 (m + (s.1 - a) + s.2.2.length) r

theorem seg_len (l : List Int) (a b : Nat) (h : b ≤ l.length) : (seg l a b).length = b - a := by unfold seg; rw [List.length_take, List.length_drop]; omega
theorem seg_drop (l : List Int) (a b : Nat) (h : a ≤ b) : seg l a b ++ l.drop b = l.drop a := by
  unfold seg
  have : l.drop b = (l.drop a).drop (b - a) := by rw [List.drop_drop]; congr 1; omega
  rw [this, List.take_append_drop]
theorem seg_seg (l : List Int) (a b c : Nat) (h : a ≤ b) (h2 : b ≤ c) : seg l a b ++ seg l b c = seg l a c := by
  unfold seg
  have e : l.drop b = (l.drop a).drop (b - a) := by rw [List.drop_drop]; congr 1; omega
  rw [e, show c - a = (b - a) + (c - b) by omega, List.take_add]
theorem take_seg (l : List Int) (a b : Nat) (h : a ≤ b) : l.take a ++ seg l a b = l.take b := by
  have := seg_seg l 0 a b (Nat.zero_le _) h
  unfold seg at this ⊢
  simpa using this
theorem seg_mid (A S B : List Int) (m k : Nat) (hm : A.length = m) (hk : k = m + S.length) : seg (A ++ (S ++ B)) m k = S := by
  unfold seg
  subst hm hk
  rw [List.drop_left, show A.length + S.length - A.length = S.length by omega, List.take_left]

theorem Okay.less {n : Nat} : ∀ {lo lo' : Nat} {ns : List Nsp}, Okay n lo ns → lo' ≤ lo → Okay n lo' ns
  | _, _, [], _, _ => trivial
  | _, _, s :: r, h, hl => ⟨Nat.le_trans hl h.1, h.2⟩
theorem Okay.goes_le {n : Nat} : ∀ {lo : Nat} {ns : List Nsp}, Okay n lo ns → sgoes ns ≤ n - lo
  | _, [], _ => Nat.zero_le _
  | lo, s :: r, ⟨h1, h2, h3, _, h5⟩ => by
    have := h5.goes_le
    unfold sgoes
    omega
theorem Okay.count {n : Nat} : ∀ {lo : Nat} {ns : List Nsp}, Okay n lo ns → ns.length ≤ n + 1 - lo
  | _, [], _ => Nat.zero_le _
  | lo, s :: r, ⟨h1, h2, h3, _, h5⟩ => by
    have := h5.count
    rw [List.length_cons]
    omega
theorem app_len (l : List Int) : ∀ (a : Nat) (ns : List Nsp) (lo : Nat), Okay l.length lo ns → a ≤ lo → a ≤ l.length → (app l a ns).length + sgoes ns = (l.length - a) + puts ns
  | a, [], _, _, _, h => by unfold app sgoes puts; rw [List.length_drop]
  | a, s :: r, lo, ⟨h1, h2, h3, h4, h5⟩, ha, _ => by
    have := app_len l s.2.1 r _ h5 (by omega) h3
    unfold app sgoes puts
    rw [List.length_append, List.length_append, seg_len l a s.1 (by omega)]
    have h9 := h5.goes_le
    omega

/-- Of right splices Check tells whether the line is too long. -/
theorem chkGo_right (n : Nat) (hn : n ≤ 4096) : ∀ (ns : List Nsp) (lo : Nat) (last size : Int), Okay n lo ns → last < (lo : Int) → (sgoes ns : Int) ≤ size →
    chkGo n last size (ups ns) = if size + (puts ns : Int) - (sgoes ns : Int) > 4096 then 2 else 0
  | [], lo, last, size, _, _, _ => by
    unfold ups chkGo puts sgoes
    simp
  | s :: r, lo, last, size, ⟨h1, h2, h3, h4, h5⟩, hl, hs => by
    have hg := h5.goes_le
    have hgs : sgoes (s :: r) = (s.2.1 - s.1) + sgoes r := rfl
    have hps : puts (s :: r) = s.2.2.length + puts r := rfl
    have ih := chkGo_right n hn r (s.2.1 + 1) s.2.1 (size + ((s.2.2.length : Int) - ((s.2.1 : Int) - (s.1 : Int)))) h5 (by omega) (by omega)
    show chkGo n last size (sup s :: ups r) = _
    unfold chkGo
    rw [if_neg (by
      simp only [sup]
      have : ¬ ((s.1 : Int) = (s.2.1 : Int) ∧ s.2.2.length = 0) := by omega
      omega)]
    by_cases hb : (sup s).2.2.length > 4096 ∨ size + (((sup s).2.2.length : Int) - ((sup s).2.1 - (sup s).1)) > 8192
    · rw [if_pos hb]
      simp only [sup] at hb
      rw [if_pos (by omega)]
    · rw [if_neg hb]
      show chkGo n (s.2.1 : Int) _ (ups r) = _
      simp only [sup]
      rw [ih]
      congr 1
      apply propext
      omega
theorem chkGo_shape (n : Nat) : ∀ (es : List Spl) (last size : Int), -1 ≤ last → chkGo n last size es = 0 → ∃ ns, es = ups ns ∧ Okay n (last + 1).toNat ns
  | [], _, _, _, _ => ⟨[], rfl, trivial⟩
  | s :: r, last, size, hl, h => by
    unfold chkGo at h
    by_cases h1 : s.1 ≤ last ∨ s.1 > s.2.1 ∨ s.2.1 > (n : Int) ∨ (s.1 = s.2.1 ∧ s.2.2.length = 0)
    · rw [if_pos h1] at h; cases h
    · rw [if_neg h1] at h
      by_cases h2 : s.2.2.length > 4096 ∨ size + ((s.2.2.length : Int) - (s.2.1 - s.1)) > 8192
      · rw [if_pos h2] at h; cases h
      · rw [if_neg h2] at h
        obtain ⟨ns, e, ho⟩ := chkGo_shape n r s.2.1 _ (by omega) h
        refine ⟨(s.1.toNat, s.2.1.toNat, s.2.2) :: ns, ?_, ?_⟩
        · unfold ups at e ⊢
          rw [List.map_cons, ← e]
          congr 1
          unfold sup
          refine Prod.ext ?_ (Prod.ext ?_ rfl)
          · show s.1 = ((s.1.toNat : Nat) : Int)
            omega
          · show s.2.1 = ((s.2.1.toNat : Nat) : Int)
            omega
        · refine ⟨?_, ?_, ?_, ?_, ?_⟩
          · show (last + 1).toNat ≤ s.1.toNat
            omega
          · show s.1.toNat ≤ s.2.1.toNat
            omega
          · show s.2.1.toNat ≤ n
            omega
          · show s.1.toNat < s.2.1.toNat ∨ 0 < s.2.2.length
            omega
          · show Okay n (s.2.1.toNat + 1) ns
            rw [show s.2.1.toNat + 1 = (s.2.1 + 1).toNat by omega]
            exact ho
theorem schk_right (l : List Int) (ns : List Nsp) (hl : l.length ≤ 4096) (h : Okay l.length 0 ns) : schk (l.length : Int) (ups ns) = if (app l 0 ns).length > 4096 then 2 else 0 := by
  unfold schk
  rw [if_neg (by omega), chkGo_right l.length hl ns 0 (-1) l.length h (by omega) (by have := h.goes_le; omega)]
  have h1 := app_len l 0 ns 0 h (Nat.le_refl _) (Nat.zero_le _)
  congr 1
  apply propext
  omega
theorem chk_shape {n : Int} {es : List Spl} (h : schk n es = 0) : ∃ (k : Nat) (ns : List Nsp), n = (k : Int) ∧ k ≤ 4096 ∧ es = ups ns ∧ Okay k 0 ns := by
  unfold schk at h
  by_cases h1 : n < 0 ∨ n > 4096
  · rw [if_pos h1] at h; cases h
  · rw [if_neg h1] at h
    obtain ⟨k, rfl⟩ : ∃ k : Nat, n = (k : Int) := ⟨n.toNat, by omega⟩
    obtain ⟨ns, e, ho⟩ := chkGo_shape k es (-1) k (by omega) h
    exact ⟨k, ns, rfl, by omega, e, ho⟩
/-- A right edit of a line. -/
def Right (l : List Int) (ns : List Nsp) : Prop := l.length ≤ 4096 ∧ Okay l.length 0 ns ∧ (app l 0 ns).length ≤ 4096
theorem chk_ok {l : List Int} {es : List Spl} (h : schk (l.length : Int) es = 0) : ∃ ns, es = ups ns ∧ Right l ns := by
  obtain ⟨k, ns, hk, hk2, rfl, ho⟩ := chk_shape h
  obtain rfl : l.length = k := by omega
  rw [schk_right l ns hk2 ho] at h
  refine ⟨ns, rfl, hk2, ho, ?_⟩
  by_cases h9 : (app l 0 ns).length > 4096
  · rw [if_pos h9] at h; cases h
  · omega
theorem Right.chk {l : List Int} {ns : List Nsp} (h : Right l ns) : schk (l.length : Int) (ups ns) = 0 := by
  rw [schk_right l ns h.1 h.2.1, if_neg (by have := h.2.2; omega)]
/-- .. of a line whose length alone is known. -/
def Fits (n : Nat) (ns : List Nsp) : Prop := n ≤ 4096 ∧ Okay n 0 ns ∧ n + puts ns ≤ 4096 + sgoes ns
theorem Right.fits {l : List Int} {ns : List Nsp} (h : Right l ns) : Fits l.length ns := by
  refine ⟨h.1, h.2.1, ?_⟩
  have := app_len l 0 ns 0 h.2.1 (Nat.le_refl _) (Nat.zero_le _)
  have := h.2.2
  omega
theorem Fits.right {l : List Int} {ns : List Nsp} (h : Fits l.length ns) : Right l ns := by
  refine ⟨h.1, h.2.1, ?_⟩
  have := app_len l 0 ns 0 h.2.1 (Nat.le_refl _) (Nat.zero_le _)
  have := h.2.2
  omega
theorem Fits.puts_le {n : Nat} {ns : List Nsp} (h : Fits n ns) : puts ns ≤ 4096 := by
  have := h.2.1.goes_le
  have := h.2.2
  omega
theorem fits_of_chk {n : Int} {es : List Spl} (h : schk n es = 0) : ∃ (k : Nat) (ns : List Nsp), n = (k : Int) ∧ es = ups ns ∧ Fits k ns := by
  obtain ⟨k, ns, rfl, hk, rfl, ho⟩ := chk_shape h
  have hl : (List.replicate k (0 : Int)).length = k := List.length_replicate
  have h2 : schk ((List.replicate k (0 : Int)).length : Int) (ups ns) = 0 := by rw [hl]; exact h
  rw [schk_right _ ns (by rw [hl]; exact hk) (by rw [hl]; exact ho)] at h2
  have h3 : Right (List.replicate k (0 : Int)) ns := ⟨by rw [hl]; exact hk, by rw [hl]; exact ho, by
    by_cases h9 : (app (List.replicate k (0 : Int)) 0 ns).length > 4096
    · rw [if_pos h9] at h2; cases h2
    · omega⟩
  have h4 := h3.fits
  rw [hl] at h4
  exact ⟨k, ns, rfl, rfl, h4⟩
theorem Fits.chk {n : Nat} {ns : List Nsp} (h : Fits n ns) : schk (n : Int) (ups ns) = 0 := by
  have hl : (List.replicate n (0 : Int)).length = n := List.length_replicate
  have h2 : Fits (List.replicate n (0 : Int)).length ns := by rw [hl]; exact h
  have := h2.right.chk
  rw [hl] at this
  exact this
theorem puts_mem {ns : List Nsp} {s : Nsp} (h : s ∈ ns) : s.2.2.length ≤ puts ns := by
  induction ns with
  | nil => cases h
  | cons q r ih =>
    rcases List.mem_cons.1 h with rfl | h
    · unfold puts; omega
    · have := ih h
      unfold puts; omega

/-- What is undone is as it was. -/
theorem app_und (l : List Int) : ∀ (ns : List Nsp) (a m : Nat) (A : List Int) (lo : Nat), Okay l.length lo ns → a ≤ lo → A.length = m →
    app (A ++ app l a ns) m (und l a m ns) = l.drop a
  | [], a, m, A, lo, _, _, hA => by
    unfold und app
    rw [← hA, List.drop_left]
    rfl
  | s :: r, a, m, A, lo, ⟨h1, h2, h3, h4, h5⟩, ha, hA => by
    have hs : (seg l a s.1).length = s.1 - a := seg_len l a s.1 (by omega)
    have ih := app_und l r s.2.1 (m + (s.1 - a) + s.2.2.length) (A ++ seg l a s.1 ++ s.2.2) _ h5 (by omega) (by rw [List.length_append, List.length_append, hs, hA])
    have e : A ++ app l a (s :: r) = A ++ seg l a s.1 ++ s.2.2 ++ app l s.2.1 r := by
      show A ++ (seg l a s.1 ++ s.2.2 ++ app l s.2.1 r) = _
      simp only [List.append_assoc]
    rw [e]
    unfold und
    show seg _ m (m + (s.1 - a)) ++ seg l s.1 s.2.1 ++ app _ (m + (s.1 - a) + s.2.2.length) _ = _
    rw [ih]
    have e2 : seg (A ++ seg l a s.1 ++ s.2.2 ++ app l s.2.1 r) m (m + (s.1 - a)) = seg l a s.1 := by
      rw [List.append_assoc, List.append_assoc]
      exact seg_mid _ _ _ _ _ hA (by rw [hs])
    rw [e2, seg_seg l a s.1 s.2.1 (by omega) h2, seg_drop l a s.2.1 (by omega)]
theorem und_und (l : List Int) : ∀ (ns : List Nsp) (a m : Nat) (A : List Int) (lo : Nat), Okay l.length lo ns → a ≤ lo → A.length = m →
    und (A ++ app l a ns) m a (und l a m ns) = ns
  | [], a, m, A, lo, _, _, hA => rfl
  | s :: r, a, m, A, lo, ⟨h1, h2, h3, h4, h5⟩, ha, hA => by
    have hs : (seg l a s.1).length = s.1 - a := seg_len l a s.1 (by omega)
    have ih := und_und l r s.2.1 (m + (s.1 - a) + s.2.2.length) (A ++ seg l a s.1 ++ s.2.2) _ h5 (by omega) (by rw [List.length_append, List.length_append, hs, hA])
    have e : A ++ app l a (s :: r) = A ++ seg l a s.1 ++ s.2.2 ++ app l s.2.1 r := by
      show A ++ (seg l a s.1 ++ s.2.2 ++ app l s.2.1 r) = _
      simp only [List.append_assoc]
    rw [e]
    have ee : und l a m (s :: r) = (m + (s.1 - a), m + (s.1 - a) + s.2.2.length, seg l s.1 s.2.1) :: und l s.2.1 (m + (s.1 - a) + s.2.2.length) r := rfl
    rw [ee]
    show (a + (m + (s.1 - a) - m), a + (m + (s.1 - a) - m) + (seg l s.1 s.2.1).length, seg _ (m + (s.1 - a)) (m + (s.1 - a) + s.2.2.length)) :: und _ (m + (s.1 - a) + s.2.2.length) (a + (m + (s.1 - a) - m) + (seg l s.1 s.2.1).length) _ = _
    have f1 : a + (m + (s.1 - a) - m) = s.1 := by omega
    have f2 : s.1 + (seg l s.1 s.2.1).length = s.2.1 := by rw [seg_len l s.1 s.2.1 h3]; omega
    rw [f1, f2, ih]
    have e2 : seg (A ++ seg l a s.1 ++ s.2.2 ++ app l s.2.1 r) (m + (s.1 - a)) (m + (s.1 - a) + s.2.2.length) = s.2.2 := by
      rw [List.append_assoc]
      exact seg_mid _ _ _ _ _ (by rw [List.length_append, hs, hA]) rfl
    rw [e2]
theorem und_okay (l : List Int) (M : Nat) : ∀ (ns : List Nsp) (a m d : Nat), Okay l.length (a + d) ns → m + (app l a ns).length = M → a ≤ l.length → Okay M (m + d) (und l a m ns)
  | [], _, _, _, _, _, _ => trivial
  | s :: r, a, m, d, ⟨h1, h2, h3, h4, h5⟩, hM, hal => by
    have hs : (seg l a s.1).length = s.1 - a := seg_len l a s.1 (by omega)
    have hM2 : (app l a (s :: r)).length = (s.1 - a) + s.2.2.length + (app l s.2.1 r).length := by
      show (seg l a s.1 ++ s.2.2 ++ app l s.2.1 r).length = _
      rw [List.length_append, List.length_append, hs]
    refine ⟨?_, ?_, ?_, ?_, ?_⟩
    · show m + d ≤ m + (s.1 - a)
      omega
    · show m + (s.1 - a) ≤ m + (s.1 - a) + s.2.2.length
      omega
    · show m + (s.1 - a) + s.2.2.length ≤ M
      omega
    · show m + (s.1 - a) < m + (s.1 - a) + s.2.2.length ∨ 0 < (seg l s.1 s.2.1).length
      rw [seg_len l s.1 s.2.1 h3]
      omega
    · exact und_okay l M r s.2.1 (m + (s.1 - a) + s.2.2.length) 1 h5 (by omega) h3
/-- The edit that undoes a right one is right, and makes the line again. -/
theorem und_right {l : List Int} {ns : List Nsp} (h : Right l ns) : Right (app l 0 ns) (und l 0 0 ns) ∧ app (app l 0 ns) 0 (und l 0 0 ns) = l ∧ und (app l 0 ns) 0 0 (und l 0 0 ns) = ns := by
  have h1 := app_und l ns 0 0 [] 0 h.2.1 (Nat.le_refl _) rfl
  rw [List.nil_append, List.drop_zero] at h1
  refine ⟨⟨h.2.2, und_okay l _ ns 0 0 0 h.2.1 (by omega) (Nat.zero_le _), by rw [h1]; exact h.1⟩, h1, ?_⟩
  have := und_und l ns 0 0 [] 0 h.2.1 (Nat.le_refl _) rfl
  rw [List.nil_append] at this
  exact this

/-- The document's way: the last splice first. -/
def appR (l : List Int) : List Nsp → List Int
  | [] => l
  | s :: r => (appR l r).take s.1 ++ s.2.2 ++ (appR l r).drop s.2.1
theorem appR_app (l : List Int) : ∀ (ns : List Nsp) (a lo : Nat), Okay l.length lo ns → a ≤ lo → appR l ns = l.take a ++ app l a ns
  | [], a, _, _, _ => by
    unfold appR app
    rw [List.take_append_drop]
  | s :: r, a, lo, ⟨h1, h2, h3, h4, h5⟩, ha => by
    have ih := appR_app l r s.2.1 _ h5 (by omega)
    unfold appR app
    rw [ih]
    have ht : (l.take s.2.1).length = s.2.1 := by rw [List.length_take]; omega
    have e1 : (l.take s.2.1 ++ app l s.2.1 r).take s.1 = l.take s.1 := by
      rw [List.take_append_of_le_length (by omega), List.take_take, Nat.min_eq_left h2]
    have e2 : (l.take s.2.1 ++ app l s.2.1 r).drop s.2.1 = app l s.2.1 r := by
      rw [List.drop_append_of_le_length (by omega), List.drop_eq_nil_of_le (by omega), List.nil_append]
    rw [e1, e2, ← take_seg l a s.1 (by omega)]
    simp only [List.append_assoc]
theorem appR_len (l : List Int) : ∀ (ns : List Nsp) (lo : Nat), Okay l.length lo ns → (appR l ns).length + sgoes ns = l.length + puts ns
  | ns, lo, h => by
    have h1 := appR_app l ns 0 lo h (Nat.zero_le _)
    have h2 := app_len l 0 ns lo h (Nat.zero_le _) (Nat.zero_le _)
    rw [h1, List.take_zero, List.nil_append]
    omega
theorem okay_take {n : Nat} : ∀ {ns : List Nsp} {lo : Nat} (i : Nat) (s : Nsp), Okay n lo ns → ns[i]? = some s → Okay s.1 lo (ns.take i)
  | [], _, _, _, _, h => by simp at h
  | q :: r, lo, 0, s, _, _ => trivial
  | q :: r, lo, i + 1, s, ⟨h1, h2, h3, h4, h5⟩, h => by
    rw [List.getElem?_cons_succ] at h
    have ih := okay_take i s h5 h
    have hq : q.2.1 + 1 ≤ s.1 := okay_at h5 i h
    rw [List.take_succ_cons]
    exact ⟨h1, h2, by omega, h4, ih⟩
where
  okay_at {n : Nat} : ∀ {ns : List Nsp} {lo : Nat}, Okay n lo ns → ∀ (i : Nat) {s : Nsp}, ns[i]? = some s → lo ≤ s.1
  | [], _, _, _, _, h => by simp at h
  | q :: r, lo, ⟨h1, h2, h3, h4, h5⟩, 0, s, h => by
    simp at h
    subst h
    exact h1
  | q :: r, lo, ⟨h1, h2, h3, h4, h5⟩, i + 1, s, h => by
    rw [List.getElem?_cons_succ] at h
    have := okay_at h5 i h
    omega
theorem Okay.at_ {n : Nat} : ∀ {ns : List Nsp} {lo : Nat}, Okay n lo ns → ∀ (i : Nat) {s : Nsp}, ns[i]? = some s → lo ≤ s.1 ∧ s.1 ≤ s.2.1 ∧ s.2.1 ≤ n
  | [], _, _, _, _, h => by simp at h
  | q :: r, lo, ⟨h1, h2, h3, h4, h5⟩, 0, s, h => by
    simp at h
    subst h
    exact ⟨h1, h2, h3⟩
  | q :: r, lo, ⟨h1, h2, h3, h4, h5⟩, i + 1, s, h => by
    rw [List.getElem?_cons_succ] at h
    have := Okay.at_ h5 i h
    omega
theorem Okay.drop {n : Nat} : ∀ {ns : List Nsp} {lo : Nat} (i : Nat), Okay n lo ns → Okay n lo (ns.drop i)
  | [], _, i, _ => by rw [List.drop_nil]; trivial
  | q :: r, lo, 0, h => h
  | q :: r, lo, i + 1, ⟨h1, h2, h3, h4, h5⟩ => by
    rw [List.drop_succ_cons]
    exact (Okay.drop i h5).less (by omega)
/-- Where a splice stands in what is made: the document's way. -/
theorem und_at (l : List Int) : ∀ (ns : List Nsp) (a m lo i : Nat) (s : Nsp), Okay l.length lo ns → a ≤ lo → ns[i]? = some s →
    (und l a m ns)[i]? = some (m + (app (l.take s.1) a (ns.take i)).length, m + (app (l.take s.1) a (ns.take i)).length + s.2.2.length, seg l s.1 s.2.1)
  | [], _, _, _, _, _, _, _, h => by simp at h
  | q :: r, a, m, lo, 0, s, ⟨h1, h2, h3, h4, h5⟩, ha, h => by
    simp at h
    subst h
    unfold und
    have : (app (l.take q.1) a ((q :: r).take 0)).length = q.1 - a := by
      show ((l.take q.1).drop a).length = _
      rw [List.length_drop, List.length_take]
      omega
    rw [this]
    rfl
  | q :: r, a, m, lo, i + 1, s, ⟨h1, h2, h3, h4, h5⟩, ha, h => by
    rw [List.getElem?_cons_succ] at h
    have ih := und_at l r q.2.1 (m + (q.1 - a) + q.2.2.length) _ i s h5 (by omega) h
    have hs := Okay.at_ h5 i h
    unfold und
    rw [List.getElem?_cons_succ, ih]
    have e : (app (l.take s.1) a ((q :: r).take (i + 1))).length = (q.1 - a) + q.2.2.length + (app (l.take s.1) q.2.1 (r.take i)).length := by
      rw [List.take_succ_cons]
      show (seg (l.take s.1) a q.1 ++ q.2.2 ++ app (l.take s.1) q.2.1 (r.take i)).length = _
      rw [List.length_append, List.length_append, seg_len _ _ _ (by rw [List.length_take]; omega)]
    rw [e]
    congr 2 <;> (try omega)
    congr 1
    omega
theorem und_len (l : List Int) : ∀ (ns : List Nsp) (a m : Nat), (und l a m ns).length = ns.length
  | [], _, _ => rfl
  | s :: r, a, m => by
    unfold und
    rw [List.length_cons, und_len l r, List.length_cons]
end Go.Proofs.Ytpgjaoemkadenaa.Plain

/- Edits in memory: slices of splices that can be read; one splice in a variable; changes and growth. -/
set_option linter.unusedVariables false
set_option linter.unusedSimpArgs false
set_option maxRecDepth 100000
namespace Go.Proofs.Ytpgjaoemkadenaa.Seek
open Go.RowKit Plain

def spl0 : Spl := (0, 0, [])
/-- The cells from p on hold a splice. -/
def SplAt (w : World) (b p : Nat) (s : Spl) : Prop :=
  w.cell? ⟨b, p, none⟩ = some (.int .i64 s.1) ∧ w.cell? ⟨b, p + 1, none⟩ = some (.int .i64 s.2.1) ∧ Mild s.2.2 ∧ ∃ a cap, w.cell? ⟨b, p + 2, none⟩ = some (.slice a s.2.2.length cap) ∧ Reads w (.slice a s.2.2.length cap) s.2.2
/-- The slice v holds the splices es. -/
def ReadsE (w : World) (v : Value) (es : List Spl) : Prop :=
  (∃ a cap, v = .slice a 0 cap ∧ es = []) ∨
  (∃ b off cap, v = .slice (some ⟨b, off, none⟩) es.length cap ∧ es.length ≤ cap ∧ cap ≤ maxLen ∧ b < w.heap.size ∧ ∀ j, j < es.length → SplAt w b (off + j * 3) (es.getD j spl0))

theorem SplAt.below {w w' : World} {b p : Nat} {s : Spl} (h : SplAt w b p s) (hb : Below w.heap.size w w') (hlt : b < w.heap.size) : SplAt w' b p s := by
  obtain ⟨h1, h2, hm, a, cap, h3, h4⟩ := h
  exact ⟨(hb.cell (by exact hlt)).trans h1, (hb.cell (by exact hlt)).trans h2, hm, a, cap, (hb.cell (by exact hlt)).trans h3, h4.below hb⟩
theorem ReadsE.shape {w : World} {v : Value} {es : List Spl} (h : ReadsE w v es) : ∃ a cap, v = .slice a es.length cap := by
  rcases h with ⟨a, cap, hv, hz⟩ | ⟨b, off, cap, hv, _⟩
  · subst hz
    exact ⟨a, cap, hv⟩
  · exact ⟨_, cap, hv⟩
theorem ReadsE.below {w w' : World} {v : Value} {es : List Spl} (h : ReadsE w v es) (hb : Below w.heap.size w w') : ReadsE w' v es := by
  rcases h with h | ⟨b, off, cap, hv, hcap, hm, hlt, hc⟩
  · exact .inl h
  · exact .inr ⟨b, off, cap, hv, hcap, hm, Nat.lt_of_lt_of_le hlt hb.size, fun j hj => (hc j hj).below hb hlt⟩

/-- A splice in a variable of its own. -/
def Boxed (w : World) (b : Nat) (f t : Int) (v : Value) : Prop := b < w.heap.size ∧ w.cell? ⟨b, 0, none⟩ = some (.int .i64 f) ∧ w.cell? ⟨b, 1, none⟩ = some (.int .i64 t) ∧ w.cell? ⟨b, 2, none⟩ = some v
theorem Boxed.below {w w' : World} {b : Nat} {f t : Int} {v : Value} (h : Boxed w b f t v) (hb : Below w.heap.size w w') : Boxed w' b f t v :=
  ⟨Nat.lt_of_lt_of_le h.1 hb.size, (hb.cell h.1).trans h.2.1, (hb.cell h.1).trans h.2.2.1, (hb.cell h.1).trans h.2.2.2⟩
theorem boxed_new (w : World) (f t : Int) (v : Value) : Boxed (w.alloc (.cells #[.int .i64 f, .int .i64 t, v] 60)) w.heap.size f t v := by
  have hb : ∀ o, (w.alloc o).heap[w.heap.size]? = some o := fun o => by show (w.heap.push o)[w.heap.size]? = _; simp [Array.getElem?_push]
  refine ⟨by rw [size_alloc]; omega, ?_, ?_, ?_⟩ <;>
  · unfold World.cell?
    simp only
    rw [hb]
    rfl
/-- Whether a splice does something. -/
def chg (s : Spl) : Bool := decide (s.1 < s.2.1) || decide (0 < s.2.2.length)
theorem changes_any (f t : Int) (a : Option Addr) (n cap : Nat) (w : World) :
    Calls Try.prog 40 #[.agg #[.int .i64 f, .int .i64 t, .slice a n cap]] w fun e w' => e = .returned (.bool (decide (f < t) || decide (0 < n))) ∧ Below w.heap.size w w' := by
  go_enter Try.func40, Try.ntmps40
  go_wp2_with fail
  all_goals (go_ret; exact ⟨rfl, box_below _ _⟩)
end Go.Proofs.Ytpgjaoemkadenaa.Seek
