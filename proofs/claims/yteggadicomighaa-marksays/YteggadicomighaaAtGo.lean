/- The contract of the document's at (what Overs and RefAt have of it, for a seat without Over). -/
import Derived.Test.YteggadicomighaaAppends
set_option linter.unusedVariables false
set_option linter.unusedSimpArgs false
namespace Go.Proofs.Yteggadicomighaa.Plain
def txt (ns : List Nsp) (i : Nat) : List Int := ns.foldl (fun acc s => if s.1 = i then s.2.2 else acc) []
def gon (ns : List Nsp) (i : Nat) : Bool := ns.foldl (fun acc s => acc || (decide (s.1 ≤ i) && decide (i < s.2.1))) false
theorem txt_more (ns : List Nsp) (s : Nsp) (i : Nat) : txt (ns ++ [s]) i = if s.1 = i then s.2.2 else txt ns i := by unfold txt; rw [List.foldl_append]; rfl
theorem gon_more (ns : List Nsp) (s : Nsp) (i : Nat) : gon (ns ++ [s]) i = (gon ns i || (decide (s.1 ≤ i) && decide (i < s.2.1))) := by unfold gon; rw [List.foldl_append]; rfl
end Go.Proofs.Yteggadicomighaa.Plain
namespace Go.Proofs.Yteggadicomighaa.Seek
open Go.RowKit Plain

set_option maxRecDepth 100000 in
set_option maxHeartbeats 4000000 in
theorem at_any (v : Value) (ns : List Nsp) (i : Nat) (w : World) (h2 : ReadsE w v (ups ns)) (hl : ns.length ≤ 100000) (hi : i ≤ 100000) :
    Calls Try.prog 22 #[v, .int .i64 (i : Int)] w fun e w' => Below w.heap.size w w' ∧ ∃ tv, e = .returned (.tuple #[tv, .bool (gon ns i)]) ∧ Reads w tv (txt ns i) := by
  obtain ⟨a2, cap2, rfl⟩ := h2.shape
  rw [ups_len] at h2 ⊢
  have HE1 : Hid (∀ k, k < ns.length → ∃ b off, a2 = some ⟨b, off, none⟩ ∧ b < w.heap.size ∧ SplAt w b (off + k * 3) ((ups ns).getD k spl0)) := by
    have h3 : ReadsE w (.slice a2 (ups ns).length cap2) (ups ns) := by rw [ups_len]; exact h2
    intro k hk
    exact h3.each k (by rw [ups_len]; exact hk)
  clear h2
  obtain ⟨Gn, hGn⟩ : ∃ Gn, Gn = gon ns i := ⟨_, rfl⟩
  obtain ⟨Tx, hTx⟩ : ∃ Tx, Tx = txt ns i := ⟨_, rfl⟩
  rw [← hGn, ← hTx]
  have HGn : Hid (Gn = gon (ns.take ns.length) i) := by show _ = _; rw [List.take_length]; exact hGn
  have HTx : Hid (Tx = txt (ns.take ns.length) i) := by show _ = _; rw [List.take_length]; exact hTx
  clear hGn hTx
  go_enter Try.func22, Try.ntmps22
  go_wp2_with fail
  go_loopw [6, 7, 12] (fun u6 u7 u12 wr => ∃ (k : Nat) (q : Bool) (T : List Int), u12 = .int .i64 (k : Int) ∧ u7 = .bool q ∧ k ≤ ns.length ∧ Hid (q = gon (ns.take k) i) ∧ Hid (T = txt (ns.take k) i) ∧ Hid (Reads w u6 T) ∧ Hid (Below w.heap.size w wr))
    (fun _ _ u12 _ => ns.length - (intOf u12).toNat)
  case atStart => exact ⟨0, false, [], rfl, rfl, Nat.zero_le _, rfl, rfl, .inl ⟨_, _, rfl, rfl⟩, Below.refl _ _⟩
  case round =>
    obtain ⟨k, q, T, rfl, rfl, hk, Hq, HT, Hrd, Hb⟩ := hrel
    have hbs := Hb.out.size
    by_cases hlt : k < ns.length
    · obtain ⟨s, hs1, hs2, hs3⟩ := ups_at ns k hlt
      obtain ⟨b, off, hae, hbl, hsp⟩ := HE1.out k hlt
      subst hae
      have hsp2 := hsp.below Hb.out hbl
      rw [hs2] at hsp hsp2
      have hTk : ns.take (k + 1) = ns.take k ++ [s] := by rw [List.take_add_one, hs3]; rfl
      clear hs1 hs2 hs3
      obtain ⟨f, t, x⟩ := s
      obtain ⟨c0, c1, _, a3, cap3, c2, _⟩ := hsp2
      obtain ⟨_, _, _, a3', cap3', c2', hrx⟩ := hsp
      have hcc : wr.cell? ⟨b, off + k * 3 + 2, none⟩ = w.cell? ⟨b, off + k * 3 + 2, none⟩ := Hb.out.cell (by exact hbl)
      rw [hcc, c2'] at c2
      have hcv := Option.some.inj c2
      rw [hcv] at c2' hrx
      have c2w : wr.cell? ⟨b, off + k * 3 + 2, none⟩ = some (.slice a3 x.length cap3) := hcc.trans c2'
      clear hcc c2' c2 hcv
      simp only [up] at c0 c1 hrx
      have HRX : Hid (Reads w (.slice a3 x.length cap3) x) := hrx
      have HQ2 : Hid (gon (ns.take (k + 1)) i = (q || (decide (f ≤ i) && decide (i < t)))) := by
        show _ = _
        rw [hTk, gon_more, Hq.out]
      have HT2 : Hid (txt (ns.take (k + 1)) i = if f = i then x else T) := by
        show _ = _
        rw [hTk, txt_more, HT.out]
      clear hrx hTk Hq HT
      have HbA : Hid (Below w.heap.size w (wr.alloc (.cells #[.int .i64 (f : Int), .int .i64 (t : Int), .slice a3 x.length cap3] 37))) := Hb.out.alloc hbs _
      obtain ⟨P, HP⟩ : ∃ P : List Int × Value, Hid (Reads w P.2 P.1 ∧ P.1 = txt (ns.take (k + 1)) i ∧ P.2 = if f = i then .slice a3 x.length cap3 else u6) := by
        refine ⟨(txt (ns.take (k + 1)) i, if f = i then .slice a3 x.length cap3 else u6), ?_, rfl, rfl⟩
        rw [HT2.out]
        by_cases hf : f = i
        · rw [if_pos hf, if_pos hf]
          exact HRX.out
        · rw [if_neg hf, if_neg hf]
          exact Hrd.out
      by_cases hf : f = i
      · have hfb : ((f : Int) == (i : Int)) = true := by simp [hf]
        have HPv : Hid (P.2 = .slice a3 x.length cap3) := by
          show _ = _
          rw [HP.out.2.2, if_pos hf]
        subst hf
        cases q with
        | true =>
          go_wp2_with fail
          go_roundw
          case rel => exact ⟨k + 1, true, P.1, by go_num, rfl, by omega, by rw [HQ2.out]; rfl, HP.out.2.1, by rw [← HPv.out]; exact HP.out.1, HbA.out⟩
          case measure => simp [intOf] <;> omega
        | false =>
          by_cases hft : f < t
          · go_wp2_with fail
            go_roundw
            case rel => exact ⟨k + 1, true, P.1, by go_num, by first | rfl | (simp; done) | (congr 1; simp; omega), by omega, by rw [HQ2.out, decide_eq_true (Nat.le_refl f), decide_eq_true hft]; rfl, HP.out.2.1, by rw [← HPv.out]; exact HP.out.1, HbA.out⟩
            case measure => simp [intOf] <;> omega
          · go_wp2_with fail
            go_roundw
            case rel => exact ⟨k + 1, false, P.1, by go_num, by first | rfl | (simp; done) | (congr 1; simp; omega), by omega, by show _ = _; rw [HQ2.out, decide_eq_false hft]; simp, HP.out.2.1, by rw [← HPv.out]; exact HP.out.1, HbA.out⟩
            case measure => simp [intOf] <;> omega
      · have hfb : ((f : Int) == (i : Int)) = false := beq_eq_false_iff_ne.2 (by omega)
        have hfn : (f == i) = false := beq_eq_false_iff_ne.2 hf
        have HPv : Hid (P.2 = u6) := by
          show _ = _
          rw [HP.out.2.2, if_neg hf]
        cases q with
        | true =>
          go_wp2_with fail
          go_roundw
          case rel => exact ⟨k + 1, true, P.1, by go_num, rfl, by omega, by rw [HQ2.out]; rfl, HP.out.2.1, by rw [← HPv.out]; exact HP.out.1, HbA.out⟩
          case measure => simp [intOf] <;> omega
        | false =>
          by_cases hfi : f ≤ i
          · by_cases hft : i < t
            · go_wp2_with fail
              go_roundw
              case rel => exact ⟨k + 1, true, P.1, by go_num, by first | rfl | (simp; done) | (congr 1; simp; omega), by omega, by rw [HQ2.out, decide_eq_true hfi, decide_eq_true hft]; rfl, HP.out.2.1, by rw [← HPv.out]; exact HP.out.1, HbA.out⟩
              case measure => simp [intOf] <;> omega
            · go_wp2_with fail
              go_roundw
              case rel => exact ⟨k + 1, false, P.1, by go_num, by first | rfl | (simp; done) | (congr 1; simp; omega), by omega, by show _ = _; rw [HQ2.out, decide_eq_false hft]; simp, HP.out.2.1, by rw [← HPv.out]; exact HP.out.1, HbA.out⟩
              case measure => simp [intOf] <;> omega
          · go_wp2_with fail
            go_roundw
            case rel => exact ⟨k + 1, false, P.1, by go_num, by first | rfl | (simp; done) | (congr 1; simp; omega), by omega, by rw [HQ2.out, decide_eq_false hfi]; rfl, HP.out.2.1, by rw [← HPv.out]; exact HP.out.1, HbA.out⟩
            case measure => simp [intOf] <;> omega
    · obtain rfl : k = ns.length := by omega
      have HQE : Hid (q = Gn) := by show _ = _; rw [HGn.out]; exact Hq.out
      have HTE : Hid (Reads w u6 Tx) := by rw [HTx.out, ← HT.out]; exact Hrd.out
      clear Hq HT Hrd
      go_wp2_with fail
      go_ret2
      exact ⟨Hb.out, _, by rw [← HQE.out]; rfl, HTE.out⟩
end Go.Proofs.Yteggadicomighaa.Seek
