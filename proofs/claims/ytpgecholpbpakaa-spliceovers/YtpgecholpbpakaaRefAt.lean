/- The contract of the document's at; rows of signs. -/
import Derived.Test.YtpgecholpbpakaaSpreadGo
set_option linter.unusedVariables false
set_option linter.unusedSimpArgs false
namespace Go.Proofs.Ytpgecholpbpakaa.Seek
open Go.RowKit Plain

set_option maxRecDepth 100000 in
set_option maxHeartbeats 4000000 in
theorem at_any (v : Value) (ns : List Nsp) (i : Nat) (w : World) (h2 : ReadsE w v (ups ns)) (hl : ns.length ≤ 100000) (hi : i ≤ 100000) :
    Calls Try.prog 32 #[v, .int .i64 (i : Int)] w fun e w' => Below w.heap.size w w' ∧ ∃ tv, e = .returned (.tuple #[tv, .bool (gon ns i)]) ∧ Reads w tv (txt ns i) := by
  obtain ⟨a2, cap2, rfl⟩ := h2.shape
  rw [ups_len] at h2 ⊢
  have HE1 : Hid (∀ k, k < ns.length → ∃ b off, a2 = some ⟨b, off, none⟩ ∧ b < w.heap.size ∧ SplAt w b (off + k * 3) ((ups ns).getD k spl0)) := by
    have h3 : ReadsE w (.slice a2 (ups ns).length cap2) (ups ns) := by rw [ups_len]; exact h2
    intro k hk
    exact h3.each k (by rw [ups_len]; exact hk)
  clear h2
  obtain ⟨Gn, hGn⟩ : ∃ Gn, Gn = gon ns i := ⟨_, rfl⟩
  obtain ⟨Tx, hTx⟩ : ∃ Tx, Tx = txt ns i := ⟨_, rfl⟩
  rw [← hGn, ← hTx]
  have HGn : Hid (Gn = gon (ns.take ns.length) i) := by show _ = _; rw [List.take_length]; exact hGn
  have HTx : Hid (Tx = txt (ns.take ns.length) i) := by show _ = _; rw [List.take_length]; exact hTx
  clear hGn hTx
  go_enter Try.func32, Try.ntmps32
  go_wp2_with fail
  go_loopw [6, 7, 12] (fun u6 u7 u12 wr => ∃ (k : Nat) (q : Bool) (T : List Int), u12 = .int .i64 (k : Int) ∧ u7 = .bool q ∧ k ≤ ns.length ∧ Hid (q = gon (ns.take k) i) ∧ Hid (T = txt (ns.take k) i) ∧ Hid (Reads w u6 T) ∧ Hid (Below w.heap.size w wr))
    (fun _ _ u12 _ => ns.length - (intOf u12).toNat)
  case atStart => exact ⟨0, false, [], rfl, rfl, Nat.zero_le _, rfl, rfl, .inl ⟨_, _, rfl, rfl⟩, Below.refl _ _⟩
  case round =>
    obtain ⟨k, q, T, rfl, rfl, hk, Hq, HT, Hrd, Hb⟩ := hrel
    have hbs := Hb.out.size
    by_cases hlt : k < ns.length
    · obtain ⟨s, hs1, hs2, hs3⟩ := ups_at ns k hlt
      obtain ⟨b, off, hae, hbl, hsp⟩ := HE1.out k hlt
      subst hae
      have hsp2 := hsp.below Hb.out hbl
      rw [hs2] at hsp hsp2
      have hTk : ns.take (k + 1) = ns.take k ++ [s] := by rw [List.take_add_one, hs3]; rfl
      clear hs1 hs2 hs3
      obtain ⟨f, t, x⟩ := s
      obtain ⟨c0, c1, _, a3, cap3, c2, _⟩ := hsp2
      obtain ⟨_, _, _, a3', cap3', c2', hrx⟩ := hsp
      have hcc : wr.cell? ⟨b, off + k * 3 + 2, none⟩ = w.cell? ⟨b, off + k * 3 + 2, none⟩ := Hb.out.cell (by exact hbl)
      rw [hcc, c2'] at c2
      have hcv := Option.some.inj c2
      rw [hcv] at c2' hrx
      have c2w : wr.cell? ⟨b, off + k * 3 + 2, none⟩ = some (.slice a3 x.length cap3) := hcc.trans c2'
      clear hcc c2' c2 hcv
      simp only [up] at c0 c1 hrx
      have HRX : Hid (Reads w (.slice a3 x.length cap3) x) := hrx
      have HQ2 : Hid (gon (ns.take (k + 1)) i = (q || (decide (f ≤ i) && decide (i < t)))) := by
        show _ = _
        rw [hTk, gon_more, Hq.out]
      have HT2 : Hid (txt (ns.take (k + 1)) i = if f = i then x else T) := by
        show _ = _
        rw [hTk, txt_more, HT.out]
      clear hrx hTk Hq HT
      have HbA : Hid (Below w.heap.size w (wr.alloc (.cells #[.int .i64 (f : Int), .int .i64 (t : Int), .slice a3 x.length cap3] 41))) := Hb.out.alloc hbs _
      obtain ⟨P, HP⟩ : ∃ P : List Int × Value, Hid (Reads w P.2 P.1 ∧ P.1 = txt (ns.take (k + 1)) i ∧ P.2 = if f = i then .slice a3 x.length cap3 else u6) := by
        refine ⟨(txt (ns.take (k + 1)) i, if f = i then .slice a3 x.length cap3 else u6), ?_, rfl, rfl⟩
        rw [HT2.out]
        by_cases hf : f = i
        · rw [if_pos hf, if_pos hf]
          exact HRX.out
        · rw [if_neg hf, if_neg hf]
          exact Hrd.out
      by_cases hf : f = i
      · have hfb : ((f : Int) == (i : Int)) = true := by simp [hf]
        have HPv : Hid (P.2 = .slice a3 x.length cap3) := by
          show _ = _
          rw [HP.out.2.2, if_pos hf]
        subst hf
        cases q with
        | true =>
          go_wp2_with fail
          go_roundw
          case rel => exact ⟨k + 1, true, P.1, by go_num, rfl, by omega, by rw [HQ2.out]; rfl, HP.out.2.1, by rw [← HPv.out]; exact HP.out.1, HbA.out⟩
          case measure => simp [intOf] <;> omega
        | false =>
          by_cases hft : f < t
          · go_wp2_with fail
            go_roundw
            case rel => exact ⟨k + 1, true, P.1, by go_num, by first | rfl | (simp; done) | (congr 1; simp; omega), by omega, by rw [HQ2.out, decide_eq_true (Nat.le_refl f), decide_eq_true hft]; rfl, HP.out.2.1, by rw [← HPv.out]; exact HP.out.1, HbA.out⟩
            case measure => simp [intOf] <;> omega
          · go_wp2_with fail
            go_roundw
            case rel => exact ⟨k + 1, false, P.1, by go_num, by first | rfl | (simp; done) | (congr 1; simp; omega), by omega, by show _ = _; rw [HQ2.out, decide_eq_false hft]; simp, HP.out.2.1, by rw [← HPv.out]; exact HP.out.1, HbA.out⟩
            case measure => simp [intOf] <;> omega
      · have hfb : ((f : Int) == (i : Int)) = false := beq_eq_false_iff_ne.2 (by omega)
        have hfn : (f == i) = false := beq_eq_false_iff_ne.2 hf
        have HPv : Hid (P.2 = u6) := by
          show _ = _
          rw [HP.out.2.2, if_neg hf]
        cases q with
        | true =>
          go_wp2_with fail
          go_roundw
          case rel => exact ⟨k + 1, true, P.1, by go_num, rfl, by omega, by rw [HQ2.out]; rfl, HP.out.2.1, by rw [← HPv.out]; exact HP.out.1, HbA.out⟩
          case measure => simp [intOf] <;> omega
        | false =>
          by_cases hfi : f ≤ i
          · by_cases hft : i < t
            · go_wp2_with fail
              go_roundw
              case rel => exact ⟨k + 1, true, P.1, by go_num, by first | rfl | (simp; done) | (congr 1; simp; omega), by omega, by rw [HQ2.out, decide_eq_true hfi, decide_eq_true hft]; rfl, HP.out.2.1, by rw [← HPv.out]; exact HP.out.1, HbA.out⟩
              case measure => simp [intOf] <;> omega
            · go_wp2_with fail
              go_roundw
              case rel => exact ⟨k + 1, false, P.1, by go_num, by first | rfl | (simp; done) | (congr 1; simp; omega), by omega, by show _ = _; rw [HQ2.out, decide_eq_false hft]; simp, HP.out.2.1, by rw [← HPv.out]; exact HP.out.1, HbA.out⟩
              case measure => simp [intOf] <;> omega
          · go_wp2_with fail
            go_roundw
            case rel => exact ⟨k + 1, false, P.1, by go_num, by first | rfl | (simp; done) | (congr 1; simp; omega), by omega, by rw [HQ2.out, decide_eq_false hfi]; rfl, HP.out.2.1, by rw [← HPv.out]; exact HP.out.1, HbA.out⟩
            case measure => simp [intOf] <;> omega
    · obtain rfl : k = ns.length := by omega
      have HQE : Hid (q = Gn) := by show _ = _; rw [HGn.out]; exact Hq.out
      have HTE : Hid (Reads w u6 Tx) := by rw [HTx.out, ← HT.out]; exact Hrd.out
      clear Hq HT Hrd
      go_wp2_with fail
      go_ret2
      exact ⟨Hb.out, _, by rw [← HQE.out]; rfl, HTE.out⟩

theorem info63 : (Try.prog.info? 63).map (fun i => (i.zero, i.size, i.bytes)) = some (some (Value.agg #[.int .i64 0, .int .i64 0]), 2, 16) := by kernel_rfl
/-- The cells of signs. -/
def sgCells : List Sgn → List Value
  | [] => []
  | s :: r => .int .i64 s.1 :: .int .i64 s.2 :: sgCells r
theorem sgCells_len : ∀ (L : List Sgn), (sgCells L).length = L.length * 2
  | [] => rfl
  | s :: r => by
    unfold sgCells
    simp only [List.length_cons, sgCells_len r]
    omega
theorem sgCells_append : ∀ (a b : List Sgn), sgCells (a ++ b) = sgCells a ++ sgCells b
  | [], b => rfl
  | s :: a, b => by
    show .int .i64 s.1 :: .int .i64 s.2 :: sgCells (a ++ b) = _
    rw [sgCells_append a b]
    rfl
theorem sgCells_one : ∀ (L : List Sgn), ∀ u ∈ sgCells L, u.oneCell' = true
  | [], u, h => by unfold sgCells at h; cases h
  | s :: r, u, h => by
    unfold sgCells at h
    rcases List.mem_cons.1 h with rfl | h
    · rfl
    · rcases List.mem_cons.1 h with rfl | h
      · rfl
      · exact sgCells_one r u h
theorem sgCells_at : ∀ (L : List Sgn) (j : Nat), j < L.length → (sgCells L)[j * 2]? = some (.int .i64 (L.getD j (0, 0)).1) ∧ (sgCells L)[j * 2 + 1]? = some (.int .i64 (L.getD j (0, 0)).2)
  | [], _, h => by cases h
  | s :: r, 0, _ => ⟨rfl, rfl⟩
  | s :: r, j + 1, h => by
    have := sgCells_at r j (by simpa using h)
    unfold sgCells
    rw [show (j + 1) * 2 = j * 2 + 2 by omega]
    simpa using this
/-- A row of signs of the call's own. -/
def OwnS (w : World) (B : Nat) (v : Value) (L : List Sgn) : Prop := w.ownsRow B 63 2 v L.length (sgCells L)
theorem ownS_nil (w : World) (B : Nat) : OwnS w B (.slice none 0 0) [] := World.ownsRow_nil _ _ _ _
theorem OwnS.lt {w : World} {B : Nat} {v : Value} {L : List Sgn} (h : OwnS w B v L) : ∀ k, v.ownBlock = some k → B ≤ k ∧ k < w.heap.size := World.ownsRow.lt h
theorem OwnS.below {w w' : World} {B : Nat} {v : Value} {L : List Sgn} (h : OwnS w B v L) (hb : Below w.heap.size w w') : OwnS w' B v L := by
  refine ⟨h.1, ?_⟩
  rcases h.2 with hn | ⟨g, cap, cur, hv, hB, hg, rest⟩
  · exact .inl hn
  · exact .inr ⟨g, cap, cur, hv, hB, (hb.block g (Array.getElem?_eq_some_iff.1 hg).1).trans hg, rest⟩
theorem OwnS.less {w : World} {B B' : Nat} {v : Value} {L : List Sgn} (h : OwnS w B v L) (hb : B' ≤ B) : OwnS w B' v L := by
  refine ⟨h.1, ?_⟩
  rcases h.2 with hn | ⟨g, cap, cur, hv, hB, rest⟩
  · exact .inl hn
  · exact .inr ⟨g, cap, cur, hv, by omega, rest⟩
/-- Signs that can be read off a slice's front. -/
def ReadsS (w : World) (v : Value) (L : List Sgn) : Prop :=
  (∃ a cap, v = .slice a 0 cap ∧ L = []) ∨ (∃ g cap, v = .slice (some ⟨g, 0, none⟩) L.length cap ∧ g < w.heap.size ∧ ∀ j, j < L.length * 2 → w.cell? ⟨g, j, none⟩ = (sgCells L)[j]?)
theorem OwnS.reads {w : World} {B : Nat} {v : Value} {L : List Sgn} (h : OwnS w B v L) : ReadsS w v L := by
  have h' := h
  rcases h.2 with ⟨rfl, h0⟩ | ⟨g, cap, cur, rfl, hB, hg, hn, hm, hsz, htake⟩
  · exact .inl ⟨none, 0, rfl, List.length_eq_zero_iff.1 h0⟩
  · exact .inr ⟨g, cap, rfl, (Array.getElem?_eq_some_iff.1 hg).1, fun j hj => World.ownsRow.cellAt h' j hj⟩
theorem ReadsS.below {w w' : World} {v : Value} {L : List Sgn} (h : ReadsS w v L) (hb : Below w.heap.size w w') : ReadsS w' v L := by
  rcases h with h | ⟨g, cap, hv, hlt, hc⟩
  · exact .inl h
  · exact .inr ⟨g, cap, hv, Nat.lt_of_lt_of_le hlt hb.size, fun j hj => (hb.cell (by exact hlt)).trans (hc j hj)⟩
theorem ReadsS.shape {w : World} {v : Value} {L : List Sgn} (h : ReadsS w v L) : ∃ a cap, v = .slice a L.length cap := by
  rcases h with ⟨a, cap, hv, rfl⟩ | ⟨g, cap, hv, _⟩
  · exact ⟨a, cap, hv⟩
  · exact ⟨_, cap, hv⟩
/-- One sign in new memory. -/
theorem readsS_one (w : World) (h c : Int) : ReadsS (w.alloc (.cells #[.int .i64 h, .int .i64 c] 63)) (.slice (some ⟨w.heap.size, 0, none⟩) 1 1) [(h, c)] := by
  refine .inr ⟨w.heap.size, 1, rfl, by rw [size_alloc]; omega, fun j hj => ?_⟩
  unfold World.cell?
  simp only
  rw [blk_new]
  match j, hj with
  | 0, _ => rfl
  | 1, _ => rfl
theorem run_append_zero59 (w : World) (d : Option Addr) (n cap : Nat) (a : Option Addr) (c : Nat) (hn : n ≤ cap) (ty : TypeId) : (Builtin.append_ #[59, 59] ty #[.slice d n cap, .slice a 0 c]).run Try.prog w = .ok (.slice d n cap) w := by
  obtain ⟨i0, hi, hz0, hz1, hz2⟩ := info_parts info63
  cases d <;> cases a <;> simp [Builtin.append_, go_sem, run_underlying Try.underlying59, Go.sizeOf, typeInfo, hi, Builtin.lenOf, Builtin.firstCells, hn, storeCells]
/-- Some signs behind a row of the call's own. -/
theorem append_sg {w : World} {ops : Array Oper} {rest : List Oper} {o : Oper} {a : Act} {Q : Exit → Act → World → Prop} (hgd : o.guard = none) (s x : Operand)
    (ho : o.op = .call { callee := .builtin .append, args := #[s, x], argTypes := #[59, 59] }) (B : Nat) (v v2 : Value) (xs ys zs : List Sgn) (hz : zs = xs ++ ys)
    (hs : a.eval s = v) (hown : OwnS w B v xs) (hx : a.eval x = v2) (hr : ReadsS w v2 ys) (hle : xs.length + ys.length ≤ 1000000) (hB : B ≤ w.heap.size)
    (h : ∀ v' w', OwnS w' B v' zs → w.grownBy w' v.ownBlock → (v'.ownBlock = v.ownBlock ∨ v'.ownBlock = some w.heap.size) → wpList Try.prog ops Q rest (a.put o.dst v') w') : wpList Try.prog ops Q (o :: rest) a w := by
  subst hz
  obtain ⟨i0, hi, hz0, hz1, hz2⟩ := info_parts info63
  rcases hr with ⟨a2, c2, rfl, rfl⟩ | ⟨b, c2, rfl, _, hc⟩
  · have h2 : ∃ d cap, v = .slice d xs.length cap ∧ xs.length ≤ cap := by
      rcases hown.2 with ⟨rfl, h0⟩ | ⟨g, cap, cur, rfl, hb, hg, hn, hm, hsz, htake⟩
      · exact ⟨none, 0, by rw [h0], by omega⟩
      · exact ⟨_, cap, rfl, hn⟩
    obtain ⟨d, cap, rfl, hn⟩ := h2
    refine wpList_append_run hgd s x 59 59 ho _ _ _ w hs hx (fun ty => run_append_zero59 w _ _ _ a2 c2 hn ty) ?_
    exact h _ w (by show OwnS _ _ _ _; rw [List.append_nil]; exact hown) (grown_refl _ _) (.inl rfl)
  · refine wpList_append_own_at w hgd s x 59 ho B 63 i0 (Value.agg #[.int .i64 0, .int .i64 0]) 2 16 Try.underlying59 hi hz0 hz1 hz2 rfl (by decide) v xs.length (sgCells xs) hs hown ⟨b, 0, none⟩ ys.length c2 (sgCells ys) hx (sgCells_len ys) (fun j u hj => ?_) (sgCells_one ys) (by unfold maxLen; omega) (by omega) hB ?_
    · have hjl : j < ys.length * 2 := by
        have := (List.getElem?_eq_some_iff.1 hj).1
        rw [sgCells_len] at this
        exact this
      have e : (⟨b, 0, none⟩ : Addr).add j = ⟨b, j, none⟩ := by
        simp only [Addr.add]
        split <;> simp_all
      rw [e, hc j hjl, hj]
    · intro v' w' h1 h2 _ h4
      exact h v' w' (by unfold OwnS; rw [sgCells_append, List.length_append]; exact h1) h2 h4
end Go.Proofs.Ytpgecholpbpakaa.Seek
