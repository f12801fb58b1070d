/- The contract of the document's EditErr. -/
import Derived.Test.YteggadicomighaaCheckGo
set_option linter.unusedVariables false
set_option linter.unusedSimpArgs false
namespace Go.Proofs.Yteggadicomighaa.Seek
open Go.RowKit Plain

set_option maxHeartbeats 4000000 in
theorem editErr_in (n : Int) (v : Value) (es : List Spl) (w : World) (h0 : 0 ≤ n) (h1 : n ≤ 4096) (hr : ReadsE w v es) :
    Calls Try.prog 6 #[.int .i64 n, v] w fun e w' => e = .returned (.int .i64 (chkGo n (-1) n es)) ∧ Below w.heap.size w w' := by
  have Hr : Hid (∀ k, k < es.length → ∃ b off cap, v = .slice (some ⟨b, off, none⟩) es.length cap ∧ b < w.heap.size ∧ ∀ j, j < es.length → SplAt w b (off + j * 3) (es.getD j spl0)) := by
    intro k hk
    rcases hr with ⟨_, _, _, rfl⟩ | ⟨b, off, cap, hv, _, _, hb, hc⟩
    · cases hk
    · exact ⟨b, off, cap, hv, hb, hc⟩
  obtain ⟨a, cap, rfl⟩ := hr.shape
  have hL : es.length ≤ maxLen := by
    rcases hr with ⟨_, _, _, rfl⟩ | ⟨b, off, cap, hv, h1, h2, hb, hc⟩
    · exact Nat.zero_le _
    · exact Nat.le_trans h1 h2
  unfold maxLen at hL
  obtain ⟨R, hR⟩ : ∃ R, R = chkGo n (-1) n es := ⟨_, rfl⟩
  have HR : Hid (R = chkGo n (-1) n es) := hR
  rw [← hR]
  clear hr hR
  go_enter Try.func6, Try.ntmps6
  go_wp2_with fail
  go_loopw [5, 17] (fun u5 u17 wr => ∃ (k : Nat) (last size : Int), u17 = .int .i64 (k : Int) ∧ u5 = .int .i64 size ∧ k ≤ es.length ∧ -1 ≤ last ∧ last ≤ n ∧ n - last - 1 ≤ size ∧ size ≤ 8192 ∧ Hid ((k = 0 ∧ last = -1) ∨ (0 < k ∧ 0 ≤ last ∧ last = (es.getD (k - 1) spl0).2.1)) ∧ Hid (R = chkGo n last size (es.drop k)) ∧ Below w.heap.size w wr)
    (fun _ u17 _ => es.length - (intOf u17).toNat)
  case atStart => exact ⟨0, -1, n, rfl, rfl, by omega, by omega, by omega, by omega, by omega, .inl ⟨rfl, rfl⟩, HR.out, Below.refl _ _⟩
  case round =>
    obtain ⟨k, last, size, rfl, rfl, hk, hl1, hl2, hs1, hs2, Hp, Hc, hb⟩ := hrel
    have hbs := hb.size
    by_cases hlt : k < es.length
    · obtain ⟨b, off, cap2, hv, hbl, hat⟩ := Hr.out k hlt
      cases hv
      obtain ⟨c0, c1, hmild, a3, cap3, c2, _⟩ := (hat k hlt).below hb hbl
      have Hq : Hid (∀ wx, Below w.heap.size w wx → 0 < k → wx.cell? ⟨b, off + (k - 1) * 3 + 1, none⟩ = some (.int .i64 last)) := by
        intro wx hx h0
        rcases Hp.out with ⟨h, _⟩ | ⟨_, _, h⟩
        · omega
        · rw [h]
          exact ((hat (k - 1) (by omega)).below hx hbl).2.1
      have Hlast : Hid (es.getD k spl0 = es.getD (k + 1 - 1) spl0) := by
        show _ = _
        rw [Nat.add_sub_cancel]
      rw [drop_getD es k hlt] at Hc
      have hI : (k : Int) < (es.length : Int) := by omega
      obtain ⟨s, hs⟩ : ∃ s, s = es.getD k spl0 := ⟨_, rfl⟩
      rw [← hs] at c0 c1 c2 hmild Hc Hlast
      clear hs hat Hr
      obtain ⟨f, t, x⟩ := s
      simp only at c0 c1 c2 hmild
      unfold Mild at hmild
      have HT : Hid (t = (es.getD (k + 1 - 1) spl0).2.1) := congrArg (fun s : Spl => s.2.1) Hlast.out
      have Hk0 : Hid ((k = 0 ∧ last = -1) ∨ (0 < k ∧ 0 ≤ last)) := by
        rcases Hp.out with h | ⟨h, h2, _⟩
        · exact .inl h
        · exact .inr ⟨h, h2⟩
      clear Hp Hlast
      have Hb : Hid (Below w.heap.size w (wr.alloc (.cells #[.int .i64 f, .int .i64 t, .slice a3 x.length cap3] 37))) := hb.alloc hbs _
      have Hx : Hid (Boxed (wr.alloc (.cells #[.int .i64 f, .int .i64 t, .slice a3 x.length cap3] 37)) wr.heap.size f t (.slice a3 x.length cap3)) := boxed_new _ _ _ _
      clear hb
      have HC : Hid (R = if f ≤ last ∨ f > t ∨ t > n ∨ (f = t ∧ x.length = 0) then 4 else if x.length > 4096 ∨ size + ((x.length : Int) - (t - f)) > 8192 then 2 else chkGo n t (size + ((x.length : Int) - (t - f))) (es.drop (k + 1))) := Hc.out
      clear Hc
      generalize hLx : x.length = L at *
      clear hLx
      go_wp2_with fail
      obtain ⟨W, hW⟩ : ∃ W, W = wr.alloc (.cells #[.int .i64 f, .int .i64 t, .slice a3 L cap3] 37) := ⟨_, rfl⟩
      obtain ⟨B, hB⟩ : ∃ B, B = wr.heap.size := ⟨_, rfl⟩
      rw [← hW] at Hb Hx ⊢
      rw [← hB] at Hx ⊢
      clear hW hB c0 c1 c2
      obtain ⟨_, x1, x2, x3⟩ := Hx.out
      have HxN : Hid (∀ q, Boxed (W.drewN q) B f t (.slice a3 L cap3)) := fun q => Hx.out
      have HbN : Hid (∀ q, Below w.heap.size w (W.drewN q)) := fun q => below_drewN Hb.out q
      clear Hx
      by_cases a1 : f < 0
      · have d1 : decide (f < 0) = true := decide_eq_true a1
        have H4 : Hid (R = 4) := by
          show R = 4
          rw [HC.out, if_pos (by rcases Hk0.out with h | h <;> omega)]
        clear HC Hk0 HT
        go_quiet (fail)
        go_wp2_with fail
        go_ret
        exact ⟨by rw [H4.out]; rfl, HbN.out _⟩
      have d1 : decide (f < 0) = false := decide_eq_false a1
      by_cases a2 : f > t
      · have d2 : decide (f > t) = true := decide_eq_true a2
        have H4 : Hid (R = 4) := by
          show R = 4
          rw [HC.out, if_pos (by omega)]
        clear HC Hk0 HT
        go_quiet (fail)
        go_wp2_with fail
        go_ret
        exact ⟨by rw [H4.out]; rfl, HbN.out _⟩
      have d2 : decide (f > t) = false := decide_eq_false a2
      by_cases a3 : t > n
      · have d3 : decide (t > n) = true := decide_eq_true a3
        have H4 : Hid (R = 4) := by
          show R = 4
          rw [HC.out, if_pos (by omega)]
        clear HC Hk0 HT
        go_quiet (fail)
        go_wp2_with fail
        go_ret
        exact ⟨by rw [H4.out]; rfl, HbN.out _⟩
      have d3 : decide (t > n) = false := decide_eq_false a3
      rcases Hk0.out with ⟨hk0, hl0⟩ | ⟨hk0, hl0⟩
      · have d4 : decide ((k : Int) > 0) = false := decide_eq_false (by omega)
        have d4n : decide (k > 0) = false := decide_eq_false (by omega)
        have d4m : decide (0 < k) = false := decide_eq_false (by omega)
        have HKL : Hid (k = 0 ∧ last = -1) := ⟨hk0, hl0⟩
        clear hk0 hl0
        by_cases a5 : f = t
        · subst a5
          have d5 : (f == f) = true := by simp
          by_cases a6 : L = 0
          · subst a6
            have H4 : Hid (R = 4) := by
              show R = 4
              rw [HC.out, if_pos (by omega)]
            clear HC Hk0 HT
            go_quiet (fail)
            go_wp2_with fail
            go_ret
            exact ⟨by rw [H4.out]; rfl, HbN.out _⟩
          · have d6 : ((L : Int) == 0) = false := beq_eq_false_iff_ne.2 (by omega)
            have d6n : (L == 0) = false := beq_eq_false_iff_ne.2 a6
            go_quiet (fail)
            obtain ⟨y0, y1, y2, y3⟩ := HxN.out nq
            have HB2 : Hid (Below w.heap.size w (W.drewN nq)) := HbN.out nq
            generalize W.drewN nq = W2 at *
            clear y0 x1 x2 x3 HxN HbN Hb Hq
            by_cases hbig : (L : Int) > 4096 ∨ size + (L : Int) > 8192
            · have H2 : Hid (R = 2) := by
                show R = 2
                rw [HC.out, if_neg (by have := HKL.out; omega), if_pos (by omega)]
              clear HC
              go_wp2_with fail
              all_goals first
                | (go_ret; exact ⟨by rw [H2.out]; rfl, HB2.out⟩)
                | (exfalso; omega)
            · have HN : Hid (R = chkGo n f (size + (L : Int)) (es.drop (k + 1))) := by
                show R = _
                rw [HC.out, if_neg (by have := HKL.out; omega), if_neg (by omega)]
                congr 1
                omega
              have g4 : (L : Int) ≤ 4096 := by omega
              have g5 : size + (L : Int) ≤ 8192 := by omega
              have G : Hid (-1 ≤ f ∧ 0 ≤ f ∧ f ≤ n ∧ n - f - 1 ≤ size + (L : Int) ∧ size + (L : Int) ≤ 8192) := ⟨by omega, by omega, by omega, by have := HKL.out; omega, by omega⟩
              clear hbig HC
              go_wp2_with fail
              go_roundw
              case rel => exact ⟨k + 1, f, _, by go_num, rfl, by omega, G.out.1, G.out.2.2.1, G.out.2.2.2.1, G.out.2.2.2.2, .inr ⟨by omega, G.out.2.1, HT.out⟩, HN.out, HB2.out⟩
              case measure => simp [intOf]; omega
        · have d5 : (f == t) = false := by simpa using a5
          go_quiet (fail)
          obtain ⟨y0, y1, y2, y3⟩ := HxN.out nq
          have HB2 : Hid (Below w.heap.size w (W.drewN nq)) := HbN.out nq
          generalize W.drewN nq = W2 at *
          clear y0 x1 x2 x3 HxN HbN Hb Hq
          by_cases hbig : (L : Int) > 4096 ∨ size + ((L : Int) - (t - f)) > 8192
          · have H2 : Hid (R = 2) := by
              show R = 2
              rw [HC.out, if_neg (by have := HKL.out; omega), if_pos (by omega)]
            clear HC
            go_wp2_with fail
            all_goals first
              | (go_ret; exact ⟨by rw [H2.out]; rfl, HB2.out⟩)
              | (exfalso; omega)
          · have HN : Hid (R = chkGo n t (size + ((L : Int) - (t - f))) (es.drop (k + 1))) := by
              show R = _
              rw [HC.out, if_neg (by have := HKL.out; omega), if_neg (by omega)]
            have g4 : (L : Int) ≤ 4096 := by omega
            have g5 : size + ((L : Int) - (t - f)) ≤ 8192 := by omega
            have G : Hid (-1 ≤ t ∧ 0 ≤ t ∧ t ≤ n ∧ n - t - 1 ≤ size + ((L : Int) - (t - f)) ∧ size + ((L : Int) - (t - f)) ≤ 8192) := ⟨by omega, by omega, by omega, by have := HKL.out; omega, by omega⟩
            clear hbig HC
            go_wp2_with fail
            go_roundw
            case rel => exact ⟨k + 1, t, _, by go_num, rfl, by omega, G.out.1, G.out.2.2.1, G.out.2.2.2.1, G.out.2.2.2.2, .inr ⟨by omega, G.out.2.1, HT.out⟩, HN.out, HB2.out⟩
            case measure => simp [intOf]; omega
      · have d4 : decide ((k : Int) > 0) = true := decide_eq_true (by omega)
        have d4n : decide (k > 0) = true := decide_eq_true (by omega)
        have d4m : decide (0 < k) = true := decide_eq_true (by omega)
        have e1 : ((k : Int) - 1).toNat = k - 1 := by omega
        have e2 : (0 : Int) ≤ (k : Int) - 1 := by omega
        have e3 : (k : Int) - 1 < (es.length : Int) := by omega
        have e4 := Hq.out W Hb.out hk0
        by_cases a7 : f ≤ last
        · have d7 : decide (f ≤ last) = true := decide_eq_true a7
          have H4 : Hid (R = 4) := by
            show R = 4
            rw [HC.out, if_pos (by omega)]
          clear HC Hk0 HT
          go_quiet (fail)
          go_wp2_with fail
          go_ret
          exact ⟨by rw [H4.out]; rfl, HbN.out _⟩
        · have d7 : decide (f ≤ last) = false := decide_eq_false a7
          have HKL : Hid True := trivial
          by_cases a5 : f = t
          · subst a5
            have d5 : (f == f) = true := by simp
            by_cases a6 : L = 0
            · subst a6
              have H4 : Hid (R = 4) := by
                show R = 4
                rw [HC.out, if_pos (by omega)]
              clear HC Hk0 HT
              go_quiet (fail)
              go_wp2_with fail
              go_ret
              exact ⟨by rw [H4.out]; rfl, HbN.out _⟩
            · have d6 : ((L : Int) == 0) = false := beq_eq_false_iff_ne.2 (by omega)
              have d6n : (L == 0) = false := beq_eq_false_iff_ne.2 a6
              go_quiet (fail)
              obtain ⟨y0, y1, y2, y3⟩ := HxN.out nq
              have HB2 : Hid (Below w.heap.size w (W.drewN nq)) := HbN.out nq
              generalize W.drewN nq = W2 at *
              clear y0 x1 x2 x3 HxN HbN Hb Hq
              by_cases hbig : (L : Int) > 4096 ∨ size + (L : Int) > 8192
              · have H2 : Hid (R = 2) := by
                  show R = 2
                  rw [HC.out, if_neg (by have := HKL.out; omega), if_pos (by omega)]
                clear HC
                go_wp2_with fail
                all_goals first
                  | (go_ret; exact ⟨by rw [H2.out]; rfl, HB2.out⟩)
                  | (exfalso; omega)
              · have HN : Hid (R = chkGo n f (size + (L : Int)) (es.drop (k + 1))) := by
                  show R = _
                  rw [HC.out, if_neg (by have := HKL.out; omega), if_neg (by omega)]
                  congr 1
                  omega
                have g4 : (L : Int) ≤ 4096 := by omega
                have g5 : size + (L : Int) ≤ 8192 := by omega
                have G : Hid (-1 ≤ f ∧ 0 ≤ f ∧ f ≤ n ∧ n - f - 1 ≤ size + (L : Int) ∧ size + (L : Int) ≤ 8192) := ⟨by omega, by omega, by omega, by have := HKL.out; omega, by omega⟩
                clear hbig HC
                go_wp2_with fail
                go_roundw
                case rel => exact ⟨k + 1, f, _, by go_num, rfl, by omega, G.out.1, G.out.2.2.1, G.out.2.2.2.1, G.out.2.2.2.2, .inr ⟨by omega, G.out.2.1, HT.out⟩, HN.out, HB2.out⟩
                case measure => simp [intOf]; omega
          · have d5 : (f == t) = false := by simpa using a5
            go_quiet (fail)
            obtain ⟨y0, y1, y2, y3⟩ := HxN.out nq
            have HB2 : Hid (Below w.heap.size w (W.drewN nq)) := HbN.out nq
            generalize W.drewN nq = W2 at *
            clear y0 x1 x2 x3 HxN HbN Hb Hq
            by_cases hbig : (L : Int) > 4096 ∨ size + ((L : Int) - (t - f)) > 8192
            · have H2 : Hid (R = 2) := by
                show R = 2
                rw [HC.out, if_neg (by have := HKL.out; omega), if_pos (by omega)]
              clear HC
              go_wp2_with fail
              all_goals first
                | (go_ret; exact ⟨by rw [H2.out]; rfl, HB2.out⟩)
                | (exfalso; omega)
            · have HN : Hid (R = chkGo n t (size + ((L : Int) - (t - f))) (es.drop (k + 1))) := by
                show R = _
                rw [HC.out, if_neg (by have := HKL.out; omega), if_neg (by omega)]
              have g4 : (L : Int) ≤ 4096 := by omega
              have g5 : size + ((L : Int) - (t - f)) ≤ 8192 := by omega
              have G : Hid (-1 ≤ t ∧ 0 ≤ t ∧ t ≤ n ∧ n - t - 1 ≤ size + ((L : Int) - (t - f)) ∧ size + ((L : Int) - (t - f)) ≤ 8192) := ⟨by omega, by omega, by omega, by have := HKL.out; omega, by omega⟩
              clear hbig HC
              go_wp2_with fail
              go_roundw
              case rel => exact ⟨k + 1, t, _, by go_num, rfl, by omega, G.out.1, G.out.2.2.1, G.out.2.2.2.1, G.out.2.2.2.2, .inr ⟨by omega, G.out.2.1, HT.out⟩, HN.out, HB2.out⟩
              case measure => simp [intOf]; omega
    · obtain rfl : k = es.length := by omega
      rw [List.drop_length, chkGo_nil] at Hc
      have HB : Hid (Below w.heap.size w wr) := hb
      clear hb Hp
      by_cases hsz : size > 4096
      · have H2 : Hid (R = 2) := by
          show R = 2
          rw [Hc.out, if_pos hsz]
        clear Hc
        go_wp2_with fail
        go_ret
        exact ⟨by rw [H2.out]; rfl, HB.out⟩
      · have H2 : Hid (R = 0) := by
          show R = 0
          rw [Hc.out, if_neg hsz]
        clear Hc
        go_wp2_with fail
        go_ret
        exact ⟨by rw [H2.out]; rfl, HB.out⟩
theorem editErr_any (n : Int) (v : Value) (es : List Spl) (w : World) (hr : ReadsE w v es) :
    Calls Try.prog 6 #[.int .i64 n, v] w fun e w' => e = .returned (.int .i64 (chk n es)) ∧ Below w.heap.size w w' := by
  unfold chk
  by_cases h : n < 0 ∨ n > 4096
  · rw [if_pos h]
    obtain ⟨a, cap, rfl⟩ := hr.shape
    clear hr
    go_enter Try.func6, Try.ntmps6
    go_wp2_with fail
    all_goals first
      | (go_ret; exact ⟨rfl, Below.refl _ _⟩)
      | (exfalso; omega)
  · rw [if_neg h]
    exact editErr_in n v es w (by omega) (by omega) hr
end Go.Proofs.Yteggadicomighaa.Seek
