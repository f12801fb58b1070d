/- The contract of splice.Check. -/
import Derived.Test.YteggadicomighaaMemory
set_option linter.unusedVariables false
set_option linter.unusedSimpArgs false
namespace Go.Proofs.Yteggadicomighaa.Seek
open Go.RowKit Plain

theorem chkGo_nil (n last size : Int) : chkGo n last size [] = if size > 4096 then 2 else 0 := rfl
theorem chkGo_cons (n last size : Int) (s : Spl) (r : List Spl) : chkGo n last size (s :: r) = if s.1 ≤ last ∨ s.1 > s.2.1 ∨ s.2.1 > n ∨ (s.1 = s.2.1 ∧ s.2.2.length = 0) then 4
    else if s.2.2.length > 4096 ∨ size + ((s.2.2.length : Int) - (s.2.1 - s.1)) > 8192 then 2
    else chkGo n s.2.1 (size + ((s.2.2.length : Int) - (s.2.1 - s.1))) r := rfl
theorem drop_getD (es : List Spl) (k : Nat) (h : k < es.length) : es.drop k = es.getD k spl0 :: es.drop (k + 1) := by
  rw [List.drop_eq_getElem_cons h, List.getD_eq_getElem?_getD, List.getElem?_eq_getElem h]
  rfl
set_option maxHeartbeats 2000000 in
theorem check_in (n : Int) (v : Value) (es : List Spl) (w : World) (h0 : 0 ≤ n) (h1 : n ≤ 4096) (hr : ReadsE w v es) :
    Calls Try.prog 18 #[.int .i64 n, v] w fun e w' => e = .returned (.int .i64 (chkGo n (-1) n es)) ∧ Below w.heap.size w w' := by
  have Hr : Hid (∀ k, k < es.length → ∃ b off cap, v = .slice (some ⟨b, off, none⟩) es.length cap ∧ b < w.heap.size ∧ SplAt w b (off + k * 3) (es.getD k spl0)) := by
    intro k hk
    rcases hr with ⟨_, _, _, rfl⟩ | ⟨b, off, cap, hv, _, _, hb, hc⟩
    · cases hk
    · exact ⟨b, off, cap, hv, hb, hc k hk⟩
  obtain ⟨a, cap, rfl⟩ := hr.shape
  have hL : es.length ≤ maxLen := by
    rcases hr with ⟨_, _, _, rfl⟩ | ⟨b, off, cap, hv, h1, h2, hb, hc⟩
    · exact Nat.zero_le _
    · exact Nat.le_trans h1 h2
  unfold maxLen at hL
  obtain ⟨R, hR⟩ : ∃ R, R = chkGo n (-1) n es := ⟨_, rfl⟩
  have HR : Hid (R = chkGo n (-1) n es) := hR
  rw [← hR]
  clear hr hR
  go_enter Try.func18, Try.ntmps18
  go_wp2_with fail
  go_loopw [5, 6, 18] (fun u5 u6 u18 wr => ∃ (k : Nat) (last size : Int), u18 = .int .i64 (k : Int) ∧ u5 = .int .i64 last ∧ u6 = .int .i64 size ∧ k ≤ es.length ∧ -1 ≤ last ∧ last ≤ n ∧ n - last - 1 ≤ size ∧ size ≤ 8192 ∧ Hid (R = chkGo n last size (es.drop k)) ∧ Below w.heap.size w wr)
    (fun _ _ u18 _ => es.length - (intOf u18).toNat)
  case atStart => exact ⟨0, -1, n, rfl, rfl, rfl, by omega, by omega, by omega, by omega, by omega, HR.out, Below.refl _ _⟩
  case round =>
    obtain ⟨k, last, size, rfl, rfl, rfl, hk, hl1, hl2, hs1, hs2, Hc, hb⟩ := hrel
    have hbs := hb.size
    by_cases hlt : k < es.length
    · obtain ⟨b, off, cap2, hv, hbl, hat⟩ := Hr.out k hlt
      cases hv
      obtain ⟨c0, c1, hmild, a3, cap3, c2, _⟩ := hat.below hb hbl
      rw [drop_getD es k hlt] at Hc
      have hI : (k : Int) < (es.length : Int) := by omega
      obtain ⟨s, hs⟩ : ∃ s, s = es.getD k spl0 := ⟨_, rfl⟩
      rw [← hs] at c0 c1 c2 hmild Hc
      clear hs hat
      obtain ⟨f, t, x⟩ := s
      simp only at c0 c1 c2 hmild
      unfold Mild at hmild
      have Hb : Hid (Below w.heap.size w (wr.alloc (.cells #[.int .i64 f, .int .i64 t, .slice a3 x.length cap3] 37))) := hb.alloc hbs _
      have Hx : Hid (Boxed (wr.alloc (.cells #[.int .i64 f, .int .i64 t, .slice a3 x.length cap3] 37)) wr.heap.size f t (.slice a3 x.length cap3)) := boxed_new _ _ _ _
      clear Hr hb
      by_cases hbad : f ≤ last ∨ t < f ∨ n < t
      · have H4 : Hid (R = 4) := by
          show R = 4
          rw [Hc.out, chkGo_cons, if_pos (by simp only; omega)]
        clear Hc
        go_wp2_with fail
        all_goals first
          | (go_ret; exact ⟨by rw [H4.out]; rfl, Hb.out⟩)
          | (exfalso; omega)
      · have g1 : last < f := by omega
        have g2 : f ≤ t := by omega
        have g3 : t ≤ n := by omega
        clear hbad
        go_wp2_with fail
        refine (changes_any f t a3 x.length cap3 _).mono ?_
        rintro e w1 ⟨rfl, hb1⟩
        have HB1 : Hid (Below w.heap.size w w1) := below_trans Hb.out hb1 Hb.out.size
        obtain ⟨x0, x1, x2, x3⟩ := Hx.out.below hb1
        have HX1 : Hid (Boxed w1 wr.heap.size f t (.slice a3 x.length cap3)) := ⟨x0, x1, x2, x3⟩
        clear Hx Hb hb1 c0 c1 c2 x0
        by_cases hch : f < t ∨ 0 < x.length
        · have hcB : (decide (f < t) || decide (0 < x.length)) = true := by simpa using hch
          go_wp2_with fail
          refine (growth_any f t a3 x.length cap3 _ (by omega) (by omega) hmild).mono ?_
          rintro e w2 ⟨rfl, hb2⟩
          have HB2 : Hid (Below w.heap.size w w2) := below_trans HB1.out hb2 HB1.out.size
          obtain ⟨y0, y1, y2, y3⟩ := HX1.out.below hb2
          clear HX1 HB1 hb2 x1 x2 x3 y0
          by_cases hbig : x.length > 4096 ∨ size + ((x.length : Int) - (t - f)) > 8192
          · have H2 : Hid (R = 2) := by
              show R = 2
              rw [Hc.out, chkGo_cons, if_neg (by simp only; omega), if_pos (by simp only; omega)]
            clear Hc
            go_wp2_with fail
            all_goals first
              | (go_ret; exact ⟨by rw [H2.out]; rfl, HB2.out⟩)
              | (exfalso; omega)
          · have HN : Hid (R = chkGo n t (size + ((x.length : Int) - (t - f))) (es.drop (k + 1))) := by
              show R = _
              rw [Hc.out, chkGo_cons, if_neg (by simp only; omega), if_neg (by simp only; omega)]
            clear Hc
            have g4 : (x.length : Int) ≤ 4096 := by omega
            have g5 : size + ((x.length : Int) - (t - f)) ≤ 8192 := by omega
            have G : Hid (-1 ≤ t ∧ t ≤ n ∧ n - t - 1 ≤ size + ((x.length : Int) - (t - f)) ∧ size + ((x.length : Int) - (t - f)) ≤ 8192) := ⟨by omega, by omega, by omega, by omega⟩
            clear hbig
            go_wp2_with fail
            go_roundw
            case rel => exact ⟨k + 1, t, _, by go_num, rfl, rfl, by omega, G.out.1, G.out.2.1, G.out.2.2.1, G.out.2.2.2, HN.out, HB2.out⟩
            case measure => simp [intOf]; omega
        · have hcB : (decide (f < t) || decide (0 < x.length)) = false := by rw [Bool.or_eq_false_iff]; exact ⟨decide_eq_false (by omega), decide_eq_false (by omega)⟩
          have H4 : Hid (R = 4) := by
            show R = 4
            rw [Hc.out, chkGo_cons, if_pos (by simp only; omega)]
          clear Hc
          go_wp2_with fail
          go_ret
          exact ⟨by rw [H4.out]; rfl, HB1.out⟩
    · obtain rfl : k = es.length := by omega
      rw [List.drop_length, chkGo_nil] at Hc
      have HB : Hid (Below w.heap.size w wr) := hb
      clear hb
      by_cases hsz : size > 4096
      · have H2 : Hid (R = 2) := by
          show R = 2
          rw [Hc.out, if_pos hsz]
        clear Hc
        go_wp2_with fail
        go_ret
        exact ⟨by rw [H2.out]; rfl, HB.out⟩
      · have H2 : Hid (R = 0) := by
          show R = 0
          rw [Hc.out, if_neg hsz]
        clear Hc
        go_wp2_with fail
        go_ret
        exact ⟨by rw [H2.out]; rfl, HB.out⟩
theorem check_any (n : Int) (v : Value) (es : List Spl) (w : World) (hr : ReadsE w v es) :
    Calls Try.prog 18 #[.int .i64 n, v] w fun e w' => e = .returned (.int .i64 (chk n es)) ∧ Below w.heap.size w w' := by
  unfold chk
  by_cases h : n < 0 ∨ n > 4096
  · rw [if_pos h]
    obtain ⟨a, cap, rfl⟩ := hr.shape
    clear hr
    go_enter Try.func18, Try.ntmps18
    go_wp2_with fail
    all_goals first
      | (go_ret; exact ⟨rfl, Below.refl _ _⟩)
      | (exfalso; omega)
  · rw [if_neg h]
    exact check_in n v es w (by omega) (by omega) hr
end Go.Proofs.Yteggadicomighaa.Seek
