/- Texts of one claim, one behind the other: SGrow, SCheck, ApplyGo, Rows3, Betw, BetwMem. -/
import Derived.Test.YtpgjaoemkadenaaM12
import Derived.Test.YtpgjaoemkadenaaM13
import Derived.Deep.CutRange
import Derived.Deep.RegionWith
/- The contract of splice.growth. -/
set_option linter.unusedVariables false
set_option linter.unusedSimpArgs false
set_option maxRecDepth 100000
namespace Go.Proofs.Ytpgjaoemkadenaa.Seek
open Go.RowKit Plain
theorem growth_any (f t : Int) (a : Option Addr) (n cap : Nat) (w : World) (hf : 0 ≤ t - f) (ht : t - f ≤ 4096) (hn : n * 8 ≤ 140737488351232) :
    Calls Try.prog 41 #[.agg #[.int .i64 f, .int .i64 t, .slice a n cap]] w fun e w' => e = .returned (.int .i64 ((n : Int) - (t - f))) ∧ Below w.heap.size w w' := by
  go_enter Try.func41, Try.ntmps41
  go_wp2_with fail
  go_ret
  exact ⟨rfl, box_below _ _⟩
end Go.Proofs.Ytpgjaoemkadenaa.Seek

/- The contract of splice.Check. -/
set_option linter.unusedVariables false
set_option linter.unusedSimpArgs false
set_option maxRecDepth 100000
namespace Go.Proofs.Ytpgjaoemkadenaa.Seek
open Go.RowKit Plain

theorem chkGo_nil (n last size : Int) : chkGo n last size [] = if size > 4096 then 2 else 0 := rfl
theorem chkGo_cons (n last size : Int) (s : Spl) (r : List Spl) : chkGo n last size (s :: r) = if s.1 ≤ last ∨ s.1 > s.2.1 ∨ s.2.1 > n ∨ (s.1 = s.2.1 ∧ s.2.2.length = 0) then 4
    else if s.2.2.length > 4096 ∨ size + ((s.2.2.length : Int) - (s.2.1 - s.1)) > 8192 then 2
    else chkGo n s.2.1 (size + ((s.2.2.length : Int) - (s.2.1 - s.1))) r := rfl
theorem drop_getD (es : List Spl) (k : Nat) (h : k < es.length) : es.drop k = es.getD k spl0 :: es.drop (k + 1) := by
  rw [List.drop_eq_getElem_cons h, List.getD_eq_getElem?_getD, List.getElem?_eq_getElem h]
  rfl
set_option maxHeartbeats 2000000 in
theorem check_in (n : Int) (v : Value) (es : List Spl) (w : World) (h0 : 0 ≤ n) (h1 : n ≤ 4096) (hr : ReadsE w v es) :
    Calls Try.prog 26 #[.int .i64 n, v] w fun e w' => e = .returned (.int .i64 (chkGo n (-1) n es)) ∧ Below w.heap.size w w' := by
  have Hr : Hid (∀ k, k < es.length → ∃ b off cap, v = .slice (some ⟨b, off, none⟩) es.length cap ∧ b < w.heap.size ∧ SplAt w b (off + k * 3) (es.getD k spl0)) := by
    intro k hk
    rcases hr with ⟨_, _, _, rfl⟩ | ⟨b, off, cap, hv, _, _, hb, hc⟩
    · cases hk
    · exact ⟨b, off, cap, hv, hb, hc k hk⟩
  obtain ⟨a, cap, rfl⟩ := hr.shape
  have hL : es.length ≤ maxLen := by
    rcases hr with ⟨_, _, _, rfl⟩ | ⟨b, off, cap, hv, h1, h2, hb, hc⟩
    · exact Nat.zero_le _
    · exact Nat.le_trans h1 h2
  unfold maxLen at hL
  obtain ⟨R, hR⟩ : ∃ R, R = chkGo n (-1) n es := ⟨_, rfl⟩
  have HR : Hid (R = chkGo n (-1) n es) := hR
  rw [← hR]
  clear hr hR
  go_enter Try.func26, Try.ntmps26
  go_wp2_with fail
  go_loopw [5, 6, 18] (fun u5 u6 u18 wr => ∃ (k : Nat) (last size : Int), u18 = .int .i64 (k : Int) ∧ u5 = .int .i64 last ∧ u6 = .int .i64 size ∧ k ≤ es.length ∧ -1 ≤ last ∧ last ≤ n ∧ n - last - 1 ≤ size ∧ size ≤ 8192 ∧ Hid (R = chkGo n last size (es.drop k)) ∧ Below w.heap.size w wr)
    (fun _ _ u18 _ => es.length - (intOf u18).toNat)
  case atStart => exact ⟨0, -1, n, rfl, rfl, rfl, by omega, by omega, by omega, by omega, by omega, HR.out, Below.refl _ _⟩
  case round =>
    obtain ⟨k, last, size, rfl, rfl, rfl, hk, hl1, hl2, hs1, hs2, Hc, hb⟩ := hrel
    have hbs := hb.size
    by_cases hlt : k < es.length
    · obtain ⟨b, off, cap2, hv, hbl, hat⟩ := Hr.out k hlt
      cases hv
      obtain ⟨c0, c1, hmild, a3, cap3, c2, _⟩ := hat.below hb hbl
      rw [drop_getD es k hlt] at Hc
      have hI : (k : Int) < (es.length : Int) := by omega
      obtain ⟨s, hs⟩ : ∃ s, s = es.getD k spl0 := ⟨_, rfl⟩
      rw [← hs] at c0 c1 c2 hmild Hc
      clear hs hat
      obtain ⟨f, t, x⟩ := s
      simp only at c0 c1 c2 hmild
      unfold Mild at hmild
      have Hb : Hid (Below w.heap.size w (wr.alloc (.cells #[.int .i64 f, .int .i64 t, .slice a3 x.length cap3] 60))) := hb.alloc hbs _
      have Hx : Hid (Boxed (wr.alloc (.cells #[.int .i64 f, .int .i64 t, .slice a3 x.length cap3] 60)) wr.heap.size f t (.slice a3 x.length cap3)) := boxed_new _ _ _ _
      clear Hr hb
      by_cases hbad : f ≤ last ∨ t < f ∨ n < t
      · have H4 : Hid (R = 4) := by
          show R = 4
          rw [Hc.out, chkGo_cons, if_pos (by simp only; omega)]
        clear Hc
        go_wp2_with fail
        all_goals first
          | (go_ret; exact ⟨by rw [H4.out]; rfl, Hb.out⟩)
          | (exfalso; omega)
      · have g1 : last < f := by omega
        have g2 : f ≤ t := by omega
        have g3 : t ≤ n := by omega
        clear hbad
        go_wp2_with fail
        refine (changes_any f t a3 x.length cap3 _).mono ?_
        rintro e w1 ⟨rfl, hb1⟩
        have HB1 : Hid (Below w.heap.size w w1) := below_trans Hb.out hb1 Hb.out.size
        obtain ⟨x0, x1, x2, x3⟩ := Hx.out.below hb1
        have HX1 : Hid (Boxed w1 wr.heap.size f t (.slice a3 x.length cap3)) := ⟨x0, x1, x2, x3⟩
        clear Hx Hb hb1 c0 c1 c2 x0
        by_cases hch : f < t ∨ 0 < x.length
        · have hcB : (decide (f < t) || decide (0 < x.length)) = true := by simpa using hch
          go_wp2_with fail
          refine (growth_any f t a3 x.length cap3 _ (by omega) (by omega) hmild).mono ?_
          rintro e w2 ⟨rfl, hb2⟩
          have HB2 : Hid (Below w.heap.size w w2) := below_trans HB1.out hb2 HB1.out.size
          obtain ⟨y0, y1, y2, y3⟩ := HX1.out.below hb2
          clear HX1 HB1 hb2 x1 x2 x3 y0
          by_cases hbig : x.length > 4096 ∨ size + ((x.length : Int) - (t - f)) > 8192
          · have H2 : Hid (R = 2) := by
              show R = 2
              rw [Hc.out, chkGo_cons, if_neg (by simp only; omega), if_pos (by simp only; omega)]
            clear Hc
            go_wp2_with fail
            all_goals first
              | (go_ret; exact ⟨by rw [H2.out]; rfl, HB2.out⟩)
              | (exfalso; omega)
          · have HN : Hid (R = chkGo n t (size + ((x.length : Int) - (t - f))) (es.drop (k + 1))) := by
              show R = _
              rw [Hc.out, chkGo_cons, if_neg (by simp only; omega), if_neg (by simp only; omega)]
            clear Hc
            have g4 : (x.length : Int) ≤ 4096 := by omega
            have g5 : size + ((x.length : Int) - (t - f)) ≤ 8192 := by omega
            have G : Hid (-1 ≤ t ∧ t ≤ n ∧ n - t - 1 ≤ size + ((x.length : Int) - (t - f)) ∧ size + ((x.length : Int) - (t - f)) ≤ 8192) := ⟨by omega, by omega, by omega, by omega⟩
            clear hbig
            go_wp2_with fail
            go_roundw
            case rel => exact ⟨k + 1, t, _, by go_num, rfl, rfl, by omega, G.out.1, G.out.2.1, G.out.2.2.1, G.out.2.2.2, HN.out, HB2.out⟩
            case measure => simp [intOf]; omega
        · have hcB : (decide (f < t) || decide (0 < x.length)) = false := by rw [Bool.or_eq_false_iff]; exact ⟨decide_eq_false (by omega), decide_eq_false (by omega)⟩
          have H4 : Hid (R = 4) := by
            show R = 4
            rw [Hc.out, chkGo_cons, if_pos (by simp only; omega)]
          clear Hc
          go_wp2_with fail
          go_ret
          exact ⟨by rw [H4.out]; rfl, HB1.out⟩
    · obtain rfl : k = es.length := by omega
      rw [List.drop_length, chkGo_nil] at Hc
      have HB : Hid (Below w.heap.size w wr) := hb
      clear hb
      by_cases hsz : size > 4096
      · have H2 : Hid (R = 2) := by
          show R = 2
          rw [Hc.out, if_pos hsz]
        clear Hc
        go_wp2_with fail
        go_ret
        exact ⟨by rw [H2.out]; rfl, HB.out⟩
      · have H2 : Hid (R = 0) := by
          show R = 0
          rw [Hc.out, if_neg hsz]
        clear Hc
        go_wp2_with fail
        go_ret
        exact ⟨by rw [H2.out]; rfl, HB.out⟩
theorem check_any (n : Int) (v : Value) (es : List Spl) (w : World) (hr : ReadsE w v es) :
    Calls Try.prog 26 #[.int .i64 n, v] w fun e w' => e = .returned (.int .i64 (schk n es)) ∧ Below w.heap.size w w' := by
  unfold schk
  by_cases h : n < 0 ∨ n > 4096
  · rw [if_pos h]
    obtain ⟨a, cap, rfl⟩ := hr.shape
    clear hr
    go_enter Try.func26, Try.ntmps26
    go_wp2_with fail
    all_goals first
      | (go_ret; exact ⟨rfl, Below.refl _ _⟩)
      | (exfalso; omega)
  · rw [if_neg h]
    exact check_in n v es w (by omega) (by omega) hr
end Go.Proofs.Ytpgjaoemkadenaa.Seek

/- The contracts of splice.Apply and splice.copied. -/
set_option linter.unusedVariables false
set_option linter.unusedSimpArgs false
set_option maxRecDepth 100000
namespace Go.Proofs.Ytpgjaoemkadenaa.Seek
open Go.RowKit Plain

/-- What Apply leaves, of a right edit. -/
def ApplyPost (r : List Int) (w : World) (e : Ending) (w' : World) : Prop := Below w.heap.size w w' ∧ ∃ v, e = .returned (.tuple #[v, .int .i64 0]) ∧ OwnI w' w.heap.size v r
set_option maxHeartbeats 4000000 in
theorem apply_ok (v1 v2 : Value) (l : List Int) (ns : List Nsp) (w : World) (h1 : Reads w v1 l) (h2 : ReadsE w v2 (ups ns)) (hR : Right l ns) :
    Calls Try.prog 14 #[v1, v2] w fun e w' => ApplyPost (app l 0 ns) w e w' := by
  obtain ⟨a1, cap1, rfl⟩ := h1.shape
  obtain ⟨a2, cap2, rfl⟩ := h2.shape
  have hc1 := h1.cap_le
  have HL : Hid (∀ wx, Below w.heap.size w wx → Reads wx (.slice a1 l.length cap1) l) := fun wx hb => h1.below hb
  rw [ups_len] at h2 ⊢
  have HE : Hid (ReadsE w (.slice a2 ns.length cap2) (ups ns)) := h2
  have HE1 : Hid (∀ k, k < ns.length → ∃ b off, a2 = some ⟨b, off, none⟩ ∧ b < w.heap.size ∧ SplAt w b (off + k * 3) ((ups ns).getD k spl0)) := by
    have h3 : ReadsE w (.slice a2 (ups ns).length cap2) (ups ns) := by rw [ups_len]; exact h2
    intro k hk
    exact h3.each k (by rw [ups_len]; exact hk)
  have hcnt := hR.2.1.count
  have hll := hR.1
  have HR : Hid (Right l ns) := hR
  have HO : Hid (Okay l.length 0 ns) := hR.2.1
  have hfin := hR.2.2
  obtain ⟨F, hF⟩ : ∃ F, F = app l 0 ns := ⟨_, rfl⟩
  rw [← hF] at hfin ⊢
  have HF : Hid (F = app l 0 ns) := hF
  clear h1 h2 hR hF
  go_enter Try.func14, Try.ntmps14
  go_wp2_with fail
  refine (check_any _ _ (ups ns) w HE.out).mono ?_
  rw [HR.out.chk]
  rintro e w1 ⟨rfl, hb1⟩
  have HB1 : Hid (Below w.heap.size w w1) := hb1
  clear hb1
  go_wp2_with fail
  go_loopw [7, 8, 20] (fun u7 u8 u20 wr => ∃ (k at_ : Nat) (M : List Int), u20 = .int .i64 (k : Int) ∧ u8 = .int .i64 (at_ : Int) ∧ k ≤ ns.length ∧ at_ ≤ l.length ∧ Hid (Okay l.length at_ (ns.drop k)) ∧ Hid (F = M ++ app l at_ (ns.drop k)) ∧ Hid (OwnI wr w.heap.size u7 M) ∧ Hid (Below w.heap.size w wr))
    (fun _ _ u20 _ => ns.length - (intOf u20).toNat)
  case atStart => exact ⟨0, 0, [], rfl, rfl, Nat.zero_le _, Nat.zero_le _, HO.out, HF.out, ownI_nil _ _, HB1.out⟩
  case round =>
    obtain ⟨k, at_, M, rfl, rfl, hk, hat, Hok, HM, Hown, Hb⟩ := hrel
    have hbs := Hb.out.size
    have hMl : M.length + (app l at_ (ns.drop k)).length ≤ 4096 := by
      have := congrArg List.length HM.out
      rw [List.length_append] at this
      omega
    by_cases hlt : k < ns.length
    · obtain ⟨s, hs1, hs2, hs3⟩ := ups_at ns k hlt
      obtain ⟨b, off, hae, hbl, hsp⟩ := HE1.out k hlt
      subst hae
      have hsp2 := hsp.below Hb.out hbl
      rw [hs2] at hsp hsp2
      rw [hs1] at HM Hok hMl
      clear hs1 hs2 hs3
      obtain ⟨f, t, x⟩ := s
      obtain ⟨c0, c1, hmild, a3, cap3, c2, _⟩ := hsp2
      obtain ⟨_, _, _, a3', cap3', c2', hrx⟩ := hsp
      have hcc : wr.cell? ⟨b, off + k * 3 + 2, none⟩ = w.cell? ⟨b, off + k * 3 + 2, none⟩ := Hb.out.cell (by exact hbl)
      rw [hcc, c2'] at c2
      have hcv := Option.some.inj c2
      rw [hcv] at c2' hrx
      have c2w : wr.cell? ⟨b, off + k * 3 + 2, none⟩ = some (.slice a3 x.length cap3) := hcc.trans c2'
      clear hcc c2' c2 hcv
      simp only [sup] at c0 c1 hmild hrx
      have HX : Hid (∀ wx, Below w.heap.size w wx → Reads wx (.slice a3 x.length cap3) x) := fun wx hb => Reads.below hrx hb
      clear hrx
      obtain ⟨g1, g2, g3, g4, Hok2⟩ := Hok.out
      have HOK : Hid (Okay l.length (t + 1) (ns.drop (k + 1))) := Hok2
      have HM2 : Hid (F = (M ++ seg l at_ f ++ x) ++ app l t (ns.drop (k + 1))) := by
        show F = _
        rw [HM.out]
        show M ++ (seg l at_ f ++ x ++ app l t (ns.drop (k + 1))) = _
        simp only [List.append_assoc]
      have hlenM : (seg l at_ f).length = f - at_ := seg_len l at_ f (by simp only at g2 g3; omega)
      have hM2 : M.length + (seg l at_ f).length + x.length ≤ 4096 := by
        have := congrArg List.length HM2.out
        rw [List.length_append, List.length_append, List.length_append] at this
        omega
      clear hMl HM Hok Hok2
      simp only at g1 g2 g3
      clear g4
      obtain ⟨A, hA⟩ : ∃ A, (if cap1 = at_ then a1 else Option.map (fun x => x.add at_) a1) = A := ⟨_, rfl⟩
      have HS : Hid (∀ wx, Below w.heap.size w wx → Reads wx (.slice A (f - at_) (cap1 - at_)) (seg l at_ f)) := by
        intro wx hb
        have := reads_slice (HL.out wx hb) at_ f g1 (by omega)
        rw [hA] at this
        exact this
      obtain ⟨S, hS⟩ : ∃ S, S = seg l at_ f := ⟨_, rfl⟩
      rw [← hS] at HS hM2 HM2
      clear hS hlenM
      have q1 : (at_ : Int) ≤ (f : Int) := by omega
      have q2 : (f : Int) ≤ (cap1 : Int) := by omega
      have Hbox : Hid (Boxed (wr.alloc (.cells #[.int .i64 (f : Int), .int .i64 (t : Int), .slice a3 x.length cap3] 60)) wr.heap.size f t (.slice a3 x.length cap3)) := boxed_new _ _ _ _
      have HbA : Hid (Below w.heap.size w (wr.alloc (.cells #[.int .i64 (f : Int), .int .i64 (t : Int), .slice a3 x.length cap3] 60))) := Hb.out.alloc hbs _
      obtain ⟨M2, hM2e⟩ : ∃ M2, M2 = M ++ S := ⟨_, rfl⟩
      have HM2e : Hid (M2 = M ++ S) := hM2e
      have hM2l : M2.length = M.length + S.length := by rw [hM2e, List.length_append]
      obtain ⟨M3, hM3e⟩ : ∃ M3, M3 = M2 ++ x := ⟨_, rfl⟩
      have HM3e : Hid (M3 = M2 ++ x) := hM3e
      rw [← hM2e, ← hM3e] at HM2
      clear hM2e hM3e
      go_wp2_with (at_builtin; refine append_any rfl _ _ rfl w.heap.size u7 _ M S M2 HM2e.out rfl (Hown.out.alloc _) rfl (HS.out _ HbA.out) (by omega) (by rw [size_alloc]; omega) ?_)
      intro v2 w2 ho2 hg2 hat2
      have hu7 : u7.ownBlock ≠ some wr.heap.size := fun h => by have := (Hown.out.lt _ h).2; omega
      have HB2 : Hid (Below w.heap.size w w2) := HbA.out.grown hg2 (by rw [size_alloc]; omega) (fun j hj => (Hown.out.lt j hj).1)
      have Ho2 : Hid (OwnI w2 w.heap.size v2 M2) := ho2
      have HX2 : Hid (Boxed w2 wr.heap.size f t (.slice a3 x.length cap3)) := Hbox.out.grown hg2 hu7
      have Hne2 : Hid (v2.ownBlock ≠ some wr.heap.size) := by
        rcases hat2 with h | h
        · rw [h]; exact hu7
        · show v2.ownBlock ≠ _
          rw [h]
          intro h
          have := Option.some.inj h
          omega
      obtain ⟨_, x1, x2, x3⟩ := HX2.out
      clear ho2 hg2 hat2 hu7 Hbox HbA Hown c0 c1 c2w HS hA
      go_wp2_with (at_builtin; refine append_any rfl _ _ rfl w.heap.size v2 _ M2 x M3 HM3e.out rfl Ho2.out rfl (HX.out _ HB2.out) (by omega) HB2.out.size ?_)
      intro v3 w3 ho3 hg3 _
      have HB3 : Hid (Below w.heap.size w w3) := HB2.out.grown hg3 HB2.out.size (fun j hj => (Ho2.out.lt j hj).1)
      have Ho3 : Hid (OwnI w3 w.heap.size v3 M3) := ho3
      obtain ⟨_, y1, y2, y3⟩ := HX2.out.grown hg3 Hne2.out
      clear ho3 hg3 HX2 Ho2 HB2 Hne2 x1 x2 x3
      go_wp2_with fail
      go_roundw
      case rel => exact ⟨k + 1, t, M3, by go_num, rfl, by omega, by omega, HOK.out.less (by omega), HM2.out, Ho3.out, HB3.out⟩
      case measure => simp [intOf]; omega
    · obtain rfl : k = ns.length := by omega
      rw [List.drop_length] at HM hMl
      have HM2 : Hid (F = M ++ seg l at_ l.length) := by
        show F = _
        rw [HM.out]
        show M ++ l.drop at_ = _
        unfold seg
        rw [List.take_of_length_le (by rw [List.length_drop]; omega)]
      have hM2 : M.length + (seg l at_ l.length).length ≤ 4096 := by
        have := congrArg List.length HM2.out
        rw [List.length_append] at this
        omega
      obtain ⟨A, hA⟩ : ∃ A, (if cap1 = at_ then a1 else Option.map (fun x => x.add at_) a1) = A := ⟨_, rfl⟩
      have HS : Hid (Reads wr (.slice A (l.length - at_) (cap1 - at_)) (seg l at_ l.length)) := by
        have := reads_slice (HL.out wr Hb.out) at_ l.length hat (Nat.le_refl _)
        rw [hA] at this
        exact this
      obtain ⟨S, hS⟩ : ∃ S, S = seg l at_ l.length := ⟨_, rfl⟩
      rw [← hS] at HS hM2 HM2
      clear hS HM hMl Hok
      have q1 : (at_ : Int) ≤ (l.length : Int) := by omega
      go_wp2_with (at_builtin; refine append_any rfl _ _ rfl w.heap.size u7 _ M S F HM2.out rfl Hown.out rfl HS.out (by omega) hbs ?_)
      intro v2 w2 ho2 hg2 _
      have HB2 : Hid (Below w.heap.size w w2) := Hb.out.grown hg2 hbs (fun j hj => (Hown.out.lt j hj).1)
      have Ho2 : Hid (OwnI w2 w.heap.size v2 F) := ho2
      clear ho2 hg2 HM2
      go_wp2_with fail
      go_ret2
      exact ⟨HB2.out, _, rfl, Ho2.out⟩

/-- What Apply and Undo leave, of a wrong edit. -/
def ErrPost (c : Int) (w : World) (e : Ending) (w' : World) : Prop := Below w.heap.size w w' ∧ e = .returned (.tuple #[.slice none 0 0, .int .i64 c])
theorem apply_err (v1 v2 : Value) (l : List Int) (es : List Spl) (w : World) (h1 : Reads w v1 l) (h2 : ReadsE w v2 es) (hc : schk (l.length : Int) es ≠ 0) :
    Calls Try.prog 14 #[v1, v2] w fun e w' => ErrPost (schk (l.length : Int) es) w e w' := by
  obtain ⟨a1, cap1, rfl⟩ := h1.shape
  obtain ⟨c, hC⟩ : ∃ c, c = schk (l.length : Int) es := ⟨_, rfl⟩
  rw [← hC] at hc ⊢
  have HC : Hid (c = schk (l.length : Int) es) := hC
  have H2 : Hid (ReadsE w v2 es) := h2
  have hcb : (c != 0) = true := by simpa using hc
  clear h1 h2 hC hc
  go_enter Try.func14, Try.ntmps14
  go_wp2_with fail
  refine (check_any _ _ es w H2.out).mono ?_
  rw [← HC.out]
  rintro e w1 ⟨rfl, hb1⟩
  go_wp2_with fail
  go_ret2
  exact ⟨hb1, rfl⟩
end Go.Proofs.Ytpgjaoemkadenaa.Seek

/- Rows of splices of the call's own; one splice more. -/
set_option linter.unusedVariables false
set_option linter.unusedSimpArgs false
set_option maxRecDepth 100000
namespace Go.Proofs.Ytpgjaoemkadenaa.Seek
open Go.RowKit Plain
theorem info41 : (Try.prog.info? 60).map (fun i => (i.zero, i.size, i.bytes)) = some (some (Value.agg #[.int .i64 0, .int .i64 0, .slice none 0 0]), 3, 40) := by kernel_rfl

/-- The cells of splices whose texts lie in vs. -/
def rowCells : List Spl → List Value → List Value
  | s :: r, v :: vs => .int .i64 s.1 :: .int .i64 s.2.1 :: v :: rowCells r vs
  | _, _ => []
theorem rowCells_len : ∀ (es : List Spl) (vs : List Value), vs.length = es.length → (rowCells es vs).length = es.length * 3
  | [], [], _ => rfl
  | s :: r, v :: vs, h => by
    unfold rowCells
    have := rowCells_len r vs (by simpa using h)
    simp only [List.length_cons, this]
    omega
theorem rowCells_more : ∀ (es : List Spl) (vs : List Value) (s : Spl) (t : Value), vs.length = es.length → rowCells (es ++ [s]) (vs ++ [t]) = rowCells es vs ++ [.int .i64 s.1, .int .i64 s.2.1, t]
  | [], [], _, _, _ => rfl
  | q :: r, v :: vs, s, t, h => by
    have := rowCells_more r vs s t (by simpa using h)
    show rowCells (q :: (r ++ [s])) (v :: (vs ++ [t])) = _
    unfold rowCells
    rw [this]
    rfl
theorem rowCells_at : ∀ (es : List Spl) (vs : List Value) (j : Nat), vs.length = es.length → j < es.length →
    (rowCells es vs)[j * 3]? = some (.int .i64 (es.getD j spl0).1) ∧ (rowCells es vs)[j * 3 + 1]? = some (.int .i64 (es.getD j spl0).2.1) ∧ (rowCells es vs)[j * 3 + 2]? = some (vs.getD j undef)
  | [], _, _, _, h => by cases h
  | q :: r, v :: vs, 0, _, _ => ⟨rfl, rfl, rfl⟩
  | q :: r, v :: vs, j + 1, hl, h => by
    have := rowCells_at r vs j (by simpa using hl) (by simpa using h)
    unfold rowCells
    rw [show (j + 1) * 3 = j * 3 + 3 by omega]
    simpa using this
theorem rowCells_one : ∀ (es : List Spl) (vs : List Value), (∀ v ∈ vs, v.oneCell' = true) → ∀ u ∈ rowCells es vs, u.oneCell' = true
  | [], _, _, u, h => by unfold rowCells at h; cases h
  | s :: r, [], _, u, h => by unfold rowCells at h; cases h
  | s :: r, v :: vs, hv, u, h => by
    unfold rowCells at h
    rcases List.mem_cons.1 h with rfl | h
    · rfl
    · rcases List.mem_cons.1 h with rfl | h
      · rfl
      · rcases List.mem_cons.1 h with rfl | h
        · exact hv _ (List.mem_cons_self ..)
        · exact rowCells_one r vs (fun v hm => hv v (List.mem_cons_of_mem _ hm)) u h

/-- A text of the call's own, beside a row. -/
def TextOf (w : World) (B : Nat) (row : Option Nat) (t : Value) (x : List Int) : Prop := Mild x ∧ Own w B t x ∧ (x = [] ∨ t.ownBlock ≠ row)
/-- A row of splices of the call's own, with texts of its own. -/
def OwnE (w : World) (B : Nat) (v : Value) (es : List Spl) : Prop :=
  ∃ vs : List Value, vs.length = es.length ∧ w.ownsRow B 60 3 v es.length (rowCells es vs) ∧ ∀ j, j < es.length → TextOf w B v.ownBlock (vs.getD j undef) (es.getD j spl0).2.2
theorem ownE_nil (w : World) (B : Nat) : OwnE w B (.slice none 0 0) [] := ⟨[], rfl, World.ownsRow_nil _ _ _ _, fun j hj => by cases hj⟩
theorem Own.shape {w : World} {B : Nat} {v : Value} {zs : List Int} (h : Own w B v zs) : ∃ a cap, v = .slice a zs.length cap := h.reads.shape
theorem own_block {w : World} {B : Nat} {v : Value} {zs : List Int} (h : Own w B v zs) (hz : zs ≠ []) : ∃ g, v.ownBlock = some g ∧ B ≤ g ∧ g < w.heap.size := by
  rcases h with ⟨_, _, _, h⟩ | ⟨_, g, cap, rfl, h1, h2, _⟩
  · exact absurd h hz
  · exact ⟨g, rfl, h1, h2⟩
theorem row3_below {w w' : World} {B : Nat} {v : Value} {n : Nat} {xs : List Value} (h : w.ownsRow B 60 3 v n xs) (hb : Below w.heap.size w w') : w'.ownsRow B 60 3 v n xs := by
  refine ⟨h.1, ?_⟩
  rcases h.2 with hn | ⟨g, cap, cur, hv, hB, hg, rest⟩
  · exact .inl hn
  · exact .inr ⟨g, cap, cur, hv, hB, (hb.block g (Array.getElem?_eq_some_iff.1 hg).1).trans hg, rest⟩
theorem row3_less {w : World} {B B' : Nat} {v : Value} {n : Nat} {xs : List Value} (h : w.ownsRow B 60 3 v n xs) (hb : B' ≤ B) : w.ownsRow B' 60 3 v n xs := by
  refine ⟨h.1, ?_⟩
  rcases h.2 with hn | ⟨g, cap, cur, hv, hB, rest⟩
  · exact .inl hn
  · exact .inr ⟨g, cap, cur, hv, by omega, rest⟩
theorem OwnE.below {w w' : World} {B : Nat} {v : Value} {es : List Spl} (h : OwnE w B v es) (hb : Below w.heap.size w w') : OwnE w' B v es := by
  obtain ⟨vs, h1, h2, h3⟩ := h
  exact ⟨vs, h1, row3_below h2 hb, fun j hj => ⟨(h3 j hj).1, (h3 j hj).2.1.below hb, (h3 j hj).2.2⟩⟩
theorem OwnE.less {w : World} {B B' : Nat} {v : Value} {es : List Spl} (h : OwnE w B v es) (hb : B' ≤ B) : OwnE w B' v es := by
  obtain ⟨vs, h1, h2, h3⟩ := h
  exact ⟨vs, h1, row3_less h2 hb, fun j hj => ⟨(h3 j hj).1, (h3 j hj).2.1.less hb, (h3 j hj).2.2⟩⟩
theorem OwnE.lt {w : World} {B : Nat} {v : Value} {es : List Spl} (h : OwnE w B v es) : ∀ k, v.ownBlock = some k → B ≤ k ∧ k < w.heap.size := by
  obtain ⟨vs, h1, h2, h3⟩ := h
  exact h2.lt
/-- A row of splices of the call's own can be read. -/
theorem OwnE.reads {w : World} {B : Nat} {v : Value} {es : List Spl} (h : OwnE w B v es) : ReadsE w v es := by
  obtain ⟨vs, h1, h2, h3⟩ := h
  have h2' := h2
  rcases h2.2 with ⟨rfl, h0⟩ | ⟨g, cap, cur, rfl, hb, hg, hn, hm, hsz, htake⟩
  · exact .inl ⟨none, 0, rfl, List.length_eq_zero_iff.1 h0⟩
  · refine .inr ⟨g, 0, cap, rfl, hn, hm, (Array.getElem?_eq_some_iff.1 hg).1, fun j hj => ?_⟩
    obtain ⟨e0, e1, e2⟩ := rowCells_at es vs j h1 hj
    obtain ⟨t1, t2, t3⟩ := h3 j hj
    obtain ⟨a, c, hv⟩ := t2.shape
    rw [Nat.zero_add]
    refine ⟨?_, ?_, t1, a, c, ?_, ?_⟩
    · rw [h2'.cellAt (j * 3) (by omega), e0]
    · rw [h2'.cellAt (j * 3 + 1) (by omega), e1]
    · rw [h2'.cellAt (j * 3 + 2) (by omega), e2, hv]
    · rw [← hv]
      exact t2.reads
/-- What lies apart from a row that grew is as it was. -/
theorem TextOf.kept {w w' : World} {B : Nat} {row row' : Option Nat} {t : Value} {x : List Int} (h : TextOf w B row t x) (hg : w.grownBy w' row) (hr : row' = row ∨ row' = some w.heap.size) : TextOf w' B row' t x := by
  obtain ⟨h1, h2, h3⟩ := h
  refine ⟨h1, ?_, ?_⟩
  · rcases h2 with h | ⟨hz, g, cap, hv, hB, hg1, h⟩
    · exact .inl h
    · exact .inr ⟨hz, g, cap, hv, hB, Nat.lt_of_lt_of_le hg1 hg.size, h.kept hg (.inr (h3.resolve_left hz))⟩
  · by_cases hz : x = []
    · exact .inl hz
    · refine .inr ?_
      obtain ⟨g, hgb, _, hlt⟩ := own_block h2 hz
      rcases hr with rfl | rfl
      · exact h3.resolve_left hz
      · rw [hgb]
        intro h
        have := Option.some.inj h
        omega
/-- One splice more behind a row of the call's own. -/
theorem wp_append_spl {w : World} {o : Oper} {a : Act} {K : Act → World → Prop} {Q : Exit → Act → World → Prop} (s x : Operand)
    (ho : o.op = .call { callee := .builtin .append, args := #[s, x], argTypes := #[36, 36] }) (B : Nat) (v : Value) (es : List Spl) (g0 c0 : Nat) (f t : Int) (tv : Value) (txt : List Int) (es' : List Spl) (he : es' = es ++ [(f, t, txt)])
    (hs : a.eval s = v) (hown : OwnE w B v es) (hx : a.eval x = .slice (some ⟨g0, 0, none⟩) 1 c0) (hbox : Boxed w g0 f t tv) (htx : TextOf w B v.ownBlock tv txt) (hle : es.length ≤ 1000000) (hB : B ≤ w.heap.size)
    (h : ∀ v' w', OwnE w' B v' es' → w.grownBy w' v.ownBlock → (v'.ownBlock = v.ownBlock ∨ v'.ownBlock = some w.heap.size) → K (a.put o.dst v') w') : Oper.wp Try.prog o a w K Q := by
  subst he
  obtain ⟨i0, hi, hz0, hz1, hz2⟩ := info_parts info41
  obtain ⟨vs, h1, h2, h3⟩ := hown
  obtain ⟨b0, b1, b2, b3⟩ := hbox
  have hnews : ∀ j u, ([.int .i64 f, .int .i64 t, tv] : List Value)[j]? = some u → w.cell? ((⟨g0, 0, none⟩ : Addr).add j) = some u := by
    intro j u hj
    match j, hj with
    | 0, hj => simp at hj; subst hj; exact b1
    | 1, hj => simp at hj; subst hj; exact b2
    | 2, hj => simp at hj; subst hj; exact b3
    | j + 3, hj => simp at hj
  have hone : ∀ u ∈ ([.int .i64 f, .int .i64 t, tv] : List Value), u.oneCell' = true := by
    intro u hu
    obtain ⟨a, c, hv⟩ := htx.2.1.shape
    simp at hu
    rcases hu with rfl | rfl | rfl
    · rfl
    · rfl
    · rw [hv]; rfl
  obtain ⟨v', w', hr, g1, g2, g3, g4⟩ := run_append_own_at (P := Try.prog) w B 36 o.type 60 i0 (Value.agg #[.int .i64 0, .int .i64 0, .slice none 0 0]) 3 40 Try.underlying36 hi hz0 hz1 hz2 rfl (by decide) v es.length (rowCells es vs) h2 ⟨g0, 0, none⟩ 1 c0
    [.int .i64 f, .int .i64 t, tv] rfl hnews hone (by unfold maxLen; omega) (by omega) hB
  unfold Oper.wp execOp
  simp only [ho, resolve, invoke, builtin, Sem.run_bind, Sem.run_pure, Result.andThen_ok, List.map_toArray, List.map_cons, List.map_nil, hs, hx, hr]
  refine h v' w' ⟨vs ++ [tv], by simp [h1], ?_, fun j hj => ?_⟩ g2 g4
  · rw [rowCells_more es vs _ _ h1, List.length_append]
    exact g1
  · by_cases hjl : j < es.length
    · have e1 : (vs ++ [tv]).getD j undef = vs.getD j undef := by
        rw [List.getD_eq_getElem?_getD, List.getD_eq_getElem?_getD, List.getElem?_append_left (by omega)]
      have e2 : (es ++ [(f, t, txt)]).getD j spl0 = es.getD j spl0 := by
        rw [List.getD_eq_getElem?_getD, List.getD_eq_getElem?_getD, List.getElem?_append_left hjl]
      rw [e1, e2]
      exact (h3 j hjl).kept g2 g4
    · obtain rfl : j = es.length := by simp at hj; omega
      have e1 : (vs ++ [tv]).getD es.length undef = tv := by
        rw [← h1, List.getD_eq_getElem?_getD]
        simp
      have e2 : (es ++ [(f, t, txt)]).getD es.length spl0 = (f, t, txt) := by
        rw [List.getD_eq_getElem?_getD]
        simp
      rw [e1, e2]
      exact htx.kept g2 g4
theorem append_spl {w : World} {ops : Array Oper} {rest : List Oper} {o : Oper} {a : Act} {Q : Exit → Act → World → Prop} (hgd : o.guard = none) (s x : Operand)
    (ho : o.op = .call { callee := .builtin .append, args := #[s, x], argTypes := #[36, 36] }) (B : Nat) (v : Value) (es : List Spl) (g0 c0 : Nat) (f t : Int) (tv : Value) (txt : List Int) (es' : List Spl) (he : es' = es ++ [(f, t, txt)])
    (hs : a.eval s = v) (hown : OwnE w B v es) (hx : a.eval x = .slice (some ⟨g0, 0, none⟩) 1 c0) (hbox : Boxed w g0 f t tv) (htx : TextOf w B v.ownBlock tv txt) (hle : es.length ≤ 1000000) (hB : B ≤ w.heap.size)
    (h : ∀ v' w', OwnE w' B v' es' → w.grownBy w' v.ownBlock → (v'.ownBlock = v.ownBlock ∨ v'.ownBlock = some w.heap.size) → wpList Try.prog ops Q rest (a.put o.dst v') w') : wpList Try.prog ops Q (o :: rest) a w :=
  wpList_plain hgd fun _ hK => wp_append_spl s x ho B v es g0 c0 f t tv txt es' he hs hown hx hbox htx hle hB fun v' w' h1 h2 h3 => hK _ _ (h v' w' h1 h2 h3)
theorem step_spl {ops : Array Oper} {o : Oper} {a : Act} {w : World} {K : Act → World → Prop} {Q : Exit → Act → World → Prop} {E : Prop} (hgd : o.guard = none) (s x : Operand)
    (ho : o.op = .call { callee := .builtin .append, args := #[s, x], argTypes := #[36, 36] }) (B : Nat) (v : Value) (es : List Spl) (g0 c0 : Nat) (f t : Int) (tv : Value) (txt : List Int) (es' : List Spl) (he : es' = es ++ [(f, t, txt)])
    (hs : a.eval s = v) (hown : OwnE w B v es) (hx : a.eval x = .slice (some ⟨g0, 0, none⟩) 1 c0) (hbox : Boxed w g0 f t tv) (htx : TextOf w B v.ownBlock tv txt) (hle : es.length ≤ 1000000) (hB : B ≤ w.heap.size)
    (h : ∀ v' w', OwnE w' B v' es' → w.grownBy w' v.ownBlock → (v'.ownBlock = v.ownBlock ∨ v'.ownBlock = some w.heap.size) → K (a.put o.dst v') w') :
    if Region.wanted o (yielded ops a.tmps) = true then Oper.wp Try.prog o a w K Q else E := by
  have hw : Region.wanted o (yielded ops a.tmps) = true := by simp [Region.wanted, hgd]
  rw [if_pos hw]
  exact wp_append_spl s x ho B v es g0 c0 f t tv txt es' he hs hown hx hbox htx hle hB h
/-- A part from the front of a row of splices. -/
theorem ReadsE.front {w : World} {a : Option Addr} {es : List Spl} {cap : Nat} (h : ReadsE w (.slice a es.length cap) es) (i : Nat) (hi : i ≤ es.length) : ReadsE w (.slice a i cap) (es.take i) := by
  rcases h with ⟨_, _, _, rfl⟩ | ⟨b, off, c, hv, g1, g2, g3, g4⟩
  · obtain rfl : i = 0 := by simpa using hi
    exact .inl ⟨_, _, rfl, rfl⟩
  · cases hv
    have hl : (es.take i).length = i := by rw [List.length_take]; omega
    refine .inr ⟨b, off, cap, by rw [hl], by omega, g2, g3, fun j hj => ?_⟩
    rw [hl] at hj
    have := g4 j (by omega)
    rw [show (es.take i).getD j spl0 = es.getD j spl0 by rw [List.getD_eq_getElem?_getD, List.getD_eq_getElem?_getD, List.getElem?_take, if_pos hj]]
    exact this

theorem spcopied_any (v : Value) (zs : List Int) (w : World) (h : Reads w v zs) (hr : zs.length * 8 ≤ 140737488355328) :
    Calls Try.prog 54 #[v] w fun e w' => Below w.heap.size w w' ∧ ∃ v', e = .returned v' ∧ OwnI w' w.heap.size v' zs := by
  have H : Hid (Reads w v zs) := h
  clear h
  go_enter Try.func54, Try.ntmps54
  go_wp2_with (at_builtin; refine append_any rfl _ _ rfl w.heap.size (.slice none 0 0) _ [] zs zs rfl rfl (ownI_nil _ _) rfl H.out (by simpa using hr) (Nat.le_refl _) ?_)
  intro v2 w2 ho2 hg2 _
  have HB : Hid (Below w.heap.size w w2) := (Below.refl _ _).grown hg2 (Nat.le_refl _) (fun j hj => by cases hj)
  have HO : Hid (OwnI w2 w.heap.size v2 zs) := ho2
  clear ho2 hg2
  go_wp2_with fail
  go_ret
  exact ⟨HB.out, _, rfl, HO.out⟩
end Go.Proofs.Ytpgjaoemkadenaa.Seek

/- Plain mathematics of what is between two lines. -/
set_option linter.unusedVariables false
set_option linter.unusedSimpArgs false
set_option maxRecDepth 100000
namespace Go.Proofs.Ytpgjaoemkadenaa.Plain
/-- How long the longest common beginning is. -/
def cp : List Int → List Int → Nat
  | x :: l, y :: m => if x = y then cp l m + 1 else 0
  | _, _ => 0
theorem cp_nil (l : List Int) : cp l [] = 0 := by cases l <;> rfl
theorem cp_le : ∀ (l m : List Int), cp l m ≤ l.length ∧ cp l m ≤ m.length
  | [], _ => ⟨Nat.zero_le _, Nat.zero_le _⟩
  | x :: l, [] => ⟨Nat.zero_le _, Nat.zero_le _⟩
  | x :: l, y :: m => by
    have := cp_le l m
    unfold cp
    split
    · simp only [List.length_cons]; omega
    · exact ⟨Nat.zero_le _, Nat.zero_le _⟩
theorem cp_comm : ∀ (l m : List Int), cp l m = cp m l
  | [], m => by rw [cp_nil]; rfl
  | x :: l, [] => rfl
  | x :: l, y :: m => by
    unfold cp
    rw [cp_comm l m]
    by_cases h : x = y
    · rw [if_pos h, if_pos h.symm]
    · rw [if_neg h, if_neg (Ne.symm h)]
theorem cp_take : ∀ (l m : List Int), l.take (cp l m) = m.take (cp l m)
  | [], m => by rfl
  | x :: l, [] => rfl
  | x :: l, y :: m => by
    unfold cp
    by_cases h : x = y
    · rw [if_pos h, List.take_succ_cons, List.take_succ_cons, cp_take l m, h]
    · rw [if_neg h]
      rfl
/-- .. and behind it they part. -/
theorem cp_part : ∀ (l m : List Int), cp l m < l.length → cp l m < m.length → l.getD (cp l m) 0 ≠ m.getD (cp l m) 0
  | [], m, h, _ => by cases h
  | x :: l, [], _, h => by cases h
  | x :: l, y :: m, h1, h2 => by
    unfold cp at h1 h2 ⊢
    by_cases h : x = y
    · rw [if_pos h] at h1 h2 ⊢
      have := cp_part l m (by simpa using h1) (by simpa using h2)
      simpa using this
    · rw [if_neg h]
      simpa using h
theorem cp_self : ∀ (l : List Int), cp l l = l.length
  | [] => rfl
  | x :: l => by
    unfold cp
    rw [if_pos rfl, cp_self l]
    rfl
/-- A step of the count. -/
theorem cp_step (l m : List Int) (k : Nat) (h1 : k < l.length) (h2 : k < m.length) : cp (l.drop k) (m.drop k) = if l.getD k 0 = m.getD k 0 then cp (l.drop (k + 1)) (m.drop (k + 1)) + 1 else 0 := by
  rw [List.drop_eq_getElem_cons h1, List.drop_eq_getElem_cons h2, List.getD_eq_getElem?_getD, List.getD_eq_getElem?_getD, List.getElem?_eq_getElem h1, List.getElem?_eq_getElem h2]
  rfl
theorem cp_end (l m : List Int) (k : Nat) (h : l.length ≤ k ∨ m.length ≤ k) : cp (l.drop k) (m.drop k) = 0 := by
  rcases h with h | h
  · rw [List.drop_eq_nil_of_le h]
    rfl
  · rw [List.drop_eq_nil_of_le h, cp_nil]
/-- What is left, turned round. -/
def rst (l : List Int) (k : Nat) : List Int := (l.drop k).reverse
theorem rst_len (l : List Int) (k : Nat) : (rst l k).length = l.length - k := by unfold rst; rw [List.length_reverse, List.length_drop]
theorem rst_at (l : List Int) (k j : Nat) (h : j < l.length - k) : (rst l k).getD j 0 = l.getD (l.length - 1 - j) 0 := by
  unfold rst
  rw [List.getD_eq_getElem?_getD, List.getD_eq_getElem?_getD, List.getElem?_reverse (by rw [List.length_drop]; omega), List.getElem?_drop]
  congr 2
  rw [List.length_drop]
  omega
/-- What is between two lines: from, to, end. -/
def bfr (l m : List Int) : Nat := cp l m
def bcs (l m : List Int) : Nat := cp (rst l (cp l m)) (rst m (cp l m))
def bto (l m : List Int) : Nat := l.length - bcs l m
def ben (l m : List Int) : Nat := m.length - bcs l m
theorem bcs_le (l m : List Int) : bfr l m + bcs l m ≤ l.length ∧ bfr l m + bcs l m ≤ m.length := by
  have h := cp_le (rst l (cp l m)) (rst m (cp l m))
  rw [rst_len, rst_len] at h
  have := cp_le l m
  unfold bfr bcs
  omega
theorem bcs_comm (l m : List Int) : bcs l m = bcs m l := by
  unfold bcs
  rw [cp_comm m l, cp_comm (rst m _)]
/-- The one splice between two lines. -/
def bsp (l m : List Int) : Nsp := (bfr l m, bto l m, seg m (bfr l m) (ben l m))
/-- What Between tells. -/
def btw (l m : List Int) : List Nsp := if l = m then [] else [bsp l m]
theorem drop_same (l m : List Int) : l.drop (bto l m) = m.drop (ben l m) := by
  have h := cp_take (rst l (cp l m)) (rst m (cp l m))
  have hl := bcs_le l m
  have e : ∀ (z : List Int) (c k : Nat), k ≤ z.length → c ≤ z.length - k → ((rst z k).take c).reverse = z.drop (z.length - c) := by
    intro z c k hk hc
    unfold rst
    rw [List.take_reverse, List.reverse_reverse, List.length_drop, List.drop_drop]
    congr 1
    omega
  have h2 := congrArg List.reverse h
  rw [e l _ _ (cp_le l m).1 (by have := cp_le (rst l (cp l m)) (rst m (cp l m)); rw [rst_len, rst_len] at this; omega), e m _ _ (cp_le l m).2 (by have := cp_le (rst l (cp l m)) (rst m (cp l m)); rw [rst_len, rst_len] at this; omega)] at h2
  exact h2
theorem take_same (l m : List Int) : l.take (bfr l m) = m.take (bfr l m) := cp_take l m
theorem btw_app (l m : List Int) : app l 0 (btw l m) = m := by
  unfold btw
  by_cases h : l = m
  · rw [if_pos h, h]
    rfl
  · rw [if_neg h]
    have hl := bcs_le l m
    show seg l 0 (bfr l m) ++ seg m (bfr l m) (ben l m) ++ l.drop (bto l m) = m
    have e1 : seg l 0 (bfr l m) = m.take (bfr l m) := by
      unfold seg
      rw [List.drop_zero, Nat.sub_zero, take_same]
    rw [e1, drop_same, List.append_assoc, seg_drop m _ _ (by unfold ben; omega), List.take_append_drop]
theorem all_same {l m : List Int} (h1 : bfr l m = bto l m) (h2 : bfr l m = ben l m) : l = m := by
  have a := take_same l m
  have b := drop_same l m
  rw [← h1, ← h2] at b
  have c := List.take_append_drop (bfr l m) l
  rw [a, b, List.take_append_drop] at c
  exact c.symm
theorem btw_chg {l m : List Int} (h : l ≠ m) : bfr l m < bto l m ∨ 0 < (seg m (bfr l m) (ben l m)).length := by
  have hl := bcs_le l m
  by_cases h1 : bfr l m = bto l m
  · by_cases h2 : bfr l m = ben l m
    · exact absurd (all_same h1 h2) h
    · rw [seg_len m _ _ (by unfold ben; omega)]
      unfold ben at h2 ⊢
      omega
  · unfold bto at h1 ⊢
    omega
theorem same_chg {l m : List Int} (h : l = m) : bfr l m = bto l m ∧ bfr l m = ben l m := by
  subst h
  have h1 : cp l l = l.length := cp_self l
  have h2 : bcs l l = 0 := by
    have := (bcs_le l l).1
    unfold bfr at this
    omega
  unfold bfr bto ben
  omega
theorem btw_okay (l m : List Int) : Okay l.length 0 (btw l m) := by
  unfold btw
  by_cases h : l = m
  · rw [if_pos h]
    trivial
  · rw [if_neg h]
    have hl := bcs_le l m
    exact ⟨Nat.zero_le _, by show bfr l m ≤ bto l m; unfold bto; omega, by show bto l m ≤ l.length; unfold bto; omega, btw_chg h, trivial⟩
theorem btw_right (l m : List Int) (h1 : l.length ≤ 4096) (h2 : m.length ≤ 4096) : Right l (btw l m) := ⟨h1, btw_okay l m, by rw [btw_app]; exact h2⟩
/-- No smaller one would do. -/
theorem btw_edge (l m : List Int) : (bfr l m < bto l m → bfr l m < ben l m → l.getD (bfr l m) 0 ≠ m.getD (bfr l m) 0 ∧ l.getD (bto l m - 1) 0 ≠ m.getD (ben l m - 1) 0) := by
  intro h1 h2
  have hl := bcs_le l m
  unfold bto at h1
  unfold ben at h2
  refine ⟨cp_part l m (by unfold bfr at h1 hl; omega) (by unfold bfr at h2 hl; omega), ?_⟩
  have h := cp_part (rst l (cp l m)) (rst m (cp l m)) (by rw [rst_len]; unfold bfr bcs at h1; omega) (by rw [rst_len]; unfold bfr bcs at h2; omega)
  rw [rst_at _ _ _ (by unfold bfr bcs at h1; omega), rst_at _ _ _ (by unfold bfr bcs at h2; omega)] at h
  unfold bto ben
  rw [show l.length - bcs l m - 1 = l.length - 1 - cp (rst l (cp l m)) (rst m (cp l m)) by unfold bcs; omega, show m.length - bcs l m - 1 = m.length - 1 - cp (rst l (cp l m)) (rst m (cp l m)) by unfold bcs; omega]
  exact h
end Go.Proofs.Ytpgjaoemkadenaa.Plain

/- Small laws of memory: what only draws; one splice in new memory. -/
set_option linter.unusedVariables false
set_option linter.unusedSimpArgs false
set_option maxRecDepth 100000
namespace Go.Proofs.Ytpgjaoemkadenaa.Seek
open Go.RowKit Plain
theorem ups_append (a b : List Nsp) : ups (a ++ b) = ups a ++ ups b := List.map_append ..
theorem Boxed.drew {w : World} {b : Nat} {f t : Int} {v : Value} (h : Boxed w b f t v) : Boxed w.drew b f t v := h
theorem OwnE.alloc {w : World} {B : Nat} {v : Value} {es : List Spl} (h : OwnE w B v es) (o : Obj) : OwnE (w.alloc o) B v es := h.below (box_below _ _)
theorem TextOf.below {w w' : World} {B : Nat} {row : Option Nat} {t : Value} {x : List Int} (h : TextOf w B row t x) (hb : Below w.heap.size w w') : TextOf w' B row t x := ⟨h.1, h.2.1.below hb, h.2.2⟩
/-- A new text beside an elder row. -/
theorem textOf_new {w : World} {B C : Nat} {row : Option Nat} {t : Value} {x : List Int} (hm : Mild x) (h : Own w C t x) (hB : B ≤ C) (hr : ∀ g, row = some g → g < C) : TextOf w B row t x := by
  refine ⟨hm, h.less hB, ?_⟩
  by_cases hz : x = []
  · exact .inl hz
  · refine .inr ?_
    obtain ⟨g, hg, h1, _⟩ := own_block h hz
    rw [hg]
    intro he
    have := hr g he.symm
    omega
/-- A world that parts from another in draws alone. -/
def Drawn (w w' : World) : Prop := ∃ q, w' = w.drewN q
theorem Drawn.more {w w' : World} (h : Drawn w w') (q : Nat) : Drawn w (w'.drewN q) := by
  obtain ⟨p, rfl⟩ := h
  refine ⟨p + q, ?_⟩
  induction q with
  | zero => rfl
  | succ q ih => exact congrArg World.drew ih
theorem Drawn.below {w w' : World} (h : Drawn w w') : Below w.heap.size w w' := by
  obtain ⟨q, rfl⟩ := h
  exact below_drewN (Below.refl _ _) q
theorem Reads.drawn {w w' : World} {v : Value} {zs : List Int} (h : Reads w v zs) (hd : Drawn w w') : Reads w' v zs := h.below hd.below
theorem reads_at {w : World} {a : Option Addr} {zs : List Int} {cap : Nat} (h : Reads w (.slice a zs.length cap) zs) : ∀ k, k < zs.length → ∃ b o, a = some ⟨b, o, none⟩ ∧ w.cell? ⟨b, o + k, none⟩ = some (.int .i64 (zs.getD k 0)) := by
  intro k hk
  rcases h with ⟨_, _, _, rfl⟩ | ⟨b, off, c, hv, _, _, _, hc⟩
  · cases hk
  · cases hv
    exact ⟨b, off, rfl, hc k hk⟩
/-- One splice in new memory. -/
theorem ownE_one {w : World} {B : Nat} (f t : Int) (tv : Value) (x : List Int) (h : TextOf w B none tv x) (hB : B ≤ w.heap.size) : OwnE (w.alloc (.cells #[.int .i64 f, .int .i64 t, tv] 60)) B (.slice (some ⟨w.heap.size, 0, none⟩) 1 1) [(f, t, x)] := by
  refine ⟨[tv], rfl, ⟨rfl, .inr ⟨w.heap.size, 1, #[.int .i64 f, .int .i64 t, tv], rfl, hB, ?_, Nat.le_refl _, by decide, rfl, rfl⟩⟩, fun j hj => ?_⟩
  · show (w.heap.push _)[w.heap.size]? = _
    simp
  · obtain rfl : j = 0 := by simpa using hj
    refine ⟨h.1, h.2.1.below (box_below _ _), ?_⟩
    by_cases hz : x = []
    · exact .inl hz
    · refine .inr ?_
      obtain ⟨g, hg, _, hlt⟩ := own_block h.2.1 hz
      show tv.ownBlock ≠ some w.heap.size
      rw [hg]
      intro he
      have := Option.some.inj he
      omega
end Go.Proofs.Ytpgjaoemkadenaa.Seek
