/- The contract of the document's SameEdit, with slices.EqualFunc and its function literal. -/
import Derived.Test.YtpgecholpbpakabCheckGo
import Derived.Test.YtpgecholpbpakabAppends
set_option linter.unusedVariables false
set_option linter.unusedSimpArgs false
namespace Go.Proofs.Ytpgecholpbpakab.Seek
open Go.RowKit Plain

set_option maxHeartbeats 2000000 in
theorem lit_any (f t f' t' : Int) (v v' : Value) (x x' : List Int) (w : World) (h1 : Reads w v x) (h2 : Reads w v' x') (m1 : Mild x) (m2 : Mild x') :
    Calls Try.prog 24 #[.agg #[.int .i64 f, .int .i64 t, v], .agg #[.int .i64 f', .int .i64 t', v']] w fun e w' => e = .returned (.bool (decide (((f, t, x) : Spl) = (f', t', x')))) ∧ Below w.heap.size w w' := by
  obtain ⟨a, c, rfl⟩ := h1.shape
  obtain ⟨a', c', rfl⟩ := h2.shape
  have H1 : Hid (∀ wx, Below w.heap.size w wx → Reads wx (.slice a x.length c) x) := fun wx hb => h1.below hb
  have H2 : Hid (∀ wx, Below w.heap.size w wx → Reads wx (.slice a' x'.length c') x') := fun wx hb => h2.below hb
  unfold Mild at m1 m2
  clear h1 h2
  obtain ⟨b, hb⟩ : ∃ b, b = decide (((f, t, x) : Spl) = (f', t', x')) := ⟨_, rfl⟩
  rw [← hb]
  have HB : Hid (b = (f == f' && (t == t' && x == x'))) := by
    show b = _
    rw [hb, Bool.eq_iff_iff]
    simp
  clear hb
  go_enter Try.func24, Try.ntmps24
  go_wp2_with fail
  all_goals first
    | (refine (equal_any _ _ x x' _ (H1.out _ (((Below.refl _ _).alloc (Nat.le_refl _) _).alloc (by rw [size_alloc]; omega) _)) (H2.out _ (((Below.refl _ _).alloc (Nat.le_refl _) _).alloc (by rw [size_alloc]; omega) _)) (by unfold maxLen; omega) (by unfold maxLen; omega)).mono ?_
       rintro e w1 ⟨rfl, q, hq⟩
       have HW : Hid (Below w.heap.size w w1) := by rw [hq]; exact below_drewN (((Below.refl _ _).alloc (Nat.le_refl _) _).alloc (by rw [size_alloc]; omega) _) q
       clear hq
       go_wp2_with fail
       all_goals (
         go_ret
         refine ⟨?_, HW.out⟩
         rw [HB.out]
         first | rfl | simp_all))
    | (go_ret
       refine ⟨?_, ((Below.refl _ _).alloc (Nat.le_refl _) _).alloc (by rw [size_alloc]; omega) _⟩
       rw [HB.out]
       first | rfl | simp_all)

theorem getD_eq_of {es fs : List Spl} (h : es.length = fs.length) : (∀ j, j < es.length → es.getD j spl0 = fs.getD j spl0) → es = fs := by
  intro hj
  apply List.ext_getElem h
  intro i h1 h2
  have := hj i h1
  rw [List.getD_eq_getElem?_getD, List.getD_eq_getElem?_getD, List.getElem?_eq_getElem h1, List.getElem?_eq_getElem h2] at this
  exact this
set_option maxHeartbeats 2000000 in
theorem equalFunc_any (v v' : Value) (es fs : List Spl) (w : World) (h1 : ReadsE w v es) (h2 : ReadsE w v' fs) (hl : es.length = fs.length) :
    Calls Try.prog 23 #[v, v', .func (.func 24) #[] #[]] w fun e w' => e = .returned (.bool (decide (es = fs))) ∧ Below w.heap.size w w' := by
  obtain ⟨a, c, rfl⟩ := h1.shape
  obtain ⟨a', c', rfl⟩ := h2.shape
  have H1 : Hid (∀ k, k < es.length → ∃ b off, a = some ⟨b, off, none⟩ ∧ b < w.heap.size ∧ SplAt w b (off + k * 3) (es.getD k spl0)) := h1.each
  have H2 : Hid (∀ k, k < es.length → ∃ b off, a' = some ⟨b, off, none⟩ ∧ b < w.heap.size ∧ SplAt w b (off + k * 3) (fs.getD k spl0)) := fun k hk => h2.each k (by omega)
  have hL : es.length ≤ maxLen := by
    rcases h1 with ⟨_, _, _, rfl⟩ | ⟨b, off, cap, hv, h1, h2, hb, hc⟩
    · exact Nat.zero_le _
    · exact Nat.le_trans h1 h2
  unfold maxLen at hL
  rw [← hl]
  obtain ⟨R, hR⟩ : ∃ R, R = decide (es = fs) := ⟨_, rfl⟩
  rw [← hR]
  have HR : Hid (R = decide (es = fs)) := hR
  have HL : Hid (es.length = fs.length) := hl
  clear h1 h2 hR hl
  go_enter Try.func23, Try.ntmps23
  go_wp2_with fail
  go_loopw [17] (fun u17 wr => ∃ k : Nat, u17 = .int .i64 (k : Int) ∧ k ≤ es.length ∧ Hid (∀ j, j < k → es.getD j spl0 = fs.getD j spl0) ∧ Hid (Below w.heap.size w wr)) (fun u17 _ => es.length - (intOf u17).toNat)
  case atStart => exact ⟨0, rfl, Nat.zero_le _, fun j hj => by omega, Below.refl _ _⟩
  case round =>
    obtain ⟨k, rfl, hk, Hs, Hb⟩ := hrel
    have hbs := Hb.out.size
    by_cases hlt : k < es.length
    · obtain ⟨b, off, hae, hbl, hsp⟩ := H1.out k hlt
      obtain ⟨b2, off2, hae2, hbl2, hsp2⟩ := H2.out k hlt
      subst hae hae2
      have hI : (k : Int) < (es.length : Int) := by omega
      obtain ⟨s, hs⟩ : ∃ s, s = es.getD k spl0 := ⟨_, rfl⟩
      obtain ⟨s', hs'⟩ : ∃ s', s' = fs.getD k spl0 := ⟨_, rfl⟩
      have HS : Hid (s = es.getD k spl0) := hs
      have HS' : Hid (s' = fs.getD k spl0) := hs'
      rw [← hs] at hsp
      rw [← hs'] at hsp2
      clear hs hs'
      obtain ⟨c0, c1, hm, a3, cap3, c2, hrd⟩ := hsp.below Hb.out hbl
      obtain ⟨d0, d1, hm2, a4, cap4, d2, hrd2⟩ := hsp2.below Hb.out hbl2
      have Hrd : Hid (∀ wx, Below wr.heap.size wr wx → Reads wx (.slice a3 s.2.2.length cap3) s.2.2) := fun wx hb => hrd.below hb
      have Hrd2 : Hid (∀ wx, Below wr.heap.size wr wx → Reads wx (.slice a4 s'.2.2.length cap4) s'.2.2) := fun wx hb => hrd2.below hb
      have Hm : Hid (Mild s.2.2 ∧ Mild s'.2.2) := ⟨hm, hm2⟩
      clear hrd hrd2 hm hm2 hsp hsp2 H1 H2
      obtain ⟨f, t, x⟩ := s
      obtain ⟨f', t', x'⟩ := s'
      simp only at c0 c1 c2 d0 d1 d2
      have HBB : Hid (Below wr.heap.size wr ((wr.alloc (.cells #[.int .i64 f, .int .i64 t, .slice a3 x.length cap3] 30)).alloc (.cells #[.int .i64 f', .int .i64 t', .slice a4 x'.length cap4] 30))) := ((Below.refl _ _).alloc (Nat.le_refl _) _).alloc (by rw [size_alloc]; omega) _
      have hdv : ∀ o, (wr.alloc o).cell? ⟨b2, off2 + k * 3, none⟩ = some (.int .i64 f') := fun o => ((box_below wr o).cell (by exact Nat.lt_of_lt_of_le hbl2 hbs)).trans d0
      have hdv1 : ∀ o, (wr.alloc o).cell? ⟨b2, off2 + k * 3 + 1, none⟩ = some (.int .i64 t') := fun o => ((box_below wr o).cell (by exact Nat.lt_of_lt_of_le hbl2 hbs)).trans d1
      have hdv2 : ∀ o, (wr.alloc o).cell? ⟨b2, off2 + k * 3 + 2, none⟩ = some (.slice a4 x'.length cap4) := fun o => ((box_below wr o).cell (by exact Nat.lt_of_lt_of_le hbl2 hbs)).trans d2
      go_wp2_with fail
      refine (lit_any f t f' t' _ _ x x' _ (Hrd.out _ HBB.out) (Hrd2.out _ HBB.out) Hm.out.1 Hm.out.2).mono ?_
      rintro e w1 ⟨rfl, hb1⟩
      have HB1 : Hid (Below w.heap.size w w1) := below_trans (below_trans Hb.out HBB.out hbs) hb1 (below_trans Hb.out HBB.out hbs).size
      clear hb1 HBB hdv hdv1 hdv2 c0 c1 c2 d0 d1 d2
      by_cases he : ((f, t, x) : Spl) = (f', t', x')
      · have hd : decide (((f, t, x) : Spl) = (f', t', x')) = true := decide_eq_true he
        have HE : Hid (es.getD k spl0 = fs.getD k spl0) := by
          show _ = _
          rw [← HS.out, ← HS'.out]
          exact he
        rw [hd]
        clear hd he HS HS'
        go_wp2_with fail
        go_roundw
        case rel =>
          refine ⟨k + 1, by go_num, by omega, fun j hj => ?_, HB1.out⟩
          by_cases hjk : j < k
          · exact Hs.out j hjk
          · obtain rfl : j = k := by omega
            exact HE.out
        case measure => simp [intOf]; omega
      · have hd : decide (((f, t, x) : Spl) = (f', t', x')) = false := decide_eq_false he
        have HF : Hid (R = false) := by
          show R = false
          rw [HR.out]
          refine decide_eq_false (fun h => he ?_)
          rw [HS.out, HS'.out, h]
        rw [hd]
        clear hd he HS HS'
        go_wp2_with fail
        go_ret
        exact ⟨by rw [HF.out]; rfl, HB1.out⟩
    · obtain rfl : k = es.length := by omega
      have HF : Hid (R = true) := by
        show R = true
        rw [HR.out]
        exact decide_eq_true (getD_eq_of HL.out Hs.out)
      clear Hs
      go_wp2_with fail
      go_ret
      exact ⟨by rw [HF.out]; rfl, Hb.out⟩
theorem equalFunc_lens (v v' : Value) (es fs : List Spl) (w : World) (h1 : ReadsE w v es) (h2 : ReadsE w v' fs) (hl : es.length ≠ fs.length) :
    Calls Try.prog 23 #[v, v', .func (.func 24) #[] #[]] w fun e w' => e = .returned (.bool (decide (es = fs))) ∧ Below w.heap.size w w' := by
  obtain ⟨a, c, rfl⟩ := h1.shape
  obtain ⟨a', c', rfl⟩ := h2.shape
  clear h1 h2
  rw [decide_eq_false (fun h => hl (by rw [h]))]
  have hb : ((es.length : Int) != (fs.length : Int)) = true := by simp only [bne_iff_ne]; omega
  generalize es.length = n1 at *
  generalize fs.length = n2 at *
  go_enter Try.func23, Try.ntmps23
  go_wp2_with fail
  go_ret
  exact ⟨rfl, Below.refl _ _⟩
theorem same_any (v v' : Value) (es fs : List Spl) (w : World) (h1 : ReadsE w v es) (h2 : ReadsE w v' fs) :
    Calls Try.prog 14 #[v, v'] w fun e w' => e = .returned (.bool (decide (es = fs))) ∧ Below w.heap.size w w' := by
  have H : Hid (Calls Try.prog 23 #[v, v', .func (.func 24) #[] #[]] w fun e w' => e = .returned (.bool (decide (es = fs))) ∧ Below w.heap.size w w') := by
    by_cases hl : es.length = fs.length
    · exact equalFunc_any v v' es fs w h1 h2 hl
    · exact equalFunc_lens v v' es fs w h1 h2 hl
  clear h1 h2
  go_enter Try.func14, Try.ntmps14
  go_wp2_with fail
  refine H.out.mono ?_
  rintro e w1 ⟨rfl, hb⟩
  go_wp2_with fail
  go_ret
  exact ⟨rfl, hb⟩
end Go.Proofs.Ytpgecholpbpakab.Seek
