/- Texts of one claim, one behind the other: BetwGo, DoItsOwn. -/
import Derived.Test.YtpgjaoemkadenaaM23
import Derived.Test.YtpgjaoemkadenaaM18
import Derived.Deep.Light
/- The contract of splice.Between. -/
set_option linter.unusedVariables false
set_option linter.unusedSimpArgs false
set_option maxRecDepth 100000
namespace Go.Proofs.Ytpgjaoemkadenaa.Seek
open Go.RowKit Plain

/-- What Between leaves. -/
def BetweenPost (r : List Spl) (w : World) (e : Ending) (w' : World) : Prop := Below w.heap.size w w' ∧ ∃ v, e = .returned (.tuple #[v, .int .i64 0]) ∧ OwnE w' w.heap.size v r
set_option maxRecDepth 100000 in
set_option maxHeartbeats 8000000 in
theorem between_ok (v1 v2 : Value) (l m : List Int) (w : World) (h1 : Reads w v1 l) (h2 : Reads w v2 m) (hl : l.length ≤ 4096) (hm : m.length ≤ 4096) :
    Calls Try.prog 39 #[v1, v2] w fun e w' => BetweenPost (ups (btw l m)) w e w' := by
  obtain ⟨a1, cap1, rfl⟩ := h1.shape
  obtain ⟨a2, cap2, rfl⟩ := h2.shape
  have hcp2 := h2.cap_le
  have H1 : Hid (∀ wx, Drawn w wx → ∀ k, k < l.length → ∃ b o, a1 = some ⟨b, o, none⟩ ∧ wx.cell? ⟨b, o + k, none⟩ = some (.int .i64 (l.getD k 0))) := fun wx hd => reads_at (h1.drawn hd)
  have H2 : Hid (∀ wx, Drawn w wx → ∀ k, k < m.length → ∃ b o, a2 = some ⟨b, o, none⟩ ∧ wx.cell? ⟨b, o + k, none⟩ = some (.int .i64 (m.getD k 0))) := fun wx hd => reads_at (h2.drawn hd)
  have HM : Hid (∀ wx, Drawn w wx → Reads wx (.slice a2 m.length cap2) m) := fun wx hd => h2.drawn hd
  obtain ⟨R, hR⟩ : ∃ R, R = ups (btw l m) := ⟨_, rfl⟩
  rw [← hR]
  have HR : Hid (R = ups (btw l m)) := hR
  clear h1 h2 hR
  go_enter Try.func39, Try.ntmps39
  go_wp2_with fail
  go_loopw [6] (fun u6 wr => ∃ k : Nat, u6 = .int .i64 (k : Int) ∧ k ≤ l.length ∧ k ≤ m.length ∧ Hid (k + cp (l.drop k) (m.drop k) = cp l m) ∧ Hid (Drawn w wr))
    (fun u6 _ => l.length - (intOf u6).toNat)
  case atStart => exact ⟨0, rfl, Nat.zero_le _, Nat.zero_le _, by show _ = _; rw [Nat.zero_add]; rfl, ⟨0, rfl⟩⟩
  case round =>
    obtain ⟨k, rfl, hk1, hk2, Hcp, HD⟩ := hrel
    by_cases hgo : k < l.length ∧ k < m.length ∧ l.getD k 0 = m.getD k 0
    · obtain ⟨g1, g2, g3⟩ := hgo
      obtain ⟨b1, o1, hae1, hc1⟩ := H1.out wr HD.out k g1
      obtain ⟨b2, o2, hae2, hc2⟩ := H2.out wr HD.out k g2
      subst hae1 hae2
      have HN : Hid (k + 1 + cp (l.drop (k + 1)) (m.drop (k + 1)) = cp l m) := by
        have := Hcp.out
        rw [cp_step l m k g1 g2, if_pos g3] at this
        show _ = _
        omega
      rw [← g3] at hc2
      generalize l.getD k 0 = z at *
      have i1 : (k : Int) < (l.length : Int) := by omega
      have i2 : (k : Int) < (m.length : Int) := by omega
      have d1 : decide (k < l.length) = true := decide_eq_true g1
      have d2 : decide (k < m.length) = true := decide_eq_true g2
      have d3 : (z == z) = true := by simp
      clear Hcp g3
      go_wp2_with fail
      go_quiet (fail)
      go_wp2_with fail
      go_roundw
      case rel => exact ⟨k + 1, by go_num, by omega, by omega, HN.out, HD.out.more _⟩
      case measure => simp [intOf]; omega
    · have HK : Hid (k = cp l m) := by
        have h9 := Hcp.out
        show _ = _
        by_cases g1 : k < l.length
        · by_cases g2 : k < m.length
          · rw [cp_step l m k g1 g2, if_neg (fun h => hgo ⟨g1, g2, h⟩)] at h9
            exact h9
          · rw [cp_end l m k (.inr (by omega))] at h9
            exact h9
        · rw [cp_end l m k (.inl (by omega))] at h9
          exact h9
      have Hgo : Hid (¬ (k < l.length ∧ k < m.length ∧ l.getD k 0 = m.getD k 0)) := hgo
      clear Hcp hgo
      go_upto_region 4 with fail
      go_cut [38] from 18 to 40 (fun s wx => s = .bool false ∧ Hid (Drawn w wx))
      case first =>
        by_cases g1 : k < l.length
        · have i1 : (k : Int) < (l.length : Int) := by omega
          have d1 : decide (k < l.length) = true := decide_eq_true g1
          by_cases g2 : k < m.length
          · have i2 : (k : Int) < (m.length : Int) := by omega
            have d2 : decide (k < m.length) = true := decide_eq_true g2
            obtain ⟨b1, o1, hae1, hc1⟩ := H1.out wr HD.out k g1
            obtain ⟨b2, o2, hae2, hc2⟩ := H2.out wr HD.out k g2
            subst hae1 hae2
            have d3 : (l.getD k 0 == m.getD k 0) = false := beq_eq_false_iff_ne.2 (fun h => Hgo.out ⟨g1, g2, h⟩)
            clear Hgo
            generalize l.getD k 0 = z at *
            generalize m.getD k 0 = y at *
            go_wp2_with fail
            go_quiet (fail)
            go_wp2_with fail
            go_meet
            exact ⟨rfl, HD.out.more _⟩
          · have d2 : decide (k < m.length) = false := decide_eq_false g2
            clear Hgo
            go_wp2_with fail
            go_quiet (fail)
            go_wp2_with fail
            go_meet
            exact ⟨rfl, HD.out.more _⟩
        · have d1 : decide (k < l.length) = false := decide_eq_false g1
          clear Hgo
          go_wp2_with fail
          go_quiet (fail)
          go_wp2_with fail
          go_meet
          exact ⟨rfl, HD.out.more _⟩
      case rest =>
      obtain ⟨rfl, HDc⟩ := hcut
      clear HD Hgo
      go_wp2_with fail
      have Hcs := rfl (a := cp (rst l k) (rst m k))
      go_loopw [7, 8] (fun u7 u8 wr => ∃ (j t e : Nat), u7 = .int .i64 (t : Int) ∧ u8 = .int .i64 (e : Int) ∧ t + j = l.length ∧ e + j = m.length ∧ k ≤ t ∧ k ≤ e ∧ Hid (j + cp ((rst l k).drop j) ((rst m k).drop j) = cp (rst l k) (rst m k)) ∧ Hid (Drawn w wr))
        (fun u7 _ _ => (intOf u7).toNat)
      case atStart => exact ⟨0, l.length, m.length, rfl, rfl, rfl, rfl, hk1, hk2, by show _ = _; rw [Nat.zero_add]; rfl, HDc.out⟩
      case round =>
        obtain ⟨j, t, e, rfl, rfl, ht, he, hkt, hke, Hcp, HD⟩ := hrel
        have Hte : Hid (t + j = l.length ∧ e + j = m.length) := ⟨ht, he⟩
        have hL1 : t ≤ l.length := by omega
        have hL2 : e ≤ m.length := by omega
        clear ht he HDc Hcs
        by_cases hgo : k < t ∧ k < e ∧ l.getD (t - 1) 0 = m.getD (e - 1) 0
        · obtain ⟨g1, g2, g3⟩ := hgo
          obtain ⟨b1, o1, hae1, hc1⟩ := H1.out wr HD.out (t - 1) (by omega)
          obtain ⟨b2, o2, hae2, hc2⟩ := H2.out wr HD.out (e - 1) (by omega)
          subst hae1 hae2
          have HN : Hid (j + 1 + cp ((rst l k).drop (j + 1)) ((rst m k).drop (j + 1)) = cp (rst l k) (rst m k)) := by
            have := Hcp.out
            have h9 := Hte.out
            rw [cp_step (rst l k) (rst m k) j (by rw [rst_len]; omega) (by rw [rst_len]; omega), rst_at _ _ _ (by omega), rst_at _ _ _ (by omega), if_pos (by rw [show l.length - 1 - j = t - 1 by omega, show m.length - 1 - j = e - 1 by omega]; exact g3)] at this
            show _ = _
            omega
          rw [← g3] at hc2
          generalize l.getD (t - 1) 0 = z at *
          have i1 : (t : Int) - 1 < (l.length : Int) := by omega
          have i2 : (e : Int) - 1 < (m.length : Int) := by omega
          have i3 : (0 : Int) ≤ (t : Int) - 1 := by omega
          have i4 : (0 : Int) ≤ (e : Int) - 1 := by omega
          have i5 : ((t : Int) - 1).toNat = t - 1 := by omega
          have i6 : ((e : Int) - 1).toNat = e - 1 := by omega
          have d1 : decide (t > k) = true := decide_eq_true g1
          have d2 : decide (e > k) = true := decide_eq_true g2
          have d3 : (z == z) = true := by simp
          clear Hcp g3
          go_wp2_with fail
          go_quiet (fail)
          go_wp2_with fail
          go_roundw
          case rel => exact ⟨j + 1, t - 1, e - 1, by go_num, by go_num, by have := Hte.out; omega, by have := Hte.out; omega, by omega, by omega, HN.out, HD.out.more _⟩
          case measure => simp [intOf]; omega
        · have HJ : Hid (j = cp (rst l k) (rst m k)) := by
            have h9 := Hcp.out
            have h8 := Hte.out
            show _ = _
            by_cases g1 : k < t
            · by_cases g2 : k < e
              · rw [cp_step (rst l k) (rst m k) j (by rw [rst_len]; omega) (by rw [rst_len]; omega), rst_at _ _ _ (by omega), rst_at _ _ _ (by omega), if_neg (by rw [show l.length - 1 - j = t - 1 by omega, show m.length - 1 - j = e - 1 by omega]; exact fun h => hgo ⟨g1, g2, h⟩)] at h9
                exact h9
              · rw [cp_end (rst l k) (rst m k) j (.inr (by rw [rst_len]; omega))] at h9
                exact h9
            · rw [cp_end (rst l k) (rst m k) j (.inl (by rw [rst_len]; omega))] at h9
              exact h9
          have Hgo : Hid (¬ (k < t ∧ k < e ∧ l.getD (t - 1) 0 = m.getD (e - 1) 0)) := hgo
          clear Hcp hgo
          go_upto_region 7 with fail
          go_cut [65] from 45 to 69 (fun s wx => s = .bool false ∧ Hid (Drawn w wx))
          case first =>
            by_cases g1 : k < t
            · have d1 : decide (t > k) = true := decide_eq_true g1
              by_cases g2 : k < e
              · have d2 : decide (e > k) = true := decide_eq_true g2
                obtain ⟨b1, o1, hae1, hc1⟩ := H1.out wr HD.out (t - 1) (by omega)
                obtain ⟨b2, o2, hae2, hc2⟩ := H2.out wr HD.out (e - 1) (by omega)
                subst hae1 hae2
                have d3 : (l.getD (t - 1) 0 == m.getD (e - 1) 0) = false := beq_eq_false_iff_ne.2 (fun h => Hgo.out ⟨g1, g2, h⟩)
                have i1 : (t : Int) - 1 < (l.length : Int) := by omega
                have i2 : (e : Int) - 1 < (m.length : Int) := by omega
                have i3 : (0 : Int) ≤ (t : Int) - 1 := by omega
                have i4 : (0 : Int) ≤ (e : Int) - 1 := by omega
                have i5 : ((t : Int) - 1).toNat = t - 1 := by omega
                have i6 : ((e : Int) - 1).toNat = e - 1 := by omega
                clear Hgo
                generalize l.getD (t - 1) 0 = z at *
                generalize m.getD (e - 1) 0 = y at *
                go_wp2_with fail
                go_quiet (fail)
                go_wp2_with fail
                go_meet
                exact ⟨rfl, HD.out.more _⟩
              · have d2 : decide (e > k) = false := decide_eq_false g2
                clear Hgo
                go_wp2_with fail
                go_quiet (fail)
                go_wp2_with fail
                go_meet
                exact ⟨rfl, HD.out.more _⟩
            · have d1 : decide (t > k) = false := decide_eq_false g1
              clear Hgo
              go_wp2_with fail
              go_quiet (fail)
              go_wp2_with fail
              go_meet
              exact ⟨rfl, HD.out.more _⟩
          case rest =>
          obtain ⟨rfl, HDc⟩ := hcut
          clear HD Hgo
          have HTE : Hid (k = bfr l m ∧ t = bto l m ∧ e = ben l m) := by
            have h8 := Hte.out
            have h7 : bcs l m = j := by
              unfold bcs
              rw [← HK.out]
              exact HJ.out.symm
            refine ⟨HK.out, ?_, ?_⟩
            · unfold bto
              omega
            · unfold ben
              omega
          obtain ⟨A, hA⟩ : ∃ A, (if cap2 = k then a2 else Option.map (fun x => x.add k) a2) = A := ⟨_, rfl⟩
          have HS : Hid (∀ wx, Drawn w wx → Reads wx (.slice A (e - k) (cap2 - k)) (seg m k e)) := by
            intro wx hb
            have := reads_slice (HM.out wx hb) k e hke hL2
            rw [hA] at this
            exact this
          obtain ⟨S, hS⟩ : ∃ S, S = seg m k e := ⟨_, rfl⟩
          rw [← hS] at HS
          have HSeg : Hid (S = seg m k e) := hS
          have hSl : S.length ≤ 4096 := by rw [hS, seg_len m k e hL2]; omega
          clear hS HJ HK Hte
          have q1 : (k : Int) ≤ (e : Int) := by omega
          have q2 : (e : Int) ≤ (cap2 : Int) := by omega
          have HBc : Hid (Below w.heap.size w wc) := HDc.out.below
          go_wp2_with fail
          refine (spcopied_any _ S _ (HS.out _ HDc.out) (by omega)).mono ?_
          rintro e1 w5 ⟨hb5, v5, rfl, hown5⟩
          obtain ⟨a5, c5, hv5⟩ := hown5.reads.shape
          subst hv5
          have HB5 : Hid (Below w.heap.size w w5) := below_trans HBc.out hb5 HBc.out.size
          have HT5 : Hid (TextOf w5 w.heap.size none (.slice a5 S.length c5) S) := textOf_new (by show S.length * 8 ≤ _; omega) (own_of hown5) HBc.out.size (fun g hg => by cases hg)
          clear hb5 hown5 HBc HDc hA
          go_wp2_with fail
          refine (changes_any (k : Int) (t : Int) a5 S.length c5 _).mono ?_
          rintro e1 w6 ⟨rfl, hb6⟩
          have HB6 : Hid (Below w.heap.size w w6) := below_trans (HB5.out.alloc HB5.out.size _) hb6 (Nat.le_trans HB5.out.size (box_below _ _).size)
          have HT6 : Hid (TextOf w6 w.heap.size none (.slice a5 S.length c5) S) := (HT5.out.below (box_below _ _)).below hb6
          obtain ⟨_, x1, x2, x3⟩ := (boxed_new w5 (k : Int) (t : Int) (.slice a5 S.length c5)).below hb6
          clear hb6 HB5 HT5
          by_cases hlm : l = m
          · have hz : (decide ((k : Int) < (t : Int)) || decide (0 < S.length)) = false := by
              obtain ⟨g1, g2, g3⟩ := HTE.out
              have := same_chg hlm
              rw [Bool.or_eq_false_iff]
              refine ⟨decide_eq_false (by omega), decide_eq_false ?_⟩
              rw [HSeg.out, seg_len m k e hL2]
              omega
            have HR2 : Hid (R = []) := by
              show R = []
              rw [HR.out]
              unfold btw
              rw [if_pos hlm]
              rfl
            rw [hz]
            clear hz hlm
            go_wp2_with fail
            go_ret2
            exact ⟨HB6.out, _, rfl, by rw [HR2.out]; exact ownE_nil _ _⟩
          · have hz : (decide ((k : Int) < (t : Int)) || decide (0 < S.length)) = true := by
              obtain ⟨g1, g2, g3⟩ := HTE.out
              have := btw_chg hlm
              rw [← g1, ← g2, ← g3, ← HSeg.out] at this
              rw [Bool.or_eq_true]
              rcases this with h | h
              · exact .inl (decide_eq_true (by omega))
              · exact .inr (decide_eq_true h)
            have HR2 : Hid (R = [((k : Int), (t : Int), S)]) := by
              obtain ⟨g1, g2, g3⟩ := HTE.out
              show R = _
              rw [HR.out]
              unfold btw
              rw [if_neg hlm]
              unfold bsp
              rw [← g1, ← g2, ← g3, ← HSeg.out]
              rfl
            rw [hz]
            clear hz hlm
            go_wp2_with fail
            go_ret2
            exact ⟨HB6.out.alloc HB6.out.size _, _, rfl, by rw [HR2.out]; exact ownE_one _ _ _ _ HT6.out HB6.out.size⟩
theorem between_err (v1 v2 : Value) (l m : List Int) (w : World) (h1 : Reads w v1 l) (h2 : Reads w v2 m) (hx : l.length > 4096 ∨ m.length > 4096) :
    Calls Try.prog 39 #[v1, v2] w fun e w' => ErrPost 2 w e w' := by
  obtain ⟨a1, cap1, rfl⟩ := h1.shape
  obtain ⟨a2, cap2, rfl⟩ := h2.shape
  clear h1 h2
  have hx2 : (l.length : Int) > 4096 ∨ (m.length : Int) > 4096 := by omega
  clear hx
  go_enter Try.func39, Try.ntmps39
  go_wp2_with fail
  all_goals first
    | (go_ret2; exact ⟨Below.refl _ _, rfl⟩)
    | (exfalso; omega)
end Go.Proofs.Ytpgjaoemkadenaa.Seek

/- The contract of edit.ofItsOwn. -/
set_option linter.unusedVariables false
set_option linter.unusedSimpArgs false
set_option maxRecDepth 100000
namespace Go.Proofs.Ytpgjaoemkadenaa.Seek
open Go.RowKit Plain


theorem row_stays {w w' : World} {B : Nat} {e : TypeId} {size n : Nat} {v : Value} {xs : List Value} (h : w.ownsRow B e size v n xs) (hb : ∀ k, v.ownBlock = some k → w'.heap[k]? = w.heap[k]?) : w'.ownsRow B e size v n xs := by
  refine ⟨h.1, ?_⟩
  rcases h.2 with hn | ⟨g, cap, cur, rfl, hB, hg, rest⟩
  · exact .inl hn
  · exact .inr ⟨g, cap, cur, rfl, hB, (hb g rfl).trans hg, rest⟩
theorem Own.stays {w w' : World} {B g : Nat} {v : Value} {zs : List Int} (h : Own w B v zs) (hg : w.grownBy w' (some g)) (hlt : g < B) : Own w' B v zs := by
  rcases h with h | ⟨hz, g1, cap, hv, hB, hg1, h⟩
  · exact .inl h
  · exact .inr ⟨hz, g1, cap, hv, hB, Nat.lt_of_lt_of_le hg1 hg.size, row_stays h (fun k hk => hg.block k (h.lt k hk).2 (fun e => by have := (h.lt k hk).1; have := Option.some.inj e; omega))⟩
theorem OwnE.stays {w w' : World} {B g : Nat} {v : Value} {es : List Spl} (h : OwnE w B v es) (hg : w.grownBy w' (some g)) (hlt : g < B) : OwnE w' B v es := by
  obtain ⟨vs, h1, h2, h3⟩ := h
  exact ⟨vs, h1, row_stays h2 (fun k hk => hg.block k (h2.lt k hk).2 (fun e => by have := (h2.lt k hk).1; have := Option.some.inj e; omega)), fun j hj => ⟨(h3 j hj).1, (h3 j hj).2.1.stays hg hlt, (h3 j hj).2.2⟩⟩
theorem OwnE.one {w : World} {B : Nat} {v : Value} {es : List Spl} (h : OwnE w B v es) : v.oneCell' = true ∧ ∀ xs, v ≠ .agg xs := by
  obtain ⟨vs, h1, h2, h3⟩ := h
  rcases h2.2 with ⟨rfl, _⟩ | ⟨g, cap, cur, rfl, _⟩
  · exact ⟨rfl, fun _ e => by cases e⟩
  · exact ⟨rfl, fun _ e => by cases e⟩
/-- The first i registers are copied. -/
def CopR (w : World) (B : Nat) (ls : List Value) (ts : List (List Int)) (i : Nat) : Prop := AllSl ls ∧ ∀ j, j < i → Av w (fun b => B ≤ b) (ls.getD j undef) (ts.getD j [])
theorem CopR.step {w w1 w2 : World} {B g : Nat} {ls : List Value} {ts : List (List Int)} {i : Nat} (h : CopR w B ls ts i) (hi : i < 27) (hb : Below w.heap.size w w1) (a : Option Addr) (n c : Nat) (ho : Av w1 (fun b => B ≤ b) (.slice a n c) (ts.getD i [])) (hg : w1.grownBy w2 (some g)) (hgB : g < B) :
    CopR w2 B (ls.set i (.slice a n c)) ts (i + 1) := by
  have ll := h.1.1
  refine ⟨h.1.set i a n c, fun j hj => ?_⟩
  by_cases e : j = i
  · subst e
    rw [getD_set_same _ _ _ _ (by omega)]
    exact ho.stored hg (by show ¬ B ≤ g; omega)
  · rw [getD_set_other _ _ _ _ _ (by omega)]
    exact ((h.2 j (by omega)).below hb).stored hg (by show ¬ B ≤ g; omega)
theorem CopR.all {w : World} {B : Nat} {ls : List Value} {ts : List (List Int)} (h : CopR w B ls ts 27) (ht : ts.length = 27) (hm : ∀ i, i < 27 → Mild (ts.getD i [])) : AvR w (fun b => B ≤ b) ls ts :=
  ⟨⟨h.1, ht, fun i hi => ⟨(h.2 i hi).1, hm i hi⟩⟩, h.2⟩
theorem CopR.stored {w w' : World} {B g : Nat} {ls : List Value} {ts : List (List Int)} {i : Nat} (h : CopR w B ls ts i) (hg : w.grownBy w' (some g)) (hgB : g < B) : CopR w' B ls ts i :=
  ⟨h.1, fun j hj => (h.2 j hj).stored hg (by show ¬ B ≤ g; omega)⟩
/-- A result in memory of its own. -/
def OwnRes (w : World) (B : Nat) (x : Value) (R : Res) (es : List Spl) : Prop :=
  ∃ a c vs ev, x = .agg (resL (.slice a R.text.length c) R.loc vs R.fk R.fa R.mode ev).toArray ∧ Av w (fun b => B ≤ b) (.slice a R.text.length c) R.text ∧ AvR w (fun b => B ≤ b) vs R.regs ∧ OwnE w B ev es

set_option maxHeartbeats 2000000 in
theorem ofItsOwn_go (a : Option Addr) (cap : Nat) (vs : List Value) (R : Res) (w : World) (h : Reads w (.slice a R.text.length cap) R.text) (hr : ReadsR w vs R.regs) (v0 : Value) (zs : List Int) (h0 : Reads w v0 zs) (hz : R.text.length ≤ 4096) (hz0 : zs.length ≤ 4096) :
    Calls Try.prog 25 #[.agg (resL (.slice a R.text.length cap) R.loc vs R.fk R.fa R.mode (.slice none 0 0)).toArray, v0] w fun q w' => Below w.heap.size w w' ∧ ∃ x, q = .returned x ∧ OwnRes w' w.heap.size x R (ups (btw zs R.text)) := by
  obtain ⟨a0, cap0, rfl⟩ := h0.shape
  have hvs : vs.length = 27 := hr.1.1
  have HBT : Hid (∀ wx, Below w.heap.size w wx → Calls Try.prog 39 #[.slice a0 zs.length cap0, .slice a R.text.length cap] wx fun e w' => BetweenPost (ups (btw zs R.text)) wx e w') := fun wx hx => between_ok _ _ zs R.text wx (h0.below hx) (h.below hx) hz0 hz
  have HCP : Hid (∀ wx, Below w.heap.size w wx → Calls Try.prog 30 #[.slice a R.text.length cap] wx fun e w' => ConcatPost R.text wx e w') := fun wx hx => copied_go _ _ wx (h.below hx) (by unfold Mild; omega)
  have HRR : Hid (∀ wx, Below w.heap.size w wx → ReadsR wx vs R.regs) := fun wx hx => hr.below hx
  have HS : Hid (AllSl vs) := hr.1
  obtain ⟨es, hes⟩ : ∃ es, es = ups (btw zs R.text) := ⟨_, rfl⟩
  rw [← hes] at HBT ⊢
  clear h hr h0 hes
  go_enter Try.func25, Try.ntmps25
  go_wp2_with (refine boxC rfl 38 _ rfl (resL (.slice a R.text.length cap) R.loc vs R.fk R.fa R.mode (.slice none 0 0)) rfl ?_)
  intro w1 ha hb
  have HB_w1 : Hid (Below w.heap.size w w1) := hb
  have A_w1 : Hid (BoxC w1 38 w.heap.size (resL (.slice a R.text.length cap) R.loc vs R.fk R.fa R.mode (.slice none 0 0))) := ha
  clear ha hb
  go_wp2_with (refine allocC rfl 38 rfl nulL nul_zero ?_)
  intro w2 ha hb
  have HLGZ : Hid (w.heap.size ≤ w1.heap.size ∧ w.heap.size < w1.heap.size) := ⟨HB_w1.out.size, A_w1.out.lt⟩
  have HB_w2 : Hid (Below w.heap.size w w2) := below_trans HB_w1.out hb HB_w1.out.size
  have A_w2 : Hid (BoxC w2 38 w.heap.size (resL (.slice a R.text.length cap) R.loc vs R.fk R.fa R.mode (.slice none 0 0))) := A_w1.out.below hb
  clear A_w1 HB_w1
  have Z_w2 : Hid (BoxC w2 38 w1.heap.size nulL) := ha
  clear ha hb
  generalize w1.heap.size = GZ at *
  have a0 : w2.cell? ⟨w.heap.size, 0, none⟩ = some (.slice a R.text.length cap) := (A_w2.out.cell 0).trans resL_0
  have a1 : w2.cell? ⟨w.heap.size, 1, none⟩ = some (.int .i64 R.loc) := (A_w2.out.cell 1).trans resL_1
  have a29 : w2.cell? ⟨w.heap.size, 29, none⟩ = some (.int .i64 R.fk) := (A_w2.out.cell 29).trans (resL_end (by assumption) 0)
  have a30 : w2.cell? ⟨w.heap.size, 30, none⟩ = some (.int .i64 R.fa) := (A_w2.out.cell 30).trans (resL_end (by assumption) 1)
  go_wp2_with (fail)
  refine (HBT.out _ HB_w2.out).mono ?_
  rintro q w3 ⟨hb, ev, rfl, he⟩
  have he2 : OwnE w3 (GZ + 1) ev es := he.less Z_w2.out.lt
  clear he a0 a1 a29 a30
  have HB_w3 : Hid (Below w.heap.size w w3) := below_trans HB_w2.out hb HB_w2.out.size
  have A_w3 : Hid (BoxC w3 38 w.heap.size (resL (.slice a R.text.length cap) R.loc vs R.fk R.fa R.mode (.slice none 0 0))) := A_w2.out.below hb
  have Z_w3 : Hid (BoxC w3 38 GZ nulL) := Z_w2.out.below hb
  clear A_w2 Z_w2 HB_w2
  clear hb
  have HEV : Hid (ev.oneCell' = true ∧ ∀ xs, ev ≠ .agg xs) := he2.one
  have E_w3 : Hid (OwnE w3 (GZ + 1) ev es) := he2
  clear he2
  go_wp2_with (refine storeO rfl 38 36 _ _ rfl w.heap.size 32 rfl (resL (.slice a R.text.length cap) R.loc vs R.fk R.fa R.mode (.slice none 0 0)) (resL (.slice a R.text.length cap) R.loc vs R.fk R.fa R.mode ev) ev (.slice none 0 0) rfl A_w3.out HEV.out.1 HEV.out.2 (resL_end (by assumption) 3) one_edit (resL_edit _ (by assumption)) ?_)
  intro w4 hz hg
  have HB_w4 : Hid (Below w.heap.size w w4) := HB_w3.out.grown hg HB_w3.out.size (fun j hj => by cases hj; exact Nat.le_refl _)
  have Z_w4 : Hid (BoxC w4 38 GZ nulL) := Z_w3.out.kept hg (fun e => by have := HLGZ.out; have := Option.some.inj e; omega)
  have E_w4 : Hid (OwnE w4 (GZ + 1) ev es) := E_w3.out.stays hg (by have := HLGZ.out; omega)
  clear A_w3 Z_w3 E_w3 HB_w3
  have A_w4 : Hid (BoxC w4 38 w.heap.size (resL (.slice a R.text.length cap) R.loc vs R.fk R.fa R.mode ev)) := hz
  clear hz hg
  have a0c : w4.cell? ⟨w.heap.size, 0, none⟩ = some (.slice a R.text.length cap) := (A_w4.out.cell 0).trans resL_0
  go_wp2_with (fail)
  refine (HCP.out _ HB_w4.out).mono ?_
  rintro q w5 ⟨hb, vo, rfl, ho⟩
  obtain ⟨a2, c2, rfl⟩ := ho.reads.shape
  have hzl := Z_w4.out.lt
  have ho2 : Av w5 (fun b => GZ + 1 ≤ b) (.slice a2 R.text.length c2) R.text := (av_own ho).weak (fun b hb => Nat.le_trans hzl hb)
  clear a0c ho hzl
  have HB_w5 : Hid (Below w.heap.size w w5) := below_trans HB_w4.out hb HB_w4.out.size
  have A_w5 : Hid (BoxC w5 38 w.heap.size (resL (.slice a R.text.length cap) R.loc vs R.fk R.fa R.mode ev)) := A_w4.out.below hb
  have Z_w5 : Hid (BoxC w5 38 GZ nulL) := Z_w4.out.below hb
  have E_w5 : Hid (OwnE w5 (GZ + 1) ev es) := E_w4.out.below hb
  clear A_w4 Z_w4 E_w4 HB_w4
  clear hb
  have T_w5 : Hid (Av w5 (fun b => GZ + 1 ≤ b) (.slice a2 R.text.length c2) R.text) := ho2
  clear ho2
  go_wp2_with (refine storeO rfl 38 22 _ _ rfl w.heap.size 0 rfl (resL (.slice a R.text.length cap) R.loc vs R.fk R.fa R.mode ev) (resL (.slice a2 R.text.length c2) R.loc vs R.fk R.fa R.mode ev) (.slice a2 R.text.length c2) (.slice a R.text.length cap) rfl A_w5.out rfl (fun xs hx => by cases hx) resL_0 one_slice (resL_text _) ?_)
  intro w6 hz hg
  have HB_w6 : Hid (Below w.heap.size w w6) := HB_w5.out.grown hg HB_w5.out.size (fun j hj => by cases hj; exact Nat.le_refl _)
  have Z_w6 : Hid (BoxC w6 38 GZ nulL) := Z_w5.out.kept hg (fun e => by have := HLGZ.out; have := Option.some.inj e; omega)
  have E_w6 : Hid (OwnE w6 (GZ + 1) ev es) := E_w5.out.stays hg (by have := HLGZ.out; omega)
  have T_w6 : Hid (Av w6 (fun b => GZ + 1 ≤ b) (.slice a2 R.text.length c2) R.text) := T_w5.out.stored hg (by have := HLGZ.out; show ¬ (GZ + 1 ≤ w.heap.size); omega)
  clear A_w5 Z_w5 E_w5 T_w5 HB_w5
  have A_w6 : Hid (BoxC w6 38 w.heap.size (resL (.slice a2 R.text.length c2) R.loc vs R.fk R.fa R.mode ev)) := hz
  clear hz hg
  go_wp2_with ((refine loadP rfl 38 31 _ rfl w.heap.size 2 rfl (resL (.slice a2 R.text.length c2) R.loc vs R.fk R.fa R.mode ev) vs A_w6.out (by rw [hvs]; exact wide_regs) (fun j v hv => by rw [resL_reg (by assumption) j (by rw [← hvs]; exact (List.getElem?_eq_some_iff.1 hv).1)]; exact hv) ?_))
  go_loopw [24] (fun u24 wl => ∃ (i : Nat) (ls : List Value), u24 = .int .i64 (i : Int) ∧ i ≤ 27 ∧ Hid (Below w.heap.size w wl) ∧ Hid (BoxC wl 38 w.heap.size (resL (.slice a2 R.text.length c2) R.loc ls R.fk R.fa R.mode ev)) ∧ Hid (BoxC wl 38 GZ nulL) ∧ Hid (OwnE wl (GZ + 1) ev es) ∧ Hid (Av wl (fun b => GZ + 1 ≤ b) (.slice a2 R.text.length c2) R.text) ∧ Hid (CopR wl (GZ + 1) ls R.regs i)) (fun u24 _ => 27 - (intOf u24).toNat)
  case atStart => exact ⟨0, vs, rfl, by omega, HB_w6, A_w6, Z_w6, E_w6, T_w6, ⟨HS.out, fun j hj => by omega⟩⟩
  case round =>
    obtain ⟨i, ls, rfl, hi, HB_wr, A_wr, Z_wr, E_wr, T_wr, HC⟩ := hrel
    clear HB_w6 A_w6 Z_w6 E_w6 T_w6
    have hls : ls.length = 27 := HC.out.1.1
    by_cases hlt : i < 27
    · have hiI : (i : Int) < 27 := by omega
      have hw1 : IntKind.i64.wrap ((i : Int) + 1) = (i : Int) + 1 := by rw [IntKind.wrap_i64]; omega
      obtain ⟨ai, ci, hv, hr, hm⟩ := (HRR.out wr HB_wr.out).at_ i hlt
      have HR : Hid (Reads wr (.slice ai (R.regs.getD i []).length ci) (R.regs.getD i [])) := hr
      have HV : Hid (vs.getD i undef = .slice ai (R.regs.getD i []).length ci) := hv
      have HMi : Hid (Mild (R.regs.getD i [])) := hm
      clear hr hv hm
      obtain ⟨t, ht⟩ : ∃ t, t = R.regs.getD i [] := ⟨_, rfl⟩
      have HTI : Hid (R.regs.getD i [] = t) := ht.symm
      rw [← ht] at HR HV HMi
      clear ht
      obtain ⟨ao, no, co, hold⟩ := HC.out.1.at_ i hlt
      have HOld : Hid (ls[i]? = some (.slice ao no co)) := by show _ = _; rw [← hold, List.getD_eq_getElem?_getD, List.getElem?_eq_getElem (by omega)]; rfl
      clear hold
      go_wp2_with (refine index24 rfl _ _ rfl vs rfl i rfl HS.out hlt _ HV.out ?_)
      refine (copied_go _ t wr HR.out HMi.out).mono ?_
      rintro q w7 ⟨hb, vo, rfl, ho⟩
      obtain ⟨a7, c7, rfl⟩ := ho.reads.shape
      have hzl := Z_wr.out.lt
      have HO7 : Hid (Av w7 (fun b => GZ + 1 ≤ b) (.slice a7 t.length c7) (R.regs.getD i [])) := by rw [HTI.out]; exact (av_own ho).weak (fun b hb => Nat.le_trans hzl hb)
      have HBB : Hid (Below wr.heap.size wr w7) := hb
      clear ho hzl HR
      have HB_w7 : Hid (Below w.heap.size w w7) := below_trans HB_wr.out hb HB_wr.out.size
      have A_w7 : Hid (BoxC w7 38 w.heap.size (resL (.slice a2 R.text.length c2) R.loc ls R.fk R.fa R.mode ev)) := A_wr.out.below hb
      have Z_w7 : Hid (BoxC w7 38 GZ nulL) := Z_wr.out.below hb
      have E_w7 : Hid (OwnE w7 (GZ + 1) ev es) := E_wr.out.below hb
      have T_w7 : Hid (Av w7 (fun b => GZ + 1 ≤ b) (.slice a2 R.text.length c2) R.text) := T_wr.out.below hb
      clear A_wr Z_wr E_wr T_wr HB_wr
      clear hb
      go_wp2_with (refine storeO rfl 38 22 _ _ rfl w.heap.size (2 + i) rfl (resL (.slice a2 R.text.length c2) R.loc ls R.fk R.fa R.mode ev) (resL (.slice a2 R.text.length c2) R.loc (ls.set i (.slice a7 t.length c7)) R.fk R.fa R.mode ev) (.slice a7 t.length c7) (.slice ao no co) rfl A_w7.out rfl (fun xs hx => by cases hx) (by rw [resL_reg hls i hlt]; exact HOld.out) one_slice (resL_setreg i _ hls hlt) ?_)
      intro w8 hz hg
      have HC8 : Hid (CopR w8 (GZ + 1) (ls.set i (.slice a7 t.length c7)) R.regs (i + 1)) := HC.out.step hlt HBB.out _ _ _ HO7.out hg (by have := HLGZ.out; omega)
      have HB_w8 : Hid (Below w.heap.size w w8) := HB_w7.out.grown hg HB_w7.out.size (fun j hj => by cases hj; exact Nat.le_refl _)
      have Z_w8 : Hid (BoxC w8 38 GZ nulL) := Z_w7.out.kept hg (fun e => by have := HLGZ.out; have := Option.some.inj e; omega)
      have E_w8 : Hid (OwnE w8 (GZ + 1) ev es) := E_w7.out.stays hg (by have := HLGZ.out; omega)
      have T_w8 : Hid (Av w8 (fun b => GZ + 1 ≤ b) (.slice a2 R.text.length c2) R.text) := T_w7.out.stored hg (by have := HLGZ.out; show ¬ (GZ + 1 ≤ w.heap.size); omega)
      clear A_w7 Z_w7 E_w7 T_w7 HB_w7
      have A_w8 : Hid (BoxC w8 38 w.heap.size (resL (.slice a2 R.text.length c2) R.loc (ls.set i (.slice a7 t.length c7)) R.fk R.fa R.mode ev)) := hz
      clear hz hg HO7 HBB HC
      go_wp2_with (fail)
      go_roundw
      case rel => exact ⟨i + 1, _, by go_num, by omega, HB_w8, A_w8, Z_w8, E_w8, T_w8, HC8⟩
      case measure => simp [intOf] <;> omega
    · obtain rfl : i = 27 := by omega
      have hiI : ¬ ((27 : Nat) : Int) < 27 := by omega
      have HLA : Hid (AllSl ls) := HC.out.1
      have HC_wr : Hid (CopR wr (GZ + 1) ls R.regs 27) := HC
      clear HC
      go_wp2_with (first | (refine loadC rfl 38 _ rfl w.heap.size rfl (resL (.slice a2 R.text.length c2) R.loc ls R.fk R.fa R.mode ev) A_wr.out (by rw [resL_len hls]; exact wide_res) ?_) | (refine storeC rfl 38 _ _ rfl GZ rfl nulL (resL (.slice a2 R.text.length c2) R.loc ls R.fk R.fa R.mode ev) rfl Z_wr.out (by rw [resL_len hls]; exact wide_res) (resL_one HLA.out rfl HEV.out.1) (by rw [nul_len, resL_len hls]) ?_))
      intro w10 hz hg
      have HB_w10 : Hid (Below w.heap.size w w10) := HB_wr.out.grown hg HB_wr.out.size (fun j hj => by cases hj; exact (by have := HLGZ.out; omega))
      have A_w10 : Hid (BoxC w10 38 w.heap.size (resL (.slice a2 R.text.length c2) R.loc ls R.fk R.fa R.mode ev)) := A_wr.out.kept hg (fun e => by have := HLGZ.out; have := Option.some.inj e; omega)
      have E_w10 : Hid (OwnE w10 (GZ + 1) ev es) := E_wr.out.stays hg (by have := HLGZ.out; omega)
      have T_w10 : Hid (Av w10 (fun b => GZ + 1 ≤ b) (.slice a2 R.text.length c2) R.text) := T_wr.out.stored hg (by have := HLGZ.out; show ¬ (GZ + 1 ≤ GZ); omega)
      have HC_w10 : Hid (CopR w10 (GZ + 1) ls R.regs 27) := HC_wr.out.stored hg (by have := HLGZ.out; omega)
      clear A_wr Z_wr E_wr T_wr HC_wr HB_wr
      have Z_w10 : Hid (BoxC w10 38 GZ (resL (.slice a2 R.text.length c2) R.loc ls R.fk R.fa R.mode ev)) := hz
      clear hz hg
      go_wp2_with (fail)
      (try simp only [Exit.inBlock, Exit.then])
      refine bodyPost_ret (ret_box1 rfl _ _ GZ (resL (.slice a2 R.text.length c2) R.loc ls R.fk R.fa R.mode ev) rfl Z_w10.out (by rw [resL_len hls]; exact wide_res)) rfl ?_
      have hle : w.heap.size ≤ GZ + 1 := by have := HLGZ.out; omega
      exact ⟨HB_w10.out, _, rfl, a2, c2, ls, ev, rfl, T_w10.out.weak (fun b hb => Nat.le_trans hle hb), (HC_w10.out.all (HRR.out w (Below.refl _ _)).2.1 (fun i hi => ((HRR.out w (Below.refl _ _)).2.2 i hi).2)).weak (fun b hb => Nat.le_trans hle hb), E_w10.out.less hle⟩
end Go.Proofs.Ytpgjaoemkadenaa.Seek
