/- Texts of one claim, one behind the other: BetwMem, BetwGo. -/
import Derived.Test.YtpgjaoemkadenabM27
import Derived.Test.YtpgjaoemkadenabM01
import Derived.Deep.CutRange
import Derived.Deep.RegionWith
/- Small laws of memory: what only draws; one splice in new memory. -/
set_option linter.unusedVariables false
set_option linter.unusedSimpArgs false
set_option maxRecDepth 100000
namespace Go.Proofs.Ytpgjaoemkadenab.Seek
open Go.RowKit Plain
theorem ups_append (a b : List Nsp) : ups (a ++ b) = ups a ++ ups b := List.map_append ..
theorem Boxed.drew {w : World} {b : Nat} {f t : Int} {v : Value} (h : Boxed w b f t v) : Boxed w.drew b f t v := h
theorem OwnE.alloc {w : World} {B : Nat} {v : Value} {es : List Spl} (h : OwnE w B v es) (o : Obj) : OwnE (w.alloc o) B v es := h.below (box_below _ _)
theorem TextOf.below {w w' : World} {B : Nat} {row : Option Nat} {t : Value} {x : List Int} (h : TextOf w B row t x) (hb : Below w.heap.size w w') : TextOf w' B row t x := ⟨h.1, h.2.1.below hb, h.2.2⟩
/-- A new text beside an elder row. -/
theorem textOf_new {w : World} {B C : Nat} {row : Option Nat} {t : Value} {x : List Int} (hm : Mild x) (h : Own w C t x) (hB : B ≤ C) (hr : ∀ g, row = some g → g < C) : TextOf w B row t x := by
  refine ⟨hm, h.less hB, ?_⟩
  by_cases hz : x = []
  · exact .inl hz
  · refine .inr ?_
    obtain ⟨g, hg, h1, _⟩ := own_block h hz
    rw [hg]
    intro he
    have := hr g he.symm
    omega
/-- A world that parts from another in draws alone. -/
def Drawn (w w' : World) : Prop := ∃ q, w' = w.drewN q
theorem Drawn.more {w w' : World} (h : Drawn w w') (q : Nat) : Drawn w (w'.drewN q) := by
  obtain ⟨p, rfl⟩ := h
  refine ⟨p + q, ?_⟩
  induction q with
  | zero => rfl
  | succ q ih => exact congrArg World.drew ih
theorem Drawn.below {w w' : World} (h : Drawn w w') : Below w.heap.size w w' := by
  obtain ⟨q, rfl⟩ := h
  exact below_drewN (Below.refl _ _) q
theorem Reads.drawn {w w' : World} {v : Value} {zs : List Int} (h : Reads w v zs) (hd : Drawn w w') : Reads w' v zs := h.below hd.below
theorem reads_at {w : World} {a : Option Addr} {zs : List Int} {cap : Nat} (h : Reads w (.slice a zs.length cap) zs) : ∀ k, k < zs.length → ∃ b o, a = some ⟨b, o, none⟩ ∧ w.cell? ⟨b, o + k, none⟩ = some (.int .i64 (zs.getD k 0)) := by
  intro k hk
  rcases h with ⟨_, _, _, rfl⟩ | ⟨b, off, c, hv, _, _, _, hc⟩
  · cases hk
  · cases hv
    exact ⟨b, off, rfl, hc k hk⟩
/-- One splice in new memory. -/
theorem ownE_one {w : World} {B : Nat} (f t : Int) (tv : Value) (x : List Int) (h : TextOf w B none tv x) (hB : B ≤ w.heap.size) : OwnE (w.alloc (.cells #[.int .i64 f, .int .i64 t, tv] 68)) B (.slice (some ⟨w.heap.size, 0, none⟩) 1 1) [(f, t, x)] := by
  refine ⟨[tv], rfl, ⟨rfl, .inr ⟨w.heap.size, 1, #[.int .i64 f, .int .i64 t, tv], rfl, hB, ?_, Nat.le_refl _, by decide, rfl, rfl⟩⟩, fun j hj => ?_⟩
  · show (w.heap.push _)[w.heap.size]? = _
    simp
  · obtain rfl : j = 0 := by simpa using hj
    refine ⟨h.1, h.2.1.below (box_below _ _), ?_⟩
    by_cases hz : x = []
    · exact .inl hz
    · refine .inr ?_
      obtain ⟨g, hg, _, hlt⟩ := own_block h.2.1 hz
      show tv.ownBlock ≠ some w.heap.size
      rw [hg]
      intro he
      have := Option.some.inj he
      omega
end Go.Proofs.Ytpgjaoemkadenab.Seek

/- The contract of splice.Between. -/
set_option linter.unusedVariables false
set_option linter.unusedSimpArgs false
set_option maxRecDepth 100000
namespace Go.Proofs.Ytpgjaoemkadenab.Seek
open Go.RowKit Plain

/-- What Between leaves. -/
def BetweenPost (r : List Spl) (w : World) (e : Ending) (w' : World) : Prop := Below w.heap.size w w' ∧ ∃ v, e = .returned (.tuple #[v, .int .i64 0]) ∧ OwnE w' w.heap.size v r
set_option maxRecDepth 100000 in
set_option maxHeartbeats 8000000 in
theorem between_ok (v1 v2 : Value) (l m : List Int) (w : World) (h1 : Reads w v1 l) (h2 : Reads w v2 m) (hl : l.length ≤ 4096) (hm : m.length ≤ 4096) :
    Calls Try.prog 43 #[v1, v2] w fun e w' => BetweenPost (ups (btw l m)) w e w' := by
  obtain ⟨a1, cap1, rfl⟩ := h1.shape
  obtain ⟨a2, cap2, rfl⟩ := h2.shape
  have hcp2 := h2.cap_le
  have H1 : Hid (∀ wx, Drawn w wx → ∀ k, k < l.length → ∃ b o, a1 = some ⟨b, o, none⟩ ∧ wx.cell? ⟨b, o + k, none⟩ = some (.int .i64 (l.getD k 0))) := fun wx hd => reads_at (h1.drawn hd)
  have H2 : Hid (∀ wx, Drawn w wx → ∀ k, k < m.length → ∃ b o, a2 = some ⟨b, o, none⟩ ∧ wx.cell? ⟨b, o + k, none⟩ = some (.int .i64 (m.getD k 0))) := fun wx hd => reads_at (h2.drawn hd)
  have HM : Hid (∀ wx, Drawn w wx → Reads wx (.slice a2 m.length cap2) m) := fun wx hd => h2.drawn hd
  obtain ⟨R, hR⟩ : ∃ R, R = ups (btw l m) := ⟨_, rfl⟩
  rw [← hR]
  have HR : Hid (R = ups (btw l m)) := hR
  clear h1 h2 hR
  go_enter Try.func43, Try.ntmps43
  go_wp2_with fail
  go_loopw [6] (fun u6 wr => ∃ k : Nat, u6 = .int .i64 (k : Int) ∧ k ≤ l.length ∧ k ≤ m.length ∧ Hid (k + cp (l.drop k) (m.drop k) = cp l m) ∧ Hid (Drawn w wr))
    (fun u6 _ => l.length - (intOf u6).toNat)
  case atStart => exact ⟨0, rfl, Nat.zero_le _, Nat.zero_le _, by show _ = _; rw [Nat.zero_add]; rfl, ⟨0, rfl⟩⟩
  case round =>
    obtain ⟨k, rfl, hk1, hk2, Hcp, HD⟩ := hrel
    by_cases hgo : k < l.length ∧ k < m.length ∧ l.getD k 0 = m.getD k 0
    · obtain ⟨g1, g2, g3⟩ := hgo
      obtain ⟨b1, o1, hae1, hc1⟩ := H1.out wr HD.out k g1
      obtain ⟨b2, o2, hae2, hc2⟩ := H2.out wr HD.out k g2
      subst hae1 hae2
      have HN : Hid (k + 1 + cp (l.drop (k + 1)) (m.drop (k + 1)) = cp l m) := by
        have := Hcp.out
        rw [cp_step l m k g1 g2, if_pos g3] at this
        show _ = _
        omega
      rw [← g3] at hc2
      generalize l.getD k 0 = z at *
      have i1 : (k : Int) < (l.length : Int) := by omega
      have i2 : (k : Int) < (m.length : Int) := by omega
      have d1 : decide (k < l.length) = true := decide_eq_true g1
      have d2 : decide (k < m.length) = true := decide_eq_true g2
      have d3 : (z == z) = true := by simp
      clear Hcp g3
      go_wp2_with fail
      go_quiet (fail)
      go_wp2_with fail
      go_roundw
      case rel => exact ⟨k + 1, by go_num, by omega, by omega, HN.out, HD.out.more _⟩
      case measure => simp [intOf]; omega
    · have HK : Hid (k = cp l m) := by
        have h9 := Hcp.out
        show _ = _
        by_cases g1 : k < l.length
        · by_cases g2 : k < m.length
          · rw [cp_step l m k g1 g2, if_neg (fun h => hgo ⟨g1, g2, h⟩)] at h9
            exact h9
          · rw [cp_end l m k (.inr (by omega))] at h9
            exact h9
        · rw [cp_end l m k (.inl (by omega))] at h9
          exact h9
      have Hgo : Hid (¬ (k < l.length ∧ k < m.length ∧ l.getD k 0 = m.getD k 0)) := hgo
      clear Hcp hgo
      go_upto_region 4 with fail
      go_cut [38] from 18 to 40 (fun s wx => s = .bool false ∧ Hid (Drawn w wx))
      case first =>
        by_cases g1 : k < l.length
        · have i1 : (k : Int) < (l.length : Int) := by omega
          have d1 : decide (k < l.length) = true := decide_eq_true g1
          by_cases g2 : k < m.length
          · have i2 : (k : Int) < (m.length : Int) := by omega
            have d2 : decide (k < m.length) = true := decide_eq_true g2
            obtain ⟨b1, o1, hae1, hc1⟩ := H1.out wr HD.out k g1
            obtain ⟨b2, o2, hae2, hc2⟩ := H2.out wr HD.out k g2
            subst hae1 hae2
            have d3 : (l.getD k 0 == m.getD k 0) = false := beq_eq_false_iff_ne.2 (fun h => Hgo.out ⟨g1, g2, h⟩)
            clear Hgo
            generalize l.getD k 0 = z at *
            generalize m.getD k 0 = y at *
            go_wp2_with fail
            go_quiet (fail)
            go_wp2_with fail
            go_meet
            exact ⟨rfl, HD.out.more _⟩
          · have d2 : decide (k < m.length) = false := decide_eq_false g2
            clear Hgo
            go_wp2_with fail
            go_quiet (fail)
            go_wp2_with fail
            go_meet
            exact ⟨rfl, HD.out.more _⟩
        · have d1 : decide (k < l.length) = false := decide_eq_false g1
          clear Hgo
          go_wp2_with fail
          go_quiet (fail)
          go_wp2_with fail
          go_meet
          exact ⟨rfl, HD.out.more _⟩
      case rest =>
      obtain ⟨rfl, HDc⟩ := hcut
      clear HD Hgo
      go_wp2_with fail
      have Hcs := rfl (a := cp (rst l k) (rst m k))
      go_loopw [7, 8] (fun u7 u8 wr => ∃ (j t e : Nat), u7 = .int .i64 (t : Int) ∧ u8 = .int .i64 (e : Int) ∧ t + j = l.length ∧ e + j = m.length ∧ k ≤ t ∧ k ≤ e ∧ Hid (j + cp ((rst l k).drop j) ((rst m k).drop j) = cp (rst l k) (rst m k)) ∧ Hid (Drawn w wr))
        (fun u7 _ _ => (intOf u7).toNat)
      case atStart => exact ⟨0, l.length, m.length, rfl, rfl, rfl, rfl, hk1, hk2, by show _ = _; rw [Nat.zero_add]; rfl, HDc.out⟩
      case round =>
        obtain ⟨j, t, e, rfl, rfl, ht, he, hkt, hke, Hcp, HD⟩ := hrel
        have Hte : Hid (t + j = l.length ∧ e + j = m.length) := ⟨ht, he⟩
        have hL1 : t ≤ l.length := by omega
        have hL2 : e ≤ m.length := by omega
        clear ht he HDc Hcs
        by_cases hgo : k < t ∧ k < e ∧ l.getD (t - 1) 0 = m.getD (e - 1) 0
        · obtain ⟨g1, g2, g3⟩ := hgo
          obtain ⟨b1, o1, hae1, hc1⟩ := H1.out wr HD.out (t - 1) (by omega)
          obtain ⟨b2, o2, hae2, hc2⟩ := H2.out wr HD.out (e - 1) (by omega)
          subst hae1 hae2
          have HN : Hid (j + 1 + cp ((rst l k).drop (j + 1)) ((rst m k).drop (j + 1)) = cp (rst l k) (rst m k)) := by
            have := Hcp.out
            have h9 := Hte.out
            rw [cp_step (rst l k) (rst m k) j (by rw [rst_len]; omega) (by rw [rst_len]; omega), rst_at _ _ _ (by omega), rst_at _ _ _ (by omega), if_pos (by rw [show l.length - 1 - j = t - 1 by omega, show m.length - 1 - j = e - 1 by omega]; exact g3)] at this
            show _ = _
            omega
          rw [← g3] at hc2
          generalize l.getD (t - 1) 0 = z at *
          have i1 : (t : Int) - 1 < (l.length : Int) := by omega
          have i2 : (e : Int) - 1 < (m.length : Int) := by omega
          have i3 : (0 : Int) ≤ (t : Int) - 1 := by omega
          have i4 : (0 : Int) ≤ (e : Int) - 1 := by omega
          have i5 : ((t : Int) - 1).toNat = t - 1 := by omega
          have i6 : ((e : Int) - 1).toNat = e - 1 := by omega
          have d1 : decide (t > k) = true := decide_eq_true g1
          have d2 : decide (e > k) = true := decide_eq_true g2
          have d3 : (z == z) = true := by simp
          clear Hcp g3
          go_wp2_with fail
          go_quiet (fail)
          go_wp2_with fail
          go_roundw
          case rel => exact ⟨j + 1, t - 1, e - 1, by go_num, by go_num, by have := Hte.out; omega, by have := Hte.out; omega, by omega, by omega, HN.out, HD.out.more _⟩
          case measure => simp [intOf]; omega
        · have HJ : Hid (j = cp (rst l k) (rst m k)) := by
            have h9 := Hcp.out
            have h8 := Hte.out
            show _ = _
            by_cases g1 : k < t
            · by_cases g2 : k < e
              · rw [cp_step (rst l k) (rst m k) j (by rw [rst_len]; omega) (by rw [rst_len]; omega), rst_at _ _ _ (by omega), rst_at _ _ _ (by omega), if_neg (by rw [show l.length - 1 - j = t - 1 by omega, show m.length - 1 - j = e - 1 by omega]; exact fun h => hgo ⟨g1, g2, h⟩)] at h9
                exact h9
              · rw [cp_end (rst l k) (rst m k) j (.inr (by rw [rst_len]; omega))] at h9
                exact h9
            · rw [cp_end (rst l k) (rst m k) j (.inl (by rw [rst_len]; omega))] at h9
              exact h9
          have Hgo : Hid (¬ (k < t ∧ k < e ∧ l.getD (t - 1) 0 = m.getD (e - 1) 0)) := hgo
          clear Hcp hgo
          go_upto_region 7 with fail
          go_cut [65] from 45 to 69 (fun s wx => s = .bool false ∧ Hid (Drawn w wx))
          case first =>
            by_cases g1 : k < t
            · have d1 : decide (t > k) = true := decide_eq_true g1
              by_cases g2 : k < e
              · have d2 : decide (e > k) = true := decide_eq_true g2
                obtain ⟨b1, o1, hae1, hc1⟩ := H1.out wr HD.out (t - 1) (by omega)
                obtain ⟨b2, o2, hae2, hc2⟩ := H2.out wr HD.out (e - 1) (by omega)
                subst hae1 hae2
                have d3 : (l.getD (t - 1) 0 == m.getD (e - 1) 0) = false := beq_eq_false_iff_ne.2 (fun h => Hgo.out ⟨g1, g2, h⟩)
                have i1 : (t : Int) - 1 < (l.length : Int) := by omega
                have i2 : (e : Int) - 1 < (m.length : Int) := by omega
                have i3 : (0 : Int) ≤ (t : Int) - 1 := by omega
                have i4 : (0 : Int) ≤ (e : Int) - 1 := by omega
                have i5 : ((t : Int) - 1).toNat = t - 1 := by omega
                have i6 : ((e : Int) - 1).toNat = e - 1 := by omega
                clear Hgo
                generalize l.getD (t - 1) 0 = z at *
                generalize m.getD (e - 1) 0 = y at *
                go_wp2_with fail
                go_quiet (fail)
                go_wp2_with fail
                go_meet
                exact ⟨rfl, HD.out.more _⟩
              · have d2 : decide (e > k) = false := decide_eq_false g2
                clear Hgo
                go_wp2_with fail
                go_quiet (fail)
                go_wp2_with fail
                go_meet
                exact ⟨rfl, HD.out.more _⟩
            · have d1 : decide (t > k) = false := decide_eq_false g1
              clear Hgo
              go_wp2_with fail
              go_quiet (fail)
              go_wp2_with fail
              go_meet
              exact ⟨rfl, HD.out.more _⟩
          case rest =>
          obtain ⟨rfl, HDc⟩ := hcut
          clear HD Hgo
          have HTE : Hid (k = bfr l m ∧ t = bto l m ∧ e = ben l m) := by
            have h8 := Hte.out
            have h7 : bcs l m = j := by
              unfold bcs
              rw [← HK.out]
              exact HJ.out.symm
            refine ⟨HK.out, ?_, ?_⟩
            · unfold bto
              omega
            · unfold ben
              omega
          obtain ⟨A, hA⟩ : ∃ A, (if cap2 = k then a2 else Option.map (fun x => x.add k) a2) = A := ⟨_, rfl⟩
          have HS : Hid (∀ wx, Drawn w wx → Reads wx (.slice A (e - k) (cap2 - k)) (seg m k e)) := by
            intro wx hb
            have := reads_slice (HM.out wx hb) k e hke hL2
            rw [hA] at this
            exact this
          obtain ⟨S, hS⟩ : ∃ S, S = seg m k e := ⟨_, rfl⟩
          rw [← hS] at HS
          have HSeg : Hid (S = seg m k e) := hS
          have hSl : S.length ≤ 4096 := by rw [hS, seg_len m k e hL2]; omega
          clear hS HJ HK Hte
          have q1 : (k : Int) ≤ (e : Int) := by omega
          have q2 : (e : Int) ≤ (cap2 : Int) := by omega
          have HBc : Hid (Below w.heap.size w wc) := HDc.out.below
          go_wp2_with fail
          refine (spcopied_any _ S _ (HS.out _ HDc.out) (by omega)).mono ?_
          rintro e1 w5 ⟨hb5, v5, rfl, hown5⟩
          obtain ⟨a5, c5, hv5⟩ := hown5.reads.shape
          subst hv5
          have HB5 : Hid (Below w.heap.size w w5) := below_trans HBc.out hb5 HBc.out.size
          have HT5 : Hid (TextOf w5 w.heap.size none (.slice a5 S.length c5) S) := textOf_new (by show S.length * 8 ≤ _; omega) (own_of hown5) HBc.out.size (fun g hg => by cases hg)
          clear hb5 hown5 HBc HDc hA
          go_wp2_with fail
          refine (changes_any (k : Int) (t : Int) a5 S.length c5 _).mono ?_
          rintro e1 w6 ⟨rfl, hb6⟩
          have HB6 : Hid (Below w.heap.size w w6) := below_trans (HB5.out.alloc HB5.out.size _) hb6 (Nat.le_trans HB5.out.size (box_below _ _).size)
          have HT6 : Hid (TextOf w6 w.heap.size none (.slice a5 S.length c5) S) := (HT5.out.below (box_below _ _)).below hb6
          obtain ⟨_, x1, x2, x3⟩ := (boxed_new w5 (k : Int) (t : Int) (.slice a5 S.length c5)).below hb6
          clear hb6 HB5 HT5
          by_cases hlm : l = m
          · have hz : (decide ((k : Int) < (t : Int)) || decide (0 < S.length)) = false := by
              obtain ⟨g1, g2, g3⟩ := HTE.out
              have := same_chg hlm
              rw [Bool.or_eq_false_iff]
              refine ⟨decide_eq_false (by omega), decide_eq_false ?_⟩
              rw [HSeg.out, seg_len m k e hL2]
              omega
            have HR2 : Hid (R = []) := by
              show R = []
              rw [HR.out]
              unfold btw
              rw [if_pos hlm]
              rfl
            rw [hz]
            clear hz hlm
            go_wp2_with fail
            go_ret2
            exact ⟨HB6.out, _, rfl, by rw [HR2.out]; exact ownE_nil _ _⟩
          · have hz : (decide ((k : Int) < (t : Int)) || decide (0 < S.length)) = true := by
              obtain ⟨g1, g2, g3⟩ := HTE.out
              have := btw_chg hlm
              rw [← g1, ← g2, ← g3, ← HSeg.out] at this
              rw [Bool.or_eq_true]
              rcases this with h | h
              · exact .inl (decide_eq_true (by omega))
              · exact .inr (decide_eq_true h)
            have HR2 : Hid (R = [((k : Int), (t : Int), S)]) := by
              obtain ⟨g1, g2, g3⟩ := HTE.out
              show R = _
              rw [HR.out]
              unfold btw
              rw [if_neg hlm]
              unfold bsp
              rw [← g1, ← g2, ← g3, ← HSeg.out]
              rfl
            rw [hz]
            clear hz hlm
            go_wp2_with fail
            go_ret2
            exact ⟨HB6.out.alloc HB6.out.size _, _, rfl, by rw [HR2.out]; exact ownE_one _ _ _ _ HT6.out HB6.out.size⟩
theorem between_err (v1 v2 : Value) (l m : List Int) (w : World) (h1 : Reads w v1 l) (h2 : Reads w v2 m) (hx : l.length > 4096 ∨ m.length > 4096) :
    Calls Try.prog 43 #[v1, v2] w fun e w' => Below w.heap.size w w' ∧ e = .returned (.tuple #[.slice none 0 0, .int .i64 2]) := by
  obtain ⟨a1, cap1, rfl⟩ := h1.shape
  obtain ⟨a2, cap2, rfl⟩ := h2.shape
  clear h1 h2
  have hx2 : (l.length : Int) > 4096 ∨ (m.length : Int) > 4096 := by omega
  clear hx
  go_enter Try.func43, Try.ntmps43
  go_wp2_with fail
  all_goals first
    | (go_ret2; exact ⟨Below.refl _ _, rfl⟩)
    | (exfalso; omega)
end Go.Proofs.Ytpgjaoemkadenab.Seek
