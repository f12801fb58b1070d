/- The contract of splice.Undo. -/
import Derived.Test.YteggadicomighaaApplyGo
import Derived.Test.YteggadicomighaaBetwMem
import Derived.Deep.RegionLaw
import Derived.Deep.RegionWith
set_option linter.unusedVariables false
set_option linter.unusedSimpArgs false
namespace Go.Proofs.Yteggadicomighaa.Seek
open Go.RowKit Plain

/-- What Undo leaves, of a right edit. -/
def UndoPost (r : List Spl) (w : World) (e : Ending) (w' : World) : Prop := Below w.heap.size w w' ∧ ∃ v, e = .returned (.tuple #[v, .int .i64 0]) ∧ OwnE w' w.heap.size v r
set_option maxRecDepth 100000 in
set_option maxHeartbeats 4000000 in
theorem undo_ok (v1 v2 : Value) (l : List Int) (ns : List Nsp) (w : World) (h1 : Reads w v1 l) (h2 : ReadsE w v2 (ups ns)) (hR : Right l ns) :
    Calls Try.prog 17 #[v1, v2] w fun e w' => UndoPost (ups (und l 0 0 ns)) w e w' := by
  obtain ⟨a1, cap1, rfl⟩ := h1.shape
  obtain ⟨a2, cap2, rfl⟩ := h2.shape
  have hc1 := h1.cap_le
  have HL : Hid (∀ wx, Below w.heap.size w wx → Reads wx (.slice a1 l.length cap1) l) := fun wx hb => h1.below hb
  rw [ups_len] at h2 ⊢
  have HE : Hid (ReadsE w (.slice a2 ns.length cap2) (ups ns)) := h2
  have HE1 : Hid (∀ k, k < ns.length → ∃ b off, a2 = some ⟨b, off, none⟩ ∧ b < w.heap.size ∧ SplAt w b (off + k * 3) ((ups ns).getD k spl0)) := by
    have h3 : ReadsE w (.slice a2 (ups ns).length cap2) (ups ns) := by rw [ups_len]; exact h2
    intro k hk
    exact h3.each k (by rw [ups_len]; exact hk)
  have hcnt := hR.2.1.count
  have hll := hR.1
  have HR : Hid (Right l ns) := hR
  have HO : Hid (Okay l.length 0 ns) := hR.2.1
  have hfin : 0 + (app l 0 (ns.drop 0)).length ≤ 4096 := by rw [Nat.zero_add]; exact hR.2.2
  obtain ⟨F, hF⟩ : ∃ F, F = ups (und l 0 0 ns) := ⟨_, rfl⟩
  rw [← hF]
  have HF : Hid (F = ups [] ++ ups (und l 0 0 (ns.drop 0))) := hF
  clear h1 h2 hR hF
  go_enter Try.func17, Try.ntmps17
  go_wp2_with fail
  refine (check_any _ _ (ups ns) w HE.out).mono ?_
  rw [HR.out.chk]
  rintro e w1 ⟨rfl, hb1⟩
  have HB1 : Hid (Below w.heap.size w w1) := hb1
  clear hb1
  go_wp2_with fail
  go_loopw [7, 8, 21] (fun u7 u8 u21 wr => ∃ (k a m : Nat) (D : List Nsp), u21 = .int .i64 (k : Int) ∧ u8 = .int .i64 ((m : Int) - (a : Int)) ∧ k ≤ ns.length ∧ a ≤ l.length ∧ Hid (m + (app l a (ns.drop k)).length ≤ 4096) ∧ Hid (Okay l.length a (ns.drop k)) ∧ Hid (D.length = k) ∧ Hid (F = ups D ++ ups (und l a m (ns.drop k))) ∧ Hid (OwnE wr w.heap.size u7 (ups D)) ∧ Hid (Below w.heap.size w wr))
    (fun _ _ u21 _ => ns.length - (intOf u21).toNat)
  case atStart => exact ⟨0, 0, 0, [], rfl, rfl, Nat.zero_le _, Nat.zero_le _, hfin, HO.out, rfl, HF.out, ownE_nil _ _, HB1.out⟩
  case round =>
    obtain ⟨k, a, m, D, rfl, rfl, hk, hat, Hm, Hok, HD, HM, Hown, Hb⟩ := hrel
    have hbs := Hb.out.size
    by_cases hlt : k < ns.length
    · obtain ⟨s, hs1, hs2, hs3⟩ := ups_at ns k hlt
      obtain ⟨b, off, hae, hbl, hsp⟩ := HE1.out k hlt
      subst hae
      have hsp2 := hsp.below Hb.out hbl
      rw [hs2] at hsp2
      rw [hs1] at HM Hok Hm
      clear hs1 hs2 hs3 hsp
      obtain ⟨f, t, x⟩ := s
      obtain ⟨c0, c1, hmild, a3, cap3, c2, _⟩ := hsp2
      simp only [up] at c0 c1 hmild c2
      obtain ⟨g1, g2, g3, g4, Hok2⟩ := Hok.out
      have HOK : Hid (Okay l.length (t + 1) (ns.drop (k + 1))) := Hok2
      simp only at g1 g2 g3
      clear g4
      obtain ⟨G, hG⟩ : ∃ G, G = m + (f - a) := ⟨_, rfl⟩
      have HM2 : Hid (F = ups (D ++ [(G, G + x.length, seg l f t)]) ++ ups (und l t (G + x.length) (ns.drop (k + 1)))) := by
        show F = _
        rw [HM.out, hG, ups_append]
        show ups D ++ ups ((m + (f - a), m + (f - a) + x.length, seg l f t) :: und l t (m + (f - a) + x.length) (ns.drop (k + 1))) = _
        rw [List.append_assoc]
        rfl
      have hlenS : (seg l f t).length = t - f := seg_len l f t g3
      have hm2 : G + x.length + (app l t (ns.drop (k + 1))).length ≤ 4096 := by
        have h3 := Hm.out
        have h4 : (app l a ((f, t, x) :: ns.drop (k + 1))).length = (f - a) + x.length + (app l t (ns.drop (k + 1))).length := by
          show (seg l a f ++ x ++ app l t (ns.drop (k + 1))).length = _
          rw [List.length_append, List.length_append, seg_len l a f (by omega)]
        rw [h4] at h3
        omega
      have HGm : Hid (G + x.length + (app l t (ns.drop (k + 1))).length ≤ 4096) := hm2
      have hGI : (f : Int) + ((m : Int) - (a : Int)) = (G : Int) := by omega
      have HGI : Hid ((m : Int) - (a : Int) + ((x.length : Int) - ((t : Int) - (f : Int))) = ((G + x.length : Nat) : Int) - (t : Int)) := by
        show _ = _
        omega
      have hGb : G + x.length ≤ 4096 := by omega
      have hmb : m ≤ 4096 := by have := Hm.out; omega
      clear hm2 Hm HM Hok Hok2 hG
      have hDl : (ups D).length ≤ 1000000 := by rw [ups_len, HD.out]; omega
      obtain ⟨A, hA⟩ : ∃ A, (if cap1 = f then a1 else Option.map (fun x => x.add f) a1) = A := ⟨_, rfl⟩
      have HS : Hid (∀ wx, Below w.heap.size w wx → Reads wx (.slice A (t - f) (cap1 - f)) (seg l f t)) := by
        intro wx hb
        have := reads_slice (HL.out wx hb) f t g2 g3
        rw [hA] at this
        exact this
      obtain ⟨S, hS⟩ : ∃ S, S = seg l f t := ⟨_, rfl⟩
      rw [← hS] at HS HM2 hlenS
      clear hS
      have hS8 : S.length * 8 ≤ 140737488355328 := by omega
      have HSm : Hid (Mild S) := by show S.length * 8 ≤ _; omega
      have HE2 : Hid (ups (D ++ [(G, G + x.length, S)]) = ups D ++ [((G : Int), ((G : Int) + (x.length : Int)), S)]) := by
        show _ = _
        rw [ups_append]
        show ups D ++ [((G : Int), ((G + x.length : Nat) : Int), S)] = _
        rw [Int.natCast_add]
      clear hlenS
      have q1 : (f : Int) ≤ (t : Int) := by omega
      have q2 : (t : Int) ≤ (cap1 : Int) := by omega
      have Hbox : Hid (Boxed (wr.alloc (.cells #[.int .i64 (f : Int), .int .i64 (t : Int), .slice a3 x.length cap3] 37)) wr.heap.size f t (.slice a3 x.length cap3)) := boxed_new _ _ _ _
      have HbA : Hid (Below w.heap.size w (wr.alloc (.cells #[.int .i64 (f : Int), .int .i64 (t : Int), .slice a3 x.length cap3] 37))) := Hb.out.alloc hbs _
      have HoA : Hid (OwnE (wr.alloc (.cells #[.int .i64 (f : Int), .int .i64 (t : Int), .slice a3 x.length cap3] 37)) w.heap.size u7 (ups D)) := Hown.out.alloc _
      have hW1 : IntKind.i64.wrap ((G : Int) + (x.length : Int)) = (G : Int) + (x.length : Int) := IntWalk.i64_in _ ⟨by omega, by omega⟩
      go_wp2_with fail
      obtain ⟨W, hW⟩ : ∃ W, W = wr.alloc (.cells #[.int .i64 (f : Int), .int .i64 (t : Int), .slice a3 x.length cap3] 37) := ⟨_, rfl⟩
      have hBW : wr.heap.size < W.heap.size := by rw [hW, size_alloc]; omega
      obtain ⟨bw, hbw⟩ : ∃ bw, bw = wr.heap.size := ⟨_, rfl⟩
      have hu7 : ∀ g, u7.ownBlock = some g → g < bw := fun g hg => by rw [hbw]; exact (Hown.out.lt g hg).2
      rw [← hW] at Hbox HbA HoA ⊢
      rw [← hbw] at Hbox hBW ⊢
      clear hW hbw c0 c1 c2 Hown Hb
      obtain ⟨_, x1, x2, x3⟩ := Hbox.out
      have HSZ : Hid (w.heap.size ≤ W.heap.size) := HbA.out.size
      go_region_law (first
        | (refine step_spl rfl (.tmp 29) (.tmp 44) rfl w.heap.size u7 (ups D) w5.heap.size 1 (G : Int) ((G : Int) + (x.length : Int)) (.slice a5 S.length c5) S (ups (D ++ [(G, G + x.length, S)])) HE2.out (by simp [Act.eval, Act.put]) (hoE5.alloc _) (by simp [Act.eval, Act.put]) (boxed_new _ _ _ _) (hT5.below (box_below _ _)) hDl (Nat.le_trans hB5.size (box_below _ _).size) ?_; intro v6 w6 ho6 hg6 hat6)
        | (go_simp; go_wp2_with (go_at_call 24; refine (copied_any _ S _ (HS.out _ (below_drewN HbA.out 1)) hS8).mono ?_; rintro e w5 ⟨hb5, v5, rfl, hown5⟩; obtain ⟨a5, c5, hv5⟩ := hown5.reads.shape; subst hv5; have hB5 : Below w.heap.size w w5 := below_trans (below_drewN HbA.out 1) hb5 HSZ.out; have hoE5 : OwnE w5 w.heap.size u7 (ups D) := (HoA.out.below (below_drewN (Below.refl _ _) 1)).below hb5; have hT5 : TextOf w5 w.heap.size u7.ownBlock (.slice a5 S.length c5) S := textOf_new HSm.out (own_of hown5) HSZ.out (fun g hg => Nat.lt_trans (hu7 g hg) hBW); have hX5 : Boxed w5 bw f t (.slice a3 x.length cap3) := (Boxed.drew Hbox.out).below hb5; obtain ⟨_, k1, k2, k3⟩ := hX5)))
      all_goals (
        have HB6 : Hid (Below w.heap.size w w6) := (hB5.alloc hB5.size _).grown hg6 (Nat.le_trans hB5.size (box_below _ _).size) (fun j hj => (hoE5.lt j hj).1)
        have Ho6 : Hid (OwnE w6 w.heap.size v6 (ups (D ++ [(G, G + x.length, S)]))) := ho6
        have hX5 : Boxed w5 bw f t (.slice a3 x.length cap3) := (Boxed.drew Hbox.out).below hb5
        have HX6 : Hid (Boxed w6 bw f t (.slice a3 x.length cap3)) := (hX5.below (box_below _ _)).grown hg6 (fun h => Nat.lt_irrefl _ (hu7 _ h))
        obtain ⟨_, z1, z2, z3⟩ := HX6.out
        clear ho6 hg6 hat6 hB5 hoE5 hT5 hX5 hb5 hown5 HoA HbA HSZ x1 x2 x3 k1 k2 k3 Hbox hA HS hW1
        go_simp
        go_wp2_with fail
        refine (growth_any (f : Int) (t : Int) a3 x.length cap3 _ (by omega) (by omega) hmild).mono ?_
        rintro e w7 ⟨rfl, hb7⟩
        have HB7 : Hid (Below w.heap.size w w7) := below_trans HB6.out hb7 HB6.out.size
        have Ho7 : Hid (OwnE w7 w.heap.size v6 (ups (D ++ [(G, G + x.length, S)]))) := Ho6.out.below hb7
        have hr1 : -4096 ≤ (m : Int) - (a : Int) := by omega
        have hr2 : (m : Int) - (a : Int) ≤ 4096 := by omega
        clear HB6 Ho6 HX6 hb7 z1 z2 z3
        go_wp2_with fail
        go_roundw
        case rel => exact ⟨k + 1, t, G + x.length, D ++ [(G, G + x.length, S)], by go_num, by rw [← HGI.out], by omega, g3, HGm.out, HOK.out.less (by omega), by show _ = _; rw [List.length_append, HD.out]; rfl, HM2.out, Ho7.out, HB7.out⟩
        case measure => simp [intOf]; omega)
    · obtain rfl : k = ns.length := by omega
      rw [List.drop_length] at HM
      have HM2 : Hid (F = ups D) := by
        show F = _
        rw [HM.out]
        exact List.append_nil _
      have Ho : Hid (OwnE wr w.heap.size u7 F) := by rw [HM2.out]; exact Hown.out
      clear HM HM2 Hown
      go_wp2_with fail
      go_ret2
      exact ⟨Hb.out, _, rfl, Ho.out⟩
theorem undo_err (v1 v2 : Value) (l : List Int) (es : List Spl) (w : World) (h1 : Reads w v1 l) (h2 : ReadsE w v2 es) (hc : chk (l.length : Int) es ≠ 0) :
    Calls Try.prog 17 #[v1, v2] w fun e w' => ErrPost (chk (l.length : Int) es) w e w' := by
  obtain ⟨a1, cap1, rfl⟩ := h1.shape
  obtain ⟨c, hC⟩ : ∃ c, c = chk (l.length : Int) es := ⟨_, rfl⟩
  rw [← hC] at hc ⊢
  have HC : Hid (c = chk (l.length : Int) es) := hC
  have H2 : Hid (ReadsE w v2 es) := h2
  have hcb : (c != 0) = true := by simpa using hc
  clear h1 h2 hC hc
  go_enter Try.func17, Try.ntmps17
  go_wp2_with fail
  refine (check_any _ _ es w H2.out).mono ?_
  rw [← HC.out]
  rintro e w1 ⟨rfl, hb1⟩
  go_wp2_with fail
  go_ret2
  exact ⟨hb1, rfl⟩
end Go.Proofs.Yteggadicomighaa.Seek
