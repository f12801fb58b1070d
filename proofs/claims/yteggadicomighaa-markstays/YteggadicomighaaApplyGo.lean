/- The contracts of splice.Apply and splice.copied. -/
import Derived.Test.YteggadicomighaaCheckGo
import Derived.Test.YteggadicomighaaAppends
set_option linter.unusedVariables false
set_option linter.unusedSimpArgs false
namespace Go.Proofs.Yteggadicomighaa.Seek
open Go.RowKit Plain

/-- What Apply leaves, of a right edit. -/
def ApplyPost (r : List Int) (w : World) (e : Ending) (w' : World) : Prop := Below w.heap.size w w' ∧ ∃ v, e = .returned (.tuple #[v, .int .i64 0]) ∧ OwnI w' w.heap.size v r
set_option maxHeartbeats 4000000 in
theorem apply_ok (v1 v2 : Value) (l : List Int) (ns : List Nsp) (w : World) (h1 : Reads w v1 l) (h2 : ReadsE w v2 (ups ns)) (hR : Right l ns) :
    Calls Try.prog 12 #[v1, v2] w fun e w' => ApplyPost (app l 0 ns) w e w' := by
  obtain ⟨a1, cap1, rfl⟩ := h1.shape
  obtain ⟨a2, cap2, rfl⟩ := h2.shape
  have hc1 := h1.cap_le
  have HL : Hid (∀ wx, Below w.heap.size w wx → Reads wx (.slice a1 l.length cap1) l) := fun wx hb => h1.below hb
  rw [ups_len] at h2 ⊢
  have HE : Hid (ReadsE w (.slice a2 ns.length cap2) (ups ns)) := h2
  have HE1 : Hid (∀ k, k < ns.length → ∃ b off, a2 = some ⟨b, off, none⟩ ∧ b < w.heap.size ∧ SplAt w b (off + k * 3) ((ups ns).getD k spl0)) := by
    have h3 : ReadsE w (.slice a2 (ups ns).length cap2) (ups ns) := by rw [ups_len]; exact h2
    intro k hk
    exact h3.each k (by rw [ups_len]; exact hk)
  have hcnt := hR.2.1.count
  have hll := hR.1
  have HR : Hid (Right l ns) := hR
  have HO : Hid (Okay l.length 0 ns) := hR.2.1
  have hfin := hR.2.2
  obtain ⟨F, hF⟩ : ∃ F, F = app l 0 ns := ⟨_, rfl⟩
  rw [← hF] at hfin ⊢
  have HF : Hid (F = app l 0 ns) := hF
  clear h1 h2 hR hF
  go_enter Try.func12, Try.ntmps12
  go_wp2_with fail
  refine (check_any _ _ (ups ns) w HE.out).mono ?_
  rw [HR.out.chk]
  rintro e w1 ⟨rfl, hb1⟩
  have HB1 : Hid (Below w.heap.size w w1) := hb1
  clear hb1
  go_wp2_with fail
  go_loopw [7, 8, 20] (fun u7 u8 u20 wr => ∃ (k at_ : Nat) (M : List Int), u20 = .int .i64 (k : Int) ∧ u8 = .int .i64 (at_ : Int) ∧ k ≤ ns.length ∧ at_ ≤ l.length ∧ Hid (Okay l.length at_ (ns.drop k)) ∧ Hid (F = M ++ app l at_ (ns.drop k)) ∧ Hid (OwnI wr w.heap.size u7 M) ∧ Hid (Below w.heap.size w wr))
    (fun _ _ u20 _ => ns.length - (intOf u20).toNat)
  case atStart => exact ⟨0, 0, [], rfl, rfl, Nat.zero_le _, Nat.zero_le _, HO.out, HF.out, ownI_nil _ _, HB1.out⟩
  case round =>
    obtain ⟨k, at_, M, rfl, rfl, hk, hat, Hok, HM, Hown, Hb⟩ := hrel
    have hbs := Hb.out.size
    have hMl : M.length + (app l at_ (ns.drop k)).length ≤ 4096 := by
      have := congrArg List.length HM.out
      rw [List.length_append] at this
      omega
    by_cases hlt : k < ns.length
    · obtain ⟨s, hs1, hs2, hs3⟩ := ups_at ns k hlt
      obtain ⟨b, off, hae, hbl, hsp⟩ := HE1.out k hlt
      subst hae
      have hsp2 := hsp.below Hb.out hbl
      rw [hs2] at hsp hsp2
      rw [hs1] at HM Hok hMl
      clear hs1 hs2 hs3
      obtain ⟨f, t, x⟩ := s
      obtain ⟨c0, c1, hmild, a3, cap3, c2, _⟩ := hsp2
      obtain ⟨_, _, _, a3', cap3', c2', hrx⟩ := hsp
      have hcc : wr.cell? ⟨b, off + k * 3 + 2, none⟩ = w.cell? ⟨b, off + k * 3 + 2, none⟩ := Hb.out.cell (by exact hbl)
      rw [hcc, c2'] at c2
      have hcv := Option.some.inj c2
      rw [hcv] at c2' hrx
      have c2w : wr.cell? ⟨b, off + k * 3 + 2, none⟩ = some (.slice a3 x.length cap3) := hcc.trans c2'
      clear hcc c2' c2 hcv
      simp only [up] at c0 c1 hmild hrx
      have HX : Hid (∀ wx, Below w.heap.size w wx → Reads wx (.slice a3 x.length cap3) x) := fun wx hb => Reads.below hrx hb
      clear hrx
      obtain ⟨g1, g2, g3, g4, Hok2⟩ := Hok.out
      have HOK : Hid (Okay l.length (t + 1) (ns.drop (k + 1))) := Hok2
      have HM2 : Hid (F = (M ++ seg l at_ f ++ x) ++ app l t (ns.drop (k + 1))) := by
        show F = _
        rw [HM.out]
        show M ++ (seg l at_ f ++ x ++ app l t (ns.drop (k + 1))) = _
        simp only [List.append_assoc]
      have hlenM : (seg l at_ f).length = f - at_ := seg_len l at_ f (by simp only at g2 g3; omega)
      have hM2 : M.length + (seg l at_ f).length + x.length ≤ 4096 := by
        have := congrArg List.length HM2.out
        rw [List.length_append, List.length_append, List.length_append] at this
        omega
      clear hMl HM Hok Hok2
      simp only at g1 g2 g3
      clear g4
      obtain ⟨A, hA⟩ : ∃ A, (if cap1 = at_ then a1 else Option.map (fun x => x.add at_) a1) = A := ⟨_, rfl⟩
      have HS : Hid (∀ wx, Below w.heap.size w wx → Reads wx (.slice A (f - at_) (cap1 - at_)) (seg l at_ f)) := by
        intro wx hb
        have := reads_slice (HL.out wx hb) at_ f g1 (by omega)
        rw [hA] at this
        exact this
      obtain ⟨S, hS⟩ : ∃ S, S = seg l at_ f := ⟨_, rfl⟩
      rw [← hS] at HS hM2 HM2
      clear hS hlenM
      have q1 : (at_ : Int) ≤ (f : Int) := by omega
      have q2 : (f : Int) ≤ (cap1 : Int) := by omega
      have Hbox : Hid (Boxed (wr.alloc (.cells #[.int .i64 (f : Int), .int .i64 (t : Int), .slice a3 x.length cap3] 37)) wr.heap.size f t (.slice a3 x.length cap3)) := boxed_new _ _ _ _
      have HbA : Hid (Below w.heap.size w (wr.alloc (.cells #[.int .i64 (f : Int), .int .i64 (t : Int), .slice a3 x.length cap3] 37))) := Hb.out.alloc hbs _
      obtain ⟨M2, hM2e⟩ : ∃ M2, M2 = M ++ S := ⟨_, rfl⟩
      have HM2e : Hid (M2 = M ++ S) := hM2e
      have hM2l : M2.length = M.length + S.length := by rw [hM2e, List.length_append]
      obtain ⟨M3, hM3e⟩ : ∃ M3, M3 = M2 ++ x := ⟨_, rfl⟩
      have HM3e : Hid (M3 = M2 ++ x) := hM3e
      rw [← hM2e, ← hM3e] at HM2
      clear hM2e hM3e
      go_wp2_with (at_builtin; refine append_any rfl _ _ rfl w.heap.size u7 _ M S M2 HM2e.out rfl (Hown.out.alloc _) rfl (HS.out _ HbA.out) (by omega) (by rw [size_alloc]; omega) ?_)
      intro v2 w2 ho2 hg2 hat2
      have hu7 : u7.ownBlock ≠ some wr.heap.size := fun h => by have := (Hown.out.lt _ h).2; omega
      have HB2 : Hid (Below w.heap.size w w2) := HbA.out.grown hg2 (by rw [size_alloc]; omega) (fun j hj => (Hown.out.lt j hj).1)
      have Ho2 : Hid (OwnI w2 w.heap.size v2 M2) := ho2
      have HX2 : Hid (Boxed w2 wr.heap.size f t (.slice a3 x.length cap3)) := Hbox.out.grown hg2 hu7
      have Hne2 : Hid (v2.ownBlock ≠ some wr.heap.size) := by
        rcases hat2 with h | h
        · rw [h]; exact hu7
        · show v2.ownBlock ≠ _
          rw [h]
          intro h
          have := Option.some.inj h
          omega
      obtain ⟨_, x1, x2, x3⟩ := HX2.out
      clear ho2 hg2 hat2 hu7 Hbox HbA Hown c0 c1 c2w HS hA
      go_wp2_with (at_builtin; refine append_any rfl _ _ rfl w.heap.size v2 _ M2 x M3 HM3e.out rfl Ho2.out rfl (HX.out _ HB2.out) (by omega) HB2.out.size ?_)
      intro v3 w3 ho3 hg3 _
      have HB3 : Hid (Below w.heap.size w w3) := HB2.out.grown hg3 HB2.out.size (fun j hj => (Ho2.out.lt j hj).1)
      have Ho3 : Hid (OwnI w3 w.heap.size v3 M3) := ho3
      obtain ⟨_, y1, y2, y3⟩ := HX2.out.grown hg3 Hne2.out
      clear ho3 hg3 HX2 Ho2 HB2 Hne2 x1 x2 x3
      go_wp2_with fail
      go_roundw
      case rel => exact ⟨k + 1, t, M3, by go_num, rfl, by omega, by omega, HOK.out.less (by omega), HM2.out, Ho3.out, HB3.out⟩
      case measure => simp [intOf]; omega
    · obtain rfl : k = ns.length := by omega
      rw [List.drop_length] at HM hMl
      have HM2 : Hid (F = M ++ seg l at_ l.length) := by
        show F = _
        rw [HM.out]
        show M ++ l.drop at_ = _
        unfold seg
        rw [List.take_of_length_le (by rw [List.length_drop]; omega)]
      have hM2 : M.length + (seg l at_ l.length).length ≤ 4096 := by
        have := congrArg List.length HM2.out
        rw [List.length_append] at this
        omega
      obtain ⟨A, hA⟩ : ∃ A, (if cap1 = at_ then a1 else Option.map (fun x => x.add at_) a1) = A := ⟨_, rfl⟩
      have HS : Hid (Reads wr (.slice A (l.length - at_) (cap1 - at_)) (seg l at_ l.length)) := by
        have := reads_slice (HL.out wr Hb.out) at_ l.length hat (Nat.le_refl _)
        rw [hA] at this
        exact this
      obtain ⟨S, hS⟩ : ∃ S, S = seg l at_ l.length := ⟨_, rfl⟩
      rw [← hS] at HS hM2 HM2
      clear hS HM hMl Hok
      have q1 : (at_ : Int) ≤ (l.length : Int) := by omega
      go_wp2_with (at_builtin; refine append_any rfl _ _ rfl w.heap.size u7 _ M S F HM2.out rfl Hown.out rfl HS.out (by omega) hbs ?_)
      intro v2 w2 ho2 hg2 _
      have HB2 : Hid (Below w.heap.size w w2) := Hb.out.grown hg2 hbs (fun j hj => (Hown.out.lt j hj).1)
      have Ho2 : Hid (OwnI w2 w.heap.size v2 F) := ho2
      clear ho2 hg2 HM2
      go_wp2_with fail
      go_ret2
      exact ⟨HB2.out, _, rfl, Ho2.out⟩

/-- What Apply and Undo leave, of a wrong edit. -/
def ErrPost (c : Int) (w : World) (e : Ending) (w' : World) : Prop := Below w.heap.size w w' ∧ e = .returned (.tuple #[.slice none 0 0, .int .i64 c])
theorem apply_err (v1 v2 : Value) (l : List Int) (es : List Spl) (w : World) (h1 : Reads w v1 l) (h2 : ReadsE w v2 es) (hc : chk (l.length : Int) es ≠ 0) :
    Calls Try.prog 12 #[v1, v2] w fun e w' => ErrPost (chk (l.length : Int) es) w e w' := by
  obtain ⟨a1, cap1, rfl⟩ := h1.shape
  obtain ⟨c, hC⟩ : ∃ c, c = chk (l.length : Int) es := ⟨_, rfl⟩
  rw [← hC] at hc ⊢
  have HC : Hid (c = chk (l.length : Int) es) := hC
  have H2 : Hid (ReadsE w v2 es) := h2
  have hcb : (c != 0) = true := by simpa using hc
  clear h1 h2 hC hc
  go_enter Try.func12, Try.ntmps12
  go_wp2_with fail
  refine (check_any _ _ es w H2.out).mono ?_
  rw [← HC.out]
  rintro e w1 ⟨rfl, hb1⟩
  go_wp2_with fail
  go_ret2
  exact ⟨hb1, rfl⟩
end Go.Proofs.Yteggadicomighaa.Seek
