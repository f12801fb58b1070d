/- The contract of the document's folded. -/
import Derived.Test.YtpgecholpbpakaaFold
import Derived.Deep.RegionLaw
set_option linter.unusedVariables false
set_option linter.unusedSimpArgs false
namespace Go.Proofs.Ytpgecholpbpakaa.Seek
open Go.RowKit Plain

/-- A sign in a variable. -/
def Box2 (w : World) (b : Nat) (h c : Int) : Prop := b < w.heap.size ∧ w.cell? ⟨b, 0, none⟩ = some (.int .i64 h) ∧ w.cell? ⟨b, 1, none⟩ = some (.int .i64 c)
theorem Box2.below {w w' : World} {b : Nat} {h c : Int} (hx : Box2 w b h c) (hb : Below w.heap.size w w') : Box2 w' b h c := ⟨Nat.lt_of_lt_of_le hx.1 hb.size, (hb.cell hx.1).trans hx.2.1, (hb.cell hx.1).trans hx.2.2⟩
theorem Box2.grown {w w' : World} {b : Nat} {h c : Int} {row : Option Nat} (hx : Box2 w b h c) (hg : w.grownBy w' row) (hne : row ≠ some b) : Box2 w' b h c := by
  have hb := hg.block b hx.1 (Ne.symm hne)
  exact ⟨Nat.lt_of_lt_of_le hx.1 hg.size, (World.cell?_of_block (by exact hb)).trans hx.2.1, (World.cell?_of_block (by exact hb)).trans hx.2.2⟩
theorem Box2.set {w : World} {b : Nat} {h c : Int} (hx : Box2 w b h c) {q : Addr} (hq : b ≠ q.block) (u : Value) : Box2 (w.setCell q u) b h c := by
  have hb : (w.setCell q u).heap[b]? = w.heap[b]? := blk_other _ _ _ _ hq
  exact ⟨by rw [size_set]; exact hx.1, (World.cell?_of_block (by exact hb)).trans hx.2.1, (World.cell?_of_block (by exact hb)).trans hx.2.2⟩
theorem box2_new (w : World) (h c : Int) : Box2 (w.alloc (.cells #[.int .i64 h, .int .i64 c] 63)) w.heap.size h c := by
  refine ⟨by rw [size_alloc]; omega, ?_, ?_⟩ <;>
  · unfold World.cell?
    simp only
    rw [blk_new]
    rfl
theorem cell_new1 (w : World) (c : Int) : (w.alloc (.cells #[.int .i64 c] 3)).cell? ⟨w.heap.size, 0, none⟩ = some (.int .i64 c) := by
  unfold World.cell?
  simp only
  rw [blk_new]
  rfl
/-- What folded has come to. -/
def Flat (w : World) (B : Nat) (v : Value) (R : List Nsp) (D : List Nsp) (p : Nat) (L : List Sgn) : Prop := OwnE w B v (ups D) ∧ D ++ gat (p, p, []) L = R
def Grows (w : World) (B g c : Nat) (R : List Nsp) (D : List Nsp) (p : Nat) (f : Nat) (x : List Int) (L : List Sgn) : Prop := Grow w B g c D f p x ∧ D ++ gat (f, p, x) L = R ∧ chgN (f, p, x) = true
theorem flush_chg {s : Nsp} (h : chgN s = true) : flush s = [s] := by unfold flush; rw [if_pos h]
theorem getD_drop (L : List Sgn) (k : Nat) (h : k < L.length) : L.drop k = L.getD k (0, 0) :: L.drop (k + 1) := by
  rw [List.drop_eq_getElem_cons h, List.getD_eq_getElem?_getD, List.getElem?_eq_getElem h]
  rfl
set_option maxRecDepth 100000 in
set_option maxHeartbeats 8000000 in
theorem folded_any (v : Value) (L : List Sgn) (w : World) (h : ReadsS w v L) (hl : L.length ≤ 50000) (h012 : ∀ x ∈ L, x.1 = 0 ∨ x.1 = 1 ∨ x.1 = 2) :
    Calls Try.prog 33 #[v] w fun e w' => Below w.heap.size w w' ∧ ∃ v', e = .returned v' ∧ OwnE w' w.heap.size v' (ups (gat (0, 0, []) L)) := by
  obtain ⟨a1, cap1, rfl⟩ := h.shape
  have HL : Hid (∀ k, k < L.length → ∃ b, a1 = some ⟨b, 0, none⟩ ∧ b < w.heap.size ∧ w.cell? ⟨b, k * 2, none⟩ = some (.int .i64 (L.getD k (0, 0)).1) ∧ w.cell? ⟨b, k * 2 + 1, none⟩ = some (.int .i64 (L.getD k (0, 0)).2)) := by
    intro k hk
    rcases h with ⟨_, _, _, rfl⟩ | ⟨g, cap, hv, hlt, hc⟩
    · cases hk
    · cases hv
      obtain ⟨e1, e2⟩ := sgCells_at L k hk
      exact ⟨g, rfl, hlt, (hc _ (by omega)).trans e1, (hc _ (by omega)).trans e2⟩
  have H012 : Hid (∀ k, k < L.length → (L.getD k (0, 0)).1 = 0 ∨ (L.getD k (0, 0)).1 = 1 ∨ (L.getD k (0, 0)).1 = 2) := by
    intro k hk
    have hm : L.getD k (0, 0) ∈ L := by
      rw [List.getD_eq_getElem?_getD, List.getElem?_eq_getElem hk]
      exact List.getElem_mem hk
    exact h012 _ hm
  obtain ⟨R, hR⟩ : ∃ R, R = gat (0, 0, []) L := ⟨_, rfl⟩
  rw [← hR]
  have HR : Hid (gat (0, 0, []) L = R) := hR.symm
  obtain ⟨B, hB⟩ : ∃ B, B = w.heap.size := ⟨_, rfl⟩
  have HBe : Hid (B = w.heap.size) := hB
  clear h h012 hR hB
  go_enter Try.func33, Try.ntmps33
  go_wp2_with fail
  go_loopw [3, 4, 5, 10] (fun u3 u4 u5 u10 wr => ∃ (k q : Nat) (D : List Nsp), u10 = .int .i64 (k : Int) ∧ u4 = .int .i64 (q : Int) ∧ k ≤ L.length ∧ q ≤ k ∧ D.length ≤ k ∧ Hid (Below w.heap.size w wr) ∧
      ((u5 = .int .i64 0 ∧ Hid (Flat wr B u3 R D q (L.drop k))) ∨ (∃ (f g cc : Nat) (x : List Int) (hw : Int), u5 = .int .i64 hw ∧ u3 = .slice (some ⟨g, 0, none⟩) (D.length + 1) cc ∧ (hw == 0) = false ∧ x.length ≤ k ∧ D.length + 1 ≤ k ∧ Hid (Grows wr B g cc R D q f x (L.drop k)))))
    (fun _ _ _ u10 _ => L.length - (intOf u10).toNat)
  case atStart => exact ⟨0, 0, [], rfl, rfl, Nat.zero_le _, Nat.le_refl _, Nat.le_refl _, Below.refl _ _, .inl ⟨rfl, ownE_nil _ _, HR.out⟩⟩
  case round =>
    obtain ⟨k, q, D, rfl, rfl, hk, hqk, hDk, Hb, hst⟩ := hrel
    have hbs := Hb.out.size
    have hBs : B ≤ wr.heap.size := by rw [HBe.out]; exact hbs
    by_cases hlt : k < L.length
    · obtain ⟨b, hae, hbl, c0, c1⟩ := HL.out k hlt
      subst hae
      have h3 := H012.out k hlt
      have d0 : wr.cell? ⟨b, k * 2, none⟩ = some (.int .i64 (L.getD k (0, 0)).1) := (Hb.out.cell (by exact hbl)).trans c0
      have d1 : wr.cell? ⟨b, k * 2 + 1, none⟩ = some (.int .i64 (L.getD k (0, 0)).2) := (Hb.out.cell (by exact hbl)).trans c1
      have hdr := getD_drop L k hlt
      rw [hdr] at hst
      have hI : (k : Int) < (L.length : Int) := by omega
      obtain ⟨sg, hsg⟩ : ∃ sg, sg = L.getD k (0, 0) := ⟨_, rfl⟩
      rw [← hsg] at d0 d1 h3 hst
      clear hsg hdr c0 c1
      obtain ⟨hw, c⟩ := sg
      simp only at d0 d1 h3
      have Hbox : Hid (Box2 (wr.alloc (.cells #[.int .i64 hw, .int .i64 c] 63)) wr.heap.size hw c) := box2_new _ _ _
      have HbA : Hid (Below w.heap.size w (wr.alloc (.cells #[.int .i64 hw, .int .i64 c] 63))) := Hb.out.alloc hbs _
      rcases h3 with rfl | rfl | rfl
      · rcases hst with ⟨rfl, HF⟩ | ⟨f, g, cc, x, w0, rfl, rfl, hw0, hxk, hDk2, HG⟩
        · have HF2 : Hid (Flat (wr.alloc (.cells #[.int .i64 0, .int .i64 c] 63)) B u3 R D (q + 1) (L.drop (k + 1))) := by
            obtain ⟨h1, h2⟩ := HF.out
            refine ⟨h1.below (box_below _ _), ?_⟩
            rw [← h2]
            show _ = D ++ gat (q, q, []) ((0, c) :: L.drop (k + 1))
            show _ = D ++ (if (0 : Int) = 0 then (if chgN (q, q, []) = true then _ else gat (q + 1, q + 1, []) (L.drop (k + 1))) else _)
            rw [if_pos rfl, if_neg (by unfold chgN; simp)]
          clear HF
          go_wp2_with fail
          go_roundw
          case rel => exact ⟨k + 1, q + 1, D, by go_num, by go_num, by omega, by omega, by omega, HbA.out, .inl ⟨rfl, HF2.out⟩⟩
          case measure => simp [intOf] <;> omega
        · have HF2 : Hid (Flat (wr.alloc (.cells #[.int .i64 0, .int .i64 c] 63)) B (.slice (some ⟨g, 0, none⟩) (D.length + 1) cc) R (D ++ [(f, q, x)]) (q + 1) (L.drop (k + 1))) := by
            obtain ⟨h1, h2, h3⟩ := HG.out
            refine ⟨(h1.own (by omega)).below (box_below _ _), ?_⟩
            rw [← h2]
            show _ = D ++ (if (0 : Int) = 0 then (if chgN (f, q, x) = true then (f, q, x) :: gat (q + 1, q + 1, []) (L.drop (k + 1)) else _) else _)
            rw [if_pos rfl, if_pos h3, List.append_assoc]
            rfl
          clear HG
          go_wp2_with fail
          go_roundw
          case rel => exact ⟨k + 1, q + 1, D ++ [(f, q, x)], by go_num, by go_num, by omega, by omega, by rw [List.length_append]; simp; omega, HbA.out, .inl ⟨rfl, HF2.out⟩⟩
          case measure => simp [intOf] <;> omega
      · rcases hst with ⟨rfl, HF⟩ | ⟨f, g, cc, x, w0, rfl, rfl, hw0, hxk, hDk2, HG⟩
        · have EQ : Hid (D ++ gat (q, q + 1, []) (L.drop (k + 1)) = R) := HF.out.2
          have CH : Hid (chgN (q, q + 1, []) = true) := by show _ = _; unfold chgN; simp
          obtain ⟨h1, h2⟩ := HF.out
          have HO : Hid (OwnE wr B u3 (ups D)) := h1
          have hu3 : ∀ g, u3.ownBlock = some g → g < wr.heap.size := fun g hg => (h1.lt g hg).2
          clear h1 h2 HF
          have HBq : Hid (Boxed ((wr.alloc (.cells #[.int .i64 1, .int .i64 c] 63)).alloc (.cells #[.int .i64 (q : Int), .int .i64 (q : Int), .slice none 0 0] 41)) (wr.heap.size + 1) (q : Int) (q : Int) (.slice none 0 0)) := by
            have := boxed_new (wr.alloc (.cells #[.int .i64 1, .int .i64 c] 63)) (q : Int) (q : Int) (.slice none 0 0)
            rw [size_alloc] at this
            exact this
          go_wp2_with (at_builtin; refine append_new rfl _ _ rfl B u3 D q (wr.heap.size + 1) rfl ((HO.out.below (box_below _ _)).below (box_below _ _)) rfl HBq.out (by omega) (by rw [size_alloc, size_alloc]; omega) ?_)
          intro g cc vs w3 hgx hloc hg3
          have GX0 : Hid (GrowX w3 B g cc D q q [] vs none 0 w3.heap.size) := hgx
          have BB : Hid (Below w.heap.size w w3) := (HbA.out.alloc HbA.out.size _).grown hg3 (Nat.le_trans HbA.out.size (box_below _ _).size) (fun g hg => by have := (HO.out.lt g hg).1; rw [← HBe.out]; exact this)
          obtain ⟨bw, hbw⟩ : ∃ bw, bw = wr.heap.size := ⟨_, rfl⟩
          have BX : Hid (Box2 w3 bw 1 c) := by rw [hbw]; exact (Hbox.out.below (box_below _ _)).grown hg3 (fun h => Nat.lt_irrefl _ (hu3 _ h))
          have hne9 : bw ≠ g := by
            rcases hloc with h | h
            · have := hu3 g h.symm
              omega
            · omega
          rw [← hbw]
          clear hgx hloc hg3 hbw hu3 HO HBq Hbox HbA Hb hbs hBs d0 d1
          have GR : Hid (Grow w3 B g cc D q q []) := ⟨vs, none, 0, _, GX0.out⟩
          clear GX0
          obtain ⟨vs9, aa, cp, KK, hgx⟩ := GR.out
          obtain ⟨e1, _, e3⟩ := hgx.cells
          have hBg := GR.out.lt.1
          have fz := e3 (D.length * 3 + 1)
          have HG2 : Hid (Grow (w3.setCell ⟨g, D.length * 3 + 1, none⟩ (.int .i64 ((q : Int) + 1))) B g cc D q (q + 1) []) := by
            have := GR.out.setTo (q + 1)
            rw [show ((q + 1 : Nat) : Int) = (q : Int) + 1 by omega] at this
            exact this
          have HB2 : Hid (Below w.heap.size w (w3.setCell ⟨g, D.length * 3 + 1, none⟩ (.int .i64 ((q : Int) + 1)))) := BB.out.setCell (by rw [← HBe.out]; exact hBg) _
          obtain ⟨_, y0, y1⟩ := BX.out
          obtain ⟨_, z0, z1⟩ := BX.out.set (q := ⟨g, D.length * 3 + 1, none⟩) (by exact hne9) (.int .i64 ((q : Int) + 1))
          have HGR : Hid (Grows (w3.setCell ⟨g, D.length * 3 + 1, none⟩ (.int .i64 ((q : Int) + 1))) B g cc R D (q + 1) q [] (L.drop (k + 1))) := ⟨HG2.out, EQ.out, CH.out⟩
          have ml : (D.length : Int) ≤ 100000 := by omega
          clear HG2 e3 GR BX BB EQ CH hgx
          obtain ⟨m, hm⟩ : ∃ m, m = D.length := ⟨_, rfl⟩
          rw [← hm] at e1 fz HB2 z0 z1 HGR ml ⊢
          have Hm : Hid (m = D.length) := hm
          have hmk : m + 1 ≤ k + 1 := by omega
          clear hm
          go_wp2_with fail
          go_roundw
          case rel => exact ⟨k + 1, q + 1, D, by go_num, by go_num, by omega, by omega, by rw [← Hm.out]; omega, HB2.out, .inr ⟨q, g, cc, [], 1, rfl, by rw [← Hm.out], by decide, by first | omega | (simp; done), by rw [← Hm.out]; omega, HGR.out⟩⟩
          case measure => simp [intOf] <;> omega
        · have EQ : Hid (D ++ gat (f, q + 1, x) (L.drop (k + 1)) = R) := HG.out.2.1
          have CH : Hid (chgN (f, q + 1, x) = true) := by
            have := (chgN_iff (f, q, x)).1 HG.out.2.2
            refine (chgN_iff (f, q + 1, x)).2 ?_
            simp only at this ⊢
            omega
          have GR : Hid (Grow (wr.alloc (.cells #[.int .i64 1, .int .i64 c] 63)) B g cc D f q x) := HG.out.1.below (box_below _ _)
          obtain ⟨bw, hbw⟩ : ∃ bw, bw = wr.heap.size := ⟨_, rfl⟩
          have hne9 : bw ≠ g := by have := HG.out.1.lt.2; omega
          have BX : Hid (Box2 (wr.alloc (.cells #[.int .i64 1, .int .i64 c] 63)) bw 1 c) := by rw [hbw]; exact Hbox.out
          have BB : Hid (Below w.heap.size w (wr.alloc (.cells #[.int .i64 1, .int .i64 c] 63))) := HbA.out
          go_upto_region 7 with fail
          obtain ⟨W, hW⟩ : ∃ W, W = wr.alloc (.cells #[.int .i64 1, .int .i64 c] 63) := ⟨_, rfl⟩
          rw [← hbw]
          rw [← hW] at GR BX BB ⊢
          clear hW hbw HG Hbox HbA Hb hbs hBs d0 d1
          obtain ⟨vs, aa, cp, KK, hgx⟩ := GR.out
          obtain ⟨e1, _, e3⟩ := hgx.cells
          have hBg := GR.out.lt.1
          have fz := e3 (D.length * 3 + 1)
          have HG2 : Hid (Grow (W.setCell ⟨g, D.length * 3 + 1, none⟩ (.int .i64 ((q : Int) + 1))) B g cc D f (q + 1) x) := by
            have := GR.out.setTo (q + 1)
            rw [show ((q + 1 : Nat) : Int) = (q : Int) + 1 by omega] at this
            exact this
          have HB2 : Hid (Below w.heap.size w (W.setCell ⟨g, D.length * 3 + 1, none⟩ (.int .i64 ((q : Int) + 1)))) := BB.out.setCell (by rw [← HBe.out]; exact hBg) _
          obtain ⟨_, y0, y1⟩ := BX.out
          obtain ⟨_, z0, z1⟩ := BX.out.set (q := ⟨g, D.length * 3 + 1, none⟩) (by exact hne9) (.int .i64 ((q : Int) + 1))
          have HGR : Hid (Grows (W.setCell ⟨g, D.length * 3 + 1, none⟩ (.int .i64 ((q : Int) + 1))) B g cc R D (q + 1) f x (L.drop (k + 1))) := ⟨HG2.out, EQ.out, CH.out⟩
          have ml : (D.length : Int) ≤ 100000 := by omega
          clear HG2 e3 GR BX BB EQ CH hgx
          obtain ⟨m, hm⟩ : ∃ m, m = D.length := ⟨_, rfl⟩
          rw [← hm] at e1 fz HB2 z0 z1 HGR ml ⊢
          have Hm : Hid (m = D.length) := hm
          have hmk : m + 1 ≤ k + 1 := by omega
          clear hm
          go_wp2_with fail
          go_roundw
          case rel => exact ⟨k + 1, q + 1, D, by go_num, by go_num, by omega, by omega, by rw [← Hm.out]; omega, HB2.out, .inr ⟨f, g, cc, x, 1, rfl, by rw [← Hm.out], by decide, by first | omega | (simp; done), by rw [← Hm.out]; omega, HGR.out⟩⟩
          case measure => simp [intOf] <;> omega
      · rcases hst with ⟨rfl, HF⟩ | ⟨f, g, cc, x, w0, rfl, rfl, hw0, hxk, hDk2, HG⟩
        · have EQ : Hid (D ++ gat (q, q, [] ++ [c]) (L.drop (k + 1)) = R) := HF.out.2
          have CH : Hid (chgN (q, q, [] ++ [c]) = true) := by show _ = _; unfold chgN; simp
          obtain ⟨h1, h2⟩ := HF.out
          have HO : Hid (OwnE wr B u3 (ups D)) := h1
          have hu3 : ∀ g, u3.ownBlock = some g → g < wr.heap.size := fun g hg => (h1.lt g hg).2
          clear h1 h2 HF
          have HBq : Hid (Boxed ((wr.alloc (.cells #[.int .i64 2, .int .i64 c] 63)).alloc (.cells #[.int .i64 (q : Int), .int .i64 (q : Int), .slice none 0 0] 41)) (wr.heap.size + 1) (q : Int) (q : Int) (.slice none 0 0)) := by
            have := boxed_new (wr.alloc (.cells #[.int .i64 2, .int .i64 c] 63)) (q : Int) (q : Int) (.slice none 0 0)
            rw [size_alloc] at this
            exact this
          go_wp2_with (at_builtin; refine append_new rfl _ _ rfl B u3 D q (wr.heap.size + 1) rfl ((HO.out.below (box_below _ _)).below (box_below _ _)) rfl HBq.out (by omega) (by rw [size_alloc, size_alloc]; omega) ?_)
          intro g cc vs w3 hgx hloc hg3
          have GX0 : Hid (GrowX w3 B g cc D q q [] vs none 0 w3.heap.size) := hgx
          have BB : Hid (Below w.heap.size w w3) := (HbA.out.alloc HbA.out.size _).grown hg3 (Nat.le_trans HbA.out.size (box_below _ _).size) (fun g hg => by have := (HO.out.lt g hg).1; rw [← HBe.out]; exact this)
          obtain ⟨bw, hbw⟩ : ∃ bw, bw = wr.heap.size := ⟨_, rfl⟩
          have BX : Hid (Box2 w3 bw 2 c) := by rw [hbw]; exact (Hbox.out.below (box_below _ _)).grown hg3 (fun h => Nat.lt_irrefl _ (hu3 _ h))
          have hne9 : bw ≠ g := by
            rcases hloc with h | h
            · have := hu3 g h.symm
              omega
            · omega
          rw [← hbw]
          clear hgx hloc hg3 hbw hu3 HO HBq Hbox HbA Hb hbs hBs d0 d1
          obtain ⟨x, hx⟩ : ∃ x : List Int, x = [] := ⟨_, rfl⟩
          obtain ⟨aa, haa⟩ : ∃ aa : Option Addr, aa = none := ⟨_, rfl⟩
          obtain ⟨cp, hcp⟩ : ∃ cp : Nat, cp = 0 := ⟨_, rfl⟩
          obtain ⟨KK, hKK⟩ : ∃ KK : Nat, KK = w3.heap.size := ⟨_, rfl⟩
          have GX : Hid (GrowX w3 B g cc D q q x vs aa cp KK) := by rw [hx, haa, hcp, hKK]; exact GX0.out
          have htb : (Value.slice aa x.length cp).ownBlock ≠ some bw := by rw [haa]; intro h; cases h
          have EQ2 : Hid (D ++ gat (q, q, x ++ [c]) (L.drop (k + 1)) = R) := by rw [hx]; exact EQ.out
          have CH2 : Hid (chgN (q, q, x ++ [c]) = true) := by rw [hx]; exact CH.out
          clear EQ CH
          have EQ := EQ2
          have CH := CH2
          clear EQ2 CH2
          have hxk : x.length ≤ k := by rw [hx]; exact Nat.zero_le _
          clear hx haa hcp hKK GX0
          obtain ⟨e1, e2, e3⟩ := GX.out.cells
          obtain ⟨j1, j2, j3, _, j5, _, j7⟩ := GX.out
          have hBg := (j5.lt g rfl).1
          have fz := e3 (D.length * 3 + 2)
          have e2a : ∀ o, (w3.alloc o).cell? ⟨g, D.length * 3 + 2, none⟩ = some (.slice aa x.length cp) := fun o => ((box_below w3 o).cell (by exact Nat.lt_of_lt_of_le j3 j2)).trans e2
          obtain ⟨bxl, y0, y1⟩ := BX.out
          have y1a : ∀ o, (w3.alloc o).cell? ⟨bw, 1, none⟩ = some (.int .i64 c) := fun o => ((box_below w3 o).cell (by exact bxl)).trans y1
          have J7 : Hid (OwnI w3 KK (.slice aa x.length cp) x) := j7
          obtain ⟨y, hy⟩ : ∃ y, y = x ++ [c] := ⟨_, rfl⟩
          have HY : Hid (y = x ++ [c]) := hy
          rw [← hy] at EQ CH
          have hyl : y.length ≤ k + 1 := by rw [hy, List.length_append]; simp; omega
          have hxl : x.length ≤ 100000 := by omega
          have ml : (D.length : Int) ≤ 100000 := by omega
          have HGT : Hid (∀ w1 a2 cap2, w3.heap.size ≤ w1.heap.size → (∀ k, k < KK → w1.heap[k]? = w3.heap[k]?) → OwnI w1 KK (.slice a2 y.length cap2) y → Grow (w1.setCell ⟨g, D.length * 3 + 2, none⟩ (.slice a2 y.length cap2)) B g cc D q q y) := fun w1 a2 cap2 h1 h2 h3 => grow_text GX.out h1 h2 h3
          clear hy e1 e3 j5 j7 GX
          obtain ⟨m, hm⟩ : ∃ m, m = D.length := ⟨_, rfl⟩
          rw [← hm] at e2 e2a fz HGT ml ⊢
          have Hm : Hid (m = D.length) := hm
          have hmk : m + 1 ≤ k + 1 := by omega
          have hWm : IntKind.i64.wrap ((m : Int) + 1 - 1) = (m : Int) := by rw [Int.add_sub_cancel]; exact IntWalk.i64_in _ ⟨by omega, by omega⟩
          have hWn : IntKind.i64.wrap (m : Int) = (m : Int) := IntWalk.i64_in _ ⟨by omega, by omega⟩
          have hmi : (m : Int) < (m : Int) + 1 := by omega
          clear hm
          go_wp2_with fail
          go_region_law (refine step_push rfl (.tmp 56) (.tmp 59) rfl KK (.slice aa x.length cp) x y c w3.heap.size HY.out (by simp [Act.eval, Act.put]) ((J7.out.below (below_drewN (Below.refl _ _) 1)).alloc _) (by simp [Act.eval, Act.put]) (cell_new1 _ _) hxl (Nat.le_trans j2 (box_below _ _).size) ?_; intro v6 w6 ho6 hg6; obtain ⟨a6, c6, hv6⟩ := (OwnI.reads ho6).shape; subst hv6; have hbl6 : ∀ k, k < KK → w6.heap[k]? = w3.heap[k]? := (fun k hk => (hg6.block k (Nat.lt_of_lt_of_le hk (Nat.le_trans j2 (box_below _ _).size)) (fun he => absurd (J7.out.lt k he.symm).1 (by omega))).trans ((box_below w3 _).block k (Nat.lt_of_lt_of_le hk j2))); have g0 : w6.cell? ⟨g, m * 3 + 2, none⟩ = some (.slice aa x.length cp) := (World.cell?_of_block (by exact hbl6 g j3)).trans e2; have g1 : w6.frozen? ⟨g, m * 3 + 2, none⟩ = false := (World.frozen?_of_block (by exact hbl6 g j3)).trans fz)
          all_goals (
            have HB6 : Hid (Below w.heap.size w (w6.setCell ⟨g, m * 3 + 2, none⟩ (.slice a6 y.length c6))) := ((((BB.out.trans (below_drewN (Below.refl _ w3) 1)).alloc (by exact BB.out.size) _).grown hg6 (Nat.le_trans BB.out.size (box_below _ _).size) (fun g' hg' => by have h8 := (J7.out.lt g' hg').1; have h7 := HBe.out; omega)).setCell (by show w.heap.size ≤ g; rw [← HBe.out]; exact hBg) _)
            have HG6 : Hid (Grow (w6.setCell ⟨g, m * 3 + 2, none⟩ (.slice a6 y.length c6)) B g cc D q q y) := HGT.out w6 a6 c6 (Nat.le_trans (box_below w3 _).size hg6.size) hbl6 ho6
            obtain ⟨_, z0, z1⟩ := (((BX.out.below (below_drewN (Below.refl _ _) 1)).below (box_below _ _)).grown hg6 htb).set (q := ⟨g, m * 3 + 2, none⟩) (by exact hne9) (.slice a6 y.length c6)
            have HGR : Hid (Grows (w6.setCell ⟨g, m * 3 + 2, none⟩ (.slice a6 y.length c6)) B g cc R D q q y (L.drop (k + 1))) := ⟨HG6.out, EQ.out, CH.out⟩
            clear g0 g1 hbl6 ho6 hg6 HG6 e2a y1a y0 y1 e2 fz J7 HGT
            go_simp
            obtain ⟨WW, hWW⟩ : ∃ WW, WW = w6.setCell ⟨g, m * 3 + 2, none⟩ (.slice a6 y.length c6) := ⟨_, rfl⟩
            rw [← hWW] at z0 z1 HB6 HGR ⊢
            clear hWW
            go_wp2_with fail
            go_roundw
            case rel => exact ⟨k + 1, q, D, by go_num, rfl, by omega, by omega, by rw [← Hm.out]; omega, HB6.out, .inr ⟨q, g, cc, y, 2, rfl, by rw [← Hm.out], by decide, hyl, by rw [← Hm.out]; omega, HGR.out⟩⟩
            case measure => simp [intOf] <;> omega)
        · have EQ : Hid (D ++ gat (f, q, x ++ [c]) (L.drop (k + 1)) = R) := HG.out.2.1
          have CH : Hid (chgN (f, q, x ++ [c]) = true) := by
            refine (chgN_iff (f, q, x ++ [c])).2 (.inr ?_)
            show 0 < (x ++ [c]).length
            rw [List.length_append]
            simp
          obtain ⟨bw, hbw⟩ : ∃ bw, bw = wr.heap.size := ⟨_, rfl⟩
          have hne9 : bw ≠ g := by have := HG.out.1.lt.2; omega
          have BX : Hid (Box2 (wr.alloc (.cells #[.int .i64 2, .int .i64 c] 63)) bw 2 c) := by rw [hbw]; exact Hbox.out
          have BB : Hid (Below w.heap.size w (wr.alloc (.cells #[.int .i64 2, .int .i64 c] 63))) := HbA.out
          go_upto_region 7 with fail
          obtain ⟨W, hW⟩ : ∃ W, W = wr.alloc (.cells #[.int .i64 2, .int .i64 c] 63) := ⟨_, rfl⟩
          obtain ⟨vs, aa, cp, KK, hgx⟩ := HG.out.1
          have htb : (Value.slice aa x.length cp).ownBlock ≠ some bw := fun h => by have := (hgx.2.2.2.2.2.2.lt _ h).2; omega
          have GX : Hid (GrowX W B g cc D f q x vs aa cp KK) := by
            rw [hW]
            obtain ⟨h1, h2, h3, h4, h5, h6, h7⟩ := hgx
            exact ⟨h1, Nat.le_trans h2 (box_below _ _).size, h3, h4, row3_below h5 (box_below _ _), fun j hj => ⟨⟨(h6 j hj).1.1, (h6 j hj).1.2.1.below (box_below _ _), (h6 j hj).1.2.2⟩, (h6 j hj).2⟩, h7.below (box_below _ _)⟩
          clear hgx
          rw [← hbw]
          rw [← hW] at BX BB ⊢
          clear hW hbw HG Hbox HbA Hb hbs hBs d0 d1
          obtain ⟨e1, e2, e3⟩ := GX.out.cells
          obtain ⟨j1, j2, j3, _, j5, _, j7⟩ := GX.out
          have hBg := (j5.lt g rfl).1
          have fz := e3 (D.length * 3 + 2)
          have e2a : ∀ o, (W.alloc o).cell? ⟨g, D.length * 3 + 2, none⟩ = some (.slice aa x.length cp) := fun o => ((box_below W o).cell (by exact Nat.lt_of_lt_of_le j3 j2)).trans e2
          obtain ⟨bxl, y0, y1⟩ := BX.out
          have y1a : ∀ o, (W.alloc o).cell? ⟨bw, 1, none⟩ = some (.int .i64 c) := fun o => ((box_below W o).cell (by exact bxl)).trans y1
          have J7 : Hid (OwnI W KK (.slice aa x.length cp) x) := j7
          obtain ⟨y, hy⟩ : ∃ y, y = x ++ [c] := ⟨_, rfl⟩
          have HY : Hid (y = x ++ [c]) := hy
          rw [← hy] at EQ CH
          have hyl : y.length ≤ k + 1 := by rw [hy, List.length_append]; simp; omega
          have hxl : x.length ≤ 100000 := by omega
          have ml : (D.length : Int) ≤ 100000 := by omega
          have HGT : Hid (∀ w1 a2 cap2, W.heap.size ≤ w1.heap.size → (∀ k, k < KK → w1.heap[k]? = W.heap[k]?) → OwnI w1 KK (.slice a2 y.length cap2) y → Grow (w1.setCell ⟨g, D.length * 3 + 2, none⟩ (.slice a2 y.length cap2)) B g cc D f q y) := fun w1 a2 cap2 h1 h2 h3 => grow_text GX.out h1 h2 h3
          clear hy e1 e3 j5 j7 GX
          obtain ⟨m, hm⟩ : ∃ m, m = D.length := ⟨_, rfl⟩
          rw [← hm] at e2 e2a fz HGT ml ⊢
          have Hm : Hid (m = D.length) := hm
          have hmk : m + 1 ≤ k + 1 := by omega
          have hWm : IntKind.i64.wrap ((m : Int) + 1 - 1) = (m : Int) := by rw [Int.add_sub_cancel]; exact IntWalk.i64_in _ ⟨by omega, by omega⟩
          have hWn : IntKind.i64.wrap (m : Int) = (m : Int) := IntWalk.i64_in _ ⟨by omega, by omega⟩
          have hmi : (m : Int) < (m : Int) + 1 := by omega
          clear hm
          go_wp2_with fail
          go_region_law (refine step_push rfl (.tmp 56) (.tmp 59) rfl KK (.slice aa x.length cp) x y c W.heap.size HY.out (by simp [Act.eval, Act.put]) ((J7.out.below (below_drewN (Below.refl _ _) 1)).alloc _) (by simp [Act.eval, Act.put]) (cell_new1 _ _) hxl (Nat.le_trans j2 (box_below _ _).size) ?_; intro v6 w6 ho6 hg6; obtain ⟨a6, c6, hv6⟩ := (OwnI.reads ho6).shape; subst hv6; have hbl6 : ∀ k, k < KK → w6.heap[k]? = W.heap[k]? := (fun k hk => (hg6.block k (Nat.lt_of_lt_of_le hk (Nat.le_trans j2 (box_below _ _).size)) (fun he => absurd (J7.out.lt k he.symm).1 (by omega))).trans ((box_below W _).block k (Nat.lt_of_lt_of_le hk j2))); have g0 : w6.cell? ⟨g, m * 3 + 2, none⟩ = some (.slice aa x.length cp) := (World.cell?_of_block (by exact hbl6 g j3)).trans e2; have g1 : w6.frozen? ⟨g, m * 3 + 2, none⟩ = false := (World.frozen?_of_block (by exact hbl6 g j3)).trans fz)
          all_goals (
            have HB6 : Hid (Below w.heap.size w (w6.setCell ⟨g, m * 3 + 2, none⟩ (.slice a6 y.length c6))) := ((((BB.out.trans (below_drewN (Below.refl _ W) 1)).alloc (by exact BB.out.size) _).grown hg6 (Nat.le_trans BB.out.size (box_below _ _).size) (fun g' hg' => by have h8 := (J7.out.lt g' hg').1; have h7 := HBe.out; omega)).setCell (by show w.heap.size ≤ g; rw [← HBe.out]; exact hBg) _)
            have HG6 : Hid (Grow (w6.setCell ⟨g, m * 3 + 2, none⟩ (.slice a6 y.length c6)) B g cc D f q y) := HGT.out w6 a6 c6 (Nat.le_trans (box_below W _).size hg6.size) hbl6 ho6
            obtain ⟨_, z0, z1⟩ := (((BX.out.below (below_drewN (Below.refl _ _) 1)).below (box_below _ _)).grown hg6 htb).set (q := ⟨g, m * 3 + 2, none⟩) (by exact hne9) (.slice a6 y.length c6)
            have HGR : Hid (Grows (w6.setCell ⟨g, m * 3 + 2, none⟩ (.slice a6 y.length c6)) B g cc R D q f y (L.drop (k + 1))) := ⟨HG6.out, EQ.out, CH.out⟩
            clear g0 g1 hbl6 ho6 hg6 HG6 e2a y1a y0 y1 e2 fz J7 HGT
            go_simp
            obtain ⟨WW, hWW⟩ : ∃ WW, WW = w6.setCell ⟨g, m * 3 + 2, none⟩ (.slice a6 y.length c6) := ⟨_, rfl⟩
            rw [← hWW] at z0 z1 HB6 HGR ⊢
            clear hWW
            go_wp2_with fail
            go_roundw
            case rel => exact ⟨k + 1, q, D, by go_num, rfl, by omega, by omega, by rw [← Hm.out]; omega, HB6.out, .inr ⟨f, g, cc, y, 2, rfl, by rw [← Hm.out], by decide, hyl, by rw [← Hm.out]; omega, HGR.out⟩⟩
            case measure => simp [intOf] <;> omega)
    · obtain rfl : k = L.length := by omega
      have HE : Hid (OwnE wr B u3 (ups R)) := by
        rcases hst with ⟨_, h1, h2⟩ | ⟨f, g, cc, x, _, _, hu, _, hx, _, h1, h2, h3⟩
        · rw [List.drop_length, gat_end, flush_none, List.append_nil] at h2
          rw [← h2]
          exact h1
        · rw [List.drop_length, gat_end, flush_chg h3] at h2
          rw [← h2, hu]
          exact h1.own (by omega)
      have HE2 : Hid (OwnE wr w.heap.size u3 (ups R)) := by rw [← HBe.out]; exact HE.out
      clear HE hst
      go_wp2_with fail
      go_ret
      exact ⟨Hb.out, _, rfl, HE2.out⟩
end Go.Proofs.Ytpgecholpbpakaa.Seek
