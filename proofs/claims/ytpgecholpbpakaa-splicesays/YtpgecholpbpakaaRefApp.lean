/- The contracts of the document's Applied and Undone. -/
import Derived.Test.YtpgecholpbpakaaBetwMem
import Derived.Deep.RegionLaw
set_option linter.unusedVariables false
set_option linter.unusedSimpArgs false
namespace Go.Proofs.Ytpgecholpbpakaa.Seek
open Go.RowKit Plain

theorem puts_drop : ∀ (ns : List Nsp) (k : Nat), puts (ns.drop k) ≤ puts ns
  | [], k => by rw [List.drop_nil]; exact Nat.le_refl _
  | s :: r, 0 => Nat.le_refl _
  | s :: r, k + 1 => by
    have := puts_drop r k
    rw [List.drop_succ_cons]
    show _ ≤ s.2.2.length + puts r
    omega
theorem puts_take : ∀ (ns : List Nsp) (k : Nat), puts (ns.take k) ≤ puts ns
  | [], k => by rw [List.take_nil]; exact Nat.le_refl _
  | s :: r, 0 => Nat.zero_le _
  | s :: r, k + 1 => by
    have := puts_take r k
    rw [List.take_succ_cons]
    show s.2.2.length + puts (r.take k) ≤ s.2.2.length + puts r
    omega
/-- Three slices in new memory. -/
def three {α : Type} (a b c : α) : Nat → α := fun j => if j = 0 then a else if j = 1 then b else c
theorem three_cells (w : World) (a b c : Value) (t : TypeId) : ∀ j, j < 3 → (w.alloc (.cells #[a, b, c] t)).cell? ⟨w.heap.size, j, none⟩ = some (three a b c j) := by
  intro j hj
  unfold World.cell?
  simp only
  rw [show ∀ o, (w.alloc o).heap[w.heap.size]? = some o from fun o => by show (w.heap.push o)[w.heap.size]? = _; simp]
  match j, hj with
  | 0, _ => rfl
  | 1, _ => rfl
  | 2, _ => rfl
theorem joined_three (a b c : List Int) : joined (three a b c) 3 = a ++ b ++ c := by
  show (([] ++ a) ++ b) ++ c = _
  rw [List.nil_append]
theorem seg_zero (l : List Int) (k : Nat) : seg l 0 k = l.take k := by unfold seg; rw [List.drop_zero, Nat.sub_zero]
theorem seg_last (l : List Int) (k : Nat) : seg l k l.length = l.drop k := by unfold seg; rw [List.take_of_length_le (by rw [List.length_drop]; omega)]

set_option maxRecDepth 100000 in
set_option maxHeartbeats 4000000 in
theorem applied_any (v1 v2 : Value) (l : List Int) (ns : List Nsp) (lo : Nat) (w : World) (h1 : Reads w v1 l) (h2 : ReadsE w v2 (ups ns)) (hO : Okay l.length lo ns) (hl : l.length ≤ 4096) (hp : puts ns ≤ 4096) :
    Calls Try.prog 17 #[v1, v2] w fun e w' => Below w.heap.size w w' ∧ ∃ v, e = .returned v ∧ Own w' w.heap.size v (appR l ns) := by
  obtain ⟨a1, cap1, rfl⟩ := h1.shape
  obtain ⟨a2, cap2, rfl⟩ := h2.shape
  have H1 : Hid (Reads w (.slice a1 l.length cap1) l) := h1
  rw [ups_len] at h2 ⊢
  have HE1 : Hid (∀ k, k < ns.length → ∃ b off, a2 = some ⟨b, off, none⟩ ∧ b < w.heap.size ∧ SplAt w b (off + k * 3) ((ups ns).getD k spl0)) := by
    have h3 : ReadsE w (.slice a2 (ups ns).length cap2) (ups ns) := by rw [ups_len]; exact h2
    intro k hk
    exact h3.each k (by rw [ups_len]; exact hk)
  have hcnt := hO.count
  have HO : Hid (Okay l.length lo ns) := hO
  have HP : Hid (puts ns ≤ 4096) := hp
  obtain ⟨F, hF⟩ : ∃ F, F = appR l ns := ⟨_, rfl⟩
  rw [← hF]
  have HF : Hid (F = appR l (ns.drop 0)) := hF
  have HN : Hid (ns.drop ns.length = []) := List.drop_length
  clear h1 h2 hO hp hF
  go_enter Try.func17, Try.ntmps17
  go_wp2_with fail
  refine (clone_any _ l w H1.out (by omega)).mono ?_
  rintro e w1 ⟨hb1, v5, rfl, hown⟩
  have HB1 : Hid (Below w.heap.size w w1) := hb1
  have HO1 : Hid (Own w1 w.heap.size v5 (appR l (ns.drop ns.length))) := by
    rw [HN.out]
    exact hown
  clear hb1 hown
  go_wp2_with fail
  go_loopw [5, 6] (fun u5 u6 wr => ∃ (k : Nat), u6 = .int .i64 ((k : Int) - 1) ∧ k ≤ ns.length ∧ Hid (Own wr w.heap.size u5 (appR l (ns.drop k))) ∧ Hid (Below w.heap.size w wr))
    (fun _ u6 _ => (intOf u6 + 1).toNat)
  case atStart => exact ⟨ns.length, rfl, Nat.le_refl _, HO1.out, HB1.out⟩
  case round =>
    obtain ⟨k, rfl, hk, Hown, Hb⟩ := hrel
    have hbs := Hb.out.size
    by_cases hk0 : k = 0
    · subst hk0
      have HO2 : Hid (Own wr w.heap.size u5 F) := by rw [HF.out]; exact Hown.out
      go_wp2_with fail
      go_ret
      exact ⟨Hb.out, _, rfl, HO2.out⟩
    · obtain ⟨j, rfl⟩ : ∃ j, k = j + 1 := ⟨k - 1, by omega⟩
      obtain ⟨s, hs1, hs2, hs3⟩ := ups_at ns j (by omega)
      obtain ⟨b, off, hae, hbl, hsp⟩ := HE1.out j (by omega)
      subst hae
      have hsp2 := hsp.below Hb.out hbl
      rw [hs2] at hsp2
      clear hs2 hs3 hsp
      obtain ⟨f, t, x⟩ := s
      obtain ⟨c0, c1, hmild, a3, cap3, c2, hrx⟩ := hsp2
      simp only [up] at c0 c1 hmild c2 hrx
      have hOk := HO.out.drop j
      rw [hs1] at hOk
      obtain ⟨g1, g2, g3, g4, g5⟩ := hOk
      simp only at g1 g2 g3 g5
      have hTake := appR_app l (ns.drop (j + 1)) t (t + 1) g5 (by omega)
      have hLen := appR_len l (ns.drop (j + 1)) _ g5
      have hPd : puts (ns.drop (j + 1)) ≤ 4096 := Nat.le_trans (puts_drop _ _) HP.out
      have hPx : x.length ≤ 4096 := by
        have h8 : x.length + puts (ns.drop (j + 1)) ≤ puts ns := by
          have := puts_drop ns j
          rw [hs1] at this
          exact this
        have := HP.out
        omega
      have HNX : Hid (appR l (ns.drop j) = (appR l (ns.drop (j + 1))).take f ++ x ++ (appR l (ns.drop (j + 1))).drop t) := by
        show _ = _
        rw [hs1]
        rfl
      obtain ⟨O, hO⟩ : ∃ O, O = appR l (ns.drop (j + 1)) := ⟨_, rfl⟩
      have hOt : t ≤ O.length := by
        rw [hO, hTake, List.length_append, List.length_take]
        omega
      rw [← hO] at Hown HNX hLen
      have hOl : O.length ≤ 8192 := by omega
      clear hs1 g1 g4 g5 hTake hLen hPd hO
      have HrO := Hown.out.reads
      obtain ⟨a5, c5, rfl⟩ := HrO.shape
      have hc5 := HrO.cap_le
      have HRO : Hid (Reads wr (.slice a5 O.length c5) O) := HrO
      have HRX : Hid (Reads wr (.slice a3 x.length cap3) x) := hrx
      clear HrO hrx
      have e1 : ((j : Int) + 1 - 1) = (j : Int) := by omega
      have i1 : (j : Int) < (ns.length : Int) := by omega
      have i2 : (f : Int) ≤ (c5 : Int) := by omega
      have i3 : (t : Int) ≤ (O.length : Int) := by omega
      obtain ⟨A, hA⟩ : ∃ A, (if c5 = t then a5 else Option.map (fun x => x.add t) a5) = A := ⟨_, rfl⟩
      have HS2 : Hid (Reads wr (.slice A (O.length - t) (c5 - t)) (O.drop t)) := by
        have := reads_slice HRO.out t O.length hOt (Nat.le_refl _)
        rw [hA, seg_last] at this
        exact this
      have HS1 : Hid (Reads wr (.slice a5 f c5) (O.take f)) := by
        have := reads_slice HRO.out 0 f (Nat.zero_le _) (by omega)
        rw [seg_zero] at this
        have e : (if c5 = 0 then a5 else Option.map (fun x => x.add 0) a5) = a5 := by
          split
          · rfl
          · cases a5 <;> simp [Addr.add]
        rw [e] at this
        exact this
      go_wp2_with fail
      have HCC : Hid (Calls Try.prog 27 #[.slice (some ⟨wr.heap.size, 0, none⟩) 3 3] (wr.alloc (.cells #[.slice a5 f c5, .slice a3 x.length cap3, .slice A (O.length - t) (c5 - t)] 22)).drew fun e w' => ConcatPost (O.take f ++ x ++ O.drop t) (wr.alloc (.cells #[.slice a5 f c5, .slice a3 x.length cap3, .slice A (O.length - t) (c5 - t)] 22)).drew e w') := by
        have hB : Below wr.heap.size wr (wr.alloc (.cells #[.slice a5 f c5, .slice a3 x.length cap3, .slice A (O.length - t) (c5 - t)] 22)).drew := below_drewN (box_below _ _) 1
        have h := concat_any wr.heap.size 3 3 (three (.slice a5 f c5) (.slice a3 x.length cap3) (.slice A (O.length - t) (c5 - t))) (three (O.take f) x (O.drop t)) (wr.alloc (.cells #[.slice a5 f c5, .slice a3 x.length cap3, .slice A (O.length - t) (c5 - t)] 22)).drew (by decide)
          (by show wr.heap.size < (wr.alloc _).heap.size; rw [size_alloc]; omega) (three_cells wr _ _ _ 22)
          (fun j hj => by
            match j, hj with
            | 0, _ => exact HS1.out.below hB
            | 1, _ => exact HRX.out.below hB
            | 2, _ => exact HS2.out.below hB)
          (by rw [joined_three]; simp only [List.length_append, List.length_take, List.length_drop]; omega)
        rw [joined_three] at h
        exact h
      have HBW : Hid (Below w.heap.size w (wr.alloc (.cells #[.slice a5 f c5, .slice a3 x.length cap3, .slice A (O.length - t) (c5 - t)] 22)).drew) := below_drewN (Hb.out.alloc hbs _) 1
      go_region_with (go_at_call 27; refine HCC.out.mono ?_; rintro e w6 ⟨hb6, v6, rfl, hown6⟩)
      all_goals (
        have HB6 : Hid (Below w.heap.size w w6) := below_trans HBW.out hb6 HBW.out.size
        have HO6 : Hid (Own w6 w.heap.size v6 (appR l (ns.drop j))) := by
          rw [HNX.out]
          exact hown6.less HBW.out.size
        clear hb6 hown6 HBW HCC hA HS1 HS2 HRO HRX HNX Hown Hb
        go_wp2_with fail
        go_roundw
        case rel => exact ⟨j, by go_num, by omega, HO6.out, HB6.out⟩
        case measure => simp [intOf] <;> omega)

/-- A part from the front of a line. -/
theorem reads_front {w : World} {a : Option Addr} {zs : List Int} {cap : Nat} (h : Reads w (.slice a zs.length cap) zs) (k : Nat) (hk : k ≤ zs.length) : Reads w (.slice a k cap) (zs.take k) := by
  have := reads_slice h 0 k (Nat.zero_le _) hk
  rw [seg_zero] at this
  have e : (if cap = 0 then a else Option.map (fun x => x.add 0) a) = a := by
    split
    · rfl
    · cases a <;> simp [Addr.add]
  rw [e] at this
  exact this
set_option maxRecDepth 100000 in
set_option maxHeartbeats 8000000 in
theorem undone_any (v1 v2 : Value) (l : List Int) (ns : List Nsp) (w : World) (h1 : Reads w v1 l) (h2 : ReadsE w v2 (ups ns)) (hR : Right l ns) :
    Calls Try.prog 18 #[v1, v2] w fun e w' => Below w.heap.size w w' ∧ ∃ v, e = .returned v ∧ OwnE w' w.heap.size v (ups (und l 0 0 ns)) := by
  obtain ⟨a1, cap1, rfl⟩ := h1.shape
  obtain ⟨a2, cap2, rfl⟩ := h2.shape
  have hc1 := h1.cap_le
  have HL : Hid (∀ wx, Below w.heap.size w wx → Reads wx (.slice a1 l.length cap1) l) := fun wx hb => h1.below hb
  have HE : Hid (∀ wx, Below w.heap.size w wx → ∀ k, k ≤ ns.length → ReadsE wx (.slice a2 k cap2) (ups (ns.take k))) := by
    intro wx hb k hk
    have := (h2.below hb).front k (by rw [ups_len]; exact hk)
    unfold ups at this ⊢
    rw [List.map_take]
    exact this
  have hcap2 : ns.length ≤ cap2 := by
    rcases h2 with ⟨_, _, _, h⟩ | ⟨b, off, c, hv, g1, _⟩
    · have : ns.length = 0 := by rw [← ups_len, h]; rfl
      omega
    · cases hv
      rw [ups_len] at g1
      exact g1
  rw [ups_len] at h2 ⊢
  have HE1 : Hid (∀ k, k < ns.length → ∃ b off, a2 = some ⟨b, off, none⟩ ∧ b < w.heap.size ∧ SplAt w b (off + k * 3) ((ups ns).getD k spl0)) := by
    have h3 : ReadsE w (.slice a2 (ups ns).length cap2) (ups ns) := by rw [ups_len]; exact h2
    intro k hk
    exact h3.each k (by rw [ups_len]; exact hk)
  have hcnt := hR.2.1.count
  have hll := hR.1
  have HR : Hid (Right l ns) := hR
  obtain ⟨U, hU⟩ : ∃ U, U = und l 0 0 ns := ⟨_, rfl⟩
  rw [← hU]
  have HU : Hid (U = und l 0 0 ns) := hU
  have HUl : Hid (U.length = ns.length) := by show _ = _; rw [hU]; exact und_len _ _ _ _
  clear h1 h2 hR hU
  go_enter Try.func18, Try.ntmps18
  go_wp2_with fail
  go_loopw [5, 11] (fun u5 u11 wr => ∃ (k : Nat), u11 = .int .i64 (k : Int) ∧ k ≤ ns.length ∧ Hid (OwnE wr w.heap.size u5 (ups (U.take k))) ∧ Hid (Below w.heap.size w wr))
    (fun _ u11 _ => ns.length - (intOf u11).toNat)
  case atStart => exact ⟨0, rfl, Nat.zero_le _, ownE_nil _ _, Below.refl _ _⟩
  case round =>
    obtain ⟨k, rfl, hk, Hown, Hb⟩ := hrel
    have hbs := Hb.out.size
    by_cases hlt : k < ns.length
    · obtain ⟨s, hs1, hs2, hs3⟩ := ups_at ns k hlt
      obtain ⟨b, off, hae, hbl, hsp⟩ := HE1.out k hlt
      subst hae
      have hsp2 := hsp.below Hb.out hbl
      rw [hs2] at hsp2
      clear hs1 hs2 hsp
      have hUat := und_at l ns 0 0 0 k s HR.out.2.1 (Nat.le_refl _) hs3
      have hst := HR.out.2.1.at_ k hs3
      have hpm : s.2.2.length ≤ 4096 := Nat.le_trans (puts_mem (List.mem_of_getElem? hs3)) HR.out.fits.puts_le
      have hOt := okay_take k s HR.out.2.1 hs3
      obtain ⟨f, t, x⟩ := s
      obtain ⟨c0, c1, hmild, a3, cap3, c2, _⟩ := hsp2
      simp only [up] at c0 c1 hmild c2 hUat hst hpm hOt
      obtain ⟨g1, g2, g3⟩ := hst
      have hft : (l.take f).length = f := by rw [List.length_take]; omega
      have HOT : Hid (Okay (l.take f).length 0 (ns.take k)) := by show Okay _ _ _; rw [hft]; exact hOt
      have hApp : appR (l.take f) (ns.take k) = app (l.take f) 0 (ns.take k) := by
        have := appR_app (l.take f) (ns.take k) 0 0 HOT.out (Nat.le_refl _)
        rw [List.take_zero, List.nil_append] at this
        exact this
      rw [← hApp, ← HU.out] at hUat
      have hpt : puts (ns.take k) ≤ 4096 := Nat.le_trans (puts_take _ _) HR.out.fits.puts_le
      have hal := appR_len (l.take f) (ns.take k) 0 HOT.out
      rw [hft] at hal
      obtain ⟨G, hG⟩ : ∃ G, G = (appR (l.take f) (ns.take k)).length := ⟨_, rfl⟩
      rw [← hG] at hUat hal
      have HG : Hid ((appR (l.take f) (ns.take k)).length = G) := hG.symm
      have hGb : G ≤ 8192 := by omega
      have HE2 : Hid (ups (U.take (k + 1)) = ups (U.take k) ++ [((G : Int), ((G : Int) + (x.length : Int)), seg l f t)]) := by
        show _ = _
        rw [List.take_add_one, hUat, ups_append]
        show ups (U.take k) ++ [(((0 + G : Nat) : Int), ((0 + G + x.length : Nat) : Int), seg l f t)] = _
        rw [Nat.zero_add, Int.natCast_add]
      clear hG hal hApp hUat hft hOt hs3
      have hDl : (ups (U.take k)).length ≤ 1000000 := by rw [ups_len, List.length_take]; omega
      obtain ⟨D, hD⟩ : ∃ D, D = ups (U.take k) := ⟨_, rfl⟩
      rw [← hD] at hDl HE2 Hown
      clear hD
      obtain ⟨A, hA⟩ : ∃ A, (if cap1 = f then a1 else Option.map (fun x => x.add f) a1) = A := ⟨_, rfl⟩
      have HS : Hid (∀ wx, Below w.heap.size w wx → Reads wx (.slice A (t - f) (cap1 - f)) (seg l f t)) := by
        intro wx hb
        have := reads_slice (HL.out wx hb) f t g2 g3
        rw [hA] at this
        exact this
      have HSm : Hid (Mild (seg l f t)) := by show (seg l f t).length * 8 ≤ _; rw [seg_len l f t g3]; omega
      have hS8 : (seg l f t).length * 8 ≤ 140737488355328 := by rw [seg_len l f t g3]; omega
      have HF1 : Hid (∀ wx, Below w.heap.size w wx → Reads wx (.slice a1 f cap1) (l.take f)) := fun wx hb => reads_front (HL.out wx hb) f (by omega)
      obtain ⟨S, hS⟩ : ∃ S, S = seg l f t := ⟨_, rfl⟩
      rw [← hS] at HS HSm hS8 HE2
      clear hS
      have q1 : (f : Int) ≤ (t : Int) := by omega
      have q2 : (t : Int) ≤ (cap1 : Int) := by omega
      have q3 : (f : Int) ≤ (cap1 : Int) := by omega
      have q4 : (k : Int) ≤ (cap2 : Int) := by omega
      have Hbox : Hid (Boxed (wr.alloc (.cells #[.int .i64 (f : Int), .int .i64 (t : Int), .slice a3 x.length cap3] 41)) wr.heap.size f t (.slice a3 x.length cap3)) := boxed_new _ _ _ _
      have HbA : Hid (Below w.heap.size w (wr.alloc (.cells #[.int .i64 (f : Int), .int .i64 (t : Int), .slice a3 x.length cap3] 41))) := Hb.out.alloc hbs _
      have HoA : Hid (OwnE (wr.alloc (.cells #[.int .i64 (f : Int), .int .i64 (t : Int), .slice a3 x.length cap3] 41)) w.heap.size u5 D) := Hown.out.alloc _
      have hW1 : IntKind.i64.wrap ((G : Int) + (x.length : Int)) = (G : Int) + (x.length : Int) := IntWalk.i64_in _ ⟨by omega, by omega⟩
      go_wp2_with fail
      obtain ⟨W, hW⟩ : ∃ W, W = wr.alloc (.cells #[.int .i64 (f : Int), .int .i64 (t : Int), .slice a3 x.length cap3] 41) := ⟨_, rfl⟩
      have hBW : wr.heap.size < W.heap.size := by rw [hW, size_alloc]; omega
      obtain ⟨bw, hbw⟩ : ∃ bw, bw = wr.heap.size := ⟨_, rfl⟩
      have hu5 : ∀ g, u5.ownBlock = some g → g < bw := fun g hg => by rw [hbw]; exact (Hown.out.lt g hg).2
      rw [← hW] at Hbox HbA HoA ⊢
      rw [← hbw] at Hbox hBW ⊢
      clear hW hbw c0 c1 c2 Hown Hb
      obtain ⟨_, x1, x2, x3⟩ := Hbox.out
      have HSZ : Hid (w.heap.size ≤ W.heap.size) := HbA.out.size
      have HAP : Hid (Calls Try.prog 17 #[.slice a1 f cap1, .slice (some ⟨b, off, none⟩) k cap2] W.drew fun e w' => Below W.drew.heap.size W.drew w' ∧ ∃ v, e = .returned v ∧ Own w' W.drew.heap.size v (appR (l.take f) (ns.take k))) :=
        applied_any _ _ (l.take f) (ns.take k) 0 _ (HF1.out _ (below_drewN HbA.out 1)) (HE.out _ (below_drewN HbA.out 1) k hk) HOT.out (by rw [List.length_take]; omega) hpt
      go_upto_region 5 with fail
      go_cut [8] from 16 to 24 (fun s8 wx => s8 = .int .i64 (G : Int) ∧ Hid (Below W.heap.size W wx))
      case first =>
        go_region_with (go_at_call 17; refine HAP.out.mono ?_; rintro e w4 ⟨hb4, v4, rfl, hown4⟩; obtain ⟨a4, c4, hv4⟩ := hown4.reads.shape; rw [HG.out] at hv4; subst hv4)
        all_goals (
          go_wp2_with fail
          go_meet
          exact ⟨rfl, below_trans (below_drewN (Below.refl _ _) 1) hb4 (Nat.le_refl _)⟩)
      case rest =>
      obtain ⟨rfl, HBc⟩ := hcut
      have HbB : Hid (Below w.heap.size w wc) := below_trans HbA.out HBc.out HSZ.out
      have HoB : Hid (OwnE wc w.heap.size u5 D) := HoA.out.below HBc.out
      have HSZc : Hid (w.heap.size ≤ wc.heap.size) := HbB.out.size
      have hBWc : bw < wc.heap.size := Nat.lt_of_lt_of_le hBW HBc.out.size
      have HboxB : Hid (Boxed wc bw f t (.slice a3 x.length cap3)) := Hbox.out.below HBc.out
      obtain ⟨_, y1, y2, y3⟩ := HboxB.out
      clear x1 x2 x3 Hbox HoA HbA HSZ hBW HAP HBc HG
      go_wp2_with fail
      go_region_law (first
        | (refine step_spl rfl (.tmp 25) (.tmp 40) rfl w.heap.size u5 D w5.heap.size 1 (G : Int) ((G : Int) + (x.length : Int)) (.slice a5 S.length c5) S (ups (U.take (k + 1))) HE2.out (by simp [Act.eval, Act.put]) (hoE5.alloc _) (by simp [Act.eval, Act.put]) (boxed_new _ _ _ _) (hT5.below (box_below _ _)) hDl (Nat.le_trans hB5.size (box_below _ _).size) ?_; intro v6 w6 ho6 hg6 hat6)
        | (go_simp; go_wp2_with (go_at_call 26; refine (clone_any _ S _ (HS.out _ (below_drewN HbB.out 1)) hS8).mono ?_; rintro e w5 ⟨hb5, v5, rfl, hown5⟩; obtain ⟨a5, c5, hv5⟩ := hown5.reads.shape; subst hv5; have hB5 : Below w.heap.size w w5 := below_trans (below_drewN HbB.out 1) hb5 HSZc.out; have hoE5 : OwnE w5 w.heap.size u5 D := (HoB.out.below (below_drewN (Below.refl _ _) 1)).below hb5; have hT5 : TextOf w5 w.heap.size u5.ownBlock (.slice a5 S.length c5) S := textOf_new HSm.out hown5 HSZc.out (fun g hg => Nat.lt_trans (hu5 g hg) hBWc); have hX5 : Boxed w5 bw f t (.slice a3 x.length cap3) := (Boxed.drew HboxB.out).below hb5; obtain ⟨_, k1, k2, k3⟩ := hX5)))
      all_goals (
        have HB6 : Hid (Below w.heap.size w w6) := (hB5.alloc hB5.size _).grown hg6 (Nat.le_trans hB5.size (box_below _ _).size) (fun j hj => (hoE5.lt j hj).1)
        have Ho6 : Hid (OwnE w6 w.heap.size v6 (ups (U.take (k + 1)))) := ho6
        clear ho6 hg6 hat6 hB5 hoE5 hT5 hb5 hown5 HoB HbB HSZc y1 y2 y3 k1 k2 k3 HboxB hA HS hW1
        go_simp
        go_wp2_with fail
        go_roundw
        case rel => exact ⟨k + 1, by go_num, by omega, Ho6.out, HB6.out⟩
        case measure => simp [intOf] <;> omega)
    · obtain rfl : k = ns.length := by omega
      have Ho : Hid (OwnE wr w.heap.size u5 (ups U)) := by
        have := Hown.out
        rw [List.take_of_length_le (by rw [HUl.out]; exact Nat.le_refl _)] at this
        exact this
      clear Hown
      go_wp2_with fail
      go_ret
      exact ⟨Hb.out, _, rfl, Ho.out⟩
end Go.Proofs.Ytpgecholpbpakaa.Seek
