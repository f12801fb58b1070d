/- The contract of splice.spread. -/
import Derived.Test.YtpgecholpbpakabBetwMem
import Derived.Test.YtpgecholpbpakabOvers
import Derived.Deep.OwnRows
set_option linter.unusedVariables false
set_option linter.unusedSimpArgs false
namespace Go.Proofs.Ytpgecholpbpakab.Seek
open Go.RowKit Plain
theorem blk_new (w : World) (o : Obj) : (w.alloc o).heap[w.heap.size]? = some o := by show (w.heap.push o)[w.heap.size]? = _; simp
theorem blk_other (w : World) (p : Addr) (u : Value) (b : Nat) (h : b ≠ p.block) : (w.setCell p u).heap[b]? = w.heap[b]? := Below.heap_setCell _ _ _ _ h
theorem info57 : (Try.prog.info? 50).map (fun i => (i.zero, i.size, i.bytes)) = some (some (Value.agg #[.slice none 0 0, .bool false]), 2, 32) := by kernel_rfl
/-- The cells of spots: texts and what goes. -/
def spotF (T : Nat → Value) (G : Nat → Bool) : Nat → Value := fun c => if c % 2 = 0 then T (c / 2) else .bool (G (c / 2))
theorem spotF_text (T : Nat → Value) (G : Nat → Bool) (i : Nat) : spotF T G (i * 2) = T i := by
  unfold spotF
  rw [if_pos (by omega), show i * 2 / 2 = i by omega]
theorem spotF_gone (T : Nat → Value) (G : Nat → Bool) (i : Nat) : spotF T G (i * 2 + 1) = .bool (G i) := by
  unfold spotF
  rw [if_neg (by omega), show (i * 2 + 1) / 2 = i by omega]
theorem spots_made (w : World) (n : Nat) : (w.alloc (.cells (madeCells #[.slice none 0 0, .bool false] (n * 2)) 50)).rowIs w.heap.size 50 (n * 2) (spotF (fun _ => .slice none 0 0) (fun _ => false)) := by
  refine ⟨_, blk_new _ _, size_madeCells _ _, fun i hi => ?_⟩
  unfold spotF
  simp only [madeCells]
  rcases Nat.mod_two_eq_zero_or_one i with h | h
  · simp [hi, h]
  · simp [hi, h]
theorem spots_text {w : World} {g n : Nat} {T : Nat → Value} {G : Nat → Bool} (h : w.rowIs g 50 n (spotF T G)) (i : Nat) (v : Value) : (w.setCell ⟨g, i * 2, none⟩ v).rowIs g 50 n (spotF (fun j => if j = i then v else T j) G) := by
  refine (h.set (i * 2) v).congr fun c hc => ?_
  unfold spotF
  rcases Nat.mod_two_eq_zero_or_one c with h | h
  · rw [if_pos h]
    by_cases he : c = i * 2
    · rw [if_pos he, if_pos h]
      show v = if c / 2 = i then v else _
      rw [if_pos (by omega)]
    · rw [if_neg he, if_pos h]
      show _ = if c / 2 = i then v else _
      rw [if_neg (by omega)]
  · rw [if_neg (by omega), if_neg (by omega), if_neg (by omega)]
theorem spots_gone {w : World} {g n : Nat} {T : Nat → Value} {G : Nat → Bool} (h : w.rowIs g 50 n (spotF T G)) (i : Nat) : (w.setCell ⟨g, i * 2 + 1, none⟩ (.bool true)).rowIs g 50 n (spotF T (fun j => if j = i then true else G j)) := by
  refine (h.set (i * 2 + 1) (.bool true)).congr fun c hc => ?_
  unfold spotF
  rcases Nat.mod_two_eq_zero_or_one c with h | h
  · rw [if_neg (by omega), if_pos h, if_pos h]
  · rw [if_neg (by omega : ¬ c % 2 = 0), if_neg (by omega : ¬ c % 2 = 0)]
    by_cases he : c = i * 2 + 1
    · rw [if_pos he]
      show _ = Value.bool (if c / 2 = i then true else _)
      rw [if_pos (by omega)]
    · rw [if_neg he]
      show _ = Value.bool (if c / 2 = i then true else _)
      rw [if_neg (by omega)]
/-- What spread leaves. -/
def Spots (w : World) (v : Value) (B n : Nat) (ns : List Nsp) : Prop :=
  ∃ (g : Nat) (T : Nat → Value), v = .slice (some ⟨g, 0, none⟩) (n + 1) (n + 1) ∧ B ≤ g ∧ g < w.heap.size ∧ ∀ i, i ≤ n → w.cell? ⟨g, i * 2, none⟩ = some (T i) ∧ w.cell? ⟨g, i * 2 + 1, none⟩ = some (.bool (gon ns i)) ∧ Reads w (T i) (txt ns i)
theorem Spots.below {w w' : World} {v : Value} {B n : Nat} {ns : List Nsp} (h : Spots w v B n ns) (hb : Below w.heap.size w w') : Spots w' v B n ns := by
  obtain ⟨g, T, h1, h2, h3, h4⟩ := h
  exact ⟨g, T, h1, h2, Nat.lt_of_lt_of_le h3 hb.size, fun i hi => ⟨(hb.cell (by exact h3)).trans (h4 i hi).1, (hb.cell (by exact h3)).trans (h4 i hi).2.1, (h4 i hi).2.2.below hb⟩⟩
theorem Boxed.set {w : World} {b : Nat} {f t : Int} {v : Value} (h : Boxed w b f t v) {p : Addr} (hp : b ≠ p.block) (u : Value) : Boxed (w.setCell p u) b f t v := by
  have hb : (w.setCell p u).heap[b]? = w.heap[b]? := blk_other _ _ _ _ hp
  exact ⟨by rw [show (w.setCell p u).heap.size = w.heap.size by simp [World.setCell]]; exact h.1, (World.cell?_of_block (by exact hb)).trans h.2.1, (World.cell?_of_block (by exact hb)).trans h.2.2.1, (World.cell?_of_block (by exact hb)).trans h.2.2.2⟩

set_option maxRecDepth 100000 in
set_option maxHeartbeats 4000000 in
theorem spread_any (v : Value) (N : Nat) (ns : List Nsp) (w : World) (h2 : ReadsE w v (ups ns)) (hO : Okay N 0 ns) (hN : N ≤ 4096) :
    Calls Try.prog 19 #[.int .i64 (N : Int), v] w fun e w' => Below w.heap.size w w' ∧ ∃ v', e = .returned v' ∧ Spots w' v' w.heap.size N ns := by
  obtain ⟨a2, cap2, rfl⟩ := h2.shape
  rw [ups_len] at h2 ⊢
  have HE1 : Hid (∀ k, k < ns.length → ∃ b off, a2 = some ⟨b, off, none⟩ ∧ b < w.heap.size ∧ SplAt w b (off + k * 3) ((ups ns).getD k spl0)) := by
    have h3 : ReadsE w (.slice a2 (ups ns).length cap2) (ups ns) := by rw [ups_len]; exact h2
    intro k hk
    exact h3.each k (by rw [ups_len]; exact hk)
  have hcnt := hO.count
  have HO : Hid (Okay N 0 ns) := hO
  clear h2 hO
  obtain ⟨i0, hi, hz0, hz1, hz2⟩ := info_parts info57
  have hmk : ∀ w : World, (Instr.makeSlice 44 (.int .i64 ((N : Int) + 1)) (.int .i64 ((N : Int) + 1))).run Try.prog w = .ok (.slice (some ⟨w.heap.size, 0, none⟩) (N + 1) (N + 1)) (w.alloc (.cells (madeCells #[.slice none 0 0, .bool false] ((N + 1) * 2)) 50)) := by
    intro w
    have hr := run_make (P := Try.prog) w 44 50 i0 _ Try.underlying44 hi hz0 .i64 .i64 ((N : Int) + 1) ((N : Int) + 1) (by omega) (Int.le_refl _) (by rw [hz2]; omega) (by omega)
    rw [hz1] at hr
    have e : ((N : Int) + 1).toNat = N + 1 := by omega
    rw [e] at hr
    exact hr
  clear hi hz0 hz1 hz2
  go_enter Try.func19, Try.ntmps19
  go_wp2_with fail
  obtain ⟨g, hg⟩ : ∃ g, g = w.heap.size := ⟨_, rfl⟩
  have HW0 : Hid ((w.alloc (.cells (madeCells #[.slice none 0 0, .bool false] ((N + 1) * 2)) 50)).rowIs g 50 ((N + 1) * 2) (spotF (fun _ => .slice none 0 0) (gon (ns.take 0)))) := by
    rw [hg]
    exact spots_made w (N + 1)
  have HB0 : Hid (Below w.heap.size w (w.alloc (.cells (madeCells #[.slice none 0 0, .bool false] ((N + 1) * 2)) 50))) := box_below _ _
  have Hg : Hid (w.heap.size ≤ g) := by rw [hg]; exact Nat.le_refl _
  rw [← hg]
  clear hmk hg
  go_loopw [14] (fun u14 wr => ∃ (k : Nat) (T : Nat → Value), u14 = .int .i64 (k : Int) ∧ k ≤ ns.length ∧ Hid (wr.rowIs g 50 ((N + 1) * 2) (spotF T (gon (ns.take k)))) ∧ Hid (∀ i, Reads w (T i) (txt (ns.take k) i)) ∧ Hid (Below w.heap.size w wr))
    (fun u14 _ => ns.length - (intOf u14).toNat)
  case atStart => exact ⟨0, fun _ => .slice none 0 0, rfl, Nat.zero_le _, HW0.out, fun i => .inl ⟨_, _, rfl, rfl⟩, HB0.out⟩
  case round =>
    obtain ⟨k, T, rfl, hk, Hrow, HT, Hb⟩ := hrel
    have hbs := Hb.out.size
    have hgl := Hrow.out.lt
    by_cases hlt : k < ns.length
    · obtain ⟨s, hs1, hs2, hs3⟩ := ups_at ns k hlt
      obtain ⟨b, off, hae, hbl, hsp⟩ := HE1.out k hlt
      subst hae
      have hsp2 := hsp.below Hb.out hbl
      rw [hs2] at hsp hsp2
      have hst := HO.out.at_ k hs3
      have hTk : ns.take (k + 1) = ns.take k ++ [s] := by rw [List.take_add_one, hs3]; rfl
      clear hs1 hs2 hs3
      obtain ⟨f, t, x⟩ := s
      obtain ⟨c0, c1, _, a3, cap3, c2, _⟩ := hsp2
      obtain ⟨_, _, _, a3', cap3', c2', hrx⟩ := hsp
      have hcc : wr.cell? ⟨b, off + k * 3 + 2, none⟩ = w.cell? ⟨b, off + k * 3 + 2, none⟩ := Hb.out.cell (by exact hbl)
      rw [hcc, c2'] at c2
      have hcv := Option.some.inj c2
      rw [hcv] at c2' hrx
      have c2w : wr.cell? ⟨b, off + k * 3 + 2, none⟩ = some (.slice a3 x.length cap3) := hcc.trans c2'
      clear hcc c2' c2 hcv
      simp only [up] at c0 c1 hrx
      simp only at hst
      obtain ⟨_, g2, g3⟩ := hst
      have HRX : Hid (Reads w (.slice a3 x.length cap3) x) := hrx
      have HTk : Hid (ns.take (k + 1) = ns.take k ++ [(f, t, x)]) := hTk
      clear hrx hTk
      have i1 : (f : Int) < (N : Int) + 1 := by omega
      have d1 : ∀ o, (wr.alloc o).cell? ⟨g, f * 2, none⟩ = some (T f) := fun o => by
        rw [(Hrow.out.alloc o).cell (by omega), spotF_text]
      have d2 : ∀ o, (wr.alloc o).frozen? ⟨g, f * 2, none⟩ = false := fun o => (Hrow.out.alloc o).frozen _
      have Hbox : Hid (Boxed ((wr.setCell ⟨g, f * 2, none⟩ (.slice a3 x.length cap3)).alloc (.cells #[.int .i64 (f : Int), .int .i64 (t : Int), .slice a3 x.length cap3] 30)) wr.heap.size f t (.slice a3 x.length cap3)) := by
        have h := boxed_new (wr.setCell ⟨g, f * 2, none⟩ (.slice a3 x.length cap3)) (f : Int) (t : Int) (.slice a3 x.length cap3)
        rw [show (wr.setCell ⟨g, f * 2, none⟩ (.slice a3 x.length cap3)).heap.size = wr.heap.size by simp [World.setCell]] at h
        exact h
      have HrowA : Hid (((wr.setCell ⟨g, f * 2, none⟩ (.slice a3 x.length cap3)).alloc (.cells #[.int .i64 (f : Int), .int .i64 (t : Int), .slice a3 x.length cap3] 30)).rowIs g 50 ((N + 1) * 2) (spotF (fun j => if j = f then .slice a3 x.length cap3 else T j) (gon (ns.take k)))) := (spots_text Hrow.out f _).alloc _
      have HbA : Hid (Below w.heap.size w ((wr.setCell ⟨g, f * 2, none⟩ (.slice a3 x.length cap3)).alloc (.cells #[.int .i64 (f : Int), .int .i64 (t : Int), .slice a3 x.length cap3] 30))) := (Hb.out.setCell (by exact Hg.out) _).alloc (by rw [show (wr.setCell ⟨g, f * 2, none⟩ (.slice a3 x.length cap3)).heap.size = wr.heap.size by simp [World.setCell]]; exact hbs) _
      have HT2 : Hid (∀ i, Reads w (if i = f then .slice a3 x.length cap3 else T i) (txt (ns.take (k + 1)) i)) := by
        intro i
        rw [HTk.out, txt_more]
        by_cases hif : i = f
        · rw [if_pos hif, if_pos hif.symm]
          exact HRX.out
        · rw [if_neg hif, if_neg (fun h => hif h.symm)]
          exact HT.out i
      go_wp2_with fail
      obtain ⟨W, hW⟩ : ∃ W, W = (wr.setCell ⟨g, f * 2, none⟩ (.slice a3 x.length cap3)).alloc (.cells #[.int .i64 (f : Int), .int .i64 (t : Int), .slice a3 x.length cap3] 30) := ⟨_, rfl⟩
      obtain ⟨bw, hbw⟩ : ∃ bw, bw = wr.heap.size := ⟨_, rfl⟩
      have hgw : g ≠ bw := by omega
      obtain ⟨T2, hT2⟩ : ∃ T2 : Nat → Value, T2 = fun j => if j = f then .slice a3 x.length cap3 else T j := ⟨_, rfl⟩
      rw [← hW] at Hbox HrowA HbA ⊢
      rw [← hbw] at Hbox ⊢
      rw [← hT2] at HrowA
      have HT3 : Hid (∀ i, Reads w (T2 i) (txt (ns.take (k + 1)) i)) := by
        rw [hT2]
        exact HT2.out
      have HR0 : Hid (W.rowIs g 50 ((N + 1) * 2) (spotF T2 (fun i => gon (ns.take k) i || (decide (f ≤ i) && decide (i < f))))) := by
        have e : (fun i => gon (ns.take k) i || (decide (f ≤ i) && decide (i < f))) = gon (ns.take k) := by
          funext i
          by_cases h : i < f
          · rw [decide_eq_false (by omega : ¬ f ≤ i), Bool.false_and, Bool.or_false]
          · rw [decide_eq_false h, Bool.and_false, Bool.or_false]
        rw [e]
        exact HrowA.out
      clear hW hbw hT2 HT2 HT HRX d1 d2 c0 c1 c2w HrowA Hrow Hb hbs hgl
      go_loopw [8] (fun u8 wi => ∃ (j : Nat), u8 = .int .i64 (j : Int) ∧ f ≤ j ∧ j ≤ t ∧ Hid (wi.rowIs g 50 ((N + 1) * 2) (spotF T2 (fun i => gon (ns.take k) i || (decide (f ≤ i) && decide (i < j))))) ∧ Hid (Boxed wi bw f t (.slice a3 x.length cap3)) ∧ Hid (Below w.heap.size w wi))
        (fun u8 _ => t - (intOf u8).toNat)
      case atStart => exact ⟨f, rfl, Nat.le_refl _, g2, HR0.out, Hbox.out, HbA.out⟩
      case round =>
        obtain ⟨j, rfl, hj1, hj2, Hrow, Hbx, Hbi⟩ := hrel
        obtain ⟨_, y1, y2, y3⟩ := Hbx.out
        by_cases hjt : j < t
        · have i2 : (j : Int) < (t : Int) := by omega
          have i3 : (j : Int) < (N : Int) + 1 := by omega
          have e1 : wr.cell? ⟨g, j * 2 + 1, none⟩ = some (.bool (gon (ns.take k) j || (decide (f ≤ j) && decide (j < j)))) := by
            rw [Hrow.out.cell (by omega), spotF_gone]
          have e2 : wr.frozen? ⟨g, j * 2 + 1, none⟩ = false := Hrow.out.frozen _
          have HR1 : Hid ((wr.setCell ⟨g, j * 2 + 1, none⟩ (.bool true)).rowIs g 50 ((N + 1) * 2) (spotF T2 (fun i => gon (ns.take k) i || (decide (f ≤ i) && decide (i < j + 1))))) := by
            have h := spots_gone Hrow.out j
            have e : (fun i => if i = j then true else (gon (ns.take k) i || (decide (f ≤ i) && decide (i < j)))) = (fun i => gon (ns.take k) i || (decide (f ≤ i) && decide (i < j + 1))) := by
              funext i
              by_cases h : i = j
              · rw [if_pos h, decide_eq_true (by omega : f ≤ i), decide_eq_true (by omega : i < j + 1), Bool.and_true, Bool.or_true]
              · rw [if_neg h, show decide (i < j + 1) = decide (i < j) from decide_eq_decide.2 (by omega)]
            rw [e] at h
            exact h
          have HX1 : Hid (Boxed (wr.setCell ⟨g, j * 2 + 1, none⟩ (.bool true)) bw f t (.slice a3 x.length cap3)) := Hbx.out.set (Ne.symm hgw) _
          have HB1 : Hid (Below w.heap.size w (wr.setCell ⟨g, j * 2 + 1, none⟩ (.bool true))) := Hbi.out.setCell (by exact Hg.out) _
          generalize (gon (ns.take k) j || (decide (f ≤ j) && decide (j < j))) = q at e1
          go_wp2_with fail
          go_roundw
          case rel => exact ⟨j + 1, by go_num, by omega, by omega, HR1.out, HX1.out, HB1.out⟩
          case measure => simp [intOf] <;> omega
        · obtain rfl : j = t := by omega
          have HR1 : Hid (wr.rowIs g 50 ((N + 1) * 2) (spotF T2 (gon (ns.take (k + 1))))) := by
            have e : (fun i => gon (ns.take k) i || (decide (f ≤ i) && decide (i < j))) = gon (ns.take (k + 1)) := by
              funext i
              rw [HTk.out, gon_more]
            rw [← e]
            exact Hrow.out
          go_wp2_with fail
          go_roundw
          case rel => exact ⟨k + 1, T2, by go_num, by omega, HR1.out, HT3.out, Hbi.out⟩
          case measure => simp [intOf] <;> omega
    · obtain rfl : k = ns.length := by omega
      have HS : Hid (Spots wr (.slice (some ⟨g, 0, none⟩) (N + 1) (N + 1)) w.heap.size N ns) := by
        have h1 := Hrow.out
        have h2 := HT.out
        rw [List.take_length] at h1 h2
        refine ⟨g, T, rfl, Hg.out, h1.lt, fun i hi => ⟨?_, ?_, (h2 i).below Hb.out⟩⟩
        · rw [h1.cell (by omega), spotF_text]
        · rw [h1.cell (by omega), spotF_gone]
      go_wp2_with fail
      go_ret
      exact ⟨Hb.out, _, rfl, HS.out⟩
end Go.Proofs.Ytpgecholpbpakab.Seek
