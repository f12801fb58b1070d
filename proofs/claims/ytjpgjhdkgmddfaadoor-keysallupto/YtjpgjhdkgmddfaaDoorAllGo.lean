/- The contract of keys.All. -/
import Derived.Test.YtjpgjhdkgmddfaaDoorStep
import Derived.Test.YtjpgjhdkgmddfaaDoorCmdRows
import Derived.Test.YtjpgjhdkgmddfaaDoorAll
set_option linter.unusedVariables false
set_option linter.unusedSimpArgs false
namespace Go.Proofs.YtjpgjhdkgmddfaaDoor.Seek
open Go.RowKit Plain

/-- What All tells. -/
def AllPost (l : List Int) (w : World) (e : Ending) (w' : World) : Prop := ∃ v, e = .returned (.tuple #[v, fv (allk l).2.1, .int .i64 ((allk l).2.2 : Int)]) ∧ OwnC w' w.heap.size v (allk l).1 ∧ Below w.heap.size w w'
theorem ret_all {fn : Func} {R : Ending → World → Prop} {a : Act} {w : World} (i j k : Nat) (hres : fn.results = #[.tmp i, .cell j 27, .tmp k]) (g : Nat) (hj : a.tmps.getD j undef = .pointer (some ⟨g, 0, none⟩)) (p : Five) (v : Value) (n : Int)
    (hi : a.tmps.getD i undef = v) (hk : a.tmps.getD k undef = .int .i64 n) (h1 : BoxF w 27 g p) (hd : a.defers = []) (hR : R (.returned (.tuple #[v, fv p, .int .i64 n])) w) : bodyPost Tryd.prog fn R .ret a w := by
  refine bodyPost_ret (v := .tuple #[v, fv p, .int .i64 n]) ?_ hd hR
  have h3 : (results fn a.tmps).run Tryd.prog w = ((asAddr (a.tmps.getD j undef)).run Tryd.prog w).andThen fun x w₁ => ((loadVar 27 x).run Tryd.prog w₁).andThen fun u w₂ => .ok (.tuple #[a.tmps.getD i undef, u, a.tmps.getD k undef]) w₂ := by
    simp only [results, hres]
    simp [Sem.run_bind, Result.andThen]
  rw [h3, hi, hj, hk]
  simp only [asAddr, Sem.run_pure, Result.andThen_ok, load_row (.inl rfl) h1]
theorem grown_row (w : World) (g : Nat) (q : Array Value) : w.grownBy (w.setRow g q) (some g) := ⟨rfl, rfl, rfl, by rw [setRow_size]; exact Nat.le_refl _, fun k _ hk => setRow_other w g k q (fun e => hk (by rw [e]))⟩
theorem two_parts (w : World) : BoxF ((w.alloc (.cells #[.int .i64 0, .int .i64 0, .int .i64 0, .int .i64 0, .int .i64 0] 27)).alloc (.cells #[.int .i64 0, .int .i64 0, .int .i64 0, .int .i64 0, .int .i64 0] 27)) 27 w.heap.size zer ∧
    BoxF ((w.alloc (.cells #[.int .i64 0, .int .i64 0, .int .i64 0, .int .i64 0, .int .i64 0] 27)).alloc (.cells #[.int .i64 0, .int .i64 0, .int .i64 0, .int .i64 0, .int .i64 0] 27)) 27 (w.heap.size + 1) zer ∧
    Below w.heap.size w ((w.alloc (.cells #[.int .i64 0, .int .i64 0, .int .i64 0, .int .i64 0, .int .i64 0] 27)).alloc (.cells #[.int .i64 0, .int .i64 0, .int .i64 0, .int .i64 0, .int .i64 0] 27)) := two_new w zer
theorem two_sizes (w : World) (o1 o2 : Obj) : ((w.alloc o1).alloc o2).heap.size = w.heap.size + 2 := by rw [size_alloc, size_alloc]
theorem two_is (w : World) (p0 p1 p2 p3 p4 q0 q1 q2 q3 q4 : Int) : BoxF ((w.alloc (.cells #[.int .i64 p0, .int .i64 p1, .int .i64 p2, .int .i64 p3, .int .i64 p4] 27)).alloc (.cells #[.int .i64 q0, .int .i64 q1, .int .i64 q2, .int .i64 q3, .int .i64 q4] 24)) 27 w.heap.size (p0, p1, p2, p3, p4) ∧
    BoxF ((w.alloc (.cells #[.int .i64 p0, .int .i64 p1, .int .i64 p2, .int .i64 p3, .int .i64 p4] 27)).alloc (.cells #[.int .i64 q0, .int .i64 q1, .int .i64 q2, .int .i64 q3, .int .i64 q4] 24)) 24 (w.heap.size + 1) (q0, q1, q2, q3, q4) ∧
    Below w.heap.size w ((w.alloc (.cells #[.int .i64 p0, .int .i64 p1, .int .i64 p2, .int .i64 p3, .int .i64 p4] 27)).alloc (.cells #[.int .i64 q0, .int .i64 q1, .int .i64 q2, .int .i64 q3, .int .i64 q4] 24)) :=
  two_boxes w (p0, p1, p2, p3, p4) (q0, q1, q2, q3, q4)
/-- What a round of All finds: the variable g of the part so far, the commands behind block B. -/
def AllAt (w wr : World) (g0 g B : Nat) (v : Value) (x : Sofar) : Prop := BoxF wr 27 g0 zer ∧ BoxF wr 27 g x.2.1 ∧ OwnC wr B v x.1 ∧ Below w.heap.size w wr ∧ B ≤ wr.heap.size
theorem AllAt.below {w wr w' : World} {g0 g B : Nat} {v : Value} {x : Sofar} (h : AllAt w wr g0 g B v x) (hb : Below wr.heap.size wr w') : AllAt w w' g0 g B v x :=
  ⟨h.1.below hb, h.2.1.below hb, h.2.2.1.below hb, h.2.2.2.1.trans (hb.mono h.2.2.2.1.size), Nat.le_trans h.2.2.2.2 hb.size⟩
theorem AllAt.part {w wr : World} {g0 g B : Nat} {v : Value} {x : Sofar} (h : AllAt w wr g0 g B v x) (p : Five) (y : Sofar) (hy : y = (x.1, p, y.2.2)) (h0 : g0 < g) (hg : g < B) (hw : w.heap.size ≤ g) : AllAt w (wr.setRow g (row5 p)) g0 g B v y := by
  rw [hy]
  exact ⟨h.1.other _ (by omega), h.2.1.row _, h.2.2.1.row _ hg, below_row h.2.2.2.1 hw _, by rw [setRow_size]; exact h.2.2.2.2⟩

set_option maxRecDepth 100000 in
set_option maxHeartbeats 4000000 in
theorem all_go (v : Value) (l : List Int) (w : World) (hp : Reads w v l) (hl : l.length * 40 ≤ 140737488355328) : Calls Tryd.prog 6 #[v] w fun e w' => AllPost l w e w' := by
  obtain ⟨a, cap, rfl⟩ := hp.shape
  have HP : Hid (Reads w (.slice a l.length cap) l) := hp
  clear hp
  go_enter Tryd.func6, Tryd.ntmps6
  go_wp2_with fail
  have HZ : Hid _ := two_parts w
  have HA : Hid (AllAt w ((w.alloc (.cells #[.int .i64 0, .int .i64 0, .int .i64 0, .int .i64 0, .int .i64 0] 27)).alloc (.cells #[.int .i64 0, .int .i64 0, .int .i64 0, .int .i64 0, .int .i64 0] 27)) w.heap.size (w.heap.size + 1) (w.heap.size + 2) (.slice none 0 0) ([], zer, 0)) := ⟨HZ.out.1, HZ.out.2.1, ownC_nil _ _, HZ.out.2.2, by rw [two_sizes]; exact Nat.le_refl _⟩
  clear HZ
  generalize ((w.alloc (.cells #[.int .i64 0, .int .i64 0, .int .i64 0, .int .i64 0, .int .i64 0] 27)).alloc (.cells #[.int .i64 0, .int .i64 0, .int .i64 0, .int .i64 0, .int .i64 0] 27)) = w1 at *
  go_loopw [5, 7, 15] (fun u5 u7 u15 wr => ∃ (i : Nat) (x : Sofar), i ≤ l.length ∧ u15 = .int .i64 (i : Int) ∧ u7 = .int .i64 (x.2.2 : Int) ∧ Hid (allk (l.take i) = x) ∧ Hid (AllAt w wr w.heap.size (w.heap.size + 1) (w.heap.size + 2) u5 x))
    (fun _ _ u15 _ => l.length - (intOf u15).toNat)
  case atStart => exact ⟨0, _, by omega, rfl, rfl, rfl, HA.out⟩
  case round =>
    obtain ⟨i, x, hi, rfl, rfl, Hx, Ha⟩ := hrel
    have HI : Hid (okp x.2.1 ∧ x.1.length ≤ i ∧ x.2.2 ≤ i) := by
      have := allk_inv (l.take i)
      rw [Hx.out] at this
      have hl2 : (l.take i).length ≤ i := List.length_take_le _ _
      exact ⟨this.1, Nat.le_trans this.2.1 hl2, Nat.le_trans this.2.2 hl2⟩
    by_cases hlt : i < l.length
    · have hilt : (i : Int) < (l.length : Int) := by omega
      obtain ⟨b, off, hab, hbl, hcx⟩ := reads_at HP.out i hlt
      subst hab
      have hcx' : wr.cell? ⟨b, off + i, none⟩ = some (.int .i64 (l.getD i 0)) := (Ha.out.2.2.2.1.cell (by exact hbl)).trans hcx
      have Ht : Hid (allk (l.take (i + 1)) = onek x (l.getD i 0)) := by show _ = _; rw [allk_take l i hlt, Hx.out]
      obtain ⟨k, hk⟩ : ∃ k, k = l.getD i 0 := ⟨_, rfl⟩
      rw [← hk] at hcx' Ht
      have hn9 : x.2.2 ≤ i := HI.out.2.2
      have HC8 : Hid ((x.1.length + 1) * 40 ≤ 140737488355328) := by have := HI.out.2.1; show _ ≤ _; omega
      clear hcx hk Hx
      obtain ⟨cs, ⟨f, r, o, s, t⟩, n⟩ := x
      have HS : Hid (∀ w1, Calls Tryd.prog 14 #[.agg #[.int .i64 f, .int .i64 r, .int .i64 o, .int .i64 s, .int .i64 t], .int .i64 k] w1 fun e w' => TookPost (stp f r o s t k) w1 e w') := fun w1 => step_go f r o s t k w1 HI.out.1
      have hhow := how_cases f r o s t k
      obtain ⟨R, hR⟩ : ∃ R, R = stp f r o s t k := ⟨_, rfl⟩
      have Ht2 : Hid (allk (l.take (i + 1)) = (if R.2.2 = 2 then cs ++ [R.2.1] else cs, R.1, if R.2.2 = 3 then n + 1 else n)) := by show _ = _; rw [Ht.out, hR]; rfl
      rw [← hR] at HS hhow
      clear hR HI Ht
      obtain ⟨⟨n0, n1, n2, n3, n4⟩, ⟨q0, q1, q2, q3, q4⟩, m⟩ := R
      simp only at hhow hn9
      have c0 := Ha.out.2.1.c0
      have c1 := Ha.out.2.1.c1
      have c2 := Ha.out.2.1.c2
      have c3 := Ha.out.2.1.c3
      have c4 := Ha.out.2.1.c4
      simp only at c0 c1 c2 c3 c4
      go_wp2_with fail
      refine (HS.out _).mono ?_
      rintro e w2 ⟨rfl, hb⟩
      have Ha2 : Hid (AllAt w w2 w.heap.size (w.heap.size + 1) (w.heap.size + 2) u5 (cs, (f, r, o, s, t), n)) := Ha.out.below hb
      clear Ha hb HS c0 c1 c2 c3 c4 hcx'
      simp only [fv]
      have HB : Hid _ := two_is w2 n0 n1 n2 n3 n4 q0 q1 q2 q3 q4
      have Ha3 : Hid (AllAt w ((w2.alloc (.cells #[.int .i64 n0, .int .i64 n1, .int .i64 n2, .int .i64 n3, .int .i64 n4] 27)).alloc (.cells #[.int .i64 q0, .int .i64 q1, .int .i64 q2, .int .i64 q3, .int .i64 q4] 24)) w.heap.size (w.heap.size + 1) (w.heap.size + 2) u5 (cs, (f, r, o, s, t), n)) := Ha2.out.below HB.out.2.2
      have HL : Hid (w.heap.size + 1 < w2.heap.size) := Ha2.out.2.1.lt
      rcases hhow with rfl | rfl | rfl
      · have Ht3 : Hid (allk (l.take (i + 1)) = (cs, (n0, n1, n2, n3, n4), n)) := Ht2.out
        clear Ht2
        go_wp2_with (first | (refine storeF rfl 27 _ _ rfl (.inl rfl) (w.heap.size + 1) rfl (n0, n1, n2, n3, n4) (f, r, o, s, t) rfl Ha3.out.2.1 ?_))
        go_roundw
        case rel => exact ⟨i + 1, _, by omega, by go_num, rfl, Ht3.out, Ha3.out.part _ _ rfl (by omega) (by omega) (by omega)⟩
        case measure => simp [intOf]; omega
      · have Ht3 : Hid (allk (l.take (i + 1)) = (cs ++ [(q0, q1, q2, q3, q4)], (n0, n1, n2, n3, n4), n)) := Ht2.out
        clear Ht2
        have HBN : Hid (BoxF (((w2.alloc (.cells #[.int .i64 n0, .int .i64 n1, .int .i64 n2, .int .i64 n3, .int .i64 n4] 27)).alloc (.cells #[.int .i64 q0, .int .i64 q1, .int .i64 q2, .int .i64 q3, .int .i64 q4] 24)).alloc (.cells #[.int .i64 q0, .int .i64 q1, .int .i64 q2, .int .i64 q3, .int .i64 q4] 24)) 24 (w2.heap.size + 1 + 1) (q0, q1, q2, q3, q4)) := by
          have := BoxF.new ((w2.alloc (.cells #[.int .i64 n0, .int .i64 n1, .int .i64 n2, .int .i64 n3, .int .i64 n4] 27)).alloc (.cells #[.int .i64 q0, .int .i64 q1, .int .i64 q2, .int .i64 q3, .int .i64 q4] 24)) 24 (q0, q1, q2, q3, q4)
          rw [size_alloc, size_alloc] at this
          exact this
        go_wp2_with (first | (at_builtin; refine append_cmd rfl _ _ rfl (w.heap.size + 2) u5 cs (q0, q1, q2, q3, q4) (w2.heap.size + 1 + 1) 1 (cs ++ [(q0, q1, q2, q3, q4)]) rfl rfl (OwnC.alloc Ha3.out.2.2.1 _) rfl HBN.out HC8.out (by rw [size_alloc, two_sizes]; have := HL.out; omega) ?_))
        intro v4 w4 ho4 hg4 hb4
        have HBA : Hid (Below ((w2.alloc (.cells #[.int .i64 n0, .int .i64 n1, .int .i64 n2, .int .i64 n3, .int .i64 n4] 27)).alloc (.cells #[.int .i64 q0, .int .i64 q1, .int .i64 q2, .int .i64 q3, .int .i64 q4] 24)).heap.size ((w2.alloc (.cells #[.int .i64 n0, .int .i64 n1, .int .i64 n2, .int .i64 n3, .int .i64 n4] 27)).alloc (.cells #[.int .i64 q0, .int .i64 q1, .int .i64 q2, .int .i64 q3, .int .i64 q4] 24)) (((w2.alloc (.cells #[.int .i64 n0, .int .i64 n1, .int .i64 n2, .int .i64 n3, .int .i64 n4] 27)).alloc (.cells #[.int .i64 q0, .int .i64 q1, .int .i64 q2, .int .i64 q3, .int .i64 q4] 24)).alloc (.cells #[.int .i64 q0, .int .i64 q1, .int .i64 q2, .int .i64 q3, .int .i64 q4] 24))) := box_below _ _
        have Ha4 : Hid (AllAt w w4 w.heap.size (w.heap.size + 1) (w.heap.size + 2) v4 (cs ++ [(q0, q1, q2, q3, q4)], (f, r, o, s, t), n)) := by
          have h5 := Ha3.out.below HBA.out
          have hlt5 := h5.2.2.1.lt
          exact ⟨h5.1.kept hg4 (fun e => by have := (hlt5 _ e.symm).1; omega), h5.2.1.kept hg4 (fun e => by have := (hlt5 _ e.symm).1; omega), ho4, h5.2.2.2.1.grown hg4 h5.2.2.2.1.size (fun j hj => by have := (hlt5 _ hj).1; omega), Nat.le_trans h5.2.2.2.2 hg4.size⟩
        have HBP : Hid (BoxF w4 27 w2.heap.size (n0, n1, n2, n3, n4)) := by
          have hlt5 := (OwnC.lt Ha3.out.2.2.1)
          refine (HB.out.1.below HBA.out).kept hg4 (fun e => ?_)
          have h2 := (OwnC.lt Ha2.out.2.2.1 _ e.symm).2
          omega
        have d0 := HBP.out.c0
        have d1 := HBP.out.c1
        have d2 := HBP.out.c2
        have d3 := HBP.out.c3
        have d4 := HBP.out.c4
        simp only at d0 d1 d2 d3 d4
        clear ho4 hg4 hb4 HBA HBN HB Ha3 Ha2 HC8
        go_wp2_with (first | (refine storeF rfl 27 _ _ rfl (.inl rfl) (w.heap.size + 1) rfl (n0, n1, n2, n3, n4) (f, r, o, s, t) rfl Ha4.out.2.1 ?_))
        go_roundw
        case rel => exact ⟨i + 1, _, by omega, by go_num, rfl, Ht3.out, Ha4.out.part _ _ rfl (by omega) (by omega) (by omega)⟩
        case measure => simp [intOf]; omega
      · have Ht3 : Hid (allk (l.take (i + 1)) = (cs, (n0, n1, n2, n3, n4), n + 1)) := Ht2.out
        clear Ht2
        have hlen : (l.length : Int) ≤ 140737488355328 := by omega
        have hni : (n : Int) ≤ (i : Int) := by omega
        go_wp2_with (first | (refine storeF rfl 27 _ _ rfl (.inl rfl) (w.heap.size + 1) rfl (n0, n1, n2, n3, n4) (f, r, o, s, t) rfl Ha3.out.2.1 ?_))
        go_roundw
        case rel => exact ⟨i + 1, (cs, (n0, n1, n2, n3, n4), n + 1), by omega, by go_num, by go_num, Ht3.out, Ha3.out.part _ _ rfl (by omega) (by omega) (by omega)⟩
        case measure => simp [intOf]; omega
    · obtain rfl : i = l.length := by omega
      have Hx2 : Hid (allk l = x) := by
        show allk l = x
        rw [← Hx.out, List.take_of_length_le (Nat.le_refl _)]
      clear Hx HI hlt
      obtain ⟨cs, ⟨f, r, o, s, t⟩, n⟩ := x
      go_wp2_with fail
      refine wp_region_held_drew (S := fun w' => BoxF w' 27 (w.heap.size + 1) (f, r, o, s, t)) (by kernel_rfl) Ha.out.2.1 (fun hHeld => ?_)
      refine wpAnyH_take (i := 0) (oi := ⟨some 39, .move (.tmp 5), 25, _, _, none⟩) (v := u5) rfl (by kernel_rfl) (by kernel_rfl) (by kernel_rfl) (fun _ _ _ h => h) (Or.inl ⟨by rfl, fun w hS => rfl⟩) hHeld ?_
      refine wpAnyH_take (i := 1) (oi := ⟨some 40, .load 27 (.tmp 6), 27, _, _, none⟩) (v := fv (f, r, o, s, t)) rfl (by kernel_rfl) (by kernel_rfl) (by kernel_rfl) (fun _ _ _ h => h) (Or.inl ⟨by rfl, fun w' hS => exec_load 27 _ rfl (.inl rfl) (w.heap.size + 1) rfl hS⟩) hHeld ?_
      refine wpAnyH_take (i := 2) (oi := ⟨some 41, .move (.tmp 7), 3, _, _, none⟩) (v := .int .i64 (n : Int)) rfl (by kernel_rfl) (by kernel_rfl) (by kernel_rfl) (fun _ _ _ h => h) (Or.inl ⟨by rfl, fun w hS => rfl⟩) hHeld ?_
      refine wpAnyH_take (i := 3) (oi := ⟨some 2, .assign (.tmp 39), 25, _, _, none⟩) (v := u5) rfl (by kernel_rfl) (by kernel_rfl) (by kernel_rfl) (fun _ _ _ h => h) (Or.inl ⟨by rfl, fun w hS => rfl⟩) hHeld ?_
      refine wpAnyH_ready (rs := [4]) (by kernel_rfl) (by simp) ?_
      refine AllReadyH.cons (o := ⟨none, .store 27 (.tmp 3) (.tmp 40), 0, _, _, none⟩) rfl (fun K hK => ?_) AllReadyH.nil
      refine step_storeF rfl 27 (.tmp 3) (.tmp 40) rfl (.inl rfl) w.heap.size rfl (f, r, o, s, t) zer rfl Ha.out.1 ?_
      refine hK.out _ _ (BoxF.other hHeld _ (by omega)) (fun hHeld => ?_)
      clear hK K
      refine wpAnyH_take (i := 5) (oi := ⟨some 4, .assign (.tmp 41), 3, _, _, none⟩) (v := .int .i64 (n : Int)) rfl (by kernel_rfl) (by kernel_rfl) (by kernel_rfl) (fun _ _ _ h => h) (Or.inl ⟨by rfl, fun w hS => rfl⟩) hHeld ?_
      refine wpAnyH_done (by kernel_rfl) ?_ _
      clear hHeld
      simp only [Act.put, List.setIfInBounds_toArray, List.set_cons_zero, List.set_cons_succ]
      go_wp2_with fail
      refine ret_all 2 3 4 Tryd.results6 w.heap.size rfl (f, r, o, s, t) u5 (n : Int) rfl rfl (BoxF.row (w := wr.drew) Ha.out.1 _) rfl ?_
      refine ⟨u5, by rw [Hx2.out], ?_, below_row (below_drewN Ha.out.2.2.2.1 1) (Nat.le_refl _) _⟩
      rw [Hx2.out]
      exact ((OwnC.below Ha.out.2.2.1 (below_drewN (Below.refl _ _) 1)).row _ (by omega)).less (by omega)
end Go.Proofs.YtjpgjhdkgmddfaaDoor.Seek
