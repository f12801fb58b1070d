/- The contract of splice.Over. -/
import Derived.Test.YtpgecholpbpakabStayGo
set_option linter.unusedVariables false
set_option linter.unusedSimpArgs false
namespace Go.Proofs.Ytpgecholpbpakab.Seek
open Go.RowKit Plain

/-- How what is gathered turns when something stays. -/
def Stays (D : List Nsp) (s : Nsp) (c : Nat) (D' : List Nsp) (s' : Nsp) : Prop :=
  (∀ L, D' ++ gat s' L = D ++ gat s (stayS c ++ L)) ∧ s'.2.1 ≤ s.2.1 + c ∧ s'.2.2.length ≤ s.2.2.length ∧ (D.length ≤ s.2.1 → D'.length ≤ s'.2.1) ∧ (0 < c → gat s' [] = [])
def GathN (w : World) (gb : Nat) (D : List Nsp) (s : Nsp) : Prop := Gath w gb D s.1 s.2.1 s.2.2
theorem flush_len (s : Nsp) : (flush s).length ≤ 1 := by
  unfold flush
  split
  · exact Nat.le_refl _
  · exact Nat.zero_le _
theorem stay_any (gb : Nat) (D : List Nsp) (s : Nsp) (c : Nat) (w : World) (h : GathN w gb D s) (hDl : D.length ≤ s.2.1) (hx : s.2.2.length ≤ 100000) (hkl : s.2.1 + c ≤ 100000) :
    Calls Try.prog 21 #[.pointer (some ⟨gb, 0, none⟩), .int .i64 (c : Int)] w fun e w' => e = .returned (.tuple #[]) ∧ Below gb w w' ∧ ∃ D' s', Stays D s c D' s' ∧ GathN w' gb D' s' := by
  by_cases hc : c = 0
  · subst hc
    refine (stay_zero gb w).mono ?_
    rintro e w' ⟨rfl, rfl⟩
    exact ⟨rfl, Below.refl _ _, D, s, ⟨fun L => rfl, by omega, Nat.le_refl _, fun h => h, fun h => by omega⟩, h⟩
  · refine (stay_some gb D (D ++ flush s) s.1 s.2.1 c (s.2.1 + c) s.2.2 w h (by omega) rfl rfl (by omega) hx (by omega)).mono ?_
    rintro e w' ⟨rfl, hg, hb⟩
    refine ⟨rfl, hb, D ++ flush s, (s.2.1 + c, s.2.1 + c, []), ⟨fun L => ?_, Nat.le_refl _, Nat.zero_le _, fun h => ?_, fun _ => by rw [gat_end, flush_none]⟩, hg⟩
    · rw [gat_stay c s L (by omega), List.append_assoc]
    · show (D ++ flush s).length ≤ s.2.1 + c
      have := flush_len s
      rw [List.length_append]
      omega
theorem putN (gb : Nat) (D : List Nsp) (s : Nsp) (y : List Int) (v : Value) (w : World) (h : GathN w gb D s) (hr : Reads w v y) (hl : s.2.2.length + y.length ≤ 100000) :
    Calls Try.prog 20 #[.pointer (some ⟨gb, 0, none⟩), v] w fun e w' => e = .returned (.tuple #[]) ∧ Below gb w w' ∧ GathN w' gb D (s.1, s.2.1, s.2.2 ++ y) := by
  refine (put_any gb D s.1 s.2.1 s.2.2 y (s.2.2 ++ y) v w h hr rfl (by rw [List.length_append]; exact hl)).mono ?_
  rintro e w' ⟨rfl, h1, h2⟩
  exact ⟨rfl, h2, h1⟩
theorem takeN (gb : Nat) (D : List Nsp) (s : Nsp) (w : World) (h : GathN w gb D s) (ht : s.2.1 ≤ 100000) :
    Calls Try.prog 22 #[.pointer (some ⟨gb, 0, none⟩)] w fun e w' => e = .returned (.tuple #[]) ∧ Below gb w w' ∧ GathN w' gb D (s.1, s.2.1 + 1, s.2.2) := by
  refine (take_any gb D s.1 s.2.1 s.2.2 w h (by omega)).mono ?_
  rintro e w' ⟨rfl, h1, h2⟩
  exact ⟨rfl, h2, h1⟩
/-- What Over has come to at a place. -/
def Come (n : Nat) (a b : List Nsp) (ahead : Bool) (O : List Nsp) (i : Nat) (D : List Nsp) (s : Nsp) : Prop := (i ≤ n ∧ D ++ gat s (sgs a b ahead i (n - i)) = O) ∨ (i = n + 1 ∧ D = O)
theorem come_start (n : Nat) (a b : List Nsp) (ahead : Bool) : Come n a b ahead (ovr n a b ahead) 0 [] (0, 0, []) := .inl ⟨Nat.zero_le _, rfl⟩
/-- A round behind the texts. -/
def Mid (n : Nat) (a b : List Nsp) (ahead : Bool) (O : List Nsp) (i : Nat) (D : List Nsp) (s : Nsp) : Prop :=
  (i < n ∧ D ++ gat s (sgChr a b i ++ sgs a b ahead (i + 1) (n - (i + 1))) = O) ∨ (i = n ∧ D ++ gat s [] = O)
theorem come_sgs {n : Nat} {a b : List Nsp} {ahead : Bool} {O : List Nsp} {i : Nat} {D : List Nsp} {s : Nsp} (h : Come n a b ahead O i D s) (hi : i ≤ n) :
    (i < n ∧ D ++ gat s (sgTxt a b ahead i ++ (sgChr a b i ++ sgs a b ahead (i + 1) (n - (i + 1)))) = O) ∨ (i = n ∧ D ++ gat s (sgTxt a b ahead i ++ []) = O) := by
  rcases h with ⟨_, h⟩ | ⟨h, _⟩
  · by_cases hn : i < n
    · rw [show n - i = (n - (i + 1)) + 1 by omega] at h
      exact .inl ⟨hn, h⟩
    · obtain rfl : i = n := by omega
      rw [Nat.sub_self] at h
      refine .inr ⟨rfl, ?_⟩
      rw [List.append_nil]
      exact h
  · omega
theorem mid_ahead {n : Nat} {a b : List Nsp} {O : List Nsp} {i : Nat} {D D' : List Nsp} {s s' : Nsp} (h : Come n a b true O i D s) (hi : i ≤ n) (hs : Stays D (s.1, s.2.1, s.2.2 ++ txt a i) (txt b i).length D' s') : Mid n a b true O i D' s' := by
  have e : ∀ L, gat s (sgTxt a b true i ++ L) = gat (s.1, s.2.1, s.2.2 ++ txt a i) (stayS (txt b i).length ++ L) := fun L => by
    unfold sgTxt
    simp only [if_true]
    rw [List.append_assoc, gat_put]
  rcases come_sgs h hi with ⟨h1, h2⟩ | ⟨h1, h2⟩
  · rw [e, ← hs.1] at h2
    exact .inl ⟨h1, h2⟩
  · rw [e, ← hs.1] at h2
    exact .inr ⟨h1, h2⟩
theorem mid_behind {n : Nat} {a b : List Nsp} {O : List Nsp} {i : Nat} {D D' : List Nsp} {s s' : Nsp} (h : Come n a b false O i D s) (hi : i ≤ n) (hs : Stays D s (txt b i).length D' s') : Mid n a b false O i D' (s'.1, s'.2.1, s'.2.2 ++ txt a i) := by
  have e : ∀ L, D ++ gat s (sgTxt a b false i ++ L) = D' ++ gat (s'.1, s'.2.1, s'.2.2 ++ txt a i) L := fun L => by
    unfold sgTxt
    simp only [Bool.false_eq_true, if_false]
    rw [List.append_assoc, ← hs.1, gat_put]
  rcases come_sgs h hi with ⟨h1, h2⟩ | ⟨h1, h2⟩
  · rw [e] at h2
    exact .inl ⟨h1, h2⟩
  · rw [e] at h2
    exact .inr ⟨h1, h2⟩
theorem come_gone {n : Nat} {a b : List Nsp} {ahead : Bool} {O : List Nsp} {i : Nat} {D : List Nsp} {s : Nsp} (h : Mid n a b ahead O i D s) (hb : gon b i = true) (hbn : gon b n = false) : Come n a b ahead O (i + 1) D s := by
  rcases h with ⟨h1, h2⟩ | ⟨h1, h2⟩
  · unfold sgChr at h2
    rw [if_pos hb] at h2
    exact .inl ⟨by omega, h2⟩
  · rw [h1, hbn] at hb
    cases hb
theorem come_take {n : Nat} {a b : List Nsp} {ahead : Bool} {O : List Nsp} {i : Nat} {D : List Nsp} {s : Nsp} (h : Mid n a b ahead O i D s) (hb : gon b i = false) (ha : gon a i = true) (han : gon a n = false) : Come n a b ahead O (i + 1) D (s.1, s.2.1 + 1, s.2.2) := by
  rcases h with ⟨h1, h2⟩ | ⟨h1, h2⟩
  · unfold sgChr at h2
    rw [hb, ha] at h2
    exact .inl ⟨by omega, h2⟩
  · rw [h1, han] at ha
    cases ha
theorem come_stay {n : Nat} {a b : List Nsp} {ahead : Bool} {O : List Nsp} {i : Nat} {D D' : List Nsp} {s s' : Nsp} (h : Mid n a b ahead O i D s) (hb : gon b i = false) (ha : gon a i = false) (hs : Stays D s 1 D' s') : Come n a b ahead O (i + 1) D' s' := by
  rcases h with ⟨h1, h2⟩ | ⟨h1, h2⟩
  · unfold sgChr at h2
    rw [hb, ha] at h2
    refine .inl ⟨by omega, ?_⟩
    rw [hs.1]
    exact h2
  · refine .inr ⟨by omega, ?_⟩
    have h3 := hs.1 []
    rw [hs.2.2.2.2 (by omega), List.append_nil] at h3
    rw [h3, ← h2]
    show D ++ gat s ((0, 0) :: []) = _
    rw [gat_stay1, gat_end, gat_end, flush_none, List.append_nil]
/-- What Over leaves, of right edits. -/
def OverPost (r : List Spl) (w : World) (e : Ending) (w' : World) : Prop := Below w.heap.size w w' ∧ ∃ v, e = .returned (.tuple #[v, .int .i64 0]) ∧ OwnE w' w.heap.size v r
theorem box54 (w : World) : Below w.heap.size w (w.alloc (.cells #[.slice none 0 0, .int .i64 0, .int .i64 0, .slice none 0 0] 47)) := box_below _ _

set_option maxRecDepth 100000 in
set_option maxHeartbeats 8000000 in
theorem over_ahead (v1 v2 : Value) (n : Nat) (a b : List Nsp) (w : World) (h1 : ReadsE w v1 (ups a)) (h2 : ReadsE w v2 (ups b)) (ha : Fits n a) (hb : Fits n b) :
    Calls Try.prog 9 #[.int .i64 (n : Int), v1, v2, .bool true] w fun e w' => OverPost (ups (ovr n a b true)) w e w' := by
  have hn := ha.1
  have HA : Hid (Fits n a) := ha
  have HBf : Hid (Fits n b) := hb
  have H1 : Hid (∀ wx, Below w.heap.size w wx → ReadsE wx v1 (ups a)) := fun wx hb => h1.below hb
  have H2 : Hid (∀ wx, Below w.heap.size w wx → ReadsE wx v2 (ups b)) := fun wx hb => h2.below hb
  have HBN : Hid (gon b n = false) := gon_end b 0 n hb.2.1 (Nat.le_refl _)
  have HAN : Hid (gon a n = false) := gon_end a 0 n ha.2.1 (Nat.le_refl _)
  have HSA : Hid (∀ k, sumTxt a k ≤ 4096) := fun k => Nat.le_trans (sumTxt_le a 0 ha.2.1 k) ha.puts_le
  have HSB : Hid (∀ k, sumTxt b k ≤ 4096) := fun k => Nat.le_trans (sumTxt_le b 0 hb.2.1 k) hb.puts_le
  obtain ⟨O, hO⟩ : ∃ O, O = ovr n a b true := ⟨_, rfl⟩
  rw [← hO]
  have HO : Hid (O = ovr n a b true) := hO
  clear h1 h2 ha hb hO
  go_enter Try.func9, Try.ntmps9
  go_wp2_with fail
  refine (check_any _ _ (ups a) w (H1.out w (Below.refl _ _))).mono ?_
  rw [HA.out.chk]
  rintro e w1 ⟨rfl, hb1⟩
  have HB1 : Hid (Below w.heap.size w w1) := hb1
  clear hb1
  go_wp2_with fail
  refine (check_any _ _ (ups b) w1 (H2.out w1 HB1.out)).mono ?_
  rw [HBf.out.chk]
  rintro e w2 ⟨rfl, hb2⟩
  have HB2 : Hid (Below w.heap.size w w2) := below_trans HB1.out hb2 HB1.out.size
  clear hb2 HB1
  go_wp2_with fail
  refine (spread_any _ n a w2 (H1.out w2 HB2.out) HA.out.2.1 hn).mono ?_
  rintro e w3 ⟨hb3, v3, rfl, hsp3⟩
  have HB3 : Hid (Below w.heap.size w w3) := below_trans HB2.out hb3 HB2.out.size
  have HS3 : Hid (Spots w3 v3 w2.heap.size n a) := hsp3
  clear hb3 hsp3
  go_wp2_with fail
  refine (spread_any _ n b w3 (H2.out w3 HB3.out) HBf.out.2.1 hn).mono ?_
  rintro e w4 ⟨hb4, v4, rfl, hsp4⟩
  have HB4 : Hid (Below w.heap.size w w4) := below_trans HB3.out hb4 HB3.out.size
  obtain ⟨g3, T3, hv3, _, hgl3, hT3⟩ := HS3.out.below hb4
  obtain ⟨g4, T4, hv4, _, hgl4, hT4⟩ := hsp4
  subst hv3 hv4
  have HT3 : Hid (∀ wx, Below w4.heap.size w4 wx → ∀ i, i ≤ n → wx.cell? ⟨g3, i * 2, none⟩ = some (T3 i) ∧ wx.cell? ⟨g3, i * 2 + 1, none⟩ = some (.bool (gon a i)) ∧ Reads wx (T3 i) (txt a i)) := fun wx hb i hi => ⟨(hb.cell (by exact hgl3)).trans (hT3 i hi).1, (hb.cell (by exact hgl3)).trans (hT3 i hi).2.1, (hT3 i hi).2.2.below hb⟩
  have HT4 : Hid (∀ wx, Below w4.heap.size w4 wx → ∀ i, i ≤ n → wx.cell? ⟨g4, i * 2, none⟩ = some (T4 i) ∧ wx.cell? ⟨g4, i * 2 + 1, none⟩ = some (.bool (gon b i)) ∧ Reads wx (T4 i) (txt b i)) := fun wx hb i hi => ⟨(hb.cell (by exact hgl4)).trans (hT4 i hi).1, (hb.cell (by exact hgl4)).trans (hT4 i hi).2.1, (hT4 i hi).2.2.below hb⟩
  clear hb4 HS3 hT3 hT4 HB3 HB2 hgl3 hgl4
  go_wp2_with fail
  obtain ⟨gb, hgbe⟩ : ∃ gb, gb = w4.heap.size := ⟨_, rfl⟩
  have HG0 : Hid (GathN (w4.alloc (.cells #[.slice none 0 0, .int .i64 0, .int .i64 0, .slice none 0 0] 47)) gb [] (0, 0, [])) := by rw [hgbe]; exact gath_new w4
  have HBB0 : Hid (Below gb w4 (w4.alloc (.cells #[.slice none 0 0, .int .i64 0, .int .i64 0, .slice none 0 0] 47))) := by rw [hgbe]; exact box54 w4
  have HGB : Hid (gb = w4.heap.size) := hgbe
  rw [← hgbe] at HT3 HT4
  rw [← hgbe]
  clear hgbe
  go_loopw [36] (fun u36 wr => ∃ (i : Nat) (D : List Nsp) (s : Nsp), u36 = .int .i64 (i : Int) ∧ i ≤ n + 1 ∧ D.length ≤ s.2.1 ∧ s.2.1 ≤ i + sumTxt b i ∧ s.2.2.length ≤ sumTxt a i ∧ Hid (Come n a b true O i D s) ∧ Hid (GathN wr gb D s) ∧ Hid (Below gb w4 wr))
    (fun u36 _ => n + 1 - (intOf u36).toNat)
  case atStart => exact ⟨0, [], (0, 0, []), rfl, Nat.zero_le _, Nat.le_refl _, Nat.zero_le _, Nat.zero_le _, by rw [HO.out]; exact come_start n a b true, HG0.out, HBB0.out⟩
  case round =>
    obtain ⟨i, D, s, rfl, hi, m1, m2, m3, HC, HGr, HBr⟩ := hrel
    clear HG0 HBB0
    by_cases hlt : i ≤ n
    · have iI : (i : Int) < (n : Int) + 1 := by omega
      have sA := HSA.out i
      have sB := HSB.out i
      have sA1 := HSA.out (i + 1)
      have sB1 := HSB.out (i + 1)
      have eA : sumTxt a (i + 1) = sumTxt a i + (txt a i).length := rfl
      have eB : sumTxt b (i + 1) = sumTxt b i + (txt b i).length := rfl
      obtain ⟨p1, p2, p3⟩ := HT3.out wr HBr.out i hlt
      obtain ⟨q1, q2, q3⟩ := HT4.out wr HBr.out i hlt
      obtain ⟨ta, ca, hta⟩ := p3.shape
      obtain ⟨tb, cb, htb⟩ := q3.shape
      rw [hta] at p1 p3
      rw [htb] at q1 q3
      have HP3 : Hid (Reads wr (.slice ta (txt a i).length ca) (txt a i)) := p3
      clear p3 q3
      have HTA : Hid (∀ wx, Below gb w4 wx → wx.cell? ⟨g3, i * 2, none⟩ = some (.slice ta (txt a i).length ca) ∧ wx.cell? ⟨g3, i * 2 + 1, none⟩ = some (.bool (gon a i)) ∧ Reads wx (.slice ta (txt a i).length ca) (txt a i)) := fun wx hb => by
        have := HT3.out wx hb i hlt
        rw [hta] at this
        exact this
      have HTB : Hid (∀ wx, Below gb w4 wx → wx.cell? ⟨g4, i * 2, none⟩ = some (.slice tb (txt b i).length cb) ∧ wx.cell? ⟨g4, i * 2 + 1, none⟩ = some (.bool (gon b i))) := fun wx hb => by
        have := HT4.out wx hb i hlt
        rw [htb] at this
        exact ⟨this.1, this.2.1⟩
      have HLA : Hid ((txt a i).length + sumTxt a i = sumTxt a (i + 1)) := by show _ = _; omega
      have HLB : Hid ((txt b i).length + sumTxt b i = sumTxt b (i + 1)) := by show _ = _; omega
      have lA : (txt a i).length ≤ 4096 := by omega
      have lB : (txt b i).length ≤ 4096 := by omega
      clear hta htb HT3 HT4 eA eB
      go_wp2_with fail
      refine (putN gb D s (txt a i) _ wr HGr.out HP3.out (by omega)).mono ?_
      rintro e w6 ⟨rfl, hb6, hg6⟩
      have HB6 : Hid (Below gb w4 w6) := HBr.out.trans hb6
      have HG6 : Hid (GathN w6 gb D (s.1, s.2.1, s.2.2 ++ txt a i)) := hg6
      obtain ⟨q5, q6⟩ := HTB.out w6 HB6.out
      clear hb6 hg6 p1 p2 q1 q2 HGr HBr HP3
      go_wp2_with fail
      refine (stay_any gb D (s.1, s.2.1, s.2.2 ++ txt a i) (txt b i).length w6 HG6.out m1 (by show (s.2.2 ++ txt a i).length ≤ _; rw [List.length_append]; omega) (by show s.2.1 + _ ≤ _; omega)).mono ?_
      rintro e w7 ⟨rfl, hb7, D7, s7, hst7, hg7⟩
      have HB : Hid (Below gb w4 w7) := HB6.out.trans hb7
      have HG : Hid (GathN w7 gb D7 s7) := hg7
      have HM : Hid (Mid n a b true O i D7 s7) := mid_ahead HC.out hlt hst7
      obtain ⟨_, r1, r2, r3, _⟩ := hst7
      have t1 : D7.length ≤ s7.2.1 := r3 m1
      have t2 : s7.2.1 ≤ i + sumTxt b (i + 1) := by have := HLB.out; simp only at r1; omega
      have t3 : s7.2.2.length ≤ sumTxt a (i + 1) := by have := HLA.out; simp only [List.length_append] at r2; omega
      obtain ⟨_, p4, _⟩ := HTA.out w7 HB.out
      obtain ⟨_, q4⟩ := HTB.out w7 HB.out
      clear hb7 hg7 r1 r2 r3 HG6 HB6 q5 q6 HC HTA HTB m1 m2 m3
      by_cases hgb : gon b i = true
      · rw [hgb] at q4
        have HC2 : Hid (Come n a b true O (i + 1) D7 s7) := come_gone HM.out hgb HBN.out
        clear hgb
        go_wp2_with fail
        go_roundw
        case rel => exact ⟨i + 1, D7, s7, by go_num, by omega, t1, by omega, t3, HC2.out, HG.out, HB.out⟩
        case measure => simp [intOf] <;> omega
      have hgb2 : gon b i = false := by simpa using hgb
      rw [hgb2] at q4
      by_cases hga : gon a i = true
      · rw [hga] at p4
        have HC2 : Hid (Come n a b true O (i + 1) D7 ((s7).1, (s7).2.1 + 1, (s7).2.2)) := come_take HM.out hgb2 hga HAN.out
        clear hga hgb hgb2
        go_wp2_with fail
        refine (takeN gb D7 s7 _ HG.out (by omega)).mono ?_
        rintro e w9 ⟨rfl, hb9, hg9⟩
        have HB9 : Hid (Below gb w4 w9) := HB.out.trans hb9
        have HG9 : Hid (GathN w9 gb D7 ((s7).1, (s7).2.1 + 1, (s7).2.2)) := hg9
        clear hb9 hg9
        go_wp2_with fail
        go_roundw
        case rel => exact ⟨i + 1, D7, ((s7).1, (s7).2.1 + 1, (s7).2.2), by go_num, by omega, by show D7.length ≤ s7.2.1 + 1; omega, by show s7.2.1 + 1 ≤ _; omega, t3, HC2.out, HG9.out, HB9.out⟩
        case measure => simp [intOf] <;> omega
      have hga2 : gon a i = false := by simpa using hga
      rw [hga2] at p4
      have Hgab : Hid (gon b i = false ∧ gon a i = false) := ⟨hgb2, hga2⟩
      clear hga hga2 hgb hgb2
      go_wp2_with fail
      refine (stay_any gb D7 s7 1 _ HG.out (by exact t1) (by omega) (by omega)).mono ?_
      rintro e w9 ⟨rfl, hb9, D9, s9, hst9, hg9⟩
      have HB9 : Hid (Below gb w4 w9) := HB.out.trans hb9
      have HG9 : Hid (GathN w9 gb D9 s9) := hg9
      have HC9 : Hid (Come n a b true O (i + 1) D9 s9) := come_stay HM.out Hgab.out.1 Hgab.out.2 hst9
      obtain ⟨_, r1, r2, r3, _⟩ := hst9
      have r4 := r3 (by exact t1)
      clear hb9 hg9 r3
      have HR9 : Hid (D9.length ≤ s9.2.1 ∧ s9.2.1 ≤ i + 1 + sumTxt b (i + 1) ∧ s9.2.2.length ≤ sumTxt a (i + 1)) := ⟨r4, by omega, by omega⟩
      clear r1 r2 r4
      go_wp2_with fail
      go_roundw
      case rel => exact ⟨i + 1, D9, s9, by go_num, by omega, HR9.out.1, HR9.out.2.1, HR9.out.2.2, HC9.out, HG9.out, HB9.out⟩
      case measure => simp [intOf] <;> omega
    · obtain rfl : i = n + 1 := by omega
      have HDO : Hid (D = O) := by
        rcases HC.out with ⟨h, _⟩ | ⟨_, h⟩
        · omega
        · exact h
      obtain ⟨ev, hev, hoe⟩ := Gath.edit HGr.out
      have HOE : Hid (OwnE wr w.heap.size ev (ups O)) := by
        rw [← HDO.out]
        have := HGB.out
        exact hoe.less (by have := HB4.out.size; omega)
      have HBE : Hid (Below w.heap.size w wr) := below_trans HB4.out (by rw [← HGB.out]; exact HBr.out) HB4.out.size
      clear hoe HC HGr HBr m1 m2 m3
      go_wp2_with fail
      go_ret2
      exact ⟨HBE.out, _, rfl, HOE.out⟩
set_option maxRecDepth 100000 in
set_option maxHeartbeats 8000000 in
theorem over_behind (v1 v2 : Value) (n : Nat) (a b : List Nsp) (w : World) (h1 : ReadsE w v1 (ups a)) (h2 : ReadsE w v2 (ups b)) (ha : Fits n a) (hb : Fits n b) :
    Calls Try.prog 9 #[.int .i64 (n : Int), v1, v2, .bool false] w fun e w' => OverPost (ups (ovr n a b false)) w e w' := by
  have hn := ha.1
  have HA : Hid (Fits n a) := ha
  have HBf : Hid (Fits n b) := hb
  have H1 : Hid (∀ wx, Below w.heap.size w wx → ReadsE wx v1 (ups a)) := fun wx hb => h1.below hb
  have H2 : Hid (∀ wx, Below w.heap.size w wx → ReadsE wx v2 (ups b)) := fun wx hb => h2.below hb
  have HBN : Hid (gon b n = false) := gon_end b 0 n hb.2.1 (Nat.le_refl _)
  have HAN : Hid (gon a n = false) := gon_end a 0 n ha.2.1 (Nat.le_refl _)
  have HSA : Hid (∀ k, sumTxt a k ≤ 4096) := fun k => Nat.le_trans (sumTxt_le a 0 ha.2.1 k) ha.puts_le
  have HSB : Hid (∀ k, sumTxt b k ≤ 4096) := fun k => Nat.le_trans (sumTxt_le b 0 hb.2.1 k) hb.puts_le
  obtain ⟨O, hO⟩ : ∃ O, O = ovr n a b false := ⟨_, rfl⟩
  rw [← hO]
  have HO : Hid (O = ovr n a b false) := hO
  clear h1 h2 ha hb hO
  go_enter Try.func9, Try.ntmps9
  go_wp2_with fail
  refine (check_any _ _ (ups a) w (H1.out w (Below.refl _ _))).mono ?_
  rw [HA.out.chk]
  rintro e w1 ⟨rfl, hb1⟩
  have HB1 : Hid (Below w.heap.size w w1) := hb1
  clear hb1
  go_wp2_with fail
  refine (check_any _ _ (ups b) w1 (H2.out w1 HB1.out)).mono ?_
  rw [HBf.out.chk]
  rintro e w2 ⟨rfl, hb2⟩
  have HB2 : Hid (Below w.heap.size w w2) := below_trans HB1.out hb2 HB1.out.size
  clear hb2 HB1
  go_wp2_with fail
  refine (spread_any _ n a w2 (H1.out w2 HB2.out) HA.out.2.1 hn).mono ?_
  rintro e w3 ⟨hb3, v3, rfl, hsp3⟩
  have HB3 : Hid (Below w.heap.size w w3) := below_trans HB2.out hb3 HB2.out.size
  have HS3 : Hid (Spots w3 v3 w2.heap.size n a) := hsp3
  clear hb3 hsp3
  go_wp2_with fail
  refine (spread_any _ n b w3 (H2.out w3 HB3.out) HBf.out.2.1 hn).mono ?_
  rintro e w4 ⟨hb4, v4, rfl, hsp4⟩
  have HB4 : Hid (Below w.heap.size w w4) := below_trans HB3.out hb4 HB3.out.size
  obtain ⟨g3, T3, hv3, _, hgl3, hT3⟩ := HS3.out.below hb4
  obtain ⟨g4, T4, hv4, _, hgl4, hT4⟩ := hsp4
  subst hv3 hv4
  have HT3 : Hid (∀ wx, Below w4.heap.size w4 wx → ∀ i, i ≤ n → wx.cell? ⟨g3, i * 2, none⟩ = some (T3 i) ∧ wx.cell? ⟨g3, i * 2 + 1, none⟩ = some (.bool (gon a i)) ∧ Reads wx (T3 i) (txt a i)) := fun wx hb i hi => ⟨(hb.cell (by exact hgl3)).trans (hT3 i hi).1, (hb.cell (by exact hgl3)).trans (hT3 i hi).2.1, (hT3 i hi).2.2.below hb⟩
  have HT4 : Hid (∀ wx, Below w4.heap.size w4 wx → ∀ i, i ≤ n → wx.cell? ⟨g4, i * 2, none⟩ = some (T4 i) ∧ wx.cell? ⟨g4, i * 2 + 1, none⟩ = some (.bool (gon b i)) ∧ Reads wx (T4 i) (txt b i)) := fun wx hb i hi => ⟨(hb.cell (by exact hgl4)).trans (hT4 i hi).1, (hb.cell (by exact hgl4)).trans (hT4 i hi).2.1, (hT4 i hi).2.2.below hb⟩
  clear hb4 HS3 hT3 hT4 HB3 HB2 hgl3 hgl4
  go_wp2_with fail
  obtain ⟨gb, hgbe⟩ : ∃ gb, gb = w4.heap.size := ⟨_, rfl⟩
  have HG0 : Hid (GathN (w4.alloc (.cells #[.slice none 0 0, .int .i64 0, .int .i64 0, .slice none 0 0] 47)) gb [] (0, 0, [])) := by rw [hgbe]; exact gath_new w4
  have HBB0 : Hid (Below gb w4 (w4.alloc (.cells #[.slice none 0 0, .int .i64 0, .int .i64 0, .slice none 0 0] 47))) := by rw [hgbe]; exact box54 w4
  have HGB : Hid (gb = w4.heap.size) := hgbe
  rw [← hgbe] at HT3 HT4
  rw [← hgbe]
  clear hgbe
  go_loopw [36] (fun u36 wr => ∃ (i : Nat) (D : List Nsp) (s : Nsp), u36 = .int .i64 (i : Int) ∧ i ≤ n + 1 ∧ D.length ≤ s.2.1 ∧ s.2.1 ≤ i + sumTxt b i ∧ s.2.2.length ≤ sumTxt a i ∧ Hid (Come n a b false O i D s) ∧ Hid (GathN wr gb D s) ∧ Hid (Below gb w4 wr))
    (fun u36 _ => n + 1 - (intOf u36).toNat)
  case atStart => exact ⟨0, [], (0, 0, []), rfl, Nat.zero_le _, Nat.le_refl _, Nat.zero_le _, Nat.zero_le _, by rw [HO.out]; exact come_start n a b false, HG0.out, HBB0.out⟩
  case round =>
    obtain ⟨i, D, s, rfl, hi, m1, m2, m3, HC, HGr, HBr⟩ := hrel
    clear HG0 HBB0
    by_cases hlt : i ≤ n
    · have iI : (i : Int) < (n : Int) + 1 := by omega
      have sA := HSA.out i
      have sB := HSB.out i
      have sA1 := HSA.out (i + 1)
      have sB1 := HSB.out (i + 1)
      have eA : sumTxt a (i + 1) = sumTxt a i + (txt a i).length := rfl
      have eB : sumTxt b (i + 1) = sumTxt b i + (txt b i).length := rfl
      obtain ⟨p1, p2, p3⟩ := HT3.out wr HBr.out i hlt
      obtain ⟨q1, q2, q3⟩ := HT4.out wr HBr.out i hlt
      obtain ⟨ta, ca, hta⟩ := p3.shape
      obtain ⟨tb, cb, htb⟩ := q3.shape
      rw [hta] at p1 p3
      rw [htb] at q1 q3
      have HP3 : Hid (Reads wr (.slice ta (txt a i).length ca) (txt a i)) := p3
      clear p3 q3
      have HTA : Hid (∀ wx, Below gb w4 wx → wx.cell? ⟨g3, i * 2, none⟩ = some (.slice ta (txt a i).length ca) ∧ wx.cell? ⟨g3, i * 2 + 1, none⟩ = some (.bool (gon a i)) ∧ Reads wx (.slice ta (txt a i).length ca) (txt a i)) := fun wx hb => by
        have := HT3.out wx hb i hlt
        rw [hta] at this
        exact this
      have HTB : Hid (∀ wx, Below gb w4 wx → wx.cell? ⟨g4, i * 2, none⟩ = some (.slice tb (txt b i).length cb) ∧ wx.cell? ⟨g4, i * 2 + 1, none⟩ = some (.bool (gon b i))) := fun wx hb => by
        have := HT4.out wx hb i hlt
        rw [htb] at this
        exact ⟨this.1, this.2.1⟩
      have HLA : Hid ((txt a i).length + sumTxt a i = sumTxt a (i + 1)) := by show _ = _; omega
      have HLB : Hid ((txt b i).length + sumTxt b i = sumTxt b (i + 1)) := by show _ = _; omega
      have lA : (txt a i).length ≤ 4096 := by omega
      have lB : (txt b i).length ≤ 4096 := by omega
      clear hta htb HT3 HT4 eA eB
      go_wp2_with fail
      refine (stay_any gb D s (txt b i).length wr HGr.out m1 (by omega) (by omega)).mono ?_
      rintro e w6 ⟨rfl, hb6, D7, s6, hst7, hg6⟩
      have HB6 : Hid (Below gb w4 w6) := HBr.out.trans hb6
      have HG6 : Hid (GathN w6 gb D7 s6) := hg6
      have HM : Hid (Mid n a b false O i D7 (s6.1, s6.2.1, s6.2.2 ++ txt a i)) := mid_behind HC.out hlt hst7
      obtain ⟨_, r1, r2, r3, _⟩ := hst7
      have t1 : D7.length ≤ s6.2.1 := r3 m1
      have t2 : s6.2.1 ≤ i + sumTxt b (i + 1) := by have := HLB.out; omega
      have t3 : s6.2.2.length + (txt a i).length ≤ sumTxt a (i + 1) := by have := HLA.out; omega
      obtain ⟨p5, _, p7⟩ := HTA.out w6 HB6.out
      have HP7 : Hid (Reads w6 (.slice ta (txt a i).length ca) (txt a i)) := p7
      clear hb6 hg6 p1 p2 q1 q2 HGr HBr HP3 p7 HC m1 m2 m3 r1 r2 r3
      go_wp2_with fail
      refine (putN gb D7 s6 (txt a i) _ w6 HG6.out HP7.out (by omega)).mono ?_
      rintro e w7 ⟨rfl, hb7, hg7⟩
      have HB : Hid (Below gb w4 w7) := HB6.out.trans hb7
      obtain ⟨s7, hs7⟩ : ∃ s7 : Nsp, s7 = (s6.1, s6.2.1, s6.2.2 ++ txt a i) := ⟨_, rfl⟩
      rw [← hs7] at hg7 HM
      have HG : Hid (GathN w7 gb D7 s7) := hg7
      have u1 : D7.length ≤ s7.2.1 := by rw [hs7]; exact t1
      have u2 : s7.2.1 ≤ i + sumTxt b (i + 1) := by rw [hs7]; exact t2
      have u3 : s7.2.2.length ≤ sumTxt a (i + 1) := by rw [hs7]; show (s6.2.2 ++ txt a i).length ≤ _; rw [List.length_append]; exact t3
      obtain ⟨_, p4, _⟩ := HTA.out w7 HB.out
      obtain ⟨_, q4⟩ := HTB.out w7 HB.out
      clear hs7 hb7 hg7 HG6 HB6 p5 HP7 HTA HTB t1 t2 t3
      by_cases hgb : gon b i = true
      · rw [hgb] at q4
        have HC2 : Hid (Come n a b false O (i + 1) D7 s7) := come_gone HM.out hgb HBN.out
        clear hgb
        go_wp2_with fail
        go_roundw
        case rel => exact ⟨i + 1, D7, s7, by go_num, by omega, u1, by omega, u3, HC2.out, HG.out, HB.out⟩
        case measure => simp [intOf] <;> omega
      have hgb2 : gon b i = false := by simpa using hgb
      rw [hgb2] at q4
      by_cases hga : gon a i = true
      · rw [hga] at p4
        have HC2 : Hid (Come n a b false O (i + 1) D7 ((s7).1, (s7).2.1 + 1, (s7).2.2)) := come_take HM.out hgb2 hga HAN.out
        clear hga hgb hgb2
        go_wp2_with fail
        refine (takeN gb D7 s7 _ HG.out (by omega)).mono ?_
        rintro e w9 ⟨rfl, hb9, hg9⟩
        have HB9 : Hid (Below gb w4 w9) := HB.out.trans hb9
        have HG9 : Hid (GathN w9 gb D7 ((s7).1, (s7).2.1 + 1, (s7).2.2)) := hg9
        clear hb9 hg9
        go_wp2_with fail
        go_roundw
        case rel => exact ⟨i + 1, D7, ((s7).1, (s7).2.1 + 1, (s7).2.2), by go_num, by omega, by show D7.length ≤ s7.2.1 + 1; omega, by show s7.2.1 + 1 ≤ _; omega, u3, HC2.out, HG9.out, HB9.out⟩
        case measure => simp [intOf] <;> omega
      have hga2 : gon a i = false := by simpa using hga
      rw [hga2] at p4
      have Hgab : Hid (gon b i = false ∧ gon a i = false) := ⟨hgb2, hga2⟩
      clear hga hga2 hgb hgb2
      go_wp2_with fail
      refine (stay_any gb D7 s7 1 _ HG.out (by exact u1) (by omega) (by omega)).mono ?_
      rintro e w9 ⟨rfl, hb9, D9, s9, hst9, hg9⟩
      have HB9 : Hid (Below gb w4 w9) := HB.out.trans hb9
      have HG9 : Hid (GathN w9 gb D9 s9) := hg9
      have HC9 : Hid (Come n a b false O (i + 1) D9 s9) := come_stay HM.out Hgab.out.1 Hgab.out.2 hst9
      obtain ⟨_, r1, r2, r3, _⟩ := hst9
      have r4 := r3 (by exact u1)
      clear hb9 hg9 r3
      have HR9 : Hid (D9.length ≤ s9.2.1 ∧ s9.2.1 ≤ i + 1 + sumTxt b (i + 1) ∧ s9.2.2.length ≤ sumTxt a (i + 1)) := ⟨r4, by omega, by omega⟩
      clear r1 r2 r4
      go_wp2_with fail
      go_roundw
      case rel => exact ⟨i + 1, D9, s9, by go_num, by omega, HR9.out.1, HR9.out.2.1, HR9.out.2.2, HC9.out, HG9.out, HB9.out⟩
      case measure => simp [intOf] <;> omega
    · obtain rfl : i = n + 1 := by omega
      have HDO : Hid (D = O) := by
        rcases HC.out with ⟨h, _⟩ | ⟨_, h⟩
        · omega
        · exact h
      obtain ⟨ev, hev, hoe⟩ := Gath.edit HGr.out
      have HOE : Hid (OwnE wr w.heap.size ev (ups O)) := by
        rw [← HDO.out]
        have := HGB.out
        exact hoe.less (by have := HB4.out.size; omega)
      have HBE : Hid (Below w.heap.size w wr) := below_trans HB4.out (by rw [← HGB.out]; exact HBr.out) HB4.out.size
      clear hoe HC HGr HBr m1 m2 m3
      go_wp2_with fail
      go_ret2
      exact ⟨HBE.out, _, rfl, HOE.out⟩
theorem over_ok (v1 v2 : Value) (n : Nat) (a b : List Nsp) (ahead : Bool) (w : World) (h1 : ReadsE w v1 (ups a)) (h2 : ReadsE w v2 (ups b)) (ha : Fits n a) (hb : Fits n b) :
    Calls Try.prog 9 #[.int .i64 (n : Int), v1, v2, .bool ahead] w fun e w' => OverPost (ups (ovr n a b ahead)) w e w' := by
  cases ahead with
  | true => exact over_ahead v1 v2 n a b w h1 h2 ha hb
  | false => exact over_behind v1 v2 n a b w h1 h2 ha hb
/-- The first error of two. -/
def chk2 (n : Int) (a b : List Spl) : Int := if chk n a ≠ 0 then chk n a else chk n b
theorem over_err (v1 v2 : Value) (n : Int) (a b : List Spl) (ahead : Bool) (w : World) (h1 : ReadsE w v1 a) (h2 : ReadsE w v2 b) (hc : chk2 n a b ≠ 0) :
    Calls Try.prog 9 #[.int .i64 n, v1, v2, .bool ahead] w fun e w' => ErrPost (chk2 n a b) w e w' := by
  have H1 : Hid (ReadsE w v1 a) := h1
  have H2 : Hid (∀ wx, Below w.heap.size w wx → ReadsE wx v2 b) := fun wx hb => h2.below hb
  obtain ⟨c, hC⟩ : ∃ c, c = chk2 n a b := ⟨_, rfl⟩
  rw [← hC] at hc ⊢
  have HC : Hid (c = if chk n a ≠ 0 then chk n a else chk n b) := hC
  have hcb : (c != 0) = true := by simpa using hc
  clear h1 h2 hC hc
  go_enter Try.func9, Try.ntmps9
  go_wp2_with fail
  refine (check_any _ _ a w H1.out).mono ?_
  by_cases ha : chk n a = 0
  · have HC2 : Hid (c = chk n b) := by
      show c = _
      rw [HC.out, if_neg (fun h => h ha)]
    rw [ha]
    rintro e w1 ⟨rfl, hb1⟩
    have HB1 : Hid (Below w.heap.size w w1) := hb1
    clear hb1 HC ha
    go_wp2_with fail
    refine (check_any _ _ b w1 (H2.out w1 HB1.out)).mono ?_
    rw [← HC2.out]
    rintro e w2 ⟨rfl, hb2⟩
    have HB2 : Hid (Below w.heap.size w w2) := below_trans HB1.out hb2 HB1.out.size
    clear hb2 HB1
    go_wp2_with fail
    go_ret2
    exact ⟨HB2.out, rfl⟩
  · have HC2 : Hid (c = chk n a) := by
      show c = _
      rw [HC.out, if_pos ha]
    rw [← HC2.out]
    rintro e w1 ⟨rfl, hb1⟩
    have HB1 : Hid (Below w.heap.size w w1) := hb1
    clear hb1 HC ha
    go_wp2_with fail
    go_ret2
    exact ⟨HB1.out, rfl⟩
end Go.Proofs.Ytpgecholpbpakab.Seek
