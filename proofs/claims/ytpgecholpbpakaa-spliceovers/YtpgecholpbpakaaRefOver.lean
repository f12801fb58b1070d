/- The contract of the document's Over. -/
import Derived.Test.YtpgecholpbpakaaRefFold
set_option linter.unusedVariables false
set_option linter.unusedSimpArgs false
namespace Go.Proofs.Ytpgecholpbpakaa.Seek
open Go.RowKit Plain

theorem sgTxt_012 (a b : List Nsp) (ahead : Bool) (i : Nat) : ∀ x ∈ sgTxt a b ahead i, x.1 = 0 ∨ x.1 = 1 ∨ x.1 = 2 := by
  have hp : ∀ (l : List Int), ∀ x ∈ putS l, x.1 = 0 ∨ x.1 = 1 ∨ x.1 = 2 := by
    intro l x hx
    unfold putS at hx
    obtain ⟨c, _, rfl⟩ := List.mem_map.1 hx
    exact .inr (.inr rfl)
  have hs : ∀ (n : Nat), ∀ x ∈ stayS n, x.1 = 0 ∨ x.1 = 1 ∨ x.1 = 2 := by
    intro n x hx
    unfold stayS at hx
    rw [(List.mem_replicate.1 hx).2]
    exact .inl rfl
  intro x hx
  unfold sgTxt at hx
  split at hx
  · rcases List.mem_append.1 hx with h | h
    · exact hp _ x h
    · exact hs _ x h
  · rcases List.mem_append.1 hx with h | h
    · exact hs _ x h
    · exact hp _ x h
theorem sgs_012 (a b : List Nsp) (ahead : Bool) : ∀ (k i : Nat), ∀ x ∈ sgs a b ahead i k, x.1 = 0 ∨ x.1 = 1 ∨ x.1 = 2
  | 0, i, x, hx => sgTxt_012 a b ahead i x hx
  | k + 1, i, x, hx => by
    unfold sgs at hx
    rcases List.mem_append.1 hx with h | h
    · exact sgTxt_012 a b ahead i x h
    · rcases List.mem_append.1 h with h | h
      · unfold sgChr at h
        split at h
        · cases h
        · split at h
          · simp at h
            rw [h]
            exact .inr (.inl rfl)
          · simp at h
            rw [h]
            exact .inl rfl
      · exact sgs_012 a b ahead k (i + 1) x h
theorem OwnS.kept {w w' : World} {B : Nat} {v : Value} {L : List Sgn} {row : Option Nat} (h : OwnS w B v L) (hg : w.grownBy w' row) (hne : ∀ g, v.ownBlock = some g → row ≠ some g) : OwnS w' B v L := by
  cases hv : v.ownBlock with
  | none => exact World.ownsRow.kept h hg (.inl hv)
  | some g => exact World.ownsRow.kept h hg (.inr (by rw [hv]; exact Ne.symm (hne g hv)))
theorem OwnS.alloc {w : World} {B : Nat} {v : Value} {L : List Sgn} (h : OwnS w B v L) (o : Obj) : OwnS (w.alloc o) B v L := World.ownsRow.alloc h o
theorem putS_len (x : List Int) : (putS x).length = x.length := List.length_map ..
theorem stayS_len (n : Nat) : (stayS n).length = n := List.length_replicate ..
theorem putS_take (x : List Int) (j : Nat) (h : j < x.length) : putS (x.take (j + 1)) = putS (x.take j) ++ [(2, x.getD j 0)] := by
  unfold putS
  rw [List.take_add_one, List.map_append, List.getElem?_eq_getElem h, List.getD_eq_getElem?_getD, List.getElem?_eq_getElem h]
  rfl
theorem stayS_more (n : Nat) : stayS (n + 1) = stayS n ++ [(0, 0)] := by unfold stayS; rw [List.replicate_succ']
/-- What the document's Over has come to. -/
def ComeS (n : Nat) (a b : List Nsp) (ahead : Bool) (S : List Sgn) (i : Nat) (L : List Sgn) : Prop := (i ≤ n ∧ L ++ sgs a b ahead i (n - i) = S) ∨ (i = n + 1 ∧ L = S)
theorem comeS_next {n : Nat} {a b : List Nsp} {ahead : Bool} {S : List Sgn} {i : Nat} {L : List Sgn} (h : ComeS n a b ahead S i L) (hi : i ≤ n) : ComeS n a b ahead S (i + 1) (L ++ sgTxt a b ahead i ++ (if i < n then sgChr a b i else [])) := by
  rcases h with ⟨_, h⟩ | ⟨h, _⟩
  · by_cases hn : i < n
    · rw [if_pos hn]
      rw [show n - i = (n - (i + 1)) + 1 by omega] at h
      refine .inl ⟨by omega, ?_⟩
      rw [← h, List.append_assoc, List.append_assoc]
      rfl
    · rw [if_neg hn, List.append_nil]
      obtain rfl : i = n := by omega
      rw [Nat.sub_self] at h
      exact .inr ⟨rfl, h⟩
  · omega
theorem sgTxt_len (a b : List Nsp) (ahead : Bool) (i : Nat) : (sgTxt a b ahead i).length = (txt a i).length + (txt b i).length := by
  unfold sgTxt
  split
  · rw [List.length_append, putS_len, stayS_len]
  · rw [List.length_append, putS_len, stayS_len]
    omega
theorem sgChr_len (a b : List Nsp) (i : Nat) : (sgChr a b i).length ≤ 1 := by
  unfold sgChr
  split
  · exact Nat.zero_le _
  · split <;> exact Nat.le_refl _

set_option maxRecDepth 100000 in
set_option maxHeartbeats 8000000 in
theorem refover_ahead (v1 v2 : Value) (n : Nat) (a b : List Nsp) (w : World) (h1 : ReadsE w v1 (ups a)) (h2 : ReadsE w v2 (ups b)) (ha : Fits n a) (hb : Fits n b) :
    Calls Try.prog 20 #[.int .i64 (n : Int), v1, v2, .bool true] w fun e w' => Below w.heap.size w w' ∧ ∃ v, e = .returned v ∧ OwnE w' w.heap.size v (ups (ovr n a b true)) := by
  have hn := ha.1
  have la := ha.2.1.count
  have lb := hb.2.1.count
  have H1 : Hid (∀ wx, Below w.heap.size w wx → ReadsE wx v1 (ups a)) := fun wx hb => h1.below hb
  have H2 : Hid (∀ wx, Below w.heap.size w wx → ReadsE wx v2 (ups b)) := fun wx hb => h2.below hb
  have HSA : Hid (∀ k, sumTxt a k ≤ 4096) := fun k => Nat.le_trans (sumTxt_le a 0 ha.2.1 k) ha.puts_le
  have HSB : Hid (∀ k, sumTxt b k ≤ 4096) := fun k => Nat.le_trans (sumTxt_le b 0 hb.2.1 k) hb.puts_le
  obtain ⟨S, hS⟩ : ∃ S, S = sgs a b true 0 n := ⟨_, rfl⟩
  have HO : Hid (gat (0, 0, []) S = ovr n a b true) := by rw [hS]; rfl
  have H012 : Hid (∀ x ∈ S, x.1 = 0 ∨ x.1 = 1 ∨ x.1 = 2) := by rw [hS]; exact sgs_012 a b true n 0
  have HS0 : Hid (ComeS n a b true S 0 []) := .inl ⟨Nat.zero_le _, hS.symm⟩
  rw [← HO.out]
  clear h1 h2 ha hb hS HO
  go_enter Try.func20, Try.ntmps20
  go_wp2_with fail
  go_loopw [9, 21] (fun u9 u21 wr => ∃ (i : Nat) (L : List Sgn), u21 = .int .i64 (i : Int) ∧ i ≤ n + 1 ∧ L.length ≤ i + sumTxt a i + sumTxt b i ∧ Hid (ComeS n a b true S i L) ∧ Hid (OwnS wr w.heap.size u9 L) ∧ Hid (Below w.heap.size w wr))
    (fun _ u21 _ => n + 1 - (intOf u21).toNat)
  case atStart => exact ⟨0, [], rfl, Nat.zero_le _, Nat.zero_le _, HS0.out, ownS_nil _ _, Below.refl _ _⟩
  case round =>
    obtain ⟨i, L, rfl, hi, hLl, HC, Hown, Hb⟩ := hrel
    clear HS0
    have hbs := Hb.out.size
    by_cases hlt : i ≤ n
    · have iI : (i : Int) < (n : Int) + 1 := by omega
      have sA1 := HSA.out (i + 1)
      have sB1 := HSB.out (i + 1)
      have eA : sumTxt a (i + 1) = sumTxt a i + (txt a i).length := rfl
      have eB : sumTxt b (i + 1) = sumTxt b i + (txt b i).length := rfl
      obtain ⟨X, hX⟩ : ∃ X, X = L ++ sgTxt a b true i ++ (if i < n then sgChr a b i else []) := ⟨_, rfl⟩
      have HC2 : Hid (ComeS n a b true S (i + 1) X) := by rw [hX]; exact comeS_next HC.out hlt
      have hXl : X.length ≤ i + 1 + sumTxt a (i + 1) + sumTxt b (i + 1) := by
        have h1 : (if i < n then sgChr a b i else []).length ≤ 1 := by
          split
          · exact sgChr_len a b i
          · exact Nat.zero_le _
        rw [hX, List.length_append, List.length_append, sgTxt_len]
        omega
      have HX : Hid (X = L ++ sgTxt a b true i ++ (if i < n then sgChr a b i else [])) := hX
      have lTA : (txt a i).length ≤ 4096 := by omega
      have lTB : (txt b i).length ≤ 4096 := by omega
      have lL : L.length ≤ 20000 := by omega
      have HXl : Hid (X.length ≤ i + 1 + sumTxt a (i + 1) + sumTxt b (i + 1)) := hXl
      clear HC hX eA eB hXl hLl sA1 sB1
      go_wp2_with fail
      refine (at_any _ a i wr (H1.out wr Hb.out) (by omega) (by omega)).mono ?_
      rintro e w1 ⟨hb1, t1, rfl, hr1⟩
      obtain ⟨ta, ca, hta⟩ := hr1.shape
      subst hta
      have HB1 : Hid (Below w.heap.size w w1) := below_trans Hb.out hb1 hbs
      have HR1 : Hid (∀ wx, Below wr.heap.size wr wx → Reads wx (.slice ta (txt a i).length ca) (txt a i)) := fun wx hb => hr1.below hb
      have HBw1 : Hid (Below wr.heap.size wr w1) := hb1
      have HO1 : Hid (OwnS w1 w.heap.size u9 L) := Hown.out.below hb1
      clear hb1 hr1
      go_wp2_with fail
      refine (at_any _ b i w1 (H2.out w1 HB1.out) (by omega) (by omega)).mono ?_
      rintro e w2 ⟨hb2, t2, rfl, hr2⟩
      obtain ⟨tb, cb, htb⟩ := hr2.shape
      subst htb
      have HB2 : Hid (Below w.heap.size w w2) := below_trans HB1.out hb2 HB1.out.size
      have HBw2 : Hid (Below wr.heap.size wr w2) := below_trans HBw1.out hb2 HBw1.out.size
      have HO2 : Hid (OwnS w2 w.heap.size u9 L) := HO1.out.below hb2
      clear hb2 hr2 HB1 HBw1 HO1
      go_wp2_with fail
      obtain ⟨wo, hwo⟩ : ∃ wo, wo = wr := ⟨_, rfl⟩
      rw [← hwo] at HR1 HBw2 hbs Hown Hb
      clear hwo Hown Hb
      have hb2s := HB2.out.size
      go_loopw [15, 38] (fun u15 u38 wi => ∃ (j : Nat), u38 = .int .i64 (j : Int) ∧ j ≤ (txt a i).length ∧ Hid (OwnS wi w2.heap.size u15 (putS ((txt a i).take j))) ∧ Hid (Below w2.heap.size w2 wi))
        (fun _ u38 _ => (txt a i).length - (intOf u38).toNat)
      case atStart => exact ⟨0, rfl, Nat.zero_le _, ownS_nil _ _, Below.refl _ _⟩
      case round =>
        obtain ⟨j, rfl, hj, Hp, Hbi⟩ := hrel
        by_cases hjl : j < (txt a i).length
        · obtain ⟨bt, ot, hbt, hct⟩ := reads_at (HR1.out wr (below_trans HBw2.out Hbi.out HBw2.out.size)) j hjl
          have hI : (j : Int) < ((txt a i).length : Int) := by omega
          have HPT : Hid (putS ((txt a i).take (j + 1)) = putS ((txt a i).take j) ++ [(2, (txt a i).getD j 0)]) := putS_take _ _ hjl
          subst hbt
          generalize (txt a i).getD j 0 = z at *
          have hpl : (putS ((txt a i).take j)).length ≤ 4096 := by rw [putS_len, List.length_take]; omega
          have hbis := Hbi.out.size
          go_wp2_with (at_builtin; refine append_sg rfl _ _ rfl w2.heap.size u15 _ (putS ((txt a i).take j)) [(2, z)] (putS ((txt a i).take (j + 1))) HPT.out rfl (Hp.out.alloc _) rfl (readsS_one _ _ _) (by simp; omega) (by rw [size_alloc]; omega) ?_)
          intro v3 w3 ho3 hg3 _
          have HO3 : Hid (OwnS w3 w2.heap.size v3 (putS ((txt a i).take (j + 1)))) := ho3
          have HB3 : Hid (Below w2.heap.size w2 w3) := (Hbi.out.alloc hbis _).grown hg3 (by rw [size_alloc]; omega) (fun g hg => (Hp.out.lt g hg).1)
          clear ho3 hg3 Hp Hbi hct
          go_wp2_with fail
          go_roundw
          case rel => exact ⟨j + 1, by go_num, by omega, HO3.out, HB3.out⟩
          case measure => simp [intOf] <;> omega
        · obtain rfl : j = (txt a i).length := by omega
          rw [List.take_length] at Hp
          have HB3 : Hid (Below w.heap.size w wr) := below_trans HB2.out Hbi.out hb2s
          have HO3 : Hid (OwnS wr w.heap.size u9 L) := HO2.out.below Hbi.out
          have hbis := Hbi.out.size
          have hu9 : ∀ g, u9.ownBlock = some g → g < w2.heap.size := fun g hg => (HO2.out.lt g hg).2
          have hu15 : ∀ g, u15.ownBlock = some g → w2.heap.size ≤ g := fun g hg => (Hp.out.lt g hg).1
          clear HB2 HO2 Hbi HBw2 HR1
          obtain ⟨wq, hwq⟩ : ∃ wq, wq = wr := ⟨_, rfl⟩
          rw [← hwq] at Hp HB3 HO3 hbis
          have hbq := HB3.out.size
          rw [← hwq]
          clear hwq
          obtain ⟨Y, hY⟩ : ∃ Y, Y = L ++ putS (txt a i) := ⟨_, rfl⟩
          have HY : Hid (Y = L ++ putS (txt a i)) := hY
          have hYl : Y.length ≤ 30000 := by rw [hY, List.length_append, putS_len]; omega
          clear hY
          go_wp2_with (at_builtin; refine append_sg rfl _ _ rfl w.heap.size u9 _ (L) (putS (txt a i)) Y HY.out rfl HO3.out rfl Hp.out.reads (by rw [putS_len]; omega) HB3.out.size ?_)
          intro v4 w4 ho4 hg4 hat4
          have HO4 : Hid (OwnS w4 w.heap.size v4 Y) := ho4
          have HB4 : Hid (Below w.heap.size w w4) := HB3.out.grown hg4 hbq (fun g hg => (HO3.out.lt g hg).1)
          clear ho4 hg4 hat4 HO3 HB3 Hp hu9 hu15
          go_wp2_with fail
          have HY2 : Hid (Y = Y ++ stayS 0) := by show _ = _; exact (List.append_nil _).symm
          go_loopw [9, 54] (fun u9 u54 wi => ∃ (j : Nat) (Z : List Sgn), u54 = .int .i64 (j : Int) ∧ j ≤ (txt b i).length ∧ Hid (Z = Y ++ stayS j) ∧ Hid (OwnS wi w.heap.size u9 Z) ∧ Hid (Below w.heap.size w wi))
            (fun _ u54 _ => (txt b i).length - (intOf u54).toNat)
          case atStart => exact ⟨0, Y, rfl, Nat.zero_le _, HY2.out, HO4.out, HB4.out⟩
          case round =>
            obtain ⟨j, Z, rfl, hj, HZ, Ho, Hbi⟩ := hrel
            have hZl : Z.length = Y.length + j := by rw [HZ.out, List.length_append, stayS_len]
            have hbis2 := Hbi.out.size
            by_cases hjl : j < (txt b i).length
            · have hI : (j : Int) < ((txt b i).length : Int) := by omega
              obtain ⟨Z2, hZ2⟩ : ∃ Z2, Z2 = Z ++ [((0 : Int), (0 : Int))] := ⟨_, rfl⟩
              have HZ2 : Hid (Z2 = Z ++ [(0, 0)]) := hZ2
              have HZ3 : Hid (Z2 = Y ++ stayS (j + 1)) := by
                show _ = _
                rw [hZ2, HZ.out, stayS_more, List.append_assoc]
              clear hZ2
              have hZb : Z.length ≤ 40000 := by omega
              clear hZl
              go_wp2_with (at_builtin; refine append_sg rfl _ _ rfl w.heap.size u9 _ Z [(0, 0)] Z2 HZ2.out rfl (Ho.out.alloc _) rfl (readsS_one _ _ _) (by simp; omega) (by rw [size_alloc]; omega) ?_)
              intro v5 w5 ho5 hg5 _
              have HO5 : Hid (OwnS w5 w.heap.size v5 Z2) := ho5
              have HB5 : Hid (Below w.heap.size w w5) := (Hbi.out.alloc hbis2 _).grown hg5 (by rw [size_alloc]; omega) (fun g hg => (Ho.out.lt g hg).1)
              clear ho5 hg5 Ho Hbi
              go_wp2_with fail
              go_roundw
              case rel => exact ⟨j + 1, Z2, by go_num, by omega, HZ3.out, HO5.out, HB5.out⟩
              case measure => simp [intOf] <;> omega
            · obtain rfl : j = (txt b i).length := by omega
              have HX2 : Hid (X = Z ++ (if i < n then sgChr a b i else [])) := by
                show _ = _
                rw [HX.out, HZ.out, HY.out]
                unfold sgTxt
                simp only [if_true]
                simp only [List.append_assoc]
              have hZb : Z.length ≤ 40000 := by omega
              clear hZl
              by_cases hin : i < n
              · have hiN : (i : Int) < (n : Int) := by omega
                by_cases hgb : gon b i = true
                · have HX3 : Hid (X = Z) := by
                    show _ = _
                    rw [HX2.out, if_pos hin]
                    unfold sgChr
                    rw [if_pos hgb, List.append_nil]
                  have HO9 : Hid (OwnS wr w.heap.size u9 X) := by rw [HX3.out]; exact Ho.out
                  rw [hgb]
                  go_wp2_with fail
                  go_roundw
                  case rel => exact ⟨i + 1, X, by go_num, by omega, HXl.out, HC2.out, HO9.out, Hbi.out⟩
                  case measure => simp [intOf] <;> omega
                · have hgb2 : gon b i = false := by simpa using hgb
                  by_cases hga : gon a i = true
                  · have HX3 : Hid (X = Z ++ [(1, 0)]) := by
                      show _ = _
                      rw [HX2.out, if_pos hin]
                      unfold sgChr
                      rw [if_neg hgb, if_pos hga]
                    rw [hgb2, hga]
                    clear hgb hgb2 hga
                    go_wp2_with (at_builtin; refine append_sg rfl _ _ rfl w.heap.size u9 _ Z [(1, 0)] X HX3.out rfl (Ho.out.alloc _) rfl (readsS_one _ _ _) (by simp; omega) (by rw [size_alloc]; omega) ?_)
                    intro v9 w9 ho9 hg9 _
                    have HO9 : Hid (OwnS w9 w.heap.size v9 X) := ho9
                    have HB9 : Hid (Below w.heap.size w w9) := (Hbi.out.alloc hbis2 _).grown hg9 (by rw [size_alloc]; omega) (fun g hg => (Ho.out.lt g hg).1)
                    clear ho9 hg9 Ho Hbi
                    go_wp2_with fail
                    go_roundw
                    case rel => exact ⟨i + 1, X, by go_num, by omega, HXl.out, HC2.out, HO9.out, HB9.out⟩
                    case measure => simp [intOf] <;> omega
                  · have hga2 : gon a i = false := by simpa using hga
                    have HX3 : Hid (X = Z ++ [(0, 0)]) := by
                      show _ = _
                      rw [HX2.out, if_pos hin]
                      unfold sgChr
                      rw [if_neg hgb, if_neg hga]
                    rw [hgb2, hga2]
                    clear hgb hgb2 hga hga2
                    go_wp2_with (at_builtin; refine append_sg rfl _ _ rfl w.heap.size u9 _ Z [(0, 0)] X HX3.out rfl (Ho.out.alloc _) rfl (readsS_one _ _ _) (by simp; omega) (by rw [size_alloc]; omega) ?_)
                    intro v9 w9 ho9 hg9 _
                    have HO9 : Hid (OwnS w9 w.heap.size v9 X) := ho9
                    have HB9 : Hid (Below w.heap.size w w9) := (Hbi.out.alloc hbis2 _).grown hg9 (by rw [size_alloc]; omega) (fun g hg => (Ho.out.lt g hg).1)
                    clear ho9 hg9 Ho Hbi
                    go_wp2_with fail
                    go_roundw
                    case rel => exact ⟨i + 1, X, by go_num, by omega, HXl.out, HC2.out, HO9.out, HB9.out⟩
                    case measure => simp [intOf] <;> omega
              · have HX3 : Hid (X = Z) := by
                  show _ = _
                  rw [HX2.out, if_neg hin, List.append_nil]
                have HO9 : Hid (OwnS wr w.heap.size u9 X) := by rw [HX3.out]; exact Ho.out
                have hiN : ¬ (i : Int) < (n : Int) := by omega
                go_wp2_with fail
                go_roundw
                case rel => exact ⟨i + 1, X, by go_num, by omega, HXl.out, HC2.out, HO9.out, Hbi.out⟩
                case measure => simp [intOf] <;> omega
    · obtain rfl : i = n + 1 := by omega
      have HLS : Hid (L = S) := by
        rcases HC.out with ⟨h, _⟩ | ⟨_, h⟩
        · omega
        · exact h
      have hSl : S.length ≤ 50000 := by
        rw [← HLS.out]
        have := HSA.out (n + 1)
        have := HSB.out (n + 1)
        omega
      have HO9 : Hid (OwnS wr w.heap.size u9 S) := by rw [← HLS.out]; exact Hown.out
      clear HC HLS Hown hLl
      go_wp2_with fail
      refine (folded_any _ S wr HO9.out.reads hSl H012.out).mono ?_
      rintro e w9 ⟨hb9, v9, rfl, ho9⟩
      have HB9 : Hid (Below w.heap.size w w9) := below_trans Hb.out hb9 hbs
      have HE9 : Hid (OwnE w9 w.heap.size v9 (ups (gat (0, 0, []) S))) := ho9.less hbs
      clear hb9 ho9
      go_wp2_with fail
      go_ret
      exact ⟨HB9.out, _, rfl, HE9.out⟩
set_option maxRecDepth 100000 in
set_option maxHeartbeats 8000000 in
theorem refover_behind (v1 v2 : Value) (n : Nat) (a b : List Nsp) (w : World) (h1 : ReadsE w v1 (ups a)) (h2 : ReadsE w v2 (ups b)) (ha : Fits n a) (hb : Fits n b) :
    Calls Try.prog 20 #[.int .i64 (n : Int), v1, v2, .bool false] w fun e w' => Below w.heap.size w w' ∧ ∃ v, e = .returned v ∧ OwnE w' w.heap.size v (ups (ovr n a b false)) := by
  have hn := ha.1
  have la := ha.2.1.count
  have lb := hb.2.1.count
  have H1 : Hid (∀ wx, Below w.heap.size w wx → ReadsE wx v1 (ups a)) := fun wx hb => h1.below hb
  have H2 : Hid (∀ wx, Below w.heap.size w wx → ReadsE wx v2 (ups b)) := fun wx hb => h2.below hb
  have HSA : Hid (∀ k, sumTxt a k ≤ 4096) := fun k => Nat.le_trans (sumTxt_le a 0 ha.2.1 k) ha.puts_le
  have HSB : Hid (∀ k, sumTxt b k ≤ 4096) := fun k => Nat.le_trans (sumTxt_le b 0 hb.2.1 k) hb.puts_le
  obtain ⟨S, hS⟩ : ∃ S, S = sgs a b false 0 n := ⟨_, rfl⟩
  have HO : Hid (gat (0, 0, []) S = ovr n a b false) := by rw [hS]; rfl
  have H012 : Hid (∀ x ∈ S, x.1 = 0 ∨ x.1 = 1 ∨ x.1 = 2) := by rw [hS]; exact sgs_012 a b false n 0
  have HS0 : Hid (ComeS n a b false S 0 []) := .inl ⟨Nat.zero_le _, hS.symm⟩
  rw [← HO.out]
  clear h1 h2 ha hb hS HO
  go_enter Try.func20, Try.ntmps20
  go_wp2_with fail
  go_loopw [9, 21] (fun u9 u21 wr => ∃ (i : Nat) (L : List Sgn), u21 = .int .i64 (i : Int) ∧ i ≤ n + 1 ∧ L.length ≤ i + sumTxt a i + sumTxt b i ∧ Hid (ComeS n a b false S i L) ∧ Hid (OwnS wr w.heap.size u9 L) ∧ Hid (Below w.heap.size w wr))
    (fun _ u21 _ => n + 1 - (intOf u21).toNat)
  case atStart => exact ⟨0, [], rfl, Nat.zero_le _, Nat.zero_le _, HS0.out, ownS_nil _ _, Below.refl _ _⟩
  case round =>
    obtain ⟨i, L, rfl, hi, hLl, HC, Hown, Hb⟩ := hrel
    clear HS0
    have hbs := Hb.out.size
    by_cases hlt : i ≤ n
    · have iI : (i : Int) < (n : Int) + 1 := by omega
      have sA1 := HSA.out (i + 1)
      have sB1 := HSB.out (i + 1)
      have eA : sumTxt a (i + 1) = sumTxt a i + (txt a i).length := rfl
      have eB : sumTxt b (i + 1) = sumTxt b i + (txt b i).length := rfl
      obtain ⟨X, hX⟩ : ∃ X, X = L ++ sgTxt a b false i ++ (if i < n then sgChr a b i else []) := ⟨_, rfl⟩
      have HC2 : Hid (ComeS n a b false S (i + 1) X) := by rw [hX]; exact comeS_next HC.out hlt
      have hXl : X.length ≤ i + 1 + sumTxt a (i + 1) + sumTxt b (i + 1) := by
        have h1 : (if i < n then sgChr a b i else []).length ≤ 1 := by
          split
          · exact sgChr_len a b i
          · exact Nat.zero_le _
        rw [hX, List.length_append, List.length_append, sgTxt_len]
        omega
      have HX : Hid (X = L ++ sgTxt a b false i ++ (if i < n then sgChr a b i else [])) := hX
      have lTA : (txt a i).length ≤ 4096 := by omega
      have lTB : (txt b i).length ≤ 4096 := by omega
      have lL : L.length ≤ 20000 := by omega
      have HXl : Hid (X.length ≤ i + 1 + sumTxt a (i + 1) + sumTxt b (i + 1)) := hXl
      clear HC hX eA eB hXl hLl sA1 sB1
      go_wp2_with fail
      refine (at_any _ a i wr (H1.out wr Hb.out) (by omega) (by omega)).mono ?_
      rintro e w1 ⟨hb1, t1, rfl, hr1⟩
      obtain ⟨ta, ca, hta⟩ := hr1.shape
      subst hta
      have HB1 : Hid (Below w.heap.size w w1) := below_trans Hb.out hb1 hbs
      have HR1 : Hid (∀ wx, Below wr.heap.size wr wx → Reads wx (.slice ta (txt a i).length ca) (txt a i)) := fun wx hb => hr1.below hb
      have HBw1 : Hid (Below wr.heap.size wr w1) := hb1
      have HO1 : Hid (OwnS w1 w.heap.size u9 L) := Hown.out.below hb1
      clear hb1 hr1
      go_wp2_with fail
      refine (at_any _ b i w1 (H2.out w1 HB1.out) (by omega) (by omega)).mono ?_
      rintro e w2 ⟨hb2, t2, rfl, hr2⟩
      obtain ⟨tb, cb, htb⟩ := hr2.shape
      subst htb
      have HB2 : Hid (Below w.heap.size w w2) := below_trans HB1.out hb2 HB1.out.size
      have HBw2 : Hid (Below wr.heap.size wr w2) := below_trans HBw1.out hb2 HBw1.out.size
      have HO2 : Hid (OwnS w2 w.heap.size u9 L) := HO1.out.below hb2
      clear hb2 hr2 HB1 HBw1 HO1
      go_wp2_with fail
      obtain ⟨wo, hwo⟩ : ∃ wo, wo = wr := ⟨_, rfl⟩
      rw [← hwo] at HR1 HBw2 hbs Hown Hb
      clear hwo Hown Hb
      have hb2s := HB2.out.size
      go_loopw [15, 38] (fun u15 u38 wi => ∃ (j : Nat), u38 = .int .i64 (j : Int) ∧ j ≤ (txt a i).length ∧ Hid (OwnS wi w2.heap.size u15 (putS ((txt a i).take j))) ∧ Hid (Below w2.heap.size w2 wi))
        (fun _ u38 _ => (txt a i).length - (intOf u38).toNat)
      case atStart => exact ⟨0, rfl, Nat.zero_le _, ownS_nil _ _, Below.refl _ _⟩
      case round =>
        obtain ⟨j, rfl, hj, Hp, Hbi⟩ := hrel
        by_cases hjl : j < (txt a i).length
        · obtain ⟨bt, ot, hbt, hct⟩ := reads_at (HR1.out wr (below_trans HBw2.out Hbi.out HBw2.out.size)) j hjl
          have hI : (j : Int) < ((txt a i).length : Int) := by omega
          have HPT : Hid (putS ((txt a i).take (j + 1)) = putS ((txt a i).take j) ++ [(2, (txt a i).getD j 0)]) := putS_take _ _ hjl
          subst hbt
          generalize (txt a i).getD j 0 = z at *
          have hpl : (putS ((txt a i).take j)).length ≤ 4096 := by rw [putS_len, List.length_take]; omega
          have hbis := Hbi.out.size
          go_wp2_with (at_builtin; refine append_sg rfl _ _ rfl w2.heap.size u15 _ (putS ((txt a i).take j)) [(2, z)] (putS ((txt a i).take (j + 1))) HPT.out rfl (Hp.out.alloc _) rfl (readsS_one _ _ _) (by simp; omega) (by rw [size_alloc]; omega) ?_)
          intro v3 w3 ho3 hg3 _
          have HO3 : Hid (OwnS w3 w2.heap.size v3 (putS ((txt a i).take (j + 1)))) := ho3
          have HB3 : Hid (Below w2.heap.size w2 w3) := (Hbi.out.alloc hbis _).grown hg3 (by rw [size_alloc]; omega) (fun g hg => (Hp.out.lt g hg).1)
          clear ho3 hg3 Hp Hbi hct
          go_wp2_with fail
          go_roundw
          case rel => exact ⟨j + 1, by go_num, by omega, HO3.out, HB3.out⟩
          case measure => simp [intOf] <;> omega
        · obtain rfl : j = (txt a i).length := by omega
          rw [List.take_length] at Hp
          have HB3 : Hid (Below w.heap.size w wr) := below_trans HB2.out Hbi.out hb2s
          have HO3 : Hid (OwnS wr w.heap.size u9 L) := HO2.out.below Hbi.out
          have hbis := Hbi.out.size
          have hu9 : ∀ g, u9.ownBlock = some g → g < w2.heap.size := fun g hg => (HO2.out.lt g hg).2
          have hu15 : ∀ g, u15.ownBlock = some g → w2.heap.size ≤ g := fun g hg => (Hp.out.lt g hg).1
          clear HB2 HO2 Hbi HBw2 HR1
          obtain ⟨wq, hwq⟩ : ∃ wq, wq = wr := ⟨_, rfl⟩
          rw [← hwq] at Hp HB3 HO3 hbis
          have hbq := HB3.out.size
          have HAP0 : Hid (∀ g, u15.ownBlock = some g → u9.ownBlock ≠ some g) := fun g hg h => by have := hu9 g h; have := hu15 g hg; omega
          have HY2 : Hid (L = L ++ stayS 0) := by show _ = _; exact (List.append_nil _).symm
          go_wp2_with fail
          rw [← hwq]
          clear hwq
          go_loopw [9, 54] (fun u9 u54 wi => ∃ (j : Nat) (Z : List Sgn), u54 = .int .i64 (j : Int) ∧ j ≤ (txt b i).length ∧ Hid (Z = L ++ stayS j) ∧ Hid (OwnS wi w.heap.size u9 Z) ∧ Hid (OwnS wi w2.heap.size u15 (putS (txt a i))) ∧ Hid (∀ g, u15.ownBlock = some g → u9.ownBlock ≠ some g) ∧ Hid (Below w.heap.size w wi))
            (fun _ u54 _ => (txt b i).length - (intOf u54).toNat)
          case atStart => exact ⟨0, L, rfl, Nat.zero_le _, HY2.out, HO3.out, Hp.out, HAP0.out, HB3.out⟩
          case round =>
            obtain ⟨j, Z0, rfl, hj, HZ, Ho, Hpi, HAP, Hbi⟩ := hrel
            have hZl : Z0.length = L.length + j := by rw [HZ.out, List.length_append, stayS_len]
            have hbis2 := Hbi.out.size
            clear Hp HO3 HB3 HAP0 hu9 hu15
            by_cases hjl : j < (txt b i).length
            · have hI : (j : Int) < ((txt b i).length : Int) := by omega
              obtain ⟨Z2, hZ2⟩ : ∃ Z2, Z2 = Z0 ++ [((0 : Int), (0 : Int))] := ⟨_, rfl⟩
              have HZ2 : Hid (Z2 = Z0 ++ [(0, 0)]) := hZ2
              have HZ3 : Hid (Z2 = L ++ stayS (j + 1)) := by
                show _ = _
                rw [hZ2, HZ.out, stayS_more, List.append_assoc]
              clear hZ2
              have hZb : Z0.length ≤ 40000 := by omega
              clear hZl
              go_wp2_with (at_builtin; refine append_sg rfl _ _ rfl w.heap.size u9 _ Z0 [(0, 0)] Z2 HZ2.out rfl (Ho.out.alloc _) rfl (readsS_one _ _ _) (by simp; omega) (by rw [size_alloc]; omega) ?_)
              intro v5 w5 ho5 hg5 hat5
              have HO5 : Hid (OwnS w5 w.heap.size v5 Z2) := ho5
              have HB5 : Hid (Below w.heap.size w w5) := (Hbi.out.alloc hbis2 _).grown hg5 (by rw [size_alloc]; omega) (fun g hg => (Ho.out.lt g hg).1)
              have HP5 : Hid (OwnS w5 w2.heap.size u15 (putS (txt a i))) := OwnS.kept (Hpi.out.alloc _) hg5 (fun g hg => HAP.out g hg)
              have HA5 : Hid (∀ g, u15.ownBlock = some g → v5.ownBlock ≠ some g) := fun g hg h => by
                rcases hat5 with h5 | h5
                · exact HAP.out g hg (h5.symm.trans h)
                · have := (Hpi.out.lt g hg).2
                  rw [h5] at h
                  have := Option.some.inj h
                  omega
              clear ho5 hg5 hat5 Ho Hbi Hpi HAP
              go_wp2_with fail
              go_roundw
              case rel => exact ⟨j + 1, Z2, by go_num, by omega, HZ3.out, HO5.out, HP5.out, HA5.out, HB5.out⟩
              case measure => simp [intOf] <;> omega
            · obtain rfl : j = (txt b i).length := by omega
              have hZb0 : Z0.length ≤ 30000 := by omega
              obtain ⟨Z, hZ⟩ : ∃ Z, Z = Z0 ++ putS (txt a i) := ⟨_, rfl⟩
              have HZq : Hid (Z = Z0 ++ putS (txt a i)) := hZ
              have hZb : Z.length ≤ 40000 := by rw [hZ, List.length_append, putS_len]; omega
              have HX2 : Hid (X = Z ++ (if i < n then sgChr a b i else [])) := by
                show _ = _
                rw [HX.out, hZ, HZ.out]
                unfold sgTxt
                simp only [Bool.false_eq_true, if_false]
                simp only [List.append_assoc]
              clear hZl hZ
              go_wp2_with (at_builtin; refine append_sg rfl _ _ rfl w.heap.size u9 _ Z0 (putS (txt a i)) Z HZq.out rfl Ho.out rfl Hpi.out.reads (by rw [putS_len]; omega) hbis2 ?_)
              intro v6 w6 ho6 hg6 _
              have Ho6 : Hid (OwnS w6 w.heap.size v6 Z) := ho6
              have HB6 : Hid (Below w.heap.size w w6) := Hbi.out.grown hg6 hbis2 (fun g hg => (Ho.out.lt g hg).1)
              clear ho6 hg6 Ho Hbi Hpi HAP
              have hbis3 := HB6.out.size
              by_cases hin : i < n
              · have hiN : (i : Int) < (n : Int) := by omega
                by_cases hgb : gon b i = true
                · have HX3 : Hid (X = Z) := by
                    show _ = _
                    rw [HX2.out, if_pos hin]
                    unfold sgChr
                    rw [if_pos hgb, List.append_nil]
                  have HO9 : Hid (OwnS w6 w.heap.size v6 X) := by rw [HX3.out]; exact Ho6.out
                  rw [hgb]
                  go_wp2_with fail
                  go_roundw
                  case rel => exact ⟨i + 1, X, by go_num, by omega, HXl.out, HC2.out, HO9.out, HB6.out⟩
                  case measure => simp [intOf] <;> omega
                · have hgb2 : gon b i = false := by simpa using hgb
                  by_cases hga : gon a i = true
                  · have HX3 : Hid (X = Z ++ [(1, 0)]) := by
                      show _ = _
                      rw [HX2.out, if_pos hin]
                      unfold sgChr
                      rw [if_neg hgb, if_pos hga]
                    rw [hgb2, hga]
                    clear hgb hgb2 hga
                    go_wp2_with (at_builtin; refine append_sg rfl _ _ rfl w.heap.size v6 _ Z [(1, 0)] X HX3.out rfl (Ho6.out.alloc _) rfl (readsS_one _ _ _) (by simp; omega) (by rw [size_alloc]; omega) ?_)
                    intro v9 w9 ho9 hg9 _
                    have HO9 : Hid (OwnS w9 w.heap.size v9 X) := ho9
                    have HB9 : Hid (Below w.heap.size w w9) := (HB6.out.alloc hbis3 _).grown hg9 (by rw [size_alloc]; omega) (fun g hg => (Ho6.out.lt g hg).1)
                    clear ho9 hg9 Ho6 HB6
                    go_wp2_with fail
                    go_roundw
                    case rel => exact ⟨i + 1, X, by go_num, by omega, HXl.out, HC2.out, HO9.out, HB9.out⟩
                    case measure => simp [intOf] <;> omega
                  · have hga2 : gon a i = false := by simpa using hga
                    have HX3 : Hid (X = Z ++ [(0, 0)]) := by
                      show _ = _
                      rw [HX2.out, if_pos hin]
                      unfold sgChr
                      rw [if_neg hgb, if_neg hga]
                    rw [hgb2, hga2]
                    clear hgb hgb2 hga hga2
                    go_wp2_with (at_builtin; refine append_sg rfl _ _ rfl w.heap.size v6 _ Z [(0, 0)] X HX3.out rfl (Ho6.out.alloc _) rfl (readsS_one _ _ _) (by simp; omega) (by rw [size_alloc]; omega) ?_)
                    intro v9 w9 ho9 hg9 _
                    have HO9 : Hid (OwnS w9 w.heap.size v9 X) := ho9
                    have HB9 : Hid (Below w.heap.size w w9) := (HB6.out.alloc hbis3 _).grown hg9 (by rw [size_alloc]; omega) (fun g hg => (Ho6.out.lt g hg).1)
                    clear ho9 hg9 Ho6 HB6
                    go_wp2_with fail
                    go_roundw
                    case rel => exact ⟨i + 1, X, by go_num, by omega, HXl.out, HC2.out, HO9.out, HB9.out⟩
                    case measure => simp [intOf] <;> omega
              · have HX3 : Hid (X = Z) := by
                  show _ = _
                  rw [HX2.out, if_neg hin, List.append_nil]
                have HO9 : Hid (OwnS w6 w.heap.size v6 X) := by rw [HX3.out]; exact Ho6.out
                have hiN : ¬ (i : Int) < (n : Int) := by omega
                go_wp2_with fail
                go_roundw
                case rel => exact ⟨i + 1, X, by go_num, by omega, HXl.out, HC2.out, HO9.out, HB6.out⟩
                case measure => simp [intOf] <;> omega
    · obtain rfl : i = n + 1 := by omega
      have HLS : Hid (L = S) := by
        rcases HC.out with ⟨h, _⟩ | ⟨_, h⟩
        · omega
        · exact h
      have hSl : S.length ≤ 50000 := by
        rw [← HLS.out]
        have := HSA.out (n + 1)
        have := HSB.out (n + 1)
        omega
      have HO9 : Hid (OwnS wr w.heap.size u9 S) := by rw [← HLS.out]; exact Hown.out
      clear HC HLS Hown hLl
      go_wp2_with fail
      refine (folded_any _ S wr HO9.out.reads hSl H012.out).mono ?_
      rintro e w9 ⟨hb9, v9, rfl, ho9⟩
      have HB9 : Hid (Below w.heap.size w w9) := below_trans Hb.out hb9 hbs
      have HE9 : Hid (OwnE w9 w.heap.size v9 (ups (gat (0, 0, []) S))) := ho9.less hbs
      clear hb9 ho9
      go_wp2_with fail
      go_ret
      exact ⟨HB9.out, _, rfl, HE9.out⟩
theorem refover_any (v1 v2 : Value) (n : Nat) (a b : List Nsp) (ahead : Bool) (w : World) (h1 : ReadsE w v1 (ups a)) (h2 : ReadsE w v2 (ups b)) (ha : Fits n a) (hb : Fits n b) :
    Calls Try.prog 20 #[.int .i64 (n : Int), v1, v2, .bool ahead] w fun e w' => Below w.heap.size w w' ∧ ∃ v, e = .returned v ∧ OwnE w' w.heap.size v (ups (ovr n a b ahead)) := by
  cases ahead with
  | true => exact refover_ahead v1 v2 n a b w h1 h2 ha hb
  | false => exact refover_behind v1 v2 n a b w h1 h2 ha hb
end Go.Proofs.Ytpgecholpbpakaa.Seek
