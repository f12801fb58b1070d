/- Texts of one claim, one behind the other: DoAll, DoeIn, DoUse. -/
import Derived.Test.YtpgjaoemkadenabM42
import Derived.Test.YtpgjaoemkadenabM22
import Derived.Deep.RegionWith
import Derived.Deep.CutRange
import Derived.BigQuiet
/- The contract of edit.Do, whole. -/
set_option linter.unusedVariables false
set_option linter.unusedSimpArgs false
set_option maxRecDepth 100000
namespace Go.Proofs.Ytpgjaoemkadenab.Seek
open Go.RowKit Plain
theorem lchk_zero {n : Nat} {k : Int} (h : lchk n k = 0) : n ≤ 200 ∧ 0 ≤ k ∧ k ≤ lastP n := by
  unfold lchk at h
  by_cases h1 : 200 < n
  · rw [if_pos h1] at h; cases h
  · rw [if_neg h1] at h
    by_cases h2 : k < 0 ∨ lastP n < k
    · rw [if_pos h2] at h; cases h
    · omega
theorem achk_zero {n : Nat} {k fk c o : Int} (h : achk n k fk c o = 0) : n ≤ 200 ∧ 0 ≤ k ∧ k ≤ lastP n ∧ 0 ≤ c ∧ c ≤ 999 ∧ (o = 0 ∨ o = 100 ∨ o = 99 ∨ o = 121) := by
  unfold achk at h
  by_cases h0 : lchk n k = 0
  · rw [if_neg (by rw [h0]; decide)] at h
    obtain ⟨l1, l2, l3⟩ := lchk_zero h0
    by_cases h1 : c < 0 ∨ 999 < c ∨ (fk ≠ 0 ∧ isF fk = false)
    · rw [if_pos h1] at h; cases h
    · rw [if_neg h1] at h
      have hc : 0 ≤ c ∧ c ≤ 999 := by omega
      by_cases h2 : isO o = true
      · exact ⟨l1, l2, l3, hc.1, hc.2, of_decide_eq_true h2⟩
      · rw [if_neg h2] at h; cases h
  · rw [if_pos h0] at h; exact absurd h h0
theorem whl_op {o v : Int} (h : o = 0 ∨ o = 100 ∨ o = 99 ∨ o = 121) : (whl o v).1 = 0 ∨ (whl o v).1 = 100 ∨ (whl o v).1 = 99 ∨ (whl o v).1 = 121 := by
  unfold whl
  by_cases h0 : o = 0
  · rw [if_neg (by simpa using h0)]
    repeat' split
    all_goals first | exact .inl h0 | (simp)
  · rw [if_pos h0]
    exact h
theorem act_len (R : Res) (o v : Int) (f t : Nat) (h1 : f ≤ t) (h2 : t ≤ R.text.length) : (act R o v f t).text.length ≤ R.text.length := by
  have hw : (wit R.text f t []).length ≤ R.text.length := by rw [wit_len _ _ _ _ h1 h2]; show f + 0 + _ ≤ _; omega
  unfold act
  repeat' split
  all_goals first | exact hw | exact Nat.le_refl _
theorem opd_len (R : Res) (c r o v g : Int) (h : (opd R c r o v g).2 = 0) : (opd R c r o v g).1.text.length ≤ R.text.length := by
  rcases spn_in R c o v g with he | ⟨f, t, hS, h1, h2⟩
  · unfold opd at h
    rw [if_pos he] at h
    exact absurd h he
  · unfold opd at h ⊢
    rw [hS, if_neg (fun h => h rfl)] at h ⊢
    by_cases e1 : (f : Int) = (t : Int) ∧ o ≠ 99
    · rw [if_pos e1] at h
      cases h
    · rw [if_neg e1] at h ⊢
      by_cases e2 : (f : Int) < (t : Int)
      · rw [if_pos e2] at h ⊢
        simp only [Int.toNat_natCast] at h ⊢
        by_cases e3 : (putR R.regs r ((R.text.drop f).take (t - f))).2 ≠ 0
        · rw [if_pos e3] at h
          exact absurd h e3
        · rw [if_neg e3] at h ⊢
          exact act_len { R with regs := _ } o v f t h1 h2
      · rw [if_neg e2] at h ⊢
        simp only [Int.toNat_natCast] at h ⊢
        exact act_len R o v f t h1 h2
theorem dne_len (R : Res) (c r o v g : Int) (hz : R.text.length ≤ 200) (hk0 : 0 ≤ R.loc) (hkl : R.loc ≤ lastP R.text.length) (h : (dne R c r o v g).2 = 0) : (dne R c r o v g).1.text.length ≤ 200 := by
  have hlp : lastP R.text.length = ((R.text.length - 1 : Nat) : Int) := rfl
  unfold dne at h ⊢
  by_cases h0 : o ≠ 0
  · rw [if_pos h0] at h ⊢
    exact Nat.le_trans (opd_len R c r o v g h) hz
  rw [if_neg h0] at h ⊢
  by_cases h1 : v = 112 ∨ v = 80
  · rw [if_pos h1] at h ⊢
    generalize (v == 112) = bh at h ⊢
    unfold pst at h ⊢
    by_cases e1 : (getR R.regs r).2 ≠ 0
    · rw [if_pos e1] at h
      exact absurd h e1
    rw [if_neg e1] at h ⊢
    by_cases e2 : 200 < R.text.length + times c * (getR R.regs r).1.length
    · rw [if_pos e2] at h
      cases h
    rw [if_neg e2]
    have hat : (if bh = true ∧ R.text ≠ [] then R.loc.toNat + 1 else R.loc.toNat) ≤ R.text.length := by
      split
      · rename_i hh
        have : R.text.length ≠ 0 := fun e => hh.2 (List.length_eq_zero_iff.1 e)
        omega
      · omega
    show (wit _ _ _ _).length ≤ 200
    rw [wit_len _ _ _ _ (Nat.le_refl _) hat, rep_len]
    omega
  rw [if_neg h1] at h ⊢
  by_cases h2 : v = 126
  · rw [if_pos h2] at h ⊢
    unfold trn at h ⊢
    by_cases e1 : R.text = []
    · rw [if_pos e1] at h
      cases h
    rw [if_neg e1]
    show (flp _ _ _).length ≤ 200
    rw [flp_len _ _ _ (by omega)]
    exact hz
  rw [if_neg h2] at h ⊢
  by_cases h3 : v = 114
  · rw [if_pos h3] at h ⊢
    unfold rpl at h ⊢
    by_cases e1 : (R.text.length : Int) < R.loc + (times c : Int)
    · rw [if_pos e1] at h
      cases h
    rw [if_neg e1]
    show (wit _ _ _ _).length ≤ 200
    rw [wit_len _ _ _ _ (by omega) (by omega), rep_len]
    show R.loc.toNat + times c * 1 + _ ≤ 200
    omega
  rw [if_neg h3] at h ⊢
  by_cases h4 : v = 105 ∨ v = 73 ∨ v = 97 ∨ v = 65 ∨ v = 82
  · rw [if_pos h4]
    show (bgn' R v).text.length ≤ 200
    unfold bgn'
    repeat' split
    all_goals exact hz
  rw [if_neg h4] at h ⊢
  unfold mvd at h ⊢
  by_cases e1 : (mot v g R.fk R.fa).2.2 ≠ 0
  · rw [if_pos e1] at h
    exact absurd h e1
  · rw [if_neg e1]
    exact hz
theorem do_go (a : Option Addr) (cap : Nat) (zs : List Int) (k : Int) (vs : List Value) (ts : List (List Int)) (fk fa c r o v g : Int) (w : World) (h : Reads w (.slice a zs.length cap) zs) (hr : ReadsR w vs ts) :
    Calls Try.prog 13 #[.agg #[.slice a zs.length cap, .int .i64 k], .agg vs.toArray, .agg #[.int .i64 fk, .int .i64 fa], .agg #[.int .i64 c, .int .i64 r, .int .i64 o, .int .i64 v, .int .i64 g]] w fun q w' => DoPost zs (doe ⟨zs, k, ts, fk, fa, 0⟩ c r o v g) w q w' := by
  have hm : zs.length ≤ maxLen := h.most
  unfold doe
  by_cases hE : achk zs.length k fk c o = 0
  · rw [if_neg (fun h => h hE)]
    obtain ⟨hz, hk0, hkl, hc0, hc, ho⟩ := achk_zero hE
    obtain ⟨X, hX⟩ : ∃ X, X = dne ⟨zs, k, ts, fk, fa, 0⟩ c r (whl o v).1 (whl o v).2 g := ⟨_, rfl⟩
    rw [← hX]
    by_cases he : X.2 = 0
    · rw [if_neg (fun h => h he)]
      have hxl : X.1.text.length ≤ 4096 := by
        have q := dne_len ⟨zs, k, ts, fk, fa, 0⟩ c r (whl o v).1 (whl o v).2 g hz hk0 hkl (by rw [← hX]; exact he)
        rw [← hX] at q
        omega
      cases hf : isF v with
      | true => rw [if_pos rfl]; exact do_find a cap zs k vs ts fk fa c r o v g w h hr hz hE hk0 hkl hc _ _ rfl (whl_op ho) X hX.symm he hxl hf
      | false => rw [if_neg (by decide)]; exact do_ok a cap zs k vs ts fk fa c r o v g w h hr hz hE hk0 hkl hc _ _ rfl (whl_op ho) X hX.symm he hxl hf
    · rw [if_pos he]
      exact do_fail a cap zs k vs ts fk fa c r o v g w h hr hz hE hk0 hkl hc _ _ rfl (whl_op ho) X hX.symm he
  · rw [if_pos hE]
    exact do_bad a cap zs k vs ts fk fa c r o v g w h hr hm _ rfl hE
end Go.Proofs.Ytpgjaoemkadenab.Seek

/- Plain mathematics over what Do answers: where the place is, what was taken, letters turned twice, what is put back. -/
set_option linter.unusedVariables false
set_option linter.unusedSimpArgs false
set_option maxRecDepth 100000
namespace Go.Proofs.Ytpgjaoemkadenab.Seek
open Go.RowKit Plain
/-- A whole command that fails nowhere. -/
theorem doe_dne {R : Res} {c r o v g : Int} (h : (doe R c r o v g).2 = 0) :
    achk R.text.length R.loc R.fk c o = 0 ∧ (dne R c r (whl o v).1 (whl o v).2 g).2 = 0 ∧ (doe R c r o v g).1.text = (dne R c r (whl o v).1 (whl o v).2 g).1.text ∧
    (doe R c r o v g).1.loc = (dne R c r (whl o v).1 (whl o v).2 g).1.loc ∧ (doe R c r o v g).1.regs = (dne R c r (whl o v).1 (whl o v).2 g).1.regs ∧ (doe R c r o v g).1.mode = (dne R c r (whl o v).1 (whl o v).2 g).1.mode := by
  unfold doe at h ⊢
  by_cases h1 : achk R.text.length R.loc R.fk c o = 0
  · rw [if_neg (fun q => q h1)] at h ⊢
    by_cases h2 : (dne R c r (whl o v).1 (whl o v).2 g).2 = 0
    · rw [if_neg (fun q => q h2)] at h ⊢
      refine ⟨h1, h2, ?_⟩
      by_cases h3 : isF v = true
      · rw [if_pos h3]; exact ⟨rfl, rfl, rfl, rfl⟩
      · rw [if_neg h3]; exact ⟨rfl, rfl, rfl, rfl⟩
    · rw [if_pos h2] at h
      exact absurd h h2
  · rw [if_pos h1] at h
    exact absurd h h1
theorem doe_of {R : Res} {c r o v g : Int} (h1 : achk R.text.length R.loc R.fk c o = 0) (h2 : (dne R c r (whl o v).1 (whl o v).2 g).2 = 0) : (doe R c r o v g).2 = 0 := by
  unfold doe
  rw [if_neg (fun q => q h1), if_neg (fun q => q h2)]
  by_cases h3 : isF v = true
  · rw [if_pos h3]
  · rw [if_neg h3]
/-- An operator that fails nowhere. -/
theorem opd_cases {R : Res} {c r o v g : Int} (h : (opd R c r o v g).2 = 0) : ∃ f t : Nat, f ≤ t ∧ t ≤ R.text.length ∧
    ((f = t ∧ o = 99 ∧ (opd R c r o v g).1 = act R o v f t) ∨
     (f < t ∧ (putR R.regs r ((R.text.drop f).take (t - f))).2 = 0 ∧ (opd R c r o v g).1 = act { R with regs := (putR R.regs r ((R.text.drop f).take (t - f))).1 } o v f t)) := by
  rcases spn_in R c o v g with he | ⟨f, t, hS, h1, h2⟩
  · unfold opd at h
    rw [if_pos he] at h
    exact absurd h he
  · refine ⟨f, t, h1, h2, ?_⟩
    unfold opd at h ⊢
    rw [hS, if_neg (fun h => h rfl)] at h ⊢
    by_cases e1 : (f : Int) = (t : Int) ∧ o ≠ 99
    · rw [if_pos e1] at h
      cases h
    · rw [if_neg e1] at h ⊢
      by_cases e2 : (f : Int) < (t : Int)
      · rw [if_pos e2] at h ⊢
        simp only [Int.toNat_natCast] at h ⊢
        by_cases e3 : (putR R.regs r ((R.text.drop f).take (t - f))).2 ≠ 0
        · rw [if_pos e3] at h
          exact absurd h e3
        · rw [if_neg e3]
          exact .inr ⟨by omega, by omega, by first | trivial | rfl⟩
      · rw [if_neg e2] at h ⊢
        simp only [Int.toNat_natCast] at h ⊢
        exact .inl ⟨by omega, by by_cases q : o = 99; exact q; exact absurd ⟨by omega, q⟩ e1, by first | trivial | rfl⟩
theorem act_in (R : Res) (o v : Int) (f t : Nat) (h1 : f ≤ t) (h2 : t ≤ R.text.length) (hk0 : 0 ≤ R.loc) (hkl : R.loc ≤ lastP R.text.length) (hm : R.mode = 0) :
    0 ≤ (act R o v f t).loc ∧ (act R o v f t).loc ≤ if (act R o v f t).mode = 0 then lastP (act R o v f t).text.length else ((act R o v f t).text.length : Int) := by
  have hw : (wit R.text f t []).length = f + 0 + (R.text.length - t) := wit_len _ _ _ _ h1 h2
  unfold act
  by_cases o1 : o = 100
  · rw [if_pos o1]
    show 0 ≤ min (f : Int) (lastP (wit R.text f t []).length) ∧ min (f : Int) (lastP (wit R.text f t []).length) ≤ if R.mode = 0 then lastP (wit R.text f t []).length else _
    rw [if_pos hm]
    unfold lastP
    omega
  rw [if_neg o1]
  by_cases o2 : o = 99
  · rw [if_pos o2]
    show 0 ≤ (f : Int) ∧ (f : Int) ≤ if (1 : Int) = 0 then _ else ((wit R.text f t []).length : Int)
    rw [if_neg (by decide)]
    omega
  rw [if_neg o2]
  by_cases o3 : o = 121
  · rw [if_pos o3]
    by_cases o4 : v ≠ o
    · rw [if_pos o4]
      show 0 ≤ min R.loc (f : Int) ∧ min R.loc (f : Int) ≤ if R.mode = 0 then lastP R.text.length else _
      rw [if_pos hm]
      omega
    · rw [if_neg o4, if_pos hm]
      exact ⟨hk0, hkl⟩
  · rw [if_neg o3, if_pos hm]
    exact ⟨hk0, hkl⟩
theorem getR_some {ts : List (List Int)} {r : Int} (h : (getR ts r).2 = 0) : (getR ts r).1 ≠ [] := by
  unfold getR at h ⊢
  cases hr : rno r with
  | none => rw [hr] at h; cases h
  | some q =>
    obtain ⟨k, g⟩ := q
    rw [hr] at h
    simp only at h ⊢
    by_cases h2 : ts.getD k [] = []
    · rw [if_pos h2] at h; cases h
    · rw [if_neg h2]; exact h2
/-- Where the place is, whatever is done. -/
theorem dne_in (R : Res) (c r o v g : Int) (hk0 : 0 ≤ R.loc) (hkl : R.loc ≤ lastP R.text.length) (hm : R.mode = 0) (h : (dne R c r o v g).2 = 0) :
    0 ≤ (dne R c r o v g).1.loc ∧ (dne R c r o v g).1.loc ≤ if (dne R c r o v g).1.mode = 0 then lastP (dne R c r o v g).1.text.length else ((dne R c r o v g).1.text.length : Int) := by
  have hlp : lastP R.text.length = ((R.text.length - 1 : Nat) : Int) := rfl
  have hn : 1 ≤ times c := by unfold times; omega
  unfold dne at h ⊢
  by_cases h0 : o ≠ 0
  · rw [if_pos h0] at h ⊢
    obtain ⟨f, t, h1, h2, ⟨_, _, e⟩ | ⟨_, _, e⟩⟩ := opd_cases h
    · rw [e]
      exact act_in R o v f t h1 h2 hk0 hkl hm
    · rw [e]
      exact act_in { R with regs := _ } o v f t h1 h2 hk0 hkl hm
  rw [if_neg h0] at h ⊢
  by_cases h1 : v = 112 ∨ v = 80
  · rw [if_pos h1] at h ⊢
    generalize (v == 112) = bh at h ⊢
    unfold pst at h ⊢
    by_cases e1 : (getR R.regs r).2 ≠ 0
    · rw [if_pos e1] at h
      exact absurd h e1
    rw [if_neg e1] at h ⊢
    by_cases e2 : 200 < R.text.length + times c * (getR R.regs r).1.length
    · rw [if_pos e2] at h
      cases h
    rw [if_neg e2]
    have hg : 0 < (getR R.regs r).1.length := List.length_pos_iff.2 (getR_some (by omega))
    have hp : 1 ≤ times c * (getR R.regs r).1.length := Nat.mul_pos hn hg
    obtain ⟨m, hm2⟩ : ∃ m, m = times c * (getR R.regs r).1.length := ⟨_, rfl⟩
    rw [← hm2] at hp e2
    obtain ⟨p, hpe⟩ : ∃ p, p = (if bh = true ∧ R.text ≠ [] then R.loc.toNat + 1 else R.loc.toNat) := ⟨_, rfl⟩
    have hat : p ≤ R.text.length := by
      rw [hpe]
      split
      · rename_i hh
        have : R.text.length ≠ 0 := fun e => hh.2 (List.length_eq_zero_iff.1 e)
        omega
      · omega
    have hw : (wit R.text p p (rep (times c) (getR R.regs r).1)).length = p + m + (R.text.length - p) := by rw [wit_len _ _ _ _ (Nat.le_refl _) hat, rep_len, hm2]
    show 0 ≤ (((if bh = true ∧ R.text ≠ [] then R.loc.toNat + 1 else R.loc.toNat : Nat) : Int) + ((times c * (getR R.regs r).1.length : Nat) : Int) - 1) ∧ _ ≤ if R.mode = 0 then lastP (wit R.text (if bh = true ∧ R.text ≠ [] then R.loc.toNat + 1 else R.loc.toNat) (if bh = true ∧ R.text ≠ [] then R.loc.toNat + 1 else R.loc.toNat) (rep (times c) (getR R.regs r).1)).length else _
    rw [← hpe, if_pos hm, hw, ← hm2]
    clear hpe hm2
    unfold lastP
    dsimp only
    omega
  rw [if_neg h1] at h ⊢
  by_cases h2 : v = 126
  · rw [if_pos h2] at h ⊢
    unfold trn at h ⊢
    by_cases e1 : R.text = []
    · rw [if_pos e1] at h
      cases h
    rw [if_neg e1]
    show 0 ≤ min (R.loc + (times c : Int)) (lastP R.text.length) ∧ min (R.loc + (times c : Int)) (lastP R.text.length) ≤ if R.mode = 0 then lastP (flp _ _ _).length else _
    rw [if_pos hm, flp_len _ _ _ (by omega)]
    omega
  rw [if_neg h2] at h ⊢
  by_cases h3 : v = 114
  · rw [if_pos h3] at h ⊢
    unfold rpl at h ⊢
    by_cases e1 : (R.text.length : Int) < R.loc + (times c : Int)
    · rw [if_pos e1] at h
      cases h
    rw [if_neg e1]
    show 0 ≤ R.loc + (times c : Int) - 1 ∧ R.loc + (times c : Int) - 1 ≤ if R.mode = 0 then lastP (wit _ _ _ _).length else _
    rw [if_pos hm, wit_len _ _ _ _ (by omega) (by omega), rep_len]
    unfold lastP
    show _ ∧ _ ≤ ((R.loc.toNat + times c * 1 + _ - 1 : Nat) : Int)
    omega
  rw [if_neg h3] at h ⊢
  by_cases h4 : v = 105 ∨ v = 73 ∨ v = 97 ∨ v = 65 ∨ v = 82
  · rw [if_pos h4]
    show 0 ≤ (bgn' R v).loc ∧ (bgn' R v).loc ≤ if (bgn' R v).mode = 0 then lastP (bgn' R v).text.length else ((bgn' R v).text.length : Int)
    unfold bgn'
    have hG : 0 ≤ (goes R.text R.loc 0 94 0 false).1 ∧ (goes R.text R.loc 0 94 0 false).1 ≤ (R.text.length : Int) := by
      obtain ⟨G, hG⟩ : ∃ G, G = goes R.text R.loc 0 94 0 false := ⟨_, rfl⟩
      rw [← hG]
      obtain ⟨x, y, z⟩ := G
      by_cases hz : z = 0
      · subst hz
        obtain ⟨_, _, _, g1, g2, _⟩ := goes_in hG.symm
        exact ⟨g1, g2⟩
      · have : x = 0 := by
          unfold goes at hG
          split at hG
          · split at hG
            · cases hG; exact absurd rfl hz
            · cases hG; rfl
          · cases hG; rfl
        subst this
        exact ⟨Int.le_refl _, by simp only; omega⟩
    have one : ¬ (1 : Int) = 0 := by decide
    have two : ¬ (2 : Int) = 0 := by decide
    by_cases v1 : v = 73
    · rw [if_pos v1]
      show _ ∧ _ ≤ if (1 : Int) = 0 then _ else _
      rw [if_neg one]
      exact hG
    rw [if_neg v1]
    by_cases v2 : v = 97
    · rw [if_pos v2]
      show 0 ≤ min (R.loc + 1) (R.text.length : Int) ∧ min (R.loc + 1) (R.text.length : Int) ≤ if (1 : Int) = 0 then _ else (R.text.length : Int)
      rw [if_neg one]
      omega
    rw [if_neg v2]
    by_cases v3 : v = 65
    · rw [if_pos v3]
      show 0 ≤ (R.text.length : Int) ∧ (R.text.length : Int) ≤ if (1 : Int) = 0 then _ else (R.text.length : Int)
      rw [if_neg one]
      omega
    rw [if_neg v3]
    by_cases v4 : v = 82
    · rw [if_pos v4]
      show 0 ≤ R.loc ∧ R.loc ≤ if (2 : Int) = 0 then _ else (R.text.length : Int)
      rw [if_neg two]
      omega
    rw [if_neg v4]
    show 0 ≤ R.loc ∧ R.loc ≤ if (1 : Int) = 0 then _ else (R.text.length : Int)
    rw [if_neg one]
    omega
  rw [if_neg h4] at h ⊢
  unfold mvd at h ⊢
  by_cases e1 : (mot v g R.fk R.fa).2.2 ≠ 0
  · rw [if_pos e1] at h
    exact absurd h e1
  · rw [if_neg e1] at h ⊢
    obtain ⟨G, hG⟩ : ∃ G, G = goes R.text R.loc c (mot v g R.fk R.fa).1 (mot v g R.fk R.fa).2.1 false := ⟨_, rfl⟩
    rw [← hG] at h ⊢
    obtain ⟨x, y, z⟩ := G
    obtain rfl : z = 0 := h
    obtain ⟨_, _, _, g1, g2, g3, _⟩ := goes_in hG.symm
    show 0 ≤ x ∧ x ≤ if R.mode = 0 then lastP R.text.length else _
    rw [if_pos hm]
    have := g3 rfl
    exact ⟨g1, by omega⟩
/-- EditBounds: where the place is, and how long the line. -/
theorem doe_in (zs : List Int) (k : Int) (ts : List (List Int)) (fk fa c r o v g : Int) (X : Res × Int) (hX : X = doe ⟨zs, k, ts, fk, fa, 0⟩ c r o v g) (h : X.2 = 0) :
    zs.length ≤ 200 ∧ X.1.text.length ≤ 200 ∧ 0 ≤ X.1.loc ∧ X.1.loc ≤ if X.1.mode = 0 then lastP X.1.text.length else (X.1.text.length : Int) := by
  subst hX
  obtain ⟨h1, h2, e1, e2, e3, e4⟩ := doe_dne h
  obtain ⟨hz, hk0, hkl, _⟩ := achk_zero h1
  rw [e1, e2, e4]
  exact ⟨hz, dne_len _ _ _ _ _ _ hz hk0 hkl h2, dne_in _ _ _ _ _ _ hk0 hkl rfl h2⟩
theorem doe_nul (R : Res) (c r o v g : Int) (h : (doe R c r o v g).2 ≠ 0) : (doe R c r o v g).1 = nulR := by
  unfold doe at h ⊢
  by_cases h1 : achk R.text.length R.loc R.fk c o = 0
  · rw [if_neg (fun q => q h1)] at h ⊢
    by_cases h2 : (dne R c r (whl o v).1 (whl o v).2 g).2 = 0
    · rw [if_neg (fun q => q h2)] at h
      exfalso
      apply h
      by_cases h3 : isF v = true
      · rw [if_pos h3]
      · rw [if_neg h3]
    · rw [if_pos h2]
  · rw [if_pos h1]
theorem putR_zero (ts : List (List Int)) (x : List Int) : putR ts 0 x = if 200 < x.length then (nilT, 2) else ((ts.set 0 x).set 0 x, 0) := by
  show (if 200 < (ahd ts 0 false).length + x.length then (nilT, 2) else ((ts.set 0 (ahd ts 0 false ++ x)).set 0 (ahd ts 0 false ++ x), 0)) = _
  have e : ahd ts 0 false = [] := rfl
  rw [e]
  simp only [List.length_nil, Nat.zero_add, List.nil_append]
theorem whl_op2 {o v : Int} (h : o ≠ 0) : whl o v = (o, v) := by unfold whl; rw [if_pos h]
theorem piece_len (zs : List Int) (f t : Nat) (h2 : t ≤ zs.length) : ((zs.drop f).take (t - f)).length = t - f := by rw [List.length_take, List.length_drop]; omega
theorem piece_back (zs : List Int) (f t : Nat) (h1 : f ≤ t) (h2 : t ≤ zs.length) : (wit zs f t []).take f ++ (zs.drop f).take (t - f) ++ (wit zs f t []).drop f = zs := by
  unfold wit
  rw [List.append_nil, List.take_left' (by rw [List.length_take]; omega), List.drop_left' (by rw [List.length_take]; omega), List.append_assoc]
  have : (zs.drop f).take (t - f) ++ zs.drop t = zs.drop f := by
    have := List.take_append_drop (t - f) (zs.drop f)
    rwa [List.drop_drop, show f + (t - f) = t by omega] at this
  rw [this, List.take_append_drop]
/-- What an operator took: T is the line then, K what is in the register. -/
theorem doe_takes (zs : List Int) (k : Int) (fk fa c o v g : Int) (ho : o ≠ 0) (X : Res × Int) (hX : X = doe ⟨zs, k, nilT, fk, fa, 0⟩ c 0 o v g) (h : X.2 = 0) :
    (o = 121 → X.1.text = zs ∧ X.1.regs.getD 0 [] ≠ []) ∧ (o ≠ 121 → (X.1.regs.getD 0 []).length + X.1.text.length = zs.length ∧ ∃ f, f ≤ X.1.text.length ∧ X.1.text.take f ++ X.1.regs.getD 0 [] ++ X.1.text.drop f = zs) := by
  subst hX
  obtain ⟨h1, h2, e1, e2, e3, e4⟩ := doe_dne h
  obtain ⟨hz, hk0, hkl, hc0, hc9, ho2⟩ := achk_zero h1
  rw [whl_op2 ho] at h2 e1 e3
  rw [e1, e3]
  have ed : dne ⟨zs, k, nilT, fk, fa, 0⟩ c 0 o v g = opd ⟨zs, k, nilT, fk, fa, 0⟩ c 0 o v g := by unfold dne; rw [if_pos ho]
  rw [ed] at h2 ⊢
  obtain ⟨f, t, hft, ht, ⟨rfl, rfl, e⟩ | ⟨hlt, hp, e⟩⟩ := opd_cases h2
  · rw [e]
    refine ⟨fun q => absurd q (by decide), fun _ => ?_⟩
    have ea : act ⟨zs, k, nilT, fk, fa, 0⟩ 99 v f f = ⟨wit zs f f [], (f : Int), nilT, fk, fa, 1⟩ := by unfold act; rw [if_neg (by decide), if_pos rfl]
    rw [ea]
    have ew : wit zs f f [] = zs := by unfold wit; rw [List.append_nil, List.take_append_drop]
    refine ⟨?_, f, ?_, ?_⟩
    · show (nilT.getD 0 []).length + (wit zs f f []).length = _
      rw [nilT_at, ew]
      simp
    · show f ≤ (wit zs f f []).length
      rw [ew]; exact ht
    · show (wit zs f f []).take f ++ nilT.getD 0 [] ++ (wit zs f f []).drop f = zs
      rw [nilT_at, ew, List.append_nil, List.take_append_drop]
  · rw [e]
    have ht' : t ≤ zs.length := ht
    have hk : ((zs.drop f).take (t - f)).length = t - f := piece_len zs f t ht'
    have hpz : putR nilT 0 ((zs.drop f).take (t - f)) = ((nilT.set 0 ((zs.drop f).take (t - f))).set 0 ((zs.drop f).take (t - f)), 0) := by rw [putR_zero, if_neg (by omega)]
    have hreg : ∀ x : List Int, ((nilT.set 0 x).set 0 x).getD 0 [] = x := fun x => rfl
    have er : (act { (⟨zs, k, nilT, fk, fa, 0⟩ : Res) with regs := (putR nilT 0 ((zs.drop f).take (t - f))).1 } o v f t).regs = (nilT.set 0 ((zs.drop f).take (t - f))).set 0 ((zs.drop f).take (t - f)) := by
      rw [hpz]
      unfold act
      repeat' split
      all_goals rfl
    show (o = 121 → _ ∧ (act { (⟨zs, k, nilT, fk, fa, 0⟩ : Res) with regs := (putR nilT 0 ((zs.drop f).take (t - f))).1 } o v f t).regs.getD 0 [] ≠ []) ∧ (o ≠ 121 → ((act { (⟨zs, k, nilT, fk, fa, 0⟩ : Res) with regs := (putR nilT 0 ((zs.drop f).take (t - f))).1 } o v f t).regs.getD 0 []).length + _ = _ ∧ ∃ f', f' ≤ _ ∧ _ ++ (act { (⟨zs, k, nilT, fk, fa, 0⟩ : Res) with regs := (putR nilT 0 ((zs.drop f).take (t - f))).1 } o v f t).regs.getD 0 [] ++ _ = _)
    rw [er, hreg]
    constructor
    · rintro rfl
      constructor
      · show (act _ 121 v f t).text = zs
        unfold act
        rw [if_neg (by decide), if_neg (by decide), if_pos rfl]
        split <;> rfl
      · intro q
        rw [q] at hk
        simp only [List.length_nil] at hk
        omega
    · intro h121
      have et : (act { (⟨zs, k, nilT, fk, fa, 0⟩ : Res) with regs := (putR nilT 0 ((zs.drop f).take (t - f))).1 } o v f t).text = wit zs f t [] := by
        unfold act
        by_cases o1 : o = 100
        · rw [if_pos o1]
        · rw [if_neg o1, if_pos (by omega)]
      have hw : (wit zs f t []).length = f + 0 + (zs.length - t) := wit_len _ _ _ _ hft ht'
      show _ + (act { (⟨zs, k, nilT, fk, fa, 0⟩ : Res) with regs := (putR nilT 0 ((zs.drop f).take (t - f))).1 } o v f t).text.length = _ ∧ ∃ f', f' ≤ (act { (⟨zs, k, nilT, fk, fa, 0⟩ : Res) with regs := (putR nilT 0 ((zs.drop f).take (t - f))).1 } o v f t).text.length ∧ (act { (⟨zs, k, nilT, fk, fa, 0⟩ : Res) with regs := (putR nilT 0 ((zs.drop f).take (t - f))).1 } o v f t).text.take f' ++ _ ++ (act { (⟨zs, k, nilT, fk, fa, 0⟩ : Res) with regs := (putR nilT 0 ((zs.drop f).take (t - f))).1 } o v f t).text.drop f' = _
      rw [et, hw, hk]
      exact ⟨by show _ = zs.length; omega, f, by omega, piece_back zs f t hft ht'⟩
/-- P46: what was deleted, put back. -/
theorem doe_paste (zs : List Int) (k : Int) (fk fa c v g : Int) (X : Res × Int) (hX : X = doe ⟨zs, k, nilT, fk, fa, 0⟩ c 0 100 v g) (h : X.2 = 0) (key : Int)
    (hkey : key = if 0 < X.1.text.length ∧ X.1.loc = (X.1.text.length : Int) - 1 ∧ X.1.text = zs.take X.1.text.length ∧ X.1.regs.getD 0 [] = zs.drop X.1.text.length then 112 else 80) :
    (doe ⟨X.1.text, X.1.loc, X.1.regs, fk, fa, 0⟩ 0 0 0 key 0).2 = 0 ∧ (doe ⟨X.1.text, X.1.loc, X.1.regs, fk, fa, 0⟩ 0 0 0 key 0).1.text = zs := by
  subst hX
  obtain ⟨h1, h2, e1, e2, e3, e4⟩ := doe_dne h
  obtain ⟨hz, hk0, hkl, hc0, hc9, ho2⟩ := achk_zero h1
  have hfk : fk = 0 ∨ isF fk = true := by
    by_cases hf0 : fk = 0
    · exact .inl hf0
    · right
      cases hf : isF fk with
      | true => rfl
      | false =>
        unfold achk at h1
        have l0 : lchk zs.length k = 0 := by
          unfold lchk
          rw [if_neg (by have : zs.length ≤ 200 := hz; omega), if_neg (by have : k ≤ lastP zs.length := hkl; have : 0 ≤ k := hk0; omega)]
        rw [l0, if_neg (by decide), if_pos (.inr (.inr ⟨hf0, hf⟩))] at h1
        cases h1
  rw [whl_op2 (by decide)] at h2 e1 e2 e3
  have ed : dne ⟨zs, k, nilT, fk, fa, 0⟩ c 0 100 v g = opd ⟨zs, k, nilT, fk, fa, 0⟩ c 0 100 v g := by unfold dne; rw [if_pos (by decide)]
  rw [ed] at h2 e1 e2 e3
  obtain ⟨f, t, hft, ht, ⟨_, q, _⟩ | ⟨hlt, hp, e⟩⟩ := opd_cases h2
  · cases q
  have ht' : t ≤ zs.length := ht
  have hz' : zs.length ≤ 200 := hz
  obtain ⟨K, hK⟩ : ∃ K, K = (zs.drop f).take (t - f) := ⟨_, rfl⟩
  have hkl2 : K.length = t - f := by rw [hK]; exact piece_len zs f t ht'
  have hpz : putR nilT 0 K = ((nilT.set 0 K).set 0 K, 0) := by rw [putR_zero, if_neg (by omega)]
  have ee : (opd ⟨zs, k, nilT, fk, fa, 0⟩ c 0 100 v g).1 = ⟨wit zs f t [], min (f : Int) (lastP (wit zs f t []).length), (nilT.set 0 K).set 0 K, fk, fa, 0⟩ := by
    rw [e]
    show act ⟨zs, k, (putR nilT 0 ((zs.drop f).take (t - f))).1, fk, fa, 0⟩ 100 v f t = _
    rw [← hK, hpz]
    unfold act
    rw [if_pos rfl]
  rw [ee] at e1 e2 e3
  have hw : (wit zs f t []).length = f + 0 + (zs.length - t) := wit_len _ _ _ _ hft ht'
  have hb := piece_back zs f t hft ht'
  rw [← hK] at hb
  obtain ⟨T, hT⟩ : ∃ T, T = wit zs f t [] := ⟨_, rfl⟩
  have e1' : (doe ⟨zs, k, nilT, fk, fa, 0⟩ c 0 100 v g).1.text = T := e1.trans hT.symm
  have e2' : (doe ⟨zs, k, nilT, fk, fa, 0⟩ c 0 100 v g).1.loc = min (f : Int) (lastP T.length) := by rw [hT]; exact e2
  have e3' : (doe ⟨zs, k, nilT, fk, fa, 0⟩ c 0 100 v g).1.regs = (nilT.set 0 K).set 0 K := e3
  rw [e1', e2', e3'] at hkey ⊢
  rw [← hT] at hw hb
  have hreg : ((nilT.set 0 K).set 0 K).getD 0 [] = K := rfl
  rw [hreg] at hkey
  have hKn : K ≠ [] := by intro q; rw [q] at hkl2; simp only [List.length_nil] at hkl2; omega
  have hget : getR ((nilT.set 0 K).set 0 K) 0 = (K, 0) := by
    show (if ((nilT.set 0 K).set 0 K).getD 0 [] = [] then ([], 6) else (((nilT.set 0 K).set 0 K).getD 0 [], 0)) = _
    rw [hreg, if_neg hKn]
  have hTf : T = zs.take f ++ zs.drop t := by rw [hT]; unfold wit; rw [List.append_nil]
  have hach : achk T.length (min (f : Int) (lastP T.length)) fk 0 0 = 0 := by
    have hl : lchk T.length (min (f : Int) (lastP T.length)) = 0 := by
      unfold lchk
      have : 0 ≤ lastP T.length := by unfold lastP; omega
      rw [if_neg (by omega), if_neg (by omega)]
    unfold achk
    rw [hl, if_neg (by decide), if_neg, if_pos (by decide)]
    rintro (q | q | ⟨q1, q2⟩)
    · omega
    · omega
    · rcases hfk with q | q
      · exact q1 q
      · rw [q] at q2; cases q2
  have hlen : ¬ 200 < T.length + times 0 * K.length := by
    have : times 0 = 1 := rfl
    rw [this]
    omega
  have hpst : ∀ bh : Bool, pst ⟨T, min (f : Int) (lastP T.length), (nilT.set 0 K).set 0 K, fk, fa, 0⟩ 0 (times 0) bh = (({ (⟨T, min (f : Int) (lastP T.length), (nilT.set 0 K).set 0 K, fk, fa, 0⟩ : Res) with
      text := wit T (if bh = true ∧ T ≠ [] then (min (f : Int) (lastP T.length)).toNat + 1 else (min (f : Int) (lastP T.length)).toNat) (if bh = true ∧ T ≠ [] then (min (f : Int) (lastP T.length)).toNat + 1 else (min (f : Int) (lastP T.length)).toNat) (rep (times 0) K),
      loc := ((if bh = true ∧ T ≠ [] then (min (f : Int) (lastP T.length)).toNat + 1 else (min (f : Int) (lastP T.length)).toNat : Nat) : Int) + ((times 0 * K.length : Nat) : Int) - 1 } : Res), 0) := by
    intro bh
    unfold pst
    simp only
    rw [hget, if_neg (by simp), if_neg hlen]
  have hrep : rep (times 0) K = K := rep_one K
  have fin : ∀ (kk : Int), kk = 112 ∨ kk = 80 → (wit T (if (kk == 112) = true ∧ T ≠ [] then (min (f : Int) (lastP T.length)).toNat + 1 else (min (f : Int) (lastP T.length)).toNat) (if (kk == 112) = true ∧ T ≠ [] then (min (f : Int) (lastP T.length)).toNat + 1 else (min (f : Int) (lastP T.length)).toNat) K = zs) →
      (doe ⟨T, min (f : Int) (lastP T.length), (nilT.set 0 K).set 0 K, fk, fa, 0⟩ 0 0 0 kk 0).2 = 0 ∧ (doe ⟨T, min (f : Int) (lastP T.length), (nilT.set 0 K).set 0 K, fk, fa, 0⟩ 0 0 0 kk 0).1.text = zs := by
    intro kk hkk hwt
    have hwh : whl 0 kk = (0, kk) := by rcases hkk with rfl | rfl <;> rfl
    have hd : dne ⟨T, min (f : Int) (lastP T.length), (nilT.set 0 K).set 0 K, fk, fa, 0⟩ 0 0 (whl 0 kk).1 (whl 0 kk).2 0 = pst ⟨T, min (f : Int) (lastP T.length), (nilT.set 0 K).set 0 K, fk, fa, 0⟩ 0 (times 0) (kk == 112) := by
      rw [hwh]
      unfold dne
      rw [if_neg (fun q => q rfl), if_pos hkk]
    have h0 : (doe ⟨T, min (f : Int) (lastP T.length), (nilT.set 0 K).set 0 K, fk, fa, 0⟩ 0 0 0 kk 0).2 = 0 := doe_of hach (by rw [hd, hpst])
    refine ⟨h0, ?_⟩
    obtain ⟨_, _, q, _⟩ := doe_dne h0
    rw [q, hd, hpst]
    show wit T _ _ (rep (times 0) K) = zs
    rw [hrep]
    exact hwt
  by_cases hc : 0 < T.length ∧ min (f : Int) (lastP T.length) = (T.length : Int) - 1 ∧ T = zs.take T.length ∧ K = zs.drop T.length
  · rw [if_pos hc] at hkey
    subst hkey
    refine fin 112 (.inl rfl) ?_
    obtain ⟨c1, c2, c3, c4⟩ := hc
    have hne : T ≠ [] := by intro q; rw [q] at c1; exact absurd c1 (by decide)
    rw [if_pos ⟨rfl, hne⟩, c2]
    have : ((T.length : Int) - 1).toNat + 1 = T.length := by omega
    rw [this]
    unfold wit
    rw [List.take_length, List.drop_length, List.append_nil, c4]
    conv => lhs; arg 1; rw [c3]
    exact List.take_append_drop _ _
  · rw [if_neg hc] at hkey
    subst hkey
    refine fin 80 (.inr rfl) ?_
    rw [if_neg (by rintro ⟨q, _⟩; cases q)]
    have hlf : (min (f : Int) (lastP T.length)).toNat = f := by
      by_cases hq : (f : Int) ≤ lastP T.length
      · omega
      · exfalso
        apply hc
        have hft2 : f = T.length ∧ t = zs.length ∧ 0 < T.length := by unfold lastP at hq; omega
        obtain ⟨c1, c2, c3⟩ := hft2
        refine ⟨c3, by unfold lastP at hq ⊢; omega, ?_, ?_⟩
        · rw [← c1, hTf, c2, List.drop_length, List.append_nil]
        · rw [hK, ← c1, c2, List.take_of_length_le (by rw [List.length_drop]; omega)]
    rw [hlf]
    exact hb
/-- P46: letters turned twice. -/
theorem cas_cas (c : Int) : cas (cas c) = c := by
  unfold cas
  repeat' split
  all_goals omega
theorem flp_flp (zs : List Int) (l n : Nat) (h : l ≤ zs.length) : flp (flp zs l n) l n = zs := by
  have e1 : (flp zs l n).take l = zs.take l := by
    unfold flp
    rw [List.append_assoc, List.take_left' (by rw [List.length_take]; omega)]
  have e2 : (flp zs l n).drop l = ((zs.drop l).take n).map cas ++ zs.drop (l + n) := by
    unfold flp
    rw [List.append_assoc, List.drop_left' (by rw [List.length_take]; omega)]
  have e3 : ((flp zs l n).drop l).take n = ((zs.drop l).take n).map cas := by
    rw [e2]
    by_cases hb : l + n ≤ zs.length
    · rw [List.take_left' (by rw [List.length_map, List.length_take, List.length_drop]; omega)]
    · rw [List.drop_of_length_le (i := l + n) (by omega), List.append_nil, List.take_of_length_le (by rw [List.length_map, List.length_take]; omega)]
  have e4 : (flp zs l n).drop (l + n) = zs.drop (l + n) := by
    rw [← List.drop_drop, e2]
    by_cases hb : l + n ≤ zs.length
    · rw [List.drop_left' (by rw [List.length_map, List.length_take, List.length_drop]; omega)]
    · rw [List.drop_of_length_le (i := l + n) (by omega), List.append_nil, List.drop_of_length_le (by rw [List.length_map, List.length_take]; omega)]
  show (flp zs l n).take l ++ (((flp zs l n).drop l).take n).map cas ++ (flp zs l n).drop (l + n) = zs
  rw [e1, e3, e4, List.map_map]
  have : (cas ∘ cas) = id := by funext c; exact cas_cas c
  rw [this, List.map_id]
  rw [List.append_assoc]
  have q : (zs.drop l).take n ++ zs.drop (l + n) = zs.drop l := by
    have := List.take_append_drop n (zs.drop l)
    rwa [List.drop_drop] at this
  rw [q, List.take_append_drop]
theorem flp_at (zs : List Int) (l n i : Nat) (h : l ≤ zs.length) (hi : i < zs.length) : (flp zs l n).getD i 0 = if l ≤ i ∧ i < l + n then cas (zs.getD i 0) else zs.getD i 0 := by
  unfold flp
  have hl : (zs.take l).length = l := by rw [List.length_take]; omega
  rw [List.append_assoc, List.getD_eq_getElem?_getD]
  by_cases h1 : i < l
  · rw [List.getElem?_append_left (by omega), List.getElem?_take_of_lt h1, if_neg (by omega), ← List.getD_eq_getElem?_getD]
  · rw [List.getElem?_append_right (by omega), hl]
    by_cases h2 : i < l + n
    · rw [if_pos ⟨by omega, h2⟩, List.getElem?_append_left (by rw [List.length_map, List.length_take, List.length_drop]; omega), List.getElem?_map, List.getElem?_take_of_lt (by omega), List.getElem?_drop, show l + (i - l) = i by omega, List.getElem?_eq_getElem hi]
      rw [List.getD_eq_getElem?_getD, List.getElem?_eq_getElem hi]
      rfl
    · have hl2 : (((zs.drop l).take n).map cas).length = n := by rw [List.length_map, List.length_take, List.length_drop]; omega
      rw [if_neg (by omega), List.getElem?_append_right (by omega), hl2, List.getElem?_drop, show l + n + (i - l - n) = i by omega, ← List.getD_eq_getElem?_getD]
/-- What is turned. -/
theorem doe_case (zs : List Int) (k n : Int) (X : Res × Int) (hX : X = doe ⟨zs, k, nilT, 0, 0, 0⟩ n 0 0 126 0) (h : X.2 = 0) :
    0 ≤ k ∧ k < (zs.length : Int) ∧ zs.length ≤ 200 ∧ 0 ≤ n ∧ n ≤ 999 ∧ X.1.text = flp zs k.toNat (times n) ∧ (doe ⟨X.1.text, k, nilT, 0, 0, 0⟩ n 0 0 126 0).2 = 0 ∧ (doe ⟨X.1.text, k, nilT, 0, 0, 0⟩ n 0 0 126 0).1.text = zs := by
  subst hX
  obtain ⟨h1, h2, e1, e2, e3, e4⟩ := doe_dne h
  obtain ⟨hz, hk0, hkl, hc0, hc9, ho2⟩ := achk_zero h1
  have hz' : zs.length ≤ 200 := hz
  have hk0' : 0 ≤ k := hk0
  have hkl' : k ≤ lastP zs.length := hkl
  have hdn : ∀ ys : List Int, dne ⟨ys, k, nilT, 0, 0, 0⟩ n 0 (whl 0 126).1 (whl 0 126).2 0 = trn ⟨ys, k, nilT, 0, 0, 0⟩ (times n) := by
    intro ys
    show dne ⟨ys, k, nilT, 0, 0, 0⟩ n 0 0 126 0 = _
    unfold dne
    rw [if_neg (by decide), if_neg (by decide), if_pos rfl]
  rw [hdn] at h2 e1
  have hne : zs ≠ [] := by
    intro q
    unfold trn at h2
    rw [if_pos q] at h2
    cases h2
  have hl0 : 0 < zs.length := List.length_pos_iff.2 hne
  have ht : (trn ⟨zs, k, nilT, 0, 0, 0⟩ (times n)).1.text = flp zs k.toNat (times n) := by
    unfold trn
    rw [if_neg hne]
  rw [ht] at e1
  have hkn : k < (zs.length : Int) := by unfold lastP at hkl'; omega
  have hfl : (flp zs k.toNat (times n)).length = zs.length := flp_len _ _ _ (by omega)
  refine ⟨hk0', hkn, hz', hc0, hc9, e1, ?_⟩
  rw [e1]
  have hne2 : flp zs k.toNat (times n) ≠ [] := by intro q; rw [q] at hfl; simp only [List.length_nil] at hfl; omega
  have h0 : (doe ⟨flp zs k.toNat (times n), k, nilT, 0, 0, 0⟩ n 0 0 126 0).2 = 0 := by
    refine doe_of ?_ ?_
    · show achk (flp zs k.toNat (times n)).length k 0 n 0 = 0
      rw [hfl]
      exact h1
    · rw [hdn]
      unfold trn
      rw [if_neg hne2]
  refine ⟨h0, ?_⟩
  obtain ⟨_, _, q, _⟩ := doe_dne h0
  rw [q, hdn]
  have : (trn ⟨flp zs k.toNat (times n), k, nilT, 0, 0, 0⟩ (times n)).1.text = flp (flp zs k.toNat (times n)) k.toNat (times n) := by
    unfold trn
    rw [if_neg hne2]
  rw [this]
  exact flp_flp zs k.toNat (times n) (by omega)
end Go.Proofs.Ytpgjaoemkadenab.Seek

/- What a caller of edit.Do is told: a result, its parts, and its edit. -/
set_option linter.unusedVariables false
set_option linter.unusedSimpArgs false
set_option maxRecDepth 100000
namespace Go.Proofs.Ytpgjaoemkadenab.Seek
open Go.RowKit Plain
theorem of_reads (s : ByteArray) (xs : List Int) (hx : codes s = xs) (w : World) (hs : s.size ≤ 4096) :
    Calls Try.prog 6 #[.string s] w fun e w' => Below w.heap.size w w' ∧ ∃ a c, e = .returned (.slice a xs.length c) ∧ Own w' w.heap.size (.slice a xs.length c) xs := by
  subst hx
  refine (of_any s w hs).mono ?_
  rintro e w1 ⟨hb, v, rfl, ho⟩
  have h := own_of ho
  obtain ⟨a, c, rfl⟩ := h.reads.shape
  exact ⟨hb, a, c, rfl, h⟩
/-- A result that can be read, with its edit. -/
def Told (w : World) (a : Option Addr) (c : Nat) (us : List Value) (ea : Option Addr) (ec : Nat) (R : Res) (es : List Spl) : Prop :=
  Reads w (.slice a R.text.length c) R.text ∧ ReadsR w us R.regs ∧ ReadsE w (.slice ea es.length ec) es
theorem Told.below {w w' : World} {a : Option Addr} {c : Nat} {us : List Value} {ea : Option Addr} {ec : Nat} {R : Res} {es : List Spl} (h : Told w a c us ea ec R es) (hb : Below w.heap.size w w') : Told w' a c us ea ec R es :=
  ⟨h.1.below hb, h.2.1.below hb, h.2.2.below hb⟩
/-- What Do tells its caller. -/
def UsePost (X : Res × Int) (es : List Spl) (w : World) (q : Ending) (w' : World) : Prop :=
  Below w.heap.size w w' ∧ ∃ a c us ea ec, q = .returned (.tuple #[.agg (resL (.slice a X.1.text.length c) X.1.loc us X.1.fk X.1.fa X.1.mode (.slice ea es.length ec)).toArray, .int .i64 X.2]) ∧
    Av w' (fun b => w.heap.size ≤ b) (.slice a X.1.text.length c) X.1.text ∧ AvR w' (fun b => w.heap.size ≤ b) us X.1.regs ∧ ReadsE w' (.slice ea es.length ec) es
theorem do_use (a : Option Addr) (cap : Nat) (zs : List Int) (k : Int) (vs : List Value) (ts : List (List Int)) (fk fa c r o v g : Int) (w : World) (h : Reads w (.slice a zs.length cap) zs) (hr : ReadsR w vs ts) (X : Res × Int) (hX : X = doe ⟨zs, k, ts, fk, fa, 0⟩ c r o v g) (es : List Spl) (hes : es = if X.2 = 0 then ups (btw zs X.1.text) else []) :
    Calls Try.prog 13 #[.agg #[.slice a zs.length cap, .int .i64 k], .agg vs.toArray, .agg #[.int .i64 fk, .int .i64 fa], .agg #[.int .i64 c, .int .i64 r, .int .i64 o, .int .i64 v, .int .i64 g]] w fun q w' => UsePost X es w q w' := by
  subst hX hes
  refine (do_go a cap zs k vs ts fk fa c r o v g w h hr).mono ?_
  rintro q w' ⟨hb, x, rfl, a2, c2, us, ev, m1, m2, rfl, hm1, hm2, h1, h2, h3⟩
  have he := h3.owns.reads
  obtain ⟨ea, ec, rfl⟩ := he.shape
  exact ⟨hb, a2, c2, us, ea, ec, rfl, h1.av.weak (fun b hb => Nat.le_trans hm1 hb.1), h2.weak (fun b hb => Nat.le_trans hm1 (Nat.le_trans hm2 hb)), he⟩
/-- The same, where nothing but reading follows. -/
def TellPost (X : Res × Int) (es : List Spl) (w : World) (q : Ending) (w' : World) : Prop :=
  Below w.heap.size w w' ∧ ∃ a c us ea ec a0 c0, q = .returned (.tuple #[.agg (resL (.slice a X.1.text.length c) X.1.loc us X.1.fk X.1.fa X.1.mode (.slice ea es.length ec)).toArray, .int .i64 X.2]) ∧
    Told w' a c us ea ec X.1 es ∧ AllSl us ∧ us[0]? = some (.slice a0 (X.1.regs.getD 0 []).length c0)
theorem do_tell (a : Option Addr) (cap : Nat) (zs : List Int) (k : Int) (vs : List Value) (ts : List (List Int)) (fk fa c r o v g : Int) (w : World) (h : Reads w (.slice a zs.length cap) zs) (hr : ReadsR w vs ts) (X : Res × Int) (hX : X = doe ⟨zs, k, ts, fk, fa, 0⟩ c r o v g) (es : List Spl) (hes : es = if X.2 = 0 then ups (btw zs X.1.text) else []) :
    Calls Try.prog 13 #[.agg #[.slice a zs.length cap, .int .i64 k], .agg vs.toArray, .agg #[.int .i64 fk, .int .i64 fa], .agg #[.int .i64 c, .int .i64 r, .int .i64 o, .int .i64 v, .int .i64 g]] w fun q w' => TellPost X es w q w' := by
  refine (do_use a cap zs k vs ts fk fa c r o v g w h hr X hX es hes).mono ?_
  rintro q w' ⟨hb, a2, c2, us, ea, ec, rfl, h1, h2, he⟩
  have hl : us.length = 27 := h2.1.1.1
  obtain ⟨a0, c0, hv, _, _⟩ := h2.1.at_ 0 (by decide)
  refine ⟨hb, a2, c2, us, ea, ec, a0, c0, rfl, ⟨h1.1, h2.1, he⟩, h2.1.1, ?_⟩
  rw [← hv, List.getD_eq_getElem?_getD, List.getElem?_eq_getElem (by omega)]
  rfl
theorem Told.zero {w : World} {a : Option Addr} {c : Nat} {us : List Value} {ea : Option Addr} {ec : Nat} {R : Res} {es : List Spl} {v : Value} (h : Told w a c us ea ec R es) (hv : us[0]? = some v) : Reads w v (R.regs.getD 0 []) ∧ Mild (R.regs.getD 0 []) := by
  obtain ⟨a0, c0, hv2, hr, hm⟩ := h.2.1.at_ 0 (by decide)
  have : us.getD 0 undef = v := by rw [List.getD_eq_getElem?_getD, hv]; rfl
  rw [this] at hv2
  rw [hv2]
  exact ⟨hr, hm⟩
theorem resL_r0 {tv ev : Value} {k fk fa m : Int} {vs : List Value} {v : Value} (hl : vs.length = 27) (h : vs[0]? = some v) : (resL tv k vs fk fa m ev)[2]? = some v := (resL_reg hl 0 (by decide)).trans h
theorem cut_two {w : World} {a : Option Addr} {zs : List Int} {cap : Nat} (h : Reads w (.slice a zs.length cap) zs) (f t : Nat) (h1 : f ≤ t) (h2 : t ≤ zs.length) :
    ∃ A, (if cap = t then a else Option.map (fun x => x.add t) a) = A ∧ Reads w (.slice a f cap) (zs.take f) ∧ Reads w (.slice A (zs.length - t) (cap - t)) (zs.drop t) ∧ zs.length ≤ cap := by
  obtain ⟨x, y, z⟩ := reads_cut h f t h1 h2
  exact ⟨_, rfl, x, y, z⟩
/-- Texts that are held against each other. -/
theorem equal_go (v1 v2 : Value) (xs ys : List Int) (w : World) (h1 : Reads w v1 xs) (h2 : Reads w v2 ys) (hx : xs.length ≤ maxLen) (hy : ys.length ≤ maxLen) (b : Bool) (hb : (xs == ys) = b) :
    Calls Try.prog 7 #[v1, v2] w fun e w' => e = .returned (.bool b) ∧ Below w.heap.size w w' := by
  refine (equal_any v1 v2 xs ys w h1 h2 hx hy).mono ?_
  rintro e w1 ⟨rfl, q, rfl⟩
  exact ⟨by rw [hb], below_drewN (Below.refl _ _) q⟩
end Go.Proofs.Ytpgjaoemkadenab.Seek
