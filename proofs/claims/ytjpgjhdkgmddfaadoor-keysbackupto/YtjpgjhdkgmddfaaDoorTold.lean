/- A command's keys are that command, plainly. -/
import Derived.Test.YtjpgjhdkgmddfaaDoorAll
import Derived.Test.YtjpgjhdkgmddfaaDoorWritten
set_option linter.unusedVariables false
set_option linter.unusedSimpArgs false
namespace Go.Proofs.YtjpgjhdkgmddfaaDoor.Plain

/-- What a command that is told looks like. -/
def Gd (d : Five) : Prop := (0 ≤ d.1 ∧ d.1 ≤ 999) ∧ (d.2.1 = 0 ∨ letter d.2.1 = true) ∧ (d.2.2.1 = 0 ∨ has ops d.2.2.1 = true) ∧
  ((has mots d.2.2.2.1 = true ∧ d.2.2.2.2 = 0 ∧ (d.2.2.2.1 = 48 → d.2.2.1 ≠ 0 ∨ d.1 = 0)) ∨ (d.2.2.2.1 = d.2.2.1 ∧ has ops d.2.2.1 = true ∧ d.2.2.2.2 = 0) ∨ (d.2.2.1 = 0 ∧ has lons d.2.2.2.1 = true ∧ d.2.2.2.2 = 0) ∨
    (has fnds d.2.2.2.1 = true ∧ low d.2.2.2.2 = false) ∨ (d.2.2.1 = 0 ∧ d.2.2.2.1 = 114 ∧ low d.2.2.2.2 = false) ∨ (d.2.2.1 ≠ 0 ∧ has sids d.2.2.2.1 = true ∧ has thgs d.2.2.2.2 = true))
theorem bth_in {f s : Int} (hf : 0 ≤ f ∧ f ≤ 999) (hs : 0 ≤ s ∧ s ≤ 999) : 0 ≤ bth f s ∧ bth f s ≤ 999 := by
  unfold bth
  split
  · omega
  · have := Int.mul_nonneg hf.1 hs.1
    omega
theorem done_gd {f r o s t k : Int} (h : right f r o s t = true) (hd : (stp f r o s t k).2.2 = 2) : Gd (stp f r o s t k).2.1 := by
  obtain ⟨hf, hs, ho, hr, hop, hw⟩ := right_cases h
  have hb := bth_in hf hs
  unfold stp at hd ⊢
  by_cases h1 : low k = true
  · rw [if_pos h1] at hd
    exact absurd hd (by decide)
  rw [if_neg h1] at hd ⊢
  by_cases h0 : t ≠ 0
  · rw [if_pos h0] at hd ⊢
    unfold awt at hd ⊢
    have hw2 := of_decide_eq_true hw
    by_cases h2 : t = 34
    · rw [if_pos h2] at hd
      unfold nmd at hd
      split at hd <;> exact absurd hd (by first | decide | (show ¬ (1 : Int) = 2; decide))
    rw [if_neg h2] at hd ⊢
    by_cases h3 : has sids t = true ∧ has thgs k = false
    · rw [if_pos h3] at hd
      exact absurd hd (by decide)
    rw [if_neg h3]
    refine ⟨hb, hr, hop, ?_⟩
    show (has mots t = true ∧ k = 0 ∧ _) ∨ (t = o ∧ _) ∨ (o = 0 ∧ has lons t = true ∧ k = 0) ∨ (has fnds t = true ∧ low k = false) ∨ (o = 0 ∧ t = 114 ∧ low k = false) ∨ (o ≠ 0 ∧ has sids t = true ∧ has thgs k = true)
    have hl := bool_no h1
    rcases hw2 with g | g | g | g | g | ⟨g, g2⟩ | ⟨g, g2⟩ | ⟨g, g2⟩
    · exact absurd g h0
    · exact .inr (.inr (.inr (.inl ⟨by rw [has_fnds]; omega, hl⟩)))
    · exact .inr (.inr (.inr (.inl ⟨by rw [has_fnds]; omega, hl⟩)))
    · exact .inr (.inr (.inr (.inl ⟨by rw [has_fnds]; omega, hl⟩)))
    · exact .inr (.inr (.inr (.inl ⟨by rw [has_fnds]; omega, hl⟩)))
    · exact .inr (.inr (.inr (.inr (.inl ⟨g2, g, hl⟩))))
    · exact absurd g h2
    · have hsd : has sids t = true := by rw [has_sids]; omega
      refine .inr (.inr (.inr (.inr (.inr ⟨g2, hsd, ?_⟩))))
      cases hq : has thgs k with
      | true => rfl
      | false => exact absurd ⟨hsd, hq⟩ h3
  rw [if_neg h0] at hd ⊢
  by_cases h2 : dig f o s k = true
  · rw [if_pos h2] at hd
    exact absurd hd (by show ¬ (1 : Int) = 2; decide)
  rw [if_neg h2] at hd ⊢
  by_cases h3 : has ops k = true
  · rw [if_pos h3] at hd ⊢
    unfold opr at hd ⊢
    by_cases h4 : o = 0
    · rw [if_pos h4] at hd
      exact absurd hd (by show ¬ (1 : Int) = 2; decide)
    rw [if_neg h4] at hd ⊢
    by_cases h5 : o = k
    · rw [if_pos h5]
      exact ⟨hb, hr, hop, .inr (.inl ⟨h5.symm, by show has ops o = true; rw [h5]; exact h3, rfl⟩)⟩
    · rw [if_neg h5] at hd
      exact absurd hd (by decide)
  rw [if_neg h3] at hd ⊢
  by_cases h4 : has mots k = true
  · rw [if_pos h4]
    refine ⟨hb, hr, hop, .inl ⟨h4, rfl, fun hk => ?_⟩⟩
    by_cases h5 : o = 0
    · refine .inr ?_
      have h6 := of_decide_eq_false (bool_no h2)
      have hk' : k = 48 := hk
      rw [show mnt f o s = f from if_neg (by omega)] at h6
      have h7 : f = 0 := by omega
      show bth f s = 0
      unfold bth
      rw [if_pos (.inl h7)]
      omega
    · exact .inl h5
  rw [if_neg h4] at hd ⊢
  by_cases h5 : has fnds k = true
  · rw [if_pos h5] at hd
    exact absurd hd (by show ¬ (1 : Int) = 2; decide)
  rw [if_neg h5] at hd ⊢
  by_cases h6 : o ≠ 0
  · rw [if_pos h6] at hd
    unfold wop at hd
    split at hd <;> exact absurd hd (by first | decide | (show ¬ (1 : Int) = 2; decide))
  · rw [if_neg h6] at hd ⊢
    unfold wno at hd ⊢
    by_cases h7 : k = 34 ∧ r = 0 ∨ k = 114
    · rw [if_pos h7] at hd
      exact absurd hd (by show ¬ (1 : Int) = 2; decide)
    rw [if_neg h7] at hd ⊢
    by_cases h8 : has lons k = true
    · rw [if_pos h8]
      exact ⟨hb, hr, hop, .inr (.inr (.inl ⟨by show o = 0; omega, h8, rfl⟩))⟩
    · rw [if_neg h8] at hd
      exact absurd hd (by decide)
theorem allf_gd : ∀ (l : List Int) (x : Sofar), okp x.2.1 → (∀ d ∈ x.1, Gd d) → ∀ d ∈ (allf x l).1, Gd d
  | [], x, _, h => h
  | k :: l, x, ho, h => by
    refine allf_gd l (onek x k) (okp_stq ho k) ?_
    intro d hd
    unfold onek at hd
    by_cases h2 : (stq x.2.1 k).2.2 = 2
    · rw [if_pos h2] at hd
      rcases List.mem_append.1 hd with hd | hd
      · exact h d hd
      · rw [List.mem_singleton.1 hd]
        exact done_gd ho h2
    · rw [if_neg h2] at hd
      exact h d hd
theorem allk_gd (l : List Int) : ∀ d ∈ (allk l).1, Gd d := allf_gd l _ okp_zer (fun d hd => by cases hd)

theorem one_more {cs : List Five} {p q : Five} {m : Nat} {k : Int} (h : stp p.1 p.2.1 p.2.2.1 p.2.2.2.1 p.2.2.2.2 k = mor q) : onek (cs, p, m) k = (cs, q, m) := by
  unfold onek stq
  simp only [h]
  rfl
theorem one_done {cs : List Five} {p d : Five} {m : Nat} {k : Int} (h : stp p.1 p.2.1 p.2.2.1 p.2.2.2.1 p.2.2.2.2 k = (zer, d, 2)) : onek (cs, p, m) k = (cs ++ [d], zer, m) := by
  unfold onek stq
  simp only [h]
  rfl
theorem low_no {k : Int} (h : 32 ≤ k) (h2 : k ≠ 127) : ¬ low k = true := fun hh => by
  have := of_decide_eq_true hh
  omega
theorem stp_digit {f r o s k : Int} (h1 : 48 ≤ k) (h2 : k ≤ 57) (h : 49 ≤ k ∨ 0 < mnt f o s) : stp f r o s 0 k = mor (cntd f r o s 0 k) := by
  unfold stp
  rw [if_neg (low_no (by omega) (by omega)), if_neg (show ¬ (0 : Int) ≠ 0 by decide), if_pos (show dig f o s k = true from decide_eq_true (by omega))]
theorem digits_first (cs : List Five) (r : Int) (w m : Nat) (hm : m ≤ 999) : allf (cs, (0, r, 0, 0, 0), w) (dgs m) = (cs, ((m : Int), r, 0, 0, 0), w) := by
  have st : ∀ (f k d : Int), 0 ≤ f → 48 ≤ k → k ≤ 57 → (49 ≤ k ∨ 0 < f) → d = 10 * f + k - 48 → d ≤ 999 → onek (cs, (f, r, 0, 0, 0), w) k = (cs, (d, r, 0, 0, 0), w) := fun f k d hf h1 h2 h3 hd h9 => by
    refine one_more ((stp_digit (f := f) (r := r) (o := 0) (s := 0) h1 h2 (by rw [show mnt f 0 0 = f from if_neg (by decide)]; exact h3)).trans ?_)
    unfold cntd cnt
    rw [if_neg (by decide), show mnt f 0 0 = f from if_neg (by decide), show min (10 * f + k - 48) 999 = d by omega]
  unfold dgs
  split
  · rename_i h
    rw [h]
    rfl
  split
  · show onek _ _ = _
    exact st 0 _ _ (by omega) (by omega) (by omega) (by omega) (by omega) (by omega)
  split
  · show onek (onek _ _) _ = _
    rw [st 0 _ ((m / 10 : Nat) : Int) (by omega) (by omega) (by omega) (by omega) (by omega) (by omega)]
    exact st _ _ _ (by omega) (by omega) (by omega) (by omega) (by omega) (by omega)
  · show onek (onek (onek _ _) _) _ = _
    rw [st 0 _ ((m / 100 : Nat) : Int) (by omega) (by omega) (by omega) (by omega) (by omega) (by omega)]
    rw [st _ _ ((m / 10 : Nat) : Int) (by omega) (by omega) (by omega) (by omega) (by omega) (by omega)]
    exact st _ _ _ (by omega) (by omega) (by omega) (by omega) (by omega) (by omega)
theorem digits_second (cs : List Five) (f r o : Int) (w m : Nat) (ho : o ≠ 0) (hm : m ≤ 999) : allf (cs, (f, r, o, 0, 0), w) (dgs m) = (cs, (f, r, o, (m : Int), 0), w) := by
  have st : ∀ (s k d : Int), 0 ≤ s → 48 ≤ k → k ≤ 57 → (49 ≤ k ∨ 0 < s) → d = 10 * s + k - 48 → d ≤ 999 → onek (cs, (f, r, o, s, 0), w) k = (cs, (f, r, o, d, 0), w) := fun s k d hf h1 h2 h3 hd h9 => by
    refine one_more ((stp_digit (f := f) (r := r) (o := o) (s := s) h1 h2 (by rw [show mnt f o s = s from if_pos ho]; exact h3)).trans ?_)
    unfold cntd cnt
    rw [if_pos ho, show mnt f o s = s from if_pos ho, show min (10 * s + k - 48) 999 = d by omega]
  unfold dgs
  split
  · rename_i h
    rw [h]
    rfl
  split
  · show onek _ _ = _
    exact st 0 _ _ (by omega) (by omega) (by omega) (by omega) (by omega) (by omega)
  split
  · show onek (onek _ _) _ = _
    rw [st 0 _ ((m / 10 : Nat) : Int) (by omega) (by omega) (by omega) (by omega) (by omega) (by omega)]
    exact st _ _ _ (by omega) (by omega) (by omega) (by omega) (by omega) (by omega)
  · show onek (onek (onek _ _) _) _ = _
    rw [st 0 _ ((m / 100 : Nat) : Int) (by omega) (by omega) (by omega) (by omega) (by omega) (by omega)]
    rw [st _ _ ((m / 10 : Nat) : Int) (by omega) (by omega) (by omega) (by omega) (by omega) (by omega)]
    exact st _ _ _ (by omega) (by omega) (by omega) (by omega) (by omega) (by omega)
theorem keys_reg (r : Int) (hr : r = 0 ∨ letter r = true) : allf ([], zer, 0) (keysR r) = ([], (0, r, 0, 0, 0), 0) := by
  unfold keysR
  by_cases h : r = 0
  · rw [if_pos h, h]
    rfl
  · rw [if_neg h]
    have hl := hr.resolve_left h
    have hl2 := of_decide_eq_true hl
    show onek (onek _ _) _ = _
    rw [show onek ([], zer, 0) 34 = ([], (0, 0, 0, 0, 34), 0) by decide]
    refine one_more ?_
    show stp 0 0 0 0 34 r = _
    unfold stp awt nmd
    rw [if_neg (low_no (by omega) (by omega)), if_pos (by decide), if_pos rfl, if_pos hl]
theorem keys_op (cs : List Five) (n r o : Int) (w : Nat) (ho : o = 0 ∨ has ops o = true) : allf (cs, (n, r, 0, 0, 0), w) (keysO o) = (cs, (n, r, o, 0, 0), w) := by
  unfold keysO
  by_cases h : o = 0
  · rw [if_pos h, h]
    rfl
  · rw [if_neg h]
    have ho2 := ho.resolve_left h
    have hk := (has_ops o).1 ho2
    show onek _ _ = _
    refine one_more ?_
    show stp n r 0 0 0 o = _
    unfold stp opr
    rw [if_neg (low_no (by omega) (by omega)), if_neg (by decide), if_neg (fun hh => by have := of_decide_eq_true hh; omega), if_pos ho2, if_pos rfl]
theorem bth_zero (n : Int) : bth n 0 = n := by
  unfold bth
  rw [if_pos (.inr rfl)]
  omega
theorem keys_told {n r o v a : Int} (h : Gd (n, r, o, v, a)) : allk (keysOf n r o v a) = ([(n, r, o, v, a)], zer, 0) := by
  obtain ⟨⟨hn0, hn9⟩, hr, ho, hv⟩ := h
  simp only at hn0 hn9 hr ho hv
  obtain ⟨m, rfl⟩ : ∃ m : Nat, n = (m : Int) := ⟨n.toNat, by omega⟩
  unfold allk keysOf
  rw [allf_append, allf_append, allf_append, allf_append, keys_reg r hr, Int.toNat_natCast, digits_first _ r 0 m (by omega), keys_op _ _ r o 0 ho]
  show allf (onek ([], ((m : Int), r, o, 0, 0), 0) v) (keysA o v a) = _
  have hod := fun hh : has ops o = true => (has_ops o).1 hh
  have dg : ∀ k, k ≠ 48 → ¬ (49 ≤ k ∧ k ≤ 57) → ¬ dig (m : Int) o 0 k = true := fun k h1 h2 hh => by have := of_decide_eq_true hh; omega
  have fin : stp (m : Int) r o 0 0 v = don (m : Int) r o 0 v a → hasA o v = false → allf (onek ([], ((m : Int), r, o, 0, 0), 0) v) (keysA o v a) = ([((m : Int), r, o, v, a)], zer, 0) := fun h1 h2 => by
    have e : don (m : Int) r o 0 v a = (zer, ((m : Int), r, o, v, a), 2) := by unfold don; rw [bth_zero]
    unfold keysA
    rw [if_neg (by rw [h2]; decide), one_done (h1.trans e)]
    rfl
  have fin2 : stp (m : Int) r o 0 0 v = mor ((m : Int), r, o, 0, v) → hasA o v = true → stp (m : Int) r o 0 v a = don (m : Int) r o 0 v a → allf (onek ([], ((m : Int), r, o, 0, 0), 0) v) (keysA o v a) = ([((m : Int), r, o, v, a)], zer, 0) := fun h1 h2 h3 => by
    have e : don (m : Int) r o 0 v a = (zer, ((m : Int), r, o, v, a), 2) := by unfold don; rw [bth_zero]
    unfold keysA
    rw [if_pos h2, one_more h1]
    show onek _ _ = _
    rw [one_done (h3.trans e)]
    rfl
  rcases hv with ⟨g1, rfl, g2⟩ | ⟨rfl, g1, rfl⟩ | ⟨rfl, g1, rfl⟩ | ⟨g1, g2⟩ | ⟨rfl, rfl, g2⟩ | ⟨g1, g2, g3⟩
  · have hk := (has_mots v).1 g1
    refine fin ?_ ?_
    · unfold stp
      rw [if_neg (low_no (by omega) (by omega)), if_neg (by decide), if_neg (fun hh => ?_), if_neg (fun hh => by have := (has_ops v).1 hh; omega), if_pos g1]
      have hh2 := of_decide_eq_true hh
      have hv48 : v = 48 := by omega
      rcases g2 hv48 with g | g
      · rw [show mnt (m : Int) o 0 = 0 from if_pos g] at hh2
        omega
      · unfold mnt at hh2
        split at hh2 <;> omega
    · unfold hasA
      rw [bool_no (fun hh => by have := (has_fnds v).1 hh; omega : ¬ has fnds v = true), bool_no (fun hh => by have := (has_sids v).1 hh; omega : ¬ has sids v = true), show (v == 114) = false by simp only [beq_eq_false_iff_ne]; omega]
      simp
  · have hk := (has_ops v).1 g1
    refine fin ?_ ?_
    · unfold stp opr
      rw [if_neg (low_no (by omega) (by omega)), if_neg (by decide), if_neg (dg v (by omega) (by omega)), if_pos g1, if_neg (by omega), if_pos rfl]
    · unfold hasA
      rw [bool_no (fun hh => by have := (has_fnds v).1 hh; omega : ¬ has fnds v = true), bool_no (fun hh => by have := (has_sids v).1 hh; omega : ¬ has sids v = true), show (v == 114) = false by simp only [beq_eq_false_iff_ne]; omega]
      simp
  · have hk := (has_lone v).1 g1
    refine fin ?_ ?_
    · unfold stp wno
      rw [if_neg (low_no (by omega) (by omega)), if_neg (by decide), if_neg (dg v (by omega) (by omega)), if_neg (fun hh => by have := (has_ops v).1 hh; omega), if_neg (fun hh => by have := (has_mots v).1 hh; omega), if_neg (fun hh => by have := (has_fnds v).1 hh; omega), if_neg (by decide), if_neg (by omega), if_pos g1]
    · unfold hasA
      rw [bool_no (fun hh => by have := (has_fnds v).1 hh; omega : ¬ has fnds v = true), show (v == 114) = false by simp only [beq_eq_false_iff_ne]; omega]
      simp
  · have hk := (has_fnds v).1 g1
    refine fin2 ?_ ?_ ?_
    · unfold stp
      rw [if_neg (low_no (by omega) (by omega)), if_neg (by decide), if_neg (dg v (by omega) (by omega)), if_neg (fun hh => by have := (has_ops v).1 hh; omega), if_neg (fun hh => by have := (has_mots v).1 hh; omega), if_pos g1]
      rfl
    · unfold hasA
      rw [g1]
      simp
    · unfold stp awt
      rw [if_neg (by rw [g2]; decide), if_pos (by omega), if_neg (by omega), if_neg (fun hh => by have := (has_sids v).1 hh.1; omega)]
  · refine fin2 ?_ ?_ ?_
    · unfold stp wno
      rw [if_neg (by decide), if_neg (by decide), if_neg (dg 114 (by omega) (by omega)), if_neg (by decide), if_neg (by decide), if_neg (by decide), if_neg (by decide), if_pos (.inr rfl)]
      rfl
    · decide
    · unfold stp awt
      rw [if_neg (by rw [g2]; decide), if_pos (by decide), if_neg (by decide), if_neg (fun hh => absurd hh.1 (by decide))]
  · have hk := (has_sids v).1 g2
    have hka := (has_thgs a).1 g3
    refine fin2 ?_ ?_ ?_
    · unfold stp wop
      rw [if_neg (low_no (by omega) (by omega)), if_neg (by decide), if_neg (dg v (by omega) (by omega)), if_neg (fun hh => by have := (has_ops v).1 hh; omega), if_neg (fun hh => by have := (has_mots v).1 hh; omega), if_neg (fun hh => by have := (has_fnds v).1 hh; omega), if_pos g1, if_pos g2]
      rfl
    · unfold hasA
      rw [g2, show (o == 0) = false by simpa using g1]
      simp
    · unfold stp awt
      rw [if_neg (low_no (by omega) (by omega)), if_pos (by omega), if_neg (by omega), if_neg (fun hh => by rw [g3] at hh; exact absurd hh.2 (by decide))]
/-- Two counts. -/
theorem keys_twice {a b : Nat} (ha : a ≤ 999) (hb : b ≤ 999) : allk (dgs a ++ [99] ++ (dgs b ++ [119])) = ([(bth (a : Int) (b : Int), 0, 99, 119, 0)], zer, 0) := by
  unfold allk
  rw [allf_append, allf_append, allf_append, show (zer : Five) = (0, 0, 0, 0, 0) from rfl, digits_first [] 0 0 a ha]
  show allf (allf (onek ([], ((a : Int), 0, 0, 0, 0), 0) 99) (dgs b)) [119] = _
  rw [show onek ([], ((a : Int), 0, 0, 0, 0), 0) 99 = ([], ((a : Int), 0, 99, 0, 0), 0) from keys_op [] (a : Int) 0 99 0 (.inr (by decide)), digits_second [] (a : Int) 0 99 0 b (by decide) hb]
  show onek _ _ = _
  refine (one_done (d := (bth (a : Int) (b : Int), 0, 99, 119, 0)) ?_).trans rfl
  show stp (a : Int) 0 99 (b : Int) 0 119 = _
  unfold stp
  rw [if_neg (by decide), if_neg (by decide), if_neg (fun hh => by have := of_decide_eq_true hh; omega), if_neg (by decide), if_pos (by decide)]
  rfl
end Go.Proofs.YtjpgjhdkgmddfaaDoor.Plain
