/- Texts of one claim, one behind the other: RCopied, RGet, RSame. -/
import Derived.Test.YtpgjaoemkadenabM06
import Derived.Deep.Light
import Derived.Test.YtpgjaoemkadenabM01
/- The contracts of reg.allCopied and of the document's SameRegs. -/
set_option linter.unusedVariables false
set_option linter.unusedSimpArgs false
set_option maxRecDepth 100000
namespace Go.Proofs.Ytpgjaoemkadenab.Seek
open Go.RowKit

theorem OwnI.kept {w w' : World} {B : Nat} {v : Value} {zs : List Int} {g : Nat} (h : OwnI w B v zs) (hg : w.grownBy w' (some g)) (hne : v.ownBlock ≠ some g) : OwnI w' B v zs := World.ownsRow.kept h hg (.inr hne)
/-- The first i slices are copies. -/
def Copied (w : World) (B : Nat) (ls : List Value) (ts : List (List Int)) (i : Nat) : Prop :=
  (∀ j, j < i → OwnI w B (ls.getD j undef) (ts.getD j [])) ∧ ∀ j j', j < j' → j' < i → ∀ k, (ls.getD j undef).ownBlock = some k → (ls.getD j' undef).ownBlock ≠ some k
theorem Copied.step {w w1 w2 : World} {B g : Nat} {ls : List Value} {ts : List (List Int)} {i : Nat} (h : Copied w B ls ts i) (hl : AllSl ls) (hi : i < 27) (hb : Below w.heap.size w w1) (a : Option Addr) (n c : Nat) (ho : OwnI w1 w.heap.size (.slice a n c) (ts.getD i [])) (hB : B ≤ w.heap.size) (hg : w1.grownBy w2 (some g)) (hgB : g < B) :
    Copied w2 B (ls.set i (.slice a n c)) ts (i + 1) := by
  have ll := hl.1
  have e1 : (ls.set i (.slice a n c)).getD i undef = .slice a n c := getD_set_same _ _ _ _ (by omega)
  have e2 : ∀ j, j < i → (ls.set i (.slice a n c)).getD j undef = ls.getD j undef := fun j hj => getD_set_other _ _ _ _ _ (by omega)
  have hk : ∀ {v zs B'}, OwnI w1 B' v zs → B ≤ B' → OwnI w2 B v zs := fun {v zs B'} h hB' => (h.less hB').kept hg (fun e => by have := (h.lt _ e).1; omega)
  refine ⟨fun j hj => ?_, fun j j' hjj hj' k hk' => ?_⟩
  · by_cases e : j = i
    · subst e
      rw [e1]
      exact hk ho hB
    · rw [e2 j (by omega)]
      exact hk ((h.1 j (by omega)).below hb) (Nat.le_refl _)
  · by_cases e : j' = i
    · subst e
      rw [e1]
      rw [e2 j hjj] at hk'
      intro hk2
      have h1 := ((h.1 j hjj).lt _ hk').2
      have h2 := (ho.lt _ hk2).1
      omega
    · rw [e2 j' (by omega)]
      rw [e2 j (by omega)] at hk'
      exact h.2 j j' hjj (by omega) k hk'
theorem Copied.all {w : World} {B : Nat} {ls : List Value} {ts : List (List Int)} (h : Copied w B ls ts 27) (hl : AllSl ls) (ht : ts.length = 27) (hm : ∀ i, i < 27 → Mild (ts.getD i [])) : OwnR w B ls ts :=
  ⟨⟨hl, ht, fun i hi => ⟨(h.1 i hi).reads, hm i hi⟩⟩, h.1, h.2⟩
theorem Copied.grown {w w' : World} {B g : Nat} {ls : List Value} {ts : List (List Int)} {i : Nat} (h : Copied w B ls ts i) (hg : w.grownBy w' (some g)) (hgB : g < B) : Copied w' B ls ts i :=
  ⟨fun j hj => (h.1 j hj).kept hg (fun e => by have := ((h.1 j hj).lt _ e).1; omega), h.2⟩

set_option maxHeartbeats 1000000 in
theorem copied_any (vs : List Value) (ts : List (List Int)) (w : World) (h : ReadsR w vs ts) :
    Calls Try.prog 63 #[arr vs] w fun e w' => Below w.heap.size w w' ∧ ∃ ls, e = .returned (arr ls) ∧ OwnR w' w.heap.size ls ts := by
  have hl := h.1
  have HT : Hid (ts.length = 27) := h.2.1
  have HM : Hid (∀ i, i < 27 → Mild (ts.getD i [])) := fun i hi => (h.2.2 i hi).2
  have H : Hid (∀ wx, Below w.heap.size w wx → ReadsR wx vs ts) := fun wx hb => h.below hb
  clear h
  go_enter Try.func63, Try.ntmps63
  go_wp2_with (refine box24 rfl _ rfl vs rfl hl ?_)
  intro w1 ha hb
  have HB1 : Hid (Below w.heap.size w w1) := hb
  have HA1 : Hid (HoldsA w1 w.heap.size vs) := ha
  clear ha hb
  go_wp2_with (refine alloc24 rfl rfl ?_)
  intro w2 ha hb
  have HB2 : Hid (Below w.heap.size w w2) := below_trans HB1.out hb HB1.out.size
  have HA2 : Hid (HoldsA w2 w.heap.size vs) := HA1.out.below hb
  have HZ2 : Hid (HoldsA w2 w1.heap.size nils) := ha
  have HN : Hid (w.heap.size < w1.heap.size ∧ w1.heap.size < w2.heap.size) := ⟨HA1.out.lt, ha.lt⟩
  clear ha hb HB1 HA1
  generalize w1.heap.size = G at *
  go_wp2_with (refine load24 rfl _ rfl w.heap.size rfl vs HA2.out ?_)
  go_loopw [6] (fun u6 wr => ∃ (i : Nat) (ls : List Value), u6 = .int .i64 (i : Int) ∧ i ≤ 27 ∧ Hid (HoldsA wr w.heap.size ls) ∧ Hid (HoldsA wr G nils) ∧ Hid (Below w.heap.size w wr) ∧ Hid (Copied wr w2.heap.size ls ts i) ∧ Hid (w2.heap.size ≤ wr.heap.size))
    (fun u6 _ => 27 - (intOf u6).toNat)
  case atStart => exact ⟨0, vs, rfl, by omega, HA2.out, HZ2.out, HB2.out, ⟨fun j hj => by omega, fun j j' _ hj => by omega⟩, Nat.le_refl _⟩
  case round =>
    obtain ⟨i, ls, rfl, hi, Ha, Hz, Hb, Hc, Hs⟩ := hrel
    by_cases hlt : i < 27
    · have hiI : (i : Int) < 27 := by omega
      obtain ⟨a, c, hv, hr, hm⟩ := (H.out wr Hb.out).at_ i hlt
      have HR : Hid (Reads wr (.slice a (ts.getD i []).length c) (ts.getD i [])) := hr
      have HV : Hid (vs.getD i undef = .slice a (ts.getD i []).length c) := hv
      have HMi : Hid (Mild (ts.getD i [])) := hm
      clear hr hv hm
      obtain ⟨t, ht⟩ : ∃ t, t = ts.getD i [] := ⟨_, rfl⟩
      have HTI : Hid (ts.getD i [] = t) := ht.symm
      rw [← ht] at HR HV HMi
      clear ht
      go_wp2_with (refine index24 rfl _ _ rfl vs rfl i rfl hl hlt _ HV.out ?_)
      refine (cloneI_any _ t wr HR.out HMi.out).mono ?_
      rintro e w5 ⟨hb, a5, c5, rfl, ho⟩
      have HB5 : Hid (Below w.heap.size w w5) := below_trans Hb.out hb Hb.out.size
      have HA5 : Hid (HoldsA w5 w.heap.size ls) := Ha.out.below hb
      have HZ5 : Hid (HoldsA w5 G nils) := Hz.out.below hb
      have HO5 : Hid (OwnI w5 wr.heap.size (.slice a5 t.length c5) t) := ho
      have HBB : Hid (Below wr.heap.size wr w5) := hb
      clear hb ho Hz Hb HR
      go_wp2_with (refine store22 rfl _ _ rfl w.heap.size i rfl a5 t.length c5 rfl ls HA5.out hlt ?_)
      intro w6 hh hg
      have HB6 : Hid (Below w.heap.size w w6) := HB5.out.grown hg HB5.out.size (fun j hj => by cases hj; exact Nat.le_refl _)
      have HA6 : Hid (HoldsA w6 w.heap.size (ls.set i (.slice a5 t.length c5))) := hh
      have HZ6 : Hid (HoldsA w6 G nils) := HZ5.out.kept hg (fun e => by have := HN.out; have := Option.some.inj e; omega)
      have HC6 : Hid (Copied w6 w2.heap.size (ls.set i (.slice a5 t.length c5)) ts (i + 1)) := by
        have ho := HO5.out
        refine Hc.out.step Ha.out.1 hlt HBB.out _ _ _ (by rw [HTI.out]; exact ho) Hs.out hg ?_
        have := HN.out
        omega
      have HS6 : Hid (w2.heap.size ≤ w6.heap.size) := Nat.le_trans Hs.out (Nat.le_trans HBB.out.size hg.size)
      clear hh hg HB5 HA5 HZ5 HO5 HBB Hc Hs Ha
      go_wp2_with fail
      go_roundw
      case rel => exact ⟨i + 1, _, by go_num, by omega, HA6.out, HZ6.out, HB6.out, HC6.out, HS6.out⟩
      case measure => simp [intOf] <;> omega
    · obtain rfl : i = 27 := by omega
      have HLS : Hid (AllSl ls) := Ha.out.1
      go_wp2_with (first | (refine load24 rfl _ rfl w.heap.size rfl ls Ha.out ?_) | (refine store24 rfl _ _ rfl G rfl ls nils rfl Hz.out HLS.out ?_))
      intro w6 hz hg
      have HB6 : Hid (Below w.heap.size w w6) := Hb.out.grown hg Hb.out.size (fun j hj => by have := HN.out; cases hj; omega)
      have HZ6 : Hid (HoldsA w6 G ls) := hz
      have HO6 : Hid (OwnR w6 w.heap.size ls ts) := ((Hc.out.grown hg HN.out.2).all HLS.out HT.out HM.out).less HB2.out.size
      clear hz hg Hb Hz Hc Ha
      go_wp2_with fail
      (try simp only [Exit.inBlock, Exit.then])
      refine bodyPost_ret (ret_one rfl _ _ G ls rfl HZ6.out) rfl ?_
      exact ⟨HB6.out, ls, rfl, HO6.out⟩
end Go.Proofs.Ytpgjaoemkadenab.Seek

/- The contracts of reg.Get and of the document's RegGet. -/
set_option linter.unusedVariables false
set_option linter.unusedSimpArgs false
set_option maxRecDepth 100000
namespace Go.Proofs.Ytpgjaoemkadenab.Seek
open Go.RowKit

/-- What is got of the register of that name. -/
def Got (ts : List (List Int)) (name : Int) (e : Int) (t : List Int) : Prop :=
  (NoName name ∧ e = 9 ∧ t = []) ∨ ∃ k g, Named name k g ∧ ((ts.getD k [] = [] ∧ e = 6 ∧ t = []) ∨ (ts.getD k [] ≠ [] ∧ e = 0 ∧ t = ts.getD k []))
theorem got_or (ts : List (List Int)) (name : Int) : ∃ e t, Got ts name e t := by
  rcases named_or name with h | ⟨k, g, h⟩
  · exact ⟨9, [], .inl ⟨h, rfl, rfl⟩⟩
  · by_cases h0 : ts.getD k [] = []
    · exact ⟨6, [], .inr ⟨k, g, h, .inl ⟨h0, rfl, rfl⟩⟩⟩
    · exact ⟨0, _, .inr ⟨k, g, h, .inr ⟨h0, rfl, rfl⟩⟩⟩
theorem mild_nil : Mild [] := by show ([] : List Int).length * 8 ≤ _; decide
theorem Got.mild {w : World} {vs : List Value} {ts : List (List Int)} {name e : Int} {t : List Int} (h : Got ts name e t) (hr : ReadsR w vs ts) : Mild t := by
  rcases h with ⟨_, _, rfl⟩ | ⟨k, g, hN, ⟨_, _, rfl⟩ | ⟨_, _, rfl⟩⟩
  · exact mild_nil
  · exact mild_nil
  · exact (hr.2.2 k hN.lt).2

set_option maxHeartbeats 1000000 in
theorem get_any (vs : List Value) (ts : List (List Int)) (name e : Int) (t : List Int) (w : World) (h : ReadsR w vs ts) (hg : Got ts name e t) :
    Calls Try.prog 51 #[arr vs, .int .i64 name] w fun r w' => Below w.heap.size w w' ∧ ∃ a c, r = .returned (.tuple #[.slice a t.length c, .int .i64 e]) ∧ OwnI w' w.heap.size (.slice a t.length c) t := by
  have hl := h.1
  have H : Hid (∀ wx, Below w.heap.size w wx → ReadsR wx vs ts) := fun wx hb => h.below hb
  clear h
  rcases hg with ⟨hn, rfl, rfl⟩ | ⟨k, g, hN, hx⟩
  · have HN : Hid (NoName name) := hn
    clear hn
    go_enter Try.func51, Try.ntmps51
    go_wp2_with (refine box24 rfl _ rfl vs rfl hl ?_)
    intro w1 ha hb
    have HB1 : Hid (Below w.heap.size w w1) := hb
    clear ha hb
    go_wp2_with fail
    refine (number_none _ _ HN.out).mono ?_
    rintro r w2 ⟨rfl, hw2⟩
    rw [hw2]
    clear hw2 w2
    go_wp2_with fail
    go_ret2
    exact ⟨HB1.out, _, _, rfl, ownI_nil _ _⟩
  · have HN : Hid (Named name k g) := hN
    have hk := hN.lt
    have hkI : (k : Int) < 27 := by omega
    clear hN
    obtain ⟨x, hxx⟩ : ∃ x, x = ts.getD k [] := ⟨_, rfl⟩
    have HX : Hid (ts.getD k [] = x) := hxx.symm
    rw [← hxx] at hx
    clear hxx
    go_enter Try.func51, Try.ntmps51
    go_wp2_with (refine box24 rfl _ rfl vs rfl hl ?_)
    intro w1 ha hb
    have HB1 : Hid (Below w.heap.size w w1) := hb
    obtain ⟨a, c, hv, hr, hm⟩ := (H.out w1 hb).at_ k hk
    rw [HX.out] at hv hr hm
    have hc1 := ha.cell k hk
    rw [hv] at hc1
    have HR : Hid (Reads w1 (.slice a x.length c) x) := hr
    have HM : Hid (Mild x) := hm
    clear ha hb hr hm hv
    go_wp2_with fail
    refine (number_named _ k g _ HN.out).mono ?_
    rintro r w2 ⟨rfl, hw2⟩
    rw [hw2]
    clear hw2 w2
    rcases hx with ⟨h0, rfl, rfl⟩ | ⟨h0, rfl, rfl⟩
    · have hx0 : (x.length : Int) = 0 := by rw [h0]; rfl
      go_wp2_with fail
      go_ret2
      exact ⟨HB1.out, _, _, rfl, ownI_nil _ _⟩
    · have hx0 : ((t.length : Int) == 0) = false := by
        rw [beq_eq_false_iff_ne]
        intro h
        exact h0 (List.length_eq_zero_iff.1 (by omega))
      clear h0
      go_wp2_with fail
      refine (cloneI_any _ t _ HR.out HM.out).mono ?_
      rintro r w2 ⟨hb, a2, c2, rfl, ho⟩
      have HB2 : Hid (Below w.heap.size w w2) := below_trans HB1.out hb HB1.out.size
      have HO2 : Hid (OwnI w2 w.heap.size (.slice a2 t.length c2) t) := ho.less HB1.out.size
      clear hb ho
      go_wp2_with fail
      go_ret2
      exact ⟨HB2.out, _, _, rfl, HO2.out⟩

end Go.Proofs.Ytpgjaoemkadenab.Seek

/- The contract of the document's SameRegs, of registers that are the same. -/
set_option linter.unusedVariables false
set_option linter.unusedSimpArgs false
set_option maxRecDepth 100000
namespace Go.Proofs.Ytpgjaoemkadenab.Seek
open Go.RowKit

theorem equal_same (v1 v2 : Value) (xs : List Int) (w : World) (h1 : Reads w v1 xs) (h2 : Reads w v2 xs) (hx : Mild xs) :
    Calls Try.prog 7 #[v1, v2] w fun e w' => e = .returned (.bool true) ∧ ∃ q, w' = w.drewN q := by
  unfold Mild at hx
  have := equal_any v1 v2 xs xs w h1 h2 (by unfold maxLen; omega) (by unfold maxLen; omega)
  rw [beq_self_eq_true] at this
  exact this
set_option maxHeartbeats 1000000 in
theorem same_any (va vb : List Value) (ts : List (List Int)) (w : World) (h1 : ReadsR w va ts) (h2 : ReadsR w vb ts) :
    Calls Try.prog 18 #[arr va, arr vb] w fun e w' => e = .returned (.bool true) ∧ Below w.heap.size w w' := by
  have hla := h1.1
  have hlb := h2.1
  have H1 : Hid (∀ wx, Below w.heap.size w wx → ReadsR wx va ts) := fun wx hb => h1.below hb
  have H2 : Hid (∀ wx, Below w.heap.size w wx → ReadsR wx vb ts) := fun wx hb => h2.below hb
  clear h1 h2
  go_enter Try.func18, Try.ntmps18
  go_wp2_with (refine box24 rfl _ rfl va rfl hla ?_)
  intro w1 ha hb
  have HB1 : Hid (Below w.heap.size w w1) := hb
  have HA1 : Hid (HoldsA w1 w.heap.size va) := ha
  clear ha hb
  go_wp2_with (refine box24 rfl _ rfl vb rfl hlb ?_)
  intro w2 ha hb
  have HB2 : Hid (Below w.heap.size w w2) := below_trans HB1.out hb HB1.out.size
  have HA2 : Hid (HoldsA w2 w.heap.size va) := HA1.out.below hb
  have HD2 : Hid (HoldsA w2 w1.heap.size vb) := ha
  clear ha hb HB1 HA1
  generalize w1.heap.size = G at *
  go_wp2_with fail
  go_loopw [6] (fun u6 wr => ∃ (i : Nat), u6 = .int .i64 (i : Int) ∧ i ≤ 27 ∧ Hid (HoldsA wr w.heap.size va) ∧ Hid (HoldsA wr G vb) ∧ Hid (Below w.heap.size w wr))
    (fun u6 _ => 27 - (intOf u6).toNat)
  case atStart => exact ⟨0, rfl, by omega, HA2.out, HD2.out, HB2.out⟩
  case round =>
    obtain ⟨i, rfl, hi, Ha, Hd, Hb⟩ := hrel
    by_cases hlt : i < 27
    · have hiI : (i : Int) < 27 := by omega
      obtain ⟨a, c, hv, hr, hm⟩ := (H1.out wr Hb.out).at_ i hlt
      obtain ⟨a', c', hv', hr', _⟩ := (H2.out wr Hb.out).at_ i hlt
      have hc1 := Ha.out.cell i hlt
      have hc2 := Hd.out.cell i hlt
      rw [hv] at hc1
      rw [hv'] at hc2
      clear hv hv'
      generalize ts.getD i [] = t at *
      have HR1 : Hid (Reads wr (.slice a t.length c) t) := hr
      have HR2 : Hid (Reads wr (.slice a' t.length c') t) := hr'
      have HM : Hid (Mild t) := hm
      clear hr hr' hm
      go_wp2_with fail
      go_quiet ((go_at_call 7; exact Calls.quiet_of (equal_same _ _ t _ (HR1.out.drewN _) (HR2.out.drewN _) HM.out)))
      have HB5 : Hid (Below w.heap.size w (wr.drewN nq)) := below_drewN Hb.out nq
      have HA5 : Hid (HoldsA (wr.drewN nq) w.heap.size va) := Ha.out
      have HD5 : Hid (HoldsA (wr.drewN nq) G vb) := Hd.out
      clear Ha Hd Hb hc1 hc2
      go_wp2_with fail
      go_roundw
      case rel => exact ⟨i + 1, by go_num, by omega, HA5.out, HD5.out, HB5.out⟩
      case measure => simp [intOf] <;> omega
    · obtain rfl : i = 27 := by omega
      go_wp2_with fail
      go_ret
      exact ⟨rfl, Hb.out⟩
end Go.Proofs.Ytpgjaoemkadenab.Seek
