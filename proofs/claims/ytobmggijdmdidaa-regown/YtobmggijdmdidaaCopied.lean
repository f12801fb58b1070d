/- The contracts of reg.allCopied and of the document's SameRegs. -/
import Derived.Test.YtobmggijdmdidaaRegs
import Derived.Deep.Light
set_option linter.unusedVariables false
set_option linter.unusedSimpArgs false
namespace Go.Proofs.Ytobmggijdmdidaa.Seek
open Go.RowKit

theorem OwnI.kept {w w' : World} {B : Nat} {v : Value} {zs : List Int} {g : Nat} (h : OwnI w B v zs) (hg : w.grownBy w' (some g)) (hne : v.ownBlock ≠ some g) : OwnI w' B v zs := World.ownsRow.kept h hg (.inr hne)
/-- The first i slices are copies. -/
def Copied (w : World) (B : Nat) (ls : List Value) (ts : List (List Int)) (i : Nat) : Prop :=
  (∀ j, j < i → OwnI w B (ls.getD j undef) (ts.getD j [])) ∧ ∀ j j', j < j' → j' < i → ∀ k, (ls.getD j undef).ownBlock = some k → (ls.getD j' undef).ownBlock ≠ some k
theorem Copied.step {w w1 w2 : World} {B g : Nat} {ls : List Value} {ts : List (List Int)} {i : Nat} (h : Copied w B ls ts i) (hl : AllSl ls) (hi : i < 27) (hb : Below w.heap.size w w1) (a : Option Addr) (n c : Nat) (ho : OwnI w1 w.heap.size (.slice a n c) (ts.getD i [])) (hB : B ≤ w.heap.size) (hg : w1.grownBy w2 (some g)) (hgB : g < B) :
    Copied w2 B (ls.set i (.slice a n c)) ts (i + 1) := by
  have ll := hl.1
  have e1 : (ls.set i (.slice a n c)).getD i undef = .slice a n c := getD_set_same _ _ _ _ (by omega)
  have e2 : ∀ j, j < i → (ls.set i (.slice a n c)).getD j undef = ls.getD j undef := fun j hj => getD_set_other _ _ _ _ _ (by omega)
  have hk : ∀ {v zs B'}, OwnI w1 B' v zs → B ≤ B' → OwnI w2 B v zs := fun {v zs B'} h hB' => (h.less hB').kept hg (fun e => by have := (h.lt _ e).1; omega)
  refine ⟨fun j hj => ?_, fun j j' hjj hj' k hk' => ?_⟩
  · by_cases e : j = i
    · subst e
      rw [e1]
      exact hk ho hB
    · rw [e2 j (by omega)]
      exact hk ((h.1 j (by omega)).below hb) (Nat.le_refl _)
  · by_cases e : j' = i
    · subst e
      rw [e1]
      rw [e2 j hjj] at hk'
      intro hk2
      have h1 := ((h.1 j hjj).lt _ hk').2
      have h2 := (ho.lt _ hk2).1
      omega
    · rw [e2 j' (by omega)]
      rw [e2 j (by omega)] at hk'
      exact h.2 j j' hjj (by omega) k hk'
theorem Copied.all {w : World} {B : Nat} {ls : List Value} {ts : List (List Int)} (h : Copied w B ls ts 27) (hl : AllSl ls) (ht : ts.length = 27) (hm : ∀ i, i < 27 → Mild (ts.getD i [])) : OwnR w B ls ts :=
  ⟨⟨hl, ht, fun i hi => ⟨(h.1 i hi).reads, hm i hi⟩⟩, h.1, h.2⟩
theorem Copied.grown {w w' : World} {B g : Nat} {ls : List Value} {ts : List (List Int)} {i : Nat} (h : Copied w B ls ts i) (hg : w.grownBy w' (some g)) (hgB : g < B) : Copied w' B ls ts i :=
  ⟨fun j hj => (h.1 j hj).kept hg (fun e => by have := ((h.1 j hj).lt _ e).1; omega), h.2⟩

set_option maxHeartbeats 1000000 in
theorem copied_any (vs : List Value) (ts : List (List Int)) (w : World) (h : ReadsR w vs ts) :
    Calls Try.prog 20 #[arr vs] w fun e w' => Below w.heap.size w w' ∧ ∃ ls, e = .returned (arr ls) ∧ OwnR w' w.heap.size ls ts := by
  have hl := h.1
  have HT : Hid (ts.length = 27) := h.2.1
  have HM : Hid (∀ i, i < 27 → Mild (ts.getD i [])) := fun i hi => (h.2.2 i hi).2
  have H : Hid (∀ wx, Below w.heap.size w wx → ReadsR wx vs ts) := fun wx hb => h.below hb
  clear h
  go_enter Try.func20, Try.ntmps20
  go_wp2_with (refine box24 rfl _ rfl vs rfl hl ?_)
  intro w1 ha hb
  have HB1 : Hid (Below w.heap.size w w1) := hb
  have HA1 : Hid (HoldsA w1 w.heap.size vs) := ha
  clear ha hb
  go_wp2_with (refine alloc24 rfl rfl ?_)
  intro w2 ha hb
  have HB2 : Hid (Below w.heap.size w w2) := below_trans HB1.out hb HB1.out.size
  have HA2 : Hid (HoldsA w2 w.heap.size vs) := HA1.out.below hb
  have HZ2 : Hid (HoldsA w2 w1.heap.size nils) := ha
  have HN : Hid (w.heap.size < w1.heap.size ∧ w1.heap.size < w2.heap.size) := ⟨HA1.out.lt, ha.lt⟩
  clear ha hb HB1 HA1
  generalize w1.heap.size = G at *
  go_wp2_with (refine load24 rfl _ rfl w.heap.size rfl vs HA2.out ?_)
  go_loopw [6] (fun u6 wr => ∃ (i : Nat) (ls : List Value), u6 = .int .i64 (i : Int) ∧ i ≤ 27 ∧ Hid (HoldsA wr w.heap.size ls) ∧ Hid (HoldsA wr G nils) ∧ Hid (Below w.heap.size w wr) ∧ Hid (Copied wr w2.heap.size ls ts i) ∧ Hid (w2.heap.size ≤ wr.heap.size))
    (fun u6 _ => 27 - (intOf u6).toNat)
  case atStart => exact ⟨0, vs, rfl, by omega, HA2.out, HZ2.out, HB2.out, ⟨fun j hj => by omega, fun j j' _ hj => by omega⟩, Nat.le_refl _⟩
  case round =>
    obtain ⟨i, ls, rfl, hi, Ha, Hz, Hb, Hc, Hs⟩ := hrel
    by_cases hlt : i < 27
    · have hiI : (i : Int) < 27 := by omega
      obtain ⟨a, c, hv, hr, hm⟩ := (H.out wr Hb.out).at_ i hlt
      have HR : Hid (Reads wr (.slice a (ts.getD i []).length c) (ts.getD i [])) := hr
      have HV : Hid (vs.getD i undef = .slice a (ts.getD i []).length c) := hv
      have HMi : Hid (Mild (ts.getD i [])) := hm
      clear hr hv hm
      obtain ⟨t, ht⟩ : ∃ t, t = ts.getD i [] := ⟨_, rfl⟩
      have HTI : Hid (ts.getD i [] = t) := ht.symm
      rw [← ht] at HR HV HMi
      clear ht
      go_wp2_with (refine index24 rfl _ _ rfl vs rfl i rfl hl hlt _ HV.out ?_)
      refine (cloneI_any _ t wr HR.out HMi.out).mono ?_
      rintro e w5 ⟨hb, a5, c5, rfl, ho⟩
      have HB5 : Hid (Below w.heap.size w w5) := below_trans Hb.out hb Hb.out.size
      have HA5 : Hid (HoldsA w5 w.heap.size ls) := Ha.out.below hb
      have HZ5 : Hid (HoldsA w5 G nils) := Hz.out.below hb
      have HO5 : Hid (OwnI w5 wr.heap.size (.slice a5 t.length c5) t) := ho
      have HBB : Hid (Below wr.heap.size wr w5) := hb
      clear hb ho Hz Hb HR
      go_wp2_with (refine store22 rfl _ _ rfl w.heap.size i rfl a5 t.length c5 rfl ls HA5.out hlt ?_)
      intro w6 hh hg
      have HB6 : Hid (Below w.heap.size w w6) := HB5.out.grown hg HB5.out.size (fun j hj => by cases hj; exact Nat.le_refl _)
      have HA6 : Hid (HoldsA w6 w.heap.size (ls.set i (.slice a5 t.length c5))) := hh
      have HZ6 : Hid (HoldsA w6 G nils) := HZ5.out.kept hg (fun e => by have := HN.out; have := Option.some.inj e; omega)
      have HC6 : Hid (Copied w6 w2.heap.size (ls.set i (.slice a5 t.length c5)) ts (i + 1)) := by
        have ho := HO5.out
        refine Hc.out.step Ha.out.1 hlt HBB.out _ _ _ (by rw [HTI.out]; exact ho) Hs.out hg ?_
        have := HN.out
        omega
      have HS6 : Hid (w2.heap.size ≤ w6.heap.size) := Nat.le_trans Hs.out (Nat.le_trans HBB.out.size hg.size)
      clear hh hg HB5 HA5 HZ5 HO5 HBB Hc Hs Ha
      go_wp2_with fail
      go_roundw
      case rel => exact ⟨i + 1, _, by go_num, by omega, HA6.out, HZ6.out, HB6.out, HC6.out, HS6.out⟩
      case measure => simp [intOf] <;> omega
    · obtain rfl : i = 27 := by omega
      have HLS : Hid (AllSl ls) := Ha.out.1
      go_wp2_with (first | (refine load24 rfl _ rfl w.heap.size rfl ls Ha.out ?_) | (refine store24 rfl _ _ rfl G rfl ls nils rfl Hz.out HLS.out ?_))
      intro w6 hz hg
      have HB6 : Hid (Below w.heap.size w w6) := Hb.out.grown hg Hb.out.size (fun j hj => by have := HN.out; cases hj; omega)
      have HZ6 : Hid (HoldsA w6 G ls) := hz
      have HO6 : Hid (OwnR w6 w.heap.size ls ts) := ((Hc.out.grown hg HN.out.2).all HLS.out HT.out HM.out).less HB2.out.size
      clear hz hg Hb Hz Hc Ha
      go_wp2_with fail
      (try simp only [Exit.inBlock, Exit.then])
      refine bodyPost_ret (ret_one rfl _ _ G ls rfl HZ6.out) rfl ?_
      exact ⟨HB6.out, ls, rfl, HO6.out⟩
end Go.Proofs.Ytobmggijdmdidaa.Seek
