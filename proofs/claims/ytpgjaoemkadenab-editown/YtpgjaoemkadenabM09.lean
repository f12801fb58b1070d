/- Texts of one claim, one behind the other: RPut, RPutAny. -/
import Derived.Test.YtpgjaoemkadenabM07
import Derived.Test.YtpgjaoemkadenabM01
import Derived.Test.YtpgjaoemkadenabM08
import Derived.Deep.Cut
import Derived.Deep.CutRange
/- The contracts of reg.Put and of the document's RegPut. -/
set_option linter.unusedVariables false
set_option linter.unusedSimpArgs false
set_option maxRecDepth 100000
namespace Go.Proofs.Ytpgjaoemkadenab.Seek
open Go.RowKit

theorem new_cell2 (w : World) (u v : Value) (j : Nat) (x : Value) (h : (#[u, v] : Array Value)[j]? = some x) : (w.alloc (.cells #[u, v] 22)).cell? ⟨w.heap.size, j, none⟩ = some x := by
  unfold World.cell?
  simp only
  rw [heap_new]
  simpa using h
theorem concat2 (v1 v2 : Value) (x1 x2 : List Int) (w : World) (h1 : Reads w v1 x1) (h2 : Reads w v2 x2) (hb : (x1 ++ x2).length * 8 ≤ 281474976710656) :
    Calls Try.prog 10 #[.slice (some ⟨w.heap.size, 0, none⟩) 2 2] (w.alloc (.cells #[v1, v2] 22)) fun e w' => ConcatPost (x1 ++ x2) (w.alloc (.cells #[v1, v2] 22)) e w' := by
  have hj : joined (fun j => match j with | 0 => x1 | _ => x2) 2 = x1 ++ x2 := by simp [joined]
  have := concat_any w.heap.size 2 2 (fun j => match j with | 0 => v1 | _ => v2) (fun j => match j with | 0 => x1 | _ => x2) (w.alloc (.cells #[v1, v2] 22)) (by decide) (by rw [size_alloc]; omega)
    (fun j hj => by
      match j, hj with
      | 0, _ => exact new_cell2 w _ _ 0 _ rfl
      | 1, _ => exact new_cell2 w _ _ 1 _ rfl)
    (fun j hj => by
      match j, hj with
      | 0, _ => exact h1.below (box_below _ _)
      | 1, _ => exact h2.below (box_below _ _)) (by rw [hj]; exact hb)
  rw [hj] at this
  exact this

/-- A slice of numbers does not lie in an array of slices. -/
theorem Reads.kept {w w' : World} {g : Nat} {v : Value} {zs : List Int} {cs : Array Value} (h : Reads w v zs) (hg : w.grownBy w' (some g)) (hgh : w.heap[g]? = some (.cells cs 36 (0, 0))) (hcs : ∀ x ∈ cs.toList, ∃ a n c, x = .slice a n c) : Reads w' v zs := by
  rcases h with h | ⟨b, off, cap, hv, hcap, hm, hlt, hc⟩
  · exact .inl h
  · by_cases h0 : zs.length = 0
    · exact .inl ⟨_, cap, by rw [hv, h0], List.length_eq_zero_iff.1 h0⟩
    · have hne : b ≠ g := by
        intro e
        subst e
        have h1 := hc 0 (by omega)
        rw [cell_of_row w b _ _ 36 (0, 0) hgh] at h1
        obtain ⟨a, n, c, e⟩ := hcs _ (Array.mem_toList_iff.2 (Array.mem_of_getElem? h1))
        cases e
      exact .inr ⟨b, off, cap, hv, hcap, hm, Nat.lt_of_lt_of_le hlt hg.size, fun j hj => (World.cell?_of_block (by exact hg.block b hlt (fun e => hne (Option.some.inj e)))).trans (hc j hj)⟩
theorem ReadsR.kept {w w' : World} {g : Nat} {vs : List Value} {ts : List (List Int)} {cs : Array Value} (h : ReadsR w vs ts) (hg : w.grownBy w' (some g)) (hgh : w.heap[g]? = some (.cells cs 36 (0, 0))) (hcs : ∀ x ∈ cs.toList, ∃ a n c, x = .slice a n c) : ReadsR w' vs ts :=
  ⟨h.1, h.2.1, fun i hi => ⟨(h.2.2 i hi).1.kept hg hgh hcs, (h.2.2 i hi).2⟩⟩
theorem OwnR.grown {w w' : World} {B g : Nat} {vs : List Value} {ts : List (List Int)} (h : OwnR w B vs ts) (hg : w.grownBy w' (some g)) (hgB : g < B) : OwnR w' B vs ts := by
  have ho : ∀ i, i < 27 → OwnI w' B (vs.getD i undef) (ts.getD i []) := fun i hi => (h.2.1 i hi).kept hg (fun e => by have := ((h.2.1 i hi).lt _ e).1; omega)
  exact ⟨⟨h.1.1, h.1.2.1, fun i hi => ⟨(ho i hi).reads, (h.1.2.2 i hi).2⟩⟩, ho, h.2.2⟩

/-- What stands ahead of what is put. -/
def ahd (ts : List (List Int)) (k : Nat) (g : Bool) : List Int := if g then ts.getD k [] else []
/-- What comes of a Put. -/
def Putd (ts : List (List Int)) (name : Int) (x : List Int) (e : Int) (ts' : List (List Int)) : Prop :=
  (NoName name ∧ e = 9 ∧ ts' = nilT) ∨ ∃ k g, Named name k g ∧ ((200 < (ahd ts k g).length + x.length ∧ e = 2 ∧ ts' = nilT) ∨
    ((ahd ts k g).length + x.length ≤ 200 ∧ e = 0 ∧ ts' = (ts.set k (ahd ts k g ++ x)).set 0 (ahd ts k g ++ x)))
theorem putd_or (ts : List (List Int)) (name : Int) (x : List Int) : ∃ e ts', Putd ts name x e ts' := by
  rcases named_or name with h | ⟨k, g, h⟩
  · exact ⟨9, _, .inl ⟨h, rfl, rfl⟩⟩
  · by_cases h0 : 200 < (ahd ts k g).length + x.length
    · exact ⟨2, _, .inr ⟨k, g, h, .inl ⟨h0, rfl, rfl⟩⟩⟩
    · exact ⟨0, _, .inr ⟨k, g, h, .inr ⟨by omega, rfl, rfl⟩⟩⟩

set_option maxHeartbeats 2000000 in
theorem put_key (vs : List Value) (name : Int) (a : Option Addr) (n c : Nat) (w : World) (hl : AllSl vs) (hn : NoName name) :
    Calls Try.prog 49 #[arr vs, .int .i64 name, .slice a n c] w fun r w' => Below w.heap.size w w' ∧ r = .returned (.tuple #[arr nils, .int .i64 9]) := by
  have HN : Hid (NoName name) := hn
  clear hn
  go_enter Try.func49, Try.ntmps49
  go_wp2_with (refine box24 rfl _ rfl vs rfl hl ?_)
  intro w1 ha hb
  have HB1 : Hid (Below w.heap.size w w1) := hb
  have HA1 : Hid (HoldsA w1 w.heap.size vs) := ha
  clear ha hb
  go_wp2_with (refine alloc24 rfl rfl ?_)
  intro w2 ha hb
  have HB2 : Hid (Below w.heap.size w w2) := below_trans HB1.out hb HB1.out.size
  have HZ2 : Hid (HoldsA w2 w1.heap.size nils) := ha
  have HG : Hid (w.heap.size < w1.heap.size) := HA1.out.lt
  clear ha hb HB1 HA1
  generalize w1.heap.size = G at *
  go_wp2_with fail
  refine (number_none _ _ HN.out).mono ?_
  rintro e w3 ⟨rfl, hw3⟩
  rw [hw3]
  clear hw3 w3
  go_wp2_with (first | (refine build24 rfl rfl ?_) | (refine store24 rfl _ _ rfl G rfl nils nils rfl HZ2.out nils_all ?_))
  intro w4 hz hg
  have HB4 : Hid (Below w.heap.size w w4) := HB2.out.grown hg HB2.out.size (fun j hj => by have := HG.out; cases hj; omega)
  have HZ4 : Hid (HoldsA w4 G nils) := hz
  clear hz hg HB2 HZ2
  go_wp2_with fail
  (try simp only [Exit.inBlock, Exit.then])
  refine bodyPost_ret (ret_arr rfl _ _ G nils _ rfl rfl HZ4.out) rfl ?_
  exact ⟨HB4.out, rfl⟩

set_option maxHeartbeats 4000000 in
theorem put_named (vs : List Value) (ts : List (List Int)) (name : Int) (k : Nat) (g : Bool) (v : Value) (x : List Int) (e : Int) (ts' : List (List Int)) (w : World) (h : ReadsR w vs ts) (hv : Reads w v x) (hm : Mild x) (hN : Named name k g)
    (hp : (200 < (ahd ts k g).length + x.length ∧ e = 2 ∧ ts' = nilT) ∨ ((ahd ts k g).length + x.length ≤ 200 ∧ e = 0 ∧ ts' = (ts.set k (ahd ts k g ++ x)).set 0 (ahd ts k g ++ x))) :
    Calls Try.prog 49 #[arr vs, .int .i64 name, v] w fun r w' => Below w.heap.size w w' ∧ ∃ ls, r = .returned (.tuple #[arr ls, .int .i64 e]) ∧ OwnR w' w.heap.size ls ts' := by
  obtain ⟨a, c, rfl⟩ := hv.shape
  have hl := h.1
  have HV : Hid (∀ wx, Below w.heap.size w wx → Reads wx (.slice a x.length c) x) := fun wx hb => hv.below hb
  have H : Hid (∀ wx, Below w.heap.size w wx → ReadsR wx vs ts) := fun wx hb => h.below hb
  have HN : Hid (Named name k g) := hN
  have hk := hN.lt
  have hkI : (k : Int) < 27 := by omega
  obtain ⟨ah, hah⟩ : ∃ ah, ah = ahd ts k g := ⟨_, rfl⟩
  have HAH : Hid (ah = ahd ts k g) := hah
  rw [← hah] at hp
  obtain ⟨y, hy⟩ : ∃ y, y = ah ++ x := ⟨_, rfl⟩
  have HY : Hid (y = ah ++ x) := hy
  rw [← hy] at hp
  clear h hv hN hah hy
  unfold Mild at hm
  go_enter Try.func49, Try.ntmps49
  go_wp2_with (refine box24 rfl _ rfl vs rfl hl ?_)
  intro w1 ha hb
  have HB1 : Hid (Below w.heap.size w w1) := hb
  have HA1 : Hid (HoldsA w1 w.heap.size vs) := ha
  clear ha hb
  go_wp2_with (refine alloc24 rfl rfl ?_)
  intro w2 ha hb
  have HB2 : Hid (Below w.heap.size w w2) := below_trans HB1.out hb HB1.out.size
  have HA2 : Hid (HoldsA w2 w.heap.size vs) := HA1.out.below hb
  have HZ2 : Hid (HoldsA w2 w1.heap.size nils) := ha
  have HG : Hid (w.heap.size < w1.heap.size) := HA1.out.lt
  clear ha hb HB1 HA1
  generalize w1.heap.size = G at *
  go_wp2_with fail
  refine (number_named _ k g _ HN.out).mono ?_
  rintro e w3 ⟨rfl, hw3⟩
  rw [hw3]
  clear hw3 w3
  go_wp2_with fail
  refine (great_named _ k g _ HN.out).mono ?_
  rintro e w3 ⟨rfl, hw3⟩
  rw [hw3]
  clear hw3 w3
  go_upto_if 21 with fail
  go_cut [10] from 21 to 36 (fun s10 wx => (∃ aa ac, s10 = .slice aa ah.length ac ∧ Reads wx (.slice aa ah.length ac) ah ∧ Mild ah) ∧ wx = w2)
  case first =>
    cases g with
    | false =>
      have HE : Hid (ah = []) := HAH.out
      clear HAH
      go_wp2_with fail
      go_meet
      case rel => exact ⟨⟨none, 0, by rw [HE.out]; rfl, .inl ⟨none, 0, by rw [HE.out]; rfl, HE.out⟩, by rw [HE.out]; show ([] : List Int).length * 8 ≤ _; decide⟩, rfl⟩
    | true =>
      obtain ⟨aa, ac, hv, hr, hm2⟩ := (H.out w2 HB2.out).at_ k hk
      have hc1 := HA2.out.cell k hk
      have HE : ts.getD k [] = ah := HAH.out.symm
      rw [HE] at hv hr hm2
      rw [hv] at hc1
      have HR : Hid (Reads w2 (.slice aa ah.length ac) ah) := hr
      have HM : Hid (Mild ah) := hm2
      clear HAH HE hv hr hm2
      go_wp2_with fail
      go_meet
      case rel => exact ⟨⟨aa, ac, rfl, HR.out, HM.out⟩, rfl⟩
  case rest =>
    obtain ⟨⟨aa, ac, rfl, hr, hm2⟩, hwc⟩ := hcut
    subst hwc
    have HR : Hid (Reads wc (.slice aa ah.length ac) ah) := hr
    unfold Mild at hm2
    clear hr
    rcases hp with ⟨hp, rfl, rfl⟩ | ⟨hp, rfl, rfl⟩
    · have hsum : (200 : Int) < (ah.length : Int) + (x.length : Int) := by omega
      clear hp
      go_wp2_with (first | (refine build24 rfl rfl ?_) | (refine store24 rfl _ _ rfl G rfl nils nils rfl HZ2.out nils_all ?_))
      intro w4 hz hg
      have HB4 : Hid (Below w.heap.size w w4) := HB2.out.grown hg HB2.out.size (fun j hj => by have := HG.out; cases hj; omega)
      have HZ4 : Hid (HoldsA w4 G nils) := hz
      clear hz hg HB2 HZ2
      go_wp2_with fail
      (try simp only [Exit.inBlock, Exit.then])
      refine bodyPost_ret (ret_arr rfl _ _ G nils _ rfl rfl HZ4.out) rfl ?_
      exact ⟨HB4.out, _, rfl, ownR_nil _ _⟩
    · have hsum : ¬ (200 : Int) < (ah.length : Int) + (x.length : Int) := by omega
      have HP : Hid (ah.length + x.length ≤ 200) := hp
      clear hp
      go_wp2_with fail
      refine (concat2 _ _ ah x _ HR.out (HV.out _ HB2.out) (by rw [List.length_append]; have := HP.out; omega)).mono ?_
      rintro e w4 ⟨hb, v4, rfl, ho⟩
      have hb2 := below_trans (box_below _ _) hb (box_below _ _).size
      have HB4 : Hid (Below w.heap.size w w4) := below_trans HB2.out hb2 HB2.out.size
      have HA4 : Hid (HoldsA w4 w.heap.size vs) := HA2.out.below hb2
      have HZ4 : Hid (HoldsA w4 G nils) := HZ2.out.below hb2
      rw [← HY.out] at ho
      obtain ⟨a4, c4, rfl⟩ := ho.reads.shape
      have HR4 : Hid (Reads w4 (.slice a4 y.length c4) y) := ho.reads
      have HM4 : Hid (Mild y) := by show y.length * 8 ≤ _; rw [HY.out, List.length_append]; have := HP.out; omega
      clear hb hb2 ho HB2 HA2 HZ2 HR hm2 hsum HY HAH HP
      have k0 : 0 < 27 := by decide
      go_wp2_with (refine store22 rfl _ _ rfl w.heap.size k rfl a4 y.length c4 rfl vs HA4.out hk ?_)
      intro w5 hz hg
      have HB5 : Hid (Below w.heap.size w w5) := HB4.out.grown hg HB4.out.size (fun j hj => by cases hj; exact Nat.le_refl _)
      have HA5 : Hid (HoldsA w5 w.heap.size (vs.set k (.slice a4 y.length c4))) := hz
      have HZ5 : Hid (HoldsA w5 G nils) := HZ4.out.kept hg (fun e => by have := HG.out; have := Option.some.inj e; omega)
      have HR5 : Hid (Reads w5 (.slice a4 y.length c4) y) := HR4.out.kept hg HA4.out.2 (fun x hx => HA4.out.1.2 x (by simpa using hx))
      clear hz hg HB4 HA4 HZ4 HR4
      go_wp2_with (refine store22 rfl _ _ rfl w.heap.size 0 rfl a4 y.length c4 rfl _ HA5.out k0 ?_)
      intro w6 hz hg
      have HB6 : Hid (Below w.heap.size w w6) := HB5.out.grown hg HB5.out.size (fun j hj => by cases hj; exact Nat.le_refl _)
      have HA6 : Hid (HoldsA w6 w.heap.size ((vs.set k (.slice a4 y.length c4)).set 0 (.slice a4 y.length c4))) := hz
      have HZ6 : Hid (HoldsA w6 G nils) := HZ5.out.kept hg (fun e => by have := HG.out; have := Option.some.inj e; omega)
      have HR6 : Hid (Reads w6 (.slice a4 y.length c4) y) := HR5.out.kept hg HA5.out.2 (fun x hx => HA5.out.1.2 x (by simpa using hx))
      have HT6 : Hid (ReadsR w6 ((vs.set k (.slice a4 y.length c4)).set 0 (.slice a4 y.length c4)) ((ts.set k y).set 0 y)) := (((H.out _ HB6.out).set k hk _ _ _ HR6.out HM4.out).set 0 k0 _ _ _ HR6.out HM4.out)
      clear hz hg HB5 HA5 HZ5 HR5 HR6
      go_wp2_with (refine load24 rfl _ rfl w.heap.size rfl _ HA6.out ?_)
      refine (copied_any _ _ _ HT6.out).mono ?_
      rintro e w7 ⟨hb, ls, rfl, ho⟩
      have HB7 : Hid (Below w.heap.size w w7) := below_trans HB6.out hb HB6.out.size
      have HZ7 : Hid (HoldsA w7 G nils) := HZ6.out.below hb
      have HO7 : Hid (OwnR w7 w6.heap.size ls ((ts.set k y).set 0 y)) := ho
      have HS : Hid (G < w6.heap.size ∧ w.heap.size ≤ w6.heap.size) := ⟨HZ6.out.lt, HB6.out.size⟩
      have HLS : Hid (AllSl ls) := ho.1.1
      clear hb ho HB6 HZ6 HA6 HT6
      go_wp2_with (refine store24 rfl _ _ rfl G rfl ls nils rfl HZ7.out HLS.out ?_)
      intro w8 hz hg
      have HB8 : Hid (Below w.heap.size w w8) := HB7.out.grown hg HB7.out.size (fun j hj => by have := HG.out; cases hj; omega)
      have HZ8 : Hid (HoldsA w8 G ls) := hz
      have HO8 : Hid (OwnR w8 w.heap.size ls ((ts.set k y).set 0 y)) := (HO7.out.grown hg HS.out.1).less HS.out.2
      clear hz hg HB7 HZ7 HO7
      go_wp2_with fail
      (try simp only [Exit.inBlock, Exit.then])
      refine bodyPost_ret (ret_arr rfl _ _ G ls _ rfl rfl HZ8.out) rfl ?_
      exact ⟨HB8.out, _, rfl, HO8.out⟩
end Go.Proofs.Ytpgjaoemkadenab.Seek

/- reg.Put whole. -/
set_option linter.unusedVariables false
set_option linter.unusedSimpArgs false
set_option maxRecDepth 100000
namespace Go.Proofs.Ytpgjaoemkadenab.Seek
open Go.RowKit

theorem Putd.all {ts : List (List Int)} (h : ts.length = 27) {name : Int} {x : List Int} {e : Int} {ts' : List (List Int)} (hp : Putd ts name x e ts') : ts'.length = 27 := by
  rcases hp with ⟨_, _, rfl⟩ | ⟨k, g, _, ⟨_, _, rfl⟩ | ⟨_, _, rfl⟩⟩
  · rfl
  · rfl
  · rw [List.length_set, List.length_set]; exact h
/-- reg.Put. -/
theorem put_any (vs : List Value) (ts : List (List Int)) (name : Int) (v : Value) (x : List Int) (e : Int) (ts' : List (List Int)) (w : World) (h : ReadsR w vs ts) (hv : Reads w v x) (hm : Mild x) (hp : Putd ts name x e ts') :
    Calls Try.prog 49 #[arr vs, .int .i64 name, v] w fun r w' => Below w.heap.size w w' ∧ ∃ ls, r = .returned (.tuple #[arr ls, .int .i64 e]) ∧ OwnR w' w.heap.size ls ts' := by
  rcases hp with ⟨hn, rfl, rfl⟩ | ⟨k, g, hN, hp⟩
  · obtain ⟨a, c, rfl⟩ := hv.shape
    refine (put_key vs name a _ c w h.1 hn).mono ?_
    rintro r w' ⟨hb, rfl⟩
    exact ⟨hb, _, rfl, ownR_nil _ _⟩
  · exact put_named vs ts name k g v x e ts' w h hv hm hN hp

end Go.Proofs.Ytpgjaoemkadenab.Seek
