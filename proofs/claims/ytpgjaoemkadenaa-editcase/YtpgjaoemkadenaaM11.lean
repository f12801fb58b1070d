/- Texts of one claim, one behind the other: RPut, RPutAny, RGet, Boxes, Rep. -/
import Derived.Test.YtpgjaoemkadenaaM10
import Derived.Deep.Cut
import Derived.Deep.CutRange
import Derived.Test.YtpgjaoemkadenaaM01
import Derived.Deep.MidRow
import Derived.Laws.CopyOwn
/- The contracts of reg.Put and of the document's RegPut. -/
set_option linter.unusedVariables false
set_option linter.unusedSimpArgs false
set_option maxRecDepth 100000
namespace Go.Proofs.Ytpgjaoemkadenaa.Seek
open Go.RowKit

theorem new_cell2 (w : World) (u v : Value) (j : Nat) (x : Value) (h : (#[u, v] : Array Value)[j]? = some x) : (w.alloc (.cells #[u, v] 22)).cell? ⟨w.heap.size, j, none⟩ = some x := by
  unfold World.cell?
  simp only
  rw [heap_new]
  simpa using h
theorem concat2 (v1 v2 : Value) (x1 x2 : List Int) (w : World) (h1 : Reads w v1 x1) (h2 : Reads w v2 x2) (hb : (x1 ++ x2).length * 8 ≤ 281474976710656) :
    Calls Try.prog 15 #[.slice (some ⟨w.heap.size, 0, none⟩) 2 2] (w.alloc (.cells #[v1, v2] 22)) fun e w' => ConcatPost (x1 ++ x2) (w.alloc (.cells #[v1, v2] 22)) e w' := by
  have hj : joined (fun j => match j with | 0 => x1 | _ => x2) 2 = x1 ++ x2 := by simp [joined]
  have := concat_any w.heap.size 2 2 (fun j => match j with | 0 => v1 | _ => v2) (fun j => match j with | 0 => x1 | _ => x2) (w.alloc (.cells #[v1, v2] 22)) (by decide) (by rw [size_alloc]; omega)
    (fun j hj => by
      match j, hj with
      | 0, _ => exact new_cell2 w _ _ 0 _ rfl
      | 1, _ => exact new_cell2 w _ _ 1 _ rfl)
    (fun j hj => by
      match j, hj with
      | 0, _ => exact h1.below (box_below _ _)
      | 1, _ => exact h2.below (box_below _ _)) (by rw [hj]; exact hb)
  rw [hj] at this
  exact this

/-- A slice of numbers does not lie in an array of slices. -/
theorem Reads.kept {w w' : World} {g : Nat} {v : Value} {zs : List Int} {cs : Array Value} (h : Reads w v zs) (hg : w.grownBy w' (some g)) (hgh : w.heap[g]? = some (.cells cs 31 (0, 0))) (hcs : ∀ x ∈ cs.toList, ∃ a n c, x = .slice a n c) : Reads w' v zs := by
  rcases h with h | ⟨b, off, cap, hv, hcap, hm, hlt, hc⟩
  · exact .inl h
  · by_cases h0 : zs.length = 0
    · exact .inl ⟨_, cap, by rw [hv, h0], List.length_eq_zero_iff.1 h0⟩
    · have hne : b ≠ g := by
        intro e
        subst e
        have h1 := hc 0 (by omega)
        rw [cell_of_row w b _ _ 31 (0, 0) hgh] at h1
        obtain ⟨a, n, c, e⟩ := hcs _ (Array.mem_toList_iff.2 (Array.mem_of_getElem? h1))
        cases e
      exact .inr ⟨b, off, cap, hv, hcap, hm, Nat.lt_of_lt_of_le hlt hg.size, fun j hj => (World.cell?_of_block (by exact hg.block b hlt (fun e => hne (Option.some.inj e)))).trans (hc j hj)⟩
theorem ReadsR.kept {w w' : World} {g : Nat} {vs : List Value} {ts : List (List Int)} {cs : Array Value} (h : ReadsR w vs ts) (hg : w.grownBy w' (some g)) (hgh : w.heap[g]? = some (.cells cs 31 (0, 0))) (hcs : ∀ x ∈ cs.toList, ∃ a n c, x = .slice a n c) : ReadsR w' vs ts :=
  ⟨h.1, h.2.1, fun i hi => ⟨(h.2.2 i hi).1.kept hg hgh hcs, (h.2.2 i hi).2⟩⟩
theorem OwnR.grown {w w' : World} {B g : Nat} {vs : List Value} {ts : List (List Int)} (h : OwnR w B vs ts) (hg : w.grownBy w' (some g)) (hgB : g < B) : OwnR w' B vs ts := by
  have ho : ∀ i, i < 27 → OwnI w' B (vs.getD i undef) (ts.getD i []) := fun i hi => (h.2.1 i hi).kept hg (fun e => by have := ((h.2.1 i hi).lt _ e).1; omega)
  exact ⟨⟨h.1.1, h.1.2.1, fun i hi => ⟨(ho i hi).reads, (h.1.2.2 i hi).2⟩⟩, ho, h.2.2⟩

/-- What stands ahead of what is put. -/
def ahd (ts : List (List Int)) (k : Nat) (g : Bool) : List Int := if g then ts.getD k [] else []
/-- What comes of a Put. -/
def Putd (ts : List (List Int)) (name : Int) (x : List Int) (e : Int) (ts' : List (List Int)) : Prop :=
  (NoName name ∧ e = 9 ∧ ts' = nilT) ∨ ∃ k g, Named name k g ∧ ((200 < (ahd ts k g).length + x.length ∧ e = 2 ∧ ts' = nilT) ∨
    ((ahd ts k g).length + x.length ≤ 200 ∧ e = 0 ∧ ts' = (ts.set k (ahd ts k g ++ x)).set 0 (ahd ts k g ++ x)))
theorem putd_or (ts : List (List Int)) (name : Int) (x : List Int) : ∃ e ts', Putd ts name x e ts' := by
  rcases named_or name with h | ⟨k, g, h⟩
  · exact ⟨9, _, .inl ⟨h, rfl, rfl⟩⟩
  · by_cases h0 : 200 < (ahd ts k g).length + x.length
    · exact ⟨2, _, .inr ⟨k, g, h, .inl ⟨h0, rfl, rfl⟩⟩⟩
    · exact ⟨0, _, .inr ⟨k, g, h, .inr ⟨by omega, rfl, rfl⟩⟩⟩

set_option maxHeartbeats 2000000 in
theorem put_key (vs : List Value) (name : Int) (a : Option Addr) (n c : Nat) (w : World) (hl : AllSl vs) (hn : NoName name) :
    Calls Try.prog 47 #[arr vs, .int .i64 name, .slice a n c] w fun r w' => Below w.heap.size w w' ∧ r = .returned (.tuple #[arr nils, .int .i64 9]) := by
  have HN : Hid (NoName name) := hn
  clear hn
  go_enter Try.func47, Try.ntmps47
  go_wp2_with (refine box24 rfl _ rfl vs rfl hl ?_)
  intro w1 ha hb
  have HB1 : Hid (Below w.heap.size w w1) := hb
  have HA1 : Hid (HoldsA w1 w.heap.size vs) := ha
  clear ha hb
  go_wp2_with (refine alloc24 rfl rfl ?_)
  intro w2 ha hb
  have HB2 : Hid (Below w.heap.size w w2) := below_trans HB1.out hb HB1.out.size
  have HZ2 : Hid (HoldsA w2 w1.heap.size nils) := ha
  have HG : Hid (w.heap.size < w1.heap.size) := HA1.out.lt
  clear ha hb HB1 HA1
  generalize w1.heap.size = G at *
  go_wp2_with fail
  refine (number_none _ _ HN.out).mono ?_
  rintro e w3 ⟨rfl, hw3⟩
  rw [hw3]
  clear hw3 w3
  go_wp2_with (first | (refine build24 rfl rfl ?_) | (refine store24 rfl _ _ rfl G rfl nils nils rfl HZ2.out nils_all ?_))
  intro w4 hz hg
  have HB4 : Hid (Below w.heap.size w w4) := HB2.out.grown hg HB2.out.size (fun j hj => by have := HG.out; cases hj; omega)
  have HZ4 : Hid (HoldsA w4 G nils) := hz
  clear hz hg HB2 HZ2
  go_wp2_with fail
  (try simp only [Exit.inBlock, Exit.then])
  refine bodyPost_ret (ret_arr rfl _ _ G nils _ rfl rfl HZ4.out) rfl ?_
  exact ⟨HB4.out, rfl⟩

set_option maxHeartbeats 4000000 in
theorem put_named (vs : List Value) (ts : List (List Int)) (name : Int) (k : Nat) (g : Bool) (v : Value) (x : List Int) (e : Int) (ts' : List (List Int)) (w : World) (h : ReadsR w vs ts) (hv : Reads w v x) (hm : Mild x) (hN : Named name k g)
    (hp : (200 < (ahd ts k g).length + x.length ∧ e = 2 ∧ ts' = nilT) ∨ ((ahd ts k g).length + x.length ≤ 200 ∧ e = 0 ∧ ts' = (ts.set k (ahd ts k g ++ x)).set 0 (ahd ts k g ++ x))) :
    Calls Try.prog 47 #[arr vs, .int .i64 name, v] w fun r w' => Below w.heap.size w w' ∧ ∃ ls, r = .returned (.tuple #[arr ls, .int .i64 e]) ∧ OwnR w' w.heap.size ls ts' := by
  obtain ⟨a, c, rfl⟩ := hv.shape
  have hl := h.1
  have HV : Hid (∀ wx, Below w.heap.size w wx → Reads wx (.slice a x.length c) x) := fun wx hb => hv.below hb
  have H : Hid (∀ wx, Below w.heap.size w wx → ReadsR wx vs ts) := fun wx hb => h.below hb
  have HN : Hid (Named name k g) := hN
  have hk := hN.lt
  have hkI : (k : Int) < 27 := by omega
  obtain ⟨ah, hah⟩ : ∃ ah, ah = ahd ts k g := ⟨_, rfl⟩
  have HAH : Hid (ah = ahd ts k g) := hah
  rw [← hah] at hp
  obtain ⟨y, hy⟩ : ∃ y, y = ah ++ x := ⟨_, rfl⟩
  have HY : Hid (y = ah ++ x) := hy
  rw [← hy] at hp
  clear h hv hN hah hy
  unfold Mild at hm
  go_enter Try.func47, Try.ntmps47
  go_wp2_with (refine box24 rfl _ rfl vs rfl hl ?_)
  intro w1 ha hb
  have HB1 : Hid (Below w.heap.size w w1) := hb
  have HA1 : Hid (HoldsA w1 w.heap.size vs) := ha
  clear ha hb
  go_wp2_with (refine alloc24 rfl rfl ?_)
  intro w2 ha hb
  have HB2 : Hid (Below w.heap.size w w2) := below_trans HB1.out hb HB1.out.size
  have HA2 : Hid (HoldsA w2 w.heap.size vs) := HA1.out.below hb
  have HZ2 : Hid (HoldsA w2 w1.heap.size nils) := ha
  have HG : Hid (w.heap.size < w1.heap.size) := HA1.out.lt
  clear ha hb HB1 HA1
  generalize w1.heap.size = G at *
  go_wp2_with fail
  refine (number_named _ k g _ HN.out).mono ?_
  rintro e w3 ⟨rfl, hw3⟩
  rw [hw3]
  clear hw3 w3
  go_wp2_with fail
  refine (great_named _ k g _ HN.out).mono ?_
  rintro e w3 ⟨rfl, hw3⟩
  rw [hw3]
  clear hw3 w3
  go_upto_if 21 with fail
  go_cut [10] from 21 to 31 (fun s10 wx => (∃ aa ac, s10 = .slice aa ah.length ac ∧ Reads wx (.slice aa ah.length ac) ah ∧ Mild ah) ∧ wx = w2)
  case first =>
    cases g with
    | false =>
      have HE : Hid (ah = []) := HAH.out
      clear HAH
      go_wp2_with fail
      go_meet
      case rel => exact ⟨⟨none, 0, by rw [HE.out]; rfl, .inl ⟨none, 0, by rw [HE.out]; rfl, HE.out⟩, by rw [HE.out]; show ([] : List Int).length * 8 ≤ _; decide⟩, rfl⟩
    | true =>
      obtain ⟨aa, ac, hv, hr, hm2⟩ := (H.out w2 HB2.out).at_ k hk
      have hc1 := HA2.out.cell k hk
      have HE : ts.getD k [] = ah := HAH.out.symm
      rw [HE] at hv hr hm2
      rw [hv] at hc1
      have HR : Hid (Reads w2 (.slice aa ah.length ac) ah) := hr
      have HM : Hid (Mild ah) := hm2
      clear HAH HE hv hr hm2
      go_wp2_with fail
      go_meet
      case rel => exact ⟨⟨aa, ac, rfl, HR.out, HM.out⟩, rfl⟩
  case rest =>
    obtain ⟨⟨aa, ac, rfl, hr, hm2⟩, hwc⟩ := hcut
    subst hwc
    have HR : Hid (Reads wc (.slice aa ah.length ac) ah) := hr
    unfold Mild at hm2
    clear hr
    rcases hp with ⟨hp, rfl, rfl⟩ | ⟨hp, rfl, rfl⟩
    · have hsum : (200 : Int) < (ah.length : Int) + (x.length : Int) := by omega
      clear hp
      go_wp2_with (first | (refine build24 rfl rfl ?_) | (refine store24 rfl _ _ rfl G rfl nils nils rfl HZ2.out nils_all ?_))
      intro w4 hz hg
      have HB4 : Hid (Below w.heap.size w w4) := HB2.out.grown hg HB2.out.size (fun j hj => by have := HG.out; cases hj; omega)
      have HZ4 : Hid (HoldsA w4 G nils) := hz
      clear hz hg HB2 HZ2
      go_wp2_with fail
      (try simp only [Exit.inBlock, Exit.then])
      refine bodyPost_ret (ret_arr rfl _ _ G nils _ rfl rfl HZ4.out) rfl ?_
      exact ⟨HB4.out, _, rfl, ownR_nil _ _⟩
    · have hsum : ¬ (200 : Int) < (ah.length : Int) + (x.length : Int) := by omega
      have HP : Hid (ah.length + x.length ≤ 200) := hp
      clear hp
      go_wp2_with fail
      refine (concat2 _ _ ah x _ HR.out (HV.out _ HB2.out) (by rw [List.length_append]; have := HP.out; omega)).mono ?_
      rintro e w4 ⟨hb, v4, rfl, ho⟩
      have hb2 := below_trans (box_below _ _) hb (box_below _ _).size
      have HB4 : Hid (Below w.heap.size w w4) := below_trans HB2.out hb2 HB2.out.size
      have HA4 : Hid (HoldsA w4 w.heap.size vs) := HA2.out.below hb2
      have HZ4 : Hid (HoldsA w4 G nils) := HZ2.out.below hb2
      rw [← HY.out] at ho
      obtain ⟨a4, c4, rfl⟩ := ho.reads.shape
      have HR4 : Hid (Reads w4 (.slice a4 y.length c4) y) := ho.reads
      have HM4 : Hid (Mild y) := by show y.length * 8 ≤ _; rw [HY.out, List.length_append]; have := HP.out; omega
      clear hb hb2 ho HB2 HA2 HZ2 HR hm2 hsum HY HAH HP
      have k0 : 0 < 27 := by decide
      go_wp2_with (refine store22 rfl _ _ rfl w.heap.size k rfl a4 y.length c4 rfl vs HA4.out hk ?_)
      intro w5 hz hg
      have HB5 : Hid (Below w.heap.size w w5) := HB4.out.grown hg HB4.out.size (fun j hj => by cases hj; exact Nat.le_refl _)
      have HA5 : Hid (HoldsA w5 w.heap.size (vs.set k (.slice a4 y.length c4))) := hz
      have HZ5 : Hid (HoldsA w5 G nils) := HZ4.out.kept hg (fun e => by have := HG.out; have := Option.some.inj e; omega)
      have HR5 : Hid (Reads w5 (.slice a4 y.length c4) y) := HR4.out.kept hg HA4.out.2 (fun x hx => HA4.out.1.2 x (by simpa using hx))
      clear hz hg HB4 HA4 HZ4 HR4
      go_wp2_with (refine store22 rfl _ _ rfl w.heap.size 0 rfl a4 y.length c4 rfl _ HA5.out k0 ?_)
      intro w6 hz hg
      have HB6 : Hid (Below w.heap.size w w6) := HB5.out.grown hg HB5.out.size (fun j hj => by cases hj; exact Nat.le_refl _)
      have HA6 : Hid (HoldsA w6 w.heap.size ((vs.set k (.slice a4 y.length c4)).set 0 (.slice a4 y.length c4))) := hz
      have HZ6 : Hid (HoldsA w6 G nils) := HZ5.out.kept hg (fun e => by have := HG.out; have := Option.some.inj e; omega)
      have HR6 : Hid (Reads w6 (.slice a4 y.length c4) y) := HR5.out.kept hg HA5.out.2 (fun x hx => HA5.out.1.2 x (by simpa using hx))
      have HT6 : Hid (ReadsR w6 ((vs.set k (.slice a4 y.length c4)).set 0 (.slice a4 y.length c4)) ((ts.set k y).set 0 y)) := (((H.out _ HB6.out).set k hk _ _ _ HR6.out HM4.out).set 0 k0 _ _ _ HR6.out HM4.out)
      clear hz hg HB5 HA5 HZ5 HR5 HR6
      go_wp2_with (refine load24 rfl _ rfl w.heap.size rfl _ HA6.out ?_)
      refine (copied_any _ _ _ HT6.out).mono ?_
      rintro e w7 ⟨hb, ls, rfl, ho⟩
      have HB7 : Hid (Below w.heap.size w w7) := below_trans HB6.out hb HB6.out.size
      have HZ7 : Hid (HoldsA w7 G nils) := HZ6.out.below hb
      have HO7 : Hid (OwnR w7 w6.heap.size ls ((ts.set k y).set 0 y)) := ho
      have HS : Hid (G < w6.heap.size ∧ w.heap.size ≤ w6.heap.size) := ⟨HZ6.out.lt, HB6.out.size⟩
      have HLS : Hid (AllSl ls) := ho.1.1
      clear hb ho HB6 HZ6 HA6 HT6
      go_wp2_with (refine store24 rfl _ _ rfl G rfl ls nils rfl HZ7.out HLS.out ?_)
      intro w8 hz hg
      have HB8 : Hid (Below w.heap.size w w8) := HB7.out.grown hg HB7.out.size (fun j hj => by have := HG.out; cases hj; omega)
      have HZ8 : Hid (HoldsA w8 G ls) := hz
      have HO8 : Hid (OwnR w8 w.heap.size ls ((ts.set k y).set 0 y)) := (HO7.out.grown hg HS.out.1).less HS.out.2
      clear hz hg HB7 HZ7 HO7
      go_wp2_with fail
      (try simp only [Exit.inBlock, Exit.then])
      refine bodyPost_ret (ret_arr rfl _ _ G ls _ rfl rfl HZ8.out) rfl ?_
      exact ⟨HB8.out, _, rfl, HO8.out⟩
end Go.Proofs.Ytpgjaoemkadenaa.Seek

/- reg.Put whole. -/
set_option linter.unusedVariables false
set_option linter.unusedSimpArgs false
set_option maxRecDepth 100000
namespace Go.Proofs.Ytpgjaoemkadenaa.Seek
open Go.RowKit

theorem Putd.all {ts : List (List Int)} (h : ts.length = 27) {name : Int} {x : List Int} {e : Int} {ts' : List (List Int)} (hp : Putd ts name x e ts') : ts'.length = 27 := by
  rcases hp with ⟨_, _, rfl⟩ | ⟨k, g, _, ⟨_, _, rfl⟩ | ⟨_, _, rfl⟩⟩
  · rfl
  · rfl
  · rw [List.length_set, List.length_set]; exact h
/-- reg.Put. -/
theorem put_any (vs : List Value) (ts : List (List Int)) (name : Int) (v : Value) (x : List Int) (e : Int) (ts' : List (List Int)) (w : World) (h : ReadsR w vs ts) (hv : Reads w v x) (hm : Mild x) (hp : Putd ts name x e ts') :
    Calls Try.prog 47 #[arr vs, .int .i64 name, v] w fun r w' => Below w.heap.size w w' ∧ ∃ ls, r = .returned (.tuple #[arr ls, .int .i64 e]) ∧ OwnR w' w.heap.size ls ts' := by
  rcases hp with ⟨hn, rfl, rfl⟩ | ⟨k, g, hN, hp⟩
  · obtain ⟨a, c, rfl⟩ := hv.shape
    refine (put_key vs name a _ c w h.1 hn).mono ?_
    rintro r w' ⟨hb, rfl⟩
    exact ⟨hb, _, rfl, ownR_nil _ _⟩
  · exact put_named vs ts name k g v x e ts' w h hv hm hN hp

end Go.Proofs.Ytpgjaoemkadenaa.Seek

/- The contracts of reg.Get and of the document's RegGet. -/
set_option linter.unusedVariables false
set_option linter.unusedSimpArgs false
set_option maxRecDepth 100000
namespace Go.Proofs.Ytpgjaoemkadenaa.Seek
open Go.RowKit

/-- What is got of the register of that name. -/
def Got (ts : List (List Int)) (name : Int) (e : Int) (t : List Int) : Prop :=
  (NoName name ∧ e = 9 ∧ t = []) ∨ ∃ k g, Named name k g ∧ ((ts.getD k [] = [] ∧ e = 6 ∧ t = []) ∨ (ts.getD k [] ≠ [] ∧ e = 0 ∧ t = ts.getD k []))
theorem got_or (ts : List (List Int)) (name : Int) : ∃ e t, Got ts name e t := by
  rcases named_or name with h | ⟨k, g, h⟩
  · exact ⟨9, [], .inl ⟨h, rfl, rfl⟩⟩
  · by_cases h0 : ts.getD k [] = []
    · exact ⟨6, [], .inr ⟨k, g, h, .inl ⟨h0, rfl, rfl⟩⟩⟩
    · exact ⟨0, _, .inr ⟨k, g, h, .inr ⟨h0, rfl, rfl⟩⟩⟩
theorem mild_nil : Mild [] := by show ([] : List Int).length * 8 ≤ _; decide
theorem Got.mild {w : World} {vs : List Value} {ts : List (List Int)} {name e : Int} {t : List Int} (h : Got ts name e t) (hr : ReadsR w vs ts) : Mild t := by
  rcases h with ⟨_, _, rfl⟩ | ⟨k, g, hN, ⟨_, _, rfl⟩ | ⟨_, _, rfl⟩⟩
  · exact mild_nil
  · exact mild_nil
  · exact (hr.2.2 k hN.lt).2

set_option maxHeartbeats 1000000 in
theorem get_any (vs : List Value) (ts : List (List Int)) (name e : Int) (t : List Int) (w : World) (h : ReadsR w vs ts) (hg : Got ts name e t) :
    Calls Try.prog 49 #[arr vs, .int .i64 name] w fun r w' => Below w.heap.size w w' ∧ ∃ a c, r = .returned (.tuple #[.slice a t.length c, .int .i64 e]) ∧ OwnI w' w.heap.size (.slice a t.length c) t := by
  have hl := h.1
  have H : Hid (∀ wx, Below w.heap.size w wx → ReadsR wx vs ts) := fun wx hb => h.below hb
  clear h
  rcases hg with ⟨hn, rfl, rfl⟩ | ⟨k, g, hN, hx⟩
  · have HN : Hid (NoName name) := hn
    clear hn
    go_enter Try.func49, Try.ntmps49
    go_wp2_with (refine box24 rfl _ rfl vs rfl hl ?_)
    intro w1 ha hb
    have HB1 : Hid (Below w.heap.size w w1) := hb
    clear ha hb
    go_wp2_with fail
    refine (number_none _ _ HN.out).mono ?_
    rintro r w2 ⟨rfl, hw2⟩
    rw [hw2]
    clear hw2 w2
    go_wp2_with fail
    go_ret2
    exact ⟨HB1.out, _, _, rfl, ownI_nil _ _⟩
  · have HN : Hid (Named name k g) := hN
    have hk := hN.lt
    have hkI : (k : Int) < 27 := by omega
    clear hN
    obtain ⟨x, hxx⟩ : ∃ x, x = ts.getD k [] := ⟨_, rfl⟩
    have HX : Hid (ts.getD k [] = x) := hxx.symm
    rw [← hxx] at hx
    clear hxx
    go_enter Try.func49, Try.ntmps49
    go_wp2_with (refine box24 rfl _ rfl vs rfl hl ?_)
    intro w1 ha hb
    have HB1 : Hid (Below w.heap.size w w1) := hb
    obtain ⟨a, c, hv, hr, hm⟩ := (H.out w1 hb).at_ k hk
    rw [HX.out] at hv hr hm
    have hc1 := ha.cell k hk
    rw [hv] at hc1
    have HR : Hid (Reads w1 (.slice a x.length c) x) := hr
    have HM : Hid (Mild x) := hm
    clear ha hb hr hm hv
    go_wp2_with fail
    refine (number_named _ k g _ HN.out).mono ?_
    rintro r w2 ⟨rfl, hw2⟩
    rw [hw2]
    clear hw2 w2
    rcases hx with ⟨h0, rfl, rfl⟩ | ⟨h0, rfl, rfl⟩
    · have hx0 : (x.length : Int) = 0 := by rw [h0]; rfl
      go_wp2_with fail
      go_ret2
      exact ⟨HB1.out, _, _, rfl, ownI_nil _ _⟩
    · have hx0 : ((t.length : Int) == 0) = false := by
        rw [beq_eq_false_iff_ne]
        intro h
        exact h0 (List.length_eq_zero_iff.1 (by omega))
      clear h0
      go_wp2_with fail
      refine (cloneI_any _ t _ HR.out HM.out).mono ?_
      rintro r w2 ⟨hb, a2, c2, rfl, ho⟩
      have HB2 : Hid (Below w.heap.size w w2) := below_trans HB1.out hb HB1.out.size
      have HO2 : Hid (OwnI w2 w.heap.size (.slice a2 t.length c2) t) := ho.less HB1.out.size
      clear hb ho
      go_wp2_with fail
      go_ret2
      exact ⟨HB2.out, _, _, rfl, HO2.out⟩

end Go.Proofs.Ytpgjaoemkadenaa.Seek

/- Variables of several cells (structs), whole and in part. -/
set_option linter.unusedVariables false
set_option linter.unusedSimpArgs false
set_option maxRecDepth 100000
namespace Go.Proofs.Ytpgjaoemkadenaa.Seek
open Go.RowKit

/-- The variable at block g holds the cells cs. -/
def BoxC (w : World) (t : TypeId) (g : Nat) (cs : List Value) : Prop := w.heap[g]? = some (.cells cs.toArray t (0, 0))
section
variable {w w' : World} {t : TypeId} {g : Nat} {cs : List Value}
theorem BoxC.lt (h : BoxC w t g cs) : g < w.heap.size := (Array.getElem?_eq_some_iff.1 h).1
theorem BoxC.below (h : BoxC w t g cs) (hb : Below w.heap.size w w') : BoxC w' t g cs := (hb.block g h.lt).trans h
theorem BoxC.kept {row : Option Nat} (h : BoxC w t g cs) (hg : w.grownBy w' row) (hne : some g ≠ row) : BoxC w' t g cs := (hg.block g h.lt hne).trans h
theorem BoxC.new (w : World) (t : TypeId) (cs : List Value) : BoxC (w.alloc (.cells cs.toArray t)) t w.heap.size cs := heap_new _ _
theorem BoxC.alloc (h : BoxC w t g cs) (o : Obj) : BoxC (w.alloc o) t g cs := h.below (box_below _ _)
theorem BoxC.drew (h : BoxC w t g cs) : BoxC w.drew t g cs := h
theorem BoxC.row (h : BoxC w t g cs) (ds : List Value) : BoxC (w.setRow g ds.toArray) t g ds := setRow_heap w g _ _ t (0, 0) h
theorem BoxC.other {k : Nat} (h : BoxC w t g cs) (q : Array Value) (hne : g ≠ k) : BoxC (w.setRow k q) t g cs := (setRow_other w k g q hne).trans h
theorem BoxC.cell (h : BoxC w t g cs) (i : Nat) : w.cell? ⟨g, i, none⟩ = cs[i]? := by
  rw [cell_of_row w g i _ t (0, 0) h]
  simp
theorem BoxC.fr (h : BoxC w t g cs) (i : Nat) : w.frozen? ⟨g, i, none⟩ = false := by simp [World.frozen?, show w.heap[g]? = _ from h]
theorem BoxC.range (h : BoxC w t g cs) (o : Nat) (ds : List Value) (hd : ∀ j v, ds[j]? = some v → cs[o + j]? = some v) : w.rangeAt g o ds := fun j v hv => (h.cell (o + j)).trans (hd j v hv)
theorem BoxC.there (h : BoxC w t g cs) (o n : Nat) (hn : o + n ≤ cs.length) : w.there g o n := fun j hj => ⟨by rw [h.cell, List.getElem?_eq_getElem (by omega)]; rfl, h.fr _⟩
theorem BoxC.set (h : BoxC w t g cs) (i : Nat) (v : Value) : BoxC (w.setCell ⟨g, i, none⟩ v) t g (cs.set i v) := by
  have e : w.setCell ⟨g, i, none⟩ v = w.setRow g (cs.set i v).toArray := by
    rw [setCell_eq_setRow w g i _ t (0, 0) _ h]
    simp
  rw [e]
  exact h.row _
theorem grown_cell (w : World) (g i : Nat) (v : Value) : w.grownBy (w.setCell ⟨g, i, none⟩ v) (some g) := ⟨rfl, rfl, rfl, by simp [World.setCell], fun k _ hk => by rw [Below.heap_setCell]; exact fun e => hk (congrArg some e)⟩
theorem below_row {B k : Nat} {w0 : World} (h : Below B w0 w) (hk : B ≤ k) (q : Array Value) : Below B w0 (w.setRow k q) :=
  ⟨h.os, h.tape, h.output, by rw [setRow_size]; exact h.size, fun j hj => (setRow_other w k j q (by omega)).trans (h.block j hj)⟩
theorem grown_row (w : World) (g : Nat) (q : Array Value) : w.grownBy (w.setRow g q) (some g) := ⟨rfl, rfl, rfl, by rw [setRow_size]; exact Nat.le_refl _, fun k _ hk => setRow_other w g k _ (fun e => hk (by rw [e]))⟩
/-- Many cells written, one behind the other. -/
theorem cells_row : ∀ (vs : List Value) (o : Nat) (w : World) (cs : List Value), BoxC w t g cs → o + vs.length ≤ cs.length → w.setCells g o vs = w.setRow g (cs.take o ++ vs ++ cs.drop (o + vs.length)).toArray
  | [], o, w, cs, h, _ => by
    have e : (cs.take o ++ [] ++ cs.drop (o + ([] : List Value).length)) = cs := by simp
    rw [e]
    have hlt := h.lt
    have hv : w.heap[g] = .cells cs.toArray t (0, 0) := (Array.getElem?_eq_some_iff.1 h).2
    show w = _
    unfold World.setRow
    cases w with
    | mk heap tape drawn os output =>
      congr 1
      apply Array.ext
      · simp
      · intro k h1 h2
        simp only [Array.getElem_modify]
        split
        · rename_i hk; subst hk; simp at hv; simp [hv]
        · rfl
  | v :: r, o, w, cs, h, hl => by
    simp only [List.length_cons] at hl
    have e1 : w.setCell ⟨g, o, none⟩ v = w.setRow g (cs.set o v).toArray := by
      rw [setCell_eq_setRow w g o _ t (0, 0) v h]
      simp
    show (w.setCell ⟨g, o, none⟩ v).setCells g (o + 1) r = _
    rw [e1, cells_row r (o + 1) _ (cs.set o v) (h.row _) (by rw [List.length_set]; omega), setRow_setRow]
    congr 2
    simp only [List.length_cons]
    rw [List.drop_set_of_lt (by omega), show o + (r.length + 1) = o + 1 + r.length by omega]
    rw [List.take_add_one, List.take_set_of_le (by omega), List.getElem?_set_self (by omega)]
    simp
end
/-- A type of n cells. -/
def Wide (t : TypeId) (n : Nat) : Prop := (∃ d, Try.prog.underlying t = some d ∧ d.isRow = true) ∧ (Try.prog.info? t).map (·.size) = some n
section
variable {w : World} {ops : Array Oper} {rest : List Oper} {o : Oper} {a : Act} {Q : Exit → Act → World → Prop}
/-- An operation whose run is known. -/
theorem wpList_is (hw : Region.wanted o (yielded ops a.tmps) = true) (v : Value) (w' : World) (hr : (execOp a.eval o).run Try.prog w = .ok (.value v) w') (h : wpList Try.prog ops Q rest (a.put o.dst v) w') : wpList Try.prog ops Q (o :: rest) a w :=
  wpList_step fun K hK => by
    rw [if_pos hw]
    unfold Oper.wp
    simp only [hr]
    exact hK _ _ h
/-- Some cells of a variable. -/
theorem loadP (hw : Region.wanted o (yielded ops a.tmps) = true) (t t' : TypeId) (x : Operand) (ho : o.op = .load t' x) (g k : Nat) (hx : a.eval x = .pointer (some ⟨g, k, none⟩)) (cs ds : List Value) (hg : BoxC w t g cs) (hW : Wide t' ds.length) (hd : ∀ j v, ds[j]? = some v → cs[k + j]? = some v)
    (h : wpList Try.prog ops Q rest (a.put o.dst (.agg ds.toArray)) w) : wpList Try.prog ops Q (o :: rest) a w :=
  wpList_step fun K hK => by
    obtain ⟨⟨d, hu, hr⟩, hi⟩ := hW
    rw [if_pos hw]
    exact wp_load_mid t' x ho g k hx ds d (hg.range k ds hd) hu hr hi (hK _ _ h)
/-- A whole variable. -/
theorem loadC (hw : Region.wanted o (yielded ops a.tmps) = true) (t : TypeId) (x : Operand) (ho : o.op = .load t x) (g : Nat) (hx : a.eval x = .pointer (some ⟨g, 0, none⟩)) (cs : List Value) (hg : BoxC w t g cs) (hW : Wide t cs.length)
    (h : wpList Try.prog ops Q rest (a.put o.dst (.agg cs.toArray)) w) : wpList Try.prog ops Q (o :: rest) a w :=
  loadP hw t t x ho g 0 hx cs cs hg hW (fun j v hv => by rw [Nat.zero_add]; exact hv) h
/-- Some cells into a variable. -/
theorem storeP (hw : Region.wanted o (yielded ops a.tmps) = true) (t t' : TypeId) (x y : Operand) (ho : o.op = .store t' x y) (g k : Nat) (hx : a.eval x = .pointer (some ⟨g, k, none⟩)) (cs ds new : List Value) (hy : a.eval y = .agg ds.toArray) (hg : BoxC w t g cs) (hW : Wide t' ds.length)
    (h1 : ∀ v ∈ ds, v.oneCell' = true) (hk : k + ds.length ≤ cs.length) (hn : cs.take k ++ ds ++ cs.drop (k + ds.length) = new)
    (h : ∀ w', BoxC w' t g new → w.grownBy w' (some g) → wpList Try.prog ops Q rest (a.put o.dst undef) w') : wpList Try.prog ops Q (o :: rest) a w :=
  wpList_step fun K hK => by
    subst hn
    rw [if_pos hw]
    refine wp_store_mid t' x y ho g k ds.toArray hx hy (hg.there k _ (by simpa using hk)) (by rw [hW.2]; simp) (all_oneCell_toArray h1) (hK _ _ ?_)
    rw [cells_row ds k w cs hg hk]
    exact h _ (hg.row _) (grown_row _ _ _)
/-- A whole variable is written. -/
theorem storeC (hw : Region.wanted o (yielded ops a.tmps) = true) (t : TypeId) (x y : Operand) (ho : o.op = .store t x y) (g : Nat) (hx : a.eval x = .pointer (some ⟨g, 0, none⟩)) (cs ds : List Value) (hy : a.eval y = .agg ds.toArray) (hg : BoxC w t g cs) (hW : Wide t ds.length)
    (h1 : ∀ v ∈ ds, v.oneCell' = true) (hl : cs.length = ds.length)
    (h : ∀ w', BoxC w' t g ds → w.grownBy w' (some g) → wpList Try.prog ops Q rest (a.put o.dst undef) w') : wpList Try.prog ops Q (o :: rest) a w :=
  storeP hw t t x y ho g 0 hx cs ds ds hy hg hW h1 (by omega) (by simp [hl]) h
/-- One cell of a variable is written. -/
theorem storeO (hw : Region.wanted o (yielded ops a.tmps) = true) (t t' : TypeId) (x y : Operand) (ho : o.op = .store t' x y) (g k : Nat) (hx : a.eval x = .pointer (some ⟨g, k, none⟩)) (cs new : List Value) (v old : Value) (hy : a.eval y = v) (hg : BoxC w t g cs) (h1 : v.oneCell' = true) (hna : ∀ xs, v ≠ .agg xs) (hc : cs[k]? = some old) (hz : Try.prog.info? t' ≠ none ∧ (Try.prog.info? t').map (·.size) = some 1)
    (hn : cs.set k v = new)
    (h : ∀ w', BoxC w' t g new → w.grownBy w' (some g) → wpList Try.prog ops Q rest (a.put o.dst undef) w') : wpList Try.prog ops Q (o :: rest) a w := by
  subst hn
  have e : w.setCell ⟨g, k, none⟩ v = w.setRow g (cs.set k v).toArray := by
    rw [setCell_eq_setRow w g k _ t (0, 0) _ hg]
    simp
  have hcell : w.cell? ⟨g, k, none⟩ = some old := (hg.cell k).trans hc
  have hf := hg.fr k
  have hs : (storeVar t' ⟨g, k, none⟩ v).run Try.prog w = .ok () (w.setCell ⟨g, k, none⟩ v) := by
    cases hq : Try.prog.info? t' with
    | none => exact absurd hq hz.1
    | some i =>
      have hi : i.size = 1 := by have := hz.2; rw [hq] at this; simpa using this
      have hvc : v.cells = #[v] := by cases v <;> first | rfl | exact absurd rfl (hna _)
      have hst := fun m => run_store Try.prog w ⟨g, k, none⟩ v m h1
      simp [storeVar, sizeOf, typeInfo, hq, hi, hvc, storeCells, hst, hcell, hf, Addr.add_mid]
  refine wpList_step fun K hK => ?_
  rw [if_pos hw]
  have hr : (execOp a.eval o).run Try.prog w = .ok .skip (w.setRow g (cs.set k v).toArray) := by
    rw [← e]
    unfold execOp
    simp only [ho, hx, hy, Instr.storeAt, Instr.sureAddr, Sem.run_bind, Sem.run_pure, Result.andThen_ok, hs]
  unfold Oper.wp
  simp only [hr]
  exact hK _ _ (h _ (hg.row _) (grown_row _ _ _))
/-- A new variable with nothing in it. -/
theorem allocC (hw : Region.wanted o (yielded ops a.tmps) = true) (t : TypeId) (ho : o.op = .alloc t) (cs : List Value) (hz : (Try.prog.info? t).map (fun i => i.zero) = some (some (.agg cs.toArray)))
    (h : ∀ w', BoxC w' t w.heap.size cs → Below w.heap.size w w' → wpList Try.prog ops Q rest (a.put o.dst (.pointer (some ⟨w.heap.size, 0, none⟩))) w') : wpList Try.prog ops Q (o :: rest) a w := by
  have hz : ∀ w, (zeroValue t).run Try.prog w = .ok (.agg cs.toArray) w := by
    intro w
    cases hq : Try.prog.info? t with
    | none => rw [hq] at hz; cases hz
    | some i =>
      rw [hq] at hz
      simp at hz
      simp [zeroValue, typeInfo, hq, hz]
  refine wpList_is hw (.pointer (some ⟨w.heap.size, 0, none⟩)) (w.alloc (.cells cs.toArray t)) ?_ (h _ (BoxC.new w t cs) (box_below _ _))
  unfold execOp
  simp only [ho, Instr.alloc, Sem.run_bind, Sem.run_pure, hz, Result.andThen_ok, newVar, newRow, newObj, Value.cells]
  rfl
/-- A parameter's variable. -/
theorem boxC (hw : Region.wanted o (yielded ops a.tmps) = true) (t : TypeId) (x : Operand) (ho : o.op = .box t x) (cs : List Value) (hx : a.eval x = .agg cs.toArray)
    (h : ∀ w', BoxC w' t w.heap.size cs → Below w.heap.size w w' → wpList Try.prog ops Q rest (a.put o.dst (.pointer (some ⟨w.heap.size, 0, none⟩))) w') : wpList Try.prog ops Q (o :: rest) a w := by
  refine wpList_is hw (.pointer (some ⟨w.heap.size, 0, none⟩)) (w.alloc (.cells cs.toArray t)) ?_ (h _ (BoxC.new w t cs) (box_below _ _))
  unfold execOp
  simp only [ho, hx, Instr.box, Sem.run_bind, Sem.run_pure, Result.andThen_ok, newVar, newRow, newObj, Value.cells]
  rfl
/-- A value put together. -/
theorem buildC (hw : Region.wanted o (yielded ops a.tmps) = true) (t : TypeId) (parts : Array (Nat × Operand)) (ho : o.op = .build t parts) (cs : List Value) (hb : Try.prog.built t (parts.map fun (i, x) => (i, a.eval x)).toList = some cs.toArray)
    (h : wpList Try.prog ops Q rest (a.put o.dst (.agg cs.toArray)) w) : wpList Try.prog ops Q (o :: rest) a w := by
  refine wpList_is hw (.agg cs.toArray) w ?_ h
  unfold execOp
  have := run_build (P := Try.prog) w t (parts.map fun (i, x) => (i, a.eval x)) cs.toArray hb
  simp only [ho, Sem.run_bind, this, Result.andThen_ok, Sem.run_pure]
end
/-- How a call ends whose results are a variable and a value. -/
theorem ret_box {fn : Func} {p u : Tmp} {t : TypeId} (h : fn.results = #[.cell p t, .tmp u]) (tmps : Array Value) (w : World) (g : Nat) (cs : List Value) (v : Value) (hp : tmps.getD p undef = .pointer (some ⟨g, 0, none⟩)) (hv : tmps.getD u undef = v) (hg : BoxC w t g cs) (hW : Wide t cs.length) :
    (results fn tmps).run Try.prog w = .ok (.tuple #[.agg cs.toArray, v]) w := by
  obtain ⟨⟨d, hu, hr⟩, hi⟩ := hW
  rw [results_cell_tmp h, hp, hv]
  have := run_loadVar_mid (P := Try.prog) w g 0 t cs d (hg.range 0 cs (fun j v hv => by rw [Nat.zero_add]; exact hv)) hu hr hi
  simp only [asAddr, Sem.run_bind, Sem.run_pure, Result.andThen_ok, this]
/-- How a call ends whose result is a variable. -/
theorem ret_box1 {fn : Func} {p : Tmp} {t : TypeId} (h : fn.results = #[.cell p t]) (tmps : Array Value) (w : World) (g : Nat) (cs : List Value) (hp : tmps.getD p undef = .pointer (some ⟨g, 0, none⟩)) (hg : BoxC w t g cs) (hW : Wide t cs.length) :
    (results fn tmps).run Try.prog w = .ok (.agg cs.toArray) w := by
  obtain ⟨⟨d, hu, hr⟩, hi⟩ := hW
  have h2 : tmps[p]?.getD undef = .pointer (some ⟨g, 0, none⟩) := by rw [← Array.getD_eq_getD_getElem?]; exact hp
  have := run_loadVar_mid (P := Try.prog) w g 0 t cs d (hg.range 0 cs (fun j v hv => by rw [Nat.zero_add]; exact hv)) hu hr hi
  simp [results, h, h2, asAddr, this]
/-- The variables of a call at its beginning. -/
theorem start2 (w : World) (t1 t2 : TypeId) (c1 c2 : List Value) : BoxC ((w.alloc (.cells c1.toArray t1)).alloc (.cells c2.toArray t2)) t1 w.heap.size c1 ∧ BoxC ((w.alloc (.cells c1.toArray t1)).alloc (.cells c2.toArray t2)) t2 (w.heap.size + 1) c2 ∧ Below w.heap.size w ((w.alloc (.cells c1.toArray t1)).alloc (.cells c2.toArray t2)) := by
  have h2 := BoxC.new (w.alloc (.cells c1.toArray t1)) t2 c2
  rw [size_alloc] at h2
  exact ⟨(BoxC.new w t1 c1).alloc _, h2, (box_below _ _).alloc (by rw [size_alloc]; omega) _⟩
theorem start3 (w : World) (t1 t2 t3 : TypeId) (c1 c2 c3 : List Value) : BoxC (((w.alloc (.cells c1.toArray t1)).alloc (.cells c2.toArray t2)).alloc (.cells c3.toArray t3)) t1 w.heap.size c1 ∧ BoxC (((w.alloc (.cells c1.toArray t1)).alloc (.cells c2.toArray t2)).alloc (.cells c3.toArray t3)) t2 (w.heap.size + 1) c2 ∧
    BoxC (((w.alloc (.cells c1.toArray t1)).alloc (.cells c2.toArray t2)).alloc (.cells c3.toArray t3)) t3 (w.heap.size + 1 + 1) c3 ∧ Below w.heap.size w (((w.alloc (.cells c1.toArray t1)).alloc (.cells c2.toArray t2)).alloc (.cells c3.toArray t3)) := by
  obtain ⟨h1, h2, hb⟩ := start2 w t1 t2 c1 c2
  have h3 := BoxC.new ((w.alloc (.cells c1.toArray t1)).alloc (.cells c2.toArray t2)) t3 c3
  rw [size_alloc, size_alloc] at h3
  exact ⟨h1.alloc _, h2.alloc _, h3, hb.alloc (by rw [size_alloc, size_alloc]; omega) _⟩
theorem wide_line : Wide 24 2 := ⟨⟨_, Try.underlying24, rfl⟩, by kernel_rfl⟩
end Go.Proofs.Ytpgjaoemkadenaa.Seek

/- slices.Repeat of numbers; slices.Concat of one and of three. -/
set_option linter.unusedVariables false
set_option linter.unusedSimpArgs false
set_option maxRecDepth 100000
namespace Go.Proofs.Ytpgjaoemkadenaa.Plain
/-- A list n times. -/
def rep (n : Nat) (zs : List Int) : List Int := (List.range (n * zs.length)).map fun i => zs.getD (i % zs.length) 0
theorem rep_len (n : Nat) (zs : List Int) : (rep n zs).length = n * zs.length := by simp [rep]
theorem rep_at (n : Nat) (zs : List Int) (i : Nat) (h : i < n * zs.length) : (rep n zs).getD i 0 = zs.getD (i % zs.length) 0 := by
  simp [rep, List.getD_eq_getElem?_getD, h]
theorem rep_zero (zs : List Int) : rep 0 zs = [] := by simp [rep]
theorem rep_succ (n : Nat) (zs : List Int) : rep (n + 1) zs = rep n zs ++ zs := by
  unfold rep
  rw [Nat.succ_mul, List.range_add, List.map_append]
  congr 1
  rw [List.map_map]
  apply List.ext_getElem?
  intro i
  by_cases hi : i < zs.length
  · have e : (n * zs.length + i) % zs.length = i := by rw [Nat.mul_comm, Nat.mul_add_mod, Nat.mod_eq_of_lt hi]
    simp [hi, e]
  · rw [List.getElem?_eq_none (by simpa using hi), List.getElem?_eq_none (by omega)]
theorem rep_one (zs : List Int) : rep 1 zs = zs := by rw [rep_succ, rep_zero]; rfl
theorem rep_single (n : Nat) (c : Int) : rep n [c] = List.replicate n c := by
  induction n with
  | zero => exact rep_zero _
  | succ n ih => rw [rep_succ, ih, List.replicate_succ']
end Go.Proofs.Ytpgjaoemkadenaa.Plain
namespace Go.Proofs.Ytpgjaoemkadenaa.Seek
open Go.RowKit Plain

theorem rep_get (n : Nat) (zs : List Int) (i : Nat) (h : i < n * zs.length) : (rep n zs)[i]? = some (zs.getD (i % zs.length) 0) := by
  simp [rep, h]
theorem rep_copy (zs : List Int) (n q k : Nat) (h : q * zs.length + k * zs.length ≤ n * zs.length) (hk : k ≤ q) (i : Nat) (hi : i < k * zs.length) : (rep n zs)[q * zs.length + i]? = (rep n zs)[i]? := by
  rw [rep_get n zs _ (by omega), rep_get n zs i (by omega)]
  rw [show q * zs.length + i = zs.length * q + i by rw [Nat.mul_comm], Nat.mul_add_mod]
/-- A row that is filled up to place m. -/
def filled (R : List Int) (m : Nat) : List Value := ints (R.take m) ++ List.replicate (R.length - m) (.int .i64 0)
theorem filled_len (R : List Int) (m : Nat) (h : m ≤ R.length) : (filled R m).length = R.length := by
  unfold filled
  rw [List.length_append, ints_len, List.length_take, List.length_replicate]
  omega
theorem filled_all (R : List Int) : filled R R.length = ints R := by
  unfold filled
  rw [List.take_length, Nat.sub_self, List.replicate_zero, List.append_nil]
theorem filled_step (R : List Int) (m k : Nat) (h : m + k ≤ R.length) : splice (filled R m) m (ints ((R.drop m).take k)) = filled R (m + k) := by
  have h1 : (ints (R.take m)).length = m := by rw [ints_len, List.length_take]; omega
  have h2 : (ints ((R.drop m).take k)).length = k := by rw [ints_len, List.length_take, List.length_drop]; omega
  unfold splice filled
  rw [h2, List.take_append_of_le_length (by omega), List.take_of_length_le (by omega)]
  have h3 : (ints (R.take m) ++ List.replicate (R.length - m) (Value.int .i64 0)).drop (m + k) = List.replicate (R.length - (m + k)) (Value.int .i64 0) := by
    rw [List.drop_append, List.drop_of_length_le (by omega : (ints (R.take m)).length ≤ m + k), List.nil_append, h1, List.drop_replicate]
    congr 1
    omega
  rw [h3, ← List.append_assoc]
  congr 1
  rw [List.take_add, ints, ints, ints, List.map_append]
theorem filled_cell (R : List Int) (m i : Nat) (hi : i < m) (h : m ≤ R.length) : (filled R m)[i]? = some (.int .i64 (R.getD i 0)) := by
  unfold filled
  rw [List.getElem?_append_left (by rw [ints_len, List.length_take]; omega)]
  unfold ints
  rw [List.getElem?_map, List.getElem?_take, if_pos hi, List.getElem?_eq_getElem (by omega), List.getD_eq_getElem?_getD, List.getElem?_eq_getElem (by omega)]
  rfl
theorem one_ints (zs : List Int) : ∀ u ∈ ints zs, u.oneCell' = true := by
  intro u hu
  unfold ints at hu
  obtain ⟨z, _, rfl⟩ := List.mem_map.1 hu
  rfl
/-- What a row of the call's own holds. -/
theorem own_row (w : World) (g B : Nat) (R : List Int) (hB : B ≤ g) (hg : w.heap[g]? = some (.cells (ints R).toArray 3 (0, 0))) (hm : R.length ≤ maxLen) : Own w B (.slice (some ⟨g, 0, none⟩) R.length R.length) R :=
  own_of ⟨by rw [ints_len, Nat.mul_one], .inr ⟨g, R.length, (ints R).toArray, rfl, hB, hg, Nat.le_refl _, hm, by rw [List.size_toArray, ints_len, Nat.mul_one], by rw [Nat.mul_one]; simp [← ints_len]⟩⟩
theorem info3s : (Try.prog.info? 3).map (·.size) = some 1 := by kernel_rfl
theorem made_fill (n : Nat) : (madeCells #[.int .i64 0] n).toList = List.replicate n (.int .i64 0) := by
  apply List.ext_getElem?
  intro i
  by_cases hi : i < n
  · rw [List.getElem?_replicate, if_pos hi]
    simp [madeCells, hi, Nat.mod_one]
  · rw [List.getElem?_eq_none (by rw [Array.length_toList, size_madeCells]; omega), List.getElem?_eq_none (by rw [List.length_replicate]; omega)]
end Go.Proofs.Ytpgjaoemkadenaa.Seek
