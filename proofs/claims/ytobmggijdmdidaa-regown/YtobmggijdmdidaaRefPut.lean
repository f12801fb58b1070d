/- The contracts of the document's RegPut; reg.Put whole. -/
import Derived.Test.YtobmggijdmdidaaPutGo
set_option linter.unusedVariables false
set_option linter.unusedSimpArgs false
namespace Go.Proofs.Ytobmggijdmdidaa.Seek
open Go.RowKit

theorem Putd.all {ts : List (List Int)} (h : ts.length = 27) {name : Int} {x : List Int} {e : Int} {ts' : List (List Int)} (hp : Putd ts name x e ts') : ts'.length = 27 := by
  rcases hp with ⟨_, _, rfl⟩ | ⟨k, g, _, ⟨_, _, rfl⟩ | ⟨_, _, rfl⟩⟩
  · rfl
  · rfl
  · rw [List.length_set, List.length_set]; exact h
/-- reg.Put. -/
theorem put_any (vs : List Value) (ts : List (List Int)) (name : Int) (v : Value) (x : List Int) (e : Int) (ts' : List (List Int)) (w : World) (h : ReadsR w vs ts) (hv : Reads w v x) (hm : Mild x) (hp : Putd ts name x e ts') :
    Calls Try.prog 6 #[arr vs, .int .i64 name, v] w fun r w' => Below w.heap.size w w' ∧ ∃ ls, r = .returned (.tuple #[arr ls, .int .i64 e]) ∧ OwnR w' w.heap.size ls ts' := by
  rcases hp with ⟨hn, rfl, rfl⟩ | ⟨k, g, hN, hp⟩
  · obtain ⟨a, c, rfl⟩ := hv.shape
    refine (put_key vs name a _ c w h.1 hn).mono ?_
    rintro r w' ⟨hb, rfl⟩
    exact ⟨hb, _, rfl, ownR_nil _ _⟩
  · exact put_named vs ts name k g v x e ts' w h hv hm hN hp

set_option maxHeartbeats 4000000 in
theorem refPut_any (vs : List Value) (ts : List (List Int)) (name : Int) (v : Value) (x : List Int) (e : Int) (ts' : List (List Int)) (w : World) (h : ReadsR w vs ts) (hv : Reads w v x) (hm : Mild x) (hp : Putd ts name x e ts') :
    Calls Try.prog 7 #[arr vs, .int .i64 name, v] w fun r w' => Below w.heap.size w w' ∧ ∃ ls, r = .returned (.tuple #[arr ls, .int .i64 e]) ∧ ReadsR w' ls ts' := by
  obtain ⟨a, c, rfl⟩ := hv.shape
  have hl := h.1
  have HV : Hid (∀ wx, Below w.heap.size w wx → Reads wx (.slice a x.length c) x) := fun wx hb => hv.below hb
  have H : Hid (∀ wx, Below w.heap.size w wx → ReadsR wx vs ts) := fun wx hb => h.below hb
  clear h hv
  unfold Mild at hm
  rcases hp with ⟨hn, rfl, rfl⟩ | ⟨k, g, hN, hp⟩
  · have HN : Hid (NoName name) := hn
    clear hn
    go_enter Try.func7, Try.ntmps7
    go_wp2_with (refine box24 rfl _ rfl vs rfl hl ?_)
    intro w1 ha hb
    have HB1 : Hid (Below w.heap.size w w1) := hb
    have HA1 : Hid (HoldsA w1 w.heap.size vs) := ha
    clear ha hb
    go_wp2_with (refine alloc24 rfl rfl ?_)
    intro w2 ha hb
    have HB2 : Hid (Below w.heap.size w w2) := below_trans HB1.out hb HB1.out.size
    have HZ2 : Hid (HoldsA w2 w1.heap.size nils) := ha
    have HG : Hid (w.heap.size < w1.heap.size) := HA1.out.lt
    clear ha hb HB1 HA1
    generalize w1.heap.size = G at *
    go_wp2_with fail
    refine (register_none _ _ HN.out).mono ?_
    rintro e w3 ⟨rfl, hw3⟩
    rw [hw3]
    clear hw3 w3
    go_wp2_with (first | (refine build24 rfl rfl ?_) | (refine store24 rfl _ _ rfl G rfl nils nils rfl HZ2.out nils_all ?_))
    intro w4 hz hg
    have HB4 : Hid (Below w.heap.size w w4) := HB2.out.grown hg HB2.out.size (fun j hj => by have := HG.out; cases hj; omega)
    have HZ4 : Hid (HoldsA w4 G nils) := hz
    clear hz hg HB2 HZ2
    go_wp2_with fail
    (try simp only [Exit.inBlock, Exit.then])
    refine bodyPost_ret (ret_arr rfl _ _ G nils _ rfl rfl HZ4.out) rfl ?_
    exact ⟨HB4.out, _, rfl, readsR_nil _⟩
  · have HN : Hid (Named name k g) := hN
    have hk := hN.lt
    have hkI : (k : Int) < 27 := by omega
    obtain ⟨ah, hah⟩ : ∃ ah, ah = ahd ts k g := ⟨_, rfl⟩
    have HAH : Hid (ah = ahd ts k g) := hah
    rw [← hah] at hp
    obtain ⟨y, hy⟩ : ∃ y, y = ah ++ x := ⟨_, rfl⟩
    have HY : Hid (y = ah ++ x) := hy
    rw [← hy] at hp
    have hyl : y.length = ah.length + x.length := by rw [hy, List.length_append]
    rw [← hyl] at hp
    have HYL : Hid (y.length = ah.length + x.length) := hyl
    clear hN hah hy hyl
    go_enter Try.func7, Try.ntmps7
    go_wp2_with (refine box24 rfl _ rfl vs rfl hl ?_)
    intro w1 ha hb
    have HB1 : Hid (Below w.heap.size w w1) := hb
    have HA1 : Hid (HoldsA w1 w.heap.size vs) := ha
    clear ha hb
    go_wp2_with (refine alloc24 rfl rfl ?_)
    intro w2 ha hb
    have HB2 : Hid (Below w.heap.size w w2) := below_trans HB1.out hb HB1.out.size
    have HA2 : Hid (HoldsA w2 w.heap.size vs) := HA1.out.below hb
    have HZ2 : Hid (HoldsA w2 w1.heap.size nils) := ha
    have HG : Hid (w.heap.size < w1.heap.size) := HA1.out.lt
    clear ha hb HB1 HA1
    generalize w1.heap.size = G at *
    go_wp2_with fail
    refine (register_named _ k g _ HN.out).mono ?_
    rintro e w3 ⟨rfl, hw3⟩
    rw [hw3]
    clear hw3 w3
    go_upto_if 20 with fail
    go_cut [10] from 20 to 26 (fun s10 wx => (∃ aa ac, s10 = .slice aa y.length ac ∧ Reads wx (.slice aa y.length ac) y ∧ y.length * 8 ≤ 281474976710656 ∧ (g = false → y.length = x.length)) ∧ Below w2.heap.size w2 wx)
    case first =>
      cases g with
      | false =>
        have HE : Hid (ah = []) := HAH.out
        have HYX : Hid (y = x) := by show _ = _; rw [HY.out, HE.out]; rfl
        clear HAH HY HE HYL
        go_wp2_with fail
        go_meet
        case rel =>
          have hyx := HYX.out
          subst hyx
          exact ⟨⟨a, c, rfl, HV.out _ HB2.out, by omega, fun _ => rfl⟩, Below.refl _ _⟩
      | true =>
        obtain ⟨aa, ac, hv, hr, hm2⟩ := (H.out w2 HB2.out).at_ k hk
        have hc1 := HA2.out.cell k hk
        have HE : ts.getD k [] = ah := HAH.out.symm
        rw [HE] at hv hr hm2
        rw [hv] at hc1
        have HR : Hid (Reads w2 (.slice aa ah.length ac) ah) := hr
        have HM : Hid (Mild ah) := hm2
        clear HAH HE hv hr hm2
        go_wp2_with fail
        have hbd : (ah ++ x).length * 8 ≤ 281474976710656 := by rw [List.length_append]; have := HM.out; unfold Mild at this; omega
        refine (concat2 _ _ ah x _ HR.out (HV.out _ HB2.out) hbd).mono ?_
        rintro e w4 ⟨hb, v4, rfl, ho⟩
        have HB4 : Hid (Below w2.heap.size w2 w4) := below_trans (box_below _ _) hb (box_below _ _).size
        rw [← HY.out] at ho hbd
        obtain ⟨a4, c4, rfl⟩ := ho.reads.shape
        have HR4 : Hid (Reads w4 (.slice a4 y.length c4) y) := ho.reads
        have HBD : Hid (y.length * 8 ≤ 281474976710656) := hbd
        clear hb ho hbd
        go_wp2_with fail
        go_meet
        case rel => exact ⟨⟨a4, c4, rfl, HR4.out, HBD.out, fun h => by cases h⟩, HB4.out⟩
    case rest =>
      obtain ⟨⟨aa, ac, rfl, hr, hyb, hgx⟩, hbc⟩ := hcut
      have HR : Hid (Reads wc (.slice aa y.length ac) y) := hr
      have HBc : Hid (Below w.heap.size w wc) := below_trans HB2.out hbc HB2.out.size
      have HAc : Hid (HoldsA wc w.heap.size vs) := HA2.out.below hbc
      have HZc : Hid (HoldsA wc G nils) := HZ2.out.below hbc
      have HGX : Hid (g = false → y.length = x.length) := hgx
      clear hr hbc HB2 HA2 HZ2 hgx
      rcases hp with ⟨hp, rfl, rfl⟩ | ⟨hp, rfl, rfl⟩
      · have hyI : (200 : Int) < (y.length : Int) := by omega
        clear hp
        by_cases q1 : (200 : Int) < (x.length : Int)
        · clear HGX
          go_wp2_with (first | (refine build24 rfl rfl ?_) | (refine store24 rfl _ _ rfl G rfl nils nils rfl HZc.out nils_all ?_))
          intro w4 hz hg
          have HB4 : Hid (Below w.heap.size w w4) := HBc.out.grown hg HBc.out.size (fun j hj => by have := HG.out; cases hj; omega)
          have HZ4 : Hid (HoldsA w4 G nils) := hz
          clear hz hg
          go_wp2_with fail
          (try simp only [Exit.inBlock, Exit.then])
          refine bodyPost_ret (ret_arr rfl _ _ G nils _ rfl rfl HZ4.out) rfl ?_
          exact ⟨HB4.out, _, rfl, readsR_nil _⟩
        · have hgt : g = true := by
            cases g with
            | true => rfl
            | false => have := HGX.out rfl; omega
          subst hgt
          clear HGX
          go_wp2_with (first | (refine build24 rfl rfl ?_) | (refine store24 rfl _ _ rfl G rfl nils nils rfl HZc.out nils_all ?_))
          intro w4 hz hg
          have HB4 : Hid (Below w.heap.size w w4) := HBc.out.grown hg HBc.out.size (fun j hj => by have := HG.out; cases hj; omega)
          have HZ4 : Hid (HoldsA w4 G nils) := hz
          clear hz hg
          go_wp2_with fail
          (try simp only [Exit.inBlock, Exit.then])
          refine bodyPost_ret (ret_arr rfl _ _ G nils _ rfl rfl HZ4.out) rfl ?_
          exact ⟨HB4.out, _, rfl, readsR_nil _⟩
      · have hyI : ¬ (200 : Int) < (y.length : Int) := by omega
        have q1 : ¬ (200 : Int) < (x.length : Int) := by have := HYL.out; omega
        have HM4 : Hid (Mild y) := by show y.length * 8 ≤ _; omega
        have k0 : 0 < 27 := by decide
        clear hp
        cases g
        all_goals
          go_wp2_with (refine store22 rfl _ _ rfl w.heap.size k rfl aa y.length ac rfl vs HAc.out hk ?_)
          intro w5 hz hg
          have HB5 : Hid (Below w.heap.size w w5) := HBc.out.grown hg HBc.out.size (fun j hj => by cases hj; exact Nat.le_refl _)
          have HA5 : Hid (HoldsA w5 w.heap.size (vs.set k (.slice aa y.length ac))) := hz
          have HZ5 : Hid (HoldsA w5 G nils) := HZc.out.kept hg (fun e => by have := HG.out; have := Option.some.inj e; omega)
          have HR5 : Hid (Reads w5 (.slice aa y.length ac) y) := HR.out.kept hg HAc.out.2 (fun x hx => HAc.out.1.2 x (by simpa using hx))
          clear hz hg HBc HAc HZc HR
          go_wp2_with (refine store22 rfl _ _ rfl w.heap.size 0 rfl aa y.length ac rfl _ HA5.out k0 ?_)
          intro w6 hz hg
          have HB6 : Hid (Below w.heap.size w w6) := HB5.out.grown hg HB5.out.size (fun j hj => by cases hj; exact Nat.le_refl _)
          have HA6 : Hid (HoldsA w6 w.heap.size ((vs.set k (.slice aa y.length ac)).set 0 (.slice aa y.length ac))) := hz
          have HZ6 : Hid (HoldsA w6 G nils) := HZ5.out.kept hg (fun e => by have := HG.out; have := Option.some.inj e; omega)
          have HR6 : Hid (Reads w6 (.slice aa y.length ac) y) := HR5.out.kept hg HA5.out.2 (fun x hx => HA5.out.1.2 x (by simpa using hx))
          clear hz hg HB5 HA5 HZ5 HR5
          have HLS : Hid (AllSl ((vs.set k (.slice aa y.length ac)).set 0 (.slice aa y.length ac))) := HA6.out.1
          go_wp2_with (first | (refine load24 rfl _ rfl w.heap.size rfl _ HA6.out ?_) | (refine store24 rfl _ _ rfl G rfl _ nils rfl HZ6.out HLS.out ?_))
          intro w8 hz hg
          have HB8 : Hid (Below w.heap.size w w8) := HB6.out.grown hg HB6.out.size (fun j hj => by have := HG.out; cases hj; omega)
          have HZ8 : Hid (HoldsA w8 G ((vs.set k (.slice aa y.length ac)).set 0 (.slice aa y.length ac))) := hz
          have HR8 : Hid (Reads w8 (.slice aa y.length ac) y) := HR6.out.kept hg HZ6.out.2 (fun x hx => HZ6.out.1.2 x (by simpa using hx))
          clear hz hg HB6 HZ6 HA6 HR6
          go_wp2_with fail
          (try simp only [Exit.inBlock, Exit.then])
          refine bodyPost_ret (ret_arr rfl _ _ G _ _ rfl rfl HZ8.out) rfl ?_
          exact ⟨HB8.out, _, rfl, ((H.out _ HB8.out).set k hk _ _ _ HR8.out HM4.out).set 0 k0 _ _ _ HR8.out HM4.out⟩
end Go.Proofs.Ytobmggijdmdidaa.Seek
