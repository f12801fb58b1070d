/- The walk of RegSays. -/
import Derived.Test.YtobmggijdmdidaaRefPut
import Derived.Test.YtobmggijdmdidaaGetGo
import Derived.Test.YtobmggijdmdidaaSame
set_option linter.unusedVariables false
set_option linter.unusedSimpArgs false
namespace Go.Proofs.Ytobmggijdmdidaa.Seek
open Go.RowKit

set_option maxHeartbeats 4000000 in
theorem says_walk (v : Value) (x : List Int) (name : Int) (vs : List Value) (ts : List (List Int)) (w : World) (hv : Reads w v x) (hx : x.length * 8 ≤ 140737488351232) (h : ReadsR w vs ts) :
    Calls Try.prog 3 #[arr vs, .int .i64 name, v] w fun e w' => e = .returned (.bool true) ∧ Below w.heap.size w w' := by
  obtain ⟨a, c, rfl⟩ := hv.shape
  have hl := h.1
  obtain ⟨e, ts', hP⟩ := putd_or ts name x
  obtain ⟨f, t, hG⟩ := got_or ts name
  have HP : Hid (Putd ts name x e ts') := hP
  have HG : Hid (Got ts name f t) := hG
  have HT : Hid (Mild t) := hG.mild h
  have HX : Hid (Mild x) := hx
  have HV : Hid (∀ wx, Below w.heap.size w wx → Reads wx (.slice a x.length c) x) := fun wx hb => hv.below hb
  have H : Hid (∀ wx, Below w.heap.size w wx → ReadsR wx vs ts) := fun wx hb => h.below hb
  clear h hv hP hG hx
  go_enter Try.func3, Try.ntmps3
  go_wp2_with (refine box24 rfl _ rfl vs rfl hl ?_)
  intro w1 ha hb
  have HB1 : Hid (Below w.heap.size w w1) := hb
  have HM1 : Hid (HoldsA w1 w.heap.size vs) := ha
  clear ha hb
  go_wp2_with (refine load24 rfl _ rfl w.heap.size rfl vs HM1.out ?_)
  refine (put_any vs ts name _ x e ts' w1 (H.out _ HB1.out) (HV.out _ HB1.out) HX.out HP.out).mono ?_
  rintro r w2 ⟨hb, la, rfl, ho⟩
  have HB2 : Hid (Below w.heap.size w w2) := below_trans HB1.out hb HB1.out.size
  have HM2 : Hid (HoldsA w2 w.heap.size vs) := HM1.out.below hb
  have HA2 : Hid (ReadsR w2 la ts') := ho.1
  have hla : AllSl la := ho.1.1
  clear hb ho HB1 HM1
  go_wp2_with (refine alloc24 rfl rfl ?_)
  intro w3 ha hb
  have HB3 : Hid (Below w.heap.size w w3) := below_trans HB2.out hb HB2.out.size
  have HM3 : Hid (HoldsA w3 w.heap.size vs) := HM2.out.below hb
  have HA3 : Hid (ReadsR w3 la ts') := HA2.out.below hb
  have HZ3 : Hid (HoldsA w3 w2.heap.size nils) := ha
  have HN7 : Hid (w.heap.size < w2.heap.size) := HM2.out.lt
  clear ha hb HB2 HM2 HA2
  generalize w2.heap.size = B7 at *
  go_wp2_with (refine store24 rfl _ _ rfl B7 rfl la nils rfl HZ3.out hla ?_)
  intro w4 hz hg
  have HB4 : Hid (Below w.heap.size w w4) := HB3.out.grown hg HB3.out.size (fun j hj => by have := HN7.out; cases hj; omega)
  have HM4 : Hid (HoldsA w4 w.heap.size vs) := HM3.out.kept hg (fun e => by have := HN7.out; have := Option.some.inj e; omega)
  have HA4 : Hid (ReadsR w4 la ts') := HA3.out.kept hg HZ3.out.2 (fun x hx => HZ3.out.1.2 x (by simpa using hx))
  have HS4 : Hid (HoldsA w4 B7 la) := hz
  clear hz hg HB3 HM3 HA3 HZ3
  go_wp2_with (refine load24 rfl _ rfl w.heap.size rfl vs HM4.out ?_)
  refine (refPut_any vs ts name _ x e ts' w4 (H.out _ HB4.out) (HV.out _ HB4.out) HX.out HP.out).mono ?_
  rintro r w5 ⟨hb, lb, rfl, ho⟩
  have HB5 : Hid (Below w.heap.size w w5) := below_trans HB4.out hb HB4.out.size
  have HM5 : Hid (HoldsA w5 w.heap.size vs) := HM4.out.below hb
  have HA5 : Hid (ReadsR w5 la ts') := HA4.out.below hb
  have HS5 : Hid (HoldsA w5 B7 la) := HS4.out.below hb
  have HC5 : Hid (ReadsR w5 lb ts') := ho
  have hlb : AllSl lb := ho.1
  clear hb ho HB4 HM4 HA4 HS4
  go_wp2_with (refine alloc24 rfl rfl ?_)
  intro w6 ha hb
  have HB6 : Hid (Below w.heap.size w w6) := below_trans HB5.out hb HB5.out.size
  have HM6 : Hid (HoldsA w6 w.heap.size vs) := HM5.out.below hb
  have HA6 : Hid (ReadsR w6 la ts') := HA5.out.below hb
  have HS6 : Hid (HoldsA w6 B7 la) := HS5.out.below hb
  have HC6 : Hid (ReadsR w6 lb ts') := HC5.out.below hb
  have HZ6 : Hid (HoldsA w6 w5.heap.size nils) := ha
  have HN9 : Hid (w.heap.size < w5.heap.size ∧ B7 < w5.heap.size) := ⟨HM5.out.lt, HS5.out.lt⟩
  clear ha hb HB5 HM5 HA5 HS5 HC5
  generalize w5.heap.size = B9 at *
  go_wp2_with (refine store24 rfl _ _ rfl B9 rfl lb nils rfl HZ6.out hlb ?_)
  intro w7 hz hg
  have HB7 : Hid (Below w.heap.size w w7) := HB6.out.grown hg HB6.out.size (fun j hj => by have := HN9.out; cases hj; omega)
  have HM7 : Hid (HoldsA w7 w.heap.size vs) := HM6.out.kept hg (fun e => by have := HN9.out; have := Option.some.inj e; omega)
  have HA7 : Hid (ReadsR w7 la ts') := HA6.out.kept hg HZ6.out.2 (fun x hx => HZ6.out.1.2 x (by simpa using hx))
  have HS7 : Hid (HoldsA w7 B7 la) := HS6.out.kept hg (fun e => by have := HN9.out; have := Option.some.inj e; omega)
  have HC7 : Hid (ReadsR w7 lb ts') := HC6.out.kept hg HZ6.out.2 (fun x hx => HZ6.out.1.2 x (by simpa using hx))
  have HD7 : Hid (HoldsA w7 B9 lb) := hz
  clear hz hg HB6 HM6 HA6 HS6 HC6 HZ6
  go_wp2_with (refine load24 rfl _ rfl w.heap.size rfl vs HM7.out ?_)
  refine (get_any vs ts name f t w7 (H.out _ HB7.out) HG.out).mono ?_
  rintro r w8 ⟨hb, ga, gc, rfl, ho⟩
  have HB8 : Hid (Below w.heap.size w w8) := below_trans HB7.out hb HB7.out.size
  have HM8 : Hid (HoldsA w8 w.heap.size vs) := HM7.out.below hb
  have HA8 : Hid (ReadsR w8 la ts') := HA7.out.below hb
  have HS8 : Hid (HoldsA w8 B7 la) := HS7.out.below hb
  have HC8 : Hid (ReadsR w8 lb ts') := HC7.out.below hb
  have HD8 : Hid (HoldsA w8 B9 lb) := HD7.out.below hb
  have HO8 : Hid (Reads w8 (.slice ga t.length gc) t) := ho.reads
  clear hb ho HB7 HM7 HA7 HS7 HC7 HD7
  go_wp2_with (refine load24 rfl _ rfl w.heap.size rfl vs HM8.out ?_)
  refine (refGet_any vs ts name f t w8 (H.out _ HB8.out) HG.out).mono ?_
  rintro r w9 ⟨hb, ha, hc, rfl, ho⟩
  have HB9 : Hid (Below w.heap.size w w9) := below_trans HB8.out hb HB8.out.size
  have HA9 : Hid (ReadsR w9 la ts') := HA8.out.below hb
  have HS9 : Hid (HoldsA w9 B7 la) := HS8.out.below hb
  have HC9 : Hid (ReadsR w9 lb ts') := HC8.out.below hb
  have HD9 : Hid (HoldsA w9 B9 lb) := HD8.out.below hb
  have HO9 : Hid (Reads w9 (.slice ga t.length gc) t) := HO8.out.below hb
  have HQ9 : Hid (Reads w9 (.slice ha t.length hc) t) := ho
  clear hb ho HB8 HM8 HA8 HS8 HC8 HD8 HO8
  go_wp2_with (first | (refine load24 rfl (.tmp 7) rfl B7 rfl la HS9.out ?_) | (refine load24 rfl (.tmp 9) rfl B9 rfl lb HD9.out ?_))
  refine (same_any la lb ts' w9 HA9.out HC9.out).mono ?_
  rintro r w10 ⟨rfl, hb⟩
  have HB10 : Hid (Below w.heap.size w w10) := below_trans HB9.out hb HB9.out.size
  have HO10 : Hid (Reads w10 (.slice ga t.length gc) t) := HO9.out.below hb
  have HQ10 : Hid (Reads w10 (.slice ha t.length hc) t) := HQ9.out.below hb
  clear hb HB9 HA9 HS9 HC9 HD9 HO9 HQ9
  go_wp2_with fail
  refine (equal_same _ _ t w10 HO10.out HQ10.out HT.out).mono ?_
  rintro r w11 ⟨rfl, q, hq⟩
  have HB11 : Hid (Below w.heap.size w w11) := by rw [hq]; exact below_drewN HB10.out q
  clear hq
  go_wp2_with fail
  go_ret
  exact ⟨by simp, HB11.out⟩
end Go.Proofs.Ytobmggijdmdidaa.Seek
