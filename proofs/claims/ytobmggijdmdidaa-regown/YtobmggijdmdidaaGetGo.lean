/- The contracts of reg.Get and of the document's RegGet. -/
import Derived.Test.YtobmggijdmdidaaCopied
import Derived.Test.YtobmggijdmdidaaNames
set_option linter.unusedVariables false
set_option linter.unusedSimpArgs false
namespace Go.Proofs.Ytobmggijdmdidaa.Seek
open Go.RowKit

/-- What is got of the register of that name. -/
def Got (ts : List (List Int)) (name : Int) (e : Int) (t : List Int) : Prop :=
  (NoName name ∧ e = 9 ∧ t = []) ∨ ∃ k g, Named name k g ∧ ((ts.getD k [] = [] ∧ e = 6 ∧ t = []) ∨ (ts.getD k [] ≠ [] ∧ e = 0 ∧ t = ts.getD k []))
theorem got_or (ts : List (List Int)) (name : Int) : ∃ e t, Got ts name e t := by
  rcases named_or name with h | ⟨k, g, h⟩
  · exact ⟨9, [], .inl ⟨h, rfl, rfl⟩⟩
  · by_cases h0 : ts.getD k [] = []
    · exact ⟨6, [], .inr ⟨k, g, h, .inl ⟨h0, rfl, rfl⟩⟩⟩
    · exact ⟨0, _, .inr ⟨k, g, h, .inr ⟨h0, rfl, rfl⟩⟩⟩
theorem mild_nil : Mild [] := by show ([] : List Int).length * 8 ≤ _; decide
theorem Got.mild {w : World} {vs : List Value} {ts : List (List Int)} {name e : Int} {t : List Int} (h : Got ts name e t) (hr : ReadsR w vs ts) : Mild t := by
  rcases h with ⟨_, _, rfl⟩ | ⟨k, g, hN, ⟨_, _, rfl⟩ | ⟨_, _, rfl⟩⟩
  · exact mild_nil
  · exact mild_nil
  · exact (hr.2.2 k hN.lt).2

set_option maxHeartbeats 1000000 in
theorem get_any (vs : List Value) (ts : List (List Int)) (name e : Int) (t : List Int) (w : World) (h : ReadsR w vs ts) (hg : Got ts name e t) :
    Calls Try.prog 8 #[arr vs, .int .i64 name] w fun r w' => Below w.heap.size w w' ∧ ∃ a c, r = .returned (.tuple #[.slice a t.length c, .int .i64 e]) ∧ OwnI w' w.heap.size (.slice a t.length c) t := by
  have hl := h.1
  have H : Hid (∀ wx, Below w.heap.size w wx → ReadsR wx vs ts) := fun wx hb => h.below hb
  clear h
  rcases hg with ⟨hn, rfl, rfl⟩ | ⟨k, g, hN, hx⟩
  · have HN : Hid (NoName name) := hn
    clear hn
    go_enter Try.func8, Try.ntmps8
    go_wp2_with (refine box24 rfl _ rfl vs rfl hl ?_)
    intro w1 ha hb
    have HB1 : Hid (Below w.heap.size w w1) := hb
    clear ha hb
    go_wp2_with fail
    refine (number_none _ _ HN.out).mono ?_
    rintro r w2 ⟨rfl, hw2⟩
    rw [hw2]
    clear hw2 w2
    go_wp2_with fail
    go_ret2
    exact ⟨HB1.out, _, _, rfl, ownI_nil _ _⟩
  · have HN : Hid (Named name k g) := hN
    have hk := hN.lt
    have hkI : (k : Int) < 27 := by omega
    clear hN
    obtain ⟨x, hxx⟩ : ∃ x, x = ts.getD k [] := ⟨_, rfl⟩
    have HX : Hid (ts.getD k [] = x) := hxx.symm
    rw [← hxx] at hx
    clear hxx
    go_enter Try.func8, Try.ntmps8
    go_wp2_with (refine box24 rfl _ rfl vs rfl hl ?_)
    intro w1 ha hb
    have HB1 : Hid (Below w.heap.size w w1) := hb
    obtain ⟨a, c, hv, hr, hm⟩ := (H.out w1 hb).at_ k hk
    rw [HX.out] at hv hr hm
    have hc1 := ha.cell k hk
    rw [hv] at hc1
    have HR : Hid (Reads w1 (.slice a x.length c) x) := hr
    have HM : Hid (Mild x) := hm
    clear ha hb hr hm hv
    go_wp2_with fail
    refine (number_named _ k g _ HN.out).mono ?_
    rintro r w2 ⟨rfl, hw2⟩
    rw [hw2]
    clear hw2 w2
    rcases hx with ⟨h0, rfl, rfl⟩ | ⟨h0, rfl, rfl⟩
    · have hx0 : (x.length : Int) = 0 := by rw [h0]; rfl
      go_wp2_with fail
      go_ret2
      exact ⟨HB1.out, _, _, rfl, ownI_nil _ _⟩
    · have hx0 : ((t.length : Int) == 0) = false := by
        rw [beq_eq_false_iff_ne]
        intro h
        exact h0 (List.length_eq_zero_iff.1 (by omega))
      clear h0
      go_wp2_with fail
      refine (cloneI_any _ t _ HR.out HM.out).mono ?_
      rintro r w2 ⟨hb, a2, c2, rfl, ho⟩
      have HB2 : Hid (Below w.heap.size w w2) := below_trans HB1.out hb HB1.out.size
      have HO2 : Hid (OwnI w2 w.heap.size (.slice a2 t.length c2) t) := ho.less HB1.out.size
      clear hb ho
      go_wp2_with fail
      go_ret2
      exact ⟨HB2.out, _, _, rfl, HO2.out⟩

set_option maxHeartbeats 1000000 in
theorem refGet_any (vs : List Value) (ts : List (List Int)) (name e : Int) (t : List Int) (w : World) (h : ReadsR w vs ts) (hg : Got ts name e t) :
    Calls Try.prog 9 #[arr vs, .int .i64 name] w fun r w' => Below w.heap.size w w' ∧ ∃ a c, r = .returned (.tuple #[.slice a t.length c, .int .i64 e]) ∧ Reads w' (.slice a t.length c) t := by
  have hl := h.1
  have H : Hid (∀ wx, Below w.heap.size w wx → ReadsR wx vs ts) := fun wx hb => h.below hb
  clear h
  rcases hg with ⟨hn, rfl, rfl⟩ | ⟨k, g, hN, hx⟩
  · have HN : Hid (NoName name) := hn
    clear hn
    go_enter Try.func9, Try.ntmps9
    go_wp2_with (refine box24 rfl _ rfl vs rfl hl ?_)
    intro w1 ha hb
    have HB1 : Hid (Below w.heap.size w w1) := hb
    clear ha hb
    go_wp2_with fail
    refine (register_none _ _ HN.out).mono ?_
    rintro r w2 ⟨rfl, hw2⟩
    rw [hw2]
    clear hw2 w2
    go_wp2_with fail
    go_ret2
    exact ⟨HB1.out, _, _, rfl, .inl ⟨_, _, rfl, rfl⟩⟩
  · have HN : Hid (Named name k g) := hN
    have hk := hN.lt
    have hkI : (k : Int) < 27 := by omega
    clear hN
    obtain ⟨x, hxx⟩ : ∃ x, x = ts.getD k [] := ⟨_, rfl⟩
    have HX : Hid (ts.getD k [] = x) := hxx.symm
    rw [← hxx] at hx
    clear hxx
    go_enter Try.func9, Try.ntmps9
    go_wp2_with (refine box24 rfl _ rfl vs rfl hl ?_)
    intro w1 ha hb
    have HB1 : Hid (Below w.heap.size w w1) := hb
    obtain ⟨a, c, hv, hr, hm⟩ := (H.out w1 hb).at_ k hk
    rw [HX.out] at hv hr hm
    have hc1 := ha.cell k hk
    rw [hv] at hc1
    have HR : Hid (Reads w1 (.slice a x.length c) x) := hr
    clear ha hb hr hm hv
    go_wp2_with fail
    refine (register_named _ k g _ HN.out).mono ?_
    rintro r w2 ⟨rfl, hw2⟩
    rw [hw2]
    clear hw2 w2
    rcases hx with ⟨h0, rfl, rfl⟩ | ⟨h0, rfl, rfl⟩
    · have hx0 : (x.length : Int) = 0 := by rw [h0]; rfl
      go_wp2_with fail
      go_ret2
      exact ⟨HB1.out, _, _, rfl, .inl ⟨_, _, rfl, rfl⟩⟩
    · have hx0 : ((t.length : Int) == 0) = false := by
        rw [beq_eq_false_iff_ne]
        intro h
        exact h0 (List.length_eq_zero_iff.1 (by omega))
      clear h0
      go_wp2_with fail
      go_ret2
      exact ⟨HB1.out, _, _, rfl, HR.out⟩
end Go.Proofs.Ytobmggijdmdidaa.Seek
