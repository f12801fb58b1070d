/- UtfOne returns true whatever string is handed in, and leaves it as it was, where the string is of bulk at most 1048576 (the bound of the second form). -/
import Derived.Test.YtdhoackhjojobaaOwned
import Derived.ProofKit
import Derived.OpenShut
import Derived.JoinedCond
set_option linter.unusedVariables false
namespace Go.Proofs.Ytdhoackhjojobaa.utfOne
open Go.ChangeShapes Go.WideShapes Go.ChangeAt Go.RowKit
open Go.ChangeMaps (open_string shut_string)
open Utf

theorem own : ownKnob Try.prog.godebug = none := by kernel_rfl

theorem extract_take (s : ByteArray) (p : Nat) : (s.extract 0 p).data.toList = s.data.toList.take p := by
  rw [ByteArray.data_extract, Array.toList_extract]
  rfl
theorem room_of (s : ByteArray) (hs : s.size ≤ 1048576) (cs : List Nat) (p : Nat) (h : Plain.Part s.data.toList cs p) : cs.length * 8 ≤ 140737488355328 := by
  have h1 := h.len
  have h2 := h.le
  rw [Array.length_toList] at h2
  have : s.size = s.data.size := rfl
  omega
theorem two : (⟨#[97, 255]⟩ : ByteArray).size = 2 := rfl

set_option maxHeartbeats 1000000 in
theorem walk (s : ByteArray) (w : World) (hs : s.size ≤ 1048576) :
    Calls Try.prog 5 #[.string s] w fun e w' => e = .returned (.bool true) ∧ Below w.heap.size w w' := by
  go_enter Try.func5, Try.ntmps5
  go_wp2_with fail
  refine (all_any ⟨#[97, 255]⟩ _ (by rw [two]; decide) (room_of _ (by rw [two]; decide))).mono ?_
  intro e w1 h
  obtain ⟨hb1, v1, rfl⟩ := all_a255 h
  clear h
  go_wp2_with fail
  refine (all_any s _ (by omega) (room_of s hs)).mono ?_
  rintro e w2 ⟨hb2, cs, p, er, v2, hp, rfl, hcase⟩
  have hpl : p ≤ s.size := by have := hp.le; rw [Array.length_toList] at this; exact this
  have Hp : Hid (Plain.Part s.data.toList cs p) := hp
  clear hp
  rcases hcase with ⟨rfl, hpe, hown⟩ | ⟨her, hpe, hge, rfl⟩
  · have hps : p = s.size := by rw [Array.length_toList] at hpe; exact hpe
    clear hpe hpl
    subst hps
    go_wp2_with fail
    refine (text_owned cs v2 _ _ hb2.size (room_of s hs cs _ Hp.out) hown).mono ?_
    intro e w3 h
    obtain ⟨hb3, rfl⟩ := text_good Hp.out.oks h
    have ht : (⟨(Plain.text cs).toArray⟩ : ByteArray) = s := by
      rw [← Hp.out.is, List.take_of_length_le (by rw [Array.length_toList]; exact Nat.le_refl _)]
    rw [ht]
    clear h hown ht
    have hb : Below w.heap.size w w3 := hb1.trans ((hb2.mono hb1.size).trans (hb3.mono (Nat.le_trans hb1.size hb2.size)))
    go_wp2_with fail
    go_ret
    exact ⟨rfl, hb⟩
  · have hpl2 : p < s.size := by rw [Array.length_toList] at hpe; exact hpe
    clear hpe
    have he0 : ((er : Int) == 0) = false := by simp; omega
    have Hge : Hid (er = (Plain.get (List.drop p s.data.toList)).2.2) := hge
    clear hge her
    go_wp2_with fail
    have hex : (s.extract 0 p).data.toList = Plain.text cs := by rw [extract_take]; exact Hp.out.is
    have hsz : (s.extract 0 p).size ≤ 1048576 := by rw [ByteArray.size_extract]; omega
    refine (all_any (s.extract 0 p) _ (by omega) (room_of _ hsz)).mono ?_
    intro e w3 h
    obtain ⟨hb3, v3, rfl, _⟩ := all_good hex Hp.out.oks h
    clear h hex
    go_wp2_with fail
    have hsz2 : (s.extract p s.size).size ≤ 9223372036854775807 := by rw [ByteArray.size_extract]; omega
    refine (get_any (s.extract p s.size) _ hsz2).mono ?_
    rintro e w4 ⟨rfl, hw4⟩
    rw [extract_drop]
    unfold out
    rw [← Hge.out]
    have hb4 : Below w3.heap.size w3 w4 := by obtain ⟨q, rfl⟩ := hw4; exact ⟨rfl, rfl, rfl, Nat.le_refl _, fun _ _ => rfl⟩
    have hb : Below w.heap.size w w4 := hb1.trans ((hb2.mono hb1.size).trans ((hb3.mono (Nat.le_trans hb1.size hb2.size)).trans (hb4.mono (Nat.le_trans hb1.size (Nat.le_trans hb2.size hb3.size)))))
    clear hw4
    go_wp2_with fail
    go_ret
    exact ⟨rfl, hb⟩

theorem short {H : Type} {s : ByteArray} (hk : Rows.uptoSmall H [.lit (.string s.data.toList)] = true) : s.size ≤ 1048576 := by
  have h : Rows.uptoBulkAll [DataW.lit (H := H) (.string s.data.toList)] ≤ 1048576 := of_decide_eq_true hk
  simp only [Rows.uptoBulkAll, Rows.uptoBulk] at h
  have e : s.data.toList.length = s.size := by rw [Array.length_toList]; rfl
  omega

theorem contract (H : Type) (enc : TypeId × Value → H) (W : World) (base : Nat) (args : Array Value) (ds gs : List (DataW H)) (before : List MemPlace)
    (hval : ∀ (j : Nat) t v, Try.f5.params[j]? = some t → args[j]? = some v → Value.okWide Try.prog W .any base t v)
    (hW : DataW.Whole enc Try.prog Try.f5.params.toList Rows.utfOneSpec.vars false W args.toList ds gs before) (hk : Rows.uptoSmall H (ds ++ gs) = true) :
    Calls Try.prog 5 args W fun e W' => ∃ v, e = .returned v ∧ Rows.utfOneSpec.post enc Try.prog Try.f5 false true false false W args v W' := by
  have hW' := hW
  obtain ⟨p, q, hA0, hV, rfl, hfz, hnd⟩ := hW
  have hA : DataW.TrodAll enc Try.prog W 0 (fun _ => true) true Try.f5.params.toList args.toList ds p := hA0
  rw [Try.params5] at hA hval
  obtain ⟨v0, vs0, d0, ds0, p0, q0, hargs, rfl, rfl, h0, r0⟩ := trodAll_cons hA
  obtain ⟨rfl, rfl, rfl⟩ := trodAll_nil r0
  obtain rfl : args = #[v0] := by cases args; simp_all
  obtain ⟨rfl, rfl⟩ := trodVars_none hV
  obtain ⟨s, rfl, rfl, rfl, hmax⟩ := open_string Try.underlying9 (hval 0 9 v0 rfl rfl) h0
  clear hA0
  simp only [List.append_nil] at hW' hk
  refine (walk s W (short hk)).mono fun e W' ⟨he, hg⟩ => ?_
  subst he
  exact ⟨_, rfl, _, _, _, [], [], [], hW', trodAll_cons_mk (shut_bool Try.underlying4 _) trodAll_mk0, trodAll_cons_mk (shut_string Try.underlying9 hmax) trodAll_mk0, rfl, hg.frame _, fun h => by cases h⟩

set_option maxRecDepth 100000 in
theorem lifted (os : Os) (started : os.Started) (H : Type) (enc : TypeId × Value → H) (F : Stop.Interp) :
    ReturnsInHanded {} Try.checked os 5 .any ((Rows.OpenSpec.upto Rows.utfOneSpec).pre6 enc Try.prog Try.f5 Rows.utfOneUptoRow.domain false) (((Rows.OpenSpec.upto Rows.utfOneSpec).at F).post enc Try.prog Try.f5 false true false false) := by
  refine returnsInHanded_of_cond (C := Try.checked) (s := Rows.OpenSpec.upto Rows.utfOneSpec) (k := Rows.uptoSmall) rfl own started (by kernel_rfl) Try.func5
    (OpenSpec.witness (enc := enc) (C := Try.checked) (s := Rows.OpenSpec.upto Rows.utfOneSpec) (k := Rows.uptoSmall) rfl false ⟨#[], #[.string .empty], []⟩ 8 (by kernel_rfl) (by kernel_rfl) (by kernel_rfl)
      (x := ([.lit (.string [])], [], [])) (by kernel_rfl) rfl (by kernel_rfl)) ?_
  intro W base args ds gs before hval hW _ hk _
  exact contract H enc W base args ds gs before hval hW hk

theorem over : Rows.UtfOneUptoSaid :=
  OpenClaim.holds_of_cond 5 Try.f5 rfl rfl rfl rfl rfl rfl rfl ⟨rfl, rfl, rfl, rfl, rfl⟩ rfl rfl rfl rfl rfl (by kernel_rfl) Try.func5 (by kernel_rfl)
    (of_decide_eq_true (by kernel_rfl)) (by unfold Func.isWrapper; first | (rw [if_pos (by decide +kernel)]; kernel_rfl) | (rw [if_neg (by decide +kernel)]; exact ⟨rfl, rfl⟩))
    (fun os started H enc _ F => lifted os started H enc F)
end Go.Proofs.Ytdhoackhjojobaa.utfOne
namespace Go.Proofs.Ytdhoackhjojobaa
theorem utfOne_upto_holds : Rows.UtfOneUptoSaid := utfOne.over
#print axioms utfOne_upto_holds
end Go.Proofs.Ytdhoackhjojobaa
