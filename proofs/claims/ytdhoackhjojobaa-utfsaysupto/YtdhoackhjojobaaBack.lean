/- UtfBack returns true whatever number, string and slice of ints are handed in, and leaves them as they were; there is no condition but the form's own reach. -/
import Derived.Test.YtdhoackhjojobaaReads
import Derived.ProofKit
import Derived.OpenShut
import Derived.SizedLaws
set_option linter.unusedVariables false
namespace Go.Proofs.Ytdhoackhjojobaa.utfBack
open Go.ChangeShapes Go.WideShapes Go.ChangeAt Go.RowKit
open Go.ChangeMaps (open_string shut_string)
open Utf
theorem v8364 : Utf8.valid 8364 = true := by decide
theorem e8364 : Utf8.encode 8364 = ⟨#[226, 130, 172]⟩ := rfl
theorem encode_size (c : Int) (h : Utf8.valid c = true) : (Utf8.encode c).size = (Plain.bytes c.toNat).length := by
  rw [← Plain.encode_bytes c h, Array.length_toList]; rfl
theorem encode_append (c : Int) (h : Utf8.valid c = true) (more : ByteArray) : (Utf8.encode c ++ more).data.toList = Plain.bytes c.toNat ++ more.data.toList := by
  rw [← Plain.encode_bytes c h, ByteArray.data_append, Array.toList_append]
theorem text_size (cs : List Nat) : (⟨(Plain.text cs).toArray⟩ : ByteArray).size = (Plain.text cs).length := rfl

set_option maxHeartbeats 1000000 in
theorem walk_yes (c : Int) (more : ByteArray) (a : Option Addr) (cap : Nat) (zs : List Int) (w : World) (hv : Utf8.valid c = true) (hm : more.size ≤ 140737488351232)
    (hr : Reads w (.slice a zs.length cap) zs) (hz : zs.length * 8 ≤ 140737488351232) :
    Calls Try.prog 4 #[.int .i64 c, .string more, .slice a zs.length cap] w fun e w' => e = .returned (.bool true) ∧ Below w.heap.size w w' := by
  have hes : (Utf8.encode c).size ≤ 4 := by rw [encode_size c hv]; exact Plain.bytes_le _
  go_enter Try.func4, Try.ntmps4
  go_wp2_with fail
  refine (put_yes 8364 _ v8364).mono ?_
  rintro e w1 ⟨rfl, hw1⟩
  rw [hw1, e8364]
  clear hw1 w1
  go_wp2_with fail
  refine (put_yes c _ hv).mono ?_
  rintro e w1 ⟨rfl, hw1⟩
  rw [hw1]
  clear hw1 w1
  go_wp2_with fail
  have hsz : (Utf8.encode c ++ more).size ≤ 9223372036854775807 := by rw [ByteArray.size_append]; omega
  refine (get_any _ _ hsz).mono ?_
  rintro e w2 ⟨rfl, q, hw2⟩
  rw [encode_append c hv, Plain.get_bytes _ (Plain.valid_ok hv)]
  unfold out
  simp only
  rw [Int.toNat_of_nonneg (Plain.valid_bounds hv).1, ← encode_size c hv]
  have hb0 : Below w.heap.size w w2 := by rw [hw2]; exact ⟨rfl, rfl, rfl, Nat.le_refl _, fun _ _ => rfl⟩
  have hr2 := hr.below hb0
  clear hr hw2
  go_wp2_with fail
  refine (text_reads _ zs _ hr2 (by omega)).mono ?_
  rintro e w3 ⟨hb3, ⟨hvs, rfl⟩ | ⟨hvs, rfl⟩⟩
  · have Hvs : Hid (Valids zs) := hvs
    have hok := nats_oks hvs
    have Hok : Hid (Plain.Oks (nats zs)) := hok
    have hlen : (nats zs).length * 8 ≤ 140737488355328 := by rw [nats_len]; omega
    have htl : (⟨(Plain.text (nats zs)).toArray⟩ : ByteArray).size ≤ 9223372036854775807 := by
      rw [text_size]; have := Plain.text_le (nats zs); omega
    clear hvs hok
    go_wp2_with fail
    refine (all_any ⟨(Plain.text (nats zs)).toArray⟩ _ htl (room_text Hok.out hlen)).mono ?_
    intro e w4 h
    obtain ⟨hb4, v4, rfl, hown⟩ := all_good rfl Hok.out h
    clear h
    go_wp2_with fail
    refine (count_any ⟨(Plain.text (nats zs)).toArray⟩ _ htl).mono ?_
    intro e w5 h
    obtain ⟨hb5, rfl⟩ := count_good rfl Hok.out h
    clear h
    have hr4 := owned_reads hown
    rw [casts_nats Hvs.out] at hr4
    have hr5 := hr4.below hb5
    have hr6 := (hr2.below hb3).below (hb4.trans (hb5.mono hb4.size))
    have hb : Below w.heap.size w w5 := hb0.trans ((hb3.mono hb0.size).trans ((hb4.mono (Nat.le_trans hb0.size hb3.size)).trans (hb5.mono (Nat.le_trans hb0.size (Nat.le_trans hb3.size hb4.size)))))
    have hnl : Hid ((nats zs).length = zs.length) := nats_len zs
    rw [nats_len]
    clear hr2 hr4 hown hlen htl
    go_wp2_with fail
    refine (equal_same _ _ zs _ hr5 hr6 (by omega)).mono ?_
    rintro e w6 ⟨rfl, q, rfl⟩
    have hb6 : Below w.heap.size w (w5.drewN q) := ⟨hb.os, hb.tape, hb.output, hb.size, hb.block⟩
    clear hr5 hr6 hb
    go_wp2_with fail
    go_ret
    exact ⟨rfl, hb6⟩
  · have hb : Below w.heap.size w w3 := hb0.trans (hb3.mono hb0.size)
    go_wp2_with fail
    go_ret
    exact ⟨rfl, hb⟩

set_option maxHeartbeats 1000000 in
theorem walk_no (c : Int) (more : ByteArray) (a : Option Addr) (cap : Nat) (zs : List Int) (w : World) (hv : Utf8.valid c = false) (hm : more.size ≤ 140737488351232)
    (hr : Reads w (.slice a zs.length cap) zs) (hz : zs.length * 8 ≤ 140737488351232) :
    Calls Try.prog 4 #[.int .i64 c, .string more, .slice a zs.length cap] w fun e w' => e = .returned (.bool true) ∧ Below w.heap.size w w' := by
  go_enter Try.func4, Try.ntmps4
  go_wp2_with fail
  refine (put_yes 8364 _ v8364).mono ?_
  rintro e w1 ⟨rfl, hw1⟩
  rw [hw1, e8364]
  clear hw1 w1
  go_wp2_with fail
  refine (put_no c _ hv).mono ?_
  rintro e w2 ⟨rfl, hw2⟩
  have hb0 : Below w.heap.size w w2 := by rw [hw2]; exact Below.refl _ _
  have hr2 := hr.below hb0
  clear hr hw2
  go_wp2_with fail
  refine (text_reads _ zs _ hr2 (by omega)).mono ?_
  rintro e w3 ⟨hb3, ⟨hvs, rfl⟩ | ⟨hvs, rfl⟩⟩
  · have Hvs : Hid (Valids zs) := hvs
    have hok := nats_oks hvs
    have Hok : Hid (Plain.Oks (nats zs)) := hok
    have hlen : (nats zs).length * 8 ≤ 140737488355328 := by rw [nats_len]; omega
    have htl : (⟨(Plain.text (nats zs)).toArray⟩ : ByteArray).size ≤ 9223372036854775807 := by
      rw [text_size]; have := Plain.text_le (nats zs); omega
    clear hvs hok
    go_wp2_with fail
    refine (all_any ⟨(Plain.text (nats zs)).toArray⟩ _ htl (room_text Hok.out hlen)).mono ?_
    intro e w4 h
    obtain ⟨hb4, v4, rfl, hown⟩ := all_good rfl Hok.out h
    clear h
    go_wp2_with fail
    refine (count_any ⟨(Plain.text (nats zs)).toArray⟩ _ htl).mono ?_
    intro e w5 h
    obtain ⟨hb5, rfl⟩ := count_good rfl Hok.out h
    clear h
    have hr4 := owned_reads hown
    rw [casts_nats Hvs.out] at hr4
    have hr5 := hr4.below hb5
    have hr6 := (hr2.below hb3).below (hb4.trans (hb5.mono hb4.size))
    have hb : Below w.heap.size w w5 := hb0.trans ((hb3.mono hb0.size).trans ((hb4.mono (Nat.le_trans hb0.size hb3.size)).trans (hb5.mono (Nat.le_trans hb0.size (Nat.le_trans hb3.size hb4.size)))))
    have hnl : Hid ((nats zs).length = zs.length) := nats_len zs
    rw [nats_len]
    clear hr2 hr4 hown hlen htl
    go_wp2_with fail
    refine (equal_same _ _ zs _ hr5 hr6 (by omega)).mono ?_
    rintro e w6 ⟨rfl, q, rfl⟩
    have hb6 : Below w.heap.size w (w5.drewN q) := ⟨hb.os, hb.tape, hb.output, hb.size, hb.block⟩
    clear hr5 hr6 hb
    go_wp2_with fail
    go_ret
    exact ⟨rfl, hb6⟩
  · have hb : Below w.heap.size w w3 := hb0.trans (hb3.mono hb0.size)
    go_wp2_with fail
    go_ret
    exact ⟨rfl, hb⟩

theorem walk (c : Int) (more : ByteArray) (v : Value) (zs : List Int) (w : World) (hm : more.size ≤ 140737488351232) (hr : Reads w v zs) (hz : zs.length * 8 ≤ 140737488351232) :
    Calls Try.prog 4 #[.int .i64 c, .string more, v] w fun e w' => e = .returned (.bool true) ∧ Below w.heap.size w w' := by
  obtain ⟨a, cap, rfl⟩ := hr.shape
  cases hv : Utf8.valid c with
  | true => exact walk_yes c more a cap zs w hv hm hr hz
  | false => exact walk_no c more a cap zs w hv hm hr hz

theorem own : ownKnob Try.prog.godebug = none := by kernel_rfl
theorem laidOut : laidOutB Try.prog = true := by kernel_rfl
theorem cells3 : Try.prog.cellsOf 3 = 1 := by kernel_rfl
theorem bytes3 : Try.prog.bytesOf 3 = 8 := by kernel_rfl

/-- A slice of ints that came in, opened. -/
theorem open_reads {H : Type} {enc : TypeId × Value → H} {W : World} {a0 : Option Addr} {len cap : Nat} {d0 : DataW H} {p0 : List MemPlace}
    (h0 : DataW.Trod enc Try.prog W 0 (fun _ => true) true 22 (.slice a0 len cap) d0 p0) (hlt : ∀ x ∈ p0, x.block < W.heap.size) :
    ∃ zs : List Int, Reads W (.slice a0 len cap) zs ∧ (zs = [] ∨ ∃ es sp, d0 = .slice es sp ∧ es.length = zs.length) := by
  obtain ⟨fuel, hf⟩ := h0
  rcases open_ints Try.underlying22 Try.underlying3 cells3 hf with ⟨hcs, hx⟩ | ⟨a, len', cap', zs, hcs, _, hl, hm, hz, hx, hcell, hwz⟩
  · simp [Value.cells] at hcs
    obtain ⟨rfl, rfl, rfl⟩ := hcs
    exact ⟨[], .inl ⟨none, 0, rfl, rfl⟩, .inl rfl⟩
  · simp [Value.cells] at hcs
    obtain ⟨rfl, rfl, rfl⟩ := hcs
    simp only [Prod.mk.injEq] at hx
    obtain ⟨rfl, rfl⟩ := hx
    simp only [if_true] at hz
    by_cases hl0 : len = 0
    · subst hl0
      exact ⟨[], .inl ⟨some a, cap, rfl, rfl⟩, .inl rfl⟩
    · obtain ⟨b, off, spot⟩ := a
      have hspot : spot = none := by simpa [Addr.add] using World.cell?_spot (hcell 0 (by omega))
      subst hspot
      have hbW : b < W.heap.size := hlt (.cell b off) (MemPlace.mem_row.2 ⟨0, by omega, by simp⟩)
      have htl : (zs.take len).length = len := by rw [List.length_take]; omega
      refine ⟨zs.take len, .inr ⟨b, off, cap, by rw [htl], hbW, fun j hj => ?_⟩, .inr ⟨_, _, rfl, by simp [lits]⟩⟩
      rw [htl] at hj
      rw [← add_plain, hcell j (by omega)]
      simp [hj]

set_option maxRecDepth 100000 in
theorem lifted (os : Os) (started : os.Started) (H : Type) (enc : TypeId × Value → H) :
    ReturnsInHanded {} Try.checked os 4 .any (Rows.utfBackSpec.pre6 enc Try.prog Try.f4 Rows.utfBackRow.domain false) (Rows.utfBackSpec.post enc Try.prog Try.f4 false true false false) := by
  refine returnsInHanded_of_change_sized (C := Try.checked) own started (by kernel_rfl) Try.func4
    (ChangeSpec.witness6 (enc := enc) (C := Try.checked) false ⟨#[], #[.int .i64 0, .string .empty, .slice none 0 0], []⟩ 8 (by kernel_rfl) (by kernel_rfl) (by kernel_rfl) (by kernel_rfl)) ?_
  intro W base args ds gs before hval0 hW _ hsz0 _
  have hsz : (DataW.weightsEach Try.prog (Try.f4.params.toList ++ Rows.utfBackSpec.plain.varTypes Try.prog) (ds ++ gs)).all (· ≤ reachBytes) = true := hsz0
  clear hsz0
  have hval : ∀ (j : Nat) t v, Try.f4.params[j]? = some t → args[j]? = some v → Value.okWide Try.prog W .any base t v := hval0
  have hW' := hW
  obtain ⟨p, q, hA0, hV, rfl, _, _⟩ := hW
  have hA : DataW.TrodAll enc Try.prog W 0 (fun _ => true) true Try.f4.params.toList args.toList ds p := hA0
  rw [Try.params4] at hA hval hsz
  obtain ⟨v0, vs0, d0, ds0, p0, q0, hargs, rfl, rfl, h0, r0⟩ := trodAll_cons hA
  obtain ⟨v1, vs1, d1, ds1, p1, q1, rfl, rfl, rfl, h1, r1⟩ := trodAll_cons r0
  obtain ⟨v2, vs2, d2, ds2, p2, q2, rfl, rfl, rfl, h2, r2⟩ := trodAll_cons r1
  obtain ⟨rfl, rfl, rfl⟩ := trodAll_nil r2
  obtain rfl : args = #[v0, v1, v2] := by cases args; simp_all
  obtain ⟨rfl, rfl⟩ := trodVars_none hV
  obtain ⟨c, rfl, rfl, rfl, wc⟩ := open_int Try.underlying3 (hval 0 3 v0 rfl rfl) h0
  obtain ⟨s, rfl, rfl, rfl, hmax⟩ := open_string Try.underlying9 (hval 1 9 v1 rfl rfl) h1
  obtain ⟨a2, len, cap, rfl⟩ := okWide_slice Try.underlying22 (hval 2 22 v2 rfl rfl)
  clear hA0 hval0
  simp only [List.append_nil, List.nil_append] at hW'
  have hlt : ∀ x ∈ p2, x.block < W.heap.size := fun x hx => by simpa using hW'.lt x hx
  have hargs2 : ∀ (W' : World), Below W.heap.size W W' → DataW.Trod enc Try.prog W' 0 (fun b => decide (b < W.heap.size)) true 22 (.slice a2 len cap) d2 p2 :=
    fun W' hn => Below.trod laidOut (by kernel_rfl) (of_decide_eq_true (by kernel_rfl)) h2 hn hlt
  obtain ⟨zs, hr, hcase⟩ := open_reads h2 hlt
  have hms : s.size ≤ 140737488351232 := by
    have := sized_string hsz (j := 1) (t := 9) rfl rfl
    rw [Array.length_toList] at this
    exact this
  have hreach : zs.length * 8 ≤ 140737488351232 := by
    rcases hcase with rfl | ⟨es, sp, rfl, he⟩
    · decide
    · have := sized_slice hsz (j := 2) (t := 22) (e := 3) rfl rfl Try.underlying22
      rw [bytes3] at this
      simp only [reachBytes] at this
      omega
  refine (walk c s _ zs W hms hr hreach).mono fun e W' ⟨he, hb⟩ => ?_
  subst he
  exact ⟨_, rfl, _, _, _, [], p2, [], hW', trodAll_cons_mk (shut_bool Try.underlying4 _) trodAll_mk0,
    by
      have := trodAll_cons_mk (ds := [.lit (.string s.data.toList), d2]) (shut_int (enc := enc) (w := W') (base := 0) (spare := fun b => decide (b < W.heap.size)) (held := true) Try.underlying3 wc) (trodAll_cons_mk (shut_string Try.underlying9 hmax) (trodAll_cons_mk (hargs2 _ hb) trodAll_mk0))
      simp only [List.append_nil, List.nil_append] at this
      exact this,
    rfl, hb.frame _, fun h => by cases h⟩

theorem over : Rows.UtfBackSaid :=
  OpenClaim.holds_of_wide 4 Try.f4 rfl rfl rfl rfl rfl rfl rfl ⟨rfl, rfl, rfl, rfl, rfl⟩ rfl rfl rfl rfl rfl (by kernel_rfl) Try.func4 (by kernel_rfl)
    (of_decide_eq_true (by kernel_rfl)) (by unfold Func.isWrapper; first | (rw [if_pos (by decide +kernel)]; kernel_rfl) | (rw [if_neg (by decide +kernel)]; exact ⟨rfl, rfl⟩))
    (fun os started H enc _ => lifted os started H enc)
end Go.Proofs.Ytdhoackhjojobaa.utfBack
namespace Go.Proofs.Ytdhoackhjojobaa
theorem utfBack_holds : Rows.UtfBackSaid := utfBack.over
#print axioms utfBack_holds
end Go.Proofs.Ytdhoackhjojobaa
