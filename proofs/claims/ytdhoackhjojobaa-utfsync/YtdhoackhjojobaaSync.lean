/- UtfSync returns true whatever slice of ints and number are handed in, and leaves them as they were; there is no condition but the form's own reach. -/
import Derived.Test.YtdhoackhjojobaaBack
import Derived.Test.YtdhoackhjojobaaStarts
import Derived.Maps.OwnOps
import Derived.Maps.Views
import Derived.Handy
set_option linter.unusedVariables false
namespace Go.Proofs.Ytdhoackhjojobaa.utfSync
open Go.ChangeShapes Go.WideShapes Go.ChangeAt Go.RowKit Go.Maps
open Utf

theorem law3 : Keyed Try.prog 3 := int_keyed Try.underlying3
theorem zero3 (w : World) : (zeroValue 3).run Try.prog w = .ok (.int .i64 0) w := by kernel_rfl
theorem nat_wf (n : Nat) (h : n ≤ 9223372036854775807) : (Lit.int .i64 (n : Int)).wf = true := by
  have h1 : IntKind.i64.min = -9223372036854775808 := rfl
  have h2 : IntKind.i64.max = 9223372036854775807 := rfl
  simp only [Lit.wf, Bool.and_eq_true, decide_eq_true_eq]
  omega

theorem rest_math (a n : Int) (h : 0 < n) (hn : n ≤ 140737488355328) : ∃ k : Nat, (k : Int) < n ∧ (wrap64 (a.tmod n + n)).tmod n = (k : Int) := by
  have h1 := Int.tmod_lt_of_pos a h
  have h2 := Int.lt_tmod_of_pos a h
  have h3 : wrap64 (a.tmod n + n) = a.tmod n + n := IntWalk.wrap64_in _ ⟨by omega, by omega⟩
  rw [h3]
  have h4 := Int.tmod_nonneg n (show 0 ≤ a.tmod n + n by omega)
  have h5 := Int.tmod_lt_of_pos (a.tmod n + n) h
  exact ⟨((a.tmod n + n).tmod n).toNat, by omega, by omega⟩

set_option maxHeartbeats 400000 in
theorem rest_any (a n : Int) (w : World) (h : 0 < n) (hn : n ≤ 140737488355328) :
    Calls Try.prog 18 #[.int .i64 a, .int .i64 n] w fun e w' => ∃ k : Nat, (k : Int) < n ∧ e = .returned (.int .i64 (k : Int)) ∧ w' = w := by
  have h1 : ¬ n ≤ 0 := by omega
  obtain ⟨k, hk, he⟩ := rest_math a n h hn
  have He : Hid ((wrap64 (a.tmod n + n)).tmod n = (k : Int)) := he
  clear he
  go_enter Try.func18, Try.ntmps18
  go_wp2
  go_ret
  refine ⟨k, hk, ?_, rfl⟩
  rw [← He.out]
  rfl

/-- The map holds just the places where one of the first i characters begins. -/
def Holds (cs : List Nat) (i : Nat) (D : DataW Unit) : Prop :=
  IsMap D ∧ ∀ x : Nat, D.atKey (.int .i64 (x : Int)) (.lit (.int .i64 0)) = .lit (.int .i64 (if Plain.isStart cs i x = true then 1 else 0))
theorem holds_zero (cs : List Nat) : Holds cs 0 (.map []) := ⟨⟨_, rfl⟩, fun x => by rw [Plain.isStart_zero]; rfl⟩
theorem holds_succ {cs : List Nat} {i : Nat} {D : DataW Unit} (h : Holds cs i D) :
    Holds cs (i + 1) (D.put (.int .i64 ((Plain.text (cs.take i)).length : Int)) (.lit (.int .i64 1))) := by
  obtain ⟨hm, ha⟩ := h
  refine ⟨?_, fun x => ?_⟩
  · obtain ⟨es, rfl⟩ := hm
    exact ⟨_, rfl⟩
  · rw [Plain.isStart_succ]
    by_cases hx : (Plain.text (cs.take i)).length = x
    · rw [← hx, atKey_put_same hm (show WideAt.IsKeyLit (.int .i64 _) from trivial)]
      simp
    · rw [atKey_put_other (by simp; omega), ha x]
      have : ((Plain.text (cs.take i)).length == x) = false := by simp [hx]
      rw [this, Bool.or_false]

theorem get130 : Plain.get [130, 172] = (0, 0, 4) := by decide

set_option maxHeartbeats 1000000 in
theorem walk_some (b off cap : Nat) (zs : List Int) (a : Int) (w : World) (hb : b < w.heap.size) (hpos : 0 < zs.length) (hz : zs.length * 8 ≤ 140737488351232)
    (hc : ∀ j, j < zs.length → w.cell? ⟨b, off + j, none⟩ = some (.int .i64 (zs.getD j 0))) :
    Calls Try.prog 7 #[.slice (some ⟨b, off, none⟩) zs.length cap, .int .i64 a] w fun e w' => e = .returned (.bool true) ∧ Below w.heap.size w w' := by
  have Hc : Hid (∀ j, j < zs.length → w.cell? ⟨b, off + j, none⟩ = some (.int .i64 (zs.getD j 0))) := hc
  clear hc
  have hmm := @run_makeMap Try.prog
  go_enter Try.func7, Try.ntmps7
  go_wp2_with fail
  refine (get_any ⟨#[130, 172]⟩ _ (by decide)).mono ?_
  rintro e w1 ⟨rfl, q1, hw1⟩
  rw [show (⟨#[130, 172]⟩ : ByteArray).data.toList = [130, 172] from rfl, get130]
  unfold out
  simp only
  have hb1 : Below w.heap.size w w1 := by rw [hw1]; exact ⟨rfl, rfl, rfl, Nat.le_refl _, fun _ _ => rfl⟩
  clear hw1
  go_wp2_with fail
  have hc1 : ∀ j, j < zs.length → w1.cell? ⟨b, off + j, none⟩ = some (.int .i64 (zs.getD j 0)) := fun j hj => (hb1.cell (by exact hb)).trans (Hc.out j hj)
  refine (text_some b off zs.length cap zs _ rfl (by omega) (Nat.lt_of_lt_of_le hb hb1.size) hc1).mono ?_
  rintro e w2 ⟨hb2, ⟨hvs, rfl⟩ | ⟨hvs, rfl⟩⟩
  · have Hvs : Hid (Valids zs) := hvs
    have Hok : Hid (Plain.Oks (nats zs)) := nats_oks hvs
    have hB : Below w.heap.size w w2 := hb1.trans (hb2.mono hb1.size)
    have hBs : w.heap.size ≤ w2.heap.size := hB.size
    clear hvs hc1 hb1 hb2
    obtain ⟨cs, hcs⟩ : ∃ cs, nats zs = cs := ⟨_, rfl⟩
    have hlen : cs.length = zs.length := by rw [← hcs]; exact nats_len zs
    rw [hcs] at Hok ⊢
    have Hcs : Hid (nats zs = cs) := hcs
    clear hcs
    obtain ⟨s, hs⟩ : ∃ s : ByteArray, (⟨(Plain.text cs).toArray⟩ : ByteArray) = s := ⟨_, rfl⟩
    have hsl : s.data.toList = Plain.text cs := by rw [← hs]
    have hss : s.size = (Plain.text cs).length := by rw [← hs]; rfl
    rw [hs]
    have Hsl : Hid (s.data.toList = Plain.text cs) := hsl
    have Hss : Hid (s.size = (Plain.text cs).length) := hss
    have hL1 : s.size ≤ 4 * zs.length := by rw [hss, ← hlen]; exact Plain.text_le cs
    have hL2 : zs.length ≤ s.size := by rw [hss, ← hlen]; exact Plain.text_len cs
    have Hlen : Hid (cs.length = zs.length) := hlen
    clear hs hsl hss hlen
    have hne := not_nil s (by omega)
    go_wp2_with fail
    refine (rest_any a s.size _ (by omega) (by omega)).mono ?_
    rintro e w3 ⟨k, hk, rfl, hw3⟩
    rw [hw3]
    clear hw3 w3
    have hks : k < s.size := by omega
    go_wp2_with fail
    go_loopw [12, 50] (fun v12 v50 wr => ∃ (i pl : Nat) (D : DataW Unit), i ≤ zs.length ∧ v50 = .int .i64 (i : Int) ∧ v12 = .int .i64 (pl : Int) ∧ pl ≤ 4 * i ∧ Hid (pl = (Plain.text (cs.take i)).length) ∧ wr.ownsMap Try.prog 3 (plainElem Try.prog 3) w2.heap.size i D ∧ Hid (Holds cs i D) ∧ Below w.heap.size w wr)
      (fun _ v50 _ => zs.length - (intOf v50).toNat)
    case atStart => exact ⟨0, 0, .map [], Nat.zero_le _, rfl, rfl, Nat.le_refl _, rfl, World.ownsMap_made _ _ _ _, holds_zero cs, hB.alloc hB.size _⟩
    case round =>
      clear hB
      obtain ⟨i, pl, D, hi, rfl, rfl, hpl4, Hpl, hown, HD, hB⟩ := hrel
      by_cases hlt : i < zs.length
      · obtain ⟨z, hzd⟩ : ∃ z, zs.getD i 0 = z := ⟨_, rfl⟩
        have hcx : wr.cell? ⟨b, off + i, none⟩ = some (.int .i64 z) := by rw [← hzd]; exact (hB.cell (by exact hb)).trans (Hc.out i hlt)
        have hval : Utf8.valid z = true := by rw [← hzd]; exact Hvs.out _ (getD_mem zs i hlt)
        have hes : (Utf8.encode z).size ≤ 4 := by rw [utfBack.encode_size z hval]; exact Plain.bytes_le _
        have HS : Hid ((Plain.text (cs.take (i + 1))).length = pl + (Utf8.encode z).size) := by
          have h1 : i < cs.length := by rw [Hlen.out]; exact hlt
          rw [show (Plain.text (cs.take (i + 1))).length = _ from Plain.take_succ_text cs i h1, ← Hpl.out, utfBack.encode_size z hval]
          have h2 : cs[i] = z.toNat := by
            have h3 : cs[i]? = some z.toNat := by
              rw [← Hcs.out, nats, List.getElem?_map, List.getElem?_eq_getElem hlt]
              rw [← hzd, List.getD_eq_getElem?_getD, List.getElem?_eq_getElem hlt]
              rfl
            rw [List.getElem?_eq_getElem h1] at h3
            exact Option.some.inj h3
          rw [h2]
          exact rfl
        have hkey : keyOf Try.prog 3 (.int .i64 (pl : Int)) = some (.int .i64 (pl : Int)) := keyOf_int_mk Try.underlying3 (nat_wf pl (by omega))
        clear hzd
        go_wp2_with fail
        refine (put_yes z _ hval).mono ?_
        rintro e w4 ⟨rfl, hw4⟩
        rw [hw4]
        clear hw4 w4
        go_wp2_with (at_mapUpdate; refine wpList_mapUpdate_own _ rfl _ _ _ 40 rfl 3 3 law3 Try.underlying40 _ w2.heap.size i _ rfl hown (by unfold maxLen; omega) _ _ _ rfl rfl hkey _ [] (plainElem_int (a := 1) Try.underlying3 (by decide)) ?_)
        intro w4 hown1 hgrow1
        have HD1 : Hid (Holds cs (i + 1) (D.put (.int .i64 (pl : Int)) (.lit (.int .i64 1)))) := by
          have := holds_succ HD.out
          rw [← Hpl.out] at this
          exact this
        have hB1 : Below w.heap.size w w4 := hB.grown hgrow1 hB.size (fun j hj => by cases hj; exact hBs)
        clear hown hgrow1 hB HD hcx
        go_wp2_with fail
        go_roundw
        case rel => exact ⟨i + 1, pl + (Utf8.encode z).size, _, by omega, by go_num, by go_num, by omega, HS.out.symm, hown1, HD1, hB1⟩
        case measure => simp [intOf]; omega
      · obtain rfl : i = zs.length := by omega
        clear hpl4 Hpl
        rw [← Hlen.out] at HD
        go_wp2_with fail
        have hszx : (s.extract k s.size).size ≤ 9223372036854775807 := by rw [ByteArray.size_extract]; omega
        refine (get_any (s.extract k s.size) _ hszx).mono ?_
        rintro e w4 ⟨rfl, q4, hw4⟩
        rw [extract_drop, Hsl.out]
        obtain ⟨gc, gn, er, hg⟩ : ∃ gc gn er, Plain.get ((Plain.text cs).drop k) = (gc, gn, er) := ⟨_, _, _, rfl⟩
        have hst := Plain.start_iff cs Hok.out k (by rw [← Hss.out]; exact hks)
        have hsoon := Plain.soon cs k (by rw [← Hss.out]; exact hks)
        rw [← Hss.out] at hsoon
        rw [hg] at hst ⊢
        unfold out
        simp only at hst ⊢
        have hown4 : w4.ownsMap Try.prog 3 (plainElem Try.prog 3) w2.heap.size zs.length D := by rw [hw4]; exact hown
        have hB4 : Below w.heap.size w w4 := by rw [hw4]; exact ⟨hB.os, hB.tape, hB.output, hB.size, hB.block⟩
        clear hw4 hown hB hg hszx
        have hlook : ∀ x : Nat, x ≤ 1125899906842624 → ∀ kv : Int, kv = (x : Int) → (Instr.lookup 40 (.map (some w2.heap.size)) (.int .i64 kv) false).run Try.prog w4 = .ok (.int .i64 (if Plain.isStart cs cs.length x = true then 1 else 0)) w4 := by
          intro x hx kv hkv
          subst hkv
          obtain ⟨c, hrun, hat, _⟩ := hown4.lookup_int law3 Try.underlying40 Try.underlying3 (zero3 _) (keyOf_int_mk Try.underlying3 (nat_wf x (by omega)))
          rw [HD.out.2 x] at hat
          rw [hrun]
          have : c = if Plain.isStart cs cs.length x = true then 1 else 0 := by
            have h := DataW.lit.inj hat
            injection h with _ h
            exact h.symm
          rw [this]
        have Hlook : Hid (∀ x : Nat, x ≤ 1125899906842624 → ∀ kv : Int, kv = (x : Int) → (Instr.lookup 40 (.map (some w2.heap.size)) (.int .i64 kv) false).run Try.prog w4 = .ok (.int .i64 (if Plain.isStart cs cs.length x = true then 1 else 0)) w4) := hlook
        have Hst : Hid (er = 0 ↔ Plain.isStart cs cs.length k = true) := hst
        have Hsoon : Hid (∃ n, n < 4 ∧ (k + n = s.size ∨ Plain.isStart cs cs.length (k + n) = true)) := hsoon
        have hl0 := hlook k (by omega) k rfl
        clear hlook hst hsoon hown4 HD
        by_cases her : er = 0
        · have h1 := Hst.out.1 her
          rw [h1, if_pos rfl] at hl0
          subst her
          go_wp2_with fail
          clear hl0
          go_loop [81] (fun v => ∃ n : Nat, n ≤ 4 ∧ v = .int .i64 (n : Int) ∧ Hid (∀ m, m < n → ¬ (k + m = s.size ∨ Plain.isStart cs cs.length (k + m) = true))) (fun v => (4 - intOf v).toNat)
          case atStart => exact ⟨0, by omega, rfl, fun m hm => absurd hm (Nat.not_lt_zero m)⟩
          case round =>
            obtain ⟨n, hn4, rfl, Hn⟩ := hrel
            have hlt : n < 4 := by
              obtain ⟨m, hm, hh⟩ := Hsoon.out
              rcases Nat.lt_or_ge n 4 with h | h
              · exact h
              · exact absurd hh (Hn.out m (by omega))
            have hl1 := Hlook.out (k + n) (by omega) ((k : Int) + (n : Int)) (by omega)
            by_cases hend : k + n = s.size
            · have he2 : (((k : Int) + (n : Int)) == (s.size : Int)) = true := by simp; omega
              clear hl1
              go_wp2_with fail
              go_ret
              exact ⟨rfl, hB4⟩
            · have he2 : (((k : Int) + (n : Int)) == (s.size : Int)) = false := by simp; omega
              by_cases hs2 : Plain.isStart cs cs.length (k + n) = true
              · rw [if_pos hs2] at hl1
                go_wp2_with fail
                go_ret
                exact ⟨rfl, hB4⟩
              · rw [if_neg hs2] at hl1
                have Hn1 : Hid (∀ m, m < n + 1 → ¬ (k + m = s.size ∨ Plain.isStart cs cs.length (k + m) = true)) := by
                  intro m hm
                  rcases Nat.lt_or_ge m n with h | h
                  · exact Hn.out m h
                  · obtain rfl : m = n := by omega
                    exact fun h => h.elim hend hs2
                go_wp2_with fail
                exact ⟨⟨n + 1, by omega, by go_num, Hn1⟩, by simp [intOf]; omega⟩
        · have h1 : ¬ Plain.isStart cs cs.length k = true := fun h => her (Hst.out.2 h)
          rw [if_neg h1] at hl0
          have her2 : ((er : Int) == 0) = false := by simp; omega
          go_wp2_with fail
          clear hl0
          go_loop [81] (fun v => ∃ n : Nat, n ≤ 4 ∧ v = .int .i64 (n : Int) ∧ Hid (∀ m, m < n → ¬ (k + m = s.size ∨ Plain.isStart cs cs.length (k + m) = true))) (fun v => (4 - intOf v).toNat)
          case atStart => exact ⟨0, by omega, rfl, fun m hm => absurd hm (Nat.not_lt_zero m)⟩
          case round =>
            obtain ⟨n, hn4, rfl, Hn⟩ := hrel
            have hlt : n < 4 := by
              obtain ⟨m, hm, hh⟩ := Hsoon.out
              rcases Nat.lt_or_ge n 4 with h | h
              · exact h
              · exact absurd hh (Hn.out m (by omega))
            have hl1 := Hlook.out (k + n) (by omega) ((k : Int) + (n : Int)) (by omega)
            by_cases hend : k + n = s.size
            · have he2 : (((k : Int) + (n : Int)) == (s.size : Int)) = true := by simp; omega
              clear hl1
              go_wp2_with fail
              go_ret
              exact ⟨rfl, hB4⟩
            · have he2 : (((k : Int) + (n : Int)) == (s.size : Int)) = false := by simp; omega
              by_cases hs2 : Plain.isStart cs cs.length (k + n) = true
              · rw [if_pos hs2] at hl1
                go_wp2_with fail
                go_ret
                exact ⟨rfl, hB4⟩
              · rw [if_neg hs2] at hl1
                have Hn1 : Hid (∀ m, m < n + 1 → ¬ (k + m = s.size ∨ Plain.isStart cs cs.length (k + m) = true)) := by
                  intro m hm
                  rcases Nat.lt_or_ge m n with h | h
                  · exact Hn.out m h
                  · obtain rfl : m = n := by omega
                    exact fun h => h.elim hend hs2
                go_wp2_with fail
                exact ⟨⟨n + 1, by omega, by go_num, Hn1⟩, by simp [intOf]; omega⟩
  · have hB : Below w.heap.size w w2 := hb1.trans (hb2.mono hb1.size)
    go_wp2_with fail
    go_ret
    exact ⟨rfl, hB⟩

set_option maxHeartbeats 1000000 in
theorem walk_none (a0 : Option Addr) (cap : Nat) (a : Int) (w : World) :
    Calls Try.prog 7 #[.slice a0 0 cap, .int .i64 a] w fun e w' => e = .returned (.bool true) ∧ Below w.heap.size w w' := by
  go_enter Try.func7, Try.ntmps7
  go_wp2_with fail
  refine (get_any ⟨#[130, 172]⟩ _ (by decide)).mono ?_
  rintro e w1 ⟨rfl, q1, hw1⟩
  rw [show (⟨#[130, 172]⟩ : ByteArray).data.toList = [130, 172] from rfl, get130]
  unfold out
  simp only
  have hb1 : Below w.heap.size w w1 := by rw [hw1]; exact ⟨rfl, rfl, rfl, Nat.le_refl _, fun _ _ => rfl⟩
  clear hw1
  go_wp2_with fail
  refine (text_empty a0 cap _).mono ?_
  intro e w2 h
  obtain ⟨hb2, rfl⟩ := text_good (cs := []) (fun _ h => absurd h List.not_mem_nil) h
  rw [Plain.text_nil]
  have hB : Below w.heap.size w w2 := hb1.trans (hb2.mono hb1.size)
  clear h hb1 hb2
  go_wp2_with fail
  go_ret
  exact ⟨rfl, hB⟩

theorem walk (v : Value) (zs : List Int) (a : Int) (w : World) (hr : Reads w v zs) (hz : zs.length * 8 ≤ 140737488351232) :
    Calls Try.prog 7 #[v, .int .i64 a] w fun e w' => e = .returned (.bool true) ∧ Below w.heap.size w w' := by
  by_cases h0 : zs.length = 0
  · obtain ⟨a0, cap, rfl⟩ := hr.shape
    rw [h0]
    exact walk_none a0 cap a w
  · rcases hr with ⟨_, _, _, rfl⟩ | ⟨b, off, cap, rfl, hb, hc⟩
    · exact absurd rfl h0
    · exact walk_some b off cap zs a w hb (by omega) hz hc

set_option maxRecDepth 100000 in
theorem lifted (os : Os) (started : os.Started) (H : Type) (enc : TypeId × Value → H) :
    ReturnsInHanded {} Try.checked os 7 .any (Rows.utfSyncSpec.pre6 enc Try.prog Try.f7 Rows.utfSyncRow.domain false) (Rows.utfSyncSpec.post enc Try.prog Try.f7 false true false false) := by
  refine returnsInHanded_of_change_sized (C := Try.checked) utfBack.own started (by kernel_rfl) Try.func7
    (ChangeSpec.witness6 (enc := enc) (C := Try.checked) false ⟨#[], #[.slice none 0 0, .int .i64 0], []⟩ 8 (by kernel_rfl) (by kernel_rfl) (by kernel_rfl) (by kernel_rfl)) ?_
  intro W base args ds gs before hval0 hW _ hsz0 _
  have hsz : (DataW.weightsEach Try.prog (Try.f7.params.toList ++ Rows.utfSyncSpec.plain.varTypes Try.prog) (ds ++ gs)).all (· ≤ reachBytes) = true := hsz0
  clear hsz0
  have hval : ∀ (j : Nat) t v, Try.f7.params[j]? = some t → args[j]? = some v → Value.okWide Try.prog W .any base t v := hval0
  have hW' := hW
  obtain ⟨p, q, hA0, hV, rfl, _, _⟩ := hW
  have hA : DataW.TrodAll enc Try.prog W 0 (fun _ => true) true Try.f7.params.toList args.toList ds p := hA0
  rw [Try.params7] at hA hval hsz
  obtain ⟨v0, vs0, d0, ds0, p0, q0, hargs, rfl, rfl, h0, r0⟩ := trodAll_cons hA
  obtain ⟨v1, vs1, d1, ds1, p1, q1, rfl, rfl, rfl, h1, r1⟩ := trodAll_cons r0
  obtain ⟨rfl, rfl, rfl⟩ := trodAll_nil r1
  obtain rfl : args = #[v0, v1] := by cases args; simp_all
  obtain ⟨rfl, rfl⟩ := trodVars_none hV
  obtain ⟨a, rfl, rfl, rfl, wa⟩ := open_int Try.underlying3 (hval 1 3 v1 rfl rfl) h1
  obtain ⟨a0, len, cap, rfl⟩ := okWide_slice Try.underlying22 (hval 0 22 v0 rfl rfl)
  clear hA0 hval0
  simp only [List.append_nil] at hW'
  have hlt : ∀ x ∈ p0, x.block < W.heap.size := fun x hx => by simpa using hW'.lt x hx
  have hargs0 : ∀ (W' : World), Below W.heap.size W W' → DataW.Trod enc Try.prog W' 0 (fun b => decide (b < W.heap.size)) true 22 (.slice a0 len cap) d0 p0 :=
    fun W' hn => Below.trod utfBack.laidOut (by kernel_rfl) (of_decide_eq_true (by kernel_rfl)) h0 hn hlt
  obtain ⟨zs, hr, hcase⟩ := utfBack.open_reads h0 hlt
  have hreach : zs.length * 8 ≤ 140737488351232 := by
    rcases hcase with rfl | ⟨es, sp, rfl, he⟩
    · decide
    · have := sized_slice hsz (j := 0) (t := 22) (e := 3) rfl rfl Try.underlying22
      rw [utfBack.bytes3] at this
      simp only [reachBytes] at this
      omega
  refine (walk _ zs a W hr hreach).mono fun e W' ⟨he, hb⟩ => ?_
  subst he
  exact ⟨_, rfl, _, _, _, [], p0, [], hW', trodAll_cons_mk (shut_bool Try.underlying4 _) trodAll_mk0,
    by
      have := trodAll_cons_mk (hargs0 _ hb) (trodAll_cons_mk (shut_int (enc := enc) (w := W') (base := 0) (spare := fun b => decide (b < W.heap.size)) (held := true) Try.underlying3 wa) trodAll_mk0)
      simp only [List.append_nil] at this
      exact this,
    rfl, hb.frame _, fun h => by cases h⟩

theorem over : Rows.UtfSyncSaid :=
  OpenClaim.holds_of_wide 7 Try.f7 rfl rfl rfl rfl rfl rfl rfl ⟨rfl, rfl, rfl, rfl, rfl⟩ rfl rfl rfl rfl rfl (by kernel_rfl) Try.func7 (by kernel_rfl)
    (of_decide_eq_true (by kernel_rfl)) (by unfold Func.isWrapper; first | (rw [if_pos (by decide +kernel)]; kernel_rfl) | (rw [if_neg (by decide +kernel)]; exact ⟨rfl, rfl⟩))
    (fun os started H enc _ => lifted os started H enc)
end Go.Proofs.Ytdhoackhjojobaa.utfSync
namespace Go.Proofs.Ytdhoackhjojobaa
theorem utfSync_holds : Rows.UtfSyncSaid := utfSync.over
#print axioms utfSync_holds
end Go.Proofs.Ytdhoackhjojobaa
