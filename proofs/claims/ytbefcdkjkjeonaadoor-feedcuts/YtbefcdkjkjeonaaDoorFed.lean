/- The contract of fed: all characters of bytes that come in pieces, with the end. -/
import Derived.Test.YtbefcdkjkjeonaaDoorFeeds
import Derived.Laws.AppendOwnNone
set_option linter.unusedVariables false
set_option linter.unusedSimpArgs false
namespace Go.Proofs.YtbefcdkjkjeonaaDoor.Utf
open Go.RowKit

/-- Two owned rows, one behind the other. -/
theorem append_rows {w : World} {ops : Array Oper} {rest : List Oper} {o : Oper} {a : Act} {Q : Exit → Act → World → Prop} (hgd : o.guard = none) (s x : Operand)
    (ho : o.op = .call { callee := .builtin .append, args := #[s, x], argTypes := #[23, 23] }) (B B2 : Nat) (v v2 : Value) (cs ds : List Nat)
    (hs : a.eval s = v) (hown : w.ownsRow B 3 1 v cs.length (ints cs)) (hx : a.eval x = v2) (hown2 : w.ownsRow B2 3 1 v2 ds.length (ints ds))
    (hroom : (cs.length + ds.length) * 8 ≤ 140737488355328) (hbase : B ≤ w.heap.size)
    (h : ∀ v' w', w'.ownsRow B 3 1 v' (cs ++ ds).length (ints (cs ++ ds)) → Below B w w' → wpList Tryd.prog ops Q rest (a.put o.dst v') w') : wpList Tryd.prog ops Q (o :: rest) a w := by
  obtain ⟨i0, hi, hz0, hz1, hz2⟩ := info_parts info3
  rcases hown2.2 with ⟨e2, h0⟩ | ⟨g, cap, cur, e2, hg, hh, hn, hm, hsz, htake⟩
  · obtain rfl := List.length_eq_zero_iff.1 h0
    refine wpList_append_own_none hgd s x 23 ho B 3 i0 1 Tryd.underlying23 hi v cs.length (ints cs) hs hown (hx.trans e2) ?_
    exact h v w (by rw [List.append_nil]; exact hown) (Below.refl _ _)
  · refine wpList_append_own _ hgd s x 23 ho B 3 i0 (.int .i64 0) 1 8 Tryd.underlying23 hi hz0 hz1 hz2 rfl (by decide) v cs.length (ints cs) hs hown ⟨g, 0, none⟩ ds.length cap (ints ds) (hx.trans e2) (by unfold ints; simp) ?_ ?_ (by unfold maxLen; omega) hroom hbase ?_
    · intro j u hj
      rw [← htake] at hj
      have hju := List.getElem?_take.symm.trans hj
      split at hju
      · have e : (⟨g, 0, none⟩ : Addr).add j = ⟨g, j, none⟩ := by
          simp only [Addr.add]
          split <;> simp_all
        rw [e]
        unfold World.cell?
        simp only
        rw [hh]
        simpa using hju
      · cases hju
    · intro u hu
      unfold ints at hu
      obtain ⟨c, _, rfl⟩ := List.mem_map.1 hu
      rfl
    · intro v' w' hown' hgrow _
      refine h v' w' ?_ ((Below.refl _ _).grown hgrow hbase (fun j hj => (hown.lt j hj).1))
      unfold ints at hown' ⊢
      rw [List.map_append, List.length_append]
      exact hown'

/-- What fed says of some parts. -/
def FedPost (parts : List (List UInt8)) (w : World) (e : Ending) (w' : World) : Prop :=
  Below w.heap.size w w' ∧
  (((∃ s ∈ parts, 4096 < s.length) ∧ e = .returned (.tuple #[.slice none 0 0, .bool false])) ∨
   ((∀ s ∈ parts, s.length ≤ 4096) ∧ ∃ cs m v, Plain.Dec cs parts.flatten m ∧ e = .returned (.tuple #[v, .bool true]) ∧ w'.ownsRow w.heap.size 3 1 v (Plain.closed cs m).length (ints (Plain.closed cs m))))
theorem flat_le (parts : List (List UInt8)) (h : ∀ s ∈ parts, s.length ≤ 4096) : parts.flatten.length ≤ 4096 * parts.length := by
  induction parts with
  | nil => simp
  | cons a r ih =>
    have h1 := h a (List.mem_cons_self ..)
    have h2 := ih fun s hs => h s (List.mem_cons_of_mem _ hs)
    rw [List.flatten_cons, List.length_append, List.length_cons]
    omega
theorem toList_mk (l : List UInt8) : (⟨l.toArray⟩ : ByteArray).data.toList = l := by simp
theorem take_succ_flat (parts : List (List UInt8)) (k : Nat) (hk : k < parts.length) : (parts.take (k + 1)).flatten = (parts.take k).flatten ++ parts.getD k [] := by
  rw [List.take_succ_eq_append_getElem hk, List.flatten_append, List.getD_eq_getElem?_getD, List.getElem?_eq_getElem hk]
  simp
theorem getD_part (parts : List (List UInt8)) (k : Nat) (hk : k < parts.length) : parts.getD k [] ∈ parts := by
  rw [List.getD_eq_getElem?_getD, List.getElem?_eq_getElem hk]
  exact List.getElem_mem hk
theorem mem_take_succ {parts : List (List UInt8)} {k : Nat} (hk : k < parts.length) {s : List UInt8} (h : s ∈ parts.take (k + 1)) : s ∈ parts.take k ∨ s = parts.getD k [] := by
  rw [List.take_succ_eq_append_getElem hk] at h
  rcases List.mem_append.1 h with h | h
  · exact .inl h
  · right
    rw [List.getD_eq_getElem?_getD, List.getElem?_eq_getElem hk]
    simpa using h

set_option maxHeartbeats 2000000 in
theorem fed_any (pb n cap : Nat) (parts : List (List UInt8)) (w : World) (hT : Tabs w) (hn : parts.length = n) (hn3 : n ≤ 3) (hlt : pb < w.heap.size)
    (hsz : ∀ j, j < parts.length → (parts.getD j []).length ≤ 9223372036854775807) (hc : ∀ j, j < parts.length → w.cell? ⟨pb, 0 + j, none⟩ = some (.string ⟨(parts.getD j []).toArray⟩)) :
    Calls Tryd.prog 13 #[.slice (some ⟨pb, 0, none⟩) n cap] w fun e w' => FedPost parts w e w' := by
  have Hc : Hid (∀ j, j < parts.length → w.cell? ⟨pb, 0 + j, none⟩ = some (.string ⟨(parts.getD j []).toArray⟩)) := hc
  have Hsz : Hid (∀ j, j < parts.length → (parts.getD j []).length ≤ 9223372036854775807) := hsz
  clear hc hsz
  go_enter Tryd.func13, Tryd.ntmps13
  go_wp2_with fail
  go_loopw [4, 5, 15] (fun v pe i wr => ∃ (k : Nat) (cs : List Nat) (t : ByteArray), k ≤ n ∧ i = .int .i64 (k : Int) ∧ pe = .string t ∧ t.size ≤ 3 ∧ Hid (Plain.Dec cs (parts.take k).flatten t.data.toList) ∧ Hid (∀ s ∈ parts.take k, s.length ≤ 4096) ∧ cs.length ≤ 4096 * k ∧ wr.ownsRow w.heap.size 3 1 v cs.length (ints cs) ∧ Below w.heap.size w wr)
    (fun _ _ i _ => n - (intOf i).toNat)
  case atStart => exact ⟨0, [], ⟨#[]⟩, Nat.zero_le _, rfl, rfl, by decide, ⟨rfl, rfl⟩, (fun _ h => by simp at h), by simp, World.ownsRow_nil _ _ _ _, Below.refl _ _⟩
  case round =>
    obtain ⟨k, cs, t, hk, rfl, rfl, ht, Hd, Hs, hcs, hown, hb⟩ := hrel
    by_cases hkn : k < n
    · have hcx : wr.cell? ⟨pb, 0 + k, none⟩ = some (.string ⟨(parts.getD k []).toArray⟩) := (hb.cell (by exact hlt)).trans (Hc.out k (by omega))
      have hl := Hsz.out k (by omega)
      have Hflat : Hid ((parts.take (k + 1)).flatten = (parts.take k).flatten ++ parts.getD k []) := take_succ_flat parts k (by omega)
      have Hmem : Hid (parts.getD k [] ∈ parts) := getD_part parts k (by omega)
      have Hms : Hid (∀ s, s ∈ parts.take (k + 1) → s ∈ parts.take k ∨ s = parts.getD k []) := fun s h => mem_take_succ (by omega) h
      generalize parts.getD k [] = q at hcx hl Hflat Hmem Hms
      obtain ⟨u, hu⟩ : ∃ u : ByteArray, u = ⟨q.toArray⟩ := ⟨_, rfl⟩
      rw [← hu] at hcx
      have Hu : Hid (u.data.toList = q) := by rw [hu]; exact toList_mk q
      have hus : u.size ≤ 9223372036854775807 := by rw [← size_list, Hu.out]; exact hl
      clear hu
      rw [Nat.zero_add] at hcx
      go_wp2_with fail
      refine (feed_any t u _ (by omega) hus (hT.below hb)).mono ?_
      rintro e w1 ⟨hb1, hres⟩
      have hown1 := owned_below hown hb1
      have hbw := below_trans hb hb1
      have hbs := hbw.size
      rw [Hu.out] at hres
      rcases hres with ⟨hff, _⟩ | ⟨_, h96, rfl⟩ | ⟨_, h96, ds, m, v2, hdec, rfl, hown2⟩
      · rw [Hd.out.2] at hff
        cases hff
      · have H96 : Hid (4096 < q.length) := h96
        clear h96 hb1 hb hcx hl
        go_wp2_with fail
        go_ret2
        exact ⟨hbw, .inl ⟨⟨q, Hmem.out, H96.out⟩, rfl⟩⟩
      · have hfd := hdec.1.facts
        have hm3 : m.length ≤ 3 := Plain.pend_len _ hdec.2
        have hdl : ds.length ≤ 4099 - m.length := by
          have := hfd.2.1
          rw [List.length_append, size_list] at this
          omega
        have Hdec : Hid (Plain.Dec (cs ++ ds) (parts.take (k + 1)).flatten m) := by
          show Plain.Dec _ _ _
          rw [Hflat.out]
          exact Hd.out.then hdec
        have Hs1 : Hid (∀ s ∈ parts.take (k + 1), s.length ≤ 4096) := by
          intro s hs
          rcases Hms.out s hs with h | rfl
          · exact Hs.out s h
          · exact h96
        have hcl : (cs ++ ds).length ≤ 4096 * (k + 1) := by
          have h1 := Hdec.out.1.facts.2.1
          have h2 := flat_le _ Hs1.out
          rw [List.length_take] at h2
          have h3 : min (k + 1) parts.length = k + 1 := by omega
          rw [h3] at h2
          omega
        have hcd : (cs.length + ds.length) * 8 ≤ 140737488355328 := by rw [← List.length_append]; omega
        clear hdec hfd h96 hb1 hb hcx hl hown
        unfold str
        go_wp2_with (at_builtin; refine append_rows rfl _ _ rfl w.heap.size _ _ _ cs ds rfl hown1 rfl hown2 hcd hbs ?_)
        intro v' w5 hown5 hb5
        have hb6 := hbw.trans hb5
        clear hown1 hown2 hb5
        go_wp2_with fail
        go_roundw
        case rel => exact ⟨k + 1, cs ++ ds, ⟨m.toArray⟩, by omega, by go_num, rfl, by show m.toArray.size ≤ 3; simpa using hm3, by show Plain.Dec _ _ _; rw [toList_mk]; exact Hdec.out, Hs1.out, hcl, by rw [List.length_append]; exact hown5, hb6⟩
        case measure => simp [intOf]; omega
    · obtain rfl : k = n := by omega
      rw [List.take_of_length_le (by omega)] at Hd Hs
      go_wp2_with fail
      refine (end_any t _ (by omega) (hT.below hb)).mono ?_
      rintro e w1 ⟨hb1, hres⟩
      have hown1 := owned_below hown hb1
      have hbw := below_trans hb hb1
      have hbs := hbw.size
      rcases hres with ⟨hff, _⟩ | ⟨_, v2, ds, hds, rfl, hown2⟩
      · rw [Hd.out.2] at hff
        cases hff
      · have Hds : Hid (cs ++ ds = Plain.closed cs t.data.toList) := by
          show _ = _
          rw [hds]
          rfl
        have hdl : ds.length ≤ 1 := by rw [hds]; split <;> simp
        clear hds hb1 hb hown
        go_wp2_with (at_builtin; refine append_rows rfl _ _ rfl w.heap.size _ _ _ cs ds rfl hown1 rfl hown2 (by omega) hbs ?_)
        intro v' w5 hown5 hb5
        have hb6 := hbw.trans hb5
        clear hown1 hown2 hb5
        go_wp2_with fail
        go_ret2
        refine ⟨hb6, .inr ⟨Hs.out, cs, t.data.toList, v', Hd.out, rfl, ?_⟩⟩
        rw [← Hds.out, List.length_append]
        exact hown5
end Go.Proofs.YtbefcdkjkjeonaaDoor.Utf
