/- The contract of the document's Right. -/
import Derived.Test.YtoknmihooopnnaaBracketGo
import Derived.Test.YtoknmihooopnnaaRightGo
import Derived.Test.YtoknmihooopnnaaOwns
import Derived.Deep.RegionLaw
set_option linter.unusedVariables false
set_option linter.unusedSimpArgs false
namespace Go.Proofs.Ytoknmihooopnnaa.Plain
/-- The pair at place j touches. -/
def touch (L : List Int) (j : Nat) : Prop := opens (L.getD j 0) = true ∧ L.getD (j + 1) 0 = kind (L.getD j 0)
theorem touch_split (L : List Int) (p : Nat) (h : p + 1 < L.length) (ht : touch L p) : right (L.take p ++ L.drop (p + 2)) = right L := by
  have e : L = L.take p ++ (L.getD p 0 :: kind (L.getD p 0) :: L.drop (p + 2)) := by
    rw [← ht.2]
    have h1 : L.getD p 0 = L[p] := by rw [List.getD_eq_getElem?_getD, List.getElem?_eq_getElem (by omega)]; rfl
    have h2 : L.getD (p + 1) 0 = L[p + 1] := by rw [List.getD_eq_getElem?_getD, List.getElem?_eq_getElem h]; rfl
    rw [h1, h2, ← List.drop_eq_getElem_cons h, ← List.drop_eq_getElem_cons (by omega), List.take_append_drop]
  unfold right
  rw [← rgo_touch (L.take p) (L.drop (p + 2)) (L.getD p 0) ht.1 [], ← e]
theorem opn_zero {c : Int} : (opn c != 0) = brack c := by
  rcases sort c with h4 | h4 | h4
  · rw [(opn_open h4.1).1]
    unfold brack
    rw [h4.1]
    rcases opens_cases h4.1 with h | h | h <;> rw [h] <;> rfl
  · rw [(opn_shut h4.2.1).1]
    unfold brack
    rw [h4.2.1]
    simpa using h4.2.2.1
  · rw [(opn_other h4.1 h4.2.1).1]
    unfold brack
    rw [h4.1, h4.2.1]
    rfl
theorem filter_next (zs : List Int) (k : Nat) (h : k < zs.length) : (zs.take (k + 1)).filter brack = (zs.take k).filter brack ++ (if brack (zs.getD k 0) = true then [zs.getD k 0] else []) := by
  rw [Seek.take_next zs k h, List.filter_append]
  congr 1
  by_cases hb : brack (zs.getD k 0) = true
  · rw [if_pos hb, List.filter_cons_of_pos hb]
    rfl
  · rw [if_neg hb, List.filter_cons_of_neg hb]
    rfl
end Go.Proofs.Ytoknmihooopnnaa.Plain
namespace Go.Proofs.Ytoknmihooopnnaa.Seek
open Go.RowKit Plain

def lenOf : Value → Nat
  | .slice _ n _ => n
  | _ => 0
theorem clone_row (v : Value) (zs : List Int) (w : World) (h : Reads w v zs) (hr : zs.length * 8 ≤ 140737488355328) :
    Calls Try.prog 16 #[v] w fun e w' => Below w.heap.size w w' ∧ ∃ v', e = .returned v' ∧ w'.ownsRow w.heap.size 3 1 v' zs.length (ints zs) := by
  rcases h with ⟨a, cap, rfl, rfl⟩ | ⟨b, off, cap, rfl, _, _, _, hc⟩
  · cases a with
    | none =>
      refine (Try.slices_Clone_int_nil 0 cap w).mono ?_
      rintro e w' ⟨rfl, rfl⟩
      exact ⟨Below.refl _ _, _, rfl, World.ownsRow_nil _ _ _ _⟩
    | some a =>
      refine (Try.slices_Clone_int_zero a cap w).mono ?_
      rintro e w' ⟨v', rfl, hown, _, hb⟩
      exact ⟨hb, v', rfl, hown⟩
  · refine (Try.slices_Clone_int b off zs.length cap zs w (Nat.le_refl _) hr hc).mono ?_
    rintro e w' ⟨v', rfl, hown, _, hb⟩
    rw [List.take_length] at hown
    exact ⟨hb, v', rfl, hown⟩
/-- Some numbers more, as a step of a region that draws its order. -/
theorem step_join {ops : Array Oper} {o : Oper} {a : Act} {w : World} {K : Act → World → Prop} {Q : Exit → Act → World → Prop} {E : Prop}
    (hg : o.guard = none) (s x : Operand) (hop : o.op = Op.call { callee := Callee.builtin Builtin.append, args := #[s, x], argTypes := #[22, 22] })
    (B : Nat) (v : Value) (xs ys : List Int) (ad : Addr) (c : Nat) (hs : a.eval s = v) (hx : a.eval x = .slice (some ad) ys.length c)
    (hown : w.ownsRow B 3 1 v xs.length (ints xs)) (hc : ∀ j, j < ys.length → w.cell? (ad.add j) = some (.int .i64 (ys.getD j 0))) (hroom : (xs.length + ys.length) * 8 ≤ 140737488355328) (hbase : B ≤ w.heap.size)
    (hK : ∀ v' w', w'.ownsRow B 3 1 v' (xs ++ ys).length (ints (xs ++ ys)) → Below B w w' → K (a.put o.dst v') w') :
    if Region.wanted o (yielded ops a.tmps) = true then Oper.wp Try.prog o a w K Q else E := by
  obtain ⟨i0, hi, hz0, hz1, hz2⟩ := info_parts info3
  have hw : Region.wanted o (yielded ops a.tmps) = true := by simp [Region.wanted, hg]
  rw [if_pos hw]
  refine wp_append_own w s x 22 hop B 3 i0 (.int .i64 0) 1 8 Try.underlying22 hi hz0 hz1 hz2 rfl (by decide) v xs.length (ints xs) hs hown ad ys.length c (ints ys) hx (by rw [ints_len, Nat.mul_one]) ?_ ?_ (by unfold maxLen; omega) hroom hbase ?_
  · intro j u hj
    unfold ints at hj
    rw [List.getElem?_map] at hj
    by_cases hjl : j < ys.length
    · rw [List.getElem?_eq_getElem hjl] at hj
      have h1 := hc j hjl
      rw [List.getD_eq_getElem?_getD, List.getElem?_eq_getElem hjl] at h1
      rw [h1]
      simpa using hj
    · rw [List.getElem?_eq_none (by omega)] at hj
      cases hj
  · intro u hu
    unfold ints at hu
    obtain ⟨c, _, rfl⟩ := List.mem_map.1 hu
    rfl
  · intro v' w' hown' hgrow _
    refine hK v' w' ?_ ((Below.refl _ _).grown hgrow hbase (fun j hj => (hown.lt j hj).1))
    rw [ints_append, List.length_append]
    exact hown'

theorem owned_lenOf {w : World} {B n : Nat} {v : Value} {xs : List Value} (h : w.ownsRow B 3 1 v n xs) : lenOf v = n := by
  rcases h.2 with ⟨rfl, h0⟩ | ⟨g, cap, cur, rfl, _⟩
  · exact h0.symm
  · rfl
def RefRightPost (zs : List Int) (w : World) (e : Ending) (w' : World) : Prop := e = .returned (.bool (right zs)) ∧ Below w.heap.size w w'

set_option maxRecDepth 100000 in
set_option maxHeartbeats 8000000 in
theorem refright_some (b off cap : Nat) (zs : List Int) (w : World) (hpl : zs.length ≤ 4096) (hb : b < w.heap.size)
    (hcp : ∀ j, j < zs.length → w.cell? ⟨b, off + j, none⟩ = some (.int .i64 (zs.getD j 0))) :
    Calls Try.prog 11 #[.slice (some ⟨b, off, none⟩) zs.length cap] w fun e w' => RefRightPost zs w e w' := by
  obtain ⟨i0, hi, hz0, hz1, hz2⟩ := info_parts info3
  have Hcp : Hid (∀ j, j < zs.length → w.cell? ⟨b, off + j, none⟩ = some (.int .i64 (zs.getD j 0))) := hcp
  clear hcp
  go_enter Try.func11, Try.ntmps11
  go_wp2_with fail
  go_loopw [3, 14] (fun u3 u14 wr => ∃ (k : Nat) (L : List Int), u14 = .int .i64 (k : Int) ∧ k ≤ zs.length ∧ Hid (L = (zs.take k).filter brack) ∧ L.length ≤ k ∧ wr.ownsRow w.heap.size 3 1 u3 L.length (ints L) ∧ Below w.heap.size w wr)
    (fun _ u14 _ => zs.length - (intOf u14).toNat)
  case atStart => exact ⟨0, [], rfl, by omega, rfl, by simp, World.ownsRow_nil _ _ _ _, Below.refl _ _⟩
  case round =>
    obtain ⟨k, L, rfl, hk, HL, hLk, hown, hbr⟩ := hrel
    have hbs := hbr.size
    by_cases hlt : k < zs.length
    · have hcx : wr.cell? ⟨b, off + k, none⟩ = some (.int .i64 (zs.getD k 0)) := (hbr.cell (by exact hb)).trans (Hcp.out _ hlt)
      have Hnx := filter_next zs k hlt
      obtain ⟨c, hc⟩ : ∃ c, c = zs.getD k 0 := ⟨_, rfl⟩
      rw [← hc] at hcx Hnx
      clear hc
      rw [← HL.out] at Hnx
      have Hnx2 : Hid ((zs.take (k + 1)).filter brack = L ++ (if brack c = true then [c] else [])) := Hnx
      clear Hnx HL
      go_wp2_with fail
      refine (bracket_go c wr).mono ?_
      rintro e w1 ⟨rfl, hb1⟩
      have hbr1 := below_trans hbr hb1 hbr.size
      have Ho : Hid (w1.ownsRow w.heap.size 3 1 u3 L.length (ints L)) := owned_below hown hb1
      have hz : (opn c != 0) = brack c := opn_zero
      have hbs1 := hbr1.size
      clear hown hb1 hbr hcx hbs
      by_cases hbk : brack c = true
      · rw [hbk] at hz
        have Hn : Hid (L ++ [c] = (zs.take (k + 1)).filter brack) := by
          show _ = _
          rw [Hnx2.out, if_pos hbk]
        clear Hnx2 hbk
        generalize opn c = oc at *
        generalize sht c = sc at *
        go_wp2_with (at_builtin; refine wpList_append_own _ rfl _ _ 22 rfl w.heap.size 3 i0 (.int .i64 0) 1 8 Try.underlying22 hi hz0 hz1 hz2 rfl (by decide) _ _ _ rfl (Ho.out.alloc _) ⟨w1.heap.size, 0, none⟩ 1 1 [.int .i64 c] rfl rfl ?c1 ?c2 ?c3 ?c4 ?c5 ?_)
        case c1 =>
          intro j u hj
          match j, hj with
          | 0, hj => simp at hj; subst hj; simp [Addr.add]
        case c2 => intro u hu; simp at hu; subst hu; rfl
        case c3 => unfold maxLen; omega
        case c4 => omega
        case c5 => simp; omega
        intro v' w5 hown' hgrow _
        have hb5 : Below w.heap.size w w5 := (hbr1.alloc hbr1.size _).grown hgrow (by simp; omega) (fun j hj => (Ho.out.lt j hj).1)
        have Ho5 : Hid (w5.ownsRow w.heap.size 3 1 v' (L ++ [c]).length (ints (L ++ [c]))) := by
          show World.ownsRow _ _ _ _ _ _ _
          rw [ints_append, List.length_append]
          exact hown'
        clear hown' hgrow hbr1 Ho
        go_wp2_with fail
        go_roundw
        case rel => exact ⟨k + 1, L ++ [c], by go_num, by omega, Hn.out, by simp; omega, Ho5.out, hb5⟩
        case measure => simp [intOf]; omega
      · have hbk2 : brack c = false := by simpa using hbk
        rw [hbk2] at hz
        have Hn : Hid (L = (zs.take (k + 1)).filter brack) := by
          show _ = _
          rw [Hnx2.out, if_neg hbk, List.append_nil]
        clear Hnx2 hbk hbk2
        generalize opn c = oc at *
        generalize sht c = sc at *
        go_wp2_with fail
        go_roundw
        case rel => exact ⟨k + 1, L, by go_num, by omega, Hn.out, by omega, Ho.out, hbr1⟩
        case measure => simp [intOf]; omega
    · obtain rfl : k = zs.length := by omega
      have HR : Hid ((∀ x ∈ L, brack x = true) ∧ right L = right zs) := by
        have h := HL.out
        rw [List.take_length] at h
        subst h
        refine ⟨fun x hx => (List.mem_filter.1 hx).2, ?_⟩
        unfold right
        rw [rgo_filter]
      have hr := owned_reads hown
      clear hown HL
      go_wp2_with fail
      go_loopw [3] (fun u3 wr => ∃ L : List Int, Hid (Reads wr u3 L) ∧ L.length ≤ 4096 ∧ Hid ((∀ x ∈ L, brack x = true) ∧ right L = right zs) ∧ Below w.heap.size w wr) (fun u3 _ => lenOf u3)
      case atStart => exact ⟨L, hr, by omega, HR.out, hbr⟩
      case round =>
        clear HR hr hbr hbs hLk hk
        clear L
        obtain ⟨L, Hr, hL, HR, hbr⟩ := hrel
        obtain ⟨wo, hwo⟩ : ∃ wo, wo = wr := ⟨_, rfl⟩
        subst hwo
        obtain ⟨a3, cp, hv⟩ := Hr.out.shape
        subst hv
        by_cases hL0 : L.length = 0
        · have hLn := List.length_eq_zero_iff.1 hL0
          have Hres : Hid (right zs = true) := by
            show _ = _
            rw [← HR.out.2, hLn]
            rfl
          rw [hL0]
          clear Hr HR hL0 hLn
          go_wp2_with fail
          refine wp_loop_rounds 1 ?_
          rw [rounds_succ]
          go_wp2_with fail
          go_ret
          refine ⟨?_, hbr⟩
          rw [Hres.out]
          rfl
        · obtain ⟨g, go, hb3, hcap3, hcm3, hg3, Hc3⟩ : ∃ g go, a3 = some ⟨g, go, none⟩ ∧ L.length ≤ cp ∧ cp ≤ maxLen ∧ g < wo.heap.size ∧ Hid (∀ j, j < L.length → wo.cell? ⟨g, go + j, none⟩ = some (.int .i64 (L.getD j 0))) := by
            rcases Hr.out with ⟨_, _, _, h⟩ | ⟨g, go, c, he, h1, h2, h3, h4⟩
            · rw [h] at hL0
              exact absurd rfl hL0
            · simp only [Value.slice.injEq] at he
              obtain ⟨rfl, _, rfl⟩ := he
              exact ⟨g, go, rfl, h1, h2, h3, h4⟩
          subst hb3
          clear Hr
          go_wp2_with fail
          go_loopw [8, 9] (fun u8 u9 wi => ∃ (i : Nat) (r : Int), u9 = .int .i64 (i : Int) ∧ u8 = .int .i64 r ∧ i ≤ L.length ∧
              Hid ((r = -1 ∧ ∀ j, j < i → j + 1 < L.length → ¬ touch L j) ∨ (∃ p : Nat, r = (p : Int) ∧ p + 1 < L.length ∧ touch L p)) ∧ Below wo.heap.size wo wi)
            (fun _ u9 _ => L.length - (intOf u9).toNat)
          case atStart => exact ⟨0, -1, rfl, rfl, by omega, .inl ⟨rfl, fun j hj => by omega⟩, Below.refl _ _⟩
          case round =>
            obtain ⟨i, r, rfl, rfl, hi2, Hor, hbi⟩ := hrel
            have hbi2 := hbi.size
            by_cases hlt : i + 1 < L.length
            · have hc1 : wr.cell? ⟨g, go + i, none⟩ = some (.int .i64 (L.getD i 0)) := (hbi.cell (by exact hg3)).trans (Hc3.out i (by omega))
              have Hbk : Hid (brack (L.getD i 0) = true) := HR.out.1 _ (by
                rw [List.getD_eq_getElem?_getD, List.getElem?_eq_getElem (by omega)]
                exact List.getElem_mem _)
              have Ht : Hid (touch L i ↔ opens (L.getD i 0) = true ∧ L.getD (i + 1) 0 = kind (L.getD i 0)) := Iff.rfl
              have Hnew : Hid (¬ touch L i → ((r = -1 ∧ ∀ j, j < i + 1 → j + 1 < L.length → ¬ touch L j) ∨ (∃ p : Nat, r = (p : Int) ∧ p + 1 < L.length ∧ touch L p))) := by
                intro hnt
                rcases Hor.out with ⟨h1, h2⟩ | h1
                · refine .inl ⟨h1, fun j hj hj2 => ?_⟩
                  by_cases hji : j = i
                  · rw [hji]
                    exact hnt
                  · exact h2 j (by omega) hj2
                · exact .inr h1
              have hc2 : Hid (∀ w', Below wr.heap.size wr w' → w'.cell? ⟨g, go + i, none⟩ = some (.int .i64 (L.getD i 0)) ∧ w'.cell? ⟨g, go + (i + 1), none⟩ = some (.int .i64 (L.getD (i + 1) 0))) := fun w' hw' =>
                ⟨((below_trans hbi hw' hbi.size).cell (by exact hg3)).trans (Hc3.out i (by omega)), ((below_trans hbi hw' hbi.size).cell (by exact hg3)).trans (Hc3.out (i + 1) hlt)⟩
              obtain ⟨y, hy⟩ : ∃ y, y = L.getD i 0 := ⟨_, rfl⟩
              obtain ⟨z, hzz⟩ : ∃ z, z = L.getD (i + 1) 0 := ⟨_, rfl⟩
              rw [← hy] at hc1 Hbk
              rw [← hy, ← hzz] at Ht hc2
              clear hy hzz
              have hI1 : (i : Int) < (L.length : Int) := by omega
              have hI2 : (i : Int) + 1 < (L.length : Int) := by omega
              go_wp2_with fail
              refine (bracket_go y wr).mono ?_
              rintro e w4 ⟨rfl, hb4⟩
              have hd1 := (hc2.out w4 hb4).1
              have hd2 := (hc2.out w4 hb4).2
              have hbi4 := below_trans hbi hb4 hbi.size
              clear hc1 hc2 hb4 hbi hbi2
              by_cases hop : opens y = true
              · rw [(opn_open hop).1, (opn_open hop).2]
                have hyy : (y == y) = true := by simp
                by_cases hzk : z = kind y
                · have Hnew2 : Hid ((( (i : Int) = -1 ∧ ∀ j, j < i + 1 → j + 1 < L.length → ¬ touch L j) ∨ (∃ p : Nat, (i : Int) = (p : Int) ∧ p + 1 < L.length ∧ touch L p))) := .inr ⟨i, rfl, hlt, Ht.out.2 ⟨hop, hzk⟩⟩
                  rw [← hzk]
                  clear Hnew Ht Hor hop hzk
                  have hzz : (z == z) = true := by simp
                  go_wp2_with fail
                  go_roundw
                  case rel => exact ⟨i + 1, i, by go_num, rfl, by omega, Hnew2.out, hbi4⟩
                  case measure => simp [intOf]; omega
                · have Hnew2 : Hid (((r = -1 ∧ ∀ j, j < i + 1 → j + 1 < L.length → ¬ touch L j) ∨ (∃ p : Nat, r = (p : Int) ∧ p + 1 < L.length ∧ touch L p))) := Hnew.out (fun h => hzk (Ht.out.1 h).2)
                  have hzz : (z == kind y) = false := by simpa using hzk
                  clear Hnew Ht Hor hop hzk
                  generalize kind y = ky at *
                  go_wp2_with fail
                  go_roundw
                  case rel => exact ⟨i + 1, r, by go_num, rfl, by omega, Hnew2.out, hbi4⟩
                  case measure => simp [intOf]; omega
              · have hsh : shuts y = true := by
                  have h := Hbk.out
                  unfold brack at h
                  simp only [Bool.or_eq_true] at h
                  exact h.resolve_left hop
                have Hnew2 : Hid (((r = -1 ∧ ∀ j, j < i + 1 → j + 1 < L.length → ¬ touch L j) ∨ (∃ p : Nat, r = (p : Int) ∧ p + 1 < L.length ∧ touch L p))) := Hnew.out (fun h => hop (Ht.out.1 h).1)
                rw [(opn_shut hsh).1, (opn_shut hsh).2]
                have hyk : (y == kind y) = false := by rcases shuts_cases hsh with h | h | h <;> rw [h] <;> decide
                clear Hnew Ht Hor hop hsh
                generalize kind y = ky at *
                go_wp2_with fail
                go_roundw
                case rel => exact ⟨i + 1, r, by go_num, rfl, by omega, Hnew2.out, hbi4⟩
                case measure => simp [intOf]; omega
            · have hlt2 : ¬ ((i : Int) + 1 < (L.length : Int)) := by omega
              have hbw : Below w.heap.size w wr := below_trans hbr hbi hbr.size
              rcases Hor.out with ⟨rfl, hno⟩ | ⟨p, rfl, hp, ht⟩
              · have Hres : Hid (right zs = (L.length == 0)) := by
                  show _ = _
                  rw [← HR.out.2]
                  exact no_touch L HR.out.1 (fun j hj => hno j (by omega) hj)
                have hLz : ((L.length : Int) == 0) = false := by simp; intro h; exact hL0 (by rw [h]; rfl)
                have hLz2 : (L.length == 0) = false := by simpa using hL0
                rw [hLz2] at Hres
                clear Hor hno HR hlt hLz2
                go_wp2_with fail
                go_ret
                refine ⟨?_, hbw⟩
                rw [Hres.out]
                rfl
              · have HR2 : Hid ((∀ x ∈ L.take p ++ L.drop (p + 2), brack x = true) ∧ right (L.take p ++ L.drop (p + 2)) = right zs) := by
                  refine ⟨fun x hx => ?_, ?_⟩
                  · rcases List.mem_append.1 hx with h | h
                    · exact HR.out.1 x (List.mem_of_mem_take h)
                    · exact HR.out.1 x (List.mem_of_mem_drop h)
                  · rw [touch_split L p hp ht]
                    exact HR.out.2
                clear Hor ht HR
                have hpl1 : ((L.take p).length) = p := by rw [List.length_take]; omega
                have hyl : (L.drop (p + 2)).length = L.length - (p + 2) := List.length_drop
                obtain ⟨A, hA, Hnews⟩ : ∃ A : Addr, (if cp = p + 2 then some (⟨g, go, none⟩ : Addr) else some ⟨g, go + (p + 2), none⟩) = some A ∧ Hid (∀ j, j < (L.drop (p + 2)).length → wo.cell? (A.add j) = some (.int .i64 ((L.drop (p + 2)).getD j 0)) ∧ (A.add j).block = g) := by
                  by_cases hce : cp = p + 2
                  · rw [if_pos hce]
                    exact ⟨_, rfl, fun j hj => by rw [hyl] at hj; omega⟩
                  · rw [if_neg hce]
                    refine ⟨_, rfl, fun j hj => ?_⟩
                    rw [hyl] at hj
                    have h := Hc3.out (p + 2 + j) (by omega)
                    have e : (⟨g, go + (p + 2), none⟩ : Addr).add j = ⟨g, go + (p + 2 + j), none⟩ := by
                      simp only [Addr.add]
                      split <;> simp_all [Nat.add_assoc]
                    rw [e, h]
                    refine ⟨?_, rfl⟩
                    simp [List.getD_eq_getElem?_getD, List.getElem?_drop]
                have Hr1 : Hid (∀ w', Below wo.heap.size wo w' → Reads w' (.slice (some ⟨g, go, none⟩) p cp) (L.take p)) := fun w' hw' => by
                  by_cases hp0 : p = 0
                  · subst hp0
                    exact .inl ⟨_, _, rfl, by simp⟩
                  · refine .inr ⟨g, go, cp, by rw [hpl1], by rw [hpl1]; omega, ?_, Nat.lt_of_lt_of_le hg3 hw'.size, fun j hj => ?_⟩
                    · exact hcm3
                    · rw [hpl1] at hj
                      rw [hw'.cell (by exact hg3), Hc3.out j (by omega)]
                      simp [List.getD_eq_getElem?_getD, List.getElem?_take, hj]
                have hcp0 : ¬ cp = 0 := by omega
                have hW2 : IntKind.i64.wrap ((p : Int) + 2) = (p : Int) + 2 := IntWalk.i64_in _ ⟨by omega, by omega⟩
                have hI1 : (p : Int) ≤ (cp : Int) := by omega
                have hI2 : (p : Int) + 2 ≤ (L.length : Int) := by omega
                have hI3 : (L.length : Int) ≤ (cp : Int) := by omega
                have hN1 : p ≤ cp := by omega
                have hI0 : (0 : Int) ≤ (p : Int) + 2 := by omega
                have hT0 : ((p : Int) + 2).toNat = p + 2 := by omega
                have hN2 : p + 2 ≤ L.length := by omega
                go_wp2_with fail
                have Hbi : Hid (Below wo.heap.size wo wr) := hbi
                have hL8 : p * 8 ≤ 140737488355328 := by omega
                have hL9 : (p + (L.length - (p + 2))) * 8 ≤ 140737488355328 := by omega
                go_region_law (first
                  | (refine step_join rfl (.tmp 69) (.tmp 73) rfl wr.heap.size v5 (L.take p) (L.drop (p + 2)) A (cp - (p + 2)) (by simp [Act.eval, Act.put]) (by simp [Act.eval, Act.put, hyl]) hown5 (fun j hj => (hbo5.cell (by rw [(Hnews.out j hj).2]; exact hg3)).trans (Hnews.out j hj).1) (by rw [hpl1, hyl]; exact hL9) hb5.size ?_; intro v6 w6 hown6 hb6)
                  | (go_simp; go_wp2_with (go_at_call 16; refine (clone_row _ (L.take p) _ (Hr1.out _ (below_drewN Hbi.out 1)) (by rw [hpl1]; exact hL8)).mono ?_; rintro e w5 ⟨hb5, v5, rfl, hown5⟩; have hbo5 := below_trans (below_drewN Hbi.out 1) hb5 Hbi.out.size)))
                have hlen6 : lenOf v6 = L.length - 2 := by
                  rw [owned_lenOf hown6, List.length_append, hpl1, hyl]
                  omega
                have Hr6 : Hid (Reads w6 v6 (L.take p ++ L.drop (p + 2))) := owned_reads hown6
                have hb7 : Below w.heap.size w w6 := below_trans hbr (hbo5.trans (hb6.mono (by have := hbi.size; omega))) hbr.size
                have hl6 : (L.take p ++ L.drop (p + 2)).length ≤ 4096 := by rw [List.length_append, hpl1, hyl]; omega
                clear hown6 hb6 hown5 hb5 hbo5 hA Hnews Hr1
                go_simp
                go_wp2_with fail
                go_roundw
                case rel => exact ⟨_, Hr6.out, hl6, HR2.out, hb7⟩
                case measure => rw [hlen6]; show _ < L.length; omega

set_option maxRecDepth 100000 in
set_option maxHeartbeats 4000000 in
theorem refright_empty (a : Option Addr) (cap : Nat) (w : World) : Calls Try.prog 11 #[.slice a 0 cap] w fun e w' => RefRightPost [] w e w' := by
  go_enter Try.func11, Try.ntmps11
  go_wp2_with fail
  refine wp_loop_rounds 1 ?_
  rw [rounds_succ]
  go_wp2_with fail
  refine wp_loop_rounds 1 ?_
  rw [rounds_succ]
  go_wp2_with fail
  refine wp_loop_rounds 1 ?_
  rw [rounds_succ]
  go_wp2_with fail
  go_ret
  exact ⟨rfl, Below.refl _ _⟩

theorem refright_any (v : Value) (zs : List Int) (w : World) (h : Reads w v zs) (hm : zs.length ≤ 4096) :
    Calls Try.prog 11 #[v] w fun e w' => RefRightPost zs w e w' := by
  rcases h with ⟨a, cap, rfl, rfl⟩ | ⟨b, off, cap, rfl, hcap, hmm, hlt, hc⟩
  · exact refright_empty a cap w
  · exact refright_some b off cap zs w hm hlt hc
end Go.Proofs.Ytoknmihooopnnaa.Seek
