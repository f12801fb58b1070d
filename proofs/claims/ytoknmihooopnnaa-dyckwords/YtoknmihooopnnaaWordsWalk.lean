/- The walk of DyckWords. -/
import Derived.Test.YtoknmihooopnnaaRightGo
import Derived.Test.YtoknmihooopnnaaConcatAny
import Derived.Test.YtoknmihooopnnaaLists
import Derived.Test.YtoknmihooopnnaaOf
set_option linter.unusedVariables false
set_option linter.unusedSimpArgs false
namespace Go.Proofs.Ytoknmihooopnnaa.Seek
open Go.RowKit Plain

theorem right_given1 : right (codes ⟨#[40, 91, 41, 93]⟩) = false := by decide
theorem right_given2 : right (codes ⟨#[40, 97, 91, 98, 93, 41]⟩) = true := by decide
theorem pairs_at (zs : List Int) (j : Nat) (h : j < zs.length) : (pairs zs).getD j 0 = par (fn zs) zs.length j := rowOf_get _ _ _ h
theorem range_fn (zs : List Int) : (List.range zs.length).map (fn zs) = zs := by
  apply List.ext_getElem
  · simp
  · intro j h1 h2
    simp [fn, List.getD_eq_getElem?_getD, h2]
/-- Values and lists by their number. -/
def three {α : Type} (a b c : α) : Nat → α
  | 0 => a
  | 1 => b
  | _ => c
theorem joined_two (ls ms : List Int) : joined (three ls ms []) 2 = ls ++ ms := by simp [joined, three]
theorem joined_three (ls : List Int) : joined (three [91] ls [93]) 3 = [91] ++ (ls ++ [93]) := by simp [joined, three]
theorem new_cell (w : World) (cs : Array Value) (t : TypeId) (j : Nat) : (w.alloc (.cells cs t)).cell? ⟨w.heap.size, j, none⟩ = cs[j]? := by
  unfold World.cell?
  simp only
  rw [show ∀ o, (w.alloc o).heap[w.heap.size]? = some o from fun o => by show (w.heap.push o)[w.heap.size]? = _; simp]
  rfl
theorem two_cells (w : World) (u v : Value) : ∀ j, j < 2 → (w.alloc (.cells #[u, v] 22)).cell? ⟨w.heap.size, j, none⟩ = some (three u v v j) := by
  intro j hj
  rw [new_cell]
  match j, hj with
  | 0, _ => rfl
  | 1, _ => rfl
theorem three_cells (w : World) (u v x : Value) : ∀ j, j < 3 → (w.alloc (.cells #[u, v, x] 22)).cell? ⟨w.heap.size, j, none⟩ = some (three u v x j) := by
  intro j hj
  rw [new_cell]
  match j, hj with
  | 0, _ => rfl
  | 1, _ => rfl
  | 2, _ => rfl
theorem three_reads {w : World} {u v x : Value} {a b c : List Int} (h1 : Reads w u a) (h2 : Reads w v b) (h3 : Reads w x c) : ∀ j, Reads w (three u v x j) (three a b c j)
  | 0 => h1
  | 1 => h2
  | _ + 2 => h3
theorem heap_more (w : World) (o : Obj) : w.heap.size < (w.alloc o).heap.size := by
  show w.heap.size < (w.heap.push _).size
  simp

set_option maxRecDepth 100000 in
set_option maxHeartbeats 8000000 in
theorem words_walk (v1 v2 : Value) (ls ms : List Int) (w : World) (hl : Reads w v1 ls) (hm : Reads w v2 ms) (hlr : ls.length * 8 ≤ 140737488351232) (hmr : ms.length * 8 ≤ 140737488351232) :
    Calls Try.prog 6 #[v1, v2] w fun e w' => e = .returned (.bool true) ∧ Below w.heap.size w w' := by
  obtain ⟨a1, c1, hv1⟩ := hl.shape
  obtain ⟨a2, c2, hv2⟩ := hm.shape
  subst hv1
  subst hv2
  have Hl : Hid (Reads w (.slice a1 ls.length c1) ls) := hl
  have Hm : Hid (Reads w (.slice a2 ms.length c2) ms) := hm
  clear hl hm
  have Hlm : Hid (ls.length ≤ maxLen) := by show ls.length ≤ maxLen; unfold maxLen; omega
  have Hmm : Hid (ms.length ≤ maxLen) := by show ms.length ≤ maxLen; unfold maxLen; omega
  go_enter Try.func6, Try.ntmps6
  go_wp2_with fail
  refine (of_any ⟨#[40, 91, 41, 93]⟩ w (by decide)).mono ?_
  rintro e w1 ⟨hb1, u1, rfl, hown1⟩
  have hr1 := owned_reads hown1
  clear hown1
  go_wp2_with fail
  refine (right_any _ _ w1 hr1 (by decide)).mono ?_
  rintro e w2 ⟨hb2, h⟩
  obtain ⟨_, rfl⟩ := h.resolve_left (fun h => absurd h.1 (by decide))
  clear h
  rw [right_given1]
  have hB2 := below_trans hb1 hb2 hb1.size
  clear hr1 hb1 hb2
  go_wp2_with fail
  refine (of_any ⟨#[40, 97, 91, 98, 93, 41]⟩ w2 (by decide)).mono ?_
  rintro e w3 ⟨hb3, u3, rfl, hown3⟩
  have hr3 := owned_reads hown3
  clear hown3
  go_wp2_with fail
  refine (right_any _ _ w3 hr3 (by decide)).mono ?_
  rintro e w4 ⟨hb4, h⟩
  obtain ⟨_, rfl⟩ := h.resolve_left (fun h => absurd h.1 (by decide))
  clear h
  rw [right_given2]
  have hB4 := below_trans (below_trans hB2 hb3 hB2.size) hb4 (below_trans hB2 hb3 hB2.size).size
  clear hr3 hb3 hb4 hB2
  go_wp2_with fail
  refine (right_any _ ls w4 (Hl.out.below hB4) Hlm.out).mono ?_
  rintro e w5 ⟨hb5, hcl⟩
  have hB5 := below_trans hB4 hb5 hB4.size
  clear hb5 hB4
  obtain ⟨ra, re, he1, hkl⟩ : ∃ ra re, e = .returned (.tuple #[.bool ra, .int .i64 re]) ∧ ((4096 < ls.length ∧ re = 2) ∨ (ls.length ≤ 4096 ∧ re = 0 ∧ ra = right ls)) := by
    rcases hcl with ⟨h1, rfl⟩ | ⟨h1, rfl⟩
    · exact ⟨_, _, rfl, .inl ⟨h1, rfl⟩⟩
    · exact ⟨_, _, rfl, .inr ⟨h1, rfl, rfl⟩⟩
  subst he1
  clear hcl
  go_wp2_with fail
  refine (right_any _ ms w5 (Hm.out.below hB5) Hmm.out).mono ?_
  rintro e w6 ⟨hb6, hcm⟩
  have hB6 := below_trans hB5 hb6 hB5.size
  clear hb6 hB5
  obtain ⟨rb, rf, he2, hkm⟩ : ∃ rb rf, e = .returned (.tuple #[.bool rb, .int .i64 rf]) ∧ ((4096 < ms.length ∧ rf = 2) ∨ (ms.length ≤ 4096 ∧ rf = 0 ∧ rb = right ms)) := by
    rcases hcm with ⟨h1, rfl⟩ | ⟨h1, rfl⟩
    · exact ⟨_, _, rfl, .inl ⟨h1, rfl⟩⟩
    · exact ⟨_, _, rfl, .inr ⟨h1, rfl, rfl⟩⟩
  subst he2
  clear hcm
  rcases hkl with ⟨hll, rfl⟩ | ⟨hll, rfl, hra⟩
  · clear hkm
    go_wp2_with fail
    go_ret
    exact ⟨rfl, hB6⟩
  · rcases hkm with ⟨hml, rfl⟩ | ⟨hml, rfl, hrb⟩
    · clear hra
      go_wp2_with fail
      go_ret
      exact ⟨rfl, hB6⟩
    · have Hra : Hid (ra = right ls) := hra
      have Hrb : Hid (rb = right ms) := hrb
      clear hra hrb
      by_cases hsum : 4096 < ls.length + ms.length + 2
      · have hs2 : (4096 : Int) < (ls.length : Int) + (ms.length : Int) + 2 := by omega
        go_wp2_with fail
        go_ret
        exact ⟨rfl, hB6⟩
      · have hs2 : ¬ (4096 : Int) < (ls.length : Int) + (ms.length : Int) + 2 := by omega
        have Hsum : Hid (ls.length + ms.length + 2 ≤ 4096) := by show _ ≤ _; omega
        clear hsum
        go_wp2_with fail
        clear hs2
        obtain ⟨w7, hw7⟩ : ∃ w7, w7 = w6.alloc (.cells #[Value.slice a1 ls.length c1, Value.slice a2 ms.length c2] 22) := ⟨_, rfl⟩
        rw [← hw7]
        have hB7 : Below w.heap.size w w7 := by rw [hw7]; exact hB6.alloc hB6.size _
        have hlt7 : w6.heap.size < w7.heap.size := by rw [hw7]; exact heap_more _ _
        have Hc7 : Hid (∀ j, j < 2 → w7.cell? ⟨w6.heap.size, j, none⟩ = some (three (Value.slice a1 ls.length c1) (Value.slice a2 ms.length c2) (Value.slice a2 ms.length c2) j)) := by rw [hw7]; exact two_cells w6 _ _
        clear hw7 hB6
        have hcc := concat_any w6.heap.size 2 2 _ (three ls ms []) w7 (by decide) hlt7 Hc7.out (fun j hj => by
          match j, hj with
          | 0, _ => exact Hl.out.below hB7
          | 1, _ => exact Hm.out.below hB7) (by rw [joined_two, List.length_append]; have := Hsum.out; omega)
        rw [joined_two] at hcc
        refine hcc.mono ?_
        clear hcc
        rintro e w8 ⟨hb8, vu, rfl, hou⟩
        have hB8 := below_trans hB7 hb8 hB7.size
        clear hb8 hB7 Hc7 hlt7
        go_wp2_with fail
        refine (right_any _ (ls ++ ms) w8 hou.reads (by rw [List.length_append]; unfold maxLen; have := Hsum.out; omega)).mono ?_
        rintro e w9 ⟨hb9, h⟩
        obtain ⟨_, rfl⟩ := h.resolve_left (fun h => absurd h.1 (by rw [List.length_append]; have := Hsum.out; omega))
        clear h hou
        have hB9 := below_trans hB8 hb9 hB8.size
        clear hb9 hB8
        go_wp2_with fail
        obtain ⟨wa, hwa⟩ : ∃ wa, wa = w9.alloc (.cells #[.int .i64 91] 3) := ⟨_, rfl⟩
        rw [← hwa]
        obtain ⟨wb, hwb⟩ : ∃ wb, wb = wa.alloc (.cells #[.int .i64 93] 3) := ⟨_, rfl⟩
        rw [← hwb]
        have hBa : Below w.heap.size w wa := by rw [hwa]; exact hB9.alloc hB9.size _
        have hBb : Below w.heap.size w wb := by rw [hwb]; exact hBa.alloc hBa.size _
        have hsa : wa.heap.size = w9.heap.size + 1 := by rw [hwa]; show (w9.heap.push _).size = _; simp
        have hsb : wb.heap.size = w9.heap.size + 1 + 1 := by rw [hwb]; show (wa.heap.push _).size = _; simp [hsa]
        have hra1 : Reads wa (.slice (some ⟨w9.heap.size, 0, none⟩) 1 1) [91] := by rw [hwa]; exact reads_new w9 [91] (by decide)
        have hrb1 : Reads wb (.slice (some ⟨w9.heap.size + 1, 0, none⟩) 1 1) [93] := by rw [hwb, ← hsa]; exact reads_new wa [93] (by decide)
        have hra2 : Reads wb (.slice (some ⟨w9.heap.size, 0, none⟩) 1 1) [91] := hra1.below (by rw [hwb]; exact (Below.refl _ _).alloc (Nat.le_refl _) _)
        obtain ⟨wc, hwc⟩ : ∃ wc, wc = wb.alloc (.cells #[Value.slice (some ⟨w9.heap.size, 0, none⟩) 1 1, Value.slice a1 ls.length c1, Value.slice (some ⟨w9.heap.size + 1, 0, none⟩) 1 1] 22) := ⟨_, rfl⟩
        rw [← hwc, ← hsb]
        have hBbc : Below wb.heap.size wb wc := by rw [hwc]; exact (Below.refl _ _).alloc (Nat.le_refl _) _
        have hBc : Below w.heap.size w wc := below_trans hBb hBbc hBb.size
        have hltc : wb.heap.size < wc.heap.size := by rw [hwc]; exact heap_more _ _
        have Hcc : Hid (∀ j, j < 3 → wc.cell? ⟨wb.heap.size, j, none⟩ = some (three (Value.slice (some ⟨w9.heap.size, 0, none⟩) 1 1) (Value.slice a1 ls.length c1) (Value.slice (some ⟨w9.heap.size + 1, 0, none⟩) 1 1) j)) := by rw [hwc]; exact three_cells wb _ _ _
        have hcc := concat_any wb.heap.size 3 3 _ (three [91] ls [93]) wc (by decide) hltc Hcc.out (fun j _ => three_reads (hra2.below hBbc) (Hl.out.below hBc) (hrb1.below hBbc) j)
          (by rw [joined_three, List.length_append, List.length_append]; have := Hsum.out; simp; omega)
        rw [joined_three] at hcc
        refine hcc.mono ?_
        clear hcc Hcc hltc hBbc hra1 hra2 hrb1 hsa hsb hwc hwb hwa hBa hBb hB9
        rintro e w10 ⟨hb10, vt, rfl, hot⟩
        have hB10 := below_trans hBc hb10 hBc.size
        clear hb10 hBc
        go_wp2_with fail
        refine (right_any _ ([91] ++ (ls ++ [93])) w10 hot.reads (by rw [List.length_append, List.length_append]; unfold maxLen; have := Hsum.out; simp; omega)).mono ?_
        rintro e w11 ⟨hb11, h⟩
        obtain ⟨_, rfl⟩ := h.resolve_left (fun h => absurd h.1 (by rw [List.length_append, List.length_append]; have := Hsum.out; simp; omega))
        clear h hot
        have hB11 := below_trans hB10 hb11 hB10.size
        clear hb11 hB10
        by_cases hA : right ls = true
        · have e1 : ra = true := by rw [Hra.out]; exact hA
          have e2 : right (ls ++ ms) = rb := by rw [Hrb.out]; exact right_both hA
          have e3 : right ([91] ++ (ls ++ [93])) = true := right_within (c := 91) (by decide) hA
          rw [e2, e3, e1]
          have Htold : Hid (∀ j, j < ls.length → kind (fn ls j) ≠ 0 → 0 ≤ par (fn ls) ls.length j) := fun j hj hk => right_told (fn ls) ls.length (by rw [range_fn]; exact (right_iff ls).1 hA) j hj hk
          clear Hra Hrb e1 e2 e3 hA
          cases rb
          · go_wp2_with fail
            refine (pairs_any _ ls w11 (Hl.out.below hB11) Hlm.out).mono ?_
            rintro e w12 ⟨hb12, h⟩
            obtain ⟨_, vp, he, hrp⟩ := h.resolve_left (fun h => absurd h.1 (by have := Hsum.out; omega))
            subst he
            clear h
            have hB12 := below_trans hB11 hb12 hB11.size
            have Hl12 : Hid (Reads w12 (.slice a1 ls.length c1) ls) := Hl.out.below hB12
            obtain ⟨a3, c3, hvp⟩ := hrp.shape
            subst hvp
            rw [pairs_len] at hrp ⊢
            have Hrp : Hid (Reads w12 (.slice a3 ls.length c3) (pairs ls)) := hrp
            clear hb12 hB11 hrp
            by_cases h0 : ls.length = 0
            · rw [h0]
              go_wp2_with fail
              refine wp_loop_rounds 1 ?_
              rw [rounds_succ]
              go_wp2_with fail
              go_ret
              exact ⟨rfl, hB12⟩
            · rcases Hl12.out with ⟨_, _, _, h1⟩ | ⟨b, o, c, he, hcap, hcm, hblt, hc⟩
              · rw [h1] at h0
                exact absurd rfl h0
              · rcases Hrp.out with ⟨_, _, _, h1⟩ | ⟨bb, bo, cc, heb, _, _, hbblt, hcb⟩
                · have := pairs_len ls
                  rw [h1] at this
                  exact absurd this.symm h0
                · simp only [Value.slice.injEq] at he heb
                  obtain ⟨rfl, hx1, rfl⟩ := he
                  obtain ⟨rfl, hx2, rfl⟩ := heb
                  clear hx1 hx2
                  have Hc : Hid (∀ j, j < ls.length → w12.cell? ⟨b, o + j, none⟩ = some (.int .i64 (fn ls j))) := hc
                  have Hcb : Hid (∀ j, j < ls.length → w12.cell? ⟨bb, bo + j, none⟩ = some (.int .i64 (par (fn ls) ls.length j))) := fun j hj => by
                    have h := hcb j (by rw [pairs_len]; exact hj)
                    rw [pairs_at ls j hj] at h
                    exact h
                  clear hc hcb Hrp Hl12 Hl Hm Hlm Hmm
                  go_wp2_with fail
                  go_loop [118] (fun u118 => ∃ k : Nat, u118 = .int .i64 (k : Int) ∧ k ≤ ls.length) (fun u118 => ls.length - (intOf u118).toNat)
                  case atStart => exact ⟨0, rfl, by omega⟩
                  case round =>
                    obtain ⟨k, rfl, hk⟩ := hrel
                    by_cases hlt : k < ls.length
                    · have hcx := Hc.out k hlt
                      have hcy := Hcb.out k hlt
                      have Ht : Hid (kind (fn ls k) ≠ 0 → 0 ≤ par (fn ls) ls.length k) := Htold.out k hlt
                      generalize fn ls k = x at *
                      generalize par (fn ls) ls.length k = P at *
                      go_wp2_with fail
                      refine (kind_go _ _).mono ?_
                      rintro e w2 ⟨rfl, hw2⟩
                      rw [hw2]
                      clear hw2 w2
                      by_cases hkz : kind x = 0
                      · rw [hkz]
                        clear hkz Ht
                        go_wp2_with fail
                        go_round
                        case rel => exact ⟨k + 1, by go_num, by omega⟩
                        case measure => simp [intOf]; omega
                      · have hkn : (kind x != 0) = true := by simpa using hkz
                        have hP : ¬ P < 0 := by have := Ht.out hkz; omega
                        clear hkz Ht
                        generalize kind x = kx at *
                        go_wp2_with fail
                        go_round
                        case rel => exact ⟨k + 1, by go_num, by omega⟩
                        case measure => simp [intOf]; omega
                    · obtain rfl : k = ls.length := by omega
                      go_wp2_with fail
                      go_ret
                      exact ⟨rfl, hB12⟩
          · go_wp2_with fail
            refine (pairs_any _ ls w11 (Hl.out.below hB11) Hlm.out).mono ?_
            rintro e w12 ⟨hb12, h⟩
            obtain ⟨_, vp, he, hrp⟩ := h.resolve_left (fun h => absurd h.1 (by have := Hsum.out; omega))
            subst he
            clear h
            have hB12 := below_trans hB11 hb12 hB11.size
            have Hl12 : Hid (Reads w12 (.slice a1 ls.length c1) ls) := Hl.out.below hB12
            obtain ⟨a3, c3, hvp⟩ := hrp.shape
            subst hvp
            rw [pairs_len] at hrp ⊢
            have Hrp : Hid (Reads w12 (.slice a3 ls.length c3) (pairs ls)) := hrp
            clear hb12 hB11 hrp
            by_cases h0 : ls.length = 0
            · rw [h0]
              go_wp2_with fail
              refine wp_loop_rounds 1 ?_
              rw [rounds_succ]
              go_wp2_with fail
              go_ret
              exact ⟨rfl, hB12⟩
            · rcases Hl12.out with ⟨_, _, _, h1⟩ | ⟨b, o, c, he, hcap, hcm, hblt, hc⟩
              · rw [h1] at h0
                exact absurd rfl h0
              · rcases Hrp.out with ⟨_, _, _, h1⟩ | ⟨bb, bo, cc, heb, _, _, hbblt, hcb⟩
                · have := pairs_len ls
                  rw [h1] at this
                  exact absurd this.symm h0
                · simp only [Value.slice.injEq] at he heb
                  obtain ⟨rfl, hx1, rfl⟩ := he
                  obtain ⟨rfl, hx2, rfl⟩ := heb
                  clear hx1 hx2
                  have Hc : Hid (∀ j, j < ls.length → w12.cell? ⟨b, o + j, none⟩ = some (.int .i64 (fn ls j))) := hc
                  have Hcb : Hid (∀ j, j < ls.length → w12.cell? ⟨bb, bo + j, none⟩ = some (.int .i64 (par (fn ls) ls.length j))) := fun j hj => by
                    have h := hcb j (by rw [pairs_len]; exact hj)
                    rw [pairs_at ls j hj] at h
                    exact h
                  clear hc hcb Hrp Hl12 Hl Hm Hlm Hmm
                  go_wp2_with fail
                  go_loop [118] (fun u118 => ∃ k : Nat, u118 = .int .i64 (k : Int) ∧ k ≤ ls.length) (fun u118 => ls.length - (intOf u118).toNat)
                  case atStart => exact ⟨0, rfl, by omega⟩
                  case round =>
                    obtain ⟨k, rfl, hk⟩ := hrel
                    by_cases hlt : k < ls.length
                    · have hcx := Hc.out k hlt
                      have hcy := Hcb.out k hlt
                      have Ht : Hid (kind (fn ls k) ≠ 0 → 0 ≤ par (fn ls) ls.length k) := Htold.out k hlt
                      generalize fn ls k = x at *
                      generalize par (fn ls) ls.length k = P at *
                      go_wp2_with fail
                      refine (kind_go _ _).mono ?_
                      rintro e w2 ⟨rfl, hw2⟩
                      rw [hw2]
                      clear hw2 w2
                      by_cases hkz : kind x = 0
                      · rw [hkz]
                        clear hkz Ht
                        go_wp2_with fail
                        go_round
                        case rel => exact ⟨k + 1, by go_num, by omega⟩
                        case measure => simp [intOf]; omega
                      · have hkn : (kind x != 0) = true := by simpa using hkz
                        have hP : ¬ P < 0 := by have := Ht.out hkz; omega
                        clear hkz Ht
                        generalize kind x = kx at *
                        go_wp2_with fail
                        go_round
                        case rel => exact ⟨k + 1, by go_num, by omega⟩
                        case measure => simp [intOf]; omega
                    · obtain rfl : k = ls.length := by omega
                      go_wp2_with fail
                      go_ret
                      exact ⟨rfl, hB12⟩
        · have e1 : ra = false := by rw [Hra.out]; simpa using hA
          rw [e1]
          clear Hra Hrb e1 hA
          generalize right (ls ++ ms) = r1
          generalize right ([91] ++ (ls ++ [93])) = r2
          go_wp2_with fail
          refine (pairs_any _ ls w11 (Hl.out.below hB11) Hlm.out).mono ?_
          rintro e w12 ⟨hb12, h⟩
          obtain ⟨_, vp, he, hrp⟩ := h.resolve_left (fun h => absurd h.1 (by have := Hsum.out; omega))
          subst he
          clear h
          have hB12 := below_trans hB11 hb12 hB11.size
          have Hl12 : Hid (Reads w12 (.slice a1 ls.length c1) ls) := Hl.out.below hB12
          obtain ⟨a3, c3, hvp⟩ := hrp.shape
          subst hvp
          rw [pairs_len] at hrp ⊢
          have Hrp : Hid (Reads w12 (.slice a3 ls.length c3) (pairs ls)) := hrp
          clear hb12 hB11 hrp
          by_cases h0 : ls.length = 0
          · rw [h0]
            go_wp2_with fail
            refine wp_loop_rounds 1 ?_
            rw [rounds_succ]
            go_wp2_with fail
            go_ret
            exact ⟨rfl, hB12⟩
          · rcases Hl12.out with ⟨_, _, _, h1⟩ | ⟨b, o, c, he, hcap, hcm, hblt, hc⟩
            · rw [h1] at h0
              exact absurd rfl h0
            · rcases Hrp.out with ⟨_, _, _, h1⟩ | ⟨bb, bo, cc, heb, _, _, hbblt, hcb⟩
              · have := pairs_len ls
                rw [h1] at this
                exact absurd this.symm h0
              · simp only [Value.slice.injEq] at he heb
                obtain ⟨rfl, hx1, rfl⟩ := he
                obtain ⟨rfl, hx2, rfl⟩ := heb
                clear hx1 hx2
                have Hc : Hid (∀ j, j < ls.length → w12.cell? ⟨b, o + j, none⟩ = some (.int .i64 (fn ls j))) := hc
                have Hcb : Hid (∀ j, j < ls.length → w12.cell? ⟨bb, bo + j, none⟩ = some (.int .i64 (par (fn ls) ls.length j))) := fun j hj => by
                  have h := hcb j (by rw [pairs_len]; exact hj)
                  rw [pairs_at ls j hj] at h
                  exact h
                clear hc hcb Hrp Hl12 Hl Hm Hlm Hmm
                go_wp2_with fail
                go_loop [118] (fun u118 => ∃ k : Nat, u118 = .int .i64 (k : Int) ∧ k ≤ ls.length) (fun u118 => ls.length - (intOf u118).toNat)
                case atStart => exact ⟨0, rfl, by omega⟩
                case round =>
                  obtain ⟨k, rfl, hk⟩ := hrel
                  by_cases hlt : k < ls.length
                  · have hcx := Hc.out k hlt
                    have hcy := Hcb.out k hlt
                    generalize fn ls k = x at *
                    generalize par (fn ls) ls.length k = P at *
                    go_wp2_with fail
                    refine (kind_go _ _).mono ?_
                    rintro e w2 ⟨rfl, hw2⟩
                    rw [hw2]
                    clear hw2 w2
                    generalize kind x = kx at *
                    go_wp2_with fail
                    go_round
                    case rel => exact ⟨k + 1, by go_num, by omega⟩
                    case measure => simp [intOf]; omega
                  · obtain rfl : k = ls.length := by omega
                    go_wp2_with fail
                    go_ret
                    exact ⟨rfl, hB12⟩
end Go.Proofs.Ytoknmihooopnnaa.Seek
