/- Appends behind a row of the call's own: numbers. -/
import Derived.Test.YtpgjaoemkadenabConcatAny
import Derived.OwnWalk
import Derived.Maps.AppendAt
import Derived.Test.YtpgjaoemkadenabSMemory
set_option linter.unusedVariables false
set_option linter.unusedSimpArgs false
set_option maxRecDepth 100000
namespace Go.Proofs.Ytpgjaoemkadenab.Seek
open Go.RowKit Plain
theorem ints_append (a b : List Int) : ints (a ++ b) = ints a ++ ints b := by unfold ints; rw [List.map_append]
theorem reads_cells {w : World} {b off : Nat} {ys : List Int} (hc : ∀ j, j < ys.length → w.cell? ⟨b, off + j, none⟩ = some (.int .i64 (ys.getD j 0))) :
    ∀ j u, (ints ys)[j]? = some u → w.cell? ((⟨b, off, none⟩ : Addr).add j) = some u := by
  intro j u hj
  unfold ints at hj
  rw [List.getElem?_map] at hj
  by_cases hjl : j < ys.length
  · rw [List.getElem?_eq_getElem hjl] at hj
    have h1 := hc j hjl
    rw [List.getD_eq_getElem?_getD, List.getElem?_eq_getElem hjl] at h1
    have e : (⟨b, off, none⟩ : Addr).add j = ⟨b, off + j, none⟩ := by
      simp only [Addr.add]
      split <;> simp_all
    rw [e, h1]
    simpa using hj
  · rw [List.getElem?_eq_none (by omega)] at hj
    cases hj
theorem ints_one (ys : List Int) : ∀ u ∈ ints ys, u.oneCell' = true := by
  intro u hu
  unfold ints at hu
  obtain ⟨z, _, rfl⟩ := List.mem_map.1 hu
  rfl
/-- Some numbers behind an owned row. -/
theorem append_any {w : World} {ops : Array Oper} {rest : List Oper} {o : Oper} {a : Act} {Q : Exit → Act → World → Prop} (hgd : o.guard = none) (s x : Operand)
    (ho : o.op = .call { callee := .builtin .append, args := #[s, x], argTypes := #[22, 22] }) (B : Nat) (v v2 : Value) (xs ys zs : List Int) (hz : zs = xs ++ ys)
    (hs : a.eval s = v) (hown : OwnI w B v xs) (hx : a.eval x = v2) (hr : Reads w v2 ys) (hle : (xs.length + ys.length) * 8 ≤ 140737488355328) (hB : B ≤ w.heap.size)
    (h : ∀ v' w', OwnI w' B v' zs → w.grownBy w' v.ownBlock → (v'.ownBlock = v.ownBlock ∨ v'.ownBlock = some w.heap.size) → wpList Try.prog ops Q rest (a.put o.dst v') w') : wpList Try.prog ops Q (o :: rest) a w := by
  subst hz
  obtain ⟨i0, hi, hz0, hz1, hz2⟩ := info_parts info3
  rcases hr with ⟨a2, c2, rfl, rfl⟩ | ⟨b, off, c2, rfl, _, _, _, hc⟩
  · have h2 : ∃ d cap, v = .slice d xs.length cap ∧ xs.length ≤ cap := by
      rcases hown.2 with ⟨rfl, h0⟩ | ⟨g, cap, cur, rfl, hb, hg, hn, hm, hsz, htake⟩
      · exact ⟨none, 0, by rw [h0], by omega⟩
      · exact ⟨_, cap, rfl, hn⟩
    obtain ⟨d, cap, rfl, hn⟩ := h2
    refine wpList_append_run hgd s x 22 22 ho _ _ _ w hs hx (fun ty => run_append_zero w _ _ _ a2 c2 hn ty) ?_
    exact h _ w (by show OwnI _ _ _ _; rw [List.append_nil]; exact hown) (grown_refl _ _) (.inl rfl)
  · refine wpList_append_own_at w hgd s x 22 ho B 3 i0 (.int .i64 0) 1 8 Try.underlying22 hi hz0 hz1 hz2 rfl (by decide) v xs.length (ints xs) hs hown ⟨b, off, none⟩ ys.length c2 (ints ys) hx (by rw [ints_len, Nat.mul_one]) (reads_cells hc) (ints_one ys) (by unfold maxLen; omega) hle hB ?_
    intro v' w' h1 h2 _ h4
    exact h v' w' (by unfold OwnI; rw [ints_append, List.length_append]; exact h1) h2 h4
/-- A part of a slice that can be read, whatever lies behind its address. -/
theorem reads_slice {w : World} {a : Option Addr} {zs : List Int} {cap : Nat} (h : Reads w (.slice a zs.length cap) zs) (lo hi : Nat) (h1 : lo ≤ hi) (h2 : hi ≤ zs.length) :
    Reads w (.slice (if cap = lo then a else Option.map (fun x => x.add lo) a) (hi - lo) (cap - lo)) (seg zs lo hi) := by
  by_cases h0 : hi - lo = 0
  · refine .inl ⟨_, _, by rw [h0], ?_⟩
    unfold seg
    rw [h0, List.take_zero]
  · rcases h with ⟨_, _, _, rfl⟩ | ⟨b, off, c, hv, g1, g2, g3, g4⟩
    · simp at h2
      omega
    · cases hv
      rw [if_neg (by omega)]
      have := reads_part g4 g3 lo (hi - lo) (cap - lo) (by omega) (by omega) (by omega)
      have e : (⟨b, off, none⟩ : Addr).add lo = ⟨b, off + lo, none⟩ := by
        simp only [Addr.add]
        split <;> simp_all
      simp only [Option.map_some, e]
      exact this
theorem Reads.cap_le {w : World} {a : Option Addr} {zs : List Int} {cap : Nat} (h : Reads w (.slice a zs.length cap) zs) : zs.length ≤ cap := by
  rcases h with ⟨_, _, _, rfl⟩ | ⟨b, off, c, hv, g1, g2, g3, g4⟩
  · exact Nat.zero_le _
  · cases hv
    exact g1
theorem Boxed.grown {w w' : World} {b : Nat} {f t : Int} {v : Value} {row : Option Nat} (h : Boxed w b f t v) (hg : w.grownBy w' row) (hne : row ≠ some b) : Boxed w' b f t v := by
  have hb := hg.block b h.1 (Ne.symm hne)
  exact ⟨Nat.lt_of_lt_of_le h.1 hg.size, (World.cell?_of_block (by exact hb)).trans h.2.1, (World.cell?_of_block (by exact hb)).trans h.2.2.1, (World.cell?_of_block (by exact hb)).trans h.2.2.2⟩
/-- The k-th splice of a right edit. -/
theorem ups_at (ns : List Nsp) (k : Nat) (h : k < ns.length) : ∃ s, ns.drop k = s :: ns.drop (k + 1) ∧ (ups ns).getD k spl0 = sup s ∧ ns[k]? = some s := by
  refine ⟨ns[k], List.drop_eq_getElem_cons h, ?_, List.getElem?_eq_getElem h⟩
  unfold ups
  rw [List.getD_eq_getElem?_getD, List.getElem?_map, List.getElem?_eq_getElem h]
  rfl
theorem ReadsE.each {w : World} {a : Option Addr} {es : List Spl} {cap : Nat} (h : ReadsE w (.slice a es.length cap) es) :
    ∀ k, k < es.length → ∃ b off, a = some ⟨b, off, none⟩ ∧ b < w.heap.size ∧ SplAt w b (off + k * 3) (es.getD k spl0) := by
  intro k hk
  rcases h with ⟨_, _, _, rfl⟩ | ⟨b, off, c, hv, _, _, hb, hc⟩
  · cases hk
  · cases hv
    exact ⟨b, off, rfl, hb, hc k hk⟩
end Go.Proofs.Ytpgjaoemkadenab.Seek
