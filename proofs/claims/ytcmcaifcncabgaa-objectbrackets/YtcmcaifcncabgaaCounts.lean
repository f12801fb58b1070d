/- A bracket's partner, by counting, in plain mathematics. -/
import Derived.Test.YtcmcaifcncabgaaStacks
set_option linter.unusedVariables false
set_option linter.unusedSimpArgs false
namespace Go.Proofs.Ytcmcaifcncabgaa.Plain

theorem not_both {c : Int} (h : opens c = true) : shuts c = false := by
  rcases sort c with h4 | h4 | h4
  · exact h4.2.1
  · rw [h4.1] at h; cases h
  · rw [h4.1] at h; cases h
theorem not_both2 {c : Int} (h : shuts c = true) : opens c = false := by
  rcases sort c with h4 | h4 | h4
  · rw [h4.2.1] at h; cases h
  · exact h4.1
  · exact h4.1
theorem shuts_kind {o : Int} (h : opens o = true) : shuts (brk o) = true ∧ brk (brk o) = o := by
  rcases sort o with h4 | h4 | h4
  · exact h4.2.2.2
  · rw [h4.1] at h; cases h
  · rw [h4.1] at h; cases h
theorem opens_kind {s : Int} (h : shuts s = true) : opens (brk s) = true ∧ brk (brk s) = s := by
  rcases sort s with h4 | h4 | h4
  · rw [h4.2.1] at h; cases h
  · exact h4.2.2.2
  · rw [h4.2.1] at h; cases h
/-- Which bracket closes this brk. -/
theorem shuts_of {c o : Int} (h : opens o = true) (hs : shuts c = true) (hk : brk c = o) : c = brk o := by
  rw [← hk]
  exact (opens_kind hs).2.symm
theorem stk_at_shut {f : Nat → Int} {o : Int} {m : Nat} (ho : opens o = true) (h : f m = brk o) : stk f o (m + 1) = (stk f o m).tail := by
  have h2 := shuts_kind ho
  exact stk_shut (by rw [h]; exact h2.1) (by rw [h]; exact h2.2)
theorem stk_at_other {f : Nat → Int} {o : Int} {m : Nat} (ho : opens o = true) (h1 : f m ≠ o) (h2 : f m ≠ brk o) : stk f o (m + 1) = stk f o m :=
  stk_other (fun h => h2 (shuts_of ho h.1 h.2)) (fun h => h1 h.2)
theorem drop_tail {α : Type} (l : List α) (d : Nat) : l.tail.drop d = l.drop (d + 1) := by
  cases l with
  | nil => simp
  | cons a l => rfl

/-- Going on from an opening bracket at place k: ahead of place m so many are open, its own one among them. -/
def Fw (f : Nat → Int) (k m d : Nat) : Prop := (m = k ∧ d = 0) ∨ (k < m ∧ 1 ≤ d ∧ ((stk f (f k) m).drop (d - 1)).head? = some k)
theorem fw_open {f : Nat → Int} {k m d : Nat} (ho : opens (f k) = true) (h : Fw f k m d) (hm : f m = f k) : Fw f k (m + 1) (d + 1) := by
  have hst : stk f (f k) (m + 1) = m :: stk f (f k) m := stk_open (by rw [hm]; exact ho) hm
  rcases h with ⟨rfl, rfl⟩ | ⟨h1, h2, h3⟩
  · refine .inr ⟨by omega, by omega, ?_⟩
    rw [hst]
    rfl
  · refine .inr ⟨by omega, by omega, ?_⟩
    rw [hst]
    obtain ⟨d', rfl⟩ : ∃ d', d = d' + 1 := ⟨d - 1, by omega⟩
    exact h3
theorem fw_shut {f : Nat → Int} {k m d : Nat} (ho : opens (f k) = true) (h : Fw f k m (d + 2)) (hm : f m = brk (f k)) : Fw f k (m + 1) (d + 1) := by
  rcases h with ⟨_, h⟩ | ⟨h1, h2, h3⟩
  · omega
  · refine .inr ⟨by omega, by omega, ?_⟩
    rw [stk_at_shut ho hm, show d + 1 - 1 = d by omega, drop_tail]
    exact h3
theorem fw_other {f : Nat → Int} {k m d : Nat} (ho : opens (f k) = true) (h : Fw f k m d) (h1 : f m ≠ f k) (h2 : f m ≠ brk (f k)) : Fw f k (m + 1) d := by
  rcases h with ⟨rfl, _⟩ | ⟨h3, h4, h5⟩
  · exact absurd rfl h1
  · exact .inr ⟨by omega, h4, by rw [stk_at_other ho h1 h2]; exact h5⟩
theorem fw_found {f : Nat → Int} {k m n : Nat} (ho : opens (f k) = true) (h : Fw f k m 1) (hm : f m = brk (f k)) (hn : m < n) : par f n k = (m : Int) := by
  rcases h with ⟨_, h⟩ | ⟨h1, h2, h3⟩
  · omega
  · have h4 := shuts_kind ho
    have hs : shuts (f m) = true := by rw [hm]; exact h4.1
    have hk : brk (f m) = f k := by rw [hm]; exact h4.2
    exact par_keeps (par_hit (by omega) hs (by rw [hk]; exact h3)) (by omega) n (by omega)
theorem fw_none {f : Nat → Int} {k n d : Nat} (ho : opens (f k) = true) (h : Fw f k n d) (hk : k < n) : par f n k = -1 := by
  rcases h with ⟨h, _⟩ | ⟨h1, h2, h3⟩
  · omega
  · have hm : k ∈ (stk f (f k) n).drop (d - 1) := List.mem_of_head? h3
    exact (((holds f n).wait _ _).1 (List.mem_of_mem_drop hm)).2.2.2
theorem fw_pos {f : Nat → Int} {k m d : Nat} (ho : opens (f k) = true) (h : Fw f k m d) (hm : f m = brk (f k)) : 1 ≤ d := by
  rcases h with ⟨rfl, _⟩ | ⟨_, h2, _⟩
  · have h4 := (shuts_kind ho).1
    rw [← hm, not_both ho] at h4
    cases h4
  · exact h2

/-- Going back from a closing bracket at place k: behind the first m places so many are closed. -/
def Bw (f : Nat → Int) (k m d : Nat) : Prop := (m = k + 1 ∧ d = 0) ∨ (m ≤ k ∧ 1 ≤ d ∧ (stk f (brk (f k)) k).head? = ((stk f (brk (f k)) m).drop (d - 1)).head?)
theorem bw_shut {f : Nat → Int} {k m d : Nat} (hs : shuts (f k) = true) (h : Bw f k (m + 1) d) (hm : f m = f k) : Bw f k m (d + 1) := by
  have ho := opens_kind hs
  rcases h with ⟨h1, rfl⟩ | ⟨h1, h2, h3⟩
  · obtain rfl : m = k := by omega
    exact .inr ⟨by omega, by omega, rfl⟩
  · refine .inr ⟨by omega, by omega, ?_⟩
    rw [stk_at_shut ho.1 (by rw [hm]; exact ho.2.symm), drop_tail] at h3
    rw [h3]
    congr 2
    omega
theorem bw_open {f : Nat → Int} {k m d : Nat} (hs : shuts (f k) = true) (h : Bw f k (m + 1) (d + 2)) (hm : f m = brk (f k)) : Bw f k m (d + 1) := by
  have ho := opens_kind hs
  rcases h with ⟨_, h⟩ | ⟨h1, h2, h3⟩
  · omega
  · refine .inr ⟨by omega, by omega, ?_⟩
    rw [stk_open (by rw [hm]; exact ho.1) hm] at h3
    rw [h3]
    rfl
theorem bw_other {f : Nat → Int} {k m d : Nat} (hs : shuts (f k) = true) (h : Bw f k (m + 1) d) (h1 : f m ≠ f k) (h2 : f m ≠ brk (f k)) : Bw f k m d := by
  have ho := opens_kind hs
  rcases h with ⟨h3, _⟩ | ⟨h3, h4, h5⟩
  · obtain rfl : m = k := by omega
    exact absurd rfl h1
  · refine .inr ⟨by omega, h4, ?_⟩
    rw [stk_at_other ho.1 h2 (by rw [ho.2]; exact h1)] at h5
    exact h5
theorem bw_found {f : Nat → Int} {k m n : Nat} (hs : shuts (f k) = true) (h : Bw f k (m + 1) 1) (hm : f m = brk (f k)) (hn : k < n) : par f n k = (m : Int) := by
  have ho := opens_kind hs
  rcases h with ⟨_, h⟩ | ⟨h1, h2, h3⟩
  · omega
  · rw [stk_open (by rw [hm]; exact ho.1) hm] at h3
    rw [par_stays (not_both2 hs) n hn, if_pos hs]
    cases hst : stk f (brk (f k)) k with
    | nil =>
      rw [hst] at h3
      cases h3
    | cons p r =>
      rw [hst] at h3
      have h4 : p = m := Option.some.inj h3
      rw [h4]
      rfl
theorem bw_none {f : Nat → Int} {k n d : Nat} (hs : shuts (f k) = true) (h : Bw f k 0 d) (hn : k < n) : par f n k = -1 := by
  rcases h with ⟨h, _⟩ | ⟨h1, h2, h3⟩
  · omega
  · rw [par_stays (not_both2 hs) n hn, if_pos hs]
    cases hst : stk f (brk (f k)) k with
    | nil => rfl
    | cons p r =>
      rw [hst, stk] at h3
      simp at h3
theorem bw_pos {f : Nat → Int} {k m d : Nat} (hs : shuts (f k) = true) (h : Bw f k (m + 1) d) (hm : f m = brk (f k)) : 1 ≤ d := by
  rcases h with ⟨h1, _⟩ | ⟨_, h2, _⟩
  · obtain rfl : m = k := by omega
    have h4 := (opens_kind hs).1
    rw [← hm, not_both2 hs] at h4
    cases h4
  · exact h2
end Go.Proofs.Ytcmcaifcncabgaa.Plain
