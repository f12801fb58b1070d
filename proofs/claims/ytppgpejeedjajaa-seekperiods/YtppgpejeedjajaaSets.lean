/- A map from ints to ints that serves as a set of numbers; the borders of two given words. -/
import Derived.Test.YtppgpejeedjajaaAllGo
import Derived.Test.YtppgpejeedjajaaLists
import Derived.Test.YtppgpejeedjajaaOf
import Derived.Maps.OwnOps
import Derived.Maps.Views
import Derived.Handy
set_option linter.unusedVariables false
set_option linter.unusedSimpArgs false
namespace Go.Proofs.Ytppgpejeedjajaa.Seek
open Go.RowKit Go.Maps

theorem law3 : Keyed Try.prog 3 := int_keyed Try.underlying3
theorem zero3 (w : World) : (zeroValue 3).run Try.prog w = .ok (.int .i64 0) w := by kernel_rfl
theorem nat_wf (n : Nat) (h : n ≤ 9223372036854775807) : (Lit.int .i64 (n : Int)).wf = true := by
  have h1 : IntKind.i64.min = -9223372036854775808 := rfl
  have h2 : IntKind.i64.max = 9223372036854775807 := rfl
  simp only [Lit.wf, Bool.and_eq_true, decide_eq_true_eq]
  omega
theorem key_nat (x : Nat) (h : x ≤ 9223372036854775807) : keyOf Try.prog 3 (.int .i64 (x : Int)) = some (.int .i64 (x : Int)) := keyOf_int_mk Try.underlying3 (nat_wf x h)

/-- The map holds just the numbers of S. -/
def HoldsSet (S : Nat → Bool) (D : DataW Unit) : Prop :=
  IsMap D ∧ ∀ x : Nat, D.atKey (.int .i64 (x : Int)) (.lit (.int .i64 0)) = .lit (.int .i64 (if S x = true then 1 else 0))
theorem set_none : HoldsSet (fun _ => false) (.map []) := ⟨⟨_, rfl⟩, fun x => rfl⟩
theorem set_put {S : Nat → Bool} {D : DataW Unit} (h : HoldsSet S D) (k : Nat) : HoldsSet (fun x => S x || x == k) (D.put (.int .i64 (k : Int)) (.lit (.int .i64 1))) := by
  obtain ⟨hm, ha⟩ := h
  refine ⟨?_, fun x => ?_⟩
  · obtain ⟨es, rfl⟩ := hm
    exact ⟨_, rfl⟩
  · by_cases hx : k = x
    · rw [← hx, atKey_put_same hm (show WideAt.IsKeyLit (.int .i64 _) from trivial)]
      simp
    · rw [atKey_put_other (by simp; omega), ha x]
      have : (x == k) = false := by simp; omega
      simp only [this, Bool.or_false]
theorem HoldsSet.of {S S' : Nat → Bool} {D : DataW Unit} (h : HoldsSet S D) (he : ∀ x, S x = S' x) : HoldsSet S' D := ⟨h.1, fun x => by rw [h.2 x, he x]⟩
theorem set_look {S : Nat → Bool} {D : DataW Unit} {w : World} {g n : Nat} (hown : w.ownsMap Try.prog 3 (plainElem Try.prog 3) g n D) (h : HoldsSet S D) (x : Nat) (hx : x ≤ 9223372036854775807) :
    (Instr.lookup 34 (.map (some g)) (.int .i64 (x : Int)) false).run Try.prog w = .ok (.int .i64 (if S x = true then 1 else 0)) w := by
  obtain ⟨c, hrun, hat, _⟩ := hown.lookup_int law3 Try.underlying34 Try.underlying3 (zero3 _) (key_nat x hx)
  rw [h.2 x] at hat
  rw [hrun]
  have : c = if S x = true then 1 else 0 := by
    have h := DataW.lit.inj hat
    injection h with _ h
    exact h.symm
  rw [this]

theorem bords_abab : bords (codes ⟨#[97, 98, 97, 98]⟩) = [0, 0, 1, 2] := by decide
theorem bords_aa : bords (codes ⟨#[97, 97]⟩) = [0, 1] := by decide
/-- Whether there is such a border. -/
def bordB (p : Nat → Int) (n k : Nat) : Bool := Plain.bordC p n k
theorem bordB_true (p : Nat → Int) (n k : Nat) : bordB p n k = true ↔ Plain.Bord p n k := Plain.bordC_true p n k
/-- The borders above k, and one more. -/
theorem bords_above {p : Nat → Int} {n k : Nat} (hk : Plain.Bord p n k) (h0 : 0 < k) (x : Nat) : (bordB p n x && decide (Plain.lb p k < x)) = ((bordB p n x && decide (k < x)) || x == k) := by
  have hb := Plain.lb_long p k h0
  have hlt := hb.1.1
  by_cases hx : Plain.Bord p n x
  · have h1 := (bordB_true p n x).2 hx
    rw [h1, Bool.true_and, Bool.true_and]
    rcases Nat.lt_trichotomy x k with h | rfl | h
    · have := Plain.chain_next hk hb hx h
      rw [Bool.eq_iff_iff]
      simp only [decide_eq_true_eq, Bool.or_eq_true, beq_iff_eq]
      omega
    · simp
      omega
    · rw [Bool.eq_iff_iff]
      simp only [decide_eq_true_eq, Bool.or_eq_true, beq_iff_eq]
      omega
  · have h1 : bordB p n x = false := by
      rw [← Bool.not_eq_true, bordB_true]
      exact hx
    have h2 : (x == k) = false := by
      rw [beq_eq_false_iff_ne]
      intro e
      rw [e] at hx
      exact hx hk
    rw [h1, h2]
    simp
/-- A literal list in new memory. -/
theorem reads_new (w : World) (zs : List Int) (h : zs.length ≤ maxLen) : Reads (w.alloc (.cells (ints zs).toArray 3)) (.slice (some ⟨w.heap.size, 0, none⟩) zs.length zs.length) zs := by
  refine .inr ⟨w.heap.size, 0, zs.length, rfl, Nat.le_refl _, h, by show w.heap.size < (w.heap.push _).size; simp, fun j hj => ?_⟩
  rw [Nat.zero_add]
  unfold World.cell?
  simp only
  rw [show ∀ o, (w.alloc o).heap[w.heap.size]? = some o from fun o => by show (w.heap.push o)[w.heap.size]? = _; simp]
  unfold ints
  simp [hj]
end Go.Proofs.Ytppgpejeedjajaa.Seek
