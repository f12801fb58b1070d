/- What is kept, and what was gone back from, step by step. -/
import Derived.Test.YtnfobonifapbmaaBackGo
set_option linter.unusedVariables false
set_option linter.unusedSimpArgs false
namespace Go.Proofs.Ytnfobonifapbmaa.Seek
open Go.RowKit

/-- What is kept of the first k things. -/
def kept (ws : List Int) (M k : Nat) : List Int := (ws.take k).drop (k - M)
theorem take_more (ws : List Int) (k : Nat) (h : k < ws.length) : ws.take (k + 1) = ws.take k ++ [ws.getD k 0] := by
  rw [List.take_add_one, List.getElem?_eq_getElem h, List.getD_eq_getElem?_getD, List.getElem?_eq_getElem h]
  rfl
theorem kept_len (ws : List Int) (M k : Nat) (h : k ≤ ws.length) : (kept ws M k).length = min k M := by
  unfold kept
  rw [List.length_drop, List.length_take]
  omega
theorem kept_step (ws : List Int) (most : Int) (k : Nat) (h : k < ws.length) : done (kept ws most.toNat k) most (ws.getD k 0) = kept ws most.toNat (k + 1) := by
  unfold done
  rw [kept_len ws _ k (by omega)]
  unfold kept
  rw [take_more ws k h, ← List.drop_append_of_le_length (by rw [List.length_take]; omega), List.drop_drop]
  congr 1
  omega
/-- Behind i steps back: what is still kept, what was gone back from, what is there. -/
def pst (ws : List Int) (n M i : Nat) : List Int := (ws.take (n - i)).drop (n - M)
def fut (ws : List Int) (n i : Nat) : List Int := (ws.drop (n - i + 1)).reverse
def cur (ws : List Int) (n i : Nat) : Int := ws.getD (n - i) 0
theorem pst_snoc (ws : List Int) (n M i : Nat) (hw : ws.length = n + 1) (h : i < min n M) : pst ws n M i = pst ws n M (i + 1) ++ [cur ws n (i + 1)] := by
  unfold pst cur
  rw [show n - i = n - (i + 1) + 1 by omega, take_more ws _ (by omega), List.drop_append_of_le_length (by rw [List.length_take]; omega)]
theorem fut_snoc (ws : List Int) (n i : Nat) (hw : ws.length = n + 1) (h : i < n) : fut ws n (i + 1) = fut ws n i ++ [cur ws n i] := by
  unfold fut cur
  have e : n - (i + 1) + 1 = n - i := by omega
  have hl : n - i < ws.length := by omega
  rw [e, List.drop_eq_getElem_cons hl, List.reverse_cons, List.getD_eq_getElem?_getD, List.getElem?_eq_getElem hl]
  rfl
theorem fut_zero (ws : List Int) (n : Nat) (hw : ws.length = n + 1) : fut ws n 0 = [] := by
  unfold fut
  rw [List.drop_of_length_le (by omega)]
  rfl
theorem pst_zero (ws : List Int) (n M : Nat) : pst ws n M 0 = kept ws M n := rfl
theorem pst_le (ws : List Int) (n M i : Nat) : (pst ws n M i).length ≤ n := by
  unfold pst
  rw [List.length_drop, List.length_take]
  omega
theorem fut_le (ws : List Int) (n i : Nat) (hw : ws.length = n + 1) (h : i ≤ n) : (fut ws n i).length = i := by
  unfold fut
  rw [List.length_reverse, List.length_drop]
  omega
theorem drop_last (a : List Int) (x : Int) : (a ++ [x]).dropLast = a := List.dropLast_concat
theorem backF_snoc (a f : List Int) (x now : Int) : backF (a ++ [x]) f now = f ++ [now] := by
  unfold backF
  rw [if_neg (by simp)]
theorem backX_snoc (a : List Int) (x now : Int) : backX (a ++ [x]) now = x := by
  unfold backX
  rw [if_neg (by simp)]
  simp
theorem backB_snoc (a : List Int) (x : Int) : backB (a ++ [x]) = true := by
  unfold backB
  simp
end Go.Proofs.Ytnfobonifapbmaa.Seek
