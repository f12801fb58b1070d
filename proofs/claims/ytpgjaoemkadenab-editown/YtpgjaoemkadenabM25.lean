/- slices.Repeat of numbers; slices.Concat of one and of three. -/
import Derived.Test.YtpgjaoemkadenabM08
import Derived.Test.YtpgjaoemkadenabM24
import Derived.Laws.CopyOwn
set_option linter.unusedVariables false
set_option linter.unusedSimpArgs false
set_option maxRecDepth 100000
namespace Go.Proofs.Ytpgjaoemkadenab.Plain
/-- A list n times. -/
def rep (n : Nat) (zs : List Int) : List Int := (List.range (n * zs.length)).map fun i => zs.getD (i % zs.length) 0
theorem rep_len (n : Nat) (zs : List Int) : (rep n zs).length = n * zs.length := by simp [rep]
theorem rep_at (n : Nat) (zs : List Int) (i : Nat) (h : i < n * zs.length) : (rep n zs).getD i 0 = zs.getD (i % zs.length) 0 := by
  simp [rep, List.getD_eq_getElem?_getD, h]
theorem rep_zero (zs : List Int) : rep 0 zs = [] := by simp [rep]
theorem rep_succ (n : Nat) (zs : List Int) : rep (n + 1) zs = rep n zs ++ zs := by
  unfold rep
  rw [Nat.succ_mul, List.range_add, List.map_append]
  congr 1
  rw [List.map_map]
  apply List.ext_getElem?
  intro i
  by_cases hi : i < zs.length
  · have e : (n * zs.length + i) % zs.length = i := by rw [Nat.mul_comm, Nat.mul_add_mod, Nat.mod_eq_of_lt hi]
    simp [hi, e]
  · rw [List.getElem?_eq_none (by simpa using hi), List.getElem?_eq_none (by omega)]
theorem rep_one (zs : List Int) : rep 1 zs = zs := by rw [rep_succ, rep_zero]; rfl
theorem rep_single (n : Nat) (c : Int) : rep n [c] = List.replicate n c := by
  induction n with
  | zero => exact rep_zero _
  | succ n ih => rw [rep_succ, ih, List.replicate_succ']
end Go.Proofs.Ytpgjaoemkadenab.Plain
namespace Go.Proofs.Ytpgjaoemkadenab.Seek
open Go.RowKit Plain

theorem rep_get (n : Nat) (zs : List Int) (i : Nat) (h : i < n * zs.length) : (rep n zs)[i]? = some (zs.getD (i % zs.length) 0) := by
  simp [rep, h]
theorem rep_copy (zs : List Int) (n q k : Nat) (h : q * zs.length + k * zs.length ≤ n * zs.length) (hk : k ≤ q) (i : Nat) (hi : i < k * zs.length) : (rep n zs)[q * zs.length + i]? = (rep n zs)[i]? := by
  rw [rep_get n zs _ (by omega), rep_get n zs i (by omega)]
  rw [show q * zs.length + i = zs.length * q + i by rw [Nat.mul_comm], Nat.mul_add_mod]
/-- A row that is filled up to place m. -/
def filled (R : List Int) (m : Nat) : List Value := ints (R.take m) ++ List.replicate (R.length - m) (.int .i64 0)
theorem filled_len (R : List Int) (m : Nat) (h : m ≤ R.length) : (filled R m).length = R.length := by
  unfold filled
  rw [List.length_append, ints_len, List.length_take, List.length_replicate]
  omega
theorem filled_all (R : List Int) : filled R R.length = ints R := by
  unfold filled
  rw [List.take_length, Nat.sub_self, List.replicate_zero, List.append_nil]
theorem filled_step (R : List Int) (m k : Nat) (h : m + k ≤ R.length) : splice (filled R m) m (ints ((R.drop m).take k)) = filled R (m + k) := by
  have h1 : (ints (R.take m)).length = m := by rw [ints_len, List.length_take]; omega
  have h2 : (ints ((R.drop m).take k)).length = k := by rw [ints_len, List.length_take, List.length_drop]; omega
  unfold splice filled
  rw [h2, List.take_append_of_le_length (by omega), List.take_of_length_le (by omega)]
  have h3 : (ints (R.take m) ++ List.replicate (R.length - m) (Value.int .i64 0)).drop (m + k) = List.replicate (R.length - (m + k)) (Value.int .i64 0) := by
    rw [List.drop_append, List.drop_of_length_le (by omega : (ints (R.take m)).length ≤ m + k), List.nil_append, h1, List.drop_replicate]
    congr 1
    omega
  rw [h3, ← List.append_assoc]
  congr 1
  rw [List.take_add, ints, ints, ints, List.map_append]
theorem filled_cell (R : List Int) (m i : Nat) (hi : i < m) (h : m ≤ R.length) : (filled R m)[i]? = some (.int .i64 (R.getD i 0)) := by
  unfold filled
  rw [List.getElem?_append_left (by rw [ints_len, List.length_take]; omega)]
  unfold ints
  rw [List.getElem?_map, List.getElem?_take, if_pos hi, List.getElem?_eq_getElem (by omega), List.getD_eq_getElem?_getD, List.getElem?_eq_getElem (by omega)]
  rfl
theorem one_ints (zs : List Int) : ∀ u ∈ ints zs, u.oneCell' = true := by
  intro u hu
  unfold ints at hu
  obtain ⟨z, _, rfl⟩ := List.mem_map.1 hu
  rfl
/-- What a row of the call's own holds. -/
theorem own_row (w : World) (g B : Nat) (R : List Int) (hB : B ≤ g) (hg : w.heap[g]? = some (.cells (ints R).toArray 3 (0, 0))) (hm : R.length ≤ maxLen) : Own w B (.slice (some ⟨g, 0, none⟩) R.length R.length) R :=
  own_of ⟨by rw [ints_len, Nat.mul_one], .inr ⟨g, R.length, (ints R).toArray, rfl, hB, hg, Nat.le_refl _, hm, by rw [List.size_toArray, ints_len, Nat.mul_one], by rw [Nat.mul_one]; simp [← ints_len]⟩⟩
theorem info3s : (Try.prog.info? 3).map (·.size) = some 1 := by kernel_rfl
theorem made_fill (n : Nat) : (madeCells #[.int .i64 0] n).toList = List.replicate n (.int .i64 0) := by
  apply List.ext_getElem?
  intro i
  by_cases hi : i < n
  · rw [List.getElem?_replicate, if_pos hi]
    simp [madeCells, hi, Nat.mod_one]
  · rw [List.getElem?_eq_none (by rw [Array.length_toList, size_madeCells]; omega), List.getElem?_eq_none (by rw [List.length_replicate]; omega)]
end Go.Proofs.Ytpgjaoemkadenab.Seek
