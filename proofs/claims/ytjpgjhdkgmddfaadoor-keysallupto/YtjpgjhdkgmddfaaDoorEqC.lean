/- The contract of slices.Equal of commands, where both hold the same ones. -/
import Derived.Test.YtjpgjhdkgmddfaaDoorCmdRows
import Derived.Deep.QuietTactic
import Derived.BigQuiet
set_option linter.unusedVariables false
set_option linter.unusedSimpArgs false
namespace Go.Proofs.YtjpgjhdkgmddfaaDoor.Seek
open Go.RowKit Plain

theorem neq_same {t : TypeId} (ht : t = 27 ∨ t = 24) (p : Five) (w : World) : (binOp .neq t (fv p) (fv p)).run Tryd.prog w = .ok (.bool false) w := by
  have h := eqF ht p p w
  rw [decide_eq_true rfl] at h
  unfold fv at h ⊢
  rw [run_eql_struct] at h
  rw [run_neq_struct]
  cases hr : (Op.equalIn 10000 t (.agg #[.int .i64 p.1, .int .i64 p.2.1, .int .i64 p.2.2.1, .int .i64 p.2.2.2.1, .int .i64 p.2.2.2.2]) (.agg #[.int .i64 p.1, .int .i64 p.2.1, .int .i64 p.2.2.1, .int .i64 p.2.2.2.1, .int .i64 p.2.2.2.2])).run Tryd.prog w with
  | ok b w1 =>
    rw [hr] at h
    simp only [Result.andThen_ok, Result.ok.injEq, Value.bool.injEq] at h ⊢
    rw [h.1, h.2]
    exact ⟨rfl, rfl⟩
  | halt x w1 =>
    rw [hr] at h
    simp [Result.andThen] at h
theorem ReadsC.each {w : World} {a : Option Addr} {cs : List Five} {cap : Nat} (h : ReadsC w (.slice a cs.length cap) cs) : ∀ k, k < cs.length → ∃ b, a = some ⟨b, 0, none⟩ ∧ w.cell? ⟨b, k * 5, none⟩ = some (.int .i64 (cs.getD k zer).1) ∧ w.cell? ⟨b, k * 5 + 1, none⟩ = some (.int .i64 (cs.getD k zer).2.1) ∧
    w.cell? ⟨b, k * 5 + 2, none⟩ = some (.int .i64 (cs.getD k zer).2.2.1) ∧ w.cell? ⟨b, k * 5 + 3, none⟩ = some (.int .i64 (cs.getD k zer).2.2.2.1) ∧ w.cell? ⟨b, k * 5 + 4, none⟩ = some (.int .i64 (cs.getD k zer).2.2.2.2) := by
  intro k hk
  rcases h with ⟨_, _, _, rfl⟩ | ⟨b, c, hv, _, _, _, hc⟩
  · cases hk
  · cases hv
    obtain ⟨e0, e1, e2, e3, e4⟩ := hc k hk
    exact ⟨b, rfl, e0, e1, e2, e3, e4⟩
theorem ReadsC.len {w : World} {v : Value} {cs : List Five} (h : ReadsC w v cs) : cs.length ≤ maxLen := by
  rcases h with ⟨_, _, _, rfl⟩ | ⟨b, c, hv, h1, h2, _, _⟩
  · exact Nat.zero_le _
  · exact Nat.le_trans h1 h2
theorem OwnC.cap {w : World} {B : Nat} {a : Option Addr} {n c : Nat} {cs : List Five} (h : OwnC w B (.slice a n c) cs) : cs.length ≤ c ∧ c ≤ maxLen := by
  rcases h.2 with ⟨hv, h0⟩ | ⟨g, cap, cur, hv, hb, hg, hn, hm, hsz, ht⟩
  · cases hv
    exact ⟨by omega, Nat.zero_le _⟩
  · cases hv
    exact ⟨hn, hm⟩
/-- A part from the front of a row of commands. -/
theorem ReadsC.front {w : World} {a : Option Addr} {cs : List Five} {cap : Nat} (h : ReadsC w (.slice a cs.length cap) cs) (i : Nat) (hi : i ≤ cs.length) : ReadsC w (.slice a i cap) (cs.take i) := by
  have hl : (cs.take i).length = i := by rw [List.length_take]; omega
  rcases h with ⟨_, _, _, rfl⟩ | ⟨b, c, hv, g1, g2, g3, g4⟩
  · obtain rfl : i = 0 := by simpa using hi
    exact .inl ⟨_, _, rfl, by simp⟩
  · cases hv
    refine .inr ⟨b, cap, by rw [hl], by omega, g2, g3, fun j hj => ?_⟩
    rw [hl] at hj
    have := g4 j (by omega)
    rw [show (cs.take i).getD j zer = cs.getD j zer by rw [List.getD_eq_getElem?_getD, List.getD_eq_getElem?_getD, List.getElem?_take, if_pos hj]]
    exact this

set_option maxRecDepth 100000 in
set_option maxHeartbeats 2000000 in
theorem equalC_same (v u : Value) (cs : List Five) (w : World) (h1 : ReadsC w v cs) (h2 : ReadsC w u cs) :
    Calls Tryd.prog 10 #[v, u] w fun e w' => e = .returned (.bool true) ∧ Below w.heap.size w w' := by
  obtain ⟨a1, c1, rfl⟩ := h1.shape
  obtain ⟨a2, c2, rfl⟩ := h2.shape
  have H1 : Hid _ := h1.each
  have H2 : Hid _ := h2.each
  have hl := h1.len
  unfold maxLen at hl
  clear h1 h2
  go_enter Tryd.func10, Tryd.ntmps10
  go_wp2_with fail
  go_loopw [13] (fun u13 wr => ∃ k : Nat, u13 = .int .i64 (k : Int) ∧ k ≤ cs.length ∧ Hid ((∀ a, wr.cell? a = w.cell? a) ∧ Below w.heap.size w wr)) (fun u13 _ => cs.length - (intOf u13).toNat)
  case atStart => exact ⟨0, rfl, Nat.zero_le _, fun _ => rfl, Below.refl _ _⟩
  case round =>
    obtain ⟨k, rfl, hk, Hq⟩ := hrel
    have HQ : Hid (∀ a, wr.cell? a = w.cell? a) := Hq.out.1
    have HB : Hid (Below w.heap.size w wr) := Hq.out.2
    clear Hq
    by_cases hlt : k < cs.length
    · obtain ⟨b, rfl, e0, e1, e2, e3, e4⟩ := H1.out k hlt
      obtain ⟨b2, rfl, f0, f1, f2, f3, f4⟩ := H2.out k hlt
      have hI : (k : Int) < (cs.length : Int) := by omega
      rw [← HQ.out] at e0 e1 e2 e3 e4 f0 f1 f2 f3 f4
      have hne := fun w' => neq_same (.inr rfl) (cs.getD k zer) w'
      unfold fv at hne
      generalize cs.getD k zer = c at *
      obtain ⟨x0, x1, x2, x3, x4⟩ := c
      simp only at e0 e1 e2 e3 e4 f0 f1 f2 f3 f4 hne
      have hgd := fun x y xs ys w' => run_eqGuard_agg (P := Tryd.prog) w' .neq 24 x y xs ys (by kernel_rfl)
      go_wp2_with fail
      go_quiet (fail)
      obtain ⟨wq, hwq⟩ : ∃ wq, wq = wr.drewN nq := ⟨_, rfl⟩
      have HB2 : Hid ((∀ a, wq.cell? a = w.cell? a) ∧ Below w.heap.size w wq) := by rw [hwq]; exact ⟨HQ.out, below_drewN HB.out nq⟩
      rw [← hwq]
      clear hwq e0 e1 e2 e3 e4 f0 f1 f2 f3 f4 hne hgd
      go_wp2_with fail
      go_roundw
      case rel => exact ⟨k + 1, by go_num, by omega, HB2.out⟩
      case measure => simp [intOf]; omega
    · obtain rfl : k = cs.length := by omega
      go_wp2_with fail
      go_ret
      exact ⟨rfl, HB.out⟩
end Go.Proofs.YtjpgjhdkgmddfaaDoor.Seek
