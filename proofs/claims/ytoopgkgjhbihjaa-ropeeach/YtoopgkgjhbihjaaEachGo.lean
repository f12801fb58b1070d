/- The contracts of rope.each and of Each, whatever the loop's rounds do. -/
import Derived.RangeFuncNested
import Derived.RangeFuncBound
import Derived.RangeFuncCalls
import Derived.RangeFuncLeaves
import Derived.Shelf.Abstract
import Derived.Shelf.RegionOpen
import Derived.WalkKit
import Derived.OwnWalkIn
import Derived.TacticsInMore
import Derived.LoopNIn
import Derived.LoopIn
import Derived.Test.YtoopgkgjhbihjaaVars
set_option linter.unusedVariables false
set_option linter.unusedSimpArgs false
namespace Go.Proofs.Ytoopgkgjhbihjaa.Seek
open Go.RowKit

attribute [local go_sem] Oper.semAt_some

/-- A contract inside the widest fence. -/
theorem calls_in {F : Fence} (hF : F = Fence.wide) {n : Nat} {P : Program} {f : FuncId} {args : Array Value} {w : World} {R : Ending → World → Prop} (h : Calls P f args w R) : CallsIn F n P f args w R := by
  subst hF
  exact callsIn_wide.2 h
theorem yield_any {F : Fence} (hF : F = Fence.wide) {m : Nat} (m' : Nat) {P : Program} {l : Nat} {args : Array Value} {W : World} {R : Ending → World → Prop} (h : YieldAt F m P l args W R) : YieldAt F m' P l args W R := by
  subst hF
  obtain ⟨fn, tmps, assign, body, hy, hR⟩ := h
  exact ⟨fn, tmps, assign, body, hy, hR.1, fun c cs _ => hR.2 c cs (room_wide _)⟩

/-- The loop's function. -/
abbrev yielder (l : Nat) : Value := .func (.yield l) #[] #[]
/-- Nodes, blocks below n₀ of four cells and more, stay. -/
def Nodes (n₀ : Nat) (W W' : World) : Prop := ∀ b x, b < n₀ → W.cell? ⟨b, 3, none⟩ = some x → ∀ o, W'.cell? ⟨b, o, none⟩ = W.cell? ⟨b, o, none⟩
theorem Nodes.refl (n₀ : Nat) (W : World) : Nodes n₀ W W := fun _ _ _ _ _ => rfl
theorem Nodes.trans {n₀ : Nat} {A B C : World} (h : Nodes n₀ A B) (k : Nodes n₀ B C) : Nodes n₀ A C := fun b x hb hx o => (k b x hb ((h b x hb hx 3).trans hx) o).trans (h b x hb hx o)
theorem Nodes.of_below {n₀ : Nat} {A B : World} (h : Below n₀ A B) : Nodes n₀ A B := fun b _ hb _ _ => h.cell (by exact hb)
theorem Nodes.set {n₀ bx : Nat} {A : World} {t : TypeId} {v : Value} (h : Boxed A bx t v) (v' : Value) : Nodes n₀ A (A.setCell ⟨bx, 0, none⟩ v') := by
  intro b x hb hx o
  have hne : b ≠ bx := by
    rintro rfl
    rw [boxed_three h] at hx
    cases hx
  exact World.cell?_of_block (w := A) (Below.heap_setCell _ _ _ b (fun e => hne e))
theorem Nodes.put {n₀ l : Nat} {A : World} (hl : n₀ ≤ l) (o : Obj) : Nodes n₀ A (A.putObj l o) := fun b _ hb _ _ => World.cell?_of_block (World.putObj_heap_other (by show b ≠ l; omega))
theorem treeF_nodes {w w' : World} {B : Nat} (hk : Nodes B w w') : ∀ (n : Nat) (p : Option Addr) (zs : List Int), TreeF w B n p zs → TreeF w' B n p zs
  | 0, _, _, h => h
  | n + 1, p, zs, h => by
    rcases h with h | ⟨hz, b, pl, pr, hp, hlt, c0, c1, c2, c3, hl, hr⟩
    · exact .inl h
    · exact .inr ⟨hz, b, pl, pr, hp, hlt, (hk b _ hlt c3 0).trans c0, (hk b _ hlt c3 1).trans c1, (hk b _ hlt c3 2).trans c2, (hk b _ hlt c3 3).trans c3, treeF_nodes hk n _ _ hl, treeF_nodes hk n _ _ hr⟩
theorem Tree.nodes {w w' : World} {B : Nat} {p : Option Addr} {zs : List Int} (h : Tree w B p zs) (hk : Nodes B w w') : Tree w' B p zs := by
  obtain ⟨n, h⟩ := h
  exact ⟨n, treeF_nodes hk n _ _ h⟩
/-- What a round leaves, or all of them. -/
def Went (n₀ : Nat) (J : Nat → World → Prop) (Jx : World → Prop) (i : Nat) (W : World) (e : Ending) (W' : World) : Prop :=
  (e = .returned (.bool true) ∧ J i W' ∧ Nodes n₀ W W') ∨ (e = .returned (.bool false) ∧ Jx W')

theorem each_none (F : Fence) (hF : F = Fence.wide) (n : Nat) (k : Int) (l : Nat) (W : World) : CallsIn F n Try.prog 26 #[.pointer none, .int .i64 k, yielder l] W fun e w' => e = .returned (.bool true) ∧ w' = W :=
  calls_in hF (by
    go_enter Try.func26, Try.ntmps26
    go_wp2_with fail
    go_ret
    exact ⟨rfl, rfl⟩)

set_option maxRecDepth 100000 in
set_option maxHeartbeats 2000000 in
theorem each_round (F : Fence) (hF : F = Fence.wide) (n l n₀ b k M R : Nat) (pl pr : Option Addr) (x : Int) (x3 : Value) (J : Nat → World → Prop) (Jx : World → Prop) (W : World) (hb : b < n₀) (hk : k ≤ 4096) (hM : M ≤ 4096)
    (c0 : W.cell? ⟨b, 0, none⟩ = some (.pointer pl)) (c1 : W.cell? ⟨b, 1, none⟩ = some (.pointer pr)) (c2 : W.cell? ⟨b, 2, none⟩ = some (.int .i64 x)) (c3 : W.cell? ⟨b, 3, none⟩ = some x3)
    (hsz : CallsIn F (n - 1) Try.prog 25 #[.pointer pl] W fun e w' => e = .returned (.int .i64 (M : Int)) ∧ w' = W)
    (hl : CallsIn F (n - 1) Try.prog 26 #[.pointer pl, .int .i64 (k : Int), yielder l] W fun e w' => Went n₀ J Jx (k + M) W e w')
    (hy : ∀ W1, J (k + M) W1 → YieldAt F (n - 1) Try.prog l #[.int .i64 ((k : Int) + (M : Int)), .int .i64 x] W1 fun e W2 => Went n₀ J Jx (k + M + 1) W1 e W2)
    (hr : ∀ W2, Nodes n₀ W W2 → J (k + M + 1) W2 → CallsIn F (n - 1) Try.prog 26 #[.pointer pr, .int .i64 ((k : Int) + (M : Int) + 1), yielder l] W2 fun e w' => Went n₀ J Jx (k + M + 1 + R) W2 e w') :
    CallsIn F n Try.prog 26 #[.pointer (some ⟨b, 0, none⟩), .int .i64 (k : Int), yielder l] W fun e w' => Went n₀ J Jx (k + M + 1 + R) W e w' := by
  have hro : F.round = none := by rw [hF]; rfl
  have hfn : ∀ f, F.fn f := fun f => by rw [hF]; trivial
  have hdd : ∀ k : Nat, (F.depth.isSome = true → 1 ≤ k) := fun k h => by rw [hF] at h; cases h
  have HF : Hid (F = Fence.wide) := hF
  clear hF
  have hl2 : CallsIn F (n - 1) Try.prog 26 #[.pointer pl, .int .i64 (k : Int), yielder l] W fun e W1 =>
      (e = .returned (.bool true) ∧ W1.cell? ⟨b, 2, none⟩ = some (.int .i64 x) ∧ Hid (Nodes n₀ W W1) ∧ YieldAt F (n - 1) Try.prog l #[.int .i64 ((k : Int) + (M : Int)), .int .i64 x] W1 fun e W2 =>
        (e = .returned (.bool true) ∧ W2.cell? ⟨b, 1, none⟩ = some (.pointer pr) ∧ Hid (Nodes n₀ W W2) ∧ Hid (J (k + M + 1) W2)) ∨ (e = .returned (.bool false) ∧ Hid (Jx W2))) ∨ (e = .returned (.bool false) ∧ Hid (Jx W1)) := by
    refine hl.mono ?_
    rintro e W1 (⟨rfl, hJ, hB⟩ | ⟨rfl, hx⟩)
    · refine .inl ⟨rfl, (hB b _ hb c3 2).trans c2, hB, YieldAt.mono (hy W1 hJ) ?_⟩
      rintro e W2 (⟨rfl, hJ2, hB2⟩ | ⟨rfl, hx⟩)
      · exact .inl ⟨rfl, ((hB.trans hB2) b _ hb c3 1).trans c1, hB.trans hB2, hJ2⟩
      · exact .inr ⟨rfl, hx⟩
    · exact .inr ⟨rfl, hx⟩
  have Hr : Hid _ := hr
  clear hl hy hr
  refine callsIn_of_wp Try.func26 rfl (hfn _) ?_ hro
  simp only [Try.ntmps26, List.size_toArray, List.length_cons, List.length_nil, Nat.reduceAdd, Nat.reduceSub, Array.replicate_succ, Array.replicate_zero, List.push_toArray, List.append_toArray, List.nil_append, List.cons_append]
  gi_wp2_with (first
    | ((try refine ⟨hdd _, ?_⟩); gi_at_call 25; refine hsz.mono ?_; clear hsz; rintro e W0 ⟨rfl, rfl⟩)
    | ((try refine ⟨hdd _, ?_⟩); gi_at_call 26; refine hl2.mono ?_; clear hl2; rintro e W1 (⟨rfl, c2', hb1, fn, tmps, assign, body, hy, hR⟩ | ⟨rfl, hx1⟩))
    | ((try refine ⟨hdd _, ?_⟩); refine hR.mono ?_; clear hR; rintro e W2 (⟨rfl, c1', hb2, hJ2⟩ | ⟨rfl, hx2⟩))
    | ((try refine ⟨hdd _, ?_⟩); gi_at_call 26; refine (Hr.out _ hb2.out hJ2.out).mono ?_; rintro e W3 (⟨rfl, hJ3, hb3⟩ | ⟨rfl, hx3⟩)))
  · go_ret
    exact .inl ⟨rfl, hJ3, hb2.out.trans hb3⟩
  · go_ret
    exact .inr ⟨rfl, hx3⟩
  · go_ret
    exact .inr ⟨rfl, hx2.out⟩
  · go_ret
    exact .inr ⟨rfl, hx1.out⟩

theorem each_yields (F : Fence) (hF : F = Fence.wide) (l n₀ : Nat) (zs : List Int) (hz : zs.length ≤ 4096) (J : Nat → World → Prop) (Jx : World → Prop)
    (hY : ∀ m i W, J i W → i < zs.length → YieldAt F m Try.prog l #[.int .i64 (i : Int), .int .i64 (zs.getD i 0)] W fun e W' => Went n₀ J Jx (i + 1) W e W') :
    ∀ (f : Nat) (sub : List Int) (n : Nat) (p : Option Addr) (k : Nat) (W : World), sub.length ≤ f → k + sub.length ≤ zs.length → (∀ i, i < sub.length → zs.getD (k + i) 0 = sub.getD i 0) → Tree W n₀ p sub → J k W →
      CallsIn F n Try.prog 26 #[.pointer p, .int .i64 (k : Int), yielder l] W fun e W' => Went n₀ J Jx (k + sub.length) W e W'
  | f, sub, n, p, k, W, hf, hk, hs, h, hJ => by
    rcases h.parts with ⟨rfl, rfl⟩ | ⟨hz0, b, pl, pr, rfl, hb, c0, c1, c2, c3, hl, hr⟩
    · refine (each_none F hF n k l W).mono ?_
      rintro e w' ⟨rfl, rfl⟩
      exact .inl ⟨rfl, hJ, Nodes.refl _ _⟩
    · have hl0 : 0 < sub.length := List.length_pos_iff.2 hz0
      cases f with
      | zero => omega
      | succ f =>
        have hsz := size_any pl _ n₀ W hl
        have hlen1 := len_left sub
        have hlen2 := len_right sub
        rw [hlen1] at hsz
        have hmid : zs.getD (k + sub.length / 2) 0 = sub.getD (sub.length / 2) 0 := hs _ (by omega)
        have := each_round F hF n l n₀ b k (sub.length / 2) (sub.length - (sub.length / 2 + 1)) pl pr _ _ J Jx W hb (by omega) (by omega) c0 c1 c2 c3 (calls_in hF hsz)
          (by
            have h1 := each_yields F hF l n₀ zs hz J Jx hY f _ (n - 1) pl k W (by rw [hlen1]; omega) (by rw [hlen1]; omega) (fun i hi => by
              rw [hlen1] at hi
              rw [hs i (by omega)]
              exact (getD_left sub i hi).symm) hl hJ
            rw [hlen1] at h1
            exact h1)
          (by
            intro W1 hJ1
            have h1 := hY (n - 1) (k + sub.length / 2) W1 hJ1 (by omega)
            rw [hmid] at h1
            rw [show ((k : Int) + ((sub.length / 2 : Nat) : Int)) = ((k + sub.length / 2 : Nat) : Int) by omega]
            exact h1)
          (by
            intro W2 hB2 hJ2
            have h1 := each_yields F hF l n₀ zs hz J Jx hY f _ (n - 1) pr (k + sub.length / 2 + 1) W2 (by rw [hlen2]; omega) (by rw [hlen2]; omega) (fun i hi => by
              rw [hlen2] at hi
              have e1 := hs (sub.length / 2 + 1 + i) (by omega)
              have e2 := getD_right sub (sub.length / 2 + 1 + i) (by omega)
              rw [show sub.length / 2 + 1 + i - sub.length / 2 - 1 = i by omega] at e2
              rw [e2, ← e1]
              congr 1
              omega) (hr.nodes hB2) hJ2
            rw [hlen2] at h1
            rw [show ((k : Int) + ((sub.length / 2 : Nat) : Int) + 1) = ((k + sub.length / 2 + 1 : Nat) : Int) by omega]
            exact h1)
        rw [show k + sub.length / 2 + 1 + (sub.length - (sub.length / 2 + 1)) = k + sub.length by omega] at this
        exact this

theorem yields_not_nil (l : Nat) (w : World) : (binOp .neq 49 (yielder l) .nilFunc).run Try.prog w = .ok (.bool true) w := by
  first
    | rfl
    | simp [binOp, go_sem, Try.underlying49]
set_option maxRecDepth 100000 in
set_option maxHeartbeats 2000000 in
/-- Each. -/
theorem each_all (F : Fence) (hF : F = Fence.wide) (n m l n₀ : Nat) (p : Option Addr) (zs : List Int) (hz : zs.length ≤ 4096) (J : Nat → World → Prop) (Jx : World → Prop) (hJa : ∀ i W o, J i W → J i (W.alloc o))
    (hY : ∀ i W, J i W → i < zs.length → YieldAt F m Try.prog l #[.int .i64 (i : Int), .int .i64 (zs.getD i 0)] W fun e W' => Went n₀ J Jx (i + 1) W e W') (W : World) (hn : n₀ ≤ W.heap.size) (hT : Tree W n₀ p zs) (h0 : J 0 W) :
    CallsIn F n Try.prog 23 #[.agg #[.pointer p], yielder l] W fun e W' => (∃ v, e = .returned v) ∧ (J zs.length W' ∨ Jx W') := by
  have hro : F.round = none := by rw [hF]; rfl
  have hfn : ∀ f, F.fn f := fun f => by rw [hF]; trivial
  have hdd : ∀ k : Nat, (F.depth.isSome = true → 1 ≤ k) := fun k h => by rw [hF] at h; cases h
  have HE : Hid (∀ o : Obj, CallsIn F (n - 1) Try.prog 26 #[.pointer p, .int .i64 0, yielder l] (W.alloc o) fun e W' => Went n₀ J Jx zs.length (W.alloc o) e W') := fun o => by
    have h1 := each_yields F hF l n₀ zs hz J Jx (fun m' i W hj hi => yield_any hF m' (hY i W hj hi)) zs.length zs (n - 1) p 0 (W.alloc o) (Nat.le_refl _) (by omega) (fun i hi => by rw [Nat.zero_add]) (hT.below (((Below.refl _ _).alloc hn _))) (hJa _ _ _ h0)
    rw [Nat.zero_add] at h1
    exact h1
  clear hF hY hT h0
  have hnn := yields_not_nil l
  refine callsIn_of_wp Try.func23 rfl (hfn _) ?_ hro
  simp only [Try.ntmps23, List.size_toArray, List.length_cons, List.length_nil, Nat.reduceAdd, Nat.reduceSub, Array.replicate_succ, Array.replicate_zero, List.push_toArray, List.append_toArray, List.nil_append, List.cons_append]
  gi_wp2_with ((try refine ⟨hdd _, ?_⟩); gi_at_call 26; refine (HE.out _).mono ?_; rintro e W1 (⟨rfl, hJ1, _⟩ | ⟨rfl, hx⟩))
  · go_end0
    exact ⟨⟨_, rfl⟩, .inl hJ1⟩
  · go_end0
    exact ⟨⟨_, rfl⟩, .inr hx⟩
end Go.Proofs.Ytoopgkgjhbihjaa.Seek
