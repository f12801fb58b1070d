/- The contracts of gathered's put, take and stay. -/
import Derived.Test.YtpgecholpbpakabSpreadGo
import Derived.Deep.RegionLaw
set_option linter.unusedVariables false
set_option linter.unusedSimpArgs false
namespace Go.Proofs.Ytpgecholpbpakab.Seek
open Go.RowKit Plain

/-- A row of splices of the call's own, with texts of its own, all in blocks below K. -/
def OwnK (w : World) (B K : Nat) (v : Value) (es : List Spl) : Prop :=
  ∃ vs : List Value, vs.length = es.length ∧ w.ownsRow B 30 3 v es.length (rowCells es vs) ∧ (∀ k, v.ownBlock = some k → k < K) ∧
    ∀ j, j < es.length → TextOf w B v.ownBlock (vs.getD j undef) (es.getD j spl0).2.2 ∧ ((es.getD j spl0).2.2 = [] ∨ ∀ k, (vs.getD j undef).ownBlock = some k → k < K)
theorem OwnK.own {w : World} {B K : Nat} {v : Value} {es : List Spl} (h : OwnK w B K v es) : OwnE w B v es := by
  obtain ⟨vs, h1, h2, _, h3⟩ := h
  exact ⟨vs, h1, h2, fun j hj => (h3 j hj).1⟩
theorem OwnE.ownK {w : World} {B : Nat} {v : Value} {es : List Spl} (h : OwnE w B v es) : OwnK w B w.heap.size v es := by
  have h9 := h
  obtain ⟨vs, h1, h2, h3⟩ := h
  refine ⟨vs, h1, h2, fun k hk => (h9.lt k hk).2, fun j hj => ⟨h3 j hj, ?_⟩⟩
  by_cases hz : (es.getD j spl0).2.2 = []
  · exact .inl hz
  · refine .inr (fun k hk => ?_)
    obtain ⟨g, hg, _, hlt⟩ := own_block (h3 j hj).2.1 hz
    rw [hg] at hk
    have := Option.some.inj hk
    omega
theorem row_kept {w w' : World} {B : Nat} {e : TypeId} {size n : Nat} {v : Value} {xs : List Value} (h : w.ownsRow B e size v n xs) (hb : ∀ k, v.ownBlock = some k → w'.heap[k]? = w.heap[k]?) : w'.ownsRow B e size v n xs := by
  refine ⟨h.1, ?_⟩
  rcases h.2 with hn | ⟨g, cap, cur, rfl, hB, hg, rest⟩
  · exact .inl hn
  · exact .inr ⟨g, cap, cur, rfl, hB, (hb g rfl).trans hg, rest⟩
theorem OwnK.kept {w w' : World} {B K : Nat} {v : Value} {es : List Spl} (h : OwnK w B K v es) (hs : w.heap.size ≤ w'.heap.size) (hb : ∀ k, B ≤ k → k < K → w'.heap[k]? = w.heap[k]?) : OwnK w' B K v es := by
  obtain ⟨vs, h1, h2, h4, h3⟩ := h
  refine ⟨vs, h1, row_kept h2 (fun k hk => hb k (h2.lt k hk).1 (h4 k hk)), h4, fun j hj => ?_⟩
  obtain ⟨⟨m, o, p⟩, q⟩ := h3 j hj
  refine ⟨⟨m, ?_, p⟩, q⟩
  rcases o with o | ⟨hz, g, cap, hv, hB, hg1, o⟩
  · exact .inl o
  · refine .inr ⟨hz, g, cap, hv, hB, Nat.lt_of_lt_of_le hg1 hs, row_kept o (fun k hk => ?_)⟩
    have hk2 := (q.resolve_left hz) k hk
    exact hb k (o.lt k hk).1 hk2
theorem OwnI.kept {w w' : World} {B : Nat} {v : Value} {zs : List Int} (h : OwnI w B v zs) (hb : ∀ k, B ≤ k → k < w.heap.size → w'.heap[k]? = w.heap[k]?) : OwnI w' B v zs :=
  row_kept h (fun k hk => hb k (h.lt k hk).1 (h.lt k hk).2)
/-- The four cells of what is gathered. -/
def cells4 (ev : Value) (f t : Nat) (tv : Value) : Nat → Value := fun c => if c = 0 then ev else if c = 1 then .int .i64 (f : Int) else if c = 2 then .int .i64 (t : Int) else tv
/-- What is gathered, in block gb: the splices done, and the one that grows. -/
def Gath (w : World) (gb : Nat) (D : List Nsp) (f t : Nat) (x : List Int) : Prop :=
  ∃ (ev : Value) (a : Option Addr) (cap K : Nat), w.rowIs gb 47 4 (cells4 ev f t (.slice a x.length cap)) ∧ gb < K ∧ K ≤ w.heap.size ∧ OwnK w (gb + 1) K ev (ups D) ∧ OwnI w K (.slice a x.length cap) x
theorem gath_new (w : World) : Gath (w.alloc (.cells #[.slice none 0 0, .int .i64 0, .int .i64 0, .slice none 0 0] 47)) w.heap.size [] 0 0 [] := by
  refine ⟨.slice none 0 0, none, 0, w.heap.size + 1, ⟨_, blk_new _ _, rfl, fun i hi => ?_⟩, by omega, by rw [size_alloc]; exact Nat.le_refl _, ⟨[], rfl, World.ownsRow_nil _ _ _ _, fun k hk => (by cases hk), fun j hj => (by cases hj)⟩, ownI_nil _ _⟩
  match i, hi with
  | 0, _ => rfl
  | 1, _ => rfl
  | 2, _ => rfl
  | 3, _ => rfl
theorem Gath.edit {w : World} {gb : Nat} {D : List Nsp} {f t : Nat} {x : List Int} (h : Gath w gb D f t x) : ∃ ev, w.cell? ⟨gb, 0, none⟩ = some ev ∧ OwnE w (gb + 1) ev (ups D) := by
  obtain ⟨ev, a, cap, K, h1, _, _, h4, _⟩ := h
  exact ⟨ev, h1.cell (by decide), h4.own⟩
theorem cells4_set0 {w : World} {gb : Nat} {ev : Value} {f t : Nat} {tv : Value} (h : w.rowIs gb 47 4 (cells4 ev f t tv)) (u : Value) : (w.setCell ⟨gb, 0, none⟩ u).rowIs gb 47 4 (cells4 u f t tv) :=
  (h.set 0 u).congr fun c hc => by unfold cells4; split <;> rfl
theorem cells4_set2 {w : World} {gb : Nat} {ev : Value} {f t : Nat} {tv : Value} (h : w.rowIs gb 47 4 (cells4 ev f t tv)) (t' : Nat) : (w.setCell ⟨gb, 2, none⟩ (.int .i64 (t' : Int))).rowIs gb 47 4 (cells4 ev f t' tv) :=
  (h.set 2 _).congr fun c hc => by
    unfold cells4
    by_cases h2 : c = 2
    · subst h2; rfl
    · rw [if_neg h2, if_neg h2, if_neg h2]
theorem cells4_set3 {w : World} {gb : Nat} {ev : Value} {f t : Nat} {tv : Value} (h : w.rowIs gb 47 4 (cells4 ev f t tv)) (u : Value) : (w.setCell ⟨gb, 3, none⟩ u).rowIs gb 47 4 (cells4 ev f t u) :=
  (h.set 3 u).congr fun c hc => by
    unfold cells4
    by_cases h3 : c = 3
    · subst h3; rfl
    · rw [if_neg h3]
      by_cases h0 : c = 0
      · rw [if_pos h0, if_pos h0]
      · rw [if_neg h0, if_neg h0]
        by_cases h1 : c = 1
        · rw [if_pos h1, if_pos h1]
        · rw [if_neg h1, if_neg h1, if_pos (by omega), if_pos (by omega)]
theorem size_set (w : World) (p : Addr) (u : Value) : (w.setCell p u).heap.size = w.heap.size := by simp [World.setCell]

set_option maxHeartbeats 2000000 in
theorem put_any (gb : Nat) (D : List Nsp) (f t : Nat) (x y z : List Int) (v : Value) (w : World) (h : Gath w gb D f t x) (hr : Reads w v y) (hz : z = x ++ y) (hl : z.length ≤ 100000) :
    Calls Try.prog 20 #[.pointer (some ⟨gb, 0, none⟩), v] w fun e w' => e = .returned (.tuple #[]) ∧ Gath w' gb D f t z ∧ Below gb w w' := by
  obtain ⟨ev, a, cap, K, h1, h2, h3, h4, h5⟩ := h
  have c3 : w.cell? ⟨gb, 3, none⟩ = some (.slice a x.length cap) := h1.cell (by decide)
  have H1 : Hid (w.rowIs gb 47 4 (cells4 ev f t (.slice a x.length cap))) := h1
  have H4 : Hid (OwnK w (gb + 1) K ev (ups D)) := h4
  have H5 : Hid (OwnI w K (.slice a x.length cap) x) := h5
  have HR : Hid (Reads w v y) := hr
  have HZ : Hid (z = x ++ y) := hz
  have hzl : x.length + y.length ≤ 100000 := by rw [hz, List.length_append] at hl; exact hl
  clear h1 h4 h5 hr hz hl
  go_enter Try.func20, Try.ntmps20
  go_wp2_with (at_builtin; refine append_any rfl _ _ rfl K (.slice a x.length cap) _ x y z HZ.out rfl H5.out rfl HR.out (by omega) h3 ?_)
  intro v2 w2 ho2 hg2 hat2
  obtain ⟨a2, cap2, hv2⟩ := (OwnI.reads ho2).shape
  subst hv2
  have hblk : ∀ k, k < K → w2.heap[k]? = w.heap[k]? := fun k hk => hg2.block k (by omega) (fun he => by
    have := (H5.out.lt k he.symm).1
    omega)
  have HR2 : Hid (w2.rowIs gb 47 4 (cells4 ev f t (.slice a x.length cap))) := H1.out.of_block (hblk gb h2)
  have e1 : w2.cell? ⟨gb, 3, none⟩ = some (.slice a x.length cap) := HR2.out.cell (by decide)
  have e2 : w2.frozen? ⟨gb, 3, none⟩ = false := HR2.out.frozen _
  have HG : Hid (Gath (w2.setCell ⟨gb, 3, none⟩ (.slice a2 z.length cap2)) gb D f t z) := by
    refine ⟨ev, a2, cap2, K, cells4_set3 HR2.out _, h2, by rw [size_set]; exact Nat.le_trans h3 hg2.size, H4.out.kept (by rw [size_set]; exact hg2.size) (fun k hk1 hk2 => ?_), OwnI.kept ho2 (fun k hk1 hk2 => blk_other _ _ _ _ (by show k ≠ gb; omega))⟩
    rw [blk_other _ _ _ _ (by show k ≠ gb; omega)]
    exact hblk k hk2
  have HB : Hid (Below gb w (w2.setCell ⟨gb, 3, none⟩ (.slice a2 z.length cap2))) :=
    ((Below.refl gb w).grown hg2 (by omega) (fun k hk => by have := (H5.out.lt k hk).1; omega)).setCell (by exact Nat.le_refl _) _
  clear hblk ho2 hg2 hat2
  go_wp2_with fail
  go_end0
  exact ⟨rfl, HG.out, HB.out⟩
set_option maxHeartbeats 2000000 in
theorem take_any (gb : Nat) (D : List Nsp) (f t : Nat) (x : List Int) (w : World) (h : Gath w gb D f t x) (ht : t ≤ 1000000) :
    Calls Try.prog 22 #[.pointer (some ⟨gb, 0, none⟩)] w fun e w' => e = .returned (.tuple #[]) ∧ Gath w' gb D f (t + 1) x ∧ Below gb w w' := by
  obtain ⟨ev, a, cap, K, h1, h2, h3, h4, h5⟩ := h
  have c2 : w.cell? ⟨gb, 2, none⟩ = some (.int .i64 (t : Int)) := h1.cell (by decide)
  have f2 : w.frozen? ⟨gb, 2, none⟩ = false := h1.frozen _
  have HG : Hid (Gath (w.setCell ⟨gb, 2, none⟩ (.int .i64 ((t : Int) + 1))) gb D f (t + 1) x) := by
    have e : (t : Int) + 1 = ((t + 1 : Nat) : Int) := by omega
    rw [e]
    exact ⟨ev, a, cap, K, cells4_set2 h1 _, h2, by rw [size_set]; exact h3, h4.kept (by rw [size_set]; exact Nat.le_refl _) (fun k hk1 hk2 => blk_other _ _ _ _ (by show k ≠ gb; omega)), h5.kept (fun k hk1 hk2 => blk_other _ _ _ _ (by show k ≠ gb; omega))⟩
  have HB : Hid (Below gb w (w.setCell ⟨gb, 2, none⟩ (.int .i64 ((t : Int) + 1)))) := (Below.refl gb w).setCell (by exact Nat.le_refl _) _
  clear h1 h4 h5
  go_enter Try.func22, Try.ntmps22
  go_wp2_with fail
  go_end0
  exact ⟨rfl, HG.out, HB.out⟩
end Go.Proofs.Ytpgecholpbpakab.Seek
