/- What Apply, Undo, Between and Over leave, of right and wrong edits alike; rows of splices with ample texts; what stays when other memory is written. -/
import Derived.Test.YtpgecholpbpakabOwnGo
import Derived.Test.YtpgecholpbpakabUndoGo
import Derived.Test.YtpgecholpbpakabBetwGo
import Derived.Test.YtpgecholpbpakabOverGo
import Derived.Test.YtpgecholpbpakabSameGo
import Derived.Test.YtpgecholpbpakabLiterals
set_option linter.unusedVariables false
set_option linter.unusedSimpArgs false
namespace Go.Proofs.Ytpgecholpbpakab.Plain
/-- A splice at places, of whatever splice. -/
def dn (s : Spl) : Nsp := (s.1.toNat, s.2.1.toNat, s.2.2)
def dns (es : List Spl) : List Nsp := es.map dn
theorem dns_ups (ns : List Nsp) : dns (ups ns) = ns := by
  unfold dns ups
  rw [List.map_map]
  have : (dn ∘ up) = id := by
    funext s
    show ((s.1 : Int).toNat, (s.2.1 : Int).toNat, s.2.2) = s
    rw [Int.toNat_natCast, Int.toNat_natCast]
  rw [this, List.map_id]
def appOf (l : List Int) (es : List Spl) : List Int := if chk (l.length : Int) es = 0 then app l 0 (dns es) else []
def undOf (l : List Int) (es : List Spl) : List Spl := if chk (l.length : Int) es = 0 then ups (und l 0 0 (dns es)) else []
def btwOf (l m : List Int) : List Spl := if l.length ≤ 4096 ∧ m.length ≤ 4096 then ups (btw l m) else []
end Go.Proofs.Ytpgecholpbpakab.Plain
namespace Go.Proofs.Ytpgecholpbpakab.Seek
open Go.RowKit Plain
def ovrOf (n : Nat) (es fs : List Spl) (ahead : Bool) : List Spl := if chk2 (n : Int) es fs = 0 then ups (ovr n (dns es) (dns fs) ahead) else []
def BothI (r : List Int) (w : World) (e : Ending) (w' : World) : Prop := Below w.heap.size w w' ∧ ∃ v c, e = .returned (.tuple #[v, .int .i64 c]) ∧ OwnI w' w.heap.size v r
def BothE (r : List Spl) (w : World) (e : Ending) (w' : World) : Prop := Below w.heap.size w w' ∧ ∃ v c, e = .returned (.tuple #[v, .int .i64 c]) ∧ OwnE w' w.heap.size v r
theorem apply_both (v1 v2 : Value) (l : List Int) (es : List Spl) (w : World) (h1 : Reads w v1 l) (h2 : ReadsE w v2 es) : Calls Try.prog 7 #[v1, v2] w fun e w' => BothI (appOf l es) w e w' := by
  unfold appOf
  by_cases hc : chk (l.length : Int) es = 0
  · rw [if_pos hc]
    obtain ⟨ns, rfl, hR⟩ := chk_ok hc
    rw [dns_ups]
    refine (apply_ok v1 v2 l ns w h1 h2 hR).mono ?_
    rintro e w' ⟨hb, v, rfl, ho⟩
    exact ⟨hb, v, 0, rfl, ho⟩
  · rw [if_neg hc]
    refine (apply_err v1 v2 l es w h1 h2 hc).mono ?_
    rintro e w' ⟨hb, rfl⟩
    exact ⟨hb, _, _, rfl, ownI_nil _ _⟩
theorem undo_both (v1 v2 : Value) (l : List Int) (es : List Spl) (w : World) (h1 : Reads w v1 l) (h2 : ReadsE w v2 es) : Calls Try.prog 8 #[v1, v2] w fun e w' => BothE (undOf l es) w e w' := by
  unfold undOf
  by_cases hc : chk (l.length : Int) es = 0
  · rw [if_pos hc]
    obtain ⟨ns, rfl, hR⟩ := chk_ok hc
    rw [dns_ups]
    refine (undo_ok v1 v2 l ns w h1 h2 hR).mono ?_
    rintro e w' ⟨hb, v, rfl, ho⟩
    exact ⟨hb, v, 0, rfl, ho⟩
  · rw [if_neg hc]
    refine (undo_err v1 v2 l es w h1 h2 hc).mono ?_
    rintro e w' ⟨hb, rfl⟩
    exact ⟨hb, _, _, rfl, ownE_nil _ _⟩
theorem between_both (v1 v2 : Value) (l m : List Int) (w : World) (h1 : Reads w v1 l) (h2 : Reads w v2 m) : Calls Try.prog 4 #[v1, v2] w fun e w' => BothE (btwOf l m) w e w' := by
  unfold btwOf
  by_cases hc : l.length ≤ 4096 ∧ m.length ≤ 4096
  · rw [if_pos hc]
    refine (between_ok v1 v2 l m w h1 h2 hc.1 hc.2).mono ?_
    rintro e w' ⟨hb, v, rfl, ho⟩
    exact ⟨hb, v, 0, rfl, ho⟩
  · rw [if_neg hc]
    refine (between_err v1 v2 l m w h1 h2 (by omega)).mono ?_
    rintro e w' ⟨hb, rfl⟩
    exact ⟨hb, _, _, rfl, ownE_nil _ _⟩
theorem over_both (v1 v2 : Value) (n : Nat) (es fs : List Spl) (ahead : Bool) (w : World) (h1 : ReadsE w v1 es) (h2 : ReadsE w v2 fs) : Calls Try.prog 9 #[.int .i64 (n : Int), v1, v2, .bool ahead] w fun e w' => BothE (ovrOf n es fs ahead) w e w' := by
  unfold ovrOf
  by_cases hc : chk2 (n : Int) es fs = 0
  · rw [if_pos hc]
    have hc1 : chk (n : Int) es = 0 := by
      unfold chk2 at hc
      by_cases h : chk (n : Int) es = 0
      · exact h
      · rw [if_pos h] at hc
        exact hc
    have hc2 : chk (n : Int) fs = 0 := by
      unfold chk2 at hc
      rw [if_neg (fun h => h hc1)] at hc
      exact hc
    obtain ⟨k, a, hk, rfl, ha⟩ := fits_of_chk hc1
    obtain ⟨k2, b, hk2, rfl, hb⟩ := fits_of_chk hc2
    obtain rfl : n = k := by omega
    obtain rfl : n = k2 := by omega
    rw [dns_ups, dns_ups]
    refine (over_ok v1 v2 n a b ahead w h1 h2 ha hb).mono ?_
    rintro e w' ⟨hb, v, rfl, ho⟩
    exact ⟨hb, v, 0, rfl, ho⟩
  · rw [if_neg hc]
    refine (over_err v1 v2 n es fs ahead w h1 h2 hc).mono ?_
    rintro e w' ⟨hb, rfl⟩
    exact ⟨hb, _, _, rfl, ownE_nil _ _⟩
/-- What stays where a block below is written. -/
theorem OwnI.spoilt {w w' : World} {B g : Nat} {v : Value} {zs : List Int} (h : OwnI w B v zs) (hg : w.grownBy w' (some g)) (hlt : g < B) : OwnI w' B v zs :=
  row_kept h (fun k hk => hg.block k (h.lt k hk).2 (fun e => by have := (h.lt k hk).1; have := Option.some.inj e; omega))
theorem Own.spoilt {w w' : World} {B g : Nat} {v : Value} {zs : List Int} (h : Own w B v zs) (hg : w.grownBy w' (some g)) (hlt : g < B) : Own w' B v zs := by
  rcases h with h | ⟨hz, g1, cap, hv, hB, hg1, h⟩
  · exact .inl h
  · exact .inr ⟨hz, g1, cap, hv, hB, Nat.lt_of_lt_of_le hg1 hg.size, row_kept h (fun k hk => hg.block k (h.lt k hk).2 (fun e => by have := (h.lt k hk).1; have := Option.some.inj e; omega))⟩
theorem OwnE.spoilt {w w' : World} {B g : Nat} {v : Value} {es : List Spl} (h : OwnE w B v es) (hg : w.grownBy w' (some g)) (hlt : g < B) : OwnE w' B v es := by
  obtain ⟨vs, h1, h2, h3⟩ := h
  exact ⟨vs, h1, row_kept h2 (fun k hk => hg.block k (h2.lt k hk).2 (fun e => by have := (h2.lt k hk).1; have := Option.some.inj e; omega)), fun j hj => ⟨(h3 j hj).1, (h3 j hj).2.1.spoilt hg hlt, (h3 j hj).2.2⟩⟩
/-- A row of splices and a block of numbers are apart. -/
theorem RowOf.apart {w : World} {B : Nat} {v : Value} {es : List Spl} {vs : List Value} {g n : Nat} (h : RowOf w B v es vs) (hi : IntBlock w g n) : v.ownBlock ≠ some g := by
  intro hv
  rcases h.2.2 with ⟨rfl, _⟩ | ⟨g', c, cur, rfl, _, hg, _⟩
  · cases hv
  · cases hv
    obtain ⟨f, c2, hb, _⟩ := hi
    rw [hg] at hb
    have := Option.some.inj hb
    cases this
theorem RowOf.spoilt {w w' : World} {B g : Nat} {v : Value} {es : List Spl} {vs : List Value} (h : RowOf w B v es vs) (hg : w.grownBy w' (some g)) (hne : v.ownBlock ≠ some g) : RowOf w' B v es vs :=
  ⟨h.1, row_kept h.2 (fun k hk => hg.block k (h.lt k hk).2 (fun e => hne (by rw [hk, e])))⟩
theorem IntBlock.same {w : World} {g n m : Nat} (h : IntBlock w g n) (h2 : IntBlock w g m) : n = m := by
  obtain ⟨f, c, hb, hs, _⟩ := h
  obtain ⟨f2, c2, hb2, hs2, _⟩ := h2
  rw [hb] at hb2
  have := Option.some.inj hb2
  cases this
  omega
/-- A row of splices of which the first k have ample texts, the others those of before. -/
def AmpRow (w w0 : World) (B : Nat) (v : Value) (es : List Spl) (k : Nat) (vs : List Value) (gs : Nat → Nat) : Prop :=
  RowOf w B v es vs ∧ (∀ j, j < k → vs.getD j undef = .slice (some ⟨gs j, 0, none⟩) (es.getD j spl0).2.2.length ((es.getD j spl0).2.2.length + 3) ∧ Ample w B (gs j) (es.getD j spl0).2.2) ∧
    ∀ j, k ≤ j → j < es.length → (∃ a cap, vs.getD j undef = .slice a (es.getD j spl0).2.2.length cap) ∧ Reads w0 (vs.getD j undef) (es.getD j spl0).2.2
def AmpAll (w : World) (B : Nat) (v : Value) (es : List Spl) (vs : List Value) (gs : Nat → Nat) : Prop :=
  RowOf w B v es vs ∧ ∀ j, j < es.length → Mild (es.getD j spl0).2.2 ∧ vs.getD j undef = .slice (some ⟨gs j, 0, none⟩) (es.getD j spl0).2.2.length ((es.getD j spl0).2.2.length + 3) ∧ Ample w B (gs j) (es.getD j spl0).2.2
theorem AmpAll.below {w w' : World} {B : Nat} {v : Value} {es : List Spl} {vs : List Value} {gs : Nat → Nat} (h : AmpAll w B v es vs gs) (hb : Below w.heap.size w w') : AmpAll w' B v es vs gs :=
  ⟨h.1.below hb, fun j hj => ⟨(h.2 j hj).1, (h.2 j hj).2.1, (h.2 j hj).2.2.below hb⟩⟩
theorem AmpAll.reads {w : World} {B : Nat} {v : Value} {es : List Spl} {vs : List Value} {gs : Nat → Nat} (h : AmpAll w B v es vs gs) : ReadsE w v es := by
  obtain ⟨⟨h1, h2⟩, h3⟩ := h
  have h2' := h2
  rcases h2.2 with ⟨rfl, h0⟩ | ⟨g, cap, cur, rfl, hb, hg, hn, hm, hsz, htake⟩
  · exact .inl ⟨none, 0, rfl, List.length_eq_zero_iff.1 h0⟩
  · refine .inr ⟨g, 0, cap, rfl, hn, hm, (Array.getElem?_eq_some_iff.1 hg).1, fun j hj => ?_⟩
    obtain ⟨e0, e1, e2⟩ := rowCells_at es vs j h1 hj
    obtain ⟨t1, t2, t3⟩ := h3 j hj
    rw [Nat.zero_add]
    refine ⟨?_, ?_, t1, some ⟨gs j, 0, none⟩, (es.getD j spl0).2.2.length + 3, ?_, t3.reads⟩
    · rw [h2'.cellAt (j * 3) (by omega), e0]
    · rw [h2'.cellAt (j * 3 + 1) (by omega), e1]
    · rw [h2'.cellAt (j * 3 + 2) (by omega), e2, t2]
theorem RowOf.shape {w : World} {B : Nat} {v : Value} {es : List Spl} {vs : List Value} (h : RowOf w B v es vs) : ∃ a cap, v = .slice a es.length cap := by
  rcases h.2.2 with ⟨rfl, h0⟩ | ⟨g, cap, cur, rfl, _⟩
  · exact ⟨none, 0, by rw [h0]⟩
  · exact ⟨_, cap, rfl⟩
/-- The cell of a text. -/
theorem RowOf.text {w : World} {B : Nat} {v : Value} {es : List Spl} {vs : List Value} (h : RowOf w B v es vs) (k : Nat) (hk : k < es.length) :
    ∃ g c, v = .slice (some ⟨g, 0, none⟩) es.length c ∧ B ≤ g ∧ w.cell? ⟨g, k * 3 + 2, none⟩ = some (vs.getD k undef) ∧ w.frozen? ⟨g, k * 3 + 2, none⟩ = false := by
  have h2 := h.2
  rcases h.2.2 with ⟨rfl, h0⟩ | ⟨g, cap, cur, rfl, hB, _⟩
  · omega
  · obtain ⟨_, _, e2⟩ := rowCells_at es vs k h.1 hk
    exact ⟨g, cap, rfl, hB, by rw [h2.cellAt (k * 3 + 2) (by omega), e2], h2.frozenAt _⟩
/-- One text more is ample. -/
theorem AmpRow.step {w w0 w1 : World} {B g c : Nat} {es : List Spl} {k : Nat} {vs : List Value} {gs : Nat → Nat} (h : AmpRow w w0 B (.slice (some ⟨g, 0, none⟩) es.length c) es k vs gs) (hk : k < es.length) (hb : Below w.heap.size w w1) (g1 : Nat)
    (hB : B ≤ w.heap.size) (ha : Ample w1 w.heap.size g1 (es.getD k spl0).2.2) :
    AmpRow (w1.setCell ⟨g, k * 3 + 2, none⟩ (.slice (some ⟨g1, 0, none⟩) (es.getD k spl0).2.2.length ((es.getD k spl0).2.2.length + 3))) w0 B (.slice (some ⟨g, 0, none⟩) es.length c) es (k + 1) (vs.set k (.slice (some ⟨g1, 0, none⟩) (es.getD k spl0).2.2.length ((es.getD k spl0).2.2.length + 3))) (fun j => if j = k then g1 else gs j) := by
  obtain ⟨h1, h2, h3⟩ := h
  have h1' := h1.below hb
  obtain ⟨k1, k2⟩ := h1'.2.stored (k * 3 + 2) (.slice (some ⟨g1, 0, none⟩) (es.getD k spl0).2.2.length ((es.getD k spl0).2.2.length + 3))
  rw [rowCells_set es vs k _ h1.1] at k1
  have hkv : k < vs.length := by rw [h1.1]; exact hk
  have amp : ∀ {B' g' : Nat} {zs : List Int}, Ample w1 B' g' zs → Ample (w1.setCell ⟨g, k * 3 + 2, none⟩ (.slice (some ⟨g1, 0, none⟩) (es.getD k spl0).2.2.length ((es.getD k spl0).2.2.length + 3))) B' g' zs := fun {B' g' zs} hA =>
    row_kept hA (fun j hj => k2.block j (World.ownsRow.lt hA j hj).2 (fun e => h1'.apart hA.block (by cases hj; exact e.symm)))
  refine ⟨⟨by rw [List.length_set]; exact h1.1, k1⟩, fun j hj => ?_, fun j hj hjl => ?_⟩
  · by_cases hjk : j = k
    · subst hjk
      have e : (fun i => if i = j then g1 else gs i) j = g1 := if_pos rfl
      rw [e, List.getD_eq_getElem?_getD, List.getElem?_set_self hkv]
      exact ⟨rfl, amp (ha.less hB)⟩
    · have e : (fun i => if i = k then g1 else gs i) j = gs j := if_neg hjk
      rw [e, List.getD_eq_getElem?_getD, List.getElem?_set_ne (Ne.symm hjk), ← List.getD_eq_getElem?_getD]
      obtain ⟨t1, t2⟩ := h2 j (by omega)
      exact ⟨t1, amp (t2.below hb)⟩
  · rw [List.getD_eq_getElem?_getD, List.getElem?_set_ne (by omega), ← List.getD_eq_getElem?_getD]
    exact h3 j (by omega) hjl
/-- What may be written over. -/
def Waste (w : World) (B lo hi : Nat) (v : Value) (es : List Spl) (vs : List Value) (gs : Nat → Nat) : Prop :=
  RowOf w B v es vs ∧ ∀ j, j < es.length → Mild (es.getD j spl0).2.2 ∧ vs.getD j undef = .slice (some ⟨gs j, 0, none⟩) (es.getD j spl0).2.2.length ((es.getD j spl0).2.2.length + 3) ∧ IntBlock w (gs j) ((es.getD j spl0).2.2.length + 3) ∧ lo ≤ gs j ∧ gs j < hi
theorem AmpAll.waste {w : World} {B : Nat} {v : Value} {es : List Spl} {vs : List Value} {gs : Nat → Nat} (h : AmpAll w B v es vs gs) : Waste w B B w.heap.size v es vs gs :=
  ⟨h.1, fun j hj => ⟨(h.2 j hj).1, (h.2 j hj).2.1, (h.2 j hj).2.2.block, (h.2 j hj).2.2.lt.1, (h.2 j hj).2.2.lt.2⟩⟩
theorem Waste.below {w w' : World} {B lo hi : Nat} {v : Value} {es : List Spl} {vs : List Value} {gs : Nat → Nat} (h : Waste w B lo hi v es vs gs) (hb : Below w.heap.size w w') : Waste w' B lo hi v es vs gs :=
  ⟨h.1.below hb, fun j hj => ⟨(h.2 j hj).1, (h.2 j hj).2.1, (h.2 j hj).2.2.1.below hb, (h.2 j hj).2.2.2⟩⟩
theorem Waste.spoilt {w w' : World} {B lo hi g n : Nat} {v : Value} {es : List Spl} {vs : List Value} {gs : Nat → Nat} (h : Waste w B lo hi v es vs gs) (hi0 : IntBlock w g n) (hg : w.grownBy w' (some g)) (hi1 : IntBlock w' g n) : Waste w' B lo hi v es vs gs := by
  refine ⟨h.1.spoilt hg (h.1.apart hi0), fun j hj => ⟨(h.2 j hj).1, (h.2 j hj).2.1, ?_, (h.2 j hj).2.2.2⟩⟩
  by_cases he : gs j = g
  · have hb := (h.2 j hj).2.2.1
    rw [he] at hb ⊢
    rw [hb.same hi0]
    exact hi1
  · exact (h.2 j hj).2.2.1.grown hg (fun e => he (Option.some.inj e).symm)
/-- Four pairs of answers that lie above a place. -/
structure Eight (w : World) (K : Nat) (o1 o2 u1 u2 b1 b2 c1 c2 : Value) (ro : List Int) (ru rb rc : List Spl) : Prop where
  o1 : OwnI w K o1 ro
  o2 : Own w K o2 ro
  u1 : OwnE w K u1 ru
  u2 : OwnE w K u2 ru
  b1 : OwnE w K b1 rb
  b2 : OwnE w K b2 rb
  c1 : OwnE w K c1 rc
  c2 : OwnE w K c2 rc
theorem Eight.spoilt {w w' : World} {K g : Nat} {o1 o2 u1 u2 b1 b2 c1 c2 : Value} {ro : List Int} {ru rb rc : List Spl} (h : Eight w K o1 o2 u1 u2 b1 b2 c1 c2 ro ru rb rc) (hg : w.grownBy w' (some g)) (hlt : g < K) : Eight w' K o1 o2 u1 u2 b1 b2 c1 c2 ro ru rb rc :=
  ⟨h.o1.spoilt hg hlt, h.o2.spoilt hg hlt, h.u1.spoilt hg hlt, h.u2.spoilt hg hlt, h.b1.spoilt hg hlt, h.b2.spoilt hg hlt, h.c1.spoilt hg hlt, h.c2.spoilt hg hlt⟩
theorem Eight.below {w w' : World} {K : Nat} {o1 o2 u1 u2 b1 b2 c1 c2 : Value} {ro : List Int} {ru rb rc : List Spl} (h : Eight w K o1 o2 u1 u2 b1 b2 c1 c2 ro ru rb rc) (hb : Below w.heap.size w w') : Eight w' K o1 o2 u1 u2 b1 b2 c1 c2 ro ru rb rc :=
  ⟨h.o1.below hb, h.o2.below hb, h.u1.below hb, h.u2.below hb, h.b1.below hb, h.b2.below hb, h.c1.below hb, h.c2.below hb⟩
theorem appOf_len (l : List Int) (es : List Spl) : (appOf l es).length ≤ 4096 := by
  unfold appOf
  by_cases hc : chk (l.length : Int) es = 0
  · rw [if_pos hc]
    obtain ⟨ns, rfl, hR⟩ := chk_ok hc
    rw [dns_ups]
    exact hR.2.2
  · rw [if_neg hc]
    exact Nat.zero_le _
end Go.Proofs.Ytpgecholpbpakab.Seek
