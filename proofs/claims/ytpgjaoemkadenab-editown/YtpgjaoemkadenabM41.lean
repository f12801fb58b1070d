/- Texts of one claim, one behind the other: DoItsOwn, DoCheck. -/
import Derived.Test.YtpgjaoemkadenabM35
import Derived.Test.YtpgjaoemkadenabM40
import Derived.Deep.Light
import Derived.Test.YtpgjaoemkadenabM31
/- The contract of edit.ofItsOwn. -/
set_option linter.unusedVariables false
set_option linter.unusedSimpArgs false
set_option maxRecDepth 100000
namespace Go.Proofs.Ytpgjaoemkadenab.Seek
open Go.RowKit Plain


theorem row_stays {w w' : World} {B : Nat} {e : TypeId} {size n : Nat} {v : Value} {xs : List Value} (h : w.ownsRow B e size v n xs) (hb : ∀ k, v.ownBlock = some k → w'.heap[k]? = w.heap[k]?) : w'.ownsRow B e size v n xs := by
  refine ⟨h.1, ?_⟩
  rcases h.2 with hn | ⟨g, cap, cur, rfl, hB, hg, rest⟩
  · exact .inl hn
  · exact .inr ⟨g, cap, cur, rfl, hB, (hb g rfl).trans hg, rest⟩
theorem Own.stays {w w' : World} {B g : Nat} {v : Value} {zs : List Int} (h : Own w B v zs) (hg : w.grownBy w' (some g)) (hlt : g < B) : Own w' B v zs := by
  rcases h with h | ⟨hz, g1, cap, hv, hB, hg1, h⟩
  · exact .inl h
  · exact .inr ⟨hz, g1, cap, hv, hB, Nat.lt_of_lt_of_le hg1 hg.size, row_stays h (fun k hk => hg.block k (h.lt k hk).2 (fun e => by have := (h.lt k hk).1; have := Option.some.inj e; omega))⟩
theorem OwnE.stays {w w' : World} {B g : Nat} {v : Value} {es : List Spl} (h : OwnE w B v es) (hg : w.grownBy w' (some g)) (hlt : g < B) : OwnE w' B v es := by
  obtain ⟨vs, h1, h2, h3⟩ := h
  exact ⟨vs, h1, row_stays h2 (fun k hk => hg.block k (h2.lt k hk).2 (fun e => by have := (h2.lt k hk).1; have := Option.some.inj e; omega)), fun j hj => ⟨(h3 j hj).1, (h3 j hj).2.1.stays hg hlt, (h3 j hj).2.2⟩⟩
theorem OwnE.one {w : World} {B : Nat} {v : Value} {es : List Spl} (h : OwnE w B v es) : v.oneCell' = true ∧ ∀ xs, v ≠ .agg xs := by
  obtain ⟨vs, h1, h2, h3⟩ := h
  rcases h2.2 with ⟨rfl, _⟩ | ⟨g, cap, cur, rfl, _⟩
  · exact ⟨rfl, fun _ e => by cases e⟩
  · exact ⟨rfl, fun _ e => by cases e⟩
theorem Own.stays2 {w w' : World} {B g : Nat} {v : Value} {zs : List Int} (h : Own w B v zs) (hg : w.grownBy w' (some g)) (hne : zs = [] ∨ ∀ k, v.ownBlock = some k → k ≠ g) : Own w' B v zs := by
  rcases h with h | ⟨hz, g1, cap, hv, hB, hg1, h⟩
  · exact .inl h
  · rcases hne with hne | hne
    · exact absurd hne hz
    · exact .inr ⟨hz, g1, cap, hv, hB, Nat.lt_of_lt_of_le hg1 hg.size, row_stays h (fun k hk => hg.block k (h.lt k hk).2 (fun e => hne k hk (Option.some.inj e)))⟩
/-- An edit in blocks of which P holds. -/
def AvE (w : World) (P : Nat → Prop) (v : Value) (es : List Spl) : Prop :=
  ∃ vs : List Value, vs.length = es.length ∧ w.ownsRow 0 68 3 v es.length (rowCells es vs) ∧ (∀ j, j < es.length → TextOf w 0 v.ownBlock (vs.getD j undef) (es.getD j spl0).2.2) ∧
    (∀ k, v.ownBlock = some k → P k) ∧ ∀ j, j < es.length → (es.getD j spl0).2.2 = [] ∨ ∀ k, (vs.getD j undef).ownBlock = some k → P k
theorem avE_own {w : World} {B : Nat} {v : Value} {es : List Spl} (h : OwnE w B v es) : AvE w (fun b => B ≤ b ∧ b < w.heap.size) v es := by
  obtain ⟨vs, h1, h2, h3⟩ := h
  refine ⟨vs, h1, row3_less h2 (Nat.zero_le _), fun j hj => ⟨(h3 j hj).1, (h3 j hj).2.1.less (Nat.zero_le _), (h3 j hj).2.2⟩, fun k hk => h2.lt k hk, fun j hj => ?_⟩
  by_cases hz : (es.getD j spl0).2.2 = []
  · exact .inl hz
  · refine .inr fun k hk => ?_
    obtain ⟨g, hg, g1, g2⟩ := own_block (h3 j hj).2.1 hz
    rw [hg] at hk
    cases hk
    exact ⟨g1, g2⟩
theorem AvE.weak {w : World} {P Q : Nat → Prop} {v : Value} {es : List Spl} (h : AvE w P v es) (hq : ∀ b, P b → Q b) : AvE w Q v es := by
  obtain ⟨vs, h1, h2, h3, h4, h5⟩ := h
  exact ⟨vs, h1, h2, h3, fun k hk => hq k (h4 k hk), fun j hj => (h5 j hj).elim .inl fun f => .inr fun k hk => hq k (f k hk)⟩
theorem AvE.owns {w : World} {P : Nat → Prop} {v : Value} {es : List Spl} (h : AvE w P v es) : OwnE w 0 v es := by
  obtain ⟨vs, h1, h2, h3, _⟩ := h
  exact ⟨vs, h1, h2, h3⟩
theorem AvE.below {w w' : World} {P : Nat → Prop} {v : Value} {es : List Spl} (h : AvE w P v es) (hb : Below w.heap.size w w') : AvE w' P v es := by
  obtain ⟨vs, h1, h2, h3, h4, h5⟩ := h
  exact ⟨vs, h1, row3_below h2 hb, fun j hj => ⟨(h3 j hj).1, (h3 j hj).2.1.below hb, (h3 j hj).2.2⟩, h4, h5⟩
theorem AvE.stored {w w' : World} {P : Nat → Prop} {v : Value} {es : List Spl} {G : Nat} (h : AvE w P v es) (hg : w.grownBy w' (some G)) (hG : ¬ P G) : AvE w' P v es := by
  obtain ⟨vs, h1, h2, h3, h4, h5⟩ := h
  refine ⟨vs, h1, row_stays h2 (fun k hk => hg.block k (h2.lt k hk).2 (fun e => hG (Option.some.inj e ▸ h4 k hk))), fun j hj => ⟨(h3 j hj).1, (h3 j hj).2.1.stays2 hg ?_, (h3 j hj).2.2⟩, h4, h5⟩
  exact (h5 j hj).elim .inl fun f => .inr fun k hk e => hG (e ▸ f k hk)
theorem avE_nil (w : World) (P : Nat → Prop) : AvE w P (.slice none 0 0) [] := ⟨[], rfl, World.ownsRow_nil _ _ _ _, (fun j hj => by cases hj), (fun k hk => by cases hk), (fun j hj => by cases hj)⟩
/-- A text of its own in blocks of which P holds; nothing is nil. -/
def AvT (w : World) (P : Nat → Prop) (v : Value) (zs : List Int) : Prop := Own w 0 v zs ∧ (zs = [] ∨ ∀ k, v.ownBlock = some k → P k) ∧ (zs = [] → v = .slice none 0 0)
theorem AvT.weak {w : World} {P Q : Nat → Prop} {v : Value} {zs : List Int} (h : AvT w P v zs) (hq : ∀ b, P b → Q b) : AvT w Q v zs := ⟨h.1, h.2.1.elim .inl fun f => .inr fun k hk => hq k (f k hk), h.2.2⟩
theorem AvT.below {w w' : World} {P : Nat → Prop} {v : Value} {zs : List Int} (h : AvT w P v zs) (hb : Below w.heap.size w w') : AvT w' P v zs := ⟨h.1.below hb, h.2⟩
theorem AvT.stored {w w' : World} {P : Nat → Prop} {v : Value} {zs : List Int} {G : Nat} (h : AvT w P v zs) (hg : w.grownBy w' (some G)) (hG : ¬ P G) : AvT w' P v zs :=
  ⟨h.1.stays2 hg (h.2.1.elim .inl fun f => .inr fun k hk e => hG (e ▸ f k hk)), h.2⟩
theorem avT_nil (w : World) (P : Nat → Prop) : AvT w P (.slice none 0 0) [] := ⟨.inl ⟨_, _, rfl, rfl⟩, .inl rfl, fun _ => rfl⟩
theorem AvT.av {w : World} {P : Nat → Prop} {v : Value} {zs : List Int} (h : AvT w P v zs) : Av w P v zs := by
  refine ⟨h.1.reads, ?_⟩
  rcases h.2.1 with hz | f
  · exact .inl hz
  · rcases h.1 with ⟨_, _, _, hz⟩ | ⟨_, g, cap, hv, _⟩
    · exact .inl hz
    · refine .inr fun b' o n c e => ?_
      rw [hv] at e f
      simp only [Value.slice.injEq, Option.some.injEq, Addr.mk.injEq] at e
      rw [← e.1.1]
      exact f g rfl
theorem AvT.ownI {w : World} {P : Nat → Prop} {v : Value} {zs : List Int} (h : AvT w P v zs) : OwnI w 0 v zs := by
  by_cases hz : zs = []
  · rw [h.2.2 hz, hz]
    exact ownI_nil _ _
  · rcases h.1 with ⟨_, _, _, h0⟩ | ⟨_, g, cap, hv, _, _, ho⟩
    · exact absurd h0 hz
    · exact ho
theorem avT_own {w : World} {B : Nat} {v : Value} {zs : List Int} (h : Own w B v zs) (hn : zs = [] → v = .slice none 0 0) : AvT w (fun b => B ≤ b ∧ b < w.heap.size) v zs := by
  refine ⟨h.less (Nat.zero_le _), ?_, hn⟩
  by_cases hz : zs = []
  · exact .inl hz
  · obtain ⟨g, hg, g1, g2⟩ := own_block h hz
    refine .inr fun k hk => ?_
    rw [hg] at hk
    cases hk
    exact ⟨g1, g2⟩
set_option maxHeartbeats 2000000 in
theorem concat_nil (g0 c0 n : Nat) (vs : Nat → Value) (xs : Nat → List Int) (w : World) (hn : n ≤ 1000000) (hc : ∀ j, j < n → w.cell? ⟨g0, j, none⟩ = some (vs j)) (hr : ∀ j, j < n → Reads w (vs j) (xs j)) (h0 : (joined xs n).length = 0) :
    Calls Try.prog 10 #[.slice (some ⟨g0, 0, none⟩) n c0] w fun e w' => e = .returned (.slice none 0 0) ∧ Below w.heap.size w w' := by
  have Hc : Hid (∀ j, j < n → ∃ a c, w.cell? ⟨g0, j, none⟩ = some (.slice a 0 c)) := by
    intro j hj
    have h1 : (xs j).length = 0 := by
      have := joined_le xs (j + 1) n (by omega)
      rw [joined, List.length_append] at this
      omega
    obtain ⟨a, c, hv⟩ := (hr j hj).shape
    rw [h1] at hv
    exact ⟨a, c, by rw [hc j hj, hv]⟩
  clear hc hr h0
  go_enter Try.func10, Try.ntmps10
  go_wp2_with fail
  go_loop [3, 11] (fun u3 u11 => ∃ k : Nat, k ≤ n ∧ u11 = .int .i64 (k : Int) ∧ u3 = .int .i64 0) (fun _ u11 => ((n : Int) - intOf u11).toNat)
  case atStart => exact ⟨0, by omega, rfl, rfl⟩
  case round =>
    obtain ⟨k, hk, rfl, rfl⟩ := hrel
    by_cases hlt : k < n
    · obtain ⟨a, c, hc⟩ := Hc.out k hlt
      go_wp2_with fail
      go_round
      case rel => exact ⟨k + 1, by omega, by go_num, rfl⟩
      case measure => simp [intOf]; omega
    · obtain rfl : k = n := by omega
      go_wp2_with fail
      refine (grow_none w).mono ?_
      rintro e w' ⟨rfl, rfl⟩
      go_wp2_with fail
      go_loop [6, 27] (fun u6 u27 => ∃ m : Nat, m ≤ k ∧ u27 = .int .i64 (m : Int) ∧ u6 = .slice none 0 0) (fun _ u27 => ((k : Int) - intOf u27).toNat)
      case atStart => exact ⟨0, by omega, rfl, rfl⟩
      case round =>
        obtain ⟨m, hm, rfl, rfl⟩ := hrel
        by_cases hml : m < k
        · obtain ⟨a, c, hc⟩ := Hc.out m hml
          go_wp2_with (at_builtin; refine wpList_append_run rfl _ _ 22 22 rfl _ _ _ _ rfl rfl (fun ty => run_append_zero _ none 0 0 a c (Nat.le_refl _) ty) ?_)
          go_wp2_with fail
          go_round
          case rel => exact ⟨m + 1, by omega, by go_num, rfl⟩
          case measure => simp [intOf]; omega
        · obtain rfl : m = k := by omega
          go_wp2_with fail
          go_ret
          exact ⟨rfl, Below.refl _ _⟩
theorem copied_nil (v : Value) (w : World) (h : Reads w v []) : Calls Try.prog 44 #[v] w fun e w' => e = .returned (.slice none 0 0) ∧ Below w.heap.size w w' := by
  have H : Hid (Calls Try.prog 10 #[.slice (some ⟨w.heap.size, 0, none⟩) 1 1] (w.alloc (.cells #[v] 22)) fun e w' => e = .returned (.slice none 0 0) ∧ Below (w.alloc (.cells #[v] 22)).heap.size (w.alloc (.cells #[v] 22)) w') :=
    concat_nil w.heap.size 1 1 (fun j => v) (fun j => []) (w.alloc (.cells #[v] 22)) (by decide) (fun j hj => by
      match j, hj with
      | 0, _ => exact new_cells w [v] _ 0 _ rfl) (fun j hj => h.below (box_below _ _)) rfl
  obtain ⟨a, cap, rfl⟩ := h.shape
  clear h
  go_enter Try.func44, Try.ntmps44
  go_wp2_with fail
  refine H.out.mono ?_
  rintro e w1 ⟨rfl, hb⟩
  have HB : Hid (Below w.heap.size w w1) := below_trans (box_below _ _) hb (box_below _ _).size
  clear hb H
  go_wp2_with fail
  go_ret
  exact ⟨rfl, HB.out⟩
theorem copied2_go (v : Value) (zs : List Int) (w : World) (h : Reads w v zs) (hm : Mild zs) :
    Calls Try.prog 44 #[v] w fun e w' => Below w.heap.size w w' ∧ ∃ v', e = .returned v' ∧ Own w' w.heap.size v' zs ∧ (zs = [] → v' = .slice none 0 0) := by
  by_cases hz : zs = []
  · subst hz
    refine (copied_nil v w h).mono ?_
    rintro e w1 ⟨rfl, hb⟩
    exact ⟨hb, _, rfl, .inl ⟨_, _, rfl, rfl⟩, fun _ => rfl⟩
  · refine (copied_go v zs w h hm).mono ?_
    rintro e w1 ⟨hb, v', rfl, ho⟩
    exact ⟨hb, v', rfl, ho, fun q => absurd q hz⟩
/-- The first i registers are copied. -/
def CopR (w : World) (B : Nat) (ls : List Value) (ts : List (List Int)) (i : Nat) : Prop := AllSl ls ∧ ∀ j, j < i → Av w (fun b => B ≤ b) (ls.getD j undef) (ts.getD j [])
theorem CopR.step {w w1 w2 : World} {B g : Nat} {ls : List Value} {ts : List (List Int)} {i : Nat} (h : CopR w B ls ts i) (hi : i < 27) (hb : Below w.heap.size w w1) (a : Option Addr) (n c : Nat) (ho : Av w1 (fun b => B ≤ b) (.slice a n c) (ts.getD i [])) (hg : w1.grownBy w2 (some g)) (hgB : g < B) :
    CopR w2 B (ls.set i (.slice a n c)) ts (i + 1) := by
  have ll := h.1.1
  refine ⟨h.1.set i a n c, fun j hj => ?_⟩
  by_cases e : j = i
  · subst e
    rw [getD_set_same _ _ _ _ (by omega)]
    exact ho.stored hg (by show ¬ B ≤ g; omega)
  · rw [getD_set_other _ _ _ _ _ (by omega)]
    exact ((h.2 j (by omega)).below hb).stored hg (by show ¬ B ≤ g; omega)
theorem CopR.all {w : World} {B : Nat} {ls : List Value} {ts : List (List Int)} (h : CopR w B ls ts 27) (ht : ts.length = 27) (hm : ∀ i, i < 27 → Mild (ts.getD i [])) : AvR w (fun b => B ≤ b) ls ts :=
  ⟨⟨h.1, ht, fun i hi => ⟨(h.2 i hi).1, hm i hi⟩⟩, h.2⟩
theorem CopR.stored {w w' : World} {B g : Nat} {ls : List Value} {ts : List (List Int)} {i : Nat} (h : CopR w B ls ts i) (hg : w.grownBy w' (some g)) (hgB : g < B) : CopR w' B ls ts i :=
  ⟨h.1, fun j hj => (h.2 j hj).stored hg (by show ¬ B ≤ g; omega)⟩
/-- A result in memory of its own: the edit's, the text's and the registers' lie apart. -/
def OwnRes (w : World) (B : Nat) (x : Value) (R : Res) (es : List Spl) : Prop :=
  ∃ a c vs ev m1 m2, x = .agg (resL (.slice a R.text.length c) R.loc vs R.fk R.fa R.mode ev).toArray ∧ B ≤ m1 ∧ m1 ≤ m2 ∧ AvT w (fun b => m1 ≤ b ∧ b < m2) (.slice a R.text.length c) R.text ∧ AvR w (fun b => m2 ≤ b) vs R.regs ∧ AvE w (fun b => B ≤ b ∧ b < m1) ev es
theorem av_owned {w : World} {B : Nat} {v : Value} {zs : List Int} (h : Own w B v zs) : Av w (fun b => B ≤ b ∧ b < w.heap.size) v zs := by
  refine ⟨h.reads, ?_⟩
  rcases h with ⟨_, _, _, h⟩ | ⟨_, g, cap, hv, hB, hlt, _⟩
  · exact .inl h
  · refine .inr fun b' o n c e => ?_
    rw [hv] at e
    simp only [Value.slice.injEq, Option.some.injEq, Addr.mk.injEq] at e
    omega

set_option maxHeartbeats 2000000 in
theorem ofItsOwn_go (a : Option Addr) (cap : Nat) (vs : List Value) (R : Res) (w : World) (h : Reads w (.slice a R.text.length cap) R.text) (hr : ReadsR w vs R.regs) (v0 : Value) (zs : List Int) (h0 : Reads w v0 zs) (hz : R.text.length ≤ 4096) (hz0 : zs.length ≤ 4096) :
    Calls Try.prog 27 #[.agg (resL (.slice a R.text.length cap) R.loc vs R.fk R.fa R.mode (.slice none 0 0)).toArray, v0] w fun q w' => Below w.heap.size w w' ∧ ∃ x, q = .returned x ∧ OwnRes w' w.heap.size x R (ups (btw zs R.text)) := by
  obtain ⟨a0, cap0, rfl⟩ := h0.shape
  have hvs : vs.length = 27 := hr.1.1
  have HBT : Hid (∀ wx, Below w.heap.size w wx → Calls Try.prog 43 #[.slice a0 zs.length cap0, .slice a R.text.length cap] wx fun e w' => BetweenPost (ups (btw zs R.text)) wx e w') := fun wx hx => between_ok _ _ zs R.text wx (h0.below hx) (h.below hx) hz0 hz
  have HCP : Hid (∀ wx, Below w.heap.size w wx → Calls Try.prog 44 #[.slice a R.text.length cap] wx fun e w' => Below wx.heap.size wx w' ∧ ∃ v', e = .returned v' ∧ Own w' wx.heap.size v' R.text ∧ (R.text = [] → v' = .slice none 0 0)) := fun wx hx => copied2_go _ _ wx (h.below hx) (by unfold Mild; omega)
  have HRR : Hid (∀ wx, Below w.heap.size w wx → ReadsR wx vs R.regs) := fun wx hx => hr.below hx
  have HS : Hid (AllSl vs) := hr.1
  obtain ⟨es, hes⟩ : ∃ es, es = ups (btw zs R.text) := ⟨_, rfl⟩
  rw [← hes] at HBT ⊢
  clear h hr h0 hes
  go_enter Try.func27, Try.ntmps27
  go_wp2_with (refine boxC rfl 43 _ rfl (resL (.slice a R.text.length cap) R.loc vs R.fk R.fa R.mode (.slice none 0 0)) rfl ?_)
  intro w1 ha hb
  have HB_w1 : Hid (Below w.heap.size w w1) := hb
  have A_w1 : Hid (BoxC w1 43 w.heap.size (resL (.slice a R.text.length cap) R.loc vs R.fk R.fa R.mode (.slice none 0 0))) := ha
  clear ha hb
  go_wp2_with (refine allocC rfl 43 rfl nulL nul_zero ?_)
  intro w2 ha hb
  have HLGZ : Hid (w.heap.size ≤ w1.heap.size ∧ w.heap.size < w1.heap.size) := ⟨HB_w1.out.size, A_w1.out.lt⟩
  have HB_w2 : Hid (Below w.heap.size w w2) := below_trans HB_w1.out hb HB_w1.out.size
  have A_w2 : Hid (BoxC w2 43 w.heap.size (resL (.slice a R.text.length cap) R.loc vs R.fk R.fa R.mode (.slice none 0 0))) := A_w1.out.below hb
  clear A_w1 HB_w1
  have Z_w2 : Hid (BoxC w2 43 w1.heap.size nulL) := ha
  clear ha hb
  generalize w1.heap.size = GZ at *
  have a0 : w2.cell? ⟨w.heap.size, 0, none⟩ = some (.slice a R.text.length cap) := (A_w2.out.cell 0).trans resL_0
  have a1 : w2.cell? ⟨w.heap.size, 1, none⟩ = some (.int .i64 R.loc) := (A_w2.out.cell 1).trans resL_1
  have a29 : w2.cell? ⟨w.heap.size, 29, none⟩ = some (.int .i64 R.fk) := (A_w2.out.cell 29).trans (resL_end (by assumption) 0)
  have a30 : w2.cell? ⟨w.heap.size, 30, none⟩ = some (.int .i64 R.fa) := (A_w2.out.cell 30).trans (resL_end (by assumption) 1)
  go_wp2_with (fail)
  refine (HBT.out _ HB_w2.out).mono ?_
  rintro q w3 ⟨hb, ev, rfl, he⟩
  have hev := he.one
  have he2 : AvE w3 (fun b => GZ + 1 ≤ b ∧ b < w3.heap.size) ev es := (avE_own he).weak (fun b hb => ⟨Nat.le_trans Z_w2.out.lt hb.1, hb.2⟩)
  have hz3 : GZ + 1 ≤ w3.heap.size := Nat.le_trans Z_w2.out.lt hb.size
  obtain ⟨m1, hm1⟩ : ∃ m1, m1 = w3.heap.size := ⟨_, rfl⟩
  rw [← hm1] at he2 hz3
  clear he a0 a1 a29 a30
  have HB_w3 : Hid (Below w.heap.size w w3) := below_trans HB_w2.out hb HB_w2.out.size
  have A_w3 : Hid (BoxC w3 43 w.heap.size (resL (.slice a R.text.length cap) R.loc vs R.fk R.fa R.mode (.slice none 0 0))) := A_w2.out.below hb
  have Z_w3 : Hid (BoxC w3 43 GZ nulL) := Z_w2.out.below hb
  clear A_w2 Z_w2 HB_w2
  clear hb
  have HEV : Hid (ev.oneCell' = true ∧ ∀ xs, ev ≠ .agg xs) := hev
  have HM1 : Hid (GZ + 1 ≤ m1) := hz3
  have S_w3 : Hid (m1 ≤ w3.heap.size) := (by rw [hm1]; exact Nat.le_refl _)
  clear hm1 hev hz3
  have E_w3 : Hid (AvE w3 (fun b => GZ + 1 ≤ b ∧ b < m1) ev es) := he2
  clear he2
  go_wp2_with (refine storeO rfl 43 41 _ _ rfl w.heap.size 32 rfl (resL (.slice a R.text.length cap) R.loc vs R.fk R.fa R.mode (.slice none 0 0)) (resL (.slice a R.text.length cap) R.loc vs R.fk R.fa R.mode ev) ev (.slice none 0 0) rfl A_w3.out HEV.out.1 HEV.out.2 (resL_end (by assumption) 3) one_edit (resL_edit _ (by assumption)) ?_)
  intro w4 hz hg
  have HB_w4 : Hid (Below w.heap.size w w4) := HB_w3.out.grown hg HB_w3.out.size (fun j hj => by cases hj; exact Nat.le_refl _)
  have Z_w4 : Hid (BoxC w4 43 GZ nulL) := Z_w3.out.kept hg (fun e => by have := HLGZ.out; have := Option.some.inj e; omega)
  have S_w4 : Hid (m1 ≤ w4.heap.size) := Nat.le_trans S_w3.out hg.size
  have E_w4 : Hid (AvE w4 (fun b => GZ + 1 ≤ b ∧ b < m1) ev es) := E_w3.out.stored hg (by have := HLGZ.out; show ¬ (GZ + 1 ≤ w.heap.size ∧ w.heap.size < m1); omega)
  clear A_w3 Z_w3 S_w3 E_w3 HB_w3
  have A_w4 : Hid (BoxC w4 43 w.heap.size (resL (.slice a R.text.length cap) R.loc vs R.fk R.fa R.mode ev)) := hz
  clear hz hg
  have a0c : w4.cell? ⟨w.heap.size, 0, none⟩ = some (.slice a R.text.length cap) := (A_w4.out.cell 0).trans resL_0
  go_wp2_with (fail)
  refine (HCP.out _ HB_w4.out).mono ?_
  rintro q w5 ⟨hb, vo, rfl, ho, hnil⟩
  obtain ⟨a2, c2, rfl⟩ := ho.reads.shape
  have hzl := S_w4.out
  have ho2 : AvT w5 (fun b => m1 ≤ b ∧ b < w5.heap.size) (.slice a2 R.text.length c2) R.text := (avT_own ho hnil).weak (fun b hb => ⟨Nat.le_trans hzl hb.1, hb.2⟩)
  have hm5 : m1 ≤ w5.heap.size := Nat.le_trans hzl hb.size
  obtain ⟨m2, hm2⟩ : ∃ m2, m2 = w5.heap.size := ⟨_, rfl⟩
  rw [← hm2] at ho2 hm5
  clear a0c ho hzl hnil
  clear S_w4
  have HB_w5 : Hid (Below w.heap.size w w5) := below_trans HB_w4.out hb HB_w4.out.size
  have A_w5 : Hid (BoxC w5 43 w.heap.size (resL (.slice a R.text.length cap) R.loc vs R.fk R.fa R.mode ev)) := A_w4.out.below hb
  have Z_w5 : Hid (BoxC w5 43 GZ nulL) := Z_w4.out.below hb
  have E_w5 : Hid (AvE w5 (fun b => GZ + 1 ≤ b ∧ b < m1) ev es) := E_w4.out.below hb
  clear A_w4 Z_w4 E_w4 HB_w4
  clear hb
  have HM2 : Hid (m1 ≤ m2) := hm5
  have S_w5 : Hid (m2 ≤ w5.heap.size) := (by rw [hm2]; exact Nat.le_refl _)
  clear hm2 hm5
  have T_w5 : Hid (AvT w5 (fun b => m1 ≤ b ∧ b < m2) (.slice a2 R.text.length c2) R.text) := ho2
  clear ho2
  go_wp2_with (refine storeO rfl 43 22 _ _ rfl w.heap.size 0 rfl (resL (.slice a R.text.length cap) R.loc vs R.fk R.fa R.mode ev) (resL (.slice a2 R.text.length c2) R.loc vs R.fk R.fa R.mode ev) (.slice a2 R.text.length c2) (.slice a R.text.length cap) rfl A_w5.out rfl (fun xs hx => by cases hx) resL_0 one_slice (resL_text _) ?_)
  intro w6 hz hg
  have HB_w6 : Hid (Below w.heap.size w w6) := HB_w5.out.grown hg HB_w5.out.size (fun j hj => by cases hj; exact Nat.le_refl _)
  have Z_w6 : Hid (BoxC w6 43 GZ nulL) := Z_w5.out.kept hg (fun e => by have := HLGZ.out; have := Option.some.inj e; omega)
  have E_w6 : Hid (AvE w6 (fun b => GZ + 1 ≤ b ∧ b < m1) ev es) := E_w5.out.stored hg (by have := HLGZ.out; show ¬ (GZ + 1 ≤ w.heap.size ∧ w.heap.size < m1); omega)
  have S_w6 : Hid (m2 ≤ w6.heap.size) := Nat.le_trans S_w5.out hg.size
  have T_w6 : Hid (AvT w6 (fun b => m1 ≤ b ∧ b < m2) (.slice a2 R.text.length c2) R.text) := T_w5.out.stored hg (by have := HLGZ.out; have := HM1.out; show ¬ (m1 ≤ w.heap.size ∧ w.heap.size < m2); omega)
  clear A_w5 Z_w5 E_w5 S_w5 T_w5 HB_w5
  have A_w6 : Hid (BoxC w6 43 w.heap.size (resL (.slice a2 R.text.length c2) R.loc vs R.fk R.fa R.mode ev)) := hz
  clear hz hg
  go_wp2_with ((refine loadP rfl 43 36 _ rfl w.heap.size 2 rfl (resL (.slice a2 R.text.length c2) R.loc vs R.fk R.fa R.mode ev) vs A_w6.out (by rw [hvs]; exact wide_regs) (fun j v hv => by rw [resL_reg (by assumption) j (by rw [← hvs]; exact (List.getElem?_eq_some_iff.1 hv).1)]; exact hv) ?_))
  go_loopw [24] (fun u24 wl => ∃ (i : Nat) (ls : List Value), u24 = .int .i64 (i : Int) ∧ i ≤ 27 ∧ Hid (Below w.heap.size w wl) ∧ Hid (BoxC wl 43 w.heap.size (resL (.slice a2 R.text.length c2) R.loc ls R.fk R.fa R.mode ev)) ∧ Hid (BoxC wl 43 GZ nulL) ∧ Hid (m2 ≤ wl.heap.size) ∧ Hid (AvE wl (fun b => GZ + 1 ≤ b ∧ b < m1) ev es) ∧ Hid (AvT wl (fun b => m1 ≤ b ∧ b < m2) (.slice a2 R.text.length c2) R.text) ∧ Hid (CopR wl m2 ls R.regs i)) (fun u24 _ => 27 - (intOf u24).toNat)
  case atStart => exact ⟨0, vs, rfl, by omega, HB_w6, A_w6, Z_w6, S_w6, E_w6, T_w6, ⟨HS.out, fun j hj => by omega⟩⟩
  case round =>
    obtain ⟨i, ls, rfl, hi, HB_wr, A_wr, Z_wr, S_wr, E_wr, T_wr, HC⟩ := hrel
    clear HB_w6 A_w6 Z_w6 S_w6 E_w6 T_w6
    have hls : ls.length = 27 := HC.out.1.1
    by_cases hlt : i < 27
    · have hiI : (i : Int) < 27 := by omega
      have hw1 : IntKind.i64.wrap ((i : Int) + 1) = (i : Int) + 1 := by rw [IntKind.wrap_i64]; omega
      obtain ⟨ai, ci, hv, hr, hm⟩ := (HRR.out wr HB_wr.out).at_ i hlt
      have HR : Hid (Reads wr (.slice ai (R.regs.getD i []).length ci) (R.regs.getD i [])) := hr
      have HV : Hid (vs.getD i undef = .slice ai (R.regs.getD i []).length ci) := hv
      have HMi : Hid (Mild (R.regs.getD i [])) := hm
      clear hr hv hm
      obtain ⟨t, ht⟩ : ∃ t, t = R.regs.getD i [] := ⟨_, rfl⟩
      have HTI : Hid (R.regs.getD i [] = t) := ht.symm
      rw [← ht] at HR HV HMi
      clear ht
      obtain ⟨ao, no, co, hold⟩ := HC.out.1.at_ i hlt
      have HOld : Hid (ls[i]? = some (.slice ao no co)) := by show _ = _; rw [← hold, List.getD_eq_getElem?_getD, List.getElem?_eq_getElem (by omega)]; rfl
      clear hold
      go_wp2_with (refine index24 rfl _ _ rfl vs rfl i rfl HS.out hlt _ HV.out ?_)
      refine (copied_go _ t wr HR.out HMi.out).mono ?_
      rintro q w7 ⟨hb, vo, rfl, ho⟩
      obtain ⟨a7, c7, rfl⟩ := ho.reads.shape
      have hzl := S_wr.out
      have HO7 : Hid (Av w7 (fun b => m2 ≤ b) (.slice a7 t.length c7) (R.regs.getD i [])) := by rw [HTI.out]; exact (av_own ho).weak (fun b hb => Nat.le_trans hzl hb)
      have HBB : Hid (Below wr.heap.size wr w7) := hb
      clear ho hzl HR
      have HB_w7 : Hid (Below w.heap.size w w7) := below_trans HB_wr.out hb HB_wr.out.size
      have A_w7 : Hid (BoxC w7 43 w.heap.size (resL (.slice a2 R.text.length c2) R.loc ls R.fk R.fa R.mode ev)) := A_wr.out.below hb
      have Z_w7 : Hid (BoxC w7 43 GZ nulL) := Z_wr.out.below hb
      have E_w7 : Hid (AvE w7 (fun b => GZ + 1 ≤ b ∧ b < m1) ev es) := E_wr.out.below hb
      have S_w7 : Hid (m2 ≤ w7.heap.size) := Nat.le_trans S_wr.out hb.size
      have T_w7 : Hid (AvT w7 (fun b => m1 ≤ b ∧ b < m2) (.slice a2 R.text.length c2) R.text) := T_wr.out.below hb
      clear A_wr Z_wr E_wr S_wr T_wr HB_wr
      clear hb
      go_wp2_with (refine storeO rfl 43 22 _ _ rfl w.heap.size (2 + i) rfl (resL (.slice a2 R.text.length c2) R.loc ls R.fk R.fa R.mode ev) (resL (.slice a2 R.text.length c2) R.loc (ls.set i (.slice a7 t.length c7)) R.fk R.fa R.mode ev) (.slice a7 t.length c7) (.slice ao no co) rfl A_w7.out rfl (fun xs hx => by cases hx) (by rw [resL_reg hls i hlt]; exact HOld.out) one_slice (resL_setreg i _ hls hlt) ?_)
      intro w8 hz hg
      have HC8 : Hid (CopR w8 m2 (ls.set i (.slice a7 t.length c7)) R.regs (i + 1)) := HC.out.step hlt HBB.out _ _ _ HO7.out hg (by have := HLGZ.out; have := HM1.out; have := HM2.out; omega)
      have HB_w8 : Hid (Below w.heap.size w w8) := HB_w7.out.grown hg HB_w7.out.size (fun j hj => by cases hj; exact Nat.le_refl _)
      have Z_w8 : Hid (BoxC w8 43 GZ nulL) := Z_w7.out.kept hg (fun e => by have := HLGZ.out; have := Option.some.inj e; omega)
      have E_w8 : Hid (AvE w8 (fun b => GZ + 1 ≤ b ∧ b < m1) ev es) := E_w7.out.stored hg (by have := HLGZ.out; show ¬ (GZ + 1 ≤ w.heap.size ∧ w.heap.size < m1); omega)
      have S_w8 : Hid (m2 ≤ w8.heap.size) := Nat.le_trans S_w7.out hg.size
      have T_w8 : Hid (AvT w8 (fun b => m1 ≤ b ∧ b < m2) (.slice a2 R.text.length c2) R.text) := T_w7.out.stored hg (by have := HLGZ.out; have := HM1.out; show ¬ (m1 ≤ w.heap.size ∧ w.heap.size < m2); omega)
      clear A_w7 Z_w7 E_w7 S_w7 T_w7 HB_w7
      have A_w8 : Hid (BoxC w8 43 w.heap.size (resL (.slice a2 R.text.length c2) R.loc (ls.set i (.slice a7 t.length c7)) R.fk R.fa R.mode ev)) := hz
      clear hz hg HO7 HBB HC
      go_wp2_with (fail)
      go_roundw
      case rel => exact ⟨i + 1, _, by go_num, by omega, HB_w8, A_w8, Z_w8, S_w8, E_w8, T_w8, HC8⟩
      case measure => simp [intOf] <;> omega
    · obtain rfl : i = 27 := by omega
      have hiI : ¬ ((27 : Nat) : Int) < 27 := by omega
      have HLA : Hid (AllSl ls) := HC.out.1
      have HC_wr : Hid (CopR wr m2 ls R.regs 27) := HC
      clear HC
      go_wp2_with (first | (refine loadC rfl 43 _ rfl w.heap.size rfl (resL (.slice a2 R.text.length c2) R.loc ls R.fk R.fa R.mode ev) A_wr.out (by rw [resL_len hls]; exact wide_res) ?_) | (refine storeC rfl 43 _ _ rfl GZ rfl nulL (resL (.slice a2 R.text.length c2) R.loc ls R.fk R.fa R.mode ev) rfl Z_wr.out (by rw [resL_len hls]; exact wide_res) (resL_one HLA.out rfl HEV.out.1) (by rw [nul_len, resL_len hls]) ?_))
      intro w10 hz hg
      have HB_w10 : Hid (Below w.heap.size w w10) := HB_wr.out.grown hg HB_wr.out.size (fun j hj => by cases hj; exact (by have := HLGZ.out; omega))
      have A_w10 : Hid (BoxC w10 43 w.heap.size (resL (.slice a2 R.text.length c2) R.loc ls R.fk R.fa R.mode ev)) := A_wr.out.kept hg (fun e => by have := HLGZ.out; have := Option.some.inj e; omega)
      have E_w10 : Hid (AvE w10 (fun b => GZ + 1 ≤ b ∧ b < m1) ev es) := E_wr.out.stored hg (by have := HLGZ.out; show ¬ (GZ + 1 ≤ GZ ∧ GZ < m1); omega)
      have S_w10 : Hid (m2 ≤ w10.heap.size) := Nat.le_trans S_wr.out hg.size
      have T_w10 : Hid (AvT w10 (fun b => m1 ≤ b ∧ b < m2) (.slice a2 R.text.length c2) R.text) := T_wr.out.stored hg (by have := HLGZ.out; have := HM1.out; show ¬ (m1 ≤ GZ ∧ GZ < m2); omega)
      have HC_w10 : Hid (CopR w10 m2 ls R.regs 27) := HC_wr.out.stored hg (by have := HLGZ.out; have := HM1.out; have := HM2.out; omega)
      clear A_wr Z_wr E_wr S_wr T_wr HC_wr HB_wr
      have Z_w10 : Hid (BoxC w10 43 GZ (resL (.slice a2 R.text.length c2) R.loc ls R.fk R.fa R.mode ev)) := hz
      clear hz hg
      go_wp2_with (fail)
      (try simp only [Exit.inBlock, Exit.then])
      refine bodyPost_ret (ret_box1 rfl _ _ GZ (resL (.slice a2 R.text.length c2) R.loc ls R.fk R.fa R.mode ev) rfl Z_w10.out (by rw [resL_len hls]; exact wide_res)) rfl ?_
      have hle : w.heap.size ≤ GZ + 1 := by have := HLGZ.out; omega
      exact ⟨HB_w10.out, _, rfl, a2, c2, ls, ev, m1, m2, rfl, Nat.le_trans hle HM1.out, HM2.out, T_w10.out, HC_w10.out.all (HRR.out w (Below.refl _ _)).2.1 (fun i hi => ((HRR.out w (Below.refl _ _)).2.2 i hi).2), E_w10.out.weak (fun b hb => ⟨Nat.le_trans hle hb.1, hb.2⟩)⟩
end Go.Proofs.Ytpgjaoemkadenab.Seek

/- The contract of edit.checkAll. -/
set_option linter.unusedVariables false
set_option linter.unusedSimpArgs false
set_option maxRecDepth 100000
namespace Go.Proofs.Ytpgjaoemkadenab.Seek
open Go.RowKit Plain


set_option maxHeartbeats 1000000 in
theorem checkAll_line (a : Option Addr) (n cap : Nat) (k fk fa c r o v g e : Int) (w : World) (hn : n ≤ maxLen) (hl : lchk n k = e) (he : e ≠ 0) :
    Calls Try.prog 23 #[.agg #[.slice a n cap, .int .i64 k], .agg #[.int .i64 fk, .int .i64 fa], .agg #[.int .i64 c, .int .i64 r, .int .i64 o, .int .i64 v, .int .i64 g]] w fun q w' => q = .returned (.int .i64 e) ∧ Below w.heap.size w w' := by
  have HL : Hid (∀ wx, Calls Try.prog 36 #[.agg #[.slice a n cap, .int .i64 k]] wx fun q w' => q = .returned (.int .i64 e) ∧ Below wx.heap.size wx w') := fun wx => by rw [← hl]; exact check_edit a n cap k wx hn
  clear hl hn
  have hb : (e != 0) = true := by simpa using he
  go_enter Try.func23, Try.ntmps23
  go_wp2_with (fail)
  refine (HL.out _).mono ?_
  rintro q w1 ⟨rfl, hb1⟩
  obtain ⟨h0, h1, h2, hbb⟩ := start3 w 24 40 38 [.slice a n cap, .int .i64 k] [.int .i64 fk, .int .i64 fa] [.int .i64 c, .int .i64 r, .int .i64 o, .int .i64 v, .int .i64 g]
  have HB1 : Hid (Below w.heap.size w w1) := below_trans hbb hb1 hbb.size
  have HF1 := h1.below hb1
  have HC1 := h2.below hb1
  have f0 : w1.cell? ⟨w.heap.size + 1, 0, none⟩ = some (.int .i64 fk) := (HF1.cell 0).trans rfl
  have c0 : w1.cell? ⟨w.heap.size + 1 + 1, 0, none⟩ = some (.int .i64 c) := (HC1.cell 0).trans rfl
  have c2 : w1.cell? ⟨w.heap.size + 1 + 1, 2, none⟩ = some (.int .i64 o) := (HC1.cell 2).trans rfl
  clear h0 h1 h2 hbb hb1 HF1 HC1
  go_wp2_with (fail)
  go_ret
  exact ⟨rfl, HB1.out⟩

set_option maxHeartbeats 1000000 in
theorem checkAll_low (a : Option Addr) (n cap : Nat) (k fk fa c r o v g : Int) (w : World) (hn : n ≤ maxLen) (hl : lchk n k = 0) (hc : c < 0) :
    Calls Try.prog 23 #[.agg #[.slice a n cap, .int .i64 k], .agg #[.int .i64 fk, .int .i64 fa], .agg #[.int .i64 c, .int .i64 r, .int .i64 o, .int .i64 v, .int .i64 g]] w fun q w' => q = .returned (.int .i64 1) ∧ Below w.heap.size w w' := by
  have HL : Hid (∀ wx, Calls Try.prog 36 #[.agg #[.slice a n cap, .int .i64 k]] wx fun q w' => q = .returned (.int .i64 0) ∧ Below wx.heap.size wx w') := fun wx => by rw [← hl]; exact check_edit a n cap k wx hn
  clear hl hn
  go_enter Try.func23, Try.ntmps23
  go_wp2_with (fail)
  refine (HL.out _).mono ?_
  rintro q w1 ⟨rfl, hb1⟩
  obtain ⟨h0, h1, h2, hbb⟩ := start3 w 24 40 38 [.slice a n cap, .int .i64 k] [.int .i64 fk, .int .i64 fa] [.int .i64 c, .int .i64 r, .int .i64 o, .int .i64 v, .int .i64 g]
  have HB1 : Hid (Below w.heap.size w w1) := below_trans hbb hb1 hbb.size
  have HF1 := h1.below hb1
  have HC1 := h2.below hb1
  have f0 : w1.cell? ⟨w.heap.size + 1, 0, none⟩ = some (.int .i64 fk) := (HF1.cell 0).trans rfl
  have c0 : w1.cell? ⟨w.heap.size + 1 + 1, 0, none⟩ = some (.int .i64 c) := (HC1.cell 0).trans rfl
  have c2 : w1.cell? ⟨w.heap.size + 1 + 1, 2, none⟩ = some (.int .i64 o) := (HC1.cell 2).trans rfl
  clear h0 h1 h2 hbb hb1 HF1 HC1
  go_wp2_with (fail)
  go_ret
  exact ⟨rfl, HB1.out⟩

set_option maxHeartbeats 1000000 in
theorem checkAll_high (a : Option Addr) (n cap : Nat) (k fk fa c r o v g : Int) (w : World) (hn : n ≤ maxLen) (hl : lchk n k = 0) (hc : ¬ c < 0) (hc2 : 999 < c) :
    Calls Try.prog 23 #[.agg #[.slice a n cap, .int .i64 k], .agg #[.int .i64 fk, .int .i64 fa], .agg #[.int .i64 c, .int .i64 r, .int .i64 o, .int .i64 v, .int .i64 g]] w fun q w' => q = .returned (.int .i64 1) ∧ Below w.heap.size w w' := by
  have HL : Hid (∀ wx, Calls Try.prog 36 #[.agg #[.slice a n cap, .int .i64 k]] wx fun q w' => q = .returned (.int .i64 0) ∧ Below wx.heap.size wx w') := fun wx => by rw [← hl]; exact check_edit a n cap k wx hn
  clear hl hn
  go_enter Try.func23, Try.ntmps23
  go_wp2_with (fail)
  refine (HL.out _).mono ?_
  rintro q w1 ⟨rfl, hb1⟩
  obtain ⟨h0, h1, h2, hbb⟩ := start3 w 24 40 38 [.slice a n cap, .int .i64 k] [.int .i64 fk, .int .i64 fa] [.int .i64 c, .int .i64 r, .int .i64 o, .int .i64 v, .int .i64 g]
  have HB1 : Hid (Below w.heap.size w w1) := below_trans hbb hb1 hbb.size
  have HF1 := h1.below hb1
  have HC1 := h2.below hb1
  have f0 : w1.cell? ⟨w.heap.size + 1, 0, none⟩ = some (.int .i64 fk) := (HF1.cell 0).trans rfl
  have c0 : w1.cell? ⟨w.heap.size + 1 + 1, 0, none⟩ = some (.int .i64 c) := (HC1.cell 0).trans rfl
  have c2 : w1.cell? ⟨w.heap.size + 1 + 1, 2, none⟩ = some (.int .i64 o) := (HC1.cell 2).trans rfl
  clear h0 h1 h2 hbb hb1 HF1 HC1
  go_wp2_with (fail)
  go_ret
  exact ⟨rfl, HB1.out⟩

set_option maxHeartbeats 1000000 in
theorem checkAll_find (a : Option Addr) (n cap : Nat) (k fk fa c r o v g : Int) (w : World) (hn : n ≤ maxLen) (hl : lchk n k = 0) (hc : ¬ c < 0) (hc2 : ¬ 999 < c) (hf : fk ≠ 0) (hf2 : isF fk = false) :
    Calls Try.prog 23 #[.agg #[.slice a n cap, .int .i64 k], .agg #[.int .i64 fk, .int .i64 fa], .agg #[.int .i64 c, .int .i64 r, .int .i64 o, .int .i64 v, .int .i64 g]] w fun q w' => q = .returned (.int .i64 1) ∧ Below w.heap.size w w' := by
  have HL : Hid (∀ wx, Calls Try.prog 36 #[.agg #[.slice a n cap, .int .i64 k]] wx fun q w' => q = .returned (.int .i64 0) ∧ Below wx.heap.size wx w') := fun wx => by rw [← hl]; exact check_edit a n cap k wx hn
  clear hl hn
  have hb : (fk != 0) = true := by simpa using hf
  have HF : Hid (isF fk = false) := hf2
  clear hf2
  go_enter Try.func23, Try.ntmps23
  go_wp2_with (fail)
  refine (HL.out _).mono ?_
  rintro q w1 ⟨rfl, hb1⟩
  obtain ⟨h0, h1, h2, hbb⟩ := start3 w 24 40 38 [.slice a n cap, .int .i64 k] [.int .i64 fk, .int .i64 fa] [.int .i64 c, .int .i64 r, .int .i64 o, .int .i64 v, .int .i64 g]
  have HB1 : Hid (Below w.heap.size w w1) := below_trans hbb hb1 hbb.size
  have HF1 := h1.below hb1
  have HC1 := h2.below hb1
  have f0 : w1.cell? ⟨w.heap.size + 1, 0, none⟩ = some (.int .i64 fk) := (HF1.cell 0).trans rfl
  have c0 : w1.cell? ⟨w.heap.size + 1 + 1, 0, none⟩ = some (.int .i64 c) := (HC1.cell 0).trans rfl
  have c2 : w1.cell? ⟨w.heap.size + 1 + 1, 2, none⟩ = some (.int .i64 o) := (HC1.cell 2).trans rfl
  clear h0 h1 h2 hbb hb1 HF1 HC1
  go_wp2_with (fail)
  refine (isFind_go fk _).mono ?_
  rintro q wz ⟨rfl, hwz⟩
  rw [hwz, HF.out]
  clear hwz wz
  go_wp2_with (fail)
  go_ret
  exact ⟨rfl, HB1.out⟩

set_option maxHeartbeats 1000000 in
theorem checkAll_opa0 (a : Option Addr) (n cap : Nat) (k fk fa c r v g : Int) (w : World) (hn : n ≤ maxLen) (hl : lchk n k = 0) (hc : ¬ c < 0) (hc2 : ¬ 999 < c) (hf : fk = 0) :
    Calls Try.prog 23 #[.agg #[.slice a n cap, .int .i64 k], .agg #[.int .i64 fk, .int .i64 fa], .agg #[.int .i64 c, .int .i64 r, .int .i64 0, .int .i64 v, .int .i64 g]] w fun q w' => q = .returned (.int .i64 0) ∧ Below w.heap.size w w' := by
  have HL : Hid (∀ wx, Calls Try.prog 36 #[.agg #[.slice a n cap, .int .i64 k]] wx fun q w' => q = .returned (.int .i64 0) ∧ Below wx.heap.size wx w') := fun wx => by rw [← hl]; exact check_edit a n cap k wx hn
  clear hl hn
  subst hf
  go_enter Try.func23, Try.ntmps23
  go_wp2_with (fail)
  refine (HL.out _).mono ?_
  rintro q w1 ⟨rfl, hb1⟩
  obtain ⟨h0, h1, h2, hbb⟩ := start3 w 24 40 38 [.slice a n cap, .int .i64 k] [.int .i64 0, .int .i64 fa] [.int .i64 c, .int .i64 r, .int .i64 0, .int .i64 v, .int .i64 g]
  have HB1 : Hid (Below w.heap.size w w1) := below_trans hbb hb1 hbb.size
  have HF1 := h1.below hb1
  have HC1 := h2.below hb1
  have f0 : w1.cell? ⟨w.heap.size + 1, 0, none⟩ = some (.int .i64 0) := (HF1.cell 0).trans rfl
  have c0 : w1.cell? ⟨w.heap.size + 1 + 1, 0, none⟩ = some (.int .i64 c) := (HC1.cell 0).trans rfl
  have c2 : w1.cell? ⟨w.heap.size + 1 + 1, 2, none⟩ = some (.int .i64 0) := (HC1.cell 2).trans rfl
  clear h0 h1 h2 hbb hb1 HF1 HC1
  go_wp2_with (fail)
  go_ret
  exact ⟨rfl, HB1.out⟩

set_option maxHeartbeats 1000000 in
theorem checkAll_opb0 (a : Option Addr) (n cap : Nat) (k fk fa c r v g : Int) (w : World) (hn : n ≤ maxLen) (hl : lchk n k = 0) (hc : ¬ c < 0) (hc2 : ¬ 999 < c) (hf : fk ≠ 0) (hf2 : isF fk = true) :
    Calls Try.prog 23 #[.agg #[.slice a n cap, .int .i64 k], .agg #[.int .i64 fk, .int .i64 fa], .agg #[.int .i64 c, .int .i64 r, .int .i64 0, .int .i64 v, .int .i64 g]] w fun q w' => q = .returned (.int .i64 0) ∧ Below w.heap.size w w' := by
  have HL : Hid (∀ wx, Calls Try.prog 36 #[.agg #[.slice a n cap, .int .i64 k]] wx fun q w' => q = .returned (.int .i64 0) ∧ Below wx.heap.size wx w') := fun wx => by rw [← hl]; exact check_edit a n cap k wx hn
  clear hl hn
  have hb : (fk != 0) = true := by simpa using hf
  have HF : Hid (isF fk = true) := hf2
  clear hf2
  go_enter Try.func23, Try.ntmps23
  go_wp2_with (fail)
  refine (HL.out _).mono ?_
  rintro q w1 ⟨rfl, hb1⟩
  obtain ⟨h0, h1, h2, hbb⟩ := start3 w 24 40 38 [.slice a n cap, .int .i64 k] [.int .i64 fk, .int .i64 fa] [.int .i64 c, .int .i64 r, .int .i64 0, .int .i64 v, .int .i64 g]
  have HB1 : Hid (Below w.heap.size w w1) := below_trans hbb hb1 hbb.size
  have HF1 := h1.below hb1
  have HC1 := h2.below hb1
  have f0 : w1.cell? ⟨w.heap.size + 1, 0, none⟩ = some (.int .i64 fk) := (HF1.cell 0).trans rfl
  have c0 : w1.cell? ⟨w.heap.size + 1 + 1, 0, none⟩ = some (.int .i64 c) := (HC1.cell 0).trans rfl
  have c2 : w1.cell? ⟨w.heap.size + 1 + 1, 2, none⟩ = some (.int .i64 0) := (HC1.cell 2).trans rfl
  clear h0 h1 h2 hbb hb1 HF1 HC1
  go_wp2_with (fail)
  refine (isFind_go fk _).mono ?_
  rintro q wz ⟨rfl, hwz⟩
  rw [hwz, HF.out]
  clear hwz wz
  go_wp2_with (fail)
  go_ret
  exact ⟨rfl, HB1.out⟩

set_option maxHeartbeats 1000000 in
theorem checkAll_opa100 (a : Option Addr) (n cap : Nat) (k fk fa c r v g : Int) (w : World) (hn : n ≤ maxLen) (hl : lchk n k = 0) (hc : ¬ c < 0) (hc2 : ¬ 999 < c) (hf : fk = 0) :
    Calls Try.prog 23 #[.agg #[.slice a n cap, .int .i64 k], .agg #[.int .i64 fk, .int .i64 fa], .agg #[.int .i64 c, .int .i64 r, .int .i64 100, .int .i64 v, .int .i64 g]] w fun q w' => q = .returned (.int .i64 0) ∧ Below w.heap.size w w' := by
  have HL : Hid (∀ wx, Calls Try.prog 36 #[.agg #[.slice a n cap, .int .i64 k]] wx fun q w' => q = .returned (.int .i64 0) ∧ Below wx.heap.size wx w') := fun wx => by rw [← hl]; exact check_edit a n cap k wx hn
  clear hl hn
  subst hf
  go_enter Try.func23, Try.ntmps23
  go_wp2_with (fail)
  refine (HL.out _).mono ?_
  rintro q w1 ⟨rfl, hb1⟩
  obtain ⟨h0, h1, h2, hbb⟩ := start3 w 24 40 38 [.slice a n cap, .int .i64 k] [.int .i64 0, .int .i64 fa] [.int .i64 c, .int .i64 r, .int .i64 100, .int .i64 v, .int .i64 g]
  have HB1 : Hid (Below w.heap.size w w1) := below_trans hbb hb1 hbb.size
  have HF1 := h1.below hb1
  have HC1 := h2.below hb1
  have f0 : w1.cell? ⟨w.heap.size + 1, 0, none⟩ = some (.int .i64 0) := (HF1.cell 0).trans rfl
  have c0 : w1.cell? ⟨w.heap.size + 1 + 1, 0, none⟩ = some (.int .i64 c) := (HC1.cell 0).trans rfl
  have c2 : w1.cell? ⟨w.heap.size + 1 + 1, 2, none⟩ = some (.int .i64 100) := (HC1.cell 2).trans rfl
  clear h0 h1 h2 hbb hb1 HF1 HC1
  go_wp2_with (fail)
  go_ret
  exact ⟨rfl, HB1.out⟩

set_option maxHeartbeats 1000000 in
theorem checkAll_opb100 (a : Option Addr) (n cap : Nat) (k fk fa c r v g : Int) (w : World) (hn : n ≤ maxLen) (hl : lchk n k = 0) (hc : ¬ c < 0) (hc2 : ¬ 999 < c) (hf : fk ≠ 0) (hf2 : isF fk = true) :
    Calls Try.prog 23 #[.agg #[.slice a n cap, .int .i64 k], .agg #[.int .i64 fk, .int .i64 fa], .agg #[.int .i64 c, .int .i64 r, .int .i64 100, .int .i64 v, .int .i64 g]] w fun q w' => q = .returned (.int .i64 0) ∧ Below w.heap.size w w' := by
  have HL : Hid (∀ wx, Calls Try.prog 36 #[.agg #[.slice a n cap, .int .i64 k]] wx fun q w' => q = .returned (.int .i64 0) ∧ Below wx.heap.size wx w') := fun wx => by rw [← hl]; exact check_edit a n cap k wx hn
  clear hl hn
  have hb : (fk != 0) = true := by simpa using hf
  have HF : Hid (isF fk = true) := hf2
  clear hf2
  go_enter Try.func23, Try.ntmps23
  go_wp2_with (fail)
  refine (HL.out _).mono ?_
  rintro q w1 ⟨rfl, hb1⟩
  obtain ⟨h0, h1, h2, hbb⟩ := start3 w 24 40 38 [.slice a n cap, .int .i64 k] [.int .i64 fk, .int .i64 fa] [.int .i64 c, .int .i64 r, .int .i64 100, .int .i64 v, .int .i64 g]
  have HB1 : Hid (Below w.heap.size w w1) := below_trans hbb hb1 hbb.size
  have HF1 := h1.below hb1
  have HC1 := h2.below hb1
  have f0 : w1.cell? ⟨w.heap.size + 1, 0, none⟩ = some (.int .i64 fk) := (HF1.cell 0).trans rfl
  have c0 : w1.cell? ⟨w.heap.size + 1 + 1, 0, none⟩ = some (.int .i64 c) := (HC1.cell 0).trans rfl
  have c2 : w1.cell? ⟨w.heap.size + 1 + 1, 2, none⟩ = some (.int .i64 100) := (HC1.cell 2).trans rfl
  clear h0 h1 h2 hbb hb1 HF1 HC1
  go_wp2_with (fail)
  refine (isFind_go fk _).mono ?_
  rintro q wz ⟨rfl, hwz⟩
  rw [hwz, HF.out]
  clear hwz wz
  go_wp2_with (fail)
  go_ret
  exact ⟨rfl, HB1.out⟩

set_option maxHeartbeats 1000000 in
theorem checkAll_opa99 (a : Option Addr) (n cap : Nat) (k fk fa c r v g : Int) (w : World) (hn : n ≤ maxLen) (hl : lchk n k = 0) (hc : ¬ c < 0) (hc2 : ¬ 999 < c) (hf : fk = 0) :
    Calls Try.prog 23 #[.agg #[.slice a n cap, .int .i64 k], .agg #[.int .i64 fk, .int .i64 fa], .agg #[.int .i64 c, .int .i64 r, .int .i64 99, .int .i64 v, .int .i64 g]] w fun q w' => q = .returned (.int .i64 0) ∧ Below w.heap.size w w' := by
  have HL : Hid (∀ wx, Calls Try.prog 36 #[.agg #[.slice a n cap, .int .i64 k]] wx fun q w' => q = .returned (.int .i64 0) ∧ Below wx.heap.size wx w') := fun wx => by rw [← hl]; exact check_edit a n cap k wx hn
  clear hl hn
  subst hf
  go_enter Try.func23, Try.ntmps23
  go_wp2_with (fail)
  refine (HL.out _).mono ?_
  rintro q w1 ⟨rfl, hb1⟩
  obtain ⟨h0, h1, h2, hbb⟩ := start3 w 24 40 38 [.slice a n cap, .int .i64 k] [.int .i64 0, .int .i64 fa] [.int .i64 c, .int .i64 r, .int .i64 99, .int .i64 v, .int .i64 g]
  have HB1 : Hid (Below w.heap.size w w1) := below_trans hbb hb1 hbb.size
  have HF1 := h1.below hb1
  have HC1 := h2.below hb1
  have f0 : w1.cell? ⟨w.heap.size + 1, 0, none⟩ = some (.int .i64 0) := (HF1.cell 0).trans rfl
  have c0 : w1.cell? ⟨w.heap.size + 1 + 1, 0, none⟩ = some (.int .i64 c) := (HC1.cell 0).trans rfl
  have c2 : w1.cell? ⟨w.heap.size + 1 + 1, 2, none⟩ = some (.int .i64 99) := (HC1.cell 2).trans rfl
  clear h0 h1 h2 hbb hb1 HF1 HC1
  go_wp2_with (fail)
  go_ret
  exact ⟨rfl, HB1.out⟩

set_option maxHeartbeats 1000000 in
theorem checkAll_opb99 (a : Option Addr) (n cap : Nat) (k fk fa c r v g : Int) (w : World) (hn : n ≤ maxLen) (hl : lchk n k = 0) (hc : ¬ c < 0) (hc2 : ¬ 999 < c) (hf : fk ≠ 0) (hf2 : isF fk = true) :
    Calls Try.prog 23 #[.agg #[.slice a n cap, .int .i64 k], .agg #[.int .i64 fk, .int .i64 fa], .agg #[.int .i64 c, .int .i64 r, .int .i64 99, .int .i64 v, .int .i64 g]] w fun q w' => q = .returned (.int .i64 0) ∧ Below w.heap.size w w' := by
  have HL : Hid (∀ wx, Calls Try.prog 36 #[.agg #[.slice a n cap, .int .i64 k]] wx fun q w' => q = .returned (.int .i64 0) ∧ Below wx.heap.size wx w') := fun wx => by rw [← hl]; exact check_edit a n cap k wx hn
  clear hl hn
  have hb : (fk != 0) = true := by simpa using hf
  have HF : Hid (isF fk = true) := hf2
  clear hf2
  go_enter Try.func23, Try.ntmps23
  go_wp2_with (fail)
  refine (HL.out _).mono ?_
  rintro q w1 ⟨rfl, hb1⟩
  obtain ⟨h0, h1, h2, hbb⟩ := start3 w 24 40 38 [.slice a n cap, .int .i64 k] [.int .i64 fk, .int .i64 fa] [.int .i64 c, .int .i64 r, .int .i64 99, .int .i64 v, .int .i64 g]
  have HB1 : Hid (Below w.heap.size w w1) := below_trans hbb hb1 hbb.size
  have HF1 := h1.below hb1
  have HC1 := h2.below hb1
  have f0 : w1.cell? ⟨w.heap.size + 1, 0, none⟩ = some (.int .i64 fk) := (HF1.cell 0).trans rfl
  have c0 : w1.cell? ⟨w.heap.size + 1 + 1, 0, none⟩ = some (.int .i64 c) := (HC1.cell 0).trans rfl
  have c2 : w1.cell? ⟨w.heap.size + 1 + 1, 2, none⟩ = some (.int .i64 99) := (HC1.cell 2).trans rfl
  clear h0 h1 h2 hbb hb1 HF1 HC1
  go_wp2_with (fail)
  refine (isFind_go fk _).mono ?_
  rintro q wz ⟨rfl, hwz⟩
  rw [hwz, HF.out]
  clear hwz wz
  go_wp2_with (fail)
  go_ret
  exact ⟨rfl, HB1.out⟩

set_option maxHeartbeats 1000000 in
theorem checkAll_opa121 (a : Option Addr) (n cap : Nat) (k fk fa c r v g : Int) (w : World) (hn : n ≤ maxLen) (hl : lchk n k = 0) (hc : ¬ c < 0) (hc2 : ¬ 999 < c) (hf : fk = 0) :
    Calls Try.prog 23 #[.agg #[.slice a n cap, .int .i64 k], .agg #[.int .i64 fk, .int .i64 fa], .agg #[.int .i64 c, .int .i64 r, .int .i64 121, .int .i64 v, .int .i64 g]] w fun q w' => q = .returned (.int .i64 0) ∧ Below w.heap.size w w' := by
  have HL : Hid (∀ wx, Calls Try.prog 36 #[.agg #[.slice a n cap, .int .i64 k]] wx fun q w' => q = .returned (.int .i64 0) ∧ Below wx.heap.size wx w') := fun wx => by rw [← hl]; exact check_edit a n cap k wx hn
  clear hl hn
  subst hf
  go_enter Try.func23, Try.ntmps23
  go_wp2_with (fail)
  refine (HL.out _).mono ?_
  rintro q w1 ⟨rfl, hb1⟩
  obtain ⟨h0, h1, h2, hbb⟩ := start3 w 24 40 38 [.slice a n cap, .int .i64 k] [.int .i64 0, .int .i64 fa] [.int .i64 c, .int .i64 r, .int .i64 121, .int .i64 v, .int .i64 g]
  have HB1 : Hid (Below w.heap.size w w1) := below_trans hbb hb1 hbb.size
  have HF1 := h1.below hb1
  have HC1 := h2.below hb1
  have f0 : w1.cell? ⟨w.heap.size + 1, 0, none⟩ = some (.int .i64 0) := (HF1.cell 0).trans rfl
  have c0 : w1.cell? ⟨w.heap.size + 1 + 1, 0, none⟩ = some (.int .i64 c) := (HC1.cell 0).trans rfl
  have c2 : w1.cell? ⟨w.heap.size + 1 + 1, 2, none⟩ = some (.int .i64 121) := (HC1.cell 2).trans rfl
  clear h0 h1 h2 hbb hb1 HF1 HC1
  go_wp2_with (fail)
  go_ret
  exact ⟨rfl, HB1.out⟩

set_option maxHeartbeats 1000000 in
theorem checkAll_opb121 (a : Option Addr) (n cap : Nat) (k fk fa c r v g : Int) (w : World) (hn : n ≤ maxLen) (hl : lchk n k = 0) (hc : ¬ c < 0) (hc2 : ¬ 999 < c) (hf : fk ≠ 0) (hf2 : isF fk = true) :
    Calls Try.prog 23 #[.agg #[.slice a n cap, .int .i64 k], .agg #[.int .i64 fk, .int .i64 fa], .agg #[.int .i64 c, .int .i64 r, .int .i64 121, .int .i64 v, .int .i64 g]] w fun q w' => q = .returned (.int .i64 0) ∧ Below w.heap.size w w' := by
  have HL : Hid (∀ wx, Calls Try.prog 36 #[.agg #[.slice a n cap, .int .i64 k]] wx fun q w' => q = .returned (.int .i64 0) ∧ Below wx.heap.size wx w') := fun wx => by rw [← hl]; exact check_edit a n cap k wx hn
  clear hl hn
  have hb : (fk != 0) = true := by simpa using hf
  have HF : Hid (isF fk = true) := hf2
  clear hf2
  go_enter Try.func23, Try.ntmps23
  go_wp2_with (fail)
  refine (HL.out _).mono ?_
  rintro q w1 ⟨rfl, hb1⟩
  obtain ⟨h0, h1, h2, hbb⟩ := start3 w 24 40 38 [.slice a n cap, .int .i64 k] [.int .i64 fk, .int .i64 fa] [.int .i64 c, .int .i64 r, .int .i64 121, .int .i64 v, .int .i64 g]
  have HB1 : Hid (Below w.heap.size w w1) := below_trans hbb hb1 hbb.size
  have HF1 := h1.below hb1
  have HC1 := h2.below hb1
  have f0 : w1.cell? ⟨w.heap.size + 1, 0, none⟩ = some (.int .i64 fk) := (HF1.cell 0).trans rfl
  have c0 : w1.cell? ⟨w.heap.size + 1 + 1, 0, none⟩ = some (.int .i64 c) := (HC1.cell 0).trans rfl
  have c2 : w1.cell? ⟨w.heap.size + 1 + 1, 2, none⟩ = some (.int .i64 121) := (HC1.cell 2).trans rfl
  clear h0 h1 h2 hbb hb1 HF1 HC1
  go_wp2_with (fail)
  refine (isFind_go fk _).mono ?_
  rintro q wz ⟨rfl, hwz⟩
  rw [hwz, HF.out]
  clear hwz wz
  go_wp2_with (fail)
  go_ret
  exact ⟨rfl, HB1.out⟩

set_option maxHeartbeats 1000000 in
theorem checkAll_bada (a : Option Addr) (n cap : Nat) (k fk fa c r o v g : Int) (w : World) (hn : n ≤ maxLen) (hl : lchk n k = 0) (hc : ¬ c < 0) (hc2 : ¬ 999 < c) (hf : fk = 0) (o1 : (o == 0) = false) (o2 : (o == 100) = false) (o3 : (o == 99) = false) (o4 : (o == 121) = false) :
    Calls Try.prog 23 #[.agg #[.slice a n cap, .int .i64 k], .agg #[.int .i64 fk, .int .i64 fa], .agg #[.int .i64 c, .int .i64 r, .int .i64 o, .int .i64 v, .int .i64 g]] w fun q w' => q = .returned (.int .i64 9) ∧ Below w.heap.size w w' := by
  have HL : Hid (∀ wx, Calls Try.prog 36 #[.agg #[.slice a n cap, .int .i64 k]] wx fun q w' => q = .returned (.int .i64 0) ∧ Below wx.heap.size wx w') := fun wx => by rw [← hl]; exact check_edit a n cap k wx hn
  clear hl hn
  subst hf
  go_enter Try.func23, Try.ntmps23
  go_wp2_with (fail)
  refine (HL.out _).mono ?_
  rintro q w1 ⟨rfl, hb1⟩
  obtain ⟨h0, h1, h2, hbb⟩ := start3 w 24 40 38 [.slice a n cap, .int .i64 k] [.int .i64 0, .int .i64 fa] [.int .i64 c, .int .i64 r, .int .i64 o, .int .i64 v, .int .i64 g]
  have HB1 : Hid (Below w.heap.size w w1) := below_trans hbb hb1 hbb.size
  have HF1 := h1.below hb1
  have HC1 := h2.below hb1
  have f0 : w1.cell? ⟨w.heap.size + 1, 0, none⟩ = some (.int .i64 0) := (HF1.cell 0).trans rfl
  have c0 : w1.cell? ⟨w.heap.size + 1 + 1, 0, none⟩ = some (.int .i64 c) := (HC1.cell 0).trans rfl
  have c2 : w1.cell? ⟨w.heap.size + 1 + 1, 2, none⟩ = some (.int .i64 o) := (HC1.cell 2).trans rfl
  clear h0 h1 h2 hbb hb1 HF1 HC1
  go_wp2_with (fail)
  go_ret
  exact ⟨rfl, HB1.out⟩

set_option maxHeartbeats 1000000 in
theorem checkAll_badb (a : Option Addr) (n cap : Nat) (k fk fa c r o v g : Int) (w : World) (hn : n ≤ maxLen) (hl : lchk n k = 0) (hc : ¬ c < 0) (hc2 : ¬ 999 < c) (hf : fk ≠ 0) (hf2 : isF fk = true) (o1 : (o == 0) = false) (o2 : (o == 100) = false) (o3 : (o == 99) = false) (o4 : (o == 121) = false) :
    Calls Try.prog 23 #[.agg #[.slice a n cap, .int .i64 k], .agg #[.int .i64 fk, .int .i64 fa], .agg #[.int .i64 c, .int .i64 r, .int .i64 o, .int .i64 v, .int .i64 g]] w fun q w' => q = .returned (.int .i64 9) ∧ Below w.heap.size w w' := by
  have HL : Hid (∀ wx, Calls Try.prog 36 #[.agg #[.slice a n cap, .int .i64 k]] wx fun q w' => q = .returned (.int .i64 0) ∧ Below wx.heap.size wx w') := fun wx => by rw [← hl]; exact check_edit a n cap k wx hn
  clear hl hn
  have hb : (fk != 0) = true := by simpa using hf
  have HF : Hid (isF fk = true) := hf2
  clear hf2
  go_enter Try.func23, Try.ntmps23
  go_wp2_with (fail)
  refine (HL.out _).mono ?_
  rintro q w1 ⟨rfl, hb1⟩
  obtain ⟨h0, h1, h2, hbb⟩ := start3 w 24 40 38 [.slice a n cap, .int .i64 k] [.int .i64 fk, .int .i64 fa] [.int .i64 c, .int .i64 r, .int .i64 o, .int .i64 v, .int .i64 g]
  have HB1 : Hid (Below w.heap.size w w1) := below_trans hbb hb1 hbb.size
  have HF1 := h1.below hb1
  have HC1 := h2.below hb1
  have f0 : w1.cell? ⟨w.heap.size + 1, 0, none⟩ = some (.int .i64 fk) := (HF1.cell 0).trans rfl
  have c0 : w1.cell? ⟨w.heap.size + 1 + 1, 0, none⟩ = some (.int .i64 c) := (HC1.cell 0).trans rfl
  have c2 : w1.cell? ⟨w.heap.size + 1 + 1, 2, none⟩ = some (.int .i64 o) := (HC1.cell 2).trans rfl
  clear h0 h1 h2 hbb hb1 HF1 HC1
  go_wp2_with (fail)
  refine (isFind_go fk _).mono ?_
  rintro q wz ⟨rfl, hwz⟩
  rw [hwz, HF.out]
  clear hwz wz
  go_wp2_with (fail)
  go_ret
  exact ⟨rfl, HB1.out⟩

theorem checkAll_go (a : Option Addr) (n cap : Nat) (k fk fa c r o v g : Int) (w : World) (hn : n ≤ maxLen) :
    Calls Try.prog 23 #[.agg #[.slice a n cap, .int .i64 k], .agg #[.int .i64 fk, .int .i64 fa], .agg #[.int .i64 c, .int .i64 r, .int .i64 o, .int .i64 v, .int .i64 g]] w fun q w' => q = .returned (.int .i64 (achk n k fk c o)) ∧ Below w.heap.size w w' := by
  unfold achk
  by_cases hl : lchk n k = 0
  · rw [if_neg (by rw [hl]; decide)]
    by_cases h1 : c < 0
    · rw [if_pos (.inl h1)]
      exact checkAll_low a n cap k fk fa c r o v g w hn hl h1
    by_cases h2 : 999 < c
    · rw [if_pos (.inr (.inl h2))]
      exact checkAll_high a n cap k fk fa c r o v g w hn hl h1 h2
    by_cases hf : fk = 0
    · rw [if_neg (by omega)]
      by_cases ho : o = 0 ∨ o = 100 ∨ o = 99 ∨ o = 121
      · have hio : isO o = true := decide_eq_true ho
        rw [if_pos hio]
        rcases ho with rfl | rfl | rfl | rfl
        · exact checkAll_opa0 a n cap k fk fa c r v g w hn hl h1 h2 hf
        · exact checkAll_opa100 a n cap k fk fa c r v g w hn hl h1 h2 hf
        · exact checkAll_opa99 a n cap k fk fa c r v g w hn hl h1 h2 hf
        · exact checkAll_opa121 a n cap k fk fa c r v g w hn hl h1 h2 hf
      · rw [if_neg (by unfold isO; rw [decide_eq_false ho]; decide)]
        exact checkAll_bada a n cap k fk fa c r o v g w hn hl h1 h2 hf (by simp; omega) (by simp; omega) (by simp; omega) (by simp; omega)
    · cases hf2 : isF fk with
      | false =>
        rw [if_pos (.inr (.inr ⟨hf, rfl⟩))]
        exact checkAll_find a n cap k fk fa c r o v g w hn hl h1 h2 hf hf2
      | true =>
        rw [if_neg (by rintro (h | h | ⟨_, h⟩) <;> first | exact h1 h | exact h2 h | cases h)]
        by_cases ho : o = 0 ∨ o = 100 ∨ o = 99 ∨ o = 121
        · have hio : isO o = true := decide_eq_true ho
          rw [if_pos hio]
          rcases ho with rfl | rfl | rfl | rfl
          · exact checkAll_opb0 a n cap k fk fa c r v g w hn hl h1 h2 hf hf2
          · exact checkAll_opb100 a n cap k fk fa c r v g w hn hl h1 h2 hf hf2
          · exact checkAll_opb99 a n cap k fk fa c r v g w hn hl h1 h2 hf hf2
          · exact checkAll_opb121 a n cap k fk fa c r v g w hn hl h1 h2 hf hf2
        · rw [if_neg (by unfold isO; rw [decide_eq_false ho]; decide)]
          exact checkAll_badb a n cap k fk fa c r o v g w hn hl h1 h2 hf hf2 (by simp; omega) (by simp; omega) (by simp; omega) (by simp; omega)
  · rw [if_pos hl]
    exact checkAll_line a n cap k fk fa c r o v g _ w hn rfl hl
end Go.Proofs.Ytpgjaoemkadenab.Seek
