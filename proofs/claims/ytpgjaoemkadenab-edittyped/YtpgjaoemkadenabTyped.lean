/- fairkeep.typed: keys one behind the other. -/
import Derived.Test.YtpgjaoemkadenabKeyGo
set_option linter.unusedVariables false
set_option linter.unusedSimpArgs false
set_option maxRecDepth 100000
namespace Go.Proofs.Ytpgjaoemkadenab.Seek
open Go.RowKit Plain

/-- A slice that does not lie in block G. -/
def Off (v : Value) (G : Nat) : Prop := ∀ a n c, v = .slice (some a) n c → a.block ≠ G
/-- A slice that can be read, and does not lie in block G. -/
def ReadsOff (w : World) (G : Nat) (v : Value) (zs : List Int) : Prop := Reads w v zs ∧ (zs = [] ∨ Off v G)
theorem ReadsOff.below {w w' : World} {G : Nat} {v : Value} {zs : List Int} (h : ReadsOff w G v zs) (hb : Below w.heap.size w w') : ReadsOff w' G v zs := ⟨h.1.below hb, h.2⟩
theorem ReadsOff.stored {w w' : World} {G : Nat} {v : Value} {zs : List Int} (h : ReadsOff w G v zs) (hg : w.grownBy w' (some G)) : ReadsOff w' G v zs := by
  refine ⟨?_, h.2⟩
  obtain ⟨h1, h2⟩ := h
  rcases h1 with h1 | ⟨b, off, cap, hv, hcap, hm, hlt, hc⟩
  · exact .inl h1
  · rcases h2 with rfl | h2
    · exact .inl ⟨_, _, hv, rfl⟩
    · have hne : b ≠ G := h2 _ _ _ hv
      refine .inr ⟨b, off, cap, hv, hcap, hm, Nat.lt_of_lt_of_le hlt hg.size, fun j hj => ?_⟩
      rw [← hc j hj]
      have hbk := hg.block b hlt (fun e => hne (Option.some.inj e))
      unfold World.cell?
      simp only
      rw [hbk]
theorem off_arg {w : World} {G : Nat} {v : Value} {zs : List Int} (h : Reads w v zs) (hG : w.heap.size ≤ G) : ReadsOff w G v zs := by
  refine ⟨h, ?_⟩
  rcases h with ⟨_, _, _, h⟩ | ⟨b, off, cap, hv, _, _, hlt, _⟩
  · exact .inl h
  · refine .inr fun a n c hv2 => ?_
    rw [hv] at hv2
    simp only [Value.slice.injEq, Option.some.injEq] at hv2
    rw [← hv2.1]
    show b ≠ G
    omega
theorem off_own {w : World} {B G : Nat} {v : Value} {zs : List Int} (h : Own w B v zs) (hG : G < B) : ReadsOff w G v zs := by
  refine ⟨h.reads, ?_⟩
  rcases h with ⟨_, _, _, h⟩ | ⟨_, g, cap, hv, hB, _⟩
  · exact .inl h
  · refine .inr fun a n c hv2 => ?_
    rw [hv] at hv2
    simp only [Value.slice.injEq, Option.some.injEq] at hv2
    rw [← hv2.1]
    show g ≠ G
    omega
theorem ReadsOff.stored2 {w w' : World} {G G2 : Nat} {v : Value} {zs : List Int} (h : ReadsOff w G v zs) (h2 : ReadsOff w G2 v zs) (hg : w.grownBy w' (some G)) : ReadsOff w' G2 v zs := ⟨(h.stored hg).1, h2.2⟩
/-- What comes of keys: the line behind the first m of them. -/
def TypedPost (v : Value) (zs : List Int) (S : Nat → List Int × Int) (m n : Nat) (w : World) (e : Ending) (w' : World) : Prop :=
  Below w.heap.size w w' ∧ ∃ tv x, (∃ a l c, tv = .slice a l c) ∧ e = .returned (.tuple #[.agg #[tv, .int .i64 x], .bool (decide (m = n))]) ∧ (m = n → x = (S m).2 ∧ Reads w' tv (S m).1 ∧ ∀ G, G < w.heap.size → (zs = [] ∨ Off v G) → ((S m).1 = [] ∨ Off tv G))

set_option maxHeartbeats 2000000 in
theorem typed_any (v kv : Value) (zs ks : List Int) (k : Int) (S : Nat → List Int × Int) (m : Nat) (w : World) (h : Reads w v zs) (hk : Reads w kv ks) (h0 : S 0 = (zs, k)) (hm : m ≤ ks.length)
    (hS : ∀ i, i < m → keyd (S i).1 (S i).2 1 (ks.getD i 0) = ((S (i + 1)).1, (S (i + 1)).2, 0)) (hE : m < ks.length → (keyd (S m).1 (S m).2 1 (ks.getD m 0)).2.2 ≠ 0) (hks : ks.length * 8 ≤ 140737488351232) :
    Calls Try.prog 5 #[.agg #[v, .int .i64 k], kv] w fun e w' => TypedPost v zs S m ks.length w e w' := by
  obtain ⟨a, cap, rfl⟩ := h.shape
  obtain ⟨ak, ck, rfl⟩ := hk.shape
  have HV : Hid (Reads w (.slice a zs.length cap) zs) := h
  have HK : Hid (∀ wx, Below w.heap.size w wx → Reads wx (.slice ak ks.length ck) ks) := fun wx hx => hk.below hx
  have H0 : Hid (S 0 = (zs, k)) := h0
  have HS : Hid (∀ i, i < m → keyd (S i).1 (S i).2 1 (ks.getD i 0) = ((S (i + 1)).1, (S (i + 1)).2, 0)) := hS
  have HE : Hid (m < ks.length → (keyd (S m).1 (S m).2 1 (ks.getD m 0)).2.2 ≠ 0) := hE
  clear h hk h0 hS hE
  go_enter Try.func5, Try.ntmps5
  go_wp2_with fail
  obtain ⟨w1, hw1⟩ : ∃ w1, w1 = ((w.alloc (.cells #[.slice a zs.length cap, .int .i64 k] 24)).alloc (.cells #[.slice none 0 0, .int .i64 0] 24)) := ⟨_, rfl⟩
  rw [← hw1]
  obtain ⟨hx0, hx1, hxb⟩ := start2 w 24 24 [.slice a zs.length cap, .int .i64 k] [.slice none 0 0, .int .i64 0]
  rw [← hw1] at hx0 hx1 hxb
  have HA : Hid (BoxC w1 24 w.heap.size [.slice a zs.length cap, .int .i64 k]) := hx0
  have HZ : Hid (BoxC w1 24 (w.heap.size + 1) [.slice none 0 0, .int .i64 0]) := hx1
  have HB : Hid (Below w.heap.size w w1) := hxb
  have HR : Hid (ReadsOff w1 w.heap.size (.slice a zs.length cap) zs) := (off_arg HV.out (Nat.le_refl _)).below hxb
  have HR1 : Hid (ReadsOff w1 (w.heap.size + 1) (.slice a zs.length cap) zs) := (off_arg HV.out (Nat.le_succ _)).below hxb
  clear hx0 hx1 hxb hw1
  go_loopw [11] (fun u11 wr => ∃ i : Nat, u11 = .int .i64 (i : Int) ∧ i ≤ m ∧ Hid (∃ tv, (∃ a l c, tv = .slice a l c) ∧ BoxC wr 24 w.heap.size [tv, .int .i64 (S i).2] ∧ ReadsOff wr w.heap.size tv (S i).1 ∧ ReadsOff wr (w.heap.size + 1) tv (S i).1 ∧ ∀ G, G < w.heap.size → (zs = [] ∨ Off (.slice a zs.length cap) G) → ((S i).1 = [] ∨ Off tv G)) ∧ Hid (BoxC wr 24 (w.heap.size + 1) [.slice none 0 0, .int .i64 0]) ∧ Hid (Below w.heap.size w wr)) (fun u11 _ => ks.length - (intOf u11).toNat)
  case atStart => exact ⟨0, rfl, Nat.zero_le _, ⟨_, ⟨_, _, _, rfl⟩, by rw [H0.out]; exact HA.out, by rw [H0.out]; exact HR.out, by rw [H0.out]; exact HR1.out, by rw [H0.out]; exact fun G _ h => h⟩, HZ.out, HB.out⟩
  case round =>
    obtain ⟨i, rfl, hi, Hl, Hz, Hb⟩ := hrel
    obtain ⟨tv, ⟨at_, al, ac, htv⟩, hbx, hro, hro1, hfar⟩ := Hl.out
    subst htv
    have HL : Hid (BoxC wr 24 w.heap.size [.slice at_ al ac, .int .i64 (S i).2]) := hbx
    have HRo : Hid (ReadsOff wr w.heap.size (.slice at_ al ac) (S i).1) := hro
    have HRo1 : Hid (ReadsOff wr (w.heap.size + 1) (.slice at_ al ac) (S i).1) := hro1
    have HFar : Hid (∀ G, G < w.heap.size → (zs = [] ∨ Off (.slice a zs.length cap) G) → ((S i).1 = [] ∨ Off (.slice at_ al ac) G)) := hfar
    clear hbx hro hro1 hfar Hl
    have l0 : wr.cell? ⟨w.heap.size, 0, none⟩ = some (.slice at_ al ac) := (HL.out.cell 0).trans rfl
    have l1 : wr.cell? ⟨w.heap.size, 1, none⟩ = some (.int .i64 (S i).2) := (HL.out.cell 1).trans rfl
    by_cases hlt : i < ks.length
    · have hI : (i : Int) < (ks.length : Int) := by omega
      obtain ⟨bk, ok, hak, hck⟩ : ∃ b o, ak = some ⟨b, o, none⟩ ∧ wr.cell? ⟨b, o + i, none⟩ = some (.int .i64 (ks.getD i 0)) := by
        rcases HK.out _ Hb.out with ⟨_, _, _, hnil⟩ | ⟨b, o, c, hv, _, _, _, hc⟩
        · rw [hnil] at hlt; cases hlt
        · simp only [Value.slice.injEq] at hv
          exact ⟨b, o, hv.1, hc i hlt⟩
      subst hak
      obtain ⟨R, hR⟩ : ∃ R, R = keyd (S i).1 (S i).2 1 (ks.getD i 0) := ⟨_, rfl⟩
      have HRR : Hid (R = keyd (S i).1 (S i).2 1 (ks.getD i 0)) := hR
      have HC : Hid (Calls Try.prog 15 #[.agg #[.slice at_ al ac, .int .i64 (S i).2], .int .i64 1, .int .i64 (ks.getD i 0)] wr fun e w' => LinePost R wr e w') := by rw [hR]; exact key_go _ _ _ _ _ wr HRo.out.1
      clear hR
      have HSi : Hid (i < m → R = ((S (i + 1)).1, (S (i + 1)).2, 0)) := fun him => HRR.out.trans (HS.out i him)
      have HKE : Hid (i = m → R.2.2 ≠ 0) := fun him => by
        have := HE.out (by omega)
        rw [← him] at this
        rw [HRR.out]
        exact this
      generalize ks.getD i 0 = key at *
      obtain ⟨xi, hxi⟩ : ∃ xi, xi = (S i).2 := ⟨_, rfl⟩
      rw [← hxi] at HC l1
      have HXI : Hid (xi = (S i).2) := hxi
      clear hxi
      go_wp2_with fail
      refine HC.out.mono ?_
      rintro e w2 ⟨hb2, v2, rfl, ho2⟩
      have HB2 : Hid (Below w.heap.size w w2) := below_trans Hb.out hb2 Hb.out.size
      have HL2 : Hid (BoxC w2 24 w.heap.size [.slice at_ al ac, .int .i64 (S i).2]) := HL.out.below hb2
      have HZ2 : Hid (BoxC w2 24 (w.heap.size + 1) [.slice none 0 0, .int .i64 0]) := Hz.out.below hb2
      have HO2 : Hid (ReadsOff w2 w.heap.size v2 R.1) := off_own ho2 (HL.out.lt)
      have HF2 : Hid (∀ G, G < w.heap.size → (R.1 = [] ∨ Off v2 G)) := fun G hG => (off_own ho2 (Nat.lt_of_lt_of_le hG Hb.out.size)).2
      have HO21 : Hid (ReadsOff w2 (w.heap.size + 1) v2 R.1) := off_own ho2 (Hz.out.lt)
      obtain ⟨a2, c2, hv2⟩ := ho2.reads.shape
      subst hv2
      clear hb2 ho2 l0 l1 HL Hz HRo HC hck
      go_wp2_with (refine storeC rfl 24 _ _ rfl w.heap.size rfl [.slice at_ al ac, .int .i64 (S i).2] [.slice a2 R.1.length c2, .int .i64 R.2.1] rfl HL2.out wide_line (fun v hv => by simp at hv; rcases hv with rfl | rfl <;> rfl) rfl ?_)
      intro w3 hz3 hg3
      have HB3 : Hid (Below w.heap.size w w3) := HB2.out.grown hg3 HB2.out.size (fun j hj => by cases hj; exact Nat.le_refl _)
      have HL3 : Hid (BoxC w3 24 w.heap.size [.slice a2 R.1.length c2, .int .i64 R.2.1]) := hz3
      have HZ3 : Hid (BoxC w3 24 (w.heap.size + 1) [.slice none 0 0, .int .i64 0]) := HZ2.out.kept hg3 (fun e => by have := Option.some.inj e; omega)
      have HO3 : Hid (ReadsOff w3 w.heap.size (.slice a2 R.1.length c2) R.1) := HO2.out.stored hg3
      have HO31 : Hid (ReadsOff w3 (w.heap.size + 1) (.slice a2 R.1.length c2) R.1) := HO2.out.stored2 HO21.out hg3
      have m0 : w3.cell? ⟨w.heap.size, 0, none⟩ = some (.slice a2 R.1.length c2) := (HL3.out.cell 0).trans rfl
      have m1 : w3.cell? ⟨w.heap.size, 1, none⟩ = some (.int .i64 R.2.1) := (HL3.out.cell 1).trans rfl
      clear hz3 hg3 HL2 HZ2 HO2 HO21
      by_cases him : i < m
      · have HRi : Hid (R = ((S (i + 1)).1, (S (i + 1)).2, 0)) := HSi.out him
        have hr0 : R.2.2 = 0 := by rw [HRi.out]
        rw [hr0]
        clear hr0
        go_wp2_with fail
        go_roundw
        case rel => exact ⟨i + 1, by go_num, by omega, ⟨_, ⟨_, _, _, rfl⟩, by have := HL3.out; rw [HRi.out] at this; exact this, by have := HO3.out; rw [HRi.out] at this; exact this, by have := HO31.out; rw [HRi.out] at this; exact this, fun G hG _ => by have := HF2.out G hG; rw [HRi.out] at this; exact this⟩, HZ3.out, HB3.out⟩
        case measure => simp [intOf]; omega
      · have hmi : i = m := by omega
        have hne : R.2.2 ≠ 0 := HKE.out hmi
        have hb : (R.2.2 != 0) = true := by simpa using hne
        go_wp2_with (refine storeC rfl 24 _ _ rfl (w.heap.size + 1) rfl [.slice none 0 0, .int .i64 0] [.slice a2 R.1.length c2, .int .i64 R.2.1] rfl HZ3.out wide_line (fun v hv => by simp at hv; rcases hv with rfl | rfl <;> rfl) rfl ?_)
        intro w4 hz4 hg4
        have HB4 : Hid (Below w.heap.size w w4) := HB3.out.grown hg4 HB3.out.size (fun j hj => by cases hj; omega)
        have HZ4 : Hid (BoxC w4 24 (w.heap.size + 1) [.slice a2 R.1.length c2, .int .i64 R.2.1]) := hz4
        clear hz4 hg4
        go_wp2_with fail
        (try simp only [Exit.inBlock, Exit.then])
        refine bodyPost_ret (ret_box rfl _ _ (w.heap.size + 1) [.slice a2 R.1.length c2, .int .i64 R.2.1] _ rfl rfl HZ4.out wide_line) rfl ?_
        refine ⟨HB4.out, .slice a2 R.1.length c2, R.2.1, ⟨_, _, _, rfl⟩, ?_, fun h => absurd h (by omega)⟩
        rw [decide_eq_false (by omega)]
        rfl
    · have hI : ¬ (i : Int) < (ks.length : Int) := by omega
      have hmi : m = i := by omega
      obtain ⟨xi, hxi⟩ : ∃ xi, xi = (S i).2 := ⟨_, rfl⟩
      rw [← hxi] at l1
      have HX : Hid (xi = (S i).2) := hxi
      clear hxi
      go_wp2_with (refine storeC rfl 24 _ _ rfl (w.heap.size + 1) rfl [.slice none 0 0, .int .i64 0] [.slice at_ al ac, .int .i64 xi] rfl Hz.out wide_line (fun v hv => by simp at hv; rcases hv with rfl | rfl <;> rfl) rfl ?_)
      intro w4 hz4 hg4
      have HB4 : Hid (Below w.heap.size w w4) := Hb.out.grown hg4 Hb.out.size (fun j hj => by cases hj; omega)
      have HZ4 : Hid (BoxC w4 24 (w.heap.size + 1) [.slice at_ al ac, .int .i64 xi]) := hz4
      have HF4 : Hid (Reads w4 (.slice at_ al ac) (S i).1) := (HRo1.out.stored hg4).1
      clear hz4 hg4
      go_wp2_with fail
      (try simp only [Exit.inBlock, Exit.then])
      refine bodyPost_ret (ret_box rfl _ _ (w.heap.size + 1) [.slice at_ al ac, .int .i64 xi] _ rfl rfl HZ4.out wide_line) rfl ?_
      have hmk : m = ks.length := by omega
      refine ⟨HB4.out, .slice at_ al ac, xi, ⟨_, _, _, rfl⟩, ?_, fun h => ⟨by rw [hmi]; exact HX.out, by rw [hmi]; exact HF4.out, by rw [hmi]; exact HFar.out⟩⟩
      rw [decide_eq_true hmk]
      rfl
end Go.Proofs.Ytpgjaoemkadenab.Seek
