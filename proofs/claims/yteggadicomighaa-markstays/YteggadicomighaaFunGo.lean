/- The function literals of MarkStays and MarkBack (is the character i taken away?), and the library's IndexFunc and ContainsFunc with them; the document's Rest. -/
import Derived.Test.YteggadicomighaaAppends
import Derived.Test.YteggadicomighaaMarks
set_option linter.unusedVariables false
set_option linter.unusedSimpArgs false
namespace Go.Proofs.Yteggadicomighaa.Seek
open Go.RowKit Plain

/-- Whether a splice takes the character i away. -/
def hits (f t : Int) (i : Nat) : Bool := decide (f ≤ (i : Int)) && decide ((i : Int) < t)
/-- What the literal tells, in whatever world holds i. -/
def Tells (g : Nat) (B : Nat) (i : Nat) : Prop := ∀ (f t : Int) (a : Option Addr) (n cap : Nat) (w : World), w.cell? ⟨B, 0, none⟩ = some (.int .i64 (i : Int)) → B < w.heap.size →
  Calls Try.prog g #[.agg #[.int .i64 f, .int .i64 t, .slice a n cap], .pointer (some ⟨B, 0, none⟩)] w fun e w' => e = .returned (.bool (hits f t i)) ∧ Below w.heap.size w w'
theorem tells15 (B i : Nat) : Tells 15 B i := by
  intro f t a n cap w hc hB
  have hc2 : (w.alloc (.cells #[.int .i64 f, .int .i64 t, .slice a n cap] 37)).cell? ⟨B, 0, none⟩ = some (.int .i64 (i : Int)) := ((box_below w _).cell (by exact hB)).trans hc
  obtain ⟨R, hR⟩ : ∃ R, R = hits f t i := ⟨_, rfl⟩
  have HR : Hid (R = hits f t i) := hR
  rw [← hR]
  clear hR
  by_cases h1 : f ≤ (i : Int)
  · by_cases h2 : (i : Int) < t
    · have HR2 : Hid (R = true) := by show _ = _; rw [HR.out]; unfold hits; rw [decide_eq_true h1, decide_eq_true h2]; rfl
      go_enter Try.func15, Try.ntmps15
      go_wp2_with fail
      all_goals first
        | (exfalso; omega)
        | (go_ret; exact ⟨by rw [HR2.out]; first | rfl | simp [h2], box_below _ _⟩)
    · have HR2 : Hid (R = false) := by show _ = _; rw [HR.out]; unfold hits; rw [decide_eq_false h2, Bool.and_false]
      go_enter Try.func15, Try.ntmps15
      go_wp2_with fail
      all_goals first
        | (exfalso; omega)
        | (go_ret; exact ⟨by rw [HR2.out]; first | rfl | simp [h2], box_below _ _⟩)
  · have HR2 : Hid (R = false) := by show _ = _; rw [HR.out]; unfold hits; rw [decide_eq_false h1, Bool.false_and]
    go_enter Try.func15, Try.ntmps15
    go_wp2_with fail
    all_goals first
      | (exfalso; omega)
      | (go_ret; exact ⟨by rw [HR2.out]; first | rfl | simp [h1], box_below _ _⟩)
theorem tells16 (B i : Nat) : Tells 16 B i := by
  intro f t a n cap w hc hB
  have hc2 : (w.alloc (.cells #[.int .i64 f, .int .i64 t, .slice a n cap] 37)).cell? ⟨B, 0, none⟩ = some (.int .i64 (i : Int)) := ((box_below w _).cell (by exact hB)).trans hc
  obtain ⟨R, hR⟩ : ∃ R, R = hits f t i := ⟨_, rfl⟩
  have HR : Hid (R = hits f t i) := hR
  rw [← hR]
  clear hR
  by_cases h1 : f ≤ (i : Int)
  · by_cases h2 : (i : Int) < t
    · have HR2 : Hid (R = true) := by show _ = _; rw [HR.out]; unfold hits; rw [decide_eq_true h1, decide_eq_true h2]; rfl
      go_enter Try.func16, Try.ntmps16
      go_wp2_with fail
      all_goals first
        | (exfalso; omega)
        | (go_ret; exact ⟨by rw [HR2.out]; first | rfl | simp [h2], box_below _ _⟩)
    · have HR2 : Hid (R = false) := by show _ = _; rw [HR.out]; unfold hits; rw [decide_eq_false h2, Bool.and_false]
      go_enter Try.func16, Try.ntmps16
      go_wp2_with fail
      all_goals first
        | (exfalso; omega)
        | (go_ret; exact ⟨by rw [HR2.out]; first | rfl | simp [h2], box_below _ _⟩)
  · have HR2 : Hid (R = false) := by show _ = _; rw [HR.out]; unfold hits; rw [decide_eq_false h1, Bool.false_and]
    go_enter Try.func16, Try.ntmps16
    go_wp2_with fail
    all_goals first
      | (exfalso; omega)
      | (go_ret; exact ⟨by rw [HR2.out]; first | rfl | simp [h1], box_below _ _⟩)

theorem gone_more (ns : List Nsp) (i j : Nat) (s : Nsp) (h : ns[j]? = some s) : gone (ns.take (j + 1)) i = (gone (ns.take j) i || hits (s.1 : Int) (s.2.1 : Int) i) := by
  rw [List.take_add_one, h, Option.toList_some, gone_gon ns]
  unfold hits
  have e1 : decide (s.1 ≤ i) = decide ((s.1 : Int) ≤ (i : Int)) := by
    by_cases h : s.1 ≤ i
    · rw [decide_eq_true h, decide_eq_true (by omega)]
    · rw [decide_eq_false h, decide_eq_false (by omega)]
  have e2 : decide (i < s.2.1) = decide ((i : Int) < (s.2.1 : Int)) := by
    by_cases h : i < s.2.1
    · rw [decide_eq_true h, decide_eq_true (by omega)]
    · rw [decide_eq_false h, decide_eq_false (by omega)]
  rw [e1, e2]
theorem gone_front (ns : List Nsp) (i j : Nat) (h : gone (ns.take j) i = true) : gone ns i = true := by
  unfold gone at h ⊢
  rw [List.any_eq_true] at h ⊢
  obtain ⟨s, hs, h⟩ := h
  exact ⟨s, List.mem_of_mem_take hs, h⟩

set_option maxHeartbeats 1000000 in
theorem index_lit15 (B i : Nat) (v : Value) (ns : List Nsp) (w : World) (hg : Tells 15 B i) (h2 : ReadsE w v (ups ns)) (hl : ns.length ≤ 100000) (hc : w.cell? ⟨B, 0, none⟩ = some (.int .i64 (i : Int))) (hB : B < w.heap.size) :
    Calls Try.prog 23 #[v, .func (.func 15) #[] #[.pointer (some ⟨B, 0, none⟩)]] w fun e w' => (∃ r : Int, e = .returned (.int .i64 r) ∧ decide (r ≥ 0) = gone ns i) ∧ Below w.heap.size w w' := by
  obtain ⟨a2, cap2, rfl⟩ := h2.shape
  rw [ups_len] at h2 ⊢
  have HE1 : Hid (∀ j, j < ns.length → ∃ b off, a2 = some ⟨b, off, none⟩ ∧ b < w.heap.size ∧ SplAt w b (off + j * 3) ((ups ns).getD j spl0)) := by
    have h3 : ReadsE w (.slice a2 (ups ns).length cap2) (ups ns) := by rw [ups_len]; exact h2
    intro j hj
    exact h3.each j (by rw [ups_len]; exact hj)
  have Hg : Hid (∀ (f t : Int) (a : Option Addr) (n cap : Nat) (wx : World), Below w.heap.size w wx → Calls Try.prog 15 #[.agg #[.int .i64 f, .int .i64 t, .slice a n cap], .pointer (some ⟨B, 0, none⟩)] wx fun e w' => e = .returned (.bool (hits f t i)) ∧ Below wx.heap.size wx w') :=
    fun f t a n cap wx hb => hg f t a n cap wx ((hb.cell (by exact hB)).trans hc) (Nat.lt_of_lt_of_le hB hb.size)
  clear h2 hg hc
  obtain ⟨R, hR⟩ : ∃ R, R = gone ns i := ⟨_, rfl⟩
  have HR : Hid (R = gone ns i) := hR
  rw [← hR]
  clear hR
  go_enter Try.func23, Try.ntmps23
  go_wp2_with fail
  go_loopw [8] (fun u8 wr => ∃ j : Nat, u8 = .int .i64 (j : Int) ∧ j ≤ ns.length ∧ Hid (gone (ns.take j) i = false) ∧ Hid (Below w.heap.size w wr)) (fun u8 _ => ns.length - (intOf u8).toNat)
  case atStart => exact ⟨0, rfl, Nat.zero_le _, rfl, Below.refl _ _⟩
  case round =>
    obtain ⟨j, rfl, hj, Hgo, Hb⟩ := hrel
    have hbs := Hb.out.size
    by_cases hlt : j < ns.length
    · obtain ⟨s, hs1, hs2, hs3⟩ := ups_at ns j hlt
      obtain ⟨b, off, hae, hbl, hsp⟩ := HE1.out j hlt
      subst hae
      have hsp2 := hsp.below Hb.out hbl
      rw [hs2] at hsp2
      have HM : Hid (gone (ns.take (j + 1)) i = hits (s.1 : Int) (s.2.1 : Int) i) := by
        show _ = _
        rw [gone_more ns i j s hs3, Hgo.out, Bool.false_or]
      clear hs1 hs2 hs3 hsp Hgo
      obtain ⟨f, t, x⟩ := s
      obtain ⟨c0, c1, _, a3, cap3, c2, _⟩ := hsp2
      simp only [up] at c0 c1 c2
      have hI : (j : Int) < (ns.length : Int) := by omega
      go_wp2_with fail
      refine (Hg.out (f : Int) (t : Int) a3 x.length cap3 wr Hb.out).mono ?_
      rintro e w1 ⟨rfl, hb1⟩
      have HB1 : Hid (Below w.heap.size w w1) := below_trans Hb.out hb1 hbs
      clear hb1
      cases hh : hits (f : Int) (t : Int) i with
      | true =>
        have HT : Hid (R = true) := by
          show _ = _
          rw [HR.out]
          exact gone_front ns i (j + 1) (HM.out.trans hh)
        clear hh
        go_wp2_with fail
        go_ret
        exact ⟨⟨_, rfl, by rw [HT.out]; exact decide_eq_true (by omega)⟩, HB1.out⟩
      | false =>
        have HM2 : Hid (gone (ns.take (j + 1)) i = false) := HM.out.trans hh
        clear hh
        go_wp2_with fail
        go_roundw
        case rel => exact ⟨j + 1, by go_num, by omega, HM2.out, HB1.out⟩
        case measure => simp [intOf]; omega
    · obtain rfl : j = ns.length := by omega
      rw [List.take_length] at Hgo
      have HT : Hid (R = false) := HR.out.trans Hgo.out
      go_wp2_with fail
      go_ret
      exact ⟨⟨_, rfl, by rw [HT.out]; rfl⟩, Hb.out⟩
set_option maxHeartbeats 1000000 in
theorem index_lit16 (B i : Nat) (v : Value) (ns : List Nsp) (w : World) (hg : Tells 16 B i) (h2 : ReadsE w v (ups ns)) (hl : ns.length ≤ 100000) (hc : w.cell? ⟨B, 0, none⟩ = some (.int .i64 (i : Int))) (hB : B < w.heap.size) :
    Calls Try.prog 23 #[v, .func (.func 16) #[] #[.pointer (some ⟨B, 0, none⟩)]] w fun e w' => (∃ r : Int, e = .returned (.int .i64 r) ∧ decide (r ≥ 0) = gone ns i) ∧ Below w.heap.size w w' := by
  obtain ⟨a2, cap2, rfl⟩ := h2.shape
  rw [ups_len] at h2 ⊢
  have HE1 : Hid (∀ j, j < ns.length → ∃ b off, a2 = some ⟨b, off, none⟩ ∧ b < w.heap.size ∧ SplAt w b (off + j * 3) ((ups ns).getD j spl0)) := by
    have h3 : ReadsE w (.slice a2 (ups ns).length cap2) (ups ns) := by rw [ups_len]; exact h2
    intro j hj
    exact h3.each j (by rw [ups_len]; exact hj)
  have Hg : Hid (∀ (f t : Int) (a : Option Addr) (n cap : Nat) (wx : World), Below w.heap.size w wx → Calls Try.prog 16 #[.agg #[.int .i64 f, .int .i64 t, .slice a n cap], .pointer (some ⟨B, 0, none⟩)] wx fun e w' => e = .returned (.bool (hits f t i)) ∧ Below wx.heap.size wx w') :=
    fun f t a n cap wx hb => hg f t a n cap wx ((hb.cell (by exact hB)).trans hc) (Nat.lt_of_lt_of_le hB hb.size)
  clear h2 hg hc
  obtain ⟨R, hR⟩ : ∃ R, R = gone ns i := ⟨_, rfl⟩
  have HR : Hid (R = gone ns i) := hR
  rw [← hR]
  clear hR
  go_enter Try.func23, Try.ntmps23
  go_wp2_with fail
  go_loopw [8] (fun u8 wr => ∃ j : Nat, u8 = .int .i64 (j : Int) ∧ j ≤ ns.length ∧ Hid (gone (ns.take j) i = false) ∧ Hid (Below w.heap.size w wr)) (fun u8 _ => ns.length - (intOf u8).toNat)
  case atStart => exact ⟨0, rfl, Nat.zero_le _, rfl, Below.refl _ _⟩
  case round =>
    obtain ⟨j, rfl, hj, Hgo, Hb⟩ := hrel
    have hbs := Hb.out.size
    by_cases hlt : j < ns.length
    · obtain ⟨s, hs1, hs2, hs3⟩ := ups_at ns j hlt
      obtain ⟨b, off, hae, hbl, hsp⟩ := HE1.out j hlt
      subst hae
      have hsp2 := hsp.below Hb.out hbl
      rw [hs2] at hsp2
      have HM : Hid (gone (ns.take (j + 1)) i = hits (s.1 : Int) (s.2.1 : Int) i) := by
        show _ = _
        rw [gone_more ns i j s hs3, Hgo.out, Bool.false_or]
      clear hs1 hs2 hs3 hsp Hgo
      obtain ⟨f, t, x⟩ := s
      obtain ⟨c0, c1, _, a3, cap3, c2, _⟩ := hsp2
      simp only [up] at c0 c1 c2
      have hI : (j : Int) < (ns.length : Int) := by omega
      go_wp2_with fail
      refine (Hg.out (f : Int) (t : Int) a3 x.length cap3 wr Hb.out).mono ?_
      rintro e w1 ⟨rfl, hb1⟩
      have HB1 : Hid (Below w.heap.size w w1) := below_trans Hb.out hb1 hbs
      clear hb1
      cases hh : hits (f : Int) (t : Int) i with
      | true =>
        have HT : Hid (R = true) := by
          show _ = _
          rw [HR.out]
          exact gone_front ns i (j + 1) (HM.out.trans hh)
        clear hh
        go_wp2_with fail
        go_ret
        exact ⟨⟨_, rfl, by rw [HT.out]; exact decide_eq_true (by omega)⟩, HB1.out⟩
      | false =>
        have HM2 : Hid (gone (ns.take (j + 1)) i = false) := HM.out.trans hh
        clear hh
        go_wp2_with fail
        go_roundw
        case rel => exact ⟨j + 1, by go_num, by omega, HM2.out, HB1.out⟩
        case measure => simp [intOf]; omega
    · obtain rfl : j = ns.length := by omega
      rw [List.take_length] at Hgo
      have HT : Hid (R = false) := HR.out.trans Hgo.out
      go_wp2_with fail
      go_ret
      exact ⟨⟨_, rfl, by rw [HT.out]; rfl⟩, Hb.out⟩
theorem contains_lit15 (B i : Nat) (v : Value) (ns : List Nsp) (w : World) (hg : Tells 15 B i) (h2 : ReadsE w v (ups ns)) (hl : ns.length ≤ 100000) (hc : w.cell? ⟨B, 0, none⟩ = some (.int .i64 (i : Int))) (hB : B < w.heap.size) :
    Calls Try.prog 14 #[v, .func (.func 15) #[] #[.pointer (some ⟨B, 0, none⟩)]] w fun e w' => e = .returned (.bool (gone ns i)) ∧ Below w.heap.size w w' := by
  have H := index_lit15 B i v ns w hg h2 hl hc hB
  have H1 : Hid (Calls Try.prog 23 #[v, .func (.func 15) #[] #[.pointer (some ⟨B, 0, none⟩)]] w fun e w' => (∃ r : Int, e = .returned (.int .i64 r) ∧ decide (r ≥ 0) = gone ns i) ∧ Below w.heap.size w w') := H
  clear hg h2 hc H
  go_enter Try.func14, Try.ntmps14
  go_wp2_with fail
  refine H1.out.mono ?_
  rintro e w1 ⟨⟨r, rfl, hr⟩, hb1⟩
  have HRR : Hid (decide (r ≥ 0) = gone ns i) := hr
  clear hr
  go_wp2_with fail
  go_ret
  exact ⟨by rw [← HRR.out]; rfl, hb1⟩

theorem contains_lit16 (B i : Nat) (v : Value) (ns : List Nsp) (w : World) (hg : Tells 16 B i) (h2 : ReadsE w v (ups ns)) (hl : ns.length ≤ 100000) (hc : w.cell? ⟨B, 0, none⟩ = some (.int .i64 (i : Int))) (hB : B < w.heap.size) :
    Calls Try.prog 14 #[v, .func (.func 16) #[] #[.pointer (some ⟨B, 0, none⟩)]] w fun e w' => e = .returned (.bool (gone ns i)) ∧ Below w.heap.size w w' := by
  have H := index_lit16 B i v ns w hg h2 hl hc hB
  have H1 : Hid (Calls Try.prog 23 #[v, .func (.func 16) #[] #[.pointer (some ⟨B, 0, none⟩)]] w fun e w' => (∃ r : Int, e = .returned (.int .i64 r) ∧ decide (r ≥ 0) = gone ns i) ∧ Below w.heap.size w w') := H
  clear hg h2 hc H
  go_enter Try.func14, Try.ntmps14
  go_wp2_with fail
  refine H1.out.mono ?_
  rintro e w1 ⟨⟨r, rfl, hr⟩, hb1⟩
  have HRR : Hid (decide (r ≥ 0) = gone ns i) := hr
  clear hr
  go_wp2_with fail
  go_ret
  exact ⟨by rw [← HRR.out]; rfl, hb1⟩

/-- What is left of k by n. -/
def rst (k n : Int) : Int := (k.tmod n + n) % n
theorem rst_bounds (k n : Int) (hn : 0 < n) : 0 ≤ rst k n ∧ rst k n < n := by
  unfold rst
  exact ⟨Int.emod_nonneg _ (by omega), Int.emod_lt_of_pos _ hn⟩
theorem rest_any (k n : Int) (w : World) (hn : 0 < n) (hn2 : n ≤ 5000) : Calls Try.prog 13 #[.int .i64 k, .int .i64 n] w fun e w' => (∃ r : Nat, (r : Int) < n ∧ e = .returned (.int .i64 (r : Int))) ∧ w' = w := by
  have h1 := Int.lt_tmod_of_pos k hn
  have h2 := Int.tmod_lt_of_pos k hn
  have H : Hid (0 ≤ rst k n ∧ rst k n < n) := rst_bounds k n hn
  have H2 : Hid (∃ r : Nat, (r : Int) < n ∧ rst k n = (r : Int)) := ⟨(rst k n).toNat, by have := H.out; omega, by have := H.out; omega⟩
  clear H
  go_enter Try.func13, Try.ntmps13
  go_wp2_with fail
  go_ret
  obtain ⟨r, hr, he⟩ := H2.out
  exact ⟨⟨r, hr, by rw [← he]; rfl⟩, rfl⟩
/-- A number in a variable of its own. -/
def Var1 (w : World) (B i : Nat) : Prop := B < w.heap.size ∧ w.cell? ⟨B, 0, none⟩ = some (.int .i64 (i : Int))
theorem Var1.below {w w' : World} {B i : Nat} (h : Var1 w B i) (hb : Below w.heap.size w w') : Var1 w' B i := ⟨Nat.lt_of_lt_of_le h.1 hb.size, (hb.cell h.1).trans h.2⟩
theorem var1_new (w : World) (i : Nat) : Var1 (w.alloc (.cells #[.int .i64 (i : Int)] 3)) w.heap.size i := by
  refine ⟨by rw [size_alloc]; omega, ?_⟩
  unfold World.cell?
  simp only
  rw [show ∀ o, (w.alloc o).heap[w.heap.size]? = some o from fun o => by show (w.heap.push o)[w.heap.size]? = _; simp]
  rfl
theorem Reads.at_ {w : World} {a : Option Addr} {zs : List Int} {cap : Nat} (h : Reads w (.slice a zs.length cap) zs) (i : Nat) (hi : i < zs.length) : ∃ b off, a = some ⟨b, off, none⟩ ∧ w.cell? ⟨b, off + i, none⟩ = some (.int .i64 (zs.getD i 0)) := by
  rcases h with ⟨_, _, _, rfl⟩ | ⟨b, off, c, hv, _, _, _, hc⟩
  · cases hi
  · cases hv
    exact ⟨b, off, rfl, hc i hi⟩
end Go.Proofs.Yteggadicomighaa.Seek
