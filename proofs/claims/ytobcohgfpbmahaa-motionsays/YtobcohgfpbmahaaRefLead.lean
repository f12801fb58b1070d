/- The contract of the document's Go, key by key. -/
import Derived.Test.YtobcohgfpbmahaaRefTimes
import Derived.Test.YtobcohgfpbmahaaFindsGo
import Derived.Test.YtobcohgfpbmahaaErrGo
import Derived.Test.YtobcohgfpbmahaaLeads
import Derived.Test.YtobcohgfpbmahaaPartnerGo
import Derived.BigQuiet
set_option linter.unusedVariables false
set_option linter.unusedSimpArgs false
namespace Go.Proofs.Ytobcohgfpbmahaa.Seek
open Go.RowKit Plain

/-- What the document's Go tells. -/
def RefLead (r : Int × Bool) (t : Bool) (w : World) (e : Ending) (w' : World) : Prop :=
  Below w.heap.size w w' ∧ ∃ x y, e = .returned (.tuple #[.int .i64 x, .bool y, .bool (!r.2)]) ∧ (r.2 = true → x = r.1 ∧ y = t)
theorem RefLead.mk {r : Int × Bool} {t y z : Bool} {x : Int} {w w' : World} (hb : Below w.heap.size w w') (hz : z = !r.2) (h : r.2 = true → x = r.1 ∧ y = t) :
    RefLead r t w (.returned (.tuple #[.int .i64 x, .bool y, .bool z])) w' := ⟨hb, x, y, by rw [hz], h⟩
theorem ref_boxes (w : World) (s x y z : Value) : ((w.alloc (.cells #[s] 22)).alloc (.cells #[x, y, z] 24)).cell? ⟨w.heap.size, 0, none⟩ = some s ∧
    ((w.alloc (.cells #[s] 22)).alloc (.cells #[x, y, z] 24)).cell? ⟨w.heap.size + 1, 0, none⟩ = some x ∧ ((w.alloc (.cells #[s] 22)).alloc (.cells #[x, y, z] 24)).cell? ⟨w.heap.size + 1, 1, none⟩ = some y ∧
    ((w.alloc (.cells #[s] 22)).alloc (.cells #[x, y, z] 24)).cell? ⟨w.heap.size + 1, 2, none⟩ = some z ∧ Below w.heap.size w ((w.alloc (.cells #[s] 22)).alloc (.cells #[x, y, z] 24)) ∧ w.heap.size + 1 < ((w.alloc (.cells #[s] 22)).alloc (.cells #[x, y, z] 24)).heap.size := by
  have h1 : ∀ o1 o2, ((w.alloc o1).alloc o2).heap[w.heap.size]? = some o1 := fun o1 o2 => by show ((w.heap.push o1).push o2)[w.heap.size]? = _; simp [Array.getElem?_push]
  have h2 : ∀ o1 o2, ((w.alloc o1).alloc o2).heap[w.heap.size + 1]? = some o2 := fun o1 o2 => by show ((w.heap.push o1).push o2)[w.heap.size + 1]? = _; rw [show w.heap.size + 1 = (w.heap.push o1).size by simp]; exact Array.getElem?_push_size
  refine ⟨?_, ?_, ?_, ?_, (box24 _ _).alloc (by rw [size_alloc]; omega) _, by rw [size_alloc, size_alloc]; omega⟩
  · unfold World.cell?
    simp only
    rw [h1]
    rfl
  all_goals (
    unfold World.cell?
    simp only
    rw [h2]
    rfl)
theorem next_end {zs : List Int} (b : Bool) (hl : zs.length ≤ 4096) : next zs (zs.length : Int) b = (zs.length : Int) := by
  unfold next
  rw [if_pos (chk_right hl (Nat.le_refl _))]
  exact up_done (by show zs.length ≤ _ + 1; omega)
theorem next_more {zs : List Int} {k : Nat} (b : Bool) (hl : zs.length ≤ 4096) (hk : k < zs.length) : ∀ n, 1 ≤ n → (k : Int) < iter (fun x => next zs x b) n k
  | 0, h => by omega
  | n + 1, _ => by
    have h1 := next_iter (zs := zs) (k := k) b hl (by omega) n
    show (k : Int) < next zs (iter (fun x => next zs x b) n k) b
    by_cases hn : n = 0
    · subst hn
      exact (next_in hl (by show (0 : Int) ≤ (k : Int); omega) (by show (k : Int) ≤ _; omega)).2.2 (by show (k : Int) < _; omega)
    · have h2 := next_more b hl hk n (by omega)
      by_cases h3 : iter (fun x => next zs x b) n k < (zs.length : Int)
      · have := (next_in (b := b) hl h1.1 h1.2).2.2 h3
        omega
      · rw [show iter (fun x => next zs x b) n k = (zs.length : Int) by omega, next_end b hl]
        omega
theorem hit_right {zs : List Int} {k n : Nat} {c : Int} (hl : zs.length ≤ 4096) (hk : k < zs.length) (hn : 1 ≤ n) : rightHit zs k n c = told (rights (hit zs c) k zs.length)[n - 1]? := by
  unfold rightHit
  rw [goUp_nth _ _ _ _ hn, rights_is _ _ _ hk]
theorem hit_left {zs : List Int} {k n : Nat} {c : Int} (hl : zs.length ≤ 4096) (hk : k < zs.length) (hn : 1 ≤ n) : leftHit zs k n c = told (lefts (hit zs c) k zs.length)[n - 1]? := by
  unfold leftHit
  rw [goDn_nth _ _ _ hn, lefts_is _ _ _ (by omega)]
theorem rights_lt {p : Nat → Bool} {k m q : Nat} (h : q ∈ rights p k m) : q < m := by
  unfold rights at h
  exact List.mem_range.1 (List.mem_filter.1 h).1
theorem lefts_lt {p : Nat → Bool} {k m q : Nat} (h : q ∈ lefts p k m) : q < m := by
  unfold lefts at h
  exact List.mem_range.1 (List.mem_filter.1 (List.mem_reverse.1 h)).1
theorem opn_brk (c : Int) : opn c = 0 ↔ brk c = 0 := by
  rcases sort c with h | h | h
  · rw [(opn_open h.1).1]
    rcases opens_cases h.1 with h' | h' | h' <;> rw [h'] <;> decide
  · rw [(opn_shut h.2.1).1]
  · rw [(opn_other h.1 h.2.1).1]
    exact ⟨fun _ => h.2.2, fun _ => rfl⟩
theorem blank_knd {zs : List Int} {m : Nat} (h : m < zs.length) : (knd zs false m != 0) = !(zs.getD m 0 == 32 || zs.getD m 0 == 9) := by
  rw [knd_in h]
  generalize zs.getD m 0 = z
  by_cases hz : z = 32 ∨ z = 9
  · rw [kind_blank hz]
    rcases hz with rfl | rfl <;> rfl
  · rw [kind_small hz]
    have h1 : (z == 32 || z == 9) = false := by simpa [not_or] using hz
    rw [h1]
    split <;> rfl
theorem drewN_kept (W : World) (q : Nat) : (∀ a, (W.drewN q).cell? a = W.cell? a) ∧ (∀ B w, Below B w W → Below B w (W.drewN q)) := ⟨fun _ => rfl, fun _ _ h => below_drewN h q⟩

set_option maxHeartbeats 2000000 in
set_option maxRecDepth 100000 in
theorem ref_48 (v : Value) (zs : List Int) (k n : Nat) (c arg : Int) (op : Bool) (w : World) (hp : Reads w v zs) (hl : zs.length ≤ 4096) (hk : k ≤ zs.length - 1) (hn1 : 1 ≤ n) (hn9 : n ≤ 999) (hn : (c = 0 ∧ n = 1) ∨ (((n : Int) == 0) = false ∧ c = (n : Int))) :
    Calls Try.prog 11 #[v, .int .i64 (k : Int), .agg #[.int .i64 48, .int .i64 c, .int .i64 arg], .bool op] w fun e w' => RefLead (lead zs k n 48 arg op) (wth 48) w e w' := by
  obtain ⟨a, cap, rfl⟩ := hp.shape
  have Hp : Hid (Reads w (.slice a zs.length cap) zs) := hp
  have hk9 : (k : Int) ≤ 4096 := by omega
  have hl9 : (zs.length : Int) ≤ 4096 := by omega
  have hW : wth 48 = false := by decide
  rw [hW]
  clear hp hW
  obtain ⟨r, hr⟩ : ∃ r, r = lead zs k n 48 arg op := ⟨_, rfl⟩
  rw [← hr]
  have H1 : Hid (r.1 = 0) := by rw [hr]; rfl
  have H2 : Hid (r.2 = true) := by rw [hr]; rfl
  clear hr
  have HX : Hid _ := ref_boxes w (.slice a zs.length cap) (.int .i64 48) (.int .i64 c) (.int .i64 arg)
  rcases hn with ⟨rfl, rfl⟩ | ⟨hnb, rfl⟩
  · go_enter Try.func11, Try.ntmps11
    go_wp2_with fail
    generalize (w.alloc (.cells #[Value.slice a zs.length cap] 22)).alloc (.cells #[.int .i64 48, .int .i64 0, .int .i64 arg] 24) = W at *
    obtain ⟨b1, b2, b3, b4, hB, hS⟩ := HX.out
    have HB : Hid (Below w.heap.size w W) := hB
    have HS : Hid (w.heap.size + 1 < (W.drewN 0).heap.size) := hS
    clear hB HX hS
    go_quiet (fail)
    obtain ⟨hd1, hd2⟩ := drewN_kept W nq
    rw [← hd1] at b1 b2 b3 b4
    have HB2 : Hid (Below w.heap.size w (W.drewN nq)) := hd2 _ _ HB.out
    have HS2 : Hid (w.heap.size + 1 < (W.drewN nq).heap.size) := HS.out
    clear HS
    generalize W.drewN nq = W2 at *
    clear hd1 hd2 HB
    have HR : Hid (Reads W2 (.slice a zs.length cap) zs) := Hp.out.below HB2.out
    go_wp2_with fail
    all_goals (
      go_ret3
      exact RefLead.mk HB2.out (by rw [H2.out]; rfl) (fun _ => ⟨H1.out.symm, rfl⟩))
  · go_enter Try.func11, Try.ntmps11
    go_wp2_with fail
    generalize (w.alloc (.cells #[Value.slice a zs.length cap] 22)).alloc (.cells #[.int .i64 48, .int .i64 (n : Int), .int .i64 arg] 24) = W at *
    obtain ⟨b1, b2, b3, b4, hB, hS⟩ := HX.out
    have HB : Hid (Below w.heap.size w W) := hB
    have HS : Hid (w.heap.size + 1 < (W.drewN 0).heap.size) := hS
    clear hB HX hS
    go_quiet (fail)
    obtain ⟨hd1, hd2⟩ := drewN_kept W nq
    rw [← hd1] at b1 b2 b3 b4
    have HB2 : Hid (Below w.heap.size w (W.drewN nq)) := hd2 _ _ HB.out
    have HS2 : Hid (w.heap.size + 1 < (W.drewN nq).heap.size) := HS.out
    clear HS
    generalize W.drewN nq = W2 at *
    clear hd1 hd2 HB
    have HR : Hid (Reads W2 (.slice a zs.length cap) zs) := Hp.out.below HB2.out
    go_wp2_with fail
    all_goals (
      go_ret3
      exact RefLead.mk HB2.out (by rw [H2.out]; rfl) (fun _ => ⟨H1.out.symm, rfl⟩))

set_option maxHeartbeats 2000000 in
set_option maxRecDepth 100000 in
theorem ref_104 (v : Value) (zs : List Int) (k n : Nat) (c arg : Int) (op : Bool) (w : World) (hp : Reads w v zs) (hl : zs.length ≤ 4096) (hk : k ≤ zs.length - 1) (hn1 : 1 ≤ n) (hn9 : n ≤ 999) (hn : (c = 0 ∧ n = 1) ∨ (((n : Int) == 0) = false ∧ c = (n : Int))) :
    Calls Try.prog 11 #[v, .int .i64 (k : Int), .agg #[.int .i64 104, .int .i64 c, .int .i64 arg], .bool op] w fun e w' => RefLead (lead zs k n 104 arg op) (wth 104) w e w' := by
  obtain ⟨a, cap, rfl⟩ := hp.shape
  have Hp : Hid (Reads w (.slice a zs.length cap) zs) := hp
  have hk9 : (k : Int) ≤ 4096 := by omega
  have hl9 : (zs.length : Int) ≤ 4096 := by omega
  have hW : wth 104 = false := by decide
  rw [hW]
  clear hp hW
  obtain ⟨r, hr⟩ : ∃ r, r = lead zs k n 104 arg op := ⟨_, rfl⟩
  rw [← hr]
  have H1 : Hid (r.1 = max ((k : Int) - n) 0) := by rw [hr]; rfl
  have H2 : Hid (r.2 = decide (0 < (k : Int))) := by rw [hr]; rfl
  clear hr
  have HX : Hid _ := ref_boxes w (.slice a zs.length cap) (.int .i64 104) (.int .i64 c) (.int .i64 arg)
  rcases hn with ⟨rfl, rfl⟩ | ⟨hnb, rfl⟩
  · go_enter Try.func11, Try.ntmps11
    go_wp2_with fail
    generalize (w.alloc (.cells #[Value.slice a zs.length cap] 22)).alloc (.cells #[.int .i64 104, .int .i64 0, .int .i64 arg] 24) = W at *
    obtain ⟨b1, b2, b3, b4, hB, hS⟩ := HX.out
    have HB : Hid (Below w.heap.size w W) := hB
    have HS : Hid (w.heap.size + 1 < (W.drewN 0).heap.size) := hS
    clear hB HX hS
    go_quiet (fail)
    obtain ⟨hd1, hd2⟩ := drewN_kept W nq
    rw [← hd1] at b1 b2 b3 b4
    have HB2 : Hid (Below w.heap.size w (W.drewN nq)) := hd2 _ _ HB.out
    have HS2 : Hid (w.heap.size + 1 < (W.drewN nq).heap.size) := HS.out
    clear HS
    generalize W.drewN nq = W2 at *
    clear hd1 hd2 HB
    have HR : Hid (Reads W2 (.slice a zs.length cap) zs) := Hp.out.below HB2.out
    by_cases hk0 : k = 0
    · subst hk0
      go_wp2_with fail
      all_goals (
        go_ret3
        exact RefLead.mk HB2.out (by rw [H2.out]; rfl) (fun h => by rw [H2.out] at h; exact absurd h (by decide)))
    · have hkb : ((k : Int) == 0) = false := beq_eq_false_iff_ne.2 (by omega)
      have hz : r.2 = true := by rw [H2.out]; exact decide_eq_true (by omega)
      have Hz : Hid (r.2 = true) := hz
      clear hz hk0
      go_wp2_with fail
      all_goals (
        go_ret3
        refine RefLead.mk HB2.out (by rw [Hz.out]; rfl) (fun _ => ⟨?_, rfl⟩)
        rw [H1.out]
        omega)
  · go_enter Try.func11, Try.ntmps11
    go_wp2_with fail
    generalize (w.alloc (.cells #[Value.slice a zs.length cap] 22)).alloc (.cells #[.int .i64 104, .int .i64 (n : Int), .int .i64 arg] 24) = W at *
    obtain ⟨b1, b2, b3, b4, hB, hS⟩ := HX.out
    have HB : Hid (Below w.heap.size w W) := hB
    have HS : Hid (w.heap.size + 1 < (W.drewN 0).heap.size) := hS
    clear hB HX hS
    go_quiet (fail)
    obtain ⟨hd1, hd2⟩ := drewN_kept W nq
    rw [← hd1] at b1 b2 b3 b4
    have HB2 : Hid (Below w.heap.size w (W.drewN nq)) := hd2 _ _ HB.out
    have HS2 : Hid (w.heap.size + 1 < (W.drewN nq).heap.size) := HS.out
    clear HS
    generalize W.drewN nq = W2 at *
    clear hd1 hd2 HB
    have HR : Hid (Reads W2 (.slice a zs.length cap) zs) := Hp.out.below HB2.out
    by_cases hk0 : k = 0
    · subst hk0
      go_wp2_with fail
      all_goals (
        go_ret3
        exact RefLead.mk HB2.out (by rw [H2.out]; rfl) (fun h => by rw [H2.out] at h; exact absurd h (by decide)))
    · have hkb : ((k : Int) == 0) = false := beq_eq_false_iff_ne.2 (by omega)
      have hz : r.2 = true := by rw [H2.out]; exact decide_eq_true (by omega)
      have Hz : Hid (r.2 = true) := hz
      clear hz hk0
      go_wp2_with fail
      all_goals (
        go_ret3
        refine RefLead.mk HB2.out (by rw [Hz.out]; rfl) (fun _ => ⟨?_, rfl⟩)
        rw [H1.out]
        omega)

set_option maxHeartbeats 2000000 in
set_option maxRecDepth 100000 in
theorem ref_108 (v : Value) (zs : List Int) (k n : Nat) (c arg : Int) (op : Bool) (w : World) (hp : Reads w v zs) (hl : zs.length ≤ 4096) (hk : k ≤ zs.length - 1) (hn1 : 1 ≤ n) (hn9 : n ≤ 999) (hn : (c = 0 ∧ n = 1) ∨ (((n : Int) == 0) = false ∧ c = (n : Int))) :
    Calls Try.prog 11 #[v, .int .i64 (k : Int), .agg #[.int .i64 108, .int .i64 c, .int .i64 arg], .bool op] w fun e w' => RefLead (lead zs k n 108 arg op) (wth 108) w e w' := by
  obtain ⟨a, cap, rfl⟩ := hp.shape
  have Hp : Hid (Reads w (.slice a zs.length cap) zs) := hp
  have hk9 : (k : Int) ≤ 4096 := by omega
  have hl9 : (zs.length : Int) ≤ 4096 := by omega
  have hW : wth 108 = false := by decide
  rw [hW]
  clear hp hW
  obtain ⟨r, hr⟩ : ∃ r, r = lead zs k n 108 arg op := ⟨_, rfl⟩
  rw [← hr]
  obtain ⟨E, hE⟩ : ∃ E, E = endOf zs op := ⟨_, rfl⟩
  have HE : Hid (E = endOf zs op) := hE
  have H1 : Hid (r.1 = min ((k : Int) + n) E) := by rw [hr, hE]; rfl
  have H2 : Hid (r.2 = decide ((k : Int) < E)) := by rw [hr, hE]; rfl
  clear hr hE
  have HX : Hid _ := ref_boxes w (.slice a zs.length cap) (.int .i64 108) (.int .i64 c) (.int .i64 arg)
  rcases hn with ⟨rfl, rfl⟩ | ⟨hnb, rfl⟩
  · go_enter Try.func11, Try.ntmps11
    go_wp2_with fail
    generalize (w.alloc (.cells #[Value.slice a zs.length cap] 22)).alloc (.cells #[.int .i64 108, .int .i64 0, .int .i64 arg] 24) = W at *
    obtain ⟨b1, b2, b3, b4, hB, hS⟩ := HX.out
    have HB : Hid (Below w.heap.size w W) := hB
    have HS : Hid (w.heap.size + 1 < (W.drewN 0).heap.size) := hS
    clear hB HX hS
    go_quiet (fail)
    obtain ⟨hd1, hd2⟩ := drewN_kept W nq
    rw [← hd1] at b1 b2 b3 b4
    have HB2 : Hid (Below w.heap.size w (W.drewN nq)) := hd2 _ _ HB.out
    have HS2 : Hid (w.heap.size + 1 < (W.drewN nq).heap.size) := HS.out
    clear HS
    generalize W.drewN nq = W2 at *
    clear hd1 hd2 HB
    have HR : Hid (Reads W2 (.slice a zs.length cap) zs) := Hp.out.below HB2.out
    cases op with
    | true =>
      have hE : E = (zs.length : Int) := HE.out
      subst hE
      by_cases hkE : (k : Int) < (zs.length : Int)
      · have Hz : Hid (r.2 = true) := by rw [H2.out]; exact decide_eq_true hkE
        go_wp2_with fail
        all_goals (
          go_ret3
          refine RefLead.mk HB2.out (by rw [Hz.out]; first | rfl | (simp; omega)) (fun _ => ⟨?_, rfl⟩)
          rw [H1.out]
          omega)
      · have Hz : Hid (r.2 = false) := by rw [H2.out]; exact decide_eq_false hkE
        have hkE' : (zs.length : Int) ≤ (k : Int) := by omega
        clear hkE
        go_wp2_with fail
        all_goals (
          go_ret3
          refine RefLead.mk HB2.out (by rw [Hz.out]; first | rfl | (simp; omega)) (fun h => by rw [Hz.out] at h; exact absurd h (by decide)))
    | false =>
      have hE : E = (zs.length : Int) - 1 := HE.out
      subst hE
      by_cases hkE : (k : Int) < (zs.length : Int) - 1
      · have Hz : Hid (r.2 = true) := by rw [H2.out]; exact decide_eq_true hkE
        go_wp2_with fail
        all_goals (
          go_ret3
          refine RefLead.mk HB2.out (by rw [Hz.out]; first | rfl | (simp; omega)) (fun _ => ⟨?_, rfl⟩)
          rw [H1.out]
          omega)
      · have Hz : Hid (r.2 = false) := by rw [H2.out]; exact decide_eq_false hkE
        have hkE' : (zs.length : Int) - 1 ≤ (k : Int) := by omega
        clear hkE
        go_wp2_with fail
        all_goals (
          go_ret3
          refine RefLead.mk HB2.out (by rw [Hz.out]; first | rfl | (simp; omega)) (fun h => by rw [Hz.out] at h; exact absurd h (by decide)))
  · go_enter Try.func11, Try.ntmps11
    go_wp2_with fail
    generalize (w.alloc (.cells #[Value.slice a zs.length cap] 22)).alloc (.cells #[.int .i64 108, .int .i64 (n : Int), .int .i64 arg] 24) = W at *
    obtain ⟨b1, b2, b3, b4, hB, hS⟩ := HX.out
    have HB : Hid (Below w.heap.size w W) := hB
    have HS : Hid (w.heap.size + 1 < (W.drewN 0).heap.size) := hS
    clear hB HX hS
    go_quiet (fail)
    obtain ⟨hd1, hd2⟩ := drewN_kept W nq
    rw [← hd1] at b1 b2 b3 b4
    have HB2 : Hid (Below w.heap.size w (W.drewN nq)) := hd2 _ _ HB.out
    have HS2 : Hid (w.heap.size + 1 < (W.drewN nq).heap.size) := HS.out
    clear HS
    generalize W.drewN nq = W2 at *
    clear hd1 hd2 HB
    have HR : Hid (Reads W2 (.slice a zs.length cap) zs) := Hp.out.below HB2.out
    cases op with
    | true =>
      have hE : E = (zs.length : Int) := HE.out
      subst hE
      by_cases hkE : (k : Int) < (zs.length : Int)
      · have Hz : Hid (r.2 = true) := by rw [H2.out]; exact decide_eq_true hkE
        go_wp2_with fail
        all_goals (
          go_ret3
          refine RefLead.mk HB2.out (by rw [Hz.out]; first | rfl | (simp; omega)) (fun _ => ⟨?_, rfl⟩)
          rw [H1.out]
          omega)
      · have Hz : Hid (r.2 = false) := by rw [H2.out]; exact decide_eq_false hkE
        have hkE' : (zs.length : Int) ≤ (k : Int) := by omega
        clear hkE
        go_wp2_with fail
        all_goals (
          go_ret3
          refine RefLead.mk HB2.out (by rw [Hz.out]; first | rfl | (simp; omega)) (fun h => by rw [Hz.out] at h; exact absurd h (by decide)))
    | false =>
      have hE : E = (zs.length : Int) - 1 := HE.out
      subst hE
      by_cases hkE : (k : Int) < (zs.length : Int) - 1
      · have Hz : Hid (r.2 = true) := by rw [H2.out]; exact decide_eq_true hkE
        go_wp2_with fail
        all_goals (
          go_ret3
          refine RefLead.mk HB2.out (by rw [Hz.out]; first | rfl | (simp; omega)) (fun _ => ⟨?_, rfl⟩)
          rw [H1.out]
          omega)
      · have Hz : Hid (r.2 = false) := by rw [H2.out]; exact decide_eq_false hkE
        have hkE' : (zs.length : Int) - 1 ≤ (k : Int) := by omega
        clear hkE
        go_wp2_with fail
        all_goals (
          go_ret3
          refine RefLead.mk HB2.out (by rw [Hz.out]; first | rfl | (simp; omega)) (fun h => by rw [Hz.out] at h; exact absurd h (by decide)))

set_option maxHeartbeats 2000000 in
set_option maxRecDepth 100000 in
theorem ref_94 (v : Value) (zs : List Int) (k n : Nat) (c arg : Int) (op : Bool) (w : World) (hp : Reads w v zs) (hl : zs.length ≤ 4096) (hk : k ≤ zs.length - 1) (hn1 : 1 ≤ n) (hn9 : n ≤ 999) (hn : (c = 0 ∧ n = 1) ∨ (((n : Int) == 0) = false ∧ c = (n : Int))) :
    Calls Try.prog 11 #[v, .int .i64 (k : Int), .agg #[.int .i64 94, .int .i64 c, .int .i64 arg], .bool op] w fun e w' => RefLead (lead zs k n 94 arg op) (wth 94) w e w' := by
  obtain ⟨a, cap, rfl⟩ := hp.shape
  have Hp : Hid (Reads w (.slice a zs.length cap) zs) := hp
  have hk9 : (k : Int) ≤ 4096 := by omega
  have hl9 : (zs.length : Int) ≤ 4096 := by omega
  have hW : wth 94 = false := by decide
  rw [hW]
  clear hp hW
  obtain ⟨r, hr⟩ : ∃ r, r = lead zs k n 94 arg op := ⟨_, rfl⟩
  rw [← hr]
  have H1 : Hid (r.1 = solid zs) := by rw [hr]; rfl
  have H2 : Hid (r.2 = true) := by rw [hr]; rfl
  clear hr
  have HX : Hid _ := ref_boxes w (.slice a zs.length cap) (.int .i64 94) (.int .i64 c) (.int .i64 arg)
  rcases hn with ⟨rfl, rfl⟩ | ⟨hnb, rfl⟩
  · go_enter Try.func11, Try.ntmps11
    go_wp2_with fail
    generalize (w.alloc (.cells #[Value.slice a zs.length cap] 22)).alloc (.cells #[.int .i64 94, .int .i64 0, .int .i64 arg] 24) = W at *
    obtain ⟨b1, b2, b3, b4, hB, hS⟩ := HX.out
    have HB : Hid (Below w.heap.size w W) := hB
    have HS : Hid (w.heap.size + 1 < (W.drewN 0).heap.size) := hS
    clear hB HX hS
    go_quiet (fail)
    obtain ⟨hd1, hd2⟩ := drewN_kept W nq
    rw [← hd1] at b1 b2 b3 b4
    have HB2 : Hid (Below w.heap.size w (W.drewN nq)) := hd2 _ _ HB.out
    have HS2 : Hid (w.heap.size + 1 < (W.drewN nq).heap.size) := HS.out
    clear HS
    generalize W.drewN nq = W2 at *
    clear hd1 hd2 HB
    have HR : Hid (Reads W2 (.slice a zs.length cap) zs) := Hp.out.below HB2.out
    rcases HR.out with ⟨a', c', he, hz⟩ | ⟨b, off, cap', he, _, _, hb, hcell⟩
    · subst hz
      have H3 : Hid (r.1 = 0) := H1.out
      clear H1 hk
      go_wp2_with fail
      go_loop [61] (fun u61 => u61 = .int .i64 0) (fun _ => 0)
      case atStart => rfl
      case round =>
        subst hrel
        go_wp2_with fail
        all_goals (
          go_ret3
          exact RefLead.mk HB2.out (by rw [H2.out]; rfl) (fun _ => ⟨H3.out.symm, rfl⟩))
    · cases he
      have Hc : Hid (∀ j, j < zs.length → W2.cell? ⟨b, off + j, none⟩ = some (.int .i64 (zs.getD j 0))) := hcell
      have H3 : Hid (up (fun i => knd zs false i != 0) (max ((zs.length : Int) - 1) 0) zs.length 0 = r.1) := H1.out.symm
      clear hcell H1 b3 b4
      go_wp2_with fail
      go_loop [61] (fun u61 => ∃ m : Nat, u61 = .int .i64 (m : Int) ∧ m ≤ zs.length ∧ Hid (up (fun i => knd zs false i != 0) (max ((zs.length : Int) - 1) 0) zs.length m = r.1)) (fun u61 => zs.length - (intOf u61).toNat)
      case atStart => exact ⟨0, rfl, by omega, H3.out⟩
      case round =>
        obtain ⟨m, rfl, hm, Hm⟩ := hrel
        by_cases hlt : m < zs.length
        · have hI : (m : Int) < (zs.length : Int) := by omega
          have hcx := Hc.out m hlt
          have hkn := blank_knd hlt
          obtain ⟨z, hz⟩ : ∃ z, z = zs.getD m 0 := ⟨_, rfl⟩
          rw [← hz] at hcx hkn
          clear hz
          by_cases hz : z = 32 ∨ z = 9
          · have Hm2 : Hid (up (fun i => knd zs false i != 0) (max ((zs.length : Int) - 1) 0) zs.length (m + 1) = r.1) := (up_miss hlt (by rw [hkn]; rcases hz with rfl | rfl <;> rfl)).symm.trans Hm.out
            clear Hm hkn
            rcases hz with rfl | rfl
            all_goals (
              go_wp2_with fail
              go_round
              case rel => exact ⟨m + 1, by go_num, by omega, Hm2.out⟩
              case measure => simp [intOf]; omega)
          · have hz1 : (z != 32) = true := by simp only [not_or] at hz; simpa using hz.1
            have hz2 : (z != 9) = true := by simp only [not_or] at hz; simpa using hz.2
            have Hm2 : Hid ((m : Int) = r.1) := (up_hit hlt (by rw [hkn]; simp only [bne, Bool.not_eq_true'] at hz1 hz2; rw [hz1, hz2]; rfl)).symm.trans Hm.out
            clear Hm hkn hz
            go_wp2_with fail
            go_ret3
            exact RefLead.mk HB2.out (by rw [H2.out]; rfl) (fun _ => ⟨Hm2.out, rfl⟩)
        · have hI : (zs.length : Int) ≤ (m : Int) := by omega
          have Hm2 : Hid (max ((zs.length : Int) - 1) 0 = r.1) := (up_done (by omega)).symm.trans Hm.out
          clear Hm
          go_wp2_with fail
          all_goals (
            go_ret3
            refine RefLead.mk HB2.out (by rw [H2.out]; rfl) (fun _ => ⟨?_, rfl⟩)
            rw [← Hm2.out]
            omega)
  · go_enter Try.func11, Try.ntmps11
    go_wp2_with fail
    generalize (w.alloc (.cells #[Value.slice a zs.length cap] 22)).alloc (.cells #[.int .i64 94, .int .i64 (n : Int), .int .i64 arg] 24) = W at *
    obtain ⟨b1, b2, b3, b4, hB, hS⟩ := HX.out
    have HB : Hid (Below w.heap.size w W) := hB
    have HS : Hid (w.heap.size + 1 < (W.drewN 0).heap.size) := hS
    clear hB HX hS
    go_quiet (fail)
    obtain ⟨hd1, hd2⟩ := drewN_kept W nq
    rw [← hd1] at b1 b2 b3 b4
    have HB2 : Hid (Below w.heap.size w (W.drewN nq)) := hd2 _ _ HB.out
    have HS2 : Hid (w.heap.size + 1 < (W.drewN nq).heap.size) := HS.out
    clear HS
    generalize W.drewN nq = W2 at *
    clear hd1 hd2 HB
    have HR : Hid (Reads W2 (.slice a zs.length cap) zs) := Hp.out.below HB2.out
    rcases HR.out with ⟨a', c', he, hz⟩ | ⟨b, off, cap', he, _, _, hb, hcell⟩
    · subst hz
      have H3 : Hid (r.1 = 0) := H1.out
      clear H1 hk
      go_wp2_with fail
      go_loop [61] (fun u61 => u61 = .int .i64 0) (fun _ => 0)
      case atStart => rfl
      case round =>
        subst hrel
        go_wp2_with fail
        all_goals (
          go_ret3
          exact RefLead.mk HB2.out (by rw [H2.out]; rfl) (fun _ => ⟨H3.out.symm, rfl⟩))
    · cases he
      have Hc : Hid (∀ j, j < zs.length → W2.cell? ⟨b, off + j, none⟩ = some (.int .i64 (zs.getD j 0))) := hcell
      have H3 : Hid (up (fun i => knd zs false i != 0) (max ((zs.length : Int) - 1) 0) zs.length 0 = r.1) := H1.out.symm
      clear hcell H1 b3 b4
      go_wp2_with fail
      go_loop [61] (fun u61 => ∃ m : Nat, u61 = .int .i64 (m : Int) ∧ m ≤ zs.length ∧ Hid (up (fun i => knd zs false i != 0) (max ((zs.length : Int) - 1) 0) zs.length m = r.1)) (fun u61 => zs.length - (intOf u61).toNat)
      case atStart => exact ⟨0, rfl, by omega, H3.out⟩
      case round =>
        obtain ⟨m, rfl, hm, Hm⟩ := hrel
        by_cases hlt : m < zs.length
        · have hI : (m : Int) < (zs.length : Int) := by omega
          have hcx := Hc.out m hlt
          have hkn := blank_knd hlt
          obtain ⟨z, hz⟩ : ∃ z, z = zs.getD m 0 := ⟨_, rfl⟩
          rw [← hz] at hcx hkn
          clear hz
          by_cases hz : z = 32 ∨ z = 9
          · have Hm2 : Hid (up (fun i => knd zs false i != 0) (max ((zs.length : Int) - 1) 0) zs.length (m + 1) = r.1) := (up_miss hlt (by rw [hkn]; rcases hz with rfl | rfl <;> rfl)).symm.trans Hm.out
            clear Hm hkn
            rcases hz with rfl | rfl
            all_goals (
              go_wp2_with fail
              go_round
              case rel => exact ⟨m + 1, by go_num, by omega, Hm2.out⟩
              case measure => simp [intOf]; omega)
          · have hz1 : (z != 32) = true := by simp only [not_or] at hz; simpa using hz.1
            have hz2 : (z != 9) = true := by simp only [not_or] at hz; simpa using hz.2
            have Hm2 : Hid ((m : Int) = r.1) := (up_hit hlt (by rw [hkn]; simp only [bne, Bool.not_eq_true'] at hz1 hz2; rw [hz1, hz2]; rfl)).symm.trans Hm.out
            clear Hm hkn hz
            go_wp2_with fail
            go_ret3
            exact RefLead.mk HB2.out (by rw [H2.out]; rfl) (fun _ => ⟨Hm2.out, rfl⟩)
        · have hI : (zs.length : Int) ≤ (m : Int) := by omega
          have Hm2 : Hid (max ((zs.length : Int) - 1) 0 = r.1) := (up_done (by omega)).symm.trans Hm.out
          clear Hm
          go_wp2_with fail
          all_goals (
            go_ret3
            refine RefLead.mk HB2.out (by rw [H2.out]; rfl) (fun _ => ⟨?_, rfl⟩)
            rw [← Hm2.out]
            omega)

set_option maxHeartbeats 2000000 in
set_option maxRecDepth 100000 in
theorem ref_98 (v : Value) (zs : List Int) (k n : Nat) (c arg : Int) (op : Bool) (w : World) (hp : Reads w v zs) (hl : zs.length ≤ 4096) (hk : k ≤ zs.length - 1) (hn1 : 1 ≤ n) (hn9 : n ≤ 999) (hn : (c = 0 ∧ n = 1) ∨ (((n : Int) == 0) = false ∧ c = (n : Int))) :
    Calls Try.prog 11 #[v, .int .i64 (k : Int), .agg #[.int .i64 98, .int .i64 c, .int .i64 arg], .bool op] w fun e w' => RefLead (lead zs k n 98 arg op) (wth 98) w e w' := by
  obtain ⟨a, cap, rfl⟩ := hp.shape
  have Hp : Hid (Reads w (.slice a zs.length cap) zs) := hp
  have hk9 : (k : Int) ≤ 4096 := by omega
  have hl9 : (zs.length : Int) ≤ 4096 := by omega
  have hW : wth 98 = false := by decide
  rw [hW]
  clear hp hW
  obtain ⟨r, hr⟩ : ∃ r, r = lead zs k n 98 arg op := ⟨_, rfl⟩
  rw [← hr]
  obtain ⟨t, ht⟩ : ∃ t, t = iter (fun x => back zs x false) n k := ⟨_, rfl⟩
  have Ht : Hid (t = iter (fun x => back zs x false) n k) := ht
  have H1 : Hid (r.1 = t) := by rw [hr, ht]; rfl
  have H2 : Hid (r.2 = decide (0 < (k : Int))) := by rw [hr]; rfl
  clear hr ht
  have HX : Hid _ := ref_boxes w (.slice a zs.length cap) (.int .i64 98) (.int .i64 c) (.int .i64 arg)
  rcases hn with ⟨rfl, rfl⟩ | ⟨hnb, rfl⟩
  · go_enter Try.func11, Try.ntmps11
    go_wp2_with fail
    generalize (w.alloc (.cells #[Value.slice a zs.length cap] 22)).alloc (.cells #[.int .i64 98, .int .i64 0, .int .i64 arg] 24) = W at *
    obtain ⟨b1, b2, b3, b4, hB, hS⟩ := HX.out
    have HB : Hid (Below w.heap.size w W) := hB
    have HS : Hid (w.heap.size + 1 < (W.drewN 0).heap.size) := hS
    clear hB HX hS
    go_quiet (fail)
    obtain ⟨hd1, hd2⟩ := drewN_kept W nq
    rw [← hd1] at b1 b2 b3 b4
    have HB2 : Hid (Below w.heap.size w (W.drewN nq)) := hd2 _ _ HB.out
    have HS2 : Hid (w.heap.size + 1 < (W.drewN nq).heap.size) := HS.out
    clear HS
    generalize W.drewN nq = W2 at *
    clear hd1 hd2 HB
    have HR : Hid (Reads W2 (.slice a zs.length cap) zs) := Hp.out.below HB2.out
    have HC : Hid (∀ M : Int, M = ((1 : Nat) : Int) → Calls Try.prog 20 #[.int .i64 M, .int .i64 (k : Int), .func (.func 21) #[] #[.pointer (some ⟨w.heap.size, 0, none⟩), .pointer (some ⟨w.heap.size + 1, 0, none⟩)]] W2 fun e w' => e = .returned (.int .i64 t) ∧ w' = W2) := by
      intro M hM
      subst hM
      rw [Ht.out]
      exact times_go 21 (fun x => back zs x false) (fun x => 0 ≤ x ∧ x ≤ (k : Int)) w.heap.size (w.heap.size + 1) (k : Int) _ W2 (by omega) (by omega) ⟨by omega, by omega⟩ (fun x hx => by have := back_in (zs := zs) (b := false) hl hx.1 (by omega); exact ⟨this.1, by omega⟩) (fun x hx => fun21_go w.heap.size (w.heap.size + 1) a cap zs x 98 false W2 HR.out hl hx.1 (by omega) rfl b1 b2)
    have hmf : ∀ (fn : Fn) (first cap : Array Value) (w : World), (Instr.makeFunc fn first cap).run Try.prog w = .ok (.func fn first cap) w := fun _ _ _ _ => rfl
    by_cases hk0 : k = 0
    · subst hk0
      go_wp2_with fail
      refine (HC.out _ (by first | rfl | omega)).mono ?_
      rintro e w1 ⟨rfl, hw1⟩
      rw [hw1]
      clear hw1 w1 HC
      go_wp2_with fail
      all_goals (
        go_ret3
        exact RefLead.mk HB2.out (by rw [H2.out]; rfl) (fun h => by rw [H2.out] at h; exact absurd h (by decide)))
    · have hkb : ((k : Int) == 0) = false := beq_eq_false_iff_ne.2 (by omega)
      have Hz : Hid (r.2 = true) := by rw [H2.out]; exact decide_eq_true (by omega)
      clear hk0
      go_wp2_with fail
      refine (HC.out _ (by first | rfl | omega)).mono ?_
      rintro e w1 ⟨rfl, hw1⟩
      rw [hw1]
      clear hw1 w1 HC
      go_wp2_with fail
      all_goals (
        go_ret3
        exact RefLead.mk HB2.out (by rw [Hz.out]; rfl) (fun _ => ⟨H1.out.symm, rfl⟩))
  · go_enter Try.func11, Try.ntmps11
    go_wp2_with fail
    generalize (w.alloc (.cells #[Value.slice a zs.length cap] 22)).alloc (.cells #[.int .i64 98, .int .i64 (n : Int), .int .i64 arg] 24) = W at *
    obtain ⟨b1, b2, b3, b4, hB, hS⟩ := HX.out
    have HB : Hid (Below w.heap.size w W) := hB
    have HS : Hid (w.heap.size + 1 < (W.drewN 0).heap.size) := hS
    clear hB HX hS
    go_quiet (fail)
    obtain ⟨hd1, hd2⟩ := drewN_kept W nq
    rw [← hd1] at b1 b2 b3 b4
    have HB2 : Hid (Below w.heap.size w (W.drewN nq)) := hd2 _ _ HB.out
    have HS2 : Hid (w.heap.size + 1 < (W.drewN nq).heap.size) := HS.out
    clear HS
    generalize W.drewN nq = W2 at *
    clear hd1 hd2 HB
    have HR : Hid (Reads W2 (.slice a zs.length cap) zs) := Hp.out.below HB2.out
    have HC : Hid (∀ M : Int, M = (n : Int) → Calls Try.prog 20 #[.int .i64 M, .int .i64 (k : Int), .func (.func 21) #[] #[.pointer (some ⟨w.heap.size, 0, none⟩), .pointer (some ⟨w.heap.size + 1, 0, none⟩)]] W2 fun e w' => e = .returned (.int .i64 t) ∧ w' = W2) := by
      intro M hM
      subst hM
      rw [Ht.out]
      exact times_go 21 (fun x => back zs x false) (fun x => 0 ≤ x ∧ x ≤ (k : Int)) w.heap.size (w.heap.size + 1) (k : Int) _ W2 (by omega) (by omega) ⟨by omega, by omega⟩ (fun x hx => by have := back_in (zs := zs) (b := false) hl hx.1 (by omega); exact ⟨this.1, by omega⟩) (fun x hx => fun21_go w.heap.size (w.heap.size + 1) a cap zs x 98 false W2 HR.out hl hx.1 (by omega) rfl b1 b2)
    have hmf : ∀ (fn : Fn) (first cap : Array Value) (w : World), (Instr.makeFunc fn first cap).run Try.prog w = .ok (.func fn first cap) w := fun _ _ _ _ => rfl
    by_cases hk0 : k = 0
    · subst hk0
      go_wp2_with fail
      refine (HC.out _ (by first | rfl | omega)).mono ?_
      rintro e w1 ⟨rfl, hw1⟩
      rw [hw1]
      clear hw1 w1 HC
      go_wp2_with fail
      all_goals (
        go_ret3
        exact RefLead.mk HB2.out (by rw [H2.out]; rfl) (fun h => by rw [H2.out] at h; exact absurd h (by decide)))
    · have hkb : ((k : Int) == 0) = false := beq_eq_false_iff_ne.2 (by omega)
      have Hz : Hid (r.2 = true) := by rw [H2.out]; exact decide_eq_true (by omega)
      clear hk0
      go_wp2_with fail
      refine (HC.out _ (by first | rfl | omega)).mono ?_
      rintro e w1 ⟨rfl, hw1⟩
      rw [hw1]
      clear hw1 w1 HC
      go_wp2_with fail
      all_goals (
        go_ret3
        exact RefLead.mk HB2.out (by rw [Hz.out]; rfl) (fun _ => ⟨H1.out.symm, rfl⟩))

set_option maxHeartbeats 2000000 in
set_option maxRecDepth 100000 in
theorem ref_66 (v : Value) (zs : List Int) (k n : Nat) (c arg : Int) (op : Bool) (w : World) (hp : Reads w v zs) (hl : zs.length ≤ 4096) (hk : k ≤ zs.length - 1) (hn1 : 1 ≤ n) (hn9 : n ≤ 999) (hn : (c = 0 ∧ n = 1) ∨ (((n : Int) == 0) = false ∧ c = (n : Int))) :
    Calls Try.prog 11 #[v, .int .i64 (k : Int), .agg #[.int .i64 66, .int .i64 c, .int .i64 arg], .bool op] w fun e w' => RefLead (lead zs k n 66 arg op) (wth 66) w e w' := by
  obtain ⟨a, cap, rfl⟩ := hp.shape
  have Hp : Hid (Reads w (.slice a zs.length cap) zs) := hp
  have hk9 : (k : Int) ≤ 4096 := by omega
  have hl9 : (zs.length : Int) ≤ 4096 := by omega
  have hW : wth 66 = false := by decide
  rw [hW]
  clear hp hW
  obtain ⟨r, hr⟩ : ∃ r, r = lead zs k n 66 arg op := ⟨_, rfl⟩
  rw [← hr]
  obtain ⟨t, ht⟩ : ∃ t, t = iter (fun x => back zs x true) n k := ⟨_, rfl⟩
  have Ht : Hid (t = iter (fun x => back zs x true) n k) := ht
  have H1 : Hid (r.1 = t) := by rw [hr, ht]; rfl
  have H2 : Hid (r.2 = decide (0 < (k : Int))) := by rw [hr]; rfl
  clear hr ht
  have HX : Hid _ := ref_boxes w (.slice a zs.length cap) (.int .i64 66) (.int .i64 c) (.int .i64 arg)
  rcases hn with ⟨rfl, rfl⟩ | ⟨hnb, rfl⟩
  · go_enter Try.func11, Try.ntmps11
    go_wp2_with fail
    generalize (w.alloc (.cells #[Value.slice a zs.length cap] 22)).alloc (.cells #[.int .i64 66, .int .i64 0, .int .i64 arg] 24) = W at *
    obtain ⟨b1, b2, b3, b4, hB, hS⟩ := HX.out
    have HB : Hid (Below w.heap.size w W) := hB
    have HS : Hid (w.heap.size + 1 < (W.drewN 0).heap.size) := hS
    clear hB HX hS
    go_quiet (fail)
    obtain ⟨hd1, hd2⟩ := drewN_kept W nq
    rw [← hd1] at b1 b2 b3 b4
    have HB2 : Hid (Below w.heap.size w (W.drewN nq)) := hd2 _ _ HB.out
    have HS2 : Hid (w.heap.size + 1 < (W.drewN nq).heap.size) := HS.out
    clear HS
    generalize W.drewN nq = W2 at *
    clear hd1 hd2 HB
    have HR : Hid (Reads W2 (.slice a zs.length cap) zs) := Hp.out.below HB2.out
    have HC : Hid (∀ M : Int, M = ((1 : Nat) : Int) → Calls Try.prog 20 #[.int .i64 M, .int .i64 (k : Int), .func (.func 21) #[] #[.pointer (some ⟨w.heap.size, 0, none⟩), .pointer (some ⟨w.heap.size + 1, 0, none⟩)]] W2 fun e w' => e = .returned (.int .i64 t) ∧ w' = W2) := by
      intro M hM
      subst hM
      rw [Ht.out]
      exact times_go 21 (fun x => back zs x true) (fun x => 0 ≤ x ∧ x ≤ (k : Int)) w.heap.size (w.heap.size + 1) (k : Int) _ W2 (by omega) (by omega) ⟨by omega, by omega⟩ (fun x hx => by have := back_in (zs := zs) (b := true) hl hx.1 (by omega); exact ⟨this.1, by omega⟩) (fun x hx => fun21_go w.heap.size (w.heap.size + 1) a cap zs x 66 true W2 HR.out hl hx.1 (by omega) rfl b1 b2)
    have hmf : ∀ (fn : Fn) (first cap : Array Value) (w : World), (Instr.makeFunc fn first cap).run Try.prog w = .ok (.func fn first cap) w := fun _ _ _ _ => rfl
    by_cases hk0 : k = 0
    · subst hk0
      go_wp2_with fail
      refine (HC.out _ (by first | rfl | omega)).mono ?_
      rintro e w1 ⟨rfl, hw1⟩
      rw [hw1]
      clear hw1 w1 HC
      go_wp2_with fail
      all_goals (
        go_ret3
        exact RefLead.mk HB2.out (by rw [H2.out]; rfl) (fun h => by rw [H2.out] at h; exact absurd h (by decide)))
    · have hkb : ((k : Int) == 0) = false := beq_eq_false_iff_ne.2 (by omega)
      have Hz : Hid (r.2 = true) := by rw [H2.out]; exact decide_eq_true (by omega)
      clear hk0
      go_wp2_with fail
      refine (HC.out _ (by first | rfl | omega)).mono ?_
      rintro e w1 ⟨rfl, hw1⟩
      rw [hw1]
      clear hw1 w1 HC
      go_wp2_with fail
      all_goals (
        go_ret3
        exact RefLead.mk HB2.out (by rw [Hz.out]; rfl) (fun _ => ⟨H1.out.symm, rfl⟩))
  · go_enter Try.func11, Try.ntmps11
    go_wp2_with fail
    generalize (w.alloc (.cells #[Value.slice a zs.length cap] 22)).alloc (.cells #[.int .i64 66, .int .i64 (n : Int), .int .i64 arg] 24) = W at *
    obtain ⟨b1, b2, b3, b4, hB, hS⟩ := HX.out
    have HB : Hid (Below w.heap.size w W) := hB
    have HS : Hid (w.heap.size + 1 < (W.drewN 0).heap.size) := hS
    clear hB HX hS
    go_quiet (fail)
    obtain ⟨hd1, hd2⟩ := drewN_kept W nq
    rw [← hd1] at b1 b2 b3 b4
    have HB2 : Hid (Below w.heap.size w (W.drewN nq)) := hd2 _ _ HB.out
    have HS2 : Hid (w.heap.size + 1 < (W.drewN nq).heap.size) := HS.out
    clear HS
    generalize W.drewN nq = W2 at *
    clear hd1 hd2 HB
    have HR : Hid (Reads W2 (.slice a zs.length cap) zs) := Hp.out.below HB2.out
    have HC : Hid (∀ M : Int, M = (n : Int) → Calls Try.prog 20 #[.int .i64 M, .int .i64 (k : Int), .func (.func 21) #[] #[.pointer (some ⟨w.heap.size, 0, none⟩), .pointer (some ⟨w.heap.size + 1, 0, none⟩)]] W2 fun e w' => e = .returned (.int .i64 t) ∧ w' = W2) := by
      intro M hM
      subst hM
      rw [Ht.out]
      exact times_go 21 (fun x => back zs x true) (fun x => 0 ≤ x ∧ x ≤ (k : Int)) w.heap.size (w.heap.size + 1) (k : Int) _ W2 (by omega) (by omega) ⟨by omega, by omega⟩ (fun x hx => by have := back_in (zs := zs) (b := true) hl hx.1 (by omega); exact ⟨this.1, by omega⟩) (fun x hx => fun21_go w.heap.size (w.heap.size + 1) a cap zs x 66 true W2 HR.out hl hx.1 (by omega) rfl b1 b2)
    have hmf : ∀ (fn : Fn) (first cap : Array Value) (w : World), (Instr.makeFunc fn first cap).run Try.prog w = .ok (.func fn first cap) w := fun _ _ _ _ => rfl
    by_cases hk0 : k = 0
    · subst hk0
      go_wp2_with fail
      refine (HC.out _ (by first | rfl | omega)).mono ?_
      rintro e w1 ⟨rfl, hw1⟩
      rw [hw1]
      clear hw1 w1 HC
      go_wp2_with fail
      all_goals (
        go_ret3
        exact RefLead.mk HB2.out (by rw [H2.out]; rfl) (fun h => by rw [H2.out] at h; exact absurd h (by decide)))
    · have hkb : ((k : Int) == 0) = false := beq_eq_false_iff_ne.2 (by omega)
      have Hz : Hid (r.2 = true) := by rw [H2.out]; exact decide_eq_true (by omega)
      clear hk0
      go_wp2_with fail
      refine (HC.out _ (by first | rfl | omega)).mono ?_
      rintro e w1 ⟨rfl, hw1⟩
      rw [hw1]
      clear hw1 w1 HC
      go_wp2_with fail
      all_goals (
        go_ret3
        exact RefLead.mk HB2.out (by rw [Hz.out]; rfl) (fun _ => ⟨H1.out.symm, rfl⟩))

set_option maxHeartbeats 2000000 in
set_option maxRecDepth 100000 in
theorem ref_36 (v : Value) (zs : List Int) (k n : Nat) (c arg : Int) (op : Bool) (w : World) (hp : Reads w v zs) (hl : zs.length ≤ 4096) (hk : k ≤ zs.length - 1) (hn1 : 1 ≤ n) (hn9 : n ≤ 999) (hn : (c = 0 ∧ n = 1) ∨ (((n : Int) == 0) = false ∧ c = (n : Int))) :
    Calls Try.prog 11 #[v, .int .i64 (k : Int), .agg #[.int .i64 36, .int .i64 c, .int .i64 arg], .bool op] w fun e w' => RefLead (lead zs k n 36 arg op) (wth 36) w e w' := by
  obtain ⟨a, cap, rfl⟩ := hp.shape
  have Hp : Hid (Reads w (.slice a zs.length cap) zs) := hp
  have hk9 : (k : Int) ≤ 4096 := by omega
  have hl9 : (zs.length : Int) ≤ 4096 := by omega
  have hW : wth 36 = true := by decide
  rw [hW]
  clear hp hW
  obtain ⟨r, hr⟩ : ∃ r, r = lead zs k n 36 arg op := ⟨_, rfl⟩
  rw [← hr]
  have Hr : Hid (r = lead zs k n 36 arg op) := hr
  clear hr
  have HX : Hid _ := ref_boxes w (.slice a zs.length cap) (.int .i64 36) (.int .i64 c) (.int .i64 arg)
  rcases hn with ⟨rfl, rfl⟩ | ⟨hnb, rfl⟩
  · go_enter Try.func11, Try.ntmps11
    go_wp2_with fail
    generalize (w.alloc (.cells #[Value.slice a zs.length cap] 22)).alloc (.cells #[.int .i64 36, .int .i64 0, .int .i64 arg] 24) = W at *
    obtain ⟨b1, b2, b3, b4, hB, hS⟩ := HX.out
    have HB : Hid (Below w.heap.size w W) := hB
    have HS : Hid (w.heap.size + 1 < (W.drewN 0).heap.size) := hS
    clear hB HX hS
    go_quiet (fail)
    obtain ⟨hd1, hd2⟩ := drewN_kept W nq
    rw [← hd1] at b1 b2 b3 b4
    have HB2 : Hid (Below w.heap.size w (W.drewN nq)) := hd2 _ _ HB.out
    have HS2 : Hid (w.heap.size + 1 < (W.drewN nq).heap.size) := HS.out
    clear HS
    generalize W.drewN nq = W2 at *
    clear hd1 hd2 HB
    have HR : Hid (Reads W2 (.slice a zs.length cap) zs) := Hp.out.below HB2.out
    by_cases hz : zs.length = 0
    · have Hz : Hid (r.2 = false) := congrArg Prod.snd (Hr.out.trans (lead_none hz (by decide)))
      have hzI : ((zs.length : Int) == 0) = true := by rw [hz]; rfl
      clear hz Hr
      go_wp2_with fail
      all_goals (
        go_ret3
        exact RefLead.mk HB2.out (by rw [Hz.out]; rfl) (fun h => by rw [Hz.out] at h; exact absurd h (by decide)))
    · have hzI : ((zs.length : Int) == 0) = false := beq_eq_false_iff_ne.2 (by omega)
      have hkl : k < zs.length := by omega
      have Hr2 : Hid (r = lineLead zs k _ 36 arg op) := Hr.out.trans (lead_line hz (by decide))
      clear hz Hr
      have H1 : Hid (r.1 = (zs.length : Int) - 1) := by rw [Hr2.out]; rfl
      have Hz : Hid (r.2 = true) := by rw [Hr2.out]; rfl
      clear Hr2
      go_wp2_with fail
      all_goals (
        go_ret3
        exact RefLead.mk HB2.out (by rw [Hz.out]; rfl) (fun _ => ⟨H1.out.symm, rfl⟩))
  · go_enter Try.func11, Try.ntmps11
    go_wp2_with fail
    generalize (w.alloc (.cells #[Value.slice a zs.length cap] 22)).alloc (.cells #[.int .i64 36, .int .i64 (n : Int), .int .i64 arg] 24) = W at *
    obtain ⟨b1, b2, b3, b4, hB, hS⟩ := HX.out
    have HB : Hid (Below w.heap.size w W) := hB
    have HS : Hid (w.heap.size + 1 < (W.drewN 0).heap.size) := hS
    clear hB HX hS
    go_quiet (fail)
    obtain ⟨hd1, hd2⟩ := drewN_kept W nq
    rw [← hd1] at b1 b2 b3 b4
    have HB2 : Hid (Below w.heap.size w (W.drewN nq)) := hd2 _ _ HB.out
    have HS2 : Hid (w.heap.size + 1 < (W.drewN nq).heap.size) := HS.out
    clear HS
    generalize W.drewN nq = W2 at *
    clear hd1 hd2 HB
    have HR : Hid (Reads W2 (.slice a zs.length cap) zs) := Hp.out.below HB2.out
    by_cases hz : zs.length = 0
    · have Hz : Hid (r.2 = false) := congrArg Prod.snd (Hr.out.trans (lead_none hz (by decide)))
      have hzI : ((zs.length : Int) == 0) = true := by rw [hz]; rfl
      clear hz Hr
      go_wp2_with fail
      all_goals (
        go_ret3
        exact RefLead.mk HB2.out (by rw [Hz.out]; rfl) (fun h => by rw [Hz.out] at h; exact absurd h (by decide)))
    · have hzI : ((zs.length : Int) == 0) = false := beq_eq_false_iff_ne.2 (by omega)
      have hkl : k < zs.length := by omega
      have Hr2 : Hid (r = lineLead zs k _ 36 arg op) := Hr.out.trans (lead_line hz (by decide))
      clear hz Hr
      have H1 : Hid (r.1 = (zs.length : Int) - 1) := by rw [Hr2.out]; rfl
      have Hz : Hid (r.2 = true) := by rw [Hr2.out]; rfl
      clear Hr2
      go_wp2_with fail
      all_goals (
        go_ret3
        exact RefLead.mk HB2.out (by rw [Hz.out]; rfl) (fun _ => ⟨H1.out.symm, rfl⟩))

set_option maxHeartbeats 2000000 in
set_option maxRecDepth 100000 in
theorem ref_124 (v : Value) (zs : List Int) (k n : Nat) (c arg : Int) (op : Bool) (w : World) (hp : Reads w v zs) (hl : zs.length ≤ 4096) (hk : k ≤ zs.length - 1) (hn1 : 1 ≤ n) (hn9 : n ≤ 999) (hn : (c = 0 ∧ n = 1) ∨ (((n : Int) == 0) = false ∧ c = (n : Int))) :
    Calls Try.prog 11 #[v, .int .i64 (k : Int), .agg #[.int .i64 124, .int .i64 c, .int .i64 arg], .bool op] w fun e w' => RefLead (lead zs k n 124 arg op) (wth 124) w e w' := by
  obtain ⟨a, cap, rfl⟩ := hp.shape
  have Hp : Hid (Reads w (.slice a zs.length cap) zs) := hp
  have hk9 : (k : Int) ≤ 4096 := by omega
  have hl9 : (zs.length : Int) ≤ 4096 := by omega
  have hW : wth 124 = false := by decide
  rw [hW]
  clear hp hW
  obtain ⟨r, hr⟩ : ∃ r, r = lead zs k n 124 arg op := ⟨_, rfl⟩
  rw [← hr]
  have Hr : Hid (r = lead zs k n 124 arg op) := hr
  clear hr
  have HX : Hid _ := ref_boxes w (.slice a zs.length cap) (.int .i64 124) (.int .i64 c) (.int .i64 arg)
  rcases hn with ⟨rfl, rfl⟩ | ⟨hnb, rfl⟩
  · go_enter Try.func11, Try.ntmps11
    go_wp2_with fail
    generalize (w.alloc (.cells #[Value.slice a zs.length cap] 22)).alloc (.cells #[.int .i64 124, .int .i64 0, .int .i64 arg] 24) = W at *
    obtain ⟨b1, b2, b3, b4, hB, hS⟩ := HX.out
    have HB : Hid (Below w.heap.size w W) := hB
    have HS : Hid (w.heap.size + 1 < (W.drewN 0).heap.size) := hS
    clear hB HX hS
    go_quiet (fail)
    obtain ⟨hd1, hd2⟩ := drewN_kept W nq
    rw [← hd1] at b1 b2 b3 b4
    have HB2 : Hid (Below w.heap.size w (W.drewN nq)) := hd2 _ _ HB.out
    have HS2 : Hid (w.heap.size + 1 < (W.drewN nq).heap.size) := HS.out
    clear HS
    generalize W.drewN nq = W2 at *
    clear hd1 hd2 HB
    have HR : Hid (Reads W2 (.slice a zs.length cap) zs) := Hp.out.below HB2.out
    by_cases hz : zs.length = 0
    · have Hz : Hid (r.2 = false) := congrArg Prod.snd (Hr.out.trans (lead_none hz (by decide)))
      have hzI : ((zs.length : Int) == 0) = true := by rw [hz]; rfl
      clear hz Hr
      go_wp2_with fail
      all_goals (
        go_ret3
        exact RefLead.mk HB2.out (by rw [Hz.out]; rfl) (fun h => by rw [Hz.out] at h; exact absurd h (by decide)))
    · have hzI : ((zs.length : Int) == 0) = false := beq_eq_false_iff_ne.2 (by omega)
      have hkl : k < zs.length := by omega
      have Hr2 : Hid (r = lineLead zs k _ 124 arg op) := Hr.out.trans (lead_line hz (by decide))
      clear hz Hr
      have H1 : Hid (r.1 = min (((1 : Nat) : Int) - 1) ((zs.length : Int) - 1)) := by rw [Hr2.out]; rfl
      have Hz : Hid (r.2 = true) := by rw [Hr2.out]; rfl
      clear Hr2
      go_wp2_with fail
      all_goals (
        go_ret3
        refine RefLead.mk HB2.out (by rw [Hz.out]; rfl) (fun _ => ⟨?_, rfl⟩)
        rw [H1.out]
        omega)
  · go_enter Try.func11, Try.ntmps11
    go_wp2_with fail
    generalize (w.alloc (.cells #[Value.slice a zs.length cap] 22)).alloc (.cells #[.int .i64 124, .int .i64 (n : Int), .int .i64 arg] 24) = W at *
    obtain ⟨b1, b2, b3, b4, hB, hS⟩ := HX.out
    have HB : Hid (Below w.heap.size w W) := hB
    have HS : Hid (w.heap.size + 1 < (W.drewN 0).heap.size) := hS
    clear hB HX hS
    go_quiet (fail)
    obtain ⟨hd1, hd2⟩ := drewN_kept W nq
    rw [← hd1] at b1 b2 b3 b4
    have HB2 : Hid (Below w.heap.size w (W.drewN nq)) := hd2 _ _ HB.out
    have HS2 : Hid (w.heap.size + 1 < (W.drewN nq).heap.size) := HS.out
    clear HS
    generalize W.drewN nq = W2 at *
    clear hd1 hd2 HB
    have HR : Hid (Reads W2 (.slice a zs.length cap) zs) := Hp.out.below HB2.out
    by_cases hz : zs.length = 0
    · have Hz : Hid (r.2 = false) := congrArg Prod.snd (Hr.out.trans (lead_none hz (by decide)))
      have hzI : ((zs.length : Int) == 0) = true := by rw [hz]; rfl
      clear hz Hr
      go_wp2_with fail
      all_goals (
        go_ret3
        exact RefLead.mk HB2.out (by rw [Hz.out]; rfl) (fun h => by rw [Hz.out] at h; exact absurd h (by decide)))
    · have hzI : ((zs.length : Int) == 0) = false := beq_eq_false_iff_ne.2 (by omega)
      have hkl : k < zs.length := by omega
      have Hr2 : Hid (r = lineLead zs k _ 124 arg op) := Hr.out.trans (lead_line hz (by decide))
      clear hz Hr
      have H1 : Hid (r.1 = min ((n : Int) - 1) ((zs.length : Int) - 1)) := by rw [Hr2.out]; rfl
      have Hz : Hid (r.2 = true) := by rw [Hr2.out]; rfl
      clear Hr2
      go_wp2_with fail
      all_goals (
        go_ret3
        refine RefLead.mk HB2.out (by rw [Hz.out]; rfl) (fun _ => ⟨?_, rfl⟩)
        rw [H1.out]
        omega)

set_option maxHeartbeats 2000000 in
set_option maxRecDepth 100000 in
theorem ref_119 (v : Value) (zs : List Int) (k n : Nat) (c arg : Int) (op : Bool) (w : World) (hp : Reads w v zs) (hl : zs.length ≤ 4096) (hk : k ≤ zs.length - 1) (hn1 : 1 ≤ n) (hn9 : n ≤ 999) (hn : (c = 0 ∧ n = 1) ∨ (((n : Int) == 0) = false ∧ c = (n : Int))) :
    Calls Try.prog 11 #[v, .int .i64 (k : Int), .agg #[.int .i64 119, .int .i64 c, .int .i64 arg], .bool op] w fun e w' => RefLead (lead zs k n 119 arg op) (wth 119) w e w' := by
  obtain ⟨a, cap, rfl⟩ := hp.shape
  have Hp : Hid (Reads w (.slice a zs.length cap) zs) := hp
  have hk9 : (k : Int) ≤ 4096 := by omega
  have hl9 : (zs.length : Int) ≤ 4096 := by omega
  have hW : wth 119 = false := by decide
  rw [hW]
  clear hp hW
  obtain ⟨r, hr⟩ : ∃ r, r = lead zs k n 119 arg op := ⟨_, rfl⟩
  rw [← hr]
  have Hr : Hid (r = lead zs k n 119 arg op) := hr
  clear hr
  have HX : Hid _ := ref_boxes w (.slice a zs.length cap) (.int .i64 119) (.int .i64 c) (.int .i64 arg)
  rcases hn with ⟨rfl, rfl⟩ | ⟨hnb, rfl⟩
  · go_enter Try.func11, Try.ntmps11
    go_wp2_with fail
    generalize (w.alloc (.cells #[Value.slice a zs.length cap] 22)).alloc (.cells #[.int .i64 119, .int .i64 0, .int .i64 arg] 24) = W at *
    obtain ⟨b1, b2, b3, b4, hB, hS⟩ := HX.out
    have HB : Hid (Below w.heap.size w W) := hB
    have HS : Hid (w.heap.size + 1 < (W.drewN 0).heap.size) := hS
    clear hB HX hS
    go_quiet (fail)
    obtain ⟨hd1, hd2⟩ := drewN_kept W nq
    rw [← hd1] at b1 b2 b3 b4
    have HB2 : Hid (Below w.heap.size w (W.drewN nq)) := hd2 _ _ HB.out
    have HS2 : Hid (w.heap.size + 1 < (W.drewN nq).heap.size) := HS.out
    clear HS
    generalize W.drewN nq = W2 at *
    clear hd1 hd2 HB
    have HR : Hid (Reads W2 (.slice a zs.length cap) zs) := Hp.out.below HB2.out
    by_cases hz : zs.length = 0
    · have Hz : Hid (r.2 = false) := congrArg Prod.snd (Hr.out.trans (lead_none hz (by decide)))
      have hzI : ((zs.length : Int) == 0) = true := by rw [hz]; rfl
      clear hz Hr
      go_wp2_with fail
      all_goals (
        go_ret3
        exact RefLead.mk HB2.out (by rw [Hz.out]; rfl) (fun h => by rw [Hz.out] at h; exact absurd h (by decide)))
    · have hzI : ((zs.length : Int) == 0) = false := beq_eq_false_iff_ne.2 (by omega)
      have hkl : k < zs.length := by omega
      have Hr2 : Hid (r = lineLead zs k _ 119 arg op) := Hr.out.trans (lead_line hz (by decide))
      clear hz Hr
      obtain ⟨t, ht⟩ : ∃ t, t = iter (fun x => next zs x false) 1 k := ⟨_, rfl⟩
      have Ht : Hid (t = iter (fun x => next zs x false) 1 k) := ht
      have htk : (k : Int) < t := by rw [ht]; exact next_more false hl hkl _ (by omega)
      have htl : t ≤ (zs.length : Int) := by rw [ht]; exact (next_iter (zs := zs) (k := k) false hl (by omega) _).2
      have H1 : Hid (r.1 = if op = true then t else min t ((zs.length : Int) - 1)) := by rw [Hr2.out, ht]; rfl
      have H2 : Hid (r.2 = ((if op = true then t else min t ((zs.length : Int) - 1)) != (k : Int))) := by rw [Hr2.out, ht]; rfl
      clear Hr2 ht
      have HC : Hid (∀ M : Int, M = ((1 : Nat) : Int) → Calls Try.prog 20 #[.int .i64 M, .int .i64 (k : Int), .func (.func 23) #[] #[.pointer (some ⟨w.heap.size, 0, none⟩), .pointer (some ⟨w.heap.size + 1, 0, none⟩)]] W2 fun e w' => e = .returned (.int .i64 t) ∧ w' = W2) := by
        intro M hM
        subst hM
        rw [Ht.out]
        exact times_go 23 (fun x => next zs x false) (fun x => 0 ≤ x ∧ x ≤ (zs.length : Int)) w.heap.size (w.heap.size + 1) (k : Int) _ W2 (by omega) (by omega) ⟨by omega, by omega⟩ (fun x hx => by have := next_in (zs := zs) (b := false) hl hx.1 hx.2; exact ⟨this.1, this.2.1⟩) (fun x hx => fun23_go w.heap.size (w.heap.size + 1) a cap zs x 119 false W2 HR.out hl hx.1 (by omega) rfl b1 b2)
      have hmf : ∀ (fn : Fn) (first cap : Array Value) (w : World), (Instr.makeFunc fn first cap).run Try.prog w = .ok (.func fn first cap) w := fun _ _ _ _ => rfl
      cases op with
      | true =>
        have H3 : Hid (r.1 = t) := H1.out
        have Hz : Hid (r.2 = true) := by
          have h := H2.out
          rw [if_pos rfl] at h
          rw [h]
          exact bne_iff_ne.2 (by omega)
        have htb : (t == (k : Int)) = false := beq_eq_false_iff_ne.2 (by omega)
        clear H1 H2
        go_wp2_with fail
        refine (HC.out _ (by first | rfl | omega)).mono ?_
        rintro e w1 ⟨rfl, hw1⟩
        rw [hw1]
        clear hw1 w1 HC
        go_wp2_with fail
        all_goals (
          go_ret3
          exact RefLead.mk HB2.out (by rw [Hz.out]; rfl) (fun _ => ⟨H3.out.symm, rfl⟩))
      | false =>
        by_cases ht2 : t ≤ (zs.length : Int) - 1
        · have H3 : Hid (r.1 = t) := by
            have h := H1.out
            rw [if_neg (by decide)] at h
            exact h.trans (by omega)
          have Hz : Hid (r.2 = true) := by
            have h := H2.out
            rw [if_neg (by decide)] at h
            rw [h]
            exact bne_iff_ne.2 (by omega)
          have htb : (t == (k : Int)) = false := beq_eq_false_iff_ne.2 (by omega)
          clear H1 H2
          go_wp2_with fail
          refine (HC.out _ (by first | rfl | omega)).mono ?_
          rintro e w1 ⟨rfl, hw1⟩
          rw [hw1]
          clear hw1 w1 HC
          go_wp2_with fail
          all_goals (
            go_ret3
            exact RefLead.mk HB2.out (by rw [Hz.out]; rfl) (fun _ => ⟨H3.out.symm, rfl⟩))
        · have ht3 : (zs.length : Int) - 1 < t := by omega
          have H3 : Hid (r.1 = (zs.length : Int) - 1) := by
            have h := H1.out
            rw [if_neg (by decide)] at h
            exact h.trans (by omega)
          have H4 : Hid (r.2 = ((zs.length : Int) - 1 != (k : Int))) := by
            have h := H2.out
            rw [if_neg (by decide)] at h
            rw [h]
            exact congrArg (fun q => q != (k : Int)) (by omega)
          clear H1 H2 ht2
          by_cases hlast : (zs.length : Int) - 1 = (k : Int)
          · have hlb : ((zs.length : Int) - 1 == (k : Int)) = true := by simpa using hlast
            have Hz : Hid (r.2 = false) := by
              rw [H4.out]
              unfold bne
              rw [hlb]
              rfl
            clear hlast H4
            go_wp2_with fail
            refine (HC.out _ (by first | rfl | omega)).mono ?_
            rintro e w1 ⟨rfl, hw1⟩
            rw [hw1]
            clear hw1 w1 HC
            go_wp2_with fail
            all_goals (
              go_ret3
              exact RefLead.mk HB2.out (by rw [Hz.out]; rfl) (fun h => by rw [Hz.out] at h; exact absurd h (by decide)))
          · have hlb : ((zs.length : Int) - 1 == (k : Int)) = false := beq_eq_false_iff_ne.2 hlast
            have Hz : Hid (r.2 = true) := by
              rw [H4.out]
              unfold bne
              rw [hlb]
              rfl
            clear hlast H4
            go_wp2_with fail
            refine (HC.out _ (by first | rfl | omega)).mono ?_
            rintro e w1 ⟨rfl, hw1⟩
            rw [hw1]
            clear hw1 w1 HC
            go_wp2_with fail
            all_goals (
              go_ret3
              exact RefLead.mk HB2.out (by rw [Hz.out]; rfl) (fun _ => ⟨H3.out.symm, rfl⟩))
  · go_enter Try.func11, Try.ntmps11
    go_wp2_with fail
    generalize (w.alloc (.cells #[Value.slice a zs.length cap] 22)).alloc (.cells #[.int .i64 119, .int .i64 (n : Int), .int .i64 arg] 24) = W at *
    obtain ⟨b1, b2, b3, b4, hB, hS⟩ := HX.out
    have HB : Hid (Below w.heap.size w W) := hB
    have HS : Hid (w.heap.size + 1 < (W.drewN 0).heap.size) := hS
    clear hB HX hS
    go_quiet (fail)
    obtain ⟨hd1, hd2⟩ := drewN_kept W nq
    rw [← hd1] at b1 b2 b3 b4
    have HB2 : Hid (Below w.heap.size w (W.drewN nq)) := hd2 _ _ HB.out
    have HS2 : Hid (w.heap.size + 1 < (W.drewN nq).heap.size) := HS.out
    clear HS
    generalize W.drewN nq = W2 at *
    clear hd1 hd2 HB
    have HR : Hid (Reads W2 (.slice a zs.length cap) zs) := Hp.out.below HB2.out
    by_cases hz : zs.length = 0
    · have Hz : Hid (r.2 = false) := congrArg Prod.snd (Hr.out.trans (lead_none hz (by decide)))
      have hzI : ((zs.length : Int) == 0) = true := by rw [hz]; rfl
      clear hz Hr
      go_wp2_with fail
      all_goals (
        go_ret3
        exact RefLead.mk HB2.out (by rw [Hz.out]; rfl) (fun h => by rw [Hz.out] at h; exact absurd h (by decide)))
    · have hzI : ((zs.length : Int) == 0) = false := beq_eq_false_iff_ne.2 (by omega)
      have hkl : k < zs.length := by omega
      have Hr2 : Hid (r = lineLead zs k _ 119 arg op) := Hr.out.trans (lead_line hz (by decide))
      clear hz Hr
      obtain ⟨t, ht⟩ : ∃ t, t = iter (fun x => next zs x false) n k := ⟨_, rfl⟩
      have Ht : Hid (t = iter (fun x => next zs x false) n k) := ht
      have htk : (k : Int) < t := by rw [ht]; exact next_more false hl hkl _ (by omega)
      have htl : t ≤ (zs.length : Int) := by rw [ht]; exact (next_iter (zs := zs) (k := k) false hl (by omega) _).2
      have H1 : Hid (r.1 = if op = true then t else min t ((zs.length : Int) - 1)) := by rw [Hr2.out, ht]; rfl
      have H2 : Hid (r.2 = ((if op = true then t else min t ((zs.length : Int) - 1)) != (k : Int))) := by rw [Hr2.out, ht]; rfl
      clear Hr2 ht
      have HC : Hid (∀ M : Int, M = (n : Int) → Calls Try.prog 20 #[.int .i64 M, .int .i64 (k : Int), .func (.func 23) #[] #[.pointer (some ⟨w.heap.size, 0, none⟩), .pointer (some ⟨w.heap.size + 1, 0, none⟩)]] W2 fun e w' => e = .returned (.int .i64 t) ∧ w' = W2) := by
        intro M hM
        subst hM
        rw [Ht.out]
        exact times_go 23 (fun x => next zs x false) (fun x => 0 ≤ x ∧ x ≤ (zs.length : Int)) w.heap.size (w.heap.size + 1) (k : Int) _ W2 (by omega) (by omega) ⟨by omega, by omega⟩ (fun x hx => by have := next_in (zs := zs) (b := false) hl hx.1 hx.2; exact ⟨this.1, this.2.1⟩) (fun x hx => fun23_go w.heap.size (w.heap.size + 1) a cap zs x 119 false W2 HR.out hl hx.1 (by omega) rfl b1 b2)
      have hmf : ∀ (fn : Fn) (first cap : Array Value) (w : World), (Instr.makeFunc fn first cap).run Try.prog w = .ok (.func fn first cap) w := fun _ _ _ _ => rfl
      cases op with
      | true =>
        have H3 : Hid (r.1 = t) := H1.out
        have Hz : Hid (r.2 = true) := by
          have h := H2.out
          rw [if_pos rfl] at h
          rw [h]
          exact bne_iff_ne.2 (by omega)
        have htb : (t == (k : Int)) = false := beq_eq_false_iff_ne.2 (by omega)
        clear H1 H2
        go_wp2_with fail
        refine (HC.out _ (by first | rfl | omega)).mono ?_
        rintro e w1 ⟨rfl, hw1⟩
        rw [hw1]
        clear hw1 w1 HC
        go_wp2_with fail
        all_goals (
          go_ret3
          exact RefLead.mk HB2.out (by rw [Hz.out]; rfl) (fun _ => ⟨H3.out.symm, rfl⟩))
      | false =>
        by_cases ht2 : t ≤ (zs.length : Int) - 1
        · have H3 : Hid (r.1 = t) := by
            have h := H1.out
            rw [if_neg (by decide)] at h
            exact h.trans (by omega)
          have Hz : Hid (r.2 = true) := by
            have h := H2.out
            rw [if_neg (by decide)] at h
            rw [h]
            exact bne_iff_ne.2 (by omega)
          have htb : (t == (k : Int)) = false := beq_eq_false_iff_ne.2 (by omega)
          clear H1 H2
          go_wp2_with fail
          refine (HC.out _ (by first | rfl | omega)).mono ?_
          rintro e w1 ⟨rfl, hw1⟩
          rw [hw1]
          clear hw1 w1 HC
          go_wp2_with fail
          all_goals (
            go_ret3
            exact RefLead.mk HB2.out (by rw [Hz.out]; rfl) (fun _ => ⟨H3.out.symm, rfl⟩))
        · have ht3 : (zs.length : Int) - 1 < t := by omega
          have H3 : Hid (r.1 = (zs.length : Int) - 1) := by
            have h := H1.out
            rw [if_neg (by decide)] at h
            exact h.trans (by omega)
          have H4 : Hid (r.2 = ((zs.length : Int) - 1 != (k : Int))) := by
            have h := H2.out
            rw [if_neg (by decide)] at h
            rw [h]
            exact congrArg (fun q => q != (k : Int)) (by omega)
          clear H1 H2 ht2
          by_cases hlast : (zs.length : Int) - 1 = (k : Int)
          · have hlb : ((zs.length : Int) - 1 == (k : Int)) = true := by simpa using hlast
            have Hz : Hid (r.2 = false) := by
              rw [H4.out]
              unfold bne
              rw [hlb]
              rfl
            clear hlast H4
            go_wp2_with fail
            refine (HC.out _ (by first | rfl | omega)).mono ?_
            rintro e w1 ⟨rfl, hw1⟩
            rw [hw1]
            clear hw1 w1 HC
            go_wp2_with fail
            all_goals (
              go_ret3
              exact RefLead.mk HB2.out (by rw [Hz.out]; rfl) (fun h => by rw [Hz.out] at h; exact absurd h (by decide)))
          · have hlb : ((zs.length : Int) - 1 == (k : Int)) = false := beq_eq_false_iff_ne.2 hlast
            have Hz : Hid (r.2 = true) := by
              rw [H4.out]
              unfold bne
              rw [hlb]
              rfl
            clear hlast H4
            go_wp2_with fail
            refine (HC.out _ (by first | rfl | omega)).mono ?_
            rintro e w1 ⟨rfl, hw1⟩
            rw [hw1]
            clear hw1 w1 HC
            go_wp2_with fail
            all_goals (
              go_ret3
              exact RefLead.mk HB2.out (by rw [Hz.out]; rfl) (fun _ => ⟨H3.out.symm, rfl⟩))

set_option maxHeartbeats 2000000 in
set_option maxRecDepth 100000 in
theorem ref_87 (v : Value) (zs : List Int) (k n : Nat) (c arg : Int) (op : Bool) (w : World) (hp : Reads w v zs) (hl : zs.length ≤ 4096) (hk : k ≤ zs.length - 1) (hn1 : 1 ≤ n) (hn9 : n ≤ 999) (hn : (c = 0 ∧ n = 1) ∨ (((n : Int) == 0) = false ∧ c = (n : Int))) :
    Calls Try.prog 11 #[v, .int .i64 (k : Int), .agg #[.int .i64 87, .int .i64 c, .int .i64 arg], .bool op] w fun e w' => RefLead (lead zs k n 87 arg op) (wth 87) w e w' := by
  obtain ⟨a, cap, rfl⟩ := hp.shape
  have Hp : Hid (Reads w (.slice a zs.length cap) zs) := hp
  have hk9 : (k : Int) ≤ 4096 := by omega
  have hl9 : (zs.length : Int) ≤ 4096 := by omega
  have hW : wth 87 = false := by decide
  rw [hW]
  clear hp hW
  obtain ⟨r, hr⟩ : ∃ r, r = lead zs k n 87 arg op := ⟨_, rfl⟩
  rw [← hr]
  have Hr : Hid (r = lead zs k n 87 arg op) := hr
  clear hr
  have HX : Hid _ := ref_boxes w (.slice a zs.length cap) (.int .i64 87) (.int .i64 c) (.int .i64 arg)
  rcases hn with ⟨rfl, rfl⟩ | ⟨hnb, rfl⟩
  · go_enter Try.func11, Try.ntmps11
    go_wp2_with fail
    generalize (w.alloc (.cells #[Value.slice a zs.length cap] 22)).alloc (.cells #[.int .i64 87, .int .i64 0, .int .i64 arg] 24) = W at *
    obtain ⟨b1, b2, b3, b4, hB, hS⟩ := HX.out
    have HB : Hid (Below w.heap.size w W) := hB
    have HS : Hid (w.heap.size + 1 < (W.drewN 0).heap.size) := hS
    clear hB HX hS
    go_quiet (fail)
    obtain ⟨hd1, hd2⟩ := drewN_kept W nq
    rw [← hd1] at b1 b2 b3 b4
    have HB2 : Hid (Below w.heap.size w (W.drewN nq)) := hd2 _ _ HB.out
    have HS2 : Hid (w.heap.size + 1 < (W.drewN nq).heap.size) := HS.out
    clear HS
    generalize W.drewN nq = W2 at *
    clear hd1 hd2 HB
    have HR : Hid (Reads W2 (.slice a zs.length cap) zs) := Hp.out.below HB2.out
    by_cases hz : zs.length = 0
    · have Hz : Hid (r.2 = false) := congrArg Prod.snd (Hr.out.trans (lead_none hz (by decide)))
      have hzI : ((zs.length : Int) == 0) = true := by rw [hz]; rfl
      clear hz Hr
      go_wp2_with fail
      all_goals (
        go_ret3
        exact RefLead.mk HB2.out (by rw [Hz.out]; rfl) (fun h => by rw [Hz.out] at h; exact absurd h (by decide)))
    · have hzI : ((zs.length : Int) == 0) = false := beq_eq_false_iff_ne.2 (by omega)
      have hkl : k < zs.length := by omega
      have Hr2 : Hid (r = lineLead zs k _ 87 arg op) := Hr.out.trans (lead_line hz (by decide))
      clear hz Hr
      obtain ⟨t, ht⟩ : ∃ t, t = iter (fun x => next zs x true) 1 k := ⟨_, rfl⟩
      have Ht : Hid (t = iter (fun x => next zs x true) 1 k) := ht
      have htk : (k : Int) < t := by rw [ht]; exact next_more true hl hkl _ (by omega)
      have htl : t ≤ (zs.length : Int) := by rw [ht]; exact (next_iter (zs := zs) (k := k) true hl (by omega) _).2
      have H1 : Hid (r.1 = if op = true then t else min t ((zs.length : Int) - 1)) := by rw [Hr2.out, ht]; rfl
      have H2 : Hid (r.2 = ((if op = true then t else min t ((zs.length : Int) - 1)) != (k : Int))) := by rw [Hr2.out, ht]; rfl
      clear Hr2 ht
      have HC : Hid (∀ M : Int, M = ((1 : Nat) : Int) → Calls Try.prog 20 #[.int .i64 M, .int .i64 (k : Int), .func (.func 23) #[] #[.pointer (some ⟨w.heap.size, 0, none⟩), .pointer (some ⟨w.heap.size + 1, 0, none⟩)]] W2 fun e w' => e = .returned (.int .i64 t) ∧ w' = W2) := by
        intro M hM
        subst hM
        rw [Ht.out]
        exact times_go 23 (fun x => next zs x true) (fun x => 0 ≤ x ∧ x ≤ (zs.length : Int)) w.heap.size (w.heap.size + 1) (k : Int) _ W2 (by omega) (by omega) ⟨by omega, by omega⟩ (fun x hx => by have := next_in (zs := zs) (b := true) hl hx.1 hx.2; exact ⟨this.1, this.2.1⟩) (fun x hx => fun23_go w.heap.size (w.heap.size + 1) a cap zs x 87 true W2 HR.out hl hx.1 (by omega) rfl b1 b2)
      have hmf : ∀ (fn : Fn) (first cap : Array Value) (w : World), (Instr.makeFunc fn first cap).run Try.prog w = .ok (.func fn first cap) w := fun _ _ _ _ => rfl
      cases op with
      | true =>
        have H3 : Hid (r.1 = t) := H1.out
        have Hz : Hid (r.2 = true) := by
          have h := H2.out
          rw [if_pos rfl] at h
          rw [h]
          exact bne_iff_ne.2 (by omega)
        have htb : (t == (k : Int)) = false := beq_eq_false_iff_ne.2 (by omega)
        clear H1 H2
        go_wp2_with fail
        refine (HC.out _ (by first | rfl | omega)).mono ?_
        rintro e w1 ⟨rfl, hw1⟩
        rw [hw1]
        clear hw1 w1 HC
        go_wp2_with fail
        all_goals (
          go_ret3
          exact RefLead.mk HB2.out (by rw [Hz.out]; rfl) (fun _ => ⟨H3.out.symm, rfl⟩))
      | false =>
        by_cases ht2 : t ≤ (zs.length : Int) - 1
        · have H3 : Hid (r.1 = t) := by
            have h := H1.out
            rw [if_neg (by decide)] at h
            exact h.trans (by omega)
          have Hz : Hid (r.2 = true) := by
            have h := H2.out
            rw [if_neg (by decide)] at h
            rw [h]
            exact bne_iff_ne.2 (by omega)
          have htb : (t == (k : Int)) = false := beq_eq_false_iff_ne.2 (by omega)
          clear H1 H2
          go_wp2_with fail
          refine (HC.out _ (by first | rfl | omega)).mono ?_
          rintro e w1 ⟨rfl, hw1⟩
          rw [hw1]
          clear hw1 w1 HC
          go_wp2_with fail
          all_goals (
            go_ret3
            exact RefLead.mk HB2.out (by rw [Hz.out]; rfl) (fun _ => ⟨H3.out.symm, rfl⟩))
        · have ht3 : (zs.length : Int) - 1 < t := by omega
          have H3 : Hid (r.1 = (zs.length : Int) - 1) := by
            have h := H1.out
            rw [if_neg (by decide)] at h
            exact h.trans (by omega)
          have H4 : Hid (r.2 = ((zs.length : Int) - 1 != (k : Int))) := by
            have h := H2.out
            rw [if_neg (by decide)] at h
            rw [h]
            exact congrArg (fun q => q != (k : Int)) (by omega)
          clear H1 H2 ht2
          by_cases hlast : (zs.length : Int) - 1 = (k : Int)
          · have hlb : ((zs.length : Int) - 1 == (k : Int)) = true := by simpa using hlast
            have Hz : Hid (r.2 = false) := by
              rw [H4.out]
              unfold bne
              rw [hlb]
              rfl
            clear hlast H4
            go_wp2_with fail
            refine (HC.out _ (by first | rfl | omega)).mono ?_
            rintro e w1 ⟨rfl, hw1⟩
            rw [hw1]
            clear hw1 w1 HC
            go_wp2_with fail
            all_goals (
              go_ret3
              exact RefLead.mk HB2.out (by rw [Hz.out]; rfl) (fun h => by rw [Hz.out] at h; exact absurd h (by decide)))
          · have hlb : ((zs.length : Int) - 1 == (k : Int)) = false := beq_eq_false_iff_ne.2 hlast
            have Hz : Hid (r.2 = true) := by
              rw [H4.out]
              unfold bne
              rw [hlb]
              rfl
            clear hlast H4
            go_wp2_with fail
            refine (HC.out _ (by first | rfl | omega)).mono ?_
            rintro e w1 ⟨rfl, hw1⟩
            rw [hw1]
            clear hw1 w1 HC
            go_wp2_with fail
            all_goals (
              go_ret3
              exact RefLead.mk HB2.out (by rw [Hz.out]; rfl) (fun _ => ⟨H3.out.symm, rfl⟩))
  · go_enter Try.func11, Try.ntmps11
    go_wp2_with fail
    generalize (w.alloc (.cells #[Value.slice a zs.length cap] 22)).alloc (.cells #[.int .i64 87, .int .i64 (n : Int), .int .i64 arg] 24) = W at *
    obtain ⟨b1, b2, b3, b4, hB, hS⟩ := HX.out
    have HB : Hid (Below w.heap.size w W) := hB
    have HS : Hid (w.heap.size + 1 < (W.drewN 0).heap.size) := hS
    clear hB HX hS
    go_quiet (fail)
    obtain ⟨hd1, hd2⟩ := drewN_kept W nq
    rw [← hd1] at b1 b2 b3 b4
    have HB2 : Hid (Below w.heap.size w (W.drewN nq)) := hd2 _ _ HB.out
    have HS2 : Hid (w.heap.size + 1 < (W.drewN nq).heap.size) := HS.out
    clear HS
    generalize W.drewN nq = W2 at *
    clear hd1 hd2 HB
    have HR : Hid (Reads W2 (.slice a zs.length cap) zs) := Hp.out.below HB2.out
    by_cases hz : zs.length = 0
    · have Hz : Hid (r.2 = false) := congrArg Prod.snd (Hr.out.trans (lead_none hz (by decide)))
      have hzI : ((zs.length : Int) == 0) = true := by rw [hz]; rfl
      clear hz Hr
      go_wp2_with fail
      all_goals (
        go_ret3
        exact RefLead.mk HB2.out (by rw [Hz.out]; rfl) (fun h => by rw [Hz.out] at h; exact absurd h (by decide)))
    · have hzI : ((zs.length : Int) == 0) = false := beq_eq_false_iff_ne.2 (by omega)
      have hkl : k < zs.length := by omega
      have Hr2 : Hid (r = lineLead zs k _ 87 arg op) := Hr.out.trans (lead_line hz (by decide))
      clear hz Hr
      obtain ⟨t, ht⟩ : ∃ t, t = iter (fun x => next zs x true) n k := ⟨_, rfl⟩
      have Ht : Hid (t = iter (fun x => next zs x true) n k) := ht
      have htk : (k : Int) < t := by rw [ht]; exact next_more true hl hkl _ (by omega)
      have htl : t ≤ (zs.length : Int) := by rw [ht]; exact (next_iter (zs := zs) (k := k) true hl (by omega) _).2
      have H1 : Hid (r.1 = if op = true then t else min t ((zs.length : Int) - 1)) := by rw [Hr2.out, ht]; rfl
      have H2 : Hid (r.2 = ((if op = true then t else min t ((zs.length : Int) - 1)) != (k : Int))) := by rw [Hr2.out, ht]; rfl
      clear Hr2 ht
      have HC : Hid (∀ M : Int, M = (n : Int) → Calls Try.prog 20 #[.int .i64 M, .int .i64 (k : Int), .func (.func 23) #[] #[.pointer (some ⟨w.heap.size, 0, none⟩), .pointer (some ⟨w.heap.size + 1, 0, none⟩)]] W2 fun e w' => e = .returned (.int .i64 t) ∧ w' = W2) := by
        intro M hM
        subst hM
        rw [Ht.out]
        exact times_go 23 (fun x => next zs x true) (fun x => 0 ≤ x ∧ x ≤ (zs.length : Int)) w.heap.size (w.heap.size + 1) (k : Int) _ W2 (by omega) (by omega) ⟨by omega, by omega⟩ (fun x hx => by have := next_in (zs := zs) (b := true) hl hx.1 hx.2; exact ⟨this.1, this.2.1⟩) (fun x hx => fun23_go w.heap.size (w.heap.size + 1) a cap zs x 87 true W2 HR.out hl hx.1 (by omega) rfl b1 b2)
      have hmf : ∀ (fn : Fn) (first cap : Array Value) (w : World), (Instr.makeFunc fn first cap).run Try.prog w = .ok (.func fn first cap) w := fun _ _ _ _ => rfl
      cases op with
      | true =>
        have H3 : Hid (r.1 = t) := H1.out
        have Hz : Hid (r.2 = true) := by
          have h := H2.out
          rw [if_pos rfl] at h
          rw [h]
          exact bne_iff_ne.2 (by omega)
        have htb : (t == (k : Int)) = false := beq_eq_false_iff_ne.2 (by omega)
        clear H1 H2
        go_wp2_with fail
        refine (HC.out _ (by first | rfl | omega)).mono ?_
        rintro e w1 ⟨rfl, hw1⟩
        rw [hw1]
        clear hw1 w1 HC
        go_wp2_with fail
        all_goals (
          go_ret3
          exact RefLead.mk HB2.out (by rw [Hz.out]; rfl) (fun _ => ⟨H3.out.symm, rfl⟩))
      | false =>
        by_cases ht2 : t ≤ (zs.length : Int) - 1
        · have H3 : Hid (r.1 = t) := by
            have h := H1.out
            rw [if_neg (by decide)] at h
            exact h.trans (by omega)
          have Hz : Hid (r.2 = true) := by
            have h := H2.out
            rw [if_neg (by decide)] at h
            rw [h]
            exact bne_iff_ne.2 (by omega)
          have htb : (t == (k : Int)) = false := beq_eq_false_iff_ne.2 (by omega)
          clear H1 H2
          go_wp2_with fail
          refine (HC.out _ (by first | rfl | omega)).mono ?_
          rintro e w1 ⟨rfl, hw1⟩
          rw [hw1]
          clear hw1 w1 HC
          go_wp2_with fail
          all_goals (
            go_ret3
            exact RefLead.mk HB2.out (by rw [Hz.out]; rfl) (fun _ => ⟨H3.out.symm, rfl⟩))
        · have ht3 : (zs.length : Int) - 1 < t := by omega
          have H3 : Hid (r.1 = (zs.length : Int) - 1) := by
            have h := H1.out
            rw [if_neg (by decide)] at h
            exact h.trans (by omega)
          have H4 : Hid (r.2 = ((zs.length : Int) - 1 != (k : Int))) := by
            have h := H2.out
            rw [if_neg (by decide)] at h
            rw [h]
            exact congrArg (fun q => q != (k : Int)) (by omega)
          clear H1 H2 ht2
          by_cases hlast : (zs.length : Int) - 1 = (k : Int)
          · have hlb : ((zs.length : Int) - 1 == (k : Int)) = true := by simpa using hlast
            have Hz : Hid (r.2 = false) := by
              rw [H4.out]
              unfold bne
              rw [hlb]
              rfl
            clear hlast H4
            go_wp2_with fail
            refine (HC.out _ (by first | rfl | omega)).mono ?_
            rintro e w1 ⟨rfl, hw1⟩
            rw [hw1]
            clear hw1 w1 HC
            go_wp2_with fail
            all_goals (
              go_ret3
              exact RefLead.mk HB2.out (by rw [Hz.out]; rfl) (fun h => by rw [Hz.out] at h; exact absurd h (by decide)))
          · have hlb : ((zs.length : Int) - 1 == (k : Int)) = false := beq_eq_false_iff_ne.2 hlast
            have Hz : Hid (r.2 = true) := by
              rw [H4.out]
              unfold bne
              rw [hlb]
              rfl
            clear hlast H4
            go_wp2_with fail
            refine (HC.out _ (by first | rfl | omega)).mono ?_
            rintro e w1 ⟨rfl, hw1⟩
            rw [hw1]
            clear hw1 w1 HC
            go_wp2_with fail
            all_goals (
              go_ret3
              exact RefLead.mk HB2.out (by rw [Hz.out]; rfl) (fun _ => ⟨H3.out.symm, rfl⟩))

set_option maxHeartbeats 2000000 in
set_option maxRecDepth 100000 in
theorem ref_101 (v : Value) (zs : List Int) (k n : Nat) (c arg : Int) (op : Bool) (w : World) (hp : Reads w v zs) (hl : zs.length ≤ 4096) (hk : k ≤ zs.length - 1) (hn1 : 1 ≤ n) (hn9 : n ≤ 999) (hn : (c = 0 ∧ n = 1) ∨ (((n : Int) == 0) = false ∧ c = (n : Int))) :
    Calls Try.prog 11 #[v, .int .i64 (k : Int), .agg #[.int .i64 101, .int .i64 c, .int .i64 arg], .bool op] w fun e w' => RefLead (lead zs k n 101 arg op) (wth 101) w e w' := by
  obtain ⟨a, cap, rfl⟩ := hp.shape
  have Hp : Hid (Reads w (.slice a zs.length cap) zs) := hp
  have hk9 : (k : Int) ≤ 4096 := by omega
  have hl9 : (zs.length : Int) ≤ 4096 := by omega
  have hW : wth 101 = true := by decide
  rw [hW]
  clear hp hW
  obtain ⟨r, hr⟩ : ∃ r, r = lead zs k n 101 arg op := ⟨_, rfl⟩
  rw [← hr]
  have Hr : Hid (r = lead zs k n 101 arg op) := hr
  clear hr
  have HX : Hid _ := ref_boxes w (.slice a zs.length cap) (.int .i64 101) (.int .i64 c) (.int .i64 arg)
  rcases hn with ⟨rfl, rfl⟩ | ⟨hnb, rfl⟩
  · go_enter Try.func11, Try.ntmps11
    go_wp2_with fail
    generalize (w.alloc (.cells #[Value.slice a zs.length cap] 22)).alloc (.cells #[.int .i64 101, .int .i64 0, .int .i64 arg] 24) = W at *
    obtain ⟨b1, b2, b3, b4, hB, hS⟩ := HX.out
    have HB : Hid (Below w.heap.size w W) := hB
    have HS : Hid (w.heap.size + 1 < (W.drewN 0).heap.size) := hS
    clear hB HX hS
    go_quiet (fail)
    obtain ⟨hd1, hd2⟩ := drewN_kept W nq
    rw [← hd1] at b1 b2 b3 b4
    have HB2 : Hid (Below w.heap.size w (W.drewN nq)) := hd2 _ _ HB.out
    have HS2 : Hid (w.heap.size + 1 < (W.drewN nq).heap.size) := HS.out
    clear HS
    generalize W.drewN nq = W2 at *
    clear hd1 hd2 HB
    have HR : Hid (Reads W2 (.slice a zs.length cap) zs) := Hp.out.below HB2.out
    by_cases hz : zs.length = 0
    · have Hz : Hid (r.2 = false) := congrArg Prod.snd (Hr.out.trans (lead_none hz (by decide)))
      have hzI : ((zs.length : Int) == 0) = true := by rw [hz]; rfl
      clear hz Hr
      go_wp2_with fail
      all_goals (
        go_ret3
        exact RefLead.mk HB2.out (by rw [Hz.out]; rfl) (fun h => by rw [Hz.out] at h; exact absurd h (by decide)))
    · have hzI : ((zs.length : Int) == 0) = false := beq_eq_false_iff_ne.2 (by omega)
      have hkl : k < zs.length := by omega
      have Hr2 : Hid (r = lineLead zs k _ 101 arg op) := Hr.out.trans (lead_line hz (by decide))
      clear hz Hr
      obtain ⟨t, ht⟩ : ∃ t, t = iter (fun x => last zs x false) 1 k := ⟨_, rfl⟩
      have Ht : Hid (t = iter (fun x => last zs x false) 1 k) := ht
      have H1 : Hid (r.1 = t) := by rw [Hr2.out, ht]; rfl
      have H2 : Hid (r.2 = (op || t != (k : Int))) := by rw [Hr2.out, ht]; rfl
      clear Hr2 ht
      have HC : Hid (∀ M : Int, M = ((1 : Nat) : Int) → Calls Try.prog 20 #[.int .i64 M, .int .i64 (k : Int), .func (.func 25) #[] #[.pointer (some ⟨w.heap.size, 0, none⟩), .pointer (some ⟨w.heap.size + 1, 0, none⟩)]] W2 fun e w' => e = .returned (.int .i64 t) ∧ w' = W2) := by
        intro M hM
        subst hM
        rw [Ht.out]
        exact times_go 25 (fun x => last zs x false) (fun x => 0 ≤ x ∧ x ≤ (zs.length : Int)) w.heap.size (w.heap.size + 1) (k : Int) _ W2 (by omega) (by omega) ⟨by omega, by omega⟩ (fun x hx => by have := last_in (zs := zs) (b := false) hl (by omega) hx.1 hx.2; exact ⟨this.1, by omega⟩) (fun x hx => fun25_go w.heap.size (w.heap.size + 1) a cap zs x 101 false W2 HR.out hl hx.1 (by omega) rfl b1 b2)
      have hmf : ∀ (fn : Fn) (first cap : Array Value) (w : World), (Instr.makeFunc fn first cap).run Try.prog w = .ok (.func fn first cap) w := fun _ _ _ _ => rfl
      by_cases htk : t = (k : Int)
      · have htb : (t == (k : Int)) = true := by simpa using htk
        cases op with
        | true =>
          have Hz : Hid (r.2 = true) := H2.out
          clear H2 htk
          go_wp2_with fail
          refine (HC.out _ (by first | rfl | omega)).mono ?_
          rintro e w1 ⟨rfl, hw1⟩
          rw [hw1]
          clear hw1 w1 HC
          go_wp2_with fail
          all_goals (
            go_ret3
            exact RefLead.mk HB2.out (by rw [Hz.out]; rfl) (fun _ => ⟨H1.out.symm, rfl⟩))
        | false =>
          have Hz : Hid (r.2 = false) := by
            rw [H2.out]
            unfold bne
            rw [htb]
            rfl
          clear H2 htk
          go_wp2_with fail
          refine (HC.out _ (by first | rfl | omega)).mono ?_
          rintro e w1 ⟨rfl, hw1⟩
          rw [hw1]
          clear hw1 w1 HC
          go_wp2_with fail
          all_goals (
            go_ret3
            exact RefLead.mk HB2.out (by rw [Hz.out]; rfl) (fun h => by rw [Hz.out] at h; exact absurd h (by decide)))
      · have htb : (t == (k : Int)) = false := beq_eq_false_iff_ne.2 htk
        have Hz : Hid (r.2 = true) := by
          rw [H2.out]
          unfold bne
          rw [htb]
          exact Bool.or_true _
        clear H2 htk
        go_wp2_with fail
        refine (HC.out _ (by first | rfl | omega)).mono ?_
        rintro e w1 ⟨rfl, hw1⟩
        rw [hw1]
        clear hw1 w1 HC
        go_wp2_with fail
        all_goals (
          go_ret3
          exact RefLead.mk HB2.out (by rw [Hz.out]; rfl) (fun _ => ⟨H1.out.symm, rfl⟩))
  · go_enter Try.func11, Try.ntmps11
    go_wp2_with fail
    generalize (w.alloc (.cells #[Value.slice a zs.length cap] 22)).alloc (.cells #[.int .i64 101, .int .i64 (n : Int), .int .i64 arg] 24) = W at *
    obtain ⟨b1, b2, b3, b4, hB, hS⟩ := HX.out
    have HB : Hid (Below w.heap.size w W) := hB
    have HS : Hid (w.heap.size + 1 < (W.drewN 0).heap.size) := hS
    clear hB HX hS
    go_quiet (fail)
    obtain ⟨hd1, hd2⟩ := drewN_kept W nq
    rw [← hd1] at b1 b2 b3 b4
    have HB2 : Hid (Below w.heap.size w (W.drewN nq)) := hd2 _ _ HB.out
    have HS2 : Hid (w.heap.size + 1 < (W.drewN nq).heap.size) := HS.out
    clear HS
    generalize W.drewN nq = W2 at *
    clear hd1 hd2 HB
    have HR : Hid (Reads W2 (.slice a zs.length cap) zs) := Hp.out.below HB2.out
    by_cases hz : zs.length = 0
    · have Hz : Hid (r.2 = false) := congrArg Prod.snd (Hr.out.trans (lead_none hz (by decide)))
      have hzI : ((zs.length : Int) == 0) = true := by rw [hz]; rfl
      clear hz Hr
      go_wp2_with fail
      all_goals (
        go_ret3
        exact RefLead.mk HB2.out (by rw [Hz.out]; rfl) (fun h => by rw [Hz.out] at h; exact absurd h (by decide)))
    · have hzI : ((zs.length : Int) == 0) = false := beq_eq_false_iff_ne.2 (by omega)
      have hkl : k < zs.length := by omega
      have Hr2 : Hid (r = lineLead zs k _ 101 arg op) := Hr.out.trans (lead_line hz (by decide))
      clear hz Hr
      obtain ⟨t, ht⟩ : ∃ t, t = iter (fun x => last zs x false) n k := ⟨_, rfl⟩
      have Ht : Hid (t = iter (fun x => last zs x false) n k) := ht
      have H1 : Hid (r.1 = t) := by rw [Hr2.out, ht]; rfl
      have H2 : Hid (r.2 = (op || t != (k : Int))) := by rw [Hr2.out, ht]; rfl
      clear Hr2 ht
      have HC : Hid (∀ M : Int, M = (n : Int) → Calls Try.prog 20 #[.int .i64 M, .int .i64 (k : Int), .func (.func 25) #[] #[.pointer (some ⟨w.heap.size, 0, none⟩), .pointer (some ⟨w.heap.size + 1, 0, none⟩)]] W2 fun e w' => e = .returned (.int .i64 t) ∧ w' = W2) := by
        intro M hM
        subst hM
        rw [Ht.out]
        exact times_go 25 (fun x => last zs x false) (fun x => 0 ≤ x ∧ x ≤ (zs.length : Int)) w.heap.size (w.heap.size + 1) (k : Int) _ W2 (by omega) (by omega) ⟨by omega, by omega⟩ (fun x hx => by have := last_in (zs := zs) (b := false) hl (by omega) hx.1 hx.2; exact ⟨this.1, by omega⟩) (fun x hx => fun25_go w.heap.size (w.heap.size + 1) a cap zs x 101 false W2 HR.out hl hx.1 (by omega) rfl b1 b2)
      have hmf : ∀ (fn : Fn) (first cap : Array Value) (w : World), (Instr.makeFunc fn first cap).run Try.prog w = .ok (.func fn first cap) w := fun _ _ _ _ => rfl
      by_cases htk : t = (k : Int)
      · have htb : (t == (k : Int)) = true := by simpa using htk
        cases op with
        | true =>
          have Hz : Hid (r.2 = true) := H2.out
          clear H2 htk
          go_wp2_with fail
          refine (HC.out _ (by first | rfl | omega)).mono ?_
          rintro e w1 ⟨rfl, hw1⟩
          rw [hw1]
          clear hw1 w1 HC
          go_wp2_with fail
          all_goals (
            go_ret3
            exact RefLead.mk HB2.out (by rw [Hz.out]; rfl) (fun _ => ⟨H1.out.symm, rfl⟩))
        | false =>
          have Hz : Hid (r.2 = false) := by
            rw [H2.out]
            unfold bne
            rw [htb]
            rfl
          clear H2 htk
          go_wp2_with fail
          refine (HC.out _ (by first | rfl | omega)).mono ?_
          rintro e w1 ⟨rfl, hw1⟩
          rw [hw1]
          clear hw1 w1 HC
          go_wp2_with fail
          all_goals (
            go_ret3
            exact RefLead.mk HB2.out (by rw [Hz.out]; rfl) (fun h => by rw [Hz.out] at h; exact absurd h (by decide)))
      · have htb : (t == (k : Int)) = false := beq_eq_false_iff_ne.2 htk
        have Hz : Hid (r.2 = true) := by
          rw [H2.out]
          unfold bne
          rw [htb]
          exact Bool.or_true _
        clear H2 htk
        go_wp2_with fail
        refine (HC.out _ (by first | rfl | omega)).mono ?_
        rintro e w1 ⟨rfl, hw1⟩
        rw [hw1]
        clear hw1 w1 HC
        go_wp2_with fail
        all_goals (
          go_ret3
          exact RefLead.mk HB2.out (by rw [Hz.out]; rfl) (fun _ => ⟨H1.out.symm, rfl⟩))

set_option maxHeartbeats 2000000 in
set_option maxRecDepth 100000 in
theorem ref_69 (v : Value) (zs : List Int) (k n : Nat) (c arg : Int) (op : Bool) (w : World) (hp : Reads w v zs) (hl : zs.length ≤ 4096) (hk : k ≤ zs.length - 1) (hn1 : 1 ≤ n) (hn9 : n ≤ 999) (hn : (c = 0 ∧ n = 1) ∨ (((n : Int) == 0) = false ∧ c = (n : Int))) :
    Calls Try.prog 11 #[v, .int .i64 (k : Int), .agg #[.int .i64 69, .int .i64 c, .int .i64 arg], .bool op] w fun e w' => RefLead (lead zs k n 69 arg op) (wth 69) w e w' := by
  obtain ⟨a, cap, rfl⟩ := hp.shape
  have Hp : Hid (Reads w (.slice a zs.length cap) zs) := hp
  have hk9 : (k : Int) ≤ 4096 := by omega
  have hl9 : (zs.length : Int) ≤ 4096 := by omega
  have hW : wth 69 = true := by decide
  rw [hW]
  clear hp hW
  obtain ⟨r, hr⟩ : ∃ r, r = lead zs k n 69 arg op := ⟨_, rfl⟩
  rw [← hr]
  have Hr : Hid (r = lead zs k n 69 arg op) := hr
  clear hr
  have HX : Hid _ := ref_boxes w (.slice a zs.length cap) (.int .i64 69) (.int .i64 c) (.int .i64 arg)
  rcases hn with ⟨rfl, rfl⟩ | ⟨hnb, rfl⟩
  · go_enter Try.func11, Try.ntmps11
    go_wp2_with fail
    generalize (w.alloc (.cells #[Value.slice a zs.length cap] 22)).alloc (.cells #[.int .i64 69, .int .i64 0, .int .i64 arg] 24) = W at *
    obtain ⟨b1, b2, b3, b4, hB, hS⟩ := HX.out
    have HB : Hid (Below w.heap.size w W) := hB
    have HS : Hid (w.heap.size + 1 < (W.drewN 0).heap.size) := hS
    clear hB HX hS
    go_quiet (fail)
    obtain ⟨hd1, hd2⟩ := drewN_kept W nq
    rw [← hd1] at b1 b2 b3 b4
    have HB2 : Hid (Below w.heap.size w (W.drewN nq)) := hd2 _ _ HB.out
    have HS2 : Hid (w.heap.size + 1 < (W.drewN nq).heap.size) := HS.out
    clear HS
    generalize W.drewN nq = W2 at *
    clear hd1 hd2 HB
    have HR : Hid (Reads W2 (.slice a zs.length cap) zs) := Hp.out.below HB2.out
    by_cases hz : zs.length = 0
    · have Hz : Hid (r.2 = false) := congrArg Prod.snd (Hr.out.trans (lead_none hz (by decide)))
      have hzI : ((zs.length : Int) == 0) = true := by rw [hz]; rfl
      clear hz Hr
      go_wp2_with fail
      all_goals (
        go_ret3
        exact RefLead.mk HB2.out (by rw [Hz.out]; rfl) (fun h => by rw [Hz.out] at h; exact absurd h (by decide)))
    · have hzI : ((zs.length : Int) == 0) = false := beq_eq_false_iff_ne.2 (by omega)
      have hkl : k < zs.length := by omega
      have Hr2 : Hid (r = lineLead zs k _ 69 arg op) := Hr.out.trans (lead_line hz (by decide))
      clear hz Hr
      obtain ⟨t, ht⟩ : ∃ t, t = iter (fun x => last zs x true) 1 k := ⟨_, rfl⟩
      have Ht : Hid (t = iter (fun x => last zs x true) 1 k) := ht
      have H1 : Hid (r.1 = t) := by rw [Hr2.out, ht]; rfl
      have H2 : Hid (r.2 = (op || t != (k : Int))) := by rw [Hr2.out, ht]; rfl
      clear Hr2 ht
      have HC : Hid (∀ M : Int, M = ((1 : Nat) : Int) → Calls Try.prog 20 #[.int .i64 M, .int .i64 (k : Int), .func (.func 25) #[] #[.pointer (some ⟨w.heap.size, 0, none⟩), .pointer (some ⟨w.heap.size + 1, 0, none⟩)]] W2 fun e w' => e = .returned (.int .i64 t) ∧ w' = W2) := by
        intro M hM
        subst hM
        rw [Ht.out]
        exact times_go 25 (fun x => last zs x true) (fun x => 0 ≤ x ∧ x ≤ (zs.length : Int)) w.heap.size (w.heap.size + 1) (k : Int) _ W2 (by omega) (by omega) ⟨by omega, by omega⟩ (fun x hx => by have := last_in (zs := zs) (b := true) hl (by omega) hx.1 hx.2; exact ⟨this.1, by omega⟩) (fun x hx => fun25_go w.heap.size (w.heap.size + 1) a cap zs x 69 true W2 HR.out hl hx.1 (by omega) rfl b1 b2)
      have hmf : ∀ (fn : Fn) (first cap : Array Value) (w : World), (Instr.makeFunc fn first cap).run Try.prog w = .ok (.func fn first cap) w := fun _ _ _ _ => rfl
      by_cases htk : t = (k : Int)
      · have htb : (t == (k : Int)) = true := by simpa using htk
        cases op with
        | true =>
          have Hz : Hid (r.2 = true) := H2.out
          clear H2 htk
          go_wp2_with fail
          refine (HC.out _ (by first | rfl | omega)).mono ?_
          rintro e w1 ⟨rfl, hw1⟩
          rw [hw1]
          clear hw1 w1 HC
          go_wp2_with fail
          all_goals (
            go_ret3
            exact RefLead.mk HB2.out (by rw [Hz.out]; rfl) (fun _ => ⟨H1.out.symm, rfl⟩))
        | false =>
          have Hz : Hid (r.2 = false) := by
            rw [H2.out]
            unfold bne
            rw [htb]
            rfl
          clear H2 htk
          go_wp2_with fail
          refine (HC.out _ (by first | rfl | omega)).mono ?_
          rintro e w1 ⟨rfl, hw1⟩
          rw [hw1]
          clear hw1 w1 HC
          go_wp2_with fail
          all_goals (
            go_ret3
            exact RefLead.mk HB2.out (by rw [Hz.out]; rfl) (fun h => by rw [Hz.out] at h; exact absurd h (by decide)))
      · have htb : (t == (k : Int)) = false := beq_eq_false_iff_ne.2 htk
        have Hz : Hid (r.2 = true) := by
          rw [H2.out]
          unfold bne
          rw [htb]
          exact Bool.or_true _
        clear H2 htk
        go_wp2_with fail
        refine (HC.out _ (by first | rfl | omega)).mono ?_
        rintro e w1 ⟨rfl, hw1⟩
        rw [hw1]
        clear hw1 w1 HC
        go_wp2_with fail
        all_goals (
          go_ret3
          exact RefLead.mk HB2.out (by rw [Hz.out]; rfl) (fun _ => ⟨H1.out.symm, rfl⟩))
  · go_enter Try.func11, Try.ntmps11
    go_wp2_with fail
    generalize (w.alloc (.cells #[Value.slice a zs.length cap] 22)).alloc (.cells #[.int .i64 69, .int .i64 (n : Int), .int .i64 arg] 24) = W at *
    obtain ⟨b1, b2, b3, b4, hB, hS⟩ := HX.out
    have HB : Hid (Below w.heap.size w W) := hB
    have HS : Hid (w.heap.size + 1 < (W.drewN 0).heap.size) := hS
    clear hB HX hS
    go_quiet (fail)
    obtain ⟨hd1, hd2⟩ := drewN_kept W nq
    rw [← hd1] at b1 b2 b3 b4
    have HB2 : Hid (Below w.heap.size w (W.drewN nq)) := hd2 _ _ HB.out
    have HS2 : Hid (w.heap.size + 1 < (W.drewN nq).heap.size) := HS.out
    clear HS
    generalize W.drewN nq = W2 at *
    clear hd1 hd2 HB
    have HR : Hid (Reads W2 (.slice a zs.length cap) zs) := Hp.out.below HB2.out
    by_cases hz : zs.length = 0
    · have Hz : Hid (r.2 = false) := congrArg Prod.snd (Hr.out.trans (lead_none hz (by decide)))
      have hzI : ((zs.length : Int) == 0) = true := by rw [hz]; rfl
      clear hz Hr
      go_wp2_with fail
      all_goals (
        go_ret3
        exact RefLead.mk HB2.out (by rw [Hz.out]; rfl) (fun h => by rw [Hz.out] at h; exact absurd h (by decide)))
    · have hzI : ((zs.length : Int) == 0) = false := beq_eq_false_iff_ne.2 (by omega)
      have hkl : k < zs.length := by omega
      have Hr2 : Hid (r = lineLead zs k _ 69 arg op) := Hr.out.trans (lead_line hz (by decide))
      clear hz Hr
      obtain ⟨t, ht⟩ : ∃ t, t = iter (fun x => last zs x true) n k := ⟨_, rfl⟩
      have Ht : Hid (t = iter (fun x => last zs x true) n k) := ht
      have H1 : Hid (r.1 = t) := by rw [Hr2.out, ht]; rfl
      have H2 : Hid (r.2 = (op || t != (k : Int))) := by rw [Hr2.out, ht]; rfl
      clear Hr2 ht
      have HC : Hid (∀ M : Int, M = (n : Int) → Calls Try.prog 20 #[.int .i64 M, .int .i64 (k : Int), .func (.func 25) #[] #[.pointer (some ⟨w.heap.size, 0, none⟩), .pointer (some ⟨w.heap.size + 1, 0, none⟩)]] W2 fun e w' => e = .returned (.int .i64 t) ∧ w' = W2) := by
        intro M hM
        subst hM
        rw [Ht.out]
        exact times_go 25 (fun x => last zs x true) (fun x => 0 ≤ x ∧ x ≤ (zs.length : Int)) w.heap.size (w.heap.size + 1) (k : Int) _ W2 (by omega) (by omega) ⟨by omega, by omega⟩ (fun x hx => by have := last_in (zs := zs) (b := true) hl (by omega) hx.1 hx.2; exact ⟨this.1, by omega⟩) (fun x hx => fun25_go w.heap.size (w.heap.size + 1) a cap zs x 69 true W2 HR.out hl hx.1 (by omega) rfl b1 b2)
      have hmf : ∀ (fn : Fn) (first cap : Array Value) (w : World), (Instr.makeFunc fn first cap).run Try.prog w = .ok (.func fn first cap) w := fun _ _ _ _ => rfl
      by_cases htk : t = (k : Int)
      · have htb : (t == (k : Int)) = true := by simpa using htk
        cases op with
        | true =>
          have Hz : Hid (r.2 = true) := H2.out
          clear H2 htk
          go_wp2_with fail
          refine (HC.out _ (by first | rfl | omega)).mono ?_
          rintro e w1 ⟨rfl, hw1⟩
          rw [hw1]
          clear hw1 w1 HC
          go_wp2_with fail
          all_goals (
            go_ret3
            exact RefLead.mk HB2.out (by rw [Hz.out]; rfl) (fun _ => ⟨H1.out.symm, rfl⟩))
        | false =>
          have Hz : Hid (r.2 = false) := by
            rw [H2.out]
            unfold bne
            rw [htb]
            rfl
          clear H2 htk
          go_wp2_with fail
          refine (HC.out _ (by first | rfl | omega)).mono ?_
          rintro e w1 ⟨rfl, hw1⟩
          rw [hw1]
          clear hw1 w1 HC
          go_wp2_with fail
          all_goals (
            go_ret3
            exact RefLead.mk HB2.out (by rw [Hz.out]; rfl) (fun h => by rw [Hz.out] at h; exact absurd h (by decide)))
      · have htb : (t == (k : Int)) = false := beq_eq_false_iff_ne.2 htk
        have Hz : Hid (r.2 = true) := by
          rw [H2.out]
          unfold bne
          rw [htb]
          exact Bool.or_true _
        clear H2 htk
        go_wp2_with fail
        refine (HC.out _ (by first | rfl | omega)).mono ?_
        rintro e w1 ⟨rfl, hw1⟩
        rw [hw1]
        clear hw1 w1 HC
        go_wp2_with fail
        all_goals (
          go_ret3
          exact RefLead.mk HB2.out (by rw [Hz.out]; rfl) (fun _ => ⟨H1.out.symm, rfl⟩))

set_option maxHeartbeats 2000000 in
set_option maxRecDepth 100000 in
theorem ref_37 (v : Value) (zs : List Int) (k n : Nat) (c arg : Int) (op : Bool) (w : World) (hp : Reads w v zs) (hl : zs.length ≤ 4096) (hk : k ≤ zs.length - 1) (hn1 : 1 ≤ n) (hn9 : n ≤ 999) (hn : (c = 0 ∧ n = 1) ∨ (((n : Int) == 0) = false ∧ c = (n : Int))) :
    Calls Try.prog 11 #[v, .int .i64 (k : Int), .agg #[.int .i64 37, .int .i64 c, .int .i64 arg], .bool op] w fun e w' => RefLead (lead zs k n 37 arg op) (wth 37) w e w' := by
  obtain ⟨a, cap, rfl⟩ := hp.shape
  have Hp : Hid (Reads w (.slice a zs.length cap) zs) := hp
  have hk9 : (k : Int) ≤ 4096 := by omega
  have hl9 : (zs.length : Int) ≤ 4096 := by omega
  have hW : wth 37 = true := by decide
  rw [hW]
  clear hp hW
  obtain ⟨r, hr⟩ : ∃ r, r = lead zs k n 37 arg op := ⟨_, rfl⟩
  rw [← hr]
  have Hr : Hid (r = lead zs k n 37 arg op) := hr
  clear hr
  have HX : Hid _ := ref_boxes w (.slice a zs.length cap) (.int .i64 37) (.int .i64 c) (.int .i64 arg)
  rcases hn with ⟨rfl, rfl⟩ | ⟨hnb, rfl⟩
  · go_enter Try.func11, Try.ntmps11
    go_wp2_with fail
    generalize (w.alloc (.cells #[Value.slice a zs.length cap] 22)).alloc (.cells #[.int .i64 37, .int .i64 0, .int .i64 arg] 24) = W at *
    obtain ⟨b1, b2, b3, b4, hB, hS⟩ := HX.out
    have HB : Hid (Below w.heap.size w W) := hB
    have HS : Hid (w.heap.size + 1 < (W.drewN 0).heap.size) := hS
    clear hB HX hS
    go_quiet (fail)
    obtain ⟨hd1, hd2⟩ := drewN_kept W nq
    rw [← hd1] at b1 b2 b3 b4
    have HB2 : Hid (Below w.heap.size w (W.drewN nq)) := hd2 _ _ HB.out
    have HS2 : Hid (w.heap.size + 1 < (W.drewN nq).heap.size) := HS.out
    clear HS
    generalize W.drewN nq = W2 at *
    clear hd1 hd2 HB
    have HR : Hid (Reads W2 (.slice a zs.length cap) zs) := Hp.out.below HB2.out
    by_cases hz : zs.length = 0
    · have Hz : Hid (r.2 = false) := congrArg Prod.snd (Hr.out.trans (lead_none hz (by decide)))
      have hzI : ((zs.length : Int) == 0) = true := by rw [hz]; rfl
      clear hz Hr
      go_wp2_with fail
      all_goals (
        go_ret3
        exact RefLead.mk HB2.out (by rw [Hz.out]; rfl) (fun h => by rw [Hz.out] at h; exact absurd h (by decide)))
    · have hzI : ((zs.length : Int) == 0) = false := beq_eq_false_iff_ne.2 (by omega)
      have hkl : k < zs.length := by omega
      have Hr2 : Hid (r = lineLead zs k _ 37 arg op) := Hr.out.trans (lead_line hz (by decide))
      clear hz Hr
      obtain ⟨U, hU⟩ : ∃ U, U = up (fun i => brk (zs.getD i 0) != 0) (-1) zs.length k := ⟨_, rfl⟩
      have HU : Hid (up (fun i => brk (zs.getD i 0) != 0) (-1) zs.length k = U) := hU.symm
      have Hr3 : Hid (r = mate zs k) := Hr2.out
      clear Hr2 hU b3 b4
      rcases HR.out with ⟨_, _, _, h0⟩ | ⟨b, off, cap', he, _, _, hb, hcell⟩
      · exact absurd hkl (by rw [h0]; simp)
      cases he
      have Hb : Hid (b < W2.heap.size) := hb
      have Hc : Hid (∀ j, j < zs.length → W2.cell? ⟨b, off + j, none⟩ = some (.int .i64 (zs.getD j 0))) := hcell
      have Hb1 : Hid (W2.cell? ⟨w.heap.size, 0, none⟩ = some (.slice (some ⟨b, off, none⟩) zs.length cap)) := b1
      clear hb hcell
      go_wp2_with fail
      clear b1 b2
      go_loopw [18] (fun u18 wr => ∃ m : Nat, u18 = .int .i64 (m : Int) ∧ m ≤ zs.length ∧ Hid (up (fun i => brk (zs.getD i 0) != 0) (-1) zs.length m = U) ∧ Hid (Below W2.heap.size W2 wr)) (fun u18 _ => zs.length - (intOf u18).toNat)
      case atStart => exact ⟨k, rfl, by omega, HU.out, Below.refl _ _⟩
      case round =>
        obtain ⟨m, rfl, hm, Hm, Hbr⟩ := hrel
        have hx1 : wr.cell? ⟨w.heap.size, 0, none⟩ = some (.slice (some ⟨b, off, none⟩) zs.length cap) := (Hbr.out.cell (by show w.heap.size < _; have := HS2.out; omega)).trans Hb1.out
        by_cases hlt : m < zs.length
        · have hI : (m : Int) < (zs.length : Int) := by omega
          have hcx : wr.cell? ⟨b, off + m, none⟩ = some (.int .i64 (zs.getD m 0)) := (Hbr.out.cell Hb.out).trans (Hc.out m hlt)
          obtain ⟨z, hz⟩ : ∃ z, z = zs.getD m 0 := ⟨_, rfl⟩
          rw [← hz] at hcx
          have Hz0 : Hid (z = zs.getD m 0) := hz
          clear hz
          go_wp2_with fail
          refine (bracket_go z wr).mono ?_
          rintro e w1 ⟨rfl, hb1⟩
          have Hbr1 : Hid (Below W2.heap.size W2 w1) := below_trans Hbr.out hb1 Hbr.out.size
          have hx2 : w1.cell? ⟨w.heap.size, 0, none⟩ = some (.slice (some ⟨b, off, none⟩) zs.length cap) := (Hbr1.out.cell (by show w.heap.size < _; have := HS2.out; omega)).trans Hb1.out
          clear hb1 hcx hx1
          by_cases h0 : opn z = 0
          · have Hm2 : Hid (up (fun i => brk (zs.getD i 0) != 0) (-1) zs.length (m + 1) = U) := (up_miss hlt (by rw [← Hz0.out, (opn_brk z).1 h0]; rfl)).symm.trans Hm.out
            rw [h0]
            clear Hm h0
            generalize sht z = sz at *
            go_wp2_with fail
            go_roundw
            case rel => exact ⟨m + 1, by go_num, by omega, Hm2.out, Hbr1.out⟩
            case measure => simp [intOf]; omega
          · have hob : (opn z != 0) = true := by simpa using h0
            have hu : U = (m : Int) := Hm.out.symm.trans (up_hit hlt (by rw [← Hz0.out]; exact bne_iff_ne.2 (fun h => h0 ((opn_brk z).2 h))))
            have hmt := mate_at (HU.out.trans hu)
            obtain ⟨x, hx⟩ : ∃ x, x = par (fn zs) zs.length m := ⟨_, rfl⟩
            rw [← hx] at hmt
            have H1 : Hid (r.1 = x) := by rw [Hr3.out, hmt]; rfl
            have H2 : Hid (r.2 = decide (0 ≤ x)) := by rw [Hr3.out, hmt]; rfl
            have HP : Hid (Calls Try.prog 28 #[.slice (some ⟨b, off, none⟩) zs.length cap, .int .i64 (m : Int)] w1 fun e w' => e = .returned (.int .i64 x) ∧ Below w1.heap.size w1 w') := by
              rw [hx]
              exact partner_any b off cap zs m w1 hl (Nat.lt_of_lt_of_le Hb.out Hbr1.out.size) hlt (fun j hj => (Hbr1.out.cell Hb.out).trans (Hc.out j hj))
            clear h0 hu hmt hx Hm Hz0
            generalize opn z = oz at *
            generalize sht z = sz at *
            go_wp2_with fail
            refine HP.out.mono ?_
            rintro e w2 ⟨rfl, hb2⟩
            have HBB : Hid (Below w.heap.size w w2) := below_trans HB2.out (below_trans Hbr1.out hb2 Hbr1.out.size) HB2.out.size
            clear HP hb2 hx2
            by_cases hx0 : 0 ≤ x
            · have Hz : Hid (r.2 = true) := by rw [H2.out]; exact decide_eq_true hx0
              go_wp2_with fail
              all_goals (
                go_ret3
                exact RefLead.mk HBB.out (by rw [Hz.out]; first | rfl | (simp; omega)) (fun _ => ⟨H1.out.symm, rfl⟩))
            · have Hz : Hid (r.2 = false) := by rw [H2.out]; exact decide_eq_false hx0
              have hx0' : x < 0 := by omega
              clear hx0
              go_wp2_with fail
              all_goals (
                go_ret3
                exact RefLead.mk HBB.out (by rw [Hz.out]; first | rfl | (simp; omega)) (fun h => by rw [Hz.out] at h; exact absurd h (by decide)))
        · obtain rfl : m = zs.length := by omega
          have hu : U = -1 := Hm.out.symm.trans (up_done (by omega))
          have hmt := mate_none (HU.out.trans hu)
          have Hz : Hid (r.2 = false) := by rw [Hr3.out, hmt]; rfl
          have HBB : Hid (Below w.heap.size w wr) := below_trans HB2.out Hbr.out HB2.out.size
          clear hu hmt Hm
          go_wp2_with fail
          all_goals (
            go_ret3
            exact RefLead.mk HBB.out (by rw [Hz.out]; rfl) (fun h => by rw [Hz.out] at h; exact absurd h (by decide)))
  · go_enter Try.func11, Try.ntmps11
    go_wp2_with fail
    generalize (w.alloc (.cells #[Value.slice a zs.length cap] 22)).alloc (.cells #[.int .i64 37, .int .i64 (n : Int), .int .i64 arg] 24) = W at *
    obtain ⟨b1, b2, b3, b4, hB, hS⟩ := HX.out
    have HB : Hid (Below w.heap.size w W) := hB
    have HS : Hid (w.heap.size + 1 < (W.drewN 0).heap.size) := hS
    clear hB HX hS
    go_quiet (fail)
    obtain ⟨hd1, hd2⟩ := drewN_kept W nq
    rw [← hd1] at b1 b2 b3 b4
    have HB2 : Hid (Below w.heap.size w (W.drewN nq)) := hd2 _ _ HB.out
    have HS2 : Hid (w.heap.size + 1 < (W.drewN nq).heap.size) := HS.out
    clear HS
    generalize W.drewN nq = W2 at *
    clear hd1 hd2 HB
    have HR : Hid (Reads W2 (.slice a zs.length cap) zs) := Hp.out.below HB2.out
    by_cases hz : zs.length = 0
    · have Hz : Hid (r.2 = false) := congrArg Prod.snd (Hr.out.trans (lead_none hz (by decide)))
      have hzI : ((zs.length : Int) == 0) = true := by rw [hz]; rfl
      clear hz Hr
      go_wp2_with fail
      all_goals (
        go_ret3
        exact RefLead.mk HB2.out (by rw [Hz.out]; rfl) (fun h => by rw [Hz.out] at h; exact absurd h (by decide)))
    · have hzI : ((zs.length : Int) == 0) = false := beq_eq_false_iff_ne.2 (by omega)
      have hkl : k < zs.length := by omega
      have Hr2 : Hid (r = lineLead zs k _ 37 arg op) := Hr.out.trans (lead_line hz (by decide))
      clear hz Hr
      obtain ⟨U, hU⟩ : ∃ U, U = up (fun i => brk (zs.getD i 0) != 0) (-1) zs.length k := ⟨_, rfl⟩
      have HU : Hid (up (fun i => brk (zs.getD i 0) != 0) (-1) zs.length k = U) := hU.symm
      have Hr3 : Hid (r = mate zs k) := Hr2.out
      clear Hr2 hU b3 b4
      rcases HR.out with ⟨_, _, _, h0⟩ | ⟨b, off, cap', he, _, _, hb, hcell⟩
      · exact absurd hkl (by rw [h0]; simp)
      cases he
      have Hb : Hid (b < W2.heap.size) := hb
      have Hc : Hid (∀ j, j < zs.length → W2.cell? ⟨b, off + j, none⟩ = some (.int .i64 (zs.getD j 0))) := hcell
      have Hb1 : Hid (W2.cell? ⟨w.heap.size, 0, none⟩ = some (.slice (some ⟨b, off, none⟩) zs.length cap)) := b1
      clear hb hcell
      go_wp2_with fail
      clear b1 b2
      go_loopw [18] (fun u18 wr => ∃ m : Nat, u18 = .int .i64 (m : Int) ∧ m ≤ zs.length ∧ Hid (up (fun i => brk (zs.getD i 0) != 0) (-1) zs.length m = U) ∧ Hid (Below W2.heap.size W2 wr)) (fun u18 _ => zs.length - (intOf u18).toNat)
      case atStart => exact ⟨k, rfl, by omega, HU.out, Below.refl _ _⟩
      case round =>
        obtain ⟨m, rfl, hm, Hm, Hbr⟩ := hrel
        have hx1 : wr.cell? ⟨w.heap.size, 0, none⟩ = some (.slice (some ⟨b, off, none⟩) zs.length cap) := (Hbr.out.cell (by show w.heap.size < _; have := HS2.out; omega)).trans Hb1.out
        by_cases hlt : m < zs.length
        · have hI : (m : Int) < (zs.length : Int) := by omega
          have hcx : wr.cell? ⟨b, off + m, none⟩ = some (.int .i64 (zs.getD m 0)) := (Hbr.out.cell Hb.out).trans (Hc.out m hlt)
          obtain ⟨z, hz⟩ : ∃ z, z = zs.getD m 0 := ⟨_, rfl⟩
          rw [← hz] at hcx
          have Hz0 : Hid (z = zs.getD m 0) := hz
          clear hz
          go_wp2_with fail
          refine (bracket_go z wr).mono ?_
          rintro e w1 ⟨rfl, hb1⟩
          have Hbr1 : Hid (Below W2.heap.size W2 w1) := below_trans Hbr.out hb1 Hbr.out.size
          have hx2 : w1.cell? ⟨w.heap.size, 0, none⟩ = some (.slice (some ⟨b, off, none⟩) zs.length cap) := (Hbr1.out.cell (by show w.heap.size < _; have := HS2.out; omega)).trans Hb1.out
          clear hb1 hcx hx1
          by_cases h0 : opn z = 0
          · have Hm2 : Hid (up (fun i => brk (zs.getD i 0) != 0) (-1) zs.length (m + 1) = U) := (up_miss hlt (by rw [← Hz0.out, (opn_brk z).1 h0]; rfl)).symm.trans Hm.out
            rw [h0]
            clear Hm h0
            generalize sht z = sz at *
            go_wp2_with fail
            go_roundw
            case rel => exact ⟨m + 1, by go_num, by omega, Hm2.out, Hbr1.out⟩
            case measure => simp [intOf]; omega
          · have hob : (opn z != 0) = true := by simpa using h0
            have hu : U = (m : Int) := Hm.out.symm.trans (up_hit hlt (by rw [← Hz0.out]; exact bne_iff_ne.2 (fun h => h0 ((opn_brk z).2 h))))
            have hmt := mate_at (HU.out.trans hu)
            obtain ⟨x, hx⟩ : ∃ x, x = par (fn zs) zs.length m := ⟨_, rfl⟩
            rw [← hx] at hmt
            have H1 : Hid (r.1 = x) := by rw [Hr3.out, hmt]; rfl
            have H2 : Hid (r.2 = decide (0 ≤ x)) := by rw [Hr3.out, hmt]; rfl
            have HP : Hid (Calls Try.prog 28 #[.slice (some ⟨b, off, none⟩) zs.length cap, .int .i64 (m : Int)] w1 fun e w' => e = .returned (.int .i64 x) ∧ Below w1.heap.size w1 w') := by
              rw [hx]
              exact partner_any b off cap zs m w1 hl (Nat.lt_of_lt_of_le Hb.out Hbr1.out.size) hlt (fun j hj => (Hbr1.out.cell Hb.out).trans (Hc.out j hj))
            clear h0 hu hmt hx Hm Hz0
            generalize opn z = oz at *
            generalize sht z = sz at *
            go_wp2_with fail
            refine HP.out.mono ?_
            rintro e w2 ⟨rfl, hb2⟩
            have HBB : Hid (Below w.heap.size w w2) := below_trans HB2.out (below_trans Hbr1.out hb2 Hbr1.out.size) HB2.out.size
            clear HP hb2 hx2
            by_cases hx0 : 0 ≤ x
            · have Hz : Hid (r.2 = true) := by rw [H2.out]; exact decide_eq_true hx0
              go_wp2_with fail
              all_goals (
                go_ret3
                exact RefLead.mk HBB.out (by rw [Hz.out]; first | rfl | (simp; omega)) (fun _ => ⟨H1.out.symm, rfl⟩))
            · have Hz : Hid (r.2 = false) := by rw [H2.out]; exact decide_eq_false hx0
              have hx0' : x < 0 := by omega
              clear hx0
              go_wp2_with fail
              all_goals (
                go_ret3
                exact RefLead.mk HBB.out (by rw [Hz.out]; first | rfl | (simp; omega)) (fun h => by rw [Hz.out] at h; exact absurd h (by decide)))
        · obtain rfl : m = zs.length := by omega
          have hu : U = -1 := Hm.out.symm.trans (up_done (by omega))
          have hmt := mate_none (HU.out.trans hu)
          have Hz : Hid (r.2 = false) := by rw [Hr3.out, hmt]; rfl
          have HBB : Hid (Below w.heap.size w wr) := below_trans HB2.out Hbr.out HB2.out.size
          clear hu hmt Hm
          go_wp2_with fail
          all_goals (
            go_ret3
            exact RefLead.mk HBB.out (by rw [Hz.out]; rfl) (fun h => by rw [Hz.out] at h; exact absurd h (by decide)))

set_option maxHeartbeats 2000000 in
set_option maxRecDepth 100000 in
theorem ref_102 (v : Value) (zs : List Int) (k n : Nat) (c arg : Int) (op : Bool) (w : World) (hp : Reads w v zs) (hl : zs.length ≤ 4096) (hk : k ≤ zs.length - 1) (hn1 : 1 ≤ n) (hn9 : n ≤ 999) (hn : (c = 0 ∧ n = 1) ∨ (((n : Int) == 0) = false ∧ c = (n : Int))) :
    Calls Try.prog 11 #[v, .int .i64 (k : Int), .agg #[.int .i64 102, .int .i64 c, .int .i64 arg], .bool op] w fun e w' => RefLead (lead zs k n 102 arg op) (wth 102) w e w' := by
  obtain ⟨a, cap, rfl⟩ := hp.shape
  have Hp : Hid (Reads w (.slice a zs.length cap) zs) := hp
  have hk9 : (k : Int) ≤ 4096 := by omega
  have hl9 : (zs.length : Int) ≤ 4096 := by omega
  have hW : wth 102 = true := by decide
  rw [hW]
  clear hp hW
  obtain ⟨r, hr⟩ : ∃ r, r = lead zs k n 102 arg op := ⟨_, rfl⟩
  rw [← hr]
  have Hr : Hid (r = lead zs k n 102 arg op) := hr
  clear hr
  have HX : Hid _ := ref_boxes w (.slice a zs.length cap) (.int .i64 102) (.int .i64 c) (.int .i64 arg)
  rcases hn with ⟨rfl, rfl⟩ | ⟨hnb, rfl⟩
  · go_enter Try.func11, Try.ntmps11
    go_wp2_with fail
    generalize (w.alloc (.cells #[Value.slice a zs.length cap] 22)).alloc (.cells #[.int .i64 102, .int .i64 0, .int .i64 arg] 24) = W at *
    obtain ⟨b1, b2, b3, b4, hB, hS⟩ := HX.out
    have HB : Hid (Below w.heap.size w W) := hB
    have HS : Hid (w.heap.size + 1 < (W.drewN 0).heap.size) := hS
    clear hB HX hS
    go_quiet (fail)
    obtain ⟨hd1, hd2⟩ := drewN_kept W nq
    rw [← hd1] at b1 b2 b3 b4
    have HB2 : Hid (Below w.heap.size w (W.drewN nq)) := hd2 _ _ HB.out
    have HS2 : Hid (w.heap.size + 1 < (W.drewN nq).heap.size) := HS.out
    clear HS
    generalize W.drewN nq = W2 at *
    clear hd1 hd2 HB
    have HR : Hid (Reads W2 (.slice a zs.length cap) zs) := Hp.out.below HB2.out
    by_cases hz : zs.length = 0
    · have Hz : Hid (r.2 = false) := congrArg Prod.snd (Hr.out.trans (lead_none hz (by decide)))
      have hzI : ((zs.length : Int) == 0) = true := by rw [hz]; rfl
      clear hz Hr
      go_wp2_with fail
      all_goals (
        go_ret3
        exact RefLead.mk HB2.out (by rw [Hz.out]; rfl) (fun h => by rw [Hz.out] at h; exact absurd h (by decide)))
    · have hzI : ((zs.length : Int) == 0) = false := beq_eq_false_iff_ne.2 (by omega)
      have hkl : k < zs.length := by omega
      have Hr2 : Hid (r = lineLead zs k _ 102 arg op) := Hr.out.trans (lead_line hz (by decide))
      clear hz Hr
      obtain ⟨P, hP⟩ : ∃ P, P = rights (hit zs arg) k zs.length := ⟨_, rfl⟩
      have HPl : Hid (P.length ≤ zs.length) := by rw [hP]; exact rights_len _ _ _
      have HPq : Hid (∀ q, q ∈ P → q < zs.length) := by rw [hP]; exact fun q hq => rights_lt hq
      have HT : Hid (rightHit zs k 1 arg = told P[1 - 1]?) := by rw [hP]; exact hit_right hl hkl (by omega)
      have H1 : Hid (r.1 = (told P[1 - 1]?).1) := by rw [Hr2.out, ← HT.out]; rfl
      have H2 : Hid (r.2 = (told P[1 - 1]?).2) := by rw [Hr2.out, ← HT.out]; rfl
      rcases HR.out with ⟨_, _, _, h0⟩ | ⟨b, off, cap', he, _, _, hb, hcell⟩
      · exact absurd hkl (by rw [h0]; simp)
      cases he
      have HC : Hid (Calls Try.prog 29 #[.slice (some ⟨b, off, none⟩) zs.length cap, .int .i64 (k : Int), .int .i64 arg, .bool false] W2 fun e w' => Below W2.heap.size W2 w' ∧ ∃ v, e = .returned v ∧ Reads w' v (natInts P)) := by
        rw [hP]
        exact finds_right b off cap zs k arg W2 hl hb hcell
      have Hb2 : Hid (W2.cell? ⟨w.heap.size + 1, 0, none⟩ = some (.int .i64 102)) := b2
      clear Hr2 hP hb hcell HT
      go_wp2_with fail
      refine HC.out.mono ?_
      clear HC b1 b2 b3 b4
      rintro e w1 ⟨hb1, pv, rfl, hpv⟩
      have HBB : Hid (Below w.heap.size w w1) := below_trans HB2.out hb1 HB2.out.size
      have hx2 : w1.cell? ⟨w.heap.size + 1, 0, none⟩ = some (.int .i64 102) := (hb1.cell (by show w.heap.size + 1 < _; exact HS2.out)).trans Hb2.out
      obtain ⟨pa, pc, rfl⟩ := hpv.shape
      have HPV : Hid (Reads w1 (.slice pa (natInts P).length pc) (natInts P)) := hpv
      rw [natInts_len]
      rw [natInts_len] at HPV
      have hPl : (P.length : Int) ≤ 4096 := by have := HPl.out; omega
      clear hb1 hpv
      by_cases hin : 1 ≤ P.length
      · have hinI : (1 : Int) ≤ (P.length : Int) := by omega
        obtain ⟨q, hq⟩ : ∃ q, P[1 - 1]? = some q := ⟨P[1 - 1]'(by omega), List.getElem?_eq_getElem _⟩
        have H3 : Hid (r.1 = (q : Int)) := by
          have h := H1.out
          rw [hq] at h
          exact h
        have Hz : Hid (r.2 = true) := by
          have h := H2.out
          rw [hq] at h
          exact h
        have hq9 : (q : Int) ≤ 4096 := by
          have := HPq.out q (List.mem_of_getElem? hq)
          omega
        have hcq : ∃ pb po, pa = some ⟨pb, po, none⟩ ∧ w1.cell? ⟨pb, po + (1 - 1), none⟩ = some (.int .i64 (q : Int)) := by
          rcases HPV.out with ⟨_, _, he, h0⟩ | ⟨pb, po, pc', he, _, _, _, hcell⟩
          · have h1 : P.length = 0 := by rw [← natInts_len, h0]; rfl
            omega
          · injection he with e1 e2 e3
            refine ⟨pb, po, e1, (hcell (1 - 1) (by rw [natInts_len]; omega)).trans ?_⟩
            unfold natInts
            rw [List.getD_eq_getElem?_getD, List.getElem?_map, hq]
            rfl
        obtain ⟨pb, po, rfl, hcx⟩ := hcq
        clear hq H1 H2 HPV hin
        have hT : (((1 : Int)) - 1).toNat = 1 - 1 := by omega
        have hx3 : 0 ≤ (1 : Int) - 1 := by omega
        have hx4 : (1 : Int) - 1 < (P.length : Int) := by omega
        try simp only [Nat.sub_self, Nat.add_zero] at hcx
        go_wp2_with fail
        go_quiet (fail)
        go_wp2_with fail
        all_goals (
          go_ret3
          exact RefLead.mk (below_drewN HBB.out _) (by rw [Hz.out]; rfl) (fun _ => ⟨H3.out.symm, rfl⟩))
      · have hinI : (P.length : Int) < (1 : Int) := by omega
        have Hz : Hid (r.2 = false) := by
          have h := H2.out
          rw [List.getElem?_eq_none (by omega)] at h
          exact h
        clear hin H1 H2 HPV
        go_wp2_with fail
        all_goals (
          go_ret3
          exact RefLead.mk HBB.out (by rw [Hz.out]; rfl) (fun h => by rw [Hz.out] at h; exact absurd h (by decide)))
  · go_enter Try.func11, Try.ntmps11
    go_wp2_with fail
    generalize (w.alloc (.cells #[Value.slice a zs.length cap] 22)).alloc (.cells #[.int .i64 102, .int .i64 (n : Int), .int .i64 arg] 24) = W at *
    obtain ⟨b1, b2, b3, b4, hB, hS⟩ := HX.out
    have HB : Hid (Below w.heap.size w W) := hB
    have HS : Hid (w.heap.size + 1 < (W.drewN 0).heap.size) := hS
    clear hB HX hS
    go_quiet (fail)
    obtain ⟨hd1, hd2⟩ := drewN_kept W nq
    rw [← hd1] at b1 b2 b3 b4
    have HB2 : Hid (Below w.heap.size w (W.drewN nq)) := hd2 _ _ HB.out
    have HS2 : Hid (w.heap.size + 1 < (W.drewN nq).heap.size) := HS.out
    clear HS
    generalize W.drewN nq = W2 at *
    clear hd1 hd2 HB
    have HR : Hid (Reads W2 (.slice a zs.length cap) zs) := Hp.out.below HB2.out
    by_cases hz : zs.length = 0
    · have Hz : Hid (r.2 = false) := congrArg Prod.snd (Hr.out.trans (lead_none hz (by decide)))
      have hzI : ((zs.length : Int) == 0) = true := by rw [hz]; rfl
      clear hz Hr
      go_wp2_with fail
      all_goals (
        go_ret3
        exact RefLead.mk HB2.out (by rw [Hz.out]; rfl) (fun h => by rw [Hz.out] at h; exact absurd h (by decide)))
    · have hzI : ((zs.length : Int) == 0) = false := beq_eq_false_iff_ne.2 (by omega)
      have hkl : k < zs.length := by omega
      have Hr2 : Hid (r = lineLead zs k _ 102 arg op) := Hr.out.trans (lead_line hz (by decide))
      clear hz Hr
      obtain ⟨P, hP⟩ : ∃ P, P = rights (hit zs arg) k zs.length := ⟨_, rfl⟩
      have HPl : Hid (P.length ≤ zs.length) := by rw [hP]; exact rights_len _ _ _
      have HPq : Hid (∀ q, q ∈ P → q < zs.length) := by rw [hP]; exact fun q hq => rights_lt hq
      have HT : Hid (rightHit zs k n arg = told P[n - 1]?) := by rw [hP]; exact hit_right hl hkl (by omega)
      have H1 : Hid (r.1 = (told P[n - 1]?).1) := by rw [Hr2.out, ← HT.out]; rfl
      have H2 : Hid (r.2 = (told P[n - 1]?).2) := by rw [Hr2.out, ← HT.out]; rfl
      rcases HR.out with ⟨_, _, _, h0⟩ | ⟨b, off, cap', he, _, _, hb, hcell⟩
      · exact absurd hkl (by rw [h0]; simp)
      cases he
      have HC : Hid (Calls Try.prog 29 #[.slice (some ⟨b, off, none⟩) zs.length cap, .int .i64 (k : Int), .int .i64 arg, .bool false] W2 fun e w' => Below W2.heap.size W2 w' ∧ ∃ v, e = .returned v ∧ Reads w' v (natInts P)) := by
        rw [hP]
        exact finds_right b off cap zs k arg W2 hl hb hcell
      have Hb2 : Hid (W2.cell? ⟨w.heap.size + 1, 0, none⟩ = some (.int .i64 102)) := b2
      clear Hr2 hP hb hcell HT
      go_wp2_with fail
      refine HC.out.mono ?_
      clear HC b1 b2 b3 b4
      rintro e w1 ⟨hb1, pv, rfl, hpv⟩
      have HBB : Hid (Below w.heap.size w w1) := below_trans HB2.out hb1 HB2.out.size
      have hx2 : w1.cell? ⟨w.heap.size + 1, 0, none⟩ = some (.int .i64 102) := (hb1.cell (by show w.heap.size + 1 < _; exact HS2.out)).trans Hb2.out
      obtain ⟨pa, pc, rfl⟩ := hpv.shape
      have HPV : Hid (Reads w1 (.slice pa (natInts P).length pc) (natInts P)) := hpv
      rw [natInts_len]
      rw [natInts_len] at HPV
      have hPl : (P.length : Int) ≤ 4096 := by have := HPl.out; omega
      clear hb1 hpv
      by_cases hin : n ≤ P.length
      · have hinI : (n : Int) ≤ (P.length : Int) := by omega
        obtain ⟨q, hq⟩ : ∃ q, P[n - 1]? = some q := ⟨P[n - 1]'(by omega), List.getElem?_eq_getElem _⟩
        have H3 : Hid (r.1 = (q : Int)) := by
          have h := H1.out
          rw [hq] at h
          exact h
        have Hz : Hid (r.2 = true) := by
          have h := H2.out
          rw [hq] at h
          exact h
        have hq9 : (q : Int) ≤ 4096 := by
          have := HPq.out q (List.mem_of_getElem? hq)
          omega
        have hcq : ∃ pb po, pa = some ⟨pb, po, none⟩ ∧ w1.cell? ⟨pb, po + (n - 1), none⟩ = some (.int .i64 (q : Int)) := by
          rcases HPV.out with ⟨_, _, he, h0⟩ | ⟨pb, po, pc', he, _, _, _, hcell⟩
          · have h1 : P.length = 0 := by rw [← natInts_len, h0]; rfl
            omega
          · injection he with e1 e2 e3
            refine ⟨pb, po, e1, (hcell (n - 1) (by rw [natInts_len]; omega)).trans ?_⟩
            unfold natInts
            rw [List.getD_eq_getElem?_getD, List.getElem?_map, hq]
            rfl
        obtain ⟨pb, po, rfl, hcx⟩ := hcq
        clear hq H1 H2 HPV hin
        have hT : (((n : Int)) - 1).toNat = n - 1 := by omega
        have hx3 : 0 ≤ (n : Int) - 1 := by omega
        have hx4 : (n : Int) - 1 < (P.length : Int) := by omega
        try simp only [Nat.sub_self, Nat.add_zero] at hcx
        go_wp2_with fail
        go_quiet (fail)
        go_wp2_with fail
        all_goals (
          go_ret3
          exact RefLead.mk (below_drewN HBB.out _) (by rw [Hz.out]; rfl) (fun _ => ⟨H3.out.symm, rfl⟩))
      · have hinI : (P.length : Int) < (n : Int) := by omega
        have Hz : Hid (r.2 = false) := by
          have h := H2.out
          rw [List.getElem?_eq_none (by omega)] at h
          exact h
        clear hin H1 H2 HPV
        go_wp2_with fail
        all_goals (
          go_ret3
          exact RefLead.mk HBB.out (by rw [Hz.out]; rfl) (fun h => by rw [Hz.out] at h; exact absurd h (by decide)))

set_option maxHeartbeats 2000000 in
set_option maxRecDepth 100000 in
theorem ref_116 (v : Value) (zs : List Int) (k n : Nat) (c arg : Int) (op : Bool) (w : World) (hp : Reads w v zs) (hl : zs.length ≤ 4096) (hk : k ≤ zs.length - 1) (hn1 : 1 ≤ n) (hn9 : n ≤ 999) (hn : (c = 0 ∧ n = 1) ∨ (((n : Int) == 0) = false ∧ c = (n : Int))) :
    Calls Try.prog 11 #[v, .int .i64 (k : Int), .agg #[.int .i64 116, .int .i64 c, .int .i64 arg], .bool op] w fun e w' => RefLead (lead zs k n 116 arg op) (wth 116) w e w' := by
  obtain ⟨a, cap, rfl⟩ := hp.shape
  have Hp : Hid (Reads w (.slice a zs.length cap) zs) := hp
  have hk9 : (k : Int) ≤ 4096 := by omega
  have hl9 : (zs.length : Int) ≤ 4096 := by omega
  have hW : wth 116 = true := by decide
  rw [hW]
  clear hp hW
  obtain ⟨r, hr⟩ : ∃ r, r = lead zs k n 116 arg op := ⟨_, rfl⟩
  rw [← hr]
  have Hr : Hid (r = lead zs k n 116 arg op) := hr
  clear hr
  have HX : Hid _ := ref_boxes w (.slice a zs.length cap) (.int .i64 116) (.int .i64 c) (.int .i64 arg)
  rcases hn with ⟨rfl, rfl⟩ | ⟨hnb, rfl⟩
  · go_enter Try.func11, Try.ntmps11
    go_wp2_with fail
    generalize (w.alloc (.cells #[Value.slice a zs.length cap] 22)).alloc (.cells #[.int .i64 116, .int .i64 0, .int .i64 arg] 24) = W at *
    obtain ⟨b1, b2, b3, b4, hB, hS⟩ := HX.out
    have HB : Hid (Below w.heap.size w W) := hB
    have HS : Hid (w.heap.size + 1 < (W.drewN 0).heap.size) := hS
    clear hB HX hS
    go_quiet (fail)
    obtain ⟨hd1, hd2⟩ := drewN_kept W nq
    rw [← hd1] at b1 b2 b3 b4
    have HB2 : Hid (Below w.heap.size w (W.drewN nq)) := hd2 _ _ HB.out
    have HS2 : Hid (w.heap.size + 1 < (W.drewN nq).heap.size) := HS.out
    clear HS
    generalize W.drewN nq = W2 at *
    clear hd1 hd2 HB
    have HR : Hid (Reads W2 (.slice a zs.length cap) zs) := Hp.out.below HB2.out
    by_cases hz : zs.length = 0
    · have Hz : Hid (r.2 = false) := congrArg Prod.snd (Hr.out.trans (lead_none hz (by decide)))
      have hzI : ((zs.length : Int) == 0) = true := by rw [hz]; rfl
      clear hz Hr
      go_wp2_with fail
      all_goals (
        go_ret3
        exact RefLead.mk HB2.out (by rw [Hz.out]; rfl) (fun h => by rw [Hz.out] at h; exact absurd h (by decide)))
    · have hzI : ((zs.length : Int) == 0) = false := beq_eq_false_iff_ne.2 (by omega)
      have hkl : k < zs.length := by omega
      have Hr2 : Hid (r = lineLead zs k _ 116 arg op) := Hr.out.trans (lead_line hz (by decide))
      clear hz Hr
      obtain ⟨P, hP⟩ : ∃ P, P = rights (hit zs arg) k zs.length := ⟨_, rfl⟩
      have HPl : Hid (P.length ≤ zs.length) := by rw [hP]; exact rights_len _ _ _
      have HPq : Hid (∀ q, q ∈ P → q < zs.length) := by rw [hP]; exact fun q hq => rights_lt hq
      have HT : Hid (rightHit zs k 1 arg = told P[1 - 1]?) := by rw [hP]; exact hit_right hl hkl (by omega)
      have H1 : Hid (r.1 = (told P[1 - 1]?).1 - 1) := by rw [Hr2.out, ← HT.out]; rfl
      have H2 : Hid (r.2 = (told P[1 - 1]?).2) := by rw [Hr2.out, ← HT.out]; rfl
      rcases HR.out with ⟨_, _, _, h0⟩ | ⟨b, off, cap', he, _, _, hb, hcell⟩
      · exact absurd hkl (by rw [h0]; simp)
      cases he
      have HC : Hid (Calls Try.prog 29 #[.slice (some ⟨b, off, none⟩) zs.length cap, .int .i64 (k : Int), .int .i64 arg, .bool false] W2 fun e w' => Below W2.heap.size W2 w' ∧ ∃ v, e = .returned v ∧ Reads w' v (natInts P)) := by
        rw [hP]
        exact finds_right b off cap zs k arg W2 hl hb hcell
      have Hb2 : Hid (W2.cell? ⟨w.heap.size + 1, 0, none⟩ = some (.int .i64 116)) := b2
      clear Hr2 hP hb hcell HT
      go_wp2_with fail
      refine HC.out.mono ?_
      clear HC b1 b2 b3 b4
      rintro e w1 ⟨hb1, pv, rfl, hpv⟩
      have HBB : Hid (Below w.heap.size w w1) := below_trans HB2.out hb1 HB2.out.size
      have hx2 : w1.cell? ⟨w.heap.size + 1, 0, none⟩ = some (.int .i64 116) := (hb1.cell (by show w.heap.size + 1 < _; exact HS2.out)).trans Hb2.out
      obtain ⟨pa, pc, rfl⟩ := hpv.shape
      have HPV : Hid (Reads w1 (.slice pa (natInts P).length pc) (natInts P)) := hpv
      rw [natInts_len]
      rw [natInts_len] at HPV
      have hPl : (P.length : Int) ≤ 4096 := by have := HPl.out; omega
      clear hb1 hpv
      by_cases hin : 1 ≤ P.length
      · have hinI : (1 : Int) ≤ (P.length : Int) := by omega
        obtain ⟨q, hq⟩ : ∃ q, P[1 - 1]? = some q := ⟨P[1 - 1]'(by omega), List.getElem?_eq_getElem _⟩
        have H3 : Hid (r.1 = (q : Int) - 1) := by
          have h := H1.out
          rw [hq] at h
          exact h
        have Hz : Hid (r.2 = true) := by
          have h := H2.out
          rw [hq] at h
          exact h
        have hq9 : (q : Int) ≤ 4096 := by
          have := HPq.out q (List.mem_of_getElem? hq)
          omega
        have hcq : ∃ pb po, pa = some ⟨pb, po, none⟩ ∧ w1.cell? ⟨pb, po + (1 - 1), none⟩ = some (.int .i64 (q : Int)) := by
          rcases HPV.out with ⟨_, _, he, h0⟩ | ⟨pb, po, pc', he, _, _, _, hcell⟩
          · have h1 : P.length = 0 := by rw [← natInts_len, h0]; rfl
            omega
          · injection he with e1 e2 e3
            refine ⟨pb, po, e1, (hcell (1 - 1) (by rw [natInts_len]; omega)).trans ?_⟩
            unfold natInts
            rw [List.getD_eq_getElem?_getD, List.getElem?_map, hq]
            rfl
        obtain ⟨pb, po, rfl, hcx⟩ := hcq
        clear hq H1 H2 HPV hin
        have hT : (((1 : Int)) - 1).toNat = 1 - 1 := by omega
        have hx3 : 0 ≤ (1 : Int) - 1 := by omega
        have hx4 : (1 : Int) - 1 < (P.length : Int) := by omega
        try simp only [Nat.sub_self, Nat.add_zero] at hcx
        go_wp2_with fail
        all_goals (
          go_ret3
          exact RefLead.mk HBB.out (by rw [Hz.out]; rfl) (fun _ => ⟨H3.out.symm, rfl⟩))
      · have hinI : (P.length : Int) < (1 : Int) := by omega
        have Hz : Hid (r.2 = false) := by
          have h := H2.out
          rw [List.getElem?_eq_none (by omega)] at h
          exact h
        clear hin H1 H2 HPV
        go_wp2_with fail
        all_goals (
          go_ret3
          exact RefLead.mk HBB.out (by rw [Hz.out]; rfl) (fun h => by rw [Hz.out] at h; exact absurd h (by decide)))
  · go_enter Try.func11, Try.ntmps11
    go_wp2_with fail
    generalize (w.alloc (.cells #[Value.slice a zs.length cap] 22)).alloc (.cells #[.int .i64 116, .int .i64 (n : Int), .int .i64 arg] 24) = W at *
    obtain ⟨b1, b2, b3, b4, hB, hS⟩ := HX.out
    have HB : Hid (Below w.heap.size w W) := hB
    have HS : Hid (w.heap.size + 1 < (W.drewN 0).heap.size) := hS
    clear hB HX hS
    go_quiet (fail)
    obtain ⟨hd1, hd2⟩ := drewN_kept W nq
    rw [← hd1] at b1 b2 b3 b4
    have HB2 : Hid (Below w.heap.size w (W.drewN nq)) := hd2 _ _ HB.out
    have HS2 : Hid (w.heap.size + 1 < (W.drewN nq).heap.size) := HS.out
    clear HS
    generalize W.drewN nq = W2 at *
    clear hd1 hd2 HB
    have HR : Hid (Reads W2 (.slice a zs.length cap) zs) := Hp.out.below HB2.out
    by_cases hz : zs.length = 0
    · have Hz : Hid (r.2 = false) := congrArg Prod.snd (Hr.out.trans (lead_none hz (by decide)))
      have hzI : ((zs.length : Int) == 0) = true := by rw [hz]; rfl
      clear hz Hr
      go_wp2_with fail
      all_goals (
        go_ret3
        exact RefLead.mk HB2.out (by rw [Hz.out]; rfl) (fun h => by rw [Hz.out] at h; exact absurd h (by decide)))
    · have hzI : ((zs.length : Int) == 0) = false := beq_eq_false_iff_ne.2 (by omega)
      have hkl : k < zs.length := by omega
      have Hr2 : Hid (r = lineLead zs k _ 116 arg op) := Hr.out.trans (lead_line hz (by decide))
      clear hz Hr
      obtain ⟨P, hP⟩ : ∃ P, P = rights (hit zs arg) k zs.length := ⟨_, rfl⟩
      have HPl : Hid (P.length ≤ zs.length) := by rw [hP]; exact rights_len _ _ _
      have HPq : Hid (∀ q, q ∈ P → q < zs.length) := by rw [hP]; exact fun q hq => rights_lt hq
      have HT : Hid (rightHit zs k n arg = told P[n - 1]?) := by rw [hP]; exact hit_right hl hkl (by omega)
      have H1 : Hid (r.1 = (told P[n - 1]?).1 - 1) := by rw [Hr2.out, ← HT.out]; rfl
      have H2 : Hid (r.2 = (told P[n - 1]?).2) := by rw [Hr2.out, ← HT.out]; rfl
      rcases HR.out with ⟨_, _, _, h0⟩ | ⟨b, off, cap', he, _, _, hb, hcell⟩
      · exact absurd hkl (by rw [h0]; simp)
      cases he
      have HC : Hid (Calls Try.prog 29 #[.slice (some ⟨b, off, none⟩) zs.length cap, .int .i64 (k : Int), .int .i64 arg, .bool false] W2 fun e w' => Below W2.heap.size W2 w' ∧ ∃ v, e = .returned v ∧ Reads w' v (natInts P)) := by
        rw [hP]
        exact finds_right b off cap zs k arg W2 hl hb hcell
      have Hb2 : Hid (W2.cell? ⟨w.heap.size + 1, 0, none⟩ = some (.int .i64 116)) := b2
      clear Hr2 hP hb hcell HT
      go_wp2_with fail
      refine HC.out.mono ?_
      clear HC b1 b2 b3 b4
      rintro e w1 ⟨hb1, pv, rfl, hpv⟩
      have HBB : Hid (Below w.heap.size w w1) := below_trans HB2.out hb1 HB2.out.size
      have hx2 : w1.cell? ⟨w.heap.size + 1, 0, none⟩ = some (.int .i64 116) := (hb1.cell (by show w.heap.size + 1 < _; exact HS2.out)).trans Hb2.out
      obtain ⟨pa, pc, rfl⟩ := hpv.shape
      have HPV : Hid (Reads w1 (.slice pa (natInts P).length pc) (natInts P)) := hpv
      rw [natInts_len]
      rw [natInts_len] at HPV
      have hPl : (P.length : Int) ≤ 4096 := by have := HPl.out; omega
      clear hb1 hpv
      by_cases hin : n ≤ P.length
      · have hinI : (n : Int) ≤ (P.length : Int) := by omega
        obtain ⟨q, hq⟩ : ∃ q, P[n - 1]? = some q := ⟨P[n - 1]'(by omega), List.getElem?_eq_getElem _⟩
        have H3 : Hid (r.1 = (q : Int) - 1) := by
          have h := H1.out
          rw [hq] at h
          exact h
        have Hz : Hid (r.2 = true) := by
          have h := H2.out
          rw [hq] at h
          exact h
        have hq9 : (q : Int) ≤ 4096 := by
          have := HPq.out q (List.mem_of_getElem? hq)
          omega
        have hcq : ∃ pb po, pa = some ⟨pb, po, none⟩ ∧ w1.cell? ⟨pb, po + (n - 1), none⟩ = some (.int .i64 (q : Int)) := by
          rcases HPV.out with ⟨_, _, he, h0⟩ | ⟨pb, po, pc', he, _, _, _, hcell⟩
          · have h1 : P.length = 0 := by rw [← natInts_len, h0]; rfl
            omega
          · injection he with e1 e2 e3
            refine ⟨pb, po, e1, (hcell (n - 1) (by rw [natInts_len]; omega)).trans ?_⟩
            unfold natInts
            rw [List.getD_eq_getElem?_getD, List.getElem?_map, hq]
            rfl
        obtain ⟨pb, po, rfl, hcx⟩ := hcq
        clear hq H1 H2 HPV hin
        have hT : (((n : Int)) - 1).toNat = n - 1 := by omega
        have hx3 : 0 ≤ (n : Int) - 1 := by omega
        have hx4 : (n : Int) - 1 < (P.length : Int) := by omega
        try simp only [Nat.sub_self, Nat.add_zero] at hcx
        go_wp2_with fail
        all_goals (
          go_ret3
          exact RefLead.mk HBB.out (by rw [Hz.out]; rfl) (fun _ => ⟨H3.out.symm, rfl⟩))
      · have hinI : (P.length : Int) < (n : Int) := by omega
        have Hz : Hid (r.2 = false) := by
          have h := H2.out
          rw [List.getElem?_eq_none (by omega)] at h
          exact h
        clear hin H1 H2 HPV
        go_wp2_with fail
        all_goals (
          go_ret3
          exact RefLead.mk HBB.out (by rw [Hz.out]; rfl) (fun h => by rw [Hz.out] at h; exact absurd h (by decide)))

set_option maxHeartbeats 2000000 in
set_option maxRecDepth 100000 in
theorem ref_70 (v : Value) (zs : List Int) (k n : Nat) (c arg : Int) (op : Bool) (w : World) (hp : Reads w v zs) (hl : zs.length ≤ 4096) (hk : k ≤ zs.length - 1) (hn1 : 1 ≤ n) (hn9 : n ≤ 999) (hn : (c = 0 ∧ n = 1) ∨ (((n : Int) == 0) = false ∧ c = (n : Int))) :
    Calls Try.prog 11 #[v, .int .i64 (k : Int), .agg #[.int .i64 70, .int .i64 c, .int .i64 arg], .bool op] w fun e w' => RefLead (lead zs k n 70 arg op) (wth 70) w e w' := by
  obtain ⟨a, cap, rfl⟩ := hp.shape
  have Hp : Hid (Reads w (.slice a zs.length cap) zs) := hp
  have hk9 : (k : Int) ≤ 4096 := by omega
  have hl9 : (zs.length : Int) ≤ 4096 := by omega
  have hW : wth 70 = false := by decide
  rw [hW]
  clear hp hW
  obtain ⟨r, hr⟩ : ∃ r, r = lead zs k n 70 arg op := ⟨_, rfl⟩
  rw [← hr]
  have Hr : Hid (r = lead zs k n 70 arg op) := hr
  clear hr
  have HX : Hid _ := ref_boxes w (.slice a zs.length cap) (.int .i64 70) (.int .i64 c) (.int .i64 arg)
  rcases hn with ⟨rfl, rfl⟩ | ⟨hnb, rfl⟩
  · go_enter Try.func11, Try.ntmps11
    go_wp2_with fail
    generalize (w.alloc (.cells #[Value.slice a zs.length cap] 22)).alloc (.cells #[.int .i64 70, .int .i64 0, .int .i64 arg] 24) = W at *
    obtain ⟨b1, b2, b3, b4, hB, hS⟩ := HX.out
    have HB : Hid (Below w.heap.size w W) := hB
    have HS : Hid (w.heap.size + 1 < (W.drewN 0).heap.size) := hS
    clear hB HX hS
    go_quiet (fail)
    obtain ⟨hd1, hd2⟩ := drewN_kept W nq
    rw [← hd1] at b1 b2 b3 b4
    have HB2 : Hid (Below w.heap.size w (W.drewN nq)) := hd2 _ _ HB.out
    have HS2 : Hid (w.heap.size + 1 < (W.drewN nq).heap.size) := HS.out
    clear HS
    generalize W.drewN nq = W2 at *
    clear hd1 hd2 HB
    have HR : Hid (Reads W2 (.slice a zs.length cap) zs) := Hp.out.below HB2.out
    by_cases hz : zs.length = 0
    · have Hz : Hid (r.2 = false) := congrArg Prod.snd (Hr.out.trans (lead_none hz (by decide)))
      have hzI : ((zs.length : Int) == 0) = true := by rw [hz]; rfl
      clear hz Hr
      go_wp2_with fail
      all_goals (
        go_ret3
        exact RefLead.mk HB2.out (by rw [Hz.out]; rfl) (fun h => by rw [Hz.out] at h; exact absurd h (by decide)))
    · have hzI : ((zs.length : Int) == 0) = false := beq_eq_false_iff_ne.2 (by omega)
      have hkl : k < zs.length := by omega
      have Hr2 : Hid (r = lineLead zs k _ 70 arg op) := Hr.out.trans (lead_line hz (by decide))
      clear hz Hr
      obtain ⟨P, hP⟩ : ∃ P, P = lefts (hit zs arg) k zs.length := ⟨_, rfl⟩
      have HPl : Hid (P.length ≤ zs.length) := by rw [hP]; exact lefts_len _ _ _
      have HPq : Hid (∀ q, q ∈ P → q < zs.length) := by rw [hP]; exact fun q hq => lefts_lt hq
      have HT : Hid (leftHit zs k 1 arg = told P[1 - 1]?) := by rw [hP]; exact hit_left hl hkl (by omega)
      have H1 : Hid (r.1 = (told P[1 - 1]?).1) := by rw [Hr2.out, ← HT.out]; rfl
      have H2 : Hid (r.2 = (told P[1 - 1]?).2) := by rw [Hr2.out, ← HT.out]; rfl
      rcases HR.out with ⟨_, _, _, h0⟩ | ⟨b, off, cap', he, _, _, hb, hcell⟩
      · exact absurd hkl (by rw [h0]; simp)
      cases he
      have HC : Hid (Calls Try.prog 29 #[.slice (some ⟨b, off, none⟩) zs.length cap, .int .i64 (k : Int), .int .i64 arg, .bool true] W2 fun e w' => Below W2.heap.size W2 w' ∧ ∃ v, e = .returned v ∧ Reads w' v (natInts P)) := by
        rw [hP]
        exact finds_left b off cap zs k arg W2 hl hb hcell
      have Hb2 : Hid (W2.cell? ⟨w.heap.size + 1, 0, none⟩ = some (.int .i64 70)) := b2
      clear Hr2 hP hb hcell HT
      go_wp2_with fail
      refine HC.out.mono ?_
      clear HC b1 b2 b3 b4
      rintro e w1 ⟨hb1, pv, rfl, hpv⟩
      have HBB : Hid (Below w.heap.size w w1) := below_trans HB2.out hb1 HB2.out.size
      have hx2 : w1.cell? ⟨w.heap.size + 1, 0, none⟩ = some (.int .i64 70) := (hb1.cell (by show w.heap.size + 1 < _; exact HS2.out)).trans Hb2.out
      obtain ⟨pa, pc, rfl⟩ := hpv.shape
      have HPV : Hid (Reads w1 (.slice pa (natInts P).length pc) (natInts P)) := hpv
      rw [natInts_len]
      rw [natInts_len] at HPV
      have hPl : (P.length : Int) ≤ 4096 := by have := HPl.out; omega
      clear hb1 hpv
      by_cases hin : 1 ≤ P.length
      · have hinI : (1 : Int) ≤ (P.length : Int) := by omega
        obtain ⟨q, hq⟩ : ∃ q, P[1 - 1]? = some q := ⟨P[1 - 1]'(by omega), List.getElem?_eq_getElem _⟩
        have H3 : Hid (r.1 = (q : Int)) := by
          have h := H1.out
          rw [hq] at h
          exact h
        have Hz : Hid (r.2 = true) := by
          have h := H2.out
          rw [hq] at h
          exact h
        have hq9 : (q : Int) ≤ 4096 := by
          have := HPq.out q (List.mem_of_getElem? hq)
          omega
        have hcq : ∃ pb po, pa = some ⟨pb, po, none⟩ ∧ w1.cell? ⟨pb, po + (1 - 1), none⟩ = some (.int .i64 (q : Int)) := by
          rcases HPV.out with ⟨_, _, he, h0⟩ | ⟨pb, po, pc', he, _, _, _, hcell⟩
          · have h1 : P.length = 0 := by rw [← natInts_len, h0]; rfl
            omega
          · injection he with e1 e2 e3
            refine ⟨pb, po, e1, (hcell (1 - 1) (by rw [natInts_len]; omega)).trans ?_⟩
            unfold natInts
            rw [List.getD_eq_getElem?_getD, List.getElem?_map, hq]
            rfl
        obtain ⟨pb, po, rfl, hcx⟩ := hcq
        clear hq H1 H2 HPV hin
        have hT : (((1 : Int)) - 1).toNat = 1 - 1 := by omega
        have hx3 : 0 ≤ (1 : Int) - 1 := by omega
        have hx4 : (1 : Int) - 1 < (P.length : Int) := by omega
        try simp only [Nat.sub_self, Nat.add_zero] at hcx
        go_wp2_with fail
        go_quiet (fail)
        go_wp2_with fail
        all_goals (
          go_ret3
          exact RefLead.mk (below_drewN HBB.out _) (by rw [Hz.out]; rfl) (fun _ => ⟨H3.out.symm, rfl⟩))
      · have hinI : (P.length : Int) < (1 : Int) := by omega
        have Hz : Hid (r.2 = false) := by
          have h := H2.out
          rw [List.getElem?_eq_none (by omega)] at h
          exact h
        clear hin H1 H2 HPV
        go_wp2_with fail
        all_goals (
          go_ret3
          exact RefLead.mk HBB.out (by rw [Hz.out]; rfl) (fun h => by rw [Hz.out] at h; exact absurd h (by decide)))
  · go_enter Try.func11, Try.ntmps11
    go_wp2_with fail
    generalize (w.alloc (.cells #[Value.slice a zs.length cap] 22)).alloc (.cells #[.int .i64 70, .int .i64 (n : Int), .int .i64 arg] 24) = W at *
    obtain ⟨b1, b2, b3, b4, hB, hS⟩ := HX.out
    have HB : Hid (Below w.heap.size w W) := hB
    have HS : Hid (w.heap.size + 1 < (W.drewN 0).heap.size) := hS
    clear hB HX hS
    go_quiet (fail)
    obtain ⟨hd1, hd2⟩ := drewN_kept W nq
    rw [← hd1] at b1 b2 b3 b4
    have HB2 : Hid (Below w.heap.size w (W.drewN nq)) := hd2 _ _ HB.out
    have HS2 : Hid (w.heap.size + 1 < (W.drewN nq).heap.size) := HS.out
    clear HS
    generalize W.drewN nq = W2 at *
    clear hd1 hd2 HB
    have HR : Hid (Reads W2 (.slice a zs.length cap) zs) := Hp.out.below HB2.out
    by_cases hz : zs.length = 0
    · have Hz : Hid (r.2 = false) := congrArg Prod.snd (Hr.out.trans (lead_none hz (by decide)))
      have hzI : ((zs.length : Int) == 0) = true := by rw [hz]; rfl
      clear hz Hr
      go_wp2_with fail
      all_goals (
        go_ret3
        exact RefLead.mk HB2.out (by rw [Hz.out]; rfl) (fun h => by rw [Hz.out] at h; exact absurd h (by decide)))
    · have hzI : ((zs.length : Int) == 0) = false := beq_eq_false_iff_ne.2 (by omega)
      have hkl : k < zs.length := by omega
      have Hr2 : Hid (r = lineLead zs k _ 70 arg op) := Hr.out.trans (lead_line hz (by decide))
      clear hz Hr
      obtain ⟨P, hP⟩ : ∃ P, P = lefts (hit zs arg) k zs.length := ⟨_, rfl⟩
      have HPl : Hid (P.length ≤ zs.length) := by rw [hP]; exact lefts_len _ _ _
      have HPq : Hid (∀ q, q ∈ P → q < zs.length) := by rw [hP]; exact fun q hq => lefts_lt hq
      have HT : Hid (leftHit zs k n arg = told P[n - 1]?) := by rw [hP]; exact hit_left hl hkl (by omega)
      have H1 : Hid (r.1 = (told P[n - 1]?).1) := by rw [Hr2.out, ← HT.out]; rfl
      have H2 : Hid (r.2 = (told P[n - 1]?).2) := by rw [Hr2.out, ← HT.out]; rfl
      rcases HR.out with ⟨_, _, _, h0⟩ | ⟨b, off, cap', he, _, _, hb, hcell⟩
      · exact absurd hkl (by rw [h0]; simp)
      cases he
      have HC : Hid (Calls Try.prog 29 #[.slice (some ⟨b, off, none⟩) zs.length cap, .int .i64 (k : Int), .int .i64 arg, .bool true] W2 fun e w' => Below W2.heap.size W2 w' ∧ ∃ v, e = .returned v ∧ Reads w' v (natInts P)) := by
        rw [hP]
        exact finds_left b off cap zs k arg W2 hl hb hcell
      have Hb2 : Hid (W2.cell? ⟨w.heap.size + 1, 0, none⟩ = some (.int .i64 70)) := b2
      clear Hr2 hP hb hcell HT
      go_wp2_with fail
      refine HC.out.mono ?_
      clear HC b1 b2 b3 b4
      rintro e w1 ⟨hb1, pv, rfl, hpv⟩
      have HBB : Hid (Below w.heap.size w w1) := below_trans HB2.out hb1 HB2.out.size
      have hx2 : w1.cell? ⟨w.heap.size + 1, 0, none⟩ = some (.int .i64 70) := (hb1.cell (by show w.heap.size + 1 < _; exact HS2.out)).trans Hb2.out
      obtain ⟨pa, pc, rfl⟩ := hpv.shape
      have HPV : Hid (Reads w1 (.slice pa (natInts P).length pc) (natInts P)) := hpv
      rw [natInts_len]
      rw [natInts_len] at HPV
      have hPl : (P.length : Int) ≤ 4096 := by have := HPl.out; omega
      clear hb1 hpv
      by_cases hin : n ≤ P.length
      · have hinI : (n : Int) ≤ (P.length : Int) := by omega
        obtain ⟨q, hq⟩ : ∃ q, P[n - 1]? = some q := ⟨P[n - 1]'(by omega), List.getElem?_eq_getElem _⟩
        have H3 : Hid (r.1 = (q : Int)) := by
          have h := H1.out
          rw [hq] at h
          exact h
        have Hz : Hid (r.2 = true) := by
          have h := H2.out
          rw [hq] at h
          exact h
        have hq9 : (q : Int) ≤ 4096 := by
          have := HPq.out q (List.mem_of_getElem? hq)
          omega
        have hcq : ∃ pb po, pa = some ⟨pb, po, none⟩ ∧ w1.cell? ⟨pb, po + (n - 1), none⟩ = some (.int .i64 (q : Int)) := by
          rcases HPV.out with ⟨_, _, he, h0⟩ | ⟨pb, po, pc', he, _, _, _, hcell⟩
          · have h1 : P.length = 0 := by rw [← natInts_len, h0]; rfl
            omega
          · injection he with e1 e2 e3
            refine ⟨pb, po, e1, (hcell (n - 1) (by rw [natInts_len]; omega)).trans ?_⟩
            unfold natInts
            rw [List.getD_eq_getElem?_getD, List.getElem?_map, hq]
            rfl
        obtain ⟨pb, po, rfl, hcx⟩ := hcq
        clear hq H1 H2 HPV hin
        have hT : (((n : Int)) - 1).toNat = n - 1 := by omega
        have hx3 : 0 ≤ (n : Int) - 1 := by omega
        have hx4 : (n : Int) - 1 < (P.length : Int) := by omega
        try simp only [Nat.sub_self, Nat.add_zero] at hcx
        go_wp2_with fail
        go_quiet (fail)
        go_wp2_with fail
        all_goals (
          go_ret3
          exact RefLead.mk (below_drewN HBB.out _) (by rw [Hz.out]; rfl) (fun _ => ⟨H3.out.symm, rfl⟩))
      · have hinI : (P.length : Int) < (n : Int) := by omega
        have Hz : Hid (r.2 = false) := by
          have h := H2.out
          rw [List.getElem?_eq_none (by omega)] at h
          exact h
        clear hin H1 H2 HPV
        go_wp2_with fail
        all_goals (
          go_ret3
          exact RefLead.mk HBB.out (by rw [Hz.out]; rfl) (fun h => by rw [Hz.out] at h; exact absurd h (by decide)))

set_option maxHeartbeats 2000000 in
set_option maxRecDepth 100000 in
theorem ref_84 (v : Value) (zs : List Int) (k n : Nat) (c arg : Int) (op : Bool) (w : World) (hp : Reads w v zs) (hl : zs.length ≤ 4096) (hk : k ≤ zs.length - 1) (hn1 : 1 ≤ n) (hn9 : n ≤ 999) (hn : (c = 0 ∧ n = 1) ∨ (((n : Int) == 0) = false ∧ c = (n : Int))) :
    Calls Try.prog 11 #[v, .int .i64 (k : Int), .agg #[.int .i64 84, .int .i64 c, .int .i64 arg], .bool op] w fun e w' => RefLead (lead zs k n 84 arg op) (wth 84) w e w' := by
  obtain ⟨a, cap, rfl⟩ := hp.shape
  have Hp : Hid (Reads w (.slice a zs.length cap) zs) := hp
  have hk9 : (k : Int) ≤ 4096 := by omega
  have hl9 : (zs.length : Int) ≤ 4096 := by omega
  have hW : wth 84 = false := by decide
  rw [hW]
  clear hp hW
  obtain ⟨r, hr⟩ : ∃ r, r = lead zs k n 84 arg op := ⟨_, rfl⟩
  rw [← hr]
  have Hr : Hid (r = lead zs k n 84 arg op) := hr
  clear hr
  have HX : Hid _ := ref_boxes w (.slice a zs.length cap) (.int .i64 84) (.int .i64 c) (.int .i64 arg)
  rcases hn with ⟨rfl, rfl⟩ | ⟨hnb, rfl⟩
  · go_enter Try.func11, Try.ntmps11
    go_wp2_with fail
    generalize (w.alloc (.cells #[Value.slice a zs.length cap] 22)).alloc (.cells #[.int .i64 84, .int .i64 0, .int .i64 arg] 24) = W at *
    obtain ⟨b1, b2, b3, b4, hB, hS⟩ := HX.out
    have HB : Hid (Below w.heap.size w W) := hB
    have HS : Hid (w.heap.size + 1 < (W.drewN 0).heap.size) := hS
    clear hB HX hS
    go_quiet (fail)
    obtain ⟨hd1, hd2⟩ := drewN_kept W nq
    rw [← hd1] at b1 b2 b3 b4
    have HB2 : Hid (Below w.heap.size w (W.drewN nq)) := hd2 _ _ HB.out
    have HS2 : Hid (w.heap.size + 1 < (W.drewN nq).heap.size) := HS.out
    clear HS
    generalize W.drewN nq = W2 at *
    clear hd1 hd2 HB
    have HR : Hid (Reads W2 (.slice a zs.length cap) zs) := Hp.out.below HB2.out
    by_cases hz : zs.length = 0
    · have Hz : Hid (r.2 = false) := congrArg Prod.snd (Hr.out.trans (lead_none hz (by decide)))
      have hzI : ((zs.length : Int) == 0) = true := by rw [hz]; rfl
      clear hz Hr
      go_wp2_with fail
      all_goals (
        go_ret3
        exact RefLead.mk HB2.out (by rw [Hz.out]; rfl) (fun h => by rw [Hz.out] at h; exact absurd h (by decide)))
    · have hzI : ((zs.length : Int) == 0) = false := beq_eq_false_iff_ne.2 (by omega)
      have hkl : k < zs.length := by omega
      have Hr2 : Hid (r = lineLead zs k _ 84 arg op) := Hr.out.trans (lead_line hz (by decide))
      clear hz Hr
      obtain ⟨P, hP⟩ : ∃ P, P = lefts (hit zs arg) k zs.length := ⟨_, rfl⟩
      have HPl : Hid (P.length ≤ zs.length) := by rw [hP]; exact lefts_len _ _ _
      have HPq : Hid (∀ q, q ∈ P → q < zs.length) := by rw [hP]; exact fun q hq => lefts_lt hq
      have HT : Hid (leftHit zs k 1 arg = told P[1 - 1]?) := by rw [hP]; exact hit_left hl hkl (by omega)
      have H1 : Hid (r.1 = (told P[1 - 1]?).1 + 1) := by rw [Hr2.out, ← HT.out]; rfl
      have H2 : Hid (r.2 = (told P[1 - 1]?).2) := by rw [Hr2.out, ← HT.out]; rfl
      rcases HR.out with ⟨_, _, _, h0⟩ | ⟨b, off, cap', he, _, _, hb, hcell⟩
      · exact absurd hkl (by rw [h0]; simp)
      cases he
      have HC : Hid (Calls Try.prog 29 #[.slice (some ⟨b, off, none⟩) zs.length cap, .int .i64 (k : Int), .int .i64 arg, .bool true] W2 fun e w' => Below W2.heap.size W2 w' ∧ ∃ v, e = .returned v ∧ Reads w' v (natInts P)) := by
        rw [hP]
        exact finds_left b off cap zs k arg W2 hl hb hcell
      have Hb2 : Hid (W2.cell? ⟨w.heap.size + 1, 0, none⟩ = some (.int .i64 84)) := b2
      clear Hr2 hP hb hcell HT
      go_wp2_with fail
      refine HC.out.mono ?_
      clear HC b1 b2 b3 b4
      rintro e w1 ⟨hb1, pv, rfl, hpv⟩
      have HBB : Hid (Below w.heap.size w w1) := below_trans HB2.out hb1 HB2.out.size
      have hx2 : w1.cell? ⟨w.heap.size + 1, 0, none⟩ = some (.int .i64 84) := (hb1.cell (by show w.heap.size + 1 < _; exact HS2.out)).trans Hb2.out
      obtain ⟨pa, pc, rfl⟩ := hpv.shape
      have HPV : Hid (Reads w1 (.slice pa (natInts P).length pc) (natInts P)) := hpv
      rw [natInts_len]
      rw [natInts_len] at HPV
      have hPl : (P.length : Int) ≤ 4096 := by have := HPl.out; omega
      clear hb1 hpv
      by_cases hin : 1 ≤ P.length
      · have hinI : (1 : Int) ≤ (P.length : Int) := by omega
        obtain ⟨q, hq⟩ : ∃ q, P[1 - 1]? = some q := ⟨P[1 - 1]'(by omega), List.getElem?_eq_getElem _⟩
        have H3 : Hid (r.1 = (q : Int) + 1) := by
          have h := H1.out
          rw [hq] at h
          exact h
        have Hz : Hid (r.2 = true) := by
          have h := H2.out
          rw [hq] at h
          exact h
        have hq9 : (q : Int) ≤ 4096 := by
          have := HPq.out q (List.mem_of_getElem? hq)
          omega
        have hcq : ∃ pb po, pa = some ⟨pb, po, none⟩ ∧ w1.cell? ⟨pb, po + (1 - 1), none⟩ = some (.int .i64 (q : Int)) := by
          rcases HPV.out with ⟨_, _, he, h0⟩ | ⟨pb, po, pc', he, _, _, _, hcell⟩
          · have h1 : P.length = 0 := by rw [← natInts_len, h0]; rfl
            omega
          · injection he with e1 e2 e3
            refine ⟨pb, po, e1, (hcell (1 - 1) (by rw [natInts_len]; omega)).trans ?_⟩
            unfold natInts
            rw [List.getD_eq_getElem?_getD, List.getElem?_map, hq]
            rfl
        obtain ⟨pb, po, rfl, hcx⟩ := hcq
        clear hq H1 H2 HPV hin
        have hT : (((1 : Int)) - 1).toNat = 1 - 1 := by omega
        have hx3 : 0 ≤ (1 : Int) - 1 := by omega
        have hx4 : (1 : Int) - 1 < (P.length : Int) := by omega
        try simp only [Nat.sub_self, Nat.add_zero] at hcx
        go_wp2_with fail
        all_goals (
          go_ret3
          exact RefLead.mk HBB.out (by rw [Hz.out]; rfl) (fun _ => ⟨H3.out.symm, rfl⟩))
      · have hinI : (P.length : Int) < (1 : Int) := by omega
        have Hz : Hid (r.2 = false) := by
          have h := H2.out
          rw [List.getElem?_eq_none (by omega)] at h
          exact h
        clear hin H1 H2 HPV
        go_wp2_with fail
        all_goals (
          go_ret3
          exact RefLead.mk HBB.out (by rw [Hz.out]; rfl) (fun h => by rw [Hz.out] at h; exact absurd h (by decide)))
  · go_enter Try.func11, Try.ntmps11
    go_wp2_with fail
    generalize (w.alloc (.cells #[Value.slice a zs.length cap] 22)).alloc (.cells #[.int .i64 84, .int .i64 (n : Int), .int .i64 arg] 24) = W at *
    obtain ⟨b1, b2, b3, b4, hB, hS⟩ := HX.out
    have HB : Hid (Below w.heap.size w W) := hB
    have HS : Hid (w.heap.size + 1 < (W.drewN 0).heap.size) := hS
    clear hB HX hS
    go_quiet (fail)
    obtain ⟨hd1, hd2⟩ := drewN_kept W nq
    rw [← hd1] at b1 b2 b3 b4
    have HB2 : Hid (Below w.heap.size w (W.drewN nq)) := hd2 _ _ HB.out
    have HS2 : Hid (w.heap.size + 1 < (W.drewN nq).heap.size) := HS.out
    clear HS
    generalize W.drewN nq = W2 at *
    clear hd1 hd2 HB
    have HR : Hid (Reads W2 (.slice a zs.length cap) zs) := Hp.out.below HB2.out
    by_cases hz : zs.length = 0
    · have Hz : Hid (r.2 = false) := congrArg Prod.snd (Hr.out.trans (lead_none hz (by decide)))
      have hzI : ((zs.length : Int) == 0) = true := by rw [hz]; rfl
      clear hz Hr
      go_wp2_with fail
      all_goals (
        go_ret3
        exact RefLead.mk HB2.out (by rw [Hz.out]; rfl) (fun h => by rw [Hz.out] at h; exact absurd h (by decide)))
    · have hzI : ((zs.length : Int) == 0) = false := beq_eq_false_iff_ne.2 (by omega)
      have hkl : k < zs.length := by omega
      have Hr2 : Hid (r = lineLead zs k _ 84 arg op) := Hr.out.trans (lead_line hz (by decide))
      clear hz Hr
      obtain ⟨P, hP⟩ : ∃ P, P = lefts (hit zs arg) k zs.length := ⟨_, rfl⟩
      have HPl : Hid (P.length ≤ zs.length) := by rw [hP]; exact lefts_len _ _ _
      have HPq : Hid (∀ q, q ∈ P → q < zs.length) := by rw [hP]; exact fun q hq => lefts_lt hq
      have HT : Hid (leftHit zs k n arg = told P[n - 1]?) := by rw [hP]; exact hit_left hl hkl (by omega)
      have H1 : Hid (r.1 = (told P[n - 1]?).1 + 1) := by rw [Hr2.out, ← HT.out]; rfl
      have H2 : Hid (r.2 = (told P[n - 1]?).2) := by rw [Hr2.out, ← HT.out]; rfl
      rcases HR.out with ⟨_, _, _, h0⟩ | ⟨b, off, cap', he, _, _, hb, hcell⟩
      · exact absurd hkl (by rw [h0]; simp)
      cases he
      have HC : Hid (Calls Try.prog 29 #[.slice (some ⟨b, off, none⟩) zs.length cap, .int .i64 (k : Int), .int .i64 arg, .bool true] W2 fun e w' => Below W2.heap.size W2 w' ∧ ∃ v, e = .returned v ∧ Reads w' v (natInts P)) := by
        rw [hP]
        exact finds_left b off cap zs k arg W2 hl hb hcell
      have Hb2 : Hid (W2.cell? ⟨w.heap.size + 1, 0, none⟩ = some (.int .i64 84)) := b2
      clear Hr2 hP hb hcell HT
      go_wp2_with fail
      refine HC.out.mono ?_
      clear HC b1 b2 b3 b4
      rintro e w1 ⟨hb1, pv, rfl, hpv⟩
      have HBB : Hid (Below w.heap.size w w1) := below_trans HB2.out hb1 HB2.out.size
      have hx2 : w1.cell? ⟨w.heap.size + 1, 0, none⟩ = some (.int .i64 84) := (hb1.cell (by show w.heap.size + 1 < _; exact HS2.out)).trans Hb2.out
      obtain ⟨pa, pc, rfl⟩ := hpv.shape
      have HPV : Hid (Reads w1 (.slice pa (natInts P).length pc) (natInts P)) := hpv
      rw [natInts_len]
      rw [natInts_len] at HPV
      have hPl : (P.length : Int) ≤ 4096 := by have := HPl.out; omega
      clear hb1 hpv
      by_cases hin : n ≤ P.length
      · have hinI : (n : Int) ≤ (P.length : Int) := by omega
        obtain ⟨q, hq⟩ : ∃ q, P[n - 1]? = some q := ⟨P[n - 1]'(by omega), List.getElem?_eq_getElem _⟩
        have H3 : Hid (r.1 = (q : Int) + 1) := by
          have h := H1.out
          rw [hq] at h
          exact h
        have Hz : Hid (r.2 = true) := by
          have h := H2.out
          rw [hq] at h
          exact h
        have hq9 : (q : Int) ≤ 4096 := by
          have := HPq.out q (List.mem_of_getElem? hq)
          omega
        have hcq : ∃ pb po, pa = some ⟨pb, po, none⟩ ∧ w1.cell? ⟨pb, po + (n - 1), none⟩ = some (.int .i64 (q : Int)) := by
          rcases HPV.out with ⟨_, _, he, h0⟩ | ⟨pb, po, pc', he, _, _, _, hcell⟩
          · have h1 : P.length = 0 := by rw [← natInts_len, h0]; rfl
            omega
          · injection he with e1 e2 e3
            refine ⟨pb, po, e1, (hcell (n - 1) (by rw [natInts_len]; omega)).trans ?_⟩
            unfold natInts
            rw [List.getD_eq_getElem?_getD, List.getElem?_map, hq]
            rfl
        obtain ⟨pb, po, rfl, hcx⟩ := hcq
        clear hq H1 H2 HPV hin
        have hT : (((n : Int)) - 1).toNat = n - 1 := by omega
        have hx3 : 0 ≤ (n : Int) - 1 := by omega
        have hx4 : (n : Int) - 1 < (P.length : Int) := by omega
        try simp only [Nat.sub_self, Nat.add_zero] at hcx
        go_wp2_with fail
        all_goals (
          go_ret3
          exact RefLead.mk HBB.out (by rw [Hz.out]; rfl) (fun _ => ⟨H3.out.symm, rfl⟩))
      · have hinI : (P.length : Int) < (n : Int) := by omega
        have Hz : Hid (r.2 = false) := by
          have h := H2.out
          rw [List.getElem?_eq_none (by omega)] at h
          exact h
        clear hin H1 H2 HPV
        go_wp2_with fail
        all_goals (
          go_ret3
          exact RefLead.mk HBB.out (by rw [Hz.out]; rfl) (fun h => by rw [Hz.out] at h; exact absurd h (by decide)))

theorem refgo_go (v : Value) (zs : List Int) (k n : Nat) (key c arg : Int) (op : Bool) (w : World) (hp : Reads w v zs) (hl : zs.length ≤ 4096) (hk : k ≤ zs.length - 1) (hn1 : 1 ≤ n) (hn9 : n ≤ 999) (hn : (c = 0 ∧ n = 1) ∨ (((n : Int) == 0) = false ∧ c = (n : Int))) (hkey : isk key = true) :
    Calls Try.prog 11 #[v, .int .i64 (k : Int), .agg #[.int .i64 key, .int .i64 c, .int .i64 arg], .bool op] w fun e w' => RefLead (lead zs k n key arg op) (wth key) w e w' := by
  unfold isk at hkey
  rcases of_decide_eq_true hkey with rfl | rfl | rfl | rfl | rfl | rfl | rfl | rfl | rfl | rfl | rfl | rfl | rfl | rfl | rfl | rfl | rfl
  · exact ref_104 v zs k n c arg op w hp hl hk hn1 hn9 hn
  · exact ref_108 v zs k n c arg op w hp hl hk hn1 hn9 hn
  · exact ref_48 v zs k n c arg op w hp hl hk hn1 hn9 hn
  · exact ref_94 v zs k n c arg op w hp hl hk hn1 hn9 hn
  · exact ref_98 v zs k n c arg op w hp hl hk hn1 hn9 hn
  · exact ref_66 v zs k n c arg op w hp hl hk hn1 hn9 hn
  · exact ref_36 v zs k n c arg op w hp hl hk hn1 hn9 hn
  · exact ref_124 v zs k n c arg op w hp hl hk hn1 hn9 hn
  · exact ref_119 v zs k n c arg op w hp hl hk hn1 hn9 hn
  · exact ref_87 v zs k n c arg op w hp hl hk hn1 hn9 hn
  · exact ref_101 v zs k n c arg op w hp hl hk hn1 hn9 hn
  · exact ref_69 v zs k n c arg op w hp hl hk hn1 hn9 hn
  · exact ref_37 v zs k n c arg op w hp hl hk hn1 hn9 hn
  · exact ref_102 v zs k n c arg op w hp hl hk hn1 hn9 hn
  · exact ref_116 v zs k n c arg op w hp hl hk hn1 hn9 hn
  · exact ref_70 v zs k n c arg op w hp hl hk hn1 hn9 hn
  · exact ref_84 v zs k n c arg op w hp hl hk hn1 hn9 hn
end Go.Proofs.Ytobcohgfpbmahaa.Seek
