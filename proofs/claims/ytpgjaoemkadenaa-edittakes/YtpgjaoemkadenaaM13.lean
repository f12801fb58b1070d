/- Texts of one claim, one behind the other: Appends, WithGo, Dos, HeldBy, ResV, DoSmall. -/
import Derived.Test.YtpgjaoemkadenaaM10
import Derived.OwnWalk
import Derived.Maps.AppendAt
import Derived.Test.YtpgjaoemkadenaaM12
import Derived.Deep.RegionWith
import Derived.Test.YtpgjaoemkadenaaM06
import Derived.Test.YtpgjaoemkadenaaM09
import Derived.Test.YtpgjaoemkadenaaM11
import Derived.Deep.RegionHeld3
import Derived.BigQuiet
import Derived.Deep.QuietTactic
/- Appends behind a row of the call's own: numbers. -/
set_option linter.unusedVariables false
set_option linter.unusedSimpArgs false
set_option maxRecDepth 100000
namespace Go.Proofs.Ytpgjaoemkadenaa.Seek
open Go.RowKit Plain
theorem ints_append (a b : List Int) : ints (a ++ b) = ints a ++ ints b := by unfold ints; rw [List.map_append]
theorem reads_cells {w : World} {b off : Nat} {ys : List Int} (hc : ∀ j, j < ys.length → w.cell? ⟨b, off + j, none⟩ = some (.int .i64 (ys.getD j 0))) :
    ∀ j u, (ints ys)[j]? = some u → w.cell? ((⟨b, off, none⟩ : Addr).add j) = some u := by
  intro j u hj
  unfold ints at hj
  rw [List.getElem?_map] at hj
  by_cases hjl : j < ys.length
  · rw [List.getElem?_eq_getElem hjl] at hj
    have h1 := hc j hjl
    rw [List.getD_eq_getElem?_getD, List.getElem?_eq_getElem hjl] at h1
    have e : (⟨b, off, none⟩ : Addr).add j = ⟨b, off + j, none⟩ := by
      simp only [Addr.add]
      split <;> simp_all
    rw [e, h1]
    simpa using hj
  · rw [List.getElem?_eq_none (by omega)] at hj
    cases hj
theorem ints_one (ys : List Int) : ∀ u ∈ ints ys, u.oneCell' = true := by
  intro u hu
  unfold ints at hu
  obtain ⟨z, _, rfl⟩ := List.mem_map.1 hu
  rfl
/-- Some numbers behind an owned row. -/
theorem append_any {w : World} {ops : Array Oper} {rest : List Oper} {o : Oper} {a : Act} {Q : Exit → Act → World → Prop} (hgd : o.guard = none) (s x : Operand)
    (ho : o.op = .call { callee := .builtin .append, args := #[s, x], argTypes := #[22, 22] }) (B : Nat) (v v2 : Value) (xs ys zs : List Int) (hz : zs = xs ++ ys)
    (hs : a.eval s = v) (hown : OwnI w B v xs) (hx : a.eval x = v2) (hr : Reads w v2 ys) (hle : (xs.length + ys.length) * 8 ≤ 140737488355328) (hB : B ≤ w.heap.size)
    (h : ∀ v' w', OwnI w' B v' zs → w.grownBy w' v.ownBlock → (v'.ownBlock = v.ownBlock ∨ v'.ownBlock = some w.heap.size) → wpList Try.prog ops Q rest (a.put o.dst v') w') : wpList Try.prog ops Q (o :: rest) a w := by
  subst hz
  obtain ⟨i0, hi, hz0, hz1, hz2⟩ := info_parts info3
  rcases hr with ⟨a2, c2, rfl, rfl⟩ | ⟨b, off, c2, rfl, _, _, _, hc⟩
  · have h2 : ∃ d cap, v = .slice d xs.length cap ∧ xs.length ≤ cap := by
      rcases hown.2 with ⟨rfl, h0⟩ | ⟨g, cap, cur, rfl, hb, hg, hn, hm, hsz, htake⟩
      · exact ⟨none, 0, by rw [h0], by omega⟩
      · exact ⟨_, cap, rfl, hn⟩
    obtain ⟨d, cap, rfl, hn⟩ := h2
    refine wpList_append_run hgd s x 22 22 ho _ _ _ w hs hx (fun ty => run_append_zero w _ _ _ a2 c2 hn ty) ?_
    exact h _ w (by show OwnI _ _ _ _; rw [List.append_nil]; exact hown) (grown_refl _ _) (.inl rfl)
  · refine wpList_append_own_at w hgd s x 22 ho B 3 i0 (.int .i64 0) 1 8 Try.underlying22 hi hz0 hz1 hz2 rfl (by decide) v xs.length (ints xs) hs hown ⟨b, off, none⟩ ys.length c2 (ints ys) hx (by rw [ints_len, Nat.mul_one]) (reads_cells hc) (ints_one ys) (by unfold maxLen; omega) hle hB ?_
    intro v' w' h1 h2 _ h4
    exact h v' w' (by unfold OwnI; rw [ints_append, List.length_append]; exact h1) h2 h4
/-- A part of a slice that can be read, whatever lies behind its address. -/
theorem reads_slice {w : World} {a : Option Addr} {zs : List Int} {cap : Nat} (h : Reads w (.slice a zs.length cap) zs) (lo hi : Nat) (h1 : lo ≤ hi) (h2 : hi ≤ zs.length) :
    Reads w (.slice (if cap = lo then a else Option.map (fun x => x.add lo) a) (hi - lo) (cap - lo)) (seg zs lo hi) := by
  by_cases h0 : hi - lo = 0
  · refine .inl ⟨_, _, by rw [h0], ?_⟩
    unfold seg
    rw [h0, List.take_zero]
  · rcases h with ⟨_, _, _, rfl⟩ | ⟨b, off, c, hv, g1, g2, g3, g4⟩
    · simp at h2
      omega
    · cases hv
      rw [if_neg (by omega)]
      have := reads_part g4 g3 lo (hi - lo) (cap - lo) (by omega) (by omega) (by omega)
      have e : (⟨b, off, none⟩ : Addr).add lo = ⟨b, off + lo, none⟩ := by
        simp only [Addr.add]
        split <;> simp_all
      simp only [Option.map_some, e]
      exact this
theorem Reads.cap_le {w : World} {a : Option Addr} {zs : List Int} {cap : Nat} (h : Reads w (.slice a zs.length cap) zs) : zs.length ≤ cap := by
  rcases h with ⟨_, _, _, rfl⟩ | ⟨b, off, c, hv, g1, g2, g3, g4⟩
  · exact Nat.zero_le _
  · cases hv
    exact g1
theorem Boxed.grown {w w' : World} {b : Nat} {f t : Int} {v : Value} {row : Option Nat} (h : Boxed w b f t v) (hg : w.grownBy w' row) (hne : row ≠ some b) : Boxed w' b f t v := by
  have hb := hg.block b h.1 (Ne.symm hne)
  exact ⟨Nat.lt_of_lt_of_le h.1 hg.size, (World.cell?_of_block (by exact hb)).trans h.2.1, (World.cell?_of_block (by exact hb)).trans h.2.2.1, (World.cell?_of_block (by exact hb)).trans h.2.2.2⟩
/-- The k-th splice of a right edit. -/
theorem ups_at (ns : List Nsp) (k : Nat) (h : k < ns.length) : ∃ s, ns.drop k = s :: ns.drop (k + 1) ∧ (ups ns).getD k spl0 = sup s ∧ ns[k]? = some s := by
  refine ⟨ns[k], List.drop_eq_getElem_cons h, ?_, List.getElem?_eq_getElem h⟩
  unfold ups
  rw [List.getD_eq_getElem?_getD, List.getElem?_map, List.getElem?_eq_getElem h]
  rfl
theorem ReadsE.each {w : World} {a : Option Addr} {es : List Spl} {cap : Nat} (h : ReadsE w (.slice a es.length cap) es) :
    ∀ k, k < es.length → ∃ b off, a = some ⟨b, off, none⟩ ∧ b < w.heap.size ∧ SplAt w b (off + k * 3) (es.getD k spl0) := by
  intro k hk
  rcases h with ⟨_, _, _, rfl⟩ | ⟨b, off, c, hv, _, _, hb, hc⟩
  · cases hk
  · cases hv
    exact ⟨b, off, rfl, hb, hc k hk⟩
end Go.Proofs.Ytpgjaoemkadenaa.Seek

/- The contracts of edit.with and edit.copied. -/
set_option linter.unusedVariables false
set_option linter.unusedSimpArgs false
set_option maxRecDepth 100000
namespace Go.Proofs.Ytpgjaoemkadenaa.Seek
open Go.RowKit Plain

/-- A piece in the place of a part. -/
def wit (zs : List Int) (f t : Nat) (x : List Int) : List Int := zs.take f ++ x ++ zs.drop t
theorem wit_len (zs : List Int) (f t : Nat) (x : List Int) (h1 : f ≤ t) (h2 : t ≤ zs.length) : (wit zs f t x).length = f + x.length + (zs.length - t) := by
  unfold wit
  simp only [List.length_append, List.length_take, List.length_drop]
  omega

set_option maxHeartbeats 400000 in
theorem copied_go (v : Value) (zs : List Int) (w : World) (h : Reads w v zs) (hm : Mild zs) :
    Calls Try.prog 30 #[v] w fun e w' => ConcatPost zs w e w' := by
  have H : Hid (Calls Try.prog 15 #[.slice (some ⟨w.heap.size, 0, none⟩) 1 1] (w.alloc (.cells #[v] 22)) fun e w' => ConcatPost zs (w.alloc (.cells #[v] 22)) e w') := concat1 v zs w h (by unfold Mild at hm; omega)
  have hs := size_alloc w (.cells #[v] 22)
  obtain ⟨a, cap, rfl⟩ := h.shape
  clear h hm
  go_enter Try.func30, Try.ntmps30
  go_wp2_with fail
  refine H.out.mono ?_
  rintro e w1 ⟨hb, v1, rfl, ho⟩
  have HB : Hid (Below w.heap.size w w1) := below_trans (box_below _ _) hb (box_below _ _).size
  have HO : Hid (Own w1 w.heap.size v1 zs) := ho.less (by omega)
  clear hb ho H hs
  go_wp2_with fail
  go_ret
  exact ⟨HB.out, _, rfl, HO.out⟩

theorem reads_cut {w : World} {a : Option Addr} {zs : List Int} {cap : Nat} (h : Reads w (.slice a zs.length cap) zs) (f t : Nat) (h1 : f ≤ t) (h2 : t ≤ zs.length) :
    Reads w (.slice a f cap) (zs.take f) ∧ Reads w (.slice (if cap = t then a else Option.map (fun x => x.add t) a) (zs.length - t) (cap - t)) (zs.drop t) ∧ zs.length ≤ cap := by
  refine ⟨?_, ?_, ?_⟩
  · have := reads_slice h 0 f (Nat.zero_le _) (by omega)
    have e : (if cap = 0 then a else Option.map (fun x => x.add 0) a) = a := by
      split
      · rfl
      · cases a <;> simp [Addr.add]
    rw [e] at this
    unfold seg at this
    rw [List.drop_zero, Nat.sub_zero, Nat.sub_zero] at this
    exact this
  · have := reads_slice h t zs.length h2 (Nat.le_refl _)
    unfold seg at this
    rw [List.take_of_length_le (by rw [List.length_drop]; omega)] at this
    exact this
  · rcases h with ⟨_, _, hv, rfl⟩ | ⟨b, off, c, hv, hcap, _⟩
    · exact Nat.zero_le _
    · simp only [Value.slice.injEq] at hv; omega

set_option maxHeartbeats 1000000 in
theorem with_go (v pv : Value) (zs x : List Int) (f t : Nat) (w : World) (h : Reads w v zs) (hp : Reads w pv x) (h1 : f ≤ t) (h2 : t ≤ zs.length) (hz : zs.length ≤ 4096) (hx : x.length ≤ 4096) :
    Calls Try.prog 28 #[v, .int .i64 (f : Int), .int .i64 (t : Int), pv] w fun e w' => ConcatPost (wit zs f t x) w e w' := by
  obtain ⟨a, cap, rfl⟩ := h.shape
  obtain ⟨a2, cap2, rfl⟩ := hp.shape
  obtain ⟨hl, hr, hle⟩ := reads_cut h f t h1 h2
  obtain ⟨A, hA⟩ : ∃ A, (if cap = t then a else Option.map (fun x => x.add t) a) = A := ⟨_, rfl⟩
  rw [hA] at hr
  have HCC : Hid (Calls Try.prog 15 #[.slice (some ⟨w.heap.size, 0, none⟩) 3 3] (w.alloc (.cells #[.slice a f cap, .slice a2 x.length cap2, .slice A (zs.length - t) (cap - t)] 22)).drew fun e w' => ConcatPost (wit zs f t x) (w.alloc (.cells #[.slice a f cap, .slice a2 x.length cap2, .slice A (zs.length - t) (cap - t)] 22)).drew e w') := by
    have hj : joined (fun j => match j with | 0 => zs.take f | 1 => x | _ => zs.drop t) 3 = wit zs f t x := by simp [joined, wit]
    have hB : Below w.heap.size w (w.alloc (.cells #[.slice a f cap, .slice a2 x.length cap2, .slice A (zs.length - t) (cap - t)] 22)).drew := below_drewN (box_below _ _) 1
    have := concat_any w.heap.size 3 3 (fun j => match j with | 0 => .slice a f cap | 1 => .slice a2 x.length cap2 | _ => .slice A (zs.length - t) (cap - t)) (fun j => match j with | 0 => zs.take f | 1 => x | _ => zs.drop t) (w.alloc (.cells #[.slice a f cap, .slice a2 x.length cap2, .slice A (zs.length - t) (cap - t)] 22)).drew (by decide) (by show w.heap.size < (w.alloc _).heap.size; rw [size_alloc]; omega)
      (fun j hj => by
        match j, hj with
        | 0, _ => exact new_cells w [.slice a f cap, .slice a2 x.length cap2, .slice A (zs.length - t) (cap - t)] _ 0 _ rfl
        | 1, _ => exact new_cells w [.slice a f cap, .slice a2 x.length cap2, .slice A (zs.length - t) (cap - t)] _ 1 _ rfl
        | 2, _ => exact new_cells w [.slice a f cap, .slice a2 x.length cap2, .slice A (zs.length - t) (cap - t)] _ 2 _ rfl)
      (fun j hj => by
        match j, hj with
        | 0, _ => exact hl.below hB
        | 1, _ => exact hp.below hB
        | 2, _ => exact hr.below hB) (by rw [hj, wit_len zs f t x h1 h2]; omega)
    rw [hj] at this
    exact this
  have HBW : Hid (Below w.heap.size w (w.alloc (.cells #[.slice a f cap, .slice a2 x.length cap2, .slice A (zs.length - t) (cap - t)] 22)).drew) := below_drewN (box_below _ _) 1
  have i2 : (f : Int) ≤ (cap : Int) := by omega
  have i3 : (t : Int) ≤ (zs.length : Int) := by omega
  clear h hp hl hr hle
  go_enter Try.func28, Try.ntmps28
  go_wp2_with fail
  go_region_with (go_at_call 15; refine HCC.out.mono ?_; rintro e w6 ⟨hb6, v6, rfl, hown6⟩)
  all_goals (
    have HB6 : Hid (Below w.heap.size w w6) := below_trans HBW.out hb6 HBW.out.size
    have HO6 : Hid (Own w6 w.heap.size v6 (wit zs f t x)) := hown6.less HBW.out.size
    clear hb6 hown6 HBW HCC hA
    go_wp2_with fail
    go_ret
    exact ⟨HB6.out, _, rfl, HO6.out⟩)
end Go.Proofs.Ytpgjaoemkadenaa.Seek

/- Plain mathematics of P42 to P46: what is done. -/
set_option linter.unusedVariables false
set_option linter.unusedSimpArgs false
set_option maxRecDepth 100000
namespace Go.Proofs.Ytpgjaoemkadenaa.Plain
open Seek
/-- The register that a name means, and whether it is added to. -/
def rno (name : Int) : Option (Nat × Bool) :=
  if name = 0 then some (0, false) else if 97 ≤ name ∧ name ≤ 122 then some ((name - 96).toNat, false) else if 65 ≤ name ∧ name ≤ 90 then some ((name - 64).toNat, true) else none
/-- P34. -/
def putR (ts : List (List Int)) (name : Int) (x : List Int) : List (List Int) × Int :=
  match rno name with
  | none => (nilT, 9)
  | some (k, g) => if 200 < (ahd ts k g).length + x.length then (nilT, 2) else ((ts.set k (ahd ts k g ++ x)).set 0 (ahd ts k g ++ x), 0)
/-- P35. -/
def getR (ts : List (List Int)) (name : Int) : List Int × Int :=
  match rno name with
  | none => ([], 9)
  | some (k, _) => if ts.getD k [] = [] then ([], 6) else (ts.getD k [], 0)
theorem rno_cases (name : Int) : (rno name = none ∧ NoName name) ∨ ∃ k g, rno name = some (k, g) ∧ Named name k g := by
  unfold rno NoName Named
  by_cases h0 : name = 0
  · exact .inr ⟨0, false, by rw [if_pos h0], .inl ⟨h0, rfl, rfl⟩⟩
  · rw [if_neg h0]
    by_cases h1 : 97 ≤ name ∧ name ≤ 122
    · exact .inr ⟨_, _, by rw [if_pos h1], .inr (.inl ⟨h1.1, h1.2, by omega, rfl⟩)⟩
    · rw [if_neg h1]
      by_cases h2 : 65 ≤ name ∧ name ≤ 90
      · exact .inr ⟨_, _, by rw [if_pos h2], .inr (.inr ⟨h2.1, h2.2, by omega, rfl⟩)⟩
      · exact .inl ⟨by rw [if_neg h2], h0, by omega, by omega⟩
theorem putR_is (ts : List (List Int)) (name : Int) (x : List Int) : Putd ts name x (putR ts name x).2 (putR ts name x).1 := by
  unfold putR Putd
  rcases rno_cases name with ⟨h1, h2⟩ | ⟨k, g, h1, h2⟩
  · rw [h1]
    exact .inl ⟨h2, rfl, rfl⟩
  · rw [h1]
    refine .inr ⟨k, g, h2, ?_⟩
    by_cases h : 200 < (ahd ts k g).length + x.length
    · exact .inl ⟨h, by simp [h], by simp [h]⟩
    · exact .inr ⟨by omega, by simp [h], by simp [h]⟩
theorem getR_is (ts : List (List Int)) (name : Int) : Got ts name (getR ts name).2 (getR ts name).1 := by
  unfold getR Got
  rcases rno_cases name with ⟨h1, h2⟩ | ⟨k, g, h1, h2⟩
  · rw [h1]
    exact .inl ⟨h2, rfl, rfl⟩
  · rw [h1]
    refine .inr ⟨k, g, h2, ?_⟩
    by_cases h : ts.getD k [] = []
    · exact .inl ⟨h, by simp only; rw [if_pos h], by simp only; rw [if_pos h]⟩
    · exact .inr ⟨h, by simp only; rw [if_neg h], by simp only; rw [if_neg h]⟩

/-- All that a command leaves: text, place, registers, what was looked for, mode. -/
structure Res where
  text : List Int
  loc : Int
  regs : List (List Int)
  fk : Int
  fa : Int
  mode : Int
def nulR : Res := ⟨[], 0, nilT, 0, 0, 0⟩
def lastP (n : Nat) : Int := ((n - 1 : Nat) : Int)
/-- P42. -/
def lchk (n : Nat) (k : Int) : Int := if 200 < n then 2 else if k < 0 ∨ lastP n < k then 1 else 0
def isF (k : Int) : Bool := decide (k = 102 ∨ k = 70 ∨ k = 116 ∨ k = 84)
def isO (k : Int) : Bool := decide (k = 0 ∨ k = 100 ∨ k = 99 ∨ k = 121)
/-- P43: the error ahead of all. -/
def achk (n : Nat) (k fk cnt op : Int) : Int :=
  if lchk n k ≠ 0 then lchk n k else if cnt < 0 ∨ 999 < cnt ∨ (fk ≠ 0 ∧ isF fk = false) then 1 else if isO op = true then 0 else 9
/-- P43: Op and Verb, whole. -/
def whl (op verb : Int) : Int × Int :=
  if op ≠ 0 then (op, verb) else if verb = 120 then (100, 108) else if verb = 88 then (100, 104) else if verb = 115 then (99, 108) else if verb = 83 then (99, 99)
  else if verb = 67 then (99, 36) else if verb = 68 then (100, 36) else if verb = 89 then (121, 121) else (op, verb)
def other (f : Int) : Int := if f = 102 then 70 else if f = 70 then 102 else if f = 116 then 84 else 116
/-- P44: key, argument and error of the motion that is meant. -/
def mot (verb arg fk fa : Int) : Int × Int × Int :=
  if verb ≠ 59 ∧ verb ≠ 44 then (verb, arg, 0) else if fk = 0 then (0, 0, 5) else (if verb = 44 then other fk else fk, fa, 0)
/-- P45: the span. -/
def spn (R : Res) (cnt op verb arg : Int) : Int × Int × Int :=
  if verb = op then (0, (R.text.length : Int), 0)
  else if verb = 105 ∨ verb = 97 then thing R.text R.loc (verb == 97) arg
  else if (mot verb arg R.fk R.fa).2.2 ≠ 0 then (0, 0, (mot verb arg R.fk R.fa).2.2)
  else ranges R.text R.loc cnt (mot verb arg R.fk R.fa).1 (mot verb arg R.fk R.fa).2.1
/-- P45: what the operator does. -/
def act (R : Res) (op verb : Int) (f t : Nat) : Res :=
  if op = 100 then { R with text := wit R.text f t [], loc := min (f : Int) (lastP (wit R.text f t []).length) }
  else if op = 99 then { R with text := wit R.text f t [], loc := (f : Int), mode := 1 }
  else if op = 121 then (if verb ≠ op then { R with loc := min R.loc (f : Int) } else R)
  else R
/-- P45. -/
def opd (R : Res) (cnt rg op verb arg : Int) : Res × Int :=
  if (spn R cnt op verb arg).2.2 ≠ 0 then (nulR, (spn R cnt op verb arg).2.2)
  else if (spn R cnt op verb arg).1 = (spn R cnt op verb arg).2.1 ∧ op ≠ 99 then (nulR, 5)
  else if (spn R cnt op verb arg).1 < (spn R cnt op verb arg).2.1 then
    (if (putR R.regs rg ((R.text.drop (spn R cnt op verb arg).1.toNat).take ((spn R cnt op verb arg).2.1.toNat - (spn R cnt op verb arg).1.toNat))).2 ≠ 0 then
      (nulR, (putR R.regs rg ((R.text.drop (spn R cnt op verb arg).1.toNat).take ((spn R cnt op verb arg).2.1.toNat - (spn R cnt op verb arg).1.toNat))).2)
    else (act { R with regs := (putR R.regs rg ((R.text.drop (spn R cnt op verb arg).1.toNat).take ((spn R cnt op verb arg).2.1.toNat - (spn R cnt op verb arg).1.toNat))).1 } op verb (spn R cnt op verb arg).1.toNat (spn R cnt op verb arg).2.1.toNat, 0))
  else (act R op verb (spn R cnt op verb arg).1.toNat (spn R cnt op verb arg).2.1.toNat, 0)
/-- P46: put in. -/
def pst (R : Res) (rg : Int) (n : Nat) (behind : Bool) : Res × Int :=
  if (getR R.regs rg).2 ≠ 0 then (nulR, (getR R.regs rg).2)
  else if 200 < R.text.length + n * (getR R.regs rg).1.length then (nulR, 2)
  else ({ R with text := wit R.text (if behind = true ∧ R.text ≠ [] then R.loc.toNat + 1 else R.loc.toNat) (if behind = true ∧ R.text ≠ [] then R.loc.toNat + 1 else R.loc.toNat) (rep n (getR R.regs rg).1),
                 loc := ((if behind = true ∧ R.text ≠ [] then R.loc.toNat + 1 else R.loc.toNat : Nat) : Int) + ((n * (getR R.regs rg).1.length : Nat) : Int) - 1 }, 0)
/-- A letter turned. -/
def cas (c : Int) : Int := if 65 ≤ c ∧ c ≤ 90 then c - 65 + 97 else if 97 ≤ c ∧ c ≤ 122 then c - 97 + 65 else c
/-- Letters turned from place a on, n of them. -/
def flp (zs : List Int) (a n : Nat) : List Int := zs.take a ++ ((zs.drop a).take n).map cas ++ zs.drop (a + n)
def trn (R : Res) (n : Nat) : Res × Int :=
  if R.text = [] then (nulR, 5) else ({ R with text := flp R.text R.loc.toNat n, loc := min (R.loc + (n : Int)) (lastP R.text.length) }, 0)
def rpl (R : Res) (n : Nat) (c : Int) : Res × Int :=
  if (R.text.length : Int) < R.loc + (n : Int) then (nulR, 5) else ({ R with text := wit R.text R.loc.toNat (R.loc.toNat + n) (rep n [c]), loc := R.loc + (n : Int) - 1 }, 0)
/-- P46: a line into which is going to be typed. -/
def bgn' (R : Res) (verb : Int) : Res :=
  if verb = 73 then { R with loc := (goes R.text R.loc 0 94 0 false).1, mode := 1 }
  else if verb = 97 then { R with loc := min (R.loc + 1) (R.text.length : Int), mode := 1 }
  else if verb = 65 then { R with loc := (R.text.length : Int), mode := 1 }
  else if verb = 82 then { R with mode := 2 }
  else { R with mode := 1 }
def mvd (R : Res) (cnt verb arg : Int) : Res × Int :=
  if (mot verb arg R.fk R.fa).2.2 ≠ 0 then (nulR, (mot verb arg R.fk R.fa).2.2)
  else ({ R with loc := (goes R.text R.loc cnt (mot verb arg R.fk R.fa).1 (mot verb arg R.fk R.fa).2.1 false).1 }, (goes R.text R.loc cnt (mot verb arg R.fk R.fa).1 (mot verb arg R.fk R.fa).2.1 false).2.2)
/-- What comes of a whole command. -/
def dne (R : Res) (cnt rg op verb arg : Int) : Res × Int :=
  if op ≠ 0 then opd R cnt rg op verb arg
  else if verb = 112 ∨ verb = 80 then pst R rg (times cnt) (verb == 112)
  else if verb = 126 then trn R (times cnt)
  else if verb = 114 then rpl R (times cnt) arg
  else if verb = 105 ∨ verb = 73 ∨ verb = 97 ∨ verb = 65 ∨ verb = 82 then (bgn' R verb, 0)
  else mvd R cnt verb arg
/-- P43 to P46. -/
def doe (R : Res) (cnt rg op verb arg : Int) : Res × Int :=
  if achk R.text.length R.loc R.fk cnt op ≠ 0 then (nulR, achk R.text.length R.loc R.fk cnt op)
  else if (dne R cnt rg (whl op verb).1 (whl op verb).2 arg).2 ≠ 0 then (nulR, (dne R cnt rg (whl op verb).1 (whl op verb).2 arg).2)
  else if isF verb = true then ({ (dne R cnt rg (whl op verb).1 (whl op verb).2 arg).1 with fk := verb, fa := arg }, 0)
  else ((dne R cnt rg (whl op verb).1 (whl op verb).2 arg).1, 0)
end Go.Proofs.Ytpgjaoemkadenaa.Plain

/- What a region that draws leaves: worlds that go on from one. -/
set_option linter.unusedVariables false
set_option linter.unusedSimpArgs false
set_option maxRecDepth 100000
namespace Go.Proofs.Ytpgjaoemkadenaa.Seek
open Go.RowKit
theorem below_al {W w' : World} (h : Below W.heap.size W w') (o : Obj) : Below W.heap.size W (w'.alloc o) := h.alloc h.size o
theorem below_st {W w' : World} {p : Addr} (h : Below W.heap.size W w') (hp : W.heap.size ≤ p.block) (v : Value) : Below W.heap.size W (w'.setCell p v) := h.setCell hp v
theorem below_dr {W w' : World} (h : Below W.heap.size W w') : Below W.heap.size W w'.drew := h.drew
end Go.Proofs.Ytpgjaoemkadenaa.Seek

/- Results (api.Result) in memory: variables of 33 cells, whole and by their fields; what can be read of them, and where it lies. -/
set_option linter.unusedVariables false
set_option linter.unusedSimpArgs false
set_option maxRecDepth 100000
namespace Go.Proofs.Ytpgjaoemkadenaa.Seek
open Go.RowKit Plain

theorem wide_res : Wide 38 33 := ⟨⟨_, Try.underlying38, rfl⟩, by kernel_rfl⟩
theorem wide_regs : Wide 31 27 := ⟨⟨_, Try.underlying31, rfl⟩, by kernel_rfl⟩
theorem wide_find : Wide 33 2 := ⟨⟨_, Try.underlying33, rfl⟩, by kernel_rfl⟩
theorem wide_cmd : Wide 35 5 := ⟨⟨_, Try.underlying35, rfl⟩, by kernel_rfl⟩
theorem wide_move : Wide 90 3 := ⟨⟨_, Try.underlying90, rfl⟩, by kernel_rfl⟩
theorem one_int : Try.prog.info? 3 ≠ none ∧ (Try.prog.info? 3).map (·.size) = some 1 := ⟨(by have := info3s; intro h; rw [h] at this; cases this), info3s⟩
theorem one_slice : Try.prog.info? 22 ≠ none ∧ (Try.prog.info? 22).map (·.size) = some 1 := by
  have h : (Try.prog.info? 22).map (·.size) = some 1 := by kernel_rfl
  exact ⟨(by intro h2; rw [h2] at h; cases h), h⟩
theorem one_edit : Try.prog.info? 36 ≠ none ∧ (Try.prog.info? 36).map (·.size) = some 1 := by
  have h : (Try.prog.info? 36).map (·.size) = some 1 := by kernel_rfl
  exact ⟨(by intro h2; rw [h2] at h; cases h), h⟩

/-- The cells of a result. -/
def resL (tv : Value) (k : Int) (vs : List Value) (fk fa m : Int) (ev : Value) : List Value := tv :: .int .i64 k :: (vs ++ [.int .i64 fk, .int .i64 fa, .int .i64 m, ev])
section
variable {tv ev : Value} {k fk fa m : Int} {vs : List Value}
theorem resL_len (h : vs.length = 27) : (resL tv k vs fk fa m ev).length = 33 := by simp [resL, h]
theorem resL_0 : (resL tv k vs fk fa m ev)[0]? = some tv := rfl
theorem resL_1 : (resL tv k vs fk fa m ev)[1]? = some (.int .i64 k) := rfl
theorem resL_reg (h : vs.length = 27) (j : Nat) (hj : j < 27) : (resL tv k vs fk fa m ev)[2 + j]? = vs[j]? := by
  show ((tv :: .int .i64 k :: (vs ++ [.int .i64 fk, .int .i64 fa, .int .i64 m, ev])) : List Value)[2 + j]? = _
  rw [show 2 + j = j + 1 + 1 by omega, List.getElem?_cons_succ, List.getElem?_cons_succ, List.getElem?_append_left (by omega)]
theorem resL_end (h : vs.length = 27) (j : Nat) : (resL tv k vs fk fa m ev)[29 + j]? = ([.int .i64 fk, .int .i64 fa, .int .i64 m, ev] : List Value)[j]? := by
  show ((tv :: .int .i64 k :: (vs ++ [.int .i64 fk, .int .i64 fa, .int .i64 m, ev])) : List Value)[29 + j]? = _
  rw [show 29 + j = (27 + j) + 1 + 1 by omega, List.getElem?_cons_succ, List.getElem?_cons_succ, List.getElem?_append_right (by omega)]
  congr 1
  omega
theorem resL_one (hl : AllSl vs) (ht : tv.oneCell' = true) (he : ev.oneCell' = true) : ∀ v ∈ resL tv k vs fk fa m ev, v.oneCell' = true := by
  intro v hv
  unfold resL at hv
  simp only [List.mem_cons, List.mem_append, List.not_mem_nil, or_false] at hv
  rcases hv with rfl | rfl | hv | rfl | rfl | rfl | rfl
  · exact ht
  · rfl
  · obtain ⟨a, n, c, rfl⟩ := hl.2 v hv
    rfl
  · rfl
  · rfl
  · rfl
  · exact he
theorem resL_line (tv' : Value) (k' : Int) : (resL tv k vs fk fa m ev).take 0 ++ [tv', .int .i64 k'] ++ (resL tv k vs fk fa m ev).drop (0 + [tv', .int .i64 k'].length) = resL tv' k' vs fk fa m ev := rfl
theorem resL_regs (vs' : List Value) (h : vs.length = 27) (h' : vs'.length = 27) : (resL tv k vs fk fa m ev).take 2 ++ vs' ++ (resL tv k vs fk fa m ev).drop (2 + vs'.length) = resL tv k vs' fk fa m ev := by
  unfold resL
  rw [h', show 2 + 27 = 27 + 1 + 1 by omega, List.drop_succ_cons, List.drop_succ_cons, List.drop_left' h]
  rfl
theorem resL_find (fk' fa' : Int) (h : vs.length = 27) : (resL tv k vs fk fa m ev).take 29 ++ [.int .i64 fk', .int .i64 fa'] ++ (resL tv k vs fk fa m ev).drop (29 + [Value.int .i64 fk', Value.int .i64 fa'].length) = resL tv k vs fk' fa' m ev := by
  unfold resL
  rw [show 29 = 27 + 1 + 1 by omega, List.take_succ_cons, List.take_succ_cons, List.take_left' h]
  rw [show 27 + 1 + 1 + [Value.int .i64 fk', Value.int .i64 fa'].length = (27 + 2) + 1 + 1 by rfl, List.drop_succ_cons, List.drop_succ_cons, List.drop_append, List.drop_of_length_le (by omega), h]
  simp
theorem resL_text (tv' : Value) : (resL tv k vs fk fa m ev).set 0 tv' = resL tv' k vs fk fa m ev := rfl
theorem resL_at (k' : Int) : (resL tv k vs fk fa m ev).set 1 (.int .i64 k') = resL tv k' vs fk fa m ev := rfl
theorem resL_mode (m' : Int) (h : vs.length = 27) : (resL tv k vs fk fa m ev).set 31 (.int .i64 m') = resL tv k vs fk fa m' ev := by
  unfold resL
  rw [show 31 = 29 + 1 + 1 by omega, List.set_cons_succ, List.set_cons_succ, List.set_append_right _ _ (by omega), h]
  rfl
theorem resL_edit (ev' : Value) (h : vs.length = 27) : (resL tv k vs fk fa m ev).set 32 ev' = resL tv k vs fk fa m ev' := by
  unfold resL
  rw [show 32 = 30 + 1 + 1 by omega, List.set_cons_succ, List.set_cons_succ, List.set_append_right _ _ (by omega), h]
  rfl
theorem resL_setreg (i : Nat) (v : Value) (h : vs.length = 27) (hi : i < 27) : (resL tv k vs fk fa m ev).set (2 + i) v = resL tv k (vs.set i v) fk fa m ev := by
  unfold resL
  rw [show 2 + i = i + 1 + 1 by omega, List.set_cons_succ, List.set_cons_succ, List.set_append_left _ _ (by omega)]
end
def nulL : List Value := resL (.slice none 0 0) 0 nils 0 0 0 (.slice none 0 0)
theorem nul_len : nulL.length = 33 := rfl
theorem nul_zero : (Try.prog.info? 38).map (fun i => i.zero) = some (some (.agg nulL.toArray)) := by kernel_rfl
theorem nul_built : Try.prog.built 38 [] = some nulL.toArray := by kernel_rfl
theorem nul_one : ∀ v ∈ nulL, v.oneCell' = true := resL_one nils_all rfl rfl

/-- A slice that can be read, in blocks of which P holds. -/
def Av (w : World) (P : Nat → Prop) (v : Value) (zs : List Int) : Prop := Reads w v zs ∧ (zs = [] ∨ ∀ b o n c, v = .slice (some ⟨b, o, none⟩) n c → P b)
section
variable {w w' : World} {P Q : Nat → Prop} {v : Value} {zs : List Int}
theorem Av.below (h : Av w P v zs) (hb : Below w.heap.size w w') : Av w' P v zs := ⟨h.1.below hb, h.2⟩
theorem Av.weak (h : Av w P v zs) (hq : ∀ b, P b → Q b) : Av w Q v zs := ⟨h.1, h.2.elim .inl fun f => .inr fun b o n c e => hq _ (f b o n c e)⟩
theorem Av.nil (w : World) (P : Nat → Prop) : Av w P (.slice none 0 0) [] := ⟨.inl ⟨_, _, rfl, rfl⟩, .inl rfl⟩
theorem av_arg (h : Reads w v zs) : Av w (fun b => b < w.heap.size) v zs := by
  refine ⟨h, ?_⟩
  rcases h with ⟨_, _, _, h⟩ | ⟨b, off, cap, hv, _, _, hlt, _⟩
  · exact .inl h
  · refine .inr fun b' o n c e => ?_
    rw [hv] at e
    simp only [Value.slice.injEq, Option.some.injEq, Addr.mk.injEq] at e
    omega
theorem av_own {B : Nat} (h : Own w B v zs) : Av w (fun b => B ≤ b) v zs := by
  refine ⟨h.reads, ?_⟩
  rcases h with ⟨_, _, _, h⟩ | ⟨_, g, cap, hv, hB, _⟩
  · exact .inl h
  · refine .inr fun b' o n c e => ?_
    rw [hv] at e
    simp only [Value.slice.injEq, Option.some.injEq, Addr.mk.injEq] at e
    omega
theorem Av.both (h : Av w P v zs) (h2 : Av w Q v zs) : Av w (fun b => P b ∧ Q b) v zs := by
  refine ⟨h.1, ?_⟩
  rcases h.2 with h | f
  · exact .inl h
  · rcases h2.2 with h | f2
    · exact .inl h
    · exact .inr fun b o n c e => ⟨f b o n c e, f2 b o n c e⟩
theorem Av.stored {G : Nat} (h : Av w P v zs) (hg : w.grownBy w' (some G)) (hG : ¬ P G) : Av w' P v zs := by
  refine ⟨?_, h.2⟩
  obtain ⟨h1, h2⟩ := h
  rcases h1 with h1 | ⟨b, off, cap, hv, hcap, hm, hlt, hc⟩
  · exact .inl h1
  · rcases h2 with rfl | h2
    · exact .inl ⟨_, _, hv, rfl⟩
    · have hne : b ≠ G := fun e => hG (e ▸ h2 _ _ _ _ hv)
      refine .inr ⟨b, off, cap, hv, hcap, hm, Nat.lt_of_lt_of_le hlt hg.size, fun j hj => ?_⟩
      rw [← hc j hj]
      have hbk := hg.block b hlt (fun e => hne (Option.some.inj e))
      unfold World.cell?
      simp only
      rw [hbk]
end
/-- Registers likewise. -/
def AvR (w : World) (P : Nat → Prop) (vs : List Value) (ts : List (List Int)) : Prop := ReadsR w vs ts ∧ ∀ i, i < 27 → Av w P (vs.getD i undef) (ts.getD i [])
section
variable {w w' : World} {P Q : Nat → Prop} {vs : List Value} {ts : List (List Int)}
theorem AvR.below (h : AvR w P vs ts) (hb : Below w.heap.size w w') : AvR w' P vs ts := ⟨h.1.below hb, fun i hi => (h.2 i hi).below hb⟩
theorem AvR.weak (h : AvR w P vs ts) (hq : ∀ b, P b → Q b) : AvR w Q vs ts := ⟨h.1, fun i hi => (h.2 i hi).weak hq⟩
theorem AvR.stored {G : Nat} (h : AvR w P vs ts) (hg : w.grownBy w' (some G)) (hG : ¬ P G) : AvR w' P vs ts :=
  ⟨⟨h.1.1, h.1.2.1, fun i hi => ⟨((h.2 i hi).stored hg hG).1, (h.1.2.2 i hi).2⟩⟩, fun i hi => (h.2 i hi).stored hg hG⟩
theorem avR_arg (h : ReadsR w vs ts) : AvR w (fun b => b < w.heap.size) vs ts := ⟨h, fun i hi => av_arg (h.2.2 i hi).1⟩
theorem avR_own {B : Nat} (h : OwnR w B vs ts) : AvR w (fun b => B ≤ b) vs ts := ⟨h.1, fun i hi => av_own (own_of (h.2.1 i hi))⟩
theorem AvR.both (h : AvR w P vs ts) (h2 : AvR w Q vs ts) : AvR w (fun b => P b ∧ Q b) vs ts := ⟨h.1, fun i hi => (h.2 i hi).both (h2.2 i hi)⟩
theorem avR_nil (w : World) (P : Nat → Prop) : AvR w P nils nilT := ⟨readsR_nil w, fun i hi => by rw [nils_at i hi, nilT_at]; exact Av.nil w P⟩
end
/-- A result that can be read (without its edit). -/
def ResAv (w : World) (P : Nat → Prop) (x : Value) (R : Res) : Prop :=
  ∃ a c vs, x = .agg (resL (.slice a R.text.length c) R.loc vs R.fk R.fa R.mode (.slice none 0 0)).toArray ∧ Av w P (.slice a R.text.length c) R.text ∧ AvR w P vs R.regs
theorem ResAv.below {w w' : World} {P : Nat → Prop} {x : Value} {R : Res} (h : ResAv w P x R) (hb : Below w.heap.size w w') : ResAv w' P x R := by
  obtain ⟨a, c, vs, e, h1, h2⟩ := h
  exact ⟨a, c, vs, e, h1.below hb, h2.below hb⟩
theorem ResAv.weak {w : World} {P Q : Nat → Prop} {x : Value} {R : Res} (h : ResAv w P x R) (hq : ∀ b, P b → Q b) : ResAv w Q x R := by
  obtain ⟨a, c, vs, e, h1, h2⟩ := h
  exact ⟨a, c, vs, e, h1.weak hq, h2.weak hq⟩
theorem ResAv.stored {w w' : World} {P : Nat → Prop} {x : Value} {R : Res} {G : Nat} (h : ResAv w P x R) (hg : w.grownBy w' (some G)) (hG : ¬ P G) : ResAv w' P x R := by
  obtain ⟨a, c, vs, e, h1, h2⟩ := h
  exact ⟨a, c, vs, e, h1.stored hg hG, h2.stored hg hG⟩
theorem resAv_nul (w : World) (P : Nat → Prop) : ResAv w P (.agg nulL.toArray) nulR := ⟨none, 0, nils, rfl, Av.nil w P, avR_nil w P⟩
/-- What comes of a command, and its error. -/
def DonePost (P : Nat → Prop) (r : Res × Int) (w : World) (e : Ending) (w' : World) : Prop :=
  Below w.heap.size w w' ∧ ∃ x R, e = .returned (.tuple #[x, .int .i64 r.2]) ∧ ResAv w' P x R ∧ (r.2 = 0 → R = r.1)
end Go.Proofs.Ytpgjaoemkadenaa.Seek

/- The contracts of edit.lastPlace, Check, isFind, otherWay, whole, checkAll, moveOf. -/
set_option linter.unusedVariables false
set_option linter.unusedSimpArgs false
set_option maxRecDepth 100000
namespace Go.Proofs.Ytpgjaoemkadenaa.Seek
open Go.RowKit Plain

theorem lastPlace_go (a : Option Addr) (n cap : Nat) (w : World) (h : n ≤ 1000000) : Calls Try.prog 45 #[.slice a n cap] w fun e w' => e = .returned (.int .i64 (lastP n)) ∧ w' = w := by
  have hw1 : IntKind.i64.wrap ((n : Int) - 1) = (n : Int) - 1 := by rw [IntKind.wrap_i64]; omega
  have hmax : max ((n : Int) - 1) 0 = lastP n := by unfold lastP; omega
  go_enter Try.func45, Try.ntmps45
  go_wp2_with fail
  go_ret
  exact ⟨by first | rfl | simp [hmax], rfl⟩
theorem isFind_go (x : Int) (w : World) : Calls Try.prog 24 #[.int .i64 x] w fun e w' => e = .returned (.bool (isF x)) ∧ w' = w := by
  cases h : isF x with
  | true =>
    have h2 : x = 102 ∨ x = 70 ∨ x = 116 ∨ x = 84 := by simpa [isF] using h
    clear h
    rcases h2 with rfl | rfl | rfl | rfl
    all_goals (
      go_enter Try.func24, Try.ntmps24
      go_wp2_with fail
      go_ret
      exact ⟨rfl, rfl⟩)
  | false =>
    have h2 : ¬ (x = 102 ∨ x = 70 ∨ x = 116 ∨ x = 84) := by simpa [isF] using h
    clear h
    have h3 : ¬ x = 102 := by omega
    have h4 : ¬ x = 70 := by omega
    have h5 : ¬ x = 116 := by omega
    have h6 : ¬ x = 84 := by omega
    clear h2
    go_enter Try.func24, Try.ntmps24
    go_wp2_with fail
    all_goals first
      | (exfalso; omega)
      | (go_ret; exact ⟨rfl, rfl⟩)
theorem otherWay_go (x : Int) (w : World) : Calls Try.prog 66 #[.int .i64 x] w fun e w' => e = .returned (.int .i64 (other x)) ∧ w' = w := by
  by_cases h1 : x = 102
  · subst h1
    go_enter Try.func66, Try.ntmps66
    go_wp2_with fail
    go_ret
    exact ⟨rfl, rfl⟩
  · by_cases h2 : x = 70
    · subst h2
      go_enter Try.func66, Try.ntmps66
      go_wp2_with fail
      go_ret
      exact ⟨rfl, rfl⟩
    · by_cases h3 : x = 116
      · subst h3
        go_enter Try.func66, Try.ntmps66
        go_wp2_with fail
        go_ret
        exact ⟨rfl, rfl⟩
      · rw [show other x = 116 by unfold other; rw [if_neg h1, if_neg h2, if_neg h3]]
        go_enter Try.func66, Try.ntmps66
        go_wp2_with fail
        all_goals first
          | (exfalso; omega)
          | (go_ret; exact ⟨rfl, rfl⟩)

set_option maxHeartbeats 1000000 in
theorem check_edit (a : Option Addr) (n cap : Nat) (k : Int) (w : World) (h : n ≤ maxLen) : Calls Try.prog 32 #[.agg #[.slice a n cap, .int .i64 k]] w fun e w' => e = .returned (.int .i64 (lchk n k)) ∧ Below w.heap.size w w' := by
  by_cases h1 : (200 : Int) < (n : Int)
  · rw [show lchk n k = 2 from if_pos (by omega)]
    go_enter Try.func32, Try.ntmps32
    go_wp2_with fail
    go_ret
    exact ⟨rfl, box_below _ _⟩
  · have e : lchk n k = if k < 0 ∨ lastP n < k then 1 else 0 := if_neg (by omega)
    have HL : Hid (∀ wx, Calls Try.prog 45 #[.slice a n cap] wx fun e w' => e = .returned (.int .i64 (lastP n)) ∧ w' = wx) := fun wx => lastPlace_go a n cap wx (by omega)
    by_cases h2 : k < 0
    · rw [show lchk n k = 1 by rw [e]; exact if_pos (.inl h2)]
      clear e
      have hd : decide (k < 0) = true := decide_eq_true h2
      go_enter Try.func32, Try.ntmps32
      go_wp2_with fail
      go_quiet (fail)
      go_wp2_with fail
      go_ret
      exact ⟨rfl, below_drewN (box_below _ _) _⟩
    · have HE : Hid (lchk n k = if lastP n < k then 1 else 0) := by
        show _ = _
        rw [e]
        by_cases h3 : lastP n < k
        · rw [if_pos (.inr h3), if_pos h3]
        · rw [if_neg (by omega), if_neg h3]
      generalize lchk n k = r at *
      generalize lastP n = p at *
      clear e
      by_cases h3 : p < k
      · have HR : Hid (r = 1) := HE.out.trans (if_pos h3)
        have hd : decide (k < 0) = false := decide_eq_false h2
        go_enter Try.func32, Try.ntmps32
        go_wp2_with fail
        go_quiet ((go_at_call 45; exact Calls.quiet_of_same (HL.out _)))
        go_wp2_with fail
        go_ret
        exact ⟨by rw [HR.out]; rfl, below_drewN (box_below _ _) _⟩
      · have HR : Hid (r = 0) := HE.out.trans (if_neg h3)
        have hd : decide (k < 0) = false := decide_eq_false h2
        go_enter Try.func32, Try.ntmps32
        go_wp2_with fail
        go_quiet ((go_at_call 45; exact Calls.quiet_of_same (HL.out _)))
        go_wp2_with fail
        go_ret
        exact ⟨by rw [HR.out]; rfl, below_drewN (box_below _ _) _⟩
end Go.Proofs.Ytpgjaoemkadenaa.Seek
