/- Texts of one claim, one behind the other: ResV, DoSmall, DoMid, DoMove, Steps. -/
import Derived.Test.YtpgjaoemkadenabM29
import Derived.Test.YtpgjaoemkadenabM30
import Derived.BigQuiet
import Derived.Deep.QuietTactic
/- Results (api.Result) in memory: variables of 33 cells, whole and by their fields; what can be read of them, and where it lies. -/
set_option linter.unusedVariables false
set_option linter.unusedSimpArgs false
set_option maxRecDepth 100000
namespace Go.Proofs.Ytpgjaoemkadenab.Seek
open Go.RowKit Plain

theorem wide_res : Wide 43 33 := ⟨⟨_, Try.underlying43, rfl⟩, by kernel_rfl⟩
theorem wide_regs : Wide 36 27 := ⟨⟨_, Try.underlying36, rfl⟩, by kernel_rfl⟩
theorem wide_find : Wide 40 2 := ⟨⟨_, Try.underlying40, rfl⟩, by kernel_rfl⟩
theorem wide_cmd : Wide 38 5 := ⟨⟨_, Try.underlying38, rfl⟩, by kernel_rfl⟩
theorem wide_move : Wide 99 3 := ⟨⟨_, Try.underlying99, rfl⟩, by kernel_rfl⟩
theorem one_int : Try.prog.info? 3 ≠ none ∧ (Try.prog.info? 3).map (·.size) = some 1 := ⟨(by have := info3s; intro h; rw [h] at this; cases this), info3s⟩
theorem one_slice : Try.prog.info? 22 ≠ none ∧ (Try.prog.info? 22).map (·.size) = some 1 := by
  have h : (Try.prog.info? 22).map (·.size) = some 1 := by kernel_rfl
  exact ⟨(by intro h2; rw [h2] at h; cases h), h⟩
theorem one_edit : Try.prog.info? 41 ≠ none ∧ (Try.prog.info? 41).map (·.size) = some 1 := by
  have h : (Try.prog.info? 41).map (·.size) = some 1 := by kernel_rfl
  exact ⟨(by intro h2; rw [h2] at h; cases h), h⟩

/-- The cells of a result. -/
def resL (tv : Value) (k : Int) (vs : List Value) (fk fa m : Int) (ev : Value) : List Value := tv :: .int .i64 k :: (vs ++ [.int .i64 fk, .int .i64 fa, .int .i64 m, ev])
section
variable {tv ev : Value} {k fk fa m : Int} {vs : List Value}
theorem resL_len (h : vs.length = 27) : (resL tv k vs fk fa m ev).length = 33 := by simp [resL, h]
theorem resL_0 : (resL tv k vs fk fa m ev)[0]? = some tv := rfl
theorem resL_1 : (resL tv k vs fk fa m ev)[1]? = some (.int .i64 k) := rfl
theorem resL_reg (h : vs.length = 27) (j : Nat) (hj : j < 27) : (resL tv k vs fk fa m ev)[2 + j]? = vs[j]? := by
  show ((tv :: .int .i64 k :: (vs ++ [.int .i64 fk, .int .i64 fa, .int .i64 m, ev])) : List Value)[2 + j]? = _
  rw [show 2 + j = j + 1 + 1 by omega, List.getElem?_cons_succ, List.getElem?_cons_succ, List.getElem?_append_left (by omega)]
theorem resL_end (h : vs.length = 27) (j : Nat) : (resL tv k vs fk fa m ev)[29 + j]? = ([.int .i64 fk, .int .i64 fa, .int .i64 m, ev] : List Value)[j]? := by
  show ((tv :: .int .i64 k :: (vs ++ [.int .i64 fk, .int .i64 fa, .int .i64 m, ev])) : List Value)[29 + j]? = _
  rw [show 29 + j = (27 + j) + 1 + 1 by omega, List.getElem?_cons_succ, List.getElem?_cons_succ, List.getElem?_append_right (by omega)]
  congr 1
  omega
theorem resL_one (hl : AllSl vs) (ht : tv.oneCell' = true) (he : ev.oneCell' = true) : ∀ v ∈ resL tv k vs fk fa m ev, v.oneCell' = true := by
  intro v hv
  unfold resL at hv
  simp only [List.mem_cons, List.mem_append, List.not_mem_nil, or_false] at hv
  rcases hv with rfl | rfl | hv | rfl | rfl | rfl | rfl
  · exact ht
  · rfl
  · obtain ⟨a, n, c, rfl⟩ := hl.2 v hv
    rfl
  · rfl
  · rfl
  · rfl
  · exact he
theorem resL_line (tv' : Value) (k' : Int) : (resL tv k vs fk fa m ev).take 0 ++ [tv', .int .i64 k'] ++ (resL tv k vs fk fa m ev).drop (0 + [tv', .int .i64 k'].length) = resL tv' k' vs fk fa m ev := rfl
theorem resL_regs (vs' : List Value) (h : vs.length = 27) (h' : vs'.length = 27) : (resL tv k vs fk fa m ev).take 2 ++ vs' ++ (resL tv k vs fk fa m ev).drop (2 + vs'.length) = resL tv k vs' fk fa m ev := by
  unfold resL
  rw [h', show 2 + 27 = 27 + 1 + 1 by omega, List.drop_succ_cons, List.drop_succ_cons, List.drop_left' h]
  rfl
theorem resL_find (fk' fa' : Int) (h : vs.length = 27) : (resL tv k vs fk fa m ev).take 29 ++ [.int .i64 fk', .int .i64 fa'] ++ (resL tv k vs fk fa m ev).drop (29 + [Value.int .i64 fk', Value.int .i64 fa'].length) = resL tv k vs fk' fa' m ev := by
  unfold resL
  rw [show 29 = 27 + 1 + 1 by omega, List.take_succ_cons, List.take_succ_cons, List.take_left' h]
  rw [show 27 + 1 + 1 + [Value.int .i64 fk', Value.int .i64 fa'].length = (27 + 2) + 1 + 1 by rfl, List.drop_succ_cons, List.drop_succ_cons, List.drop_append, List.drop_of_length_le (by omega), h]
  simp
theorem resL_text (tv' : Value) : (resL tv k vs fk fa m ev).set 0 tv' = resL tv' k vs fk fa m ev := rfl
theorem resL_at (k' : Int) : (resL tv k vs fk fa m ev).set 1 (.int .i64 k') = resL tv k' vs fk fa m ev := rfl
theorem resL_mode (m' : Int) (h : vs.length = 27) : (resL tv k vs fk fa m ev).set 31 (.int .i64 m') = resL tv k vs fk fa m' ev := by
  unfold resL
  rw [show 31 = 29 + 1 + 1 by omega, List.set_cons_succ, List.set_cons_succ, List.set_append_right _ _ (by omega), h]
  rfl
theorem resL_edit (ev' : Value) (h : vs.length = 27) : (resL tv k vs fk fa m ev).set 32 ev' = resL tv k vs fk fa m ev' := by
  unfold resL
  rw [show 32 = 30 + 1 + 1 by omega, List.set_cons_succ, List.set_cons_succ, List.set_append_right _ _ (by omega), h]
  rfl
theorem resL_setreg (i : Nat) (v : Value) (h : vs.length = 27) (hi : i < 27) : (resL tv k vs fk fa m ev).set (2 + i) v = resL tv k (vs.set i v) fk fa m ev := by
  unfold resL
  rw [show 2 + i = i + 1 + 1 by omega, List.set_cons_succ, List.set_cons_succ, List.set_append_left _ _ (by omega)]
end
def nulL : List Value := resL (.slice none 0 0) 0 nils 0 0 0 (.slice none 0 0)
theorem nul_len : nulL.length = 33 := rfl
theorem nul_zero : (Try.prog.info? 43).map (fun i => i.zero) = some (some (.agg nulL.toArray)) := by kernel_rfl
theorem nul_built : Try.prog.built 43 [] = some nulL.toArray := by kernel_rfl
theorem nul_one : ∀ v ∈ nulL, v.oneCell' = true := resL_one nils_all rfl rfl

/-- A slice that can be read, in blocks of which P holds. -/
def Av (w : World) (P : Nat → Prop) (v : Value) (zs : List Int) : Prop := Reads w v zs ∧ (zs = [] ∨ ∀ b o n c, v = .slice (some ⟨b, o, none⟩) n c → P b)
section
variable {w w' : World} {P Q : Nat → Prop} {v : Value} {zs : List Int}
theorem Av.below (h : Av w P v zs) (hb : Below w.heap.size w w') : Av w' P v zs := ⟨h.1.below hb, h.2⟩
theorem Av.weak (h : Av w P v zs) (hq : ∀ b, P b → Q b) : Av w Q v zs := ⟨h.1, h.2.elim .inl fun f => .inr fun b o n c e => hq _ (f b o n c e)⟩
theorem Av.nil (w : World) (P : Nat → Prop) : Av w P (.slice none 0 0) [] := ⟨.inl ⟨_, _, rfl, rfl⟩, .inl rfl⟩
theorem av_arg (h : Reads w v zs) : Av w (fun b => b < w.heap.size) v zs := by
  refine ⟨h, ?_⟩
  rcases h with ⟨_, _, _, h⟩ | ⟨b, off, cap, hv, _, _, hlt, _⟩
  · exact .inl h
  · refine .inr fun b' o n c e => ?_
    rw [hv] at e
    simp only [Value.slice.injEq, Option.some.injEq, Addr.mk.injEq] at e
    omega
theorem av_own {B : Nat} (h : Own w B v zs) : Av w (fun b => B ≤ b) v zs := by
  refine ⟨h.reads, ?_⟩
  rcases h with ⟨_, _, _, h⟩ | ⟨_, g, cap, hv, hB, _⟩
  · exact .inl h
  · refine .inr fun b' o n c e => ?_
    rw [hv] at e
    simp only [Value.slice.injEq, Option.some.injEq, Addr.mk.injEq] at e
    omega
theorem Av.both (h : Av w P v zs) (h2 : Av w Q v zs) : Av w (fun b => P b ∧ Q b) v zs := by
  refine ⟨h.1, ?_⟩
  rcases h.2 with h | f
  · exact .inl h
  · rcases h2.2 with h | f2
    · exact .inl h
    · exact .inr fun b o n c e => ⟨f b o n c e, f2 b o n c e⟩
theorem Av.stored {G : Nat} (h : Av w P v zs) (hg : w.grownBy w' (some G)) (hG : ¬ P G) : Av w' P v zs := by
  refine ⟨?_, h.2⟩
  obtain ⟨h1, h2⟩ := h
  rcases h1 with h1 | ⟨b, off, cap, hv, hcap, hm, hlt, hc⟩
  · exact .inl h1
  · rcases h2 with rfl | h2
    · exact .inl ⟨_, _, hv, rfl⟩
    · have hne : b ≠ G := fun e => hG (e ▸ h2 _ _ _ _ hv)
      refine .inr ⟨b, off, cap, hv, hcap, hm, Nat.lt_of_lt_of_le hlt hg.size, fun j hj => ?_⟩
      rw [← hc j hj]
      have hbk := hg.block b hlt (fun e => hne (Option.some.inj e))
      unfold World.cell?
      simp only
      rw [hbk]
end
/-- Registers likewise. -/
def AvR (w : World) (P : Nat → Prop) (vs : List Value) (ts : List (List Int)) : Prop := ReadsR w vs ts ∧ ∀ i, i < 27 → Av w P (vs.getD i undef) (ts.getD i [])
section
variable {w w' : World} {P Q : Nat → Prop} {vs : List Value} {ts : List (List Int)}
theorem AvR.below (h : AvR w P vs ts) (hb : Below w.heap.size w w') : AvR w' P vs ts := ⟨h.1.below hb, fun i hi => (h.2 i hi).below hb⟩
theorem AvR.weak (h : AvR w P vs ts) (hq : ∀ b, P b → Q b) : AvR w Q vs ts := ⟨h.1, fun i hi => (h.2 i hi).weak hq⟩
theorem AvR.stored {G : Nat} (h : AvR w P vs ts) (hg : w.grownBy w' (some G)) (hG : ¬ P G) : AvR w' P vs ts :=
  ⟨⟨h.1.1, h.1.2.1, fun i hi => ⟨((h.2 i hi).stored hg hG).1, (h.1.2.2 i hi).2⟩⟩, fun i hi => (h.2 i hi).stored hg hG⟩
theorem avR_arg (h : ReadsR w vs ts) : AvR w (fun b => b < w.heap.size) vs ts := ⟨h, fun i hi => av_arg (h.2.2 i hi).1⟩
theorem avR_own {B : Nat} (h : OwnR w B vs ts) : AvR w (fun b => B ≤ b) vs ts := ⟨h.1, fun i hi => av_own (own_of (h.2.1 i hi))⟩
theorem AvR.both (h : AvR w P vs ts) (h2 : AvR w Q vs ts) : AvR w (fun b => P b ∧ Q b) vs ts := ⟨h.1, fun i hi => (h.2 i hi).both (h2.2 i hi)⟩
theorem avR_nil (w : World) (P : Nat → Prop) : AvR w P nils nilT := ⟨readsR_nil w, fun i hi => by rw [nils_at i hi, nilT_at]; exact Av.nil w P⟩
end
/-- A result that can be read (without its edit). -/
def ResAv (w : World) (P : Nat → Prop) (x : Value) (R : Res) : Prop :=
  ∃ a c vs, x = .agg (resL (.slice a R.text.length c) R.loc vs R.fk R.fa R.mode (.slice none 0 0)).toArray ∧ Av w P (.slice a R.text.length c) R.text ∧ AvR w P vs R.regs
theorem ResAv.below {w w' : World} {P : Nat → Prop} {x : Value} {R : Res} (h : ResAv w P x R) (hb : Below w.heap.size w w') : ResAv w' P x R := by
  obtain ⟨a, c, vs, e, h1, h2⟩ := h
  exact ⟨a, c, vs, e, h1.below hb, h2.below hb⟩
theorem ResAv.weak {w : World} {P Q : Nat → Prop} {x : Value} {R : Res} (h : ResAv w P x R) (hq : ∀ b, P b → Q b) : ResAv w Q x R := by
  obtain ⟨a, c, vs, e, h1, h2⟩ := h
  exact ⟨a, c, vs, e, h1.weak hq, h2.weak hq⟩
theorem ResAv.stored {w w' : World} {P : Nat → Prop} {x : Value} {R : Res} {G : Nat} (h : ResAv w P x R) (hg : w.grownBy w' (some G)) (hG : ¬ P G) : ResAv w' P x R := by
  obtain ⟨a, c, vs, e, h1, h2⟩ := h
  exact ⟨a, c, vs, e, h1.stored hg hG, h2.stored hg hG⟩
theorem resAv_nul (w : World) (P : Nat → Prop) : ResAv w P (.agg nulL.toArray) nulR := ⟨none, 0, nils, rfl, Av.nil w P, avR_nil w P⟩
/-- What comes of a command, and its error. -/
def DonePost (P : Nat → Prop) (r : Res × Int) (w : World) (e : Ending) (w' : World) : Prop :=
  Below w.heap.size w w' ∧ ∃ x R, e = .returned (.tuple #[x, .int .i64 r.2]) ∧ ResAv w' P x R ∧ (r.2 = 0 → R = r.1)
end Go.Proofs.Ytpgjaoemkadenab.Seek

/- The contracts of edit.lastPlace, Check, isFind, otherWay, whole, checkAll, moveOf. -/
set_option linter.unusedVariables false
set_option linter.unusedSimpArgs false
set_option maxRecDepth 100000
namespace Go.Proofs.Ytpgjaoemkadenab.Seek
open Go.RowKit Plain

theorem lastPlace_go (a : Option Addr) (n cap : Nat) (w : World) (h : n ≤ 1000000) : Calls Try.prog 47 #[.slice a n cap] w fun e w' => e = .returned (.int .i64 (lastP n)) ∧ w' = w := by
  have hw1 : IntKind.i64.wrap ((n : Int) - 1) = (n : Int) - 1 := by rw [IntKind.wrap_i64]; omega
  have hmax : max ((n : Int) - 1) 0 = lastP n := by unfold lastP; omega
  go_enter Try.func47, Try.ntmps47
  go_wp2_with fail
  go_ret
  exact ⟨by first | rfl | simp [hmax], rfl⟩
theorem isFind_go (x : Int) (w : World) : Calls Try.prog 26 #[.int .i64 x] w fun e w' => e = .returned (.bool (isF x)) ∧ w' = w := by
  cases h : isF x with
  | true =>
    have h2 : x = 102 ∨ x = 70 ∨ x = 116 ∨ x = 84 := by simpa [isF] using h
    clear h
    rcases h2 with rfl | rfl | rfl | rfl
    all_goals (
      go_enter Try.func26, Try.ntmps26
      go_wp2_with fail
      go_ret
      exact ⟨rfl, rfl⟩)
  | false =>
    have h2 : ¬ (x = 102 ∨ x = 70 ∨ x = 116 ∨ x = 84) := by simpa [isF] using h
    clear h
    have h3 : ¬ x = 102 := by omega
    have h4 : ¬ x = 70 := by omega
    have h5 : ¬ x = 116 := by omega
    have h6 : ¬ x = 84 := by omega
    clear h2
    go_enter Try.func26, Try.ntmps26
    go_wp2_with fail
    all_goals first
      | (exfalso; omega)
      | (go_ret; exact ⟨rfl, rfl⟩)
theorem otherWay_go (x : Int) (w : World) : Calls Try.prog 68 #[.int .i64 x] w fun e w' => e = .returned (.int .i64 (other x)) ∧ w' = w := by
  by_cases h1 : x = 102
  · subst h1
    go_enter Try.func68, Try.ntmps68
    go_wp2_with fail
    go_ret
    exact ⟨rfl, rfl⟩
  · by_cases h2 : x = 70
    · subst h2
      go_enter Try.func68, Try.ntmps68
      go_wp2_with fail
      go_ret
      exact ⟨rfl, rfl⟩
    · by_cases h3 : x = 116
      · subst h3
        go_enter Try.func68, Try.ntmps68
        go_wp2_with fail
        go_ret
        exact ⟨rfl, rfl⟩
      · rw [show other x = 116 by unfold other; rw [if_neg h1, if_neg h2, if_neg h3]]
        go_enter Try.func68, Try.ntmps68
        go_wp2_with fail
        all_goals first
          | (exfalso; omega)
          | (go_ret; exact ⟨rfl, rfl⟩)

set_option maxHeartbeats 1000000 in
theorem check_edit (a : Option Addr) (n cap : Nat) (k : Int) (w : World) (h : n ≤ maxLen) : Calls Try.prog 36 #[.agg #[.slice a n cap, .int .i64 k]] w fun e w' => e = .returned (.int .i64 (lchk n k)) ∧ Below w.heap.size w w' := by
  by_cases h1 : (200 : Int) < (n : Int)
  · rw [show lchk n k = 2 from if_pos (by omega)]
    go_enter Try.func36, Try.ntmps36
    go_wp2_with fail
    go_ret
    exact ⟨rfl, box_below _ _⟩
  · have e : lchk n k = if k < 0 ∨ lastP n < k then 1 else 0 := if_neg (by omega)
    have HL : Hid (∀ wx, Calls Try.prog 47 #[.slice a n cap] wx fun e w' => e = .returned (.int .i64 (lastP n)) ∧ w' = wx) := fun wx => lastPlace_go a n cap wx (by omega)
    by_cases h2 : k < 0
    · rw [show lchk n k = 1 by rw [e]; exact if_pos (.inl h2)]
      clear e
      have hd : decide (k < 0) = true := decide_eq_true h2
      go_enter Try.func36, Try.ntmps36
      go_wp2_with fail
      go_quiet (fail)
      go_wp2_with fail
      go_ret
      exact ⟨rfl, below_drewN (box_below _ _) _⟩
    · have HE : Hid (lchk n k = if lastP n < k then 1 else 0) := by
        show _ = _
        rw [e]
        by_cases h3 : lastP n < k
        · rw [if_pos (.inr h3), if_pos h3]
        · rw [if_neg (by omega), if_neg h3]
      generalize lchk n k = r at *
      generalize lastP n = p at *
      clear e
      by_cases h3 : p < k
      · have HR : Hid (r = 1) := HE.out.trans (if_pos h3)
        have hd : decide (k < 0) = false := decide_eq_false h2
        go_enter Try.func36, Try.ntmps36
        go_wp2_with fail
        go_quiet ((go_at_call 47; exact Calls.quiet_of_same (HL.out _)))
        go_wp2_with fail
        go_ret
        exact ⟨by rw [HR.out]; rfl, below_drewN (box_below _ _) _⟩
      · have HR : Hid (r = 0) := HE.out.trans (if_neg h3)
        have hd : decide (k < 0) = false := decide_eq_false h2
        go_enter Try.func36, Try.ntmps36
        go_wp2_with fail
        go_quiet ((go_at_call 47; exact Calls.quiet_of_same (HL.out _)))
        go_wp2_with fail
        go_ret
        exact ⟨by rw [HR.out]; rfl, below_drewN (box_below _ _) _⟩
end Go.Proofs.Ytpgjaoemkadenab.Seek

/- The contracts of edit.whole, checkAll, moveOf. -/
set_option linter.unusedVariables false
set_option linter.unusedSimpArgs false
set_option maxRecDepth 100000
namespace Go.Proofs.Ytpgjaoemkadenab.Seek
open Go.RowKit Plain

/-- A command as a value. -/
def cmdV (c r o v a : Int) : Value := .agg #[.int .i64 c, .int .i64 r, .int .i64 o, .int .i64 v, .int .i64 a]
set_option maxHeartbeats 1000000 in
theorem whole_set (c r v a o' v' : Int) (w : World) (h : (v = 120 ∧ o' = 100 ∧ v' = 108) ∨ (v = 88 ∧ o' = 100 ∧ v' = 104) ∨ (v = 115 ∧ o' = 99 ∧ v' = 108) ∨ (v = 83 ∧ o' = 99 ∧ v' = 99) ∨ (v = 67 ∧ o' = 99 ∧ v' = 36) ∨ (v = 68 ∧ o' = 100 ∧ v' = 36) ∨ (v = 89 ∧ o' = 121 ∧ v' = 121)) :
    Calls Try.prog 25 #[.agg #[.int .i64 c, .int .i64 r, .int .i64 0, .int .i64 v, .int .i64 a]] w fun e w' => e = .returned (.agg #[.int .i64 c, .int .i64 r, .int .i64 o', .int .i64 v', .int .i64 a]) ∧ Below w.heap.size w w' := by
  rcases h with ⟨rfl, rfl, rfl⟩ | ⟨rfl, rfl, rfl⟩ | ⟨rfl, rfl, rfl⟩ | ⟨rfl, rfl, rfl⟩ | ⟨rfl, rfl, rfl⟩ | ⟨rfl, rfl, rfl⟩ | ⟨rfl, rfl, rfl⟩
  all_goals (
    go_enter Try.func25, Try.ntmps25
    go_wp2_with fail
    (try simp only [Exit.inBlock, Exit.then])
    refine bodyPost_ret (ret_box1 rfl _ _ (w.heap.size + 1) _ rfl (start2 w 38 38 [.int .i64 c, .int .i64 r, _, _, .int .i64 a] [.int .i64 c, .int .i64 r, _, _, .int .i64 a]).2.1 wide_cmd) rfl ?_
    exact ⟨rfl, (start2 w 38 38 _ _).2.2⟩)
set_option maxHeartbeats 1000000 in
theorem whole_same (c r o v a : Int) (w : World) (h : o ≠ 0 ∨ (v ≠ 120 ∧ v ≠ 88 ∧ v ≠ 115 ∧ v ≠ 83 ∧ v ≠ 67 ∧ v ≠ 68 ∧ v ≠ 89)) :
    Calls Try.prog 25 #[.agg #[.int .i64 c, .int .i64 r, .int .i64 o, .int .i64 v, .int .i64 a]] w fun e w' => e = .returned (.agg #[.int .i64 c, .int .i64 r, .int .i64 o, .int .i64 v, .int .i64 a]) ∧ Below w.heap.size w w' := by
  by_cases h0 : o = 0
  · obtain ⟨h1, h2, h3, h4, h5, h6, h7⟩ := h.resolve_left (by omega)
    subst h0
    clear h
    have b1 : (v == 120) = false := by simpa using h1
    have b2 : (v == 88) = false := by simpa using h2
    have b3 : (v == 115) = false := by simpa using h3
    have b4 : (v == 83) = false := by simpa using h4
    have b5 : (v == 67) = false := by simpa using h5
    have b6 : (v == 68) = false := by simpa using h6
    have b7 : (v == 89) = false := by simpa using h7
    clear h1 h2 h3 h4 h5 h6 h7
    go_enter Try.func25, Try.ntmps25
    go_wp2_with fail
    (try simp only [Exit.inBlock, Exit.then])
    refine bodyPost_ret (ret_box1 rfl _ _ (w.heap.size + 1) _ rfl (start2 w 38 38 [.int .i64 c, .int .i64 r, _, _, .int .i64 a] [.int .i64 c, .int .i64 r, _, _, .int .i64 a]).2.1 wide_cmd) rfl ?_
    exact ⟨rfl, (start2 w 38 38 _ _).2.2⟩
  · have b0 : (o != 0) = true := by simpa using h0
    clear h h0
    go_enter Try.func25, Try.ntmps25
    go_wp2_with fail
    (try simp only [Exit.inBlock, Exit.then])
    refine bodyPost_ret (ret_box1 rfl _ _ (w.heap.size + 1) _ rfl (start2 w 38 38 [.int .i64 c, .int .i64 r, _, _, .int .i64 a] [.int .i64 c, .int .i64 r, _, _, .int .i64 a]).2.1 wide_cmd) rfl ?_
    exact ⟨rfl, (start2 w 38 38 _ _).2.2⟩
theorem whole_go (c r o v a : Int) (w : World) :
    Calls Try.prog 25 #[.agg #[.int .i64 c, .int .i64 r, .int .i64 o, .int .i64 v, .int .i64 a]] w fun e w' => e = .returned (.agg #[.int .i64 c, .int .i64 r, .int .i64 (whl o v).1, .int .i64 (whl o v).2, .int .i64 a]) ∧ Below w.heap.size w w' := by
  unfold whl
  by_cases h0 : o = 0
  · subst h0
    rw [if_neg (by decide)]
    by_cases h1 : v = 120
    · rw [if_pos h1]; exact whole_set c r v a 100 108 w (by omega)
    rw [if_neg h1]
    by_cases h2 : v = 88
    · rw [if_pos h2]; exact whole_set c r v a 100 104 w (by omega)
    rw [if_neg h2]
    by_cases h3 : v = 115
    · rw [if_pos h3]; exact whole_set c r v a 99 108 w (by omega)
    rw [if_neg h3]
    by_cases h4 : v = 83
    · rw [if_pos h4]; exact whole_set c r v a 99 99 w (by omega)
    rw [if_neg h4]
    by_cases h5 : v = 67
    · rw [if_pos h5]; exact whole_set c r v a 99 36 w (by omega)
    rw [if_neg h5]
    by_cases h6 : v = 68
    · rw [if_pos h6]; exact whole_set c r v a 100 36 w (by omega)
    rw [if_neg h6]
    by_cases h7 : v = 89
    · rw [if_pos h7]; exact whole_set c r v a 121 121 w (by omega)
    rw [if_neg h7]
    exact whole_same c r 0 v a w (.inr ⟨h1, h2, h3, h4, h5, h6, h7⟩)
  · rw [if_pos h0]
    exact whole_same c r o v a w (.inl h0)
/-- A motion that a call tells. -/
def MovePost (c : Int) (m : Int × Int × Int) (w : World) (e : Ending) (w' : World) : Prop := Below w.heap.size w w' ∧ ∃ cc, (m.2.2 = 0 → cc = c) ∧ e = .returned (.tuple #[.agg #[.int .i64 m.1, .int .i64 cc, .int .i64 m.2.1], .int .i64 m.2.2])
set_option maxHeartbeats 1000000 in
theorem moveOf_plain (c r o v a fk fa : Int) (w : World) (h1 : v ≠ 59) (h2 : v ≠ 44) :
    Calls Try.prog 54 #[.agg #[.int .i64 c, .int .i64 r, .int .i64 o, .int .i64 v, .int .i64 a], .agg #[.int .i64 fk, .int .i64 fa]] w fun e w' => e = .returned (.tuple #[.agg #[.int .i64 v, .int .i64 c, .int .i64 a], .int .i64 0]) ∧ Below w.heap.size w w' := by
  have b1 : (v != 59) = true := by simpa using h1
  have b2 : (v != 44) = true := by simpa using h2
  go_enter Try.func54, Try.ntmps54
  go_wp2_with fail
  (try simp only [Exit.inBlock, Exit.then])
  refine bodyPost_ret (ret_box rfl _ _ (w.heap.size + 1 + 1) [.int .i64 v, .int .i64 c, .int .i64 a] _ rfl rfl (start3 w 38 40 99 [.int .i64 c, .int .i64 r, .int .i64 o, .int .i64 v, .int .i64 a] [.int .i64 fk, .int .i64 fa] [.int .i64 v, .int .i64 c, .int .i64 a]).2.2.1 wide_move) rfl ?_
  exact ⟨rfl, (start3 w 38 40 99 [.int .i64 c, .int .i64 r, .int .i64 o, .int .i64 v, .int .i64 a] [.int .i64 fk, .int .i64 fa] [.int .i64 v, .int .i64 c, .int .i64 a]).2.2.2⟩
set_option maxHeartbeats 1000000 in
theorem moveOf_none (c r o v a fa : Int) (w : World) (h : v = 59 ∨ v = 44) :
    Calls Try.prog 54 #[.agg #[.int .i64 c, .int .i64 r, .int .i64 o, .int .i64 v, .int .i64 a], .agg #[.int .i64 0, .int .i64 fa]] w fun e w' => e = .returned (.tuple #[.agg #[.int .i64 0, .int .i64 0, .int .i64 0], .int .i64 5]) ∧ Below w.heap.size w w' := by
  rcases h with rfl | rfl
  all_goals (
    go_enter Try.func54, Try.ntmps54
    go_wp2_with fail
    (try simp only [Exit.inBlock, Exit.then])
    refine bodyPost_ret (ret_box rfl _ _ (w.heap.size + 1 + 1) [.int .i64 0, .int .i64 0, .int .i64 0] _ rfl rfl (start3 w 38 40 99 [.int .i64 c, .int .i64 r, .int .i64 o, _, .int .i64 a] [.int .i64 0, .int .i64 fa] [.int .i64 0, .int .i64 0, .int .i64 0]).2.2.1 wide_move) rfl ?_
    exact ⟨rfl, (start3 w 38 40 99 _ _ _).2.2.2⟩)
set_option maxHeartbeats 1000000 in
theorem moveOf_last (c r o v a fk fa : Int) (w : World) (h : v = 59 ∨ v = 44) (hf : fk ≠ 0) :
    Calls Try.prog 54 #[.agg #[.int .i64 c, .int .i64 r, .int .i64 o, .int .i64 v, .int .i64 a], .agg #[.int .i64 fk, .int .i64 fa]] w fun e w' => e = .returned (.tuple #[.agg #[.int .i64 (if v = 44 then other fk else fk), .int .i64 c, .int .i64 fa], .int .i64 0]) ∧ Below w.heap.size w w' := by
  have hb : (fk == 0) = false := by simpa using hf
  rcases h with rfl | rfl
  · go_enter Try.func54, Try.ntmps54
    go_wp2_with fail
    (try simp only [Exit.inBlock, Exit.then])
    refine bodyPost_ret (ret_box rfl _ _ (w.heap.size + 1 + 1) [.int .i64 fk, .int .i64 c, .int .i64 fa] _ rfl rfl ((start3 w 38 40 99 [.int .i64 c, .int .i64 r, .int .i64 o, .int .i64 59, .int .i64 a] [.int .i64 fk, .int .i64 fa] [.int .i64 fk, .int .i64 c, .int .i64 fa]).2.2.1.alloc _) wide_move) rfl ?_
    exact ⟨rfl, (start3 w 38 40 99 [.int .i64 c, .int .i64 r, .int .i64 o, .int .i64 59, .int .i64 a] [.int .i64 fk, .int .i64 fa] [.int .i64 fk, .int .i64 c, .int .i64 fa]).2.2.2.alloc (start3 w 38 40 99 [.int .i64 c, .int .i64 r, .int .i64 o, .int .i64 59, .int .i64 a] [.int .i64 fk, .int .i64 fa] [.int .i64 fk, .int .i64 c, .int .i64 fa]).2.2.2.size _⟩
  · obtain ⟨x, hx⟩ : ∃ x, x = other fk := ⟨_, rfl⟩
    have HO : Hid (∀ wx, Calls Try.prog 68 #[.int .i64 fk] wx fun e w' => e = .returned (.int .i64 x) ∧ w' = wx) := fun wx => by rw [hx]; exact otherWay_go fk wx
    rw [show (if (44 : Int) = 44 then other fk else fk) = x by rw [if_pos rfl]; exact hx.symm]
    clear hx
    go_enter Try.func54, Try.ntmps54
    go_wp2_with fail
    refine (HO.out _).mono ?_
    rintro e w1 ⟨rfl, hw1⟩
    rw [hw1]
    clear hw1 w1
    go_wp2_with fail
    (try simp only [Exit.inBlock, Exit.then])
    refine bodyPost_ret (ret_box rfl _ _ (w.heap.size + 1 + 1) [.int .i64 x, .int .i64 c, .int .i64 fa] _ rfl rfl ((start3 w 38 40 99 [.int .i64 c, .int .i64 r, .int .i64 o, .int .i64 44, .int .i64 a] [.int .i64 fk, .int .i64 fa] [.int .i64 x, .int .i64 c, .int .i64 fa]).2.2.1.alloc _) wide_move) rfl ?_
    exact ⟨rfl, (start3 w 38 40 99 [.int .i64 c, .int .i64 r, .int .i64 o, .int .i64 44, .int .i64 a] [.int .i64 fk, .int .i64 fa] [.int .i64 x, .int .i64 c, .int .i64 fa]).2.2.2.alloc (start3 w 38 40 99 [.int .i64 c, .int .i64 r, .int .i64 o, .int .i64 44, .int .i64 a] [.int .i64 fk, .int .i64 fa] [.int .i64 x, .int .i64 c, .int .i64 fa]).2.2.2.size _⟩
theorem moveOf_go (c r o v a fk fa : Int) (w : World) :
    Calls Try.prog 54 #[.agg #[.int .i64 c, .int .i64 r, .int .i64 o, .int .i64 v, .int .i64 a], .agg #[.int .i64 fk, .int .i64 fa]] w fun e w' => MovePost c (mot v a fk fa) w e w' := by
  unfold mot
  by_cases h : v ≠ 59 ∧ v ≠ 44
  · rw [if_pos h]
    refine (moveOf_plain c r o v a fk fa w h.1 h.2).mono ?_
    rintro e w1 ⟨rfl, hb⟩
    exact ⟨hb, c, fun _ => rfl, rfl⟩
  · rw [if_neg h]
    by_cases hf : fk = 0
    · rw [if_pos hf]
      subst hf
      refine (moveOf_none c r o v a fa w (by omega)).mono ?_
      rintro e w1 ⟨rfl, hb⟩
      exact ⟨hb, 0, fun h => absurd h (by decide), rfl⟩
    · rw [if_neg hf]
      refine (moveOf_last c r o v a fk fa w (by omega) hf).mono ?_
      rintro e w1 ⟨rfl, hb⟩
      exact ⟨hb, c, fun _ => rfl, rfl⟩
end Go.Proofs.Ytpgjaoemkadenab.Seek

/- The contract of edit.moved. -/
set_option linter.unusedVariables false
set_option linter.unusedSimpArgs false
set_option maxRecDepth 100000
namespace Go.Proofs.Ytpgjaoemkadenab.Seek
open Go.RowKit Plain

theorem AvR.len {w : World} {P : Nat → Prop} {vs : List Value} {ts : List (List Int)} (h : AvR w P vs ts) : vs.length = 27 := h.1.1.1

set_option maxHeartbeats 1000000 in
theorem moved_bad (a : Option Addr) (cap : Nat) (vs : List Value) (R : Res) (c r o v g : Int) (w : World) (P : Nat → Prop) (hP : ∀ b, w.heap.size ≤ b → P b) (h : Av w P (.slice a R.text.length cap) R.text) (hr : AvR w P vs R.regs) (M : Int × Int × Int) (hM : mot v g R.fk R.fa = M) (he0 : M.2.2 ≠ 0) :
    Calls Try.prog 42 #[.agg (resL (.slice a R.text.length cap) R.loc vs R.fk R.fa R.mode (.slice none 0 0)).toArray, .agg #[.int .i64 c, .int .i64 r, .int .i64 o, .int .i64 v, .int .i64 g]] w fun q w' => DonePost P (nulR, M.2.2) w q w' := by
  have HM : Hid (∀ wx, Calls Try.prog 54 #[.agg #[.int .i64 c, .int .i64 r, .int .i64 o, .int .i64 v, .int .i64 g], .agg #[.int .i64 R.fk, .int .i64 R.fa]] wx fun q w' => MovePost c M wx q w') := fun wx => by rw [← hM]; exact moveOf_go c r o v g R.fk R.fa wx
  clear hM
  have hb : (M.2.2 != 0) = true := by simpa using he0
  clear he0
  have hvs : vs.length = 27 := hr.len
  have HT : Hid (∀ wx, Below w.heap.size w wx → Av wx (fun b => P b ∧ b < w.heap.size) (.slice a R.text.length cap) R.text) := fun wx hx => (h.both (av_arg h.1)).below hx
  have HRg : Hid (∀ wx, Below w.heap.size w wx → AvR wx (fun b => P b ∧ b < w.heap.size) vs R.regs) := fun wx hx => (hr.both (avR_arg hr.1)).below hx
  have HP : Hid (∀ b, w.heap.size ≤ b → P b) := hP
  have HS : Hid (AllSl vs) := hr.1.1
  clear h hr hP
  go_enter Try.func42, Try.ntmps42
  go_wp2_with (refine boxC rfl 43 _ rfl (resL (.slice a R.text.length cap) R.loc vs R.fk R.fa R.mode (.slice none 0 0)) rfl ?_)
  intro w1 ha hb
  have HB_w1 : Hid (Below w.heap.size w w1) := hb
  have A_w1 : Hid (BoxC w1 43 w.heap.size (resL (.slice a R.text.length cap) R.loc vs R.fk R.fa R.mode (.slice none 0 0))) := ha
  clear ha hb
  go_wp2_with (refine boxC rfl 38 _ rfl [.int .i64 c, .int .i64 r, .int .i64 o, .int .i64 v, .int .i64 g] rfl ?_)
  intro w2 ha hb
  have HLGC : Hid (w.heap.size ≤ w1.heap.size ∧ w.heap.size < w1.heap.size) := ⟨HB_w1.out.size, A_w1.out.lt⟩
  have HB_w2 : Hid (Below w.heap.size w w2) := below_trans HB_w1.out hb HB_w1.out.size
  have A_w2 : Hid (BoxC w2 43 w.heap.size (resL (.slice a R.text.length cap) R.loc vs R.fk R.fa R.mode (.slice none 0 0))) := A_w1.out.below hb
  clear A_w1 HB_w1
  have C_w2 : Hid (BoxC w2 38 w1.heap.size [.int .i64 c, .int .i64 r, .int .i64 o, .int .i64 v, .int .i64 g]) := ha
  clear ha hb
  generalize w1.heap.size = GC at *
  go_wp2_with (refine allocC rfl 43 rfl nulL nul_zero ?_)
  intro w3 ha hb
  have HLGZ : Hid (w.heap.size ≤ w2.heap.size ∧ w.heap.size < w2.heap.size ∧ GC < w2.heap.size) := ⟨HB_w2.out.size, A_w2.out.lt, C_w2.out.lt⟩
  have HB_w3 : Hid (Below w.heap.size w w3) := below_trans HB_w2.out hb HB_w2.out.size
  have A_w3 : Hid (BoxC w3 43 w.heap.size (resL (.slice a R.text.length cap) R.loc vs R.fk R.fa R.mode (.slice none 0 0))) := A_w2.out.below hb
  have C_w3 : Hid (BoxC w3 38 GC [.int .i64 c, .int .i64 r, .int .i64 o, .int .i64 v, .int .i64 g]) := C_w2.out.below hb
  clear A_w2 C_w2 HB_w2
  have Z_w3 : Hid (BoxC w3 43 w2.heap.size nulL) := ha
  clear ha hb
  generalize w2.heap.size = GZ at *
  have a0 : w3.cell? ⟨w.heap.size, 0, none⟩ = some (.slice a R.text.length cap) := (A_w3.out.cell 0).trans resL_0
  have a1 : w3.cell? ⟨w.heap.size, 1, none⟩ = some (.int .i64 R.loc) := (A_w3.out.cell 1).trans resL_1
  have a29 : w3.cell? ⟨w.heap.size, 29, none⟩ = some (.int .i64 R.fk) := (A_w3.out.cell 29).trans (resL_end (by assumption) 0)
  have a30 : w3.cell? ⟨w.heap.size, 30, none⟩ = some (.int .i64 R.fa) := (A_w3.out.cell 30).trans (resL_end (by assumption) 1)
  have cC0 : w3.cell? ⟨GC, 0, none⟩ = some (.int .i64 c) := (C_w3.out.cell 0).trans rfl
  have cC1 : w3.cell? ⟨GC, 1, none⟩ = some (.int .i64 r) := (C_w3.out.cell 1).trans rfl
  have cC2 : w3.cell? ⟨GC, 2, none⟩ = some (.int .i64 o) := (C_w3.out.cell 2).trans rfl
  have cC3 : w3.cell? ⟨GC, 3, none⟩ = some (.int .i64 v) := (C_w3.out.cell 3).trans rfl
  have cC4 : w3.cell? ⟨GC, 4, none⟩ = some (.int .i64 g) := (C_w3.out.cell 4).trans rfl
  go_wp2_with (fail)
  refine (HM.out _).mono ?_
  rintro q w4 ⟨hb4, cc, hcc, rfl⟩
  clear a0 a1 a29 a30 cC0 cC1 cC2 cC3 cC4
  have HB_w4 : Hid (Below w.heap.size w w4) := below_trans HB_w3.out hb4 HB_w3.out.size
  have A_w4 : Hid (BoxC w4 43 w.heap.size (resL (.slice a R.text.length cap) R.loc vs R.fk R.fa R.mode (.slice none 0 0))) := A_w3.out.below hb4
  have C_w4 : Hid (BoxC w4 38 GC [.int .i64 c, .int .i64 r, .int .i64 o, .int .i64 v, .int .i64 g]) := C_w3.out.below hb4
  have Z_w4 : Hid (BoxC w4 43 GZ nulL) := Z_w3.out.below hb4
  clear A_w3 C_w3 Z_w3 HB_w3
  clear hb4
  clear C_w4
  go_wp2_with (refine allocC rfl 99 rfl [.int .i64 0, .int .i64 0, .int .i64 0] (by kernel_rfl) ?_)
  intro w5 ha hb
  have HLGM : Hid (w.heap.size ≤ w4.heap.size ∧ w.heap.size < w4.heap.size ∧ GZ < w4.heap.size) := ⟨HB_w4.out.size, A_w4.out.lt, Z_w4.out.lt⟩
  have HB_w5 : Hid (Below w.heap.size w w5) := below_trans HB_w4.out hb HB_w4.out.size
  have A_w5 : Hid (BoxC w5 43 w.heap.size (resL (.slice a R.text.length cap) R.loc vs R.fk R.fa R.mode (.slice none 0 0))) := A_w4.out.below hb
  have Z_w5 : Hid (BoxC w5 43 GZ nulL) := Z_w4.out.below hb
  clear A_w4 Z_w4 HB_w4
  have M_w5 : Hid (BoxC w5 99 w4.heap.size [.int .i64 0, .int .i64 0, .int .i64 0]) := ha
  clear ha hb
  generalize w4.heap.size = GM at *
  go_wp2_with (refine storeC rfl 99 _ _ rfl GM rfl [.int .i64 0, .int .i64 0, .int .i64 0] [.int .i64 M.1, .int .i64 cc, .int .i64 M.2.1] rfl M_w5.out wide_move (fun v hv => by simp at hv; rcases hv with rfl | rfl | rfl <;> rfl) rfl ?_)
  intro w6 hz hg
  have HB_w6 : Hid (Below w.heap.size w w6) := HB_w5.out.grown hg HB_w5.out.size (fun j hj => by cases hj; exact (by have := HLGM.out; omega))
  have A_w6 : Hid (BoxC w6 43 w.heap.size (resL (.slice a R.text.length cap) R.loc vs R.fk R.fa R.mode (.slice none 0 0))) := A_w5.out.kept hg (fun e => by have := HLGM.out; have := Option.some.inj e; omega)
  have Z_w6 : Hid (BoxC w6 43 GZ nulL) := Z_w5.out.kept hg (fun e => by have := HLGM.out; have := HLGZ.out; have := Option.some.inj e; omega)
  clear A_w5 Z_w5 M_w5 HB_w5
  have M_w6 : Hid (BoxC w6 99 GM [.int .i64 M.1, .int .i64 cc, .int .i64 M.2.1]) := hz
  clear hz hg
  go_wp2_with (refine storeC rfl 43 _ _ rfl GZ rfl nulL nulL rfl Z_w6.out wide_res nul_one rfl ?_)
  intro w7 hz hg
  have HB_w7 : Hid (Below w.heap.size w w7) := HB_w6.out.grown hg HB_w6.out.size (fun j hj => by cases hj; exact (by have := HLGZ.out; omega))
  have A_w7 : Hid (BoxC w7 43 w.heap.size (resL (.slice a R.text.length cap) R.loc vs R.fk R.fa R.mode (.slice none 0 0))) := A_w6.out.kept hg (fun e => by have := HLGZ.out; have := Option.some.inj e; omega)
  have M_w7 : Hid (BoxC w7 99 GM [.int .i64 M.1, .int .i64 cc, .int .i64 M.2.1]) := M_w6.out.kept hg (fun e => by have := HLGZ.out; have := HLGM.out; have := Option.some.inj e; omega)
  clear A_w6 Z_w6 M_w6 HB_w6
  have Z_w7 : Hid (BoxC w7 43 GZ nulL) := hz
  clear hz hg
  go_wp2_with (fail)
  (try simp only [Exit.inBlock, Exit.then])
  refine bodyPost_ret (ret_box rfl _ _ GZ nulL _ rfl rfl Z_w7.out (by first | exact wide_res | (rw [resL_len (by assumption)]; exact wide_res))) rfl ?_
  exact ⟨HB_w7.out, _, nulR, rfl, resAv_nul _ _, fun h => rfl⟩

set_option maxHeartbeats 1000000 in
theorem moved_ok (a : Option Addr) (cap : Nat) (vs : List Value) (R : Res) (c r o v g : Int) (w : World) (P : Nat → Prop) (hP : ∀ b, w.heap.size ≤ b → P b) (h : Av w P (.slice a R.text.length cap) R.text) (hr : AvR w P vs R.regs) (M : Int × Int × Int) (hM : mot v g R.fk R.fa = M) (he0 : M.2.2 = 0) (X : Int × Bool × Int) (hX : goes R.text R.loc c M.1 M.2.1 false = X) :
    Calls Try.prog 42 #[.agg (resL (.slice a R.text.length cap) R.loc vs R.fk R.fa R.mode (.slice none 0 0)).toArray, .agg #[.int .i64 c, .int .i64 r, .int .i64 o, .int .i64 v, .int .i64 g]] w fun q w' => DonePost P ({ R with loc := X.1 }, X.2.2) w q w' := by
  have HM : Hid (∀ wx, Calls Try.prog 54 #[.agg #[.int .i64 c, .int .i64 r, .int .i64 o, .int .i64 v, .int .i64 g], .agg #[.int .i64 R.fk, .int .i64 R.fa]] wx fun q w' => MovePost c M wx q w') := fun wx => by rw [← hM]; exact moveOf_go c r o v g R.fk R.fa wx
  clear hM
  have HX : Hid (goes R.text R.loc c M.1 M.2.1 false = X) := hX
  clear hX
  have HE0 : Hid (M.2.2 = 0) := he0
  clear he0
  have hvs : vs.length = 27 := hr.len
  have HT : Hid (∀ wx, Below w.heap.size w wx → Av wx (fun b => P b ∧ b < w.heap.size) (.slice a R.text.length cap) R.text) := fun wx hx => (h.both (av_arg h.1)).below hx
  have HRg : Hid (∀ wx, Below w.heap.size w wx → AvR wx (fun b => P b ∧ b < w.heap.size) vs R.regs) := fun wx hx => (hr.both (avR_arg hr.1)).below hx
  have HP : Hid (∀ b, w.heap.size ≤ b → P b) := hP
  have HS : Hid (AllSl vs) := hr.1.1
  clear h hr hP
  go_enter Try.func42, Try.ntmps42
  go_wp2_with (refine boxC rfl 43 _ rfl (resL (.slice a R.text.length cap) R.loc vs R.fk R.fa R.mode (.slice none 0 0)) rfl ?_)
  intro w1 ha hb
  have HB_w1 : Hid (Below w.heap.size w w1) := hb
  have A_w1 : Hid (BoxC w1 43 w.heap.size (resL (.slice a R.text.length cap) R.loc vs R.fk R.fa R.mode (.slice none 0 0))) := ha
  clear ha hb
  go_wp2_with (refine boxC rfl 38 _ rfl [.int .i64 c, .int .i64 r, .int .i64 o, .int .i64 v, .int .i64 g] rfl ?_)
  intro w2 ha hb
  have HLGC : Hid (w.heap.size ≤ w1.heap.size ∧ w.heap.size < w1.heap.size) := ⟨HB_w1.out.size, A_w1.out.lt⟩
  have HB_w2 : Hid (Below w.heap.size w w2) := below_trans HB_w1.out hb HB_w1.out.size
  have A_w2 : Hid (BoxC w2 43 w.heap.size (resL (.slice a R.text.length cap) R.loc vs R.fk R.fa R.mode (.slice none 0 0))) := A_w1.out.below hb
  clear A_w1 HB_w1
  have C_w2 : Hid (BoxC w2 38 w1.heap.size [.int .i64 c, .int .i64 r, .int .i64 o, .int .i64 v, .int .i64 g]) := ha
  clear ha hb
  generalize w1.heap.size = GC at *
  go_wp2_with (refine allocC rfl 43 rfl nulL nul_zero ?_)
  intro w3 ha hb
  have HLGZ : Hid (w.heap.size ≤ w2.heap.size ∧ w.heap.size < w2.heap.size ∧ GC < w2.heap.size) := ⟨HB_w2.out.size, A_w2.out.lt, C_w2.out.lt⟩
  have HB_w3 : Hid (Below w.heap.size w w3) := below_trans HB_w2.out hb HB_w2.out.size
  have A_w3 : Hid (BoxC w3 43 w.heap.size (resL (.slice a R.text.length cap) R.loc vs R.fk R.fa R.mode (.slice none 0 0))) := A_w2.out.below hb
  have C_w3 : Hid (BoxC w3 38 GC [.int .i64 c, .int .i64 r, .int .i64 o, .int .i64 v, .int .i64 g]) := C_w2.out.below hb
  clear A_w2 C_w2 HB_w2
  have Z_w3 : Hid (BoxC w3 43 w2.heap.size nulL) := ha
  clear ha hb
  generalize w2.heap.size = GZ at *
  have a0 : w3.cell? ⟨w.heap.size, 0, none⟩ = some (.slice a R.text.length cap) := (A_w3.out.cell 0).trans resL_0
  have a1 : w3.cell? ⟨w.heap.size, 1, none⟩ = some (.int .i64 R.loc) := (A_w3.out.cell 1).trans resL_1
  have a29 : w3.cell? ⟨w.heap.size, 29, none⟩ = some (.int .i64 R.fk) := (A_w3.out.cell 29).trans (resL_end (by assumption) 0)
  have a30 : w3.cell? ⟨w.heap.size, 30, none⟩ = some (.int .i64 R.fa) := (A_w3.out.cell 30).trans (resL_end (by assumption) 1)
  have cC0 : w3.cell? ⟨GC, 0, none⟩ = some (.int .i64 c) := (C_w3.out.cell 0).trans rfl
  have cC1 : w3.cell? ⟨GC, 1, none⟩ = some (.int .i64 r) := (C_w3.out.cell 1).trans rfl
  have cC2 : w3.cell? ⟨GC, 2, none⟩ = some (.int .i64 o) := (C_w3.out.cell 2).trans rfl
  have cC3 : w3.cell? ⟨GC, 3, none⟩ = some (.int .i64 v) := (C_w3.out.cell 3).trans rfl
  have cC4 : w3.cell? ⟨GC, 4, none⟩ = some (.int .i64 g) := (C_w3.out.cell 4).trans rfl
  go_wp2_with (fail)
  refine (HM.out _).mono ?_
  rintro q w4 ⟨hb4, cc, hcc, rfl⟩
  clear a0 a1 a29 a30 cC0 cC1 cC2 cC3 cC4
  have HB_w4 : Hid (Below w.heap.size w w4) := below_trans HB_w3.out hb4 HB_w3.out.size
  have A_w4 : Hid (BoxC w4 43 w.heap.size (resL (.slice a R.text.length cap) R.loc vs R.fk R.fa R.mode (.slice none 0 0))) := A_w3.out.below hb4
  have C_w4 : Hid (BoxC w4 38 GC [.int .i64 c, .int .i64 r, .int .i64 o, .int .i64 v, .int .i64 g]) := C_w3.out.below hb4
  have Z_w4 : Hid (BoxC w4 43 GZ nulL) := Z_w3.out.below hb4
  clear A_w3 C_w3 Z_w3 HB_w3
  clear hb4
  obtain rfl := hcc HE0.out
  rw [HE0.out]
  clear C_w4
  go_wp2_with (refine allocC rfl 99 rfl [.int .i64 0, .int .i64 0, .int .i64 0] (by kernel_rfl) ?_)
  intro w5 ha hb
  have HLGM : Hid (w.heap.size ≤ w4.heap.size ∧ w.heap.size < w4.heap.size ∧ GZ < w4.heap.size) := ⟨HB_w4.out.size, A_w4.out.lt, Z_w4.out.lt⟩
  have HB_w5 : Hid (Below w.heap.size w w5) := below_trans HB_w4.out hb HB_w4.out.size
  have A_w5 : Hid (BoxC w5 43 w.heap.size (resL (.slice a R.text.length cap) R.loc vs R.fk R.fa R.mode (.slice none 0 0))) := A_w4.out.below hb
  have Z_w5 : Hid (BoxC w5 43 GZ nulL) := Z_w4.out.below hb
  clear A_w4 Z_w4 HB_w4
  have M_w5 : Hid (BoxC w5 99 w4.heap.size [.int .i64 0, .int .i64 0, .int .i64 0]) := ha
  clear ha hb
  generalize w4.heap.size = GM at *
  go_wp2_with (refine storeC rfl 99 _ _ rfl GM rfl [.int .i64 0, .int .i64 0, .int .i64 0] [.int .i64 M.1, .int .i64 cc, .int .i64 M.2.1] rfl M_w5.out wide_move (fun v hv => by simp at hv; rcases hv with rfl | rfl | rfl <;> rfl) rfl ?_)
  intro w6 hz hg
  have HB_w6 : Hid (Below w.heap.size w w6) := HB_w5.out.grown hg HB_w5.out.size (fun j hj => by cases hj; exact (by have := HLGM.out; omega))
  have A_w6 : Hid (BoxC w6 43 w.heap.size (resL (.slice a R.text.length cap) R.loc vs R.fk R.fa R.mode (.slice none 0 0))) := A_w5.out.kept hg (fun e => by have := HLGM.out; have := Option.some.inj e; omega)
  have Z_w6 : Hid (BoxC w6 43 GZ nulL) := Z_w5.out.kept hg (fun e => by have := HLGM.out; have := HLGZ.out; have := Option.some.inj e; omega)
  clear A_w5 Z_w5 M_w5 HB_w5
  have M_w6 : Hid (BoxC w6 99 GM [.int .i64 M.1, .int .i64 cc, .int .i64 M.2.1]) := hz
  clear hz hg
  go_wp2_with (first | (refine loadC rfl 43 _ rfl w.heap.size rfl (resL (.slice a R.text.length cap) R.loc vs R.fk R.fa R.mode (.slice none 0 0)) A_w6.out (by rw [resL_len (by assumption)]; exact wide_res) ?_) | (refine allocC rfl 43 rfl nulL nul_zero ?_))
  intro w7 ha hb
  have HLGN : Hid (w.heap.size ≤ w6.heap.size ∧ w.heap.size < w6.heap.size ∧ GZ < w6.heap.size ∧ GM < w6.heap.size) := ⟨HB_w6.out.size, A_w6.out.lt, Z_w6.out.lt, M_w6.out.lt⟩
  have HB_w7 : Hid (Below w.heap.size w w7) := below_trans HB_w6.out hb HB_w6.out.size
  have A_w7 : Hid (BoxC w7 43 w.heap.size (resL (.slice a R.text.length cap) R.loc vs R.fk R.fa R.mode (.slice none 0 0))) := A_w6.out.below hb
  have Z_w7 : Hid (BoxC w7 43 GZ nulL) := Z_w6.out.below hb
  have M_w7 : Hid (BoxC w7 99 GM [.int .i64 M.1, .int .i64 cc, .int .i64 M.2.1]) := M_w6.out.below hb
  clear A_w6 Z_w6 M_w6 HB_w6
  have N_w7 : Hid (BoxC w7 43 w6.heap.size nulL) := ha
  clear ha hb
  generalize w6.heap.size = GN at *
  go_wp2_with (refine storeC rfl 43 _ _ rfl GN rfl nulL (resL (.slice a R.text.length cap) R.loc vs R.fk R.fa R.mode (.slice none 0 0)) rfl N_w7.out (by rw [resL_len (by assumption)]; exact wide_res) (resL_one HS.out rfl rfl) (by rw [nul_len, resL_len (by assumption)]) ?_)
  intro w8 hz hg
  have HB_w8 : Hid (Below w.heap.size w w8) := HB_w7.out.grown hg HB_w7.out.size (fun j hj => by cases hj; exact (by have := HLGN.out; omega))
  have A_w8 : Hid (BoxC w8 43 w.heap.size (resL (.slice a R.text.length cap) R.loc vs R.fk R.fa R.mode (.slice none 0 0))) := A_w7.out.kept hg (fun e => by have := HLGN.out; have := Option.some.inj e; omega)
  have Z_w8 : Hid (BoxC w8 43 GZ nulL) := Z_w7.out.kept hg (fun e => by have := HLGN.out; have := HLGZ.out; have := Option.some.inj e; omega)
  have M_w8 : Hid (BoxC w8 99 GM [.int .i64 M.1, .int .i64 cc, .int .i64 M.2.1]) := M_w7.out.kept hg (fun e => by have := HLGN.out; have := HLGM.out; have := Option.some.inj e; omega)
  clear A_w7 Z_w7 M_w7 N_w7 HB_w7
  have N_w8 : Hid (BoxC w8 43 GN (resL (.slice a R.text.length cap) R.loc vs R.fk R.fa R.mode (.slice none 0 0))) := hz
  clear hz hg
  have a0 : w8.cell? ⟨w.heap.size, 0, none⟩ = some (.slice a R.text.length cap) := (A_w8.out.cell 0).trans resL_0
  have a1 : w8.cell? ⟨w.heap.size, 1, none⟩ = some (.int .i64 R.loc) := (A_w8.out.cell 1).trans resL_1
  have a29 : w8.cell? ⟨w.heap.size, 29, none⟩ = some (.int .i64 R.fk) := (A_w8.out.cell 29).trans (resL_end (by assumption) 0)
  have a30 : w8.cell? ⟨w.heap.size, 30, none⟩ = some (.int .i64 R.fa) := (A_w8.out.cell 30).trans (resL_end (by assumption) 1)
  have cM0 : w8.cell? ⟨GM, 0, none⟩ = some (.int .i64 M.1) := (M_w8.out.cell 0).trans rfl
  have cM1 : w8.cell? ⟨GM, 1, none⟩ = some (.int .i64 cc) := (M_w8.out.cell 1).trans rfl
  have cM2 : w8.cell? ⟨GM, 2, none⟩ = some (.int .i64 M.2.1) := (M_w8.out.cell 2).trans rfl
  go_wp2_with (fail)
  refine (go_go (.slice a R.text.length cap) R.text R.loc cc M.1 M.2.1 false _ (HT.out _ HB_w8.out).1).mono ?_
  rintro q w9 ⟨rfl, hb9⟩
  rw [HX.out]
  clear a0 a1 a29 a30 cM0 cM1 cM2
  have HB_w9 : Hid (Below w.heap.size w w9) := below_trans HB_w8.out hb9 HB_w8.out.size
  have A_w9 : Hid (BoxC w9 43 w.heap.size (resL (.slice a R.text.length cap) R.loc vs R.fk R.fa R.mode (.slice none 0 0))) := A_w8.out.below hb9
  have Z_w9 : Hid (BoxC w9 43 GZ nulL) := Z_w8.out.below hb9
  have M_w9 : Hid (BoxC w9 99 GM [.int .i64 M.1, .int .i64 cc, .int .i64 M.2.1]) := M_w8.out.below hb9
  have N_w9 : Hid (BoxC w9 43 GN (resL (.slice a R.text.length cap) R.loc vs R.fk R.fa R.mode (.slice none 0 0))) := N_w8.out.below hb9
  clear A_w8 Z_w8 M_w8 N_w8 HB_w8
  clear hb9
  clear M_w9
  go_wp2_with (refine storeO rfl 43 3 _ _ rfl GN 1 rfl (resL (.slice a R.text.length cap) R.loc vs R.fk R.fa R.mode (.slice none 0 0)) (resL (.slice a R.text.length cap) X.1 vs R.fk R.fa R.mode (.slice none 0 0)) (.int .i64 X.1) (.int .i64 R.loc) rfl N_w9.out rfl (fun xs hx => by cases hx) resL_1 one_int (resL_at _) ?_)
  intro w10 hz hg
  have HB_w10 : Hid (Below w.heap.size w w10) := HB_w9.out.grown hg HB_w9.out.size (fun j hj => by cases hj; exact (by have := HLGN.out; omega))
  have A_w10 : Hid (BoxC w10 43 w.heap.size (resL (.slice a R.text.length cap) R.loc vs R.fk R.fa R.mode (.slice none 0 0))) := A_w9.out.kept hg (fun e => by have := HLGN.out; have := Option.some.inj e; omega)
  have Z_w10 : Hid (BoxC w10 43 GZ nulL) := Z_w9.out.kept hg (fun e => by have := HLGN.out; have := HLGZ.out; have := Option.some.inj e; omega)
  clear A_w9 Z_w9 N_w9 HB_w9
  have N_w10 : Hid (BoxC w10 43 GN (resL (.slice a R.text.length cap) X.1 vs R.fk R.fa R.mode (.slice none 0 0))) := hz
  clear hz hg
  go_wp2_with (first | (refine loadC rfl 43 _ rfl GN rfl (resL (.slice a R.text.length cap) X.1 vs R.fk R.fa R.mode (.slice none 0 0)) N_w10.out (by rw [resL_len (by assumption)]; exact wide_res) ?_) | (refine storeC rfl 43 _ _ rfl GZ rfl nulL (resL (.slice a R.text.length cap) X.1 vs R.fk R.fa R.mode (.slice none 0 0)) rfl Z_w10.out (by rw [resL_len (by assumption)]; exact wide_res) (resL_one HS.out rfl rfl) (by rw [nul_len, resL_len (by assumption)]) ?_))
  intro w11 hz hg
  have HB_w11 : Hid (Below w.heap.size w w11) := HB_w10.out.grown hg HB_w10.out.size (fun j hj => by cases hj; exact (by have := HLGZ.out; omega))
  have A_w11 : Hid (BoxC w11 43 w.heap.size (resL (.slice a R.text.length cap) R.loc vs R.fk R.fa R.mode (.slice none 0 0))) := A_w10.out.kept hg (fun e => by have := HLGZ.out; have := Option.some.inj e; omega)
  have N_w11 : Hid (BoxC w11 43 GN (resL (.slice a R.text.length cap) X.1 vs R.fk R.fa R.mode (.slice none 0 0))) := N_w10.out.kept hg (fun e => by have := HLGZ.out; have := HLGN.out; have := Option.some.inj e; omega)
  clear A_w10 Z_w10 N_w10 HB_w10
  have Z_w11 : Hid (BoxC w11 43 GZ (resL (.slice a R.text.length cap) X.1 vs R.fk R.fa R.mode (.slice none 0 0))) := hz
  clear hz hg
  go_wp2_with (fail)
  (try simp only [Exit.inBlock, Exit.then])
  refine bodyPost_ret (ret_box rfl _ _ GZ (resL (.slice a R.text.length cap) X.1 vs R.fk R.fa R.mode (.slice none 0 0)) _ rfl rfl Z_w11.out (by first | exact wide_res | (rw [resL_len (by assumption)]; exact wide_res))) rfl ?_
  exact ⟨HB_w11.out, _, { R with loc := X.1 }, rfl, ⟨a, cap, vs, rfl, ((HT.out _ HB_w11.out).weak (fun b hb => hb.1)), ((HRg.out _ HB_w11.out).weak (fun b hb => hb.1))⟩, fun _ => rfl⟩

theorem moved_go (a : Option Addr) (cap : Nat) (vs : List Value) (R : Res) (c r o v g : Int) (w : World) (P : Nat → Prop) (hP : ∀ b, w.heap.size ≤ b → P b) (h : Av w P (.slice a R.text.length cap) R.text) (hr : AvR w P vs R.regs) :
    Calls Try.prog 42 #[.agg (resL (.slice a R.text.length cap) R.loc vs R.fk R.fa R.mode (.slice none 0 0)).toArray, .agg #[.int .i64 c, .int .i64 r, .int .i64 o, .int .i64 v, .int .i64 g]] w fun q w' => DonePost P (mvd R c v g) w q w' := by
  unfold mvd
  by_cases h0 : (mot v g R.fk R.fa).2.2 = 0
  · rw [if_neg (by rw [h0]; decide)]
    exact moved_ok a cap vs R c r o v g w P hP h hr _ rfl h0 _ rfl
  · rw [if_pos h0]
    exact moved_bad a cap vs R c r o v g w P hP h hr _ rfl h0
end Go.Proofs.Ytpgjaoemkadenab.Seek

/- Operations of a region that draws its order, on variables of several cells. -/
set_option linter.unusedVariables false
set_option linter.unusedSimpArgs false
set_option maxRecDepth 100000
namespace Go.Proofs.Ytpgjaoemkadenab.Seek
open Go.RowKit
theorem exec_loadP {f : Operand → Value} {o : Oper} (t t' : TypeId) (x : Operand) (ho : o.op = .load t' x) (g k : Nat) (hx : f x = .pointer (some ⟨g, k, none⟩)) (cs ds : List Value) {w : World} (hg : BoxC w t g cs) (hW : Wide t' ds.length) (hd : ∀ j v, ds[j]? = some v → cs[k + j]? = some v) : (execOp f o).run Try.prog w = .ok (.value (.agg ds.toArray)) w := by
  obtain ⟨⟨d, hu, hr⟩, hi⟩ := hW
  unfold execOp
  simp only [ho, hx, Instr.loadAt, Instr.sureAddr, Sem.run_bind, Sem.run_pure, Result.andThen_ok, run_loadVar_mid w g k t' ds d (hg.range k ds hd) hu hr hi]
theorem exec_loadC {f : Operand → Value} {o : Oper} (t : TypeId) (x : Operand) (ho : o.op = .load t x) (g : Nat) (hx : f x = .pointer (some ⟨g, 0, none⟩)) (cs : List Value) {w : World} (hg : BoxC w t g cs) (hW : Wide t cs.length) : (execOp f o).run Try.prog w = .ok (.value (.agg cs.toArray)) w :=
  exec_loadP t t x ho g 0 hx cs cs hg hW (fun j v hv => by rw [Nat.zero_add]; exact hv)
theorem exec_load1 {f : Operand → Value} {o : Oper} (t t' : TypeId) (x : Operand) (ho : o.op = .load t' x) (g k : Nat) (hx : f x = .pointer (some ⟨g, k, none⟩)) (cs : List Value) (v : Value) {w : World} (hg : BoxC w t g cs) (hv : cs[k]? = some v) (hn : ∀ w, (isAgg t').run Try.prog w = .ok false w) : (execOp f o).run Try.prog w = .ok (.value v) w := by
  have hc : w.cell? ⟨g, k, none⟩ = some v := (hg.cell k).trans hv
  unfold execOp
  simp only [ho, hx]
  go_simp
theorem step_allocC {w : World} {ops : Array Oper} {o : Oper} {a : Act} {K : Act → World → Prop} {Q : Exit → Act → World → Prop} {E : Prop} (hgd : o.guard = none) (t : TypeId) (ho : o.op = .alloc t) (cs : List Value) (hz : (Try.prog.info? t).map (fun i => i.zero) = some (some (.agg cs.toArray)))
    (h : ∀ w', BoxC w' t w.heap.size cs → Below w.heap.size w w' → K (a.put o.dst (.pointer (some ⟨w.heap.size, 0, none⟩))) w') : if Region.wanted o (yielded ops a.tmps) = true then Oper.wp Try.prog o a w K Q else E := by
  have hw : Region.wanted o (yielded ops a.tmps) = true := by simp [Region.wanted, hgd]
  rw [if_pos hw]
  have hz : ∀ w, (zeroValue t).run Try.prog w = .ok (.agg cs.toArray) w := by
    intro w
    cases hq : Try.prog.info? t with
    | none => rw [hq] at hz; cases hz
    | some i =>
      rw [hq] at hz
      simp at hz
      simp [zeroValue, typeInfo, hq, hz]
  have hr : (execOp a.eval o).run Try.prog w = .ok (.value (.pointer (some ⟨w.heap.size, 0, none⟩))) (w.alloc (.cells cs.toArray t)) := by
    unfold execOp
    simp only [ho, Instr.alloc, Sem.run_bind, Sem.run_pure, hz, Result.andThen_ok, newVar, newRow, newObj, Value.cells]
    rfl
  unfold Oper.wp
  simp only [hr]
  exact h _ (BoxC.new w t cs) (box_below _ _)
theorem step_storeP {w : World} {ops : Array Oper} {o : Oper} {a : Act} {K : Act → World → Prop} {Q : Exit → Act → World → Prop} {E : Prop} (hgd : o.guard = none) (t t' : TypeId) (x y : Operand) (ho : o.op = .store t' x y) (g k : Nat) (hx : a.eval x = .pointer (some ⟨g, k, none⟩)) (cs ds new : List Value) (hy : a.eval y = .agg ds.toArray) (hg : BoxC w t g cs) (hW : Wide t' ds.length)
    (h1 : ∀ v ∈ ds, v.oneCell' = true) (hk : k + ds.length ≤ cs.length) (hn : cs.take k ++ ds ++ cs.drop (k + ds.length) = new)
    (h : ∀ w', BoxC w' t g new → w.grownBy w' (some g) → K (a.put o.dst undef) w') : if Region.wanted o (yielded ops a.tmps) = true then Oper.wp Try.prog o a w K Q else E := by
  subst hn
  have hw : Region.wanted o (yielded ops a.tmps) = true := by simp [Region.wanted, hgd]
  rw [if_pos hw]
  refine wp_store_mid t' x y ho g k ds.toArray hx hy (hg.there k _ (by simpa using hk)) (by rw [hW.2]; simp) (all_oneCell_toArray h1) ?_
  rw [cells_row ds k w cs hg hk]
  exact h _ (hg.row _) (grown_row _ _ _)
theorem step_storeC {w : World} {ops : Array Oper} {o : Oper} {a : Act} {K : Act → World → Prop} {Q : Exit → Act → World → Prop} {E : Prop} (hgd : o.guard = none) (t : TypeId) (x y : Operand) (ho : o.op = .store t x y) (g : Nat) (hx : a.eval x = .pointer (some ⟨g, 0, none⟩)) (cs ds : List Value) (hy : a.eval y = .agg ds.toArray) (hg : BoxC w t g cs) (hW : Wide t ds.length)
    (h1 : ∀ v ∈ ds, v.oneCell' = true) (hl : cs.length = ds.length)
    (h : ∀ w', BoxC w' t g ds → w.grownBy w' (some g) → K (a.put o.dst undef) w') : if Region.wanted o (yielded ops a.tmps) = true then Oper.wp Try.prog o a w K Q else E :=
  step_storeP hgd t t x y ho g 0 hx cs ds ds hy hg hW h1 (by omega) (by simp [hl]) h
end Go.Proofs.Ytpgjaoemkadenab.Seek
