/- The contracts of keys.hasArg and keys.written. -/
import Derived.Test.YtjpgjhdkgmddfaaDoorNumeral
import Derived.Test.YtjpgjhdkgmddfaaDoorAppends
import Derived.Lib.OthersKept
import Derived.Deep.Cut
import Derived.Deep.CutRange
import Derived.Deep.DeepCutAuto
import Derived.BigQuiet
set_option linter.unusedVariables false
set_option linter.unusedSimpArgs false
namespace Go.Proofs.YtjpgjhdkgmddfaaDoor.Plain
/-- Does a command's verb want another key? -/
def hasA (o v : Int) : Bool := has fnds v || v == 114 || (!(o == 0) && has sids v)
def keysR (r : Int) : List Int := if r = 0 then [] else [34, r]
def keysO (o : Int) : List Int := if o = 0 then [] else [o]
def keysA (o v a : Int) : List Int := if hasA o v = true then [a] else []
/-- A command's keys. -/
def keysOf (n r o v a : Int) : List Int := keysR r ++ dgs n.toNat ++ keysO o ++ [v] ++ keysA o v a
theorem keysOf_len (n r o v a : Int) : (keysOf n r o v a).length ≤ 8 := by
  have := dgs_len n.toNat
  unfold keysOf keysR keysO keysA
  simp only [List.length_append, List.length_singleton]
  repeat' split
  all_goals simp
  all_goals omega
end Go.Proofs.YtjpgjhdkgmddfaaDoor.Plain
namespace Go.Proofs.YtjpgjhdkgmddfaaDoor.Seek
open Go.RowKit Plain
/-- The variable of a call with a command. -/
def OneC (w0 w : World) (p : Five) : Prop := BoxF w 24 w0.heap.size p ∧ Below w0.heap.size w0 w
theorem OneC.below {w0 w w' : World} {p : Five} (h : OneC w0 w p) (hb : Below w.heap.size w w') : OneC w0 w' p := ⟨h.1.below hb, h.2.trans (hb.mono h.2.size)⟩
theorem oneC_new (w : World) (n r o v a : Int) : OneC w (w.alloc (.cells #[.int .i64 n, .int .i64 r, .int .i64 o, .int .i64 v, .int .i64 a] 24)) (n, r, o, v, a) := ⟨BoxF.new w 24 (n, r, o, v, a), box_below _ _⟩
/-- Keys of the call's own, beside its variable. -/
def Wr (w0 wx : World) (c : Five) (v : Value) (xs : List Int) : Prop := OwnI wx (w0.heap.size + 1) v xs ∧ BoxF wx 24 w0.heap.size c ∧ Below w0.heap.size w0 wx ∧ Tab wx ∧ w0.heap.size + 1 ≤ wx.heap.size
theorem Wr.below {w0 wx w' : World} {c : Five} {v : Value} {xs : List Int} (h : Wr w0 wx c v xs) (hb : Below wx.heap.size wx w') : Wr w0 w' c v xs := ⟨h.1.below hb, h.2.1.below hb, h.2.2.1.trans (hb.mono h.2.2.1.size), h.2.2.2.1.below hb, Nat.le_trans h.2.2.2.2 hb.size⟩
theorem Wr.next {w0 wx w' : World} {c : Five} {v v' : Value} {xs zs : List Int} (h : Wr w0 wx c v xs) (ho : OwnI w' (w0.heap.size + 1) v' zs) (hg : wx.grownBy w' v.ownBlock) (h0 : 0 < w0.heap.size) : Wr w0 w' c v' zs := by
  have hlt := h.1.lt
  have hB : Below w0.heap.size w0 w' := h.2.2.1.grown hg h.2.2.1.size (fun k hk => by have := (hlt k hk).1; omega)
  refine ⟨ho, h.2.1.kept hg (fun e => by have := (hlt _ e.symm).1; omega), hB, ?_, Nat.le_trans h.2.2.2.2 hg.size⟩
  have ht := h.2.2.2.1
  have hl := ht.lt
  unfold Tab Lib.TabIs World.var? at ht ⊢
  rw [tab_global] at ht ⊢
  simp only [Option.bind_some] at ht ⊢
  rw [hg.block 0 hl (fun e => by have := (hlt 0 e.symm).1; omega)]
  exact ht
theorem Wr.cells {w0 w : World} {n r o v a : Int} {u : Value} {xs : List Int} (h : Wr w0 w (n, r, o, v, a) u xs) : w.cell? ⟨w0.heap.size, 0, none⟩ = some (.int .i64 n) ∧ w.cell? ⟨w0.heap.size, 1, none⟩ = some (.int .i64 r) ∧ w.cell? ⟨w0.heap.size, 2, none⟩ = some (.int .i64 o) ∧
    w.cell? ⟨w0.heap.size, 3, none⟩ = some (.int .i64 v) ∧ w.cell? ⟨w0.heap.size, 4, none⟩ = some (.int .i64 a) := ⟨h.2.1.c0, h.2.1.c1, h.2.1.c2, h.2.1.c3, h.2.1.c4⟩
theorem reads_one (w : World) (x : Int) : Reads (w.alloc (.cells #[.int .i64 x] 3)) (.slice (some ⟨w.heap.size, 0, none⟩) 1 1) [x] := reads_new w [x] (by show 1 ≤ maxLen; decide)
theorem reads_two (w : World) (x y : Int) : Reads (w.alloc (.cells #[.int .i64 x, .int .i64 y] 3)) (.slice (some ⟨w.heap.size, 0, none⟩) 2 2) [x, y] := reads_new w [x, y] (by show 2 ≤ maxLen; decide)

set_option maxHeartbeats 1000000 in
theorem hasArg_go (n r o v a : Int) (w : World) : Calls Tryd.prog 38 #[.agg #[.int .i64 n, .int .i64 r, .int .i64 o, .int .i64 v, .int .i64 a]] w fun e w' => e = .returned (.bool (hasA o v)) ∧ Below w.heap.size w w' := by
  obtain ⟨b, hb⟩ : ∃ b, b = hasA o v := ⟨_, rfl⟩
  rw [← hb]
  have HBB : Hid (b = (has fnds v || v == 114 || (!(o == 0) && has sids v))) := hb
  clear hb
  cases hf : has fnds v
  case true =>
    have HF : Hid (has (codes ⟨#[102, 70, 116, 84]⟩) v = true) := hf
    have HF2 : Hid (has fnds v = true) := hf
    clear hf
    go_enter Tryd.func38, Tryd.ntmps38
    go_wp2_with fail
    have HO1 : Hid (OneC w (w.alloc (.cells #[.int .i64 n, .int .i64 r, .int .i64 o, .int .i64 v, .int .i64 a] 24)) (n, r, o, v, a)) := oneC_new w n r o v a
    generalize (w.alloc (.cells #[.int .i64 n, .int .i64 r, .int .i64 o, .int .i64 v, .int .i64 a] 24)) = w1 at *
    obtain ⟨c2, c3⟩ : w1.cell? ⟨w.heap.size, 2, none⟩ = some (.int .i64 o) ∧ w1.cell? ⟨w.heap.size, 3, none⟩ = some (.int .i64 v) := ⟨HO1.out.1.c2, HO1.out.1.c3⟩
    refine (among_go ⟨#[102, 70, 116, 84]⟩ v true _ (ascii_of (by decide)) (by decide) HF.out).mono ?_
    rintro e w2 ⟨rfl, hb⟩
    have HO2 : Hid (OneC w w2 (n, r, o, v, a)) := HO1.out.below hb
    clear hb HO1 c2 c3
    obtain ⟨c2, c3⟩ : w2.cell? ⟨w.heap.size, 2, none⟩ = some (.int .i64 o) ∧ w2.cell? ⟨w.heap.size, 3, none⟩ = some (.int .i64 v) := ⟨HO2.out.1.c2, HO2.out.1.c3⟩
    go_wp2_with fail
    have hbb : b = true := by rw [HBB.out, HF2.out]; simp
    subst hbb
    go_ret
    exact ⟨rfl, HO2.out.2⟩
  case false =>
    have HF : Hid (has (codes ⟨#[102, 70, 116, 84]⟩) v = false) := hf
    have HF2 : Hid (has fnds v = false) := hf
    clear hf
    by_cases h1 : v = 114
    · have g1 : (v == 114) = true := by simpa using h1
      have G1 : Hid ((v == 114) = true) := g1
      clear h1
      go_enter Tryd.func38, Tryd.ntmps38
      go_wp2_with fail
      have HO1 : Hid (OneC w (w.alloc (.cells #[.int .i64 n, .int .i64 r, .int .i64 o, .int .i64 v, .int .i64 a] 24)) (n, r, o, v, a)) := oneC_new w n r o v a
      generalize (w.alloc (.cells #[.int .i64 n, .int .i64 r, .int .i64 o, .int .i64 v, .int .i64 a] 24)) = w1 at *
      obtain ⟨c2, c3⟩ : w1.cell? ⟨w.heap.size, 2, none⟩ = some (.int .i64 o) ∧ w1.cell? ⟨w.heap.size, 3, none⟩ = some (.int .i64 v) := ⟨HO1.out.1.c2, HO1.out.1.c3⟩
      refine (among_go ⟨#[102, 70, 116, 84]⟩ v false _ (ascii_of (by decide)) (by decide) HF.out).mono ?_
      rintro e w2 ⟨rfl, hb⟩
      have HO2 : Hid (OneC w w2 (n, r, o, v, a)) := HO1.out.below hb
      clear hb HO1 c2 c3
      obtain ⟨c2, c3⟩ : w2.cell? ⟨w.heap.size, 2, none⟩ = some (.int .i64 o) ∧ w2.cell? ⟨w.heap.size, 3, none⟩ = some (.int .i64 v) := ⟨HO2.out.1.c2, HO2.out.1.c3⟩
      go_wp2_with fail
      have hbb : b = true := by rw [HBB.out, HF2.out, G1.out]; simp
      subst hbb
      go_ret
      exact ⟨rfl, HO2.out.2⟩
    · have g1 : (v == 114) = false := by simpa using h1
      have G1 : Hid ((v == 114) = false) := g1
      clear h1
      by_cases h2 : o = 0
      · have g2 : (o != 0) = false := by simpa using h2
        have G2 : Hid ((o == 0) = true) := by simpa [Hid] using h2
        clear h2
        go_enter Tryd.func38, Tryd.ntmps38
        go_wp2_with fail
        have HO1 : Hid (OneC w (w.alloc (.cells #[.int .i64 n, .int .i64 r, .int .i64 o, .int .i64 v, .int .i64 a] 24)) (n, r, o, v, a)) := oneC_new w n r o v a
        generalize (w.alloc (.cells #[.int .i64 n, .int .i64 r, .int .i64 o, .int .i64 v, .int .i64 a] 24)) = w1 at *
        obtain ⟨c2, c3⟩ : w1.cell? ⟨w.heap.size, 2, none⟩ = some (.int .i64 o) ∧ w1.cell? ⟨w.heap.size, 3, none⟩ = some (.int .i64 v) := ⟨HO1.out.1.c2, HO1.out.1.c3⟩
        refine (among_go ⟨#[102, 70, 116, 84]⟩ v false _ (ascii_of (by decide)) (by decide) HF.out).mono ?_
        rintro e w2 ⟨rfl, hb⟩
        have HO2 : Hid (OneC w w2 (n, r, o, v, a)) := HO1.out.below hb
        clear hb HO1 c2 c3
        obtain ⟨c2, c3⟩ : w2.cell? ⟨w.heap.size, 2, none⟩ = some (.int .i64 o) ∧ w2.cell? ⟨w.heap.size, 3, none⟩ = some (.int .i64 v) := ⟨HO2.out.1.c2, HO2.out.1.c3⟩
        go_wp2_with fail
        have hbb : b = false := by rw [HBB.out, HF2.out, G1.out, G2.out]; simp
        subst hbb
        go_ret
        exact ⟨rfl, HO2.out.2⟩
      · have g2 : (o != 0) = true := by simpa using h2
        have G2 : Hid ((o == 0) = false) := by simpa [Hid] using h2
        clear h2
        cases hs : has sids v
        case false =>
          have HS : Hid (has (codes ⟨#[105, 97]⟩) v = false) := hs
          have HS2 : Hid (has sids v = false) := hs
          clear hs
          go_enter Tryd.func38, Tryd.ntmps38
          go_wp2_with fail
          have HO1 : Hid (OneC w (w.alloc (.cells #[.int .i64 n, .int .i64 r, .int .i64 o, .int .i64 v, .int .i64 a] 24)) (n, r, o, v, a)) := oneC_new w n r o v a
          generalize (w.alloc (.cells #[.int .i64 n, .int .i64 r, .int .i64 o, .int .i64 v, .int .i64 a] 24)) = w1 at *
          obtain ⟨c2, c3⟩ : w1.cell? ⟨w.heap.size, 2, none⟩ = some (.int .i64 o) ∧ w1.cell? ⟨w.heap.size, 3, none⟩ = some (.int .i64 v) := ⟨HO1.out.1.c2, HO1.out.1.c3⟩
          refine (among_go ⟨#[102, 70, 116, 84]⟩ v false _ (ascii_of (by decide)) (by decide) HF.out).mono ?_
          rintro e w2 ⟨rfl, hb⟩
          have HO2 : Hid (OneC w w2 (n, r, o, v, a)) := HO1.out.below hb
          clear hb HO1 c2 c3
          obtain ⟨c2, c3⟩ : w2.cell? ⟨w.heap.size, 2, none⟩ = some (.int .i64 o) ∧ w2.cell? ⟨w.heap.size, 3, none⟩ = some (.int .i64 v) := ⟨HO2.out.1.c2, HO2.out.1.c3⟩
          go_wp2_with fail
          refine (among_go ⟨#[105, 97]⟩ v false _ (ascii_of (by decide)) (by decide) HS.out).mono ?_
          rintro e w3 ⟨rfl, hb⟩
          have HO3 : Hid (OneC w w3 (n, r, o, v, a)) := HO2.out.below hb
          clear hb HO2 c2 c3
          obtain ⟨c2, c3⟩ : w3.cell? ⟨w.heap.size, 2, none⟩ = some (.int .i64 o) ∧ w3.cell? ⟨w.heap.size, 3, none⟩ = some (.int .i64 v) := ⟨HO3.out.1.c2, HO3.out.1.c3⟩
          go_wp2_with fail
          have hbb : b = false := by rw [HBB.out, HF2.out, G1.out, G2.out, HS2.out]; simp
          subst hbb
          go_ret
          exact ⟨rfl, HO3.out.2⟩
        case true =>
          have HS : Hid (has (codes ⟨#[105, 97]⟩) v = true) := hs
          have HS2 : Hid (has sids v = true) := hs
          clear hs
          go_enter Tryd.func38, Tryd.ntmps38
          go_wp2_with fail
          have HO1 : Hid (OneC w (w.alloc (.cells #[.int .i64 n, .int .i64 r, .int .i64 o, .int .i64 v, .int .i64 a] 24)) (n, r, o, v, a)) := oneC_new w n r o v a
          generalize (w.alloc (.cells #[.int .i64 n, .int .i64 r, .int .i64 o, .int .i64 v, .int .i64 a] 24)) = w1 at *
          obtain ⟨c2, c3⟩ : w1.cell? ⟨w.heap.size, 2, none⟩ = some (.int .i64 o) ∧ w1.cell? ⟨w.heap.size, 3, none⟩ = some (.int .i64 v) := ⟨HO1.out.1.c2, HO1.out.1.c3⟩
          refine (among_go ⟨#[102, 70, 116, 84]⟩ v false _ (ascii_of (by decide)) (by decide) HF.out).mono ?_
          rintro e w2 ⟨rfl, hb⟩
          have HO2 : Hid (OneC w w2 (n, r, o, v, a)) := HO1.out.below hb
          clear hb HO1 c2 c3
          obtain ⟨c2, c3⟩ : w2.cell? ⟨w.heap.size, 2, none⟩ = some (.int .i64 o) ∧ w2.cell? ⟨w.heap.size, 3, none⟩ = some (.int .i64 v) := ⟨HO2.out.1.c2, HO2.out.1.c3⟩
          go_wp2_with fail
          refine (among_go ⟨#[105, 97]⟩ v true _ (ascii_of (by decide)) (by decide) HS.out).mono ?_
          rintro e w3 ⟨rfl, hb⟩
          have HO3 : Hid (OneC w w3 (n, r, o, v, a)) := HO2.out.below hb
          clear hb HO2 c2 c3
          obtain ⟨c2, c3⟩ : w3.cell? ⟨w.heap.size, 2, none⟩ = some (.int .i64 o) ∧ w3.cell? ⟨w.heap.size, 3, none⟩ = some (.int .i64 v) := ⟨HO3.out.1.c2, HO3.out.1.c3⟩
          go_wp2_with fail
          have hbb : b = true := by rw [HBB.out, HF2.out, G1.out, G2.out, HS2.out]; simp
          subst hbb
          go_ret
          exact ⟨rfl, HO3.out.2⟩

set_option maxRecDepth 100000 in
set_option maxHeartbeats 4000000 in
theorem written_go (n r o v a : Int) (w : World) (hn : 0 ≤ n ∧ n ≤ 999) (ht : Tab w) : Calls Tryd.prog 17 #[.agg #[.int .i64 n, .int .i64 r, .int .i64 o, .int .i64 v, .int .i64 a]] w fun e w' => Below w.heap.size w w' ∧ Tab w' ∧ ∃ u, e = .returned u ∧ OwnI w' w.heap.size u (keysOf n r o v a) := by
  have HT0 : Hid (0 < w.heap.size) := ht.lt
  have HTW : Hid (Tab w) := ht
  have HN : Hid (0 ≤ n ∧ n ≤ 999) := hn
  clear ht hn
  go_enter Tryd.func17, Tryd.ntmps17
  go_upto_if 8 with fail
  have HW1 : Hid (Wr w (w.alloc (.cells #[.int .i64 n, .int .i64 r, .int .i64 o, .int .i64 v, .int .i64 a] 24)) (n, r, o, v, a) (.slice none 0 0) []) := ⟨ownI_nil _ _, (oneC_new w n r o v a).1, box_below _ _, HTW.out.below (box_below _ _), by rw [size_alloc]; exact Nat.le_refl _⟩
  generalize (w.alloc (.cells #[.int .i64 n, .int .i64 r, .int .i64 o, .int .i64 v, .int .i64 a] 24)) = w1 at *
  go_cut [3] from 6 to 13 (fun s3 wx => Hid (Wr w wx (n, r, o, v, a) s3 (keysR r)))
  case first =>
    obtain ⟨c0, c1, c2, c3, c4⟩ := HW1.out.cells
    by_cases hr : r = 0
    · have h1 : (r != 0) = false := by simpa using hr
      have HK : Hid (keysR r = []) := if_pos hr
      clear hr
      go_wp2_with fail
      go_meet
      case rel => rw [HK.out]; exact HW1
    · have h1 : (r != 0) = true := by simpa using hr
      have HK : Hid (keysR r = [] ++ [34, r]) := if_neg hr
      clear hr
      go_wp2_with (first | (at_builtin; refine append_any rfl _ _ rfl (w.heap.size + 1) (.slice none 0 0) _ [] [34, r] ([] ++ [34, r]) rfl rfl (OwnI.alloc HW1.out.1 _) rfl (reads_two _ 34 r) (by simp) (by rw [size_alloc]; have := HW1.out.2.2.2.2; omega) ?_))
      intro z1 y1 ho hg _
      have HW2 : Hid (Wr w y1 (n, r, o, v, a) z1 ([] ++ [34, r])) := Wr.next (HW1.out.below (box_below _ _)) ho hg HT0.out
      clear ho hg c0 c1 c2 c3 c4
      go_wp2_with fail
      go_meet
      case rel => rw [HK.out]; exact HW2
  case rest =>
    have HA : Hid (Wr w wc (n, r, o, v, a) u3 (keysR r)) := hcut
    clear hcut HW1
    obtain ⟨c0, c1, c2, c3, c4⟩ := HA.out.cells
    go_upto_if 16 with fail
    go_cut [3] from 14 to 28 (fun s3 wx => Hid (Wr w wx (n, r, o, v, a) s3 (keysR r ++ dgs n.toNat)))
    case first =>
      by_cases hn0 : n = 0
      · have h1 : (n != 0) = false := by simpa using hn0
        have HK : Hid (keysR r ++ dgs n.toNat = keysR r) := by show _ = _; rw [hn0]; simp [dgs]
        clear hn0
        go_wp2_with fail
        go_meet
        case rel => rw [HK.out]; exact HA
      · have h1 : (n != 0) = true := by simpa using hn0
        obtain ⟨m, hm⟩ : ∃ m : Nat, n = (m : Int) := ⟨n.toNat, by have := HN.out; omega⟩
        subst hm
        have HM : Hid (0 < m ∧ m ≤ 999) := by have := HN.out; exact ⟨by omega, by omega⟩
        clear hn0
        go_wp2_with fail
        refine (itoa_any m wc HA.out.2.2.2.1 HM.out.1 HM.out.2).mono ?_
        rintro e w2 ⟨hb, st, rfl, hcs, has, hsz⟩
        have HA2 : Hid (Wr w w2 ((m : Int), r, o, v, a) u3 (keysR r)) := HA.out.below hb
        have HCS : Hid (codes st = dgs m) := hcs
        have HAS : Hid (Ascii st) := has
        have HLN : Hid ((codes st).length = st.size) := codes_len st
        clear hb hcs has HA c0 c1 c2 c3 c4 h1
        go_wp2_with fail
        have HA3 : Hid (Wr w (w2.iter st 0) ((m : Int), r, o, v, a) u3 (keysR r)) := HA2.out.below ((Below.refl _ _).alloc (Nat.le_refl _) _)
        have HIT : Hid ((w2.iter st 0).heap[w2.heap.size]? = some (.stringIter st 0)) := by show (w2.heap.push _)[w2.heap.size]? = _; simp
        have HOB : Hid (∀ k, u3.ownBlock = some k → k < w2.heap.size) := fun k hk => (HA2.out.1.lt k hk).2
        have HKB : Hid (w.heap.size + 1 ≤ w2.heap.size) := HA2.out.2.2.2.2
        clear HA2
        generalize w2.iter st 0 = w3 at *
        generalize w2.heap.size = K at *
        go_loopw [3] (fun q3 wr => ∃ p : Nat, p ≤ st.size ∧ Hid (wr.heap[K]? = some (.stringIter st p)) ∧ Hid (Wr w wr ((m : Int), r, o, v, a) q3 (keysR r ++ (codes st).take p)) ∧ Hid (q3.ownBlock ≠ some K)) (fun _ wr => st.size - wr.iterPos K)
        case atStart => exact ⟨0, by omega, HIT.out, by show Wr _ _ _ _ _; rw [List.take_zero, List.append_nil]; exact HA3.out, fun e => by have := HOB.out K e; omega⟩
        case round =>
          obtain ⟨p, hp, Hi, Hw, Ho⟩ := hrel
          by_cases hlt : p < st.size
          · have hnx0 : ∀ ty, (Instr.next (.pointer (some ⟨K, 0, none⟩)) true ty).run Tryd.prog wr = _ := fun ty => Lib.run_next_ascii_at (P := Tryd.prog) wr K st p ty Hi.out hlt (HAS.out p hlt)
            obtain ⟨q, hq⟩ : ∃ q : Nat, q = (st[p]'hlt).toNat := ⟨_, rfl⟩
            have hnx : ∀ ty, (Instr.next (.pointer (some ⟨K, 0, none⟩)) true ty).run Tryd.prog wr = .ok (.tuple #[.bool true, .int .i64 p, .int .i32 (q : Nat)]) (wr.iterAt K st (p + 1)) := fun ty => by rw [hq]; exact hnx0 ty
            have hq128 : (q : Int) < 128 := by have := HAS.out p hlt; omega
            have hq0 : (0 : Int) ≤ (q : Int) := by omega
            have HTK : Hid (keysR r ++ (codes st).take (p + 1) = (keysR r ++ (codes st).take p) ++ [(q : Int)]) := by show _ = _; rw [codes_take st p hlt, hq, List.append_assoc]
            have Hw2 : Hid (Wr w (wr.iterAt K st (p + 1)) ((m : Int), r, o, v, a) u3 (keysR r ++ (codes st).take p)) := by
              have hne : w.heap.size ≠ K := by have := HKB.out; omega
              refine ⟨?_, ?_, Lib.below_iterAt Hw.out.2.2.1 (by have := HKB.out; omega) _ _, ?_, by rw [Lib.iterAt_size]; exact Hw.out.2.2.2.2⟩
              · refine ⟨Hw.out.1.1, ?_⟩
                rcases Hw.out.1.2 with hh | ⟨g, cap, cur, hv, hB, hg, rest⟩
                · exact .inl hh
                · refine .inr ⟨g, cap, cur, hv, hB, ?_, rest⟩
                  rw [Lib.iterAt_other _ _ _ _ _ (fun e => Ho.out (by rw [hv, e]; rfl))]
                  exact hg
              · exact (Lib.iterAt_other wr K w.heap.size st (p + 1) hne).trans Hw.out.2.1
              · exact (Hw.out.2.2.2.1).other (by have := HKB.out; have := HT0.out; omega) (fun j hj => Lib.iterAt_other wr K j st (p + 1) hj)
            have Hi2 : Hid ((wr.iterAt K st (p + 1)).heap[K]? = some (.stringIter st (p + 1))) := Lib.iterAt_heap wr K st p (p + 1) Hi.out
            have HPOS : Hid (wr.iterPos K = p) := by show _ = _; simp [World.iterPos, Hi.out]
            have HLL : Hid ((keysR r ++ (codes st).take p).length ≤ 100) := by show _ ≤ _; rw [List.length_append, List.length_take]; unfold keysR; split <;> simp <;> omega
            obtain ⟨KP, hKP⟩ : ∃ KP, KP = keysR r ++ (codes st).take p := ⟨_, rfl⟩
            rw [← hKP] at HTK Hw2 HLL
            clear hnx0 hq Hi Hw HLN hKP
            generalize wr.iterAt K st (p + 1) = w4 at *
            go_wp2_with (first | (at_builtin; refine append_any rfl _ _ rfl (w.heap.size + 1) u3 _ KP [(q : Int)] (KP ++ [(q : Int)]) rfl rfl (OwnI.alloc Hw2.out.1 _) rfl (reads_one _ _) (by have := HLL.out; simp only [List.length_singleton]; omega) (by rw [size_alloc]; have := Hw2.out.2.2.2.2; omega) ?_))
            intro z1 y1 ho hg hbk
            have HW5 : Hid (Wr w y1 ((m : Int), r, o, v, a) z1 (keysR r ++ (codes st).take (p + 1))) := by rw [HTK.out]; exact Wr.next (Hw2.out.below (box_below _ _)) ho hg HT0.out
            have HK4 : Hid (K < w4.heap.size) := (Array.getElem?_eq_some_iff.1 Hi2.out).1
            have HI5 : Hid (y1.heap[K]? = some (.stringIter st (p + 1))) := (hg.block K (by rw [size_alloc]; have := HK4.out; omega) (fun e => Ho.out e.symm)).trans ((Below.block (box_below w4 _) K HK4.out).trans Hi2.out)
            have HO5 : Hid (z1.ownBlock ≠ some K) := by
              rcases hbk with hk | hk
              · rw [hk]; exact Ho.out
              · rw [hk]; intro e; have := Option.some.inj e; have := HK4.out; omega
            clear ho hg hbk Hw2 Hi2 Ho hnx
            go_wp2_with fail
            go_roundw
            case rel => exact ⟨p + 1, by omega, HI5.out, HW5.out, HO5.out⟩
            case measure =>
              have : y1.iterPos K = p + 1 := by simp [World.iterPos, HI5.out]
              rw [HPOS.out, this]
              omega
          · have hnx : ∀ ty, (Instr.next (.pointer (some ⟨K, 0, none⟩)) true ty).run Tryd.prog wr = .ok (.tuple #[.bool false]) wr := fun ty => Lib.run_next_end_at (P := Tryd.prog) wr K st p ty Hi.out hlt
            have Hw2 : Hid (Wr w wr ((m : Int), r, o, v, a) u3 (keysR r ++ dgs m)) := by
              have h2 := Hw.out
              rw [List.take_of_length_le (by rw [HLN.out]; omega), HCS.out] at h2
              exact h2
            clear Hw
            go_wp2_with fail
            go_meet
            case rel => rw [Int.toNat_natCast]; exact Hw2
    case rest =>
      have HB : Hid (Wr w wc (n, r, o, v, a) u3 (keysR r ++ dgs n.toNat)) := hcut
      clear hcut HA c0 c1 c2 c3 c4
      have HLEN : Hid ((keysR r ++ dgs n.toNat).length ≤ 100) := by show _ ≤ _; have := dgs_len n.toNat; rw [List.length_append]; unfold keysR; split <;> simp <;> omega
      obtain ⟨K2, hK2⟩ : ∃ K2, K2 = keysR r ++ dgs n.toNat := ⟨_, rfl⟩
      have HK2 : Hid (K2 = keysR r ++ dgs n.toNat) := hK2
      rw [← hK2] at HB HLEN
      clear hK2
      obtain ⟨c0, c1, c2, c3, c4⟩ := HB.out.cells
      go_upto_if 31 with fail
      go_cut [3] from 29 to 36 (fun s3 wx => Hid (Wr w wx (n, r, o, v, a) s3 (K2 ++ keysO o)))
      case first =>
        by_cases ho0 : o = 0
        · have h1 : (o != 0) = false := by simpa using ho0
          have HK : Hid (K2 ++ keysO o = K2) := by show _ = _; unfold keysO; rw [if_pos ho0, List.append_nil]
          clear ho0
          go_wp2_with fail
          go_meet
          case rel => rw [HK.out]; exact HB
        · have h1 : (o != 0) = true := by simpa using ho0
          have HK : Hid (K2 ++ keysO o = K2 ++ [o]) := by show _ = _; unfold keysO; rw [if_neg ho0]
          clear ho0
          go_wp2_with (first | (at_builtin; refine append_any rfl _ _ rfl (w.heap.size + 1) u3 _ K2 [o] (K2 ++ [o]) rfl rfl (OwnI.alloc HB.out.1 _) rfl (reads_one _ o) (by have := HLEN.out; simp only [List.length_singleton]; omega) (by rw [size_alloc]; have := HB.out.2.2.2.2; omega) ?_))
          intro z1 y1 ho hg _
          have HW2 : Hid (Wr w y1 (n, r, o, v, a) z1 (K2 ++ [o])) := Wr.next (HB.out.below (box_below _ _)) ho hg HT0.out
          clear ho hg c0 c1 c2 c3 c4
          go_wp2_with fail
          go_meet
          case rel => rw [HK.out]; exact HW2
      case rest =>
        have HD : Hid (Wr w wc (n, r, o, v, a) u3 (K2 ++ keysO o)) := hcut
        clear hcut HB c0 c1 c2 c3 c4
        have HLEN3 : Hid ((K2 ++ keysO o).length ≤ 101) := by show _ ≤ _; have := HLEN.out; rw [List.length_append]; unfold keysO; split <;> simp <;> omega
        obtain ⟨K3, hK3⟩ : ∃ K3, K3 = K2 ++ keysO o := ⟨_, rfl⟩
        have HK3 : Hid (K3 = K2 ++ keysO o) := hK3
        rw [← hK3] at HD HLEN3
        clear hK3
        obtain ⟨c0, c1, c2, c3, c4⟩ := HD.out.cells
        go_wp2_with (first | (at_builtin; refine append_any rfl _ _ rfl (w.heap.size + 1) u3 _ K3 [v] (K3 ++ [v]) rfl rfl (OwnI.alloc HD.out.1 _) rfl (reads_one _ v) (by have := HLEN3.out; simp only [List.length_singleton]; omega) (by rw [size_alloc]; have := HD.out.2.2.2.2; omega) ?_))
        intro z1 y1 ho hg _
        have HE : Hid (Wr w y1 (n, r, o, v, a) z1 (K3 ++ [v])) := Wr.next (HD.out.below (box_below _ _)) ho hg HT0.out
        clear ho hg c0 c1 c2 c3 c4
        obtain ⟨c0, c1, c2, c3, c4⟩ := HE.out.cells
        go_wp2_with fail
        refine (hasArg_go n r o v a y1).mono ?_
        rintro e y2 ⟨rfl, hb⟩
        have HF : Hid (Wr w y2 (n, r, o, v, a) z1 (K3 ++ [v])) := HE.out.below hb
        clear hb HE HD c0 c1 c2 c3 c4
        obtain ⟨K4, hK4⟩ : ∃ K4, K4 = K3 ++ [v] := ⟨_, rfl⟩
        have HK4 : Hid (K4 = K3 ++ [v]) := hK4
        rw [← hK4] at HF
        clear hK4
        have HLEN4 : Hid (K4.length ≤ 102) := by show _ ≤ _; rw [HK4.out, List.length_append, List.length_singleton]; have := HLEN3.out; omega
        cases hA : hasA o v
        case false =>
          have HZ : Hid (keysOf n r o v a = K4) := by show _ = _; unfold keysOf keysA; rw [hA, HK4.out, HK3.out, HK2.out]; simp
          clear hA
          go_wp2_with fail
          go_ret
          refine ⟨HF.out.2.2.1, HF.out.2.2.2.1, _, rfl, ?_⟩
          rw [HZ.out]
          exact HF.out.1.less (by omega)
        case true =>
          have HZ : Hid (keysOf n r o v a = K4 ++ [a]) := by show _ = _; unfold keysOf keysA; rw [hA, HK4.out, HK3.out, HK2.out]; simp
          clear hA
          obtain ⟨c0, c1, c2, c3, c4⟩ := HF.out.cells
          go_wp2_with (first | (at_builtin; refine append_any rfl _ _ rfl (w.heap.size + 1) z1 _ K4 [a] (K4 ++ [a]) rfl rfl (OwnI.alloc HF.out.1 _) rfl (reads_one _ a) (by have := HLEN4.out; simp only [List.length_singleton]; omega) (by rw [size_alloc]; have := HF.out.2.2.2.2; omega) ?_))
          intro z2 y3 ho hg _
          have HG : Hid (Wr w y3 (n, r, o, v, a) z2 (K4 ++ [a])) := Wr.next (HF.out.below (box_below _ _)) ho hg HT0.out
          clear ho hg c0 c1 c2 c3 c4
          go_wp2_with fail
          go_ret
          refine ⟨HG.out.2.2.1, HG.out.2.2.2.1, _, rfl, ?_⟩
          rw [HZ.out]
          exact HG.out.1.less (by omega)
end Go.Proofs.YtjpgjhdkgmddfaaDoor.Seek
