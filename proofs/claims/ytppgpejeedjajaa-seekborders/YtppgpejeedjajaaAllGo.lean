/- The contract of seek.All. -/
import Derived.Test.YtppgpejeedjajaaBordersGo
set_option linter.unusedVariables false
set_option linter.unusedSimpArgs false
namespace Go.Proofs.Ytppgpejeedjajaa.Seek
open Go.RowKit

theorem bords_len (ps : List Int) : (bords ps).length = ps.length := bsAt_len _ _
theorem bords_get (ps : List Int) (j : Nat) (h : j < ps.length) : (bords ps).getD j 0 = ((Plain.lb (fn ps) (j + 1) : Nat) : Int) := by
  unfold bords
  rw [bsAt_get ps _ j h, if_pos h]

/-- longer, along a line. -/
theorem longer_far (v vb : Value) (ps ss : List Int) (i : Nat) (w : World) (hpl : ps.length ≤ 4096) (hp : Reads w v ps) (hb : Reads w vb (bords ps)) :
    Calls Try.prog 24 #[v, vb, .int .i64 ((Plain.fr (fn ps) (fn ss) ps.length i : Nat) : Int), .int .i64 (ss.getD i 0)] w fun e w' =>
      e = .returned (.int .i64 ((Plain.fr (fn ps) (fn ss) ps.length (i + 1) : Nat) : Int)) ∧ w' = w := by
  have hfin : ∀ e w', LongerPost (fn ps) ps.length (ss.getD i 0) (Plain.Step (fn ps) (fn ss) ps.length i) w e w' → e = .returned (.int .i64 ((Plain.fr (fn ps) (fn ss) ps.length (i + 1) : Nat) : Int)) ∧ w' = w := by
    rintro e w' ⟨rfl, k, r, hk, rfl, h⟩
    refine ⟨?_, rfl⟩
    rcases h with ⟨h1, h2, rfl⟩ | ⟨rfl, rfl, h2⟩
    · rw [Plain.fr_of (hk.hit h1 h2)]
    · rw [Plain.fr_of (hk.miss h2)]
  rcases hp with ⟨a, cap, rfl, rfl⟩ | ⟨b, off, cap, rfl, hcap, hmm, hlt, hc⟩
  · have h0 : Plain.fr (fn []) (fn ss) 0 i = 0 := by have := Plain.fr_le (fn []) (fn ss) 0 i; omega
    rw [List.length_nil, h0]
    refine (longer_empty a cap vb (ss.getD i 0) (Plain.Step (fn []) (fn ss) 0 i) (fn []) w ?_).mono hfin
    have := Plain.Step.start (Plain.fr_far (fn []) (fn ss) 0 i)
    rw [h0] at this
    exact this
  · rcases hb with ⟨a, cap2, rfl, hz⟩ | ⟨bb, bo, cap2, rfl, hcap2, hmm2, hlt2, hc2⟩
    · have h0 : ps.length = 0 := by rw [← bords_len, hz]; rfl
      have h1 : Plain.fr (fn ps) (fn ss) ps.length i = 0 := by have := Plain.fr_le (fn ps) (fn ss) ps.length i; omega
      have h2 := Plain.Step.start (Plain.fr_far (fn ps) (fn ss) ps.length i)
      rw [h1] at h2 ⊢
      rw [h0] at h2 hfin ⊢
      exact (longer_empty _ cap _ (ss.getD i 0) (Plain.Step (fn ps) (fn ss) 0 i) (fn ps) w h2).mono hfin
    · rw [bords_len]
      refine (longer_some b off cap ps bb bo ps.length cap2 (fun k => Plain.lb (fn ps) k) _ (ss.getD i 0) (Plain.Step (fn ps) (fn ss) ps.length i) w hpl hc (.start (Plain.fr_far _ _ _ _)) ?_ ?_ ?_ ?_).mono hfin
      · intro k hk
        exact ⟨hk.1.1, hk.1.1⟩
      · intro k hk h0
        have h1 := hk.1.1
        have h := hc2 (k - 1) (by rw [bords_len]; omega)
        rw [bords_get ps (k - 1) (by omega), show k - 1 + 1 = k by omega] at h
        exact h
      · intro k hk h0
        exact Plain.lb_lt _ _ h0
      · intro k hk h0 hor
        exact (Plain.Step.back hk hor h0 (Plain.lb_long _ _ h0)).1

/-- Places as numbers of the program's. -/
def plist (ps ss : List Int) : List Int := (Plain.places (fn ps) (fn ss) ps.length ss.length).map fun (k : Nat) => (k : Int)
def spts (ps ss : List Int) (N : Nat) : List Int := (Plain.spots (Plain.stb (fn ps) (fn ss) ps.length) N).map fun (k : Nat) => (k : Int)
theorem spts_len (ps ss : List Int) (N : Nat) : (spts ps ss N).length ≤ N := by unfold spts; rw [List.length_map]; exact Plain.spots_len _ _
theorem spts_hit (ps ss : List Int) (at' : Nat) (h : Plain.fr (fn ps) (fn ss) ps.length at' = ps.length) : spts ps ss (at' + 1 - ps.length) = spts ps ss (at' - ps.length) ++ [((at' - ps.length : Nat) : Int)] := by
  unfold spts
  rw [Plain.spots_step, if_pos h, List.map_append]
  rfl
theorem spts_miss (ps ss : List Int) (at' : Nat) (h : Plain.fr (fn ps) (fn ss) ps.length at' ≠ ps.length) : spts ps ss (at' + 1 - ps.length) = spts ps ss (at' - ps.length) := by
  unfold spts
  rw [Plain.spots_step, if_neg h]

/-- All's answer. -/
def AllPost (ps ss : List Int) (w : World) (e : Ending) (w' : World) : Prop :=
  Below w.heap.size w w' ∧ (((4096 < ps.length ∨ 4096 < ss.length) ∧ e = .returned (.tuple #[.slice none 0 0, .int .i64 2])) ∨
    ((ps.length ≤ 4096 ∧ ss.length ≤ 4096) ∧ ∃ v, e = .returned (.tuple #[v, .int .i64 0]) ∧ w'.ownsRow w.heap.size 3 1 v (plist ps ss).length (ints (plist ps ss))))

set_option maxHeartbeats 2000000 in
theorem all_any (v vs : Value) (ps ss : List Int) (w : World) (hp : Reads w v ps) (hs : Reads w vs ss) (hpm : ps.length ≤ maxLen) (hsm : ss.length ≤ maxLen) :
    Calls Try.prog 9 #[v, vs] w fun e w' => AllPost ps ss w e w' := by
  obtain ⟨i0, hi, hz0, hz1, hz2⟩ := info_parts info3
  obtain ⟨a1, c1, hv1⟩ := hp.shape
  obtain ⟨a2, c2, hv2⟩ := hs.shape
  have Hp : Hid (Reads w v ps) := hp
  have Hs : Hid (Reads w vs ss) := hs
  subst hv1 hv2
  clear hp hs
  unfold maxLen at hpm hsm
  go_enter Try.func9, Try.ntmps9
  go_wp2_with fail
  refine (borders_any _ ps w Hp.out hpm).mono ?_
  rintro e w1 ⟨hb1, ⟨hl, rfl⟩ | ⟨hl, vb, rfl, hr⟩⟩
  · go_wp2_with fail
    go_ret2
    exact ⟨hb1, .inl ⟨.inl hl, rfl⟩⟩
  · have Hr : Hid (Reads w1 vb (bords ps)) := hr
    clear hr
    by_cases hsl : 4096 < ss.length
    · go_wp2_with fail
      go_ret2
      exact ⟨hb1, .inl ⟨.inr hsl, rfl⟩⟩
    · go_wp2_with fail
      go_loopw [8, 9, 10] (fun u8 u9 u10 wr => ∃ k : Nat, u10 = .int .i64 (k : Int) ∧ k ≤ ss.length + 1 ∧ u9 = .int .i64 ((Plain.fr (fn ps) (fn ss) ps.length (min k ss.length) : Nat) : Int) ∧ wr.ownsRow w1.heap.size 3 1 u8 (spts ps ss (k - ps.length)).length (ints (spts ps ss (k - ps.length))) ∧ Below w1.heap.size w1 wr)
        (fun _ _ u _ => ss.length + 1 - (intOf u).toNat)
      case atStart =>
        refine ⟨0, rfl, by omega, ?_, ?_, Below.refl _ _⟩
        · rw [Nat.zero_min, Plain.fr_zero]; rfl
        · rw [Nat.zero_sub]
          exact World.ownsRow_nil _ _ _ _
      case round =>
        obtain ⟨k, rfl, hk, rfl, hown, hbr⟩ := hrel
        by_cases hlt : k ≤ ss.length
        · rw [Nat.min_eq_left hlt]
          have hfl := Plain.fr_le (fn ps) (fn ss) ps.length k
          have hfk := Plain.fr_le' (fn ps) (fn ss) ps.length k
          have hspl := spts_len ps ss (k - ps.length)
          have hbs := hbr.size
          have Hps : Hid (Reads wr (.slice a1 ps.length c1) ps) := (Hp.out.below hb1).below hbr
          have hss : Reads wr (.slice a2 ss.length c2) ss := (Hs.out.below hb1).below hbr
          by_cases hhit : Plain.fr (fn ps) (fn ss) ps.length k = ps.length
          · have Hsp : Hid (spts ps ss (k + 1 - ps.length) = spts ps ss (k - ps.length) ++ [((k - ps.length : Nat) : Int)]) := spts_hit ps ss k hhit
            have hpk : ps.length ≤ k := by omega
            have hn1 : (spts ps ss (k - ps.length) ++ [((k - ps.length : Nat) : Int)]).length = (spts ps ss (k - ps.length)).length + 1 := by simp
            have Hit : Hid (Plain.fr (fn ps) (fn ss) ps.length k = ps.length) := hhit
            rw [hhit]
            clear hhit hfl hfk
            go_wp2_with (at_builtin; refine wpList_append_own _ rfl _ _ 22 rfl w1.heap.size 3 i0 (.int .i64 0) 1 8 Try.underlying22 hi hz0 hz1 hz2 rfl (by decide) _ _ _ rfl (hown.alloc _) ⟨wr.heap.size, 0, none⟩ 1 1 [.int .i64 ((k : Int) - (ps.length : Int))] rfl rfl ?c1 ?c2 ?c3 ?c4 ?c5 ?_)
            case c1 =>
              intro j u hj
              match j, hj with
              | 0, hj => simp at hj; subst hj; simp [Addr.add]
            case c2 => intro u hu; simp at hu; subst hu; rfl
            case c3 => unfold maxLen; omega
            case c4 => omega
            case c5 => simp; omega
            intro v' w5 hown' hgrow _
            have hb5 : Below w1.heap.size w1 w5 := (hbr.alloc hbr.size _).grown hgrow (by simp; omega) (fun j hj => (hown.lt j hj).1)
            have hown5 : w5.ownsRow w1.heap.size 3 1 v' (spts ps ss (k + 1 - ps.length)).length (ints (spts ps ss (k + 1 - ps.length))) := by
              rw [Hsp.out, hn1]
              unfold ints at hown' ⊢
              rw [List.map_append]
              have he : ((k - ps.length : Nat) : Int) = (k : Int) - (ps.length : Int) := by omega
              rw [he]
              exact hown'
            have Ho5 : Hid (w5.ownsRow w1.heap.size 3 1 v' (spts ps ss (k + 1 - ps.length)).length (ints (spts ps ss (k + 1 - ps.length)))) := hown5
            have Hps5 : Hid (Reads w5 (.slice a1 ps.length c1) ps) := (Hp.out.below hb1).below hb5
            have Hr5 : Hid (Reads w5 vb (bords ps)) := Hr.out.below hb5
            have hss5 : Reads w5 (.slice a2 ss.length c2) ss := (Hs.out.below hb1).below hb5
            clear hown' hgrow hown5 hown hbr hss Hps
            by_cases hks : k < ss.length
            · rcases hss5 with ⟨_, _, _, rfl⟩ | ⟨b2, o2, c2', he2, _, _, _, hc2⟩
              · simp at hks
              · have hcx := hc2 k hks
                simp only [Value.slice.injEq] at he2
                obtain ⟨rfl, _, rfl⟩ := he2
                clear hc2
                obtain ⟨x, hx⟩ : ∃ x, x = ss.getD k 0 := ⟨_, rfl⟩
                rw [← hx] at hcx
                have Hx : Hid (x = ss.getD k 0) := hx
                clear hx
                have hcall := longer_far _ vb ps ss k w5 hl Hps5.out Hr5.out
                rw [Hit.out, ← Hx.out] at hcall
                have Hcall : Hid _ := hcall
                clear hcall
                go_wp2_with fail
                refine Calls.mono Hcall.out ?_
                rintro e w6 ⟨rfl, rfl⟩
                go_wp2_with fail
                go_roundw
                case rel => exact ⟨k + 1, by go_num, by omega, by rw [Nat.min_eq_left (by omega)], Ho5.out, hb5⟩
                case measure => simp [intOf]; omega
            · obtain rfl : k = ss.length := by omega
              clear hss5
              go_wp2_with fail
              go_roundw
              case rel => exact ⟨ss.length + 1, by go_num, by omega, by rw [Nat.min_eq_right (by omega), Hit.out], Ho5.out, hb5⟩
              case measure => simp [intOf]
          · have Hsp : Hid (spts ps ss (k + 1 - ps.length) = spts ps ss (k - ps.length)) := spts_miss ps ss k hhit
            rw [← Hsp.out] at hown hspl
            have Ho5 : Hid (wr.ownsRow w1.heap.size 3 1 u8 (spts ps ss (k + 1 - ps.length)).length (ints (spts ps ss (k + 1 - ps.length)))) := hown
            have Hr5 : Hid (Reads wr vb (bords ps)) := Hr.out.below hbr
            clear hown
            have hcall := longer_far _ vb ps ss k wr hl Hps.out Hr5.out
            obtain ⟨f, hf⟩ : ∃ f, f = Plain.fr (fn ps) (fn ss) ps.length k := ⟨_, rfl⟩
            rw [← hf] at hcall hhit hfl hfk ⊢
            have Hf : Hid (f = Plain.fr (fn ps) (fn ss) ps.length k) := hf
            clear hf
            have Hcall : Hid _ := hcall
            clear hcall
            have hne : ((f : Int) == (ps.length : Int)) = false := by simp; omega
            by_cases hks : k < ss.length
            · rcases hss with ⟨_, _, _, rfl⟩ | ⟨b2, o2, c2', he2, _, _, _, hc2⟩
              · simp at hks
              · have hcx := hc2 k hks
                simp only [Value.slice.injEq] at he2
                obtain ⟨rfl, _, rfl⟩ := he2
                clear hc2
                obtain ⟨x, hx⟩ : ∃ x, x = ss.getD k 0 := ⟨_, rfl⟩
                rw [← hx] at hcx Hcall
                have Hx : Hid (x = ss.getD k 0) := hx
                clear hx
                go_wp2_with fail
                refine Calls.mono Hcall.out ?_
                rintro e w6 ⟨rfl, rfl⟩
                go_wp2_with fail
                go_roundw
                case rel => exact ⟨k + 1, by go_num, by omega, by rw [Nat.min_eq_left (by omega)], Ho5.out, hbr⟩
                case measure => simp [intOf]; omega
            · obtain rfl : k = ss.length := by omega
              clear hss
              go_wp2_with fail
              go_roundw
              case rel => exact ⟨ss.length + 1, by go_num, by omega, by rw [Nat.min_eq_right (by omega), ← Hf.out], Ho5.out, hbr⟩
              case measure => simp [intOf]
        · obtain rfl : k = ss.length + 1 := by omega
          have Ho : Hid (wr.ownsRow w1.heap.size 3 1 u8 (plist ps ss).length (ints (plist ps ss))) := hown
          clear hown
          go_wp2_with fail
          go_ret2
          exact ⟨hb1.trans (hbr.mono hb1.size), .inr ⟨⟨hl, by omega⟩, _, rfl, owned_less Ho.out hb1.size⟩⟩
end Go.Proofs.Ytppgpejeedjajaa.Seek
