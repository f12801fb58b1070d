/- The walk of DyckSays. -/
import Derived.Test.YtoknmihooopnnaaPartnerGo
import Derived.Test.YtoknmihooopnnaaRefRight
import Derived.Deep.RegionWith
set_option linter.unusedVariables false
set_option linter.unusedSimpArgs false
namespace Go.Proofs.Ytoknmihooopnnaa.Plain
/-- What the first k of three kinds tell of a number. -/
def kindUp (c : Int) (k : Nat) : Int := if (c = 40 ∨ c = 41) ∧ 0 < k ∨ (c = 91 ∨ c = 93) ∧ 1 < k ∨ (c = 123 ∨ c = 125) ∧ 2 < k then kind c else 0
def shutUp (c : Int) (k : Nat) : Bool := if (c = 40 ∨ c = 41) ∧ 0 < k ∨ (c = 91 ∨ c = 93) ∧ 1 < k ∨ (c = 123 ∨ c = 125) ∧ 2 < k then shuts c else false
theorem up_all (c : Int) : kindUp c 3 = kind c ∧ shutUp c 3 = shuts c := by
  rcases sort c with h4 | h4 | h4
  · rcases opens_cases h4.1 with h | h | h <;> rw [h] <;> decide
  · rcases shuts_cases h4.2.1 with h | h | h <;> rw [h] <;> decide
  · unfold kindUp shutUp
    rw [h4.2.1, h4.2.2]
    constructor
    · split <;> rfl
    · split <;> rfl
theorem up_zero (c : Int) : kindUp c 0 = 0 ∧ shutUp c 0 = false := by
  unfold kindUp shutUp
  simp
theorem up_same (c : Int) (k : Nat) (h : ¬ ((c = 40 ∨ c = 41) ∧ k = 0 ∨ (c = 91 ∨ c = 93) ∧ k = 1 ∨ (c = 123 ∨ c = 125) ∧ k = 2)) : kindUp c (k + 1) = kindUp c k ∧ shutUp c (k + 1) = shutUp c k := by
  unfold kindUp shutUp
  have e : ((c = 40 ∨ c = 41) ∧ 0 < k + 1 ∨ (c = 91 ∨ c = 93) ∧ 1 < k + 1 ∨ (c = 123 ∨ c = 125) ∧ 2 < k + 1) ↔ ((c = 40 ∨ c = 41) ∧ 0 < k ∨ (c = 91 ∨ c = 93) ∧ 1 < k ∨ (c = 123 ∨ c = 125) ∧ 2 < k) := by omega
  simp only [e]
  exact ⟨trivial, trivial⟩
end Go.Proofs.Ytoknmihooopnnaa.Plain
namespace Go.Proofs.Ytoknmihooopnnaa.Seek
open Go.RowKit Plain

theorem pairs_place (zs : List Int) (j : Nat) (h : j < zs.length) : (pairs zs).getD j 0 = par (fn zs) zs.length j := rowOf_get _ _ _ h

set_option maxRecDepth 100000 in
set_option maxHeartbeats 8000000 in
theorem says_walk (v : Value) (zs : List Int) (c : Int) (w : World) (hp : Reads w v zs) (hpr : zs.length * 8 ≤ 140737488351232) :
    Calls Try.prog 3 #[.int .i64 c, v] w fun e w' => e = .returned (.bool true) ∧ Below w.heap.size w w' := by
  have f1 : ((⟨#[40, 41]⟩ : ByteArray)[0]'(by decide)).toNat = 40 := rfl
  have f2 : ((⟨#[40, 41]⟩ : ByteArray)[1]'(by decide)).toNat = 41 := rfl
  have f3 : ((⟨#[91, 93]⟩ : ByteArray)[0]'(by decide)).toNat = 91 := rfl
  have f4 : ((⟨#[91, 93]⟩ : ByteArray)[1]'(by decide)).toNat = 93 := rfl
  have f5 : ((⟨#[123, 125]⟩ : ByteArray)[0]'(by decide)).toNat = 123 := rfl
  have f6 : ((⟨#[123, 125]⟩ : ByteArray)[1]'(by decide)).toNat = 125 := rfl
  obtain ⟨a1, c1, hv1⟩ := hp.shape
  subst hv1
  have Hp : Hid (Reads w (.slice a1 zs.length c1) zs) := hp
  clear hp
  have Hpm : Hid (zs.length ≤ maxLen) := by show zs.length ≤ maxLen; unfold maxLen; omega
  go_enter Try.func3, Try.ntmps3
  go_wp2_with fail
  refine (kind_go c w).mono ?_
  rintro e w1 ⟨rfl, hw1⟩
  rw [hw1]
  clear hw1 w1
  go_wp2_with fail
  go_loop [7, 8, 23] (fun u7 u8 u23 => ∃ k : Nat, k ≤ 3 ∧ u23 = .int .i64 (k : Int) ∧ u7 = .int .i64 (kindUp c k) ∧ u8 = .bool (shutUp c k)) (fun _ _ u23 => (3 - intOf u23).toNat)
  case atStart => exact ⟨0, by omega, rfl, by rw [(up_zero c).1], by rw [(up_zero c).2]⟩
  case round =>
    obtain ⟨k, hk, rfl, rfl, rfl⟩ := hrel
    have hk4 : k = 0 ∨ k = 1 ∨ k = 2 ∨ k = 3 := by omega
    rcases hk4 with rfl | rfl | rfl | rfl
    · by_cases h1 : c = 40
      · subst h1
        go_wp2_with fail
        go_round
        case rel => exact ⟨1, by omega, by go_num, rfl, rfl⟩
        case measure => simp [intOf]
      · by_cases h2 : c = 41
        · subst h2
          go_wp2_with fail
          go_round
          case rel => exact ⟨1, by omega, by go_num, rfl, rfl⟩
          case measure => simp [intOf]
        · have Hs : Hid (kindUp c 1 = kindUp c 0 ∧ shutUp c 1 = shutUp c 0) := up_same c 0 (by omega)
          have g1 : (c == 40) = false := by simpa using h1
          have g2 : (c == 41) = false := by simpa using h2
          clear h1 h2
          generalize kindUp c 0 = x at *
          generalize shutUp c 0 = y at *
          go_wp2_with fail
          go_round
          case rel => exact ⟨1, by omega, by go_num, by rw [Hs.out.1], by rw [Hs.out.2]⟩
          case measure => simp [intOf]
    · by_cases h1 : c = 91
      · subst h1
        go_wp2_with fail
        go_round
        case rel => exact ⟨2, by omega, by go_num, rfl, rfl⟩
        case measure => simp [intOf]
      · by_cases h2 : c = 93
        · subst h2
          go_wp2_with fail
          go_round
          case rel => exact ⟨2, by omega, by go_num, rfl, rfl⟩
          case measure => simp [intOf]
        · have Hs : Hid (kindUp c 2 = kindUp c 1 ∧ shutUp c 2 = shutUp c 1) := up_same c 1 (by omega)
          have g1 : (c == 91) = false := by simpa using h1
          have g2 : (c == 93) = false := by simpa using h2
          clear h1 h2
          generalize kindUp c 1 = x at *
          generalize shutUp c 1 = y at *
          go_wp2_with fail
          go_round
          case rel => exact ⟨2, by omega, by go_num, by rw [Hs.out.1], by rw [Hs.out.2]⟩
          case measure => simp [intOf]
    · by_cases h1 : c = 123
      · subst h1
        go_wp2_with fail
        go_round
        case rel => exact ⟨3, by omega, by go_num, rfl, rfl⟩
        case measure => simp [intOf]
      · by_cases h2 : c = 125
        · subst h2
          go_wp2_with fail
          go_round
          case rel => exact ⟨3, by omega, by go_num, rfl, rfl⟩
          case measure => simp [intOf]
        · have Hs : Hid (kindUp c 3 = kindUp c 2 ∧ shutUp c 3 = shutUp c 2) := up_same c 2 (by omega)
          have g1 : (c == 123) = false := by simpa using h1
          have g2 : (c == 125) = false := by simpa using h2
          clear h1 h2
          generalize kindUp c 2 = x at *
          generalize shutUp c 2 = y at *
          go_wp2_with fail
          go_round
          case rel => exact ⟨3, by omega, by go_num, by rw [Hs.out.1], by rw [Hs.out.2]⟩
          case measure => simp [intOf]
    · rw [(up_all c).1, (up_all c).2]
      clear f1 f2 f3 f4 f5 f6
      generalize kind c = kc
      generalize shuts c = sc
      go_wp2_with fail
      obtain ⟨w1, hw1⟩ : ∃ w1, w1 = w.alloc (.cells #[.string ⟨#[40, 41]⟩, .string ⟨#[91, 93]⟩, .string ⟨#[123, 125]⟩] 9) := ⟨_, rfl⟩
      rw [← hw1]
      have hB1 : Below w.heap.size w w1 := by rw [hw1]; exact (Below.refl _ _).alloc (Nat.le_refl _) _
      clear hw1
      refine (pairs_any _ zs w1 (Hp.out.below hB1) Hpm.out).mono ?_
      rintro e w2 ⟨hb2, hcp⟩
      have hB2 := below_trans hB1 hb2 hB1.size
      clear hb2 hB1
      rcases hcp with ⟨hl, rfl⟩ | ⟨hl, vp, rfl, hrp⟩
      · go_wp2_with fail
        refine (right_any _ zs w2 (Hp.out.below hB2) Hpm.out).mono ?_
        rintro e w3 ⟨hb3, h⟩
        have hB3 := below_trans hB2 hb3 hB2.size
        obtain ⟨_, rfl⟩ := h.resolve_right (fun h => absurd h.1 (by omega))
        clear h hb3 hB2
        have hl2 : (4096 : Int) < (zs.length : Int) := by omega
        go_wp2_with fail
        go_ret
        exact ⟨rfl, hB3⟩
      · have Hrp2 : Hid (Reads w2 vp (pairs zs)) := hrp
        clear hrp
        go_wp2_with fail
        refine (right_any _ zs w2 (Hp.out.below hB2) Hpm.out).mono ?_
        rintro e w3 ⟨hb3, h⟩
        have hB3 := below_trans hB2 hb3 hB2.size
        obtain ⟨_, rfl⟩ := h.resolve_left (fun h => absurd h.1 (by omega))
        have hrp := Hrp2.out.below hb3
        clear h hb3 hB2 Hrp2
        obtain ⟨a3, c3, hvb⟩ := hrp.shape
        subst hvb
        rw [pairs_len] at hrp ⊢
        have Hp3 : Hid (Reads w3 (.slice a1 zs.length c1) zs) := Hp.out.below hB3
        have Hrb : Hid (Reads w3 (.slice a3 zs.length c3) (pairs zs)) := hrp
        clear hrp
        have hl2 : ¬ (4096 : Int) < (zs.length : Int) := by omega
        have hkk : (kc != kc) = false := by simp
        have hss : (sc != sc) = false := by simp
        have hrr : ((right zs) == (right zs)) = true := by simp
        by_cases hp0 : zs.length = 0
        · rw [hp0]
          obtain ⟨rz, hrz⟩ : ∃ rz, rz = right zs := ⟨_, rfl⟩
          rw [← hrz]
          rw [← hrz] at hrr
          have Hrz : Hid (rz = right zs) := hrz
          clear hrz
          go_wp2_with fail
          refine wp_loop_rounds 1 ?_
          rw [rounds_succ]
          go_wp2_with fail
          have hp3 := Hp3.out
          rw [hp0] at hp3
          refine (refright_any _ zs w3 hp3 hl).mono ?_
          rintro e w4 ⟨he, hb4⟩
          rw [← Hrz.out] at he
          subst he
          have hB4 := below_trans hB3 hb4 hB3.size
          clear hb4 hp3
          go_wp2_with fail
          go_ret
          exact ⟨rfl, hB4⟩
        · rcases Hp3.out with ⟨_, _, _, rfl⟩ | ⟨b, o, c', he, hcap, hcm, hblt, hc⟩
          · exact absurd rfl hp0
          · rcases Hrb.out with ⟨_, _, _, h0⟩ | ⟨bb, bo, cc, heb, _, _, hbblt, hcb⟩
            · have := pairs_len zs
              rw [h0] at this
              exact absurd this.symm hp0
            · simp only [Value.slice.injEq] at he heb
              obtain ⟨rfl, hx1, rfl⟩ := he
              obtain ⟨rfl, hx2, rfl⟩ := heb
              clear hx1 hx2
              have Hc : Hid (∀ j, j < zs.length → w3.cell? ⟨b, o + j, none⟩ = some (.int .i64 (fn zs j))) := hc
              have Hcb : Hid (∀ j, j < zs.length → w3.cell? ⟨bb, bo + j, none⟩ = some (.int .i64 (par (fn zs) zs.length j))) := fun j hj => by
                have h := hcb j (by rw [pairs_len]; exact hj)
                rw [pairs_place zs j hj] at h
                exact h
              clear hc hcb Hrb
              obtain ⟨rz, hrz⟩ : ∃ rz, rz = right zs := ⟨_, rfl⟩
              rw [← hrz]
              rw [← hrz] at hrr
              have Hrz : Hid (rz = right zs) := hrz
              clear hrz
              go_wp2_with fail
              go_loopw [93] (fun u93 wr => ∃ k : Nat, u93 = .int .i64 (k : Int) ∧ k ≤ zs.length ∧ Below w3.heap.size w3 wr) (fun u93 _ => zs.length - (intOf u93).toNat)
              case atStart => exact ⟨0, rfl, by omega, Below.refl _ _⟩
              case round =>
                obtain ⟨k, rfl, hk, hbr⟩ := hrel
                by_cases hlt : k < zs.length
                · have hcy : wr.cell? ⟨bb, bo + k, none⟩ = some (.int .i64 (par (fn zs) zs.length k)) := (hbr.cell (by exact hbblt)).trans (Hcb.out k hlt)
                  have Hcr : Hid (∀ q, ∀ j, j < zs.length → (wr.drewN q).cell? ⟨b, o + j, none⟩ = some (.int .i64 (fn zs j))) := fun q j hj => (hbr.cell (by exact hblt)).trans (Hc.out j hj)
                  have Hcall : Hid (Calls Try.prog 10 #[.slice (some ⟨b, o, none⟩) zs.length c1, .int .i64 (k : Int)] (wr.drewN 1) fun e w' => e = .returned (.int .i64 (par (fn zs) zs.length k)) ∧ Below wr.heap.size wr w') := by
                    refine (partner_any b o c1 zs k (wr.drewN 1) hl (Nat.lt_of_lt_of_le hblt hbr.size) hlt (Hcr.out 1)).mono ?_
                    rintro e w' ⟨he, hb'⟩
                    exact ⟨he, (below_drewN (Below.refl _ _) 1).trans hb'⟩
                  have Hcy2 : Hid (∀ w', Below wr.heap.size wr w' → w'.cell? ⟨bb, bo + k, none⟩ = some (.int .i64 (par (fn zs) zs.length k))) := fun w' hw' => (hw'.cell (Nat.lt_of_lt_of_le hbblt hbr.size)).trans hcy
                  generalize par (fn zs) zs.length k = P at *
                  have hPP : (P != P) = false := by simp
                  have hI1 : (k : Int) < (zs.length : Int) := by omega
                  go_wp2_with fail
                  go_region_with (go_at_call 10; refine Hcall.out.mono ?_; rintro e w5 ⟨rfl, hb5⟩; have hcy5 := Hcy2.out w5 hb5)
                  all_goals (
                    go_wp2_with fail
                    go_roundw
                    case rel => exact ⟨k + 1, by go_num, by omega, below_trans hbr hb5 hbr.size⟩
                    case measure => simp [intOf]; omega)
                · obtain rfl : k = zs.length := by omega
                  have hBr := below_trans hB3 hbr hB3.size
                  go_wp2_with fail
                  refine (refright_any _ zs wr (Hp3.out.below hbr) hl).mono ?_
                  rintro e w4 ⟨he, hb4⟩
                  rw [← Hrz.out] at he
                  subst he
                  have hB4 := below_trans hBr hb4 hBr.size
                  clear hb4
                  go_wp2_with fail
                  go_ret
                  exact ⟨rfl, hB4⟩
end Go.Proofs.Ytoknmihooopnnaa.Seek
