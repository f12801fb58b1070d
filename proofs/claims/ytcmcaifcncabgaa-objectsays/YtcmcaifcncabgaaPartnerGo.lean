/- The contract of the document's Partner. -/
import Derived.Test.YtcmcaifcncabgaaBracketGo
import Derived.Test.YtcmcaifcncabgaaCounts
set_option linter.unusedVariables false
set_option linter.unusedSimpArgs false
namespace Go.Proofs.Ytcmcaifcncabgaa.Seek
open Go.RowKit Plain

def PartnerPost (zs : List Int) (k : Nat) (w : World) (e : Ending) (w' : World) : Prop := e = .returned (.int .i64 (par (fn zs) zs.length k)) ∧ Below w.heap.size w w'

set_option maxRecDepth 100000 in
set_option maxHeartbeats 4000000 in
theorem partner_open (b off cap : Nat) (zs : List Int) (k : Nat) (w : World) (hpl : zs.length ≤ 4096) (hb : b < w.heap.size) (hk : k < zs.length) (ho : opens (fn zs k) = true)
    (hcp : ∀ j, j < zs.length → w.cell? ⟨b, off + j, none⟩ = some (.int .i64 (fn zs j))) :
    Calls Try.prog 22 #[.slice (some ⟨b, off, none⟩) zs.length cap, .int .i64 (k : Int)] w fun e w' => PartnerPost zs k w e w' := by
  have hcx := hcp k hk
  have Hcp : Hid (∀ j, j < zs.length → w.cell? ⟨b, off + j, none⟩ = some (.int .i64 (fn zs j))) := hcp
  clear hcp
  obtain ⟨x, hx⟩ : ∃ x, x = fn zs k := ⟨_, rfl⟩
  rw [← hx] at hcx
  have Hx : Hid (fn zs k = x) := hx.symm
  have hox : opens x = true := by rw [hx]; exact ho
  have Hop := opn_open hox
  have hxz : (x == 0) = false := by rcases opens_cases hox with h | h | h <;> rw [h] <;> decide
  have hxs : (x == brk x) = false := by rcases opens_cases hox with h | h | h <;> rw [h] <;> decide
  have hsx : (brk x == x) = false := by rcases opens_cases hox with h | h | h <;> rw [h] <;> decide
  have Ho : Hid (opens (fn zs k) = true) := ho
  clear hx hox ho
  go_enter Try.func22, Try.ntmps22
  go_wp2_with fail
  refine (bracket_go x w).mono ?_
  rintro e w1 ⟨he, hb1⟩
  rw [Hop.1, Hop.2] at he
  subst he
  clear Hop
  have hcx1 : w1.cell? ⟨b, off + k, none⟩ = some (.int .i64 x) := (hb1.cell (by exact hb)).trans hcx
  have Hc1 : Hid (∀ j, j < zs.length → w1.cell? ⟨b, off + j, none⟩ = some (.int .i64 (fn zs j))) := fun j hj => (hb1.cell (by exact hb)).trans (Hcp.out j hj)
  clear hcx Hcp
  obtain ⟨s, hs⟩ : ∃ s, s = brk x := ⟨_, rfl⟩
  have Hs : Hid (brk (fn zs k) = s) := by rw [Hx.out]; exact hs.symm
  rw [← hs] at hxs hsx ⊢
  clear hs
  go_wp2_with fail
  go_loop [8, 9] (fun u8 u9 => ∃ m d : Nat, u8 = .int .i64 (d : Int) ∧ u9 = .int .i64 (m : Int) ∧ m ≤ zs.length ∧ d ≤ m + 1 ∧ Hid (Fw (fn zs) k m d)) (fun _ u9 => zs.length - (intOf u9).toNat)
  case atStart => exact ⟨k, 0, rfl, rfl, by omega, by omega, .inl ⟨rfl, rfl⟩⟩
  case round =>
    obtain ⟨m, d, rfl, rfl, hm, hd, HF⟩ := hrel
    by_cases hlt : m < zs.length
    · have hcy := Hc1.out m hlt
      have hI1 : (m : Int) < (zs.length : Int) := by omega
      have hI2 : (0 : Int) ≤ (m : Int) := by omega
      by_cases h1 : fn zs m = x
      · have HF2 : Hid (Fw (fn zs) k (m + 1) (d + 1)) := fw_open Ho.out HF.out (by rw [Hx.out]; exact h1)
        rw [h1] at hcy
        clear h1 HF
        have hxx : (x == x) = true := by simp
        go_wp2_with fail
        go_round
        case rel => exact ⟨m + 1, d + 1, by go_num, by go_num, by omega, by omega, HF2.out⟩
        case measure => simp [intOf]; omega
      · by_cases h2 : fn zs m = s
        · have h3 : fn zs m = brk (fn zs k) := by rw [Hs.out]; exact h2
          have hpos := fw_pos Ho.out HF.out h3
          rw [h2] at hcy
          have hss : (s == s) = true := by simp
          obtain ⟨d', rfl⟩ : ∃ d', d = d' + 1 := ⟨d - 1, by omega⟩
          cases d' with
          | zero =>
            have Hf : Hid (par (fn zs) zs.length k = (m : Int)) := fw_found Ho.out HF.out h3 hlt
            clear h3 h1 h2 HF
            go_wp2_with fail
            go_ret
            refine ⟨?_, hb1⟩
            rw [Hf.out]
            rfl
          | succ d1 =>
            have HF2 : Hid (Fw (fn zs) k (m + 1) (d1 + 1)) := fw_shut Ho.out HF.out h3
            have hdz : ((d1 : Int) + 1 == 0) = false := by simp; omega
            clear h3 h1 h2 HF
            go_wp2_with fail
            go_round
            case rel => exact ⟨m + 1, d1 + 1, by go_num, by go_num, by omega, by omega, HF2.out⟩
            case measure => simp [intOf]; omega
        · have HF2 : Hid (Fw (fn zs) k (m + 1) d) := fw_other Ho.out HF.out (by rw [Hx.out]; exact h1) (by rw [Hs.out]; exact h2)
          have hy1 : (fn zs m == x) = false := by simpa using h1
          have hy2 : (fn zs m == s) = false := by simpa using h2
          clear h1 h2 HF
          generalize fn zs m = y at *
          go_wp2_with fail
          go_round
          case rel => exact ⟨m + 1, d, by go_num, by go_num, by omega, by omega, HF2.out⟩
          case measure => simp [intOf]; omega
    · obtain rfl : m = zs.length := by omega
      have Hf : Hid (par (fn zs) zs.length k = -1) := fw_none Ho.out HF.out hk
      clear HF
      go_wp2_with fail
      go_ret
      refine ⟨?_, hb1⟩
      rw [Hf.out]
      rfl

set_option maxRecDepth 100000 in
set_option maxHeartbeats 4000000 in
theorem partner_shut (b off cap : Nat) (zs : List Int) (k : Nat) (w : World) (hpl : zs.length ≤ 4096) (hb : b < w.heap.size) (hk : k < zs.length) (ho : shuts (fn zs k) = true)
    (hcp : ∀ j, j < zs.length → w.cell? ⟨b, off + j, none⟩ = some (.int .i64 (fn zs j))) :
    Calls Try.prog 22 #[.slice (some ⟨b, off, none⟩) zs.length cap, .int .i64 (k : Int)] w fun e w' => PartnerPost zs k w e w' := by
  have hcx := hcp k hk
  have Hcp : Hid (∀ j, j < zs.length → w.cell? ⟨b, off + j, none⟩ = some (.int .i64 (fn zs j))) := hcp
  clear hcp
  obtain ⟨x, hx⟩ : ∃ x, x = fn zs k := ⟨_, rfl⟩
  rw [← hx] at hcx
  have Hx : Hid (fn zs k = x) := hx.symm
  have hox : shuts x = true := by rw [hx]; exact ho
  have Hop := opn_shut hox
  have hxz : (brk x == 0) = false := by rcases shuts_cases hox with h | h | h <;> rw [h] <;> decide
  have hxs : (x == brk x) = false := by rcases shuts_cases hox with h | h | h <;> rw [h] <;> decide
  have hsx : (brk x == x) = false := by rcases shuts_cases hox with h | h | h <;> rw [h] <;> decide
  have Ho : Hid (shuts (fn zs k) = true) := ho
  clear hx hox ho
  go_enter Try.func22, Try.ntmps22
  go_wp2_with fail
  refine (bracket_go x w).mono ?_
  rintro e w1 ⟨he, hb1⟩
  rw [Hop.1, Hop.2] at he
  subst he
  clear Hop
  have hcx1 : w1.cell? ⟨b, off + k, none⟩ = some (.int .i64 x) := (hb1.cell (by exact hb)).trans hcx
  have Hc1 : Hid (∀ j, j < zs.length → w1.cell? ⟨b, off + j, none⟩ = some (.int .i64 (fn zs j))) := fun j hj => (hb1.cell (by exact hb)).trans (Hcp.out j hj)
  clear hcx Hcp
  obtain ⟨s, hs⟩ : ∃ s, s = brk x := ⟨_, rfl⟩
  have Hs : Hid (brk (fn zs k) = s) := by rw [Hx.out]; exact hs.symm
  rw [← hs] at hxs hsx hxz ⊢
  clear hs
  have hxx : (x == x) = true := by simp
  go_wp2_with fail
  go_loop [8, 9] (fun u8 u9 => ∃ m d : Nat, u8 = .int .i64 (d : Int) ∧ u9 = .int .i64 ((m : Int) - 1) ∧ m ≤ k + 1 ∧ d + m ≤ k + 1 ∧ Hid (Bw (fn zs) k m d)) (fun _ u9 => (intOf u9 + 1).toNat)
  case atStart => exact ⟨k + 1, 0, rfl, by simp, by omega, by omega, .inl ⟨rfl, rfl⟩⟩
  case round =>
    obtain ⟨m, d, rfl, rfl, hm, hd, HF⟩ := hrel
    cases m with
    | zero =>
      have Hf : Hid (par (fn zs) zs.length k = -1) := bw_none Ho.out HF.out hk
      clear HF
      go_wp2_with fail
      go_ret
      refine ⟨?_, hb1⟩
      rw [Hf.out]
      rfl
    | succ m =>
      have hcy := Hc1.out m (by omega)
      have e1 : ((m + 1 : Nat) : Int) - 1 = (m : Int) := by omega
      rw [e1]
      clear e1
      have hI1 : (m : Int) < (zs.length : Int) := by omega
      have hI2 : (0 : Int) ≤ (m : Int) := by omega
      by_cases h1 : fn zs m = x
      · have HF2 : Hid (Bw (fn zs) k m (d + 1)) := bw_shut Ho.out HF.out (by rw [Hx.out]; exact h1)
        rw [h1] at hcy
        clear h1 HF
        go_wp2_with fail
        go_round
        case rel => exact ⟨m, d + 1, by go_num, by go_num, by omega, by omega, HF2.out⟩
        case measure => simp [intOf]; omega
      · by_cases h2 : fn zs m = s
        · have h3 : fn zs m = brk (fn zs k) := by rw [Hs.out]; exact h2
          have hpos := bw_pos Ho.out HF.out h3
          rw [h2] at hcy
          have hss : (s == s) = true := by simp
          obtain ⟨d', rfl⟩ : ∃ d', d = d' + 1 := ⟨d - 1, by omega⟩
          cases d' with
          | zero =>
            have Hf : Hid (par (fn zs) zs.length k = (m : Int)) := bw_found Ho.out HF.out h3 hk
            clear h3 h1 h2 HF
            go_wp2_with fail
            go_ret
            refine ⟨?_, hb1⟩
            rw [Hf.out]
            rfl
          | succ d1 =>
            have HF2 : Hid (Bw (fn zs) k m (d1 + 1)) := bw_open Ho.out HF.out h3
            have hdz : ((d1 : Int) + 1 == 0) = false := by simp; omega
            clear h3 h1 h2 HF
            go_wp2_with fail
            go_round
            case rel => exact ⟨m, d1 + 1, by go_num, by go_num, by omega, by omega, HF2.out⟩
            case measure => simp [intOf]; omega
        · have HF2 : Hid (Bw (fn zs) k m d) := bw_other Ho.out HF.out (by rw [Hx.out]; exact h1) (by rw [Hs.out]; exact h2)
          have hy1 : (fn zs m == x) = false := by simpa using h1
          have hy2 : (fn zs m == s) = false := by simpa using h2
          clear h1 h2 HF
          generalize fn zs m = y at *
          go_wp2_with fail
          go_round
          case rel => exact ⟨m, d, by go_num, by go_num, by omega, by omega, HF2.out⟩
          case measure => simp [intOf]; omega

theorem partner_other (b off cap : Nat) (zs : List Int) (k : Nat) (w : World) (hpl : zs.length ≤ 4096) (hk : k < zs.length) (h1 : opens (fn zs k) = false) (h2 : shuts (fn zs k) = false)
    (hcx : w.cell? ⟨b, off + k, none⟩ = some (.int .i64 (fn zs k))) :
    Calls Try.prog 22 #[.slice (some ⟨b, off, none⟩) zs.length cap, .int .i64 (k : Int)] w fun e w' => PartnerPost zs k w e w' := by
  have Hf : Hid (par (fn zs) zs.length k = -1) := by
    show _ = _
    rw [par_stays h1 zs.length hk, h2]
    rfl
  have Hop : Hid (opn (fn zs k) = 0 ∧ sht (fn zs k) = 0) := opn_other h1 h2
  clear h1 h2
  generalize fn zs k = x at *
  go_enter Try.func22, Try.ntmps22
  go_wp2_with fail
  refine (bracket_go x w).mono ?_
  rintro e w1 ⟨he, hb1⟩
  rw [Hop.out.1, Hop.out.2] at he
  subst he
  go_wp2_with fail
  go_ret
  refine ⟨?_, hb1⟩
  rw [Hf.out]
  rfl

theorem partner_any (b off cap : Nat) (zs : List Int) (k : Nat) (w : World) (hpl : zs.length ≤ 4096) (hb : b < w.heap.size) (hk : k < zs.length)
    (hcp : ∀ j, j < zs.length → w.cell? ⟨b, off + j, none⟩ = some (.int .i64 (fn zs j))) :
    Calls Try.prog 22 #[.slice (some ⟨b, off, none⟩) zs.length cap, .int .i64 (k : Int)] w fun e w' => PartnerPost zs k w e w' := by
  by_cases h1 : opens (fn zs k) = true
  · exact partner_open b off cap zs k w hpl hb hk h1 hcp
  · by_cases h2 : shuts (fn zs k) = true
    · exact partner_shut b off cap zs k w hpl hb hk h2 hcp
    · exact partner_other b off cap zs k w hpl hk (by simpa using h1) (by simpa using h2) (hcp k hk)
end Go.Proofs.Ytcmcaifcncabgaa.Seek
