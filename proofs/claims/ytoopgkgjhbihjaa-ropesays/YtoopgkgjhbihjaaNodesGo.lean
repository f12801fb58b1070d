/- The contracts of rope.size, rope.number and rope.tall. -/
import Derived.Test.YtoopgkgjhbihjaaTrees
import Derived.Deep.RegionWith
import Derived.Deep.QuietTactic
set_option linter.unusedVariables false
set_option linter.unusedSimpArgs false
namespace Go.Proofs.Ytoopgkgjhbihjaa.Seek
open Go.RowKit

theorem size_any (p : Option Addr) (zs : List Int) (B : Nat) (w : World) (h : Tree w B p zs) : Calls Try.prog 25 #[.pointer p] w fun e w' => e = .returned (.int .i64 (zs.length : Int)) ∧ w' = w := by
  rcases h.parts with ⟨rfl, rfl⟩ | ⟨hz, b, pl, pr, rfl, hb, c0, c1, c2, c3, hl, hr⟩
  · go_enter Try.func25, Try.ntmps25
    go_wp2_with fail
    go_ret
    exact ⟨rfl, rfl⟩
  · clear c0 c1 c2 hl hr h
    go_enter Try.func25, Try.ntmps25
    go_wp2_with fail
    go_ret
    exact ⟨rfl, rfl⟩

/-- Where number k of a list stands. -/
theorem getD_left (zs : List Int) (k : Nat) (h : k < zs.length / 2) : (zs.take (zs.length / 2)).getD k 0 = zs.getD k 0 := by
  rw [List.getD_eq_getElem?_getD, List.getD_eq_getElem?_getD, List.getElem?_take, if_pos h]
theorem getD_right (zs : List Int) (k : Nat) (h : zs.length / 2 < k) : (zs.drop (zs.length / 2 + 1)).getD (k - zs.length / 2 - 1) 0 = zs.getD k 0 := by
  rw [List.getD_eq_getElem?_getD, List.getD_eq_getElem?_getD, List.getElem?_drop, show zs.length / 2 + 1 + (k - zs.length / 2 - 1) = k by omega]

theorem number_left (b : Nat) (pl : Option Addr) (k M : Nat) (x : Int) (w : World) (c0 : w.cell? ⟨b, 0, none⟩ = some (.pointer pl)) (hM : M ≤ 4096) (hk : k < M)
    (hsz : Calls Try.prog 25 #[.pointer pl] w fun e w' => e = .returned (.int .i64 (M : Int)) ∧ w' = w)
    (hrec : Calls Try.prog 28 #[.pointer pl, .int .i64 (k : Int)] w fun e w' => e = .returned (.int .i64 x) ∧ w' = w) :
    Calls Try.prog 28 #[.pointer (some ⟨b, 0, none⟩), .int .i64 (k : Int)] w fun e w' => e = .returned (.int .i64 x) ∧ w' = w := by
  have Hsz : Hid _ := hsz
  have Hrec : Hid _ := hrec
  clear hsz hrec
  go_enter Try.func28, Try.ntmps28
  go_wp2_with fail
  refine Calls.mono Hsz.out ?_
  rintro e w' ⟨rfl, rfl⟩
  go_wp2_with fail
  refine Calls.mono Hrec.out ?_
  rintro e w' ⟨rfl, rfl⟩
  go_wp2_with fail
  go_ret
  exact ⟨rfl, rfl⟩
theorem number_mid (b : Nat) (pl : Option Addr) (M : Nat) (x : Int) (w : World) (c0 : w.cell? ⟨b, 0, none⟩ = some (.pointer pl)) (c2 : w.cell? ⟨b, 2, none⟩ = some (.int .i64 x)) (hM : M ≤ 4096)
    (hsz : Calls Try.prog 25 #[.pointer pl] w fun e w' => e = .returned (.int .i64 (M : Int)) ∧ w' = w) :
    Calls Try.prog 28 #[.pointer (some ⟨b, 0, none⟩), .int .i64 (M : Int)] w fun e w' => e = .returned (.int .i64 x) ∧ w' = w := by
  have Hsz : Hid _ := hsz
  clear hsz
  go_enter Try.func28, Try.ntmps28
  go_wp2_with fail
  refine Calls.mono Hsz.out ?_
  rintro e w' ⟨rfl, rfl⟩
  go_wp2_with fail
  go_ret
  exact ⟨rfl, rfl⟩
theorem number_right (b : Nat) (pl pr : Option Addr) (k M : Nat) (x : Int) (w : World) (c0 : w.cell? ⟨b, 0, none⟩ = some (.pointer pl)) (c1 : w.cell? ⟨b, 1, none⟩ = some (.pointer pr)) (hM : M < k) (hk : k ≤ 4096)
    (hsz : Calls Try.prog 25 #[.pointer pl] w fun e w' => e = .returned (.int .i64 (M : Int)) ∧ w' = w)
    (hrec : Calls Try.prog 28 #[.pointer pr, .int .i64 ((k - M - 1 : Nat) : Int)] w fun e w' => e = .returned (.int .i64 x) ∧ w' = w) :
    Calls Try.prog 28 #[.pointer (some ⟨b, 0, none⟩), .int .i64 (k : Int)] w fun e w' => e = .returned (.int .i64 x) ∧ w' = w := by
  have Hsz : Hid _ := hsz
  have Hrec : Hid _ := hrec
  clear hsz hrec
  go_enter Try.func28, Try.ntmps28
  go_wp2_with fail
  refine Calls.mono Hsz.out ?_
  rintro e w' ⟨rfl, rfl⟩
  go_wp2_with fail
  rw [show ((k : Int) - (M : Int) - 1) = ((k - M - 1 : Nat) : Int) by omega]
  refine Calls.mono Hrec.out ?_
  rintro e w' ⟨rfl, rfl⟩
  go_wp2_with fail
  go_ret
  exact ⟨rfl, rfl⟩

theorem number_any : ∀ (f : Nat) (zs : List Int) (p : Option Addr) (k : Nat) (B : Nat) (w : World), zs.length ≤ f → zs.length ≤ 4096 → k < zs.length → Tree w B p zs →
    Calls Try.prog 28 #[.pointer p, .int .i64 (k : Int)] w fun e w' => e = .returned (.int .i64 (zs.getD k 0)) ∧ w' = w
  | 0, zs, p, k, B, w, h, _, hk, _ => by omega
  | f + 1, zs, p, k, B, w, hf, hm, hk, h => by
    rcases h.parts with ⟨rfl, rfl⟩ | ⟨hz, b, pl, pr, rfl, hb, c0, c1, c2, c3, hl, hr⟩
    · exact absurd hk (by simp)
    · have hsz := size_any pl _ B w hl
      rw [len_left] at hsz
      rcases Nat.lt_trichotomy k (zs.length / 2) with hkM | hkM | hkM
      · refine number_left b pl k _ _ w c0 (by omega) hkM hsz ?_
        rw [← getD_left zs k hkM]
        exact number_any f _ pl k B w (by rw [len_left]; omega) (by rw [len_left]; omega) (by rw [len_left]; exact hkM) hl
      · subst hkM
        exact number_mid b pl _ _ w c0 c2 (by omega) hsz
      · refine number_right b pl pr k _ _ w c0 c1 hkM (by omega) hsz ?_
        rw [← getD_right zs k hkM]
        exact number_any f _ pr _ B w (by rw [len_right]; omega) (by rw [len_right]; omega) (by rw [len_right]; omega) hr

set_option maxRecDepth 100000 in
set_option maxHeartbeats 1600000 in
theorem tall_node (b : Nat) (pl pr : Option Addr) (m n : Nat) (w : World) (c0 : w.cell? ⟨b, 0, none⟩ = some (.pointer pl)) (c1 : w.cell? ⟨b, 1, none⟩ = some (.pointer pr)) (hm : m ≤ 4096) (hn : n ≤ m)
    (hl : ∀ q, Calls Try.prog 31 #[.pointer pl] (w.drewN q) fun e w' => e = .returned (.int .i64 (m : Int)) ∧ ∃ q', w' = (w.drewN q).drewN q')
    (hr : ∀ q, Calls Try.prog 31 #[.pointer pr] (w.drewN q) fun e w' => e = .returned (.int .i64 (n : Int)) ∧ ∃ q', w' = (w.drewN q).drewN q') :
    Calls Try.prog 31 #[.pointer (some ⟨b, 0, none⟩)] w fun e w' => e = .returned (.int .i64 ((1 + m : Nat) : Int)) ∧ ∃ q, w' = w.drewN q := by
  have Hl : Hid _ := hl
  have Hr : Hid _ := hr
  clear hl hr
  go_enter Try.func31, Try.ntmps31
  go_wp2_with fail
  go_quiet (first
    | (go_at_call_of 31 (pl); refine Calls.quiet_of (Hl.out _))
    | (go_at_call_of 31 (pr); refine Calls.quiet_of (Hr.out _)))
  go_wp2_with fail
  go_ret
  exact ⟨by go_num, nq, rfl⟩
theorem tall_none (w : World) : Calls Try.prog 31 #[.pointer none] w fun e w' => e = .returned (.int .i64 0) ∧ ∃ q, w' = w.drewN q := by
  go_enter Try.func31, Try.ntmps31
  go_wp2_with fail
  go_ret
  exact ⟨rfl, 0, rfl⟩
theorem Tree.drewN {w : World} {B : Nat} {p : Option Addr} {zs : List Int} (h : Tree w B p zs) (q : Nat) : Tree (w.drewN q) B p zs := h.below (below_drewN (Below.refl _ _) q)
theorem tall_any : ∀ (f : Nat) (zs : List Int) (p : Option Addr) (B : Nat) (w : World), zs.length ≤ f → zs.length ≤ 4096 → Tree w B p zs →
    Calls Try.prog 31 #[.pointer p] w fun e w' => e = .returned (.int .i64 (hgt zs.length : Int)) ∧ ∃ q, w' = w.drewN q
  | f, zs, p, B, w, hf, hm, h => by
    rcases h.parts with ⟨rfl, rfl⟩ | ⟨hz, b, pl, pr, rfl, hb, c0, c1, c2, c3, hl, hr⟩
    · exact tall_none w
    · have hl0 : 0 < zs.length := List.length_pos_iff.2 hz
      cases f with
      | zero => omega
      | succ f =>
        rw [hgt_pos _ hl0]
        have h1 := hgt_le (zs.length / 2) (zs.length / 2) (Nat.le_refl _)
        refine tall_node b pl pr (hgt (zs.length / 2)) (hgt (zs.length - (zs.length / 2 + 1))) w c0 c1 (by omega) (hgt_halves _) (fun q => ?_) (fun q => ?_)
        · have := tall_any f _ pl B (w.drewN q) (by rw [len_left]; omega) (by rw [len_left]; omega) (hl.drewN q)
          rw [len_left] at this
          exact this
        · have := tall_any f _ pr B (w.drewN q) (by rw [len_right]; omega) (by rw [len_right]; omega) (hr.drewN q)
          rw [len_right] at this
          exact this
end Go.Proofs.Ytoopgkgjhbihjaa.Seek
