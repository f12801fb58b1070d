/- The walk of FeedWaits. -/
import Derived.Test.YtbefcdkjkjeonaaDoorFeeds
import Derived.Test.YtbefcdkjkjeonaaDoorRef
set_option linter.unusedVariables false
set_option linter.unusedSimpArgs false
namespace Go.Proofs.YtbefcdkjkjeonaaDoor.feedWaits
open Go.RowKit Utf

theorem dec_first : Plain.Dec [97] [97, 240, 159] [240, 159] := ⟨⟨by decide +kernel, by decide +kernel, by show _ = _; decide +kernel⟩, by decide +kernel⟩
/-- Feed of nothing pending: what comes, if it is all right. -/
theorem feed_good {p s : List UInt8} {ds : List Nat} {m : List UInt8} (hf : Plain.full p = false) (hs : s.length ≤ 4096) (hd : Plain.Dec ds (p ++ s) m) {w w' : World} {e : Ending} (h : FeedPost p s w e w') :
    Below w.heap.size w w' ∧ ∃ v, e = .returned (.tuple #[str m, v, .int .i64 0]) ∧ w'.ownsRow w.heap.size 3 1 v ds.length (ints ds) := by
  obtain ⟨hb, h⟩ := h
  rcases h with ⟨h1, _⟩ | ⟨_, h1, _⟩ | ⟨_, _, cs, m', v, hdec, rfl, hown⟩
  · rw [hf] at h1; cases h1
  · omega
  · obtain ⟨rfl, rfl⟩ := hdec.one hd
    exact ⟨hb, v, rfl, hown⟩
theorem size0 : (⟨#[]⟩ : ByteArray).size = 0 := rfl
theorem size3 : (⟨#[97, 240, 159]⟩ : ByteArray).size = 3 := rfl
theorem suffix (s : ByteArray) (m : List UInt8) (h : m = s.data.toList.drop (s.data.toList.length - m.length)) (hl : m.length ≤ s.size) : ∃ t : ByteArray, t.data.toList = m ∧ t.size ≤ s.size ∧ s.extract (s.size - t.size) s.size = t ∧ str m = .string t := by
  have hz : (⟨m.toArray⟩ : ByteArray).size = m.length := by show m.toArray.size = _; simp
  refine ⟨⟨m.toArray⟩, by simp, by rw [hz]; exact hl, ?_, rfl⟩
  have e : (s.extract (s.size - m.length) s.size).data.toList = m := by
    rw [extract_drop]
    rw [size_list] at h
    exact h.symm
  apply ByteArray.ext
  apply Array.ext'
  rw [hz, e]

theorem str_some (m : List UInt8) : ∃ t : ByteArray, t.data.toList = m ∧ t.size = m.length ∧ str m = .string t :=
  ⟨⟨m.toArray⟩, by simp, by show m.toArray.size = _; simp, rfl⟩
theorem owned_zero {w : World} {B : Nat} {v : Value} (h : w.ownsRow B 3 1 v 0 (ints [])) : ∃ a cap, v = .slice a 0 cap := by
  rcases h.2 with ⟨rfl, _⟩ | ⟨g, cap, cur, rfl, _⟩
  · exact ⟨_, _, rfl⟩
  · exact ⟨_, _, rfl⟩
theorem owned_one {w : World} {B : Nat} {v : Value} {c : Nat} (h : w.ownsRow B 3 1 v 1 (ints [c])) : ∃ g cap, v = .slice (some ⟨g, 0, none⟩) 1 cap ∧ w.cell? ⟨g, 0, none⟩ = some (.int .i64 (c : Int)) := by
  rcases h.2 with ⟨rfl, h0⟩ | ⟨g, cap, cur, rfl, hb, hg, hn, hm, hsz, htake⟩
  · cases h0
  · refine ⟨g, cap, rfl, ?_⟩
    have := owned_cells (B := B) (cap := cap) (cs := [c]) hg htake 0 (by simp [casts])
    simpa [casts] using this
theorem owned_any {w : World} {B : Nat} {v : Value} {n : Nat} {xs : List Value} (h : w.ownsRow B 3 1 v n xs) : ∃ a cap, v = .slice a n cap := by
  rcases h.2 with ⟨rfl, rfl⟩ | ⟨g, cap, cur, rfl, _⟩
  · exact ⟨_, _, rfl⟩
  · exact ⟨_, _, rfl⟩
theorem conv_byte (w : World) (k : Nat) (hk : k < 256) :
    (convert 43 9 (.slice (some ⟨w.heap.size, 0, none⟩) 1 1)).run Tryd.prog (w.alloc (.cells #[.int .u8 (k : Int)] 5)) = .ok (.string ⟨[UInt8.ofNat k].toArray⟩) (w.alloc (.cells #[.int .u8 (k : Int)] 5)) := by
  refine conv_new w [UInt8.ofNat k] _ _ ?_ rfl
  simp
  omega

set_option maxHeartbeats 4000000 in
set_option maxRecDepth 100000 in
theorem walk (s : ByteArray) (w : World) (hs : s.size ≤ 9223372036854775807) (hT : Tabs w) :
    Calls Tryd.prog 6 #[.string s] w fun e w' => e = .returned (.bool true) ∧ Below w.heap.size w w' := by
  go_enter Tryd.func6, Tryd.ntmps6
  go_wp2_with fail
  refine (feed_any ⟨#[]⟩ ⟨#[97, 240, 159]⟩ _ (by rw [size0]; decide) (by rw [size3]; decide) hT).mono ?_
  intro e w1 h
  obtain ⟨hb1, v1, rfl, _⟩ := feed_good (p := []) (s := [97, 240, 159]) rfl (by decide) dec_first h
  clear h
  unfold str
  go_wp2_with fail
  refine (feed_any ⟨#[]⟩ s _ (by rw [size0]; decide) hs (hT.below hb1)).mono ?_
  rintro e w2 ⟨hb2, h⟩
  have hb := below_trans hb1 hb2
  clear hb1 hb2
  rcases h with ⟨h1, _⟩ | ⟨_, h1, rfl⟩ | ⟨_, h1, cs, m, v, hdec, rfl, hown⟩
  · cases h1
  · clear h1
    go_wp2_with fail
    go_ret
    exact ⟨rfl, hb⟩
  · have hm3 : m.length ≤ 3 := Plain.pend_len _ hdec.2
    obtain ⟨_, hlen, hsuf⟩ := hdec.1.facts
    have hml : m.length ≤ s.size := by
      have : ((⟨#[]⟩ : ByteArray).data.toList ++ s.data.toList).length = s.size := by simp
      omega
    obtain ⟨t, ht, htl, hex, hst⟩ := suffix s m hsuf hml
    rw [hst]
    clear hst
    have Hf : Hid (Plain.full t.data.toList = false) := by rw [ht]; exact hdec.2
    have hts : t.size ≤ 3 := by rw [← size_list, ht]; exact hm3
    clear hdec hlen hsuf h1 hown ht hm3 hml
    go_wp2_with fail
    refine (check_any t _ false Hf (by omega) (hT.below hb).1).mono ?_
    rintro e w3 ⟨rfl, hb3⟩
    have hb4 := below_trans hb hb3
    unfold chk
    simp only [cond_false]
    clear hb3 hb
    go_wp2_with fail
    have hq1 : decide ((3 : Int) < (t.size : Int)) = false := decide_eq_false (by omega)
    have hq2 : decide (s.size < t.size) = false := decide_eq_false (by omega)
    simp only [hq1, hq2, Bool.or_self]
    clear hq1 hq2
    by_cases h0 : t.size = 0
    · obtain rfl := is_nil t h0
      go_loopw [9] (fun i wr => i = .int .i64 128 ∧ wr = w3) (fun _ _ => 0)
      case atStart => exact ⟨rfl, rfl⟩
      case round =>
        obtain ⟨rfl, rfl⟩ := hrel
        go_wp2_with fail
        go_ret
        exact ⟨rfl, hb4⟩
    · have hne := not_nil t (by omega)
      obtain ⟨b0, hb01, hb02, hb03⟩ := Plain.waits t.data.toList Hf.out (fun h => by rw [← size_list, h] at h0; exact h0 rfl)
      have Hw : Hid (∀ cs m, Plain.Dec cs (t.data.toList ++ [b0]) m → (cs = [] ∧ m.length = t.size + 1) ∨ (∃ c, 128 ≤ c ∧ cs = [c] ∧ m = [])) := by
        intro cs m hd
        rcases hb03 with h | ⟨c, hc, h⟩
        · obtain ⟨rfl, rfl⟩ := hd.one h
          exact .inl ⟨rfl, by simp [size_list]⟩
        · obtain ⟨rfl, rfl⟩ := hd.one h
          exact .inr ⟨c, hc, rfl, rfl⟩
      obtain ⟨z, hz⟩ : ∃ z, b0.toNat = z := ⟨_, rfl⟩
      have Hz : Hid (b0 = UInt8.ofNat z) := Plain.of_toNat hz
      rw [hz] at hb01 hb02
      clear hb03 hz hex
      go_loopw [9] (fun i wr => ∃ k : Nat, i = .int .i64 (k : Int) ∧ 128 ≤ k ∧ k ≤ z ∧ Below w.heap.size w wr) (fun i _ => 256 - (intOf i).toNat)
      case atStart => exact ⟨128, rfl, Nat.le_refl _, hb01, hb4⟩
      case round =>
        obtain ⟨k, rfl, hk1, hk2, hb5⟩ := hrel
        have hcv := conv_byte wr k (by omega)
        obtain ⟨u, hu⟩ : ∃ u : ByteArray, u = ⟨[UInt8.ofNat k].toArray⟩ := ⟨_, rfl⟩
        rw [← hu] at hcv
        have Hu : Hid (u.data.toList = [UInt8.ofNat k]) := by rw [hu]; show _ = _; simp
        have hus : u.size ≤ 1 := by rw [hu]; exact Nat.le_refl _
        clear hu
        have Hnext : Hid (∀ cs m, Plain.Dec cs (t.data.toList ++ [UInt8.ofNat k]) m → ¬ ((cs = [] ∧ m.length = t.size + 1) ∨ (∃ c, 128 ≤ c ∧ cs = [c] ∧ m = [])) → k + 1 ≤ z) := by
          intro cs m hd hno
          rcases Nat.lt_or_ge k z with h | h
          · exact h
          · obtain rfl : k = z := by omega
            rw [← Hz.out] at hd
            exact absurd (Hw.out cs m hd) hno
        go_wp2_with fail
        refine (feed_any t u _ (by omega) (by omega) (hT.below (hb5.alloc hb5.size _))).mono ?_
        rintro e w6 ⟨hb6, h⟩
        have hb7 := below_trans (hb5.alloc hb5.size _) hb6
        clear hb6 hb5 hcv
        rw [Hu.out] at h
        rcases h with ⟨h1, _⟩ | ⟨_, h1, rfl⟩ | ⟨_, h1, cs, m, v, hdec, rfl, hown⟩
        · rw [Hf.out] at h1; cases h1
        · simp at h1
        · have Hn := Hnext.out cs m hdec
          obtain ⟨r, hr1, hr2, hr3⟩ := str_some m
          rw [hr3]
          have HN : Hid (¬ ((cs = [] ∧ m.length = t.size + 1) ∨ (∃ c, 128 ≤ c ∧ cs = [c] ∧ m = [])) → k + 1 ≤ z) := Hn
          have Hr2 : Hid (r.size = m.length) := hr2
          clear hdec h1 Hn hr3 hr1 hr2 Hnext Hu hus
          match cs, hown, HN with
          | [], hown, HN =>
            obtain ⟨a, cap, rfl⟩ := owned_zero hown
            by_cases hlen : r.size = t.size + 1
            · have he : ((r.size : Int) == (t.size : Int) + 1) = true := by simp; omega
              clear hown HN hlen
              go_wp2_with fail
              go_ret
              exact ⟨rfl, hb7⟩
            · have he : ((r.size : Int) == (t.size : Int) + 1) = false := by simp; omega
              have hk3 : k + 1 ≤ z := HN.out (by
                rintro (⟨_, h⟩ | ⟨_, _, h, _⟩)
                · exact hlen (Hr2.out.trans h)
                · cases h)
              clear hown HN hlen
              go_wp2_with fail
              go_roundw
              case rel => exact ⟨k + 1, by go_num, by omega, hk3, hb7⟩
              case measure => simp [intOf]; omega
          | [c], hown, HN =>
            obtain ⟨g, cap, rfl, hcell⟩ := owned_one hown
            by_cases hr0 : r.size = 0
            · have Hm : Hid (m = []) := List.eq_nil_of_length_eq_zero (by rw [← Hr2.out]; exact hr0)
              by_cases hc : 128 ≤ c
              · obtain rfl := is_nil r hr0
                clear hown HN Hr2
                go_wp2_with fail
                go_ret
                exact ⟨rfl, hb7⟩
              · have hk3 : k + 1 ≤ z := HN.out (by
                  rintro (⟨h, _⟩ | ⟨d, h1, h2, _⟩)
                  · cases h
                  · cases h2; omega)
                obtain rfl := is_nil r hr0
                clear hown HN Hr2
                go_wp2_with fail
                go_roundw
                case rel => exact ⟨k + 1, by go_num, by omega, hk3, hb7⟩
                case measure => simp [intOf]; omega
            · have hrn := not_nil r (by omega)
              have hk3 : k + 1 ≤ z := HN.out (by
                  rintro (⟨h, _⟩ | ⟨d, h1, h2, h3⟩)
                  · cases h
                  · exact hr0 (by rw [Hr2.out, h3]; rfl))
              clear hown HN Hr2
              go_wp2_with fail
              go_roundw
              case rel => exact ⟨k + 1, by go_num, by omega, hk3, hb7⟩
              case measure => simp [intOf]; omega
          | c :: d :: q, hown, HN =>
            obtain ⟨a, cap, rfl⟩ := owned_any hown
            have hk3 : k + 1 ≤ z := HN.out (by
                  rintro (⟨h, _⟩ | ⟨d, h1, h2, h3⟩)
                  · cases h
                  · cases h2)
            obtain ⟨nn, hnn⟩ : ∃ nn, (c :: d :: q).length = nn := ⟨_, rfl⟩
            have hn2 : 2 ≤ nn := by rw [← hnn]; simp
            rw [hnn]
            have he0 : ((nn : Int) == 0) = false := by simp; omega
            have he1 : ((nn : Int) == 1) = false := by simp; omega
            clear hown HN Hr2 hnn
            go_wp2_with fail
            go_roundw
            case rel => exact ⟨k + 1, by go_num, by omega, hk3, hb7⟩
            case measure => simp [intOf]; omega
end Go.Proofs.YtbefcdkjkjeonaaDoor.feedWaits
