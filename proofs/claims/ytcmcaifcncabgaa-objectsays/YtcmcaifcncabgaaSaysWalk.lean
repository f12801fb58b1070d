/- The walk of ObjectSays. -/
import Derived.Test.YtcmcaifcncabgaaRefGo
set_option linter.unusedVariables false
set_option linter.unusedSimpArgs false
namespace Go.Proofs.Ytcmcaifcncabgaa.Seek
open Go.RowKit Plain

set_option maxHeartbeats 2000000 in
theorem says_walk (v : Value) (zs : List Int) (k key : Int) (ar : Bool) (w : World) (hp : Reads w v zs) (hreach : zs.length * 8 ≤ 140737488351232) :
    Calls Try.prog 3 #[v, .int .i64 k, .bool ar, .int .i64 key] w fun e w' => e = .returned (.bool true) ∧ Below w.heap.size w w' := by
  obtain ⟨a, cap, rfl⟩ := hp.shape
  have Hp : Hid (Reads w (.slice a zs.length cap) zs) := hp
  clear hp hreach
  go_enter Try.func3, Try.ntmps3
  go_wp2_with fail
  refine (thing_go _ zs k ar key w Hp.out).mono ?_
  rintro e w1 ⟨rfl, hb1⟩
  have HB1 : Hid (Below w.heap.size w w1) := hb1
  clear hb1
  have H2 : Hid (Calls Try.prog 7 #[.slice a zs.length cap, .int .i64 k, .bool ar, .int .i64 key] w1 fun e w' => ThingPost (thing zs k ar key) w1 e w') := ref_go _ zs k ar key w1 (Hp.out.below HB1.out)
  generalize thing zs k ar key = g at *
  obtain ⟨x, y, z⟩ := g
  go_wp2_with fail
  refine H2.out.mono ?_
  rintro e w2 ⟨rfl, hb2⟩
  have HB2 : Hid (Below w.heap.size w w2) := below_trans HB1.out hb2 HB1.out.size
  clear hb2 H2
  go_wp2_with fail
  go_ret
  exact ⟨by simp, HB2.out⟩
end Go.Proofs.Ytcmcaifcncabgaa.Seek
