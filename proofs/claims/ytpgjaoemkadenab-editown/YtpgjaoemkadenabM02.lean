/- Texts of one claim, one behind the other: Mem, SMemory. -/
import Derived.Test.YtpgjaoemkadenabM01
import Derived.Laws.OwnMore
import Derived.Laws.Rows
import Derived.Laws.Tables
import Derived.Laws.ResultCell
/- Worlds that grow; rows of numbers of the call's own. -/
set_option linter.unusedVariables false
set_option linter.unusedSimpArgs false
set_option maxRecDepth 100000
namespace Go.Proofs.Ytpgjaoemkadenab.Seek
open Go.RowKit
/-- How long a text may be. -/
def Mild (zs : List Int) : Prop := zs.length * 8 ≤ 140737488351232
theorem size_alloc (w : World) (o : Obj) : (w.alloc o).heap.size = w.heap.size + 1 := by show (w.heap.push o).size = _; simp
theorem box_below (w : World) (o : Obj) : Below w.heap.size w (w.alloc o) := (Below.refl _ _).alloc (Nat.le_refl _) _
theorem heap_new (w : World) (o : Obj) : (w.alloc o).heap[w.heap.size]? = some o := by show (w.heap.push o)[w.heap.size]? = _; simp
theorem grown_refl (w : World) (row : Option Nat) : w.grownBy w row := ⟨rfl, rfl, rfl, Nat.le_refl _, fun _ _ _ => rfl⟩
/-- A row of numbers of the call's own. -/
def OwnI (w : World) (B : Nat) (v : Value) (zs : List Int) : Prop := w.ownsRow B 3 1 v zs.length (ints zs)
theorem OwnI.lt {w : World} {B : Nat} {v : Value} {zs : List Int} (h : OwnI w B v zs) : ∀ k, v.ownBlock = some k → B ≤ k ∧ k < w.heap.size := World.ownsRow.lt h
theorem OwnI.reads {w : World} {B : Nat} {v : Value} {zs : List Int} (h : OwnI w B v zs) : Reads w v zs := owned_reads h
theorem ownI_nil (w : World) (B : Nat) : OwnI w B (.slice none 0 0) [] := World.ownsRow_nil _ _ _ _
theorem OwnI.alloc {w : World} {B : Nat} {v : Value} {zs : List Int} (h : OwnI w B v zs) (o : Obj) : OwnI (w.alloc o) B v zs := World.ownsRow.alloc h o
theorem OwnI.less {w : World} {B B' : Nat} {v : Value} {zs : List Int} (h : OwnI w B v zs) (hb : B' ≤ B) : OwnI w B' v zs := owned_less h hb
theorem OwnI.below {w w' : World} {B : Nat} {v : Value} {zs : List Int} (h : OwnI w B v zs) (hb : Below w.heap.size w w') : OwnI w' B v zs := owned_below h hb
end Go.Proofs.Ytpgjaoemkadenab.Seek

/- Edits in memory: slices of splices that can be read; one splice in a variable; changes and growth. -/
set_option linter.unusedVariables false
set_option linter.unusedSimpArgs false
set_option maxRecDepth 100000
namespace Go.Proofs.Ytpgjaoemkadenab.Seek
open Go.RowKit Plain

def spl0 : Spl := (0, 0, [])
/-- The cells from p on hold a splice. -/
def SplAt (w : World) (b p : Nat) (s : Spl) : Prop :=
  w.cell? ⟨b, p, none⟩ = some (.int .i64 s.1) ∧ w.cell? ⟨b, p + 1, none⟩ = some (.int .i64 s.2.1) ∧ Mild s.2.2 ∧ ∃ a cap, w.cell? ⟨b, p + 2, none⟩ = some (.slice a s.2.2.length cap) ∧ Reads w (.slice a s.2.2.length cap) s.2.2
/-- The slice v holds the splices es. -/
def ReadsE (w : World) (v : Value) (es : List Spl) : Prop :=
  (∃ a cap, v = .slice a 0 cap ∧ es = []) ∨
  (∃ b off cap, v = .slice (some ⟨b, off, none⟩) es.length cap ∧ es.length ≤ cap ∧ cap ≤ maxLen ∧ b < w.heap.size ∧ ∀ j, j < es.length → SplAt w b (off + j * 3) (es.getD j spl0))

theorem SplAt.below {w w' : World} {b p : Nat} {s : Spl} (h : SplAt w b p s) (hb : Below w.heap.size w w') (hlt : b < w.heap.size) : SplAt w' b p s := by
  obtain ⟨h1, h2, hm, a, cap, h3, h4⟩ := h
  exact ⟨(hb.cell (by exact hlt)).trans h1, (hb.cell (by exact hlt)).trans h2, hm, a, cap, (hb.cell (by exact hlt)).trans h3, h4.below hb⟩
theorem ReadsE.shape {w : World} {v : Value} {es : List Spl} (h : ReadsE w v es) : ∃ a cap, v = .slice a es.length cap := by
  rcases h with ⟨a, cap, hv, hz⟩ | ⟨b, off, cap, hv, _⟩
  · subst hz
    exact ⟨a, cap, hv⟩
  · exact ⟨_, cap, hv⟩
theorem ReadsE.below {w w' : World} {v : Value} {es : List Spl} (h : ReadsE w v es) (hb : Below w.heap.size w w') : ReadsE w' v es := by
  rcases h with h | ⟨b, off, cap, hv, hcap, hm, hlt, hc⟩
  · exact .inl h
  · exact .inr ⟨b, off, cap, hv, hcap, hm, Nat.lt_of_lt_of_le hlt hb.size, fun j hj => (hc j hj).below hb hlt⟩

/-- A splice in a variable of its own. -/
def Boxed (w : World) (b : Nat) (f t : Int) (v : Value) : Prop := b < w.heap.size ∧ w.cell? ⟨b, 0, none⟩ = some (.int .i64 f) ∧ w.cell? ⟨b, 1, none⟩ = some (.int .i64 t) ∧ w.cell? ⟨b, 2, none⟩ = some v
theorem Boxed.below {w w' : World} {b : Nat} {f t : Int} {v : Value} (h : Boxed w b f t v) (hb : Below w.heap.size w w') : Boxed w' b f t v :=
  ⟨Nat.lt_of_lt_of_le h.1 hb.size, (hb.cell h.1).trans h.2.1, (hb.cell h.1).trans h.2.2.1, (hb.cell h.1).trans h.2.2.2⟩
theorem boxed_new (w : World) (f t : Int) (v : Value) : Boxed (w.alloc (.cells #[.int .i64 f, .int .i64 t, v] 68)) w.heap.size f t v := by
  have hb : ∀ o, (w.alloc o).heap[w.heap.size]? = some o := fun o => by show (w.heap.push o)[w.heap.size]? = _; simp [Array.getElem?_push]
  refine ⟨by rw [size_alloc]; omega, ?_, ?_, ?_⟩ <;>
  · unfold World.cell?
    simp only
    rw [hb]
    rfl
/-- Whether a splice does something. -/
def chg (s : Spl) : Bool := decide (s.1 < s.2.1) || decide (0 < s.2.2.length)
theorem changes_any (f t : Int) (a : Option Addr) (n cap : Nat) (w : World) :
    Calls Try.prog 56 #[.agg #[.int .i64 f, .int .i64 t, .slice a n cap]] w fun e w' => e = .returned (.bool (decide (f < t) || decide (0 < n))) ∧ Below w.heap.size w w' := by
  go_enter Try.func56, Try.ntmps56
  go_wp2_with fail
  all_goals (go_ret; exact ⟨rfl, box_below _ _⟩)
end Go.Proofs.Ytpgjaoemkadenab.Seek
