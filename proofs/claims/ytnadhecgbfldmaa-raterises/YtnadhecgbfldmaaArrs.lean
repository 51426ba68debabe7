/- Arrays of two and of three ints in a block of their own. -/
import Derived.Test.YtnadhecgbfldmaaBase
namespace Go.Proofs.Ytnadhecgbfldmaa
open Go.RowKit
/-- block g holds three numbers -/
def Arr3 (w : World) (g : Nat) (x y z : Int) : Prop :=
  g < w.heap.size ∧ w.cell? ⟨g, 0, none⟩ = some (.int .i64 x) ∧ w.cell? ⟨g, 1, none⟩ = some (.int .i64 y) ∧ w.cell? ⟨g, 2, none⟩ = some (.int .i64 z)
theorem Arr3.below {w w' : World} {g : Nat} {x y z : Int} (h : Arr3 w g x y z) (hb : Below w.heap.size w w') : Arr3 w' g x y z :=
  ⟨Nat.lt_of_lt_of_le h.1 hb.size, (hb.cell (p := ⟨g, 0, none⟩) h.1).trans h.2.1, (hb.cell (p := ⟨g, 1, none⟩) h.1).trans h.2.2.1, (hb.cell (p := ⟨g, 2, none⟩) h.1).trans h.2.2.2⟩
theorem Arr3.new (w : World) (x y z : Int) : Arr3 (w.alloc (.cells #[.int .i64 x, .int .i64 y, .int .i64 z] 42)) w.heap.size x y z := by
  refine ⟨by simp, ?_, ?_, ?_⟩ <;> simp
theorem Arr3.drewN {w : World} {g : Nat} {x y z : Int} (h : Arr3 w g x y z) (n : Nat) : Arr3 (w.drewN n) g x y z := h

/-- block g holds two numbers -/
def Arr2 (w : World) (g : Nat) (x y : Int) : Prop :=
  g < w.heap.size ∧ w.cell? ⟨g, 0, none⟩ = some (.int .i64 x) ∧ w.cell? ⟨g, 1, none⟩ = some (.int .i64 y)
theorem Arr2.below {w w' : World} {g : Nat} {x y : Int} (h : Arr2 w g x y) (hb : Below w.heap.size w w') : Arr2 w' g x y :=
  ⟨Nat.lt_of_lt_of_le h.1 hb.size, (hb.cell (p := ⟨g, 0, none⟩) h.1).trans h.2.1, (hb.cell (p := ⟨g, 1, none⟩) h.1).trans h.2.2⟩
theorem Arr2.new (w : World) (x y : Int) : Arr2 (w.alloc (.cells #[.int .i64 x, .int .i64 y] 53)) w.heap.size x y := by
  refine ⟨by simp, ?_, ?_⟩ <;> simp
theorem Arr2.drewN {w : World} {g : Nat} {x y : Int} (h : Arr2 w g x y) (n : Nat) : Arr2 (w.drewN n) g x y := h
end Go.Proofs.Ytnadhecgbfldmaa
