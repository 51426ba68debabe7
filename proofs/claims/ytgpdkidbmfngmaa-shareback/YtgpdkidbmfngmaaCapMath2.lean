import Derived.Test.YtgpdkidbmfngmaaCapMath
namespace SM
open LM

/-- is one of the first k offered too much? -/
def overK (l caps : List Int) (k : Nat) : Bool := (List.range k).any fun i => decide (caps.getD i 0 < l.getD i 0)
theorem overK_succ (l caps : List Int) (k : Nat) : overK l caps (k + 1) = (overK l caps k || decide (caps.getD k 0 < l.getD k 0)) := by
  unfold overK; rw [List.range_succ]; simp
theorem overK_full (l caps : List Int) : overK l caps l.length = over l caps := rfl

theorem openOf_nonneg {w : List Int} (hw : wOk w = true) (caps out : List Int) (i : Nat) (hi : i < w.length) : 0 ≤ (if out.getD i 0 < caps.getD i 0 then w.getD i 0 else 0) := by
  have := (allR_get (wOk_parts hw).1 hi).1
  split <;> omega
theorem openT_nonneg {w : List Int} (hw : wOk w = true) (caps out : List Int) (k : Nat) (hk : k ≤ w.length) : 0 ≤ tot (tab k fun i => if out.getD i 0 < caps.getD i 0 then w.getD i 0 else 0) :=
  tot_tab_nonneg fun i hi => openOf_nonneg hw caps out i (by omega)
theorem take_tab (n k : Nat) (f : Nat → Int) (hk : k ≤ n) : (tab n f).take k = tab k f := by
  apply List.ext_getElem
  · simp [tab]; omega
  · intro i h1 h2; simp [tab]
end SM
