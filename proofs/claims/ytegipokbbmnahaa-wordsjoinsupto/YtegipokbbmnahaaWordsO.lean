import Derived.Test.YtegipokbbmnahaaWordsN
import Derived.Test.YtegipokbbmnahaaWordMath5
import Derived.Test.YtegipokbbmnahaaOpen
namespace Go.Proofs.Ytegipokbbmnahaa
open Go.RowKit
set_option linter.unusedVariables false
theorem fields_strs {w : World} {B : Nat} {v : Value} {s : ByteArray} (hs : s.size ≤ 9223372036854775807) (h : OS w B v (strs (WM.fieldsN (L s)))) : ∃ A cap, v = .slice A (strs (WM.fieldsN (L s))).length cap ∧ Strs w A (strs (WM.fieldsN (L s))) :=
  h.strs (by
    intro x hx
    obtain ⟨p, hp, rfl⟩ := List.mem_map.1 hx
    have := WM.fields_le hp
    rw [L_len] at this
    rw [S_size]; exact Nat.le_trans this hs)
theorem lines_strs {w : World} {B : Nat} {v : Value} {s : ByteArray} (hs : s.size ≤ 9223372036854775807) (h : OS w B v (strs (WM.linesN (L s)))) : ∃ A cap, v = .slice A (strs (WM.linesN (L s))).length cap ∧ Strs w A (strs (WM.linesN (L s))) :=
  h.strs (by
    intro x hx
    obtain ⟨p, hp, rfl⟩ := List.mem_map.1 hx
    have := WM.lines_le hp
    rw [L_len] at this
    rw [S_size]; exact Nat.le_trans this hs)
theorem sizes_strs (ps : List (List UInt8)) : sizes (strs ps) = ps.map List.length := by
  unfold sizes strs
  rw [List.map_map]
  apply List.map_congr_left
  intro p _
  exact S_size p
end Go.Proofs.Ytegipokbbmnahaa
