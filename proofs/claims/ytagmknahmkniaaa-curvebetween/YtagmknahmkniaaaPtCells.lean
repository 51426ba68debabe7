/- Points of a curve in memory, over any program. -/
import Derived.Test.YtagmknahmkniaaaMemCells
import Derived.Test.YtagmknahmkniaaaCurveMath3
namespace Go.Recs
open Go.RowKit
set_option linter.unusedVariables false
def ptV (x : UM.Pt) : List Value := [.int .i64 x.exp, .int .i64 x.price, .bool x.known]
def ptQ (x : UM.Pt) : Prop := i64 x.exp ∧ i64 x.price
def ptL : List Leaf := [.int .i64, .int .i64, .bool]
theorem pt_row (r : List Value) (h : okAll ptL r) : ∃ x : UM.Pt, r = ptV x ∧ ptQ x := by
  obtain ⟨c0, r0, rfl, ⟨n0, rfl, h0⟩, g0⟩ := okAll_cons h
  obtain ⟨c1, r1, rfl, ⟨n1, rfl, h1⟩, g1⟩ := okAll_cons g0
  obtain ⟨c2, r2, rfl, ⟨b2, rfl⟩, g2⟩ := okAll_cons g1
  rw [okAll_nil g2]
  exact ⟨⟨n0, n1, b2⟩, rfl, bounds_i64 h0, bounds_i64 h1⟩
abbrev Pts := TR ptV ptQ 3
theorem pts_get {w : World} {A : Option Addr} {l : List UM.Pt} (h : Pts w A l) {k : Nat} (hk : k < l.length) :
    ∃ b off, ∃ x : UM.Pt, A = some ⟨b, off, none⟩ ∧ b < w.heap.size ∧ Hid (UM.pAt l k = x) ∧ ptQ x ∧ w.cell? ⟨b, off + k * 3, none⟩ = some (.int .i64 x.exp) ∧ w.cell? ⟨b, off + k * 3 + 1, none⟩ = some (.int .i64 x.price) ∧ w.cell? ⟨b, off + k * 3 + 2, none⟩ = some (.bool x.known) := by
  obtain ⟨b, off, rfl, hb, hq, hc⟩ := h.at_ hk
  exact ⟨b, off, l[k], rfl, hb, Lib.hid (UM.pAt_get hk), hq, hc 0 (by omega), hc 1 (by omega), hc 2 (by omega)⟩
theorem ptV_one (x : UM.Pt) : ∀ u ∈ ptV x, u.oneCell' = true := by
  intro u hu
  simp only [ptV, List.mem_cons, List.not_mem_nil, or_false] at hu
  rcases hu with rfl | rfl | rfl <;> rfl
theorem pts_one (l : List UM.Pt) : ∀ r ∈ l.map ptV, ∀ u ∈ r, u.oneCell' = true := by
  intro r hr
  obtain ⟨x, _, rfl⟩ := List.mem_map.1 hr
  exact ptV_one x
end Go.Recs
