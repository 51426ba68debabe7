/- Ticks of a tape in memory, over any program. -/
import Derived.Test.YtaegapcccboinaaProdCells
import Derived.Test.YtaegapcccboinaaTapeMath
namespace Go.Recs
open Go.RowKit
set_option linter.unusedVariables false
def tickV (x : TP.Tick) : List Value := [.int .i64 x.time, .int .i64 x.qty, .int .i64 x.price]
def tickQ (x : TP.Tick) : Prop := i64 x.time ∧ i64 x.qty ∧ i64 x.price
def tickL : List Leaf := [.int .i64, .int .i64, .int .i64]
theorem tick_row (r : List Value) (h : okAll tickL r) : ∃ x : TP.Tick, r = tickV x ∧ tickQ x := by
  obtain ⟨c0, r0, rfl, ⟨n0, rfl, h0⟩, g0⟩ := okAll_cons h
  obtain ⟨c1, r1, rfl, ⟨n1, rfl, h1⟩, g1⟩ := okAll_cons g0
  obtain ⟨c2, r2, rfl, ⟨n2, rfl, h2⟩, g2⟩ := okAll_cons g1
  rw [okAll_nil g2]
  exact ⟨⟨n0, n1, n2⟩, rfl, bounds_i64 h0, bounds_i64 h1, bounds_i64 h2⟩
abbrev Ticks := TR tickV tickQ 3
theorem ticks_get {w : World} {A : Option Addr} {l : List TP.Tick} (h : Ticks w A l) {k : Nat} (hk : k < l.length) :
    ∃ b off, ∃ x : TP.Tick, A = some ⟨b, off, none⟩ ∧ b < w.heap.size ∧ Hid (TP.tAt l k = x) ∧ tickQ x ∧ w.cell? ⟨b, off + k * 3, none⟩ = some (.int .i64 x.time) ∧ w.cell? ⟨b, off + k * 3 + 1, none⟩ = some (.int .i64 x.qty) ∧ w.cell? ⟨b, off + k * 3 + 2, none⟩ = some (.int .i64 x.price) := by
  obtain ⟨b, off, rfl, hb, hq, hc⟩ := h.at_ hk
  exact ⟨b, off, l[k], rfl, hb, Lib.hid (TP.tAt_get hk), hq, hc 0 (by omega), hc 1 (by omega), hc 2 (by omega)⟩
end Go.Recs
