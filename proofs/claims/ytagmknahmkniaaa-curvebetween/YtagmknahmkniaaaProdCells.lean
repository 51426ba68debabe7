/- Products and series in memory, over any program. -/
import Derived.Test.YtagmknahmkniaaaTRecs
import Derived.Test.YtagmknahmkniaaaProductMath
import Derived.Test.YtagmknahmkniaaaSeriesMath
namespace Go.Recs
open Go.RowKit
set_option linter.unusedVariables false
def i64 (n : Int) : Prop := -9223372036854775808 ≤ n ∧ n ≤ 9223372036854775807
def prodV (p : QM.Prod) : List Value := [.string p.name, .int .i64 p.cur, .int .i64 p.mult, .int .i64 p.tick, .int .i64 p.low, .int .i64 p.high, .bool p.phys]
def prodQ (p : QM.Prod) : Prop := p.name.size ≤ maxLen ∧ i64 p.cur ∧ i64 p.mult ∧ i64 p.tick ∧ i64 p.low ∧ i64 p.high
def prodL : List Leaf := [.str, .int .i64, .int .i64, .int .i64, .int .i64, .int .i64, .bool]
def serV (s : EM.Ser) : List Value := [.string s.prod, .int .i64 s.kind, .int .i64 s.expiry, .int .i64 s.strike]
def serQ (s : EM.Ser) : Prop := s.prod.size ≤ maxLen ∧ i64 s.kind ∧ i64 s.expiry ∧ i64 s.strike
def serL : List Leaf := [.str, .int .i64, .int .i64, .int .i64]
theorem okAll_cons {l : Leaf} {ls : List Leaf} {r : List Value} (h : okAll (l :: ls) r) : ∃ c r', r = c :: r' ∧ l.ok c ∧ okAll ls r' := by
  cases r with
  | nil => exact h.elim
  | cons c r => exact ⟨c, r, rfl, h.1, h.2⟩
theorem okAll_nil {r : List Value} (h : okAll [] r) : r = [] := by
  cases r with
  | nil => rfl
  | cons c r => exact h.elim
theorem prod_row (r : List Value) (h : okAll prodL r) : ∃ p : QM.Prod, r = prodV p ∧ prodQ p := by
  obtain ⟨c0, r0, rfl, ⟨s, rfl, hs⟩, g0⟩ := okAll_cons h
  obtain ⟨c1, r1, rfl, ⟨n1, rfl, h1⟩, g1⟩ := okAll_cons g0
  obtain ⟨c2, r2, rfl, ⟨n2, rfl, h2⟩, g2⟩ := okAll_cons g1
  obtain ⟨c3, r3, rfl, ⟨n3, rfl, h3⟩, g3⟩ := okAll_cons g2
  obtain ⟨c4, r4, rfl, ⟨n4, rfl, h4⟩, g4⟩ := okAll_cons g3
  obtain ⟨c5, r5, rfl, ⟨n5, rfl, h5⟩, g5⟩ := okAll_cons g4
  obtain ⟨c6, r6, rfl, ⟨b, rfl⟩, g6⟩ := okAll_cons g5
  rw [okAll_nil g6]
  exact ⟨⟨s, n1, n2, n3, n4, n5, b⟩, rfl, hs, bounds_i64 h1, bounds_i64 h2, bounds_i64 h3, bounds_i64 h4, bounds_i64 h5⟩
theorem ser_row (r : List Value) (h : okAll serL r) : ∃ s : EM.Ser, r = serV s ∧ serQ s := by
  obtain ⟨c0, r0, rfl, ⟨s, rfl, hs⟩, g0⟩ := okAll_cons h
  obtain ⟨c1, r1, rfl, ⟨n1, rfl, h1⟩, g1⟩ := okAll_cons g0
  obtain ⟨c2, r2, rfl, ⟨n2, rfl, h2⟩, g2⟩ := okAll_cons g1
  obtain ⟨c3, r3, rfl, ⟨n3, rfl, h3⟩, g3⟩ := okAll_cons g2
  rw [okAll_nil g3]
  exact ⟨⟨s, n1, n2, n3⟩, rfl, hs, bounds_i64 h1, bounds_i64 h2, bounds_i64 h3⟩
abbrev Prods := TR prodV prodQ 7
abbrev Sers := TR serV serQ 4
theorem prods_get {w : World} {A : Option Addr} {l : List QM.Prod} (h : Prods w A l) {k : Nat} (hk : k < l.length) :
    ∃ b off, ∃ p : QM.Prod, A = some ⟨b, off, none⟩ ∧ b < w.heap.size ∧ Hid (QM.pAt l k = p) ∧ prodQ p ∧ w.cell? ⟨b, off + k * 7, none⟩ = some (.string p.name) ∧ w.cell? ⟨b, off + k * 7 + 1, none⟩ = some (.int .i64 p.cur) ∧
      w.cell? ⟨b, off + k * 7 + 2, none⟩ = some (.int .i64 p.mult) ∧ w.cell? ⟨b, off + k * 7 + 3, none⟩ = some (.int .i64 p.tick) ∧ w.cell? ⟨b, off + k * 7 + 4, none⟩ = some (.int .i64 p.low) ∧
      w.cell? ⟨b, off + k * 7 + 5, none⟩ = some (.int .i64 p.high) ∧ w.cell? ⟨b, off + k * 7 + 6, none⟩ = some (.bool p.phys) := by
  obtain ⟨b, off, rfl, hb, hq, hc⟩ := h.at_ hk
  refine ⟨b, off, l[k], rfl, hb, Lib.hid (by simp [QM.pAt, List.getD, hk]), hq, hc 0 (by omega), hc 1 (by omega), hc 2 (by omega), hc 3 (by omega), hc 4 (by omega), hc 5 (by omega), hc 6 (by omega)⟩
def sAt (l : List EM.Ser) (k : Nat) : EM.Ser := l.getD k EM.zero
theorem sers_get {w : World} {A : Option Addr} {l : List EM.Ser} (h : Sers w A l) {k : Nat} (hk : k < l.length) :
    ∃ b off, ∃ s : EM.Ser, A = some ⟨b, off, none⟩ ∧ b < w.heap.size ∧ Hid (sAt l k = s) ∧ serQ s ∧ w.cell? ⟨b, off + k * 4, none⟩ = some (.string s.prod) ∧ w.cell? ⟨b, off + k * 4 + 1, none⟩ = some (.int .i64 s.kind) ∧
      w.cell? ⟨b, off + k * 4 + 2, none⟩ = some (.int .i64 s.expiry) ∧ w.cell? ⟨b, off + k * 4 + 3, none⟩ = some (.int .i64 s.strike) := by
  obtain ⟨b, off, rfl, hb, hq, hc⟩ := h.at_ hk
  refine ⟨b, off, l[k], rfl, hb, Lib.hid (by simp [sAt, List.getD, hk]), hq, hc 0 (by omega), hc 1 (by omega), hc 2 (by omega), hc 3 (by omega)⟩
end Go.Recs
