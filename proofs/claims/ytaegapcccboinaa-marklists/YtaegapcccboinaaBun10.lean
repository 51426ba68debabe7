/- Put together: PosD, PosE, PosF, PosG, NovCells, LegBox, PosIter, PosCol. -/
import Derived.Test.YtaegapcccboinaaBun9
import Derived.Deep.RegionHeld3
import Derived.StillTailTactics
import Derived.Deep.Cut
import Derived.Test.YtaegapcccboinaaBun3
import Derived.Test.YtaegapcccboinaaBun4
import Derived.Test.YtaegapcccboinaaBun8
import Derived.RangeFuncNested
import Derived.RangeFuncBound
import Derived.RangeFuncCalls
import Derived.RangeFuncLeaves
import Derived.Shelf.Abstract
import Derived.Sort.MapsRangeIn
import Derived.WalkKit
import Derived.OwnWalkIn
import Derived.TacticsInMore
import Derived.RegionIn
import Derived.LoopNIn
import Derived.LoopIn
import Derived.RangeFuncBox
import Derived.Maps.AppendAt
/- Contracts of layer 15: positions by series: find. -/
namespace Go.Proofs.Ytaegapcccboinaa
open Go.RowKit Go.Recs Go.Maps
set_option linter.unusedVariables false
set_option linter.unusedSimpArgs false
end Go.Proofs.Ytaegapcccboinaa

/- Contracts of layer 15: positions by series: indexed. -/
namespace PO
theorem putM_fresh {ps : List Pos} {x : Pos} (h : lotsB x.lo x.sh = true) (hn : ∀ p ∈ ps, p.ser ≠ x.ser) : putM ps x = x :: ps := by
  have h1 := lotsB_iff.1 h
  unfold putM
  rw [if_neg (by omega)]
  have : others ps x.ser = ps := List.filter_eq_self.2 fun q hq => by
    cases e : NM.seqB q.ser x.ser
    · rfl
    · exact absurd (NM.seqB_iff.1 e) (hn q hq)
  rw [this]
theorem take_perm {l ps : List Pos} {k : Nat} (hk : k < l.length) (hp : ps.Perm (l.take k)) : (pAt l k :: ps).Perm (l.take (k + 1)) := by
  rw [List.take_succ_eq_append_getElem hk, pAt_get hk]
  exact (hp.cons _).trans (List.perm_append_comm (l₁ := [l[k]]))
theorem take_ne {l : List Pos} (h : ascP l) {k : Nat} (hk : k < l.length) {p : Pos} (hp : p ∈ l.take k) : p.ser ≠ (pAt l k).ser := by
  obtain ⟨j, hj, rfl⟩ := List.getElem_of_mem hp
  rw [List.length_take] at hj
  rw [List.getElem_take, pAt_get hk]
  intro e
  have := List.pairwise_iff_getElem.1 h j k (by omega) hk (by omega)
  rw [e] at this
  exact EM.lt_irrefl _ this
end PO
namespace Go.Proofs.Ytaegapcccboinaa
open Go.RowKit Go.Recs Go.Maps
set_option linter.unusedVariables false
set_option linter.unusedSimpArgs false
end Go.Proofs.Ytaegapcccboinaa

/- Contracts of layer 15: a leg checked, set off, changed. -/
namespace Go.Proofs.Ytaegapcccboinaa
open Go.RowKit Go.Recs
set_option linter.unusedVariables false
set_option linter.unusedSimpArgs false
theorem abs_nn (n : Int) : 0 ≤ PO.absI n := by unfold PO.absI; split <;> omega
end Go.Proofs.Ytaegapcccboinaa

/- Contracts of layer 15: a position changed. -/
namespace Go.Proofs.Ytaegapcccboinaa
open Go.RowKit Go.Recs
set_option linter.unusedVariables false
set_option linter.unusedSimpArgs false
def putP (w : World) (g : Nat) (x : PO.Pos) : World := (((((w.setCell ⟨g, 0, none⟩ (.string x.ser.prod)).setCell ⟨g, 1, none⟩ (.int .i64 x.ser.kind)).setCell ⟨g, 2, none⟩ (.int .i64 x.ser.expiry)).setCell ⟨g, 3, none⟩ (.int .i64 x.ser.strike)).setCell ⟨g, 4, none⟩ (.int .i64 x.lo)).setCell ⟨g, 5, none⟩ (.int .i64 x.sh)
theorem putP_below {a w : World} {B g : Nat} (h : Below B a w) (hg : B ≤ g) (x : PO.Pos) : Below B a (putP w g x) :=
  (((((h.setCell (p := ⟨g, 0, none⟩) hg _).setCell (p := ⟨g, 1, none⟩) hg _).setCell (p := ⟨g, 2, none⟩) hg _).setCell (p := ⟨g, 3, none⟩) hg _).setCell (p := ⟨g, 4, none⟩) hg _).setCell (p := ⟨g, 5, none⟩) hg _
end Go.Proofs.Ytaegapcccboinaa

/- Legs in memory, over any program. -/
namespace Go.Recs
open Go.RowKit
set_option linter.unusedVariables false
def legV (x : NM.Leg) : List Value := [.string x.am, .string x.an, .string x.ser.prod, .int .i64 x.ser.kind, .int .i64 x.ser.expiry, .int .i64 x.ser.strike, .int .i64 x.qty, .int .i64 x.price, .int .i64 x.trade]
def legQ (x : NM.Leg) : Prop := x.am.size ≤ maxLen ∧ x.an.size ≤ maxLen ∧ serQ x.ser ∧ i64 x.qty ∧ i64 x.price ∧ i64 x.trade
def legL : List Leaf := [.str, .str, .str, .int .i64, .int .i64, .int .i64, .int .i64, .int .i64, .int .i64]
theorem leg_row (r : List Value) (h : okAll legL r) : ∃ x : NM.Leg, r = legV x ∧ legQ x := by
  obtain ⟨c0, r0, rfl, ⟨s0, rfl, h0⟩, g0⟩ := okAll_cons h
  obtain ⟨c1, r1, rfl, ⟨s1, rfl, h1⟩, g1⟩ := okAll_cons g0
  obtain ⟨c2, r2, rfl, ⟨s2, rfl, h2⟩, g2⟩ := okAll_cons g1
  obtain ⟨c3, r3, rfl, ⟨n3, rfl, h3⟩, g3⟩ := okAll_cons g2
  obtain ⟨c4, r4, rfl, ⟨n4, rfl, h4⟩, g4⟩ := okAll_cons g3
  obtain ⟨c5, r5, rfl, ⟨n5, rfl, h5⟩, g5⟩ := okAll_cons g4
  obtain ⟨c6, r6, rfl, ⟨n6, rfl, h6⟩, g6⟩ := okAll_cons g5
  obtain ⟨c7, r7, rfl, ⟨n7, rfl, h7⟩, g7⟩ := okAll_cons g6
  obtain ⟨c8, r8, rfl, ⟨n8, rfl, h8⟩, g8⟩ := okAll_cons g7
  rw [okAll_nil g8]
  exact ⟨⟨s0, s1, ⟨s2, n3, n4, n5⟩, n6, n7, n8⟩, rfl, h0, h1, ⟨h2, bounds_i64 h3, bounds_i64 h4, bounds_i64 h5⟩, bounds_i64 h6, bounds_i64 h7, bounds_i64 h8⟩
abbrev Legs := TR legV legQ 9
theorem legs_get {w : World} {A : Option Addr} {l : List NM.Leg} (h : Legs w A l) {k : Nat} (hk : k < l.length) :
    ∃ b off, ∃ x : NM.Leg, A = some ⟨b, off, none⟩ ∧ b < w.heap.size ∧ Hid (NM.lAt l k = x) ∧ legQ x ∧ w.cell? ⟨b, off + k * 9, none⟩ = some (.string x.am) ∧ w.cell? ⟨b, off + k * 9 + 1, none⟩ = some (.string x.an) ∧
      w.cell? ⟨b, off + k * 9 + 2, none⟩ = some (.string x.ser.prod) ∧ w.cell? ⟨b, off + k * 9 + 3, none⟩ = some (.int .i64 x.ser.kind) ∧ w.cell? ⟨b, off + k * 9 + 4, none⟩ = some (.int .i64 x.ser.expiry) ∧
      w.cell? ⟨b, off + k * 9 + 5, none⟩ = some (.int .i64 x.ser.strike) ∧ w.cell? ⟨b, off + k * 9 + 6, none⟩ = some (.int .i64 x.qty) ∧ w.cell? ⟨b, off + k * 9 + 7, none⟩ = some (.int .i64 x.price) ∧ w.cell? ⟨b, off + k * 9 + 8, none⟩ = some (.int .i64 x.trade) := by
  obtain ⟨b, off, rfl, hb, hq, hc⟩ := h.at_ hk
  exact ⟨b, off, l[k], rfl, hb, Lib.hid (NM.lAt_get hk), hq, hc 0 (by omega), hc 1 (by omega), hc 2 (by omega), hc 3 (by omega), hc 4 (by omega), hc 5 (by omega), hc 6 (by omega), hc 7 (by omega), hc 8 (by omega)⟩
theorem legV_one (l : List NM.Leg) : ∀ r ∈ l.map legV, ∀ u ∈ r, u.oneCell' = true := by
  intro r hr
  obtain ⟨t, _, rfl⟩ := List.mem_map.1 hr
  intro u hu
  simp only [legV, List.mem_cons, List.not_mem_nil, or_false] at hu
  rcases hu with rfl | rfl | rfl | rfl | rfl | rfl | rfl | rfl | rfl <;> rfl
end Go.Recs

/- A leg and an account's name in a box; records compared. -/
namespace Go.Proofs.Ytaegapcccboinaa
open Go.RowKit Go.Recs
set_option linter.unusedVariables false
set_option linter.unusedSimpArgs false
abbrev legA (x : NM.Leg) : Value := .agg #[.string x.am, .string x.an, .string x.ser.prod, .int .i64 x.ser.kind, .int .i64 x.ser.expiry, .int .i64 x.ser.strike, .int .i64 x.qty, .int .i64 x.price, .int .i64 x.trade]
abbrev legC (x : NM.Leg) : Array Value := #[.string x.am, .string x.an, .string x.ser.prod, .int .i64 x.ser.kind, .int .i64 x.ser.expiry, .int .i64 x.ser.strike, .int .i64 x.qty, .int .i64 x.price, .int .i64 x.trade]
abbrev kA (a b : ByteArray) : Value := .agg #[.string a, .string b]
abbrev kC (a b : ByteArray) : Array Value := #[.string a, .string b]
/-- the world with the leg x in block g -/
def putL (w : World) (g : Nat) (x : NM.Leg) : World := ((((((((w.setCell ⟨g, 0, none⟩ (.string x.am)).setCell ⟨g, 1, none⟩ (.string x.an)).setCell ⟨g, 2, none⟩ (.string x.ser.prod)).setCell ⟨g, 3, none⟩ (.int .i64 x.ser.kind)).setCell ⟨g, 4, none⟩ (.int .i64 x.ser.expiry)).setCell ⟨g, 5, none⟩ (.int .i64 x.ser.strike)).setCell ⟨g, 6, none⟩ (.int .i64 x.qty)).setCell ⟨g, 7, none⟩ (.int .i64 x.price)).setCell ⟨g, 8, none⟩ (.int .i64 x.trade)
theorem putL_below {a w : World} {B g : Nat} (h : Below B a w) (hg : B ≤ g) (x : NM.Leg) : Below B a (putL w g x) :=
  ((((((((h.setCell (p := ⟨g, 0, none⟩) hg _).setCell (p := ⟨g, 1, none⟩) hg _).setCell (p := ⟨g, 2, none⟩) hg _).setCell (p := ⟨g, 3, none⟩) hg _).setCell (p := ⟨g, 4, none⟩) hg _).setCell (p := ⟨g, 5, none⟩) hg _).setCell (p := ⟨g, 6, none⟩) hg _).setCell (p := ⟨g, 7, none⟩) hg _).setCell (p := ⟨g, 8, none⟩) hg _
theorem CB.putL_far {w : World} {g j : Nat} {t : TypeId} {cs : Array Value} (h : CB w g t cs) (hne : g ≠ j) (x : NM.Leg) : CB (Proofs.Ytaegapcccboinaa.putL w j x) g t cs :=
  ((((((((h.far (p := ⟨j, 0, none⟩) hne _).far (p := ⟨j, 1, none⟩) hne _).far (p := ⟨j, 2, none⟩) hne _).far (p := ⟨j, 3, none⟩) hne _).far (p := ⟨j, 4, none⟩) hne _).far (p := ⟨j, 5, none⟩) hne _).far (p := ⟨j, 6, none⟩) hne _).far (p := ⟨j, 7, none⟩) hne _).far (p := ⟨j, 8, none⟩) hne _
theorem ser_in_at (n : Nat) (x y : EM.Ser) (w : World) : (Op.equalIn (n + 2) 57 (serA x) (serA y)).run Try.prog w = .ok (NM.seqB x y) w := by
  have u3 := Try.underlying3
  have u9 := Try.underlying9
  have a3 := Try.isAgg3
  have a9 := Try.isAgg9
  have z3 := Try.sizeOf3
  have z9 := Try.sizeOf9
  have hS : Try.prog.underlying 57 = some (.struct (Try.prog.fieldsOf 57)) := by kernel_rfl
  have hp : Try.prog.stoodInHeld 57 = false := by kernel_rfl
  rw [show n + 2 = (n + 1) + 1 from rfl, run_equalIn_agg w (n + 1) 57 _ _ hS hp]
  simp only [Program.fieldsOf, Try.underlying57]
  unfold NM.seqB
  go_simp
  by_cases h1 : x.prod.toList = y.prod.toList <;> by_cases h2 : x.kind = y.kind <;> by_cases h3 : x.expiry = y.expiry <;> by_cases h4 : x.strike = y.strike <;> simp [h1, h2, h3, h4]
theorem serB_in (x y : EM.Ser) (w : World) : (Op.equalIn 10000 57 (serA x) (serA y)).run Try.prog w = .ok (NM.seqB x y) w := ser_in_at 9998 x y w
end Go.Proofs.Ytaegapcccboinaa

/- maps.Values at positions; slices.AppendSeq, slices.Collect. -/
namespace Go.Proofs.Ytaegapcccboinaa
open Go.RowKit Go.Recs Go.Maps Go.Shelf
set_option linter.unusedVariables false
set_option linter.unusedSimpArgs false
attribute [local go_sem] Oper.semAt_some
end Go.Proofs.Ytaegapcccboinaa

/- slices.AppendSeq, slices.Collect over maps.Values at positions. -/
namespace Go.Proofs.Ytaegapcccboinaa
open Go.RowKit Go.Recs Go.Maps Go.Shelf
set_option linter.unusedVariables false
set_option linter.unusedSimpArgs false
attribute [local go_sem] Oper.semAt_some
theorem pos_ones (x : PO.Pos) : ∀ u ∈ posV x, u.oneCell' = true := posV_one [x] (posV x) (by simp)
theorem cb_own (Bx : Nat) (t : TypeId) (cs : Array Value) : Go.Own (fun (_ : Unit) W => CB W Bx t cs) := fun s X Y row hs hg hrow =>
  (hg.block Bx (CB.lt hs) (fun e' => by
    obtain ⟨o, ho, hc⟩ := hrow Bx e'.symm
    rw [show X.heap[Bx]? = _ from hs] at ho; cases ho; cases hc)).trans hs
end Go.Proofs.Ytaegapcccboinaa
