/- Put together: NovCells, TrdCells, SizedRec, OpenProd, OpenNov, PartCells, OpenGiv, MemCells. -/
import Derived.Test.YtagmknahmkniaabBun3
import Derived.Test.YtagmknahmkniaabBun6
import Derived.Test.YtagmknahmkniaabBun1
import Derived.SizedLaws
import Derived.ProofKit
import Derived.OpenShut
import Derived.ShutString
import Derived.ChangeOld
import Derived.Test.YtagmknahmkniaabBun5
import Derived.ArgAppend
/- Legs in memory, over any program. -/
namespace Go.Recs
open Go.RowKit
set_option linter.unusedVariables false
def legV (x : NM.Leg) : List Value := [.string x.am, .string x.an, .string x.ser.prod, .int .i64 x.ser.kind, .int .i64 x.ser.expiry, .int .i64 x.ser.strike, .int .i64 x.qty, .int .i64 x.price, .int .i64 x.trade]
def legQ (x : NM.Leg) : Prop := x.am.size ≤ maxLen ∧ x.an.size ≤ maxLen ∧ serQ x.ser ∧ i64 x.qty ∧ i64 x.price ∧ i64 x.trade
def legL : List Leaf := [.str, .str, .str, .int .i64, .int .i64, .int .i64, .int .i64, .int .i64, .int .i64]
theorem leg_row (r : List Value) (h : okAll legL r) : ∃ x : NM.Leg, r = legV x ∧ legQ x := by
  obtain ⟨c0, r0, rfl, ⟨s0, rfl, h0⟩, g0⟩ := okAll_cons h
  obtain ⟨c1, r1, rfl, ⟨s1, rfl, h1⟩, g1⟩ := okAll_cons g0
  obtain ⟨c2, r2, rfl, ⟨s2, rfl, h2⟩, g2⟩ := okAll_cons g1
  obtain ⟨c3, r3, rfl, ⟨n3, rfl, h3⟩, g3⟩ := okAll_cons g2
  obtain ⟨c4, r4, rfl, ⟨n4, rfl, h4⟩, g4⟩ := okAll_cons g3
  obtain ⟨c5, r5, rfl, ⟨n5, rfl, h5⟩, g5⟩ := okAll_cons g4
  obtain ⟨c6, r6, rfl, ⟨n6, rfl, h6⟩, g6⟩ := okAll_cons g5
  obtain ⟨c7, r7, rfl, ⟨n7, rfl, h7⟩, g7⟩ := okAll_cons g6
  obtain ⟨c8, r8, rfl, ⟨n8, rfl, h8⟩, g8⟩ := okAll_cons g7
  rw [okAll_nil g8]
  exact ⟨⟨s0, s1, ⟨s2, n3, n4, n5⟩, n6, n7, n8⟩, rfl, h0, h1, ⟨h2, bounds_i64 h3, bounds_i64 h4, bounds_i64 h5⟩, bounds_i64 h6, bounds_i64 h7, bounds_i64 h8⟩
abbrev Legs := TR legV legQ 9
theorem legs_get {w : World} {A : Option Addr} {l : List NM.Leg} (h : Legs w A l) {k : Nat} (hk : k < l.length) :
    ∃ b off, ∃ x : NM.Leg, A = some ⟨b, off, none⟩ ∧ b < w.heap.size ∧ Hid (NM.lAt l k = x) ∧ legQ x ∧ w.cell? ⟨b, off + k * 9, none⟩ = some (.string x.am) ∧ w.cell? ⟨b, off + k * 9 + 1, none⟩ = some (.string x.an) ∧
      w.cell? ⟨b, off + k * 9 + 2, none⟩ = some (.string x.ser.prod) ∧ w.cell? ⟨b, off + k * 9 + 3, none⟩ = some (.int .i64 x.ser.kind) ∧ w.cell? ⟨b, off + k * 9 + 4, none⟩ = some (.int .i64 x.ser.expiry) ∧
      w.cell? ⟨b, off + k * 9 + 5, none⟩ = some (.int .i64 x.ser.strike) ∧ w.cell? ⟨b, off + k * 9 + 6, none⟩ = some (.int .i64 x.qty) ∧ w.cell? ⟨b, off + k * 9 + 7, none⟩ = some (.int .i64 x.price) ∧ w.cell? ⟨b, off + k * 9 + 8, none⟩ = some (.int .i64 x.trade) := by
  obtain ⟨b, off, rfl, hb, hq, hc⟩ := h.at_ hk
  exact ⟨b, off, l[k], rfl, hb, Lib.hid (NM.lAt_get hk), hq, hc 0 (by omega), hc 1 (by omega), hc 2 (by omega), hc 3 (by omega), hc 4 (by omega), hc 5 (by omega), hc 6 (by omega), hc 7 (by omega), hc 8 (by omega)⟩
theorem legV_one (l : List NM.Leg) : ∀ r ∈ l.map legV, ∀ u ∈ r, u.oneCell' = true := by
  intro r hr
  obtain ⟨t, _, rfl⟩ := List.mem_map.1 hr
  intro u hu
  simp only [legV, List.mem_cons, List.not_mem_nil, or_false] at hu
  rcases hu with rfl | rfl | rfl | rfl | rfl | rfl | rfl | rfl | rfl <;> rfl
end Go.Recs

/- Trades in memory, over any program. -/
namespace Go.Recs
open Go.RowKit
set_option linter.unusedVariables false
def trdV (t : TM.Trd) : List Value := [.int .i64 t.id, .int .i64 t.day, .int .i64 t.time, .string t.ser.prod, .int .i64 t.ser.kind, .int .i64 t.ser.expiry, .int .i64 t.ser.strike, .int .i64 t.qty, .int .i64 t.price, .string t.bm, .string t.bn, .string t.sm, .string t.sn]
def trdQ (t : TM.Trd) : Prop := i64 t.id ∧ i64 t.day ∧ i64 t.time ∧ serQ t.ser ∧ i64 t.qty ∧ i64 t.price ∧ t.bm.size ≤ maxLen ∧ t.bn.size ≤ maxLen ∧ t.sm.size ≤ maxLen ∧ t.sn.size ≤ maxLen
def trdL : List Leaf := [.int .i64, .int .i64, .int .i64, .str, .int .i64, .int .i64, .int .i64, .int .i64, .int .i64, .str, .str, .str, .str]
theorem trd_row (r : List Value) (h : okAll trdL r) : ∃ t : TM.Trd, r = trdV t ∧ trdQ t := by
  obtain ⟨c0, r0, rfl, ⟨n0, rfl, h0⟩, g0⟩ := okAll_cons h
  obtain ⟨c1, r1, rfl, ⟨n1, rfl, h1⟩, g1⟩ := okAll_cons g0
  obtain ⟨c2, r2, rfl, ⟨n2, rfl, h2⟩, g2⟩ := okAll_cons g1
  obtain ⟨c3, r3, rfl, ⟨s3, rfl, h3⟩, g3⟩ := okAll_cons g2
  obtain ⟨c4, r4, rfl, ⟨n4, rfl, h4⟩, g4⟩ := okAll_cons g3
  obtain ⟨c5, r5, rfl, ⟨n5, rfl, h5⟩, g5⟩ := okAll_cons g4
  obtain ⟨c6, r6, rfl, ⟨n6, rfl, h6⟩, g6⟩ := okAll_cons g5
  obtain ⟨c7, r7, rfl, ⟨n7, rfl, h7⟩, g7⟩ := okAll_cons g6
  obtain ⟨c8, r8, rfl, ⟨n8, rfl, h8⟩, g8⟩ := okAll_cons g7
  obtain ⟨c9, r9, rfl, ⟨s9, rfl, h9⟩, g9⟩ := okAll_cons g8
  obtain ⟨c10, r10, rfl, ⟨s10, rfl, h10⟩, g10⟩ := okAll_cons g9
  obtain ⟨c11, r11, rfl, ⟨s11, rfl, h11⟩, g11⟩ := okAll_cons g10
  obtain ⟨c12, r12, rfl, ⟨s12, rfl, h12⟩, g12⟩ := okAll_cons g11
  rw [okAll_nil g12]
  exact ⟨⟨n0, n1, n2, ⟨s3, n4, n5, n6⟩, n7, n8, s9, s10, s11, s12⟩, rfl, bounds_i64 h0, bounds_i64 h1, bounds_i64 h2, ⟨h3, bounds_i64 h4, bounds_i64 h5, bounds_i64 h6⟩, bounds_i64 h7, bounds_i64 h8, h9, h10, h11, h12⟩
abbrev Trds := TR trdV trdQ 13
theorem trds_get {w : World} {A : Option Addr} {l : List TM.Trd} (h : Trds w A l) {k : Nat} (hk : k < l.length) :
    ∃ b off, ∃ t : TM.Trd, A = some ⟨b, off, none⟩ ∧ b < w.heap.size ∧ Hid (TM.tAt l k = t) ∧ trdQ t ∧ w.cell? ⟨b, off + k * 13, none⟩ = some (.int .i64 t.id) ∧ w.cell? ⟨b, off + k * 13 + 1, none⟩ = some (.int .i64 t.day) ∧
      w.cell? ⟨b, off + k * 13 + 2, none⟩ = some (.int .i64 t.time) ∧ w.cell? ⟨b, off + k * 13 + 3, none⟩ = some (.string t.ser.prod) ∧ w.cell? ⟨b, off + k * 13 + 4, none⟩ = some (.int .i64 t.ser.kind) ∧
      w.cell? ⟨b, off + k * 13 + 5, none⟩ = some (.int .i64 t.ser.expiry) ∧ w.cell? ⟨b, off + k * 13 + 6, none⟩ = some (.int .i64 t.ser.strike) ∧ w.cell? ⟨b, off + k * 13 + 7, none⟩ = some (.int .i64 t.qty) ∧
      w.cell? ⟨b, off + k * 13 + 8, none⟩ = some (.int .i64 t.price) ∧ w.cell? ⟨b, off + k * 13 + 9, none⟩ = some (.string t.bm) ∧ w.cell? ⟨b, off + k * 13 + 10, none⟩ = some (.string t.bn) ∧
      w.cell? ⟨b, off + k * 13 + 11, none⟩ = some (.string t.sm) ∧ w.cell? ⟨b, off + k * 13 + 12, none⟩ = some (.string t.sn) := by
  obtain ⟨b, off, rfl, hb, hq, hc⟩ := h.at_ hk
  exact ⟨b, off, l[k], rfl, hb, Lib.hid (TM.tAt_get hk), hq, hc 0 (by omega), hc 1 (by omega), hc 2 (by omega), hc 3 (by omega), hc 4 (by omega), hc 5 (by omega), hc 6 (by omega), hc 7 (by omega), hc 8 (by omega), hc 9 (by omega), hc 10 (by omega), hc 11 (by omega), hc 12 (by omega)⟩
/-- all cells of record k at once -/
def TCell (w : World) (b o : Nat) (t : TM.Trd) : Prop := w.cell? ⟨b, o, none⟩ = some (.int .i64 t.id) ∧ w.cell? ⟨b, o + 1, none⟩ = some (.int .i64 t.day) ∧
      w.cell? ⟨b, o + 2, none⟩ = some (.int .i64 t.time) ∧ w.cell? ⟨b, o + 3, none⟩ = some (.string t.ser.prod) ∧ w.cell? ⟨b, o + 4, none⟩ = some (.int .i64 t.ser.kind) ∧
      w.cell? ⟨b, o + 5, none⟩ = some (.int .i64 t.ser.expiry) ∧ w.cell? ⟨b, o + 6, none⟩ = some (.int .i64 t.ser.strike) ∧ w.cell? ⟨b, o + 7, none⟩ = some (.int .i64 t.qty) ∧
      w.cell? ⟨b, o + 8, none⟩ = some (.int .i64 t.price) ∧ w.cell? ⟨b, o + 9, none⟩ = some (.string t.bm) ∧ w.cell? ⟨b, o + 10, none⟩ = some (.string t.bn) ∧
      w.cell? ⟨b, o + 11, none⟩ = some (.string t.sm) ∧ w.cell? ⟨b, o + 12, none⟩ = some (.string t.sn)
theorem trdV_one (l : List TM.Trd) : ∀ r ∈ l.map trdV, ∀ u ∈ r, u.oneCell' = true := by
  intro r hr
  obtain ⟨t, _, rfl⟩ := List.mem_map.1 hr
  intro u hu
  simp only [trdV, List.mem_cons, List.not_mem_nil, or_false] at hu
  rcases hu with rfl | rfl | rfl | rfl | rfl | rfl | rfl | rfl | rfl | rfl | rfl | rfl | rfl <;> rfl
end Go.Recs

/- What the reach says of a text that opens a record, over any program. -/
namespace Go.Recs
open Go.ChangeShapes Go.WideShapes Go.RowKit Go.Deep
set_option linter.unusedVariables false
theorem first_sized {H : Type} {enc : TypeId × Value → H} {P : Program} {W : World} {base : Nat} {spare : Nat → Bool} {held : Bool} {T : TypeId} {cs : Array Value} {d : DataW H} {p : List MemPlace} {fs : Array Field} {f : Field} {s : ByteArray}
    {ts : List TypeId} {ds : List (DataW H)} {j : Nat}
    (h : (DataW.weightsEach P ts ds).all (· ≤ reachBytes) = true) (ht : ts[j]? = some T) (hd : ds[j]? = some d)
    (hT : DataW.Trod enc P W base spare held T (.agg cs) d p) (hu : P.underlying T = some (.struct fs)) (hf : fs[0]? = some f) (ho : f.offset = 0) (hs : P.underlying f.type = some .string) (hc : P.cellsOf f.type = 1) (hcs : cs[0]? = some (.string s)) :
    s.size ≤ 140737488351232 := by
  obtain ⟨fuel, hx⟩ := hT
  obtain ⟨xs, n, _, hxd, _, hxl, hfl⟩ := DataW.trod_struct hu hx
  have h0 := hfl 0 f hf
  have hpos : 0 < xs.length := by
    rw [hxl]
    rcases Nat.eq_zero_or_pos fs.size with e | e
    · rw [Array.getElem?_eq_none (by omega)] at hf; cases hf
    · exact e
  rw [List.getElem?_eq_getElem hpos] at h0
  obtain ⟨t, ht0, hx0, _⟩ := DataW.trod_string hs h0
  rw [ho, hc, List.drop_zero] at ht0
  have ets : t = s := by
    have e1 : (Value.agg cs).cells.toList.take 1 = [Value.string t] := ht0
    have e2 : (Value.agg cs).cells.toList[0]? = some (Value.string s) := by simpa [Value.cells] using hcs
    cases hl : (Value.agg cs).cells.toList with
    | nil => rw [hl] at e2; cases e2
    | cons a r => rw [hl] at e1 e2; simp at e1 e2; rw [e1] at e2; injection e2
  subst ets
  injection hxd with hd1 _
  have hw : t.data.toList.length ∈ d.weights P T := by
    rw [hd1]
    simp only [DataW.weights, hu]
    have hm := DataW.weights_mem_each (P := P) (ts := fs.toList.map (·.type)) (ds := xs.map (·.1)) (j := 0) (t := f.type) (d := xs[0].1) (by rw [List.getElem?_map, Array.getElem?_toList, hf]; rfl) (by rw [List.getElem?_map, List.getElem?_eq_getElem hpos]; rfl) t.data.toList.length
    apply hm
    rw [hx0]
    simp [DataW.weights]
  have := List.all_eq_true.1 h _ (DataW.weights_mem_each ht hd _ hw)
  have e : t.data.toList.length = t.size := Array.length_toList
  rw [e] at this
  have hr : reachBytes = 140737488351232 := by decide
  rw [← hr]
  simpa using this
end Go.Recs

/- A law's arguments: products and series, by value and in slices. -/
namespace Go.Proofs.Ytagmknahmkniaab
open Go.ChangeShapes Go.WideShapes Go.ChangeAt Go.RowKit Go.Recs
set_option linter.unusedVariables false
set_option maxRecDepth 100000

theorem prod_leafs : leafs Try.prog 2 58 = some prodL := by kernel_rfl
theorem ser_leafs : leafs Try.prog 2 35 = some serL := by kernel_rfl
theorem open_prodT {H : Type} {enc : TypeId × Value → H} {W : World} {base b0 : Nat} {spare : Nat → Bool} {held : Bool} {r : Reach} {v : Value} {d : DataW H} {p : List MemPlace}
    (hv : Value.okWide Try.prog W r b0 25 v) (h : DataW.Trod enc Try.prog W base spare held 25 v d p) :
    ∃ A cap, ∃ l : List QM.Prod, v = .slice A l.length cap ∧ (Prods W A l ∧ l.length ≤ cap) ∧ True := by
  obtain ⟨A, cap, rows, rfl, hR, hk, hc⟩ := open_recs (n := 2) (sz := 7) Try.underlying25 prod_leafs (by kernel_rfl) rfl (by omega) hv h
  obtain ⟨l, rfl, hq⟩ := typed (ls := prodL) prodV _ prod_row rows hk
  rw [List.length_map] at hc ⊢
  exact ⟨A, cap, l, rfl, ⟨⟨hR, hq⟩, hc⟩, trivial⟩
theorem open_prodV {H : Type} {enc : TypeId × Value → H} {W : World} {base b0 : Nat} {spare : Nat → Bool} {held : Bool} {r : Reach} {v : Value} {d : DataW H} {p : List MemPlace}
    (hv : Value.okWide Try.prog W r b0 58 v) (h : DataW.Trod enc Try.prog W base spare held 58 v d p) :
    ∃ x : QM.Prod, v = .agg #[.string x.name, .int .i64 x.cur, .int .i64 x.mult, .int .i64 x.tick, .int .i64 x.low, .int .i64 x.high, .bool x.phys] ∧ prodQ x := by
  obtain ⟨cs, rfl, hk⟩ := open_rec (n := 2) Try.underlying58 prod_leafs (by kernel_rfl) hv h
  obtain ⟨x, rfl, hq⟩ := prod_row cs hk
  exact ⟨x, rfl, hq⟩
theorem open_serV {H : Type} {enc : TypeId × Value → H} {W : World} {base b0 : Nat} {spare : Nat → Bool} {held : Bool} {r : Reach} {v : Value} {d : DataW H} {p : List MemPlace}
    (hv : Value.okWide Try.prog W r b0 35 v) (h : DataW.Trod enc Try.prog W base spare held 35 v d p) :
    ∃ x : EM.Ser, v = .agg #[.string x.prod, .int .i64 x.kind, .int .i64 x.expiry, .int .i64 x.strike] ∧ serQ x := by
  obtain ⟨cs, rfl, hk⟩ := open_rec (n := 2) Try.underlying35 ser_leafs (by kernel_rfl) hv h
  obtain ⟨x, rfl, hq⟩ := ser_row cs hk
  exact ⟨x, rfl, hq⟩
theorem prod_sized {H : Type} {enc : TypeId × Value → H} {W : World} {base : Nat} {spare : Nat → Bool} {held : Bool} {x : QM.Prod} {d : DataW H} {p : List MemPlace} {ts : List TypeId} {ds : List (DataW H)} {j : Nat}
    (h : (DataW.weightsEach Try.prog ts ds).all (· ≤ reachBytes) = true) (ht : ts[j]? = some 58) (hd : ds[j]? = some d)
    (hT : DataW.Trod enc Try.prog W base spare held 58 (.agg #[.string x.name, .int .i64 x.cur, .int .i64 x.mult, .int .i64 x.tick, .int .i64 x.low, .int .i64 x.high, .bool x.phys]) d p) : x.name.size ≤ 140737488351232 :=
  first_sized (cs := #[.string x.name, .int .i64 x.cur, .int .i64 x.mult, .int .i64 x.tick, .int .i64 x.low, .int .i64 x.high, .bool x.phys]) h ht hd hT Try.underlying58 rfl rfl Try.underlying9 (by kernel_rfl) rfl
theorem ser_sized {H : Type} {enc : TypeId × Value → H} {W : World} {base : Nat} {spare : Nat → Bool} {held : Bool} {x : EM.Ser} {d : DataW H} {p : List MemPlace} {ts : List TypeId} {ds : List (DataW H)} {j : Nat}
    (h : (DataW.weightsEach Try.prog ts ds).all (· ≤ reachBytes) = true) (ht : ts[j]? = some 35) (hd : ds[j]? = some d)
    (hT : DataW.Trod enc Try.prog W base spare held 35 (.agg #[.string x.prod, .int .i64 x.kind, .int .i64 x.expiry, .int .i64 x.strike]) d p) : x.prod.size ≤ 140737488351232 :=
  first_sized (cs := #[.string x.prod, .int .i64 x.kind, .int .i64 x.expiry, .int .i64 x.strike]) h ht hd hT Try.underlying35 rfl rfl Try.underlying9 (by kernel_rfl) rfl
end Go.Proofs.Ytagmknahmkniaab

/- A law's arguments: trades, legs, accounts' names, a product with one of its series. -/
namespace Go.Proofs.Ytagmknahmkniaab
open Go.ChangeShapes Go.WideShapes Go.ChangeAt Go.RowKit Go.Recs
set_option linter.unusedVariables false
set_option maxRecDepth 100000
theorem trd_leafs : leafs Try.prog 3 69 = some trdL := by kernel_rfl
theorem leg_leafs : leafs Try.prog 3 37 = some legL := by kernel_rfl
theorem open_trdT {H : Type} {enc : TypeId × Value → H} {W : World} {base b0 : Nat} {spare : Nat → Bool} {held : Bool} {r : Reach} {v : Value} {d : DataW H} {p : List MemPlace}
    (hv : Value.okWide Try.prog W r b0 59 v) (h : DataW.Trod enc Try.prog W base spare held 59 v d p) :
    ∃ A cap, ∃ l : List TM.Trd, v = .slice A l.length cap ∧ (Trds W A l ∧ l.length ≤ cap) ∧ True := by
  obtain ⟨A, cap, rows, rfl, hR, hk, hc⟩ := open_recs (n := 3) (sz := 13) Try.underlying59 trd_leafs (by kernel_rfl) rfl (by omega) hv h
  obtain ⟨l, rfl, hq⟩ := typed (ls := trdL) trdV _ trd_row rows hk
  rw [List.length_map] at hc ⊢
  exact ⟨A, cap, l, rfl, ⟨⟨hR, hq⟩, hc⟩, trivial⟩
theorem open_legT {H : Type} {enc : TypeId × Value → H} {W : World} {base b0 : Nat} {spare : Nat → Bool} {held : Bool} {r : Reach} {v : Value} {d : DataW H} {p : List MemPlace}
    (hv : Value.okWide Try.prog W r b0 27 v) (h : DataW.Trod enc Try.prog W base spare held 27 v d p) :
    ∃ A cap, ∃ l : List NM.Leg, v = .slice A l.length cap ∧ (Legs W A l ∧ l.length ≤ cap) ∧ True := by
  obtain ⟨A, cap, rows, rfl, hR, hk, hc⟩ := open_recs (n := 3) (sz := 9) Try.underlying27 leg_leafs (by kernel_rfl) rfl (by omega) hv h
  obtain ⟨l, rfl, hq⟩ := typed (ls := legL) legV _ leg_row rows hk
  rw [List.length_map] at hc ⊢
  exact ⟨A, cap, l, rfl, ⟨⟨hR, hq⟩, hc⟩, trivial⟩
theorem open_trdV {H : Type} {enc : TypeId × Value → H} {W : World} {base b0 : Nat} {spare : Nat → Bool} {held : Bool} {r : Reach} {v : Value} {d : DataW H} {p : List MemPlace}
    (hv : Value.okWide Try.prog W r b0 69 v) (h : DataW.Trod enc Try.prog W base spare held 69 v d p) :
    ∃ t : TM.Trd, v = .agg #[.int .i64 t.id, .int .i64 t.day, .int .i64 t.time, .string t.ser.prod, .int .i64 t.ser.kind, .int .i64 t.ser.expiry, .int .i64 t.ser.strike, .int .i64 t.qty, .int .i64 t.price, .string t.bm, .string t.bn, .string t.sm, .string t.sn] ∧ trdQ t := by
  obtain ⟨cs, rfl, hk⟩ := open_rec (n := 3) Try.underlying69 trd_leafs (by kernel_rfl) hv h
  obtain ⟨x, rfl, hq⟩ := trd_row cs hk
  exact ⟨x, rfl, hq⟩
theorem open_legV {H : Type} {enc : TypeId × Value → H} {W : World} {base b0 : Nat} {spare : Nat → Bool} {held : Bool} {r : Reach} {v : Value} {d : DataW H} {p : List MemPlace}
    (hv : Value.okWide Try.prog W r b0 37 v) (h : DataW.Trod enc Try.prog W base spare held 37 v d p) :
    ∃ x : NM.Leg, v = .agg #[.string x.am, .string x.an, .string x.ser.prod, .int .i64 x.ser.kind, .int .i64 x.ser.expiry, .int .i64 x.ser.strike, .int .i64 x.qty, .int .i64 x.price, .int .i64 x.trade] ∧ legQ x := by
  obtain ⟨cs, rfl, hk⟩ := open_rec (n := 3) Try.underlying37 leg_leafs (by kernel_rfl) hv h
  obtain ⟨x, rfl, hq⟩ := leg_row cs hk
  exact ⟨x, rfl, hq⟩
def kL : List Leaf := [.str, .str]
theorem k_leafs : leafs Try.prog 2 32 = some kL := by kernel_rfl
theorem open_kV {H : Type} {enc : TypeId × Value → H} {W : World} {base b0 : Nat} {spare : Nat → Bool} {held : Bool} {r : Reach} {v : Value} {d : DataW H} {p : List MemPlace}
    (hv : Value.okWide Try.prog W r b0 32 v) (h : DataW.Trod enc Try.prog W base spare held 32 v d p) :
    ∃ x : ByteArray × ByteArray, v = .agg #[.string x.1, .string x.2] ∧ x.1.size ≤ maxLen ∧ x.2.size ≤ maxLen := by
  obtain ⟨cs, rfl, hk⟩ := open_rec (n := 2) Try.underlying32 k_leafs (by kernel_rfl) hv h
  obtain ⟨c0, r0, rfl, ⟨s0, rfl, h0⟩, g0⟩ := okAll_cons hk
  obtain ⟨c1, r1, rfl, ⟨s1, rfl, h1⟩, g1⟩ := okAll_cons g0
  rw [okAll_nil g1]
  exact ⟨(s0, s1), rfl, h0, h1⟩
end Go.Proofs.Ytagmknahmkniaab

/- Parts of a trade in memory, over any program. -/
namespace Go.Recs
open Go.RowKit
set_option linter.unusedVariables false
def partV (x : GM.Part) : List Value := [.string x.am, .string x.an, .int .i64 x.qty]
def partQ (x : GM.Part) : Prop := x.am.size ≤ maxLen ∧ x.an.size ≤ maxLen ∧ i64 x.qty
def partL : List Leaf := [.str, .str, .int .i64]
theorem part_row (r : List Value) (h : okAll partL r) : ∃ x : GM.Part, r = partV x ∧ partQ x := by
  obtain ⟨c0, r0, rfl, ⟨s0, rfl, h0⟩, g0⟩ := okAll_cons h
  obtain ⟨c1, r1, rfl, ⟨s1, rfl, h1⟩, g1⟩ := okAll_cons g0
  obtain ⟨c2, r2, rfl, ⟨n2, rfl, h2⟩, g2⟩ := okAll_cons g1
  rw [okAll_nil g2]
  exact ⟨⟨s0, s1, n2⟩, rfl, h0, h1, bounds_i64 h2⟩
abbrev Parts := TR partV partQ 3
theorem parts_get {w : World} {A : Option Addr} {l : List GM.Part} (h : Parts w A l) {k : Nat} (hk : k < l.length) :
    ∃ b off, ∃ x : GM.Part, A = some ⟨b, off, none⟩ ∧ b < w.heap.size ∧ Hid (GM.pAt l k = x) ∧ partQ x ∧ w.cell? ⟨b, off + k * 3, none⟩ = some (.string x.am) ∧ w.cell? ⟨b, off + k * 3 + 1, none⟩ = some (.string x.an) ∧ w.cell? ⟨b, off + k * 3 + 2, none⟩ = some (.int .i64 x.qty) := by
  obtain ⟨b, off, rfl, hb, hq, hc⟩ := h.at_ hk
  exact ⟨b, off, l[k], rfl, hb, Lib.hid (GM.pAt_get hk), hq, hc 0 (by omega), hc 1 (by omega), hc 2 (by omega)⟩
end Go.Recs

/- A law's arguments: the parts of a division. -/
namespace Go.Proofs.Ytagmknahmkniaab
open Go.ChangeShapes Go.WideShapes Go.ChangeAt Go.RowKit Go.Recs
set_option linter.unusedVariables false
set_option maxRecDepth 100000
theorem part_leafs : leafs Try.prog 3 71 = some partL := by kernel_rfl
theorem open_partT {H : Type} {enc : TypeId × Value → H} {W : World} {base b0 : Nat} {spare : Nat → Bool} {held : Bool} {r : Reach} {v : Value} {d : DataW H} {p : List MemPlace}
    (hv : Value.okWide Try.prog W r b0 60 v) (h : DataW.Trod enc Try.prog W base spare held 60 v d p) :
    ∃ A cap, ∃ l : List GM.Part, v = .slice A l.length cap ∧ (Parts W A l ∧ l.length ≤ cap) ∧ True := by
  obtain ⟨A, cap, rows, rfl, hR, hk, hc⟩ := open_recs (n := 3) (sz := 3) Try.underlying60 part_leafs (by kernel_rfl) rfl (by omega) hv h
  obtain ⟨l, rfl, hq⟩ := typed (ls := partL) partV _ part_row rows hk
  rw [List.length_map] at hc ⊢
  exact ⟨A, cap, l, rfl, ⟨⟨hR, hq⟩, hc⟩, trivial⟩
end Go.Proofs.Ytagmknahmkniaab

/- Members and their accounts in memory, over any program; rows of records with slices inside. -/
namespace Go.Recs
open Go.ChangeShapes Go.WideShapes Go.RowKit Go.Deep
set_option linter.unusedVariables false
section
variable {H : Type} {enc : TypeId × Value → H} {P : Program} {w : World} {base : Nat} {spare : Nat → Bool} {held : Bool}
/-- a slice whose records are read by R -/
theorem open_rows {t e : TypeId} {sz : Nat} {R : List Value → DataW H → Prop} {fuel : Nat} {cs : List Value} {x : DataW H × List MemPlace} (ht : P.underlying t = some (.slice e)) (hsz : P.cellsOf e = sz) (h0 : 0 < sz)
    (hR : ∀ k cs y, cs.length = sz → DataW.trod enc P w base spare held k e cs = some y → R cs y.1)
    (hf : DataW.trod enc P w base spare held fuel t cs = some x) :
    ∃ A cap rows, cs = [.slice A (List.length rows) cap] ∧ Recs w A sz rows ∧ rows.length ≤ cap ∧ ∃ ds sp, (x.1 = .nil ∧ rows = [] ∨ x.1 = .slice ds sp) ∧ ds.length = rows.length ∧ ∀ i, i < rows.length → R (rows.getD i []) (ds.getD i .nil) := by
  rcases open_slice ht hf with ⟨rfl, rfl⟩ | ⟨a, len, cap, m, k, D, Pl, rfl, hb, hl, hm, hmm, rfl, hrow⟩
  · exact ⟨none, 0, [], rfl, Recs.nil _ _ _, by simp, [], [], .inl ⟨rfl, rfl⟩, rfl, fun i hi => by simp at hi⟩
  · have hlm : len ≤ m := by rw [hmm]; split <;> omega
    rw [hsz] at hrow
    obtain ⟨Q, hQ⟩ := choose_lt (α := List Value) (n := len) (p := fun i cs => w.cells? base (a.add (i * sz)) sz = some cs ∧ R cs (D i)) (fun i hi => by
      obtain ⟨cs', h1, h2⟩ := hrow i (by omega)
      obtain ⟨_, hlen, _⟩ := World.cells?_some h1
      exact ⟨cs', h1, hR k cs' _ (by omega) h2⟩)
    have hlen : ((List.range len).map Q).length = len := by simp
    refine ⟨some a, cap, (List.range len).map Q, by rw [hlen], ?_, by rw [hlen]; exact hl, _, _, .inr rfl, by simp, ?_⟩
    · refine ⟨by rw [hlen]; omega, ?_, ?_⟩
      · intro q hq
        obtain ⟨i, hi, rfl⟩ := List.mem_map.1 hq
        obtain ⟨_, hli, _⟩ := World.cells?_some (hQ i (List.mem_range.1 hi)).1
        exact hli
      · rcases Nat.eq_zero_or_pos len with hz | hz
        · subst hz; exact .inl (by simp)
        · obtain ⟨b, off, spot⟩ := a
          obtain ⟨_, hl0, hc0⟩ := World.cells?_some (hQ 0 hz).1
          have hcc := hc0 0 (by omega)
          rw [List.getElem?_eq_getElem (show 0 < (Q 0).length by omega)] at hcc
          have hspot : spot = none := by simpa [Addr.add] using World.cell?_spot hcc
          subst hspot
          rw [Deep.add_add, add_at] at hcc
          refine .inr ⟨b, off, rfl, World.block_lt_of_cell? _ _ hcc, fun i j hi hj => ?_⟩
          have hi' : i < len := by rw [hlen] at hi; exact hi
          obtain ⟨_, hli, hci⟩ := World.cells?_some (hQ i hi').1
          have := hci j (by omega)
          rw [Deep.add_add, add_at] at this
          rw [this]
          simp [List.getD, hi']
    · intro i hi
      rw [hlen] at hi
      simpa [List.getD, hi] using (hQ i hi).2
end

def accV (a : MM.Ac) : List Value := [.string a.name, .int .i64 a.kind]
def accQ (a : MM.Ac) : Prop := a.name.size ≤ maxLen ∧ i64 a.kind
def accL : List Leaf := [.str, .int .i64]
theorem acc_row (r : List Value) (h : okAll accL r) : ∃ a : MM.Ac, r = accV a ∧ accQ a := by
  obtain ⟨c0, r0, rfl, ⟨s, rfl, hs⟩, g0⟩ := okAll_cons h
  obtain ⟨c1, r1, rfl, ⟨n1, rfl, h1⟩, g1⟩ := okAll_cons g0
  rw [okAll_nil g1]
  exact ⟨⟨s, n1⟩, rfl, hs, bounds_i64 h1⟩
abbrev Accs := TR accV accQ 2
def aAt (l : List MM.Ac) (k : Nat) : MM.Ac := l.getD k ⟨MM.nil, 0⟩
theorem aAt_get {l : List MM.Ac} {k : Nat} (h : k < l.length) : aAt l k = l[k] := by simp [aAt, List.getD, h]
theorem accs_get {w : World} {A : Option Addr} {l : List MM.Ac} (h : Accs w A l) {k : Nat} (hk : k < l.length) :
    ∃ b off, ∃ a : MM.Ac, A = some ⟨b, off, none⟩ ∧ b < w.heap.size ∧ Hid (aAt l k = a) ∧ accQ a ∧ w.cell? ⟨b, off + k * 2, none⟩ = some (.string a.name) ∧ w.cell? ⟨b, off + k * 2 + 1, none⟩ = some (.int .i64 a.kind) := by
  obtain ⟨b, off, rfl, hb, hq, hc⟩ := h.at_ hk
  exact ⟨b, off, l[k], rfl, hb, Lib.hid (aAt_get hk), hq, hc 0 (by omega), hc 1 (by omega)⟩

/-- a member's cells: where its accounts lie -/
structure MRow where
  m : MM.Mem
  A : Option Addr
  cap : Nat
def mrowV (r : MRow) : List Value := [.string r.m.name, .int .i64 r.m.status, .slice r.A r.m.accs.length r.cap]
def mrowQ (w : World) (r : MRow) : Prop := r.m.name.size ≤ maxLen ∧ i64 r.m.status ∧ Accs w r.A r.m.accs ∧ r.m.accs.length ≤ r.cap
theorem mrowQ.below {w w' : World} {r : MRow} (h : mrowQ w r) (hb : Below w.heap.size w w') : mrowQ w' r := ⟨h.1, h.2.1, h.2.2.1.below hb, h.2.2.2⟩
def MRows (w : World) (A : Option Addr) (rows : List MRow) : Prop := Recs w A 3 (rows.map mrowV) ∧ ∀ r ∈ rows, mrowQ w r
theorem MRows.below {w w' : World} {A : Option Addr} {rows : List MRow} (h : MRows w A rows) (hb : Below w.heap.size w w') : MRows w' A rows := ⟨h.1.below hb, fun r hr => (h.2 r hr).below hb⟩
/-- the slice at A holds the members l -/
def Mems (w : World) (A : Option Addr) (l : List MM.Mem) : Prop := ∃ rows : List MRow, rows.map MRow.m = l ∧ MRows w A rows
section
variable {w w' : World} {A : Option Addr} {l : List MM.Mem}
theorem Mems.below (h : Mems w A l) (hb : Below w.heap.size w w') : Mems w' A l := by
  obtain ⟨rows, e, hr⟩ := h
  exact ⟨rows, e, hr.below hb⟩
theorem Mems.nil (w : World) (A : Option Addr) : Mems w A [] := ⟨[], rfl, Recs.nil _ _ _, by simp⟩
theorem Mems.drewN (h : Mems w A l) (n : Nat) : Mems (w.drewN n) A l := h
theorem Mems.len (h : Mems w A l) : l.length ≤ 9223372036854775807 := by
  obtain ⟨rows, rfl, hr, _⟩ := h
  have := hr.len
  rw [List.length_map] at this ⊢
  exact this
/-- member k: where it lies, and its cells -/
theorem Mems.get (h : Mems w A l) {k : Nat} (hk : k < l.length) :
    ∃ b off A' cap', ∃ m : MM.Mem, A = some ⟨b, off, none⟩ ∧ b < w.heap.size ∧ Hid (MM.mAt l k = m) ∧ m.name.size ≤ maxLen ∧ i64 m.status ∧ Accs w A' m.accs ∧ m.accs.length ≤ cap' ∧
      w.cell? ⟨b, off + k * 3, none⟩ = some (.string m.name) ∧ w.cell? ⟨b, off + k * 3 + 1, none⟩ = some (.int .i64 m.status) ∧ w.cell? ⟨b, off + k * 3 + 2, none⟩ = some (.slice A' m.accs.length cap') := by
  obtain ⟨rows, rfl, hr, hq⟩ := h
  rw [List.length_map] at hk
  obtain ⟨b, off, rfl, hb, hc⟩ := hr.get (k := k) (by simpa using hk)
  have e : (rows.map mrowV).getD k [] = mrowV rows[k] := by simp [List.getD, hk]
  rw [e] at hc
  obtain ⟨q1, q2, q3, q4⟩ := hq rows[k] (List.getElem_mem hk)
  have e2 : MM.mAt (rows.map MRow.m) k = rows[k].m := by rw [MM.mAt_get (by simpa using hk)]; simp
  refine ⟨b, off, rows[k].A, rows[k].cap, rows[k].m, rfl, hb, Lib.hid e2, q1, q2, q3, q4, hc 0 (by omega), ?_, ?_⟩
  · rw [Nat.add_assoc]; exact hc 1 (by omega)
  · rw [Nat.add_assoc]; exact hc 2 (by omega)
end

/-- 's = append(l[:i:i], x)': the row is full, so a new one is made -/
theorem wpList_growR {P : Program} {ops : Array Oper} {rest : List Oper} {o : Oper} {a : Act} {Q : Exit → Act → World → Prop} (w : World) (x : List Value) (hx1 : ∀ u ∈ x, u.oneCell' = true) (rows : List (List Value)) (s y : Operand) (ts t : TypeId) (sz bytes : Nat) (z : Value)
    (hu : P.underlying ts = some (.slice t)) (hinfo : (P.info? t).map (fun i => (i.zero, i.size, i.bytes)) = some (some z, sz, bytes)) (hz : z.cells.size = sz) (h0 : 0 < sz) (hxl : x.length = sz)
    (hgd : o.guard = none) (ho : o.op = .call { callee := .builtin .append, args := #[s, y], argTypes := #[ts, ts] })
    (A : Option Addr) (n cap : Nat) (hn : n = rows.length) (hcap : cap = n) (hs : a.eval s = .slice A n cap) (hA : Recs w A sz rows) (hx : a.eval y = .slice (some ⟨w.heap.size, 0, none⟩) 1 1) (hl : (rows.length + 1) * bytes ≤ 140737488355328) (hm : rows.length + 1 ≤ maxLen)
    (h : ∀ v' w', OwnR w' w.heap.size t sz v' (rows ++ [x]) → Below w.heap.size w w' → wpList P ops Q rest (a.put o.dst v') w') :
    wpList P ops Q (o :: rest) a (w.alloc (.cells x.toArray t)) := by
  subst hn hcap
  obtain ⟨i0, hi, hz0, hz1, hz2⟩ := info_parts hinfo
  have hb0 : Below w.heap.size w (w.alloc (.cells x.toArray t)) := (Below.refl _ _).alloc (Nat.le_refl _) _
  have hA2 := hA.below hb0
  refine wpList_append_grows (w.alloc (.cells x.toArray t)) hgd s y ts ho t i0 z sz bytes hu hi hz0 hz1 hz2 hz h0 A rows.length rows.length rows.flatten hs ?_ (flat_len hA.2.1) ?_ ⟨w.heap.size, 0, none⟩ 1 1 x hx (by omega) ?_ hx1 (by omega) hm hl ?_
  · intro e
    rcases hA.2.2 with g | ⟨b, off, g, _⟩
    · rw [g]; simp
    · rw [e] at g; cases g
  · rintro b rfl j u hj
    rcases hA2.2.2 with e | ⟨b', off', e, hb, hcell⟩
    · subst e; simp at hj
    · injection e with e
      subst e
      have hlt : j < rows.flatten.length := by
        rcases Nat.lt_or_ge j rows.flatten.length with h | h
        · exact h
        · rw [List.getElem?_eq_none h] at hj; cases hj
      rw [flat_len hA.2.1] at hlt
      have hi' : j / sz < rows.length := Nat.div_lt_of_lt_mul (by rw [Nat.mul_comm]; exact hlt)
      have hj' : j % sz < sz := Nat.mod_lt _ h0
      have ej : j / sz * sz + j % sz = j := by rw [Nat.mul_comm]; exact Nat.div_add_mod j sz
      have e := flat_at hA.2.1 (j / sz) (j % sz) hi' hj'
      have e2 := hcell (j / sz) (j % sz) hi' hj'
      rw [ej] at e e2
      rw [add_at, e2, ← e, hj]
  · intro j u hj
    rw [add_at, Nat.zero_add]
    have hlt : j < x.length := by
      rcases Nat.lt_or_ge j x.length with g | g
      · exact g
      · rw [List.getElem?_eq_none g] at hj; cases hj
    have e : x.toArray[j]? = some u := by simpa using hj
    simp [e]
  · intro v' w' h1 h2
    have hr : ∀ r ∈ rows ++ [x], r.length = sz := by
      intro r hr
      rcases List.mem_append.1 hr with hr | hr
      · exact hA.2.1 r hr
      · rw [List.mem_singleton.1 hr]; exact hxl
    have ho : OwnR w' (w.heap.size + 1) t sz v' (rows ++ [x]) := ⟨hr, by simpa using h1⟩
    refine h v' w' (ho.lower (by omega)) (hb0.trans ((Below.refl _ _).grown h2 (by simp) (fun k hk => by cases hk)))

/-- an own row of records: one cell of one record written -/
theorem flat_set {sz : Nat} (h0 : 0 < sz) : ∀ {rows : List (List Value)} (i j : Nat) (u : Value), (∀ r ∈ rows, r.length = sz) → i < rows.length → j < sz → rows.flatten.set (i * sz + j) u = (rows.set i ((rows.getD i []).set j u)).flatten := by
  intro rows
  induction rows with
  | nil => intro i j u _ hi; simp at hi
  | cons r rows ih =>
    intro i j u hr hi hj
    have hl := hr r (by simp)
    cases i with
    | zero =>
      rw [Nat.zero_mul, Nat.zero_add, List.flatten_cons, List.set_append_left _ _ (by omega)]
      simp [List.getD]
    | succ i =>
      rw [Nat.succ_mul, List.flatten_cons, List.set_append_right _ _ (by omega), show i * sz + sz + j - r.length = i * sz + j by omega,
        ih i j u (fun q hq => hr q (by simp [hq])) (by simpa using hi) hj]
      simp [List.getD]
theorem OwnR.set_ {w : World} {B g n cap : Nat} {t : TypeId} {sz : Nat} {rows : List (List Value)} (h : OwnR w B t sz (.slice (some ⟨g, 0, none⟩) n cap) rows) (h0 : 0 < sz) {i j : Nat} (hi : i < rows.length) (hj : j < sz) (u : Value) :
    OwnR (w.setCell ⟨g, i * sz + j, none⟩ u) B t sz (.slice (some ⟨g, 0, none⟩) n cap) (rows.set i ((rows.getD i []).set j u)) := by
  have hn : n = rows.length := by
    rcases h.2.2 with ⟨h0, _⟩ | ⟨g', cap', cur, h0, _⟩
    · cases h0
    · injection h0
  subst hn
  have := (World.ownsRow.stored h.2 (i * sz + j) u).1
  refine ⟨?_, ?_⟩
  · intro r hr
    rcases List.mem_or_eq_of_mem_set hr with hr | rfl
    · exact h.1 r hr
    · rw [List.length_set]
      have : rows.getD i [] ∈ rows := by simp [List.getD, hi]
      exact h.1 _ this
  · rw [List.length_set, ← flat_set h0 i j u h.1 hi hj]
    exact this
theorem OwnR.frozen {w : World} {B g n cap : Nat} {t : TypeId} {sz : Nat} {rows : List (List Value)} (h : OwnR w B t sz (.slice (some ⟨g, 0, none⟩) n cap) rows) (i : Nat) : w.frozen? ⟨g, i, none⟩ = false := by
  have hn : n = rows.length := by
    rcases h.2.2 with ⟨h0, _⟩ | ⟨g', cap', cur, h0, _⟩
    · cases h0
    · injection h0
  subst hn
  exact World.ownsRow.frozenAt h.2 i
theorem OwnR.far {w : World} {B g n cap : Nat} {t : TypeId} {sz : Nat} {rows : List (List Value)} (h : OwnR w B t sz (.slice (some ⟨g, 0, none⟩) n cap) rows) {p : Addr} (hp : g ≠ p.block) (u : Value) :
    OwnR (w.setCell p u) B t sz (.slice (some ⟨g, 0, none⟩) n cap) rows := by
  refine ⟨h.1, h.2.1, ?_⟩
  rcases h.2.2 with ⟨h0, _⟩ | ⟨g', cap', cur, h0, hB, hh, r⟩
  · cases h0
  · refine .inr ⟨g', cap', cur, h0, hB, ?_, r⟩
    have : g' = g := by injection h0 with h1; injection h1 with h1; injection h1 with h1; exact h1.symm
    subst this
    rw [Below.heap_setCell w p u _ hp]; exact hh
end Go.Recs
