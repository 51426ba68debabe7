/- A law's arguments: trades, legs, accounts' names, a product with one of its series. -/
import Derived.Test.YtafdjiilmogcjaaBun4
import Derived.Test.YtafdjiilmogcjaaBun5
import Derived.Test.YtafdjiilmogcjaaBun10
import Derived.ProofKit
import Derived.OpenShut
import Derived.ShutString
import Derived.ChangeOld
namespace Go.Proofs.Ytafdjiilmogcjaa
open Go.ChangeShapes Go.WideShapes Go.ChangeAt Go.RowKit Go.Recs
set_option linter.unusedVariables false
set_option maxRecDepth 100000
theorem trd_leafs : leafs Try.prog 3 45 = some trdL := by kernel_rfl
theorem leg_leafs : leafs Try.prog 3 47 = some legL := by kernel_rfl
theorem open_trdT {H : Type} {enc : TypeId × Value → H} {W : World} {base b0 : Nat} {spare : Nat → Bool} {held : Bool} {r : Reach} {v : Value} {d : DataW H} {p : List MemPlace}
    (hv : Value.okWide Try.prog W r b0 48 v) (h : DataW.Trod enc Try.prog W base spare held 48 v d p) :
    ∃ A cap, ∃ l : List TM.Trd, v = .slice A l.length cap ∧ (Trds W A l ∧ l.length ≤ cap) ∧ True := by
  obtain ⟨A, cap, rows, rfl, hR, hk, hc⟩ := open_recs (n := 3) (sz := 13) Try.underlying48 trd_leafs (by kernel_rfl) rfl (by omega) hv h
  obtain ⟨l, rfl, hq⟩ := typed (ls := trdL) trdV _ trd_row rows hk
  rw [List.length_map] at hc ⊢
  exact ⟨A, cap, l, rfl, ⟨⟨hR, hq⟩, hc⟩, trivial⟩
theorem open_legT {H : Type} {enc : TypeId × Value → H} {W : World} {base b0 : Nat} {spare : Nat → Bool} {held : Bool} {r : Reach} {v : Value} {d : DataW H} {p : List MemPlace}
    (hv : Value.okWide Try.prog W r b0 51 v) (h : DataW.Trod enc Try.prog W base spare held 51 v d p) :
    ∃ A cap, ∃ l : List NM.Leg, v = .slice A l.length cap ∧ (Legs W A l ∧ l.length ≤ cap) ∧ True := by
  obtain ⟨A, cap, rows, rfl, hR, hk, hc⟩ := open_recs (n := 3) (sz := 9) Try.underlying51 leg_leafs (by kernel_rfl) rfl (by omega) hv h
  obtain ⟨l, rfl, hq⟩ := typed (ls := legL) legV _ leg_row rows hk
  rw [List.length_map] at hc ⊢
  exact ⟨A, cap, l, rfl, ⟨⟨hR, hq⟩, hc⟩, trivial⟩
theorem open_trdV {H : Type} {enc : TypeId × Value → H} {W : World} {base b0 : Nat} {spare : Nat → Bool} {held : Bool} {r : Reach} {v : Value} {d : DataW H} {p : List MemPlace}
    (hv : Value.okWide Try.prog W r b0 45 v) (h : DataW.Trod enc Try.prog W base spare held 45 v d p) :
    ∃ t : TM.Trd, v = .agg #[.int .i64 t.id, .int .i64 t.day, .int .i64 t.time, .string t.ser.prod, .int .i64 t.ser.kind, .int .i64 t.ser.expiry, .int .i64 t.ser.strike, .int .i64 t.qty, .int .i64 t.price, .string t.bm, .string t.bn, .string t.sm, .string t.sn] ∧ trdQ t := by
  obtain ⟨cs, rfl, hk⟩ := open_rec (n := 3) Try.underlying45 trd_leafs (by kernel_rfl) hv h
  obtain ⟨x, rfl, hq⟩ := trd_row cs hk
  exact ⟨x, rfl, hq⟩
theorem open_legV {H : Type} {enc : TypeId × Value → H} {W : World} {base b0 : Nat} {spare : Nat → Bool} {held : Bool} {r : Reach} {v : Value} {d : DataW H} {p : List MemPlace}
    (hv : Value.okWide Try.prog W r b0 47 v) (h : DataW.Trod enc Try.prog W base spare held 47 v d p) :
    ∃ x : NM.Leg, v = .agg #[.string x.am, .string x.an, .string x.ser.prod, .int .i64 x.ser.kind, .int .i64 x.ser.expiry, .int .i64 x.ser.strike, .int .i64 x.qty, .int .i64 x.price, .int .i64 x.trade] ∧ legQ x := by
  obtain ⟨cs, rfl, hk⟩ := open_rec (n := 3) Try.underlying47 leg_leafs (by kernel_rfl) hv h
  obtain ⟨x, rfl, hq⟩ := leg_row cs hk
  exact ⟨x, rfl, hq⟩
def kL : List Leaf := [.str, .str]
theorem k_leafs : leafs Try.prog 2 26 = some kL := by kernel_rfl
theorem open_kV {H : Type} {enc : TypeId × Value → H} {W : World} {base b0 : Nat} {spare : Nat → Bool} {held : Bool} {r : Reach} {v : Value} {d : DataW H} {p : List MemPlace}
    (hv : Value.okWide Try.prog W r b0 26 v) (h : DataW.Trod enc Try.prog W base spare held 26 v d p) :
    ∃ x : ByteArray × ByteArray, v = .agg #[.string x.1, .string x.2] ∧ x.1.size ≤ maxLen ∧ x.2.size ≤ maxLen := by
  obtain ⟨cs, rfl, hk⟩ := open_rec (n := 2) Try.underlying26 k_leafs (by kernel_rfl) hv h
  obtain ⟨c0, r0, rfl, ⟨s0, rfl, h0⟩, g0⟩ := okAll_cons hk
  obtain ⟨c1, r1, rfl, ⟨s1, rfl, h1⟩, g1⟩ := okAll_cons g0
  rw [okAll_nil g1]
  exact ⟨(s0, s1), rfl, h0, h1⟩
theorem open_ofV {H : Type} {enc : TypeId × Value → H} {W : World} {base b0 : Nat} {spare : Nat → Bool} {held : Bool} {r : Reach} {v : Value} {d : DataW H} {p : List MemPlace}
    (hv : Value.okWide Try.prog W r b0 67 v) (h : DataW.Trod enc Try.prog W base spare held 67 v d p) :
    ∃ x : QM.Prod × EM.Ser, v = .agg #[.string x.1.name, .int .i64 x.1.cur, .int .i64 x.1.mult, .int .i64 x.1.tick, .int .i64 x.1.low, .int .i64 x.1.high, .bool x.1.phys, .string x.2.prod, .int .i64 x.2.kind, .int .i64 x.2.expiry, .int .i64 x.2.strike] ∧ prodQ x.1 ∧ serQ x.2 := by
  obtain ⟨cs, rfl, hk⟩ := open_rec (n := 3) (ls := prodL ++ serL) Try.underlying67 (by kernel_rfl) (by kernel_rfl) hv h
  obtain ⟨c0, r0, rfl, ⟨s, rfl, hs⟩, g0⟩ := okAll_cons hk
  obtain ⟨c1, r1, rfl, ⟨n1, rfl, h1⟩, g1⟩ := okAll_cons g0
  obtain ⟨c2, r2, rfl, ⟨n2, rfl, h2⟩, g2⟩ := okAll_cons g1
  obtain ⟨c3, r3, rfl, ⟨n3, rfl, h3⟩, g3⟩ := okAll_cons g2
  obtain ⟨c4, r4, rfl, ⟨n4, rfl, h4⟩, g4⟩ := okAll_cons g3
  obtain ⟨c5, r5, rfl, ⟨n5, rfl, h5⟩, g5⟩ := okAll_cons g4
  obtain ⟨c6, r6, rfl, ⟨b, rfl⟩, g6⟩ := okAll_cons g5
  obtain ⟨c7, r7, rfl, ⟨s7, rfl, h7⟩, g7⟩ := okAll_cons g6
  obtain ⟨c8, r8, rfl, ⟨n8, rfl, h8⟩, g8⟩ := okAll_cons g7
  obtain ⟨c9, r9, rfl, ⟨n9, rfl, h9⟩, g9⟩ := okAll_cons g8
  obtain ⟨c10, r10, rfl, ⟨n10, rfl, h10⟩, g10⟩ := okAll_cons g9
  rw [okAll_nil g10]
  exact ⟨(⟨s, n1, n2, n3, n4, n5, b⟩, ⟨s7, n8, n9, n10⟩), rfl, ⟨hs, bounds_i64 h1, bounds_i64 h2, bounds_i64 h3, bounds_i64 h4, bounds_i64 h5⟩, h7, bounds_i64 h8, bounds_i64 h9, bounds_i64 h10⟩
end Go.Proofs.Ytafdjiilmogcjaa
