/- A law's arguments: trades, legs, accounts' names, a product with one of its series. -/
import Derived.Test.YtafdjiilmogcjabBun4
import Derived.Test.YtafdjiilmogcjabBun5
import Derived.Test.YtafdjiilmogcjabBun11
import Derived.ProofKit
import Derived.OpenShut
import Derived.ShutString
import Derived.ChangeOld
namespace Go.Proofs.Ytafdjiilmogcjab
open Go.ChangeShapes Go.WideShapes Go.ChangeAt Go.RowKit Go.Recs
set_option linter.unusedVariables false
set_option maxRecDepth 100000
theorem trd_leafs : leafs Try.prog 3 27 = some trdL := by kernel_rfl
theorem open_trdT {H : Type} {enc : TypeId × Value → H} {W : World} {base b0 : Nat} {spare : Nat → Bool} {held : Bool} {r : Reach} {v : Value} {d : DataW H} {p : List MemPlace}
    (hv : Value.okWide Try.prog W r b0 31 v) (h : DataW.Trod enc Try.prog W base spare held 31 v d p) :
    ∃ A cap, ∃ l : List TM.Trd, v = .slice A l.length cap ∧ (Trds W A l ∧ l.length ≤ cap) ∧ True := by
  obtain ⟨A, cap, rows, rfl, hR, hk, hc⟩ := open_recs (n := 3) (sz := 13) Try.underlying31 trd_leafs (by kernel_rfl) rfl (by omega) hv h
  obtain ⟨l, rfl, hq⟩ := typed (ls := trdL) trdV _ trd_row rows hk
  rw [List.length_map] at hc ⊢
  exact ⟨A, cap, l, rfl, ⟨⟨hR, hq⟩, hc⟩, trivial⟩
theorem open_trdV {H : Type} {enc : TypeId × Value → H} {W : World} {base b0 : Nat} {spare : Nat → Bool} {held : Bool} {r : Reach} {v : Value} {d : DataW H} {p : List MemPlace}
    (hv : Value.okWide Try.prog W r b0 27 v) (h : DataW.Trod enc Try.prog W base spare held 27 v d p) :
    ∃ t : TM.Trd, v = .agg #[.int .i64 t.id, .int .i64 t.day, .int .i64 t.time, .string t.ser.prod, .int .i64 t.ser.kind, .int .i64 t.ser.expiry, .int .i64 t.ser.strike, .int .i64 t.qty, .int .i64 t.price, .string t.bm, .string t.bn, .string t.sm, .string t.sn] ∧ trdQ t := by
  obtain ⟨cs, rfl, hk⟩ := open_rec (n := 3) Try.underlying27 trd_leafs (by kernel_rfl) hv h
  obtain ⟨x, rfl, hq⟩ := trd_row cs hk
  exact ⟨x, rfl, hq⟩
def kL : List Leaf := [.str, .str]
theorem k_leafs : leafs Try.prog 2 25 = some kL := by kernel_rfl
theorem open_kV {H : Type} {enc : TypeId × Value → H} {W : World} {base b0 : Nat} {spare : Nat → Bool} {held : Bool} {r : Reach} {v : Value} {d : DataW H} {p : List MemPlace}
    (hv : Value.okWide Try.prog W r b0 25 v) (h : DataW.Trod enc Try.prog W base spare held 25 v d p) :
    ∃ x : ByteArray × ByteArray, v = .agg #[.string x.1, .string x.2] ∧ x.1.size ≤ maxLen ∧ x.2.size ≤ maxLen := by
  obtain ⟨cs, rfl, hk⟩ := open_rec (n := 2) Try.underlying25 k_leafs (by kernel_rfl) hv h
  obtain ⟨c0, r0, rfl, ⟨s0, rfl, h0⟩, g0⟩ := okAll_cons hk
  obtain ⟨c1, r1, rfl, ⟨s1, rfl, h1⟩, g1⟩ := okAll_cons g0
  rw [okAll_nil g1]
  exact ⟨(s0, s1), rfl, h0, h1⟩
end Go.Proofs.Ytafdjiilmogcjab
