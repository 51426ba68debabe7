/- A law's arguments: products and series, by value and in slices. -/
import Derived.Test.YtiohainnpjikpaaBun3
import Derived.Test.YtiohainnpjikpaaBun9
import Derived.ProofKit
import Derived.OpenShut
import Derived.ShutString
import Derived.ChangeOld
namespace Go.Proofs.Ytiohainnpjikpaa
open Go.ChangeShapes Go.WideShapes Go.ChangeAt Go.RowKit Go.Recs
set_option linter.unusedVariables false
set_option maxRecDepth 100000

theorem prod_leafs : leafs Try.prog 2 24 = some prodL := by kernel_rfl
theorem open_prodT {H : Type} {enc : TypeId × Value → H} {W : World} {base b0 : Nat} {spare : Nat → Bool} {held : Bool} {r : Reach} {v : Value} {d : DataW H} {p : List MemPlace}
    (hv : Value.okWide Try.prog W r b0 22 v) (h : DataW.Trod enc Try.prog W base spare held 22 v d p) :
    ∃ A cap, ∃ l : List QM.Prod, v = .slice A l.length cap ∧ (Prods W A l ∧ l.length ≤ cap) ∧ True := by
  obtain ⟨A, cap, rows, rfl, hR, hk, hc⟩ := open_recs (n := 2) (sz := 7) Try.underlying22 prod_leafs (by kernel_rfl) rfl (by omega) hv h
  obtain ⟨l, rfl, hq⟩ := typed (ls := prodL) prodV _ prod_row rows hk
  rw [List.length_map] at hc ⊢
  exact ⟨A, cap, l, rfl, ⟨⟨hR, hq⟩, hc⟩, trivial⟩
theorem open_prodV {H : Type} {enc : TypeId × Value → H} {W : World} {base b0 : Nat} {spare : Nat → Bool} {held : Bool} {r : Reach} {v : Value} {d : DataW H} {p : List MemPlace}
    (hv : Value.okWide Try.prog W r b0 24 v) (h : DataW.Trod enc Try.prog W base spare held 24 v d p) :
    ∃ x : QM.Prod, v = .agg #[.string x.name, .int .i64 x.cur, .int .i64 x.mult, .int .i64 x.tick, .int .i64 x.low, .int .i64 x.high, .bool x.phys] ∧ prodQ x := by
  obtain ⟨cs, rfl, hk⟩ := open_rec (n := 2) Try.underlying24 prod_leafs (by kernel_rfl) hv h
  obtain ⟨x, rfl, hq⟩ := prod_row cs hk
  exact ⟨x, rfl, hq⟩
theorem prod_sized {H : Type} {enc : TypeId × Value → H} {W : World} {base : Nat} {spare : Nat → Bool} {held : Bool} {x : QM.Prod} {d : DataW H} {p : List MemPlace} {ts : List TypeId} {ds : List (DataW H)} {j : Nat}
    (h : (DataW.weightsEach Try.prog ts ds).all (· ≤ reachBytes) = true) (ht : ts[j]? = some 24) (hd : ds[j]? = some d)
    (hT : DataW.Trod enc Try.prog W base spare held 24 (.agg #[.string x.name, .int .i64 x.cur, .int .i64 x.mult, .int .i64 x.tick, .int .i64 x.low, .int .i64 x.high, .bool x.phys]) d p) : x.name.size ≤ 140737488351232 :=
  first_sized (cs := #[.string x.name, .int .i64 x.cur, .int .i64 x.mult, .int .i64 x.tick, .int .i64 x.low, .int .i64 x.high, .bool x.phys]) h ht hd hT Try.underlying24 rfl rfl Try.underlying9 (by kernel_rfl) rfl
end Go.Proofs.Ytiohainnpjikpaa
