/- Put together: OpenProd. -/
import Derived.Test.YtafdjiilmogcjaaBun3
import Derived.Test.YtafdjiilmogcjaaBun9
import Derived.Test.YtafdjiilmogcjaaBun4
import Derived.ProofKit
import Derived.OpenShut
import Derived.ShutString
import Derived.ChangeOld
/- A law's arguments: products and series, by value and in slices. -/
namespace Go.Proofs.Ytafdjiilmogcjaa
open Go.ChangeShapes Go.WideShapes Go.ChangeAt Go.RowKit Go.Recs
set_option linter.unusedVariables false
set_option maxRecDepth 100000

theorem prod_leafs : leafs Try.prog 2 65 = some prodL := by kernel_rfl
theorem ser_leafs : leafs Try.prog 2 43 = some serL := by kernel_rfl
theorem open_prodV {H : Type} {enc : TypeId × Value → H} {W : World} {base b0 : Nat} {spare : Nat → Bool} {held : Bool} {r : Reach} {v : Value} {d : DataW H} {p : List MemPlace}
    (hv : Value.okWide Try.prog W r b0 65 v) (h : DataW.Trod enc Try.prog W base spare held 65 v d p) :
    ∃ x : QM.Prod, v = .agg #[.string x.name, .int .i64 x.cur, .int .i64 x.mult, .int .i64 x.tick, .int .i64 x.low, .int .i64 x.high, .bool x.phys] ∧ prodQ x := by
  obtain ⟨cs, rfl, hk⟩ := open_rec (n := 2) Try.underlying65 prod_leafs (by kernel_rfl) hv h
  obtain ⟨x, rfl, hq⟩ := prod_row cs hk
  exact ⟨x, rfl, hq⟩
theorem open_serV {H : Type} {enc : TypeId × Value → H} {W : World} {base b0 : Nat} {spare : Nat → Bool} {held : Bool} {r : Reach} {v : Value} {d : DataW H} {p : List MemPlace}
    (hv : Value.okWide Try.prog W r b0 43 v) (h : DataW.Trod enc Try.prog W base spare held 43 v d p) :
    ∃ x : EM.Ser, v = .agg #[.string x.prod, .int .i64 x.kind, .int .i64 x.expiry, .int .i64 x.strike] ∧ serQ x := by
  obtain ⟨cs, rfl, hk⟩ := open_rec (n := 2) Try.underlying43 ser_leafs (by kernel_rfl) hv h
  obtain ⟨x, rfl, hq⟩ := ser_row cs hk
  exact ⟨x, rfl, hq⟩
theorem prod_sized {H : Type} {enc : TypeId × Value → H} {W : World} {base : Nat} {spare : Nat → Bool} {held : Bool} {x : QM.Prod} {d : DataW H} {p : List MemPlace} {ts : List TypeId} {ds : List (DataW H)} {j : Nat}
    (h : (DataW.weightsEach Try.prog ts ds).all (· ≤ reachBytes) = true) (ht : ts[j]? = some 65) (hd : ds[j]? = some d)
    (hT : DataW.Trod enc Try.prog W base spare held 65 (.agg #[.string x.name, .int .i64 x.cur, .int .i64 x.mult, .int .i64 x.tick, .int .i64 x.low, .int .i64 x.high, .bool x.phys]) d p) : x.name.size ≤ 140737488351232 :=
  first_sized (cs := #[.string x.name, .int .i64 x.cur, .int .i64 x.mult, .int .i64 x.tick, .int .i64 x.low, .int .i64 x.high, .bool x.phys]) h ht hd hT Try.underlying65 rfl rfl Try.underlying9 (by kernel_rfl) rfl
theorem ser_sized {H : Type} {enc : TypeId × Value → H} {W : World} {base : Nat} {spare : Nat → Bool} {held : Bool} {x : EM.Ser} {d : DataW H} {p : List MemPlace} {ts : List TypeId} {ds : List (DataW H)} {j : Nat}
    (h : (DataW.weightsEach Try.prog ts ds).all (· ≤ reachBytes) = true) (ht : ts[j]? = some 43) (hd : ds[j]? = some d)
    (hT : DataW.Trod enc Try.prog W base spare held 43 (.agg #[.string x.prod, .int .i64 x.kind, .int .i64 x.expiry, .int .i64 x.strike]) d p) : x.prod.size ≤ 140737488351232 :=
  first_sized (cs := #[.string x.prod, .int .i64 x.kind, .int .i64 x.expiry, .int .i64 x.strike]) h ht hd hT Try.underlying43 rfl rfl Try.underlying9 (by kernel_rfl) rfl
end Go.Proofs.Ytafdjiilmogcjaa
