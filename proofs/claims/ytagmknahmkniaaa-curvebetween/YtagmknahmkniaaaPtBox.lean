/- A point in a box; points compared. -/
import Derived.Test.YtagmknahmkniaaaPtCells
import Derived.Test.YtagmknahmkniaaaCBox
import Derived.Laws.StructEq
namespace Go.Proofs.Ytagmknahmkniaaa
open Go.RowKit Go.Recs
set_option linter.unusedVariables false
set_option linter.unusedSimpArgs false
abbrev ptA (x : UM.Pt) : Value := .agg #[.int .i64 x.exp, .int .i64 x.price, .bool x.known]
abbrev ptC (x : UM.Pt) : Array Value := #[.int .i64 x.exp, .int .i64 x.price, .bool x.known]
theorem info_pt : (Try.prog.info? 44).map (fun i => (i.zero, i.size, i.bytes)) = some (some (ptA UM.zero), 3, 24) := by kernel_rfl
theorem pt_under : Try.prog.underlying 44 = some (.struct (Try.prog.fieldsOf 44)) := by kernel_rfl
theorem pt_size : (Try.prog.info? 44).map (·.size) = some 3 := by kernel_rfl
theorem load_pt (w : World) (g : Nat) (x : UM.Pt) (hb : CB w g 44 (ptC x)) : (loadVar 44 ⟨g, 0, none⟩).run Try.prog w = .ok (ptA x) w := by
  rw [run_loadVar_row w g 44 44 _ (0, 0) _ hb pt_under rfl pt_size]
theorem results_ptpt {fn : Func} {p q : Tmp} (h : fn.results = #[.cell p 44, .cell q 44]) (tmps : Array Value) (w : World) (g k : Nat) (x y : UM.Pt)
    (hp : tmps.getD p undef = .pointer (some ⟨g, 0, none⟩)) (hq : tmps.getD q undef = .pointer (some ⟨k, 0, none⟩)) (hb : CB w g 44 (ptC x)) (hk : CB w k 44 (ptC y)) : (results fn tmps).run Try.prog w = .ok (.tuple #[ptA x, ptA y]) w := by
  rw [results_cell2 h, hp, hq]
  simp only [asAddr, Sem.run_pure, Result.andThen_ok]
  rw [load_pt w g x hb]
  simp only [Sem.run_pure, Result.andThen_ok]
  rw [load_pt w k y hk]
  rfl
def pteq (x y : UM.Pt) : Bool := (x.exp == y.exp) && ((x.price == y.price) && (x.known == y.known))
theorem pteq_is (x y : UM.Pt) : pteq x y = decide (x = y) := by
  obtain ⟨a, b, c⟩ := x
  obtain ⟨a', b', c'⟩ := y
  by_cases h1 : a = a' <;> by_cases h2 : b = b' <;> by_cases h3 : c = c' <;> simp [pteq, h1, h2, h3]
theorem pt_in (x y : UM.Pt) (w : World) : (Op.equalIn 10000 44 (ptA x) (ptA y)).run Try.prog w = .ok (pteq x y) w := by
  have u3 := Try.underlying3
  have u4 := Try.underlying4
  have a3 := Try.isAgg3
  have a4 := Try.isAgg4
  have z3 := Try.sizeOf3
  have z4 := Try.sizeOf4
  have hp : Try.prog.stoodInHeld 44 = false := by kernel_rfl
  rw [show (10000 : Nat) = 9999 + 1 from rfl, run_equalIn_agg w 9999 44 _ _ pt_under hp]
  simp only [Program.fieldsOf, Try.underlying44]
  unfold pteq
  go_simp
  by_cases h1 : x.exp = y.exp <;> by_cases h2 : x.price = y.price <;> by_cases h3 : x.known = y.known <;> simp [h1, h2, h3]
theorem pt_guard : Try.prog.eqGuardType Try.prog.depth 44 = false := by kernel_rfl
end Go.Proofs.Ytagmknahmkniaaa
