/- Contracts of layer 19: between. -/
import Derived.Test.YtagmknahmkniaaaCurA
import Derived.Test.YtagmknahmkniaaaCentsC
namespace Go.Proofs.Ytagmknahmkniaaa
open Go.RowKit Go.Recs
set_option linter.unusedVariables false
set_option linter.unusedSimpArgs false
set_option maxHeartbeats 4000000 in
theorem utween_any (a b : UM.Pt) (day tick : Int) (h : UM.Pair a b day tick) (w : World) :
    Calls Try.prog 42 #[ptA a, ptA b, .int .i64 day, .int .i64 tick] w fun e w' => e = .returned (.tuple #[.int .i64 (UM.tweenN a b day tick), .int .i64 0]) ∧ Below w.heap.size w w' := by
  obtain ⟨x, y, c⟩ := h.lined
  obtain ⟨e, k, n⟩ := h.bounds
  obtain ⟨da, db, lt, pa, pb, tk⟩ := h
  have C1 := fun ww => muldiv_any (a.price * (b.exp - a.exp) + (b.price - a.price) * (day - a.exp)) 1 ((b.exp - a.exp) * tick) 5 ww
  have eK : CM.mdN (a.price * (b.exp - a.exp) + (b.price - a.price) * (day - a.exp)) 1 ((b.exp - a.exp) * tick) 5 = UM.tweenK a b day tick := rfl
  have eE : CM.mdE (a.price * (b.exp - a.exp) + (b.price - a.price) * (day - a.exp)) 1 ((b.exp - a.exp) * tick) 5 = 0 := e
  rw [eK, eE] at C1
  have C1 := Lib.hid C1
  have eN : UM.tweenN a b day tick = UM.tweenK a b day tick * tick := rfl
  rw [eN] at n ⊢
  have HB := Lib.hid (below_al (below_al (Below.refl w.heap.size w) (.cells (ptC a) 44)) (.cells (ptC b) 44))
  have HA := (CB.new w 44 (ptC a)).alloc (.cells (ptC b) 44)
  have HC := CB.new1 w (.cells (ptC a) 44) 44 (ptC b)
  have f0 := HA.cell 0
  have f1 := HA.cell 1
  have g0 := HC.cell 0
  have g1 := HC.cell 1
  simp only [List.getElem?_toArray, List.getElem?_cons_zero, List.getElem?_cons_succ] at f0 f1 g0 g1
  clear HA HC eK eE e eN
  generalize UM.tweenK a b day tick = z at *
  go_enter Try.func42, Try.ntmps42
  go_wp2_with fail
  refine (C1.out _).mono ?_
  rintro e w1 ⟨rfl, b1⟩
  have HB1 := Lib.hid (HB.out.trans (b1.mono HB.out.size))
  clear b1
  go_wp2_with fail
  go_ret2
  exact ⟨rfl, HB1.out⟩
end Go.Proofs.Ytagmknahmkniaaa
