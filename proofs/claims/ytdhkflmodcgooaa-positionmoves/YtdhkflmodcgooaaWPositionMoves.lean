/- The law of lots moved. -/
import Derived.Test.YtdhkflmodcgooaaBun15
import Derived.Test.YtdhkflmodcgooaaBun16
namespace Go.Proofs.Ytdhkflmodcgooaa.positionMoves
open Go.RowKit Go.Recs
set_option linter.unusedVariables false
set_option maxHeartbeats 16000000 in
set_option maxRecDepth 100000 in
theorem walk (A : Option Addr) (cap : Nat) (l : List PO.Pos) (A2 : Option Addr) (cap2 : Nat) (m : List PO.Pos) (x : PO.Moved) (w : World) (hI : Poss w A l ∧ l.length ≤ cap) (hJ : Poss w A2 m ∧ m.length ≤ cap2) (hx : i64 x.kind ∧ serQ x.ser ∧ i64 x.lo ∧ i64 x.sh) :
    Calls Try.prog 6 #[.slice A l.length cap, .slice A2 m.length cap2, .agg #[.int .i64 x.kind, .string x.ser.prod, .int .i64 x.ser.kind, .int .i64 x.ser.expiry, .int .i64 x.ser.strike, .int .i64 x.lo, .int .i64 x.sh]] w fun e w' => e = .returned (.bool true) ∧ Below w.heap.size w w' := by
  have CG := Lib.hid (fun ww => goes15_any ww)
  have HB0 := Lib.hid (below_al (Below.refl w.heap.size w) (.cells #[.int .i64 x.kind, .string x.ser.prod, .int .i64 x.ser.kind, .int .i64 x.ser.expiry, .int .i64 x.ser.strike, .int .i64 x.lo, .int .i64 x.sh] 67))
  have HX0 := Lib.hid (CB.new w 67 #[.int .i64 x.kind, .string x.ser.prod, .int .i64 x.ser.kind, .int .i64 x.ser.expiry, .int .i64 x.ser.strike, .int .i64 x.lo, .int .i64 x.sh])
  have HI := Lib.hid (hI.1.below HB0.out)
  have HJ := Lib.hid (hJ.1.below HB0.out)
  have C1 := Lib.hid (fun ww h1 h2 => pmove_any A A2 l m l.length cap m.length cap2 rfl rfl x.kind x.ser hx.2.1 x.lo x.sh ww h1 h2)
  have C2 := Lib.hid (fun ww h1 h2 => rmove15_any A A2 l m l.length cap m.length cap2 rfl rfl x.kind x.ser hx.2.1 x.lo x.sh ww h1 h2)
  have HQA := Lib.hid (mvA_q (m := m) hI.1.2 hx.2.1 x.kind x.lo x.sh)
  have HQB := Lib.hid (mvB_q (l := l) hJ.1.2 hx.2.1 x.kind x.lo x.sh)
  have c0 := HX0.out.cell 0
  have c1 := HX0.out.cell 1
  have c2 := HX0.out.cell 2
  have c3 := HX0.out.cell 3
  have c4 := HX0.out.cell 4
  have c5 := HX0.out.cell 5
  have c6 := HX0.out.cell 6
  simp only [List.getElem?_toArray, List.getElem?_cons_zero, List.getElem?_cons_succ] at c0 c1 c2 c3 c4 c5 c6
  generalize PO.mvA l m x.kind x.ser x.lo x.sh = ra at *
  generalize PO.mvB l m x.kind x.ser x.lo x.sh = rb at *
  generalize PO.mvE l m x.kind x.ser x.lo x.sh = re at *
  clear hI hJ hx
  go_enter Try.func6, Try.ntmps6
  go_wp2_with fail
  generalize w.alloc (.cells #[.int .i64 x.kind, .string x.ser.prod, .int .i64 x.ser.kind, .int .i64 x.ser.expiry, .int .i64 x.ser.strike, .int .i64 x.lo, .int .i64 x.sh] 67) = w0 at *
  refine (C1.out _ HI.out HJ.out).mono ?_
  rintro e w1 ⟨va, vb, rfl, oa, ob, b1⟩
  obtain ⟨A3, k3, rfl, hR3, _⟩ := oa.recs
  obtain ⟨A4, k4, rfl, hR4, _⟩ := ob.recs
  have HA1 : Hid (Poss w1 A3 ra) := Lib.hid ⟨hR3, HQA.out⟩
  have HM1 : Hid (Poss w1 A4 rb) := Lib.hid ⟨hR4, HQB.out⟩
  have HB1 := Lib.hid (HB0.out.trans (b1.mono HB0.out.size))
  have HI1 := Lib.hid (HI.out.below b1)
  have HJ1 := Lib.hid (HJ.out.below b1)
  have HX1 := Lib.hid (HX0.out.below b1 HX0.out.lt)
  rw [List.length_map, List.length_map]
  clear oa ob b1 hR3 hR4 c0 c1 c2 c3 c4 c5 c6 HB0 HI HJ HX0 C1
  have c0 := HX1.out.cell 0
  have c1 := HX1.out.cell 1
  have c2 := HX1.out.cell 2
  have c3 := HX1.out.cell 3
  have c4 := HX1.out.cell 4
  have c5 := HX1.out.cell 5
  have c6 := HX1.out.cell 6
  simp only [List.getElem?_toArray, List.getElem?_cons_zero, List.getElem?_cons_succ] at c0 c1 c2 c3 c4 c5 c6
  go_wp2_with fail
  refine (C2.out _ HI1.out HJ1.out).mono ?_
  rintro e w2 ⟨A5, A6, k5, k6, rfl, h5, h6, b2⟩
  have HB2 := Lib.hid (HB1.out.trans (b2.mono HB1.out.size))
  have HA2 := Lib.hid (HA1.out.below b2)
  have HM2 := Lib.hid (HM1.out.below b2)
  have S1 := Lib.hid (fun nd => rsame15_any A3 A5 ra ra.length k3 ra.length k5 rfl rfl (w2.drewN nd) (HA2.out.drewN nd) (h5.drewN nd))
  have S2 := Lib.hid (fun nd => rsame15_any A4 A6 rb rb.length k4 rb.length k6 rfl rfl (w2.drewN nd) (HM2.out.drewN nd) (h6.drewN nd))
  clear h5 h6 b2 c0 c1 c2 c3 c4 c5 c6 HX1 HI1 HJ1 HB1 HA1 HM1 C2
  go_wp2_with fail
  refine (S1.out 0).mono ?_
  rintro e w3 ⟨rfl, n3, rfl⟩
  go_wp2_with fail
  refine (show Calls _ _ _ _ _ from (S2.out _)).mono ?_
  rintro e w4 ⟨rfl, n4, rfl⟩
  go_wp2_with fail
  refine (CG.out _).mono ?_
  rintro e w5 ⟨rfl, b5⟩
  have HB5 := Lib.hid b5
  clear b5
  go_wp2_with fail
  go_ret
  exact ⟨rfl, by first | exact (below_drewN (below_drewN HB2.out _) _).trans (HB5.out.mono (below_drewN (below_drewN HB2.out _) _).size) | exact (below_drewN HB2.out _).trans (HB5.out.mono (below_drewN HB2.out _).size)⟩
end Go.Proofs.Ytdhkflmodcgooaa.positionMoves
