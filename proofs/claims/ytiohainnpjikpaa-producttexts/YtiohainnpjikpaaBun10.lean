/- Put together: WProductTexts, SizedRec. -/
import Derived.Test.YtiohainnpjikpaaBun8
import Derived.Test.YtiohainnpjikpaaBun9
import Derived.Test.YtiohainnpjikpaaBun1
import Derived.SizedLaws
import Derived.ProofKit
namespace Go.Proofs.Ytiohainnpjikpaa.productTexts
open Go.RowKit Go.Recs
set_option linter.unusedVariables false

set_option maxHeartbeats 8000000 in
theorem walk (p : QM.Prod) (s : ByteArray) (w : World) (hq : prodQ p ∧ p.name.size ≤ 140737488351232) (hs : s.size ≤ 140737488351232) :
    Calls Try.prog 5 #[prodA p, .string s] w fun e w' => e = .returned (.bool true) ∧ Below w.heap.size w w' := by
  obtain ⟨hq, hn⟩ := hq
  have C1 := Lib.hid (fun ww => qparse_any s ww (by omega))
  have C2 := Lib.hid (fun ww => rqparse_any s ww (by omega))
  have C3 := Lib.hid (fun ww => qprint_any p hq hn ww)
  have C4 := Lib.hid (fun ww => rqprint_any p hq hn ww)
  have C7 := Lib.hid goes9_any
  generalize QM.parN (L s) = x at *
  generalize QM.parE (L s) = xe at *
  generalize S (QM.printL p) = pt at *
  have hgd := prod_guard
  have E1 : ∀ ww, (Op.equalIn 10000 24 (prodA x) (prodA x)).run Try.prog ww = .ok true ww := fun ww => by rw [prod_in, peq_iff.2 rfl]
  have HB0 := Lib.hid ((Below.refl w.heap.size w).alloc (Nat.le_refl _) (.cells #[.string p.name, .int .i64 p.cur, .int .i64 p.mult, .int .i64 p.tick, .int .i64 p.low, .int .i64 p.high, .bool p.phys] 24))
  have HP0 := Lib.hid (PBox.new w p)
  clear hs hq hn
  go_enter Try.func5, Try.ntmps5
  go_wp2_with fail
  generalize w.alloc (.cells #[.string p.name, .int .i64 p.cur, .int .i64 p.mult, .int .i64 p.tick, .int .i64 p.low, .int .i64 p.high, .bool p.phys] 24) = w0 at *
  refine (C1.out _).mono ?_
  rintro e w1 ⟨rfl, b1⟩
  have HP1 := Lib.hid (HP0.out.below b1 HP0.out.lt)
  have HB1 := Lib.hid (HB0.out.trans (b1.mono HB0.out.size))
  have HB2 := Lib.hid (HB1.out.alloc HB1.out.size (.cells #[.string x.name, .int .i64 x.cur, .int .i64 x.mult, .int .i64 x.tick, .int .i64 x.low, .int .i64 x.high, .bool x.phys] 24))
  have HP2 := Lib.hid (HP1.out.alloc (.cells #[.string x.name, .int .i64 x.cur, .int .i64 x.mult, .int .i64 x.tick, .int .i64 x.low, .int .i64 x.high, .bool x.phys] 24))
  have HX2 := Lib.hid (PBox.new w1 x)
  clear b1 HB0 HP0 HP1 HB1
  go_wp2_with fail
  generalize w1.alloc (.cells #[.string x.name, .int .i64 x.cur, .int .i64 x.mult, .int .i64 x.tick, .int .i64 x.low, .int .i64 x.high, .bool x.phys] 24) = w2 at *
  refine (C2.out _).mono ?_
  rintro e w3 ⟨rfl, b3⟩
  have HP3 := Lib.hid (HP2.out.below b3 HP2.out.lt)
  have HX3 := Lib.hid (HX2.out.below b3 HX2.out.lt)
  have HB3 := Lib.hid (HB2.out.trans (b3.mono HB2.out.size))
  have HBL := Lib.hid (HB3.out.alloc HB3.out.size (.cells #[.string x.name, .int .i64 x.cur, .int .i64 x.mult, .int .i64 x.tick, .int .i64 x.low, .int .i64 x.high, .bool x.phys] 24))
  have HP4 := Lib.hid (HP3.out.alloc (.cells #[.string x.name, .int .i64 x.cur, .int .i64 x.mult, .int .i64 x.tick, .int .i64 x.low, .int .i64 x.high, .bool x.phys] 24))
  have HX4 := Lib.hid (HX3.out.alloc (.cells #[.string x.name, .int .i64 x.cur, .int .i64 x.mult, .int .i64 x.tick, .int .i64 x.low, .int .i64 x.high, .bool x.phys] 24))
  have HY4 := Lib.hid (PBox.new w3 x)
  clear b3 HB2 HP2 HX2 HP3 HX3 HB3
  go_wp2_with fail
  generalize w3.alloc (.cells #[.string x.name, .int .i64 x.cur, .int .i64 x.mult, .int .i64 x.tick, .int .i64 x.low, .int .i64 x.high, .bool x.phys] 24) = w4 at *
  have HSF : Hid (∀ ww, Below w4.heap.size w4 ww → (ww.cell? ⟨w.heap.size, 0, none⟩ = some (.string p.name) ∧ ww.cell? ⟨w.heap.size, 1, none⟩ = some (.int .i64 p.cur) ∧ ww.cell? ⟨w.heap.size, 2, none⟩ = some (.int .i64 p.mult) ∧ ww.cell? ⟨w.heap.size, 3, none⟩ = some (.int .i64 p.tick) ∧ ww.cell? ⟨w.heap.size, 4, none⟩ = some (.int .i64 p.low) ∧ ww.cell? ⟨w.heap.size, 5, none⟩ = some (.int .i64 p.high) ∧ ww.cell? ⟨w.heap.size, 6, none⟩ = some (.bool p.phys)) ∧ (ww.cell? ⟨w1.heap.size, 0, none⟩ = some (.string x.name) ∧ ww.cell? ⟨w1.heap.size, 1, none⟩ = some (.int .i64 x.cur) ∧ ww.cell? ⟨w1.heap.size, 2, none⟩ = some (.int .i64 x.mult) ∧ ww.cell? ⟨w1.heap.size, 3, none⟩ = some (.int .i64 x.tick) ∧ ww.cell? ⟨w1.heap.size, 4, none⟩ = some (.int .i64 x.low) ∧ ww.cell? ⟨w1.heap.size, 5, none⟩ = some (.int .i64 x.high) ∧ ww.cell? ⟨w1.heap.size, 6, none⟩ = some (.bool x.phys)) ∧ (ww.cell? ⟨w3.heap.size, 0, none⟩ = some (.string x.name) ∧ ww.cell? ⟨w3.heap.size, 1, none⟩ = some (.int .i64 x.cur) ∧ ww.cell? ⟨w3.heap.size, 2, none⟩ = some (.int .i64 x.mult) ∧ ww.cell? ⟨w3.heap.size, 3, none⟩ = some (.int .i64 x.tick) ∧ ww.cell? ⟨w3.heap.size, 4, none⟩ = some (.int .i64 x.low) ∧ ww.cell? ⟨w3.heap.size, 5, none⟩ = some (.int .i64 x.high) ∧ ww.cell? ⟨w3.heap.size, 6, none⟩ = some (.bool x.phys))) := Lib.hid (fun ww h => ⟨(HP4.out.below h HP4.out.lt).cells, (HX4.out.below h HX4.out.lt).cells, (HY4.out.below h HY4.out.lt).cells⟩)
  have HBw : Hid (Below w4.heap.size w4 w4.drew) := Lib.hid (Below.refl _ _).drew
  have hpt : (pt.toList == pt.toList) = true := str_t rfl
  clear HP4 HX4 HY4 C1 C2
  go_region_held3 (fun ww => (ww.cell? ⟨w.heap.size, 0, none⟩ = some (.string p.name) ∧ ww.cell? ⟨w.heap.size, 1, none⟩ = some (.int .i64 p.cur) ∧ ww.cell? ⟨w.heap.size, 2, none⟩ = some (.int .i64 p.mult) ∧ ww.cell? ⟨w.heap.size, 3, none⟩ = some (.int .i64 p.tick) ∧ ww.cell? ⟨w.heap.size, 4, none⟩ = some (.int .i64 p.low) ∧ ww.cell? ⟨w.heap.size, 5, none⟩ = some (.int .i64 p.high) ∧ ww.cell? ⟨w.heap.size, 6, none⟩ = some (.bool p.phys)) ∧ (ww.cell? ⟨w1.heap.size, 0, none⟩ = some (.string x.name) ∧ ww.cell? ⟨w1.heap.size, 1, none⟩ = some (.int .i64 x.cur) ∧ ww.cell? ⟨w1.heap.size, 2, none⟩ = some (.int .i64 x.mult) ∧ ww.cell? ⟨w1.heap.size, 3, none⟩ = some (.int .i64 x.tick) ∧ ww.cell? ⟨w1.heap.size, 4, none⟩ = some (.int .i64 x.low) ∧ ww.cell? ⟨w1.heap.size, 5, none⟩ = some (.int .i64 x.high) ∧ ww.cell? ⟨w1.heap.size, 6, none⟩ = some (.bool x.phys)) ∧ (ww.cell? ⟨w3.heap.size, 0, none⟩ = some (.string x.name) ∧ ww.cell? ⟨w3.heap.size, 1, none⟩ = some (.int .i64 x.cur) ∧ ww.cell? ⟨w3.heap.size, 2, none⟩ = some (.int .i64 x.mult) ∧ ww.cell? ⟨w3.heap.size, 3, none⟩ = some (.int .i64 x.tick) ∧ ww.cell? ⟨w3.heap.size, 4, none⟩ = some (.int .i64 x.low) ∧ ww.cell? ⟨w3.heap.size, 5, none⟩ = some (.int .i64 x.high) ∧ ww.cell? ⟨w3.heap.size, 6, none⟩ = some (.bool x.phys)))
    (exact HSF.out _ HBw.out)
    (first
      | (go_at_call 23; refine (C3.out _).mono ?_; rintro e w6 ⟨rfl, b6⟩; replace HBw := Lib.hid (HBw.out.trans (b6.mono HBw.out.size)); clear b6)
      | (go_at_call 24; refine (C4.out _).mono ?_; rintro e w6 ⟨rfl, b6⟩; replace HBw := Lib.hid (HBw.out.trans (b6.mono HBw.out.size)); clear b6)
      | (go_at_call 14; refine (C7.out _).mono ?_; rintro e w6 ⟨rfl, b6⟩; replace HBw := Lib.hid (HBw.out.trans (b6.mono HBw.out.size)); clear b6))
  all_goals (
    clear HSF
    have HBF := Lib.hid (HBL.out.trans (HBw.out.mono HBL.out.size))
    go_wp2_with fail
    go_ret
    exact ⟨rfl, HBF.out⟩)
end Go.Proofs.Ytiohainnpjikpaa.productTexts

/- What the reach says of a text that opens a record, over any program. -/
namespace Go.Recs
open Go.ChangeShapes Go.WideShapes Go.RowKit Go.Deep
set_option linter.unusedVariables false
theorem first_sized {H : Type} {enc : TypeId × Value → H} {P : Program} {W : World} {base : Nat} {spare : Nat → Bool} {held : Bool} {T : TypeId} {cs : Array Value} {d : DataW H} {p : List MemPlace} {fs : Array Field} {f : Field} {s : ByteArray}
    {ts : List TypeId} {ds : List (DataW H)} {j : Nat}
    (h : (DataW.weightsEach P ts ds).all (· ≤ reachBytes) = true) (ht : ts[j]? = some T) (hd : ds[j]? = some d)
    (hT : DataW.Trod enc P W base spare held T (.agg cs) d p) (hu : P.underlying T = some (.struct fs)) (hf : fs[0]? = some f) (ho : f.offset = 0) (hs : P.underlying f.type = some .string) (hc : P.cellsOf f.type = 1) (hcs : cs[0]? = some (.string s)) :
    s.size ≤ 140737488351232 := by
  obtain ⟨fuel, hx⟩ := hT
  obtain ⟨xs, n, _, hxd, _, hxl, hfl⟩ := DataW.trod_struct hu hx
  have h0 := hfl 0 f hf
  have hpos : 0 < xs.length := by
    rw [hxl]
    rcases Nat.eq_zero_or_pos fs.size with e | e
    · rw [Array.getElem?_eq_none (by omega)] at hf; cases hf
    · exact e
  rw [List.getElem?_eq_getElem hpos] at h0
  obtain ⟨t, ht0, hx0, _⟩ := DataW.trod_string hs h0
  rw [ho, hc, List.drop_zero] at ht0
  have ets : t = s := by
    have e1 : (Value.agg cs).cells.toList.take 1 = [Value.string t] := ht0
    have e2 : (Value.agg cs).cells.toList[0]? = some (Value.string s) := by simpa [Value.cells] using hcs
    cases hl : (Value.agg cs).cells.toList with
    | nil => rw [hl] at e2; cases e2
    | cons a r => rw [hl] at e1 e2; simp at e1 e2; rw [e1] at e2; injection e2
  subst ets
  injection hxd with hd1 _
  have hw : t.data.toList.length ∈ d.weights P T := by
    rw [hd1]
    simp only [DataW.weights, hu]
    have hm := DataW.weights_mem_each (P := P) (ts := fs.toList.map (·.type)) (ds := xs.map (·.1)) (j := 0) (t := f.type) (d := xs[0].1) (by rw [List.getElem?_map, Array.getElem?_toList, hf]; rfl) (by rw [List.getElem?_map, List.getElem?_eq_getElem hpos]; rfl) t.data.toList.length
    apply hm
    rw [hx0]
    simp [DataW.weights]
  have := List.all_eq_true.1 h _ (DataW.weights_mem_each ht hd _ hw)
  have e : t.data.toList.length = t.size := Array.length_toList
  rw [e] at this
  have hr : reachBytes = 140737488351232 := by decide
  rw [← hr]
  simpa using this
end Go.Recs
