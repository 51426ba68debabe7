/- Put together: WSeriesChecks, SizedRec, OpenProd. -/
import Derived.Test.YtiohainnpjikpaaDoorBun1
import Derived.Test.YtiohainnpjikpaaDoorBun9
import Derived.Test.YtiohainnpjikpaaDoorBun10
import Derived.SizedLaws
import Derived.ProofKit
import Derived.Test.YtiohainnpjikpaaDoorBun7
import Derived.OpenShut
import Derived.ShutString
import Derived.ChangeOld
namespace Go.Proofs.YtiohainnpjikpaaDoor.seriesChecks
open Go.RowKit Go.Recs
set_option linter.unusedVariables false

theorem info_prod : (Tryd.prog.info? 29).map (fun i => (i.zero, i.size, i.bytes)) = some (some (.agg #[.string ⟨#[]⟩, .int .i64 0, .int .i64 0, .int .i64 0, .int .i64 0, .int .i64 0, .bool false]), 7, 64) := by kernel_rfl
theorem prodV_one (l : List QM.Prod) : ∀ r ∈ l.map prodV, ∀ u ∈ r, u.oneCell' = true := by
  intro r hr u hu
  obtain ⟨p, _, rfl⟩ := List.mem_map.1 hr
  simp only [prodV, List.mem_cons, List.not_mem_nil, or_false] at hu
  rcases hu with rfl | rfl | rfl | rfl | rfl | rfl | rfl <;> rfl

set_option maxHeartbeats 8000000 in
theorem walk (A : Option Addr) (cap : Nat) (l : List QM.Prod) (s : EM.Ser) (w : World) (hI : Prods w A l ∧ l.length ≤ cap) (hs : serQ s ∧ s.prod.size ≤ 140737488351232) (hm : ML w) :
    Calls Tryd.prog 3 #[.slice A l.length cap, serA s] w fun e w' => e = .returned (.bool true) ∧ Below w.heap.size w w' := by
  obtain ⟨hI, -⟩ := hI
  have hlen : l.length ≤ 9223372036854775807 := by have := hI.1.len; rw [List.length_map] at this; exact this
  have HB0 := Lib.hid ((Below.refl w.heap.size w).alloc (Nat.le_refl _) (.cells #[.string s.prod, .int .i64 s.kind, .int .i64 s.expiry, .int .i64 s.strike] 24))
  have CG := Lib.hid (fun ww h => goes10_any ww h)
  clear hs
  by_cases h60 : 60 < l.length
  · have HM0 := Lib.hid (hm.below HB0.out)
    clear hI hm
    go_enter Tryd.func3, Tryd.ntmps3
    go_wp2_with fail
    refine (CG.out _ HM0.out).mono ?_
    rintro e w1 ⟨rfl, b1⟩
    have HB1 := Lib.hid (HB0.out.trans (b1.mono HB0.out.size))
    clear b1 HB0 HM0
    go_wp2_with fail
    go_ret
    exact ⟨rfl, HB1.out⟩
  have CR := Lib.hid (fun ww h => rscheck_any A l cap s ww h)
  have CC := Lib.hid (fun A' cap' ww h => scheck_any A' l cap' s ww h)
  generalize schkE l s = ce at *
  have HI := Lib.hid hI
  have HM := Lib.hid hm
  have HBE := Lib.hid (HB0.out.alloc HB0.out.size (.cells #[] 29))
  have HSE := Lib.hid ((SBox.new w s).alloc (.cells #[] 29))
  have HL := Lib.hid h60
  clear hI hm
  go_enter Tryd.func3, Tryd.ntmps3
  go_wp2_with (at_builtin; refine wpList_catR _ (w.heap.size + 1) [] (l.map prodV) _ _ _ 29 7 64 _ Tryd.underlying22 info_prod rfl (by decide) rfl rfl _ _ _ _ rfl rfl ?c0 ?c1 ?c2 (prodV_one l) ?c3 ?c4 ?c5 ?_)
  case c0 => simp
  case c1 =>
    have := OwnR.empty (w.alloc (.cells #[.string s.prod, .int .i64 s.kind, .int .i64 s.expiry, .int .i64 s.strike] 24)) (w.heap.size + 1) 29 7 (by simp)
    rw [show (w.alloc (.cells #[.string s.prod, .int .i64 s.kind, .int .i64 s.expiry, .int .i64 s.strike] 24)).heap.size = w.heap.size + 1 by simp] at this
    exact this
  case c2 => exact (HI.out.below HBE.out).1
  case c3 => have := HL.out; simp; omega
  case c4 => have := HL.out; simp [maxLen]; omega
  case c5 => simp
  rintro v1 w1 hO hb hg
  obtain ⟨A1, cap1, rfl, hR, hc1⟩ := hO.recs
  have HP1 : Hid (Prods w1 A1 l) := Lib.hid ⟨by simpa using hR, HI.out.2⟩
  have HB1 := Lib.hid (HBE.out.trans (hb.mono (by omega)))
  have HS1 := Lib.hid (HSE.out.below hb (by omega))
  have el : (l.map prodV).length = l.length := by simp
  rw [el]
  clear hR hc1 hO hb hg el HB0 HBE HSE
  obtain ⟨c0, c1, c2, c3⟩ := HS1.out.cells
  go_wp2_with fail
  refine (CC.out A1 cap1 _ HP1.out).mono ?_
  clear c0 c1 c2 c3
  rintro e w2 ⟨rfl, b2⟩
  have HB2 := Lib.hid (HB1.out.trans (b2.mono HB1.out.size))
  have HS2 := Lib.hid (HS1.out.below b2 HS1.out.lt)
  have HP2 := Lib.hid (HP1.out.below b2)
  clear b2 HB1 HS1 HP1 CC
  go_wp2_with fail
  go_loopw [20, 7] (fun i _ wr => ∃ k : Nat, k ≤ l.length ∧ i = .int .i64 k ∧ Hid (Below w2.heap.size w2 wr)) (fun i _ _ => l.length - (intOf i).toNat)
  case atStart => exact ⟨0, by omega, rfl, Lib.hid (Below.refl _ _)⟩
  case round =>
    obtain ⟨k, hk, rfl, HW⟩ := hrel
    have HB3 := Lib.hid (HB2.out.trans (HW.out.mono HB2.out.size))
    by_cases hlt : k < l.length
    · obtain ⟨b, off, p, rfl, hb, HV, q0, d0, d1, d2, d3, d4, d5, d6⟩ := prods_get (HP2.out.below HW.out) hlt
      obtain ⟨b', off', p', rfl, hb', HV', q0', g0, g1, g2, g3, g4, g5, g6⟩ := prods_get (HI.out.below HB3.out) hlt
      obtain rfl : p = p' := HV.out.symm.trans HV'.out
      have E1 : ∀ ww, (Op.equalIn 10000 29 (prodA p) (prodA p)).run Tryd.prog ww = .ok true ww := fun ww => by rw [prod_in, peq_iff.2 rfl]
      have hgd := prod_guard
      clear q0 q0' HV HV'
      go_wp2_with fail
      go_quiet (fail)
      go_wp2_with fail
      go_roundw
      case rel => exact ⟨k + 1, by omega, by go_num, Lib.hid (by first | exact HW.out | exact below_drewN HW.out _)⟩
      case measure => simp [intOf]; omega
    · obtain rfl : k = l.length := by omega
      have HS3 := Lib.hid (HS2.out.below HW.out HS2.out.lt)
      obtain ⟨c0, c1, c2, c3⟩ := HS3.out.cells
      clear hk hlt
      go_wp2_with fail
      refine (CR.out _ (HI.out.below HB3.out)).mono ?_
      clear c0 c1 c2 c3
      rintro e w4 ⟨rfl, b4⟩
      have HB4 := Lib.hid (HB3.out.trans (b4.mono HB3.out.size))
      clear b4
      go_wp2_with fail
      refine (CG.out _ (HM.out.below HB4.out)).mono ?_
      rintro e w5 ⟨rfl, b5⟩
      have HB5 := Lib.hid (HB4.out.trans (b5.mono HB4.out.size))
      clear b5
      go_wp2_with fail
      go_ret
      exact ⟨rfl, HB5.out⟩
end Go.Proofs.YtiohainnpjikpaaDoor.seriesChecks

/- What the reach says of a text that opens a record, over any program. -/
namespace Go.Recs
open Go.ChangeShapes Go.WideShapes Go.RowKit Go.Deep
set_option linter.unusedVariables false
theorem first_sized {H : Type} {enc : TypeId × Value → H} {P : Program} {W : World} {base : Nat} {spare : Nat → Bool} {held : Bool} {T : TypeId} {cs : Array Value} {d : DataW H} {p : List MemPlace} {fs : Array Field} {f : Field} {s : ByteArray}
    {ts : List TypeId} {ds : List (DataW H)} {j : Nat}
    (h : (DataW.weightsEach P ts ds).all (· ≤ reachBytes) = true) (ht : ts[j]? = some T) (hd : ds[j]? = some d)
    (hT : DataW.Trod enc P W base spare held T (.agg cs) d p) (hu : P.underlying T = some (.struct fs)) (hf : fs[0]? = some f) (ho : f.offset = 0) (hs : P.underlying f.type = some .string) (hc : P.cellsOf f.type = 1) (hcs : cs[0]? = some (.string s)) :
    s.size ≤ 140737488351232 := by
  obtain ⟨fuel, hx⟩ := hT
  obtain ⟨xs, n, _, hxd, _, hxl, hfl⟩ := DataW.trod_struct hu hx
  have h0 := hfl 0 f hf
  have hpos : 0 < xs.length := by
    rw [hxl]
    rcases Nat.eq_zero_or_pos fs.size with e | e
    · rw [Array.getElem?_eq_none (by omega)] at hf; cases hf
    · exact e
  rw [List.getElem?_eq_getElem hpos] at h0
  obtain ⟨t, ht0, hx0, _⟩ := DataW.trod_string hs h0
  rw [ho, hc, List.drop_zero] at ht0
  have ets : t = s := by
    have e1 : (Value.agg cs).cells.toList.take 1 = [Value.string t] := ht0
    have e2 : (Value.agg cs).cells.toList[0]? = some (Value.string s) := by simpa [Value.cells] using hcs
    cases hl : (Value.agg cs).cells.toList with
    | nil => rw [hl] at e2; cases e2
    | cons a r => rw [hl] at e1 e2; simp at e1 e2; rw [e1] at e2; injection e2
  subst ets
  injection hxd with hd1 _
  have hw : t.data.toList.length ∈ d.weights P T := by
    rw [hd1]
    simp only [DataW.weights, hu]
    have hm := DataW.weights_mem_each (P := P) (ts := fs.toList.map (·.type)) (ds := xs.map (·.1)) (j := 0) (t := f.type) (d := xs[0].1) (by rw [List.getElem?_map, Array.getElem?_toList, hf]; rfl) (by rw [List.getElem?_map, List.getElem?_eq_getElem hpos]; rfl) t.data.toList.length
    apply hm
    rw [hx0]
    simp [DataW.weights]
  have := List.all_eq_true.1 h _ (DataW.weights_mem_each ht hd _ hw)
  have e : t.data.toList.length = t.size := Array.length_toList
  rw [e] at this
  have hr : reachBytes = 140737488351232 := by decide
  rw [← hr]
  simpa using this
end Go.Recs

/- A law's arguments: products and series, by value and in slices. -/
namespace Go.Proofs.YtiohainnpjikpaaDoor
open Go.ChangeShapes Go.WideShapes Go.ChangeAt Go.RowKit Go.Recs
set_option linter.unusedVariables false
set_option maxRecDepth 100000

theorem prod_leafs : leafs Tryd.prog 2 29 = some prodL := by kernel_rfl
theorem ser_leafs : leafs Tryd.prog 2 24 = some serL := by kernel_rfl
theorem open_prodT {H : Type} {enc : TypeId × Value → H} {W : World} {base b0 : Nat} {spare : Nat → Bool} {held : Bool} {r : Reach} {v : Value} {d : DataW H} {p : List MemPlace}
    (hv : Value.okWide Tryd.prog W r b0 22 v) (h : DataW.Trod enc Tryd.prog W base spare held 22 v d p) :
    ∃ A cap, ∃ l : List QM.Prod, v = .slice A l.length cap ∧ (Prods W A l ∧ l.length ≤ cap) ∧ True := by
  obtain ⟨A, cap, rows, rfl, hR, hk, hc⟩ := open_recs (n := 2) (sz := 7) Tryd.underlying22 prod_leafs (by kernel_rfl) rfl (by omega) hv h
  obtain ⟨l, rfl, hq⟩ := typed (ls := prodL) prodV _ prod_row rows hk
  rw [List.length_map] at hc ⊢
  exact ⟨A, cap, l, rfl, ⟨⟨hR, hq⟩, hc⟩, trivial⟩
theorem open_serT {H : Type} {enc : TypeId × Value → H} {W : World} {base b0 : Nat} {spare : Nat → Bool} {held : Bool} {r : Reach} {v : Value} {d : DataW H} {p : List MemPlace}
    (hv : Value.okWide Tryd.prog W r b0 41 v) (h : DataW.Trod enc Tryd.prog W base spare held 41 v d p) :
    ∃ A cap, ∃ l : List EM.Ser, v = .slice A l.length cap ∧ (Sers W A l ∧ l.length ≤ cap) ∧ True := by
  obtain ⟨A, cap, rows, rfl, hR, hk, hc⟩ := open_recs (n := 2) (sz := 4) Tryd.underlying41 ser_leafs (by kernel_rfl) rfl (by omega) hv h
  obtain ⟨l, rfl, hq⟩ := typed (ls := serL) serV _ ser_row rows hk
  rw [List.length_map] at hc ⊢
  exact ⟨A, cap, l, rfl, ⟨⟨hR, hq⟩, hc⟩, trivial⟩
theorem open_prodV {H : Type} {enc : TypeId × Value → H} {W : World} {base b0 : Nat} {spare : Nat → Bool} {held : Bool} {r : Reach} {v : Value} {d : DataW H} {p : List MemPlace}
    (hv : Value.okWide Tryd.prog W r b0 29 v) (h : DataW.Trod enc Tryd.prog W base spare held 29 v d p) :
    ∃ x : QM.Prod, v = .agg #[.string x.name, .int .i64 x.cur, .int .i64 x.mult, .int .i64 x.tick, .int .i64 x.low, .int .i64 x.high, .bool x.phys] ∧ prodQ x := by
  obtain ⟨cs, rfl, hk⟩ := open_rec (n := 2) Tryd.underlying29 prod_leafs (by kernel_rfl) hv h
  obtain ⟨x, rfl, hq⟩ := prod_row cs hk
  exact ⟨x, rfl, hq⟩
theorem open_serV {H : Type} {enc : TypeId × Value → H} {W : World} {base b0 : Nat} {spare : Nat → Bool} {held : Bool} {r : Reach} {v : Value} {d : DataW H} {p : List MemPlace}
    (hv : Value.okWide Tryd.prog W r b0 24 v) (h : DataW.Trod enc Tryd.prog W base spare held 24 v d p) :
    ∃ x : EM.Ser, v = .agg #[.string x.prod, .int .i64 x.kind, .int .i64 x.expiry, .int .i64 x.strike] ∧ serQ x := by
  obtain ⟨cs, rfl, hk⟩ := open_rec (n := 2) Tryd.underlying24 ser_leafs (by kernel_rfl) hv h
  obtain ⟨x, rfl, hq⟩ := ser_row cs hk
  exact ⟨x, rfl, hq⟩
theorem prod_sized {H : Type} {enc : TypeId × Value → H} {W : World} {base : Nat} {spare : Nat → Bool} {held : Bool} {x : QM.Prod} {d : DataW H} {p : List MemPlace} {ts : List TypeId} {ds : List (DataW H)} {j : Nat}
    (h : (DataW.weightsEach Tryd.prog ts ds).all (· ≤ reachBytes) = true) (ht : ts[j]? = some 29) (hd : ds[j]? = some d)
    (hT : DataW.Trod enc Tryd.prog W base spare held 29 (.agg #[.string x.name, .int .i64 x.cur, .int .i64 x.mult, .int .i64 x.tick, .int .i64 x.low, .int .i64 x.high, .bool x.phys]) d p) : x.name.size ≤ 140737488351232 :=
  first_sized (cs := #[.string x.name, .int .i64 x.cur, .int .i64 x.mult, .int .i64 x.tick, .int .i64 x.low, .int .i64 x.high, .bool x.phys]) h ht hd hT Tryd.underlying29 rfl rfl Tryd.underlying9 (by kernel_rfl) rfl
theorem ser_sized {H : Type} {enc : TypeId × Value → H} {W : World} {base : Nat} {spare : Nat → Bool} {held : Bool} {x : EM.Ser} {d : DataW H} {p : List MemPlace} {ts : List TypeId} {ds : List (DataW H)} {j : Nat}
    (h : (DataW.weightsEach Tryd.prog ts ds).all (· ≤ reachBytes) = true) (ht : ts[j]? = some 24) (hd : ds[j]? = some d)
    (hT : DataW.Trod enc Tryd.prog W base spare held 24 (.agg #[.string x.prod, .int .i64 x.kind, .int .i64 x.expiry, .int .i64 x.strike]) d p) : x.prod.size ≤ 140737488351232 :=
  first_sized (cs := #[.string x.prod, .int .i64 x.kind, .int .i64 x.expiry, .int .i64 x.strike]) h ht hd hT Tryd.underlying24 rfl rfl Tryd.underlying9 (by kernel_rfl) rfl
end Go.Proofs.YtiohainnpjikpaaDoor
