/- Put together: CentsD, ProdC, ProdD, CentsE, CentsF, SumMath2, CentsG, NovF. -/
import Derived.Test.YtafdjiilmogcjaaBun7
import Derived.Test.YtafdjiilmogcjaaBun1
import Derived.Test.YtafdjiilmogcjaaBun4
import Derived.Laws.ResultCell
import Derived.Laws.Rows
import Derived.Test.YtafdjiilmogcjaaBun3
import Derived.Test.YtafdjiilmogcjaaBun6
import Derived.Deep.RegionHeld3
namespace Go.Proofs.Ytafdjiilmogcjaa
open Go.RowKit
end Go.Proofs.Ytafdjiilmogcjaa

/- Contracts of layer 9: Price, Round, Value, the program's and the reference's. -/
namespace Go.Proofs.Ytafdjiilmogcjaa
open Go.RowKit Go.Recs
set_option linter.unusedVariables false

/-- block g is one product -/
def PBox (w : World) (g : Nat) (p : QM.Prod) : Prop := w.heap[g]? = some (.cells #[.string p.name, .int .i64 p.cur, .int .i64 p.mult, .int .i64 p.tick, .int .i64 p.low, .int .i64 p.high, .bool p.phys] 65 (0, 0))
theorem PBox.new (w : World) (p : QM.Prod) : PBox (w.alloc (.cells #[.string p.name, .int .i64 p.cur, .int .i64 p.mult, .int .i64 p.tick, .int .i64 p.low, .int .i64 p.high, .bool p.phys] 65)) w.heap.size p := heap_alloc_new w _
theorem PBox.below {w w' : World} {g B : Nat} {p : QM.Prod} (h : PBox w g p) (hb : Below B w w') (hg : g < B) : PBox w' g p := (hb.block g hg).trans h
theorem PBox.lt {w : World} {g : Nat} {p : QM.Prod} (h : PBox w g p) : g < w.heap.size := lt_of_block h
theorem PBox.cells {w : World} {g : Nat} {p : QM.Prod} (h : PBox w g p) :
    w.cell? ⟨g, 0, none⟩ = some (.string p.name) ∧ w.cell? ⟨g, 1, none⟩ = some (.int .i64 p.cur) ∧ w.cell? ⟨g, 2, none⟩ = some (.int .i64 p.mult) ∧ w.cell? ⟨g, 3, none⟩ = some (.int .i64 p.tick) ∧
    w.cell? ⟨g, 4, none⟩ = some (.int .i64 p.low) ∧ w.cell? ⟨g, 5, none⟩ = some (.int .i64 p.high) ∧ w.cell? ⟨g, 6, none⟩ = some (.bool p.phys) := by
  unfold PBox at h
  simp [World.cell?, h]
theorem new_lt (w : World) (o : Obj) : w.heap.size < (w.alloc o).heap.size := by simp

set_option maxHeartbeats 2000000 in
theorem qvalue_any (p : QM.Prod) (x q : Int) (hq : prodQ p) (w : World) :
    Calls Try.prog 51 #[prodA p, .int .i64 x, .int .i64 q] w fun e w' => e = .returned (.tuple #[.int .i64 (QM.valueN p x q), .int .i64 (QM.valueE p x q)]) ∧ Below w.heap.size w w' := by
  have C0 := Lib.hid (fun ww => qcheck_any p hq ww)
  have HB := Lib.hid ((Below.refl w.heap.size w).alloc (Nat.le_refl _) (.cells #[.string p.name, .int .i64 p.cur, .int .i64 p.mult, .int .i64 p.tick, .int .i64 p.low, .int .i64 p.high, .bool p.phys] 65))
  have HP := Lib.hid (PBox.new w p)
  have HL := Lib.hid (new_lt w (.cells #[.string p.name, .int .i64 p.cur, .int .i64 p.mult, .int .i64 p.tick, .int .i64 p.low, .int .i64 p.high, .bool p.phys] 65))
  by_cases hc : QM.checkE p = 0
  · have C1 := Lib.hid (fun ww => qwithin_any x (-33554432) 33554432 ww)
    have C2 := Lib.hid (fun ww => qwithin_any q (-1048576) 1048576 ww)
    have K1 := Lib.hid (@QM.vl_out p x q hc)
    have K2 := Lib.hid (@QM.vl_qty p x q hc)
    have K3 := Lib.hid (@QM.vl_ok p x q hc)
    have KR := Lib.hid (@QM.value_range p x q)
    rw [hc] at C0
    generalize QM.valueE p x q = y at *
    generalize QM.valueN p x q = z at *
    generalize QM.within x (-33554432) 33554432 = b1 at *
    generalize QM.within q (-1048576) 1048576 = b2 at *
    clear hc hq
    go_enter Try.func51, Try.ntmps51
    go_wp2_with fail
    refine (C0.out _).mono ?_
    rintro e w1 ⟨rfl, b⟩
    have HB1 := Lib.hid (HB.out.trans (b.mono HB.out.size))
    obtain ⟨c0, c1, c2, c3, c4, c5, c6⟩ := (HP.out.below b HL.out).cells
    clear b HB HP HL
    go_wp2_with fail
    refine (C1.out _).mono ?_
    rintro e w2 ⟨rfl, rfl⟩
    cases b1
    · have HX := Lib.hid (K1.out (by trivial))
      go_wp2_with fail
      go_ret2
      exact ⟨by rw [HX.out.1, HX.out.2]; rfl, HB1.out⟩
    go_wp2_with fail
    refine (C2.out _).mono ?_
    rintro e w2 ⟨rfl, rfl⟩
    cases b2
    · have HX := Lib.hid (K2.out (by trivial) (by trivial))
      go_wp2_with fail
      go_ret2
      exact ⟨by rw [HX.out.1, HX.out.2]; rfl, HB1.out⟩
    have HX := Lib.hid (K3.out (by trivial) (by trivial))
    obtain ⟨r1, r2⟩ := KR.out HX.out.1
    have hw1 : wrap64 (x * p.mult) = x * p.mult := IntWalk.wrap64_in _ (by omega)
    have hw2 : wrap64 (x * p.mult * q) = x * p.mult * q := IntWalk.wrap64_in _ (by omega)
    clear r1 r2
    go_wp2_with fail
    go_ret2
    exact ⟨by rw [HX.out.1, HX.out.2]; simp only [hw2]; rfl, HB1.out⟩
  · obtain ⟨e1, e2⟩ := @QM.vl_bad p x q hc
    rw [e1, e2]; clear e1 e2
    have hd : (QM.checkE p != 0) = true := by simpa using hc
    generalize QM.checkE p = y at *
    clear hc hq HP HL
    go_enter Try.func51, Try.ntmps51
    go_wp2_with fail
    refine (C0.out _).mono ?_
    rintro e w1 ⟨rfl, b⟩
    have HB1 := Lib.hid (HB.out.trans (b.mono HB.out.size))
    clear b
    go_wp2_with fail
    go_ret2
    exact ⟨rfl, HB1.out⟩

set_option maxHeartbeats 2000000 in
theorem rqvalue_any (p : QM.Prod) (x q : Int) (hq : prodQ p) (w : World) :
    Calls Try.prog 53 #[prodA p, .int .i64 x, .int .i64 q] w fun e w' => e = .returned (.tuple #[.int .i64 (QM.valueN p x q), .int .i64 (QM.valueE p x q)]) ∧ Below w.heap.size w w' := by
  have C0 := Lib.hid (fun ww => rqcheck_any p hq ww)
  have HB := Lib.hid ((Below.refl w.heap.size w).alloc (Nat.le_refl _) (.cells #[.string p.name, .int .i64 p.cur, .int .i64 p.mult, .int .i64 p.tick, .int .i64 p.low, .int .i64 p.high, .bool p.phys] 65))
  have HP := Lib.hid (PBox.new w p)
  have HL := Lib.hid (new_lt w (.cells #[.string p.name, .int .i64 p.cur, .int .i64 p.mult, .int .i64 p.tick, .int .i64 p.low, .int .i64 p.high, .bool p.phys] 65))
  by_cases hc : QM.checkE p = 0
  · have C1 := Lib.hid (fun ww => rqwithin_any x (-33554432) 33554432 ww)
    have C2 := Lib.hid (fun ww => rqwithin_any q (-1048576) 1048576 ww)
    have K1 := Lib.hid (@QM.vl_out p x q hc)
    have K2 := Lib.hid (@QM.vl_qty p x q hc)
    have K3 := Lib.hid (@QM.vl_ok p x q hc)
    have KR := Lib.hid (@QM.value_range p x q)
    rw [hc] at C0
    generalize QM.valueE p x q = y at *
    generalize QM.valueN p x q = z at *
    generalize QM.within x (-33554432) 33554432 = b1 at *
    generalize QM.within q (-1048576) 1048576 = b2 at *
    clear hc hq
    go_enter Try.func53, Try.ntmps53
    go_wp2_with fail
    refine (C0.out _).mono ?_
    rintro e w1 ⟨rfl, b⟩
    have HB1 := Lib.hid (HB.out.trans (b.mono HB.out.size))
    obtain ⟨c0, c1, c2, c3, c4, c5, c6⟩ := (HP.out.below b HL.out).cells
    clear b HB HP HL
    go_wp2_with fail
    refine (C1.out _).mono ?_
    rintro e w2 ⟨rfl, rfl⟩
    cases b1
    · have HX := Lib.hid (K1.out (by trivial))
      go_wp2_with fail
      go_ret2
      exact ⟨by rw [HX.out.1, HX.out.2]; rfl, HB1.out⟩
    go_wp2_with fail
    refine (C2.out _).mono ?_
    rintro e w2 ⟨rfl, rfl⟩
    cases b2
    · have HX := Lib.hid (K2.out (by trivial) (by trivial))
      go_wp2_with fail
      go_ret2
      exact ⟨by rw [HX.out.1, HX.out.2]; rfl, HB1.out⟩
    have HX := Lib.hid (K3.out (by trivial) (by trivial))
    obtain ⟨r1, r2⟩ := KR.out HX.out.1
    have hw1 : wrap64 (x * p.mult) = x * p.mult := IntWalk.wrap64_in _ (by omega)
    have hw2 : wrap64 (x * p.mult * q) = x * p.mult * q := IntWalk.wrap64_in _ (by omega)
    clear r1 r2
    go_wp2_with fail
    go_ret2
    exact ⟨by rw [HX.out.1, HX.out.2]; simp only [hw2]; rfl, HB1.out⟩
  · obtain ⟨e1, e2⟩ := @QM.vl_bad p x q hc
    rw [e1, e2]; clear e1 e2
    have hd : (QM.checkE p != 0) = true := by simpa using hc
    generalize QM.checkE p = y at *
    clear hc hq HP HL
    go_enter Try.func53, Try.ntmps53
    go_wp2_with fail
    refine (C0.out _).mono ?_
    rintro e w1 ⟨rfl, b⟩
    have HB1 := Lib.hid (HB.out.trans (b.mono HB.out.size))
    clear b
    go_wp2_with fail
    go_ret2
    exact ⟨rfl, HB1.out⟩
end Go.Proofs.Ytafdjiilmogcjaa

/- Contracts of layer 9: Find. -/
namespace Go.Proofs.Ytafdjiilmogcjaa
open Go.RowKit Go.Recs
set_option linter.unusedVariables false

theorem prod_under : Try.prog.underlying 65 = some (.struct (Try.prog.fieldsOf 65)) := by kernel_rfl
theorem prod_size : (Try.prog.info? 65).map (·.size) = some 7 := by kernel_rfl
theorem results_prod {fn : Func} {p u : Tmp} (h : fn.results = #[.cell p 65, .tmp u]) (tmps : Array Value) (w : World) (g : Nat) (x : QM.Prod)
    (hp : tmps.getD p undef = .pointer (some ⟨g, 0, none⟩)) (hb : PBox w g x) : (results fn tmps).run Try.prog w = .ok (.tuple #[prodA x, tmps.getD u undef]) w := by
  rw [results_cell_tmp h, hp]
  simp only [asAddr, Sem.run_pure, Result.andThen_ok]
  rw [run_loadVar_row w g 65 65 _ (0, 0) _ hb prod_under rfl prod_size]
  rfl
section
variable {w w' : World} {g : Nat} {p : QM.Prod}
theorem PBox.drewN (h : PBox w g p) (n : Nat) : PBox (w.drewN n) g p := h
theorem PBox.drew (h : PBox w g p) : PBox w.drew g p := h
theorem PBox.alloc (h : PBox w g p) (o : Obj) : PBox (w.alloc o) g p := (Below.heap_alloc w o g h.lt).trans h
theorem PBox.frozen (h : PBox w g p) (i : Nat) : w.frozen? ⟨g, i, none⟩ = false := by unfold PBox at h; simp [World.frozen?, h]
theorem PBox.put (h : PBox w g p) (x : QM.Prod) : PBox (((((((w.setCell ⟨g, 0, none⟩ (.string x.name)).setCell ⟨g, 1, none⟩ (.int .i64 x.cur)).setCell ⟨g, 2, none⟩ (.int .i64 x.mult)).setCell ⟨g, 3, none⟩ (.int .i64 x.tick)).setCell ⟨g, 4, none⟩ (.int .i64 x.low)).setCell ⟨g, 5, none⟩ (.int .i64 x.high)).setCell ⟨g, 6, none⟩ (.bool x.phys)) g x := by
  unfold PBox at h ⊢
  simp [World.setCell, Array.getElem?_modify, h]
theorem PBox.put_below {B : Nat} {a : World} (h : Below B a w) (hB : B ≤ g) (x : QM.Prod) : Below B a (((((((w.setCell ⟨g, 0, none⟩ (.string x.name)).setCell ⟨g, 1, none⟩ (.int .i64 x.cur)).setCell ⟨g, 2, none⟩ (.int .i64 x.mult)).setCell ⟨g, 3, none⟩ (.int .i64 x.tick)).setCell ⟨g, 4, none⟩ (.int .i64 x.low)).setCell ⟨g, 5, none⟩ (.int .i64 x.high)).setCell ⟨g, 6, none⟩ (.bool x.phys)) :=
  ((((((h.setCell hB _).setCell hB _).setCell hB _).setCell hB _).setCell hB _).setCell hB _).setCell hB _
end

def firstP (l : List QM.Prod) (s : ByteArray) : QM.Prod × Bool := match l.find? (fun p => p.name.toList == s.toList) with | some p => (p, true) | none => (QM.zero, false)
theorem first_yes {l : List QM.Prod} {s : ByteArray} {k : Nat} (hk : k < l.length) (h : ∀ j, j < k → ((QM.pAt l j).name.toList == s.toList) = false) (h2 : ((QM.pAt l k).name.toList == s.toList) = true) : firstP l s = (QM.pAt l k, true) := by
  have e : l.find? (fun p => p.name.toList == s.toList) = some (QM.pAt l k) := by
    rw [List.find?_eq_some_iff_getElem]
    refine ⟨h2, k, hk, by simp [QM.pAt, List.getD, hk], fun j hj => ?_⟩
    have := h j hj
    have hjl : j < l.length := by omega
    simp only [QM.pAt, List.getD, List.getElem?_eq_getElem hjl, Option.getD_some] at this
    rw [this]; rfl
  unfold firstP; rw [e]
theorem first_no {l : List QM.Prod} {s : ByteArray} (h : ∀ j, j < l.length → ((QM.pAt l j).name.toList == s.toList) = false) : firstP l s = (QM.zero, false) := by
  have e : l.find? (fun p => p.name.toList == s.toList) = none := by
    rw [List.find?_eq_none]
    intro a ha
    obtain ⟨j, hj, rfl⟩ := List.getElem_of_mem ha
    have := h j hj
    simp only [QM.pAt, List.getD, List.getElem?_eq_getElem hj, Option.getD_some] at this
    simp [this]
  unfold firstP; rw [e]

end Go.Proofs.Ytafdjiilmogcjaa

namespace Go.Proofs.Ytafdjiilmogcjaa
open Go.RowKit
end Go.Proofs.Ytafdjiilmogcjaa

namespace Go.Proofs.Ytafdjiilmogcjaa
open Go.RowKit

set_option maxHeartbeats 1000000 in
theorem sum_any (A : Option Addr) (zs : List Int) (cap : Nat) (w : World) (hI : Ints w A zs) :
    Calls Try.prog 52 #[.slice A zs.length cap] w fun e w' => e = .returned (.tuple #[.int .i64 (CM.sumN zs), .int .i64 (CM.sumE zs)]) ∧ w = w' := by
  have hlen := hI.len
  go_enter Try.func52, Try.ntmps52
  go_wp2
  go_loop [4, 5, 10] (fun f p i => ∃ k : Nat, ∃ x y : Int, k ≤ zs.length ∧ i = .int .i64 k ∧ f = .int .i64 x ∧ p = .int .i64 y ∧ CM.SInv zs k x y) (fun _ _ i => zs.length - (intOf i).toNat)
  case atStart => exact ⟨0, 0, 0, by omega, rfl, rfl, rfl, CM.SInv.start zs⟩
  case round =>
    obtain ⟨k, x, y, hk, rfl, rfl, rfl, hS⟩ := hrel
    obtain ⟨p1, p2, f1, f2⟩ := hS.bounds
    by_cases hlt : k < zs.length
    · obtain ⟨b, off, v, rfl, hb, hcell, HV, v1, v2⟩ := hI.get hlt
      have HI := Lib.hid hI
      clear hI
      cases hf : CM.fits v
      · have HE := Lib.hid (CM.allFit_no hlt (by rw [HV.out]; exact hf))
        go_wp2_with (go_at_call 70; refine (fits_any _ _).mono ?_; rintro e w' ⟨rfl, rfl⟩)
        go_ret2
        exact ⟨by rw [HE.out.1, HE.out.2]; rfl, rfl⟩
      · obtain ⟨g1, g2⟩ := CM.fits_true.1 hf
        have HS := Lib.hid (fun f' p' => @CM.SInv.step zs k x y f' p' hS hlt (by rw [HV.out]; exact hf))
        rw [HV.out] at HS
        by_cases c1 : 1152921504606846976 ≤ y + v
        · go_wp2_with (go_at_call 70; refine (fits_any _ _).mono ?_; rintro e w' ⟨rfl, rfl⟩)
          go_round
          case rel => exact ⟨k + 1, _, _, by omega, by go_num, rfl, rfl, HS.out _ _ (by omega) (by omega) (by omega) (by omega) (by omega)⟩
          case measure => simp [intOf]; omega
        · by_cases c2 : y + v ≤ -1152921504606846976
          · go_wp2_with (go_at_call 70; refine (fits_any _ _).mono ?_; rintro e w' ⟨rfl, rfl⟩)
            go_round
            case rel => exact ⟨k + 1, _, _, by omega, by go_num, rfl, rfl, HS.out _ _ (by omega) (by omega) (by omega) (by omega) (by omega)⟩
            case measure => simp [intOf]; omega
          · go_wp2_with (go_at_call 70; refine (fits_any _ _).mono ?_; rintro e w' ⟨rfl, rfl⟩)
            go_round
            case rel => exact ⟨k + 1, _, _, by omega, by go_num, rfl, rfl, HS.out _ _ (by omega) (by omega) (by omega) (by omega) (by omega)⟩
            case measure => simp [intOf]; omega
    · obtain rfl : k = zs.length := by omega
      obtain ⟨d1, d2⟩ := hS.done
      have D1 := Lib.hid d1; have D2 := Lib.hid d2
      clear d1 d2
      by_cases c1 : 1 < x
      · have HE := Lib.hid (D1.out (.inl c1))
        go_wp2
        go_ret2
        exact ⟨by rw [HE.out.1, HE.out.2]; rfl, rfl⟩
      · by_cases c2 : x < -1
        · have HE := Lib.hid (D1.out (.inr c2))
          go_wp2
          go_ret2
          exact ⟨by rw [HE.out.1, HE.out.2]; rfl, rfl⟩
        · go_wp2_with (go_at_call 71; refine (fitting_any _ _).mono ?_; rintro e w' ⟨rfl, rfl⟩)
          go_ret2
          exact ⟨by rw [D2.out.1, D2.out.2]; rfl, rfl⟩

theorem ints_three (x y z : Int) (w : World) (hx : -9223372036854775808 ≤ x ∧ x ≤ 9223372036854775807) (hy : -9223372036854775808 ≤ y ∧ y ≤ 9223372036854775807) (hz : -9223372036854775808 ≤ z ∧ z ≤ 9223372036854775807) :
    Ints (w.alloc (.cells #[.int .i64 x, .int .i64 y, .int .i64 z] 3)) (some ⟨w.heap.size, 0, none⟩) [x, y, z] := by
  refine ⟨by unfold maxLen; simp, by simp; omega, .inr ⟨_, _, rfl, by simp, fun i hi => ?_⟩⟩
  rw [Nat.zero_add]
  have : i = 0 ∨ i = 1 ∨ i = 2 := by simp at hi; omega
  rcases this with rfl | rfl | rfl <;> simp

end Go.Proofs.Ytafdjiilmogcjaa

namespace CM
open LM

/-- what the reference's Sum holds after k rounds -/
def RSInv (l : List Int) (k : Nat) (high low : Int) : Prop :=
  allFit (l.take k) = true ∧ high * 1073741824 + low = tot (l.take k) ∧ -(k * 1073741824 : Int) ≤ high ∧ high ≤ k * 1073741824 ∧ -(k * 1073741824 : Int) ≤ low ∧ low ≤ k * 1073741824

theorem RSInv.start (l : List Int) : RSInv l 0 0 0 := ⟨rfl, rfl, by omega, by omega, by omega, by omega⟩
theorem RSInv.bounds {l : List Int} {k : Nat} {high low : Int} (h : RSInv l k high low) :
    -(k * 1073741824 : Int) ≤ high ∧ high ≤ k * 1073741824 ∧ -(k * 1073741824 : Int) ≤ low ∧ low ≤ k * 1073741824 := h.2.2

theorem tparts (v : Int) (h1 : -1152921504606846976 ≤ v) (h2 : v ≤ 1152921504606846976) :
    -1073741824 ≤ v.tdiv 1073741824 ∧ v.tdiv 1073741824 ≤ 1073741824 ∧ -1073741824 < v.tmod 1073741824 ∧ v.tmod 1073741824 < 1073741824 ∧ v.tdiv 1073741824 * 1073741824 + v.tmod 1073741824 = v := by
  have e := Int.mul_tdiv_add_tmod v 1073741824
  by_cases h0 : 0 ≤ v
  · have a := Int.tdiv_eq_ediv_of_nonneg (b := 1073741824) h0
    have b := Int.tmod_eq_emod_of_nonneg (b := 1073741824) h0
    rw [a, b] at *
    omega
  · have a : v.tdiv 1073741824 = -((-v) / 1073741824) := by
      rw [← Int.tdiv_eq_ediv_of_nonneg (by omega), Int.neg_tdiv]; omega
    have b : v.tmod 1073741824 = -((-v) % 1073741824) := by
      rw [← Int.tmod_eq_emod_of_nonneg (by omega), Int.neg_tmod]; omega
    rw [a, b] at *
    omega

theorem RSInv.step {l : List Int} {k : Nat} {high low : Int} (h : RSInv l k high low) (hk : k < l.length) (hf : fits (l.getD k 0) = true) :
    RSInv l (k + 1) (high + (l.getD k 0).tdiv 1073741824) (low + (l.getD k 0).tmod 1073741824) := by
  obtain ⟨a1, a2, a3, a4, a5, a6⟩ := h
  obtain ⟨f1, f2⟩ := fits_true.1 hf
  obtain ⟨t1, t2, t3, t4, t5⟩ := tparts _ f1 f2
  refine ⟨by rw [allFit_take_succ l k hk, a1, hf]; rfl, by rw [tot_take_succ l k hk, ← a2]; omega, ?_, ?_, ?_, ?_⟩ <;> (push_cast; omega)

/-- what is told at the end -/
theorem RSInv.done {l : List Int} {high low h' l' : Int} (h : RSInv l l.length high low) (hl : l.length ≤ 4294967296)
    (eh : h' = high + low.tdiv 1073741824) (el : l' = low.tmod 1073741824) :
    (h' < -1073741825 ∨ 1073741825 < h' → sumN l = 0 ∧ sumE l = 3) ∧ sumN l = fitN (h' * 1073741824 + l') ∧ sumE l = fitE (h' * 1073741824 + l') ∧
      -1073741824 < l' ∧ l' < 1073741824 ∧ -9223372036854775808 ≤ h' ∧ h' ≤ 9223372036854775807 := by
  obtain ⟨a1, a2, a3, a4, a5, a6⟩ := h
  rw [List.take_length] at a1 a2
  obtain ⟨s1, s2⟩ := sum_yes a1
  have hlow : -9223372036854775808 ≤ low ∧ low ≤ 9223372036854775807 := by omega
  have hb : -8589934592 ≤ low.tdiv 1073741824 ∧ low.tdiv 1073741824 ≤ 8589934592 ∧ -1073741824 < low.tmod 1073741824 ∧ low.tmod 1073741824 < 1073741824 ∧ low.tdiv 1073741824 * 1073741824 + low.tmod 1073741824 = low := by
    have e := Int.mul_tdiv_add_tmod low 1073741824
    by_cases h0 : 0 ≤ low
    · have a := Int.tdiv_eq_ediv_of_nonneg (b := 1073741824) h0
      have b := Int.tmod_eq_emod_of_nonneg (b := 1073741824) h0
      rw [a, b] at *
      omega
    · have a : low.tdiv 1073741824 = -((-low) / 1073741824) := by
        rw [← Int.tdiv_eq_ediv_of_nonneg (by omega), Int.neg_tdiv]; omega
      have b : low.tmod 1073741824 = -((-low) % 1073741824) := by
        rw [← Int.tmod_eq_emod_of_nonneg (by omega), Int.neg_tmod]; omega
      rw [a, b] at *
      omega
  obtain ⟨b1, b2, b3, b4, b5⟩ := hb
  have e : h' * 1073741824 + l' = tot l := by rw [← a2, eh, el]; omega
  rw [s1, s2, e]
  refine ⟨fun hc => ?_, rfl, rfl, by omega, by omega, by omega, by omega⟩
  have : fits (tot l) = false := by rw [fits_false, ← e]; omega
  simp [fitN, fitE, this]
end CM

namespace Go.Proofs.Ytafdjiilmogcjaa
open Go.RowKit

set_option maxHeartbeats 1000000 in
theorem rsum_any (A : Option Addr) (zs : List Int) (cap : Nat) (w : World) (hI : Ints w A zs) (hlen : zs.length ≤ 4294967296) :
    Calls Try.prog 54 #[.slice A zs.length cap] w fun e w' => e = .returned (.tuple #[.int .i64 (CM.sumN zs), .int .i64 (CM.sumE zs)]) ∧ w = w' := by
  go_enter Try.func54, Try.ntmps54
  go_wp2
  go_loop [4, 5, 6] (fun f p i => ∃ k : Nat, ∃ x y : Int, k ≤ zs.length ∧ i = .int .i64 k ∧ f = .int .i64 x ∧ p = .int .i64 y ∧ CM.RSInv zs k x y) (fun _ _ i => zs.length - (intOf i).toNat)
  case atStart => exact ⟨0, 0, 0, by omega, rfl, rfl, rfl, CM.RSInv.start zs⟩
  case round =>
    obtain ⟨k, x, y, hk, rfl, rfl, rfl, hS⟩ := hrel
    obtain ⟨p1, p2, f1, f2⟩ := hS.bounds
    by_cases hlt : k < zs.length
    · obtain ⟨b, off, v, rfl, hb, hcell, HV, v1, v2⟩ := hI.get hlt
      have HI := Lib.hid hI
      clear hI
      cases hf : CM.fits v
      · have HE := Lib.hid (CM.allFit_no hlt (by rw [HV.out]; exact hf))
        go_wp2_with (go_at_call 74; refine (rfits_any _ _).mono ?_; rintro e w' ⟨rfl, rfl⟩)
        go_ret2
        exact ⟨by rw [HE.out.1, HE.out.2]; rfl, rfl⟩
      · obtain ⟨g1, g2⟩ := CM.fits_true.1 hf
        obtain ⟨t1, t2, t3, t4, t5⟩ := CM.tparts v g1 g2
        clear t5
        have HS := Lib.hid (hS.step hlt (by rw [HV.out]; exact hf))
        rw [HV.out] at HS
        go_wp2_with (go_at_call 74; refine (rfits_any _ _).mono ?_; rintro e w' ⟨rfl, rfl⟩)
        go_round
        case rel => exact ⟨k + 1, _, _, by omega, by go_num, rfl, rfl, HS.out⟩
        case measure => simp [intOf]; omega
    · obtain rfl : k = zs.length := by omega
      obtain ⟨d1, d2, d3, d4, d5, d6, d7⟩ := hS.done hlen rfl rfl
      have D1 := Lib.hid d1; have D2 := Lib.hid d2; have D3 := Lib.hid d3
      clear d1 d2 d3
      by_cases c1 : x + y.tdiv 1073741824 < -1073741825
      · have HE := Lib.hid (D1.out (.inl c1))
        go_wp2
        go_ret2
        exact ⟨by rw [HE.out.1, HE.out.2]; rfl, rfl⟩
      · by_cases c2 : 1073741825 < x + y.tdiv 1073741824
        · have HE := Lib.hid (D1.out (.inr c2))
          go_wp2
          go_ret2
          exact ⟨by rw [HE.out.1, HE.out.2]; rfl, rfl⟩
        · cases hf : CM.fits ((x + y.tdiv 1073741824) * 1073741824 + y.tmod 1073741824)
          · have E1 : Hid (CM.sumN zs = 0) := by rw [D2.out]; simp [CM.fitN, hf, Hid]
            have E2 : Hid (CM.sumE zs = 3) := by rw [D3.out]; simp [CM.fitE, hf, Hid]
            go_wp2_with (go_at_call 74; refine (rfits_any _ _).mono ?_; rintro e w' ⟨rfl, rfl⟩)
            go_ret2
            exact ⟨by rw [E1.out, E2.out]; rfl, rfl⟩
          · have E1 : Hid (CM.sumN zs = (x + y.tdiv 1073741824) * 1073741824 + y.tmod 1073741824) := by rw [D2.out]; simp [CM.fitN, hf, Hid]
            have E2 : Hid (CM.sumE zs = 0) := by rw [D3.out]; simp [CM.fitE, hf, Hid]
            go_wp2_with (go_at_call 74; refine (rfits_any _ _).mono ?_; rintro e w' ⟨rfl, rfl⟩)
            go_ret2
            exact ⟨by rw [E1.out, E2.out]; rfl, rfl⟩
end Go.Proofs.Ytafdjiilmogcjaa

/- Contracts of layer 13: what legs are worth. -/
namespace Go.Proofs.Ytafdjiilmogcjaa
open Go.RowKit Go.Recs
set_option linter.unusedVariables false
set_option linter.unusedSimpArgs false
theorem own_empty (w : World) (B : Nat) (hB : B ≤ w.heap.size) : Own (w.alloc (.cells #[] 3)) B (.slice (some ⟨w.heap.size, 0, none⟩) 0 0) [] := World.ownsRow_lit w #[] 0 hB (Nat.zero_le _) (by simp)
theorem worth_range {p : QM.Prod} {l : List NM.Leg} : ∀ n ∈ NM.worth p l, -9223372036854775808 ≤ n ∧ n ≤ 9223372036854775807 := by
  intro n hn
  obtain ⟨x, hx, rfl⟩ := List.mem_map.1 hn
  unfold QM.valueN
  split
  · rename_i h
    have := (QM.value_range h).2
    omega
  · omega
theorem worth_len (p : QM.Prod) (l : List NM.Leg) : (NM.worth p l).length = l.length := by simp [NM.worth]
theorem first_now {p : QM.Prod} {l : List NM.Leg} (h : ∀ j, j < l.length → QM.valueE p (NM.lAt l j).price (NM.lAt l j).qty = 0) : NM.firstE p l = 0 := NM.first_ok h
theorem worth_succ {p : QM.Prod} {l : List NM.Leg} {k : Nat} (h : k < l.length) : NM.worth p (l.take (k + 1)) = NM.worth p (l.take k) ++ [QM.valueN p (NM.lAt l k).price (NM.lAt l k).qty] := by
  rw [NM.take_succ h, NM.worth_append, NM.lAt_get h]; rfl
theorem cost_no {l : List NM.Leg} {am an : ByteArray} {p : QM.Prod} {s : EM.Ser} (h : ¬ NM.checkE l = 0) : NM.costN l am an p s = 0 ∧ NM.costE l am an p s = NM.checkE l := by
  unfold NM.costN NM.costE; rw [if_neg h, if_neg h]; exact ⟨rfl, rfl⟩
theorem cost_bad {l : List NM.Leg} {am an : ByteArray} {p : QM.Prod} {s : EM.Ser} {r : Int} (h : NM.checkE l = 0) (h1 : NM.firstE p (l.filter (NM.mine am an s)) = r) (h2 : ¬ r = 0) : NM.costN l am an p s = 0 ∧ NM.costE l am an p s = r := by
  unfold NM.costN NM.costE; rw [if_pos h, if_pos h, h1, if_neg h2, if_neg h2]; exact ⟨rfl, rfl⟩
theorem cost_ok {l : List NM.Leg} {am an : ByteArray} {p : QM.Prod} {s : EM.Ser} (h : NM.checkE l = 0) (h1 : NM.firstE p (l.filter (NM.mine am an s)) = 0) : NM.costN l am an p s = CM.sumN (NM.worth p (l.filter (NM.mine am an s))) ∧ NM.costE l am an p s = CM.sumE (NM.worth p (l.filter (NM.mine am an s))) := by
  unfold NM.costN NM.costE; rw [if_pos h, if_pos h, if_pos h1, if_pos h1]; exact ⟨rfl, rfl⟩

set_option maxHeartbeats 8000000 in
set_option maxRecDepth 100000 in
theorem ncost_any (A : Option Addr) (l : List NM.Leg) (n cap : Nat) (hn : n = l.length) (am an : ByteArray) (p : QM.Prod) (s : EM.Ser) (w : World) (hI : Legs w A l) (hp : prodQ p) :
    Calls Try.prog 30 #[.slice A n cap, kA am an, prodA p, serA s] w fun e w' => e = .returned (.tuple #[.int .i64 (NM.costN l am an p s), .int .i64 (NM.costE l am an p s)]) ∧ Below w.heap.size w w' := by
  subst hn
  have hlen := hI.len
  have HB0 := Lib.hid (below_al (below_al (below_al (Below.refl w.heap.size w) (.cells (kC am an) 26)) (.cells #[.string p.name, .int .i64 p.cur, .int .i64 p.mult, .int .i64 p.tick, .int .i64 p.low, .int .i64 p.high, .bool p.phys] 65)) (.cells #[.string s.prod, .int .i64 s.kind, .int .i64 s.expiry, .int .i64 s.strike] 43))
  have HG0 : Hid (CB (((w.alloc (.cells (kC am an) 26)).alloc (.cells #[.string p.name, .int .i64 p.cur, .int .i64 p.mult, .int .i64 p.tick, .int .i64 p.low, .int .i64 p.high, .bool p.phys] 65)).alloc (.cells #[.string s.prod, .int .i64 s.kind, .int .i64 s.expiry, .int .i64 s.strike] 43)) w.heap.size 26 (kC am an)) := Lib.hid (((CB.new w 26 (kC am an)).alloc _).alloc _)
  have HP0 : Hid (PBox (((w.alloc (.cells (kC am an) 26)).alloc (.cells #[.string p.name, .int .i64 p.cur, .int .i64 p.mult, .int .i64 p.tick, .int .i64 p.low, .int .i64 p.high, .bool p.phys] 65)).alloc (.cells #[.string s.prod, .int .i64 s.kind, .int .i64 s.expiry, .int .i64 s.strike] 43)) (w.heap.size + 1) p) := Lib.hid (by
    have h := PBox.new (w.alloc (.cells (kC am an) 26)) p
    rw [show (w.alloc (.cells (kC am an) 26)).heap.size = w.heap.size + 1 by simp] at h
    exact h.alloc _)
  have HJ0 : Hid (SBox (((w.alloc (.cells (kC am an) 26)).alloc (.cells #[.string p.name, .int .i64 p.cur, .int .i64 p.mult, .int .i64 p.tick, .int .i64 p.low, .int .i64 p.high, .bool p.phys] 65)).alloc (.cells #[.string s.prod, .int .i64 s.kind, .int .i64 s.expiry, .int .i64 s.strike] 43)) (w.heap.size + 1 + 1) s) := Lib.hid (by
    have h := SBox.new ((w.alloc (.cells (kC am an) 26)).alloc (.cells #[.string p.name, .int .i64 p.cur, .int .i64 p.mult, .int .i64 p.tick, .int .i64 p.low, .int .i64 p.high, .bool p.phys] 65)) s
    rwa [show ((w.alloc (.cells (kC am an) 26)).alloc (.cells #[.string p.name, .int .i64 p.cur, .int .i64 p.mult, .int .i64 p.tick, .int .i64 p.low, .int .i64 p.high, .bool p.phys] 65)).heap.size = w.heap.size + 1 + 1 by simp] at h)
  have C1 := Lib.hid (ncheck_any A l l.length cap rfl _ (hI.below HB0.out))
  have HI := Lib.hid (hI.below HB0.out)
  have HQ := Lib.hid hI.2
  clear hI
  by_cases hc : NM.checkE l = 0
  · have HC := Lib.hid hc
    have hm1 := (NM.check_inv hc).1
    have C2 := Lib.hid (fun ww h => nheld_any A l l.length cap rfl am an s ww h (by omega))
    have C3 := Lib.hid (fun x q ww => qvalue_any p x q hp ww)
    have KS := Lib.hid (fun k => @worth_succ p (l.filter (NM.mine am an s)) k)
    have KF := Lib.hid (fun k => @NM.first_bad p (l.filter (NM.mine am an s)) k)
    have KO := Lib.hid (@NM.first_ok p (l.filter (NM.mine am an s)))
    have KB : Hid (∀ r, NM.firstE p (l.filter (NM.mine am an s)) = r → ¬ r = 0 → NM.costN l am an p s = 0 ∧ NM.costE l am an p s = r) := Lib.hid (fun r h1 h2 => cost_bad HC.out h1 h2)
    have KG : Hid (NM.firstE p (l.filter (NM.mine am an s)) = 0 → NM.costN l am an p s = CM.sumN (NM.worth p (l.filter (NM.mine am an s))) ∧ NM.costE l am an p s = CM.sumE (NM.worth p (l.filter (NM.mine am an s)))) := Lib.hid (fun h => cost_ok HC.out h)
    have KLN : Hid ((l.filter (NM.mine am an s)).length ≤ 2048) := Lib.hid (Nat.le_trans (List.length_filter_le _ _) hm1)
    have KT : Hid ((l.filter (NM.mine am an s)).take (l.filter (NM.mine am an s)).length = l.filter (NM.mine am an s)) := Lib.hid (by rw [List.take_length])
    have HFL := Lib.hid (fun ww B v h => @filt_legs ww B v l (NM.mine am an s) h HQ.out)
    rw [hc] at C1
    clear hc hp HQ hm1
    generalize NM.costN l am an p s = cn at *
    generalize NM.costE l am an p s = ce at *
    go_enter Try.func30, Try.ntmps30
    go_wp2_with fail
    refine C1.out.mono ?_
    rintro e w1 ⟨rfl, b1⟩
    have HB1 := Lib.hid (HB0.out.trans (b1.mono HB0.out.size))
    have HI1 := Lib.hid (HI.out.below b1)
    have HG1 := Lib.hid (HG0.out.below b1 HG0.out.lt)
    have HP1 := Lib.hid (HP0.out.below b1 HP0.out.lt)
    have HJ1 := Lib.hid (HJ0.out.below b1 HJ0.out.lt)
    have g0 : w1.cell? ⟨w.heap.size, 0, none⟩ = some (.string am) := HG1.out.cell 0
    have g1 : w1.cell? ⟨w.heap.size, 1, none⟩ = some (.string an) := HG1.out.cell 1
    obtain ⟨s0, s1, s2, s3⟩ := HJ1.out.cells
    clear b1 HG0 HP0 HJ0 C1 HB0 HI
    go_wp2_with fail
    refine (C2.out _ HI1.out).mono ?_
    rintro e w2 ⟨v, rfl, o2, b2⟩
    obtain ⟨A2, c2, rfl, hL, hc2⟩ := HFL.out _ _ _ o2
    generalize l.filter (NM.mine am an s) = fl at *
    have HB2 := Lib.hid (HB1.out.trans (b2.mono HB1.out.size))
    have HP2 := Lib.hid (HP1.out.below b2 HP1.out.lt)
    have hpl := HP2.out.lt
    have hfn := hL.len
    have HL := Lib.hid hL
    clear o2 b2 hL g0 g1 s0 s1 s2 s3 HG1 HP1 HJ1 HB1 HI1 HFL C2 hc2
    go_wp2_with fail
    go_loopw [11, 13, 14, 15, 26] (fun v _ _ _ i wr => ∃ k : Nat, k ≤ fl.length ∧ i = .int .i64 (k : Int) ∧ Hid (Own wr w2.heap.size v (NM.worth p (fl.take k))) ∧ Hid (∀ j, j < k → QM.valueE p (NM.lAt fl j).price (NM.lAt fl j).qty = 0) ∧ Hid (Below w2.heap.size w2 wr)) (fun _ _ _ _ i _ => fl.length - (intOf i).toNat)
    case atStart => exact ⟨0, by omega, rfl, Lib.hid (Own.nil _ _), Lib.hid (fun j h => by omega), Lib.hid (Below.refl _ _)⟩
    case round =>
      obtain ⟨k, hk, rfl, HO, HE, HB⟩ := hrel
      by_cases hlt : k < fl.length
      · obtain ⟨b, off, x, rfl, hb, HV, q, d0, d1, d2, d3, d4, d5, d6, d7, d8⟩ := legs_get (HL.out.below HB.out) hlt
        have HN := Lib.hid (KS.out k hlt)
        have HF := Lib.hid (KF.out k hlt HE.out)
        have HW : Hid (NM.worth p (fl.take (k + 1)) = NM.worth p (fl.take k) ++ [QM.valueN p x.price x.qty]) := Lib.hid (by rw [HN.out, HV.out])
        rw [HV.out] at HF
        have HVE : Hid (QM.valueE p (NM.lAt fl k).price (NM.lAt fl k).qty = QM.valueE p x.price x.qty) := Lib.hid (by rw [HV.out])
        have HBx := Lib.hid (HB.out.alloc HB.out.size (.cells (legC x) 47))
        have HOx := Lib.hid (HO.out.alloc (.cells (legC x) 47))
        have HPx := Lib.hid ((HP2.out.below HB.out hpl).alloc (.cells (legC x) 47))
        obtain ⟨p0, p1, p2, p3, p4, p5, p6⟩ := HPx.out.cells
        have C4 := Lib.hid (fun ww => C3.out x.price x.qty ww)
        have hwl : (NM.worth p (fl.take k)).length ≤ 2048 := by rw [worth_len, List.length_take]; have := KLN.out; omega
        generalize QM.valueN p x.price x.qty = vn at *
        by_cases hv : QM.valueE p x.price x.qty = 0
        · have HE2 : Hid (∀ j, j < k + 1 → QM.valueE p (NM.lAt fl j).price (NM.lAt fl j).qty = 0) := Lib.hid (fun j hj => by
            rcases Nat.lt_or_ge j k with g | g
            · exact HE.out j g
            · obtain rfl : j = k := by omega
              rw [HVE.out]; exact hv)
          rw [hv] at C4
          clear hv HF HVE HN HV q HE
          go_wp2_with fail
          refine (C4.out _).mono ?_
          rintro e w3 ⟨rfl, b3⟩
          have HB3 := Lib.hid (HBx.out.trans (b3.mono HBx.out.size))
          have HO3 := Lib.hid (HOx.out.below b3)
          clear b3 HO HOx HPx p0 p1 p2 p3 p4 p5 p6
          go_wp2_with (at_builtin; refine wpList_push _ vn w2.heap.size (NM.worth p (fl.take k)) _ _ rfl rfl _ rfl rfl HO3.out ?c1 HB3.out.size ?_)
          case c1 => omega
          intro v4 w4 o4 b4 _ _
          have HO4 : Hid (Own w4 w2.heap.size v4 (NM.worth p (fl.take (k + 1)))) := Lib.hid (by rw [HW.out]; exact o4)
          have HB4 := Lib.hid (HB3.out.trans b4)
          clear o4 b4 HO3
          go_wp2_with fail
          go_roundw
          case rel => exact ⟨k + 1, by omega, by go_num, HO4, HE2, HB4⟩
          case measure => simp [intOf]; omega
        · have HR := Lib.hid (KB.out _ (HF.out hv) hv)
          have hne : (QM.valueE p x.price x.qty != 0) = true := by simpa using hv
          generalize QM.valueE p x.price x.qty = ve at *
          clear hv HF HVE HN HV q HE
          go_wp2_with fail
          refine (C4.out _).mono ?_
          rintro e w3 ⟨rfl, b3⟩
          have HB3 := Lib.hid (HB2.out.trans ((HBx.out.trans (b3.mono HBx.out.size)).mono HB2.out.size))
          clear b3
          go_wp2_with fail
          go_ret2
          exact ⟨by rw [HR.out.1, HR.out.2] <;> rfl, HB3.out⟩
      · obtain rfl : k = fl.length := by omega
        have HR := Lib.hid (KG.out (KO.out HE.out))
        rw [KT.out] at HO
        obtain ⟨A3, c3, rfl, hi3⟩ := Own.ints HO.out worth_range
        have HI3 := Lib.hid hi3
        have C5 := Lib.hid (sum_any A3 (NM.worth p fl) c3 wr hi3)
        have HBF := Lib.hid (HB2.out.trans (HB.out.mono HB2.out.size))
        generalize NM.worth p fl = zs at *
        clear hi3 HO
        go_wp2_with fail
        refine C5.out.mono ?_
        rintro e w3 ⟨rfl, rfl⟩
        go_wp2_with fail
        go_ret2
        exact ⟨by rw [HR.out.1, HR.out.2] <;> rfl, HBF.out⟩
  · obtain ⟨e1, e2⟩ := cost_no (am := am) (an := an) (p := p) (s := s) hc
    rw [e1, e2]
    have hne : (NM.checkE l != 0) = true := by simpa using hc
    generalize NM.checkE l = r at *
    clear e1 e2
    go_enter Try.func30, Try.ntmps30
    go_wp2_with fail
    refine C1.out.mono ?_
    rintro e w1 ⟨rfl, b1⟩
    have HB1 := Lib.hid (HB0.out.trans (b1.mono HB0.out.size))
    clear b1
    go_wp2_with fail
    go_ret2
    exact ⟨rfl, HB1.out⟩

set_option maxHeartbeats 8000000 in
set_option maxRecDepth 100000 in
theorem rcost13_any (A : Option Addr) (l : List NM.Leg) (n cap : Nat) (hn : n = l.length) (am an : ByteArray) (p : QM.Prod) (s : EM.Ser) (w : World) (hI : Legs w A l) (hp : prodQ p) :
    Calls Try.prog 31 #[.slice A n cap, kA am an, prodA p, serA s] w fun e w' => e = .returned (.tuple #[.int .i64 (NM.costN l am an p s), .int .i64 (NM.costE l am an p s)]) ∧ Below w.heap.size w w' := by
  subst hn
  have hlen := hI.len
  have HB0 := Lib.hid (below_al (below_al (below_al (Below.refl w.heap.size w) (.cells (kC am an) 26)) (.cells #[.string p.name, .int .i64 p.cur, .int .i64 p.mult, .int .i64 p.tick, .int .i64 p.low, .int .i64 p.high, .bool p.phys] 65)) (.cells #[.string s.prod, .int .i64 s.kind, .int .i64 s.expiry, .int .i64 s.strike] 43))
  have HG0 : Hid (CB (((w.alloc (.cells (kC am an) 26)).alloc (.cells #[.string p.name, .int .i64 p.cur, .int .i64 p.mult, .int .i64 p.tick, .int .i64 p.low, .int .i64 p.high, .bool p.phys] 65)).alloc (.cells #[.string s.prod, .int .i64 s.kind, .int .i64 s.expiry, .int .i64 s.strike] 43)) w.heap.size 26 (kC am an)) := Lib.hid (((CB.new w 26 (kC am an)).alloc _).alloc _)
  have HP0 : Hid (PBox (((w.alloc (.cells (kC am an) 26)).alloc (.cells #[.string p.name, .int .i64 p.cur, .int .i64 p.mult, .int .i64 p.tick, .int .i64 p.low, .int .i64 p.high, .bool p.phys] 65)).alloc (.cells #[.string s.prod, .int .i64 s.kind, .int .i64 s.expiry, .int .i64 s.strike] 43)) (w.heap.size + 1) p) := Lib.hid (by
    have h := PBox.new (w.alloc (.cells (kC am an) 26)) p
    rw [show (w.alloc (.cells (kC am an) 26)).heap.size = w.heap.size + 1 by simp] at h
    exact h.alloc _)
  have HJ0 : Hid (SBox (((w.alloc (.cells (kC am an) 26)).alloc (.cells #[.string p.name, .int .i64 p.cur, .int .i64 p.mult, .int .i64 p.tick, .int .i64 p.low, .int .i64 p.high, .bool p.phys] 65)).alloc (.cells #[.string s.prod, .int .i64 s.kind, .int .i64 s.expiry, .int .i64 s.strike] 43)) (w.heap.size + 1 + 1) s) := Lib.hid (by
    have h := SBox.new ((w.alloc (.cells (kC am an) 26)).alloc (.cells #[.string p.name, .int .i64 p.cur, .int .i64 p.mult, .int .i64 p.tick, .int .i64 p.low, .int .i64 p.high, .bool p.phys] 65)) s
    rwa [show ((w.alloc (.cells (kC am an) 26)).alloc (.cells #[.string p.name, .int .i64 p.cur, .int .i64 p.mult, .int .i64 p.tick, .int .i64 p.low, .int .i64 p.high, .bool p.phys] 65)).heap.size = w.heap.size + 1 + 1 by simp] at h)
  have C1 := Lib.hid (rcheck13_any A l l.length cap rfl _ (hI.below HB0.out))
  have HI := Lib.hid (hI.below HB0.out)
  clear hI
  by_cases hc : NM.checkE l = 0
  · have HC := Lib.hid hc
    have hm1 := (NM.check_inv hc).1
    have C3 := Lib.hid (fun x q ww => rqvalue_any p x q hp ww)
    have KH := Lib.hid (fun k => @NM.worth_hit p (NM.mine am an s) l k); have KM := Lib.hid (fun k => @NM.worth_miss p (NM.mine am an s) l k)
    have KF := Lib.hid (fun k => @NM.first_stop p (NM.mine am an s) l k)
    have KS := Lib.hid (fun k => @NM.first_step p (NM.mine am an s) l k)
    have KB : Hid (∀ r, NM.firstE p (l.filter (NM.mine am an s)) = r → ¬ r = 0 → NM.costN l am an p s = 0 ∧ NM.costE l am an p s = r) := Lib.hid (fun r h1 h2 => cost_bad HC.out h1 h2)
    have KG : Hid (NM.firstE p ((l.take l.length).filter (NM.mine am an s)) = 0 → NM.costN l am an p s = CM.sumN (NM.worth p ((l.take l.length).filter (NM.mine am an s))) ∧ NM.costE l am an p s = CM.sumE (NM.worth p ((l.take l.length).filter (NM.mine am an s)))) := Lib.hid (by rw [List.take_length]; exact fun h => cost_ok HC.out h)
    have KL : Hid (∀ k, (NM.worth p ((l.take k).filter (NM.mine am an s))).length ≤ 2048) := Lib.hid (fun k => by
      rw [worth_len]
      refine Nat.le_trans (List.length_filter_le _ _) ?_
      rw [List.length_take]; omega)
    rw [hc] at C1
    have ga := acc_guard; have gs := ser_guard
    clear hc hp hm1
    generalize NM.costN l am an p s = cn at *
    generalize NM.costE l am an p s = ce at *
    go_enter Try.func31, Try.ntmps31
    go_wp2_with fail
    refine C1.out.mono ?_
    rintro e w1 ⟨rfl, rfl⟩
    have HOE := Lib.hid (own_empty (((w.alloc (.cells (kC am an) 26)).alloc (.cells #[.string p.name, .int .i64 p.cur, .int .i64 p.mult, .int .i64 p.tick, .int .i64 p.low, .int .i64 p.high, .bool p.phys] 65)).alloc (.cells #[.string s.prod, .int .i64 s.kind, .int .i64 s.expiry, .int .i64 s.strike] 43)) w.heap.size HB0.out.size)
    have HBE := Lib.hid (below_al HB0.out (.cells #[] 3))
    have HSZ : Hid ((((w.alloc (.cells (kC am an) 26)).alloc (.cells #[.string p.name, .int .i64 p.cur, .int .i64 p.mult, .int .i64 p.tick, .int .i64 p.low, .int .i64 p.high, .bool p.phys] 65)).alloc (.cells #[.string s.prod, .int .i64 s.kind, .int .i64 s.expiry, .int .i64 s.strike] 43)).heap.size = w.heap.size + 1 + 1 + 1) := Lib.hid (by simp)
    generalize hw0 : ((w.alloc (.cells (kC am an) 26)).alloc (.cells #[.string p.name, .int .i64 p.cur, .int .i64 p.mult, .int .i64 p.tick, .int .i64 p.low, .int .i64 p.high, .bool p.phys] 65)).alloc (.cells #[.string s.prod, .int .i64 s.kind, .int .i64 s.expiry, .int .i64 s.strike] 43) = w0 at *
    clear hw0
    go_wp2_with fail
    go_loopw [11, 12, 13, 14] (fun v i _ _ wr => ∃ k : Nat, k ≤ l.length ∧ i = .int .i64 (k : Int) ∧ Hid (Own wr w0.heap.size v (NM.worth p ((l.take k).filter (NM.mine am an s)))) ∧ Hid (NM.firstE p ((l.take k).filter (NM.mine am an s)) = 0) ∧ Hid (Below w0.heap.size w0 wr)) (fun _ i _ _ _ => l.length - (intOf i).toNat)
    case atStart => exact ⟨0, by omega, rfl, Lib.hid (own_empty w0 w0.heap.size (Nat.le_refl _)), Lib.hid rfl, Lib.hid (below_al (Below.refl _ _) _)⟩
    case round =>
      obtain ⟨k, hk, rfl, HO, HE, HB⟩ := hrel
      by_cases hlt : k < l.length
      · obtain ⟨b, off, x, rfl, hb, HV, q, d0, d1, d2, d3, d4, d5, d6, d7, d8⟩ := legs_get (HI.out.below HB.out) hlt
        have HGr := Lib.hid (HG0.out.below HB.out HG0.out.lt)
        have g0 : wr.cell? ⟨w.heap.size, 0, none⟩ = some (.string am) := HGr.out.cell 0
        have g1 : wr.cell? ⟨w.heap.size, 1, none⟩ = some (.string an) := HGr.out.cell 1
        obtain ⟨s0, s1, s2, s3⟩ := (HJ0.out.below HB.out HJ0.out.lt).cells
        have HPr := Lib.hid (HP0.out.below HB.out HP0.out.lt)
        have E1 : ∀ ww, (Op.equalIn 10000 26 (.agg #[.string x.am, .string x.an]) (.agg #[.string am, .string an])).run Try.prog ww = .ok (NM.aeq x.am x.an am an) ww := fun ww => acc_in _ _ _ _ ww
        have E2 : ∀ ww, (Op.equalIn 10000 43 (serA x.ser) (serA s)).run Try.prog ww = .ok (NM.seqB x.ser s) ww := fun ww => serB_in x.ser s ww
        have hway : (NM.aeq x.am x.an am an = false ∧ NM.mine am an s x = false) ∨ (NM.aeq x.am x.an am an = true ∧ NM.seqB x.ser s = false ∧ NM.mine am an s x = false) ∨ (NM.aeq x.am x.an am an = true ∧ NM.seqB x.ser s = true ∧ NM.mine am an s x = true) := by
          unfold NM.mine
          cases NM.aeq x.am x.an am an <;> cases NM.seqB x.ser s <;> simp
        have HM : Hid (NM.mine am an s x = false → NM.worth p ((l.take (k + 1)).filter (NM.mine am an s)) = NM.worth p ((l.take k).filter (NM.mine am an s)) ∧ NM.firstE p ((l.take (k + 1)).filter (NM.mine am an s)) = 0) := Lib.hid (fun h => ⟨KM.out k hlt (by rw [HV.out]; exact h), KS.out k hlt HE.out (by rw [HV.out, h]; intro h2; cases h2)⟩)
        have HH : Hid (NM.mine am an s x = true → NM.worth p ((l.take (k + 1)).filter (NM.mine am an s)) = NM.worth p ((l.take k).filter (NM.mine am an s)) ++ [QM.valueN p x.price x.qty]) := Lib.hid (fun h => by have := KH.out k hlt (by rw [HV.out]; exact h); rwa [HV.out] at this)
        have HS : Hid (NM.mine am an s x = true → QM.valueE p x.price x.qty = 0 → NM.firstE p ((l.take (k + 1)).filter (NM.mine am an s)) = 0) := Lib.hid (fun _ h => KS.out k hlt HE.out (fun _ => by rw [HV.out]; exact h))
        have HF : Hid (NM.mine am an s x = true → ¬ QM.valueE p x.price x.qty = 0 → NM.firstE p (l.filter (NM.mine am an s)) = QM.valueE p x.price x.qty) := Lib.hid (fun h1 h2 => by have := KF.out k hlt HE.out (by rw [HV.out]; exact h1) (by rw [HV.out]; exact h2); rwa [HV.out] at this)
        have hll := KL.out k
        generalize hmi : NM.mine am an s x = mi at hway HM HH HS HF
        generalize NM.aeq x.am x.an am an = ba at *
        generalize NM.seqB x.ser s = bs at *
        clear q HV hmi
        rcases hway with ⟨rfl, rfl⟩ | ⟨rfl, rfl, rfl⟩ | ⟨rfl, rfl, rfl⟩
        · have HX := Lib.hid (HM.out rfl)
          have HO2 := HO
          rw [← HX.out.1] at HO2
          have HE2 := Lib.hid HX.out.2
          clear HM HH HS HF HX HO HE
          go_wp2_with fail
          go_quiet (fail)
          go_wp2_with fail
          go_roundw
          case rel => exact ⟨k + 1, by omega, by go_num, HO2, HE2, Lib.hid (by first | exact HB.out | exact below_drewN HB.out _)⟩
          case measure => simp [intOf]; omega
        · have HX := Lib.hid (HM.out rfl)
          have HO2 := HO
          rw [← HX.out.1] at HO2
          have HE2 := Lib.hid HX.out.2
          clear HM HH HS HF HX HO HE
          go_wp2_with fail
          go_quiet (fail)
          go_wp2_with fail
          go_roundw
          case rel => exact ⟨k + 1, by omega, by go_num, HO2, HE2, Lib.hid (by first | exact HB.out | exact below_drewN HB.out _)⟩
          case measure => simp [intOf]; omega
        · have HW := Lib.hid (HH.out rfl)
          have HS2 := Lib.hid (HS.out rfl); have HF2 := Lib.hid (HF.out rfl)
          have C4 := Lib.hid (fun ww => C3.out x.price x.qty ww)
          have HD : Hid (∀ ww, Below wr.heap.size wr ww → ww.cell? ⟨b, off + k * 9 + 6, none⟩ = some (.int .i64 x.qty) ∧ ww.cell? ⟨b, off + k * 9 + 7, none⟩ = some (.int .i64 x.price)) := Lib.hid (fun ww h => ⟨(h.cell (p := ⟨b, off + k * 9 + 6, none⟩) hb).trans d6, (h.cell (p := ⟨b, off + k * 9 + 7, none⟩) hb).trans d7⟩)
          have HSF : Hid (∀ ww, Below wr.heap.size wr ww → ww.cell? ⟨w.heap.size + 1, 0, none⟩ = some (.string p.name) ∧ ww.cell? ⟨w.heap.size + 1, 1, none⟩ = some (.int .i64 p.cur) ∧ ww.cell? ⟨w.heap.size + 1, 2, none⟩ = some (.int .i64 p.mult) ∧ ww.cell? ⟨w.heap.size + 1, 3, none⟩ = some (.int .i64 p.tick) ∧ ww.cell? ⟨w.heap.size + 1, 4, none⟩ = some (.int .i64 p.low) ∧ ww.cell? ⟨w.heap.size + 1, 5, none⟩ = some (.int .i64 p.high) ∧ ww.cell? ⟨w.heap.size + 1, 6, none⟩ = some (.bool p.phys) ∧ ww.cell? ⟨b, off + k * 9 + 6, none⟩ = some (.int .i64 x.qty) ∧ ww.cell? ⟨b, off + k * 9 + 7, none⟩ = some (.int .i64 x.price)) := Lib.hid (fun ww h => by
            obtain ⟨p0, p1, p2, p3, p4, p5, p6⟩ := (HPr.out.below h HPr.out.lt).cells
            obtain ⟨e6, e7⟩ := HD.out ww h
            exact ⟨p0, p1, p2, p3, p4, p5, p6, e6, e7⟩)
          have HWL : Hid ((NM.worth p ((l.take k).filter (NM.mine am an s))).length ≤ 2048) := Lib.hid hll
          generalize QM.valueN p x.price x.qty = vn at *
          clear HM HH HS HF HD hll
          by_cases hv : QM.valueE p x.price x.qty = 0
          · have HE2 := Lib.hid (HS2.out hv)
            rw [hv] at C4
            clear hv HS2 HF2 HE
            go_wp2_with fail
            go_quiet (fail)
            go_wp2_with fail
            generalize hu : wr.drewN nq = u at *
            have HBw : Hid (Below wr.heap.size wr u.drew) := Lib.hid (by rw [← hu]; exact (below_drewN (Below.refl _ _) _).drew)
            clear hu
            go_region_held3 (fun ww => ww.cell? ⟨w.heap.size + 1, 0, none⟩ = some (.string p.name) ∧ ww.cell? ⟨w.heap.size + 1, 1, none⟩ = some (.int .i64 p.cur) ∧ ww.cell? ⟨w.heap.size + 1, 2, none⟩ = some (.int .i64 p.mult) ∧ ww.cell? ⟨w.heap.size + 1, 3, none⟩ = some (.int .i64 p.tick) ∧ ww.cell? ⟨w.heap.size + 1, 4, none⟩ = some (.int .i64 p.low) ∧ ww.cell? ⟨w.heap.size + 1, 5, none⟩ = some (.int .i64 p.high) ∧ ww.cell? ⟨w.heap.size + 1, 6, none⟩ = some (.bool p.phys) ∧ ww.cell? ⟨b, off + k * 9 + 6, none⟩ = some (.int .i64 x.qty) ∧ ww.cell? ⟨b, off + k * 9 + 7, none⟩ = some (.int .i64 x.price))
              (with_reducible exact HSF.out _ HBw.out)
              (first
                | (go_at_call 53; refine (C4.out _).mono ?_; rintro e w3 ⟨rfl, b3⟩; replace HBw := Lib.hid (HBw.out.trans (b3.mono HBw.out.size)); clear b3))
            all_goals (
              have HB3 := Lib.hid (HB.out.trans (HBw.out.mono HB.out.size))
              have HO3 := Lib.hid (HO.out.below HBw.out)
              clear HO HBw HSF C4 d0 d1 d2 d3 d4 d5 d6 d7 d8 g0 g1 s0 s1 s2 s3
              go_wp2_with (at_builtin; refine wpList_push _ vn w0.heap.size (NM.worth p ((l.take k).filter (NM.mine am an s))) _ _ rfl rfl _ rfl rfl HO3.out ?c1 HB3.out.size ?_)
              case c1 => have := HWL.out; omega
              intro v4 w4 o4 b4 _ _
              have HO4 : Hid (Own w4 w0.heap.size v4 (NM.worth p ((l.take (k + 1)).filter (NM.mine am an s)))) := Lib.hid (by rw [HW.out]; exact o4)
              have HB4 := Lib.hid (HB3.out.trans b4)
              clear o4 b4 HO3
              go_wp2_with fail
              go_roundw
              case rel => exact ⟨k + 1, by omega, by go_num, HO4, HE2, HB4⟩
              case measure => simp [intOf]; omega)
          · have HR := Lib.hid (KB.out _ (HF2.out hv) hv)
            have hne : (QM.valueE p x.price x.qty != 0) = true := by simpa using hv
            generalize QM.valueE p x.price x.qty = ve at *
            clear hv HS2 HF2 HE
            go_wp2_with fail
            go_quiet (fail)
            go_wp2_with fail
            generalize hu : wr.drewN nq = u at *
            have HBw : Hid (Below wr.heap.size wr u.drew) := Lib.hid (by rw [← hu]; exact (below_drewN (Below.refl _ _) _).drew)
            clear hu
            go_region_held3 (fun ww => ww.cell? ⟨w.heap.size + 1, 0, none⟩ = some (.string p.name) ∧ ww.cell? ⟨w.heap.size + 1, 1, none⟩ = some (.int .i64 p.cur) ∧ ww.cell? ⟨w.heap.size + 1, 2, none⟩ = some (.int .i64 p.mult) ∧ ww.cell? ⟨w.heap.size + 1, 3, none⟩ = some (.int .i64 p.tick) ∧ ww.cell? ⟨w.heap.size + 1, 4, none⟩ = some (.int .i64 p.low) ∧ ww.cell? ⟨w.heap.size + 1, 5, none⟩ = some (.int .i64 p.high) ∧ ww.cell? ⟨w.heap.size + 1, 6, none⟩ = some (.bool p.phys) ∧ ww.cell? ⟨b, off + k * 9 + 6, none⟩ = some (.int .i64 x.qty) ∧ ww.cell? ⟨b, off + k * 9 + 7, none⟩ = some (.int .i64 x.price))
              (with_reducible exact HSF.out _ HBw.out)
              (first
                | (go_at_call 53; refine (C4.out _).mono ?_; rintro e w3 ⟨rfl, b3⟩; replace HBw := Lib.hid (HBw.out.trans (b3.mono HBw.out.size)); clear b3))
            all_goals (
              have HB3 := Lib.hid (HB.out.trans (HBw.out.mono HB.out.size))
              have HO3 := Lib.hid (HO.out.below HBw.out)
              clear HO HBw HSF C4 d0 d1 d2 d3 d4 d5 d6 d7 d8 g0 g1 s0 s1 s2 s3
              have HBF := Lib.hid (HB0.out.trans (HB3.out.mono HB0.out.size))
              go_wp2_with fail
              go_ret2
              exact ⟨by rw [HR.out.1, HR.out.2] <;> rfl, HBF.out⟩)
      · obtain rfl : k = l.length := by omega
        have HR := Lib.hid (KG.out HE.out)
        obtain ⟨A3, c3, rfl, hi3⟩ := Own.ints HO.out worth_range
        have hll := KL.out l.length
        have C5 := Lib.hid (rsum_any A3 (NM.worth p ((l.take l.length).filter (NM.mine am an s))) c3 wr hi3 (by omega))
        have HBF := Lib.hid (HB0.out.trans (HB.out.mono HB0.out.size))
        generalize NM.worth p ((l.take l.length).filter (NM.mine am an s)) = zs at *
        clear hi3 HO
        go_wp2_with fail
        refine C5.out.mono ?_
        rintro e w3 ⟨rfl, rfl⟩
        go_wp2_with fail
        go_ret2
        exact ⟨by rw [HR.out.1, HR.out.2] <;> rfl, HBF.out⟩
  · obtain ⟨e1, e2⟩ := cost_no (am := am) (an := an) (p := p) (s := s) hc
    rw [e1, e2]
    have hne : (NM.checkE l != 0) = true := by simpa using hc
    generalize NM.checkE l = r at *
    clear e1 e2
    go_enter Try.func31, Try.ntmps31
    go_wp2_with fail
    refine C1.out.mono ?_
    rintro e w1 ⟨rfl, rfl⟩
    go_wp2_with fail
    go_ret2
    exact ⟨rfl, HB0.out⟩
end Go.Proofs.Ytafdjiilmogcjaa
