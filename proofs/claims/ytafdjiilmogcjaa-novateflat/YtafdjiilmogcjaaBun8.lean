/- Put together: CentsC, CentsD, ProdC, ProdD, CentsE, CentsF, SumMath2, CentsG. -/
import Derived.Test.YtafdjiilmogcjaaBun4
import Derived.Test.YtafdjiilmogcjaaBun7
import Derived.Test.YtafdjiilmogcjaaBun1
import Derived.Laws.ResultCell
import Derived.Laws.Rows
import Derived.Test.YtafdjiilmogcjaaBun3
namespace Go.Proofs.Ytafdjiilmogcjaa
open Go.RowKit
theorem cell_fresh (v : World) (q : Int) : (v.alloc (.cells #[.int .i64 q] 3)).cell? ⟨v.heap.size, 0, none⟩ = some (.int .i64 q) := by go_simp

theorem mdA_parts {a b c mode : Int} (h : CM.mdA a b c mode = true) : CM.fits a = true ∧ CM.fits b = true ∧ CM.fits c = true ∧ 1 ≤ mode ∧ mode ≤ 5 := by
  simp [CM.mdA] at h
  obtain ⟨⟨⟨⟨h1, h2⟩, h3⟩, h4⟩, h5⟩ := h
  exact ⟨h1, h2, h3, h4, h5⟩

end Go.Proofs.Ytafdjiilmogcjaa

namespace Go.Proofs.Ytafdjiilmogcjaa
open Go.RowKit
end Go.Proofs.Ytafdjiilmogcjaa

/- Contracts of layer 9: Price, Round, Value, the program's and the reference's. -/
namespace Go.Proofs.Ytafdjiilmogcjaa
open Go.RowKit Go.Recs
set_option linter.unusedVariables false

/-- block g is one product -/
def PBox (w : World) (g : Nat) (p : QM.Prod) : Prop := w.heap[g]? = some (.cells #[.string p.name, .int .i64 p.cur, .int .i64 p.mult, .int .i64 p.tick, .int .i64 p.low, .int .i64 p.high, .bool p.phys] 65 (0, 0))
theorem PBox.new (w : World) (p : QM.Prod) : PBox (w.alloc (.cells #[.string p.name, .int .i64 p.cur, .int .i64 p.mult, .int .i64 p.tick, .int .i64 p.low, .int .i64 p.high, .bool p.phys] 65)) w.heap.size p := heap_alloc_new w _
theorem PBox.below {w w' : World} {g B : Nat} {p : QM.Prod} (h : PBox w g p) (hb : Below B w w') (hg : g < B) : PBox w' g p := (hb.block g hg).trans h
theorem PBox.lt {w : World} {g : Nat} {p : QM.Prod} (h : PBox w g p) : g < w.heap.size := lt_of_block h
theorem PBox.cells {w : World} {g : Nat} {p : QM.Prod} (h : PBox w g p) :
    w.cell? ⟨g, 0, none⟩ = some (.string p.name) ∧ w.cell? ⟨g, 1, none⟩ = some (.int .i64 p.cur) ∧ w.cell? ⟨g, 2, none⟩ = some (.int .i64 p.mult) ∧ w.cell? ⟨g, 3, none⟩ = some (.int .i64 p.tick) ∧
    w.cell? ⟨g, 4, none⟩ = some (.int .i64 p.low) ∧ w.cell? ⟨g, 5, none⟩ = some (.int .i64 p.high) ∧ w.cell? ⟨g, 6, none⟩ = some (.bool p.phys) := by
  unfold PBox at h
  simp [World.cell?, h]
theorem new_lt (w : World) (o : Obj) : w.heap.size < (w.alloc o).heap.size := by simp

set_option maxHeartbeats 2000000 in
theorem qvalue_any (p : QM.Prod) (x q : Int) (hq : prodQ p) (w : World) :
    Calls Try.prog 51 #[prodA p, .int .i64 x, .int .i64 q] w fun e w' => e = .returned (.tuple #[.int .i64 (QM.valueN p x q), .int .i64 (QM.valueE p x q)]) ∧ Below w.heap.size w w' := by
  have C0 := Lib.hid (fun ww => qcheck_any p hq ww)
  have HB := Lib.hid ((Below.refl w.heap.size w).alloc (Nat.le_refl _) (.cells #[.string p.name, .int .i64 p.cur, .int .i64 p.mult, .int .i64 p.tick, .int .i64 p.low, .int .i64 p.high, .bool p.phys] 65))
  have HP := Lib.hid (PBox.new w p)
  have HL := Lib.hid (new_lt w (.cells #[.string p.name, .int .i64 p.cur, .int .i64 p.mult, .int .i64 p.tick, .int .i64 p.low, .int .i64 p.high, .bool p.phys] 65))
  by_cases hc : QM.checkE p = 0
  · have C1 := Lib.hid (fun ww => qwithin_any x (-33554432) 33554432 ww)
    have C2 := Lib.hid (fun ww => qwithin_any q (-1048576) 1048576 ww)
    have K1 := Lib.hid (@QM.vl_out p x q hc)
    have K2 := Lib.hid (@QM.vl_qty p x q hc)
    have K3 := Lib.hid (@QM.vl_ok p x q hc)
    have KR := Lib.hid (@QM.value_range p x q)
    rw [hc] at C0
    generalize QM.valueE p x q = y at *
    generalize QM.valueN p x q = z at *
    generalize QM.within x (-33554432) 33554432 = b1 at *
    generalize QM.within q (-1048576) 1048576 = b2 at *
    clear hc hq
    go_enter Try.func51, Try.ntmps51
    go_wp2_with fail
    refine (C0.out _).mono ?_
    rintro e w1 ⟨rfl, b⟩
    have HB1 := Lib.hid (HB.out.trans (b.mono HB.out.size))
    obtain ⟨c0, c1, c2, c3, c4, c5, c6⟩ := (HP.out.below b HL.out).cells
    clear b HB HP HL
    go_wp2_with fail
    refine (C1.out _).mono ?_
    rintro e w2 ⟨rfl, rfl⟩
    cases b1
    · have HX := Lib.hid (K1.out (by trivial))
      go_wp2_with fail
      go_ret2
      exact ⟨by rw [HX.out.1, HX.out.2]; rfl, HB1.out⟩
    go_wp2_with fail
    refine (C2.out _).mono ?_
    rintro e w2 ⟨rfl, rfl⟩
    cases b2
    · have HX := Lib.hid (K2.out (by trivial) (by trivial))
      go_wp2_with fail
      go_ret2
      exact ⟨by rw [HX.out.1, HX.out.2]; rfl, HB1.out⟩
    have HX := Lib.hid (K3.out (by trivial) (by trivial))
    obtain ⟨r1, r2⟩ := KR.out HX.out.1
    have hw1 : wrap64 (x * p.mult) = x * p.mult := IntWalk.wrap64_in _ (by omega)
    have hw2 : wrap64 (x * p.mult * q) = x * p.mult * q := IntWalk.wrap64_in _ (by omega)
    clear r1 r2
    go_wp2_with fail
    go_ret2
    exact ⟨by rw [HX.out.1, HX.out.2]; simp only [hw2]; rfl, HB1.out⟩
  · obtain ⟨e1, e2⟩ := @QM.vl_bad p x q hc
    rw [e1, e2]; clear e1 e2
    have hd : (QM.checkE p != 0) = true := by simpa using hc
    generalize QM.checkE p = y at *
    clear hc hq HP HL
    go_enter Try.func51, Try.ntmps51
    go_wp2_with fail
    refine (C0.out _).mono ?_
    rintro e w1 ⟨rfl, b⟩
    have HB1 := Lib.hid (HB.out.trans (b.mono HB.out.size))
    clear b
    go_wp2_with fail
    go_ret2
    exact ⟨rfl, HB1.out⟩

set_option maxHeartbeats 2000000 in
theorem rqvalue_any (p : QM.Prod) (x q : Int) (hq : prodQ p) (w : World) :
    Calls Try.prog 53 #[prodA p, .int .i64 x, .int .i64 q] w fun e w' => e = .returned (.tuple #[.int .i64 (QM.valueN p x q), .int .i64 (QM.valueE p x q)]) ∧ Below w.heap.size w w' := by
  have C0 := Lib.hid (fun ww => rqcheck_any p hq ww)
  have HB := Lib.hid ((Below.refl w.heap.size w).alloc (Nat.le_refl _) (.cells #[.string p.name, .int .i64 p.cur, .int .i64 p.mult, .int .i64 p.tick, .int .i64 p.low, .int .i64 p.high, .bool p.phys] 65))
  have HP := Lib.hid (PBox.new w p)
  have HL := Lib.hid (new_lt w (.cells #[.string p.name, .int .i64 p.cur, .int .i64 p.mult, .int .i64 p.tick, .int .i64 p.low, .int .i64 p.high, .bool p.phys] 65))
  by_cases hc : QM.checkE p = 0
  · have C1 := Lib.hid (fun ww => rqwithin_any x (-33554432) 33554432 ww)
    have C2 := Lib.hid (fun ww => rqwithin_any q (-1048576) 1048576 ww)
    have K1 := Lib.hid (@QM.vl_out p x q hc)
    have K2 := Lib.hid (@QM.vl_qty p x q hc)
    have K3 := Lib.hid (@QM.vl_ok p x q hc)
    have KR := Lib.hid (@QM.value_range p x q)
    rw [hc] at C0
    generalize QM.valueE p x q = y at *
    generalize QM.valueN p x q = z at *
    generalize QM.within x (-33554432) 33554432 = b1 at *
    generalize QM.within q (-1048576) 1048576 = b2 at *
    clear hc hq
    go_enter Try.func53, Try.ntmps53
    go_wp2_with fail
    refine (C0.out _).mono ?_
    rintro e w1 ⟨rfl, b⟩
    have HB1 := Lib.hid (HB.out.trans (b.mono HB.out.size))
    obtain ⟨c0, c1, c2, c3, c4, c5, c6⟩ := (HP.out.below b HL.out).cells
    clear b HB HP HL
    go_wp2_with fail
    refine (C1.out _).mono ?_
    rintro e w2 ⟨rfl, rfl⟩
    cases b1
    · have HX := Lib.hid (K1.out (by trivial))
      go_wp2_with fail
      go_ret2
      exact ⟨by rw [HX.out.1, HX.out.2]; rfl, HB1.out⟩
    go_wp2_with fail
    refine (C2.out _).mono ?_
    rintro e w2 ⟨rfl, rfl⟩
    cases b2
    · have HX := Lib.hid (K2.out (by trivial) (by trivial))
      go_wp2_with fail
      go_ret2
      exact ⟨by rw [HX.out.1, HX.out.2]; rfl, HB1.out⟩
    have HX := Lib.hid (K3.out (by trivial) (by trivial))
    obtain ⟨r1, r2⟩ := KR.out HX.out.1
    have hw1 : wrap64 (x * p.mult) = x * p.mult := IntWalk.wrap64_in _ (by omega)
    have hw2 : wrap64 (x * p.mult * q) = x * p.mult * q := IntWalk.wrap64_in _ (by omega)
    clear r1 r2
    go_wp2_with fail
    go_ret2
    exact ⟨by rw [HX.out.1, HX.out.2]; simp only [hw2]; rfl, HB1.out⟩
  · obtain ⟨e1, e2⟩ := @QM.vl_bad p x q hc
    rw [e1, e2]; clear e1 e2
    have hd : (QM.checkE p != 0) = true := by simpa using hc
    generalize QM.checkE p = y at *
    clear hc hq HP HL
    go_enter Try.func53, Try.ntmps53
    go_wp2_with fail
    refine (C0.out _).mono ?_
    rintro e w1 ⟨rfl, b⟩
    have HB1 := Lib.hid (HB.out.trans (b.mono HB.out.size))
    clear b
    go_wp2_with fail
    go_ret2
    exact ⟨rfl, HB1.out⟩
end Go.Proofs.Ytafdjiilmogcjaa

/- Contracts of layer 9: Find. -/
namespace Go.Proofs.Ytafdjiilmogcjaa
open Go.RowKit Go.Recs
set_option linter.unusedVariables false

theorem prod_under : Try.prog.underlying 65 = some (.struct (Try.prog.fieldsOf 65)) := by kernel_rfl
theorem prod_size : (Try.prog.info? 65).map (·.size) = some 7 := by kernel_rfl
theorem results_prod {fn : Func} {p u : Tmp} (h : fn.results = #[.cell p 65, .tmp u]) (tmps : Array Value) (w : World) (g : Nat) (x : QM.Prod)
    (hp : tmps.getD p undef = .pointer (some ⟨g, 0, none⟩)) (hb : PBox w g x) : (results fn tmps).run Try.prog w = .ok (.tuple #[prodA x, tmps.getD u undef]) w := by
  rw [results_cell_tmp h, hp]
  simp only [asAddr, Sem.run_pure, Result.andThen_ok]
  rw [run_loadVar_row w g 65 65 _ (0, 0) _ hb prod_under rfl prod_size]
  rfl
section
variable {w w' : World} {g : Nat} {p : QM.Prod}
theorem PBox.drewN (h : PBox w g p) (n : Nat) : PBox (w.drewN n) g p := h
theorem PBox.drew (h : PBox w g p) : PBox w.drew g p := h
theorem PBox.alloc (h : PBox w g p) (o : Obj) : PBox (w.alloc o) g p := (Below.heap_alloc w o g h.lt).trans h
theorem PBox.frozen (h : PBox w g p) (i : Nat) : w.frozen? ⟨g, i, none⟩ = false := by unfold PBox at h; simp [World.frozen?, h]
theorem PBox.put (h : PBox w g p) (x : QM.Prod) : PBox (((((((w.setCell ⟨g, 0, none⟩ (.string x.name)).setCell ⟨g, 1, none⟩ (.int .i64 x.cur)).setCell ⟨g, 2, none⟩ (.int .i64 x.mult)).setCell ⟨g, 3, none⟩ (.int .i64 x.tick)).setCell ⟨g, 4, none⟩ (.int .i64 x.low)).setCell ⟨g, 5, none⟩ (.int .i64 x.high)).setCell ⟨g, 6, none⟩ (.bool x.phys)) g x := by
  unfold PBox at h ⊢
  simp [World.setCell, Array.getElem?_modify, h]
theorem PBox.put_below {B : Nat} {a : World} (h : Below B a w) (hB : B ≤ g) (x : QM.Prod) : Below B a (((((((w.setCell ⟨g, 0, none⟩ (.string x.name)).setCell ⟨g, 1, none⟩ (.int .i64 x.cur)).setCell ⟨g, 2, none⟩ (.int .i64 x.mult)).setCell ⟨g, 3, none⟩ (.int .i64 x.tick)).setCell ⟨g, 4, none⟩ (.int .i64 x.low)).setCell ⟨g, 5, none⟩ (.int .i64 x.high)).setCell ⟨g, 6, none⟩ (.bool x.phys)) :=
  ((((((h.setCell hB _).setCell hB _).setCell hB _).setCell hB _).setCell hB _).setCell hB _).setCell hB _
end

def firstP (l : List QM.Prod) (s : ByteArray) : QM.Prod × Bool := match l.find? (fun p => p.name.toList == s.toList) with | some p => (p, true) | none => (QM.zero, false)
theorem first_yes {l : List QM.Prod} {s : ByteArray} {k : Nat} (hk : k < l.length) (h : ∀ j, j < k → ((QM.pAt l j).name.toList == s.toList) = false) (h2 : ((QM.pAt l k).name.toList == s.toList) = true) : firstP l s = (QM.pAt l k, true) := by
  have e : l.find? (fun p => p.name.toList == s.toList) = some (QM.pAt l k) := by
    rw [List.find?_eq_some_iff_getElem]
    refine ⟨h2, k, hk, by simp [QM.pAt, List.getD, hk], fun j hj => ?_⟩
    have := h j hj
    have hjl : j < l.length := by omega
    simp only [QM.pAt, List.getD, List.getElem?_eq_getElem hjl, Option.getD_some] at this
    rw [this]; rfl
  unfold firstP; rw [e]
theorem first_no {l : List QM.Prod} {s : ByteArray} (h : ∀ j, j < l.length → ((QM.pAt l j).name.toList == s.toList) = false) : firstP l s = (QM.zero, false) := by
  have e : l.find? (fun p => p.name.toList == s.toList) = none := by
    rw [List.find?_eq_none]
    intro a ha
    obtain ⟨j, hj, rfl⟩ := List.getElem_of_mem ha
    have := h j hj
    simp only [QM.pAt, List.getD, List.getElem?_eq_getElem hj, Option.getD_some] at this
    simp [this]
  unfold firstP; rw [e]

end Go.Proofs.Ytafdjiilmogcjaa

namespace Go.Proofs.Ytafdjiilmogcjaa
open Go.RowKit
end Go.Proofs.Ytafdjiilmogcjaa

namespace Go.Proofs.Ytafdjiilmogcjaa
open Go.RowKit

set_option maxHeartbeats 1000000 in
theorem sum_any (A : Option Addr) (zs : List Int) (cap : Nat) (w : World) (hI : Ints w A zs) :
    Calls Try.prog 52 #[.slice A zs.length cap] w fun e w' => e = .returned (.tuple #[.int .i64 (CM.sumN zs), .int .i64 (CM.sumE zs)]) ∧ w = w' := by
  have hlen := hI.len
  go_enter Try.func52, Try.ntmps52
  go_wp2
  go_loop [4, 5, 10] (fun f p i => ∃ k : Nat, ∃ x y : Int, k ≤ zs.length ∧ i = .int .i64 k ∧ f = .int .i64 x ∧ p = .int .i64 y ∧ CM.SInv zs k x y) (fun _ _ i => zs.length - (intOf i).toNat)
  case atStart => exact ⟨0, 0, 0, by omega, rfl, rfl, rfl, CM.SInv.start zs⟩
  case round =>
    obtain ⟨k, x, y, hk, rfl, rfl, rfl, hS⟩ := hrel
    obtain ⟨p1, p2, f1, f2⟩ := hS.bounds
    by_cases hlt : k < zs.length
    · obtain ⟨b, off, v, rfl, hb, hcell, HV, v1, v2⟩ := hI.get hlt
      have HI := Lib.hid hI
      clear hI
      cases hf : CM.fits v
      · have HE := Lib.hid (CM.allFit_no hlt (by rw [HV.out]; exact hf))
        go_wp2_with (go_at_call 70; refine (fits_any _ _).mono ?_; rintro e w' ⟨rfl, rfl⟩)
        go_ret2
        exact ⟨by rw [HE.out.1, HE.out.2]; rfl, rfl⟩
      · obtain ⟨g1, g2⟩ := CM.fits_true.1 hf
        have HS := Lib.hid (fun f' p' => @CM.SInv.step zs k x y f' p' hS hlt (by rw [HV.out]; exact hf))
        rw [HV.out] at HS
        by_cases c1 : 1152921504606846976 ≤ y + v
        · go_wp2_with (go_at_call 70; refine (fits_any _ _).mono ?_; rintro e w' ⟨rfl, rfl⟩)
          go_round
          case rel => exact ⟨k + 1, _, _, by omega, by go_num, rfl, rfl, HS.out _ _ (by omega) (by omega) (by omega) (by omega) (by omega)⟩
          case measure => simp [intOf]; omega
        · by_cases c2 : y + v ≤ -1152921504606846976
          · go_wp2_with (go_at_call 70; refine (fits_any _ _).mono ?_; rintro e w' ⟨rfl, rfl⟩)
            go_round
            case rel => exact ⟨k + 1, _, _, by omega, by go_num, rfl, rfl, HS.out _ _ (by omega) (by omega) (by omega) (by omega) (by omega)⟩
            case measure => simp [intOf]; omega
          · go_wp2_with (go_at_call 70; refine (fits_any _ _).mono ?_; rintro e w' ⟨rfl, rfl⟩)
            go_round
            case rel => exact ⟨k + 1, _, _, by omega, by go_num, rfl, rfl, HS.out _ _ (by omega) (by omega) (by omega) (by omega) (by omega)⟩
            case measure => simp [intOf]; omega
    · obtain rfl : k = zs.length := by omega
      obtain ⟨d1, d2⟩ := hS.done
      have D1 := Lib.hid d1; have D2 := Lib.hid d2
      clear d1 d2
      by_cases c1 : 1 < x
      · have HE := Lib.hid (D1.out (.inl c1))
        go_wp2
        go_ret2
        exact ⟨by rw [HE.out.1, HE.out.2]; rfl, rfl⟩
      · by_cases c2 : x < -1
        · have HE := Lib.hid (D1.out (.inr c2))
          go_wp2
          go_ret2
          exact ⟨by rw [HE.out.1, HE.out.2]; rfl, rfl⟩
        · go_wp2_with (go_at_call 71; refine (fitting_any _ _).mono ?_; rintro e w' ⟨rfl, rfl⟩)
          go_ret2
          exact ⟨by rw [D2.out.1, D2.out.2]; rfl, rfl⟩

theorem ints_three (x y z : Int) (w : World) (hx : -9223372036854775808 ≤ x ∧ x ≤ 9223372036854775807) (hy : -9223372036854775808 ≤ y ∧ y ≤ 9223372036854775807) (hz : -9223372036854775808 ≤ z ∧ z ≤ 9223372036854775807) :
    Ints (w.alloc (.cells #[.int .i64 x, .int .i64 y, .int .i64 z] 3)) (some ⟨w.heap.size, 0, none⟩) [x, y, z] := by
  refine ⟨by unfold maxLen; simp, by simp; omega, .inr ⟨_, _, rfl, by simp, fun i hi => ?_⟩⟩
  rw [Nat.zero_add]
  have : i = 0 ∨ i = 1 ∨ i = 2 := by simp at hi; omega
  rcases this with rfl | rfl | rfl <;> simp

end Go.Proofs.Ytafdjiilmogcjaa

namespace CM
open LM

/-- what the reference's Sum holds after k rounds -/
def RSInv (l : List Int) (k : Nat) (high low : Int) : Prop :=
  allFit (l.take k) = true ∧ high * 1073741824 + low = tot (l.take k) ∧ -(k * 1073741824 : Int) ≤ high ∧ high ≤ k * 1073741824 ∧ -(k * 1073741824 : Int) ≤ low ∧ low ≤ k * 1073741824

theorem RSInv.start (l : List Int) : RSInv l 0 0 0 := ⟨rfl, rfl, by omega, by omega, by omega, by omega⟩
theorem RSInv.bounds {l : List Int} {k : Nat} {high low : Int} (h : RSInv l k high low) :
    -(k * 1073741824 : Int) ≤ high ∧ high ≤ k * 1073741824 ∧ -(k * 1073741824 : Int) ≤ low ∧ low ≤ k * 1073741824 := h.2.2

theorem tparts (v : Int) (h1 : -1152921504606846976 ≤ v) (h2 : v ≤ 1152921504606846976) :
    -1073741824 ≤ v.tdiv 1073741824 ∧ v.tdiv 1073741824 ≤ 1073741824 ∧ -1073741824 < v.tmod 1073741824 ∧ v.tmod 1073741824 < 1073741824 ∧ v.tdiv 1073741824 * 1073741824 + v.tmod 1073741824 = v := by
  have e := Int.mul_tdiv_add_tmod v 1073741824
  by_cases h0 : 0 ≤ v
  · have a := Int.tdiv_eq_ediv_of_nonneg (b := 1073741824) h0
    have b := Int.tmod_eq_emod_of_nonneg (b := 1073741824) h0
    rw [a, b] at *
    omega
  · have a : v.tdiv 1073741824 = -((-v) / 1073741824) := by
      rw [← Int.tdiv_eq_ediv_of_nonneg (by omega), Int.neg_tdiv]; omega
    have b : v.tmod 1073741824 = -((-v) % 1073741824) := by
      rw [← Int.tmod_eq_emod_of_nonneg (by omega), Int.neg_tmod]; omega
    rw [a, b] at *
    omega

theorem RSInv.step {l : List Int} {k : Nat} {high low : Int} (h : RSInv l k high low) (hk : k < l.length) (hf : fits (l.getD k 0) = true) :
    RSInv l (k + 1) (high + (l.getD k 0).tdiv 1073741824) (low + (l.getD k 0).tmod 1073741824) := by
  obtain ⟨a1, a2, a3, a4, a5, a6⟩ := h
  obtain ⟨f1, f2⟩ := fits_true.1 hf
  obtain ⟨t1, t2, t3, t4, t5⟩ := tparts _ f1 f2
  refine ⟨by rw [allFit_take_succ l k hk, a1, hf]; rfl, by rw [tot_take_succ l k hk, ← a2]; omega, ?_, ?_, ?_, ?_⟩ <;> (push_cast; omega)

/-- what is told at the end -/
theorem RSInv.done {l : List Int} {high low h' l' : Int} (h : RSInv l l.length high low) (hl : l.length ≤ 4294967296)
    (eh : h' = high + low.tdiv 1073741824) (el : l' = low.tmod 1073741824) :
    (h' < -1073741825 ∨ 1073741825 < h' → sumN l = 0 ∧ sumE l = 3) ∧ sumN l = fitN (h' * 1073741824 + l') ∧ sumE l = fitE (h' * 1073741824 + l') ∧
      -1073741824 < l' ∧ l' < 1073741824 ∧ -9223372036854775808 ≤ h' ∧ h' ≤ 9223372036854775807 := by
  obtain ⟨a1, a2, a3, a4, a5, a6⟩ := h
  rw [List.take_length] at a1 a2
  obtain ⟨s1, s2⟩ := sum_yes a1
  have hlow : -9223372036854775808 ≤ low ∧ low ≤ 9223372036854775807 := by omega
  have hb : -8589934592 ≤ low.tdiv 1073741824 ∧ low.tdiv 1073741824 ≤ 8589934592 ∧ -1073741824 < low.tmod 1073741824 ∧ low.tmod 1073741824 < 1073741824 ∧ low.tdiv 1073741824 * 1073741824 + low.tmod 1073741824 = low := by
    have e := Int.mul_tdiv_add_tmod low 1073741824
    by_cases h0 : 0 ≤ low
    · have a := Int.tdiv_eq_ediv_of_nonneg (b := 1073741824) h0
      have b := Int.tmod_eq_emod_of_nonneg (b := 1073741824) h0
      rw [a, b] at *
      omega
    · have a : low.tdiv 1073741824 = -((-low) / 1073741824) := by
        rw [← Int.tdiv_eq_ediv_of_nonneg (by omega), Int.neg_tdiv]; omega
      have b : low.tmod 1073741824 = -((-low) % 1073741824) := by
        rw [← Int.tmod_eq_emod_of_nonneg (by omega), Int.neg_tmod]; omega
      rw [a, b] at *
      omega
  obtain ⟨b1, b2, b3, b4, b5⟩ := hb
  have e : h' * 1073741824 + l' = tot l := by rw [← a2, eh, el]; omega
  rw [s1, s2, e]
  refine ⟨fun hc => ?_, rfl, rfl, by omega, by omega, by omega, by omega⟩
  have : fits (tot l) = false := by rw [fits_false, ← e]; omega
  simp [fitN, fitE, this]
end CM

namespace Go.Proofs.Ytafdjiilmogcjaa
open Go.RowKit

set_option maxHeartbeats 1000000 in
theorem rsum_any (A : Option Addr) (zs : List Int) (cap : Nat) (w : World) (hI : Ints w A zs) (hlen : zs.length ≤ 4294967296) :
    Calls Try.prog 54 #[.slice A zs.length cap] w fun e w' => e = .returned (.tuple #[.int .i64 (CM.sumN zs), .int .i64 (CM.sumE zs)]) ∧ w = w' := by
  go_enter Try.func54, Try.ntmps54
  go_wp2
  go_loop [4, 5, 6] (fun f p i => ∃ k : Nat, ∃ x y : Int, k ≤ zs.length ∧ i = .int .i64 k ∧ f = .int .i64 x ∧ p = .int .i64 y ∧ CM.RSInv zs k x y) (fun _ _ i => zs.length - (intOf i).toNat)
  case atStart => exact ⟨0, 0, 0, by omega, rfl, rfl, rfl, CM.RSInv.start zs⟩
  case round =>
    obtain ⟨k, x, y, hk, rfl, rfl, rfl, hS⟩ := hrel
    obtain ⟨p1, p2, f1, f2⟩ := hS.bounds
    by_cases hlt : k < zs.length
    · obtain ⟨b, off, v, rfl, hb, hcell, HV, v1, v2⟩ := hI.get hlt
      have HI := Lib.hid hI
      clear hI
      cases hf : CM.fits v
      · have HE := Lib.hid (CM.allFit_no hlt (by rw [HV.out]; exact hf))
        go_wp2_with (go_at_call 74; refine (rfits_any _ _).mono ?_; rintro e w' ⟨rfl, rfl⟩)
        go_ret2
        exact ⟨by rw [HE.out.1, HE.out.2]; rfl, rfl⟩
      · obtain ⟨g1, g2⟩ := CM.fits_true.1 hf
        obtain ⟨t1, t2, t3, t4, t5⟩ := CM.tparts v g1 g2
        clear t5
        have HS := Lib.hid (hS.step hlt (by rw [HV.out]; exact hf))
        rw [HV.out] at HS
        go_wp2_with (go_at_call 74; refine (rfits_any _ _).mono ?_; rintro e w' ⟨rfl, rfl⟩)
        go_round
        case rel => exact ⟨k + 1, _, _, by omega, by go_num, rfl, rfl, HS.out⟩
        case measure => simp [intOf]; omega
    · obtain rfl : k = zs.length := by omega
      obtain ⟨d1, d2, d3, d4, d5, d6, d7⟩ := hS.done hlen rfl rfl
      have D1 := Lib.hid d1; have D2 := Lib.hid d2; have D3 := Lib.hid d3
      clear d1 d2 d3
      by_cases c1 : x + y.tdiv 1073741824 < -1073741825
      · have HE := Lib.hid (D1.out (.inl c1))
        go_wp2
        go_ret2
        exact ⟨by rw [HE.out.1, HE.out.2]; rfl, rfl⟩
      · by_cases c2 : 1073741825 < x + y.tdiv 1073741824
        · have HE := Lib.hid (D1.out (.inr c2))
          go_wp2
          go_ret2
          exact ⟨by rw [HE.out.1, HE.out.2]; rfl, rfl⟩
        · cases hf : CM.fits ((x + y.tdiv 1073741824) * 1073741824 + y.tmod 1073741824)
          · have E1 : Hid (CM.sumN zs = 0) := by rw [D2.out]; simp [CM.fitN, hf, Hid]
            have E2 : Hid (CM.sumE zs = 3) := by rw [D3.out]; simp [CM.fitE, hf, Hid]
            go_wp2_with (go_at_call 74; refine (rfits_any _ _).mono ?_; rintro e w' ⟨rfl, rfl⟩)
            go_ret2
            exact ⟨by rw [E1.out, E2.out]; rfl, rfl⟩
          · have E1 : Hid (CM.sumN zs = (x + y.tdiv 1073741824) * 1073741824 + y.tmod 1073741824) := by rw [D2.out]; simp [CM.fitN, hf, Hid]
            have E2 : Hid (CM.sumE zs = 0) := by rw [D3.out]; simp [CM.fitE, hf, Hid]
            go_wp2_with (go_at_call 74; refine (rfits_any _ _).mono ?_; rintro e w' ⟨rfl, rfl⟩)
            go_ret2
            exact ⟨by rw [E1.out, E2.out]; rfl, rfl⟩
end Go.Proofs.Ytafdjiilmogcjaa
