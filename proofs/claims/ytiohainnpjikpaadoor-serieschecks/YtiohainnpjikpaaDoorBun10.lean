/- Put together: CentsA, CentsB, CentsC, CentsD, ProdC, ProdD, ProdE, SerH. -/
import Derived.Test.YtiohainnpjikpaaDoorRows
import Derived.Test.YtiohainnpjikpaaDoorBun6
import Derived.WalkKit
import Derived.WalkSpells
import Derived.WalkLawsBesides
import Derived.IntWalk
import Derived.Lib.Hide
import Derived.Deep.QuietTactic
import Derived.BigQuiet
import Derived.Laws.BitsAllLaws
import Derived.Laws.BitsLemmas
import Derived.Test.YtiohainnpjikpaaDoorBun1
import Derived.Test.YtiohainnpjikpaaDoorBun9
import Derived.Test.YtiohainnpjikpaaDoorBun8
import Derived.Laws.ResultCell
import Derived.Laws.Rows
/- Contracts of layer 1's small functions and of their references. -/
namespace Go.Proofs.YtiohainnpjikpaaDoor
open Go.RowKit
end Go.Proofs.YtiohainnpjikpaaDoor

namespace Go.Proofs.YtiohainnpjikpaaDoor
open Go.RowKit

theorem ofInt_i64 (a : Nat) (ha : a < 9223372036854775808) : (BitVec.ofInt 64 (a : Int)).toNat = a := by
  rw [BitVec.ofInt_natCast, BitVec.toNat_ofNat]; exact Nat.mod_eq_of_lt (by omega)
theorem i64_and_nat (a b : Nat) (ha : a < 9223372036854775808) (hb : b < 9223372036854775808) : bits .and .i64 (a : Int) (b : Int) = ((a &&& b : Nat) : Int) := by
  have hx : a &&& b < 2 ^ 63 := Nat.and_lt_two_pow _ (by omega)
  show IntKind.i64.wrap ((BitVec.ofInt 64 (a : Int) &&& BitVec.ofInt 64 (b : Int)).toNat : Int) = _
  rw [BitVec.toNat_and, ofInt_i64 a ha, ofInt_i64 b hb, IntKind.wrap_i64]
  omega

theorem div_pow_le (a j : Nat) : a / 2 ^ j ≤ a := Nat.div_le_self _ _

theorem bit_test (a k : Nat) (ha : a ≤ 1152921504606846976) :
    (bits BinOp.and IntKind.i64 ((a : Int) / 2 ^ (60 - k)) 1 == 1) = decide (CM.bitAt a k = 1) := by
  have e : ((a : Int) / 2 ^ (60 - k)) = ((a / 2 ^ (60 - k) : Nat) : Int) := by
    rw [Int.natCast_ediv, Int.natCast_pow]; rfl
  have hl := div_pow_le a (60 - k)
  have h := i64_and_nat (a / 2 ^ (60 - k)) 1 (by omega) (by omega)
  rw [e, show (1 : Int) = ((1 : Nat) : Int) from rfl, h, Nat.and_one_is_mod]
  unfold CM.bitAt
  generalize a / 2 ^ (60 - k) % 2 = t
  rw [Bool.eq_iff_iff]; simp; omega

theorem bit_test2 (a k : Nat) :
    ((((a : Int) / 2 ^ (60 - k)).tmod 2) == 1) = decide (CM.bitAt a k = 1) := by
  have e : ((a : Int) / 2 ^ (60 - k)) = ((a / 2 ^ (60 - k) : Nat) : Int) := by
    rw [Int.natCast_ediv, Int.natCast_pow]; rfl
  rw [e, Int.tmod_eq_emod_of_nonneg (Int.natCast_nonneg _)]
  unfold CM.bitAt
  generalize a / 2 ^ (60 - k) = t
  rw [Bool.eq_iff_iff]; simp; omega

end Go.Proofs.YtiohainnpjikpaaDoor

namespace Go.Proofs.YtiohainnpjikpaaDoor
open Go.RowKit
theorem cell_fresh (v : World) (q : Int) : (v.alloc (.cells #[.int .i64 q] 3)).cell? ⟨v.heap.size, 0, none⟩ = some (.int .i64 q) := by go_simp

theorem mdA_parts {a b c mode : Int} (h : CM.mdA a b c mode = true) : CM.fits a = true ∧ CM.fits b = true ∧ CM.fits c = true ∧ 1 ≤ mode ∧ mode ≤ 5 := by
  simp [CM.mdA] at h
  obtain ⟨⟨⟨⟨h1, h2⟩, h3⟩, h4⟩, h5⟩ := h
  exact ⟨h1, h2, h3, h4, h5⟩

end Go.Proofs.YtiohainnpjikpaaDoor

namespace Go.Proofs.YtiohainnpjikpaaDoor
open Go.RowKit
end Go.Proofs.YtiohainnpjikpaaDoor

/- Contracts of layer 9: Price, Round, Value, the program's and the reference's. -/
namespace Go.Proofs.YtiohainnpjikpaaDoor
open Go.RowKit Go.Recs
set_option linter.unusedVariables false

/-- block g is one product -/
def PBox (w : World) (g : Nat) (p : QM.Prod) : Prop := w.heap[g]? = some (.cells #[.string p.name, .int .i64 p.cur, .int .i64 p.mult, .int .i64 p.tick, .int .i64 p.low, .int .i64 p.high, .bool p.phys] 29 (0, 0))
theorem PBox.new (w : World) (p : QM.Prod) : PBox (w.alloc (.cells #[.string p.name, .int .i64 p.cur, .int .i64 p.mult, .int .i64 p.tick, .int .i64 p.low, .int .i64 p.high, .bool p.phys] 29)) w.heap.size p := heap_alloc_new w _
theorem PBox.below {w w' : World} {g B : Nat} {p : QM.Prod} (h : PBox w g p) (hb : Below B w w') (hg : g < B) : PBox w' g p := (hb.block g hg).trans h
theorem PBox.lt {w : World} {g : Nat} {p : QM.Prod} (h : PBox w g p) : g < w.heap.size := lt_of_block h
theorem PBox.cells {w : World} {g : Nat} {p : QM.Prod} (h : PBox w g p) :
    w.cell? ⟨g, 0, none⟩ = some (.string p.name) ∧ w.cell? ⟨g, 1, none⟩ = some (.int .i64 p.cur) ∧ w.cell? ⟨g, 2, none⟩ = some (.int .i64 p.mult) ∧ w.cell? ⟨g, 3, none⟩ = some (.int .i64 p.tick) ∧
    w.cell? ⟨g, 4, none⟩ = some (.int .i64 p.low) ∧ w.cell? ⟨g, 5, none⟩ = some (.int .i64 p.high) ∧ w.cell? ⟨g, 6, none⟩ = some (.bool p.phys) := by
  unfold PBox at h
  simp [World.cell?, h]
theorem new_lt (w : World) (o : Obj) : w.heap.size < (w.alloc o).heap.size := by simp

set_option maxHeartbeats 2000000 in
theorem qprice_any (p : QM.Prod) (x : Int) (hq : prodQ p) (w : World) :
    Calls Tryd.prog 51 #[prodA p, .int .i64 x] w fun e w' => e = .returned (.int .i64 (QM.priceE p x)) ∧ Below w.heap.size w w' := by
  have C0 := Lib.hid (fun ww => qcheck_any p hq ww)
  have HB := Lib.hid ((Below.refl w.heap.size w).alloc (Nat.le_refl _) (.cells #[.string p.name, .int .i64 p.cur, .int .i64 p.mult, .int .i64 p.tick, .int .i64 p.low, .int .i64 p.high, .bool p.phys] 29))
  have HP := Lib.hid (PBox.new w p)
  have HL := Lib.hid (new_lt w (.cells #[.string p.name, .int .i64 p.cur, .int .i64 p.mult, .int .i64 p.tick, .int .i64 p.low, .int .i64 p.high, .bool p.phys] 29))
  by_cases hc : QM.checkE p = 0
  · have ht := QM.tick_pos hc
    have C1 := Lib.hid (fun ww => qwithin_any x p.low p.high ww)
    have C2 := Lib.hid (fun ww => qmul_any x p.tick ht ww)
    have K1 := Lib.hid (@QM.pk_out p x hc); have K2 := Lib.hid (@QM.pk_tick p x hc); have K3 := Lib.hid (@QM.pk_ok p x hc)
    rw [hc] at C0
    generalize QM.priceE p x = y at *
    generalize QM.within x p.low p.high = b1 at *
    generalize (x.tmod p.tick == 0) = b2 at *
    clear hc ht hq
    go_enter Tryd.func51, Tryd.ntmps51
    go_wp2_with fail
    refine (C0.out _).mono ?_
    rintro e w1 ⟨rfl, b⟩
    have HB1 := Lib.hid (HB.out.trans (b.mono HB.out.size))
    obtain ⟨c0, c1, c2, c3, c4, c5, c6⟩ := (HP.out.below b HL.out).cells
    clear b HB HP HL
    go_wp2_with fail
    refine (C1.out _).mono ?_
    rintro e w2 ⟨rfl, rfl⟩
    cases b1
    · have HX := Lib.hid (K1.out (by trivial))
      go_wp2_with fail
      go_ret
      exact ⟨by rw [HX.out]; rfl, HB1.out⟩
    go_wp2_with fail
    refine (C2.out _).mono ?_
    rintro e w2 ⟨rfl, rfl⟩
    cases b2
    · have HX := Lib.hid (K2.out (by trivial) (by trivial))
      go_wp2_with fail
      go_ret
      exact ⟨by rw [HX.out]; rfl, HB1.out⟩
    have HX := Lib.hid (K3.out (by trivial) (by trivial))
    go_wp2_with fail
    go_ret
    exact ⟨by rw [HX.out]; rfl, HB1.out⟩
  · rw [QM.pk_bad hc]
    have hd : (QM.checkE p != 0) = true := by simpa using hc
    generalize QM.checkE p = y at *
    clear hc hq HP HL
    go_enter Tryd.func51, Tryd.ntmps51
    go_wp2_with fail
    refine (C0.out _).mono ?_
    rintro e w1 ⟨rfl, b⟩
    have HB1 := Lib.hid (HB.out.trans (b.mono HB.out.size))
    clear b
    go_wp2_with fail
    go_ret
    exact ⟨rfl, HB1.out⟩

set_option maxHeartbeats 2000000 in
theorem rqprice_any (p : QM.Prod) (x : Int) (hq : prodQ p) (w : World) :
    Calls Tryd.prog 27 #[prodA p, .int .i64 x] w fun e w' => e = .returned (.int .i64 (QM.priceE p x)) ∧ Below w.heap.size w w' := by
  have C0 := Lib.hid (fun ww => rqcheck_any p hq ww)
  have HB := Lib.hid ((Below.refl w.heap.size w).alloc (Nat.le_refl _) (.cells #[.string p.name, .int .i64 p.cur, .int .i64 p.mult, .int .i64 p.tick, .int .i64 p.low, .int .i64 p.high, .bool p.phys] 29))
  have HP := Lib.hid (PBox.new w p)
  have HL := Lib.hid (new_lt w (.cells #[.string p.name, .int .i64 p.cur, .int .i64 p.mult, .int .i64 p.tick, .int .i64 p.low, .int .i64 p.high, .bool p.phys] 29))
  by_cases hc : QM.checkE p = 0
  · have ht : ¬ p.tick = 0 := QM.tick_pos hc
    have C1 := Lib.hid (fun ww => rqwithin_any x p.low p.high ww)
    have K1 := Lib.hid (@QM.pk_out p x hc); have K2 := Lib.hid (@QM.pk_tick p x hc); have K3 := Lib.hid (@QM.pk_ok p x hc)
    rw [hc] at C0
    generalize QM.priceE p x = y at *
    generalize QM.within x p.low p.high = b1 at *
    clear hc hq
    go_enter Tryd.func27, Tryd.ntmps27
    go_wp2_with fail
    refine (C0.out _).mono ?_
    rintro e w1 ⟨rfl, b⟩
    have HB1 := Lib.hid (HB.out.trans (b.mono HB.out.size))
    obtain ⟨c0, c1, c2, c3, c4, c5, c6⟩ := (HP.out.below b HL.out).cells
    clear b HB HP HL
    go_wp2_with fail
    refine (C1.out _).mono ?_
    rintro e w2 ⟨rfl, rfl⟩
    cases b1
    · have HX := Lib.hid (K1.out (by trivial))
      go_wp2_with fail
      go_ret
      exact ⟨by rw [HX.out]; rfl, HB1.out⟩
    cases h2 : (x.tmod p.tick == 0)
    · have HX := Lib.hid (K2.out (by trivial) h2)
      have h2b : (x.tmod p.tick != 0) = true := by rw [bne, h2]; rfl
      have h2c : ¬ x.tmod p.tick = 0 := by simpa using h2
      go_wp2_with fail
      go_ret
      exact ⟨by rw [HX.out]; rfl, HB1.out⟩
    have HX := Lib.hid (K3.out (by trivial) h2)
    have h2b : (x.tmod p.tick != 0) = false := by rw [bne, h2]; rfl
    have h2c : x.tmod p.tick = 0 := by simpa using h2
    go_wp2_with fail
    go_ret
    exact ⟨by rw [HX.out]; rfl, HB1.out⟩
  · rw [QM.pk_bad hc]
    have hd : (QM.checkE p != 0) = true := by simpa using hc
    generalize QM.checkE p = y at *
    clear hc hq HP HL
    go_enter Tryd.func27, Tryd.ntmps27
    go_wp2_with fail
    refine (C0.out _).mono ?_
    rintro e w1 ⟨rfl, b⟩
    have HB1 := Lib.hid (HB.out.trans (b.mono HB.out.size))
    clear b
    go_wp2_with fail
    go_ret
    exact ⟨rfl, HB1.out⟩

end Go.Proofs.YtiohainnpjikpaaDoor

/- Contracts of layer 9: Find. -/
namespace Go.Proofs.YtiohainnpjikpaaDoor
open Go.RowKit Go.Recs
set_option linter.unusedVariables false

theorem prod_under : Tryd.prog.underlying 29 = some (.struct (Tryd.prog.fieldsOf 29)) := by kernel_rfl
theorem prod_size : (Tryd.prog.info? 29).map (·.size) = some 7 := by kernel_rfl
theorem results_prod {fn : Func} {p u : Tmp} (h : fn.results = #[.cell p 29, .tmp u]) (tmps : Array Value) (w : World) (g : Nat) (x : QM.Prod)
    (hp : tmps.getD p undef = .pointer (some ⟨g, 0, none⟩)) (hb : PBox w g x) : (results fn tmps).run Tryd.prog w = .ok (.tuple #[prodA x, tmps.getD u undef]) w := by
  rw [results_cell_tmp h, hp]
  simp only [asAddr, Sem.run_pure, Result.andThen_ok]
  rw [run_loadVar_row w g 29 29 _ (0, 0) _ hb prod_under rfl prod_size]
  rfl
section
variable {w w' : World} {g : Nat} {p : QM.Prod}
theorem PBox.drewN (h : PBox w g p) (n : Nat) : PBox (w.drewN n) g p := h
theorem PBox.drew (h : PBox w g p) : PBox w.drew g p := h
theorem PBox.alloc (h : PBox w g p) (o : Obj) : PBox (w.alloc o) g p := (Below.heap_alloc w o g h.lt).trans h
theorem PBox.frozen (h : PBox w g p) (i : Nat) : w.frozen? ⟨g, i, none⟩ = false := by unfold PBox at h; simp [World.frozen?, h]
theorem PBox.put (h : PBox w g p) (x : QM.Prod) : PBox (((((((w.setCell ⟨g, 0, none⟩ (.string x.name)).setCell ⟨g, 1, none⟩ (.int .i64 x.cur)).setCell ⟨g, 2, none⟩ (.int .i64 x.mult)).setCell ⟨g, 3, none⟩ (.int .i64 x.tick)).setCell ⟨g, 4, none⟩ (.int .i64 x.low)).setCell ⟨g, 5, none⟩ (.int .i64 x.high)).setCell ⟨g, 6, none⟩ (.bool x.phys)) g x := by
  unfold PBox at h ⊢
  simp [World.setCell, Array.getElem?_modify, h]
theorem PBox.put_below {B : Nat} {a : World} (h : Below B a w) (hB : B ≤ g) (x : QM.Prod) : Below B a (((((((w.setCell ⟨g, 0, none⟩ (.string x.name)).setCell ⟨g, 1, none⟩ (.int .i64 x.cur)).setCell ⟨g, 2, none⟩ (.int .i64 x.mult)).setCell ⟨g, 3, none⟩ (.int .i64 x.tick)).setCell ⟨g, 4, none⟩ (.int .i64 x.low)).setCell ⟨g, 5, none⟩ (.int .i64 x.high)).setCell ⟨g, 6, none⟩ (.bool x.phys)) :=
  ((((((h.setCell hB _).setCell hB _).setCell hB _).setCell hB _).setCell hB _).setCell hB _).setCell hB _
end

def firstP (l : List QM.Prod) (s : ByteArray) : QM.Prod × Bool := match l.find? (fun p => p.name.toList == s.toList) with | some p => (p, true) | none => (QM.zero, false)
theorem first_yes {l : List QM.Prod} {s : ByteArray} {k : Nat} (hk : k < l.length) (h : ∀ j, j < k → ((QM.pAt l j).name.toList == s.toList) = false) (h2 : ((QM.pAt l k).name.toList == s.toList) = true) : firstP l s = (QM.pAt l k, true) := by
  have e : l.find? (fun p => p.name.toList == s.toList) = some (QM.pAt l k) := by
    rw [List.find?_eq_some_iff_getElem]
    refine ⟨h2, k, hk, by simp [QM.pAt, List.getD, hk], fun j hj => ?_⟩
    have := h j hj
    have hjl : j < l.length := by omega
    simp only [QM.pAt, List.getD, List.getElem?_eq_getElem hjl, Option.getD_some] at this
    rw [this]; rfl
  unfold firstP; rw [e]
theorem first_no {l : List QM.Prod} {s : ByteArray} (h : ∀ j, j < l.length → ((QM.pAt l j).name.toList == s.toList) = false) : firstP l s = (QM.zero, false) := by
  have e : l.find? (fun p => p.name.toList == s.toList) = none := by
    rw [List.find?_eq_none]
    intro a ha
    obtain ⟨j, hj, rfl⟩ := List.getElem_of_mem ha
    have := h j hj
    simp only [QM.pAt, List.getD, List.getElem?_eq_getElem hj, Option.getD_some] at this
    simp [this]
  unfold firstP; rw [e]

set_option maxHeartbeats 2000000 in
theorem rqfind_any (A : Option Addr) (l : List QM.Prod) (cap : Nat) (s : ByteArray) (w : World) (hI : Prods w A l) :
    Calls Tryd.prog 26 #[.slice A l.length cap, .string s] w fun e w' => e = .returned (.tuple #[prodA (firstP l s).1, .bool (firstP l s).2]) ∧ Below w.heap.size w w' := by
  have HY := Lib.hid (fun k => @first_yes l s k)
  have HN := Lib.hid (@first_no l s)
  have hlen : l.length ≤ 9223372036854775807 := by have := hI.1.len; rw [List.length_map] at this; exact this
  generalize firstP l s = xy at *
  obtain ⟨x, y⟩ := xy
  have HB := Lib.hid ((Below.refl w.heap.size w).alloc (Nat.le_refl _) (.cells #[.string ⟨#[]⟩, .int .i64 0, .int .i64 0, .int .i64 0, .int .i64 0, .int .i64 0, .bool false] 29))
  have HP : Hid (PBox (w.alloc (.cells #[.string ⟨#[]⟩, .int .i64 0, .int .i64 0, .int .i64 0, .int .i64 0, .int .i64 0, .bool false] 29)) w.heap.size QM.zero) := Lib.hid (PBox.new w QM.zero)
  have HI := Lib.hid (hI.below HB.out)
  clear hI
  go_enter Tryd.func26, Tryd.ntmps26
  go_wp2
  generalize w.alloc (.cells #[.string ⟨#[]⟩, .int .i64 0, .int .i64 0, .int .i64 0, .int .i64 0, .int .i64 0, .bool false] 29) = w0 at *
  obtain ⟨c0, c1, c2, c3, c4, c5, c6⟩ := HP.out.cells
  have f0 := HP.out.frozen 0; have f1 := HP.out.frozen 1; have f2 := HP.out.frozen 2; have f3 := HP.out.frozen 3; have f4 := HP.out.frozen 4; have f5 := HP.out.frozen 5; have f6 := HP.out.frozen 6
  go_loop [6] (fun i => ∃ k : Nat, k ≤ l.length ∧ i = .int .i64 k ∧ Hid (∀ j, j < k → ((QM.pAt l j).name.toList == s.toList) = false)) (fun i => l.length - (intOf i).toNat)
  case atStart => exact ⟨0, by omega, rfl, Lib.hid (fun j h => by omega)⟩
  case round =>
    obtain ⟨k, hk, rfl, HE⟩ := hrel
    by_cases hlt : k < l.length
    · obtain ⟨b, off, p, rfl, hb, HV, q0, d0, d1, d2, d3, d4, d5, d6⟩ := prods_get HI.out hlt
      cases he : (p.name.toList == s.toList)
      · have HE2 : Hid (∀ j, j < k + 1 → ((QM.pAt l j).name.toList == s.toList) = false) := Lib.hid (fun j hj => by
          rcases Nat.lt_or_ge j k with g | g
          · exact HE.out j g
          · obtain rfl : j = k := by omega
            rw [HV.out]; exact he)
        go_wp2
        go_round
        case rel => exact ⟨k + 1, by omega, by go_num, HE2⟩
        case measure => simp [intOf]; omega
      · have HR := Lib.hid (HY.out k hlt HE.out (by rw [HV.out]; exact he))
        go_wp2
        (try simp only [Exit.inBlock, Exit.then])
        refine bodyPost_ret (results_prod rfl _ _ _ _ rfl (HP.out.put p)) rfl ⟨?_, ?_⟩
        · have h1 := HR.out; rw [HV.out] at h1; injection h1 with h1 h2; rw [h1, h2]; rfl
        · exact PBox.put_below HB.out (Nat.le_refl _) p
    · obtain rfl : k = l.length := by omega
      have HR := Lib.hid (HN.out HE.out)
      go_wp2
      (try simp only [Exit.inBlock, Exit.then])
      refine bodyPost_ret (results_prod rfl _ _ _ _ rfl (HP.out.put QM.zero)) rfl ⟨?_, ?_⟩
      · have h1 := HR.out; injection h1 with h1 h2; rw [h1, h2]; rfl
      · exact PBox.put_below HB.out (Nat.le_refl _) QM.zero

theorem qfind1_any (p : QM.Prod) (s : ByteArray) (g : Nat) (w : World) (hc : w.cell? ⟨g, 0, none⟩ = some (.string s)) (hg : g < w.heap.size) :
    Calls Tryd.prog 50 #[prodA p, .pointer (some ⟨g, 0, none⟩)] w fun e w' => e = .returned (.bool (p.name.toList == s.toList)) ∧ Below w.heap.size w w' := by
  have HB := Lib.hid ((Below.refl w.heap.size w).alloc (Nat.le_refl _) (.cells #[.string p.name, .int .i64 p.cur, .int .i64 p.mult, .int .i64 p.tick, .int .i64 p.low, .int .i64 p.high, .bool p.phys] 29))
  have hc2 := (HB.out.cell (p := ⟨g, 0, none⟩) hg).trans hc
  go_enter Tryd.func50, Tryd.ntmps50
  go_wp2
  go_ret
  exact ⟨rfl, HB.out⟩

set_option maxHeartbeats 4000000 in
theorem qfirst_any (A : Option Addr) (l : List QM.Prod) (cap : Nat) (s : ByteArray) (g : Nat) (w : World) (hI : Prods w A l) (hc : w.cell? ⟨g, 0, none⟩ = some (.string s)) (hg : g < w.heap.size) :
    Calls Tryd.prog 49 #[.slice A l.length cap, .func (.func 50) #[] #[.pointer (some ⟨g, 0, none⟩)]] w fun e w' => e = .returned (.tuple #[prodA (firstP l s).1, .bool (firstP l s).2]) ∧ Below w.heap.size w w' := by
  have HY := Lib.hid (fun k => @first_yes l s k)
  have HN := Lib.hid (@first_no l s)
  have hlen : l.length ≤ 9223372036854775807 := by have := hI.1.len; rw [List.length_map] at this; exact this
  generalize firstP l s = xy at *
  obtain ⟨x, y⟩ := xy
  have HB := Lib.hid ((Below.refl w.heap.size w).alloc (Nat.le_refl _) (.cells #[.string ⟨#[]⟩, .int .i64 0, .int .i64 0, .int .i64 0, .int .i64 0, .int .i64 0, .bool false] 29))
  have HP : Hid (PBox (w.alloc (.cells #[.string ⟨#[]⟩, .int .i64 0, .int .i64 0, .int .i64 0, .int .i64 0, .int .i64 0, .bool false] 29)) w.heap.size QM.zero) := Lib.hid (PBox.new w QM.zero)
  have HI := Lib.hid (hI.below HB.out)
  have HC := Lib.hid ((HB.out.cell (p := ⟨g, 0, none⟩) hg).trans hc)
  have HG : Hid (g < w.heap.size) := Lib.hid hg
  clear hI hc hg
  go_enter Tryd.func49, Tryd.ntmps49
  go_wp2
  have HS : Hid (w.heap.size < (w.alloc (.cells #[.string ⟨#[]⟩, .int .i64 0, .int .i64 0, .int .i64 0, .int .i64 0, .int .i64 0, .bool false] 29)).heap.size) := Lib.hid (new_lt _ _)
  generalize w.alloc (.cells #[.string ⟨#[]⟩, .int .i64 0, .int .i64 0, .int .i64 0, .int .i64 0, .int .i64 0, .bool false] 29) = w0 at *
  go_loopw [7, 10] (fun _ i wr => ∃ k : Nat, k ≤ l.length ∧ i = .int .i64 k ∧ Hid (∀ j, j < k → ((QM.pAt l j).name.toList == s.toList) = false) ∧ Hid (Below w0.heap.size w0 wr)) (fun _ i _ => l.length - (intOf i).toNat)
  case atStart => exact ⟨0, by omega, rfl, Lib.hid (fun j h => by omega), Lib.hid (Below.refl _ _)⟩
  case round =>
    obtain ⟨k, hk, rfl, HE, HW⟩ := hrel
    by_cases hlt : k < l.length
    · obtain ⟨b, off, p, rfl, hb, HV, q0, d0, d1, d2, d3, d4, d5, d6⟩ := prods_get (HI.out.below HW.out) hlt
      have HWA := Lib.hid (HW.out.alloc HW.out.size (.cells #[.string p.name, .int .i64 p.cur, .int .i64 p.mult, .int .i64 p.tick, .int .i64 p.low, .int .i64 p.high, .bool p.phys] 29))
      have HQ := Lib.hid (PBox.new wr p)
      have HL := Lib.hid (new_lt wr (.cells #[.string p.name, .int .i64 p.cur, .int .i64 p.mult, .int .i64 p.tick, .int .i64 p.low, .int .i64 p.high, .bool p.phys] 29))
      have C1 := Lib.hid (fun ww h1 h2 => qfind1_any p s g ww h1 h2)
      have HC2 : Hid ((wr.alloc (.cells #[.string p.name, .int .i64 p.cur, .int .i64 p.mult, .int .i64 p.tick, .int .i64 p.low, .int .i64 p.high, .bool p.phys] 29)).cell? ⟨g, 0, none⟩ = some (.string s)) :=
        Lib.hid ((HWA.out.cell (p := ⟨g, 0, none⟩) (Nat.lt_trans HG.out HS.out)).trans HC.out)
      have HG2 : Hid (g < (wr.alloc (.cells #[.string p.name, .int .i64 p.cur, .int .i64 p.mult, .int .i64 p.tick, .int .i64 p.low, .int .i64 p.high, .bool p.phys] 29)).heap.size) :=
        Lib.hid (Nat.lt_of_lt_of_le (Nat.lt_trans HG.out HS.out) HWA.out.size)
      go_wp2_with fail
      refine (C1.out _ HC2.out HG2.out).mono ?_
      rintro e w2 ⟨rfl, b2⟩
      have HW2 := Lib.hid (HWA.out.trans (b2.mono HWA.out.size))
      have HQ2 := Lib.hid (HQ.out.below b2 HL.out)
      clear b2 d0 d1 d2 d3 d4 d5 d6 HC2 HG2 HWA HQ HL
      cases he : (p.name.toList == s.toList)
      · have HE2 : Hid (∀ j, j < k + 1 → ((QM.pAt l j).name.toList == s.toList) = false) := Lib.hid (fun j hj => by
          rcases Nat.lt_or_ge j k with g | g
          · exact HE.out j g
          · obtain rfl : j = k := by omega
            rw [HV.out]; exact he)
        go_wp2_with fail
        go_roundw
        case rel => exact ⟨k + 1, by omega, by go_num, HE2, HW2⟩
        case measure => simp [intOf]; omega
      · have HR := Lib.hid (HY.out k hlt HE.out (by rw [HV.out]; exact he))
        have HP2 := Lib.hid (HP.out.below HW2.out HS.out)
        obtain ⟨c0, c1, c2, c3, c4, c5, c6⟩ := HP2.out.cells
        have f0 := HP2.out.frozen 0; have f1 := HP2.out.frozen 1; have f2 := HP2.out.frozen 2; have f3 := HP2.out.frozen 3; have f4 := HP2.out.frozen 4; have f5 := HP2.out.frozen 5; have f6 := HP2.out.frozen 6
        obtain ⟨d0, d1, d2, d3, d4, d5, d6⟩ := HQ2.out.cells
        go_wp2_with fail
        (try simp only [Exit.inBlock, Exit.then])
        refine bodyPost_ret (results_prod rfl _ _ _ _ rfl (HP2.out.put p)) rfl ⟨?_, ?_⟩
        · have h1 := HR.out; rw [HV.out] at h1; injection h1 with h1 h2; rw [h1, h2]; rfl
        · exact PBox.put_below (HB.out.trans (HW2.out.mono HB.out.size)) (Nat.le_refl _) p
    · obtain rfl : k = l.length := by omega
      have HR := Lib.hid (HN.out HE.out)
      have HP2 := Lib.hid (HP.out.below HW.out HS.out)
      obtain ⟨c0, c1, c2, c3, c4, c5, c6⟩ : wr.cell? ⟨w.heap.size, 0, none⟩ = some (.string ⟨#[]⟩) ∧ wr.cell? ⟨w.heap.size, 1, none⟩ = some (.int .i64 0) ∧ wr.cell? ⟨w.heap.size, 2, none⟩ = some (.int .i64 0) ∧ wr.cell? ⟨w.heap.size, 3, none⟩ = some (.int .i64 0) ∧ wr.cell? ⟨w.heap.size, 4, none⟩ = some (.int .i64 0) ∧ wr.cell? ⟨w.heap.size, 5, none⟩ = some (.int .i64 0) ∧ wr.cell? ⟨w.heap.size, 6, none⟩ = some (.bool false) := HP2.out.cells
      have f0 := HP2.out.frozen 0; have f1 := HP2.out.frozen 1; have f2 := HP2.out.frozen 2; have f3 := HP2.out.frozen 3; have f4 := HP2.out.frozen 4; have f5 := HP2.out.frozen 5; have f6 := HP2.out.frozen 6
      go_wp2_with fail
      (try simp only [Exit.inBlock, Exit.then])
      refine bodyPost_ret (results_prod rfl _ _ _ _ rfl (HP2.out.put QM.zero)) rfl ⟨?_, ?_⟩
      · have h1 := HR.out; injection h1 with h1 h2; rw [h1, h2]; rfl
      · exact PBox.put_below (HB.out.trans (HW.out.mono HB.out.size)) (Nat.le_refl _) QM.zero

set_option maxHeartbeats 2000000 in
theorem qfind_any (A : Option Addr) (l : List QM.Prod) (cap : Nat) (s : ByteArray) (w : World) (hI : Prods w A l) :
    Calls Tryd.prog 22 #[.slice A l.length cap, .string s] w fun e w' => e = .returned (.tuple #[prodA (firstP l s).1, .bool (firstP l s).2]) ∧ Below w.heap.size w w' := by
  have HB1 := Lib.hid ((Below.refl w.heap.size w).alloc (Nat.le_refl _) (.cells #[.string s] 9))
  have C1 := Lib.hid (fun ww (h : Prods ww A l) hc hg => qfirst_any A l cap s w.heap.size ww h hc hg)
  generalize firstP l s = xy at *
  obtain ⟨x, y⟩ := xy
  have HB2 := Lib.hid (HB1.out.alloc HB1.out.size (.cells #[.string ⟨#[]⟩, .int .i64 0, .int .i64 0, .int .i64 0, .int .i64 0, .int .i64 0, .bool false] 29))
  have HP : Hid (PBox ((w.alloc (.cells #[.string s] 9)).alloc (.cells #[.string ⟨#[]⟩, .int .i64 0, .int .i64 0, .int .i64 0, .int .i64 0, .int .i64 0, .bool false] 29)) (w.heap.size + 1) QM.zero) := Lib.hid (by
    have := PBox.new (w.alloc (.cells #[.string s] 9)) QM.zero
    rw [show (w.alloc (.cells #[.string s] 9)).heap.size = w.heap.size + 1 by simp] at this
    exact this)
  have HX : Hid (Box ((w.alloc (.cells #[.string s] 9)).alloc (.cells #[.string ⟨#[]⟩, .int .i64 0, .int .i64 0, .int .i64 0, .int .i64 0, .int .i64 0, .bool false] 29)) w.heap.size 9 (.string s)) := Lib.hid ((Box.new w 9 (.string s)).alloc _)
  have HI := Lib.hid (hI.below HB2.out)
  clear hI HB1
  have hmf : ∀ (fn : Fn) (first cap : Array Value) (w : World), (Instr.makeFunc fn first cap).run Tryd.prog w = .ok (.func fn first cap) w := fun _ _ _ _ => rfl
  go_enter Tryd.func22, Tryd.ntmps22
  go_wp2_with fail
  refine (C1.out _ HI.out HX.out.cell HX.out.lt).mono ?_
  rintro e w2 ⟨rfl, b2⟩
  have HP2 := Lib.hid (HP.out.below b2 HP.out.lt)
  have HB3 := Lib.hid (HB2.out.trans (b2.mono HB2.out.size))
  obtain ⟨c0, c1, c2, c3, c4, c5, c6⟩ := HP2.out.cells
  have f0 := HP2.out.frozen 0; have f1 := HP2.out.frozen 1; have f2 := HP2.out.frozen 2; have f3 := HP2.out.frozen 3; have f4 := HP2.out.frozen 4; have f5 := HP2.out.frozen 5; have f6 := HP2.out.frozen 6
  clear b2
  go_wp2_with fail
  (try simp only [Exit.inBlock, Exit.then])
  refine bodyPost_ret (results_prod rfl _ _ _ _ rfl (HP2.out.put x)) rfl ⟨?_, ?_⟩
  · rfl
  · exact PBox.put_below HB3.out (by omega) x
end Go.Proofs.YtiohainnpjikpaaDoor

/- Contracts of layer 9: CheckAll. -/
namespace Go.Proofs.YtiohainnpjikpaaDoor
open Go.RowKit Go.Recs
set_option linter.unusedVariables false

def prevP (l : List QM.Prod) (k : Nat) : QM.Prod := if k = 0 then QM.zero else QM.pAt l (k - 1)
theorem prev_zero (l : List QM.Prod) : prevP l 0 = QM.zero := rfl
theorem prev_succ (l : List QM.Prod) (k : Nat) : prevP l (k + 1) = QM.pAt l k := by unfold prevP; simp
theorem zero_check : QM.checkE QM.zero = 10 := by decide
theorem prev_ne {l : List QM.Prod} {k : Nat} (h : QM.uptoE l k = 0) (h0 : 0 < k) : peq (prevP l k) QM.zero = false := by
  obtain ⟨j, rfl⟩ : ∃ j, k = j + 1 := ⟨k - 1, by omega⟩
  rw [prev_succ, peq_false]
  intro e
  have h1 := QM.upto_back h j (by omega)
  unfold QM.oneE at h1
  rw [e, zero_check] at h1
  simp at h1
theorem one_check {l : List QM.Prod} {k : Nat} (h : QM.checkE (QM.pAt l k) ≠ 0) : QM.oneE l k = QM.checkE (QM.pAt l k) := by unfold QM.oneE; rw [if_pos h]
theorem one_there {l : List QM.Prod} {k : Nat} (h : QM.checkE (QM.pAt l k) = 0) (h0 : 0 < k) (h2 : (Op.bytesLess (QM.pAt l k).name.toList (prevP l k).name.toList || ((QM.pAt l k).name.toList == (prevP l k).name.toList)) = true) : QM.oneE l k = 12 := by
  unfold QM.oneE
  rw [if_neg (by simp [h]), if_pos]
  refine ⟨h0, ?_⟩
  unfold prevP at h2
  rw [if_neg (by omega)] at h2
  unfold QM.lessB
  rw [Bool.or_eq_true] at h2
  rcases h2 with h2 | h2
  · exact OM.bl_asymm h2
  · rw [eq_of_beq h2]; exact OM.bl_irrefl _
theorem one_ok {l : List QM.Prod} {k : Nat} (h : QM.checkE (QM.pAt l k) = 0) (h2 : k = 0 ∨ (Op.bytesLess (QM.pAt l k).name.toList (prevP l k).name.toList || ((QM.pAt l k).name.toList == (prevP l k).name.toList)) = false) : QM.oneE l k = 0 := by
  unfold QM.oneE
  rw [if_neg (by simp [h]), if_neg]
  rintro ⟨h0, h3⟩
  rcases h2 with rfl | h2
  · omega
  · unfold prevP at h2
    rw [if_neg (by omega), Bool.or_eq_false_iff] at h2
    unfold QM.lessB at h3
    rcases OM.bl_tri (QM.pAt l (k - 1)).name.toList (QM.pAt l k).name.toList with g | g | g
    · rw [g] at h3; cases h3
    · rw [g] at h2; simp at h2
    · rw [g] at h2; simp at h2

set_option maxRecDepth 100000 in
set_option maxHeartbeats 4000000 in
theorem qall_any (A : Option Addr) (l : List QM.Prod) (cap : Nat) (w : World) (hI : Prods w A l) :
    Calls Tryd.prog 21 #[.slice A l.length cap] w fun e w' => e = .returned (.int .i64 (QM.allE l)) ∧ Below w.heap.size w w' := by
  have hlen : l.length ≤ 9223372036854775807 := by have := hI.1.len; rw [List.length_map] at this; exact this
  by_cases h32 : 32 < l.length
  · have e : QM.allE l = 8 := by unfold QM.allE; rw [if_pos h32]
    rw [e]; clear e hI
    go_enter Tryd.func21, Tryd.ntmps21
    go_wp2_with fail
    go_ret
    exact ⟨rfl, Below.refl _ _⟩
  have KS := Lib.hid (fun k => @QM.all_stop l k h32)
  have KE : Hid (QM.uptoE l l.length = 0 → QM.allE l = 0) := Lib.hid (fun h => by unfold QM.allE; rw [if_neg h32, h])
  generalize QM.allE l = x at *
  have HB1 := Lib.hid ((Below.refl w.heap.size w).alloc (Nat.le_refl _) (.cells #[.string ⟨#[]⟩, .int .i64 0, .int .i64 0, .int .i64 0, .int .i64 0, .int .i64 0, .bool false] 29))
  have HB2 := Lib.hid (HB1.out.alloc HB1.out.size (.cells #[.string ⟨#[]⟩, .int .i64 0, .int .i64 0, .int .i64 0, .int .i64 0, .int .i64 0, .bool false] 29))
  have HP1 : Hid (PBox ((w.alloc (.cells #[.string ⟨#[]⟩, .int .i64 0, .int .i64 0, .int .i64 0, .int .i64 0, .int .i64 0, .bool false] 29)).alloc (.cells #[.string ⟨#[]⟩, .int .i64 0, .int .i64 0, .int .i64 0, .int .i64 0, .int .i64 0, .bool false] 29)) w.heap.size QM.zero) :=
    Lib.hid ((PBox.new w QM.zero).alloc _)
  have HP2 : Hid (PBox ((w.alloc (.cells #[.string ⟨#[]⟩, .int .i64 0, .int .i64 0, .int .i64 0, .int .i64 0, .int .i64 0, .bool false] 29)).alloc (.cells #[.string ⟨#[]⟩, .int .i64 0, .int .i64 0, .int .i64 0, .int .i64 0, .int .i64 0, .bool false] 29)) (w.heap.size + 1) (prevP l 0)) := Lib.hid (by
    rw [prev_zero]
    have := PBox.new (w.alloc (.cells #[.string ⟨#[]⟩, .int .i64 0, .int .i64 0, .int .i64 0, .int .i64 0, .int .i64 0, .bool false] 29)) QM.zero
    rw [show (w.alloc (.cells #[.string ⟨#[]⟩, .int .i64 0, .int .i64 0, .int .i64 0, .int .i64 0, .int .i64 0, .bool false] 29)).heap.size = w.heap.size + 1 by simp] at this
    exact this)
  have hgd := prod_guard
  go_enter Tryd.func21, Tryd.ntmps21
  go_wp2_with fail
  generalize (w.alloc (.cells #[.string ⟨#[]⟩, .int .i64 0, .int .i64 0, .int .i64 0, .int .i64 0, .int .i64 0, .bool false] 29)).alloc (.cells #[.string ⟨#[]⟩, .int .i64 0, .int .i64 0, .int .i64 0, .int .i64 0, .int .i64 0, .bool false] 29) = w0 at *
  have HI := Lib.hid hI
  clear hI HB1 h32
  go_loopw [6, 7, 15] (fun _ _ i wr => ∃ k : Nat, k ≤ l.length ∧ i = .int .i64 k ∧ Hid (QM.uptoE l k = 0) ∧ Hid (PBox wr w.heap.size QM.zero) ∧ Hid (PBox wr (w.heap.size + 1) (prevP l k)) ∧ Hid (Below w.heap.size w wr)) (fun _ _ i _ => l.length - (intOf i).toNat)
  case atStart => exact ⟨0, by omega, rfl, Lib.hid rfl, HP1, HP2, HB2⟩
  case round =>
    clear HP1 HP2 HB2
    obtain ⟨k, hk, rfl, HE, HP1, HP2, HW⟩ := hrel
    by_cases hlt : k < l.length
    · obtain ⟨b, off, p, rfl, hb, HV, q0, d0, d1, d2, d3, d4, d5, d6⟩ := prods_get (HI.out.below HW.out) hlt
      have HWA := Lib.hid (HW.out.alloc HW.out.size (.cells #[.string p.name, .int .i64 p.cur, .int .i64 p.mult, .int .i64 p.tick, .int .i64 p.low, .int .i64 p.high, .bool p.phys] 29))
      have HQ := Lib.hid (PBox.new wr p)
      have HL := Lib.hid (new_lt wr (.cells #[.string p.name, .int .i64 p.cur, .int .i64 p.mult, .int .i64 p.tick, .int .i64 p.low, .int .i64 p.high, .bool p.phys] 29))
      have C1 := Lib.hid (fun ww => qcheck_any p q0 ww)
      have HP1a := Lib.hid (HP1.out.alloc (.cells #[.string p.name, .int .i64 p.cur, .int .i64 p.mult, .int .i64 p.tick, .int .i64 p.low, .int .i64 p.high, .bool p.phys] 29))
      have HP2a := Lib.hid (HP2.out.alloc (.cells #[.string p.name, .int .i64 p.cur, .int .i64 p.mult, .int .i64 p.tick, .int .i64 p.low, .int .i64 p.high, .bool p.phys] 29))
      have O1 := Lib.hid (@one_check l k); have O2 := Lib.hid (@one_there l k); have O3 := Lib.hid (@one_ok l k)
      have OP := Lib.hid (@prev_ne l k HE.out)
      have HS := Lib.hid (fun h => @QM.upto_step l k HE.out h)
      have HF := Lib.hid (KS.out k hlt HE.out)
      have HPS : Hid (prevP l (k + 1) = p) := Lib.hid (by rw [prev_succ, HV.out])
      have HP0 : Hid (k = 0 → prevP l k = QM.zero) := Lib.hid (fun h => by rw [h]; rfl)
      rw [HV.out] at O1 O2 O3
      generalize QM.checkE p = ce at *
      generalize QM.oneE l k = oe at *
      generalize prevP l k = pp at *
      clear HP1 HP2 q0
      go_wp2_with fail
      refine (C1.out _).mono ?_
      rintro e w2 ⟨rfl, b2⟩
      have HW2 := Lib.hid (HWA.out.trans (b2.mono HWA.out.size))
      have HQ2 := Lib.hid (HQ.out.below b2 HL.out)
      have HP1b := Lib.hid (HP1a.out.below b2 HP1a.out.lt)
      have HP2b := Lib.hid (HP2a.out.below b2 HP2a.out.lt)
      clear b2 d0 d1 d2 d3 d4 d5 d6 HWA HQ HL HP1a HP2a
      by_cases hce : ce = 0
      · subst hce
        obtain ⟨d0, d1, d2, d3, d4, d5, d6⟩ := HQ2.out.cells
        obtain ⟨c0, c1, c2, c3, c4, c5, c6⟩ := HP2b.out.cells
        obtain ⟨z0, z1, z2, z3, z4, z5, z6⟩ := HP1b.out.cells
        have f0 := HP2b.out.frozen 0; have f1 := HP2b.out.frozen 1; have f2 := HP2b.out.frozen 2; have f3 := HP2b.out.frozen 3; have f4 := HP2b.out.frozen 4; have f5 := HP2b.out.frozen 5; have f6 := HP2b.out.frozen 6
        have HN := Lib.hid (HP2b.out.put p)
        have HN1 : Hid (PBox (((((((w2.setCell ⟨w.heap.size + 1, 0, none⟩ (.string p.name)).setCell ⟨w.heap.size + 1, 1, none⟩ (.int .i64 p.cur)).setCell ⟨w.heap.size + 1, 2, none⟩ (.int .i64 p.mult)).setCell ⟨w.heap.size + 1, 3, none⟩ (.int .i64 p.tick)).setCell ⟨w.heap.size + 1, 4, none⟩ (.int .i64 p.low)).setCell ⟨w.heap.size + 1, 5, none⟩ (.int .i64 p.high)).setCell ⟨w.heap.size + 1, 6, none⟩ (.bool p.phys)) w.heap.size QM.zero) :=
          Lib.hid ((PBox.put_below (Below.refl (w.heap.size + 1) w2) (Nat.le_refl _) p).block _ (by omega) |>.trans HP1b.out)
        have HNB := Lib.hid (PBox.put_below HW2.out (by omega : w.heap.size ≤ w.heap.size + 1) p)
        by_cases h0 : k = 0
        · have HZ := Lib.hid (HS.out (O3.out (by trivial) (.inl h0)))
          have hpp := HP0.out h0
          have E1 : ∀ ww, (Op.equalIn 10000 29 (prodA pp) (prodA QM.zero)).run Tryd.prog ww = .ok true ww := fun ww => by rw [prod_in, hpp, peq_iff.2 rfl]
          have HK0 := Lib.hid h0
          clear h0 hpp
          go_wp2_with fail
          go_roundw
          case rel => exact ⟨k + 1, by omega, by go_num, HZ, HN1, by rw [HPS.out]; exact HN, HNB⟩
          case measure => simp [intOf]; omega
        · have E1 : ∀ ww, (Op.equalIn 10000 29 (prodA pp) (prodA QM.zero)).run Tryd.prog ww = .ok false ww := fun ww => by rw [prod_in, OP.out (by omega)]
          have hk0 : 0 < k := by omega
          have HK0 := Lib.hid hk0
          clear h0 hk0
          cases ha : Op.bytesLess p.name.toList pp.name.toList
          · cases hb2 : (p.name.toList == pp.name.toList)
            · have HZ := Lib.hid (HS.out (O3.out (by trivial) (.inr (by rw [ha, hb2]; rfl))))
              go_wp2_with fail
              go_roundw
              case rel => exact ⟨k + 1, by omega, by go_num, HZ, HN1, by rw [HPS.out]; exact HN, HNB⟩
              case measure => simp [intOf]; omega
            · have HZ := Lib.hid (O2.out (by trivial) HK0.out (by rw [ha, hb2]; rfl))
              have HX := Lib.hid (HF.out (by rw [HZ.out]; decide))
              go_wp2_with fail
              go_ret
              exact ⟨by rw [HX.out, HZ.out]; rfl, HW2.out⟩
          · have HZ := Lib.hid (O2.out (by trivial) HK0.out (by rw [ha]; rfl))
            have HX := Lib.hid (HF.out (by rw [HZ.out]; decide))
            go_wp2_with fail
            go_ret
            exact ⟨by rw [HX.out, HZ.out]; rfl, HW2.out⟩
      · have hd : (ce != 0) = true := by simpa using hce
        have HZ := Lib.hid (O1.out hce)
        have HX := Lib.hid (HF.out (by rw [HZ.out]; exact hce))
        clear hce
        go_wp2_with fail
        go_ret
        exact ⟨by rw [HX.out, HZ.out]; rfl, HW2.out⟩
    · obtain rfl : k = l.length := by omega
      have HX := Lib.hid (KE.out HE.out)
      go_wp2_with fail
      go_ret
      exact ⟨by rw [HX.out]; rfl, HW.out⟩

set_option maxRecDepth 100000 in
set_option maxHeartbeats 4000000 in
theorem rqall_any (A : Option Addr) (l : List QM.Prod) (cap : Nat) (w : World) (hI : Prods w A l) :
    Calls Tryd.prog 25 #[.slice A l.length cap] w fun e w' => e = .returned (.int .i64 (QM.allE l)) ∧ Below w.heap.size w w' := by
  have hlen : l.length ≤ 9223372036854775807 := by have := hI.1.len; rw [List.length_map] at this; exact this
  by_cases h32 : 32 < l.length
  · have e : QM.allE l = 8 := by unfold QM.allE; rw [if_pos h32]
    rw [e]; clear e hI
    go_enter Tryd.func25, Tryd.ntmps25
    go_wp2_with fail
    go_ret
    exact ⟨rfl, Below.refl _ _⟩
  have KS := Lib.hid (fun k => @QM.all_stop l k h32)
  have KE : Hid (QM.uptoE l l.length = 0 → QM.allE l = 0) := Lib.hid (fun h => by unfold QM.allE; rw [if_neg h32, h])
  generalize QM.allE l = x at *
  have HI := Lib.hid hI
  clear hI
  go_enter Tryd.func25, Tryd.ntmps25
  go_wp2_with fail
  clear h32
  go_loopw [3, 4] (fun i _ wr => ∃ k : Nat, k ≤ l.length ∧ i = .int .i64 k ∧ Hid (QM.uptoE l k = 0) ∧ Hid (Below w.heap.size w wr)) (fun i _ _ => l.length - (intOf i).toNat)
  case atStart => exact ⟨0, by omega, rfl, Lib.hid rfl, Lib.hid (Below.refl _ _)⟩
  case round =>
    obtain ⟨k, hk, rfl, HE, HW⟩ := hrel
    by_cases hlt : k < l.length
    · obtain ⟨b, off, p, rfl, hb, HV, q0, d0, d1, d2, d3, d4, d5, d6⟩ := prods_get (HI.out.below HW.out) hlt
      have C1 := Lib.hid (fun ww => rqcheck_any p q0 ww)
      have O1 := Lib.hid (@one_check l k); have O2 := Lib.hid (@one_there l k); have O3 := Lib.hid (@one_ok l k)
      have HS := Lib.hid (fun h => @QM.upto_step l k HE.out h)
      have HF := Lib.hid (KS.out k hlt HE.out)
      rw [HV.out] at O1 O2 O3
      generalize QM.checkE p = ce at *
      generalize QM.oneE l k = oe at *
      clear q0
      go_wp2_with fail
      refine (C1.out _).mono ?_
      rintro e w2 ⟨rfl, b2⟩
      have HW2 := Lib.hid (HW.out.trans (b2.mono HW.out.size))
      clear b2 d0 d1 d2 d3 d4 d5 d6
      by_cases hce : ce = 0
      · subst hce
        by_cases h0 : k = 0
        · subst h0
          have HZ := Lib.hid (HS.out (O3.out (by trivial) (.inl rfl)))
          go_wp2_with fail
          go_quiet (fail)
          go_wp2_with fail
          go_roundw
          case rel => exact ⟨1, by omega, by go_num, HZ, Lib.hid (by first | exact HW2.out | exact below_drewN HW2.out _)⟩
          case measure => simp [intOf]; omega
        · obtain ⟨j, hjk⟩ : ∃ j, k = j + 1 := ⟨k - 1, by omega⟩
          have hjl : j < l.length := by omega
          have hk0 : 0 < k := by omega
          have HK0 := Lib.hid hk0
          have ew1 : wrap64 ((k : Int) - 1) = (j : Int) := by rw [hjk]; have := IntWalk.wrap64_in (j : Int) (by omega); simpa using this
          have ew2 : IntKind.i64.wrap ((k : Int) - 1) = (j : Int) := by rw [hjk]; have := IntWalk.i64_in (j : Int) (by omega); simpa using this
          obtain ⟨b', off', p1, e', hb1, HV1, q1, g0, g1, g2, g3, g4, g5, g6⟩ := prods_get (HI.out.below HW2.out) hjl
          injection e' with e'; injection e' with e1' e2'; subst e1' e2'
          obtain ⟨b'', off'', p2, e', hb2, HV2, q2, d0, d1, d2, d3, d4, d5, d6⟩ := prods_get (HI.out.below HW2.out) hlt
          injection e' with e'; injection e' with e1' e2'; subst e1' e2'
          obtain rfl : p2 = p := by rw [← HV.out, ← HV2.out]
          have HPV : Hid (prevP l k = p1) := Lib.hid (by rw [hjk, prev_succ, HV1.out])
          rw [HPV.out] at O2 O3
          clear h0 hjk q1 q2 HPV HV1 HV2
          cases ha : Op.bytesLess p2.name.toList p1.name.toList
          · cases hbe : (p2.name.toList == p1.name.toList)
            · have HZ := Lib.hid (HS.out (O3.out (by trivial) (.inr (by rw [ha, hbe]; rfl))))
              go_wp2_with fail
              go_quiet (fail)
              go_wp2_with fail
              go_roundw
              case rel => exact ⟨k + 1, by omega, by go_num, HZ, Lib.hid (by first | exact HW2.out | exact below_drewN HW2.out _)⟩
              case measure => simp [intOf]; omega
            · have HZ := Lib.hid (O2.out (by trivial) HK0.out (by rw [ha, hbe]; rfl))
              have HX := Lib.hid (HF.out (by rw [HZ.out]; decide))
              go_wp2_with fail
              go_quiet (fail)
              go_wp2_with fail
              go_ret
              exact ⟨by rw [HX.out, HZ.out]; rfl, by first | exact HW2.out | exact below_drewN HW2.out _⟩
          · have HZ := Lib.hid (O2.out (by trivial) HK0.out (by rw [ha]; rfl))
            have HX := Lib.hid (HF.out (by rw [HZ.out]; decide))
            cases hbe : (p2.name.toList == p1.name.toList)
            all_goals (
              go_wp2_with fail
              go_quiet (fail)
              go_wp2_with fail
              go_ret
              exact ⟨by rw [HX.out, HZ.out]; rfl, by first | exact HW2.out | exact below_drewN HW2.out _⟩)
      · have hd : (ce != 0) = true := by simpa using hce
        have HZ := Lib.hid (O1.out hce)
        have HX := Lib.hid (HF.out (by rw [HZ.out]; exact hce))
        clear hce
        go_wp2_with fail
        go_ret
        exact ⟨by rw [HX.out, HZ.out]; rfl, HW2.out⟩
    · obtain rfl : k = l.length := by omega
      have HX := Lib.hid (KE.out HE.out)
      go_wp2_with fail
      go_ret
      exact ⟨by rw [HX.out]; rfl, HW.out⟩
end Go.Proofs.YtiohainnpjikpaaDoor

/- Contracts of layer 10: Check. -/
namespace Go.Proofs.YtiohainnpjikpaaDoor
open Go.RowKit Go.Recs
set_option linter.unusedVariables false
set_option linter.unusedSimpArgs false

theorem firstQ {w : World} {A : Option Addr} {l : List QM.Prod} (hI : Prods w A l) (s : ByteArray) : prodQ (firstP l s).1 := by
  unfold firstP
  split
  · next p h => exact hI.2 p (List.mem_of_find?_eq_some h)
  · refine ⟨?_, ?_, ?_, ?_, ?_, ?_⟩ <;> first | decide | (simp [QM.zero, i64, maxLen])
def strikeB (p : QM.Prod) (s : EM.Ser) : Bool := if s.kind = 1 then s.strike == 0 else QM.priceE p s.strike == 0
def schkE (l : List QM.Prod) (s : EM.Ser) : Int :=
  if QM.allE l ≠ 0 then QM.allE l else if (firstP l s.prod).2 = false ∨ ¬ (1 ≤ s.kind ∧ s.kind ≤ 3) then 19
  else if ¬ (0 ≤ s.expiry ∧ s.expiry ≤ 73048) then 15 else if strikeB (firstP l s.prod).1 s = false then 17 else 0
theorem sk_all {l : List QM.Prod} {s : EM.Ser} (h : QM.allE l ≠ 0) : schkE l s = QM.allE l := by unfold schkE; rw [if_pos h]
theorem sk_no {l : List QM.Prod} {s : EM.Ser} (h : QM.allE l = 0) (h2 : (firstP l s.prod).2 = false) : schkE l s = 19 := by unfold schkE; rw [if_neg (by simpa using h), if_pos (.inl h2)]
theorem sk_kind {l : List QM.Prod} {s : EM.Ser} (h : QM.allE l = 0) (h2 : ¬ (1 ≤ s.kind ∧ s.kind ≤ 3)) : schkE l s = 19 := by unfold schkE; rw [if_neg (by simpa using h), if_pos (.inr h2)]
theorem sk_day {l : List QM.Prod} {s : EM.Ser} (h : QM.allE l = 0) (h2 : (firstP l s.prod).2 = true) (h3 : 1 ≤ s.kind ∧ s.kind ≤ 3) (h4 : ¬ (0 ≤ s.expiry ∧ s.expiry ≤ 73048)) : schkE l s = 15 := by
  unfold schkE; rw [if_neg (by simpa using h), if_neg (by rw [h2]; simp; omega), if_pos h4]
theorem sk_strike {l : List QM.Prod} {s : EM.Ser} (h : QM.allE l = 0) (h2 : (firstP l s.prod).2 = true) (h3 : 1 ≤ s.kind ∧ s.kind ≤ 3) (h4 : 0 ≤ s.expiry ∧ s.expiry ≤ 73048) : schkE l s = if strikeB (firstP l s.prod).1 s = false then 17 else 0 := by
  unfold schkE; rw [if_neg (by simpa using h), if_neg (by rw [h2]; simp; omega), if_neg (by omega)]

set_option maxHeartbeats 2000000 in
theorem strike_any (p : QM.Prod) (s : EM.Ser) (hq : prodQ p) (w : World) :
    Calls Tryd.prog 24 #[prodA p, serA s] w fun e w' => e = .returned (.bool (strikeB p s)) ∧ Below w.heap.size w w' := by
  have C0 := Lib.hid (fun ww => qprice_any p s.strike hq ww)
  have HB := Lib.hid ((Below.refl w.heap.size w).alloc (Nat.le_refl _) (.cells #[.string p.name, .int .i64 p.cur, .int .i64 p.mult, .int .i64 p.tick, .int .i64 p.low, .int .i64 p.high, .bool p.phys] 29))
  have HB0 := Lib.hid (HB.out.alloc HB.out.size (.cells #[.string s.prod, .int .i64 s.kind, .int .i64 s.expiry, .int .i64 s.strike] 24))
  clear HB
  by_cases hk : s.kind = 1
  · have HE : Hid (strikeB p s = (s.strike == 0)) := Lib.hid (by unfold strikeB; rw [if_pos hk])
    rw [HE.out]
    have hkb : (s.kind == 1) = true := by simpa using hk
    rw [hk] at HB0
    clear HE C0 hq
    go_enter Tryd.func24, Tryd.ntmps24
    go_wp2_with fail
    go_ret
    exact ⟨rfl, HB0.out⟩
  · have HE : Hid (strikeB p s = (QM.priceE p s.strike == 0)) := Lib.hid (by unfold strikeB; rw [if_neg hk])
    rw [HE.out]
    have hkb : (s.kind == 1) = false := by simpa using hk
    generalize QM.priceE p s.strike = y at *
    clear HE hq
    go_enter Tryd.func24, Tryd.ntmps24
    go_wp2_with fail
    refine (C0.out _).mono ?_
    rintro e w1 ⟨rfl, b⟩
    have HB1 := Lib.hid (HB0.out.trans (b.mono HB0.out.size))
    clear b HB0 C0
    go_wp2_with fail
    go_ret
    exact ⟨rfl, HB1.out⟩

theorem letB_bad {k : Int} (h : ¬ (1 ≤ k ∧ k ≤ 3)) : letB k = ⟨#[]⟩ := by
  unfold letB; rw [if_neg (by omega), if_neg (by omega), if_neg (by omega)]
theorem letB_good {k : Int} (h : 1 ≤ k ∧ k ≤ 3) : (letB k).toList ≠ [] := by
  have : k = 1 ∨ k = 2 ∨ k = 3 := by omega
  rcases this with rfl | rfl | rfl <;> (rw [L_toList]; decide)

set_option maxHeartbeats 4000000 in
theorem scheck_any (A : Option Addr) (l : List QM.Prod) (cap : Nat) (s : EM.Ser) (w : World) (hI : Prods w A l) :
    Calls Tryd.prog 9 #[.slice A l.length cap, serA s] w fun e w' => e = .returned (.int .i64 (schkE l s)) ∧ Below w.heap.size w w' := by
  have HQ := firstQ hI s.prod
  have C1 := Lib.hid (fun ww h => qall_any A l cap ww h)
  have C2 := Lib.hid (fun ww h => qfind_any A l cap s.prod ww h)
  have C3 := Lib.hid (fun ww => letter_any s.kind ww)
  have C4 := Lib.hid (fun ww => strike_any (firstP l s.prod).1 s HQ ww)
  have HB0 := Lib.hid ((Below.refl w.heap.size w).alloc (Nat.le_refl _) (.cells #[.string s.prod, .int .i64 s.kind, .int .i64 s.expiry, .int .i64 s.strike] 24))
  have HS0 := Lib.hid (SBox.new w s)
  have HI := Lib.hid hI
  clear hI HQ
  by_cases ha : QM.allE l = 0
  · have K1 := Lib.hid (@sk_no l s ha); have K2 := Lib.hid (@sk_kind l s ha); have K3 := Lib.hid (@sk_day l s ha); have K4 := Lib.hid (@sk_strike l s ha)
    rw [ha] at C1
    clear ha
    generalize schkE l s = r at *
    generalize strikeB (firstP l s.prod).1 s = b at *
    generalize firstP l s.prod = xy at *
    obtain ⟨x, y⟩ := xy
    go_enter Tryd.func9, Tryd.ntmps9
    go_wp2_with fail
    generalize w.alloc (.cells #[.string s.prod, .int .i64 s.kind, .int .i64 s.expiry, .int .i64 s.strike] 24) = w0 at *
    refine (C1.out _ (HI.out.below HB0.out)).mono ?_
    rintro e w1 ⟨rfl, b1⟩
    have HB1 := Lib.hid (HB0.out.trans (b1.mono HB0.out.size))
    have HS1 := Lib.hid (HS0.out.below b1 HS0.out.lt)
    clear b1 HB0 HS0 C1
    obtain ⟨c0, c1, c2, c3⟩ := HS1.out.cells
    go_wp2_with fail
    refine (C2.out _ (HI.out.below HB1.out)).mono ?_
    clear c0 c1 c2 c3
    rintro e w2 ⟨rfl, b2⟩
    have HB2 := Lib.hid (HB1.out.trans (b2.mono HB1.out.size))
    have HS2 := Lib.hid (HS1.out.below b2 HS1.out.lt)
    have hlt : w.heap.size < w2.heap.size := HS2.out.lt
    have HB3 := Lib.hid (HB2.out.alloc HB2.out.size (.cells #[.string x.name, .int .i64 x.cur, .int .i64 x.mult, .int .i64 x.tick, .int .i64 x.low, .int .i64 x.high, .bool x.phys] 29))
    clear b2 HB1 HS1 C2 HB2
    obtain ⟨c0, c1, c2, c3⟩ := HS2.out.cells
    cases y
    · have HX := Lib.hid (K1.out (by trivial))
      go_wp2_with fail
      go_ret
      exact ⟨by rw [HX.out] <;> rfl, HB3.out⟩
    go_wp2_with fail
    refine (C3.out _).mono ?_
    rintro e w3 ⟨rfl, rfl⟩
    by_cases hk : 1 ≤ s.kind ∧ s.kind ≤ 3
    · have hl := letB_good hk
      have hl2 : ((letB s.kind).toList == []) = false := by simpa using hl
      generalize letB s.kind = lb at *
      by_cases hd : 0 ≤ s.expiry ∧ s.expiry ≤ 73048
      · have HX := Lib.hid (K4.out (by trivial) hk hd)
        have d1 : ¬ s.expiry < 0 := by omega
        have d2 : ¬ 73048 < s.expiry := by omega
        clear hd hk
        go_wp2_with fail
        refine (C4.out _).mono ?_
        rintro e w3 ⟨rfl, b3⟩
        have HB4 := Lib.hid (HB3.out.trans (b3.mono HB3.out.size))
        clear b3 HB3
        cases b
        · go_wp2_with fail
          go_ret
          exact ⟨by rw [HX.out] <;> rfl, HB4.out⟩
        · go_wp2_with fail
          go_ret
          exact ⟨by rw [HX.out] <;> rfl, HB4.out⟩
      · have HX := Lib.hid (K3.out (by trivial) hk hd)
        have hd' : s.expiry < 0 ∨ (¬ s.expiry < 0 ∧ 73048 < s.expiry) := by omega
        clear hd hk
        rcases hd' with d1 | ⟨d1, d2⟩
        all_goals (
          go_wp2_with fail
          go_ret
          exact ⟨by rw [HX.out] <;> rfl, HB3.out⟩)
    · have HX := Lib.hid (K2.out hk)
      have hl := letB_bad hk
      rw [hl]
      clear hk hl
      go_wp2_with fail
      go_ret
      exact ⟨by rw [HX.out] <;> rfl, HB3.out⟩
  · rw [sk_all ha]
    have hd : (QM.allE l != 0) = true := by simpa using ha
    generalize QM.allE l = y at *
    clear C2 C3 C4 HS0
    go_enter Tryd.func9, Tryd.ntmps9
    go_wp2_with fail
    refine (C1.out _ (HI.out.below HB0.out)).mono ?_
    rintro e w1 ⟨rfl, b1⟩
    have HB1 := Lib.hid (HB0.out.trans (b1.mono HB0.out.size))
    clear b1 HB0
    go_wp2_with fail
    go_ret
    exact ⟨rfl, HB1.out⟩

set_option maxHeartbeats 4000000 in
theorem rscheck_any (A : Option Addr) (l : List QM.Prod) (cap : Nat) (s : EM.Ser) (w : World) (hI : Prods w A l) :
    Calls Tryd.prog 10 #[.slice A l.length cap, serA s] w fun e w' => e = .returned (.int .i64 (schkE l s)) ∧ Below w.heap.size w w' := by
  have HQ := firstQ hI s.prod
  have C1 := Lib.hid (fun ww h => rqall_any A l cap ww h)
  have C2 := Lib.hid (fun ww h => rqfind_any A l cap s.prod ww h)
  have C4 := Lib.hid (fun ww => rqprice_any (firstP l s.prod).1 s.strike HQ ww)
  have HB0 := Lib.hid ((Below.refl w.heap.size w).alloc (Nat.le_refl _) (.cells #[.string s.prod, .int .i64 s.kind, .int .i64 s.expiry, .int .i64 s.strike] 24))
  have HS0 := Lib.hid (SBox.new w s)
  have HI := Lib.hid hI
  have HSB : Hid (strikeB (firstP l s.prod).1 s = if s.kind = 1 then s.strike == 0 else QM.priceE (firstP l s.prod).1 s.strike == 0) := Lib.hid rfl
  clear hI HQ
  by_cases ha : QM.allE l = 0
  · have K1 := Lib.hid (@sk_no l s ha); have K2 := Lib.hid (@sk_kind l s ha); have K3 := Lib.hid (@sk_day l s ha); have K4 := Lib.hid (@sk_strike l s ha)
    rw [ha] at C1
    clear ha
    generalize schkE l s = r at *
    generalize strikeB (firstP l s.prod).1 s = b at *
    generalize firstP l s.prod = xy at *
    obtain ⟨x, y⟩ := xy
    generalize QM.priceE x s.strike = pe at *
    go_enter Tryd.func10, Tryd.ntmps10
    go_wp2_with fail
    generalize w.alloc (.cells #[.string s.prod, .int .i64 s.kind, .int .i64 s.expiry, .int .i64 s.strike] 24) = w0 at *
    refine (C1.out _ (HI.out.below HB0.out)).mono ?_
    rintro e w1 ⟨rfl, b1⟩
    have HB1 := Lib.hid (HB0.out.trans (b1.mono HB0.out.size))
    have HS1 := Lib.hid (HS0.out.below b1 HS0.out.lt)
    clear b1 HB0 HS0 C1
    obtain ⟨c0, c1, c2, c3⟩ := HS1.out.cells
    go_wp2_with fail
    refine (C2.out _ (HI.out.below HB1.out)).mono ?_
    clear c0 c1 c2 c3
    rintro e w2 ⟨rfl, b2⟩
    have HB2 := Lib.hid (HB1.out.trans (b2.mono HB1.out.size))
    have HS2 := Lib.hid (HS1.out.below b2 HS1.out.lt)
    have hlt : w.heap.size < w2.heap.size := HS2.out.lt
    have HB3 := Lib.hid (HB2.out.alloc HB2.out.size (.cells #[.string x.name, .int .i64 x.cur, .int .i64 x.mult, .int .i64 x.tick, .int .i64 x.low, .int .i64 x.high, .bool x.phys] 29))
    clear b2 HB1 HS1 C2 HB2
    obtain ⟨c0, c1, c2, c3⟩ := HS2.out.cells
    cases y
    · have HX := Lib.hid (K1.out (by trivial))
      go_wp2_with fail
      go_ret
      exact ⟨by rw [HX.out] <;> rfl, HB3.out⟩
    by_cases hk : 1 ≤ s.kind ∧ s.kind ≤ 3
    · have k1 : ¬ s.kind < 1 := by omega
      have k2 : ¬ 3 < s.kind := by omega
      by_cases hd : 0 ≤ s.expiry ∧ s.expiry ≤ 73048
      · have HX := Lib.hid (K4.out (by trivial) hk hd)
        have d1 : ¬ s.expiry < 0 := by omega
        have d2 : ¬ 73048 < s.expiry := by omega
        clear hd
        by_cases h1 : s.kind = 1
        · have HY : Hid (b = (s.strike == 0)) := Lib.hid (by rw [HSB.out, if_pos h1])
          have h1b : (s.kind == 1) = true := by simpa using h1
          have h1c : ¬ 1 < s.kind := by omega
          clear hk HSB
          cases h0 : (s.strike == 0)
          · have h0b : (s.strike != 0) = true := by rw [bne, h0]; rfl
            have h0c : ¬ s.strike = 0 := by simpa using h0
            have HZ := Lib.hid (HX.out.trans (if_pos (HY.out.trans h0)))
            clear HX HY
            go_wp2_with fail
            go_ret
            exact ⟨by rw [HZ.out] <;> rfl, HB3.out⟩
          · have h0b : (s.strike != 0) = false := by rw [bne, h0]; rfl
            have h0c : s.strike = 0 := by simpa using h0
            have HZ := Lib.hid (HX.out.trans (if_neg (by rw [HY.out, h0]; simp)))
            clear HX HY
            go_wp2_with fail
            go_ret
            exact ⟨by rw [HZ.out] <;> rfl, HB3.out⟩
        · have HY : Hid (b = (pe == 0)) := Lib.hid (by rw [HSB.out, if_neg h1])
          have h1b : (s.kind == 1) = false := by simpa using h1
          have h1c : 1 < s.kind := by omega
          clear hk HSB
          go_wp2_with fail
          refine (C4.out _).mono ?_
          rintro e w3 ⟨rfl, b3⟩
          have HB4 := Lib.hid (HB3.out.trans (b3.mono HB3.out.size))
          clear b3 HB3 C4
          cases h0 : (pe == 0)
          · have h0b : (pe != 0) = true := by rw [bne, h0]; rfl
            have h0c : ¬ pe = 0 := by simpa using h0
            have HZ := Lib.hid (HX.out.trans (if_pos (HY.out.trans h0)))
            clear HX HY
            go_wp2_with fail
            go_ret
            exact ⟨by rw [HZ.out] <;> rfl, HB4.out⟩
          · have h0b : (pe != 0) = false := by rw [bne, h0]; rfl
            have h0c : pe = 0 := by simpa using h0
            have HZ := Lib.hid (HX.out.trans (if_neg (by rw [HY.out, h0]; simp)))
            clear HX HY
            go_wp2_with fail
            go_ret
            exact ⟨by rw [HZ.out] <;> rfl, HB4.out⟩
      · have HX := Lib.hid (K3.out (by trivial) hk hd)
        have hd' : s.expiry < 0 ∨ (¬ s.expiry < 0 ∧ 73048 < s.expiry) := by omega
        clear hd hk
        rcases hd' with d1 | ⟨d1, d2⟩
        all_goals (
          go_wp2_with fail
          go_ret
          exact ⟨by rw [HX.out] <;> rfl, HB3.out⟩)
    · have HX := Lib.hid (K2.out hk)
      have hk' : s.kind < 1 ∨ (¬ s.kind < 1 ∧ 3 < s.kind) := by omega
      clear hk
      rcases hk' with d1 | ⟨d1, d2⟩
      all_goals (
        go_wp2_with fail
        go_ret
        exact ⟨by rw [HX.out] <;> rfl, HB3.out⟩)
  · rw [sk_all ha]
    have hd : (QM.allE l != 0) = true := by simpa using ha
    generalize QM.allE l = y at *
    clear C2 C4 HS0 HSB
    go_enter Tryd.func10, Tryd.ntmps10
    go_wp2_with fail
    refine (C1.out _ (HI.out.below HB0.out)).mono ?_
    rintro e w1 ⟨rfl, b1⟩
    have HB1 := Lib.hid (HB0.out.trans (b1.mono HB0.out.size))
    clear b1 HB0
    go_wp2_with fail
    go_ret
    exact ⟨rfl, HB1.out⟩
end Go.Proofs.YtiohainnpjikpaaDoor
