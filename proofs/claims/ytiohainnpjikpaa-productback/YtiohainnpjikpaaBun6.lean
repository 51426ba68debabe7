/- Put together: ProdD, ProductMath2, StrOf, Buf, WordMath4, CatMath, WordsB, WordsC. -/
import Derived.Test.YtiohainnpjikpaaBun5
import Derived.Laws.ResultCell
import Derived.Laws.Rows
import Derived.Test.YtiohainnpjikpaaBun2
import Derived.Test.YtiohainnpjikpaaBun3
import Derived.Lib.AppendStr
import Derived.Maps.AppendAt
import Derived.OwnWalk
/- Contracts of layer 9: Find. -/
namespace Go.Proofs.Ytiohainnpjikpaa
open Go.RowKit Go.Recs
set_option linter.unusedVariables false

theorem prod_under : Try.prog.underlying 24 = some (.struct (Try.prog.fieldsOf 24)) := by kernel_rfl
theorem prod_size : (Try.prog.info? 24).map (·.size) = some 7 := by kernel_rfl
theorem results_prod {fn : Func} {p u : Tmp} (h : fn.results = #[.cell p 24, .tmp u]) (tmps : Array Value) (w : World) (g : Nat) (x : QM.Prod)
    (hp : tmps.getD p undef = .pointer (some ⟨g, 0, none⟩)) (hb : PBox w g x) : (results fn tmps).run Try.prog w = .ok (.tuple #[prodA x, tmps.getD u undef]) w := by
  rw [results_cell_tmp h, hp]
  simp only [asAddr, Sem.run_pure, Result.andThen_ok]
  rw [run_loadVar_row w g 24 24 _ (0, 0) _ hb prod_under rfl prod_size]
  rfl
section
variable {w w' : World} {g : Nat} {p : QM.Prod}
theorem PBox.drewN (h : PBox w g p) (n : Nat) : PBox (w.drewN n) g p := h
theorem PBox.drew (h : PBox w g p) : PBox w.drew g p := h
theorem PBox.alloc (h : PBox w g p) (o : Obj) : PBox (w.alloc o) g p := (Below.heap_alloc w o g h.lt).trans h
theorem PBox.frozen (h : PBox w g p) (i : Nat) : w.frozen? ⟨g, i, none⟩ = false := by unfold PBox at h; simp [World.frozen?, h]
theorem PBox.put (h : PBox w g p) (x : QM.Prod) : PBox (((((((w.setCell ⟨g, 0, none⟩ (.string x.name)).setCell ⟨g, 1, none⟩ (.int .i64 x.cur)).setCell ⟨g, 2, none⟩ (.int .i64 x.mult)).setCell ⟨g, 3, none⟩ (.int .i64 x.tick)).setCell ⟨g, 4, none⟩ (.int .i64 x.low)).setCell ⟨g, 5, none⟩ (.int .i64 x.high)).setCell ⟨g, 6, none⟩ (.bool x.phys)) g x := by
  unfold PBox at h ⊢
  simp [World.setCell, Array.getElem?_modify, h]
theorem PBox.put_below {B : Nat} {a : World} (h : Below B a w) (hB : B ≤ g) (x : QM.Prod) : Below B a (((((((w.setCell ⟨g, 0, none⟩ (.string x.name)).setCell ⟨g, 1, none⟩ (.int .i64 x.cur)).setCell ⟨g, 2, none⟩ (.int .i64 x.mult)).setCell ⟨g, 3, none⟩ (.int .i64 x.tick)).setCell ⟨g, 4, none⟩ (.int .i64 x.low)).setCell ⟨g, 5, none⟩ (.int .i64 x.high)).setCell ⟨g, 6, none⟩ (.bool x.phys)) :=
  ((((((h.setCell hB _).setCell hB _).setCell hB _).setCell hB _).setCell hB _).setCell hB _).setCell hB _
end

def firstP (l : List QM.Prod) (s : ByteArray) : QM.Prod × Bool := match l.find? (fun p => p.name.toList == s.toList) with | some p => (p, true) | none => (QM.zero, false)
theorem first_yes {l : List QM.Prod} {s : ByteArray} {k : Nat} (hk : k < l.length) (h : ∀ j, j < k → ((QM.pAt l j).name.toList == s.toList) = false) (h2 : ((QM.pAt l k).name.toList == s.toList) = true) : firstP l s = (QM.pAt l k, true) := by
  have e : l.find? (fun p => p.name.toList == s.toList) = some (QM.pAt l k) := by
    rw [List.find?_eq_some_iff_getElem]
    refine ⟨h2, k, hk, by simp [QM.pAt, List.getD, hk], fun j hj => ?_⟩
    have := h j hj
    have hjl : j < l.length := by omega
    simp only [QM.pAt, List.getD, List.getElem?_eq_getElem hjl, Option.getD_some] at this
    rw [this]; rfl
  unfold firstP; rw [e]
theorem first_no {l : List QM.Prod} {s : ByteArray} (h : ∀ j, j < l.length → ((QM.pAt l j).name.toList == s.toList) = false) : firstP l s = (QM.zero, false) := by
  have e : l.find? (fun p => p.name.toList == s.toList) = none := by
    rw [List.find?_eq_none]
    intro a ha
    obtain ⟨j, hj, rfl⟩ := List.getElem_of_mem ha
    have := h j hj
    simp only [QM.pAt, List.getD, List.getElem?_eq_getElem hj, Option.getD_some] at this
    simp [this]
  unfold firstP; rw [e]

set_option maxHeartbeats 2000000 in
theorem rqfind_any (A : Option Addr) (l : List QM.Prod) (cap : Nat) (s : ByteArray) (w : World) (hI : Prods w A l) :
    Calls Try.prog 9 #[.slice A l.length cap, .string s] w fun e w' => e = .returned (.tuple #[prodA (firstP l s).1, .bool (firstP l s).2]) ∧ Below w.heap.size w w' := by
  have HY := Lib.hid (fun k => @first_yes l s k)
  have HN := Lib.hid (@first_no l s)
  have hlen : l.length ≤ 9223372036854775807 := by have := hI.1.len; rw [List.length_map] at this; exact this
  generalize firstP l s = xy at *
  obtain ⟨x, y⟩ := xy
  have HB := Lib.hid ((Below.refl w.heap.size w).alloc (Nat.le_refl _) (.cells #[.string ⟨#[]⟩, .int .i64 0, .int .i64 0, .int .i64 0, .int .i64 0, .int .i64 0, .bool false] 24))
  have HP : Hid (PBox (w.alloc (.cells #[.string ⟨#[]⟩, .int .i64 0, .int .i64 0, .int .i64 0, .int .i64 0, .int .i64 0, .bool false] 24)) w.heap.size QM.zero) := Lib.hid (PBox.new w QM.zero)
  have HI := Lib.hid (hI.below HB.out)
  clear hI
  go_enter Try.func9, Try.ntmps9
  go_wp2
  generalize w.alloc (.cells #[.string ⟨#[]⟩, .int .i64 0, .int .i64 0, .int .i64 0, .int .i64 0, .int .i64 0, .bool false] 24) = w0 at *
  obtain ⟨c0, c1, c2, c3, c4, c5, c6⟩ := HP.out.cells
  have f0 := HP.out.frozen 0; have f1 := HP.out.frozen 1; have f2 := HP.out.frozen 2; have f3 := HP.out.frozen 3; have f4 := HP.out.frozen 4; have f5 := HP.out.frozen 5; have f6 := HP.out.frozen 6
  go_loop [6] (fun i => ∃ k : Nat, k ≤ l.length ∧ i = .int .i64 k ∧ Hid (∀ j, j < k → ((QM.pAt l j).name.toList == s.toList) = false)) (fun i => l.length - (intOf i).toNat)
  case atStart => exact ⟨0, by omega, rfl, Lib.hid (fun j h => by omega)⟩
  case round =>
    obtain ⟨k, hk, rfl, HE⟩ := hrel
    by_cases hlt : k < l.length
    · obtain ⟨b, off, p, rfl, hb, HV, q0, d0, d1, d2, d3, d4, d5, d6⟩ := prods_get HI.out hlt
      cases he : (p.name.toList == s.toList)
      · have HE2 : Hid (∀ j, j < k + 1 → ((QM.pAt l j).name.toList == s.toList) = false) := Lib.hid (fun j hj => by
          rcases Nat.lt_or_ge j k with g | g
          · exact HE.out j g
          · obtain rfl : j = k := by omega
            rw [HV.out]; exact he)
        go_wp2
        go_round
        case rel => exact ⟨k + 1, by omega, by go_num, HE2⟩
        case measure => simp [intOf]; omega
      · have HR := Lib.hid (HY.out k hlt HE.out (by rw [HV.out]; exact he))
        go_wp2
        (try simp only [Exit.inBlock, Exit.then])
        refine bodyPost_ret (results_prod rfl _ _ _ _ rfl (HP.out.put p)) rfl ⟨?_, ?_⟩
        · have h1 := HR.out; rw [HV.out] at h1; injection h1 with h1 h2; rw [h1, h2]; rfl
        · exact PBox.put_below HB.out (Nat.le_refl _) p
    · obtain rfl : k = l.length := by omega
      have HR := Lib.hid (HN.out HE.out)
      go_wp2
      (try simp only [Exit.inBlock, Exit.then])
      refine bodyPost_ret (results_prod rfl _ _ _ _ rfl (HP.out.put QM.zero)) rfl ⟨?_, ?_⟩
      · have h1 := HR.out; injection h1 with h1 h2; rw [h1, h2]; rfl
      · exact PBox.put_below HB.out (Nat.le_refl _) QM.zero

theorem qfind1_any (p : QM.Prod) (s : ByteArray) (g : Nat) (w : World) (hc : w.cell? ⟨g, 0, none⟩ = some (.string s)) (hg : g < w.heap.size) :
    Calls Try.prog 26 #[prodA p, .pointer (some ⟨g, 0, none⟩)] w fun e w' => e = .returned (.bool (p.name.toList == s.toList)) ∧ Below w.heap.size w w' := by
  have HB := Lib.hid ((Below.refl w.heap.size w).alloc (Nat.le_refl _) (.cells #[.string p.name, .int .i64 p.cur, .int .i64 p.mult, .int .i64 p.tick, .int .i64 p.low, .int .i64 p.high, .bool p.phys] 24))
  have hc2 := (HB.out.cell (p := ⟨g, 0, none⟩) hg).trans hc
  go_enter Try.func26, Try.ntmps26
  go_wp2
  go_ret
  exact ⟨rfl, HB.out⟩

set_option maxHeartbeats 4000000 in
theorem qfirst_any (A : Option Addr) (l : List QM.Prod) (cap : Nat) (s : ByteArray) (g : Nat) (w : World) (hI : Prods w A l) (hc : w.cell? ⟨g, 0, none⟩ = some (.string s)) (hg : g < w.heap.size) :
    Calls Try.prog 25 #[.slice A l.length cap, .func (.func 26) #[] #[.pointer (some ⟨g, 0, none⟩)]] w fun e w' => e = .returned (.tuple #[prodA (firstP l s).1, .bool (firstP l s).2]) ∧ Below w.heap.size w w' := by
  have HY := Lib.hid (fun k => @first_yes l s k)
  have HN := Lib.hid (@first_no l s)
  have hlen : l.length ≤ 9223372036854775807 := by have := hI.1.len; rw [List.length_map] at this; exact this
  generalize firstP l s = xy at *
  obtain ⟨x, y⟩ := xy
  have HB := Lib.hid ((Below.refl w.heap.size w).alloc (Nat.le_refl _) (.cells #[.string ⟨#[]⟩, .int .i64 0, .int .i64 0, .int .i64 0, .int .i64 0, .int .i64 0, .bool false] 24))
  have HP : Hid (PBox (w.alloc (.cells #[.string ⟨#[]⟩, .int .i64 0, .int .i64 0, .int .i64 0, .int .i64 0, .int .i64 0, .bool false] 24)) w.heap.size QM.zero) := Lib.hid (PBox.new w QM.zero)
  have HI := Lib.hid (hI.below HB.out)
  have HC := Lib.hid ((HB.out.cell (p := ⟨g, 0, none⟩) hg).trans hc)
  have HG : Hid (g < w.heap.size) := Lib.hid hg
  clear hI hc hg
  go_enter Try.func25, Try.ntmps25
  go_wp2
  have HS : Hid (w.heap.size < (w.alloc (.cells #[.string ⟨#[]⟩, .int .i64 0, .int .i64 0, .int .i64 0, .int .i64 0, .int .i64 0, .bool false] 24)).heap.size) := Lib.hid (new_lt _ _)
  generalize w.alloc (.cells #[.string ⟨#[]⟩, .int .i64 0, .int .i64 0, .int .i64 0, .int .i64 0, .int .i64 0, .bool false] 24) = w0 at *
  go_loopw [7, 10] (fun _ i wr => ∃ k : Nat, k ≤ l.length ∧ i = .int .i64 k ∧ Hid (∀ j, j < k → ((QM.pAt l j).name.toList == s.toList) = false) ∧ Hid (Below w0.heap.size w0 wr)) (fun _ i _ => l.length - (intOf i).toNat)
  case atStart => exact ⟨0, by omega, rfl, Lib.hid (fun j h => by omega), Lib.hid (Below.refl _ _)⟩
  case round =>
    obtain ⟨k, hk, rfl, HE, HW⟩ := hrel
    by_cases hlt : k < l.length
    · obtain ⟨b, off, p, rfl, hb, HV, q0, d0, d1, d2, d3, d4, d5, d6⟩ := prods_get (HI.out.below HW.out) hlt
      have HWA := Lib.hid (HW.out.alloc HW.out.size (.cells #[.string p.name, .int .i64 p.cur, .int .i64 p.mult, .int .i64 p.tick, .int .i64 p.low, .int .i64 p.high, .bool p.phys] 24))
      have HQ := Lib.hid (PBox.new wr p)
      have HL := Lib.hid (new_lt wr (.cells #[.string p.name, .int .i64 p.cur, .int .i64 p.mult, .int .i64 p.tick, .int .i64 p.low, .int .i64 p.high, .bool p.phys] 24))
      have C1 := Lib.hid (fun ww h1 h2 => qfind1_any p s g ww h1 h2)
      have HC2 : Hid ((wr.alloc (.cells #[.string p.name, .int .i64 p.cur, .int .i64 p.mult, .int .i64 p.tick, .int .i64 p.low, .int .i64 p.high, .bool p.phys] 24)).cell? ⟨g, 0, none⟩ = some (.string s)) :=
        Lib.hid ((HWA.out.cell (p := ⟨g, 0, none⟩) (Nat.lt_trans HG.out HS.out)).trans HC.out)
      have HG2 : Hid (g < (wr.alloc (.cells #[.string p.name, .int .i64 p.cur, .int .i64 p.mult, .int .i64 p.tick, .int .i64 p.low, .int .i64 p.high, .bool p.phys] 24)).heap.size) :=
        Lib.hid (Nat.lt_of_lt_of_le (Nat.lt_trans HG.out HS.out) HWA.out.size)
      go_wp2_with fail
      refine (C1.out _ HC2.out HG2.out).mono ?_
      rintro e w2 ⟨rfl, b2⟩
      have HW2 := Lib.hid (HWA.out.trans (b2.mono HWA.out.size))
      have HQ2 := Lib.hid (HQ.out.below b2 HL.out)
      clear b2 d0 d1 d2 d3 d4 d5 d6 HC2 HG2 HWA HQ HL
      cases he : (p.name.toList == s.toList)
      · have HE2 : Hid (∀ j, j < k + 1 → ((QM.pAt l j).name.toList == s.toList) = false) := Lib.hid (fun j hj => by
          rcases Nat.lt_or_ge j k with g | g
          · exact HE.out j g
          · obtain rfl : j = k := by omega
            rw [HV.out]; exact he)
        go_wp2_with fail
        go_roundw
        case rel => exact ⟨k + 1, by omega, by go_num, HE2, HW2⟩
        case measure => simp [intOf]; omega
      · have HR := Lib.hid (HY.out k hlt HE.out (by rw [HV.out]; exact he))
        have HP2 := Lib.hid (HP.out.below HW2.out HS.out)
        obtain ⟨c0, c1, c2, c3, c4, c5, c6⟩ := HP2.out.cells
        have f0 := HP2.out.frozen 0; have f1 := HP2.out.frozen 1; have f2 := HP2.out.frozen 2; have f3 := HP2.out.frozen 3; have f4 := HP2.out.frozen 4; have f5 := HP2.out.frozen 5; have f6 := HP2.out.frozen 6
        obtain ⟨d0, d1, d2, d3, d4, d5, d6⟩ := HQ2.out.cells
        go_wp2_with fail
        (try simp only [Exit.inBlock, Exit.then])
        refine bodyPost_ret (results_prod rfl _ _ _ _ rfl (HP2.out.put p)) rfl ⟨?_, ?_⟩
        · have h1 := HR.out; rw [HV.out] at h1; injection h1 with h1 h2; rw [h1, h2]; rfl
        · exact PBox.put_below (HB.out.trans (HW2.out.mono HB.out.size)) (Nat.le_refl _) p
    · obtain rfl : k = l.length := by omega
      have HR := Lib.hid (HN.out HE.out)
      have HP2 := Lib.hid (HP.out.below HW.out HS.out)
      obtain ⟨c0, c1, c2, c3, c4, c5, c6⟩ : wr.cell? ⟨w.heap.size, 0, none⟩ = some (.string ⟨#[]⟩) ∧ wr.cell? ⟨w.heap.size, 1, none⟩ = some (.int .i64 0) ∧ wr.cell? ⟨w.heap.size, 2, none⟩ = some (.int .i64 0) ∧ wr.cell? ⟨w.heap.size, 3, none⟩ = some (.int .i64 0) ∧ wr.cell? ⟨w.heap.size, 4, none⟩ = some (.int .i64 0) ∧ wr.cell? ⟨w.heap.size, 5, none⟩ = some (.int .i64 0) ∧ wr.cell? ⟨w.heap.size, 6, none⟩ = some (.bool false) := HP2.out.cells
      have f0 := HP2.out.frozen 0; have f1 := HP2.out.frozen 1; have f2 := HP2.out.frozen 2; have f3 := HP2.out.frozen 3; have f4 := HP2.out.frozen 4; have f5 := HP2.out.frozen 5; have f6 := HP2.out.frozen 6
      go_wp2_with fail
      (try simp only [Exit.inBlock, Exit.then])
      refine bodyPost_ret (results_prod rfl _ _ _ _ rfl (HP2.out.put QM.zero)) rfl ⟨?_, ?_⟩
      · have h1 := HR.out; injection h1 with h1 h2; rw [h1, h2]; rfl
      · exact PBox.put_below (HB.out.trans (HW.out.mono HB.out.size)) (Nat.le_refl _) QM.zero

set_option maxHeartbeats 2000000 in
theorem qfind_any (A : Option Addr) (l : List QM.Prod) (cap : Nat) (s : ByteArray) (w : World) (hI : Prods w A l) :
    Calls Try.prog 8 #[.slice A l.length cap, .string s] w fun e w' => e = .returned (.tuple #[prodA (firstP l s).1, .bool (firstP l s).2]) ∧ Below w.heap.size w w' := by
  have HB1 := Lib.hid ((Below.refl w.heap.size w).alloc (Nat.le_refl _) (.cells #[.string s] 9))
  have C1 := Lib.hid (fun ww (h : Prods ww A l) hc hg => qfirst_any A l cap s w.heap.size ww h hc hg)
  generalize firstP l s = xy at *
  obtain ⟨x, y⟩ := xy
  have HB2 := Lib.hid (HB1.out.alloc HB1.out.size (.cells #[.string ⟨#[]⟩, .int .i64 0, .int .i64 0, .int .i64 0, .int .i64 0, .int .i64 0, .bool false] 24))
  have HP : Hid (PBox ((w.alloc (.cells #[.string s] 9)).alloc (.cells #[.string ⟨#[]⟩, .int .i64 0, .int .i64 0, .int .i64 0, .int .i64 0, .int .i64 0, .bool false] 24)) (w.heap.size + 1) QM.zero) := Lib.hid (by
    have := PBox.new (w.alloc (.cells #[.string s] 9)) QM.zero
    rw [show (w.alloc (.cells #[.string s] 9)).heap.size = w.heap.size + 1 by simp] at this
    exact this)
  have HX : Hid (Box ((w.alloc (.cells #[.string s] 9)).alloc (.cells #[.string ⟨#[]⟩, .int .i64 0, .int .i64 0, .int .i64 0, .int .i64 0, .int .i64 0, .bool false] 24)) w.heap.size 9 (.string s)) := Lib.hid ((Box.new w 9 (.string s)).alloc _)
  have HI := Lib.hid (hI.below HB2.out)
  clear hI HB1
  have hmf : ∀ (fn : Fn) (first cap : Array Value) (w : World), (Instr.makeFunc fn first cap).run Try.prog w = .ok (.func fn first cap) w := fun _ _ _ _ => rfl
  go_enter Try.func8, Try.ntmps8
  go_wp2_with fail
  refine (C1.out _ HI.out HX.out.cell HX.out.lt).mono ?_
  rintro e w2 ⟨rfl, b2⟩
  have HP2 := Lib.hid (HP.out.below b2 HP.out.lt)
  have HB3 := Lib.hid (HB2.out.trans (b2.mono HB2.out.size))
  obtain ⟨c0, c1, c2, c3, c4, c5, c6⟩ := HP2.out.cells
  have f0 := HP2.out.frozen 0; have f1 := HP2.out.frozen 1; have f2 := HP2.out.frozen 2; have f3 := HP2.out.frozen 3; have f4 := HP2.out.frozen 4; have f5 := HP2.out.frozen 5; have f6 := HP2.out.frozen 6
  clear b2
  go_wp2_with fail
  (try simp only [Exit.inBlock, Exit.then])
  refine bodyPost_ret (results_prod rfl _ _ _ _ rfl (HP2.out.put x)) rfl ⟨?_, ?_⟩
  · rfl
  · exact PBox.put_below HB3.out (by omega) x
end Go.Proofs.Ytiohainnpjikpaa

/- Layer 9's mathematics: a product's line. -/
namespace QM
def cash : List UInt8 := [99, 97, 115, 104]
def physical : List UInt8 := [112, 104, 121, 115, 105, 99, 97, 108]
def word (b : Bool) : List UInt8 := if b then physical else cash
def fieldsOf (p : Prod) : List (List UInt8) := [p.name.data.toList, WM.textL p.cur, WM.textL p.mult, WM.textL p.tick, WM.textL p.low, WM.textL p.high, word p.phys]
def printL (p : Prod) : List UInt8 := WM.joinL (fieldsOf p)
def fAt (f : List (List UInt8)) (k : Nat) : List UInt8 := f.getD k []
def prodOf (f : List (List UInt8)) : Prod := ⟨⟨(fAt f 0).toArray⟩, WM.intN (fAt f 1), WM.intN (fAt f 2), WM.intN (fAt f 3), WM.intN (fAt f 4), WM.intN (fAt f 5), decide (fAt f 6 = physical)⟩
/-- seven fields, five numbers, one of the two words -/
def form (f : List (List UInt8)) : Prop := f.length = 7 ∧ (fAt f 6 = cash ∨ fAt f 6 = physical) ∧ WM.intE (fAt f 1) = 0 ∧ WM.intE (fAt f 2) = 0 ∧ WM.intE (fAt f 3) = 0 ∧ WM.intE (fAt f 4) = 0 ∧ WM.intE (fAt f 5) = 0
open Classical in
noncomputable def parE (l : List UInt8) : Int := if WM.fieldsE l ≠ 0 then WM.fieldsE l else if form (WM.fieldsN l) then checkE (prodOf (WM.fieldsN l)) else 5
open Classical in
noncomputable def parN (l : List UInt8) : Prod := if parE l = 0 then prodOf (WM.fieldsN l) else zero
theorem par_bad {l : List UInt8} (h : WM.fieldsE l ≠ 0) : parE l = WM.fieldsE l ∧ parN l = zero := by
  have e : parE l = WM.fieldsE l := by unfold parE; rw [if_pos h]
  exact ⟨e, by unfold parN; rw [e, if_neg h]⟩
theorem par_form {l : List UInt8} (h : WM.fieldsE l = 0) (h2 : ¬ form (WM.fieldsN l)) : parE l = 5 ∧ parN l = zero := by
  have e : parE l = 5 := by unfold parE; rw [if_neg (by simp [h]), if_neg h2]
  exact ⟨e, by unfold parN; rw [e, if_neg (by decide)]⟩
theorem par_check {l : List UInt8} (h : WM.fieldsE l = 0) (h2 : form (WM.fieldsN l)) (h3 : checkE (prodOf (WM.fieldsN l)) ≠ 0) : parE l = checkE (prodOf (WM.fieldsN l)) ∧ parN l = zero := by
  have e : parE l = checkE (prodOf (WM.fieldsN l)) := by unfold parE; rw [if_neg (by simp [h]), if_pos h2]
  exact ⟨e, by unfold parN; rw [e, if_neg h3]⟩
theorem par_ok {l : List UInt8} (h : WM.fieldsE l = 0) (h2 : form (WM.fieldsN l)) (h3 : checkE (prodOf (WM.fieldsN l)) = 0) : parE l = 0 ∧ parN l = prodOf (WM.fieldsN l) := by
  have e : parE l = 0 := by unfold parE; rw [if_neg (by simp [h]), if_pos h2, h3]
  exact ⟨e, by unfold parN; rw [if_pos e]⟩
theorem par_zero {l : List UInt8} (h : parE l = 0) : WM.fieldsE l = 0 ∧ form (WM.fieldsN l) ∧ checkE (prodOf (WM.fieldsN l)) = 0 ∧ parN l = prodOf (WM.fieldsN l) := by
  by_cases h1 : WM.fieldsE l = 0
  · by_cases h2 : form (WM.fieldsN l)
    · have e : parE l = checkE (prodOf (WM.fieldsN l)) := by unfold parE; rw [if_neg (by simp [h1]), if_pos h2]
      exact ⟨h1, h2, by rw [← e]; exact h, by unfold parN; rw [if_pos h]⟩
    · rw [(par_form h1 h2).1] at h; cases h
  · rw [(par_bad h1).1] at h; exact absurd h h1

/-- a number's text is one field -/
theorem text_field (n : Int) (h : n.natAbs ≤ 4294967296) : WM.fieldsE (WM.textL n) = 0 ∧ (WM.fieldsN (WM.textL n)).length = 1 := by
  rw [WM.one_field]
  have hd := WM.dec_dig n.natAbs
  have hl := WM.dec_length n.natAbs
  have hlen : (WM.dec n.natAbs).length ≤ 20 := by
    have key : ∀ k m : Nat, m < 10 ^ (k + 1) → (WM.dec m).length ≤ k + 1 := by
      intro k
      induction k with
      | zero => intro m hm; rw [WM.dec_small (by simpa using hm)]; simp
      | succ k ih =>
        intro m hm
        by_cases h10 : m < 10
        · rw [WM.dec_small h10]; simp
        · rw [WM.dec_big h10, List.length_append]
          have := ih (m / 10) (by rw [Nat.div_lt_iff_lt_mul (by omega)]; rw [Nat.pow_succ] at hm; omega)
          simp; omega
    have := key 19 n.natAbs (by omega)
    exact this
  have dig_in : ∀ c ∈ WM.dec n.natAbs, 48 ≤ c.toNat ∧ c.toNat ≤ 57 := by
    intro c hc
    have := List.all_eq_true.1 hd c hc
    simpa [WM.dig] using this
  have hall : ∀ c ∈ WM.textL n, 45 ≤ c.toNat ∧ c.toNat ≤ 57 := by
    intro c hc
    unfold WM.textL at hc
    split at hc
    · rcases List.mem_cons.1 hc with rfl | hc
      · decide
      · have := dig_in c hc; omega
    · have := dig_in c hc; omega
  refine ⟨?_, ?_, ?_, ?_⟩
  · unfold WM.textL
    split
    · simp
    · intro e; rw [e] at hl; simp at hl
  · unfold WM.textL
    split
    · rw [List.length_cons]; omega
    · omega
  · rw [List.all_eq_true]
    intro c hc
    have := hall c hc
    rw [WM.plain_true]; omega
  · intro hc
    have := hall _ hc
    simp at this
theorem word_field (b : Bool) : WM.fieldsE (word b) = 0 ∧ (WM.fieldsN (word b)).length = 1 := by
  rw [WM.one_field]; cases b <;> decide
theorem text_len (n : Int) (h : n.natAbs ≤ 4294967296) : (WM.textL n).length ≤ 21 := by
  have key : ∀ k m : Nat, m < 10 ^ (k + 1) → (WM.dec m).length ≤ k + 1 := by
    intro k
    induction k with
    | zero => intro m hm; rw [WM.dec_small (by simpa using hm)]; simp
    | succ k ih =>
      intro m hm
      by_cases h10 : m < 10
      · rw [WM.dec_small h10]; simp
      · rw [WM.dec_big h10, List.length_append]
        have := ih (m / 10) (by rw [Nat.div_lt_iff_lt_mul (by omega)]; rw [Nat.pow_succ] at hm; omega)
        simp; omega
  have := key 19 n.natAbs (by omega)
  unfold WM.textL
  split
  · rw [List.length_cons]; omega
  · omega
/-- a product that may be is read as it was printed -/
theorem par_print {p : Prod} (h : checkE p = 0) : parE (printL p) = 0 ∧ parN (printL p) = p := by
  obtain ⟨hn, hc, hm, ht, hl, _, _⟩ := check_parts h
  have nl : p.name.data.toList.length ≤ 12 := by
    unfold nameOk WM.name at hn
    simp only [Bool.and_eq_true, decide_eq_true_eq] at hn
    exact hn.2
  have hf : ∀ q ∈ fieldsOf p, WM.fieldsE q = 0 ∧ (WM.fieldsN q).length = 1 := by
    intro q hq
    simp only [fieldsOf, List.mem_cons, List.not_mem_nil, or_false] at hq
    rcases hq with rfl | rfl | rfl | rfl | rfl | rfl | rfl
    · exact WM.name_field hn
    · exact text_field _ (by omega)
    · exact text_field _ (by omega)
    · exact text_field _ (by omega)
    · exact text_field _ (by omega)
    · exact text_field _ (by omega)
    · exact word_field _
  have hlen : (WM.joinL (fieldsOf p)).length ≤ 512 := by
    have l1 := text_len p.cur (by omega)
    have l2 := text_len p.mult (by omega)
    have l3 := text_len p.tick (by omega)
    have l4 := text_len p.low (by omega)
    have l5 := text_len p.high (by omega)
    have nl2 : p.name.size ≤ 12 := by simpa using nl
    have l6 : (word p.phys).length ≤ 8 := by cases p.phys <;> decide
    simp [fieldsOf, WM.joinL]
    omega
  obtain ⟨e1, e2⟩ := WM.fields_join hf hlen
  have hint : ∀ n : Int, n.natAbs ≤ 4294967296 → WM.intE (WM.textL n) = 0 ∧ WM.intN (WM.textL n) = n := by
    intro n hn
    obtain ⟨a, b⟩ := WM.int_text n
    have hm : n.natAbs ≤ WM.most.natAbs := by unfold WM.most; omega
    rw [if_pos hm] at a
    exact ⟨a, b hm⟩
  obtain ⟨a1, b1⟩ := hint p.cur (by omega)
  obtain ⟨a2, b2⟩ := hint p.mult (by omega)
  obtain ⟨a3, b3⟩ := hint p.tick (by omega)
  obtain ⟨a4, b4⟩ := hint p.low (by omega)
  obtain ⟨a5, b5⟩ := hint p.high (by omega)
  have hform : form (fieldsOf p) := by
    refine ⟨rfl, ?_, a1, a2, a3, a4, a5⟩
    show word p.phys = cash ∨ word p.phys = physical
    cases p.phys
    · exact .inl rfl
    · exact .inr rfl
  have hprod : prodOf (fieldsOf p) = p := by
    have e6 : decide (word p.phys = physical) = p.phys := by cases p.phys <;> decide
    have e0 : (⟨(p.name.data.toList).toArray⟩ : ByteArray) = p.name := by simp
    show (⟨⟨(p.name.data.toList).toArray⟩, WM.intN (WM.textL p.cur), WM.intN (WM.textL p.mult), WM.intN (WM.textL p.tick), WM.intN (WM.textL p.low), WM.intN (WM.textL p.high), decide (word p.phys = physical)⟩ : Prod) = p
    rw [e0, b1, b2, b3, b4, b5, e6]
  have := par_ok (l := printL p) e1 (by unfold printL; rw [e2]; exact hform) (by unfold printL; rw [e2, hprod]; exact h)
  refine ⟨this.1, ?_⟩
  rw [this.2]
  unfold printL
  rw [e2, hprod]
/-- what is read is printed as the line -/
theorem print_par {l : List UInt8} (h : parE l = 0) : printL (parN l) = l ∧ checkE (parN l) = 0 := by
  obtain ⟨h1, ⟨h7, hw, i1, i2, i3, i4, i5⟩, h3, e⟩ := par_zero h
  rw [e]
  refine ⟨?_, h3⟩
  have hj := WM.join_fields h1
  generalize WM.fieldsN l = f at *
  have hf : fieldsOf (prodOf f) = f := by
    have hw2 : word (decide (fAt f 6 = physical)) = fAt f 6 := by
      by_cases g : fAt f 6 = physical
      · rw [decide_eq_true g, g]; rfl
      · rw [decide_eq_false g]
        rcases hw with hw | hw
        · rw [hw]; rfl
        · exact absurd hw g
    show [(⟨(fAt f 0).toArray⟩ : ByteArray).data.toList, WM.textL (WM.intN (fAt f 1)), WM.textL (WM.intN (fAt f 2)), WM.textL (WM.intN (fAt f 3)), WM.textL (WM.intN (fAt f 4)), WM.textL (WM.intN (fAt f 5)), word (decide (fAt f 6 = physical))] = f
    rw [WM.text_int i1, WM.text_int i2, WM.text_int i3, WM.text_int i4, WM.text_int i5, hw2]
    match f, h7 with
    | [a, b, c, d, e, g, k], _ => rfl
  unfold printL
  rw [hf]
  exact hj
end QM

/- Strings out of bytes. -/
namespace Go.Proofs.Ytiohainnpjikpaa
open Go.RowKit

theorem lit_bytes (w : World) (cs : List UInt8) (fr : Nat × Nat) (hl : cs.length ≤ maxLen) : Bytes (w.alloc (.cells (cs.map byteV).toArray 5 fr)) (some ⟨w.heap.size, 0, none⟩) cs := by
  refine ⟨by rw [List.length_map]; exact hl, .inr ⟨w.heap.size, 0, rfl, by simp, fun i hi => ?_⟩⟩
  rw [Nat.zero_add, World.cell?_alloc_mark]
  simp

/-- 'string(b)' -/
theorem str_of {w : World} {A : Option Addr} {l : List UInt8} (h : Bytes w A l) (cap : Nat) : (convert 89 9 (.slice A l.length cap)).run Try.prog w = .ok (.string (S l)) w := by
  cases A with
  | none =>
    have : l = [] := by
      rcases h.2 with h0 | ⟨b, off, e, _⟩
      · simpa using h0
      · cases e
    subst this
    rw [run_convert_bytes_string w 89 9 5 none _ cap Try.underlying89 Try.underlying5 Try.underlying9]
    rfl
  | some ad =>
    refine run_convert_bytes_back w 89 9 5 ad cap l Try.underlying89 Try.underlying5 Try.underlying9 ?_
    intro j hj
    rcases h.2 with h0 | ⟨b, off, e, hb, hcell⟩
    · have : l = [] := by simpa using h0
      subst this
      simp at hj
    · injection e with e
      subst e
      have e : (⟨b, off, none⟩ : Addr).add j = ⟨b, off + j, none⟩ := by
        unfold Addr.add
        by_cases h0 : j = 0
        · subst h0; simp
        · simp [h0]
      rw [e, hcell j (by simpa using hj)]
      simp [List.getElem?_eq_getElem hj, byteV]
end Go.Proofs.Ytiohainnpjikpaa

/- Rows of bytes that the call itself makes; strings out of bytes. -/
namespace Go.Proofs.Ytiohainnpjikpaa
open Go.RowKit

theorem info_u8 : (Try.prog.info? 5).map (fun i => (i.zero, i.size, i.bytes)) = some (some (.int .u8 0), 1, 1) := by kernel_rfl
theorem info_str : (Try.prog.info? 9).map (fun i => (i.zero, i.size, i.bytes)) = some (some (.string ⟨#[]⟩), 1, 16) := by kernel_rfl

/-- the slice v, in memory from block B on, holds the bytes l -/
def OB (w : World) (B : Nat) (v : Value) (l : List UInt8) : Prop := OwnV w B 5 v (l.map byteV)
theorem OB.nil (w : World) (B : Nat) : OB w B (.slice none 0 0) [] := OwnV.nil w B _
theorem OB.below {w w' : World} {B : Nat} {v : Value} {l : List UInt8} (h : OB w B v l) (hb : Below w.heap.size w w') : OB w' B v l := OwnV.below h hb
theorem OB.drewN {w : World} {B : Nat} {v : Value} {l : List UInt8} (h : OB w B v l) (n : Nat) : OB (w.drewN n) B v l := h
theorem OB.alloc {w : World} {B : Nat} {v : Value} {l : List UInt8} (h : OB w B v l) (o : Obj) : OB (w.alloc o) B v l := OwnV.alloc h o
theorem OB.bytes {w : World} {B : Nat} {v : Value} {l : List UInt8} (h : OB w B v l) : ∃ A cap, v = .slice A l.length cap ∧ Bytes w A l := by
  obtain ⟨A, cap, e, hv⟩ := OwnV.vals h
  rw [List.length_map] at e
  exact ⟨A, cap, e, hv⟩
theorem OB.len {w : World} {B : Nat} {v : Value} {l : List UInt8} (h : OB w B v l) : l.length ≤ 9223372036854775807 := by have := OwnV.len h; rw [List.length_map] at this; exact this

theorem byteV_one (l : List UInt8) : ∀ u ∈ l.map byteV, u.oneCell' = true := by
  intro u hu
  obtain ⟨c, _, rfl⟩ := List.mem_map.1 hu
  rfl

/-- 'b = append(b, s...)', s a string -/
theorem wpList_catS {ops : Array Oper} {rest : List Oper} {o : Oper} {a : Act} {Q : Exit → Act → World → Prop} (w : World) (B : Nat) (l : List UInt8) (s : ByteArray) (x y : Operand)
    (hgd : o.guard = none) (ho : o.op = .call { callee := .builtin .append, args := #[x, y], argTypes := #[89, 9] })
    (v : Value) (hs : a.eval x = v) (hx : a.eval y = .string s) (hown : OB w B v l) (hl : l.length + s.size ≤ 140737488355328) (hB : B ≤ w.heap.size)
    (h : ∀ v' w', OB w' B v' (l ++ L s) → Below B w w' → w.grownBy w' v.ownBlock → wpList Try.prog ops Q rest (a.put o.dst v') w') :
    wpList Try.prog ops Q (o :: rest) a w := by
  obtain ⟨i0, hi, hz0, hz1, hz2⟩ := info_parts info_u8
  have hc : Lib.strCells s = (L s).map byteV := rfl
  refine Lib.wpList_append_own_string w hgd x y 89 9 ho B 5 i0 Try.underlying89 Try.underlying9 hi hz0 hz1 hz2 v (l.map byteV).length (l.map byteV) hs hown s hx ?_ ?_ hB ?_
  · rw [List.length_map]; unfold maxLen; omega
  · rw [List.length_map]; exact hl
  · intro v' w' h1 h2 _
    refine h v' w' ?_ ((Below.refl B w).grown h2 hB (OwnV.block hown)) h2
    unfold OB OwnV
    rw [hc] at h1
    have el : (List.map byteV (L s)).length = s.size := by rw [List.length_map, L_len]
    rw [List.map_append, List.length_append, el]
    exact h1

theorem run_catB (w : World) (B : Nat) (l m : List UInt8) (ty : TypeId) (v : Value) (hown : OB w B v l) (A : Option Addr) (c : Nat) (hm : Bytes w A m) (hl : l.length + m.length ≤ 140737488355328) (hB : B ≤ w.heap.size) :
    ∃ v' w', (Builtin.append_ #[89, 89] ty #[v, .slice A m.length c]).run Try.prog w = .ok v' w' ∧ OB w' B v' (l ++ m) ∧ w.grownBy w' v.ownBlock := by
  obtain ⟨i0, hi, hz0, hz1, hz2⟩ := info_parts info_u8
  have key : ∀ ad, A = some ad → ∃ v' w', (Builtin.append_ #[89, 89] ty #[v, .slice A m.length c]).run Try.prog w = .ok v' w' ∧ OB w' B v' (l ++ m) ∧ w.grownBy w' v.ownBlock := by
    rintro ad rfl
    have hcells : ∀ j u, (m.map byteV)[j]? = some u → w.cell? (ad.add j) = some u := by
      intro j u hu
      rcases hm.2 with h0 | ⟨b, off, e, hb, hcell⟩
      · have : m = [] := by simpa using h0
        subst this
        simp at hu
      · injection e with e
        subst e
        have hj : j < (m.map byteV).length := by
          rcases Nat.lt_or_ge j (m.map byteV).length with h | h
          · exact h
          · rw [List.getElem?_eq_none h] at hu; cases hu
        have e : (⟨b, off, none⟩ : Addr).add j = ⟨b, off + j, none⟩ := by
          unfold Addr.add
          by_cases h0 : j = 0
          · subst h0; simp
          · simp [h0]
        rw [e, hcell j hj, hu]
    obtain ⟨v', w', hr, h2, h3, _, _⟩ := run_append_own_at (P := Try.prog) w B 89 ty 5 i0 (.int .u8 0) 1 1 Try.underlying89 hi hz0 hz1 hz2 rfl (by decide) v (l.map byteV).length (l.map byteV) hown ad m.length c (m.map byteV)
      (by simp) hcells (byteV_one m) (by rw [List.length_map]; unfold maxLen; omega) (by rw [List.length_map]; omega) hB
    refine ⟨v', w', hr, ?_, h3⟩
    unfold OB OwnV
    have el : (List.map byteV m).length = m.length := List.length_map _
    rw [List.map_append, List.length_append, el]
    exact h2
  cases A with
  | some ad => exact key ad rfl
  | none =>
    have : m = [] := by
      rcases hm.2 with h0 | ⟨b, off, e, _⟩
      · simpa using h0
      · cases e
    subst this
    refine ⟨v, w, ?_, by simpa using hown, World.grownBy.refl w _⟩
    rcases hown.2 with ⟨rfl, h0⟩ | ⟨g, cap, cur, rfl, _, _, hnc, _⟩
    · simp [Builtin.append_, run_underlying Try.underlying89, sizeOf, typeInfo, hi, Builtin.lenOf, Builtin.firstCells]
    · simp [Builtin.append_, run_underlying Try.underlying89, sizeOf, typeInfo, hi, Builtin.lenOf, Builtin.firstCells, storeCells]
      simp at hnc
      omega

/-- 'b = append(b, c...)', c a slice of bytes -/
theorem wpList_catB {ops : Array Oper} {rest : List Oper} {o : Oper} {a : Act} {Q : Exit → Act → World → Prop} (w : World) (B : Nat) (l m : List UInt8) (x y : Operand)
    (hgd : o.guard = none) (ho : o.op = .call { callee := .builtin .append, args := #[x, y], argTypes := #[89, 89] })
    (v : Value) (A : Option Addr) (n c : Nat) (hs : a.eval x = v) (hx : a.eval y = .slice A n c) (hn : n = m.length) (hown : OB w B v l) (hm : Bytes w A m) (hl : l.length + m.length ≤ 140737488355328) (hB : B ≤ w.heap.size)
    (h : ∀ v' w', OB w' B v' (l ++ m) → Below B w w' → w.grownBy w' v.ownBlock → wpList Try.prog ops Q rest (a.put o.dst v') w') :
    wpList Try.prog ops Q (o :: rest) a w := by
  subst hn
  obtain ⟨v', w', hr, h2, h3⟩ := run_catB w B l m o.type v hown A c hm hl hB
  refine wpList_plain hgd fun K hK => ?_
  unfold Oper.wp execOp
  simp only [ho, resolve, invoke, builtin, Sem.run_bind, Sem.run_pure, Result.andThen_ok, List.map_toArray, List.map_cons, List.map_nil, hs, hx, hr]
  exact hK _ _ (h v' w' h2 ((Below.refl B w).grown h3 hB (OwnV.block hown)) h3)

/-- 'b = append(b, c)', one byte in a block just made -/
theorem wpList_pushB {ops : Array Oper} {rest : List Oper} {o : Oper} {a : Act} {Q : Exit → Act → World → Prop} (w : World) (c : UInt8) (n : Int) (hn : n = (c.toNat : Int)) (B : Nat) (l : List UInt8) (x y : Operand)
    (hgd : o.guard = none) (ho : o.op = .call { callee := .builtin .append, args := #[x, y], argTypes := #[89, 89] })
    (v : Value) (hs : a.eval x = v) (hx : a.eval y = .slice (some ⟨w.heap.size, 0, none⟩) 1 1) (hown : OB w B v l) (hl : l.length + 1 ≤ 140737488355328) (hB : B ≤ w.heap.size)
    (h : ∀ v' w', OB w' B v' (l ++ [c]) → Below B w w' → w.grownBy w' v.ownBlock → wpList Try.prog ops Q rest (a.put o.dst v') w') :
    wpList Try.prog ops Q (o :: rest) a (w.alloc (.cells #[.int .u8 n] 5)) := by
  subst hn
  refine wpList_pushV w (byteV c) rfl B (l.map byteV) x y 89 5 1 (.int .u8 0) Try.underlying89 info_u8 rfl hgd ho v hs hx hown ?_ ?_ hB ?_
  · rw [List.length_map]; omega
  · rw [List.length_map]; unfold maxLen; omega
  · intro v' w' h1 h2 _ h4
    exact h v' w' (by unfold OB; rw [List.map_append]; exact h1) h2 h4

/-- 's = append(s, t)', one string in a block just made -/
def OS (w : World) (B : Nat) (v : Value) (l : List ByteArray) : Prop := OwnV w B 9 v (l.map Value.string)
theorem OS.nil (w : World) (B : Nat) : OS w B (.slice none 0 0) [] := OwnV.nil w B _
theorem OS.below {w w' : World} {B : Nat} {v : Value} {l : List ByteArray} (h : OS w B v l) (hb : Below w.heap.size w w') : OS w' B v l := OwnV.below h hb
theorem OS.drewN {w : World} {B : Nat} {v : Value} {l : List ByteArray} (h : OS w B v l) (n : Nat) : OS (w.drewN n) B v l := h
theorem OS.strs {w : World} {B : Nat} {v : Value} {l : List ByteArray} (h : OS w B v l) (hs : ∀ s ∈ l, s.size ≤ maxLen) : ∃ A cap, v = .slice A l.length cap ∧ Strs w A l := by
  obtain ⟨A, cap, e, hv⟩ := OwnV.vals h
  rw [List.length_map] at e
  exact ⟨A, cap, e, hv, hs⟩
theorem wpList_pushS {ops : Array Oper} {rest : List Oper} {o : Oper} {a : Act} {Q : Exit → Act → World → Prop} (w : World) (s : ByteArray) (B : Nat) (l : List ByteArray) (x y : Operand)
    (hgd : o.guard = none) (ho : o.op = .call { callee := .builtin .append, args := #[x, y], argTypes := #[58, 58] })
    (v : Value) (hs : a.eval x = v) (hx : a.eval y = .slice (some ⟨w.heap.size, 0, none⟩) 1 1) (hown : OS w B v l) (hl : l.length + 1 ≤ 8796093022208) (hB : B ≤ w.heap.size)
    (h : ∀ v' w', OS w' B v' (l ++ [s]) → Below B w w' → w.grownBy w' v.ownBlock → wpList Try.prog ops Q rest (a.put o.dst v') w') :
    wpList Try.prog ops Q (o :: rest) a (w.alloc (.cells #[.string s] 9)) := by
  refine wpList_pushV w (.string s) rfl B (l.map Value.string) x y 58 9 16 (.string ⟨#[]⟩) Try.underlying58 info_str rfl hgd ho v hs hx hown ?_ ?_ hB ?_
  · rw [List.length_map]; omega
  · rw [List.length_map]; unfold maxLen; omega
  · intro v' w' h1 h2 _ h4
    exact h v' w' (by unfold OS; rw [List.map_append]; exact h1) h2 h4

end Go.Proofs.Ytiohainnpjikpaa

/- What the program's own readers of digits reckon. -/
namespace WM

theorem digits_nil : digits [] = false := rfl
/-- one digit or more, no nought ahead -/
theorem digits_def {l : List UInt8} (h : 0 < l.length) : digits l = (!((l.headD 0 == 48) && decide (1 < l.length)) && l.all dig) := by
  unfold digits
  by_cases h1 : l.length = 1
  · have e1 : (l.length == 1) = true := by simpa using h1
    have e2 : decide (1 < l.length) = false := by simp; omega
    rw [e1, e2]; simp
  · have e1 : (l.length == 1) = false := by simpa using h1
    have e2 : decide (1 < l.length) = true := by simp; omega
    rw [e1, e2]
    cases hh : (l.headD 0 == 48) with
    | true => simp only [bne, hh]; simp
    | false => simp only [bne, hh]; simp
/-- the value, but for what is above the greatest -/
def mval (l : List UInt8) : Int := min (val l) (most + 1)
theorem val_take {l : List UInt8} (h : l.all dig = true) (k : Nat) (hk : k < l.length) : 10 * val (l.take k) ≤ val l := by
  have key : ∀ n, ∀ l : List UInt8, l.length = k + 1 + n → l.all dig = true → 10 * val (l.take k) ≤ val l := by
    intro n
    induction n with
    | zero =>
      intro l hl hd
      have e : l = l.take k ++ [l[k]] := by
        rw [← take_snoc l k (by omega), List.take_of_length_le (by omega)]
      have h1 := dval_range (all_get hd k (by omega))
      have h2 : val l = 10 * val (l.take k) + dval l[k] := by
        conv => lhs; rw [e]
        rw [val_snoc]
      omega
    | succ n ih =>
      intro l hl hd
      have e : l = l.take (k + 1 + n) ++ [l[k + 1 + n]] := by
        rw [← take_snoc l _ (by omega), List.take_of_length_le (by omega)]
      have h0 := ih (l.take (k + 1 + n)) (by rw [List.length_take]; omega) (all_take hd _)
      rw [List.take_take, show min k (k + 1 + n) = k by omega] at h0
      have h1 := dval_range (all_get hd (k + 1 + n) (by omega))
      have h2 : val l = 10 * val (l.take (k + 1 + n)) + dval l[k + 1 + n] := by
        conv => lhs; rw [e]
        rw [val_snoc]
      have h3 := val_nonneg (all_take hd (k + 1 + n))
      omega
  exact key (l.length - (k + 1)) l (by omega) h
theorem mval_stop {l : List UInt8} (h : l.all dig = true) (k : Nat) (hk : k < l.length) (hv : 115292150460684697 < mval (l.take k)) : mval l = 1152921504606846977 := by
  have := val_take h k hk
  unfold mval most at *
  omega
theorem mval_step {l : List UInt8} (h : l.all dig = true) {c : UInt8} (hc : dig c = true) (hv : ¬ 115292150460684697 < mval l) : mval (l ++ [c]) = min (10 * mval l + dval c) 1152921504606846977 ∧ 0 ≤ mval l := by
  have := val_nonneg h
  have := dval_range hc
  unfold mval most at *
  rw [val_snoc]
  omega
theorem mval_range {l : List UInt8} (h : l.all dig = true) : 0 ≤ mval l ∧ mval l ≤ 1152921504606846977 := by
  have := val_nonneg h
  unfold mval most at *
  omega
theorem sign_mval {l : List UInt8} (h : l.all dig = true) (b : Bool) : signE (mval l) b = signE (val l) b ∧ signN (mval l) b = signN (val l) b := by
  have := val_nonneg h
  by_cases c : val l ≤ most
  · have : mval l = val l := by unfold mval; omega
    rw [this]; exact ⟨rfl, rfl⟩
  · have c' : most < val l := by omega
    have c2 : most < mval l := by unfold mval; omega
    have z1 : val l ≠ 0 := by unfold most at *; omega
    have z2 : mval l ≠ 0 := by unfold most at *; omega
    simp [signE, signN, c', c2, z1, z2]
theorem sval_stop {l : List UInt8} (h : l.all dig = true) (k : Nat) (hk : k < l.length) (hv : 115292150460684697 < sval (l.take k)) : most < val l := by
  have h1 := val_take h k hk
  have h2 := sval_val (all_take h k)
  have h3 := val_nonneg (all_take h k)
  unfold most at *
  by_cases c : val (l.take k) ≤ 1152921504606846976
  · have := h2.2.1 c; omega
  · omega
theorem sval_over {l : List UInt8} (k : Nat) (hk : k < l.length) (hv : 115292150460684697 < sval (l.take k)) : sval l = 1152921504606846977 := by
  have key : ∀ n, k + 1 + n ≤ l.length → sval (l.take (k + 1 + n)) = 1152921504606846977 := by
    intro n
    induction n with
    | zero =>
      intro h
      rw [take_snoc l k hk, sval_snoc, if_pos hv]; rfl
    | succ n ih =>
      intro h
      have e := ih (by omega)
      rw [show k + 1 + (n + 1) = (k + 1 + n) + 1 by omega, take_snoc l _ (by omega), sval_snoc, e, if_pos (by omega)]; rfl
  have := key (l.length - (k + 1)) (by omega)
  rw [List.take_of_length_le (by omega)] at this
  exact this
/-- what the reference's reader answers -/
def rval (l : List UInt8) : Int := if most < val l then most + 1 else val l
theorem sign_cases (v : Int) (b : Bool) : signE v b = (if b = true ∧ v = 0 then 5 else if most < v then 3 else 0) := rfl
end WM

/- Pieces put together, with something between. -/
namespace WM
set_option linter.unusedVariables false
def catL (b : List UInt8) : List (List UInt8) → List UInt8
  | [] => []
  | [p] => p
  | p :: q :: r => p ++ (b ++ catL b (q :: r))
theorem catL_snoc (b : List UInt8) (ps : List (List UInt8)) (q : List UInt8) (h : ps ≠ []) : catL b (ps ++ [q]) = catL b ps ++ b ++ q := by
  induction ps with
  | nil => exact absurd rfl h
  | cons p ps ih =>
    cases ps with
    | nil => simp [catL]
    | cons r rs =>
      have e := ih (by simp)
      show p ++ (b ++ catL b (r :: rs ++ [q])) = (p ++ (b ++ catL b (r :: rs))) ++ b ++ q
      rw [e]; simp
theorem catL_one (b q : List UInt8) : catL b ([] ++ [q]) = q := rfl
theorem catL_join (ps : List (List UInt8)) : catL [32] ps = joinL ps := by
  induction ps with
  | nil => rfl
  | cons p ps ih =>
    cases ps with
    | nil => rfl
    | cons r rs => show p ++ ([32] ++ catL [32] (r :: rs)) = p ++ 32 :: joinL (r :: rs); rw [ih]; rfl
theorem catL_two (p q : List UInt8) : catL [] [p, q] = p ++ q := rfl
theorem catL_four (p q r s : List UInt8) : catL [] [p, q, r, s] = p ++ (q ++ (r ++ s)) := rfl
/-- all lengths, each with b more -/
def tl (b : Nat) (ns : List Nat) : Nat := (ns.map (· + b)).sum
theorem tl_snoc (b : Nat) (ns : List Nat) (n : Nat) : tl b (ns ++ [n]) = tl b ns + (n + b) := by simp [tl]
theorem tl_take (b : Nat) (ns : List Nat) (k : Nat) : tl b (ns.take k) ≤ tl b ns := by
  have : tl b ns = tl b (ns.take k) + tl b (ns.drop k) := by
    unfold tl
    rw [← List.sum_append, ← List.map_append, List.take_append_drop]
  omega
theorem catL_len (b : List UInt8) (ps : List (List UInt8)) : (catL b ps).length ≤ tl b.length (ps.map List.length) := by
  induction ps with
  | nil => simp [catL]
  | cons p ps ih =>
    cases ps with
    | nil => simp [catL, tl]
    | cons r rs =>
      have e : tl b.length ((p :: r :: rs).map List.length) = p.length + b.length + tl b.length ((r :: rs).map List.length) := by
        unfold tl; rw [List.map_cons, List.map_cons, List.sum_cons]
      rw [e]
      show (p ++ (b ++ catL b (r :: rs))).length ≤ _
      rw [List.length_append, List.length_append]
      omega
end WM

/- Contracts of layer 3's readers of numbers, the program's. -/
namespace Go.Proofs.Ytiohainnpjikpaa
open Go.RowKit
set_option linter.unusedVariables false

theorem isWhole_any (s : ByteArray) (w : World) (hs : s.size ≤ 9223372036854775807) :
    Calls Try.prog 66 #[.string s] w fun e w' => e = .returned (.bool (WM.digits (L s))) ∧ w = w' := by
  by_cases h0 : s.size = 0
  · rw [L_nil h0, WM.digits_nil]
    have he := isEmpty_true h0
    clear h0
    go_enter Try.func66, Try.ntmps66
    go_wp2
    go_ret
    exact ⟨rfl, rfl⟩
  · have hp : 0 < s.size := by omega
    have he := isEmpty_false hp
    have HD := WM.digits_def (l := L s) (by rw [L_len]; exact hp)
    rw [L_head s hp, L_len] at HD
    cases h48 : (s[0] == 48)
    · have HD := Lib.hid HD
      have e1 : ((s[0].toNat : Int) == 48) = false := by
        simp only [beq_eq_false_iff_ne, ne_eq] at h48 ⊢
        intro h
        exact h48 (UInt8.toNat_inj.1 (by have : (48 : UInt8).toNat = 48 := rfl; omega))
      have H48 := Lib.hid h48
      clear h48
      go_enter Try.func66, Try.ntmps66
      go_wp2_with (go_at_call 68; refine (areDigits_any _ _ hs).mono ?_; rintro e w' ⟨rfl, rfl⟩)
      go_ret
      exact ⟨by rw [HD.out, H48.out]; rfl, rfl⟩
    · have e1 : ((s[0].toNat : Int) == 48) = true := by
        simp only [beq_iff_eq] at h48 ⊢
        rw [h48]; rfl
      have HD := Lib.hid HD
      have H48 := Lib.hid h48
      clear h48
      by_cases h1 : 1 < s.size
      · have e2 : decide (1 < s.size) = true := by simpa using h1
        have HE := Lib.hid e2
        go_enter Try.func66, Try.ntmps66
        go_wp2_with (go_at_call 68; refine (areDigits_any _ _ hs).mono ?_; rintro e w' ⟨rfl, rfl⟩)
        go_ret
        exact ⟨by rw [HD.out, H48.out, HE.out]; rfl, rfl⟩
      · have e2 : decide (1 < s.size) = false := by simpa using h1
        have HE := Lib.hid e2
        go_enter Try.func66, Try.ntmps66
        go_wp2_with (go_at_call 68; refine (areDigits_any _ _ hs).mono ?_; rintro e w' ⟨rfl, rfl⟩)
        go_ret
        exact ⟨by rw [HD.out, H48.out, HE.out]; rfl, rfl⟩

/-- what follows the sign -/
theorem cut_parts (s : ByteArray) : ∃ t : ByteArray, L t = WM.cut (L s) ∧ t.size ≤ s.size ∧
    ((s.size = 0 ∧ t = s ∧ WM.below (L s) = false) ∨ (∃ h : 0 < s.size, ((s[0].toNat : Int) == 45) = false ∧ t = s ∧ WM.below (L s) = false) ∨
      (∃ h : 0 < s.size, ((s[0].toNat : Int) == 45) = true ∧ t = s.extract 1 s.size ∧ WM.below (L s) = true)) := by
  by_cases h0 : s.size = 0
  · exact ⟨s, by rw [L_nil h0]; rfl, Nat.le_refl _, .inl ⟨h0, rfl, by rw [L_nil h0]; rfl⟩⟩
  · have hp : 0 < s.size := by omega
    cases hb : WM.below (L s)
    · refine ⟨s, (WM.of_plain hb).symm, Nat.le_refl _, .inr (.inl ⟨hp, ?_, rfl, rfl⟩)⟩
      unfold WM.below at hb
      rw [L_head s hp] at hb
      simp only [beq_eq_false_iff_ne, ne_eq] at hb ⊢
      intro h
      exact hb (UInt8.toNat_inj.1 (by have : (45 : UInt8).toNat = 45 := rfl; omega))
    · refine ⟨s.extract 1 s.size, ?_, ?_, .inr (.inr ⟨hp, ?_, rfl, rfl⟩)⟩
      · rw [L_extract, L_take_all]
        have := WM.of_below hb
        conv => lhs; rw [this]
        rfl
      · rw [ByteArray.size_extract]; omega
      · unfold WM.below at hb
        rw [L_head s hp] at hb
        simp only [beq_iff_eq] at hb ⊢
        rw [hb]; rfl

theorem cutSign_any (s : ByteArray) (w : World) (hs : s.size ≤ 9223372036854775807) :
    Calls Try.prog 65 #[.string s] w fun e w' => ∃ t : ByteArray, e = .returned (.tuple #[.bool (WM.below (L s)), .string t]) ∧ L t = WM.cut (L s) ∧ t.size ≤ s.size ∧ ∃ n, w' = w.drewN n := by
  obtain ⟨t, h1, h2, h3⟩ := cut_parts s
  have H1 := Lib.hid h1
  clear h1
  rcases h3 with ⟨h0, rfl, hb⟩ | ⟨hp, c, rfl, hb⟩ | ⟨hp, c, rfl, hb⟩
  · rw [hb]; clear hb
    have he := isEmpty_true h0
    clear h0
    go_enter Try.func65, Try.ntmps65
    go_wp2
    go_ret2
    exact ⟨_, rfl, H1.out, h2, 0, rfl⟩
  · rw [hb]; clear hb
    have he := isEmpty_false hp
    go_enter Try.func65, Try.ntmps65
    go_wp2
    go_ret2
    exact ⟨_, rfl, H1.out, h2, 0, rfl⟩
  · rw [hb]; clear hb
    have he := isEmpty_false hp
    go_enter Try.func65, Try.ntmps65
    go_wp2
    go_quiet (fail)
    go_wp2
    go_ret2
    exact ⟨_, rfl, H1.out, h2, _, rfl⟩

theorem dval_nat {c : UInt8} (h : WM.dig c = true) : ((c.toNat : Int) - 48) = WM.dval c := rfl

set_option maxHeartbeats 1000000 in
theorem sizeOf_any (s : ByteArray) (w : World) (hs : s.size ≤ 9223372036854775807) (hd : (L s).all WM.dig = true) :
    Calls Try.prog 69 #[.string s] w fun e w' => e = .returned (.int .i64 (WM.mval (L s))) ∧ w = w' := by
  generalize hv : WM.mval (L s) = v
  have HV := Lib.hid hv
  have HD := Lib.hid hd
  clear hv hd
  go_enter Try.func69, Try.ntmps69
  go_wp2
  go_loop [2, 6] (fun n i => ∃ k : Nat, ∃ x : Int, k ≤ s.size ∧ i = .int .i64 k ∧ n = .int .i64 x ∧ Hid (WM.mval ((L s).take k) = x)) (fun _ i => s.size - (intOf i).toNat)
  case atStart => exact ⟨0, 0, by omega, rfl, rfl, Lib.hid rfl⟩
  case round =>
    obtain ⟨k, x, hk, rfl, rfl, HX⟩ := hrel
    by_cases hlt : k < s.size
    · by_cases hx : 115292150460684697 < x
      · have HN := Lib.hid (WM.mval_stop HD.out k (by rw [L_len]; exact hlt) (by rw [HX.out]; exact hx))
        go_wp2
        go_ret
        exact ⟨by rw [← HV.out, HN.out]; rfl, rfl⟩
      · have hc : WM.dig s[k] = true := by rw [← L_get s k hlt]; exact WM.all_get HD.out k (by rw [L_len]; exact hlt)
        have hst := WM.mval_step (WM.all_take HD.out k) hc (by rw [HX.out]; exact hx)
        have hdr := WM.dval_range hc
        obtain ⟨d1, d2⟩ := WM.dig_true.1 hc
        rw [← L_take_succ s k hlt, HX.out] at hst
        have x0 := hst.2
        have HS := Lib.hid hst.1
        clear hst hdr hc
        unfold WM.dval at HS
        go_wp2
        all_goals
          go_round
          case rel => exact ⟨k + 1, _, by omega, by go_num, rfl, Lib.hid (by rw [HS.out]; omega)⟩
          case measure => simp [intOf]; omega
    · obtain rfl : k = s.size := by omega
      have HE := HX.out
      rw [L_take_all] at HE
      have HE := Lib.hid HE
      go_wp2
      go_ret
      exact ⟨by rw [← HV.out, HE.out]; rfl, rfl⟩
end Go.Proofs.Ytiohainnpjikpaa

/- Contracts: what reads a number, the program's and the reference's. -/
namespace Go.Proofs.Ytiohainnpjikpaa
open Go.RowKit
set_option linter.unusedVariables false

theorem number_any (b : Bool) (s : ByteArray) (w : World) (hs : s.size ≤ 9223372036854775807) (hd : (L s).all WM.dig = true) :
    Calls Try.prog 67 #[.bool b, .string s] w fun e w' => e = .returned (.tuple #[.int .i64 (WM.signN (WM.val (L s)) b), .int .i64 (WM.signE (WM.val (L s)) b)]) ∧ w = w' := by
  have C := sizeOf_any s w hs hd
  obtain ⟨r0, r1⟩ := WM.mval_range hd
  rw [← (WM.sign_mval hd b).1, ← (WM.sign_mval hd b).2]
  generalize WM.mval (L s) = v at *
  have HC := Lib.hid C
  clear C
  generalize hn : WM.signN v b = rn
  generalize he : WM.signE v b = re
  have HN := Lib.hid hn
  have HE := Lib.hid he
  clear hn he hd
  by_cases c0 : v = 0
  · subst c0
    cases b
    · go_enter Try.func67, Try.ntmps67
      go_wp2_with fail
      refine HC.out.mono ?_
      rintro e w' ⟨rfl, rfl⟩
      go_wp2
      go_ret2
      exact ⟨by rw [← HN.out, ← HE.out]; rfl, rfl⟩
    · go_enter Try.func67, Try.ntmps67
      go_wp2_with fail
      refine HC.out.mono ?_
      rintro e w' ⟨rfl, rfl⟩
      go_wp2
      go_ret2
      exact ⟨by rw [← HN.out, ← HE.out]; rfl, rfl⟩
  · have d0 : (v == 0) = false := by simpa using c0
    by_cases c1 : v = 1152921504606846977
    · have d1 : (v == 1152921504606846977) = true := by simpa using c1
      have H1 : Hid (rn = 0 ∧ re = 3) := Lib.hid (by rw [← HN.out, ← HE.out, c1]; unfold WM.signN WM.signE WM.most; simp)
      clear c1
      go_enter Try.func67, Try.ntmps67
      go_wp2_with fail
      refine HC.out.mono ?_
      rintro e w' ⟨rfl, rfl⟩
      go_wp2
      go_ret2
      exact ⟨by rw [H1.out.1, H1.out.2]; rfl, rfl⟩
    · have d1 : (v == 1152921504606846977) = false := by simpa using c1
      have hm : ¬ WM.most < v := by unfold WM.most; omega
      cases b
      · have H1 : Hid (rn = v ∧ re = 0) := Lib.hid (by rw [← HN.out, ← HE.out]; unfold WM.signN WM.signE; simp [hm])
        clear hm
        go_enter Try.func67, Try.ntmps67
        go_wp2_with fail
        refine HC.out.mono ?_
        rintro e w' ⟨rfl, rfl⟩
        go_wp2
        go_ret2
        exact ⟨by rw [H1.out.1, H1.out.2]; rfl, rfl⟩
      · have H1 : Hid (rn = -v ∧ re = 0) := Lib.hid (by rw [← HN.out, ← HE.out]; unfold WM.signN WM.signE; simp [hm, c0])
        clear hm
        go_enter Try.func67, Try.ntmps67
        go_wp2_with fail
        refine HC.out.mono ?_
        rintro e w' ⟨rfl, rfl⟩
        go_wp2
        go_ret2
        exact ⟨by rw [H1.out.1, H1.out.2]; rfl, rfl⟩

theorem int_any (s : ByteArray) (w : World) (hs : s.size ≤ 9223372036854775807) :
    Calls Try.prog 56 #[.string s] w fun e w' => e = .returned (.tuple #[.int .i64 (WM.intN (L s)), .int .i64 (WM.intE (L s))]) ∧ ∃ n, w' = w.drewN n := by
  have HC := Lib.hid (cutSign_any s w hs)
  generalize hn : WM.intN (L s) = rn
  generalize he : WM.intE (L s) = re
  have HN := Lib.hid hn
  have HE := Lib.hid he
  clear hn he
  go_enter Try.func56, Try.ntmps56
  go_wp2_with fail
  refine HC.out.mono ?_
  rintro e w' ⟨t, rfl, h1, h2, m, rfl⟩
  have h3 : t.size ≤ 9223372036854775807 := by omega
  have H1 := Lib.hid h1
  clear h1
  cases hd : WM.digits (L t)
  · have HD := Lib.hid hd
    go_wp2_with fail
    refine (isWhole_any t _ h3).mono ?_
    rintro e w' ⟨rfl, rfl⟩
    go_wp2
    go_ret2
    exact ⟨by rw [← HN.out, ← HE.out]; unfold WM.intN WM.intE; rw [← H1.out, HD.out]; rfl, m, rfl⟩
  · have HD := Lib.hid hd
    go_wp2_with fail
    refine (isWhole_any t _ h3).mono ?_
    rintro e w' ⟨rfl, rfl⟩
    go_wp2_with fail
    refine (number_any _ t _ h3 (WM.digits_all HD.out)).mono ?_
    rintro e w' ⟨rfl, rfl⟩
    go_wp2
    go_ret2
    exact ⟨by rw [← HN.out, ← HE.out]; unfold WM.intN WM.intE; rw [← H1.out, HD.out]; rfl, m, rfl⟩

/-! the reference's -/
set_option maxHeartbeats 1000000 in
theorem rdigits_any (s : ByteArray) (w : World) (hs : s.size ≤ 9223372036854775807) :
    Calls Try.prog 57 #[.string s] w fun e w' => e = .returned (.bool (WM.digits (L s))) ∧ w = w' := by
  generalize hv : WM.digits (L s) = v
  have HV := Lib.hid hv
  clear hv
  go_enter Try.func57, Try.ntmps57
  go_wp2
  go_loop [3] (fun i => ∃ k : Nat, k ≤ s.size ∧ i = .int .i64 k ∧ Hid (((L s).take k).all WM.dig = true)) (fun i => s.size - (intOf i).toNat)
  case atStart => exact ⟨0, by omega, rfl, Lib.hid rfl⟩
  case round =>
    obtain ⟨k, hk, rfl, HA⟩ := hrel
    by_cases hlt : k < s.size
    · cases hd : WM.dig s[k]
      · have HN := all_not hlt hd
        have HN : Hid (v = false) := Lib.hid (by rw [← HV.out]; unfold WM.digits; rw [HN]; rfl)
        rcases WM.dig_false.1 hd with h | h
        · go_wp2
          go_ret
          exact ⟨by rw [HN.out]; rfl, rfl⟩
        · go_wp2
          go_ret
          exact ⟨by rw [HN.out]; rfl, rfl⟩
      · have HN := Lib.hid (all_step hlt HA.out hd)
        obtain ⟨d1, d2⟩ := WM.dig_true.1 hd
        go_wp2
        go_round
        case rel => exact ⟨k + 1, by omega, by go_num, HN⟩
        case measure => simp [intOf]; omega
    · obtain rfl : k = s.size := by omega
      have HE := HA.out
      rw [L_take_all] at HE
      have HE := Lib.hid HE
      by_cases h0 : s.size = 0
      · have HN : Hid (v = false) := Lib.hid (by rw [← HV.out, L_nil h0]; rfl)
        have e1 : ((s.size : Int) == 1) = false := by simp; omega
        have e2 : decide (1 < (s.size : Int)) = false := by simp; omega
        go_wp2
        go_ret
        exact ⟨by rw [HN.out]; rfl, rfl⟩
      · have hp : 0 < s.size := by omega
        have HD := WM.digits_def (l := L s) (by rw [L_len]; exact hp)
        rw [L_head s hp, L_len, HV.out, HE.out] at HD
        by_cases h1 : s.size = 1
        · have HN : Hid (v = true) := Lib.hid (by rw [HD, h1]; simp)
          have e1 : ((s.size : Int) == 1) = true := by simp; omega
          clear HD h1
          go_wp2
          go_ret
          exact ⟨by rw [HN.out]; rfl, rfl⟩
        · have e1 : ((s.size : Int) == 1) = false := by simp; omega
          have e2 : 1 < s.size := by omega
          have e3 : decide (1 < s.size) = true := by simpa using e2
          rw [e3] at HD
          clear e3
          have HN : Hid (v = ((s[0].toNat : Int) != 48)) := Lib.hid (by
            rw [HD]
            rw [Bool.eq_iff_iff]
            simp only [Bool.and_true, Bool.not_eq_true', beq_eq_false_iff_ne, ne_eq, bne_iff_ne]
            constructor
            · intro h h'
              exact h (UInt8.toNat_inj.1 (by have : (48 : UInt8).toNat = 48 := rfl; omega))
            · intro h h'
              exact h (by rw [h']; rfl))
          clear HD
          go_wp2
          all_goals
            go_ret
            exact ⟨by rw [HN.out]; first | rfl | simp_all, rfl⟩
end Go.Proofs.Ytiohainnpjikpaa
