/- Contracts of layer 11: May, Find, Account. -/
import Derived.Test.YtlnllbcpbohahabMemK
namespace Go.Proofs.Ytlnllbcpbohahab
open Go.RowKit Go.Recs
set_option linter.unusedVariables false
set_option linter.unusedSimpArgs false

theorem my_none {l : List MM.Mem} {n a : ByteArray} {act : Int} (h : MM.pl l n = none) : MM.mayE l n a act = 20 := by unfold MM.mayE; rw [h]
theorem my_acc {l : List MM.Mem} {n a : ByteArray} {act : Int} {i : Nat} (h : MM.pl l n = some i) (h2 : (MM.pa (MM.mAt l i).accs a).isSome = false) : MM.mayE l n a act = 21 := by
  unfold MM.mayE; rw [h]
  cases e : MM.pa (MM.mAt l i).accs a with
  | none => simp [e]
  | some j => rw [e] at h2; cases h2
theorem my_state {l : List MM.Mem} {n a : ByteArray} {act : Int} {i : Nat} (h : MM.pl l n = some i) (h2 : (MM.pa (MM.mAt l i).accs a).isSome = true) : MM.mayE l n a act = if MM.allows (MM.mAt l i).status act = true then 0 else 13 := by
  unfold MM.mayE; rw [h]
  cases e : MM.pa (MM.mAt l i).accs a with
  | none => rw [e] at h2; cases h2
  | some j => simp [e]

set_option maxHeartbeats 8000000 in
theorem mmay_any (A : Option Addr) (l : List MM.Mem) (cap : Nat) (n a : ByteArray) (act : Int) (w : World) (hI : Mems w A l) :
    Calls Try.prog 6 #[.slice A l.length cap, keyA n a, .int .i64 act] w fun e w' => e = .returned (.int .i64 (MM.mayE l n a act)) ∧ Below w.heap.size w w' := by
  have hlen := hI.len
  have HB0 := Lib.hid ((Below.refl w.heap.size w).alloc (Nat.le_refl _) (.cells (keyC n a) 34))
  have HG0 := Lib.hid (CB.new w 34 (keyC n a))
  have HI := Lib.hid (hI.below HB0.out)
  have C2 := Lib.hid (fun ww h => mpl_any A l cap n ww h)
  clear hI
  cases hp : MM.pl l n with
  | none =>
    rw [my_none hp]
    rw [hp] at C2
    have ex : plN none l.length = (l.length : Int) := rfl
    rw [ex] at C2
    clear hp ex
    go_enter Try.func6, Try.ntmps6
    go_wp2_with fail
    refine (C2.out _ HI.out).mono ?_
    rintro e w2 ⟨rfl, b2⟩
    have HB2 := Lib.hid (HB0.out.trans (b2.mono HB0.out.size))
    clear b2
    go_wp2_with fail
    go_ret
    exact ⟨rfl, HB2.out⟩
  | some i =>
    obtain ⟨hi, -⟩ := MM.pl_some hp
    have K1 := Lib.hid (@my_acc l n a act i hp); have K2 := Lib.hid (@my_state l n a act i hp)
    rw [hp] at C2
    have ex : plN (some i) l.length = (i : Int) := rfl
    rw [ex] at C2
    clear hp ex
    generalize MM.mayE l n a act = r at *
    go_enter Try.func6, Try.ntmps6
    go_wp2_with fail
    generalize w.alloc (.cells #[.string n, .string a] 34) = w0 at *
    refine (C2.out _ HI.out).mono ?_
    rintro e w2 ⟨rfl, b2⟩
    have HB2 := Lib.hid (HB0.out.trans (b2.mono HB0.out.size))
    have HG2 := Lib.hid (HG0.out.below b2 HG0.out.lt)
    have HI2 := Lib.hid (HI.out.below b2)
    clear b2 HB0 HG0 C2
    obtain ⟨b, off, A', cap', m, rfl, hb, HV, q1, q2, q3, q4, d0, d1, d2⟩ := HI2.out.get hi
    rw [HV.out] at K1 K2
    have C3 := Lib.hid (fun ww h => apl_any A' m.accs cap' a ww h)
    have C4 := Lib.hid (fun ww => allows_any m.status act ww)
    have HQ3 := Lib.hid q3
    have c1 : w2.cell? ⟨w.heap.size, 1, none⟩ = some (.string a) := HG2.out.cell 1
    generalize (MM.pa m.accs a).isSome = y at *
    generalize plN (MM.pa m.accs a) m.accs.length = x at *
    generalize MM.allows m.status act = lb at *
    have HD : Hid (∀ ww, Below w2.heap.size w2 ww → ww.cell? ⟨b, off + i * 3 + 1, none⟩ = some (.int .i64 m.status)) := Lib.hid (fun ww h => (h.cell (p := ⟨b, off + i * 3 + 1, none⟩) hb).trans d1)
    clear q1 q2 q3 q4 d0
    go_wp2_with fail
    go_region_with (go_at_call 11; refine (C3.out _ (HQ3.out.below (Below.refl _ _).drew)).mono ?_; rintro e w3 ⟨rfl, b3⟩)
    all_goals (
      have HB3 : Hid (Below w.heap.size w w3) := Lib.hid (HB2.out.drew.trans (b3.mono HB2.out.drew.size))
      have b3' : Below w2.heap.size w2 w3 := (Below.refl _ _).drew.trans b3
      have e1 := HD.out w3 b3'
      clear b3 b3' d1 d2 c1
      cases y
      · have HX := Lib.hid (K1.out (by trivial))
        go_wp2_with fail
        go_ret
        exact ⟨by rw [HX.out] <;> rfl, HB3.out⟩
      · have HX := Lib.hid (K2.out (by trivial))
        go_wp2_with fail
        refine (C4.out _).mono ?_
        rintro e w4 ⟨rfl, rfl⟩
        cases lb
        · go_wp2_with fail
          go_ret
          exact ⟨by rw [HX.out] <;> rfl, HB3.out⟩
        · go_wp2_with fail
          go_ret
          exact ⟨by rw [HX.out] <;> rfl, HB3.out⟩)

/-! the reference: place, Find, Account, May -/
def rpN : Option Nat → Int
  | some k => k
  | none => -1
theorem mem_under : Try.prog.underlying 29 = some (.struct (Try.prog.fieldsOf 29)) := by kernel_rfl
theorem mem_size : (Try.prog.info? 29).map (·.size) = some 3 := by kernel_rfl
theorem results_mem {fn : Func} {p u : Tmp} (h : fn.results = #[.cell p 29, .tmp u]) (tmps : Array Value) (w : World) (g : Nat) (m : MM.Mem) (A : Option Addr) (cap : Nat)
    (hp : tmps.getD p undef = .pointer (some ⟨g, 0, none⟩)) (hb : CB w g 29 (memC m A cap)) : (results fn tmps).run Try.prog w = .ok (.tuple #[memA m A cap, tmps.getD u undef]) w := by
  rw [results_cell_tmp h, hp]
  simp only [asAddr, Sem.run_pure, Result.andThen_ok]
  rw [run_loadVar_row w g 29 29 _ (0, 0) _ hb mem_under rfl mem_size]
  rfl
theorem acc_under : Try.prog.underlying 26 = some (.struct (Try.prog.fieldsOf 26)) := by kernel_rfl
theorem acc_size : (Try.prog.info? 26).map (·.size) = some 2 := by kernel_rfl
theorem results_acc {fn : Func} {p u : Tmp} (h : fn.results = #[.cell p 26, .tmp u]) (tmps : Array Value) (w : World) (g : Nat) (a : MM.Ac)
    (hp : tmps.getD p undef = .pointer (some ⟨g, 0, none⟩)) (hb : CB w g 26 (accC a)) : (results fn tmps).run Try.prog w = .ok (.tuple #[accA a, tmps.getD u undef]) w := by
  rw [results_cell_tmp h, hp]
  simp only [asAddr, Sem.run_pure, Result.andThen_ok]
  rw [run_loadVar_row w g 26 26 _ (0, 0) _ hb acc_under rfl acc_size]
  rfl
/-- what Find gives: a member whose accounts can be read -/
def zeroM : MM.Mem := ⟨MM.nil, 0, []⟩
def foundM (l : List MM.Mem) (n : ByteArray) : MM.Mem := match MM.pl l n with
  | some k => MM.mAt l k
  | none => zeroM

theorem CB.put3 {w : World} {g : Nat} {t : TypeId} {x0 x1 x2 y0 y1 y2 : Value} (h : CB w g t #[x0, x1, x2]) : CB (((w.setCell ⟨g, 0, none⟩ y0).setCell ⟨g, 1, none⟩ y1).setCell ⟨g, 2, none⟩ y2) g t #[y0, y1, y2] := by
  have := ((h.set_ 0 y0).set_ 1 y1).set_ 2 y2
  simpa using this
theorem CB.put2 {w : World} {g : Nat} {t : TypeId} {x0 x1 y0 y1 : Value} (h : CB w g t #[x0, x1]) : CB ((w.setCell ⟨g, 0, none⟩ y0).setCell ⟨g, 1, none⟩ y1) g t #[y0, y1] := by
  have := (h.set_ 0 y0).set_ 1 y1
  simpa using this

end Go.Proofs.Ytlnllbcpbohahab
