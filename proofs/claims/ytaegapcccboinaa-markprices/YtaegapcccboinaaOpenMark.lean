/- A law's arguments: a quote by value. -/
import Derived.Test.YtaegapcccboinaaBun11
import Derived.Test.YtaegapcccboinaaBun12
import Derived.Test.YtaegapcccboinaaBun8
namespace Go.Proofs.Ytaegapcccboinaa
open Go.ChangeShapes Go.WideShapes Go.ChangeAt Go.RowKit Go.Recs
set_option linter.unusedVariables false
set_option maxRecDepth 100000
theorem ticks_cells {H : Type} {enc : TypeId × Value → H} {W : World} {base : Nat} {spare : Nat → Bool} {held : Bool} {k : Nat} {cs : List Value} {y : DataW H × List MemPlace}
    (h : DataW.trod enc Try.prog W base spare held k 22 cs = some y) : ∃ A cap, ∃ l : List TP.Tick, cs = [.slice A l.length cap] ∧ Ticks W A l := by
  obtain ⟨A, cap, rows, rfl, hR, hc, ds, sp, h1, h2, h3⟩ := open_rows (sz := 3) (R := fun r _ => okAll tickL r) Try.underlying22 (by kernel_rfl) (by omega) (fun k cs y hl hy => leafs_ok 2 _ tickL tick_leafs k cs y hl hy) h
  have hall : ∀ r ∈ rows, okAll tickL r := by
    intro r hr
    obtain ⟨i, hi, rfl⟩ := List.mem_iff_getElem.1 hr
    have := h3 i hi
    simpa [List.getD, hi] using this
  obtain ⟨l, rfl, hq⟩ := typed (ls := tickL) tickV _ tick_row rows hall
  rw [List.length_map] at hc h2 ⊢
  exact ⟨A, cap, l, rfl, hR, hq⟩
theorem open_quoteV {H : Type} {enc : TypeId × Value → H} {W : World} {base b0 : Nat} {spare : Nat → Bool} {held : Bool} {r : Reach} {v : Value} {d : DataW H} {p : List MemPlace}
    (hv : Value.okWide Try.prog W r b0 44 v) (h : DataW.Trod enc Try.prog W base spare held 44 v d p) :
    ∃ A cap, ∃ q : MK.Quote, v = .agg #[.slice A q.ticks.length cap, .int .i64 q.from_, .int .i64 q.to_, .int .i64 q.least, .int .i64 q.bid, .int .i64 q.ask, .int .i64 q.before, .int .i64 q.move] ∧ (Ticks W A q.ticks ∧ quoteQ q) := by
  have ht := Try.underlying44
  have hz : Try.prog.cellsOf 44 = 8 := by kernel_rfl
  obtain ⟨cs, rfl, hs, _⟩ : ∃ cs, v = .agg cs ∧ cs.size = Try.prog.cellsOf 44 ∧ Row.okWide Try.prog W r b0 44 cs := by
    simpa [Value.okWide, ht] using hv
  obtain ⟨fuel, hf⟩ := h
  have hf' : DataW.trod enc Try.prog W base spare held fuel 44 cs.toList = some _ := hf
  obtain ⟨xs, n, _, hxd, _, hxl, hfl⟩ := DataW.trod_struct ht hf'
  have z3 : Try.prog.cellsOf 3 = 1 := by kernel_rfl
  have zs : Try.prog.cellsOf 22 = 1 := by kernel_rfl
  obtain ⟨cl, hcl⟩ : ∃ cl : List Value, cs.toList = cl := ⟨_, rfl⟩
  have hl8 : cl.length = 8 := by rw [← hcl]; simp; omega
  obtain rfl : cs = cl.toArray := by rw [← hcl]
  have h0 := hfl 0 _ rfl
  have h1 := hfl 1 _ rfl
  have h2 := hfl 2 _ rfl
  have h3 := hfl 3 _ rfl
  have h4 := hfl 4 _ rfl
  have h5 := hfl 5 _ rfl
  have h6 := hfl 6 _ rfl
  have h7 := hfl 7 _ rfl
  match xs, hxl with
  | [x0, x1, x2, x3, x4, x5, x6, x7], _ =>
  match cl, hl8 with
  | [c0, c1, c2, c3, c4, c5, c6, c7], _ =>
    have h0' : DataW.trod enc Try.prog W base spare held n 22 ([c0, c1, c2, c3, c4, c5, c6, c7].take (Try.prog.cellsOf 22)) = some x0 := h0
    have h1' : DataW.trod enc Try.prog W base spare held n 3 ([c1, c2, c3, c4, c5, c6, c7].take (Try.prog.cellsOf 3)) = some x1 := h1
    have h2' : DataW.trod enc Try.prog W base spare held n 3 ([c2, c3, c4, c5, c6, c7].take (Try.prog.cellsOf 3)) = some x2 := h2
    have h3' : DataW.trod enc Try.prog W base spare held n 3 ([c3, c4, c5, c6, c7].take (Try.prog.cellsOf 3)) = some x3 := h3
    have h4' : DataW.trod enc Try.prog W base spare held n 3 ([c4, c5, c6, c7].take (Try.prog.cellsOf 3)) = some x4 := h4
    have h5' : DataW.trod enc Try.prog W base spare held n 3 ([c5, c6, c7].take (Try.prog.cellsOf 3)) = some x5 := h5
    have h6' : DataW.trod enc Try.prog W base spare held n 3 ([c6, c7].take (Try.prog.cellsOf 3)) = some x6 := h6
    have h7' : DataW.trod enc Try.prog W base spare held n 3 ([c7].take (Try.prog.cellsOf 3)) = some x7 := h7
    rw [zs] at h0'; rw [z3] at h1' h2' h3' h4' h5' h6' h7'
    obtain ⟨A, cap, l, hc0, hT⟩ := ticks_cells h0'
    obtain ⟨m1, hm1, _, q1⟩ := DataW.trod_int Try.underlying3 h1'
    obtain ⟨m2, hm2, _, q2⟩ := DataW.trod_int Try.underlying3 h2'
    obtain ⟨m3, hm3, _, q3⟩ := DataW.trod_int Try.underlying3 h3'
    obtain ⟨m4, hm4, _, q4⟩ := DataW.trod_int Try.underlying3 h4'
    obtain ⟨m5, hm5, _, q5⟩ := DataW.trod_int Try.underlying3 h5'
    obtain ⟨m6, hm6, _, q6⟩ := DataW.trod_int Try.underlying3 h6'
    obtain ⟨m7, hm7, _, q7⟩ := DataW.trod_int Try.underlying3 h7'
    have e0 : c0 = .slice A l.length cap := by simpa using hc0
    have e1 : c1 = .int .i64 m1 := by simpa using hm1
    have e2 : c2 = .int .i64 m2 := by simpa using hm2
    have e3 : c3 = .int .i64 m3 := by simpa using hm3
    have e4 : c4 = .int .i64 m4 := by simpa using hm4
    have e5 : c5 = .int .i64 m5 := by simpa using hm5
    have e6 : c6 = .int .i64 m6 := by simpa using hm6
    have e7 : c7 = .int .i64 m7 := by simpa using hm7
    subst e0 e1 e2 e3 e4 e5 e6 e7
    exact ⟨A, cap, ⟨l, m1, m2, m3, m4, m5, m6, m7⟩, rfl, hT, bounds_i64 q1, bounds_i64 q2, bounds_i64 q3, bounds_i64 q4, bounds_i64 q5, bounds_i64 q6, bounds_i64 q7⟩
end Go.Proofs.Ytaegapcccboinaa
