/- A law's arguments: members in slices, a name of an account by value, turns. -/
import Derived.Test.YtlnllbcpbohahaaBun3
import Derived.ProofKit
import Derived.OpenShut
import Derived.ShutString
import Derived.ChangeOld
namespace Go.Proofs.Ytlnllbcpbohahaa
open Go.ChangeShapes Go.WideShapes Go.ChangeAt Go.RowKit Go.Recs
set_option linter.unusedVariables false
set_option maxRecDepth 100000

theorem acc_leafs : leafs Try.prog 2 36 = some accL := by kernel_rfl
theorem accs_cells {H : Type} {enc : TypeId × Value → H} {W : World} {base : Nat} {spare : Nat → Bool} {held : Bool} {k : Nat} {cs : List Value} {y : DataW H × List MemPlace}
    (h : DataW.trod enc Try.prog W base spare held k 30 cs = some y) : ∃ A cap, ∃ l : List MM.Ac, cs = [.slice A l.length cap] ∧ Accs W A l ∧ l.length ≤ cap ∧ ∃ ds sp, (y.1 = .nil ∧ l = [] ∨ y.1 = .slice ds sp) ∧ ds.length = l.length := by
  obtain ⟨A, cap, rows, rfl, hR, hc, ds, sp, h1, h2, h3⟩ := open_rows (sz := 2) (R := fun r _ => okAll accL r) Try.underlying30 (by kernel_rfl) (by omega) (fun k cs y hl hy => leafs_ok 2 _ accL acc_leafs k cs y hl hy) h
  have hall : ∀ r ∈ rows, okAll accL r := by
    intro r hr
    obtain ⟨i, hi, rfl⟩ := List.mem_iff_getElem.1 hr
    have := h3 i hi
    simpa [List.getD, hi] using this
  obtain ⟨l, rfl, hq⟩ := typed (ls := accL) accV _ acc_row rows hall
  rw [List.length_map] at hc h2 ⊢
  refine ⟨A, cap, l, rfl, ⟨hR, hq⟩, hc, ds, sp, ?_, h2⟩
  rcases h1 with ⟨a, b⟩ | a
  · exact .inl ⟨a, by simpa using b⟩
  · exact .inr a
theorem mem_cells {H : Type} {enc : TypeId × Value → H} {W : World} {base : Nat} {spare : Nat → Bool} {held : Bool} (k : Nat) (cs : List Value) (y : DataW H × List MemPlace) (hl : cs.length = 3)
    (h : DataW.trod enc Try.prog W base spare held k 32 cs = some y) : ∃ r : MRow, cs = mrowV r ∧ mrowQ W r ∧ ∃ d0 d1 d2 ds sp, y.1 = .agg [d0, d1, d2] ∧ (d2 = .nil ∧ r.m.accs = [] ∨ d2 = .slice ds sp) ∧ ds.length = r.m.accs.length := by
  obtain ⟨xs, n, _, hxd, _, hxl, hf⟩ := DataW.trod_struct Try.underlying32 h
  have h0 := hf 0 _ rfl
  have h1 := hf 1 _ rfl
  have h2 := hf 2 _ rfl
  match xs, hxl with
  | [x0, x1, x2], _ =>
  match cs, hl with
  | [c0, c1, c2], _ =>
    have z9 : Try.prog.cellsOf 9 = 1 := by kernel_rfl
    have z3 : Try.prog.cellsOf 3 = 1 := by kernel_rfl
    have zs : Try.prog.cellsOf 30 = 1 := by kernel_rfl
    have h0' : DataW.trod enc Try.prog W base spare held n 9 ([c0, c1, c2].take (Try.prog.cellsOf 9)) = some x0 := h0
    have h1' : DataW.trod enc Try.prog W base spare held n 3 ([c1, c2].take (Try.prog.cellsOf 3)) = some x1 := h1
    have h2' : DataW.trod enc Try.prog W base spare held n 30 ([c2].take (Try.prog.cellsOf 30)) = some x2 := h2
    rw [z9] at h0'; rw [z3] at h1'; rw [zs] at h2'
    obtain ⟨s, hs, _, hs2⟩ := DataW.trod_string Try.underlying9 h0'
    obtain ⟨m, hm, _, hm2⟩ := DataW.trod_int Try.underlying3 h1'
    obtain ⟨A, cap, l, hc2, hA, hlc, ds, sp, hd, hdl⟩ := accs_cells h2'
    have e0 : c0 = .string s := by simpa using hs
    have e1 : c1 = .int .i64 m := by simpa using hm
    have e2 : c2 = .slice A l.length cap := by simpa using hc2
    subst e0 e1 e2
    refine ⟨⟨⟨s, m, l⟩, A, cap⟩, rfl, ⟨hs2, bounds_i64 hm2, hA, hlc⟩, x0.1, x1.1, x2.1, ds, sp, ?_, hd, hdl⟩
    rw [hxd]; rfl
theorem open_memT {H : Type} {enc : TypeId × Value → H} {W : World} {base b0 : Nat} {spare : Nat → Bool} {held : Bool} {r : Reach} {v : Value} {d : DataW H} {p : List MemPlace}
    (hv : Value.okWide Try.prog W r b0 22 v) (h : DataW.Trod enc Try.prog W base spare held 22 v d p) :
    ∃ A cap, ∃ l : List MM.Mem, v = .slice A l.length cap ∧ (Mems W A l ∧ l.length ≤ cap) ∧ True := by
  obtain ⟨a, len, cap0, rfl⟩ := okWide_slice Try.underlying22 hv
  obtain ⟨fuel, hf⟩ := h
  obtain ⟨A, cap, rows, e, hR, hc, ds, sp, h1, h2, h3⟩ := open_rows (sz := 3) (R := fun cs _ => ∃ r : MRow, cs = mrowV r ∧ mrowQ W r) Try.underlying22 (by kernel_rfl) (by omega) (fun k cs y hl hy => by
    obtain ⟨r, hr, hq, _⟩ := mem_cells k cs y hl hy
    exact ⟨r, hr, hq⟩) hf
  have hall : ∀ r ∈ rows, ∃ m : MRow, r = mrowV m ∧ mrowQ W m := by
    intro r hr
    obtain ⟨i, hi, rfl⟩ := List.mem_iff_getElem.1 hr
    have := h3 i hi
    simpa [List.getD, hi] using this
  have key : ∀ rs : List (List Value), (∀ r ∈ rs, ∃ m : MRow, r = mrowV m ∧ mrowQ W m) → ∃ ms : List MRow, rs = ms.map mrowV ∧ ∀ m ∈ ms, mrowQ W m := by
    intro rs
    induction rs with
    | nil => intro _; exact ⟨[], rfl, by simp⟩
    | cons r rs ih =>
      intro hh
      obtain ⟨m, e1, q1⟩ := hh r (by simp)
      obtain ⟨ms, e2, q2⟩ := ih (fun r' hr' => hh r' (by simp [hr']))
      refine ⟨m :: ms, by rw [List.map_cons, e1, e2], ?_⟩
      intro b hb
      rcases List.mem_cons.1 hb with rfl | hb
      · exact q1
      · exact q2 b hb
  obtain ⟨ms, rfl, hq⟩ := key rows hall
  simp [Value.cells] at e
  obtain ⟨rfl, rfl, rfl⟩ := e
  exact ⟨a, cap0, ms.map MRow.m, by simp, ⟨⟨ms, rfl, hR, hq⟩, by simpa using hc⟩, trivial⟩
def keyL : List Leaf := [.str, .str]
theorem key_leafs : leafs Try.prog 2 29 = some keyL := by kernel_rfl
theorem key_row (r : List Value) (h : okAll keyL r) : ∃ x : ByteArray × ByteArray, r = [.string x.1, .string x.2] ∧ x.1.size ≤ maxLen ∧ x.2.size ≤ maxLen := by
  obtain ⟨c0, r0, rfl, ⟨s, rfl, hs⟩, g0⟩ := okAll_cons h
  obtain ⟨c1, r1, rfl, ⟨t, rfl, ht⟩, g1⟩ := okAll_cons g0
  rw [okAll_nil g1]
  exact ⟨(s, t), rfl, hs, ht⟩
theorem open_keyV {H : Type} {enc : TypeId × Value → H} {W : World} {base b0 : Nat} {spare : Nat → Bool} {held : Bool} {r : Reach} {v : Value} {d : DataW H} {p : List MemPlace}
    (hv : Value.okWide Try.prog W r b0 29 v) (h : DataW.Trod enc Try.prog W base spare held 29 v d p) :
    ∃ x : ByteArray × ByteArray, v = .agg #[.string x.1, .string x.2] ∧ (x.1.size ≤ maxLen ∧ x.2.size ≤ maxLen) := by
  obtain ⟨cs, rfl, hk⟩ := open_rec (n := 2) Try.underlying29 key_leafs (by kernel_rfl) hv h
  obtain ⟨x, rfl, hq⟩ := key_row cs hk
  exact ⟨x, rfl, hq⟩
end Go.Proofs.Ytlnllbcpbohahaa
