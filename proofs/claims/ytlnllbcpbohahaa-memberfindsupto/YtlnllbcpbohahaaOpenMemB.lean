/- A law's arguments: members in slices, and how many accounts they have by the bulk. -/
import Derived.Test.YtlnllbcpbohahaaBun8
import Derived.Test.YtlnllbcpbohahaaBun9
namespace Go.Proofs.Ytlnllbcpbohahaa
open Go.ChangeShapes Go.WideShapes Go.ChangeAt Go.RowKit Go.Recs
set_option linter.unusedVariables false
set_option maxRecDepth 100000
theorem accsL_cons (m : MM.Mem) (l : List MM.Mem) : (MM.accsL (m :: l)).length = m.accs.length + (MM.accsL l).length := by simp [MM.accsL]
theorem bulk_accs {H : Type} : ∀ (ms : List MRow) (ds : List (DataW H)), ds.length = ms.length → (∀ i (h : i < ms.length), (ms[i]).m.accs.length ≤ Rows.uptoBulk (ds.getD i .nil)) → (MM.accsL (ms.map MRow.m)).length ≤ Rows.uptoBulkAll ds := by
  intro ms
  induction ms with
  | nil => intro ds _ _; simp [MM.accsL]
  | cons m ms ih =>
    intro ds hl h
    cases ds with
    | nil => simp at hl
    | cons d ds =>
      have h0 := h 0 (by simp)
      have h1 := ih ds (by simpa using hl) (fun i hi => by
        have := h (i + 1) (by simpa using hi)
        simpa using this)
      rw [List.map_cons, accsL_cons]
      simp only [Rows.uptoBulkAll]
      have h0' : m.m.accs.length ≤ Rows.uptoBulk d := by simpa using h0
      omega
theorem open_membT {H : Type} {enc : TypeId × Value → H} {W : World} {base b0 : Nat} {spare : Nat → Bool} {held : Bool} {r : Reach} {v : Value} {d : DataW H} {p : List MemPlace}
    (hv : Value.okWide Try.prog W r b0 22 v) (h : DataW.Trod enc Try.prog W base spare held 22 v d p) :
    ∃ A cap, ∃ l : List MM.Mem, v = .slice A l.length cap ∧ (Mems W A l ∧ l.length ≤ cap) ∧ (MM.accsL l).length ≤ Rows.uptoBulk d := by
  obtain ⟨a, len, cap0, rfl⟩ := okWide_slice Try.underlying22 hv
  obtain ⟨fuel, hf⟩ := h
  obtain ⟨A, cap, rows, e, hR, hc, ds, sp, h1, h2, h3⟩ := open_rows (sz := 3) (R := fun cs y => ∃ r : MRow, cs = mrowV r ∧ mrowQ W r ∧ r.m.accs.length ≤ Rows.uptoBulk y) Try.underlying22 (by kernel_rfl) (by omega) (fun k cs y hl hy => by
    obtain ⟨r, hr, hq, d0, d1, d2, ds, sp, hy1, hd, hdl⟩ := mem_cells k cs y hl hy
    refine ⟨r, hr, hq, ?_⟩
    rw [hy1]
    rcases hd with ⟨_, e⟩ | e
    · rw [e]; simp
    · rw [e, ← hdl]
      have := len_bulkAll ds
      simp only [Rows.uptoBulk, Rows.uptoBulkAll]
      omega) hf
  have key : ∀ (rs : List (List Value)) (es : List (DataW H)), es.length = rs.length → (∀ i, i < rs.length → ∃ m : MRow, rs.getD i [] = mrowV m ∧ mrowQ W m ∧ m.m.accs.length ≤ Rows.uptoBulk (es.getD i .nil)) → ∃ ms : List MRow, rs = ms.map mrowV ∧ (∀ m ∈ ms, mrowQ W m) ∧ ∀ i (h : i < ms.length), (ms[i]).m.accs.length ≤ Rows.uptoBulk (es.getD i .nil) := by
    intro rs
    induction rs with
    | nil => intro es _ _; exact ⟨[], rfl, by simp, fun i h => by simp at h⟩
    | cons r rs ih =>
      intro es hl hh
      cases es with
      | nil => simp at hl
      | cons x es =>
        obtain ⟨m, e1, q1, z1⟩ := hh 0 (by simp)
        obtain ⟨ms, e2, q2, z2⟩ := ih es (by simpa using hl) (fun i hi => by
          have := hh (i + 1) (by simpa using hi)
          simpa using this)
        have e1' : r = mrowV m := by simpa using e1
        refine ⟨m :: ms, by rw [List.map_cons, e1', e2], ?_, ?_⟩
        · intro b hb
          rcases List.mem_cons.1 hb with rfl | hb
          · exact q1
          · exact q2 b hb
        · intro i hi
          cases i with
          | zero => simpa using z1
          | succ i => simpa using z2 i (by simpa using hi)
  obtain ⟨ms, rfl, hq, hz⟩ := key rows ds h2 h3
  have hb := bulk_accs ms ds (by simpa using h2) hz
  have hd : (MM.accsL (ms.map MRow.m)).length ≤ Rows.uptoBulk d := by
    rcases h1 with ⟨e1, e2⟩ | e1
    · have : ms = [] := by simpa using e2
      rw [this]; simp [MM.accsL]
    · have e1' : d = .slice ds sp := e1
      rw [e1']
      simp only [Rows.uptoBulk]
      omega
  simp [Value.cells] at e
  obtain ⟨rfl, rfl, rfl⟩ := e
  exact ⟨a, cap0, ms.map MRow.m, by simp, ⟨⟨ms, rfl, hR, hq⟩, by simpa using hc⟩, hd⟩
end Go.Proofs.Ytlnllbcpbohahaa
