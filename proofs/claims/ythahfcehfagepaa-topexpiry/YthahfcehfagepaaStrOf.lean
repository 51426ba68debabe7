/- Strings out of bytes. -/
import Derived.Test.YthahfcehfagepaaTxt
import Derived.Lib.AppendStr
import Derived.Maps.AppendAt
import Derived.OwnWalk
namespace Go.Proofs.Ythahfcehfagepaa
open Go.RowKit

theorem lit_bytes (w : World) (cs : List UInt8) (fr : Nat × Nat) (hl : cs.length ≤ maxLen) : Bytes (w.alloc (.cells (cs.map byteV).toArray 5 fr)) (some ⟨w.heap.size, 0, none⟩) cs := by
  refine ⟨by rw [List.length_map]; exact hl, .inr ⟨w.heap.size, 0, rfl, by simp, fun i hi => ?_⟩⟩
  rw [Nat.zero_add, World.cell?_alloc_mark]
  simp

/-- 'string(b)' -/
theorem str_of {w : World} {A : Option Addr} {l : List UInt8} (h : Bytes w A l) (cap : Nat) : (convert 68 9 (.slice A l.length cap)).run Try.prog w = .ok (.string (S l)) w := by
  cases A with
  | none =>
    have : l = [] := by
      rcases h.2 with h0 | ⟨b, off, e, _⟩
      · simpa using h0
      · cases e
    subst this
    rw [run_convert_bytes_string w 68 9 5 none _ cap Try.underlying68 Try.underlying5 Try.underlying9]
    rfl
  | some ad =>
    refine run_convert_bytes_back w 68 9 5 ad cap l Try.underlying68 Try.underlying5 Try.underlying9 ?_
    intro j hj
    rcases h.2 with h0 | ⟨b, off, e, hb, hcell⟩
    · have : l = [] := by simpa using h0
      subst this
      simp at hj
    · injection e with e
      subst e
      have e : (⟨b, off, none⟩ : Addr).add j = ⟨b, off + j, none⟩ := by
        unfold Addr.add
        by_cases h0 : j = 0
        · subst h0; simp
        · simp [h0]
      rw [e, hcell j (by simpa using hj)]
      simp [List.getElem?_eq_getElem hj, byteV]
end Go.Proofs.Ythahfcehfagepaa
