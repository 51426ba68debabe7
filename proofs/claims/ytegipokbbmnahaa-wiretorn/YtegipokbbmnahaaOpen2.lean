/- What a law's argument reads as: rows of bytes. -/
import Derived.Test.YtegipokbbmnahaaOpen
import Derived.Test.YtegipokbbmnahaaWireC
import Derived.Deep.Matrix
namespace Go.Proofs.Ytegipokbbmnahaa
open Go.ChangeShapes Go.WideShapes Go.ChangeAt Go.RowKit
set_option linter.unusedVariables false

section
variable {H : Type} {enc : TypeId × Value → H} {W : World} {base : Nat} {v : Value} {d : DataW H} {p : List MemPlace}

theorem bytes_row {a : Addr} {L C : Nat} {Z : List Int} (hl : L ≤ C) (hm : C ≤ maxLen) (hz : Z.length = C) (hwz : ∀ n ∈ Z, (Lit.int .u8 n).wf = true) (hcell : ∀ c, c < C → W.cell? (a.add c) = some (.int .u8 (Z.getD c 0))) :
    Bytes W (some a) ((Z.take L).map fun n => UInt8.ofNat n.toNat) := by
  have hv := Vals.of_row (w := W) (x := a) (len := L) (vs := Z.map (Value.int .u8)) (by rw [List.length_map]; omega) (fun i hi => by
    rw [List.length_map] at hi
    rw [hcell i (by omega), List.getElem?_map, List.getElem?_eq_getElem hi]
    simp [List.getD, List.getElem?_eq_getElem hi])
  unfold Bytes
  rw [List.map_map]
  have e : List.map (byteV ∘ fun n => UInt8.ofNat n.toNat) (Z.take L) = (Z.map (Value.int .u8)).take L := by
    rw [← List.map_take]
    apply List.map_congr_left
    intro n hn
    exact byte_of (hwz n (List.mem_of_mem_take hn))
  rw [e]; exact hv

theorem open_bytessT (hval : Value.okWide Try.prog W .any base 61 v) (h : DataW.Trod enc Try.prog W 0 (fun _ => true) true 61 v d p) :
    ∃ A cap qs, v = .slice A (List.length qs) cap ∧ Pcs W A qs ∧ True := by
  obtain ⟨a, len, cap, rfl⟩ := okWide_slice Try.underlying61 hval
  obtain ⟨fuel, hf⟩ := h
  rcases Deep.open_int_rows Try.underlying61 Try.underlying40 Try.underlying5 (by kernel_rfl) (by kernel_rfl) hf with ⟨hcs, _⟩ | ⟨x, l, c, A, L, C, Z, hcs, _, hl, hm, _, hrow⟩
  · simp [Value.cells] at hcs
    obtain ⟨rfl, rfl, rfl⟩ := hcs
    exact ⟨none, 0, [], rfl, ⟨⟨Nat.zero_le _, .inl rfl⟩, by simp⟩, trivial⟩
  · simp [Value.cells] at hcs
    obtain ⟨rfl, rfl, rfl⟩ := hcs
    let f : Nat → Pc := fun r => ⟨A r, ((Z r).take (L r)).map fun n => UInt8.ofNat n.toNat, C r⟩
    have hlen : ((List.range len).map f).length = len := by simp
    have hval : ∀ r, r < cap → (f r).val = .slice (A r) (L r) (C r) := by
      intro r hr
      obtain ⟨_, h1, h2, h3, _⟩ := hrow r hr
      show Value.slice (A r) (((Z r).take (L r)).map fun n => UInt8.ofNat n.toNat).length (C r) = _
      rw [List.length_map, List.length_take, show min (L r) (Z r).length = L r by omega]
    refine ⟨some x, cap, (List.range len).map f, by rw [hlen], ⟨?_, ?_⟩, trivial⟩
    · have hv := Vals.of_row (w := W) (x := x) (len := len) (vs := ((List.range len).map f).map Pc.val) (by simp; omega) (fun i hi => by
        have hi' : i < len := by simpa using hi
        rw [(hrow i (by omega)).1, List.getElem?_map, List.getElem?_map, List.getElem?_range hi']
        show _ = some (f i).val
        rw [hval i (by omega)])
      rw [List.take_of_length_le (by simp)] at hv
      exact hv
    · intro q hq
      obtain ⟨r, hr, rfl⟩ := List.mem_map.1 hq
      have hr' := List.mem_range.1 hr
      obtain ⟨_, h1, h2, h3, h4, h5, h6⟩ := hrow r (by omega)
      show Bytes W (A r) (((Z r).take (L r)).map fun n => UInt8.ofNat n.toNat)
      cases hA : A r with
      | none =>
        have := h5 hA
        rw [show L r = 0 by omega, List.take_zero]
        exact Bytes.nil _ _
      | some a' => exact bytes_row h1 h2 h3 h4 (h6 a' hA).2
end
end Go.Proofs.Ytegipokbbmnahaa
