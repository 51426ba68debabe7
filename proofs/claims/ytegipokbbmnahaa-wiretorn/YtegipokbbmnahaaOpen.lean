/- What the laws' arguments read as: bytes, texts, lists of texts. -/
import Derived.Test.YtegipokbbmnahaaBuf
import Derived.Test.YtegipokbbmnahaaCatMath
import Derived.Test.YtegipokbbmnahaaWordsF
import Derived.Test.YtegipokbbmnahaaUpto
import Derived.Deep.Strs
import Derived.SizedLaws
namespace Go.Proofs.Ytegipokbbmnahaa
open Go.ChangeShapes Go.WideShapes Go.ChangeAt Go.RowKit
set_option linter.unusedVariables false

section
variable {H : Type} {enc : TypeId × Value → H} {W : World} {base : Nat} {v : Value} {d : DataW H} {p : List MemPlace}

theorem byte_of {n : Int} (h : (Lit.int .u8 n).wf = true) : byteV (UInt8.ofNat n.toNat) = .int .u8 n := by
  have hb := bounds_u8 h
  unfold byteV
  rw [UInt8.toNat_ofNat', show ((n.toNat % 2 ^ 8 : Nat) : Int) = n by omega]

theorem len_lits {k : IntKind} (a b : List Int) : a.length ≤ Rows.uptoBulk (DataW.slice (H := H) (lits k a) (lits k b)) := by
  have h := len_bulkAll (H := H) (lits k a)
  have e : (lits (H := H) k a).length = a.length := by simp [lits]
  simp only [Rows.uptoBulk]
  omega

theorem open_bytesT (hval : Value.okWide Try.prog W .any base 40 v) (h : DataW.Trod enc Try.prog W 0 (fun _ => true) true 40 v d p) :
    ∃ A cap l, v = .slice A (List.length l) cap ∧ Bytes W A l ∧ l.length ≤ Rows.uptoBulk d := by
  obtain ⟨a, len, cap, rfl⟩ := okWide_slice Try.underlying40 hval
  obtain ⟨fuel, hf⟩ := h
  rcases open_ints Try.underlying40 Try.underlying5 (by kernel_rfl) hf with ⟨hcs, _⟩ | ⟨x, l, c, zs, hcs, _, hl, hm, hz, hdat, hcell, hwz⟩
  · simp [Value.cells] at hcs
    obtain ⟨rfl, rfl, rfl⟩ := hcs
    exact ⟨none, 0, [], rfl, Bytes.nil _ _, Nat.zero_le _⟩
  · simp [Value.cells] at hcs
    obtain ⟨rfl, rfl, rfl⟩ := hcs
    simp only [if_true] at hz
    simp only [Prod.mk.injEq] at hdat
    have hlen : ((zs.take len).map fun n => UInt8.ofNat n.toNat).length = len := by simp; omega
    refine ⟨some x, cap, (zs.take len).map fun n => UInt8.ofNat n.toNat, by rw [hlen], ?_, ?_⟩
    · have hv := Vals.of_row (w := W) (x := x) (len := len) (vs := zs.map (Value.int .u8)) (by rw [List.length_map]; omega) (fun i hi => by
        rw [List.length_map] at hi
        rw [hcell i hi, List.getElem?_map, List.getElem?_eq_getElem hi]
        simp [List.getD, List.getElem?_eq_getElem hi])
      unfold Bytes
      rw [List.map_map]
      have e : List.map (byteV ∘ fun n => UInt8.ofNat n.toNat) (zs.take len) = (zs.map (Value.int .u8)).take len := by
        rw [← List.map_take]
        apply List.map_congr_left
        intro n hn
        exact byte_of (hwz n (List.mem_of_mem_take hn))
      rw [e]; exact hv
    · rw [hlen, hdat.1]
      have := len_lits (H := H) (k := .u8) (zs.take len) (zs.drop len)
      rw [List.length_take] at this
      omega

theorem open_bytescT (hval : Value.okWide Try.prog W .any base 40 v) (h : DataW.Trod enc Try.prog W 0 (fun _ => true) true 40 v d p) :
    ∃ A cap l, v = .slice A (List.length l) cap ∧ Bytes W A l ∧ l.length ≤ cap := by
  obtain ⟨A, cap, l, rfl, hb, _⟩ := open_bytesT hval h
  refine ⟨A, cap, l, rfl, hb, ?_⟩
  obtain ⟨fuel, hf⟩ := h
  rcases open_ints Try.underlying40 Try.underlying5 (by kernel_rfl) hf with ⟨hcs, _⟩ | ⟨x, l', c, zs, hcs, _, hl, _⟩
  · simp [Value.cells] at hcs
    rw [hcs.2.1]; simp
  · simp [Value.cells] at hcs
    omega

theorem bulk_strs (ls : List ByteArray) (r : List (DataW H)) : WM.tl 1 (sizes ls) ≤ Rows.uptoBulk (DataW.slice (H := H) (ls.map fun s => .lit (.string s.data.toList)) r) := by
  have key : WM.tl 1 (sizes ls) ≤ Rows.uptoBulkAll (H := H) (ls.map fun s => .lit (.string s.data.toList)) := by
    induction ls with
    | nil => simp [sizes, WM.tl]
    | cons s ls ih =>
      have e : WM.tl 1 (sizes (s :: ls)) = s.size + 1 + WM.tl 1 (sizes ls) := by simp [sizes, WM.tl]
      have e2 : s.data.toList.length = s.size := Array.length_toList
      rw [e, List.map_cons]
      simp only [Rows.uptoBulkAll, Rows.uptoBulk, e2]
      omega
  simp only [Rows.uptoBulk]
  omega

theorem open_strsT (hval : Value.okWide Try.prog W .any base 31 v) (h : DataW.Trod enc Try.prog W 0 (fun _ => true) true 31 v d p) :
    ∃ A cap ls, v = .slice A (List.length ls) cap ∧ Strs W A ls ∧ WM.tl 1 (sizes ls) ≤ Rows.uptoBulk d := by
  obtain ⟨a, len, cap, rfl⟩ := okWide_slice Try.underlying31 hval
  obtain ⟨fuel, hf⟩ := h
  rcases Deep.open_strs Try.underlying31 Try.underlying9 (by kernel_rfl) hf with ⟨hcs, _⟩ | ⟨x, l, c, m, Sx, hcs, _, hl, hm, hmm, hdat, hcell⟩
  · simp [Value.cells] at hcs
    obtain ⟨rfl, rfl, rfl⟩ := hcs
    exact ⟨none, 0, [], rfl, Strs.nil _ _, by simp [sizes, WM.tl]⟩
  · simp [Value.cells] at hcs
    obtain ⟨rfl, rfl, rfl⟩ := hcs
    simp only [if_true] at hmm
    simp only [Prod.mk.injEq] at hdat
    have hlen : ((List.range len).map Sx).length = len := by simp
    refine ⟨some x, cap, (List.range len).map Sx, by rw [hlen], ⟨?_, ?_⟩, ?_⟩
    · have hv := Vals.of_row (w := W) (x := x) (len := len) (vs := (List.range len).map fun i => Value.string (Sx i)) (by simp; omega) (fun i hi => by
        have hi' : i < len := by simpa using hi
        rw [(hcell i (by omega)).1]
        simp [hi'])
      rw [List.take_of_length_le (by simp)] at hv
      rw [List.map_map]
      exact hv
    · intro s hs
      obtain ⟨i, hi, rfl⟩ := List.mem_map.1 hs
      exact (hcell i (by have := List.mem_range.1 hi; omega)).2
    · rw [hdat.1]
      have := bulk_strs (H := H) ((List.range len).map Sx) ((List.range (m - len)).map fun j => .lit (.string (Sx (len + j)).data.toList))
      rw [List.map_map] at this
      exact this
theorem bulk_string (s : ByteArray) : s.size ≤ Rows.uptoBulk (DataW.lit (H := H) (.string s.data.toList)) := by
  have e2 : s.data.toList.length = s.size := Array.length_toList
  simp only [Rows.uptoBulk, e2]
  omega
end
end Go.Proofs.Ytegipokbbmnahaa
