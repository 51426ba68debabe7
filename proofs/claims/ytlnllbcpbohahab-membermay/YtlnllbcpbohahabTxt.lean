/- Strings and their bytes. -/
import Derived.Test.YtlnllbcpbohahabVals
import Derived.Test.YtlnllbcpbohahabWordMath3
import Derived.Laws.IdiomStrings
import Derived.Laws.Concat
namespace Go.Proofs.Ytlnllbcpbohahab
open Go.RowKit

/-- a string's bytes -/
def L (s : ByteArray) : List UInt8 := s.data.toList
/-- the string of some bytes -/
def S (l : List UInt8) : ByteArray := ⟨l.toArray⟩
theorem L_S (l : List UInt8) : L (S l) = l := by simp [L, S]
theorem S_L (s : ByteArray) : S (L s) = s := by
  obtain ⟨d⟩ := s
  show ByteArray.mk d.toList.toArray = _
  rw [Array.toArray_toList]
theorem L_len (s : ByteArray) : (L s).length = s.size := Array.length_toList
theorem S_size (l : List UInt8) : (S l).size = l.length := List.size_toArray
theorem L_toList (s : ByteArray) : s.toList = L s := ByteArray.toList_eq s
theorem L_get (s : ByteArray) (k : Nat) (h : k < s.size) : (L s)[k]'(by rw [L_len]; exact h) = s[k] := by simp [L, ByteArray.getElem_eq_getElem_data]
theorem L_take_succ (s : ByteArray) (k : Nat) (h : k < s.size) : (L s).take (k + 1) = (L s).take k ++ [s[k]] := by
  rw [WM.take_snoc (L s) k (by rw [L_len]; exact h), L_get s k h]
theorem L_take_all (s : ByteArray) : (L s).take s.size = L s := List.take_of_length_le (by rw [L_len]; exact Nat.le_refl _)
theorem L_extract (s : ByteArray) (a b : Nat) : L (s.extract a b) = ((L s).take b).drop a := by
  simp [L, ByteArray.data_extract, List.drop_take]
theorem L_append (a b : ByteArray) : L (a ++ b) = L a ++ L b := by simp [L, ByteArray.data_append]
theorem L_inj {a b : ByteArray} (h : L a = L b) : a = b := by rw [← S_L a, ← S_L b, h]
theorem L_head (s : ByteArray) (h : 0 < s.size) : (L s).headD 0 = s[0] := by
  rw [← L_get s 0 h]
  have hl : 0 < (L s).length := by rw [L_len]; exact h
  rw [List.headD_eq_head?_getD, List.head?_eq_getElem?, List.getElem?_eq_getElem hl]
  rfl
theorem L_nil {s : ByteArray} (h : s.size = 0) : L s = [] := List.eq_nil_of_length_eq_zero (by rw [L_len]; exact h)
theorem isEmpty_false {s : ByteArray} (h : 0 < s.size) : s.toList.isEmpty = false := by
  rw [L_toList, List.isEmpty_eq_false_iff]
  intro e
  have := L_len s
  rw [e] at this; simp at this; omega
theorem isEmpty_true {s : ByteArray} (h : s.size = 0) : s.toList.isEmpty = true := by
  rw [L_toList, L_nil h]; rfl
theorem beq_t {a b : Int} (h : a = b) : (a == b) = true := by simpa using h
theorem beq_f {a b : Int} (h : ¬ a = b) : (a == b) = false := by simpa using h
end Go.Proofs.Ytlnllbcpbohahab
