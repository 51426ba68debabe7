/- Two texts compared: as the walk says it. -/
import Derived.Test.YtlnllbcpbohahabTxt
namespace Go.Proofs.Ytlnllbcpbohahab
theorem str_t {s t : ByteArray} (h : s = t) : (s.toList == t.toList) = true := by subst h; simp
theorem str_f {s t : ByteArray} (h : s ≠ t) : (s.toList == t.toList) = false := by
  rw [L_toList, L_toList]
  cases e : (L s == L t)
  · rfl
  · exact absurd (L_inj (by simpa using e)) h
end Go.Proofs.Ytlnllbcpbohahab
