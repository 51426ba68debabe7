/- Arithmetic: frames one behind the other, cut anywhere. -/
import Derived.Test.YtegipokbbmnahaaWireMath2
namespace XM
set_option linter.unusedVariables false

theorem flat_app (a b : List (List UInt8)) : flat (a ++ b) = flat a ++ flat b := by
  induction a with
  | nil => rfl
  | cons p ps ih =>
    show frame p ++ flat (ps ++ b) = frame p ++ flat ps ++ flat b
    rw [ih, List.append_assoc]
theorem flat_step (ps : List (List UInt8)) {k : Nat} (h : k < ps.length) : flat (ps.take (k + 1)) = flat (ps.take k) ++ frame ps[k] := by
  rw [List.take_succ_eq_append_getElem h, flat_app]
  simp [flat]
theorem torn_take (ps : List (List UInt8)) : ∀ (c n : Nat), n ≤ ps.length → (flat (ps.take n)).length ≤ c → (n = ps.length ∨ c < (flat (ps.take (n + 1))).length) → torn ps c = ps.take n := by
  induction ps with
  | nil => intro c n h _ _; simp [torn]
  | cons p ps ih =>
    intro c n h1 h2 h3
    cases n with
    | zero =>
      rcases h3 with h3 | h3
      · simp at h3
      · have e : flat ((p :: ps).take (0 + 1)) = frame p := by simp [flat]
        rw [e] at h3
        show (if (frame p).length ≤ c then p :: torn ps (c - (frame p).length) else []) = _
        rw [if_neg (by omega)]; rfl
    | succ m =>
      have e : ∀ j, (flat ((p :: ps).take (j + 1))).length = (frame p).length + (flat (ps.take j)).length := by
        intro j
        show (frame p ++ flat (ps.take j)).length = _
        rw [List.length_append]
      rw [e] at h2
      show (if (frame p).length ≤ c then p :: torn ps (c - (frame p).length) else []) = p :: ps.take m
      rw [if_pos (by omega), ih (c - (frame p).length) m (by simpa using h1) (by omega) ?_]
      rcases h3 with h3 | h3
      · left; simpa using h3
      · right; rw [e] at h3; omega
/-- what is told of frames cut at c, if n are whole -/
theorem frames_cut {ps : List (List UInt8)} (h : ∀ p ∈ ps, p.length ≤ 65536) {c n : Nat} (h1 : n ≤ ps.length) (h2 : (flat (ps.take n)).length ≤ c) (h3 : n = ps.length ∨ c < (flat (ps.take (n + 1))).length) :
    frames ((flat ps).take c) = (ps.take n, (flat (ps.take n)).length) := by
  rw [frames_torn h, torn_take ps c n h1 h2 h3]
end XM
