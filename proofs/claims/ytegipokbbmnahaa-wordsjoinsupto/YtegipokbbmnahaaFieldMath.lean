/- What the loops over a line hold: the fields that are complete, and where the next one begins. -/
import Derived.Test.YtegipokbbmnahaaCatMath
namespace WM
set_option linter.unusedVariables false

def FI (l : List UInt8) (k f : Nat) (ps : List (List UInt8)) : Prop := k ≤ l.length ∧ f ≤ k ∧ run 32 (l.take k) = (ps, (l.take k).drop f) ∧ full ps = true ∧ (l.take k).all plain = true
def LI (l : List UInt8) (k f : Nat) (ps : List (List UInt8)) : Prop := k ≤ l.length ∧ f ≤ k ∧ run 10 (l.take k) = (ps, (l.take k).drop f)

theorem run_more (b : UInt8) (x y : List UInt8) : ∃ t, (run b (x ++ y)).1 = (run b x).1 ++ t := by
  induction y using snoc_ind with
  | h0 => exact ⟨[], by simp⟩
  | h1 y c ih =>
    obtain ⟨t, ht⟩ := ih
    rw [← List.append_assoc]
    by_cases h : c = b
    · subst h
      rw [run_snoc_at]
      exact ⟨t ++ [(run c (x ++ y)).2], by simp [ht]⟩
    · rw [run_snoc_in h]
      exact ⟨t, ht⟩
theorem run_len (b : UInt8) (l : List UInt8) : (run b l).1.length ≤ l.length := by
  induction l using snoc_ind with
  | h0 => simp [run_nil]
  | h1 l c ih =>
    by_cases h : c = b
    · subst h; rw [run_snoc_at]; simp; omega
    · rw [run_snoc_in h]; simp; omega
theorem full_append (a b : List (List UInt8)) : full (a ++ b) = (full a && full b) := by simp [full]
theorem pieces_not (l : List UInt8) (k : Nat) (h : full (run 32 (l.take k)).1 = false) : full (pieces 32 l) = false := by
  obtain ⟨t, ht⟩ := run_more 32 (l.take k) (l.drop k)
  rw [List.take_append_drop] at ht
  unfold pieces
  rw [ht, full_append, full_append, h]; rfl
theorem fields_five {l : List UInt8} (h1 : l.length ≤ 512) (h2 : l ≠ []) (h : (l.all plain && full (pieces 32 l)) = false) : fieldsE l = 5 ∧ fieldsN l = [] := by
  have e : fieldsE l = 5 := by
    unfold fieldsE
    rw [if_neg (by omega), if_neg h2, h]; rfl
  exact ⟨e, by unfold fieldsN; rw [e]; simp⟩
theorem FI.start (l : List UInt8) : FI l 0 0 [] := ⟨Nat.zero_le _, Nat.le_refl _, rfl, rfl, rfl⟩
theorem drop_snoc {l : List UInt8} {k f : Nat} (hk : k < l.length) (hf : f ≤ k) : (l.take (k + 1)).drop f = (l.take k).drop f ++ [l[k]] := by
  rw [take_snoc l k hk, List.drop_append_of_le_length (by rw [List.length_take]; omega)]
theorem drop_self (l : List UInt8) (k : Nat) : (l.take k).drop k = [] := by
  rw [List.drop_eq_nil_iff, List.length_take]; omega
theorem FI.in_ {l : List UInt8} {k f : Nat} {ps : List (List UInt8)} (h : FI l k f ps) (hk : k < l.length) (hp : plain l[k] = true) (hb : l[k] ≠ 32) : FI l (k + 1) f ps := by
  obtain ⟨_, h2, h3, h4, h5⟩ := h
  refine ⟨by omega, by omega, ?_, h4, ?_⟩
  · rw [drop_snoc hk h2, take_snoc l k hk, run_snoc_in hb, h3]
  · rw [take_snoc l k hk, all_snoc, h5, hp]; rfl
theorem FI.cut {l : List UInt8} {k f : Nat} {ps : List (List UInt8)} (h : FI l k f ps) (hk : k < l.length) (hb : l[k] = 32) (hf : f < k) : FI l (k + 1) (k + 1) (ps ++ [(l.take k).drop f]) := by
  obtain ⟨_, h2, h3, h4, h5⟩ := h
  refine ⟨by omega, by omega, ?_, ?_, ?_⟩
  · rw [drop_self, take_snoc l k hk, hb, run_snoc_at, h3]
  · rw [full_append, h4]
    simp [full]
    omega
  · rw [take_snoc l k hk, all_snoc, h5, hb]; rfl
theorem FI.bad {l : List UInt8} {k f : Nat} {ps : List (List UInt8)} (h : FI l k f ps) (hk : k < l.length) (hp : plain l[k] = false) (h1 : l.length ≤ 512) (h2 : l ≠ []) : fieldsE l = 5 ∧ fieldsN l = [] :=
  fields_five h1 h2 (by rw [not_all k hk hp]; rfl)
theorem FI.empty_in {l : List UInt8} {k : Nat} {ps : List (List UInt8)} (h : FI l k k ps) (hk : k < l.length) (hb : l[k] = 32) (h1 : l.length ≤ 512) (h2 : l ≠ []) : fieldsE l = 5 ∧ fieldsN l = [] := by
  refine fields_five h1 h2 ?_
  have : full (run 32 (l.take (k + 1))).1 = false := by
    rw [take_snoc l k hk, hb, run_snoc_at, h.2.2.1, drop_self, full_append]
    simp [full]
  rw [pieces_not l (k + 1) this]; simp
theorem FI.empty_end {l : List UInt8} {ps : List (List UInt8)} (h : FI l l.length l.length ps) (h1 : l.length ≤ 512) (h2 : l ≠ []) : fieldsE l = 5 ∧ fieldsN l = [] := by
  refine fields_five h1 h2 ?_
  have e := h.2.2.1
  rw [drop_self, List.take_of_length_le (Nat.le_refl _)] at e
  unfold pieces
  rw [e, full_append]
  simp [full]
theorem FI.done {l : List UInt8} {f : Nat} {ps : List (List UInt8)} (h : FI l l.length f ps) (hf : f < l.length) (h1 : l.length ≤ 512) (h2 : l ≠ []) : fieldsE l = 0 ∧ fieldsN l = ps ++ [(l.take l.length).drop f] := by
  obtain ⟨_, _, h3, h4, h5⟩ := h
  rw [List.take_of_length_le (Nat.le_refl _)] at *
  have hp : pieces 32 l = ps ++ [l.drop f] := by unfold pieces; rw [h3]
  have e : fieldsE l = 0 := by
    unfold fieldsE
    have h6 : full [l.drop f] = true := by simp [full]; omega
    rw [if_neg (by omega), if_neg h2, hp, full_append, h4, h5, h6]; rfl
  exact ⟨e, by unfold fieldsN; rw [if_pos ⟨e, h2⟩, hp]⟩
theorem FI.len {l : List UInt8} {k f : Nat} {ps : List (List UInt8)} (h : FI l k f ps) : ps.length ≤ l.length := by
  have := run_len 32 (l.take k)
  rw [h.2.2.1, List.length_take] at this
  simp at this; omega
theorem fields_long {l : List UInt8} (h : 512 < l.length) : fieldsE l = 8 ∧ fieldsN l = [] := by
  have e : fieldsE l = 8 := by unfold fieldsE; rw [if_pos h]
  exact ⟨e, by unfold fieldsN; rw [e]; simp⟩
theorem fields_none : fieldsE [] = 0 ∧ fieldsN [] = [] := ⟨rfl, rfl⟩

theorem LI.start (l : List UInt8) : LI l 0 0 [] := ⟨Nat.zero_le _, Nat.le_refl _, rfl⟩
theorem LI.in_ {l : List UInt8} {k f : Nat} {ps : List (List UInt8)} (h : LI l k f ps) (hk : k < l.length) (hb : l[k] ≠ 10) : LI l (k + 1) f ps := by
  obtain ⟨_, h2, h3⟩ := h
  refine ⟨by omega, by omega, ?_⟩
  rw [drop_snoc hk h2, take_snoc l k hk, run_snoc_in hb, h3]
theorem LI.cut {l : List UInt8} {k f : Nat} {ps : List (List UInt8)} (h : LI l k f ps) (hk : k < l.length) (hb : l[k] = 10) : LI l (k + 1) (k + 1) (ps ++ [(l.take k).drop f]) := by
  obtain ⟨_, h2, h3⟩ := h
  refine ⟨by omega, by omega, ?_⟩
  rw [drop_self, take_snoc l k hk, hb, run_snoc_at, h3]
theorem LI.len {l : List UInt8} {k f : Nat} {ps : List (List UInt8)} (h : LI l k f ps) : ps.length ≤ l.length := by
  have := run_len 10 (l.take k)
  rw [h.2.2, List.length_take] at this
  simp at this; omega
theorem LI.done {l : List UInt8} {f : Nat} {ps : List (List UInt8)} (h : LI l l.length f ps) (h1 : l.length ≤ 65536) :
    (f < l.length → linesN l = ps ++ [(l.take l.length).drop f]) ∧ (¬ f < l.length → linesN l = ps) := by
  obtain ⟨_, _, h3⟩ := h
  rw [List.take_of_length_le (Nat.le_refl _)] at *
  unfold linesN pieces
  rw [if_neg (by omega), h3]
  constructor
  · intro hf
    rw [if_neg]
    intro e
    have := congrArg List.length e
    simp at this; omega
  · intro hf
    rw [if_pos]
    simp; omega
theorem lines_long {l : List UInt8} (h : 65536 < l.length) : linesE l = 8 ∧ linesN l = [] := ⟨by unfold linesE; rw [if_pos h], by unfold linesN; rw [if_pos h]⟩
theorem lines_ok {l : List UInt8} (h : ¬ 65536 < l.length) : linesE l = 0 := by unfold linesE; rw [if_neg h]
end WM
