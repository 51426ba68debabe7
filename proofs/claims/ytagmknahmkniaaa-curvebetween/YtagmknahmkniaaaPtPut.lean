/- An own row of points: one point written over; a moved row. -/
import Derived.Test.YtagmknahmkniaaaPtCells
namespace Go.Recs
open Go.RowKit
set_option linter.unusedVariables false
theorem OwnR.put3 {w : World} {B g n cap : Nat} {t : TypeId} {rows : List (List Value)} (h : OwnR w B t 3 (.slice (some ⟨g, 0, none⟩) n cap) rows) {i : Nat} (hi : i < rows.length) (a b c : Value) :
    OwnR (((w.setCell ⟨g, i * 3, none⟩ a).setCell ⟨g, i * 3 + 1, none⟩ b).setCell ⟨g, i * 3 + 2, none⟩ c) B t 3 (.slice (some ⟨g, 0, none⟩) n cap) (rows.set i [a, b, c]) := by
  have hr : (rows.getD i []).length = 3 := h.1 _ (by simp [List.getD, hi])
  obtain ⟨x, y, z, hxyz⟩ : ∃ x y z, rows.getD i [] = [x, y, z] := by
    match rows.getD i [], hr with
    | [x, y, z], _ => exact ⟨x, y, z, rfl⟩
  have h0 := h.set_ (by omega) hi (show 0 < 3 by omega) a
  have h1 := h0.set_ (by omega) (i := i) (by simpa using hi) (show 1 < 3 by omega) b
  have h2 := h1.set_ (by omega) (i := i) (by simpa using hi) (show 2 < 3 by omega) c
  rw [Nat.add_zero] at h2
  have e : ((rows.set i ((rows.getD i []).set 0 a)).set i (((rows.set i ((rows.getD i []).set 0 a)).getD i []).set 1 b)).set i ((((rows.set i ((rows.getD i []).set 0 a)).set i (((rows.set i ((rows.getD i []).set 0 a)).getD i []).set 1 b)).getD i []).set 2 c) = rows.set i [a, b, c] := by
    rw [hxyz]
    simp [List.getD, hi]
  rw [e] at h2
  exact h2
theorem OwnR.put1 {w : World} {B g n cap : Nat} {t : TypeId} {rows : List (List Value)} (h : OwnR w B t 3 (.slice (some ⟨g, 0, none⟩) n cap) rows) {i : Nat} (hi : i < rows.length) (b : Value) {x y z : Value} (hr : rows.getD i [] = [x, y, z]) :
    OwnR (w.setCell ⟨g, i * 3 + 1, none⟩ b) B t 3 (.slice (some ⟨g, 0, none⟩) n cap) (rows.set i [x, b, z]) := by
  have h1 := h.set_ (by omega) hi (show 1 < 3 by omega) b
  rw [hr] at h1
  exact h1
/-- the first k of the one, the rest of the other -/
def mixL (f : UM.Pt → UM.Pt) (l : List UM.Pt) (k : Nat) : List UM.Pt := (l.map f).take k ++ l.drop k
theorem mix_zero (f : UM.Pt → UM.Pt) (l : List UM.Pt) : mixL f l 0 = l := by simp [mixL]
theorem mix_end (f : UM.Pt → UM.Pt) (l : List UM.Pt) : mixL f l l.length = l.map f := by
  unfold mixL
  rw [List.drop_length, List.append_nil, List.take_of_length_le (by simp)]
theorem mix_len (f : UM.Pt → UM.Pt) (l : List UM.Pt) {k : Nat} (h : k ≤ l.length) : (mixL f l k).length = l.length := by
  unfold mixL; rw [List.length_append, List.length_take, List.length_drop, List.length_map]; omega
theorem mix_succ (f : UM.Pt → UM.Pt) (l : List UM.Pt) {k : Nat} (h : k < l.length) : mixL f l (k + 1) = (mixL f l k).set k (f (UM.pAt l k)) := by
  unfold mixL
  have e1 : ((l.map f).take k).length = k := by rw [List.length_take, List.length_map]; omega
  rw [List.set_append_right _ _ (by omega), e1, Nat.sub_self, List.take_succ_eq_append_getElem (by simpa using h), List.getElem_map, UM.pAt_get h, List.append_assoc]
  congr 1
  rw [List.drop_eq_getElem_cons h]; rfl
theorem mix_same (f : UM.Pt → UM.Pt) (l : List UM.Pt) {k : Nat} (h : k < l.length) (hf : f (UM.pAt l k) = UM.pAt l k) : mixL f l (k + 1) = mixL f l k := by
  rw [mix_succ f l h, hf]
  apply List.ext_getElem?
  intro i
  rw [List.getElem?_set]
  split
  · rename_i e
    subst e
    have e1 : ((l.map f).take k).length = k := by rw [List.length_take, List.length_map]; omega
    rw [if_pos (by rw [mix_len f l (by omega)]; exact h)]
    unfold mixL
    rw [List.getElem?_append_right (by omega), e1, Nat.sub_self, List.getElem?_drop, Nat.add_zero, List.getElem?_eq_getElem h, UM.pAt_get h]
  · rfl
theorem mix_at (f : UM.Pt → UM.Pt) (l : List UM.Pt) {k : Nat} (h : k < l.length) : ((mixL f l k).map ptV).getD k [] = ptV (UM.pAt l k) := by
  have e1 : ((l.map f).take k).length = k := by rw [List.length_take, List.length_map]; omega
  have e2 : (mixL f l k)[k]? = some (UM.pAt l k) := by
    unfold mixL
    rw [List.getElem?_append_right (by omega), e1, Nat.sub_self, List.getElem?_drop, Nat.add_zero, List.getElem?_eq_getElem h, UM.pAt_get h]
  simp [List.getD, e2]
theorem map_put (l : List UM.Pt) (k : Nat) (x : UM.Pt) : (l.set k x).map ptV = (l.map ptV).set k (ptV x) := by rw [List.map_set]
end Go.Recs
