/- Slices of records by a type of one's own, over any program. -/
import Derived.Test.YtagmknahmkniaaaRecsOwn
namespace Go.Recs
open Go.RowKit Go.Deep
set_option linter.unusedVariables false
/-- the slice at A holds the records l, each laid out by f in sz cells, each with the property Q -/
def TR {α : Type} (f : α → List Value) (Q : α → Prop) (sz : Nat) (w : World) (A : Option Addr) (l : List α) : Prop := Recs w A sz (l.map f) ∧ ∀ a ∈ l, Q a
section
variable {α : Type} {f : α → List Value} {Q : α → Prop} {sz : Nat} {w w' : World} {A : Option Addr} {l : List α}
theorem TR.len (h : TR f Q sz w A l) : l.length ≤ 9223372036854775807 := by have := h.1.len; rw [List.length_map] at this; exact this
theorem TR.below (h : TR f Q sz w A l) (hb : Below w.heap.size w w') : TR f Q sz w' A l := ⟨h.1.below hb, h.2⟩
theorem TR.drewN (h : TR f Q sz w A l) (n : Nat) : TR f Q sz (w.drewN n) A l := h
theorem TR.drew (h : TR f Q sz w A l) : TR f Q sz w.drew A l := h
theorem TR.nil (w : World) (A : Option Addr) : TR f Q sz w A [] := ⟨Recs.nil _ _ _, by simp⟩
theorem TR.keep (h : TR f Q sz w A l) (hz : w.heap.size ≤ w'.heap.size) (hk : ∀ b o, b < w.heap.size → w'.cell? ⟨b, o, none⟩ = w.cell? ⟨b, o, none⟩) : TR f Q sz w' A l := ⟨h.1.keep hz hk, h.2⟩
/-- record k: where it lies, and its cells -/
theorem TR.at_ (h : TR f Q sz w A l) {k : Nat} (hk : k < l.length) :
    ∃ b off, A = some ⟨b, off, none⟩ ∧ b < w.heap.size ∧ Q l[k] ∧ ∀ j, j < sz → w.cell? ⟨b, off + k * sz + j, none⟩ = (f l[k])[j]? := by
  obtain ⟨b, off, rfl, hb, hc⟩ := h.1.get (k := k) (by simpa using hk)
  refine ⟨b, off, rfl, hb, h.2 _ (List.getElem_mem hk), fun j hj => ?_⟩
  have e : (l.map f).getD k [] = f l[k] := by simp [List.getD, hk]
  have := hc j hj
  rw [e, ← Nat.add_assoc] at this
  exact this
theorem TR.take_ (h : TR f Q sz w A l) (n : Nat) : TR f Q sz w A (l.take n) := by
  obtain ⟨⟨h1, h2, h3⟩, h4⟩ := h
  refine ⟨⟨?_, ?_, ?_⟩, fun r hr => h4 r (List.mem_of_mem_take hr)⟩
  · rw [List.length_map] at h1 ⊢; rw [List.length_take]; omega
  · intro r hr
    obtain ⟨a, ha, rfl⟩ := List.mem_map.1 hr
    exact h2 _ (List.mem_map.2 ⟨a, List.mem_of_mem_take ha, rfl⟩)
  · rcases h3 with h3 | ⟨b, off, rfl, hb, hc⟩
    · left; have : l = [] := by simpa using h3
      rw [this]; simp
    · refine .inr ⟨b, off, rfl, hb, fun i j hi hj => ?_⟩
      rw [List.length_map, List.length_take] at hi
      rw [hc i j (by rw [List.length_map]; omega) hj]
      have h1 : i < l.length := by omega
      have h2 : i < n := by omega
      simp [List.getD, h1, h2]
theorem TR.drop_ {b off : Nat} (h : TR f Q sz w (some ⟨b, off, none⟩) l) (n : Nat) : TR f Q sz w (some ⟨b, off + n * sz, none⟩) (l.drop n) := by
  obtain ⟨⟨h1, h2, h3⟩, h4⟩ := h
  refine ⟨⟨?_, ?_, ?_⟩, fun r hr => h4 r (List.mem_of_mem_drop hr)⟩
  · rw [List.length_map] at h1 ⊢; rw [List.length_drop]; omega
  · intro r hr
    obtain ⟨a, ha, rfl⟩ := List.mem_map.1 hr
    exact h2 _ (List.mem_map.2 ⟨a, List.mem_of_mem_drop ha, rfl⟩)
  · rcases h3 with h3 | ⟨b', off', e, hb, hc⟩
    · left; have : l = [] := by simpa using h3
      rw [this]; simp
    · injection e with e
      injection e with e1 e2
      subst e1 e2
      refine .inr ⟨_, _, rfl, hb, fun i j hi hj => ?_⟩
      rw [List.length_map, List.length_drop] at hi
      have := hc (n + i) j (by rw [List.length_map]; omega) hj
      rw [Nat.add_mul] at this
      rw [show off + n * sz + (i * sz + j) = off + (n * sz + i * sz + j) by omega, this]
      have h1 : n + i < l.length := by omega
      simp [List.getD, h1]
end
/-- a slice of records that the call itself made -/
def OwnT {α : Type} (f : α → List Value) (w : World) (B : Nat) (t : TypeId) (sz : Nat) (v : Value) (l : List α) : Prop := OwnR w B t sz v (l.map f)
theorem OwnT.nil {α : Type} (f : α → List Value) (w : World) (B : Nat) (t : TypeId) (sz : Nat) : OwnT f w B t sz (.slice none 0 0) [] := OwnR.nil _ _ _ _
theorem OwnT.tr {α : Type} {f : α → List Value} {Q : α → Prop} {w : World} {B : Nat} {t : TypeId} {sz : Nat} {v : Value} {l : List α} (h : OwnT f w B t sz v l) (hq : ∀ a ∈ l, Q a) :
    ∃ A cap, v = .slice A l.length cap ∧ TR f Q sz w A l ∧ l.length ≤ cap := by
  obtain ⟨A, cap, rfl, hr, hc⟩ := OwnR.recs h
  rw [List.length_map] at hc ⊢
  exact ⟨A, cap, rfl, ⟨hr, hq⟩, hc⟩
theorem OwnT.below {α : Type} {f : α → List Value} {w w' : World} {B : Nat} {t : TypeId} {sz : Nat} {v : Value} {l : List α} (h : OwnT f w B t sz v l) (hb : Below w.heap.size w w') : OwnT f w' B t sz v l := OwnR.below h hb
theorem OwnT.drewN {α : Type} {f : α → List Value} {w : World} {B : Nat} {t : TypeId} {sz : Nat} {v : Value} {l : List α} (h : OwnT f w B t sz v l) (n : Nat) : OwnT f (w.drewN n) B t sz v l := h
theorem OwnT.lower {α : Type} {f : α → List Value} {w : World} {B B' : Nat} {t : TypeId} {sz : Nat} {v : Value} {l : List α} (h : OwnT f w B t sz v l) (hB : B' ≤ B) : OwnT f w B' t sz v l := OwnR.lower h hB
theorem OwnT.empty {α : Type} (f : α → List Value) (w : World) (B : Nat) (t : TypeId) (sz : Nat) (hB : B ≤ w.heap.size) : OwnT f (w.alloc (.cells #[] t)) B t sz (.slice (some ⟨w.heap.size, 0, none⟩) 0 0) [] := OwnR.empty w B t sz hB
end Go.Recs
