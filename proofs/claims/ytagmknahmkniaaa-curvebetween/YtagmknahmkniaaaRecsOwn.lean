/- Slices of records that the call itself makes, and a record as a law's argument, over any program. -/
import Derived.Test.YtagmknahmkniaaaRecs
import Derived.OwnWalk
import Derived.Laws.OwnMore
import Derived.Below
import Derived.Maps.AppendAt
namespace Go.Recs
open Go.ChangeShapes Go.WideShapes Go.RowKit Go.Deep
set_option linter.unusedVariables false

theorem flat_len {sz : Nat} : ∀ {rows : List (List Value)}, (∀ r ∈ rows, r.length = sz) → rows.flatten.length = rows.length * sz := by
  intro rows
  induction rows with
  | nil => intro _; simp
  | cons r rows ih =>
    intro h
    rw [List.flatten_cons, List.length_append, ih (fun q hq => h q (by simp [hq])), h r (by simp), List.length_cons, Nat.succ_mul]
    omega
theorem flat_at {sz : Nat} : ∀ {rows : List (List Value)}, (∀ r ∈ rows, r.length = sz) → ∀ i j, i < rows.length → j < sz → rows.flatten[i * sz + j]? = (rows.getD i [])[j]? := by
  intro rows
  induction rows with
  | nil => intro _ i j hi; simp at hi
  | cons r rows ih =>
    intro h i j hi hj
    have hr := h r (by simp)
    rw [List.flatten_cons]
    cases i with
    | zero =>
      rw [Nat.zero_mul, Nat.zero_add, List.getElem?_append_left (by omega)]
      rfl
    | succ i =>
      rw [Nat.succ_mul, List.getElem?_append_right (by omega), hr]
      rw [show i * sz + sz + j - sz = i * sz + j by omega, ih (fun q hq => h q (by simp [hq])) i j (by simpa using hi) hj]
      rfl

/-- the slice v, in memory from block B on, of records of type t, holds the rows -/
def OwnR (w : World) (B : Nat) (t : TypeId) (sz : Nat) (v : Value) (rows : List (List Value)) : Prop := (∀ r ∈ rows, r.length = sz) ∧ w.ownsRow B t sz v rows.length rows.flatten
section
variable {w w' : World} {B : Nat} {t : TypeId} {sz : Nat} {v : Value} {rows : List (List Value)}
theorem OwnR.nil (w : World) (B : Nat) (t : TypeId) (sz : Nat) : OwnR w B t sz (.slice none 0 0) [] := ⟨by simp, World.ownsRow_nil _ _ _ _⟩
theorem OwnR.form (h : OwnR w B t sz v rows) : (v = .slice none 0 0 ∧ rows = []) ∨ ∃ g cap, v = .slice (some ⟨g, 0, none⟩) rows.length cap ∧ B ≤ g ∧ g < w.heap.size ∧ rows.length ≤ cap := by
  rcases h.2.2 with ⟨rfl, h0⟩ | ⟨g, cap, cur, rfl, hB, hh, hn, _⟩
  · exact .inl ⟨rfl, List.eq_nil_of_length_eq_zero h0⟩
  · refine .inr ⟨g, cap, rfl, hB, ?_, hn⟩
    rcases Nat.lt_or_ge g w.heap.size with hlt | hge
    · exact hlt
    · rw [Array.getElem?_eq_none hge] at hh; cases hh
theorem OwnR.len (h : OwnR w B t sz v rows) : rows.length ≤ maxLen := by
  rcases h.2.2 with ⟨_, h0⟩ | ⟨g, cap, cur, _, _, _, hn, hm, _⟩
  · rw [h0]; exact Nat.zero_le _
  · exact Nat.le_trans hn hm
/-- its cells -/
theorem OwnR.cell {g n cap : Nat} (h : OwnR w B t sz (.slice (some ⟨g, 0, none⟩) n cap) rows) {i j : Nat} (hi : i < rows.length) (hj : j < sz) : w.cell? ⟨g, i * sz + j, none⟩ = (rows.getD i [])[j]? := by
  have hn : n = rows.length := by
    rcases h.2.2 with ⟨h0, _⟩ | ⟨g', cap', cur, h0, _⟩
    · cases h0
    · injection h0
  subst hn
  have hlt : i * sz + j < rows.length * sz := by
    have : (i + 1) * sz ≤ rows.length * sz := Nat.mul_le_mul_right _ (by omega)
    rw [Nat.succ_mul] at this
    omega
  rw [World.ownsRow.cellAt h.2 _ hlt]
  exact flat_at h.1 i j hi hj
theorem OwnR.recs (h : OwnR w B t sz v rows) : ∃ A cap, v = .slice A rows.length cap ∧ Recs w A sz rows ∧ rows.length ≤ cap := by
  rcases h.form with ⟨rfl, rfl⟩ | ⟨g, cap, rfl, hB, hg, hc⟩
  · exact ⟨none, 0, rfl, Recs.nil _ _ _, by simp⟩
  · refine ⟨_, cap, rfl, ⟨h.len, h.1, .inr ⟨g, 0, rfl, hg, fun i j hi hj => ?_⟩⟩, hc⟩
    rw [Nat.zero_add]
    exact h.cell hi hj
theorem OwnR.kept (h : OwnR w B t sz v rows) (hb : ∀ g, B ≤ g → g < w.heap.size → w'.heap[g]? = w.heap[g]?) : OwnR w' B t sz v rows := by
  refine ⟨h.1, h.2.1, ?_⟩
  rcases h.2.2 with h0 | ⟨g, cap, cur, hv, hB, hh, r⟩
  · exact .inl h0
  · refine .inr ⟨g, cap, cur, hv, hB, ?_, r⟩
    rcases Nat.lt_or_ge g w.heap.size with hlt | hge
    · rw [hb g hB hlt]; exact hh
    · rw [Array.getElem?_eq_none hge] at hh; cases hh
theorem OwnR.below (h : OwnR w B t sz v rows) (hb : Below w.heap.size w w') : OwnR w' B t sz v rows := h.kept fun g _ hg => hb.block g hg
theorem OwnR.alloc (h : OwnR w B t sz v rows) (o : Obj) : OwnR (w.alloc o) B t sz v rows := ⟨h.1, World.ownsRow.alloc h.2 o⟩
theorem OwnR.drewN (h : OwnR w B t sz v rows) (n : Nat) : OwnR (w.drewN n) B t sz v rows := h
theorem OwnR.block (h : OwnR w B t sz v rows) : ∀ k, v.ownBlock = some k → B ≤ k := fun k hk => (World.ownsRow.lt h.2 k hk).1
theorem OwnR.lower {B' : Nat} (h : OwnR w B t sz v rows) (hB : B' ≤ B) : OwnR w B' t sz v rows := by
  refine ⟨h.1, h.2.1, ?_⟩
  rcases h.2.2 with h0 | ⟨g, cap, cur, hv, hg, r⟩
  · exact .inl h0
  · exact .inr ⟨g, cap, cur, hv, Nat.le_trans hB hg, r⟩
/-- a slice literal with no element, and one of known cells -/
theorem OwnR.empty (w : World) (B : Nat) (t : TypeId) (sz : Nat) (hB : B ≤ w.heap.size) : OwnR (w.alloc (.cells #[] t)) B t sz (.slice (some ⟨w.heap.size, 0, none⟩) 0 0) [] :=
  ⟨by simp, World.ownsRow_lit w #[] 0 hB (Nat.zero_le _) (by simp)⟩
theorem OwnR.lit (w : World) (B : Nat) (t : TypeId) (sz : Nat) (rows : List (List Value)) (hr : ∀ r ∈ rows, r.length = sz) (hB : B ≤ w.heap.size) (hm : rows.length ≤ maxLen) :
    OwnR (w.alloc (.cells rows.flatten.toArray t)) B t sz (.slice (some ⟨w.heap.size, 0, none⟩) rows.length rows.length) rows :=
  ⟨hr, by have := World.ownsRow_lit (e := t) (size := sz) w rows.flatten.toArray rows.length hB hm (by simpa using flat_len hr); simpa using this⟩
end

/-- 's = append(s, x)', the new record in a block of its own just made -/
theorem wpList_pushR {P : Program} {ops : Array Oper} {rest : List Oper} {o : Oper} {a : Act} {Q : Exit → Act → World → Prop} (w : World) (x : List Value) (hx1 : ∀ u ∈ x, u.oneCell' = true) (B : Nat) (rows : List (List Value)) (s y : Operand) (ts t : TypeId) (sz bytes : Nat) (z : Value)
    (hu : P.underlying ts = some (.slice t)) (hinfo : (P.info? t).map (fun i => (i.zero, i.size, i.bytes)) = some (some z, sz, bytes)) (hz : z.cells.size = sz) (h0 : 0 < sz) (hxl : x.length = sz)
    (hgd : o.guard = none) (ho : o.op = .call { callee := .builtin .append, args := #[s, y], argTypes := #[ts, ts] })
    (v : Value) (hs : a.eval s = v) (hx : a.eval y = .slice (some ⟨w.heap.size, 0, none⟩) 1 1) (hown : OwnR w B t sz v rows) (hl : (rows.length + 1) * bytes ≤ 140737488355328) (hm : rows.length + 1 ≤ maxLen) (hB : B ≤ w.heap.size)
    (h : ∀ v' w', OwnR w' B t sz v' (rows ++ [x]) → Below B w w' → w.heap.size ≤ w'.heap.size → w.grownBy w' v.ownBlock → wpList P ops Q rest (a.put o.dst v') w') :
    wpList P ops Q (o :: rest) a (w.alloc (.cells x.toArray t)) := by
  obtain ⟨i0, hi, hz0, hz1, hz2⟩ := info_parts hinfo
  refine wpList_append_own (w.alloc (.cells x.toArray t)) hgd s y ts ho B t i0 z sz bytes hu hi hz0 hz1 hz2 hz h0 v rows.length rows.flatten hs (OwnR.alloc hown _).2
    ⟨w.heap.size, 0, none⟩ 1 1 x hx (by omega) ?_ hx1 hm hl (by simp; omega) ?_
  · intro j u hj
    rw [add_at, Nat.zero_add]
    have hlt : j < x.length := by
      rcases Nat.lt_or_ge j x.length with g | g
      · exact g
      · rw [List.getElem?_eq_none g] at hj; cases hj
    have e : x.toArray[j]? = some u := by simpa using hj
    simp [e]
  · intro v' w' h1 h2 _
    have hg : w.grownBy w' v.ownBlock := (World.grownBy_alloc w _ v.ownBlock).trans h2
    refine h v' w' ⟨?_, by simpa using h1⟩ ?_ hg.size hg
    · intro r hr
      rcases List.mem_append.1 hr with hr | hr
      · exact hown.1 r hr
      · rw [List.mem_singleton.1 hr]; exact hxl
    · exact (Below.refl B w).grown hg hB (OwnR.block hown)

/-- a record as a law's argument -/
theorem open_rec {H : Type} {enc : TypeId × Value → H} {P : Program} {w : World} {base : Nat} {spare : Nat → Bool} {held : Bool} {t : TypeId} {n : Nat} {fs : Array Field} {ls : List Leaf} {v : Value} {d : DataW H} {p : List MemPlace} {b0 : Nat} {r : Reach}
    (ht : P.underlying t = some (.struct fs)) (hls : leafs P n t = some ls) (hsz : P.cellsOf t = ls.length)
    (hval : Value.okWide P w r b0 t v) (h : DataW.Trod enc P w base spare held t v d p) : ∃ cs : List Value, v = .agg cs.toArray ∧ okAll ls cs := by
  obtain ⟨cs, rfl, hs, _⟩ : ∃ cs, v = .agg cs ∧ cs.size = P.cellsOf t ∧ Row.okWide P w r b0 t cs := by
    simpa [Value.okWide, ht] using hval
  obtain ⟨fuel, hf⟩ := h
  refine ⟨cs.toList, by simp, ?_⟩
  exact leafs_ok n t ls hls fuel cs.toList _ (by simp; omega) hf
end Go.Recs
