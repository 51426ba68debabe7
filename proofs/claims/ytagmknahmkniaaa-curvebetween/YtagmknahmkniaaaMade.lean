/- Rows of ints made by 'make', known whole. -/
import Derived.Test.YtagmknahmkniaaaOwn
import Derived.Maps.AppendAt
namespace Go.Proofs.Ytagmknahmkniaaa
open Go.RowKit

/-- block g is just the numbers zs -/
def Row (w : World) (g : Nat) (zs : List Int) : Prop := w.heap[g]? = some (.cells (zs.map (Value.int .i64)).toArray 3 (0, 0))
/-- block g is one variable of type t -/
def Box (w : World) (g : Nat) (t : TypeId) (v : Value) : Prop := w.heap[g]? = some (.cells #[v] t (0, 0))

theorem lt_of_block {w : World} {g : Nat} {o : Obj} (h : w.heap[g]? = some o) : g < w.heap.size := by
  rcases Nat.lt_or_ge g w.heap.size with hlt | hge
  · exact hlt
  · rw [Array.getElem?_eq_none hge] at h; cases h

section
variable {w w' : World} {g : Nat} {zs : List Int} {t : TypeId} {v : Value}
theorem Row.lt (h : Row w g zs) : g < w.heap.size := lt_of_block h
theorem Box.lt (h : Box w g t v) : g < w.heap.size := lt_of_block h
theorem Row.cell (h : Row w g zs) (i : Nat) (hi : i < zs.length) : w.cell? ⟨g, i, none⟩ = some (.int .i64 (zs.getD i 0)) := by
  unfold Row at h
  simp [World.cell?, h, List.getD, hi]
theorem Row.frozen (h : Row w g zs) (i : Nat) : w.frozen? ⟨g, i, none⟩ = false := by
  unfold Row at h
  simp [World.frozen?, h]
theorem Box.cell (h : Box w g t v) : w.cell? ⟨g, 0, none⟩ = some v := by
  unfold Box at h
  simp [World.cell?, h]
theorem Box.frozen (h : Box w g t v) : w.frozen? ⟨g, 0, none⟩ = false := by
  unfold Box at h
  simp [World.frozen?, h]
theorem Row.set_ (h : Row w g zs) (i : Nat) (x : Int) : Row (w.setCell ⟨g, i, none⟩ (.int .i64 x)) g (zs.set i x) := by
  unfold Row at h ⊢
  simp [World.setCell, Array.getElem?_modify, h]
theorem Box.set_ (h : Box w g t v) (u : Value) : Box (w.setCell ⟨g, 0, none⟩ u) g t u := by
  unfold Box at h ⊢
  simp [World.setCell, Array.getElem?_modify, h]
theorem Row.far (h : Row w g zs) {p : Addr} (hp : g ≠ p.block) (u : Value) : Row (w.setCell p u) g zs := (Below.heap_setCell w p u g hp).trans h
theorem Box.far (h : Box w g t v) {p : Addr} (hp : g ≠ p.block) (u : Value) : Box (w.setCell p u) g t v := (Below.heap_setCell w p u g hp).trans h
theorem Row.alloc (h : Row w g zs) (o : Obj) : Row (w.alloc o) g zs := (Below.heap_alloc w o g h.lt).trans h
theorem Box.alloc (h : Box w g t v) (o : Obj) : Box (w.alloc o) g t v := (Below.heap_alloc w o g h.lt).trans h
theorem Row.drewN (h : Row w g zs) (n : Nat) : Row (w.drewN n) g zs := h
theorem Row.drew (h : Row w g zs) : Row w.drew g zs := h
theorem Box.drewN (h : Box w g t v) (n : Nat) : Box (w.drewN n) g t v := h
theorem Box.drew (h : Box w g t v) : Box w.drew g t v := h
theorem Row.below {B : Nat} (h : Row w g zs) (hb : Below B w w') (hg : g < B) : Row w' g zs := (hb.block g hg).trans h
theorem Box.below {B : Nat} (h : Box w g t v) (hb : Below B w w') (hg : g < B) : Box w' g t v := (hb.block g hg).trans h
theorem Box.new (w : World) (t : TypeId) (v : Value) : Box (w.alloc (.cells #[v] t)) w.heap.size t v := heap_alloc_new w _
theorem Row.own (h : Row w g zs) {B : Nat} (hB : B ≤ g) (hl : zs.length ≤ maxLen) : Own w B (.slice (some ⟨g, 0, none⟩) zs.length zs.length) zs :=
  ⟨by simp, .inr ⟨g, zs.length, _, rfl, hB, h, Nat.le_refl _, hl, by simp, by simp [List.take_of_length_le]⟩⟩
theorem Row.ints (h : Row w g zs) (hl : zs.length ≤ maxLen) (hr : ∀ n ∈ zs, -9223372036854775808 ≤ n ∧ n ≤ 9223372036854775807) : Ints w (some ⟨g, 0, none⟩) zs :=
  ⟨hl, hr, .inr ⟨g, 0, rfl, h.lt, fun i hi => by rw [Nat.zero_add]; exact h.cell i hi⟩⟩
end

/-- n noughts, as cells -/
def zeros (n : Nat) : Array Value := madeCells #[.int .i64 0] n
theorem Row.made (w : World) (n : Nat) : Row (w.alloc (.cells (zeros n) 3)) w.heap.size (List.replicate n 0) := by
  have e : zeros n = ((List.replicate n 0).map (Value.int .i64)).toArray := by
    apply Array.toList_inj.1
    simp [zeros, toList_madeCells_one]
  rw [e]; exact heap_alloc_new w _

theorem make_ints (n : Nat) (hn : n ≤ 1099511627776) (u : World) : (Instr.makeSlice 75 (.int .i64 (n : Int)) (.int .i64 (n : Int))).run Try.prog u =
    .ok (.slice (some ⟨u.heap.size, 0, none⟩) n n) (u.alloc (.cells (zeros n) 3)) := by
  obtain ⟨i0, hi, hz0, hz1, hz2⟩ := info_parts info_int
  have h := run_make (P := Try.prog) u 75 3 i0 (.int .i64 0) Try.underlying75 hi hz0 .i64 .i64 (n : Int) (n : Int) (by omega) (Int.le_refl _) (by rw [hz2]; omega) (by omega)
  rw [Int.toNat_natCast] at h
  simpa [hz1, Value.cells, zeros] using h

/-! a row of the call's own, whatever its room: stores -/
theorem Own.set_ {w : World} {B g n cap : Nat} {zs : List Int} (h : Own w B (.slice (some ⟨g, 0, none⟩) n cap) zs) (i : Nat) (x : Int) :
    Own (w.setCell ⟨g, i, none⟩ (.int .i64 x)) B (.slice (some ⟨g, 0, none⟩) n cap) (zs.set i x) := by
  have hn : n = zs.length := by
    rcases h.2 with ⟨h0, _⟩ | ⟨g', cap', cur, h0, _⟩
    · cases h0
    · injection h0
  subst hn
  have := (World.ownsRow.stored h i (.int .i64 x)).1
  unfold Own
  rw [List.length_set, List.map_set]
  exact this
theorem Own.frozen {w : World} {B g n cap : Nat} {zs : List Int} (h : Own w B (.slice (some ⟨g, 0, none⟩) n cap) zs) (i : Nat) : w.frozen? ⟨g, i, none⟩ = false := by
  have hn : n = zs.length := by
    rcases h.2 with ⟨h0, _⟩ | ⟨g', cap', cur, h0, _⟩
    · cases h0
    · injection h0
  subst hn
  exact World.ownsRow.frozenAt h i
theorem Own.far {w : World} {B g n cap : Nat} {zs : List Int} (h : Own w B (.slice (some ⟨g, 0, none⟩) n cap) zs) {p : Addr} (hp : g ≠ p.block) (u : Value) :
    Own (w.setCell p u) B (.slice (some ⟨g, 0, none⟩) n cap) zs := by
  refine ⟨h.1, ?_⟩
  rcases h.2 with ⟨h0, _⟩ | ⟨g', cap', cur, h0, hB, hh, r⟩
  · cases h0
  · refine .inr ⟨g', cap', cur, h0, hB, ?_, r⟩
    have : g' = g := by injection h0 with h1; injection h1 with h1; injection h1 with h1; exact h1.symm
    subst this
    rw [Below.heap_setCell w p u _ hp]; exact hh
theorem Own.empty (w : World) (B : Nat) (hB : B ≤ w.heap.size) : Own (w.alloc (.cells #[] 3)) B (.slice (some ⟨w.heap.size, 0, none⟩) 0 0) [] :=
  World.ownsRow_lit w #[] 0 hB (Nat.zero_le _) rfl
theorem Own.ge {w : World} {B g n cap : Nat} {zs : List Int} (h : Own w B (.slice (some ⟨g, 0, none⟩) n cap) zs) : B ≤ g ∧ g < w.heap.size := by
  rcases h.form with ⟨h0, _⟩ | ⟨g', c', h0, h1, h2, _⟩
  · cases h0
  · injection h0 with h1'; injection h1' with h1'; injection h1' with h1'
    subst h1'; exact ⟨h1, h2⟩

/-- two rows of the call's own, in different blocks -/
def Two (w : World) (B : Nat) (v : Value) (zs : List Int) (u : Value) (ys : List Int) : Prop :=
  Own w B v zs ∧ Own w B u ys ∧ ∃ g h, v.ownBlock = some g ∧ u.ownBlock = some h ∧ g ≠ h ∧ g < w.heap.size ∧ h < w.heap.size

theorem Two.swap {w : World} {B : Nat} {v u : Value} {zs ys : List Int} (h : Two w B v zs u ys) : Two w B u ys v zs := by
  obtain ⟨a, b, g, k, e1, e2, e3, e4, e5⟩ := h
  exact ⟨b, a, k, g, e2, e1, fun e => e3 e.symm, e5, e4⟩
theorem Two.below {w w' : World} {B : Nat} {v u : Value} {zs ys : List Int} (h : Two w B v zs u ys) (hb : Below w.heap.size w w') : Two w' B v zs u ys := by
  obtain ⟨a, b, g, k, e1, e2, e3, e4, e5⟩ := h
  exact ⟨a.below hb, b.below hb, g, k, e1, e2, e3, Nat.lt_of_lt_of_le e4 hb.size, Nat.lt_of_lt_of_le e5 hb.size⟩

/-- 's = append(s, x)' beside another row -/
theorem wpList_push2 {ops : Array Oper} {rest : List Oper} {o : Oper} {a : Act} {Q : Exit → Act → World → Prop} (w : World) (n : Int) (B : Nat) (zs ys : List Int) (s x : Operand)
    (hgd : o.guard = none) (ho : o.op = .call { callee := .builtin .append, args := #[s, x], argTypes := #[75, 75] })
    (v u : Value) (hs : a.eval s = v) (hx : a.eval x = .slice (some ⟨w.heap.size, 0, none⟩) 1 1) (hown : Two w B v zs u ys) (hl : zs.length < 1099511627776) (hB : B ≤ w.heap.size)
    (h : ∀ v' w', Two w' B v' (zs ++ [n]) u ys → Below B w w' → wpList Try.prog ops Q rest (a.put o.dst v') w') :
    wpList Try.prog ops Q (o :: rest) a (w.alloc (.cells #[.int .i64 n] 3)) := by
  obtain ⟨h1, h2, g, k, e1, e2, e3, e4, e5⟩ := hown
  obtain ⟨i0, hi, hz0, hz1, hz2⟩ := info_parts info_int
  refine wpList_append_own_at (w.alloc (.cells #[.int .i64 n] 3)) hgd s x 75 ho B 3 i0 (.int .i64 0) 1 8 Try.underlying75 hi hz0 hz1 hz2 rfl (by decide) v zs.length (zs.map (Value.int .i64)) hs (Own.alloc h1 _)
    ⟨w.heap.size, 0, none⟩ 1 1 [.int .i64 n] hx rfl ?_ ?_ (by unfold maxLen; omega) (by omega) (by simp; omega) ?_
  · intro j u hj
    match j, hj with
    | 0, hj => simp at hj; subst hj; simp [Addr.add]
  · intro u hu; simp at hu; subst hu; rfl
  · intro v' w' p1 p2 _ p4
    have hg : w.grownBy w' v.ownBlock := (World.grownBy_alloc w _ v.ownBlock).trans p2
    have own' : Own w' B v' (zs ++ [n]) := by unfold Own; simpa using p1
    have hu : Own w' B u ys := World.ownsRow.kept h2 hg (.inr (by rw [e1, e2]; intro e; injection e with e; exact e3 e.symm))
    refine h v' w' ⟨own', hu, ?_⟩ ((Below.refl B w).grown hg hB (Own.block h1))
    have hz := hg.size
    rcases p4 with p4 | p4
    · exact ⟨g, k, by rw [p4, e1], e2, e3, by omega, by omega⟩
    · refine ⟨w.heap.size + 1, k, by rw [p4]; simp, e2, by omega, ?_, by omega⟩
      have := World.ownsRow.lt p1 (w.heap.size + 1) (by rw [p4]; simp)
      exact this.2
end Go.Proofs.Ytagmknahmkniaaa
