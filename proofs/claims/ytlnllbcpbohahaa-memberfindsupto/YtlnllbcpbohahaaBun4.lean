/- Put together: Own, Made, Vals, Txt, WordsA, WordsE, StrEq, MemA. -/
import Derived.Test.YtlnllbcpbohahaaBun3
import Derived.Maps.AppendAt
import Derived.Test.YtlnllbcpbohahaaBun2
import Derived.Laws.IdiomStrings
import Derived.Laws.Concat
import Derived.Laws.StructEq
import Derived.Laws.ResultCell
import Derived.Laws.Rows
/- Slices of ints that the call itself makes. -/
namespace Go.Proofs.Ytlnllbcpbohahaa
open Go.RowKit

theorem info_int : (Try.prog.info? 3).map (fun i => (i.zero, i.size, i.bytes)) = some (some (.int .i64 0), 1, 8) := by kernel_rfl

/-- the slice v, in memory from block B on, holds the numbers zs -/
def Own (w : World) (B : Nat) (v : Value) (zs : List Int) : Prop := w.ownsRow B 3 1 v zs.length (zs.map (Value.int .i64))

theorem Own.nil (w : World) (B : Nat) : Own w B (.slice none 0 0) [] := World.ownsRow_nil _ _ _ _

theorem Own.form {w : World} {B : Nat} {v : Value} {zs : List Int} (h : Own w B v zs) :
    (v = .slice none 0 0 ∧ zs = []) ∨ ∃ g cap, v = .slice (some ⟨g, 0, none⟩) zs.length cap ∧ B ≤ g ∧ g < w.heap.size ∧ zs.length ≤ cap := by
  rcases h.2 with ⟨rfl, h0⟩ | ⟨g, cap, cur, rfl, hB, hh, hn, _⟩
  · exact .inl ⟨rfl, List.eq_nil_of_length_eq_zero h0⟩
  · refine .inr ⟨g, cap, rfl, hB, ?_, hn⟩
    rcases Nat.lt_or_ge g w.heap.size with hlt | hge
    · exact hlt
    · rw [Array.getElem?_eq_none hge] at hh; cases hh

theorem Own.len {w : World} {B : Nat} {v : Value} {zs : List Int} (h : Own w B v zs) : zs.length ≤ maxLen := by
  rcases h.2 with ⟨_, h0⟩ | ⟨g, cap, cur, _, _, _, hn, hm, _⟩
  · rw [h0]; exact Nat.zero_le _
  · exact Nat.le_trans hn hm

theorem Own.cell {w : World} {B g cap : Nat} {zs : List Int} {n : Nat} (h : Own w B (.slice (some ⟨g, 0, none⟩) n cap) zs) (i : Nat) (hi : i < zs.length) :
    w.cell? ⟨g, i, none⟩ = some (.int .i64 (zs.getD i 0)) := by
  have hn : n = zs.length := by
    rcases h.2 with ⟨h0, _⟩ | ⟨g', cap', cur, h0, _⟩
    · cases h0
    · injection h0
  subst hn
  rw [World.ownsRow.cellAt h i (by omega)]
  simp [List.getD, hi]

theorem Own.ints {w : World} {B : Nat} {v : Value} {zs : List Int} (h : Own w B v zs) (hr : ∀ n ∈ zs, -9223372036854775808 ≤ n ∧ n ≤ 9223372036854775807) :
    ∃ A cap, v = .slice A zs.length cap ∧ Ints w A zs := by
  rcases h.form with ⟨rfl, rfl⟩ | ⟨g, cap, rfl, hB, hg, _⟩
  · exact ⟨none, 0, rfl, Ints.nil _ _⟩
  · refine ⟨_, cap, rfl, h.len, hr, .inr ⟨g, 0, rfl, hg, fun i hi => ?_⟩⟩
    rw [Nat.zero_add]
    exact h.cell i hi

theorem Own.kept {w w' : World} {B : Nat} {v : Value} {zs : List Int} (h : Own w B v zs) (hb : ∀ g, B ≤ g → g < w.heap.size → w'.heap[g]? = w.heap[g]?) : Own w' B v zs := by
  refine ⟨h.1, ?_⟩
  rcases h.2 with h0 | ⟨g, cap, cur, hv, hB, hh, r⟩
  · exact .inl h0
  · refine .inr ⟨g, cap, cur, hv, hB, ?_, r⟩
    rcases Nat.lt_or_ge g w.heap.size with hlt | hge
    · rw [hb g hB hlt]; exact hh
    · rw [Array.getElem?_eq_none hge] at hh; cases hh

theorem Own.below {w w' : World} {B : Nat} {v : Value} {zs : List Int} (h : Own w B v zs) (hb : Below w.heap.size w w') : Own w' B v zs :=
  h.kept fun g _ hg => hb.block g hg

theorem Own.alloc {w : World} {B : Nat} {v : Value} {zs : List Int} (h : Own w B v zs) (o : Obj) : Own (w.alloc o) B v zs := World.ownsRow.alloc h o
theorem Own.drewN {w : World} {B : Nat} {v : Value} {zs : List Int} (h : Own w B v zs) (n : Nat) : Own (w.drewN n) B v zs := h

theorem Own.block {w : World} {B : Nat} {v : Value} {zs : List Int} (h : Own w B v zs) : ∀ k, v.ownBlock = some k → B ≤ k := fun k hk => (World.ownsRow.lt h k hk).1

end Go.Proofs.Ytlnllbcpbohahaa

/- Rows of ints made by 'make', known whole. -/
namespace Go.Proofs.Ytlnllbcpbohahaa
open Go.RowKit

/-- block g is just the numbers zs -/
def Row (w : World) (g : Nat) (zs : List Int) : Prop := w.heap[g]? = some (.cells (zs.map (Value.int .i64)).toArray 3 (0, 0))
/-- block g is one variable of type t -/
def Box (w : World) (g : Nat) (t : TypeId) (v : Value) : Prop := w.heap[g]? = some (.cells #[v] t (0, 0))

theorem lt_of_block {w : World} {g : Nat} {o : Obj} (h : w.heap[g]? = some o) : g < w.heap.size := by
  rcases Nat.lt_or_ge g w.heap.size with hlt | hge
  · exact hlt
  · rw [Array.getElem?_eq_none hge] at h; cases h

section
variable {w w' : World} {g : Nat} {zs : List Int} {t : TypeId} {v : Value}
theorem Row.lt (h : Row w g zs) : g < w.heap.size := lt_of_block h
theorem Box.lt (h : Box w g t v) : g < w.heap.size := lt_of_block h
theorem Row.cell (h : Row w g zs) (i : Nat) (hi : i < zs.length) : w.cell? ⟨g, i, none⟩ = some (.int .i64 (zs.getD i 0)) := by
  unfold Row at h
  simp [World.cell?, h, List.getD, hi]
theorem Row.frozen (h : Row w g zs) (i : Nat) : w.frozen? ⟨g, i, none⟩ = false := by
  unfold Row at h
  simp [World.frozen?, h]
theorem Box.cell (h : Box w g t v) : w.cell? ⟨g, 0, none⟩ = some v := by
  unfold Box at h
  simp [World.cell?, h]
theorem Box.frozen (h : Box w g t v) : w.frozen? ⟨g, 0, none⟩ = false := by
  unfold Box at h
  simp [World.frozen?, h]
theorem Row.set_ (h : Row w g zs) (i : Nat) (x : Int) : Row (w.setCell ⟨g, i, none⟩ (.int .i64 x)) g (zs.set i x) := by
  unfold Row at h ⊢
  simp [World.setCell, Array.getElem?_modify, h]
theorem Box.set_ (h : Box w g t v) (u : Value) : Box (w.setCell ⟨g, 0, none⟩ u) g t u := by
  unfold Box at h ⊢
  simp [World.setCell, Array.getElem?_modify, h]
theorem Row.far (h : Row w g zs) {p : Addr} (hp : g ≠ p.block) (u : Value) : Row (w.setCell p u) g zs := (Below.heap_setCell w p u g hp).trans h
theorem Box.far (h : Box w g t v) {p : Addr} (hp : g ≠ p.block) (u : Value) : Box (w.setCell p u) g t v := (Below.heap_setCell w p u g hp).trans h
theorem Row.alloc (h : Row w g zs) (o : Obj) : Row (w.alloc o) g zs := (Below.heap_alloc w o g h.lt).trans h
theorem Box.alloc (h : Box w g t v) (o : Obj) : Box (w.alloc o) g t v := (Below.heap_alloc w o g h.lt).trans h
theorem Row.drewN (h : Row w g zs) (n : Nat) : Row (w.drewN n) g zs := h
theorem Row.drew (h : Row w g zs) : Row w.drew g zs := h
theorem Box.drewN (h : Box w g t v) (n : Nat) : Box (w.drewN n) g t v := h
theorem Box.drew (h : Box w g t v) : Box w.drew g t v := h
theorem Row.below {B : Nat} (h : Row w g zs) (hb : Below B w w') (hg : g < B) : Row w' g zs := (hb.block g hg).trans h
theorem Box.below {B : Nat} (h : Box w g t v) (hb : Below B w w') (hg : g < B) : Box w' g t v := (hb.block g hg).trans h
theorem Box.new (w : World) (t : TypeId) (v : Value) : Box (w.alloc (.cells #[v] t)) w.heap.size t v := heap_alloc_new w _
theorem Row.own (h : Row w g zs) {B : Nat} (hB : B ≤ g) (hl : zs.length ≤ maxLen) : Own w B (.slice (some ⟨g, 0, none⟩) zs.length zs.length) zs :=
  ⟨by simp, .inr ⟨g, zs.length, _, rfl, hB, h, Nat.le_refl _, hl, by simp, by simp [List.take_of_length_le]⟩⟩
theorem Row.ints (h : Row w g zs) (hl : zs.length ≤ maxLen) (hr : ∀ n ∈ zs, -9223372036854775808 ≤ n ∧ n ≤ 9223372036854775807) : Ints w (some ⟨g, 0, none⟩) zs :=
  ⟨hl, hr, .inr ⟨g, 0, rfl, h.lt, fun i hi => by rw [Nat.zero_add]; exact h.cell i hi⟩⟩
end

/-- n noughts, as cells -/
def zeros (n : Nat) : Array Value := madeCells #[.int .i64 0] n
theorem Row.made (w : World) (n : Nat) : Row (w.alloc (.cells (zeros n) 3)) w.heap.size (List.replicate n 0) := by
  have e : zeros n = ((List.replicate n 0).map (Value.int .i64)).toArray := by
    apply Array.toList_inj.1
    simp [zeros, toList_madeCells_one]
  rw [e]; exact heap_alloc_new w _

/-! a row of the call's own, whatever its room: stores -/
theorem Own.set_ {w : World} {B g n cap : Nat} {zs : List Int} (h : Own w B (.slice (some ⟨g, 0, none⟩) n cap) zs) (i : Nat) (x : Int) :
    Own (w.setCell ⟨g, i, none⟩ (.int .i64 x)) B (.slice (some ⟨g, 0, none⟩) n cap) (zs.set i x) := by
  have hn : n = zs.length := by
    rcases h.2 with ⟨h0, _⟩ | ⟨g', cap', cur, h0, _⟩
    · cases h0
    · injection h0
  subst hn
  have := (World.ownsRow.stored h i (.int .i64 x)).1
  unfold Own
  rw [List.length_set, List.map_set]
  exact this
theorem Own.frozen {w : World} {B g n cap : Nat} {zs : List Int} (h : Own w B (.slice (some ⟨g, 0, none⟩) n cap) zs) (i : Nat) : w.frozen? ⟨g, i, none⟩ = false := by
  have hn : n = zs.length := by
    rcases h.2 with ⟨h0, _⟩ | ⟨g', cap', cur, h0, _⟩
    · cases h0
    · injection h0
  subst hn
  exact World.ownsRow.frozenAt h i
theorem Own.far {w : World} {B g n cap : Nat} {zs : List Int} (h : Own w B (.slice (some ⟨g, 0, none⟩) n cap) zs) {p : Addr} (hp : g ≠ p.block) (u : Value) :
    Own (w.setCell p u) B (.slice (some ⟨g, 0, none⟩) n cap) zs := by
  refine ⟨h.1, ?_⟩
  rcases h.2 with ⟨h0, _⟩ | ⟨g', cap', cur, h0, hB, hh, r⟩
  · cases h0
  · refine .inr ⟨g', cap', cur, h0, hB, ?_, r⟩
    have : g' = g := by injection h0 with h1; injection h1 with h1; injection h1 with h1; exact h1.symm
    subst this
    rw [Below.heap_setCell w p u _ hp]; exact hh
theorem Own.empty (w : World) (B : Nat) (hB : B ≤ w.heap.size) : Own (w.alloc (.cells #[] 3)) B (.slice (some ⟨w.heap.size, 0, none⟩) 0 0) [] :=
  World.ownsRow_lit w #[] 0 hB (Nat.zero_le _) rfl
theorem Own.ge {w : World} {B g n cap : Nat} {zs : List Int} (h : Own w B (.slice (some ⟨g, 0, none⟩) n cap) zs) : B ≤ g ∧ g < w.heap.size := by
  rcases h.form with ⟨h0, _⟩ | ⟨g', c', h0, h1, h2, _⟩
  · cases h0
  · injection h0 with h1'; injection h1' with h1'; injection h1' with h1'
    subst h1'; exact ⟨h1, h2⟩

/-- two rows of the call's own, in different blocks -/
def Two (w : World) (B : Nat) (v : Value) (zs : List Int) (u : Value) (ys : List Int) : Prop :=
  Own w B v zs ∧ Own w B u ys ∧ ∃ g h, v.ownBlock = some g ∧ u.ownBlock = some h ∧ g ≠ h ∧ g < w.heap.size ∧ h < w.heap.size

theorem Two.swap {w : World} {B : Nat} {v u : Value} {zs ys : List Int} (h : Two w B v zs u ys) : Two w B u ys v zs := by
  obtain ⟨a, b, g, k, e1, e2, e3, e4, e5⟩ := h
  exact ⟨b, a, k, g, e2, e1, fun e => e3 e.symm, e5, e4⟩
theorem Two.below {w w' : World} {B : Nat} {v u : Value} {zs ys : List Int} (h : Two w B v zs u ys) (hb : Below w.heap.size w w') : Two w' B v zs u ys := by
  obtain ⟨a, b, g, k, e1, e2, e3, e4, e5⟩ := h
  exact ⟨a.below hb, b.below hb, g, k, e1, e2, e3, Nat.lt_of_lt_of_le e4 hb.size, Nat.lt_of_lt_of_le e5 hb.size⟩

end Go.Proofs.Ytlnllbcpbohahaa

/- Slices of values of one cell each, of whatever type: what a slice holds, and slices that the call itself makes. -/
namespace Go.Proofs.Ytlnllbcpbohahaa
open Go.RowKit

/-- a slice at A holds the values vs, in w -/
def Vals (w : World) (A : Option Addr) (vs : List Value) : Prop :=
  vs.length ≤ maxLen ∧ (vs = [] ∨ ∃ b off, A = some ⟨b, off, none⟩ ∧ b < w.heap.size ∧ ∀ i, i < vs.length → w.cell? ⟨b, off + i, none⟩ = vs[i]?)

section
variable {w w' : World} {A : Option Addr} {vs : List Value}
theorem Vals.get (h : Vals w A vs) {k : Nat} (hk : k < vs.length) : ∃ b off, A = some ⟨b, off, none⟩ ∧ b < w.heap.size ∧ w.cell? ⟨b, off + k, none⟩ = some vs[k] := by
  rcases h.2 with h0 | ⟨b, off, rfl, hb, hc⟩
  · subst h0; simp at hk
  · exact ⟨b, off, rfl, hb, by rw [hc k hk, List.getElem?_eq_getElem hk]⟩
theorem Vals.len (h : Vals w A vs) : vs.length ≤ 9223372036854775807 := h.1
theorem Vals.keep (h : Vals w A vs) (hz : w.heap.size ≤ w'.heap.size) (hk : ∀ b o, b < w.heap.size → w'.cell? ⟨b, o, none⟩ = w.cell? ⟨b, o, none⟩) : Vals w' A vs := by
  refine ⟨h.1, ?_⟩
  rcases h.2 with h | ⟨b, off, rfl, hb, hc⟩
  · exact .inl h
  · exact .inr ⟨b, off, rfl, by omega, fun i hi => by rw [hk _ _ hb]; exact hc i hi⟩
theorem Vals.below (h : Vals w A vs) (hb : Below w.heap.size w w') : Vals w' A vs := h.keep hb.size fun b o hlt => hb.cell (p := ⟨b, o, none⟩) hlt
theorem Vals.drewN (h : Vals w A vs) (n : Nat) : Vals (w.drewN n) A vs := h
theorem Vals.drew (h : Vals w A vs) : Vals w.drew A vs := h
theorem Vals.nil (w : World) (A : Option Addr) : Vals w A [] := ⟨by simp, .inl rfl⟩
theorem Vals.take_ (h : Vals w A vs) (n : Nat) : Vals w A (vs.take n) := by
  refine ⟨by rw [List.length_take]; have := h.1; omega, ?_⟩
  rcases h.2 with h | ⟨b, off, rfl, hb, hc⟩
  · exact .inl (by rw [h]; simp)
  · refine .inr ⟨b, off, rfl, hb, fun i hi => ?_⟩
    rw [List.length_take] at hi
    rw [hc i (by omega), List.getElem?_take_of_lt (by omega)]
theorem Vals.drop_ {b off : Nat} (h : Vals w (some ⟨b, off, none⟩) vs) (n : Nat) : Vals w (some ⟨b, off + n, none⟩) (vs.drop n) := by
  refine ⟨by rw [List.length_drop]; have := h.1; omega, ?_⟩
  rcases h.2 with h | ⟨b', off', e, hb, hc⟩
  · exact .inl (by rw [h]; simp)
  · injection e with e
    injection e with e1 e2
    subst e1 e2
    refine .inr ⟨_, _, rfl, hb, fun i hi => ?_⟩
    rw [List.length_drop] at hi
    rw [Nat.add_assoc, hc (n + i) (by omega), List.getElem?_drop]
theorem Vals.of_row {x : Addr} {len : Nat} {vs : List Value} (hm : vs.length ≤ maxLen) (hcell : ∀ i, i < vs.length → w.cell? (x.add i) = vs[i]?) : Vals w (some x) (vs.take len) := by
  refine Vals.take_ (⟨hm, ?_⟩ : Vals w (some x) vs) len
  rcases Nat.eq_zero_or_pos vs.length with h0 | h0
  · exact .inl (List.eq_nil_of_length_eq_zero h0)
  · obtain ⟨b, off, spot⟩ := x
    have hc := hcell 0 h0
    rw [List.getElem?_eq_getElem h0] at hc
    have hspot : spot = none := by simpa [Addr.add] using World.cell?_spot hc
    subst hspot
    refine .inr ⟨b, off, rfl, World.block_lt_of_cell? _ _ hc, fun i hi => ?_⟩
    have := hcell i hi
    have e : (⟨b, off, none⟩ : Addr).add i = ⟨b, off + i, none⟩ := by
      unfold Addr.add
      by_cases h0 : i = 0
      · subst h0; simp
      · simp [h0]
    rwa [e] at this
end

/-! bytes and texts -/
def byteV (c : UInt8) : Value := .int .u8 c.toNat
def Bytes (w : World) (A : Option Addr) (l : List UInt8) : Prop := Vals w A (l.map byteV)
def Strs (w : World) (A : Option Addr) (l : List ByteArray) : Prop := Vals w A (l.map Value.string) ∧ ∀ s ∈ l, s.size ≤ maxLen
section
variable {w w' : World} {A : Option Addr}
/-- byte k, under a name of its own -/
theorem Bytes.get {l : List UInt8} (h : Bytes w A l) {k : Nat} (hk : k < l.length) :
    ∃ b off, ∃ n : Int, A = some ⟨b, off, none⟩ ∧ b < w.heap.size ∧ w.cell? ⟨b, off + k, none⟩ = some (.int .u8 n) ∧ Hid ((l[k].toNat : Int) = n) ∧ 0 ≤ n ∧ n ≤ 255 := by
  obtain ⟨b, off, rfl, hb, hc⟩ := Vals.get h (k := k) (by rw [List.length_map]; exact hk)
  have := l[k].toNat_lt
  exact ⟨b, off, _, rfl, hb, by rw [hc, List.getElem_map]; rfl, rfl, by omega, by omega⟩
theorem Bytes.len {l : List UInt8} (h : Bytes w A l) : l.length ≤ 9223372036854775807 := by have := h.1; rw [List.length_map] at this; exact this
theorem Bytes.below {l : List UInt8} (h : Bytes w A l) (hb : Below w.heap.size w w') : Bytes w' A l := Vals.below h hb
theorem Bytes.drewN {l : List UInt8} (h : Bytes w A l) (n : Nat) : Bytes (w.drewN n) A l := h
theorem Bytes.nil (w : World) (A : Option Addr) : Bytes w A [] := Vals.nil w A
theorem Bytes.take_ {l : List UInt8} (h : Bytes w A l) (n : Nat) : Bytes w A (l.take n) := by unfold Bytes; rw [List.map_take]; exact Vals.take_ h n
theorem Bytes.drop_ {b off : Nat} {l : List UInt8} (h : Bytes w (some ⟨b, off, none⟩) l) (n : Nat) : Bytes w (some ⟨b, off + n, none⟩) (l.drop n) := by unfold Bytes; rw [List.map_drop]; exact Vals.drop_ h n
theorem Strs.get {l : List ByteArray} (h : Strs w A l) {k : Nat} (hk : k < l.length) :
    ∃ b off s, A = some ⟨b, off, none⟩ ∧ b < w.heap.size ∧ w.cell? ⟨b, off + k, none⟩ = some (.string s) ∧ Hid (l[k] = s) ∧ s.size ≤ 9223372036854775807 := by
  obtain ⟨b, off, rfl, hb, hc⟩ := Vals.get h.1 (k := k) (by rw [List.length_map]; exact hk)
  exact ⟨b, off, _, rfl, hb, by rw [hc, List.getElem_map], rfl, h.2 _ (List.getElem_mem hk)⟩
theorem Strs.len {l : List ByteArray} (h : Strs w A l) : l.length ≤ 9223372036854775807 := by have := h.1.1; rw [List.length_map] at this; exact this
theorem Strs.below {l : List ByteArray} (h : Strs w A l) (hb : Below w.heap.size w w') : Strs w' A l := ⟨h.1.below hb, h.2⟩
theorem Strs.drewN {l : List ByteArray} (h : Strs w A l) (n : Nat) : Strs (w.drewN n) A l := h
theorem Strs.nil (w : World) (A : Option Addr) : Strs w A [] := ⟨Vals.nil w A, by simp⟩
end

/-- the slice v, in memory from block B on, of elements of type t, holds the values vs -/
def OwnV (w : World) (B : Nat) (t : TypeId) (v : Value) (vs : List Value) : Prop := w.ownsRow B t 1 v vs.length vs
section
variable {w w' : World} {B : Nat} {t : TypeId} {v : Value} {vs : List Value}
theorem OwnV.nil (w : World) (B : Nat) (t : TypeId) : OwnV w B t (.slice none 0 0) [] := World.ownsRow_nil _ _ _ _
theorem OwnV.form (h : OwnV w B t v vs) : (v = .slice none 0 0 ∧ vs = []) ∨ ∃ g cap, v = .slice (some ⟨g, 0, none⟩) vs.length cap ∧ B ≤ g ∧ g < w.heap.size ∧ vs.length ≤ cap := by
  rcases h.2 with ⟨rfl, h0⟩ | ⟨g, cap, cur, rfl, hB, hh, hn, _⟩
  · exact .inl ⟨rfl, List.eq_nil_of_length_eq_zero h0⟩
  · refine .inr ⟨g, cap, rfl, hB, ?_, hn⟩
    rcases Nat.lt_or_ge g w.heap.size with hlt | hge
    · exact hlt
    · rw [Array.getElem?_eq_none hge] at hh; cases hh
theorem OwnV.len (h : OwnV w B t v vs) : vs.length ≤ maxLen := by
  rcases h.2 with ⟨_, h0⟩ | ⟨g, cap, cur, _, _, _, hn, hm, _⟩
  · rw [h0]; exact Nat.zero_le _
  · exact Nat.le_trans hn hm
theorem OwnV.vals (h : OwnV w B t v vs) : ∃ A cap, v = .slice A vs.length cap ∧ Vals w A vs := by
  have hl := h.len
  rcases h.2 with ⟨rfl, h0⟩ | ⟨g, cap, cur, rfl, hB, hh, hn, hm, hs, ht⟩
  · have := List.eq_nil_of_length_eq_zero h0
    subst this
    exact ⟨none, 0, rfl, Vals.nil _ _⟩
  · have hg : g < w.heap.size := by
      rcases Nat.lt_or_ge g w.heap.size with hlt | hge
      · exact hlt
      · rw [Array.getElem?_eq_none hge] at hh; cases hh
    refine ⟨_, cap, rfl, hl, .inr ⟨g, 0, rfl, hg, fun i hi => ?_⟩⟩
    rw [Nat.zero_add, World.ownsRow.cellAt h i (by omega), List.getElem?_eq_getElem hi]
theorem OwnV.kept (h : OwnV w B t v vs) (hb : ∀ g, B ≤ g → g < w.heap.size → w'.heap[g]? = w.heap[g]?) : OwnV w' B t v vs := by
  refine ⟨h.1, ?_⟩
  rcases h.2 with h0 | ⟨g, cap, cur, hv, hB, hh, r⟩
  · exact .inl h0
  · refine .inr ⟨g, cap, cur, hv, hB, ?_, r⟩
    rcases Nat.lt_or_ge g w.heap.size with hlt | hge
    · rw [hb g hB hlt]; exact hh
    · rw [Array.getElem?_eq_none hge] at hh; cases hh
theorem OwnV.below (h : OwnV w B t v vs) (hb : Below w.heap.size w w') : OwnV w' B t v vs := h.kept fun g _ hg => hb.block g hg
theorem OwnV.alloc (h : OwnV w B t v vs) (o : Obj) : OwnV (w.alloc o) B t v vs := World.ownsRow.alloc h o
theorem OwnV.drewN (h : OwnV w B t v vs) (n : Nat) : OwnV (w.drewN n) B t v vs := h
theorem OwnV.block (h : OwnV w B t v vs) : ∀ k, v.ownBlock = some k → B ≤ k := fun k hk => (World.ownsRow.lt h k hk).1
end

/-- 's = append(s, x)', the new element in a block of its own just made -/
theorem wpList_pushV {P : Program} {ops : Array Oper} {rest : List Oper} {o : Oper} {a : Act} {Q : Exit → Act → World → Prop} (w : World) (x : Value) (hx1 : x.oneCell' = true) (B : Nat) (vs : List Value) (s y : Operand) (ts t : TypeId) (bytes : Nat) (z : Value)
    (hu : P.underlying ts = some (.slice t)) (hinfo : (P.info? t).map (fun i => (i.zero, i.size, i.bytes)) = some (some z, 1, bytes)) (hz : z.cells.size = 1)
    (hgd : o.guard = none) (ho : o.op = .call { callee := .builtin .append, args := #[s, y], argTypes := #[ts, ts] })
    (v : Value) (hs : a.eval s = v) (hx : a.eval y = .slice (some ⟨w.heap.size, 0, none⟩) 1 1) (hown : OwnV w B t v vs) (hl : (vs.length + 1) * bytes ≤ 140737488355328) (hm : vs.length + 1 ≤ maxLen) (hB : B ≤ w.heap.size)
    (h : ∀ v' w', OwnV w' B t v' (vs ++ [x]) → Below B w w' → w.heap.size ≤ w'.heap.size → w.grownBy w' v.ownBlock → wpList P ops Q rest (a.put o.dst v') w') :
    wpList P ops Q (o :: rest) a (w.alloc (.cells #[x] t)) := by
  obtain ⟨i0, hi, hz0, hz1, hz2⟩ := info_parts hinfo
  refine wpList_append_own (w.alloc (.cells #[x] t)) hgd s y ts ho B t i0 z 1 bytes hu hi hz0 hz1 hz2 hz (by decide) v vs.length vs hs (OwnV.alloc hown _)
    ⟨w.heap.size, 0, none⟩ 1 1 [x] hx rfl ?_ ?_ hm hl (by simp; omega) ?_
  · intro j u hj
    match j, hj with
    | 0, hj => simp at hj; subst hj; simp [Addr.add]
  · intro u hu; simp at hu; subst hu; exact hx1
  · intro v' w' h1 h2 _
    have hg : w.grownBy w' v.ownBlock := (World.grownBy_alloc w _ v.ownBlock).trans h2
    refine h v' w' (by unfold OwnV; simpa using h1) ?_ hg.size hg
    exact (Below.refl B w).grown hg hB (OwnV.block hown)
end Go.Proofs.Ytlnllbcpbohahaa

/- Strings and their bytes. -/
namespace Go.Proofs.Ytlnllbcpbohahaa
open Go.RowKit

/-- a string's bytes -/
def L (s : ByteArray) : List UInt8 := s.data.toList
/-- the string of some bytes -/
def S (l : List UInt8) : ByteArray := ⟨l.toArray⟩
theorem L_S (l : List UInt8) : L (S l) = l := by simp [L, S]
theorem S_L (s : ByteArray) : S (L s) = s := by
  obtain ⟨d⟩ := s
  show ByteArray.mk d.toList.toArray = _
  rw [Array.toArray_toList]
theorem L_len (s : ByteArray) : (L s).length = s.size := Array.length_toList
theorem S_size (l : List UInt8) : (S l).size = l.length := List.size_toArray
theorem L_toList (s : ByteArray) : s.toList = L s := ByteArray.toList_eq s
theorem L_get (s : ByteArray) (k : Nat) (h : k < s.size) : (L s)[k]'(by rw [L_len]; exact h) = s[k] := by simp [L, ByteArray.getElem_eq_getElem_data]
theorem L_take_succ (s : ByteArray) (k : Nat) (h : k < s.size) : (L s).take (k + 1) = (L s).take k ++ [s[k]] := by
  rw [WM.take_snoc (L s) k (by rw [L_len]; exact h), L_get s k h]
theorem L_take_all (s : ByteArray) : (L s).take s.size = L s := List.take_of_length_le (by rw [L_len]; exact Nat.le_refl _)
theorem L_extract (s : ByteArray) (a b : Nat) : L (s.extract a b) = ((L s).take b).drop a := by
  simp [L, ByteArray.data_extract, List.drop_take]
theorem L_append (a b : ByteArray) : L (a ++ b) = L a ++ L b := by simp [L, ByteArray.data_append]
theorem L_inj {a b : ByteArray} (h : L a = L b) : a = b := by rw [← S_L a, ← S_L b, h]
theorem L_head (s : ByteArray) (h : 0 < s.size) : (L s).headD 0 = s[0] := by
  rw [← L_get s 0 h]
  have hl : 0 < (L s).length := by rw [L_len]; exact h
  rw [List.headD_eq_head?_getD, List.head?_eq_getElem?, List.getElem?_eq_getElem hl]
  rfl
theorem L_nil {s : ByteArray} (h : s.size = 0) : L s = [] := List.eq_nil_of_length_eq_zero (by rw [L_len]; exact h)
theorem isEmpty_false {s : ByteArray} (h : 0 < s.size) : s.toList.isEmpty = false := by
  rw [L_toList, List.isEmpty_eq_false_iff]
  intro e
  have := L_len s
  rw [e] at this; simp at this; omega
theorem isEmpty_true {s : ByteArray} (h : s.size = 0) : s.toList.isEmpty = true := by
  rw [L_toList, L_nil h]; rfl
theorem beq_t {a b : Int} (h : a = b) : (a == b) = true := by simpa using h
theorem beq_f {a b : Int} (h : ¬ a = b) : (a == b) = false := by simpa using h
end Go.Proofs.Ytlnllbcpbohahaa

/- Contracts of the small functions of layer 3 that look at bytes and digits. -/
namespace Go.Proofs.Ytlnllbcpbohahaa
open Go.RowKit

theorem isLetter_any (c : UInt8) (w : World) :
    Calls Try.prog 50 #[.int .u8 (c.toNat : Int)] w fun e w' => e = .returned (.bool (WM.letter c)) ∧ w = w' := by
  by_cases h1 : 97 ≤ (c.toNat : Int)
  · by_cases h2 : (c.toNat : Int) ≤ 122
    · rw [WM.letter_true.2 ⟨h1, h2⟩]
      go_enter Try.func50, Try.ntmps50
      go_wp2
      go_ret
      exact ⟨rfl, rfl⟩
    · rw [WM.letter_false.2 (by omega)]
      go_enter Try.func50, Try.ntmps50
      go_wp2
      go_ret
      exact ⟨rfl, rfl⟩
  · rw [WM.letter_false.2 (by omega)]
    go_enter Try.func50, Try.ntmps50
    go_wp2
    go_ret
    exact ⟨rfl, rfl⟩

theorem isDigit_any (c : UInt8) (w : World) :
    Calls Try.prog 51 #[.int .u8 (c.toNat : Int)] w fun e w' => e = .returned (.bool (WM.dig c)) ∧ w = w' := by
  by_cases h1 : 48 ≤ (c.toNat : Int)
  · by_cases h2 : (c.toNat : Int) ≤ 57
    · rw [WM.dig_true.2 ⟨h1, h2⟩]
      go_enter Try.func51, Try.ntmps51
      go_wp2
      go_ret
      exact ⟨rfl, rfl⟩
    · rw [WM.dig_false.2 (by omega)]
      go_enter Try.func51, Try.ntmps51
      go_wp2
      go_ret
      exact ⟨rfl, rfl⟩
  · rw [WM.dig_false.2 (by omega)]
    go_enter Try.func51, Try.ntmps51
    go_wp2
    go_ret
    exact ⟨rfl, rfl⟩

theorem all_step {p : UInt8 → Bool} {s : ByteArray} {k : Nat} (h : k < s.size) (ha : ((L s).take k).all p = true) (hk : p s[k] = true) : ((L s).take (k + 1)).all p = true := by
  rw [L_take_succ s k h, WM.all_snoc, ha, hk]; rfl
theorem all_not {p : UInt8 → Bool} {s : ByteArray} {k : Nat} (h : k < s.size) (hk : p s[k] = false) : (L s).all p = false :=
  WM.not_all k (by rw [L_len]; exact h) (by rw [L_get s k h]; exact hk)

end Go.Proofs.Ytlnllbcpbohahaa

/- Contracts: names. -/
namespace Go.Proofs.Ytlnllbcpbohahaa
open Go.RowKit
set_option linter.unusedVariables false

def lord (c : UInt8) : Bool := WM.letter c || WM.dig c
theorem name_eq (l : List UInt8) : WM.name l = (l.all lord && WM.letter (l.headD 0) && decide (l.length ≤ 12)) := rfl

set_option maxHeartbeats 1000000 in
theorem name_any (s : ByteArray) (w : World) (hs : s.size ≤ 9223372036854775807) :
    Calls Try.prog 35 #[.string s] w fun e w' => e = .returned (.bool (WM.name (L s))) ∧ w = w' := by
  have HQ := name_eq (L s)
  generalize hv : WM.name (L s) = v at *
  clear hv
  rw [L_len] at HQ
  by_cases h0 : s.size = 0
  · rw [L_nil h0] at HQ
    have HN : Hid (v = false) := Lib.hid (by rw [HQ]; rfl)
    clear HQ
    have c0 : ((s.size : Int) == 0) = true := beq_t (by omega)
    go_enter Try.func35, Try.ntmps35
    go_wp2
    go_ret
    exact ⟨by rw [HN.out]; rfl, rfl⟩
  · have hp : 0 < s.size := by omega
    rw [L_head s hp] at HQ
    have c0 : ((s.size : Int) == 0) = false := beq_f (by omega)
    clear h0
    by_cases h1 : 12 < s.size
    · have HN : Hid (v = false) := Lib.hid (by
        rw [HQ, show decide (s.size ≤ 12) = false by simp; omega]; simp)
      clear HQ
      go_enter Try.func35, Try.ntmps35
      go_wp2
      go_ret
      exact ⟨by rw [HN.out]; rfl, rfl⟩
    · have e1 : decide (s.size ≤ 12) = true := by simp; omega
      rw [e1] at HQ
      clear e1
      cases hl : WM.letter s[0]
      · have HN : Hid (v = false) := Lib.hid (by rw [HQ, hl]; simp)
        clear HQ
        go_enter Try.func35, Try.ntmps35
        go_wp2_with (go_at_call 50; refine (isLetter_any _ _).mono ?_; rintro e w' ⟨rfl, rfl⟩)
        go_ret
        exact ⟨by rw [HN.out]; rfl, rfl⟩
      · have HN : Hid (v = (L s).all lord) := Lib.hid (by rw [HQ, hl]; simp)
        clear HQ
        go_enter Try.func35, Try.ntmps35
        go_wp2_with (go_at_call 50; refine (isLetter_any _ _).mono ?_; rintro e w' ⟨rfl, rfl⟩)
        go_loop [20] (fun i => ∃ k : Nat, k ≤ s.size ∧ i = .int .i64 k ∧ Hid (((L s).take k).all lord = true)) (fun i => s.size - (intOf i).toNat)
        case atStart => exact ⟨0, by omega, rfl, Lib.hid rfl⟩
        case round =>
          clear hl
          obtain ⟨k, hk, rfl, HA⟩ := hrel
          by_cases hlt : k < s.size
          · cases hl : WM.letter s[k]
            · cases hd : WM.dig s[k]
              · have HF := Lib.hid (all_not (p := lord) hlt (by unfold lord; rw [hl, hd]; rfl))
                go_wp2_with (first
                  | (go_at_call 50; refine (isLetter_any _ _).mono ?_; rintro e w' ⟨rfl, rfl⟩)
                  | (go_at_call 51; refine (isDigit_any _ _).mono ?_; rintro e w' ⟨rfl, rfl⟩))
                go_ret
                exact ⟨by rw [HN.out, HF.out]; rfl, rfl⟩
              · have HF := Lib.hid (all_step (p := lord) hlt HA.out (by unfold lord; rw [hl, hd]; rfl))
                go_wp2_with (first
                  | (go_at_call 50; refine (isLetter_any _ _).mono ?_; rintro e w' ⟨rfl, rfl⟩)
                  | (go_at_call 51; refine (isDigit_any _ _).mono ?_; rintro e w' ⟨rfl, rfl⟩))
                go_round
                case rel => exact ⟨k + 1, by omega, by go_num, HF⟩
                case measure => simp [intOf]; omega
            · have HF := Lib.hid (all_step (p := lord) hlt HA.out (by unfold lord; rw [hl]; rfl))
              go_wp2_with (first
                | (go_at_call 50; refine (isLetter_any _ _).mono ?_; rintro e w' ⟨rfl, rfl⟩)
                | (go_at_call 51; refine (isDigit_any _ _).mono ?_; rintro e w' ⟨rfl, rfl⟩))
              go_round
              case rel => exact ⟨k + 1, by omega, by go_num, HF⟩
              case measure => simp [intOf]; omega
          · obtain rfl : k = s.size := by omega
            have HE := HA.out
            rw [L_take_all] at HE
            have HE := Lib.hid HE
            go_wp2
            go_ret
            exact ⟨by rw [HN.out, HE.out]; rfl, rfl⟩

set_option maxHeartbeats 1000000 in
theorem rname_any (s : ByteArray) (w : World) (hs : s.size ≤ 9223372036854775807) :
    Calls Try.prog 28 #[.string s] w fun e w' => e = .returned (.bool (WM.name (L s))) ∧ w = w' := by
  have HQ := name_eq (L s)
  generalize hv : WM.name (L s) = v at *
  clear hv
  rw [L_len] at HQ
  have HQ' := Lib.hid HQ
  clear HQ
  have HQ := HQ'
  clear HQ'
  go_enter Try.func28, Try.ntmps28
  go_wp2
  go_loop [3] (fun i => ∃ k : Nat, k ≤ s.size ∧ i = .int .i64 k ∧ Hid (((L s).take k).all lord = true) ∧ Hid (∀ h : 0 < s.size, 0 < k → WM.letter s[0] = true)) (fun i => s.size - (intOf i).toNat)
  case atStart => exact ⟨0, by omega, rfl, Lib.hid rfl, Lib.hid (fun _ h => by omega)⟩
  case round =>
    obtain ⟨k, hk, rfl, HA, HB⟩ := hrel
    by_cases hlt : k < s.size
    · have hp : 0 < s.size := by omega
      have H0 := Lib.hid (L_head s hp)
      cases hl : WM.letter s[k]
      · by_cases hk0 : k = 0
        · subst hk0
          have HN : Hid (v = false) := Lib.hid (by rw [HQ.out, H0.out, hl]; simp)
          rcases WM.letter_false.1 hl with h | h
          · clear hl
            go_wp2
            go_ret
            exact ⟨by rw [HN.out]; rfl, rfl⟩
          · clear hl
            have h2 : 97 ≤ (s[0].toNat : Int) := by omega
            have h3 : decide ((s[0].toNat : Int) ≤ 122) = false := decide_eq_false (by omega)
            go_wp2
            go_ret
            exact ⟨by rw [HN.out]; rfl, rfl⟩
        · have ck : ((k : Int) == 0) = false := by simp; omega
          have HL := Lib.hid (HB.out hp (by omega))
          cases hd : WM.dig s[k]
          · have HF := all_not (p := lord) hlt (by unfold lord; rw [hl, hd]; rfl)
            have HN : Hid (v = false) := Lib.hid (by rw [HQ.out, HF]; simp)
            clear HF
            rcases WM.letter_false.1 hl with h | h
            · rcases WM.dig_false.1 hd with h' | h'
              · clear hl hd
                go_wp2
                go_ret
                exact ⟨by rw [HN.out]; rfl, rfl⟩
              · clear hl hd
                have h4 : decide ((s[k].toNat : Int) < 48) = false := decide_eq_false (by omega)
                go_wp2
                go_ret
                exact ⟨by rw [HN.out]; rfl, rfl⟩
            · have h' : 57 < (s[k].toNat : Int) := by omega
              have h2 : 97 ≤ (s[k].toNat : Int) := by omega
              have h3 : decide ((s[k].toNat : Int) ≤ 122) = false := decide_eq_false (by omega)
              have h4 : decide ((s[k].toNat : Int) < 48) = false := decide_eq_false (by omega)
              clear hl hd
              go_wp2
              go_ret
              exact ⟨by rw [HN.out]; rfl, rfl⟩
          · have HF := Lib.hid (all_step (p := lord) hlt HA.out (by unfold lord; rw [hl, hd]; rfl))
            obtain ⟨d1, d2⟩ := WM.dig_true.1 hd
            have d3 : (s[k].toNat : Int) < 97 := by omega
            clear hl hd
            go_wp2
            go_round
            case rel => exact ⟨k + 1, by omega, by go_num, HF, Lib.hid (fun _ _ => HL.out)⟩
            case measure => simp [intOf]; omega
      · have HF := Lib.hid (all_step (p := lord) hlt HA.out (by unfold lord; rw [hl]; rfl))
        obtain ⟨d1, d2⟩ := WM.letter_true.1 hl
        have HL : Hid (WM.letter s[0] = true) := Lib.hid (by
          by_cases hk0 : k = 0
          · subst hk0; exact hl
          · exact HB.out hp (by omega))
        clear hl
        go_wp2
        go_round
        case rel => exact ⟨k + 1, by omega, by go_num, HF, Lib.hid (fun _ _ => HL.out)⟩
        case measure => simp [intOf]; omega
    · obtain rfl : k = s.size := by omega
      have HE := HA.out
      rw [L_take_all] at HE
      have HE := Lib.hid HE
      by_cases h0 : s.size = 0
      · have HN : Hid (v = false) := Lib.hid (by rw [HQ.out, L_nil h0]; rfl)
        have c0 : decide (0 < s.size) = false := decide_eq_false (by omega)
        go_wp2
        go_ret
        exact ⟨by rw [HN.out]; rfl, rfl⟩
      · have hp : 0 < s.size := by omega
        have HN : Hid (v = decide (s.size ≤ 12)) := Lib.hid (by rw [HQ.out, HE.out, L_head s hp, HB.out hp hp]; simp)
        by_cases h1 : s.size ≤ 12
        · have HM : Hid (v = true) := Lib.hid (by rw [HN.out]; simpa using h1)
          go_wp2
          go_ret
          exact ⟨by rw [HM.out]; first | rfl | (simp_all; omega), rfl⟩
        · have HM : Hid (v = false) := Lib.hid (by rw [HN.out]; simpa using h1)
          have c1 : decide (s.size ≤ 12) = false := by simpa using h1
          go_wp2
          go_ret
          exact ⟨by rw [HM.out]; first | rfl | (simp_all; omega), rfl⟩
end Go.Proofs.Ytlnllbcpbohahaa

/- Two texts compared: as the walk says it. -/
namespace Go.Proofs.Ytlnllbcpbohahaa
theorem str_t {s t : ByteArray} (h : s = t) : (s.toList == t.toList) = true := by subst h; simp
theorem str_f {s t : ByteArray} (h : s ≠ t) : (s.toList == t.toList) = false := by
  rw [L_toList, L_toList]
  cases e : (L s == L t)
  · rfl
  · exact absurd (L_inj (by simpa using e)) h
end Go.Proofs.Ytlnllbcpbohahaa

/- Contracts of layer 11: boxes, states and kinds, the closures. -/
namespace Go.Proofs.Ytlnllbcpbohahaa
open Go.RowKit Go.Recs
set_option linter.unusedVariables false
set_option linter.unusedSimpArgs false

/-- block g is just the cells cs -/
def CB (w : World) (g : Nat) (t : TypeId) (cs : Array Value) : Prop := w.heap[g]? = some (.cells cs t (0, 0))
section
variable {w w' : World} {g B : Nat} {t : TypeId} {cs : Array Value}
theorem CB.new (w : World) (t : TypeId) (cs : Array Value) : CB (w.alloc (.cells cs t)) w.heap.size t cs := heap_alloc_new w _
theorem CB.below (h : CB w g t cs) (hb : Below B w w') (hg : g < B) : CB w' g t cs := (hb.block g hg).trans h
theorem CB.lt (h : CB w g t cs) : g < w.heap.size := lt_of_block h
theorem CB.cell (h : CB w g t cs) (i : Nat) : w.cell? ⟨g, i, none⟩ = cs[i]? := by unfold CB at h; simp [World.cell?, h]
theorem CB.alloc (h : CB w g t cs) (o : Obj) : CB (w.alloc o) g t cs := (Below.heap_alloc w o g h.lt).trans h
theorem CB.drewN (h : CB w g t cs) (n : Nat) : CB (w.drewN n) g t cs := h
theorem CB.frozen (h : CB w g t cs) (i : Nat) : w.frozen? ⟨g, i, none⟩ = false := by unfold CB at h; simp [World.frozen?, h]
theorem CB.set_ (h : CB w g t cs) (i : Nat) (u : Value) : CB (w.setCell ⟨g, i, none⟩ u) g t (cs.setIfInBounds i u) := by
  unfold CB at h ⊢
  simp [World.setCell, Array.getElem?_modify, h]
theorem CB.far (h : CB w g t cs) {p : Addr} (hp : g ≠ p.block) (u : Value) : CB (w.setCell p u) g t cs := (Below.heap_setCell w p u g hp).trans h
end
abbrev accA (a : MM.Ac) : Value := .agg #[.string a.name, .int .i64 a.kind]
abbrev memA (m : MM.Mem) (A : Option Addr) (cap : Nat) : Value := .agg #[.string m.name, .int .i64 m.status, .slice A m.accs.length cap]
abbrev keyA (n a : ByteArray) : Value := .agg #[.string n, .string a]
abbrev accC (a : MM.Ac) : Array Value := #[.string a.name, .int .i64 a.kind]
abbrev memC (m : MM.Mem) (A : Option Addr) (cap : Nat) : Array Value := #[.string m.name, .int .i64 m.status, .slice A m.accs.length cap]
abbrev keyC (n a : ByteArray) : Array Value := #[.string n, .string a]

theorem isStatus_any (n : Int) (w : World) :
    Calls Try.prog 44 #[.int .i64 n] w fun e w' => e = .returned (.bool (MM.statOk n)) ∧ w = w' := by
  have hc : n = 1 ∨ n = 2 ∨ n = 3 ∨ n = 4 ∨ (¬ n = 1 ∧ ¬ n = 2 ∧ ¬ n = 3 ∧ ¬ n = 4) := by omega
  rcases hc with rfl | rfl | rfl | rfl | ⟨h1, h2, h3, h4⟩
  · go_enter Try.func44, Try.ntmps44
    go_wp2
    go_ret
    exact ⟨rfl, rfl⟩
  · go_enter Try.func44, Try.ntmps44
    go_wp2
    go_ret
    exact ⟨rfl, rfl⟩
  · go_enter Try.func44, Try.ntmps44
    go_wp2
    go_ret
    exact ⟨rfl, rfl⟩
  · go_enter Try.func44, Try.ntmps44
    go_wp2
    go_ret
    exact ⟨rfl, rfl⟩
  · have e : MM.statOk n = false := by unfold MM.statOk; rw [Bool.and_eq_false_iff]; simp only [decide_eq_false_iff_not]; omega
    rw [e]; clear e
    go_enter Try.func44, Try.ntmps44
    go_wp2
    go_ret
    exact ⟨rfl, rfl⟩

theorem isKind_any (n : Int) (w : World) :
    Calls Try.prog 53 #[.int .i64 n] w fun e w' => e = .returned (.bool (MM.kindOk n)) ∧ w = w' := by
  have hc : n = 1 ∨ n = 2 ∨ n = 3 ∨ (¬ n = 1 ∧ ¬ n = 2 ∧ ¬ n = 3) := by omega
  rcases hc with rfl | rfl | rfl | ⟨h1, h2, h3⟩
  · go_enter Try.func53, Try.ntmps53
    go_wp2
    go_ret
    exact ⟨rfl, rfl⟩
  · go_enter Try.func53, Try.ntmps53
    go_wp2
    go_ret
    exact ⟨rfl, rfl⟩
  · go_enter Try.func53, Try.ntmps53
    go_wp2
    go_ret
    exact ⟨rfl, rfl⟩
  · have e : MM.kindOk n = false := by unfold MM.kindOk; rw [Bool.and_eq_false_iff]; simp only [decide_eq_false_iff_not]; omega
    rw [e]; clear e
    go_enter Try.func53, Try.ntmps53
    go_wp2
    go_ret
    exact ⟨rfl, rfl⟩

theorem isWind_any (n : Int) (w : World) :
    Calls Try.prog 49 #[.int .i64 n] w fun e w' => e = .returned (.bool (decide (4 ≤ n) && decide (n ≤ 8))) ∧ w = w' := by
  have hc : n = 4 ∨ n = 5 ∨ n = 6 ∨ n = 7 ∨ n = 8 ∨ (¬ n = 4 ∧ ¬ n = 5 ∧ ¬ n = 6 ∧ ¬ n = 7 ∧ ¬ n = 8) := by omega
  rcases hc with rfl | rfl | rfl | rfl | rfl | ⟨h1, h2, h3, h4, h5⟩
  · go_enter Try.func49, Try.ntmps49
    go_wp2
    go_ret
    exact ⟨rfl, rfl⟩
  · go_enter Try.func49, Try.ntmps49
    go_wp2
    go_ret
    exact ⟨rfl, rfl⟩
  · go_enter Try.func49, Try.ntmps49
    go_wp2
    go_ret
    exact ⟨rfl, rfl⟩
  · go_enter Try.func49, Try.ntmps49
    go_wp2
    go_ret
    exact ⟨rfl, rfl⟩
  · go_enter Try.func49, Try.ntmps49
    go_wp2
    go_ret
    exact ⟨rfl, rfl⟩
  · have e : (decide (4 ≤ n) && decide (n ≤ 8)) = false := by rw [Bool.and_eq_false_iff]; simp only [decide_eq_false_iff_not]; omega
    rw [e]; clear e
    go_enter Try.func49, Try.ntmps49
    go_wp2
    go_ret
    exact ⟨rfl, rfl⟩

theorem allows_any (s act : Int) (w : World) :
    Calls Try.prog 34 #[.int .i64 s, .int .i64 act] w fun e w' => e = .returned (.bool (MM.allows s act)) ∧ w = w' := by
  have C := Lib.hid (fun ww => isWind_any act ww)
  have hc : s = 1 ∨ s = 2 ∨ s = 3 ∨ (¬ s = 1 ∧ ¬ s = 2 ∧ ¬ s = 3) := by omega
  rcases hc with rfl | rfl | rfl | ⟨h1, h2, h3⟩
  · rw [show MM.allows 1 act = true from rfl]
    go_enter Try.func34, Try.ntmps34
    go_wp2
    go_ret
    exact ⟨rfl, rfl⟩
  · have hd : act = 1 ∨ act = 3 ∨ (¬ act = 1 ∧ ¬ act = 3) := by omega
    rcases hd with rfl | rfl | ⟨g1, g2⟩
    · go_enter Try.func34, Try.ntmps34
      go_wp2
      go_ret
      exact ⟨rfl, rfl⟩
    · go_enter Try.func34, Try.ntmps34
      go_wp2
      go_ret
      exact ⟨rfl, rfl⟩
    · rw [show MM.allows 2 act = (act != 1 && act != 3) from rfl]
      go_enter Try.func34, Try.ntmps34
      go_wp2
      go_ret
      exact ⟨rfl, rfl⟩
  · have e : MM.allows 3 act = (decide (4 ≤ act) && decide (act ≤ 8)) := rfl
    rw [e]; clear e
    generalize (decide (4 ≤ act) && decide (act ≤ 8)) = b at *
    go_enter Try.func34, Try.ntmps34
    go_wp2_with fail
    refine (C.out _).mono ?_
    rintro e w1 ⟨rfl, rfl⟩
    go_wp2_with fail
    go_ret
    exact ⟨rfl, rfl⟩
  · have e : MM.allows s act = false := by unfold MM.allows; simp [h1, h2, h3]
    rw [e]; clear e
    go_enter Try.func34, Try.ntmps34
    go_wp2
    go_ret
    exact ⟨rfl, rfl⟩

theorem leads_any (f t : Int) (w : World) :
    Calls Try.prog 43 #[.int .i64 f, .int .i64 t] w fun e w' => e = .returned (.bool (MM.leads f t)) ∧ w = w' := by
  have hc : f = 1 ∨ f = 2 ∨ (¬ f = 1 ∧ ¬ f = 2) := by omega
  rcases hc with rfl | rfl | ⟨h1, h2⟩
  · have hd : t = 2 ∨ t = 3 ∨ t = 4 ∨ (¬ t = 2 ∧ ¬ t = 3 ∧ ¬ t = 4) := by omega
    rcases hd with rfl | rfl | rfl | ⟨g0, g1, g2⟩
    · go_enter Try.func43, Try.ntmps43
      go_wp2
      go_ret
      exact ⟨rfl, rfl⟩
    · go_enter Try.func43, Try.ntmps43
      go_wp2
      go_ret
      exact ⟨rfl, rfl⟩
    · go_enter Try.func43, Try.ntmps43
      go_wp2
      go_ret
      exact ⟨rfl, rfl⟩
    · rw [show MM.leads 1 t = (t == 2 || t == 3 || t == 4) from rfl]
      go_enter Try.func43, Try.ntmps43
      go_wp2
      go_ret
      exact ⟨rfl, rfl⟩
  · have hd : t = 1 ∨ t = 3 ∨ (¬ t = 1 ∧ ¬ t = 3) := by omega
    rcases hd with rfl | rfl | ⟨g0, g1⟩
    · go_enter Try.func43, Try.ntmps43
      go_wp2
      go_ret
      exact ⟨rfl, rfl⟩
    · go_enter Try.func43, Try.ntmps43
      go_wp2
      go_ret
      exact ⟨rfl, rfl⟩
    · rw [show MM.leads 2 t = (t == 1 || t == 3) from rfl]
      go_enter Try.func43, Try.ntmps43
      go_wp2
      go_ret
      exact ⟨rfl, rfl⟩
  · have e : MM.leads f t = false := by unfold MM.leads; simp [h1, h2]
    rw [e]; clear e
    go_enter Try.func43, Try.ntmps43
    go_wp2
    go_ret
    exact ⟨rfl, rfl⟩

/-! the closures -/
theorem mname_any (m : MM.Mem) (A : Option Addr) (cap g : Nat) (n : ByteArray) (w : World) (hb : CB w g 9 #[.string n]) :
    Calls Try.prog 46 #[memA m A cap, .pointer (some ⟨g, 0, none⟩)] w fun e w' => e = .returned (.bool (MM.eq m.name n)) ∧ Below w.heap.size w w' := by
  have HB0 := Lib.hid ((Below.refl w.heap.size w).alloc (Nat.le_refl _) (.cells (memC m A cap) 32))
  have c0 : (w.alloc (.cells (memC m A cap) 32)).cell? ⟨g, 0, none⟩ = some (.string n) := (hb.alloc _).cell 0
  have E : MM.eq m.name n = (m.name.toList == n.toList) := rfl
  rw [E]
  clear E hb
  go_enter Try.func46, Try.ntmps46
  go_wp2_with fail
  go_ret
  exact ⟨rfl, HB0.out⟩
theorem madd_any (m : MM.Mem) (A : Option Addr) (cap g : Nat) (n : ByteArray) (w : World) (hb : CB w g 9 #[.string n]) :
    Calls Try.prog 37 #[memA m A cap, .pointer (some ⟨g, 0, none⟩)] w fun e w' => e = .returned (.bool (MM.lt n m.name)) ∧ Below w.heap.size w w' := by
  have HB0 := Lib.hid ((Below.refl w.heap.size w).alloc (Nat.le_refl _) (.cells (memC m A cap) 32))
  have c0 : (w.alloc (.cells (memC m A cap) 32)).cell? ⟨g, 0, none⟩ = some (.string n) := (hb.alloc _).cell 0
  rw [← MM.gt_eq]
  clear hb
  go_enter Try.func37, Try.ntmps37
  go_wp2_with fail
  go_ret
  exact ⟨rfl, HB0.out⟩
theorem aname_any (a : MM.Ac) (g : Nat) (n : ByteArray) (w : World) (hb : CB w g 9 #[.string n]) :
    Calls Try.prog 48 #[accA a, .pointer (some ⟨g, 0, none⟩)] w fun e w' => e = .returned (.bool (MM.eq a.name n)) ∧ Below w.heap.size w w' := by
  have HB0 := Lib.hid ((Below.refl w.heap.size w).alloc (Nat.le_refl _) (.cells (accC a) 36))
  have c0 : (w.alloc (.cells (accC a) 36)).cell? ⟨g, 0, none⟩ = some (.string n) := (hb.alloc _).cell 0
  have E : MM.eq a.name n = (a.name.toList == n.toList) := rfl
  rw [E]
  clear E hb
  go_enter Try.func48, Try.ntmps48
  go_wp2_with fail
  go_ret
  exact ⟨rfl, HB0.out⟩
theorem aopen_any (a b : MM.Ac) (g : Nat) (w : World) (hb : CB w g 36 (accC a)) :
    Calls Try.prog 54 #[accA b, .pointer (some ⟨g, 0, none⟩)] w fun e w' => e = .returned (.bool (MM.lt a.name b.name)) ∧ Below w.heap.size w w' := by
  have HB0 := Lib.hid ((Below.refl w.heap.size w).alloc (Nat.le_refl _) (.cells (accC b) 36))
  have c0 : (w.alloc (.cells (accC b) 36)).cell? ⟨g, 0, none⟩ = some (.string a.name) := (hb.alloc _).cell 0
  have c1 : (w.alloc (.cells (accC b) 36)).cell? ⟨g, 1, none⟩ = some (.int .i64 a.kind) := (hb.alloc _).cell 1
  rw [← MM.gt_eq]
  clear hb
  go_enter Try.func54, Try.ntmps54
  go_wp2_with fail
  go_ret
  exact ⟨rfl, HB0.out⟩
end Go.Proofs.Ytlnllbcpbohahaa
