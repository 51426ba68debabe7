/- Slices of records whose fields are numbers, texts and bools (records in records too), over any program: what a law's argument reads as, and its cells. -/
import Derived.WalkKit
import Derived.Lib.Hide
import Derived.Deep.Slices
import Derived.OpenShut
import Derived.Deep.Draws
namespace Go.Recs
open Go.ChangeShapes Go.WideShapes Go.RowKit Go.Deep
set_option linter.unusedVariables false

/-- one cell's kind -/
inductive Leaf where
  | int (k : IntKind)
  | str
  | bool
def Leaf.ok : Leaf → Value → Prop
  | .int k, v => ∃ n, v = .int k n ∧ (Lit.int k n).wf = true
  | .str, v => ∃ s : ByteArray, v = .string s ∧ s.size ≤ maxLen
  | .bool, v => ∃ b, v = .bool b
def okAll : List Leaf → List Value → Prop
  | [], [] => True
  | l :: ls, v :: vs => l.ok v ∧ okAll ls vs
  | _, _ => False
theorem okAll_append : ∀ {a b : List Leaf} {x y : List Value}, okAll a x → okAll b y → okAll (a ++ b) (x ++ y) := by
  intro a
  induction a with
  | nil =>
    intro b x y hx hy
    cases x with
    | nil => exact hy
    | cons v x => exact hx.elim
  | cons l a ih =>
    intro b x y hx hy
    cases x with
    | nil => exact hx.elim
    | cons v x => exact ⟨hx.1, ih hx.2 hy⟩
theorem okAll_len : ∀ {a : List Leaf} {x : List Value}, okAll a x → x.length = a.length := by
  intro a
  induction a with
  | nil =>
    intro x h
    cases x with
    | nil => rfl
    | cons v x => exact h.elim
  | cons l a ih =>
    intro x h
    cases x with
    | nil => exact h.elim
    | cons v x => simp [ih h.2]

def fieldsL (P : Program) (g : TypeId → Option (List Leaf)) : Nat → List Field → Option (List Leaf)
  | _, [] => some []
  | off, f :: fs =>
    match g f.type with
    | none => none
    | some l => if f.offset = off ∧ P.cellsOf f.type = l.length then (fieldsL P g (off + l.length) fs).map (l ++ ·) else none
/-- the cells of a type, by kind -/
def leafs (P : Program) : Nat → TypeId → Option (List Leaf)
  | 0, _ => none
  | n + 1, t =>
    match P.underlying t with
    | some (.int k) => some [.int k]
    | some .string => some [.str]
    | some .bool => some [.bool]
    | some (.struct fs) => fieldsL P (leafs P n) 0 fs.toList
    | _ => none

section
variable {H : Type} {enc : TypeId × Value → H} {P : Program} {w : World} {base : Nat} {spare : Nat → Bool} {held : Bool}

theorem fields_ok {g : TypeId → Option (List Leaf)} {k : Nat} {cs : List Value}
    (hg : ∀ t ls cs' y, g t = some ls → cs'.length = ls.length → DataW.trod enc P w base spare held k t cs' = some y → okAll ls cs') :
    ∀ (fs : List Field) (off : Nat) (ls : List Leaf), fieldsL P g off fs = some ls → (∀ f ∈ fs, ∃ y, DataW.trod enc P w base spare held k f.type ((cs.drop f.offset).take (P.cellsOf f.type)) = some y) →
      cs.length = off + ls.length → okAll ls (cs.drop off) := by
  intro fs
  induction fs with
  | nil =>
    intro off ls h _ hl
    simp [fieldsL] at h
    subst h
    rw [List.drop_of_length_le (by simp at hl; omega)]
    trivial
  | cons f fs ih =>
    intro off ls h hr hl
    unfold fieldsL at h
    cases hgf : g f.type with
    | none => rw [hgf] at h; cases h
    | some l =>
      rw [hgf] at h
      by_cases hc : f.offset = off ∧ P.cellsOf f.type = l.length
      · simp only [hc, and_self, if_true] at h
        obtain ⟨m, hm, rfl⟩ := Option.map_eq_some_iff.1 h
        obtain ⟨y, hy⟩ := hr f (by simp)
        rw [hc.1, hc.2] at hy
        rw [List.length_append] at hl
        have h1 := hg f.type l _ y hgf (by rw [List.length_take, List.length_drop]; omega) hy
        have h2 := ih (off + l.length) m hm (fun f' hf' => hr f' (by simp [hf'])) (by omega)
        have e : cs.drop off = (cs.drop off).take l.length ++ cs.drop (off + l.length) := by
          rw [← List.drop_drop, List.take_append_drop]
        rw [e]
        exact okAll_append h1 h2
      · simp only [hc, if_false] at h
        cases h
theorem leafs_ok : ∀ (n : Nat) (t : TypeId) (ls : List Leaf), leafs P n t = some ls → ∀ (fuel : Nat) (cs : List Value) (x : DataW H × List MemPlace), cs.length = ls.length →
    DataW.trod enc P w base spare held fuel t cs = some x → okAll ls cs := by
  intro n
  induction n with
  | zero => intro t ls h; cases h
  | succ n ih =>
    intro t ls h fuel cs x hl hx
    unfold leafs at h
    split at h
    · rename_i k hu
      injection h with h
      subst h
      obtain ⟨m, rfl, _, hw⟩ := DataW.trod_int hu hx
      exact ⟨⟨m, rfl, hw⟩, trivial⟩
    · rename_i hu
      injection h with h
      subst h
      obtain ⟨s, rfl, _, hw⟩ := DataW.trod_string hu hx
      exact ⟨⟨s, rfl, hw⟩, trivial⟩
    · rename_i hu
      injection h with h
      subst h
      obtain ⟨b, rfl, _⟩ := DataW.trod_bool hu hx
      exact ⟨⟨b, rfl⟩, trivial⟩
    · rename_i fs hu
      obtain ⟨xs, k, rfl, _, _, hxl, hf⟩ := DataW.trod_struct hu hx
      have := fields_ok (enc := enc) (w := w) (base := base) (spare := spare) (held := held) (k := k) (cs := cs) (fun t ls cs' y hg hl hy => ih t ls hg k cs' y hl hy) fs.toList 0 ls h (fun f hf' => by
        obtain ⟨i, hi, e⟩ := List.getElem_of_mem hf'
        have hi' : i < fs.size := by simpa using hi
        have hfi : fs[i]? = some f := by rw [Array.getElem?_eq_getElem hi']; simpa using e
        have := hf i f hfi
        rw [List.getElem?_eq_getElem (by omega)] at this
        exact ⟨_, this⟩) (by omega)
      simpa using this
    · cases h

/-- the slice at A holds the records rows, each of sz cells -/
def Recs (w : World) (A : Option Addr) (sz : Nat) (rows : List (List Value)) : Prop :=
  rows.length ≤ maxLen ∧ (∀ r ∈ rows, r.length = sz) ∧
  (rows = [] ∨ ∃ b off, A = some ⟨b, off, none⟩ ∧ b < w.heap.size ∧ ∀ i j, i < rows.length → j < sz → w.cell? ⟨b, off + (i * sz + j), none⟩ = (rows.getD i [])[j]?)

theorem Recs.nil (w : World) (A : Option Addr) (sz : Nat) : Recs w A sz [] := ⟨by simp, by simp, .inl rfl⟩
theorem Recs.len {w : World} {A : Option Addr} {sz : Nat} {rows : List (List Value)} (h : Recs w A sz rows) : rows.length ≤ 9223372036854775807 := h.1
theorem Recs.keep {w w' : World} {A : Option Addr} {sz : Nat} {rows : List (List Value)} (h : Recs w A sz rows) (hz : w.heap.size ≤ w'.heap.size)
    (hk : ∀ b o, b < w.heap.size → w'.cell? ⟨b, o, none⟩ = w.cell? ⟨b, o, none⟩) : Recs w' A sz rows := by
  refine ⟨h.1, h.2.1, ?_⟩
  rcases h.2.2 with h | ⟨b, off, rfl, hb, hc⟩
  · exact .inl h
  · exact .inr ⟨b, off, rfl, by omega, fun i j hi hj => by rw [hk _ _ hb]; exact hc i j hi hj⟩
theorem Recs.below {w w' : World} {A : Option Addr} {sz : Nat} {rows : List (List Value)} (h : Recs w A sz rows) (hb : Below w.heap.size w w') : Recs w' A sz rows :=
  h.keep hb.size fun b o hlt => hb.cell (p := ⟨b, o, none⟩) hlt
theorem Recs.drewN {w : World} {A : Option Addr} {sz : Nat} {rows : List (List Value)} (h : Recs w A sz rows) (n : Nat) : Recs (w.drewN n) A sz rows := h
/-- record k: where it lies, and its cells -/
theorem Recs.get {w : World} {A : Option Addr} {sz : Nat} {rows : List (List Value)} (h : Recs w A sz rows) {k : Nat} (hk : k < rows.length) :
    ∃ b off, A = some ⟨b, off, none⟩ ∧ b < w.heap.size ∧ ∀ j, j < sz → w.cell? ⟨b, off + (k * sz + j), none⟩ = (rows.getD k [])[j]? := by
  rcases h.2.2 with h | ⟨b, off, rfl, hb, hc⟩
  · subst h; simp at hk
  · exact ⟨b, off, rfl, hb, fun j hj => hc k j hk hj⟩

theorem add_at (b off n : Nat) : (⟨b, off, none⟩ : Addr).add n = ⟨b, off + n, none⟩ := by
  unfold Addr.add
  by_cases h0 : n = 0
  · subst h0; simp
  · simp [h0]

theorem open_recs {t e : TypeId} {sz n : Nat} {ls : List Leaf} {v : Value} {d : DataW H} {p : List MemPlace} {b0 : Nat} {r : Reach} (ht : P.underlying t = some (.slice e)) (hls : leafs P n e = some ls) (hsz : P.cellsOf e = sz) (hlz : ls.length = sz) (h0 : 0 < sz)
    (hval : Value.okWide P w r b0 t v) (h : DataW.Trod enc P w base spare held t v d p) :
    ∃ A cap rows, v = .slice A (List.length rows) cap ∧ Recs w A sz rows ∧ (∀ r ∈ rows, okAll ls r) ∧ rows.length ≤ cap := by
  obtain ⟨a, len, cap, rfl⟩ := okWide_slice ht hval
  obtain ⟨fuel, hf⟩ := h
  rcases open_slice ht hf with ⟨hcs, _⟩ | ⟨x, l, c, m, k, D, Pl, hcs, hb, hl, hm, hmm, hx, hrow⟩
  · simp [Value.cells] at hcs
    obtain ⟨rfl, rfl, rfl⟩ := hcs
    exact ⟨none, 0, [], rfl, Recs.nil _ _ _, by simp, by simp⟩
  · simp [Value.cells] at hcs
    obtain ⟨rfl, rfl, rfl⟩ := hcs
    have hlm : len ≤ m := by rw [hmm]; split <;> omega
    rw [hsz] at hrow
    obtain ⟨R, hR⟩ := choose_lt (α := List Value) (n := len) (p := fun i cs => w.cells? base (x.add (i * sz)) sz = some cs ∧ okAll ls cs) (fun i hi => by
      obtain ⟨cs', h1, h2⟩ := hrow i (by omega)
      obtain ⟨_, hlen, _⟩ := World.cells?_some h1
      exact ⟨cs', h1, leafs_ok n e ls hls k cs' _ (by omega) h2⟩)
    have hlen : ((List.range len).map R).length = len := by simp
    refine ⟨some x, cap, (List.range len).map R, by rw [hlen], ?_, ?_, by rw [hlen]; exact hl⟩
    · refine ⟨by rw [hlen]; omega, ?_, ?_⟩
      · intro q hq
        obtain ⟨i, hi, rfl⟩ := List.mem_map.1 hq
        have := okAll_len (hR i (List.mem_range.1 hi)).2
        omega
      · rcases Nat.eq_zero_or_pos len with hz | hz
        · subst hz; exact .inl (by simp)
        · obtain ⟨b, off, spot⟩ := x
          obtain ⟨_, hl0, hc0⟩ := World.cells?_some (hR 0 hz).1
          have hcc := hc0 0 (by omega)
          rw [List.getElem?_eq_getElem (show 0 < (R 0).length by omega)] at hcc
          have hspot : spot = none := by simpa [Addr.add] using World.cell?_spot hcc
          subst hspot
          rw [Deep.add_add, add_at] at hcc
          refine .inr ⟨b, off, rfl, World.block_lt_of_cell? _ _ hcc, fun i j hi hj => ?_⟩
          have hi' : i < len := by rw [hlen] at hi; exact hi
          obtain ⟨_, hli, hci⟩ := World.cells?_some (hR i hi').1
          have := hci j (by omega)
          rw [Deep.add_add, add_at] at this
          rw [this]
          simp [List.getD, hi']
    · intro q hq
      obtain ⟨i, hi, rfl⟩ := List.mem_map.1 hq
      exact (hR i (List.mem_range.1 hi)).2

/-- records by a type of one's own -/
theorem typed {α : Type} {ls : List Leaf} (f : α → List Value) (Q : α → Prop) (hf : ∀ r, okAll ls r → ∃ a, r = f a ∧ Q a) : ∀ (rows : List (List Value)), (∀ r ∈ rows, okAll ls r) → ∃ l : List α, rows = l.map f ∧ ∀ a ∈ l, Q a := by
  intro rows
  induction rows with
  | nil => intro _; exact ⟨[], rfl, by simp⟩
  | cons r rows ih =>
    intro h
    obtain ⟨a, e, q⟩ := hf r (h r (by simp))
    obtain ⟨l, e2, q2⟩ := ih (fun r' hr' => h r' (by simp [hr']))
    refine ⟨a :: l, by rw [List.map_cons, e, e2], ?_⟩
    intro b hb
    rcases List.mem_cons.1 hb with rfl | hb
    · exact q
    · exact q2 b hb
end
end Go.Recs
