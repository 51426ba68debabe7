/- Put together: Recs, RecsOwn, TRecs, CentsMath, CentsDiv, CentsDiv2, CentsMul, CentsLaws. -/
import Derived.WalkKit
import Derived.Lib.Hide
import Derived.Deep.Slices
import Derived.OpenShut
import Derived.Deep.Draws
import Derived.OwnWalk
import Derived.Laws.OwnMore
import Derived.Below
import Derived.Maps.AppendAt
import Derived.IntWalk
/- Slices of records whose fields are numbers, texts and bools (records in records too), over any program: what a law's argument reads as, and its cells. -/
namespace Go.Recs
open Go.ChangeShapes Go.WideShapes Go.RowKit Go.Deep
set_option linter.unusedVariables false

/-- one cell's kind -/
inductive Leaf where
  | int (k : IntKind)
  | str
  | bool
def Leaf.ok : Leaf → Value → Prop
  | .int k, v => ∃ n, v = .int k n ∧ (Lit.int k n).wf = true
  | .str, v => ∃ s : ByteArray, v = .string s ∧ s.size ≤ maxLen
  | .bool, v => ∃ b, v = .bool b
def okAll : List Leaf → List Value → Prop
  | [], [] => True
  | l :: ls, v :: vs => l.ok v ∧ okAll ls vs
  | _, _ => False
theorem okAll_append : ∀ {a b : List Leaf} {x y : List Value}, okAll a x → okAll b y → okAll (a ++ b) (x ++ y) := by
  intro a
  induction a with
  | nil =>
    intro b x y hx hy
    cases x with
    | nil => exact hy
    | cons v x => exact hx.elim
  | cons l a ih =>
    intro b x y hx hy
    cases x with
    | nil => exact hx.elim
    | cons v x => exact ⟨hx.1, ih hx.2 hy⟩
theorem okAll_len : ∀ {a : List Leaf} {x : List Value}, okAll a x → x.length = a.length := by
  intro a
  induction a with
  | nil =>
    intro x h
    cases x with
    | nil => rfl
    | cons v x => exact h.elim
  | cons l a ih =>
    intro x h
    cases x with
    | nil => exact h.elim
    | cons v x => simp [ih h.2]

def fieldsL (P : Program) (g : TypeId → Option (List Leaf)) : Nat → List Field → Option (List Leaf)
  | _, [] => some []
  | off, f :: fs =>
    match g f.type with
    | none => none
    | some l => if f.offset = off ∧ P.cellsOf f.type = l.length then (fieldsL P g (off + l.length) fs).map (l ++ ·) else none
/-- the cells of a type, by kind -/
def leafs (P : Program) : Nat → TypeId → Option (List Leaf)
  | 0, _ => none
  | n + 1, t =>
    match P.underlying t with
    | some (.int k) => some [.int k]
    | some .string => some [.str]
    | some .bool => some [.bool]
    | some (.struct fs) => fieldsL P (leafs P n) 0 fs.toList
    | _ => none

section
variable {H : Type} {enc : TypeId × Value → H} {P : Program} {w : World} {base : Nat} {spare : Nat → Bool} {held : Bool}

theorem fields_ok {g : TypeId → Option (List Leaf)} {k : Nat} {cs : List Value}
    (hg : ∀ t ls cs' y, g t = some ls → cs'.length = ls.length → DataW.trod enc P w base spare held k t cs' = some y → okAll ls cs') :
    ∀ (fs : List Field) (off : Nat) (ls : List Leaf), fieldsL P g off fs = some ls → (∀ f ∈ fs, ∃ y, DataW.trod enc P w base spare held k f.type ((cs.drop f.offset).take (P.cellsOf f.type)) = some y) →
      cs.length = off + ls.length → okAll ls (cs.drop off) := by
  intro fs
  induction fs with
  | nil =>
    intro off ls h _ hl
    simp [fieldsL] at h
    subst h
    rw [List.drop_of_length_le (by simp at hl; omega)]
    trivial
  | cons f fs ih =>
    intro off ls h hr hl
    unfold fieldsL at h
    cases hgf : g f.type with
    | none => rw [hgf] at h; cases h
    | some l =>
      rw [hgf] at h
      by_cases hc : f.offset = off ∧ P.cellsOf f.type = l.length
      · simp only [hc, and_self, if_true] at h
        obtain ⟨m, hm, rfl⟩ := Option.map_eq_some_iff.1 h
        obtain ⟨y, hy⟩ := hr f (by simp)
        rw [hc.1, hc.2] at hy
        rw [List.length_append] at hl
        have h1 := hg f.type l _ y hgf (by rw [List.length_take, List.length_drop]; omega) hy
        have h2 := ih (off + l.length) m hm (fun f' hf' => hr f' (by simp [hf'])) (by omega)
        have e : cs.drop off = (cs.drop off).take l.length ++ cs.drop (off + l.length) := by
          rw [← List.drop_drop, List.take_append_drop]
        rw [e]
        exact okAll_append h1 h2
      · simp only [hc, if_false] at h
        cases h
theorem leafs_ok : ∀ (n : Nat) (t : TypeId) (ls : List Leaf), leafs P n t = some ls → ∀ (fuel : Nat) (cs : List Value) (x : DataW H × List MemPlace), cs.length = ls.length →
    DataW.trod enc P w base spare held fuel t cs = some x → okAll ls cs := by
  intro n
  induction n with
  | zero => intro t ls h; cases h
  | succ n ih =>
    intro t ls h fuel cs x hl hx
    unfold leafs at h
    split at h
    · rename_i k hu
      injection h with h
      subst h
      obtain ⟨m, rfl, _, hw⟩ := DataW.trod_int hu hx
      exact ⟨⟨m, rfl, hw⟩, trivial⟩
    · rename_i hu
      injection h with h
      subst h
      obtain ⟨s, rfl, _, hw⟩ := DataW.trod_string hu hx
      exact ⟨⟨s, rfl, hw⟩, trivial⟩
    · rename_i hu
      injection h with h
      subst h
      obtain ⟨b, rfl, _⟩ := DataW.trod_bool hu hx
      exact ⟨⟨b, rfl⟩, trivial⟩
    · rename_i fs hu
      obtain ⟨xs, k, rfl, _, _, hxl, hf⟩ := DataW.trod_struct hu hx
      have := fields_ok (enc := enc) (w := w) (base := base) (spare := spare) (held := held) (k := k) (cs := cs) (fun t ls cs' y hg hl hy => ih t ls hg k cs' y hl hy) fs.toList 0 ls h (fun f hf' => by
        obtain ⟨i, hi, e⟩ := List.getElem_of_mem hf'
        have hi' : i < fs.size := by simpa using hi
        have hfi : fs[i]? = some f := by rw [Array.getElem?_eq_getElem hi']; simpa using e
        have := hf i f hfi
        rw [List.getElem?_eq_getElem (by omega)] at this
        exact ⟨_, this⟩) (by omega)
      simpa using this
    · cases h

/-- the slice at A holds the records rows, each of sz cells -/
def Recs (w : World) (A : Option Addr) (sz : Nat) (rows : List (List Value)) : Prop :=
  rows.length ≤ maxLen ∧ (∀ r ∈ rows, r.length = sz) ∧
  (rows = [] ∨ ∃ b off, A = some ⟨b, off, none⟩ ∧ b < w.heap.size ∧ ∀ i j, i < rows.length → j < sz → w.cell? ⟨b, off + (i * sz + j), none⟩ = (rows.getD i [])[j]?)

theorem Recs.nil (w : World) (A : Option Addr) (sz : Nat) : Recs w A sz [] := ⟨by simp, by simp, .inl rfl⟩
theorem Recs.len {w : World} {A : Option Addr} {sz : Nat} {rows : List (List Value)} (h : Recs w A sz rows) : rows.length ≤ 9223372036854775807 := h.1
theorem Recs.keep {w w' : World} {A : Option Addr} {sz : Nat} {rows : List (List Value)} (h : Recs w A sz rows) (hz : w.heap.size ≤ w'.heap.size)
    (hk : ∀ b o, b < w.heap.size → w'.cell? ⟨b, o, none⟩ = w.cell? ⟨b, o, none⟩) : Recs w' A sz rows := by
  refine ⟨h.1, h.2.1, ?_⟩
  rcases h.2.2 with h | ⟨b, off, rfl, hb, hc⟩
  · exact .inl h
  · exact .inr ⟨b, off, rfl, by omega, fun i j hi hj => by rw [hk _ _ hb]; exact hc i j hi hj⟩
theorem Recs.below {w w' : World} {A : Option Addr} {sz : Nat} {rows : List (List Value)} (h : Recs w A sz rows) (hb : Below w.heap.size w w') : Recs w' A sz rows :=
  h.keep hb.size fun b o hlt => hb.cell (p := ⟨b, o, none⟩) hlt
theorem Recs.drewN {w : World} {A : Option Addr} {sz : Nat} {rows : List (List Value)} (h : Recs w A sz rows) (n : Nat) : Recs (w.drewN n) A sz rows := h
/-- record k: where it lies, and its cells -/
theorem Recs.get {w : World} {A : Option Addr} {sz : Nat} {rows : List (List Value)} (h : Recs w A sz rows) {k : Nat} (hk : k < rows.length) :
    ∃ b off, A = some ⟨b, off, none⟩ ∧ b < w.heap.size ∧ ∀ j, j < sz → w.cell? ⟨b, off + (k * sz + j), none⟩ = (rows.getD k [])[j]? := by
  rcases h.2.2 with h | ⟨b, off, rfl, hb, hc⟩
  · subst h; simp at hk
  · exact ⟨b, off, rfl, hb, fun j hj => hc k j hk hj⟩

theorem add_at (b off n : Nat) : (⟨b, off, none⟩ : Addr).add n = ⟨b, off + n, none⟩ := by
  unfold Addr.add
  by_cases h0 : n = 0
  · subst h0; simp
  · simp [h0]

theorem open_recs {t e : TypeId} {sz n : Nat} {ls : List Leaf} {v : Value} {d : DataW H} {p : List MemPlace} {b0 : Nat} {r : Reach} (ht : P.underlying t = some (.slice e)) (hls : leafs P n e = some ls) (hsz : P.cellsOf e = sz) (hlz : ls.length = sz) (h0 : 0 < sz)
    (hval : Value.okWide P w r b0 t v) (h : DataW.Trod enc P w base spare held t v d p) :
    ∃ A cap rows, v = .slice A (List.length rows) cap ∧ Recs w A sz rows ∧ (∀ r ∈ rows, okAll ls r) ∧ rows.length ≤ cap := by
  obtain ⟨a, len, cap, rfl⟩ := okWide_slice ht hval
  obtain ⟨fuel, hf⟩ := h
  rcases open_slice ht hf with ⟨hcs, _⟩ | ⟨x, l, c, m, k, D, Pl, hcs, hb, hl, hm, hmm, hx, hrow⟩
  · simp [Value.cells] at hcs
    obtain ⟨rfl, rfl, rfl⟩ := hcs
    exact ⟨none, 0, [], rfl, Recs.nil _ _ _, by simp, by simp⟩
  · simp [Value.cells] at hcs
    obtain ⟨rfl, rfl, rfl⟩ := hcs
    have hlm : len ≤ m := by rw [hmm]; split <;> omega
    rw [hsz] at hrow
    obtain ⟨R, hR⟩ := choose_lt (α := List Value) (n := len) (p := fun i cs => w.cells? base (x.add (i * sz)) sz = some cs ∧ okAll ls cs) (fun i hi => by
      obtain ⟨cs', h1, h2⟩ := hrow i (by omega)
      obtain ⟨_, hlen, _⟩ := World.cells?_some h1
      exact ⟨cs', h1, leafs_ok n e ls hls k cs' _ (by omega) h2⟩)
    have hlen : ((List.range len).map R).length = len := by simp
    refine ⟨some x, cap, (List.range len).map R, by rw [hlen], ?_, ?_, by rw [hlen]; exact hl⟩
    · refine ⟨by rw [hlen]; omega, ?_, ?_⟩
      · intro q hq
        obtain ⟨i, hi, rfl⟩ := List.mem_map.1 hq
        have := okAll_len (hR i (List.mem_range.1 hi)).2
        omega
      · rcases Nat.eq_zero_or_pos len with hz | hz
        · subst hz; exact .inl (by simp)
        · obtain ⟨b, off, spot⟩ := x
          obtain ⟨_, hl0, hc0⟩ := World.cells?_some (hR 0 hz).1
          have hcc := hc0 0 (by omega)
          rw [List.getElem?_eq_getElem (show 0 < (R 0).length by omega)] at hcc
          have hspot : spot = none := by simpa [Addr.add] using World.cell?_spot hcc
          subst hspot
          rw [Deep.add_add, add_at] at hcc
          refine .inr ⟨b, off, rfl, World.block_lt_of_cell? _ _ hcc, fun i j hi hj => ?_⟩
          have hi' : i < len := by rw [hlen] at hi; exact hi
          obtain ⟨_, hli, hci⟩ := World.cells?_some (hR i hi').1
          have := hci j (by omega)
          rw [Deep.add_add, add_at] at this
          rw [this]
          simp [List.getD, hi']
    · intro q hq
      obtain ⟨i, hi, rfl⟩ := List.mem_map.1 hq
      exact (hR i (List.mem_range.1 hi)).2

/-- records by a type of one's own -/
theorem typed {α : Type} {ls : List Leaf} (f : α → List Value) (Q : α → Prop) (hf : ∀ r, okAll ls r → ∃ a, r = f a ∧ Q a) : ∀ (rows : List (List Value)), (∀ r ∈ rows, okAll ls r) → ∃ l : List α, rows = l.map f ∧ ∀ a ∈ l, Q a := by
  intro rows
  induction rows with
  | nil => intro _; exact ⟨[], rfl, by simp⟩
  | cons r rows ih =>
    intro h
    obtain ⟨a, e, q⟩ := hf r (h r (by simp))
    obtain ⟨l, e2, q2⟩ := ih (fun r' hr' => h r' (by simp [hr']))
    refine ⟨a :: l, by rw [List.map_cons, e, e2], ?_⟩
    intro b hb
    rcases List.mem_cons.1 hb with rfl | hb
    · exact q
    · exact q2 b hb
end
end Go.Recs

/- Slices of records that the call itself makes, and a record as a law's argument, over any program. -/
namespace Go.Recs
open Go.ChangeShapes Go.WideShapes Go.RowKit Go.Deep
set_option linter.unusedVariables false

theorem flat_len {sz : Nat} : ∀ {rows : List (List Value)}, (∀ r ∈ rows, r.length = sz) → rows.flatten.length = rows.length * sz := by
  intro rows
  induction rows with
  | nil => intro _; simp
  | cons r rows ih =>
    intro h
    rw [List.flatten_cons, List.length_append, ih (fun q hq => h q (by simp [hq])), h r (by simp), List.length_cons, Nat.succ_mul]
    omega
theorem flat_at {sz : Nat} : ∀ {rows : List (List Value)}, (∀ r ∈ rows, r.length = sz) → ∀ i j, i < rows.length → j < sz → rows.flatten[i * sz + j]? = (rows.getD i [])[j]? := by
  intro rows
  induction rows with
  | nil => intro _ i j hi; simp at hi
  | cons r rows ih =>
    intro h i j hi hj
    have hr := h r (by simp)
    rw [List.flatten_cons]
    cases i with
    | zero =>
      rw [Nat.zero_mul, Nat.zero_add, List.getElem?_append_left (by omega)]
      rfl
    | succ i =>
      rw [Nat.succ_mul, List.getElem?_append_right (by omega), hr]
      rw [show i * sz + sz + j - sz = i * sz + j by omega, ih (fun q hq => h q (by simp [hq])) i j (by simpa using hi) hj]
      rfl

/-- the slice v, in memory from block B on, of records of type t, holds the rows -/
def OwnR (w : World) (B : Nat) (t : TypeId) (sz : Nat) (v : Value) (rows : List (List Value)) : Prop := (∀ r ∈ rows, r.length = sz) ∧ w.ownsRow B t sz v rows.length rows.flatten
section
variable {w w' : World} {B : Nat} {t : TypeId} {sz : Nat} {v : Value} {rows : List (List Value)}
theorem OwnR.nil (w : World) (B : Nat) (t : TypeId) (sz : Nat) : OwnR w B t sz (.slice none 0 0) [] := ⟨by simp, World.ownsRow_nil _ _ _ _⟩
theorem OwnR.form (h : OwnR w B t sz v rows) : (v = .slice none 0 0 ∧ rows = []) ∨ ∃ g cap, v = .slice (some ⟨g, 0, none⟩) rows.length cap ∧ B ≤ g ∧ g < w.heap.size ∧ rows.length ≤ cap := by
  rcases h.2.2 with ⟨rfl, h0⟩ | ⟨g, cap, cur, rfl, hB, hh, hn, _⟩
  · exact .inl ⟨rfl, List.eq_nil_of_length_eq_zero h0⟩
  · refine .inr ⟨g, cap, rfl, hB, ?_, hn⟩
    rcases Nat.lt_or_ge g w.heap.size with hlt | hge
    · exact hlt
    · rw [Array.getElem?_eq_none hge] at hh; cases hh
theorem OwnR.len (h : OwnR w B t sz v rows) : rows.length ≤ maxLen := by
  rcases h.2.2 with ⟨_, h0⟩ | ⟨g, cap, cur, _, _, _, hn, hm, _⟩
  · rw [h0]; exact Nat.zero_le _
  · exact Nat.le_trans hn hm
/-- its cells -/
theorem OwnR.cell {g n cap : Nat} (h : OwnR w B t sz (.slice (some ⟨g, 0, none⟩) n cap) rows) {i j : Nat} (hi : i < rows.length) (hj : j < sz) : w.cell? ⟨g, i * sz + j, none⟩ = (rows.getD i [])[j]? := by
  have hn : n = rows.length := by
    rcases h.2.2 with ⟨h0, _⟩ | ⟨g', cap', cur, h0, _⟩
    · cases h0
    · injection h0
  subst hn
  have hlt : i * sz + j < rows.length * sz := by
    have : (i + 1) * sz ≤ rows.length * sz := Nat.mul_le_mul_right _ (by omega)
    rw [Nat.succ_mul] at this
    omega
  rw [World.ownsRow.cellAt h.2 _ hlt]
  exact flat_at h.1 i j hi hj
theorem OwnR.recs (h : OwnR w B t sz v rows) : ∃ A cap, v = .slice A rows.length cap ∧ Recs w A sz rows ∧ rows.length ≤ cap := by
  rcases h.form with ⟨rfl, rfl⟩ | ⟨g, cap, rfl, hB, hg, hc⟩
  · exact ⟨none, 0, rfl, Recs.nil _ _ _, by simp⟩
  · refine ⟨_, cap, rfl, ⟨h.len, h.1, .inr ⟨g, 0, rfl, hg, fun i j hi hj => ?_⟩⟩, hc⟩
    rw [Nat.zero_add]
    exact h.cell hi hj
theorem OwnR.kept (h : OwnR w B t sz v rows) (hb : ∀ g, B ≤ g → g < w.heap.size → w'.heap[g]? = w.heap[g]?) : OwnR w' B t sz v rows := by
  refine ⟨h.1, h.2.1, ?_⟩
  rcases h.2.2 with h0 | ⟨g, cap, cur, hv, hB, hh, r⟩
  · exact .inl h0
  · refine .inr ⟨g, cap, cur, hv, hB, ?_, r⟩
    rcases Nat.lt_or_ge g w.heap.size with hlt | hge
    · rw [hb g hB hlt]; exact hh
    · rw [Array.getElem?_eq_none hge] at hh; cases hh
theorem OwnR.below (h : OwnR w B t sz v rows) (hb : Below w.heap.size w w') : OwnR w' B t sz v rows := h.kept fun g _ hg => hb.block g hg
theorem OwnR.alloc (h : OwnR w B t sz v rows) (o : Obj) : OwnR (w.alloc o) B t sz v rows := ⟨h.1, World.ownsRow.alloc h.2 o⟩
theorem OwnR.drewN (h : OwnR w B t sz v rows) (n : Nat) : OwnR (w.drewN n) B t sz v rows := h
theorem OwnR.block (h : OwnR w B t sz v rows) : ∀ k, v.ownBlock = some k → B ≤ k := fun k hk => (World.ownsRow.lt h.2 k hk).1
theorem OwnR.lower {B' : Nat} (h : OwnR w B t sz v rows) (hB : B' ≤ B) : OwnR w B' t sz v rows := by
  refine ⟨h.1, h.2.1, ?_⟩
  rcases h.2.2 with h0 | ⟨g, cap, cur, hv, hg, r⟩
  · exact .inl h0
  · exact .inr ⟨g, cap, cur, hv, Nat.le_trans hB hg, r⟩
/-- a slice literal with no element, and one of known cells -/
theorem OwnR.empty (w : World) (B : Nat) (t : TypeId) (sz : Nat) (hB : B ≤ w.heap.size) : OwnR (w.alloc (.cells #[] t)) B t sz (.slice (some ⟨w.heap.size, 0, none⟩) 0 0) [] :=
  ⟨by simp, World.ownsRow_lit w #[] 0 hB (Nat.zero_le _) (by simp)⟩
theorem OwnR.lit (w : World) (B : Nat) (t : TypeId) (sz : Nat) (rows : List (List Value)) (hr : ∀ r ∈ rows, r.length = sz) (hB : B ≤ w.heap.size) (hm : rows.length ≤ maxLen) :
    OwnR (w.alloc (.cells rows.flatten.toArray t)) B t sz (.slice (some ⟨w.heap.size, 0, none⟩) rows.length rows.length) rows :=
  ⟨hr, by have := World.ownsRow_lit (e := t) (size := sz) w rows.flatten.toArray rows.length hB hm (by simpa using flat_len hr); simpa using this⟩
end

/-- 's = append(s, x)', the new record in a block of its own just made -/
theorem wpList_pushR {P : Program} {ops : Array Oper} {rest : List Oper} {o : Oper} {a : Act} {Q : Exit → Act → World → Prop} (w : World) (x : List Value) (hx1 : ∀ u ∈ x, u.oneCell' = true) (B : Nat) (rows : List (List Value)) (s y : Operand) (ts t : TypeId) (sz bytes : Nat) (z : Value)
    (hu : P.underlying ts = some (.slice t)) (hinfo : (P.info? t).map (fun i => (i.zero, i.size, i.bytes)) = some (some z, sz, bytes)) (hz : z.cells.size = sz) (h0 : 0 < sz) (hxl : x.length = sz)
    (hgd : o.guard = none) (ho : o.op = .call { callee := .builtin .append, args := #[s, y], argTypes := #[ts, ts] })
    (v : Value) (hs : a.eval s = v) (hx : a.eval y = .slice (some ⟨w.heap.size, 0, none⟩) 1 1) (hown : OwnR w B t sz v rows) (hl : (rows.length + 1) * bytes ≤ 140737488355328) (hm : rows.length + 1 ≤ maxLen) (hB : B ≤ w.heap.size)
    (h : ∀ v' w', OwnR w' B t sz v' (rows ++ [x]) → Below B w w' → w.heap.size ≤ w'.heap.size → w.grownBy w' v.ownBlock → wpList P ops Q rest (a.put o.dst v') w') :
    wpList P ops Q (o :: rest) a (w.alloc (.cells x.toArray t)) := by
  obtain ⟨i0, hi, hz0, hz1, hz2⟩ := info_parts hinfo
  refine wpList_append_own (w.alloc (.cells x.toArray t)) hgd s y ts ho B t i0 z sz bytes hu hi hz0 hz1 hz2 hz h0 v rows.length rows.flatten hs (OwnR.alloc hown _).2
    ⟨w.heap.size, 0, none⟩ 1 1 x hx (by omega) ?_ hx1 hm hl (by simp; omega) ?_
  · intro j u hj
    rw [add_at, Nat.zero_add]
    have hlt : j < x.length := by
      rcases Nat.lt_or_ge j x.length with g | g
      · exact g
      · rw [List.getElem?_eq_none g] at hj; cases hj
    have e : x.toArray[j]? = some u := by simpa using hj
    simp [e]
  · intro v' w' h1 h2 _
    have hg : w.grownBy w' v.ownBlock := (World.grownBy_alloc w _ v.ownBlock).trans h2
    refine h v' w' ⟨?_, by simpa using h1⟩ ?_ hg.size hg
    · intro r hr
      rcases List.mem_append.1 hr with hr | hr
      · exact hown.1 r hr
      · rw [List.mem_singleton.1 hr]; exact hxl
    · exact (Below.refl B w).grown hg hB (OwnR.block hown)

/-- a record as a law's argument -/
theorem open_rec {H : Type} {enc : TypeId × Value → H} {P : Program} {w : World} {base : Nat} {spare : Nat → Bool} {held : Bool} {t : TypeId} {n : Nat} {fs : Array Field} {ls : List Leaf} {v : Value} {d : DataW H} {p : List MemPlace} {b0 : Nat} {r : Reach}
    (ht : P.underlying t = some (.struct fs)) (hls : leafs P n t = some ls) (hsz : P.cellsOf t = ls.length)
    (hval : Value.okWide P w r b0 t v) (h : DataW.Trod enc P w base spare held t v d p) : ∃ cs : List Value, v = .agg cs.toArray ∧ okAll ls cs := by
  obtain ⟨cs, rfl, hs, _⟩ : ∃ cs, v = .agg cs ∧ cs.size = P.cellsOf t ∧ Row.okWide P w r b0 t cs := by
    simpa [Value.okWide, ht] using hval
  obtain ⟨fuel, hf⟩ := h
  refine ⟨cs.toList, by simp, ?_⟩
  exact leafs_ok n t ls hls fuel cs.toList _ (by simp; omega) hf
end Go.Recs

/- Slices of records by a type of one's own, over any program. -/
namespace Go.Recs
open Go.RowKit Go.Deep
set_option linter.unusedVariables false
/-- the slice at A holds the records l, each laid out by f in sz cells, each with the property Q -/
def TR {α : Type} (f : α → List Value) (Q : α → Prop) (sz : Nat) (w : World) (A : Option Addr) (l : List α) : Prop := Recs w A sz (l.map f) ∧ ∀ a ∈ l, Q a
section
variable {α : Type} {f : α → List Value} {Q : α → Prop} {sz : Nat} {w w' : World} {A : Option Addr} {l : List α}
theorem TR.len (h : TR f Q sz w A l) : l.length ≤ 9223372036854775807 := by have := h.1.len; rw [List.length_map] at this; exact this
theorem TR.below (h : TR f Q sz w A l) (hb : Below w.heap.size w w') : TR f Q sz w' A l := ⟨h.1.below hb, h.2⟩
theorem TR.drewN (h : TR f Q sz w A l) (n : Nat) : TR f Q sz (w.drewN n) A l := h
theorem TR.drew (h : TR f Q sz w A l) : TR f Q sz w.drew A l := h
theorem TR.nil (w : World) (A : Option Addr) : TR f Q sz w A [] := ⟨Recs.nil _ _ _, by simp⟩
theorem TR.keep (h : TR f Q sz w A l) (hz : w.heap.size ≤ w'.heap.size) (hk : ∀ b o, b < w.heap.size → w'.cell? ⟨b, o, none⟩ = w.cell? ⟨b, o, none⟩) : TR f Q sz w' A l := ⟨h.1.keep hz hk, h.2⟩
/-- record k: where it lies, and its cells -/
theorem TR.at_ (h : TR f Q sz w A l) {k : Nat} (hk : k < l.length) :
    ∃ b off, A = some ⟨b, off, none⟩ ∧ b < w.heap.size ∧ Q l[k] ∧ ∀ j, j < sz → w.cell? ⟨b, off + k * sz + j, none⟩ = (f l[k])[j]? := by
  obtain ⟨b, off, rfl, hb, hc⟩ := h.1.get (k := k) (by simpa using hk)
  refine ⟨b, off, rfl, hb, h.2 _ (List.getElem_mem hk), fun j hj => ?_⟩
  have e : (l.map f).getD k [] = f l[k] := by simp [List.getD, hk]
  have := hc j hj
  rw [e, ← Nat.add_assoc] at this
  exact this
theorem TR.take_ (h : TR f Q sz w A l) (n : Nat) : TR f Q sz w A (l.take n) := by
  obtain ⟨⟨h1, h2, h3⟩, h4⟩ := h
  refine ⟨⟨?_, ?_, ?_⟩, fun r hr => h4 r (List.mem_of_mem_take hr)⟩
  · rw [List.length_map] at h1 ⊢; rw [List.length_take]; omega
  · intro r hr
    obtain ⟨a, ha, rfl⟩ := List.mem_map.1 hr
    exact h2 _ (List.mem_map.2 ⟨a, List.mem_of_mem_take ha, rfl⟩)
  · rcases h3 with h3 | ⟨b, off, rfl, hb, hc⟩
    · left; have : l = [] := by simpa using h3
      rw [this]; simp
    · refine .inr ⟨b, off, rfl, hb, fun i j hi hj => ?_⟩
      rw [List.length_map, List.length_take] at hi
      rw [hc i j (by rw [List.length_map]; omega) hj]
      have h1 : i < l.length := by omega
      have h2 : i < n := by omega
      simp [List.getD, h1, h2]
theorem TR.drop_ {b off : Nat} (h : TR f Q sz w (some ⟨b, off, none⟩) l) (n : Nat) : TR f Q sz w (some ⟨b, off + n * sz, none⟩) (l.drop n) := by
  obtain ⟨⟨h1, h2, h3⟩, h4⟩ := h
  refine ⟨⟨?_, ?_, ?_⟩, fun r hr => h4 r (List.mem_of_mem_drop hr)⟩
  · rw [List.length_map] at h1 ⊢; rw [List.length_drop]; omega
  · intro r hr
    obtain ⟨a, ha, rfl⟩ := List.mem_map.1 hr
    exact h2 _ (List.mem_map.2 ⟨a, List.mem_of_mem_drop ha, rfl⟩)
  · rcases h3 with h3 | ⟨b', off', e, hb, hc⟩
    · left; have : l = [] := by simpa using h3
      rw [this]; simp
    · injection e with e
      injection e with e1 e2
      subst e1 e2
      refine .inr ⟨_, _, rfl, hb, fun i j hi hj => ?_⟩
      rw [List.length_map, List.length_drop] at hi
      have := hc (n + i) j (by rw [List.length_map]; omega) hj
      rw [Nat.add_mul] at this
      rw [show off + n * sz + (i * sz + j) = off + (n * sz + i * sz + j) by omega, this]
      have h1 : n + i < l.length := by omega
      simp [List.getD, h1]
end
/-- a slice of records that the call itself made -/
def OwnT {α : Type} (f : α → List Value) (w : World) (B : Nat) (t : TypeId) (sz : Nat) (v : Value) (l : List α) : Prop := OwnR w B t sz v (l.map f)
theorem OwnT.nil {α : Type} (f : α → List Value) (w : World) (B : Nat) (t : TypeId) (sz : Nat) : OwnT f w B t sz (.slice none 0 0) [] := OwnR.nil _ _ _ _
theorem OwnT.tr {α : Type} {f : α → List Value} {Q : α → Prop} {w : World} {B : Nat} {t : TypeId} {sz : Nat} {v : Value} {l : List α} (h : OwnT f w B t sz v l) (hq : ∀ a ∈ l, Q a) :
    ∃ A cap, v = .slice A l.length cap ∧ TR f Q sz w A l ∧ l.length ≤ cap := by
  obtain ⟨A, cap, rfl, hr, hc⟩ := OwnR.recs h
  rw [List.length_map] at hc ⊢
  exact ⟨A, cap, rfl, ⟨hr, hq⟩, hc⟩
theorem OwnT.below {α : Type} {f : α → List Value} {w w' : World} {B : Nat} {t : TypeId} {sz : Nat} {v : Value} {l : List α} (h : OwnT f w B t sz v l) (hb : Below w.heap.size w w') : OwnT f w' B t sz v l := OwnR.below h hb
theorem OwnT.drewN {α : Type} {f : α → List Value} {w : World} {B : Nat} {t : TypeId} {sz : Nat} {v : Value} {l : List α} (h : OwnT f w B t sz v l) (n : Nat) : OwnT f (w.drewN n) B t sz v l := h
theorem OwnT.lower {α : Type} {f : α → List Value} {w : World} {B B' : Nat} {t : TypeId} {sz : Nat} {v : Value} {l : List α} (h : OwnT f w B t sz v l) (hB : B' ≤ B) : OwnT f w B' t sz v l := OwnR.lower h hB
theorem OwnT.empty {α : Type} (f : α → List Value) (w : World) (B : Nat) (t : TypeId) (sz : Nat) (hB : B ≤ w.heap.size) : OwnT f (w.alloc (.cells #[] t)) B t sz (.slice (some ⟨w.heap.size, 0, none⟩) 0 0) [] := OwnR.empty w B t sz hB
end Go.Recs

/- Plain mathematics of layer 1: no Go in sight. -/
namespace CM

/-- 2^60 -/
def M : Int := 1152921504606846976
theorem M_eq : M = 1152921504606846976 := rfl

def fits (n : Int) : Bool := decide (-1152921504606846976 ≤ n) && decide (n ≤ 1152921504606846976)
theorem fits_true {n : Int} : fits n = true ↔ -1152921504606846976 ≤ n ∧ n ≤ 1152921504606846976 := by simp [fits]
theorem fits_false {n : Int} : fits n = false ↔ n < -1152921504606846976 ∨ 1152921504606846976 < n := by
  simp [fits]; omega

/-- an exact result as it is told: the number -/
def fitN (n : Int) : Int := if fits n then n else 0
/-- .. and the error -/
def fitE (n : Int) : Int := if fits n then 0 else 3

def addN (a b : Int) : Int := if fits a && fits b then fitN (a + b) else 0
def addE (a b : Int) : Int := if fits a && fits b then fitE (a + b) else 2
def subN (a b : Int) : Int := if fits a && fits b then fitN (a - b) else 0
def subE (a b : Int) : Int := if fits a && fits b then fitE (a - b) else 2

def clamp (n low high : Int) : Int := if n < low ∨ high < low then low else if high < n then high else n

def size (n : Int) : Int := if n < 0 then -n else n
theorem size_nonneg (n : Int) : 0 ≤ size n := by unfold size; split <;> omega
theorem size_le {n : Int} (h1 : -1152921504606846976 ≤ n) (h2 : n ≤ 1152921504606846976) : size n ≤ 1152921504606846976 := by unfold size; split <;> omega

end CM

/- Plain mathematics of the bitwise division. -/
namespace CM

/-- what the bitwise division holds after k of its 61 rounds -/
def DInv (a b c k : Nat) (q r : Int) : Prop :=
  q = ((a / 2 ^ (61 - k) * b / c : Nat) : Int) ∧ r = ((a / 2 ^ (61 - k) * b % c : Nat) : Int) ∧ q ≤ 1152921504606846976

/-- the bit of round k -/
def bitAt (a k : Nat) : Nat := a / 2 ^ (60 - k) % 2

theorem half_step (a k : Nat) (hk : k < 61) : a / 2 ^ (61 - (k + 1)) = 2 * (a / 2 ^ (61 - k)) + bitAt a k := by
  have e : 61 - k = (60 - k) + 1 := by omega
  have e2 : 61 - (k + 1) = 60 - k := by omega
  rw [e, e2, Nat.pow_succ, ← Nat.div_div_eq_div_mul]
  unfold bitAt
  omega

theorem bit_01 (a k : Nat) : bitAt a k = 0 ∨ bitAt a k = 1 := by unfold bitAt; omega

theorem DInv.start (a b c : Nat) (ha : a ≤ 1152921504606846976) : DInv a b c 0 0 0 := by
  have h : a / 2 ^ (61 - 0) = 0 := Nat.div_eq_of_lt (by omega)
  unfold DInv; rw [h]; simp

theorem DInv.bounds {a b c k : Nat} {q r : Int} (h : DInv a b c k q r) (hc : 0 < c) : 0 ≤ q ∧ q ≤ 1152921504606846976 ∧ 0 ≤ r ∧ r < c := by
  obtain ⟨h1, h2, h3⟩ := h
  have := Nat.mod_lt (a / 2 ^ (61 - k) * b) hc
  generalize a / 2 ^ (61 - k) * b / c = X at *
  generalize a / 2 ^ (61 - k) * b % c = Y at *
  omega

theorem step_div (A b c t : Nat) (hc : 0 < c) : (2 * A + t) * b / c = 2 * (A * b / c) + (2 * (A * b % c) + t * b) / c ∧ (2 * A + t) * b % c = (2 * (A * b % c) + t * b) % c := by
  have e : (2 * A + t) * b = c * (2 * (A * b / c)) + (2 * (A * b % c) + t * b) := by
    have := Nat.div_add_mod (A * b) c
    calc (2 * A + t) * b = 2 * (A * b) + t * b := by rw [Nat.add_mul, Nat.mul_assoc]
      _ = 2 * (c * (A * b / c) + A * b % c) + t * b := by rw [this]
      _ = _ := by rw [Nat.mul_add, Nat.mul_left_comm]; omega
  rw [e]
  exact ⟨by rw [Nat.mul_add_div hc], by rw [Nat.mul_add_mod]⟩

theorem split_div (r b c : Nat) (hc : 0 < c) : (2 * r + b) / c = b / c + (2 * r + b % c) / c ∧ (2 * r + b) % c = (2 * r + b % c) % c := by
  have e : 2 * r + b = c * (b / c) + (2 * r + b % c) := by
    have := Nat.div_add_mod b c
    omega
  rw [e]
  exact ⟨by rw [Nat.mul_add_div hc], by rw [Nat.mul_add_mod]⟩

theorem mono_div (a b c k : Nat) : a / 2 ^ (61 - (k + 1)) * b / c ≤ a * b / c :=
  Nat.div_le_div_right (Nat.mul_le_mul_right _ (Nat.div_le_self _ _))

theorem DInv.step0 {a b c k : Nat} {x y : Int} (h : DInv a b c k x y) (hk : k < 61) (hc : 0 < c) (hb : bitAt a k = 0) :
    (2 * x + 2 * y / (c : Int) ≤ 1152921504606846976 → DInv a b c (k + 1) (2 * x + 2 * y / (c : Int)) (2 * y % (c : Int))) ∧
    (1152921504606846976 < 2 * x + 2 * y / (c : Int) → 1152921504606846976 < a * b / c) := by
  obtain ⟨hx, hy, _⟩ := h
  have hs := half_step a k hk
  rw [hb] at hs
  obtain ⟨s1, s2⟩ := step_div (a / 2 ^ (61 - k)) b c 0 hc
  rw [← hs] at s1 s2
  have hm := mono_div a b c k
  have e1 : 2 * x + 2 * y / (c : Int) = ((a / 2 ^ (61 - (k + 1)) * b / c : Nat) : Int) := by
    rw [s1, hx, hy]; simp only [Nat.zero_mul, Nat.add_zero]; rw [Int.natCast_add, Int.natCast_mul, Int.natCast_ediv, Int.natCast_mul]; rfl
  have e2 : 2 * y % (c : Int) = ((a / 2 ^ (61 - (k + 1)) * b % c : Nat) : Int) := by
    rw [s2, hy]; simp only [Nat.zero_mul, Nat.add_zero]; rw [Int.natCast_emod, Int.natCast_mul]; rfl
  rw [e1, e2]
  exact ⟨fun hle => ⟨rfl, rfl, hle⟩, fun hlt => by omega⟩

theorem DInv.step1 {a b c k : Nat} {x y : Int} (h : DInv a b c k x y) (hk : k < 61) (hc : 0 < c) (hb : bitAt a k = 1) :
    (2 * x + (b : Int) / (c : Int) + (2 * y + (b : Int) % (c : Int)) / (c : Int) ≤ 1152921504606846976 → DInv a b c (k + 1) (2 * x + (b : Int) / (c : Int) + (2 * y + (b : Int) % (c : Int)) / (c : Int)) ((2 * y + (b : Int) % (c : Int)) % (c : Int))) ∧
    (1152921504606846976 < 2 * x + (b : Int) / (c : Int) + (2 * y + (b : Int) % (c : Int)) / (c : Int) → 1152921504606846976 < a * b / c) := by
  obtain ⟨hx, hy, _⟩ := h
  have hs := half_step a k hk
  rw [hb] at hs
  obtain ⟨s1, s2⟩ := step_div (a / 2 ^ (61 - k)) b c 1 hc
  rw [← hs, Nat.one_mul] at s1 s2
  obtain ⟨d1, d2⟩ := split_div (a / 2 ^ (61 - k) * b % c) b c hc
  rw [d1] at s1
  rw [d2] at s2
  have hm := mono_div a b c k
  have e1 : 2 * x + (b : Int) / (c : Int) + (2 * y + (b : Int) % (c : Int)) / (c : Int) = ((a / 2 ^ (61 - (k + 1)) * b / c : Nat) : Int) := by
    rw [s1, hx, hy, Int.add_assoc]
    simp only [Int.natCast_add, Int.natCast_mul, Int.natCast_ediv, Int.natCast_emod]; rfl
  have e2 : (2 * y + (b : Int) % (c : Int)) % (c : Int) = ((a / 2 ^ (61 - (k + 1)) * b % c : Nat) : Int) := by
    rw [s2, hy]
    simp only [Int.natCast_add, Int.natCast_mul, Int.natCast_emod]; rfl
  rw [e1, e2]
  exact ⟨fun hle => ⟨rfl, rfl, hle⟩, fun hlt => by omega⟩

/-- what the division tells -/
def dok (a b c : Nat) : Bool := decide (a * b / c ≤ 1152921504606846976)
def dq (a b c : Nat) : Int := if dok a b c then ((a * b / c : Nat) : Int) else 0
def dr (a b c : Nat) : Int := if dok a b c then ((a * b % c : Nat) : Int) else 0

theorem DInv.done {a b c : Nat} {x y : Int} (h : DInv a b c 61 x y) : x = dq a b c ∧ y = dr a b c ∧ dok a b c = true := by
  obtain ⟨hx, hy, hm⟩ := h
  simp only [Nat.sub_self, Nat.pow_zero, Nat.div_one] at hx hy
  have hk : dok a b c = true := by unfold dok; simp only [decide_eq_true_eq]; omega
  simp [dq, dr, hk, hx, hy]

theorem dok_no {a b c : Nat} (h : 1152921504606846976 < a * b / c) : dok a b c = false ∧ dq a b c = 0 ∧ dr a b c = 0 := by
  have hk : dok a b c = false := by unfold dok; simp only [decide_eq_false_iff_not]; omega
  simp [dq, dr, hk]
theorem dok_yes {a b c : Nat} (h : a * b / c ≤ 1152921504606846976) : dok a b c = true := by unfold dok; simpa using h

/-- the reference's quotient, held at 2^61 -/
def rq (a b c : Nat) : Int := if a * b / c ≤ 2305843009213693952 then ((a * b / c : Nat) : Int) else 2305843009213693952

/-- .. and the rest -/
def rr (a b c : Nat) : Int := ((a * b % c : Nat) : Int)

def RInv (a b c k : Nat) (q r : Int) : Prop :=
  q = rq (a / 2 ^ (61 - k)) b c ∧ r = ((a / 2 ^ (61 - k) * b % c : Nat) : Int)

theorem RInv.start (a b c : Nat) (ha : a ≤ 1152921504606846976) : RInv a b c 0 0 0 := by
  have h : a / 2 ^ (61 - 0) = 0 := Nat.div_eq_of_lt (by omega)
  unfold RInv rq; rw [h]; simp

theorem RInv.bounds {a b c k : Nat} {q r : Int} (h : RInv a b c k q r) (hc : 0 < c) : 0 ≤ q ∧ q ≤ 2305843009213693952 ∧ 0 ≤ r ∧ r < c := by
  obtain ⟨h1, h2⟩ := h
  have := Nat.mod_lt (a / 2 ^ (61 - k) * b) hc
  unfold rq at h1
  generalize a / 2 ^ (61 - k) * b / c = X at *
  generalize a / 2 ^ (61 - k) * b % c = Y at *
  split at h1 <;> omega

/-- one round of the reference: t is the bit, z what stands to be divided -/
theorem RInv.step {a b c k : Nat} {x y : Int} (h : RInv a b c k x y) (hk : k < 61) (hc : 0 < c) (z : Int) (hz : z = 2 * y + bitAt a k * b) :
    (2 * x + z / (c : Int) ≤ 2305843009213693952 → RInv a b c (k + 1) (2 * x + z / (c : Int)) (z % (c : Int))) ∧
    (2305843009213693952 < 2 * x + z / (c : Int) → RInv a b c (k + 1) 2305843009213693952 (z % (c : Int))) := by
  obtain ⟨hx, hy⟩ := h
  have hs := half_step a k hk
  obtain ⟨s1, s2⟩ := step_div (a / 2 ^ (61 - k)) b c (bitAt a k) hc
  rw [← hs] at s1 s2
  have ez : z = ((2 * (a / 2 ^ (61 - k) * b % c) + bitAt a k * b : Nat) : Int) := by
    rw [hz, hy]; simp only [Int.natCast_add, Int.natCast_mul, Int.natCast_emod]; rfl
  have e2 : z % (c : Int) = ((a / 2 ^ (61 - (k + 1)) * b % c : Nat) : Int) := by
    rw [s2, ez]; rfl
  have e1 : z / (c : Int) = (((2 * (a / 2 ^ (61 - k) * b % c) + bitAt a k * b) / c : Nat) : Int) := by
    rw [ez]; rfl
  unfold RInv rq
  rw [e2, e1]
  unfold rq at hx
  rw [s1]
  generalize (2 * (a / 2 ^ (61 - k) * b % c) + bitAt a k * b) / c = Z at *
  generalize a / 2 ^ (61 - k) * b / c = X at *
  constructor
  · intro hle
    split at hx
    · refine ⟨?_, rfl⟩
      rw [if_pos (by omega)]; omega
    · omega
  · intro hlt
    refine ⟨?_, rfl⟩
    split at hx
    · rw [if_neg (by omega)]
    · rw [if_neg (by omega)]

theorem RInv.done {a b c : Nat} {x y : Int} (h : RInv a b c 61 x y) : x = rq a b c ∧ y = rr a b c := by
  obtain ⟨hx, hy⟩ := h
  simp only [Nat.sub_self, Nat.pow_zero, Nat.div_one] at hx hy
  exact ⟨hx, hy⟩

/-- is the exact quotient's sign minus? -/
def neg (a b c : Int) : Bool := !((!(decide (a < 0) == decide (b < 0))) == decide (c < 0))

/-- does the quotient's size grow by one? -/
def grow (q r c mode : Int) (n : Bool) : Bool :=
  if r = 0 then false else if mode = 2 then true else if mode = 3 then n else if mode = 4 then !n else
  if mode = 5 then decide (c < 2 * r) || (decide (2 * r = c) && decide (q % 2 = 1)) else false

def mdQ (a b c : Int) : Nat := (size a).toNat * (size b).toNat / (size c).toNat
def mdR (a b c : Int) : Nat := (size a).toNat * (size b).toNat % (size c).toNat
/-- the rounded quotient's size -/
def mdG (a b c mode : Int) : Int := mdQ a b c + if grow (mdQ a b c) (mdR a b c) (size c) mode (neg a b c) then 1 else 0
def mdA (a b c mode : Int) : Bool := fits a && fits b && fits c && decide (1 ≤ mode) && decide (mode ≤ 5)
/-- MulDiv's number -/
def mdN (a b c mode : Int) : Int :=
  if mdA a b c mode then if c = 0 then 0 else if mdG a b c mode ≤ 1152921504606846976 then (if neg a b c then -mdG a b c mode else mdG a b c mode) else 0 else 0
/-- .. and its error -/
def mdE (a b c mode : Int) : Int :=
  if mdA a b c mode then if c = 0 then 4 else if mdG a b c mode ≤ 1152921504606846976 then 0 else 3 else 2

theorem size_pos {c : Int} (h : c ≠ 0) : 0 < size c := by unfold size; split <;> omega
theorem size_zero {c : Int} (h : size c = 0) : c = 0 := by unfold size at h; split at h <;> omega

theorem mdQ_nonneg (a b c : Int) : (0 : Int) ≤ mdQ a b c := Int.natCast_nonneg _
theorem mdR_lt (a b : Int) {c : Int} (h : c ≠ 0) : (mdR a b c : Int) < size c := by
  have := size_pos h
  have := Nat.mod_lt ((size a).toNat * (size b).toNat) (show 0 < (size c).toNat by omega)
  unfold mdR; omega

theorem dq_eq {a b c : Int} (h : dok (size a).toNat (size b).toNat (size c).toNat = true) :
    dq (size a).toNat (size b).toNat (size c).toNat = mdQ a b c ∧ dr (size a).toNat (size b).toNat (size c).toNat = mdR a b c := by
  simp [dq, dr, h, mdQ, mdR]
theorem dok_iff {a b c : Int} : dok (size a).toNat (size b).toNat (size c).toNat = true ↔ (mdQ a b c : Int) ≤ 1152921504606846976 := by
  unfold dok mdQ; simp only [decide_eq_true_eq]; omega

/-- what is told of the signed result, through 'fitting' -/
theorem md_fit {a b c mode g : Int} (hA : mdA a b c mode = true) (hc : c ≠ 0) (hg : g = if neg a b c then -mdG a b c mode else mdG a b c mode) :
    fitN g = mdN a b c mode ∧ fitE g = mdE a b c mode := by
  have h0 : 0 ≤ mdG a b c mode := by
    have := mdQ_nonneg a b c
    unfold mdG; split <;> omega
  unfold fitN fitE mdN mdE
  simp only [hA, hc, if_true, if_false]
  by_cases hle : mdG a b c mode ≤ 1152921504606846976
  · have hf : fits g = true := by rw [fits_true, hg]; split <;> omega
    rw [hg] at hf ⊢
    simp [hle, hf]
  · have hf : fits g = false := by rw [fits_false, hg]; split <;> omega
    simp [hle, hf]

/-- the quotient alone does not fit -/
theorem md_over {a b c mode : Int} (hA : mdA a b c mode = true) (hc : c ≠ 0) (h : 1152921504606846976 < (mdQ a b c : Int)) :
    mdN a b c mode = 0 ∧ mdE a b c mode = 3 := by
  have h0 : ¬ mdG a b c mode ≤ 1152921504606846976 := by unfold mdG; split <;> omega
  simp [mdN, mdE, hA, hc, h0]
end CM

namespace CM
theorem ref_bounds (a b : Int) {c : Int} (hc : c ≠ 0) :
    0 ≤ rq (size a).toNat (size b).toNat (size c).toNat ∧ rq (size a).toNat (size b).toNat (size c).toNat ≤ 2305843009213693952 ∧
    0 ≤ rr (size a).toNat (size b).toNat (size c).toNat ∧ rr (size a).toNat (size b).toNat (size c).toNat < size c := by
  have h := mdR_lt a b hc
  unfold mdR at h
  unfold rq rr
  refine ⟨by split; exact Int.natCast_nonneg _; omega, by split <;> omega, Int.natCast_nonneg _, h⟩

theorem md_ref {a b c mode : Int} (hA : mdA a b c mode = true) (hc : c ≠ 0) :
    (1152921504606846976 < rq (size a).toNat (size b).toNat (size c).toNat + (if grow (rq (size a).toNat (size b).toNat (size c).toNat) (rr (size a).toNat (size b).toNat (size c).toNat) (size c) mode (neg a b c) then 1 else 0) →
      mdN a b c mode = 0 ∧ mdE a b c mode = 3) ∧
    (rq (size a).toNat (size b).toNat (size c).toNat + (if grow (rq (size a).toNat (size b).toNat (size c).toNat) (rr (size a).toNat (size b).toNat (size c).toNat) (size c) mode (neg a b c) then 1 else 0) ≤ 1152921504606846976 →
      mdN a b c mode = (if neg a b c then -(rq (size a).toNat (size b).toNat (size c).toNat + (if grow (rq (size a).toNat (size b).toNat (size c).toNat) (rr (size a).toNat (size b).toNat (size c).toNat) (size c) mode (neg a b c) then 1 else 0))
        else rq (size a).toNat (size b).toNat (size c).toNat + (if grow (rq (size a).toNat (size b).toNat (size c).toNat) (rr (size a).toNat (size b).toNat (size c).toNat) (size c) mode (neg a b c) then 1 else 0)) ∧ mdE a b c mode = 0) := by
  by_cases hQ : (size a).toNat * (size b).toNat / (size c).toNat ≤ 2305843009213693952
  · have e1 : rq (size a).toNat (size b).toNat (size c).toNat = mdQ a b c := by unfold rq mdQ; rw [if_pos hQ]
    have e2 : rr (size a).toNat (size b).toNat (size c).toNat = mdR a b c := rfl
    rw [e1, e2]
    have e3 : (mdQ a b c : Int) + (if grow (mdQ a b c) (mdR a b c) (size c) mode (neg a b c) then 1 else 0) = mdG a b c mode := rfl
    rw [e3]
    constructor
    · intro hlt
      have hn : ¬ mdG a b c mode ≤ 1152921504606846976 := by omega
      simp [mdN, mdE, hA, hc, hn]
    · intro hle
      simp [mdN, mdE, hA, hc, hle]
  · have e1 : rq (size a).toNat (size b).toNat (size c).toNat = 2305843009213693952 := by unfold rq; rw [if_neg hQ]
    rw [e1]
    have hQ2 : 1152921504606846976 < (mdQ a b c : Int) := by unfold mdQ; omega
    constructor
    · intro _
      exact md_over hA hc hQ2
    · intro hle
      split at hle <;> omega
end CM

namespace CM

theorem mul_spec {a b : Int} (ha : fits a = true) (hb : fits b = true) :
    (size a * size b ≤ 1152921504606846976 → mdN a b 1 1 = a * b ∧ mdE a b 1 1 = 0) ∧
    (1152921504606846976 < size a * size b → mdN a b 1 1 = 0 ∧ mdE a b 1 1 = 3) := by
  have hA : mdA a b 1 1 = true := by simp [mdA, ha, hb]; decide
  have h1 : size 1 = 1 := rfl
  have hR : mdR a b 1 = 0 := by simp [mdR, h1, Nat.mod_one]
  have hQ : (mdQ a b 1 : Int) = size a * size b := by
    have := size_nonneg a
    have := size_nonneg b
    simp only [mdQ, h1, Int.toNat_one, Nat.div_one, Int.natCast_mul]
    rw [Int.toNat_of_nonneg ‹_›, Int.toNat_of_nonneg ‹_›]
  have hG : mdG a b 1 1 = size a * size b := by
    unfold mdG; rw [hR, hQ]; simp [grow]
  constructor
  · intro hle
    rw [← hG] at hle
    simp only [mdN, mdE, hA, hle, if_true]
    refine ⟨?_, by simp⟩
    rw [if_neg (by omega), hG]
    unfold neg size
    by_cases s1 : a < 0 <;> by_cases s2 : b < 0 <;> simp [s1, s2, Int.neg_mul, Int.mul_neg]
  · intro hlt
    rw [← hG] at hlt
    have hn : ¬ mdG a b 1 1 ≤ 1152921504606846976 := by omega
    simp [mdN, mdE, hA, hn]

theorem mul_arg {a b : Int} (h : fits a = false ∨ fits b = false) : mdN a b 1 1 = 0 ∧ mdE a b 1 1 = 2 := by
  have hA : mdA a b 1 1 = false := by rcases h with h | h <;> simp [mdA, h]
  simp [mdN, mdE, hA]

theorem over_iff {a b : Int} (ha : a ≠ 0) : 1152921504606846976 / size a < size b ↔ 1152921504606846976 < size a * size b := by
  rw [Int.ediv_lt_iff_lt_mul (size_pos ha), Int.mul_comm]

theorem size_mul (a b : Int) : size a * size b = size (a * b) := by
  unfold size
  by_cases s1 : a < 0 <;> by_cases s2 : b < 0
  · have : 0 < a * b := Int.mul_pos_of_neg_of_neg s1 s2
    simp only [s1, s2, if_true]; rw [if_neg (by omega), Int.neg_mul_neg]
  · rcases Int.lt_or_eq_of_le (Int.not_lt.1 s2) with h | h
    · have : a * b < 0 := Int.mul_neg_of_neg_of_pos s1 h
      simp only [s1, s2, this, if_true, if_false]; rw [Int.neg_mul]
    · subst h; simp
  · rcases Int.lt_or_eq_of_le (Int.not_lt.1 s1) with h | h
    · have : a * b < 0 := Int.mul_neg_of_pos_of_neg h s2
      simp only [s1, s2, this, if_true, if_false]; rw [Int.mul_neg]
    · subst h; simp
  · have : 0 ≤ a * b := Int.mul_nonneg (by omega) (by omega)
    simp only [s1, s2, if_false]; rw [if_neg (by omega)]

theorem mul_in {a b : Int} (h : size a * size b ≤ 1152921504606846976) : -1152921504606846976 ≤ a * b ∧ a * b ≤ 1152921504606846976 := by
  rw [size_mul] at h
  unfold size at h
  split at h <;> omega
end CM

/- Plain mathematics of the laws of layer 1. -/
namespace CM

theorem add_back {a b : Int} (h : addE a b = 0) : subN (addN a b) b = a ∧ subE (addN a b) b = 0 := by
  unfold addE at h
  cases ha : fits a <;> cases hb : fits b <;> simp [ha, hb] at h
  cases hc : fits (a + b)
  · simp [fitE, hc] at h
  · have e : addN a b = a + b := by simp [addN, fitN, ha, hb, hc]
    have e2 : a + b - b = a := by omega
    rw [e]
    simp [subN, subE, fitN, fitE, hb, hc, e2, ha]

theorem md_back {a b mode : Int} (ha : fits a = true) (hb : fits b = true) (h0 : b ≠ 0) (h1 : 1 ≤ mode) (h5 : mode ≤ 5) : mdN a b b mode = a ∧ mdE a b b mode = 0 := by
  have hA : mdA a b b mode = true := by simp [mdA, ha, hb, h1, h5]
  have sp := size_pos h0
  have hQ : mdQ a b b = (size a).toNat := by unfold mdQ; exact Nat.mul_div_cancel _ (by omega)
  have hR : mdR a b b = 0 := by unfold mdR; exact Nat.mul_mod_left _ _
  have hG : mdG a b b mode = size a := by
    have := size_nonneg a
    unfold mdG; rw [hQ, hR]; simp [grow]; omega
  obtain ⟨a1, a2⟩ := fits_true.1 ha
  have hle := size_le a1 a2
  simp only [mdN, mdE, hA, if_true, h0, if_false, hG, hle]
  refine ⟨?_, trivial⟩
  unfold neg size
  by_cases s1 : a < 0 <;> by_cases s2 : b < 0 <;> simp [s1, s2]

theorem fits_one : fits 1 = true := by decide

/-- the error of one mode says it of all, where even Down fails -/
theorem md_down_err {a b c mode : Int} (h : mdE a b c 1 ≠ 0) (h1 : 1 ≤ mode) (h5 : mode ≤ 5) : mdE a b c mode ≠ 0 := by
  cases hA : mdA a b c 1
  · have hA' : mdA a b c mode = false := by
      unfold mdA at hA ⊢
      simp [h1, h5] at hA ⊢
      exact hA
    simp [mdE, hA']
  · have hA' : mdA a b c mode = true := by
      unfold mdA at hA ⊢
      simp [h1, h5] at hA ⊢
      exact hA
    by_cases hc : c = 0
    · subst hc; simp [mdE, hA']
    · have hd : mdG a b c 1 = mdQ a b c := by unfold mdG; simp [grow]
      have hQ : 1152921504606846976 < (mdQ a b c : Int) := by
        simp [mdE, hA, hc, hd] at h
        omega
      rw [(md_over hA' hc hQ).2]; decide

/-- how the five modes lie, where all answer -/
def Lie (low high down up half : Int) : Prop :=
  ∃ q : Int, (0 ≤ q ∧ q ≤ 1152921504606846976) ∧
    ((low = q ∧ high = q ∧ down = q ∧ up = q ∧ half = q) ∨
     (low = q ∧ high = q + 1 ∧ down = q ∧ up = q + 1 ∧ (half = q ∨ half = q + 1)) ∨
     (low = -q ∧ high = -q ∧ down = -q ∧ up = -q ∧ half = -q) ∨
     (low = -(q + 1) ∧ high = -q ∧ down = -q ∧ up = -(q + 1) ∧ (half = -q ∨ half = -(q + 1))))

theorem md_ok {a b c mode : Int} (h : mdE a b c mode = 0) :
    mdA a b c mode = true ∧ c ≠ 0 ∧ mdG a b c mode ≤ 1152921504606846976 ∧ mdN a b c mode = if neg a b c then -mdG a b c mode else mdG a b c mode := by
  cases hA : mdA a b c mode
  · simp [mdE, hA] at h
  · by_cases hc : c = 0
    · subst hc; simp [mdE, hA] at h
    · by_cases hg : mdG a b c mode ≤ 1152921504606846976
      · exact ⟨rfl, hc, hg, by simp [mdN, hA, hc, hg]⟩
      · simp [mdE, hA, hc, hg] at h

theorem md_lie {a b c : Int} (e1 : mdE a b c 1 = 0) (e2 : mdE a b c 2 = 0) (e3 : mdE a b c 3 = 0) (e4 : mdE a b c 4 = 0) (e5 : mdE a b c 5 = 0) :
    Lie (mdN a b c 3) (mdN a b c 4) (mdN a b c 1) (mdN a b c 2) (mdN a b c 5) := by
  obtain ⟨_, hc, g1, n1⟩ := md_ok e1
  obtain ⟨_, _, g2, n2⟩ := md_ok e2
  obtain ⟨_, _, g3, n3⟩ := md_ok e3
  obtain ⟨_, _, g4, n4⟩ := md_ok e4
  obtain ⟨_, _, g5, n5⟩ := md_ok e5
  have q0 := mdQ_nonneg a b c
  refine ⟨mdQ a b c, ⟨q0, ?_⟩, ?_⟩
  · unfold mdG at g1; split at g1 <;> omega
  rw [n1, n2, n3, n4, n5]
  by_cases hr : (mdR a b c : Int) = 0
  · have hz : ∀ m, mdG a b c m = mdQ a b c := fun m => by unfold mdG grow; simp [hr]
    simp only [hz]
    cases neg a b c <;> simp
  · have z1 : mdG a b c 1 = mdQ a b c := by unfold mdG grow; simp
    have z2 : mdG a b c 2 = mdQ a b c + 1 := by unfold mdG grow; rw [if_neg hr]; simp
    cases hn : neg a b c
    · have z3 : mdG a b c 3 = mdQ a b c := by unfold mdG grow; rw [if_neg hr]; simp [hn]
      have z4 : mdG a b c 4 = mdQ a b c + 1 := by unfold mdG grow; rw [if_neg hr]; simp [hn]
      have z5 : mdG a b c 5 = mdQ a b c ∨ mdG a b c 5 = mdQ a b c + 1 := by unfold mdG; split <;> omega
      rw [z1, z2, z3, z4]
      simp only [Bool.false_eq_true, if_false]
      exact .inr (.inl ⟨trivial, trivial, trivial, trivial, z5⟩)
    · have z3 : mdG a b c 3 = mdQ a b c + 1 := by unfold mdG grow; rw [if_neg hr]; simp [hn]
      have z4 : mdG a b c 4 = mdQ a b c := by unfold mdG grow; rw [if_neg hr]; simp [hn]
      have z5 : mdG a b c 5 = mdQ a b c ∨ mdG a b c 5 = mdQ a b c + 1 := by unfold mdG; split <;> omega
      rw [z1, z2, z3, z4]
      simp only [if_true]
      refine .inr (.inr (.inr ⟨trivial, trivial, trivial, trivial, ?_⟩))
      rcases z5 with z | z <;> rw [z]
      · exact .inl rfl
      · exact .inr rfl
end CM
