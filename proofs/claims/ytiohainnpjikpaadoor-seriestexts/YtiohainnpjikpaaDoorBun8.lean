/- Put together: Made, StrEq, SerB, Shelf, SerA, SerC, SerD. -/
import Derived.Test.YtiohainnpjikpaaDoorBun1
import Derived.Maps.AppendAt
import Derived.Test.YtiohainnpjikpaaDoorBun7
import Derived.Laws.StructEq
import Derived.Laws.ResultCell
import Derived.Laws.Rows
import Derived.Shelf.SlGeneric
import Derived.Shelf.LaysM
import Derived.Shelf.Small.Wraps
import Derived.Shelf.Small.Strs
import Derived.Shelf.Strings.Split
import Derived.Shelf.Strings.Replace
import Derived.Shelf.SlLaysQ
import Derived.Shelf.SlLaysF0
import Derived.Shelf.SlLaysE0
import Derived.Ground.NamesProg
import Derived.Ground.SlgqProg
import Derived.Ground.SlsfProg
import Derived.Ground.SlgnProg
import Derived.Test.YtiohainnpjikpaaDoorProg
import Derived.Sort.Grow
import Derived.Deep.RegionHeld3
import Derived.Test.YtiohainnpjikpaaDoorBun3
import Derived.Test.YtiohainnpjikpaaDoorBun4
import Derived.Test.YtiohainnpjikpaaDoorBun5
/- Rows of ints made by 'make', known whole. -/
namespace Go.Proofs.YtiohainnpjikpaaDoor
open Go.RowKit

/-- block g is just the numbers zs -/
def Row (w : World) (g : Nat) (zs : List Int) : Prop := w.heap[g]? = some (.cells (zs.map (Value.int .i64)).toArray 3 (0, 0))
/-- block g is one variable of type t -/
def Box (w : World) (g : Nat) (t : TypeId) (v : Value) : Prop := w.heap[g]? = some (.cells #[v] t (0, 0))

theorem lt_of_block {w : World} {g : Nat} {o : Obj} (h : w.heap[g]? = some o) : g < w.heap.size := by
  rcases Nat.lt_or_ge g w.heap.size with hlt | hge
  · exact hlt
  · rw [Array.getElem?_eq_none hge] at h; cases h

section
variable {w w' : World} {g : Nat} {zs : List Int} {t : TypeId} {v : Value}
theorem Row.lt (h : Row w g zs) : g < w.heap.size := lt_of_block h
theorem Box.lt (h : Box w g t v) : g < w.heap.size := lt_of_block h
theorem Row.cell (h : Row w g zs) (i : Nat) (hi : i < zs.length) : w.cell? ⟨g, i, none⟩ = some (.int .i64 (zs.getD i 0)) := by
  unfold Row at h
  simp [World.cell?, h, List.getD, hi]
theorem Row.frozen (h : Row w g zs) (i : Nat) : w.frozen? ⟨g, i, none⟩ = false := by
  unfold Row at h
  simp [World.frozen?, h]
theorem Box.cell (h : Box w g t v) : w.cell? ⟨g, 0, none⟩ = some v := by
  unfold Box at h
  simp [World.cell?, h]
theorem Box.frozen (h : Box w g t v) : w.frozen? ⟨g, 0, none⟩ = false := by
  unfold Box at h
  simp [World.frozen?, h]
theorem Row.set_ (h : Row w g zs) (i : Nat) (x : Int) : Row (w.setCell ⟨g, i, none⟩ (.int .i64 x)) g (zs.set i x) := by
  unfold Row at h ⊢
  simp [World.setCell, Array.getElem?_modify, h]
theorem Box.set_ (h : Box w g t v) (u : Value) : Box (w.setCell ⟨g, 0, none⟩ u) g t u := by
  unfold Box at h ⊢
  simp [World.setCell, Array.getElem?_modify, h]
theorem Row.far (h : Row w g zs) {p : Addr} (hp : g ≠ p.block) (u : Value) : Row (w.setCell p u) g zs := (Below.heap_setCell w p u g hp).trans h
theorem Box.far (h : Box w g t v) {p : Addr} (hp : g ≠ p.block) (u : Value) : Box (w.setCell p u) g t v := (Below.heap_setCell w p u g hp).trans h
theorem Row.alloc (h : Row w g zs) (o : Obj) : Row (w.alloc o) g zs := (Below.heap_alloc w o g h.lt).trans h
theorem Box.alloc (h : Box w g t v) (o : Obj) : Box (w.alloc o) g t v := (Below.heap_alloc w o g h.lt).trans h
theorem Row.drewN (h : Row w g zs) (n : Nat) : Row (w.drewN n) g zs := h
theorem Row.drew (h : Row w g zs) : Row w.drew g zs := h
theorem Box.drewN (h : Box w g t v) (n : Nat) : Box (w.drewN n) g t v := h
theorem Box.drew (h : Box w g t v) : Box w.drew g t v := h
theorem Row.below {B : Nat} (h : Row w g zs) (hb : Below B w w') (hg : g < B) : Row w' g zs := (hb.block g hg).trans h
theorem Box.below {B : Nat} (h : Box w g t v) (hb : Below B w w') (hg : g < B) : Box w' g t v := (hb.block g hg).trans h
theorem Box.new (w : World) (t : TypeId) (v : Value) : Box (w.alloc (.cells #[v] t)) w.heap.size t v := heap_alloc_new w _
theorem Row.own (h : Row w g zs) {B : Nat} (hB : B ≤ g) (hl : zs.length ≤ maxLen) : Own w B (.slice (some ⟨g, 0, none⟩) zs.length zs.length) zs :=
  ⟨by simp, .inr ⟨g, zs.length, _, rfl, hB, h, Nat.le_refl _, hl, by simp, by simp [List.take_of_length_le]⟩⟩
theorem Row.ints (h : Row w g zs) (hl : zs.length ≤ maxLen) (hr : ∀ n ∈ zs, -9223372036854775808 ≤ n ∧ n ≤ 9223372036854775807) : Ints w (some ⟨g, 0, none⟩) zs :=
  ⟨hl, hr, .inr ⟨g, 0, rfl, h.lt, fun i hi => by rw [Nat.zero_add]; exact h.cell i hi⟩⟩
end

/-- n noughts, as cells -/
def zeros (n : Nat) : Array Value := madeCells #[.int .i64 0] n
theorem Row.made (w : World) (n : Nat) : Row (w.alloc (.cells (zeros n) 3)) w.heap.size (List.replicate n 0) := by
  have e : zeros n = ((List.replicate n 0).map (Value.int .i64)).toArray := by
    apply Array.toList_inj.1
    simp [zeros, toList_madeCells_one]
  rw [e]; exact heap_alloc_new w _

theorem make_ints (n : Nat) (hn : n ≤ 1099511627776) (u : World) : (Instr.makeSlice 95 (.int .i64 (n : Int)) (.int .i64 (n : Int))).run Tryd.prog u =
    .ok (.slice (some ⟨u.heap.size, 0, none⟩) n n) (u.alloc (.cells (zeros n) 3)) := by
  obtain ⟨i0, hi, hz0, hz1, hz2⟩ := info_parts info_int
  have h := run_make (P := Tryd.prog) u 95 3 i0 (.int .i64 0) Tryd.underlying95 hi hz0 .i64 .i64 (n : Int) (n : Int) (by omega) (Int.le_refl _) (by rw [hz2]; omega) (by omega)
  rw [Int.toNat_natCast] at h
  simpa [hz1, Value.cells, zeros] using h

/-! a row of the call's own, whatever its room: stores -/
theorem Own.set_ {w : World} {B g n cap : Nat} {zs : List Int} (h : Own w B (.slice (some ⟨g, 0, none⟩) n cap) zs) (i : Nat) (x : Int) :
    Own (w.setCell ⟨g, i, none⟩ (.int .i64 x)) B (.slice (some ⟨g, 0, none⟩) n cap) (zs.set i x) := by
  have hn : n = zs.length := by
    rcases h.2 with ⟨h0, _⟩ | ⟨g', cap', cur, h0, _⟩
    · cases h0
    · injection h0
  subst hn
  have := (World.ownsRow.stored h i (.int .i64 x)).1
  unfold Own
  rw [List.length_set, List.map_set]
  exact this
theorem Own.frozen {w : World} {B g n cap : Nat} {zs : List Int} (h : Own w B (.slice (some ⟨g, 0, none⟩) n cap) zs) (i : Nat) : w.frozen? ⟨g, i, none⟩ = false := by
  have hn : n = zs.length := by
    rcases h.2 with ⟨h0, _⟩ | ⟨g', cap', cur, h0, _⟩
    · cases h0
    · injection h0
  subst hn
  exact World.ownsRow.frozenAt h i
theorem Own.far {w : World} {B g n cap : Nat} {zs : List Int} (h : Own w B (.slice (some ⟨g, 0, none⟩) n cap) zs) {p : Addr} (hp : g ≠ p.block) (u : Value) :
    Own (w.setCell p u) B (.slice (some ⟨g, 0, none⟩) n cap) zs := by
  refine ⟨h.1, ?_⟩
  rcases h.2 with ⟨h0, _⟩ | ⟨g', cap', cur, h0, hB, hh, r⟩
  · cases h0
  · refine .inr ⟨g', cap', cur, h0, hB, ?_, r⟩
    have : g' = g := by injection h0 with h1; injection h1 with h1; injection h1 with h1; exact h1.symm
    subst this
    rw [Below.heap_setCell w p u _ hp]; exact hh
theorem Own.empty (w : World) (B : Nat) (hB : B ≤ w.heap.size) : Own (w.alloc (.cells #[] 3)) B (.slice (some ⟨w.heap.size, 0, none⟩) 0 0) [] :=
  World.ownsRow_lit w #[] 0 hB (Nat.zero_le _) rfl
theorem Own.ge {w : World} {B g n cap : Nat} {zs : List Int} (h : Own w B (.slice (some ⟨g, 0, none⟩) n cap) zs) : B ≤ g ∧ g < w.heap.size := by
  rcases h.form with ⟨h0, _⟩ | ⟨g', c', h0, h1, h2, _⟩
  · cases h0
  · injection h0 with h1'; injection h1' with h1'; injection h1' with h1'
    subst h1'; exact ⟨h1, h2⟩

/-- two rows of the call's own, in different blocks -/
def Two (w : World) (B : Nat) (v : Value) (zs : List Int) (u : Value) (ys : List Int) : Prop :=
  Own w B v zs ∧ Own w B u ys ∧ ∃ g h, v.ownBlock = some g ∧ u.ownBlock = some h ∧ g ≠ h ∧ g < w.heap.size ∧ h < w.heap.size

theorem Two.swap {w : World} {B : Nat} {v u : Value} {zs ys : List Int} (h : Two w B v zs u ys) : Two w B u ys v zs := by
  obtain ⟨a, b, g, k, e1, e2, e3, e4, e5⟩ := h
  exact ⟨b, a, k, g, e2, e1, fun e => e3 e.symm, e5, e4⟩
theorem Two.below {w w' : World} {B : Nat} {v u : Value} {zs ys : List Int} (h : Two w B v zs u ys) (hb : Below w.heap.size w w') : Two w' B v zs u ys := by
  obtain ⟨a, b, g, k, e1, e2, e3, e4, e5⟩ := h
  exact ⟨a.below hb, b.below hb, g, k, e1, e2, e3, Nat.lt_of_lt_of_le e4 hb.size, Nat.lt_of_lt_of_le e5 hb.size⟩

/-- 's = append(s, x)' beside another row -/
theorem wpList_push2 {ops : Array Oper} {rest : List Oper} {o : Oper} {a : Act} {Q : Exit → Act → World → Prop} (w : World) (n : Int) (B : Nat) (zs ys : List Int) (s x : Operand)
    (hgd : o.guard = none) (ho : o.op = .call { callee := .builtin .append, args := #[s, x], argTypes := #[95, 95] })
    (v u : Value) (hs : a.eval s = v) (hx : a.eval x = .slice (some ⟨w.heap.size, 0, none⟩) 1 1) (hown : Two w B v zs u ys) (hl : zs.length < 1099511627776) (hB : B ≤ w.heap.size)
    (h : ∀ v' w', Two w' B v' (zs ++ [n]) u ys → Below B w w' → wpList Tryd.prog ops Q rest (a.put o.dst v') w') :
    wpList Tryd.prog ops Q (o :: rest) a (w.alloc (.cells #[.int .i64 n] 3)) := by
  obtain ⟨h1, h2, g, k, e1, e2, e3, e4, e5⟩ := hown
  obtain ⟨i0, hi, hz0, hz1, hz2⟩ := info_parts info_int
  refine wpList_append_own_at (w.alloc (.cells #[.int .i64 n] 3)) hgd s x 95 ho B 3 i0 (.int .i64 0) 1 8 Tryd.underlying95 hi hz0 hz1 hz2 rfl (by decide) v zs.length (zs.map (Value.int .i64)) hs (Own.alloc h1 _)
    ⟨w.heap.size, 0, none⟩ 1 1 [.int .i64 n] hx rfl ?_ ?_ (by unfold maxLen; omega) (by omega) (by simp; omega) ?_
  · intro j u hj
    match j, hj with
    | 0, hj => simp at hj; subst hj; simp [Addr.add]
  · intro u hu; simp at hu; subst hu; rfl
  · intro v' w' p1 p2 _ p4
    have hg : w.grownBy w' v.ownBlock := (World.grownBy_alloc w _ v.ownBlock).trans p2
    have own' : Own w' B v' (zs ++ [n]) := by unfold Own; simpa using p1
    have hu : Own w' B u ys := World.ownsRow.kept h2 hg (.inr (by rw [e1, e2]; intro e; injection e with e; exact e3 e.symm))
    refine h v' w' ⟨own', hu, ?_⟩ ((Below.refl B w).grown hg hB (Own.block h1))
    have hz := hg.size
    rcases p4 with p4 | p4
    · exact ⟨g, k, by rw [p4, e1], e2, e3, by omega, by omega⟩
    · refine ⟨w.heap.size + 1, k, by rw [p4]; simp, e2, by omega, ?_, by omega⟩
      have := World.ownsRow.lt p1 (w.heap.size + 1) (by rw [p4]; simp)
      exact this.2
end Go.Proofs.YtiohainnpjikpaaDoor

/- Two texts compared: as the walk says it. -/
namespace Go.Proofs.YtiohainnpjikpaaDoor
theorem str_t {s t : ByteArray} (h : s = t) : (s.toList == t.toList) = true := by subst h; simp
theorem str_f {s t : ByteArray} (h : s ≠ t) : (s.toList == t.toList) = false := by
  rw [L_toList, L_toList]
  cases e : (L s == L t)
  · rfl
  · exact absurd (L_inj (by simpa using e)) h
end Go.Proofs.YtiohainnpjikpaaDoor

/- Layer 10: series compared and in boxes. -/
namespace Go.Proofs.YtiohainnpjikpaaDoor
open Go.RowKit Go.Recs
set_option linter.unusedVariables false
abbrev serA (s : EM.Ser) : Value := .agg #[.string s.prod, .int .i64 s.kind, .int .i64 s.expiry, .int .i64 s.strike]
def seq (x y : EM.Ser) : Bool := (x.prod.toList == y.prod.toList) && ((x.kind == y.kind) && ((x.expiry == y.expiry) && (x.strike == y.strike)))
theorem seq_iff {x y : EM.Ser} : seq x y = true ↔ x = y := by
  constructor
  · intro h
    unfold seq at h
    simp only [Bool.and_eq_true, beq_iff_eq] at h
    obtain ⟨h1, h2, h3, h4⟩ := h
    cases x; cases y
    simp only at h1 h2 h3 h4
    rw [EM.toList_inj h1, h2, h3, h4]
  · rintro rfl
    simp [seq]
theorem seq_false {x y : EM.Ser} : seq x y = false ↔ x ≠ y := by rw [Bool.eq_false_iff, ne_eq, seq_iff]
theorem ser_in (x y : EM.Ser) (w : World) : (Op.equalIn 10000 24 (serA x) (serA y)).run Tryd.prog w = .ok (seq x y) w := by
  have u3 := Tryd.underlying3
  have u9 := Tryd.underlying9
  have a3 := Tryd.isAgg3
  have a9 := Tryd.isAgg9
  have z3 := Tryd.sizeOf3
  have z9 := Tryd.sizeOf9
  have hS : Tryd.prog.underlying 24 = some (.struct (Tryd.prog.fieldsOf 24)) := by kernel_rfl
  have hp : Tryd.prog.stoodInHeld 24 = false := by kernel_rfl
  rw [show (10000 : Nat) = 9999 + 1 from rfl, run_equalIn_agg w 9999 24 _ _ hS hp]
  simp only [Program.fieldsOf, Tryd.underlying24]
  unfold seq
  go_simp
  by_cases h1 : x.prod.toList = y.prod.toList <;> by_cases h2 : x.kind = y.kind <;> by_cases h3 : x.expiry = y.expiry <;> by_cases h4 : x.strike = y.strike <;> simp [h1, h2, h3, h4]
theorem ser_guard : Tryd.prog.eqGuardType Tryd.prog.depth 24 = false := by kernel_rfl
/-- block g is one series -/
def SBox (w : World) (g : Nat) (p : EM.Ser) : Prop := w.heap[g]? = some (.cells #[.string p.prod, .int .i64 p.kind, .int .i64 p.expiry, .int .i64 p.strike] 24 (0, 0))
section
variable {w w' : World} {g B : Nat} {p : EM.Ser}
theorem SBox.new (w : World) (p : EM.Ser) : SBox (w.alloc (.cells #[.string p.prod, .int .i64 p.kind, .int .i64 p.expiry, .int .i64 p.strike] 24)) w.heap.size p := heap_alloc_new w _
theorem SBox.below (h : SBox w g p) (hb : Below B w w') (hg : g < B) : SBox w' g p := (hb.block g hg).trans h
theorem SBox.lt (h : SBox w g p) : g < w.heap.size := lt_of_block h
theorem SBox.cells (h : SBox w g p) :
    w.cell? ⟨g, 0, none⟩ = some (.string p.prod) ∧ w.cell? ⟨g, 1, none⟩ = some (.int .i64 p.kind) ∧ w.cell? ⟨g, 2, none⟩ = some (.int .i64 p.expiry) ∧ w.cell? ⟨g, 3, none⟩ = some (.int .i64 p.strike) := by
  unfold SBox at h
  simp [World.cell?, h]
theorem SBox.drewN (h : SBox w g p) (n : Nat) : SBox (w.drewN n) g p := h
theorem SBox.drew (h : SBox w g p) : SBox w.drew g p := h
theorem SBox.alloc (h : SBox w g p) (o : Obj) : SBox (w.alloc o) g p := (Below.heap_alloc w o g h.lt).trans h
theorem SBox.frozen (h : SBox w g p) (i : Nat) : w.frozen? ⟨g, i, none⟩ = false := by unfold SBox at h; simp [World.frozen?, h]
theorem SBox.put (h : SBox w g p) (x : EM.Ser) : SBox ((((w.setCell ⟨g, 0, none⟩ (.string x.prod)).setCell ⟨g, 1, none⟩ (.int .i64 x.kind)).setCell ⟨g, 2, none⟩ (.int .i64 x.expiry)).setCell ⟨g, 3, none⟩ (.int .i64 x.strike)) g x := by
  unfold SBox at h ⊢
  simp [World.setCell, Array.getElem?_modify, h]
theorem SBox.put_below {a : World} (h : Below B a w) (hB : B ≤ g) (x : EM.Ser) : Below B a ((((w.setCell ⟨g, 0, none⟩ (.string x.prod)).setCell ⟨g, 1, none⟩ (.int .i64 x.kind)).setCell ⟨g, 2, none⟩ (.int .i64 x.expiry)).setCell ⟨g, 3, none⟩ (.int .i64 x.strike)) :=
  (((h.setCell hB _).setCell hB _).setCell hB _).setCell hB _
theorem SBox.strike (h : SBox w g p) (n : Int) : SBox (w.setCell ⟨g, 3, none⟩ (.int .i64 n)) g { p with strike := n } := by
  unfold SBox at h ⊢
  simp [World.setCell, Array.getElem?_modify, h]
end
theorem ser_under : Tryd.prog.underlying 24 = some (.struct (Tryd.prog.fieldsOf 24)) := by kernel_rfl
theorem ser_size : (Tryd.prog.info? 24).map (·.size) = some 4 := by kernel_rfl
theorem results_ser {fn : Func} {p u : Tmp} (h : fn.results = #[.cell p 24, .tmp u]) (tmps : Array Value) (w : World) (g : Nat) (x : EM.Ser)
    (hp : tmps.getD p undef = .pointer (some ⟨g, 0, none⟩)) (hb : SBox w g x) : (results fn tmps).run Tryd.prog w = .ok (.tuple #[serA x, tmps.getD u undef]) w := by
  rw [results_cell_tmp h, hp]
  simp only [asAddr, Sem.run_pure, Result.andThen_ok]
  rw [run_loadVar_row w g 24 24 _ (0, 0) _ hb ser_under rfl ser_size]
  rfl
end Go.Proofs.YtiohainnpjikpaaDoor

/-
  DERIVED: THE SHELF's CONTRACTS AT THIS DUMP, IN PLAIN WORDS (tools/lay-plain.mjs out of 'YtiohainnpjikpaaDoorShelf.lean', which tools/lay-shelf.mjs wrote): THE SAME DECLARATIONS UNDER THE SAME NAMES: 'import', 'namespace', 'open', 'def', 'theorem' AND NOTHING ELSE: no command of the shelf's: FOR A HAND-IN. Each laying: the table of numbers ('.._ren') and one theorem, a field a fact of the dump's own or the kernel's comparison; each contract: ONE APPLICATION.
-/
namespace Go.Proofs
open Go.Shelf
def Tryd.lays106_ren : Go.Shelf.Ren := ⟨fun | 106 => 44 | 213 => 72 | 265 => 96 | n => n, fun | 9 => 9 | 3 => 3 | n => n, fun | n => n⟩
theorem Tryd.lays106 : Go.Proofs.Lays.n106 Tryd.prog Tryd.lays106_ren := {
  mixed := by kernel_rfl
  f106 := Tryd.func44.trans (congrArg some (by kernel_rfl))
  f213 := Tryd.func72.trans (congrArg some (by kernel_rfl))
  f265 := Tryd.func96.trans (congrArg some (by kernel_rfl))
  t3 := Tryd.underlying3
  a3 := Tryd.isAgg3
  z3 := Tryd.sizeOf3
  v3 := Tryd.zeroValue3
  t9 := Tryd.underlying9
  a9 := Tryd.isAgg9
  z9 := Tryd.sizeOf9
  v9 := Tryd.zeroValue9 }
def Tryd.lays122_ren : Go.Shelf.Ren := ⟨fun | 122 => 45 | 215 => 73 | n => n, fun | 3 => 3 | 4 => 4 | n => n, fun | n => n⟩
theorem Tryd.lays122 : Go.Proofs.Lays.n122 Tryd.prog Tryd.lays122_ren := {
  mixed := by kernel_rfl
  f122 := Tryd.func45.trans (congrArg some (by kernel_rfl))
  f215 := Tryd.func73.trans (congrArg some (by kernel_rfl))
  t3 := Tryd.underlying3
  a3 := Tryd.isAgg3
  z3 := Tryd.sizeOf3
  v3 := Tryd.zeroValue3
  t4 := Tryd.underlying4
  a4 := Tryd.isAgg4
  z4 := Tryd.sizeOf4
  v4 := Tryd.zeroValue4 }
def Tryd.lays103_ren : Go.Shelf.Ren := ⟨fun | 103 => 55 | 210 => 82 | 206 => 102 | n => n, fun | 9 => 9 | 4 => 4 | 24 => 81 | 3 => 3 | n => n, fun | n => n⟩
theorem Tryd.lays103 : Go.Proofs.Lays.n103 Tryd.prog Tryd.lays103_ren := {
  mixed := by kernel_rfl
  f103 := Tryd.func55.trans (congrArg some (by kernel_rfl))
  f206 := Tryd.func102.trans (congrArg some (by kernel_rfl))
  f210 := Tryd.func82.trans (congrArg some (by kernel_rfl))
  t3 := Tryd.underlying3
  a3 := Tryd.isAgg3
  z3 := Tryd.sizeOf3
  v3 := Tryd.zeroValue3
  t4 := Tryd.underlying4
  a4 := Tryd.isAgg4
  z4 := Tryd.sizeOf4
  v4 := Tryd.zeroValue4
  t9 := Tryd.underlying9
  a9 := Tryd.isAgg9
  z9 := Tryd.sizeOf9
  v9 := Tryd.zeroValue9
  t24 := Tryd.underlying81
  a24 := Tryd.isAgg81
  z24 := Tryd.sizeOf81
  v24 := Tryd.zeroValue81 }
def Tryd.lays147_ren : Go.Shelf.Ren := ⟨fun | 147 => 28 | 221 => 54 | 268 => 79 | 138 => 80 | 143 => 81 | 195 => 99 | 197 => 94 | 218 => 100 | 219 => 101 | 260 => 109 | 217 => 120 | 225 => 121 | 224 => 122 | 267 => 123 | 266 => 131 | 314 => 132 | n => n, fun | 9 => 9 | 3 => 3 | 31 => 54 | 4 => 4 | 0 => 0 | 105 => 112 | 21 => 21 | 5 => 5 | 46 => 89 | 119 => 135 | 139 => 138 | 138 => 137 | 146 => 145 | 51 => 129 | n => n, fun | 1 => 0 | 3 => 1 | 4 => 2 | n => n⟩
theorem Tryd.lays147 : Go.Proofs.Lays.n147 Tryd.prog Tryd.lays147_ren := {
  mixed := by kernel_rfl
  f138 := Tryd.func80.trans (congrArg some (by kernel_rfl))
  f143 := Tryd.func81.trans (congrArg some (by kernel_rfl))
  f147 := Tryd.func28.trans (congrArg some (by kernel_rfl))
  f195 := Tryd.func99.trans (congrArg some (by kernel_rfl))
  f197 := Tryd.func94.trans (congrArg some (by kernel_rfl))
  f217 := Tryd.func120.trans (congrArg some (by kernel_rfl))
  f218 := Tryd.func100.trans (congrArg some (by kernel_rfl))
  f219 := Tryd.func101.trans (congrArg some (by kernel_rfl))
  f221 := Tryd.func54.trans (congrArg some (by kernel_rfl))
  f224 := Tryd.func122.trans (congrArg some (by kernel_rfl))
  f225 := Tryd.func121.trans (congrArg some (by kernel_rfl))
  f260 := Tryd.func109.trans (congrArg some (by kernel_rfl))
  f266 := Tryd.func131.trans (congrArg some (by kernel_rfl))
  f267 := Tryd.func123.trans (congrArg some (by kernel_rfl))
  f268 := Tryd.func79.trans (congrArg some (by kernel_rfl))
  f314 := Tryd.func132.trans (congrArg some (by kernel_rfl))
  t0 := Tryd.underlying0
  a0 := Tryd.isAgg0
  z0 := Tryd.sizeOf0
  v0 := Tryd.zeroValue0
  t3 := Tryd.underlying3
  a3 := Tryd.isAgg3
  z3 := Tryd.sizeOf3
  v3 := Tryd.zeroValue3
  t4 := Tryd.underlying4
  a4 := Tryd.isAgg4
  z4 := Tryd.sizeOf4
  v4 := Tryd.zeroValue4
  t5 := Tryd.underlying5
  a5 := Tryd.isAgg5
  z5 := Tryd.sizeOf5
  v5 := Tryd.zeroValue5
  t9 := Tryd.underlying9
  a9 := Tryd.isAgg9
  z9 := Tryd.sizeOf9
  v9 := Tryd.zeroValue9
  t21 := Tryd.underlying21
  a21 := Tryd.isAgg21
  z21 := Tryd.sizeOf21
  v21 := Tryd.zeroValue21
  t31 := Tryd.underlying54
  a31 := Tryd.isAgg54
  z31 := Tryd.sizeOf54
  v31 := Tryd.zeroValue54
  t46 := Tryd.underlying89
  a46 := Tryd.isAgg89
  z46 := Tryd.sizeOf89
  v46 := Tryd.zeroValue89
  t51 := Tryd.underlying129
  a51 := Tryd.isAgg129
  z51 := Tryd.sizeOf129
  v51 := Tryd.zeroValue129
  t105 := Tryd.underlying112
  a105 := Tryd.isAgg112
  z105 := Tryd.sizeOf112
  v105 := Tryd.zeroValue112
  t119 := Tryd.underlying135
  a119 := Tryd.isAgg135
  z119 := Tryd.sizeOf135
  t138 := Tryd.underlying137
  a138 := Tryd.isAgg137
  z138 := Tryd.sizeOf137
  v138 := Tryd.zeroValue137
  t139 := Tryd.underlying138
  a139 := Tryd.isAgg138
  z139 := Tryd.sizeOf138
  v139 := Tryd.zeroValue138
  t146 := Tryd.underlying145
  a146 := Tryd.isAgg145
  z146 := Tryd.sizeOf145
  v146 := Tryd.zeroValue145
  g1 := by kernel_rfl
  g3 := by kernel_rfl
  g4 := by kernel_rfl }
def Tryd.lays155_ren : Go.Shelf.Ren := ⟨fun | 155 => 38 | 154 => 67 | 138 => 80 | 165 => 92 | 143 => 81 | 166 => 93 | 197 => 94 | 169 => 95 | 195 => 99 | 218 => 100 | 240 => 107 | 241 => 108 | 219 => 101 | 260 => 109 | 276 => 124 | 277 => 125 | 217 => 120 | 225 => 121 | 224 => 122 | 267 => 123 | 266 => 131 | 314 => 132 | n => n, fun | 9 => 9 | 3 => 3 | 4 => 4 | 72 => 106 | 0 => 0 | 76 => 110 | 105 => 112 | 21 => 21 | 5 => 5 | 70 => 104 | 20 => 20 | 37 => 94 | 75 => 109 | 127 => 120 | 164 => 132 | 46 => 89 | 119 => 135 | 139 => 138 | 138 => 137 | 146 => 145 | 51 => 129 | 80 => 114 | n => n, fun | 1 => 0 | 3 => 1 | 4 => 2 | n => n⟩
theorem Tryd.lays155 : Go.Proofs.Lays.n155 Tryd.prog Tryd.lays155_ren := {
  mixed := by kernel_rfl
  f138 := Tryd.func80.trans (congrArg some (by kernel_rfl))
  f143 := Tryd.func81.trans (congrArg some (by kernel_rfl))
  f154 := Tryd.func67.trans (congrArg some (by kernel_rfl))
  f155 := Tryd.func38.trans (congrArg some (by kernel_rfl))
  f165 := Tryd.func92.trans (congrArg some (by kernel_rfl))
  f166 := Tryd.func93.trans (congrArg some (by kernel_rfl))
  f169 := Tryd.func95.trans (congrArg some (by kernel_rfl))
  f195 := Tryd.func99.trans (congrArg some (by kernel_rfl))
  f197 := Tryd.func94.trans (congrArg some (by kernel_rfl))
  f217 := Tryd.func120.trans (congrArg some (by kernel_rfl))
  f218 := Tryd.func100.trans (congrArg some (by kernel_rfl))
  f219 := Tryd.func101.trans (congrArg some (by kernel_rfl))
  f224 := Tryd.func122.trans (congrArg some (by kernel_rfl))
  f225 := Tryd.func121.trans (congrArg some (by kernel_rfl))
  f240 := Tryd.func107.trans (congrArg some (by kernel_rfl))
  f241 := Tryd.func108.trans (congrArg some (by kernel_rfl))
  f260 := Tryd.func109.trans (congrArg some (by kernel_rfl))
  f266 := Tryd.func131.trans (congrArg some (by kernel_rfl))
  f267 := Tryd.func123.trans (congrArg some (by kernel_rfl))
  f276 := Tryd.func124.trans (congrArg some (by kernel_rfl))
  f277 := Tryd.func125.trans (congrArg some (by kernel_rfl))
  f314 := Tryd.func132.trans (congrArg some (by kernel_rfl))
  t0 := Tryd.underlying0
  a0 := Tryd.isAgg0
  z0 := Tryd.sizeOf0
  v0 := Tryd.zeroValue0
  t3 := Tryd.underlying3
  a3 := Tryd.isAgg3
  z3 := Tryd.sizeOf3
  v3 := Tryd.zeroValue3
  t4 := Tryd.underlying4
  a4 := Tryd.isAgg4
  z4 := Tryd.sizeOf4
  v4 := Tryd.zeroValue4
  t5 := Tryd.underlying5
  a5 := Tryd.isAgg5
  z5 := Tryd.sizeOf5
  v5 := Tryd.zeroValue5
  t9 := Tryd.underlying9
  a9 := Tryd.isAgg9
  z9 := Tryd.sizeOf9
  v9 := Tryd.zeroValue9
  t20 := Tryd.underlying20
  a20 := Tryd.isAgg20
  z20 := Tryd.sizeOf20
  v20 := Tryd.zeroValue20
  t21 := Tryd.underlying21
  a21 := Tryd.isAgg21
  z21 := Tryd.sizeOf21
  v21 := Tryd.zeroValue21
  t37 := Tryd.underlying94
  a37 := Tryd.isAgg94
  z37 := Tryd.sizeOf94
  v37 := Tryd.zeroValue94
  t46 := Tryd.underlying89
  a46 := Tryd.isAgg89
  z46 := Tryd.sizeOf89
  v46 := Tryd.zeroValue89
  t51 := Tryd.underlying129
  a51 := Tryd.isAgg129
  z51 := Tryd.sizeOf129
  v51 := Tryd.zeroValue129
  t70 := Tryd.underlying104
  a70 := Tryd.isAgg104
  z70 := Tryd.sizeOf104
  v70 := Tryd.zeroValue104
  t72 := Tryd.underlying106
  a72 := Tryd.isAgg106
  z72 := Tryd.sizeOf106
  v72 := Tryd.zeroValue106
  t75 := Tryd.underlying109
  a75 := Tryd.isAgg109
  z75 := Tryd.sizeOf109
  v75 := Tryd.zeroValue109
  t76 := Tryd.underlying110
  a76 := Tryd.isAgg110
  z76 := Tryd.sizeOf110
  v76 := Tryd.zeroValue110
  t105 := Tryd.underlying112
  a105 := Tryd.isAgg112
  z105 := Tryd.sizeOf112
  v105 := Tryd.zeroValue112
  t119 := Tryd.underlying135
  a119 := Tryd.isAgg135
  z119 := Tryd.sizeOf135
  t127 := Tryd.underlying120
  a127 := Tryd.isAgg120
  z127 := Tryd.sizeOf120
  v127 := Tryd.zeroValue120
  t138 := Tryd.underlying137
  a138 := Tryd.isAgg137
  z138 := Tryd.sizeOf137
  v138 := Tryd.zeroValue137
  t139 := Tryd.underlying138
  a139 := Tryd.isAgg138
  z139 := Tryd.sizeOf138
  v139 := Tryd.zeroValue138
  t146 := Tryd.underlying145
  a146 := Tryd.isAgg145
  z146 := Tryd.sizeOf145
  v146 := Tryd.zeroValue145
  t164 := Tryd.underlying132
  a164 := Tryd.isAgg132
  z164 := Tryd.sizeOf132
  v164 := Tryd.zeroValue132
  g1 := by kernel_rfl
  g3 := by kernel_rfl
  g4 := by kernel_rfl }
def Tryd.laysM155_ren : Go.Shelf.Ren := ⟨fun | 155 => 38 | 154 => 67 | 138 => 80 | 165 => 92 | 143 => 81 | 166 => 93 | 197 => 94 | 169 => 95 | 195 => 99 | 218 => 100 | 240 => 107 | 241 => 108 | 219 => 101 | 260 => 109 | 276 => 124 | 277 => 125 | 217 => 120 | 225 => 121 | 224 => 122 | 267 => 123 | 266 => 131 | 314 => 132 | n => n, fun | 9 => 9 | 3 => 3 | 4 => 4 | 72 => 106 | 0 => 0 | 76 => 110 | 105 => 112 | 21 => 21 | 5 => 5 | 70 => 104 | 20 => 20 | 37 => 94 | 75 => 109 | 127 => 120 | 164 => 132 | 46 => 89 | 119 => 135 | 139 => 138 | 138 => 137 | 146 => 145 | 51 => 129 | 80 => 114 | n => n, fun | 1 => 0 | 3 => 1 | 4 => 2 | n => n⟩
theorem Tryd.laysM155 : Go.Proofs.LaysM.n155 Tryd.prog Tryd.laysM155_ren := {
  mixed := by kernel_rfl
  f138 := Tryd.func80.trans (congrArg some (by kernel_rfl))
  f143 := Tryd.func81.trans (congrArg some (by kernel_rfl))
  f154 := Tryd.func67.trans (congrArg some (by kernel_rfl))
  f155 := Tryd.func38.trans (congrArg some (by kernel_rfl))
  f165 := Tryd.func92.trans (congrArg some (by kernel_rfl))
  f166 := Tryd.func93.trans (congrArg some (by kernel_rfl))
  f169 := Tryd.func95.trans (congrArg some (by kernel_rfl))
  f195 := Tryd.func99.trans (congrArg some (by kernel_rfl))
  f197 := Tryd.func94.trans (congrArg some (by kernel_rfl))
  f217 := Tryd.func120.trans (congrArg some (by kernel_rfl))
  f218 := Tryd.func100.trans (congrArg some (by kernel_rfl))
  f219 := Tryd.func101.trans (congrArg some (by kernel_rfl))
  f224 := Tryd.func122.trans (congrArg some (by kernel_rfl))
  f225 := Tryd.func121.trans (congrArg some (by kernel_rfl))
  f240 := Tryd.func107.trans (congrArg some (by kernel_rfl))
  f241 := Tryd.func108.trans (congrArg some (by kernel_rfl))
  f260 := Tryd.func109.trans (congrArg some (by kernel_rfl))
  f266 := Tryd.func131.trans (congrArg some (by kernel_rfl))
  f267 := Tryd.func123.trans (congrArg some (by kernel_rfl))
  f276 := Tryd.func124.trans (congrArg some (by kernel_rfl))
  f277 := Tryd.func125.trans (congrArg some (by kernel_rfl))
  f314 := Tryd.func132.trans (congrArg some (by kernel_rfl))
  t0 := Tryd.underlying0
  a0 := Tryd.isAgg0
  z0 := Tryd.sizeOf0
  v0 := Tryd.zeroValue0
  t3 := Tryd.underlying3
  a3 := Tryd.isAgg3
  z3 := Tryd.sizeOf3
  v3 := Tryd.zeroValue3
  t4 := Tryd.underlying4
  a4 := Tryd.isAgg4
  z4 := Tryd.sizeOf4
  v4 := Tryd.zeroValue4
  t5 := Tryd.underlying5
  a5 := Tryd.isAgg5
  z5 := Tryd.sizeOf5
  v5 := Tryd.zeroValue5
  t9 := Tryd.underlying9
  a9 := Tryd.isAgg9
  z9 := Tryd.sizeOf9
  v9 := Tryd.zeroValue9
  t20 := Tryd.underlying20
  a20 := Tryd.isAgg20
  z20 := Tryd.sizeOf20
  v20 := Tryd.zeroValue20
  t21 := Tryd.underlying21
  a21 := Tryd.isAgg21
  z21 := Tryd.sizeOf21
  v21 := Tryd.zeroValue21
  t37 := Tryd.underlying94
  a37 := Tryd.isAgg94
  z37 := Tryd.sizeOf94
  v37 := Tryd.zeroValue94
  t46 := Tryd.underlying89
  a46 := Tryd.isAgg89
  z46 := Tryd.sizeOf89
  v46 := Tryd.zeroValue89
  t51 := Tryd.underlying129
  a51 := Tryd.isAgg129
  z51 := Tryd.sizeOf129
  v51 := Tryd.zeroValue129
  t70 := Tryd.underlying104
  a70 := Tryd.isAgg104
  z70 := Tryd.sizeOf104
  v70 := Tryd.zeroValue104
  t72 := Tryd.underlying106
  a72 := Tryd.isAgg106
  z72 := Tryd.sizeOf106
  v72 := Tryd.zeroValue106
  t75 := Tryd.underlying109
  a75 := Tryd.isAgg109
  z75 := Tryd.sizeOf109
  v75 := Tryd.zeroValue109
  t76 := Tryd.underlying110
  a76 := Tryd.isAgg110
  z76 := Tryd.sizeOf110
  v76 := Tryd.zeroValue110
  t105 := Tryd.underlying112
  a105 := Tryd.isAgg112
  z105 := Tryd.sizeOf112
  v105 := Tryd.zeroValue112
  t119 := Tryd.underlying135
  a119 := Tryd.isAgg135
  z119 := Tryd.sizeOf135
  t127 := Tryd.underlying120
  a127 := Tryd.isAgg120
  z127 := Tryd.sizeOf120
  v127 := Tryd.zeroValue120
  t138 := Tryd.underlying137
  a138 := Tryd.isAgg137
  z138 := Tryd.sizeOf137
  v138 := Tryd.zeroValue137
  t139 := Tryd.underlying138
  a139 := Tryd.isAgg138
  z139 := Tryd.sizeOf138
  v139 := Tryd.zeroValue138
  t146 := Tryd.underlying145
  a146 := Tryd.isAgg145
  z146 := Tryd.sizeOf145
  v146 := Tryd.zeroValue145
  t164 := Tryd.underlying132
  a164 := Tryd.isAgg132
  z164 := Tryd.sizeOf132
  v164 := Tryd.zeroValue132
  g1 := by kernel_rfl
  g3 := by kernel_rfl
  g4 := by kernel_rfl
  t80 := Tryd.underlying114
  a80 := Tryd.isAgg114
  z80 := Tryd.sizeOf114
  v80 := Tryd.zeroValue114
  i0 := by kernel_rfl
  i3 := by kernel_rfl
  i4 := by kernel_rfl
  i5 := by kernel_rfl
  i9 := by kernel_rfl
  i20 := by kernel_rfl
  i21 := by kernel_rfl
  i37 := by kernel_rfl
  i46 := by kernel_rfl
  i51 := by kernel_rfl
  i70 := by kernel_rfl
  i72 := by kernel_rfl
  i75 := by kernel_rfl
  i76 := by kernel_rfl
  i80 := by kernel_rfl
  i105 := by kernel_rfl
  i127 := by kernel_rfl
  i138 := by kernel_rfl
  i139 := by kernel_rfl
  i146 := by kernel_rfl
  i164 := by kernel_rfl
  m1 := by kernel_rfl
  s1_3 := fun w h => Go.Proofs.cell_of_shapedOpen_int (zero := #[.int .i64 0]) (t := 3) h (of_decide_eq_true (by kernel_rfl)) (by kernel_rfl) rfl (by kernel_rfl) (by kernel_rfl) Tryd.underlying3
  m3 := by kernel_rfl
  m4 := by kernel_rfl }
def Tryd.indexS_ren : Go.Shelf.Ren := ⟨fun | 6 => 47 | n => n, fun | 22 => 41 | 24 => 24 | 3 => 3 | 0 => 0 | 4 => 4 | n => n, fun | n => n⟩
theorem Tryd.indexS : Go.Proofs.SlLaysQ.n6 Tryd.prog Tryd.indexS_ren := {
  mixed := by kernel_rfl
  f6 := ⟨Tryd.f47.name, by decide, Tryd.func47.trans (congrArg some (by kernel_rfl))⟩
  t0 := Tryd.underlying0
  a0 := Tryd.isAgg0
  z0 := Tryd.sizeOf0
  v0 := Tryd.zeroValue0
  t3 := Tryd.underlying3
  a3 := Tryd.isAgg3
  z3 := Tryd.sizeOf3
  v3 := Tryd.zeroValue3
  t4 := Tryd.underlying4
  a4 := Tryd.isAgg4
  z4 := Tryd.sizeOf4
  v4 := Tryd.zeroValue4
  t22 := Tryd.underlying41
  a22 := Tryd.isAgg41
  z22 := Tryd.sizeOf41
  v22 := Tryd.zeroValue41 }
def Tryd.sortS_ren : Go.Shelf.Ren := ⟨fun | 6 => 75 | 15 => 98 | 14 => 97 | 28 => 118 | 29 => 119 | 20 => 110 | 21 => 111 | 22 => 112 | 23 => 113 | 24 => 114 | 25 => 115 | 26 => 116 | 27 => 117 | 46 => 126 | 47 => 127 | 48 => 128 | 49 => 129 | 50 => 130 | 57 => 133 | n => n, fun | 22 => 41 | 24 => 24 | 25 => 39 | 3 => 3 | 39 => 89 | 0 => 0 | 53 => 129 | 55 => 131 | 4 => 4 | 46 => 123 | 45 => 122 | 50 => 44 | 5 => 5 | 9 => 9 | 66 => 139 | 70 => 143 | 76 => 147 | 77 => 62 | n => n, fun | n => n⟩
theorem Tryd.sortS : Go.Proofs.SlLaysF0.n6 Tryd.prog Tryd.sortS_ren := {
  mixed := by kernel_rfl
  f6 := ⟨Tryd.f75.name, by decide, Tryd.func75.trans (congrArg some (by kernel_rfl))⟩
  f14 := ⟨Tryd.f97.name, by decide, Tryd.func97.trans (congrArg some (by kernel_rfl))⟩
  f15 := Tryd.func98.trans (congrArg some (by kernel_rfl))
  f20 := ⟨Tryd.f110.name, by decide, Tryd.func110.trans (congrArg some (by kernel_rfl))⟩
  f21 := ⟨Tryd.f111.name, by decide, Tryd.func111.trans (congrArg some (by kernel_rfl))⟩
  f22 := ⟨Tryd.f112.name, by decide, Tryd.func112.trans (congrArg some (by kernel_rfl))⟩
  f23 := ⟨Tryd.f113.name, by decide, Tryd.func113.trans (congrArg some (by kernel_rfl))⟩
  f24 := ⟨Tryd.f114.name, by decide, Tryd.func114.trans (congrArg some (by kernel_rfl))⟩
  f25 := ⟨Tryd.f115.name, by decide, Tryd.func115.trans (congrArg some (by kernel_rfl))⟩
  f26 := ⟨Tryd.f116.name, by decide, Tryd.func116.trans (congrArg some (by kernel_rfl))⟩
  f27 := ⟨Tryd.f117.name, by decide, Tryd.func117.trans (congrArg some (by kernel_rfl))⟩
  f28 := Tryd.func118.trans (congrArg some (by kernel_rfl))
  f29 := Tryd.func119.trans (congrArg some (by kernel_rfl))
  f46 := ⟨Tryd.f126.name, by decide, Tryd.func126.trans (congrArg some (by kernel_rfl))⟩
  f47 := Tryd.func127.trans (congrArg some (by kernel_rfl))
  f48 := Tryd.func128.trans (congrArg some (by kernel_rfl))
  f49 := ⟨Tryd.f129.name, by decide, Tryd.func129.trans (congrArg some (by kernel_rfl))⟩
  f50 := ⟨Tryd.f130.name, by decide, Tryd.func130.trans (congrArg some (by kernel_rfl))⟩
  f57 := ⟨Tryd.f133.name, by decide, Tryd.func133.trans (congrArg some (by kernel_rfl))⟩
  t0 := Tryd.underlying0
  a0 := Tryd.isAgg0
  z0 := Tryd.sizeOf0
  v0 := Tryd.zeroValue0
  t3 := Tryd.underlying3
  a3 := Tryd.isAgg3
  z3 := Tryd.sizeOf3
  v3 := Tryd.zeroValue3
  t4 := Tryd.underlying4
  a4 := Tryd.isAgg4
  z4 := Tryd.sizeOf4
  v4 := Tryd.zeroValue4
  t5 := Tryd.underlying5
  a5 := Tryd.isAgg5
  z5 := Tryd.sizeOf5
  v5 := Tryd.zeroValue5
  t9 := Tryd.underlying9
  a9 := Tryd.isAgg9
  z9 := Tryd.sizeOf9
  v9 := Tryd.zeroValue9
  t22 := Tryd.underlying41
  a22 := Tryd.isAgg41
  z22 := Tryd.sizeOf41
  v22 := Tryd.zeroValue41
  t25 := Tryd.underlying39
  a25 := Tryd.isAgg39
  z25 := Tryd.sizeOf39
  v25 := Tryd.zeroValue39
  t39 := Tryd.underlying89
  a39 := Tryd.isAgg89
  z39 := Tryd.sizeOf89
  v39 := Tryd.zeroValue89
  t45 := Tryd.underlying122
  a45 := Tryd.isAgg122
  z45 := Tryd.sizeOf122
  v45 := Tryd.zeroValue122
  t46 := Tryd.underlying123
  a46 := Tryd.isAgg123
  z46 := Tryd.sizeOf123
  v46 := Tryd.zeroValue123
  t50 := Tryd.underlying44
  a50 := Tryd.isAgg44
  z50 := Tryd.sizeOf44
  v50 := Tryd.zeroValue44
  t53 := Tryd.underlying129
  a53 := Tryd.isAgg129
  z53 := Tryd.sizeOf129
  v53 := Tryd.zeroValue129
  t55 := Tryd.underlying131
  a55 := Tryd.isAgg131
  z55 := Tryd.sizeOf131
  v55 := Tryd.zeroValue131
  t66 := Tryd.underlying139
  a66 := Tryd.isAgg139
  z66 := Tryd.sizeOf139
  v66 := Tryd.zeroValue139
  t70 := Tryd.underlying143
  a70 := Tryd.isAgg143
  z70 := Tryd.sizeOf143
  v70 := Tryd.zeroValue143
  t76 := Tryd.underlying147
  a76 := Tryd.isAgg147
  z76 := Tryd.sizeOf147
  v76 := Tryd.zeroValue147
  t77 := Tryd.underlying62
  a77 := Tryd.isAgg62
  z77 := Tryd.sizeOf62
  v77 := Tryd.zeroValue62 }
def Tryd.cloneS_ren : Go.Shelf.Ren := ⟨fun | 41 => 74 | n => n, fun | 22 => 41 | 23 => 24 | 4 => 4 | n => n, fun | n => n⟩
theorem Tryd.cloneS : Go.Proofs.SlLaysE0.n41 Tryd.prog Tryd.cloneS_ren := {
  mixed := by kernel_rfl
  f41 := ⟨Tryd.f74.name, by decide, Tryd.func74.trans (congrArg some (by kernel_rfl))⟩
  t4 := Tryd.underlying4
  a4 := Tryd.isAgg4
  z4 := Tryd.sizeOf4
  v4 := Tryd.zeroValue4
  t22 := Tryd.underlying41
  a22 := Tryd.isAgg41
  z22 := Tryd.sizeOf41
  v22 := Tryd.zeroValue41 }
end Go.Proofs

/- Layer 10: the library's functions at this program. -/
namespace Go.Proofs.YtiohainnpjikpaaDoor
open Go.RowKit Go.Shelf
set_option linter.unusedVariables false

theorem Tryd.hi147 : (Tryd.prog.info? (Tryd.lays147_ren.t 9)).map (fun i => (i.zero, i.size, i.bytes)) = some (some (.string ByteArray.empty), 1, 16) := by kernel_rfl
theorem Tryd.extra155 : Builder.Extra Tryd.prog Tryd.lays155_ren := {
  sizeBuilder := by kernel_rfl
  liesBuilder := by kernel_rfl
  t5 := Tryd.lays155.t5
  a5 := Tryd.lays155.a5
  z5 := Tryd.lays155.z5
  v5 := Tryd.lays155.v5
  infoByte := by kernel_rfl
  cellsByte := by kernel_rfl
  sizeByte := by kernel_rfl
  neB5 := by decide }
end Go.Proofs.YtiohainnpjikpaaDoor

/- Layer 10: Compare. -/
namespace Go.Proofs.YtiohainnpjikpaaDoor
open Go.RowKit Go.Recs Go.Shelf
set_option linter.unusedVariables false

/-- the world has at most new blocks, and draws -/
def GR (w w' : World) : Prop := ∃ q os, w' = Go.Sort.grow (w.drewN q) os
theorem GR.refl (w : World) : GR w w := ⟨0, #[], by simp [Go.Sort.grow, World.drewN]⟩
theorem GR.alloc {a w : World} (h : GR a w) (o : Obj) : GR a (w.alloc o) := by
  obtain ⟨q, os, rfl⟩ := h
  exact ⟨q, os ++ #[o], by rw [Go.Sort.alloc_eq_grow, Go.Sort.grow_grow]⟩
theorem GR.drew {a w : World} (h : GR a w) : GR a w.drew := by
  obtain ⟨q, os, rfl⟩ := h
  exact ⟨q + 1, os, rfl⟩
theorem GR.below {a w : World} (h : GR a w) : Below a.heap.size a w := by
  obtain ⟨q, os, rfl⟩ := h
  refine ⟨rfl, rfl, rfl, ?_, fun k hk => ?_⟩
  · show a.heap.size ≤ (a.heap ++ os).size
    simp
  · show (a.heap ++ os)[k]? = a.heap[k]?
    rw [Array.getElem?_append_left hk]

set_option maxHeartbeats 1000000 in
theorem or_any (A : Option Addr) (l : List Int) (cap : Nat) (w : World) (hI : Ints w A l) :
    Calls Tryd.prog 43 #[.slice A l.length cap] w fun e w' => e = .returned (.int .i64 (EM.orL l)) ∧ w = w' := by
  have hlen := hI.len
  have HSK := Lib.hid (fun k => @EM.or_skip l k); have HST := Lib.hid (fun k => @EM.or_stop l k)
  have H0 : Hid (EM.orL (l.drop 0) = EM.orL l) := Lib.hid rfl
  have HN : Hid (EM.orL (l.drop l.length) = 0) := Lib.hid (by rw [List.drop_length]; rfl)
  generalize EM.orL l = x at *
  go_enter Tryd.func43, Tryd.ntmps43
  go_wp2
  go_loop [5, 8] (fun _ i => ∃ k : Nat, k ≤ l.length ∧ i = .int .i64 k ∧ Hid (EM.orL (l.drop k) = x)) (fun _ i => l.length - (intOf i).toNat)
  case atStart => exact ⟨0, by omega, rfl, H0⟩
  case round =>
    obtain ⟨k, hk, rfl, HE⟩ := hrel
    by_cases hlt : k < l.length
    · obtain ⟨b, off, v, rfl, hb, hcell, HV, v1, v2⟩ := hI.get hlt
      have HVV : Hid (l[k] = v) := Lib.hid (by have := HV.out; simpa [List.getD, hlt] using this)
      by_cases hv : v = 0
      · subst hv
        have HE2 : Hid (EM.orL (l.drop (k + 1)) = x) := Lib.hid (by rw [← HSK.out k hlt HVV.out]; exact HE.out)
        go_wp2
        go_round
        case rel => exact ⟨k + 1, by omega, by go_num, HE2⟩
        case measure => simp [intOf]; omega
      · have HX : Hid (x = v) := Lib.hid (by rw [← HE.out, HST.out k hlt (by rw [HVV.out]; exact hv), HVV.out])
        have hd : (v != 0) = true := by simpa using hv
        go_wp2
        go_ret
        exact ⟨by rw [HX.out]; rfl, rfl⟩
    · obtain rfl : k = l.length := by omega
      have HX : Hid (x = 0) := Lib.hid (HE.out.symm.trans HN.out)
      go_wp2
      go_ret
      exact ⟨by rw [HX.out]; rfl, rfl⟩
theorem scmp_any (a b : ByteArray) (w : World) : Calls Tryd.prog 44 #[.string a, .string b] w fun e w' => e = .returned (.int .i64 (Lib.compareBytes a.data.toList b.data.toList)) ∧ w' = w := Any.strings_Compare Tryd.lays106 a b w
theorem icmp_any (x y : Int) (w : World) : Calls Tryd.prog 45 #[.int .i64 x, .int .i64 y] w fun e w' => e = .returned (.int .i64 (Lib.compareInt x y)) ∧ w' = w := Any.cmp_Compare_int Tryd.lays122 x y w
theorem cb_range (a b : List UInt8) : -1 ≤ Lib.compareBytes a b ∧ Lib.compareBytes a b ≤ 1 := by rw [EM.cb_less]; split <;> (try split) <;> omega
theorem ci_range (a b : Int) : -1 ≤ Lib.compareInt a b ∧ Lib.compareInt a b ≤ 1 := by unfold Lib.compareInt; split <;> (try split) <;> omega
theorem or4_any (a b : EM.Ser) (ww : World) :
    Calls Tryd.prog 43 #[.slice (some ⟨ww.heap.size, 0, none⟩) 4 4] (ww.alloc (.cells #[.int .i64 (Lib.compareBytes a.prod.data.toList b.prod.data.toList), .int .i64 (Lib.compareInt a.expiry b.expiry), .int .i64 (Lib.compareInt a.kind b.kind), .int .i64 (Lib.compareInt a.strike b.strike)] 3)).drew
      fun e w' => e = .returned (.int .i64 (EM.cmp a b)) ∧ (ww.alloc (.cells #[.int .i64 (Lib.compareBytes a.prod.data.toList b.prod.data.toList), .int .i64 (Lib.compareInt a.expiry b.expiry), .int .i64 (Lib.compareInt a.kind b.kind), .int .i64 (Lib.compareInt a.strike b.strike)] 3)).drew = w' := by
  have hI : Ints (ww.alloc (.cells ((EM.four a b).map (Value.int .i64)).toArray 3)) (some ⟨ww.heap.size, 0, none⟩) (EM.four a b) := by
    refine ⟨by show 4 ≤ _; decide, ?_, .inr ⟨_, _, rfl, by simp, fun i hi => ?_⟩⟩
    · intro n hn
      have r1 := cb_range a.prod.data.toList b.prod.data.toList
      have r2 := ci_range a.expiry b.expiry
      have r3 := ci_range a.kind b.kind
      have r4 := ci_range a.strike b.strike
      simp only [EM.four, List.mem_cons, List.not_mem_nil, or_false] at hn
      rcases hn with rfl | rfl | rfl | rfl <;> omega
    · rw [World.cell?_alloc_at _ _ _ _ rfl]
      simp [List.getD, hi]
  have := or_any _ (EM.four a b) 4 _ hI.drew
  rw [EM.cmp_or] at this
  exact this

set_option maxHeartbeats 4000000 in
theorem ecmp_any (a b : EM.Ser) (w : World) : Calls Tryd.prog 16 #[serA a, serA b] w fun e w' => e = .returned (.int .i64 (EM.cmp a b)) ∧ GR w w' := by
  have HG0 := Lib.hid (((GR.refl w).alloc (.cells #[.string a.prod, .int .i64 a.kind, .int .i64 a.expiry, .int .i64 a.strike] 24)).alloc (.cells #[.string b.prod, .int .i64 b.kind, .int .i64 b.expiry, .int .i64 b.strike] 24))
  have hgd := ser_guard
  by_cases hab : a = b
  · subst hab
    rw [EM.cmp_self]
    have E1 : ∀ ww, (Op.equalIn 10000 24 (serA a) (serA a)).run Tryd.prog ww = .ok true ww := fun ww => by rw [ser_in, seq_iff.2 rfl]
    go_enter Tryd.func16, Tryd.ntmps16
    go_wp2_with fail
    go_ret
    exact ⟨rfl, HG0.out⟩
  · have E1 : ∀ ww, (Op.equalIn 10000 24 (serA a) (serA b)).run Tryd.prog ww = .ok false ww := fun ww => by rw [ser_in, seq_false.2 hab]
    have HA0 := Lib.hid ((SBox.new w a).alloc (.cells #[.string b.prod, .int .i64 b.kind, .int .i64 b.expiry, .int .i64 b.strike] 24))
    have HB0 := Lib.hid (SBox.new (w.alloc (.cells #[.string a.prod, .int .i64 a.kind, .int .i64 a.expiry, .int .i64 a.strike] 24)) b)
    have HSZ : Hid ((w.alloc (.cells #[.string a.prod, .int .i64 a.kind, .int .i64 a.expiry, .int .i64 a.strike] 24)).heap.size = w.heap.size + 1) := Lib.hid (by simp)
    rw [HSZ.out] at HB0
    have CO := Lib.hid (fun ww => or4_any a b ww)
    have CS := Lib.hid (fun ww => scmp_any a.prod b.prod ww)
    have C1 := Lib.hid (fun ww => icmp_any a.expiry b.expiry ww); have C2 := Lib.hid (fun ww => icmp_any a.kind b.kind ww); have C3 := Lib.hid (fun ww => icmp_any a.strike b.strike ww)
    generalize EM.cmp a b = r at *
    generalize Lib.compareBytes a.prod.data.toList b.prod.data.toList = r0 at *
    generalize Lib.compareInt a.expiry b.expiry = r1 at *
    generalize Lib.compareInt a.kind b.kind = r2 at *
    generalize Lib.compareInt a.strike b.strike = r3 at *
    clear hab HSZ
    go_enter Tryd.func16, Tryd.ntmps16
    go_wp2_with fail
    generalize (w.alloc (.cells #[.string a.prod, .int .i64 a.kind, .int .i64 a.expiry, .int .i64 a.strike] 24)).alloc (.cells #[.string b.prod, .int .i64 b.kind, .int .i64 b.expiry, .int .i64 b.strike] 24) = w0 at *
    have HSF : Hid (∀ ww, Below w0.heap.size w0 ww → (ww.cell? ⟨w.heap.size, 0, none⟩ = some (.string a.prod) ∧ ww.cell? ⟨w.heap.size, 1, none⟩ = some (.int .i64 a.kind) ∧ ww.cell? ⟨w.heap.size, 2, none⟩ = some (.int .i64 a.expiry) ∧ ww.cell? ⟨w.heap.size, 3, none⟩ = some (.int .i64 a.strike)) ∧
      (ww.cell? ⟨w.heap.size + 1, 0, none⟩ = some (.string b.prod) ∧ ww.cell? ⟨w.heap.size + 1, 1, none⟩ = some (.int .i64 b.kind) ∧ ww.cell? ⟨w.heap.size + 1, 2, none⟩ = some (.int .i64 b.expiry) ∧ ww.cell? ⟨w.heap.size + 1, 3, none⟩ = some (.int .i64 b.strike))) := Lib.hid (fun ww h => ⟨(HA0.out.below h HA0.out.lt).cells, (HB0.out.below h HB0.out.lt).cells⟩)
    have HBw : Hid (Below w0.heap.size w0 w0.drew) := Lib.hid (Below.refl _ _).drew
    clear HA0 HB0
    go_region_held3 (fun ww => (ww.cell? ⟨w.heap.size, 0, none⟩ = some (.string a.prod) ∧ ww.cell? ⟨w.heap.size, 1, none⟩ = some (.int .i64 a.kind) ∧ ww.cell? ⟨w.heap.size, 2, none⟩ = some (.int .i64 a.expiry) ∧ ww.cell? ⟨w.heap.size, 3, none⟩ = some (.int .i64 a.strike)) ∧
      (ww.cell? ⟨w.heap.size + 1, 0, none⟩ = some (.string b.prod) ∧ ww.cell? ⟨w.heap.size + 1, 1, none⟩ = some (.int .i64 b.kind) ∧ ww.cell? ⟨w.heap.size + 1, 2, none⟩ = some (.int .i64 b.expiry) ∧ ww.cell? ⟨w.heap.size + 1, 3, none⟩ = some (.int .i64 b.strike)))
      (first | exact HSF.out _ HBw.out | exact HSF.out _ (HBw.out.alloc HBw.out.size _))
      (first
        | (go_at_call 44; refine (CS.out _).mono ?_; rintro e w6 ⟨rfl, rfl⟩)
        | (go_at_call 45; with_reducible refine (C1.out _).mono ?_; rintro e w6 ⟨rfl, rfl⟩)
        | (go_at_call 45; with_reducible refine (C2.out _).mono ?_; rintro e w6 ⟨rfl, rfl⟩)
        | (go_at_call 45; with_reducible refine (C3.out _).mono ?_; rintro e w6 ⟨rfl, rfl⟩)
        | (go_at_call 43; refine (CO.out _).mono ?_; rintro e w6 ⟨rfl, rfl⟩))
    all_goals (
      clear HSF CO CS C1 C2 C3
      go_wp2_with fail
      go_ret
      exact ⟨rfl, by first | exact HG0.out.drew.alloc _ | exact (HG0.out.alloc _).drew⟩)
end Go.Proofs.YtiohainnpjikpaaDoor

/- Layer 10: Print, and the pieces of Parse. -/
namespace Go.Proofs.YtiohainnpjikpaaDoor
open Go.RowKit Go.Recs Go.Shelf
set_option linter.unusedVariables false
set_option linter.unusedSimpArgs false

/-- internal/bytealg.MaxLen holds a number -/
def ML (w : World) : Prop := ∃ m, w.cell? ⟨Tryd.lays155_ren.g 1, 0, none⟩ = some (.int .i64 m)
theorem ML.below {w w' : World} (h : ML w) (hb : Below w.heap.size w w') : ML w' := by
  obtain ⟨m, hm⟩ := h
  exact ⟨m, (hb.cell (World.block_lt_of_cell? _ _ hm)).trans hm⟩
theorem ML.drew {w : World} (h : ML w) : ML w.drew := h
theorem strokes_any (y m d : Int) (w : World) (hm : ML w) :
    Calls Tryd.prog 38 #[.string (S (DM.dateL y m d)), .string ⟨#[45]⟩, .string ⟨#[]⟩] w fun e w' => e = .returned (.string (S (EM.d8 y m d))) ∧ Below w.heap.size w w' := by
  obtain ⟨mm, hmm⟩ := hm
  have hz : (S (DM.dateL y m d)).size = 10 := rfl
  have hc : Lib.countB (S (DM.dateL y m d)) ⟨#[45]⟩ * (⟨#[]⟩ : ByteArray).size = 0 := by show _ * 0 = 0; omega
  have := Any.strings_ReplaceAll Tryd.lays155 Tryd.extra155 (S (DM.dateL y m d)) ⟨#[45]⟩ ⟨#[]⟩ mm w (by omega) hmm (by decide) (by rw [hc]; omega)
  have e : (⟨(Lib.replaceAll (S (DM.dateL y m d)).data.toList (⟨#[45]⟩ : ByteArray).data.toList (⟨#[]⟩ : ByteArray).data.toList).toArray⟩ : ByteArray) = S (EM.d8 y m d) := by
    show S (Lib.replaceAll (L (S (DM.dateL y m d))) [45] []) = _
    rw [L_S, EM.strokes]
  rw [e] at this
  exact this
theorem split4_any (s : ByteArray) (w : World) (hm : ML w) (hs : s.size < 4294967281) :
    Calls Tryd.prog 28 #[.string s, .string ⟨#[46]⟩, .int .i64 4] w fun e w' => ∃ A cap ls, e = .returned (.slice A (List.length ls) cap) ∧ Strs w' A ls ∧ Below w.heap.size w w' ∧
      ((ls.length = 3 ↔ (WM.pieces 46 (L s)).length = 3) ∧ ((WM.pieces 46 (L s)).length = 3 → ls.map L = WM.pieces 46 (L s))) := by
  obtain ⟨mm, hmm⟩ := hm
  have := Any.strings_SplitN Tryd.lays147 Tryd.hi147 s ⟨#[46]⟩ 4 mm w hs hmm (by decide) (by omega) (by omega)
  have hd := Lib.splitB_data ⟨#[46]⟩ 0 (min 4 (s.size + 1) - 1) s
  obtain ⟨q1, q2, q3⟩ := EM.split_three 46 (L s)
  rw [L_len] at q1 q2 q3
  have hd' : (Lib.splitB ⟨#[46]⟩ 0 (min 4 (s.size + 1) - 1) s).map L = Lib.splitK [46] 0 (min 4 (s.size + 1) - 1) (L s) := hd
  have hl : (Lib.splitB ⟨#[46]⟩ 0 (min 4 (s.size + 1) - 1) s).length = (Lib.splitK [46] 0 (min 4 (s.size + 1) - 1) (L s)).length := by rw [← hd', List.length_map]
  refine this.mono fun e w' ⟨he, hw⟩ => ⟨_, _, _, he, ?_, ?_, ?_, ?_⟩
  · subst hw
    have hle : (Lib.splitB ⟨#[46]⟩ 0 (min 4 (s.size + 1) - 1) s).length ≤ min 4 (s.size + 1) := by rw [hl]; exact q3
    refine ⟨⟨by rw [List.length_map]; unfold maxLen; omega, .inr ⟨w.heap.size, 0, rfl, by simp, fun i hi => ?_⟩⟩, ?_⟩
    · rw [List.length_map] at hi
      rw [World.cell?_alloc_at _ _ _ _ rfl, Nat.zero_add]
      unfold Lib.cellsOf
      rw [List.getElem?_toArray, List.getElem?_append_left (by rw [List.length_map]; exact hi), List.getElem?_eq_getElem (by rw [List.length_map]; exact hi)]
    · intro x hx
      have hx2 : L x ∈ Lib.splitK [46] 0 (min 4 (s.size + 1) - 1) (L s) := by rw [← hd']; exact List.mem_map_of_mem hx
      have key : ∀ (k : Nat) (l p : List UInt8), p ∈ Lib.splitK [46] 0 k l → p.length ≤ l.length := by
        intro k
        induction k with
        | zero => intro l p hp; rw [Lib.splitK, List.mem_singleton] at hp; rw [hp]; exact Nat.le_refl _
        | succ k ih =>
          intro l p hp
          rw [Lib.splitK] at hp
          split at hp
          · rw [List.mem_singleton] at hp; rw [hp]; exact Nat.le_refl _
          · rcases List.mem_cons.1 hp with rfl | hp
            · simp; omega
            · have := ih _ _ hp
              rw [List.length_drop] at this; omega
      have := key _ _ _ hx2
      rw [L_len, L_len] at this
      unfold maxLen; omega
  · subst hw
    exact (Below.refl w.heap.size w).alloc (Nat.le_refl _) _
  · rw [hl]; exact q1
  · intro h3
    rw [hd']; exact q2 h3
def letB (k : Int) : ByteArray := if k = 1 then ⟨#[102]⟩ else if k = 2 then ⟨#[99]⟩ else if k = 3 then ⟨#[112]⟩ else ⟨#[]⟩
theorem letter_any (k : Int) (w : World) : Calls Tryd.prog 23 #[.int .i64 k] w fun e w' => e = .returned (.string (letB k)) ∧ w' = w := by
  unfold letB
  by_cases h1 : k = 1
  · subst h1
    go_enter Tryd.func23, Tryd.ntmps23
    go_wp2
    go_ret
    exact ⟨rfl, rfl⟩
  · rw [if_neg h1]
    by_cases h2 : k = 2
    · subst h2
      go_enter Tryd.func23, Tryd.ntmps23
      go_wp2
      go_ret
      exact ⟨rfl, rfl⟩
    · rw [if_neg h2]
      by_cases h3 : k = 3
      · subst h3
        go_enter Tryd.func23, Tryd.ntmps23
        go_wp2
        go_ret
        exact ⟨rfl, rfl⟩
      · rw [if_neg h3]
        have b1 : (k == 1) = false := beq_f h1
        have b2 : (k == 2) = false := beq_f h2
        have b3 : (k == 3) = false := beq_f h3
        go_enter Tryd.func23, Tryd.ntmps23
        go_wp2
        go_ret
        exact ⟨rfl, rfl⟩
theorem cutp_any (s : ByteArray) (b : UInt8) (w : World) :
    Calls Tryd.prog 55 #[.string s, .string ⟨#[b]⟩] w fun e w' => e = .returned (.tuple #[.string (S (Lib.trimPrefix (L s) [b])), .bool (Lib.hasPrefix (L s) [b])]) ∧ w' = w :=
  Any.strings_CutPrefix Tryd.lays103 s ⟨#[b]⟩ w
theorem beq_lit {s : ByteArray} {l : List UInt8} : (s.toList == l) = decide (L s = l) := by rw [L_toList]; by_cases h : L s = l <;> simp [h]
set_option maxHeartbeats 1000000 in
theorem cutKind_any (s : ByteArray) (w : World) (hs : s.size ≤ 9223372036854775807) :
    Calls Tryd.prog 29 #[.string s] w fun e w' => e = .returned (.tuple #[.int .i64 (EM.ckK (L s)), .string (S (EM.ckR (L s))), .bool (EM.ckB (L s))]) ∧ w' = w := by
  have C1 := Lib.hid (fun ww => cutp_any s 99 ww)
  have C2 := Lib.hid (fun ww => cutp_any s 112 ww)
  rw [EM.pre_one (by decide)] at C1 C2
  unfold EM.ckK EM.ckR EM.ckB
  have hf := @beq_lit s [102]
  by_cases h1 : L s = [102]
  · have hfe : s.toList = [102] := by rw [L_toList]; exact h1
    rw [if_pos h1, if_pos h1, decide_eq_true (.inl h1)]
    rw [decide_eq_true h1] at hf
    clear h1 C1 C2
    go_enter Tryd.func29, Tryd.ntmps29
    go_wp2_with fail
    go_ret3
    exact ⟨rfl, rfl⟩
  · have hfe : ¬ s.toList = [102] := by rw [L_toList]; exact h1
    rw [if_neg h1, if_neg h1]
    rw [decide_eq_false h1] at hf
    by_cases h2 : (L s).headD 0 = 99
    · have ht := EM.trim_one (b := 99) (L s) (by rw [EM.pre_one (by decide)]; exact decide_eq_true h2)
      rw [if_pos h2, if_pos (.inl h2), decide_eq_true (.inr (.inl h2))]
      rw [decide_eq_true h2, ht] at C1
      clear h1 h2 C2 ht
      generalize S (L s).tail = r at *
      go_enter Tryd.func29, Tryd.ntmps29
      go_wp2_with fail
      refine (C1.out _).mono ?_
      rintro e w1 ⟨rfl, rfl⟩
      go_wp2_with fail
      go_ret3
      exact ⟨rfl, rfl⟩
    · rw [decide_eq_false h2] at C1
      by_cases h3 : (L s).headD 0 = 112
      · have ht := EM.trim_one (b := 112) (L s) (by rw [EM.pre_one (by decide)]; exact decide_eq_true h3)
        rw [if_neg h2, if_pos h3, if_pos (.inr h3), decide_eq_true (.inr (.inr h3))]
        rw [decide_eq_true h3, ht] at C2
        clear h1 h2 h3 ht
        generalize S (L s).tail = r at *
        generalize S (Lib.trimPrefix (L s) [99]) = r1 at *
        go_enter Tryd.func29, Tryd.ntmps29
        go_wp2_with fail
        refine (C1.out _).mono ?_
        rintro e w1 ⟨rfl, rfl⟩
        go_wp2_with fail
        refine (C2.out _).mono ?_
        rintro e w1 ⟨rfl, rfl⟩
        go_wp2_with fail
        go_ret3
        exact ⟨rfl, rfl⟩
      · rw [decide_eq_false h3] at C2
        rw [if_neg h2, if_neg h3, if_neg (by rintro (h | h); exact h2 h; exact h3 h), decide_eq_false (by rintro (h | h | h); exact h1 h; exact h2 h; exact h3 h)]
        clear h1 h2 h3
        generalize S (Lib.trimPrefix (L s) [112]) = r at *
        generalize S (Lib.trimPrefix (L s) [99]) = r1 at *
        go_enter Tryd.func29, Tryd.ntmps29
        go_wp2_with fail
        refine (C1.out _).mono ?_
        rintro e w1 ⟨rfl, rfl⟩
        go_wp2_with fail
        refine (C2.out _).mono ?_
        rintro e w1 ⟨rfl, rfl⟩
        go_wp2_with fail
        go_ret3
        exact ⟨rfl, rfl⟩
end Go.Proofs.YtiohainnpjikpaaDoor
