/- Put together: Made, StrEq, SerB, SerA, SerC, SerD, SerE. -/
import Derived.Test.YtiohainnpjikpaaDoorBun1
import Derived.Maps.AppendAt
import Derived.Test.YtiohainnpjikpaaDoorBun7
import Derived.Laws.StructEq
import Derived.Laws.ResultCell
import Derived.Laws.Rows
import Derived.Shelf.Lay
import Derived.Shelf.SlGeneric
import Derived.Shelf.Small.Wraps
import Derived.Shelf.Small.Strs
import Derived.Shelf.Strings.Split
import Derived.Shelf.Strings.Replace
import Derived.Ground.NamesProg
import Derived.Sort.Grow
import Derived.Deep.RegionHeld3
import Derived.Test.YtiohainnpjikpaaDoorBun3
import Derived.Test.YtiohainnpjikpaaDoorBun4
import Derived.Test.YtiohainnpjikpaaDoorBun5
import Derived.Test.YtiohainnpjikpaaDoorBun2
/- Rows of ints made by 'make', known whole. -/
namespace Go.Proofs.YtiohainnpjikpaaDoor
open Go.RowKit

/-- block g is just the numbers zs -/
def Row (w : World) (g : Nat) (zs : List Int) : Prop := w.heap[g]? = some (.cells (zs.map (Value.int .i64)).toArray 3 (0, 0))
/-- block g is one variable of type t -/
def Box (w : World) (g : Nat) (t : TypeId) (v : Value) : Prop := w.heap[g]? = some (.cells #[v] t (0, 0))

theorem lt_of_block {w : World} {g : Nat} {o : Obj} (h : w.heap[g]? = some o) : g < w.heap.size := by
  rcases Nat.lt_or_ge g w.heap.size with hlt | hge
  · exact hlt
  · rw [Array.getElem?_eq_none hge] at h; cases h

section
variable {w w' : World} {g : Nat} {zs : List Int} {t : TypeId} {v : Value}
theorem Row.lt (h : Row w g zs) : g < w.heap.size := lt_of_block h
theorem Box.lt (h : Box w g t v) : g < w.heap.size := lt_of_block h
theorem Row.cell (h : Row w g zs) (i : Nat) (hi : i < zs.length) : w.cell? ⟨g, i, none⟩ = some (.int .i64 (zs.getD i 0)) := by
  unfold Row at h
  simp [World.cell?, h, List.getD, hi]
theorem Row.frozen (h : Row w g zs) (i : Nat) : w.frozen? ⟨g, i, none⟩ = false := by
  unfold Row at h
  simp [World.frozen?, h]
theorem Box.cell (h : Box w g t v) : w.cell? ⟨g, 0, none⟩ = some v := by
  unfold Box at h
  simp [World.cell?, h]
theorem Box.frozen (h : Box w g t v) : w.frozen? ⟨g, 0, none⟩ = false := by
  unfold Box at h
  simp [World.frozen?, h]
theorem Row.set_ (h : Row w g zs) (i : Nat) (x : Int) : Row (w.setCell ⟨g, i, none⟩ (.int .i64 x)) g (zs.set i x) := by
  unfold Row at h ⊢
  simp [World.setCell, Array.getElem?_modify, h]
theorem Box.set_ (h : Box w g t v) (u : Value) : Box (w.setCell ⟨g, 0, none⟩ u) g t u := by
  unfold Box at h ⊢
  simp [World.setCell, Array.getElem?_modify, h]
theorem Row.far (h : Row w g zs) {p : Addr} (hp : g ≠ p.block) (u : Value) : Row (w.setCell p u) g zs := (Below.heap_setCell w p u g hp).trans h
theorem Box.far (h : Box w g t v) {p : Addr} (hp : g ≠ p.block) (u : Value) : Box (w.setCell p u) g t v := (Below.heap_setCell w p u g hp).trans h
theorem Row.alloc (h : Row w g zs) (o : Obj) : Row (w.alloc o) g zs := (Below.heap_alloc w o g h.lt).trans h
theorem Box.alloc (h : Box w g t v) (o : Obj) : Box (w.alloc o) g t v := (Below.heap_alloc w o g h.lt).trans h
theorem Row.drewN (h : Row w g zs) (n : Nat) : Row (w.drewN n) g zs := h
theorem Row.drew (h : Row w g zs) : Row w.drew g zs := h
theorem Box.drewN (h : Box w g t v) (n : Nat) : Box (w.drewN n) g t v := h
theorem Box.drew (h : Box w g t v) : Box w.drew g t v := h
theorem Row.below {B : Nat} (h : Row w g zs) (hb : Below B w w') (hg : g < B) : Row w' g zs := (hb.block g hg).trans h
theorem Box.below {B : Nat} (h : Box w g t v) (hb : Below B w w') (hg : g < B) : Box w' g t v := (hb.block g hg).trans h
theorem Box.new (w : World) (t : TypeId) (v : Value) : Box (w.alloc (.cells #[v] t)) w.heap.size t v := heap_alloc_new w _
theorem Row.own (h : Row w g zs) {B : Nat} (hB : B ≤ g) (hl : zs.length ≤ maxLen) : Own w B (.slice (some ⟨g, 0, none⟩) zs.length zs.length) zs :=
  ⟨by simp, .inr ⟨g, zs.length, _, rfl, hB, h, Nat.le_refl _, hl, by simp, by simp [List.take_of_length_le]⟩⟩
theorem Row.ints (h : Row w g zs) (hl : zs.length ≤ maxLen) (hr : ∀ n ∈ zs, -9223372036854775808 ≤ n ∧ n ≤ 9223372036854775807) : Ints w (some ⟨g, 0, none⟩) zs :=
  ⟨hl, hr, .inr ⟨g, 0, rfl, h.lt, fun i hi => by rw [Nat.zero_add]; exact h.cell i hi⟩⟩
end

/-- n noughts, as cells -/
def zeros (n : Nat) : Array Value := madeCells #[.int .i64 0] n
theorem Row.made (w : World) (n : Nat) : Row (w.alloc (.cells (zeros n) 3)) w.heap.size (List.replicate n 0) := by
  have e : zeros n = ((List.replicate n 0).map (Value.int .i64)).toArray := by
    apply Array.toList_inj.1
    simp [zeros, toList_madeCells_one]
  rw [e]; exact heap_alloc_new w _

theorem make_ints (n : Nat) (hn : n ≤ 1099511627776) (u : World) : (Instr.makeSlice 95 (.int .i64 (n : Int)) (.int .i64 (n : Int))).run Tryd.prog u =
    .ok (.slice (some ⟨u.heap.size, 0, none⟩) n n) (u.alloc (.cells (zeros n) 3)) := by
  obtain ⟨i0, hi, hz0, hz1, hz2⟩ := info_parts info_int
  have h := run_make (P := Tryd.prog) u 95 3 i0 (.int .i64 0) Tryd.underlying95 hi hz0 .i64 .i64 (n : Int) (n : Int) (by omega) (Int.le_refl _) (by rw [hz2]; omega) (by omega)
  rw [Int.toNat_natCast] at h
  simpa [hz1, Value.cells, zeros] using h

/-! a row of the call's own, whatever its room: stores -/
theorem Own.set_ {w : World} {B g n cap : Nat} {zs : List Int} (h : Own w B (.slice (some ⟨g, 0, none⟩) n cap) zs) (i : Nat) (x : Int) :
    Own (w.setCell ⟨g, i, none⟩ (.int .i64 x)) B (.slice (some ⟨g, 0, none⟩) n cap) (zs.set i x) := by
  have hn : n = zs.length := by
    rcases h.2 with ⟨h0, _⟩ | ⟨g', cap', cur, h0, _⟩
    · cases h0
    · injection h0
  subst hn
  have := (World.ownsRow.stored h i (.int .i64 x)).1
  unfold Own
  rw [List.length_set, List.map_set]
  exact this
theorem Own.frozen {w : World} {B g n cap : Nat} {zs : List Int} (h : Own w B (.slice (some ⟨g, 0, none⟩) n cap) zs) (i : Nat) : w.frozen? ⟨g, i, none⟩ = false := by
  have hn : n = zs.length := by
    rcases h.2 with ⟨h0, _⟩ | ⟨g', cap', cur, h0, _⟩
    · cases h0
    · injection h0
  subst hn
  exact World.ownsRow.frozenAt h i
theorem Own.far {w : World} {B g n cap : Nat} {zs : List Int} (h : Own w B (.slice (some ⟨g, 0, none⟩) n cap) zs) {p : Addr} (hp : g ≠ p.block) (u : Value) :
    Own (w.setCell p u) B (.slice (some ⟨g, 0, none⟩) n cap) zs := by
  refine ⟨h.1, ?_⟩
  rcases h.2 with ⟨h0, _⟩ | ⟨g', cap', cur, h0, hB, hh, r⟩
  · cases h0
  · refine .inr ⟨g', cap', cur, h0, hB, ?_, r⟩
    have : g' = g := by injection h0 with h1; injection h1 with h1; injection h1 with h1; exact h1.symm
    subst this
    rw [Below.heap_setCell w p u _ hp]; exact hh
theorem Own.empty (w : World) (B : Nat) (hB : B ≤ w.heap.size) : Own (w.alloc (.cells #[] 3)) B (.slice (some ⟨w.heap.size, 0, none⟩) 0 0) [] :=
  World.ownsRow_lit w #[] 0 hB (Nat.zero_le _) rfl
theorem Own.ge {w : World} {B g n cap : Nat} {zs : List Int} (h : Own w B (.slice (some ⟨g, 0, none⟩) n cap) zs) : B ≤ g ∧ g < w.heap.size := by
  rcases h.form with ⟨h0, _⟩ | ⟨g', c', h0, h1, h2, _⟩
  · cases h0
  · injection h0 with h1'; injection h1' with h1'; injection h1' with h1'
    subst h1'; exact ⟨h1, h2⟩

/-- two rows of the call's own, in different blocks -/
def Two (w : World) (B : Nat) (v : Value) (zs : List Int) (u : Value) (ys : List Int) : Prop :=
  Own w B v zs ∧ Own w B u ys ∧ ∃ g h, v.ownBlock = some g ∧ u.ownBlock = some h ∧ g ≠ h ∧ g < w.heap.size ∧ h < w.heap.size

theorem Two.swap {w : World} {B : Nat} {v u : Value} {zs ys : List Int} (h : Two w B v zs u ys) : Two w B u ys v zs := by
  obtain ⟨a, b, g, k, e1, e2, e3, e4, e5⟩ := h
  exact ⟨b, a, k, g, e2, e1, fun e => e3 e.symm, e5, e4⟩
theorem Two.below {w w' : World} {B : Nat} {v u : Value} {zs ys : List Int} (h : Two w B v zs u ys) (hb : Below w.heap.size w w') : Two w' B v zs u ys := by
  obtain ⟨a, b, g, k, e1, e2, e3, e4, e5⟩ := h
  exact ⟨a.below hb, b.below hb, g, k, e1, e2, e3, Nat.lt_of_lt_of_le e4 hb.size, Nat.lt_of_lt_of_le e5 hb.size⟩

/-- 's = append(s, x)' beside another row -/
theorem wpList_push2 {ops : Array Oper} {rest : List Oper} {o : Oper} {a : Act} {Q : Exit → Act → World → Prop} (w : World) (n : Int) (B : Nat) (zs ys : List Int) (s x : Operand)
    (hgd : o.guard = none) (ho : o.op = .call { callee := .builtin .append, args := #[s, x], argTypes := #[95, 95] })
    (v u : Value) (hs : a.eval s = v) (hx : a.eval x = .slice (some ⟨w.heap.size, 0, none⟩) 1 1) (hown : Two w B v zs u ys) (hl : zs.length < 1099511627776) (hB : B ≤ w.heap.size)
    (h : ∀ v' w', Two w' B v' (zs ++ [n]) u ys → Below B w w' → wpList Tryd.prog ops Q rest (a.put o.dst v') w') :
    wpList Tryd.prog ops Q (o :: rest) a (w.alloc (.cells #[.int .i64 n] 3)) := by
  obtain ⟨h1, h2, g, k, e1, e2, e3, e4, e5⟩ := hown
  obtain ⟨i0, hi, hz0, hz1, hz2⟩ := info_parts info_int
  refine wpList_append_own_at (w.alloc (.cells #[.int .i64 n] 3)) hgd s x 95 ho B 3 i0 (.int .i64 0) 1 8 Tryd.underlying95 hi hz0 hz1 hz2 rfl (by decide) v zs.length (zs.map (Value.int .i64)) hs (Own.alloc h1 _)
    ⟨w.heap.size, 0, none⟩ 1 1 [.int .i64 n] hx rfl ?_ ?_ (by unfold maxLen; omega) (by omega) (by simp; omega) ?_
  · intro j u hj
    match j, hj with
    | 0, hj => simp at hj; subst hj; simp [Addr.add]
  · intro u hu; simp at hu; subst hu; rfl
  · intro v' w' p1 p2 _ p4
    have hg : w.grownBy w' v.ownBlock := (World.grownBy_alloc w _ v.ownBlock).trans p2
    have own' : Own w' B v' (zs ++ [n]) := by unfold Own; simpa using p1
    have hu : Own w' B u ys := World.ownsRow.kept h2 hg (.inr (by rw [e1, e2]; intro e; injection e with e; exact e3 e.symm))
    refine h v' w' ⟨own', hu, ?_⟩ ((Below.refl B w).grown hg hB (Own.block h1))
    have hz := hg.size
    rcases p4 with p4 | p4
    · exact ⟨g, k, by rw [p4, e1], e2, e3, by omega, by omega⟩
    · refine ⟨w.heap.size + 1, k, by rw [p4]; simp, e2, by omega, ?_, by omega⟩
      have := World.ownsRow.lt p1 (w.heap.size + 1) (by rw [p4]; simp)
      exact this.2
end Go.Proofs.YtiohainnpjikpaaDoor

/- Two texts compared: as the walk says it. -/
namespace Go.Proofs.YtiohainnpjikpaaDoor
theorem str_t {s t : ByteArray} (h : s = t) : (s.toList == t.toList) = true := by subst h; simp
theorem str_f {s t : ByteArray} (h : s ≠ t) : (s.toList == t.toList) = false := by
  rw [L_toList, L_toList]
  cases e : (L s == L t)
  · rfl
  · exact absurd (L_inj (by simpa using e)) h
end Go.Proofs.YtiohainnpjikpaaDoor

/- Layer 10: series compared and in boxes. -/
namespace Go.Proofs.YtiohainnpjikpaaDoor
open Go.RowKit Go.Recs
set_option linter.unusedVariables false
abbrev serA (s : EM.Ser) : Value := .agg #[.string s.prod, .int .i64 s.kind, .int .i64 s.expiry, .int .i64 s.strike]
def seq (x y : EM.Ser) : Bool := (x.prod.toList == y.prod.toList) && ((x.kind == y.kind) && ((x.expiry == y.expiry) && (x.strike == y.strike)))
theorem seq_iff {x y : EM.Ser} : seq x y = true ↔ x = y := by
  constructor
  · intro h
    unfold seq at h
    simp only [Bool.and_eq_true, beq_iff_eq] at h
    obtain ⟨h1, h2, h3, h4⟩ := h
    cases x; cases y
    simp only at h1 h2 h3 h4
    rw [EM.toList_inj h1, h2, h3, h4]
  · rintro rfl
    simp [seq]
theorem seq_false {x y : EM.Ser} : seq x y = false ↔ x ≠ y := by rw [Bool.eq_false_iff, ne_eq, seq_iff]
theorem ser_in (x y : EM.Ser) (w : World) : (Op.equalIn 10000 24 (serA x) (serA y)).run Tryd.prog w = .ok (seq x y) w := by
  have u3 := Tryd.underlying3
  have u9 := Tryd.underlying9
  have a3 := Tryd.isAgg3
  have a9 := Tryd.isAgg9
  have z3 := Tryd.sizeOf3
  have z9 := Tryd.sizeOf9
  have hS : Tryd.prog.underlying 24 = some (.struct (Tryd.prog.fieldsOf 24)) := by kernel_rfl
  have hp : Tryd.prog.stoodInHeld 24 = false := by kernel_rfl
  rw [show (10000 : Nat) = 9999 + 1 from rfl, run_equalIn_agg w 9999 24 _ _ hS hp]
  simp only [Program.fieldsOf, Tryd.underlying24]
  unfold seq
  go_simp
  by_cases h1 : x.prod.toList = y.prod.toList <;> by_cases h2 : x.kind = y.kind <;> by_cases h3 : x.expiry = y.expiry <;> by_cases h4 : x.strike = y.strike <;> simp [h1, h2, h3, h4]
theorem ser_guard : Tryd.prog.eqGuardType Tryd.prog.depth 24 = false := by kernel_rfl
/-- block g is one series -/
def SBox (w : World) (g : Nat) (p : EM.Ser) : Prop := w.heap[g]? = some (.cells #[.string p.prod, .int .i64 p.kind, .int .i64 p.expiry, .int .i64 p.strike] 24 (0, 0))
section
variable {w w' : World} {g B : Nat} {p : EM.Ser}
theorem SBox.new (w : World) (p : EM.Ser) : SBox (w.alloc (.cells #[.string p.prod, .int .i64 p.kind, .int .i64 p.expiry, .int .i64 p.strike] 24)) w.heap.size p := heap_alloc_new w _
theorem SBox.below (h : SBox w g p) (hb : Below B w w') (hg : g < B) : SBox w' g p := (hb.block g hg).trans h
theorem SBox.lt (h : SBox w g p) : g < w.heap.size := lt_of_block h
theorem SBox.cells (h : SBox w g p) :
    w.cell? ⟨g, 0, none⟩ = some (.string p.prod) ∧ w.cell? ⟨g, 1, none⟩ = some (.int .i64 p.kind) ∧ w.cell? ⟨g, 2, none⟩ = some (.int .i64 p.expiry) ∧ w.cell? ⟨g, 3, none⟩ = some (.int .i64 p.strike) := by
  unfold SBox at h
  simp [World.cell?, h]
theorem SBox.drewN (h : SBox w g p) (n : Nat) : SBox (w.drewN n) g p := h
theorem SBox.drew (h : SBox w g p) : SBox w.drew g p := h
theorem SBox.alloc (h : SBox w g p) (o : Obj) : SBox (w.alloc o) g p := (Below.heap_alloc w o g h.lt).trans h
theorem SBox.frozen (h : SBox w g p) (i : Nat) : w.frozen? ⟨g, i, none⟩ = false := by unfold SBox at h; simp [World.frozen?, h]
theorem SBox.put (h : SBox w g p) (x : EM.Ser) : SBox ((((w.setCell ⟨g, 0, none⟩ (.string x.prod)).setCell ⟨g, 1, none⟩ (.int .i64 x.kind)).setCell ⟨g, 2, none⟩ (.int .i64 x.expiry)).setCell ⟨g, 3, none⟩ (.int .i64 x.strike)) g x := by
  unfold SBox at h ⊢
  simp [World.setCell, Array.getElem?_modify, h]
theorem SBox.put_below {a : World} (h : Below B a w) (hB : B ≤ g) (x : EM.Ser) : Below B a ((((w.setCell ⟨g, 0, none⟩ (.string x.prod)).setCell ⟨g, 1, none⟩ (.int .i64 x.kind)).setCell ⟨g, 2, none⟩ (.int .i64 x.expiry)).setCell ⟨g, 3, none⟩ (.int .i64 x.strike)) :=
  (((h.setCell hB _).setCell hB _).setCell hB _).setCell hB _
theorem SBox.strike (h : SBox w g p) (n : Int) : SBox (w.setCell ⟨g, 3, none⟩ (.int .i64 n)) g { p with strike := n } := by
  unfold SBox at h ⊢
  simp [World.setCell, Array.getElem?_modify, h]
end
theorem ser_under : Tryd.prog.underlying 24 = some (.struct (Tryd.prog.fieldsOf 24)) := by kernel_rfl
theorem ser_size : (Tryd.prog.info? 24).map (·.size) = some 4 := by kernel_rfl
theorem results_ser {fn : Func} {p u : Tmp} (h : fn.results = #[.cell p 24, .tmp u]) (tmps : Array Value) (w : World) (g : Nat) (x : EM.Ser)
    (hp : tmps.getD p undef = .pointer (some ⟨g, 0, none⟩)) (hb : SBox w g x) : (results fn tmps).run Tryd.prog w = .ok (.tuple #[serA x, tmps.getD u undef]) w := by
  rw [results_cell_tmp h, hp]
  simp only [asAddr, Sem.run_pure, Result.andThen_ok]
  rw [run_loadVar_row w g 24 24 _ (0, 0) _ hb ser_under rfl ser_size]
  rfl
end Go.Proofs.YtiohainnpjikpaaDoor

/- Layer 10: the library's functions at this program. -/
namespace Go.Proofs.YtiohainnpjikpaaDoor
open Go.RowKit Go.Shelf
set_option linter.unusedVariables false

shelf_lay Lays.n106 Nm 106 at Tryd as Tryd.lays106
shelf_lay Lays.n122 Nm 122 at Tryd as Tryd.lays122
shelf_lay Lays.n103 Nm 103 at Tryd as Tryd.lays103
shelf_lay Lays.n147 Nm 147 at Tryd as Tryd.lays147
shelf_lay Lays.n155 Nm 155 at Tryd as Tryd.lays155
theorem Tryd.hi147 : (Tryd.prog.info? (Tryd.lays147_ren.t 9)).map (fun i => (i.zero, i.size, i.bytes)) = some (some (.string ByteArray.empty), 1, 16) := by kernel_rfl
theorem Tryd.extra155 : Builder.Extra Tryd.prog Tryd.lays155_ren where
  sizeBuilder := by kernel_rfl
  liesBuilder := by kernel_rfl
  t5 := Tryd.lays155.t5
  a5 := Tryd.lays155.a5
  z5 := Tryd.lays155.z5
  v5 := Tryd.lays155.v5
  infoByte := by kernel_rfl
  cellsByte := by kernel_rfl
  sizeByte := by kernel_rfl
  neB5 := by decide
#eval (Tryd.lays147_ren.g 1, Tryd.lays155_ren.g 1, Tryd.lays147_ren.f 147, Tryd.lays155_ren.f 155, Tryd.lays106_ren.f 106, Tryd.lays122_ren.f 122, Tryd.lays103_ren.f 103, Tryd.lays147_ren.t 9)
end Go.Proofs.YtiohainnpjikpaaDoor

/- Layer 10: Compare. -/
namespace Go.Proofs.YtiohainnpjikpaaDoor
open Go.RowKit Go.Recs Go.Shelf
set_option linter.unusedVariables false

/-- the world has at most new blocks, and draws -/
def GR (w w' : World) : Prop := ∃ q os, w' = Go.Sort.grow (w.drewN q) os
theorem GR.refl (w : World) : GR w w := ⟨0, #[], by simp [Go.Sort.grow, World.drewN]⟩
theorem GR.alloc {a w : World} (h : GR a w) (o : Obj) : GR a (w.alloc o) := by
  obtain ⟨q, os, rfl⟩ := h
  exact ⟨q, os ++ #[o], by rw [Go.Sort.alloc_eq_grow, Go.Sort.grow_grow]⟩
theorem GR.drew {a w : World} (h : GR a w) : GR a w.drew := by
  obtain ⟨q, os, rfl⟩ := h
  exact ⟨q + 1, os, rfl⟩
theorem GR.below {a w : World} (h : GR a w) : Below a.heap.size a w := by
  obtain ⟨q, os, rfl⟩ := h
  refine ⟨rfl, rfl, rfl, ?_, fun k hk => ?_⟩
  · show a.heap.size ≤ (a.heap ++ os).size
    simp
  · show (a.heap ++ os)[k]? = a.heap[k]?
    rw [Array.getElem?_append_left hk]

set_option maxHeartbeats 1000000 in
theorem or_any (A : Option Addr) (l : List Int) (cap : Nat) (w : World) (hI : Ints w A l) :
    Calls Tryd.prog 43 #[.slice A l.length cap] w fun e w' => e = .returned (.int .i64 (EM.orL l)) ∧ w = w' := by
  have hlen := hI.len
  have HSK := Lib.hid (fun k => @EM.or_skip l k); have HST := Lib.hid (fun k => @EM.or_stop l k)
  have H0 : Hid (EM.orL (l.drop 0) = EM.orL l) := Lib.hid rfl
  have HN : Hid (EM.orL (l.drop l.length) = 0) := Lib.hid (by rw [List.drop_length]; rfl)
  generalize EM.orL l = x at *
  go_enter Tryd.func43, Tryd.ntmps43
  go_wp2
  go_loop [5, 8] (fun _ i => ∃ k : Nat, k ≤ l.length ∧ i = .int .i64 k ∧ Hid (EM.orL (l.drop k) = x)) (fun _ i => l.length - (intOf i).toNat)
  case atStart => exact ⟨0, by omega, rfl, H0⟩
  case round =>
    obtain ⟨k, hk, rfl, HE⟩ := hrel
    by_cases hlt : k < l.length
    · obtain ⟨b, off, v, rfl, hb, hcell, HV, v1, v2⟩ := hI.get hlt
      have HVV : Hid (l[k] = v) := Lib.hid (by have := HV.out; simpa [List.getD, hlt] using this)
      by_cases hv : v = 0
      · subst hv
        have HE2 : Hid (EM.orL (l.drop (k + 1)) = x) := Lib.hid (by rw [← HSK.out k hlt HVV.out]; exact HE.out)
        go_wp2
        go_round
        case rel => exact ⟨k + 1, by omega, by go_num, HE2⟩
        case measure => simp [intOf]; omega
      · have HX : Hid (x = v) := Lib.hid (by rw [← HE.out, HST.out k hlt (by rw [HVV.out]; exact hv), HVV.out])
        have hd : (v != 0) = true := by simpa using hv
        go_wp2
        go_ret
        exact ⟨by rw [HX.out]; rfl, rfl⟩
    · obtain rfl : k = l.length := by omega
      have HX : Hid (x = 0) := Lib.hid (HE.out.symm.trans HN.out)
      go_wp2
      go_ret
      exact ⟨by rw [HX.out]; rfl, rfl⟩
theorem scmp_any (a b : ByteArray) (w : World) : Calls Tryd.prog 44 #[.string a, .string b] w fun e w' => e = .returned (.int .i64 (Lib.compareBytes a.data.toList b.data.toList)) ∧ w' = w := Any.strings_Compare Tryd.lays106 a b w
theorem icmp_any (x y : Int) (w : World) : Calls Tryd.prog 45 #[.int .i64 x, .int .i64 y] w fun e w' => e = .returned (.int .i64 (Lib.compareInt x y)) ∧ w' = w := Any.cmp_Compare_int Tryd.lays122 x y w
theorem cb_range (a b : List UInt8) : -1 ≤ Lib.compareBytes a b ∧ Lib.compareBytes a b ≤ 1 := by rw [EM.cb_less]; split <;> (try split) <;> omega
theorem ci_range (a b : Int) : -1 ≤ Lib.compareInt a b ∧ Lib.compareInt a b ≤ 1 := by unfold Lib.compareInt; split <;> (try split) <;> omega
theorem or4_any (a b : EM.Ser) (ww : World) :
    Calls Tryd.prog 43 #[.slice (some ⟨ww.heap.size, 0, none⟩) 4 4] (ww.alloc (.cells #[.int .i64 (Lib.compareBytes a.prod.data.toList b.prod.data.toList), .int .i64 (Lib.compareInt a.expiry b.expiry), .int .i64 (Lib.compareInt a.kind b.kind), .int .i64 (Lib.compareInt a.strike b.strike)] 3)).drew
      fun e w' => e = .returned (.int .i64 (EM.cmp a b)) ∧ (ww.alloc (.cells #[.int .i64 (Lib.compareBytes a.prod.data.toList b.prod.data.toList), .int .i64 (Lib.compareInt a.expiry b.expiry), .int .i64 (Lib.compareInt a.kind b.kind), .int .i64 (Lib.compareInt a.strike b.strike)] 3)).drew = w' := by
  have hI : Ints (ww.alloc (.cells ((EM.four a b).map (Value.int .i64)).toArray 3)) (some ⟨ww.heap.size, 0, none⟩) (EM.four a b) := by
    refine ⟨by show 4 ≤ _; decide, ?_, .inr ⟨_, _, rfl, by simp, fun i hi => ?_⟩⟩
    · intro n hn
      have r1 := cb_range a.prod.data.toList b.prod.data.toList
      have r2 := ci_range a.expiry b.expiry
      have r3 := ci_range a.kind b.kind
      have r4 := ci_range a.strike b.strike
      simp only [EM.four, List.mem_cons, List.not_mem_nil, or_false] at hn
      rcases hn with rfl | rfl | rfl | rfl <;> omega
    · rw [World.cell?_alloc_at _ _ _ _ rfl]
      simp [List.getD, hi]
  have := or_any _ (EM.four a b) 4 _ hI.drew
  rw [EM.cmp_or] at this
  exact this

set_option maxHeartbeats 4000000 in
theorem ecmp_any (a b : EM.Ser) (w : World) : Calls Tryd.prog 16 #[serA a, serA b] w fun e w' => e = .returned (.int .i64 (EM.cmp a b)) ∧ GR w w' := by
  have HG0 := Lib.hid (((GR.refl w).alloc (.cells #[.string a.prod, .int .i64 a.kind, .int .i64 a.expiry, .int .i64 a.strike] 24)).alloc (.cells #[.string b.prod, .int .i64 b.kind, .int .i64 b.expiry, .int .i64 b.strike] 24))
  have hgd := ser_guard
  by_cases hab : a = b
  · subst hab
    rw [EM.cmp_self]
    have E1 : ∀ ww, (Op.equalIn 10000 24 (serA a) (serA a)).run Tryd.prog ww = .ok true ww := fun ww => by rw [ser_in, seq_iff.2 rfl]
    go_enter Tryd.func16, Tryd.ntmps16
    go_wp2_with fail
    go_ret
    exact ⟨rfl, HG0.out⟩
  · have E1 : ∀ ww, (Op.equalIn 10000 24 (serA a) (serA b)).run Tryd.prog ww = .ok false ww := fun ww => by rw [ser_in, seq_false.2 hab]
    have HA0 := Lib.hid ((SBox.new w a).alloc (.cells #[.string b.prod, .int .i64 b.kind, .int .i64 b.expiry, .int .i64 b.strike] 24))
    have HB0 := Lib.hid (SBox.new (w.alloc (.cells #[.string a.prod, .int .i64 a.kind, .int .i64 a.expiry, .int .i64 a.strike] 24)) b)
    have HSZ : Hid ((w.alloc (.cells #[.string a.prod, .int .i64 a.kind, .int .i64 a.expiry, .int .i64 a.strike] 24)).heap.size = w.heap.size + 1) := Lib.hid (by simp)
    rw [HSZ.out] at HB0
    have CO := Lib.hid (fun ww => or4_any a b ww)
    have CS := Lib.hid (fun ww => scmp_any a.prod b.prod ww)
    have C1 := Lib.hid (fun ww => icmp_any a.expiry b.expiry ww); have C2 := Lib.hid (fun ww => icmp_any a.kind b.kind ww); have C3 := Lib.hid (fun ww => icmp_any a.strike b.strike ww)
    generalize EM.cmp a b = r at *
    generalize Lib.compareBytes a.prod.data.toList b.prod.data.toList = r0 at *
    generalize Lib.compareInt a.expiry b.expiry = r1 at *
    generalize Lib.compareInt a.kind b.kind = r2 at *
    generalize Lib.compareInt a.strike b.strike = r3 at *
    clear hab HSZ
    go_enter Tryd.func16, Tryd.ntmps16
    go_wp2_with fail
    generalize (w.alloc (.cells #[.string a.prod, .int .i64 a.kind, .int .i64 a.expiry, .int .i64 a.strike] 24)).alloc (.cells #[.string b.prod, .int .i64 b.kind, .int .i64 b.expiry, .int .i64 b.strike] 24) = w0 at *
    have HSF : Hid (∀ ww, Below w0.heap.size w0 ww → (ww.cell? ⟨w.heap.size, 0, none⟩ = some (.string a.prod) ∧ ww.cell? ⟨w.heap.size, 1, none⟩ = some (.int .i64 a.kind) ∧ ww.cell? ⟨w.heap.size, 2, none⟩ = some (.int .i64 a.expiry) ∧ ww.cell? ⟨w.heap.size, 3, none⟩ = some (.int .i64 a.strike)) ∧
      (ww.cell? ⟨w.heap.size + 1, 0, none⟩ = some (.string b.prod) ∧ ww.cell? ⟨w.heap.size + 1, 1, none⟩ = some (.int .i64 b.kind) ∧ ww.cell? ⟨w.heap.size + 1, 2, none⟩ = some (.int .i64 b.expiry) ∧ ww.cell? ⟨w.heap.size + 1, 3, none⟩ = some (.int .i64 b.strike))) := Lib.hid (fun ww h => ⟨(HA0.out.below h HA0.out.lt).cells, (HB0.out.below h HB0.out.lt).cells⟩)
    have HBw : Hid (Below w0.heap.size w0 w0.drew) := Lib.hid (Below.refl _ _).drew
    clear HA0 HB0
    go_region_held3 (fun ww => (ww.cell? ⟨w.heap.size, 0, none⟩ = some (.string a.prod) ∧ ww.cell? ⟨w.heap.size, 1, none⟩ = some (.int .i64 a.kind) ∧ ww.cell? ⟨w.heap.size, 2, none⟩ = some (.int .i64 a.expiry) ∧ ww.cell? ⟨w.heap.size, 3, none⟩ = some (.int .i64 a.strike)) ∧
      (ww.cell? ⟨w.heap.size + 1, 0, none⟩ = some (.string b.prod) ∧ ww.cell? ⟨w.heap.size + 1, 1, none⟩ = some (.int .i64 b.kind) ∧ ww.cell? ⟨w.heap.size + 1, 2, none⟩ = some (.int .i64 b.expiry) ∧ ww.cell? ⟨w.heap.size + 1, 3, none⟩ = some (.int .i64 b.strike)))
      (first | exact HSF.out _ HBw.out | exact HSF.out _ (HBw.out.alloc HBw.out.size _))
      (first
        | (go_at_call 44; refine (CS.out _).mono ?_; rintro e w6 ⟨rfl, rfl⟩)
        | (go_at_call 45; with_reducible refine (C1.out _).mono ?_; rintro e w6 ⟨rfl, rfl⟩)
        | (go_at_call 45; with_reducible refine (C2.out _).mono ?_; rintro e w6 ⟨rfl, rfl⟩)
        | (go_at_call 45; with_reducible refine (C3.out _).mono ?_; rintro e w6 ⟨rfl, rfl⟩)
        | (go_at_call 43; refine (CO.out _).mono ?_; rintro e w6 ⟨rfl, rfl⟩))
    all_goals (
      clear HSF CO CS C1 C2 C3
      go_wp2_with fail
      go_ret
      exact ⟨rfl, by first | exact HG0.out.drew.alloc _ | exact (HG0.out.alloc _).drew⟩)
end Go.Proofs.YtiohainnpjikpaaDoor

/- Layer 10: Print, and the pieces of Parse. -/
namespace Go.Proofs.YtiohainnpjikpaaDoor
open Go.RowKit Go.Recs Go.Shelf
set_option linter.unusedVariables false
set_option linter.unusedSimpArgs false

/-- internal/bytealg.MaxLen holds a number -/
def ML (w : World) : Prop := ∃ m, w.cell? ⟨Tryd.lays155_ren.g 1, 0, none⟩ = some (.int .i64 m)
theorem ML.below {w w' : World} (h : ML w) (hb : Below w.heap.size w w') : ML w' := by
  obtain ⟨m, hm⟩ := h
  exact ⟨m, (hb.cell (World.block_lt_of_cell? _ _ hm)).trans hm⟩
theorem ML.drew {w : World} (h : ML w) : ML w.drew := h
theorem strokes_any (y m d : Int) (w : World) (hm : ML w) :
    Calls Tryd.prog 38 #[.string (S (DM.dateL y m d)), .string ⟨#[45]⟩, .string ⟨#[]⟩] w fun e w' => e = .returned (.string (S (EM.d8 y m d))) ∧ Below w.heap.size w w' := by
  obtain ⟨mm, hmm⟩ := hm
  have hz : (S (DM.dateL y m d)).size = 10 := rfl
  have hc : Lib.countB (S (DM.dateL y m d)) ⟨#[45]⟩ * (⟨#[]⟩ : ByteArray).size = 0 := by show _ * 0 = 0; omega
  have := Any.strings_ReplaceAll Tryd.lays155 Tryd.extra155 (S (DM.dateL y m d)) ⟨#[45]⟩ ⟨#[]⟩ mm w (by omega) hmm (by decide) (by rw [hc]; omega)
  have e : (⟨(Lib.replaceAll (S (DM.dateL y m d)).data.toList (⟨#[45]⟩ : ByteArray).data.toList (⟨#[]⟩ : ByteArray).data.toList).toArray⟩ : ByteArray) = S (EM.d8 y m d) := by
    show S (Lib.replaceAll (L (S (DM.dateL y m d))) [45] []) = _
    rw [L_S, EM.strokes]
  rw [e] at this
  exact this
theorem split4_any (s : ByteArray) (w : World) (hm : ML w) (hs : s.size < 4294967281) :
    Calls Tryd.prog 28 #[.string s, .string ⟨#[46]⟩, .int .i64 4] w fun e w' => ∃ A cap ls, e = .returned (.slice A (List.length ls) cap) ∧ Strs w' A ls ∧ Below w.heap.size w w' ∧
      ((ls.length = 3 ↔ (WM.pieces 46 (L s)).length = 3) ∧ ((WM.pieces 46 (L s)).length = 3 → ls.map L = WM.pieces 46 (L s))) := by
  obtain ⟨mm, hmm⟩ := hm
  have := Any.strings_SplitN Tryd.lays147 Tryd.hi147 s ⟨#[46]⟩ 4 mm w hs hmm (by decide) (by omega) (by omega)
  have hd := Lib.splitB_data ⟨#[46]⟩ 0 (min 4 (s.size + 1) - 1) s
  obtain ⟨q1, q2, q3⟩ := EM.split_three 46 (L s)
  rw [L_len] at q1 q2 q3
  have hd' : (Lib.splitB ⟨#[46]⟩ 0 (min 4 (s.size + 1) - 1) s).map L = Lib.splitK [46] 0 (min 4 (s.size + 1) - 1) (L s) := hd
  have hl : (Lib.splitB ⟨#[46]⟩ 0 (min 4 (s.size + 1) - 1) s).length = (Lib.splitK [46] 0 (min 4 (s.size + 1) - 1) (L s)).length := by rw [← hd', List.length_map]
  refine this.mono fun e w' ⟨he, hw⟩ => ⟨_, _, _, he, ?_, ?_, ?_, ?_⟩
  · subst hw
    have hle : (Lib.splitB ⟨#[46]⟩ 0 (min 4 (s.size + 1) - 1) s).length ≤ min 4 (s.size + 1) := by rw [hl]; exact q3
    refine ⟨⟨by rw [List.length_map]; unfold maxLen; omega, .inr ⟨w.heap.size, 0, rfl, by simp, fun i hi => ?_⟩⟩, ?_⟩
    · rw [List.length_map] at hi
      rw [World.cell?_alloc_at _ _ _ _ rfl, Nat.zero_add]
      unfold Lib.cellsOf
      rw [List.getElem?_toArray, List.getElem?_append_left (by rw [List.length_map]; exact hi), List.getElem?_eq_getElem (by rw [List.length_map]; exact hi)]
    · intro x hx
      have hx2 : L x ∈ Lib.splitK [46] 0 (min 4 (s.size + 1) - 1) (L s) := by rw [← hd']; exact List.mem_map_of_mem hx
      have key : ∀ (k : Nat) (l p : List UInt8), p ∈ Lib.splitK [46] 0 k l → p.length ≤ l.length := by
        intro k
        induction k with
        | zero => intro l p hp; rw [Lib.splitK, List.mem_singleton] at hp; rw [hp]; exact Nat.le_refl _
        | succ k ih =>
          intro l p hp
          rw [Lib.splitK] at hp
          split at hp
          · rw [List.mem_singleton] at hp; rw [hp]; exact Nat.le_refl _
          · rcases List.mem_cons.1 hp with rfl | hp
            · simp; omega
            · have := ih _ _ hp
              rw [List.length_drop] at this; omega
      have := key _ _ _ hx2
      rw [L_len, L_len] at this
      unfold maxLen; omega
  · subst hw
    exact (Below.refl w.heap.size w).alloc (Nat.le_refl _) _
  · rw [hl]; exact q1
  · intro h3
    rw [hd']; exact q2 h3
def letB (k : Int) : ByteArray := if k = 1 then ⟨#[102]⟩ else if k = 2 then ⟨#[99]⟩ else if k = 3 then ⟨#[112]⟩ else ⟨#[]⟩
theorem letter_any (k : Int) (w : World) : Calls Tryd.prog 23 #[.int .i64 k] w fun e w' => e = .returned (.string (letB k)) ∧ w' = w := by
  unfold letB
  by_cases h1 : k = 1
  · subst h1
    go_enter Tryd.func23, Tryd.ntmps23
    go_wp2
    go_ret
    exact ⟨rfl, rfl⟩
  · rw [if_neg h1]
    by_cases h2 : k = 2
    · subst h2
      go_enter Tryd.func23, Tryd.ntmps23
      go_wp2
      go_ret
      exact ⟨rfl, rfl⟩
    · rw [if_neg h2]
      by_cases h3 : k = 3
      · subst h3
        go_enter Tryd.func23, Tryd.ntmps23
        go_wp2
        go_ret
        exact ⟨rfl, rfl⟩
      · rw [if_neg h3]
        have b1 : (k == 1) = false := beq_f h1
        have b2 : (k == 2) = false := beq_f h2
        have b3 : (k == 3) = false := beq_f h3
        go_enter Tryd.func23, Tryd.ntmps23
        go_wp2
        go_ret
        exact ⟨rfl, rfl⟩
theorem cutp_any (s : ByteArray) (b : UInt8) (w : World) :
    Calls Tryd.prog 55 #[.string s, .string ⟨#[b]⟩] w fun e w' => e = .returned (.tuple #[.string (S (Lib.trimPrefix (L s) [b])), .bool (Lib.hasPrefix (L s) [b])]) ∧ w' = w :=
  Any.strings_CutPrefix Tryd.lays103 s ⟨#[b]⟩ w
theorem beq_lit {s : ByteArray} {l : List UInt8} : (s.toList == l) = decide (L s = l) := by rw [L_toList]; by_cases h : L s = l <;> simp [h]
set_option maxHeartbeats 1000000 in
theorem cutKind_any (s : ByteArray) (w : World) (hs : s.size ≤ 9223372036854775807) :
    Calls Tryd.prog 29 #[.string s] w fun e w' => e = .returned (.tuple #[.int .i64 (EM.ckK (L s)), .string (S (EM.ckR (L s))), .bool (EM.ckB (L s))]) ∧ w' = w := by
  have C1 := Lib.hid (fun ww => cutp_any s 99 ww)
  have C2 := Lib.hid (fun ww => cutp_any s 112 ww)
  rw [EM.pre_one (by decide)] at C1 C2
  unfold EM.ckK EM.ckR EM.ckB
  have hf := @beq_lit s [102]
  by_cases h1 : L s = [102]
  · have hfe : s.toList = [102] := by rw [L_toList]; exact h1
    rw [if_pos h1, if_pos h1, decide_eq_true (.inl h1)]
    rw [decide_eq_true h1] at hf
    clear h1 C1 C2
    go_enter Tryd.func29, Tryd.ntmps29
    go_wp2_with fail
    go_ret3
    exact ⟨rfl, rfl⟩
  · have hfe : ¬ s.toList = [102] := by rw [L_toList]; exact h1
    rw [if_neg h1, if_neg h1]
    rw [decide_eq_false h1] at hf
    by_cases h2 : (L s).headD 0 = 99
    · have ht := EM.trim_one (b := 99) (L s) (by rw [EM.pre_one (by decide)]; exact decide_eq_true h2)
      rw [if_pos h2, if_pos (.inl h2), decide_eq_true (.inr (.inl h2))]
      rw [decide_eq_true h2, ht] at C1
      clear h1 h2 C2 ht
      generalize S (L s).tail = r at *
      go_enter Tryd.func29, Tryd.ntmps29
      go_wp2_with fail
      refine (C1.out _).mono ?_
      rintro e w1 ⟨rfl, rfl⟩
      go_wp2_with fail
      go_ret3
      exact ⟨rfl, rfl⟩
    · rw [decide_eq_false h2] at C1
      by_cases h3 : (L s).headD 0 = 112
      · have ht := EM.trim_one (b := 112) (L s) (by rw [EM.pre_one (by decide)]; exact decide_eq_true h3)
        rw [if_neg h2, if_pos h3, if_pos (.inr h3), decide_eq_true (.inr (.inr h3))]
        rw [decide_eq_true h3, ht] at C2
        clear h1 h2 h3 ht
        generalize S (L s).tail = r at *
        generalize S (Lib.trimPrefix (L s) [99]) = r1 at *
        go_enter Tryd.func29, Tryd.ntmps29
        go_wp2_with fail
        refine (C1.out _).mono ?_
        rintro e w1 ⟨rfl, rfl⟩
        go_wp2_with fail
        refine (C2.out _).mono ?_
        rintro e w1 ⟨rfl, rfl⟩
        go_wp2_with fail
        go_ret3
        exact ⟨rfl, rfl⟩
      · rw [decide_eq_false h3] at C2
        rw [if_neg h2, if_neg h3, if_neg (by rintro (h | h); exact h2 h; exact h3 h), decide_eq_false (by rintro (h | h | h); exact h1 h; exact h2 h; exact h3 h)]
        clear h1 h2 h3
        generalize S (Lib.trimPrefix (L s) [112]) = r at *
        generalize S (Lib.trimPrefix (L s) [99]) = r1 at *
        go_enter Tryd.func29, Tryd.ntmps29
        go_wp2_with fail
        refine (C1.out _).mono ?_
        rintro e w1 ⟨rfl, rfl⟩
        go_wp2_with fail
        refine (C2.out _).mono ?_
        rintro e w1 ⟨rfl, rfl⟩
        go_wp2_with fail
        go_ret3
        exact ⟨rfl, rfl⟩
end Go.Proofs.YtiohainnpjikpaaDoor

/- Layer 10: dates and strikes read, Print. -/
namespace Go.Proofs.YtiohainnpjikpaaDoor
open Go.RowKit Go.Recs Go.Shelf
set_option linter.unusedVariables false
set_option linter.unusedSimpArgs false

theorem cat_ok {a b : ByteArray} (h : a.size + b.size ≤ 9223372036854775807) : Op.stringOp .add a b = pure (.string (a ++ b)) := by
  have h2 : ¬ (((a.size + b.size : Nat) : Int) > IntKind.i64.max) := by
    have : IntKind.i64.max = 9223372036854775807 := by decide
    omega
  simp only [Op.stringOp]
  rw [if_neg h2]
theorem cat_size (a b : ByteArray) : (a ++ b).size = a.size + b.size := by simp [ByteArray.size_append]
theorem ext_size (s : ByteArray) (a b : Nat) : (s.extract a b).size ≤ s.size := by rw [ByteArray.size_extract]; omega
theorem dec_small20 (m : Nat) (h : m < 18446744073709551616) : (WM.dec m).length ≤ 20 := by
  have key : ∀ k m : Nat, m < 10 ^ (k + 1) → (WM.dec m).length ≤ k + 1 := by
    intro k
    induction k with
    | zero => intro m hm; rw [WM.dec_small (by simpa using hm)]; simp
    | succ k ih =>
      intro m hm
      by_cases h10 : m < 10
      · rw [WM.dec_small h10]; simp
      · rw [WM.dec_big h10, List.length_append]
        have := ih (m / 10) (by rw [Nat.div_lt_iff_lt_mul (by omega)]; rw [Nat.pow_succ] at hm; omega)
        simp; omega
  exact key 19 m (by omega)
theorem text_small {n : Int} (h : i64 n) : (WM.textL n).length ≤ 30 := by
  unfold i64 at h
  have := dec_small20 n.natAbs (by omega)
  unfold WM.textL
  split
  · rw [List.length_cons]; omega
  · omega
def rdE (b : List UInt8) : Int := if b.length = 8 then DM.parE (EM.tenL b) else 5
def rdN (b : List UInt8) : Int := if b.length = 8 then DM.parN (EM.tenL b) else 0
set_option maxHeartbeats 2000000 in
theorem readDate_any (s : ByteArray) (w : World) (hs : s.size ≤ 300) :
    Calls Tryd.prog 31 #[.string s] w fun e w' => e = .returned (.tuple #[.int .i64 (rdN (L s)), .int .i64 (rdE (L s))]) ∧ Below w.heap.size w w' := by
  unfold rdN rdE
  rw [L_len]
  by_cases h8 : s.size = 8
  · rw [if_pos h8, if_pos h8]
    have hX : L ((((s.extract 0 4 ++ ⟨#[45]⟩) ++ s.extract 4 6) ++ ⟨#[45]⟩) ++ s.extract 6 s.size) = EM.tenL (L s) := by
      simp only [L_append, L_extract]
      rw [L_take_all, List.drop_zero]
      rfl
    have hXs : ((((s.extract 0 4 ++ ⟨#[45]⟩) ++ s.extract 4 6) ++ ⟨#[45]⟩) ++ s.extract 6 s.size).size ≤ 9223372036854775807 := by
      rw [← L_len, hX]
      have hl := L_len s
      unfold EM.tenL
      simp
      omega
    have CP : Hid (∀ x ww, x = (((s.extract 0 4 ++ ⟨#[45]⟩) ++ s.extract 4 6) ++ ⟨#[45]⟩) ++ s.extract 6 s.size → Calls Tryd.prog 58 #[.string x] ww fun e w' => e = .returned (.tuple #[.int .i64 (DM.parN (EM.tenL (L s))), .int .i64 (DM.parE (EM.tenL (L s)))]) ∧ ∃ n, w' = ww.drewN n) := Lib.hid (fun x ww hx => by
      subst hx
      have := parse_any _ ww hXs
      rw [hX] at this
      exact this)
    generalize DM.parN (EM.tenL (L s)) = rn at *
    generalize DM.parE (EM.tenL (L s)) = re at *
    have hn : ((s.size : Int) != 8) = false := by rw [bne, beq_t (by omega)]; rfl
    have b4 : (4 : Int) ≤ (s.size : Int) := by omega
    have b6 : (6 : Int) ≤ (s.size : Int) := by omega
    have HBw : Hid (Below w.heap.size w w.drew) := Lib.hid (Below.refl _ _).drew
    have H8 := Lib.hid h8
    have z0 := ext_size s 0 4; have z1 := ext_size s 4 6; have z2 := ext_size s 6 s.size
    have one : (⟨#[45]⟩ : ByteArray).size = 1 := rfl
    have e1 := @cat_ok (s.extract 0 4) ⟨#[45]⟩ (by omega)
    have e2 := @cat_ok (s.extract 0 4 ++ ⟨#[45]⟩) (s.extract 4 6) (by rw [cat_size]; omega)
    have e3 := @cat_ok ((s.extract 0 4 ++ ⟨#[45]⟩) ++ s.extract 4 6) ⟨#[45]⟩ (by rw [cat_size, cat_size]; omega)
    have e4 := @cat_ok (((s.extract 0 4 ++ ⟨#[45]⟩) ++ s.extract 4 6) ++ ⟨#[45]⟩) (s.extract 6 s.size) (by rw [cat_size, cat_size, cat_size]; omega)
    clear z0 z1 z2 one
    clear h8 hX hXs
    go_enter Tryd.func31, Tryd.ntmps31
    go_wp2_with fail
    go_region_held3 (fun _ => True) (trivial)
      (first
        | (go_at_call 58; refine (CP.out _ _ (by first | rfl | simp)).mono ?_; rintro e w6 ⟨rfl, n6, h6⟩; replace HBw := Lib.hid (show Below w.heap.size w w6 by rw [h6]; exact below_drewN HBw.out n6); clear h6))
    all_goals (
      go_wp2_with fail
      go_ret2
      exact ⟨rfl, HBw.out⟩)
  · rw [if_neg h8, if_neg h8]
    have hn : ((s.size : Int) != 8) = true := by rw [bne, beq_f (by omega)]; rfl
    go_enter Tryd.func31, Tryd.ntmps31
    go_wp2_with fail
    go_ret2
    exact ⟨rfl, Below.refl _ _⟩
def rsE (t : List UInt8) : Int := if WM.intE t ≠ 0 then WM.intE t else if (WM.intN t).natAbs ≤ 16777216 then 0 else 17
def rsN (t : List UInt8) : Int := if rsE t = 0 then WM.intN t else 0
set_option maxHeartbeats 1000000 in
theorem readStrike_any (s : ByteArray) (w : World) (hs : s.size ≤ 300) :
    Calls Tryd.prog 32 #[.string s] w fun e w' => e = .returned (.tuple #[.int .i64 (rsN (L s)), .int .i64 (rsE (L s))]) ∧ Below w.heap.size w w' := by
  have C1 := Lib.hid (fun ww => int_any s ww (by omega))
  have eN : rsN (L s) = if (if WM.intE (L s) ≠ 0 then WM.intE (L s) else if (WM.intN (L s)).natAbs ≤ 16777216 then 0 else 17) = 0 then WM.intN (L s) else 0 := rfl
  rw [eN]
  unfold rsE
  clear eN
  generalize WM.intE (L s) = ie at *
  generalize WM.intN (L s) = inn at *
  by_cases h1 : ie = 0
  · subst h1
    simp only [ne_eq, not_true_eq_false, if_false]
    by_cases h2 : inn.natAbs ≤ 16777216
    · simp only [h2, if_true]
      have a1 : -16777216 ≤ inn := by omega
      have a2 : inn ≤ 16777216 := by omega
      clear h2
      go_enter Tryd.func32, Tryd.ntmps32
      go_wp2_with fail
      refine (C1.out _).mono ?_
      rintro e w1 ⟨rfl, n1, h1⟩
      have HB : Hid (Below w.heap.size w w1) := Lib.hid (by rw [h1]; exact below_drewN (Below.refl _ _) n1)
      clear h1
      go_wp2_with fail
      go_ret2
      exact ⟨rfl, HB.out⟩
    · simp only [h2, if_false]
      rw [if_neg (by decide)]
      rcases (by omega : inn < -16777216 ∨ 16777216 < inn) with h3 | h3
      all_goals (
        clear h2
        go_enter Tryd.func32, Tryd.ntmps32
        go_wp2_with fail
        refine (C1.out _).mono ?_
        rintro e w1 ⟨rfl, n1, h1⟩
        have HB : Hid (Below w.heap.size w w1) := Lib.hid (by rw [h1]; exact below_drewN (Below.refl _ _) n1)
        clear h1
        go_wp2_with fail
        go_ret2
        exact ⟨rfl, HB.out⟩)
  · simp only [ne_eq, h1, not_false_eq_true, if_true, if_false]
    have hd : (ie != 0) = true := by simpa using h1
    clear h1
    go_enter Tryd.func32, Tryd.ntmps32
    go_wp2_with fail
    refine (C1.out _).mono ?_
    rintro e w1 ⟨rfl, n1, h1⟩
    have HB : Hid (Below w.heap.size w w1) := Lib.hid (by rw [h1]; exact below_drewN (Below.refl _ _) n1)
    clear h1
    go_wp2_with fail
    go_ret2
    exact ⟨rfl, HB.out⟩

theorem let_kind {k : Int} (h : 1 ≤ k ∧ k ≤ 3) : ∃ c : UInt8, letB k = ⟨#[c]⟩ ∧ (k = 1 ∧ c = 102 ∨ k = 2 ∧ c = 99 ∨ k = 3 ∧ c = 112) := by
  unfold letB
  by_cases h1 : k = 1
  · exact ⟨102, by rw [if_pos h1], .inl ⟨h1, rfl⟩⟩
  · by_cases h2 : k = 2
    · exact ⟨99, by rw [if_neg h1, if_pos h2], .inr (.inl ⟨h2, rfl⟩)⟩
    · exact ⟨112, by rw [if_neg h1, if_neg h2, if_pos (by omega)], .inr (.inr ⟨by omega, rfl⟩)⟩
theorem let_none {k : Int} (h : ¬ (1 ≤ k ∧ k ≤ 3)) : letB k = ⟨#[]⟩ := by
  unfold letB; rw [if_neg (by omega), if_neg (by omega), if_neg (by omega)]
theorem print_f {s : EM.Ser} {y m d : Int} (hd : DM.isDate s.expiry y m d) (hk : s.kind = 1) : (((s.prod ++ ⟨#[46]⟩) ++ S (EM.d8 y m d)) ++ ⟨#[46]⟩) ++ ⟨#[102]⟩ = S (EM.printL s) := by
  apply L_inj
  rw [EM.print_is ⟨by omega, by omega⟩ hd, L_S]
  simp only [L_append, L_S]
  unfold EM.txt EM.tail
  rw [if_pos hk]
  show _ = L s.prod ++ _
  simp [L]
theorem print_o {s : EM.Ser} {y m d : Int} {c : UInt8} (hd : DM.isDate s.expiry y m d) (hk : s.kind = 2 ∧ c = 99 ∨ s.kind = 3 ∧ c = 112) : ((((s.prod ++ ⟨#[46]⟩) ++ S (EM.d8 y m d)) ++ ⟨#[46]⟩) ++ ⟨#[c]⟩) ++ S (WM.textL s.strike) = S (EM.printL s) := by
  apply L_inj
  rw [EM.print_is ⟨by omega, by omega⟩ hd, L_S]
  simp only [L_append, L_S]
  unfold EM.txt EM.tail
  rw [if_neg (by omega)]
  have e : (if s.kind = 2 then (99 : UInt8) else 112) = c := by
    rcases hk with ⟨h1, h2⟩ | ⟨h1, h2⟩
    · rw [if_pos h1, h2]
    · rw [if_neg (by omega), h2]
  rw [e]
  show _ = L s.prod ++ _
  simp [L]

set_option maxHeartbeats 4000000 in
theorem eprint_any (s : EM.Ser) (w : World) (hq : serQ s) (hp : s.prod.size ≤ 300) (hm : ML w) :
    Calls Tryd.prog 13 #[serA s] w fun e w' => e = .returned (.string (S (EM.printL s))) ∧ Below w.heap.size w w' := by
  have HB0 := Lib.hid ((Below.refl w.heap.size w).alloc (Nat.le_refl _) (.cells #[.string s.prod, .int .i64 s.kind, .int .i64 s.expiry, .int .i64 s.strike] 24))
  have HP0 := Lib.hid (SBox.new w s)
  have HM0 := Lib.hid (hm.below HB0.out)
  have CL := Lib.hid (fun ww => letter_any s.kind ww)
  have CT := Lib.hid (fun ww => text_any s.strike ww hq.2.2.2.1 hq.2.2.2.2)
  have HSm : Hid (s.prod.size ≤ 300) := Lib.hid hp
  by_cases hd : 0 ≤ s.expiry ∧ s.expiry ≤ 73048
  · obtain ⟨y, m, d, hdd⟩ := DM.isDate_exists hd.1 hd.2
    have CP := Lib.hid (fun ww => print_any s.expiry y m d ww hdd)
    have CR := Lib.hid (fun ww (h : ML ww) => strokes_any y m d ww h)
    have hne : ((S (DM.dateL y m d)).toList == []) = false := by
      rw [beq_lit, L_S]; exact decide_eq_false (by unfold DM.dateL; simp)
    have hne2 : ¬ (S (DM.dateL y m d)).toList = [] := by rw [L_toList, L_S]; unfold DM.dateL; simp
    have hD8 : (S (EM.d8 y m d)).size = 8 := rfl
    have HTX : Hid ((S (WM.textL s.strike)).size ≤ 30) := Lib.hid (by rw [S_size]; exact text_small hq.2.2.2)
    by_cases hk : 1 ≤ s.kind ∧ s.kind ≤ 3
    · obtain ⟨c, hc, hkc⟩ := let_kind hk
      rw [hc] at CL
      have PF := Lib.hid (@print_f s y m d hdd)
      have PO := Lib.hid (fun c => @print_o s y m d c hdd)
      generalize S (EM.printL s) = res at *
      generalize S (DM.dateL y m d) = dt at *
      generalize S (EM.d8 y m d) = d8 at *
      generalize S (WM.textL s.strike) = tx at *
      clear hq hp hd hdd hc hm hk
      go_enter Tryd.func13, Tryd.ntmps13
      go_wp2_with fail
      generalize w.alloc (.cells #[.string s.prod, .int .i64 s.kind, .int .i64 s.expiry, .int .i64 s.strike] 24) = w0 at *
      have HSF : Hid (∀ ww, Below w0.heap.size w0 ww → (ww.cell? ⟨w.heap.size, 1, none⟩ = some (.int .i64 s.kind) ∧ ww.cell? ⟨w.heap.size, 2, none⟩ = some (.int .i64 s.expiry))) := Lib.hid (fun ww h => ⟨(HP0.out.below h HP0.out.lt).cells.2.1, (HP0.out.below h HP0.out.lt).cells.2.2.1⟩)
      have HBw : Hid (Below w0.heap.size w0 w0.drew) := Lib.hid (Below.refl _ _).drew
      go_region_held3 (fun ww => ww.cell? ⟨w.heap.size, 1, none⟩ = some (.int .i64 s.kind) ∧ ww.cell? ⟨w.heap.size, 2, none⟩ = some (.int .i64 s.expiry))
        (exact HSF.out _ HBw.out)
        (first
          | (go_at_call 23; refine (CL.out _).mono ?_; rintro e w6 ⟨rfl, rfl⟩)
          | (go_at_call 37; refine (CP.out _).mono ?_; rintro e w1 ⟨rfl, b6⟩; replace HBw := Lib.hid (HBw.out.trans (b6.mono HBw.out.size)); clear b6))
      all_goals (
        have HP1 := Lib.hid (HP0.out.below HBw.out HP0.out.lt)
        have HM1 := Lib.hid (HM0.out.below HBw.out)
        have HB1 := Lib.hid (HB0.out.trans (HBw.out.mono HB0.out.size))
        clear HP0 HM0 HB0 HBw HSF CL CP
        have hcl : ({ data := #[c] } : ByteArray).toList = [c] := by rw [L_toList]; rfl
        have hce : (([c] : List UInt8) == []) = false := rfl
        have hps := HSm.out
        have one : (⟨#[46]⟩ : ByteArray).size = 1 := rfl
        have onec : (⟨#[c]⟩ : ByteArray).size = 1 := rfl
        have e1 := @cat_ok s.prod ⟨#[46]⟩ (by omega)
        have e2 := @cat_ok (s.prod ++ ⟨#[46]⟩) d8 (by rw [cat_size]; omega)
        have e3 := @cat_ok ((s.prod ++ ⟨#[46]⟩) ++ d8) ⟨#[46]⟩ (by rw [cat_size, cat_size]; omega)
        have e4 := @cat_ok (((s.prod ++ ⟨#[46]⟩) ++ d8) ++ ⟨#[46]⟩) ⟨#[c]⟩ (by rw [cat_size, cat_size, cat_size]; omega)
        have e5 := @cat_ok ((((s.prod ++ ⟨#[46]⟩) ++ d8) ++ ⟨#[46]⟩) ++ ⟨#[c]⟩) tx (by rw [cat_size, cat_size, cat_size, cat_size]; have := HTX.out; omega)
        clear one onec hps hD8
        obtain ⟨c0, c1, c2, c3⟩ := HP1.out.cells
        go_wp2_with fail
        have HSF : Hid (∀ ww, Below w1.heap.size w1 ww → ww.cell? ⟨w.heap.size, 0, none⟩ = some (.string s.prod)) := Lib.hid (fun ww h => (HP1.out.below h HP1.out.lt).cells.1)
        have HBw : Hid (Below w1.heap.size w1 w1.drew) := Lib.hid (Below.refl _ _).drew
        clear c0 c1 c2 c3
        go_region_held3 (fun ww => ww.cell? ⟨w.heap.size, 0, none⟩ = some (.string s.prod))
          (exact HSF.out _ HBw.out)
          (first
            | (go_at_call 38; refine (CR.out _ (HM1.out.below HBw.out)).mono ?_; rintro e w2 ⟨rfl, b6⟩; replace HBw := Lib.hid (HBw.out.trans (b6.mono HBw.out.size)); clear b6))
        all_goals (
          have HP2 := Lib.hid (HP1.out.below HBw.out HP1.out.lt)
          have HB2 := Lib.hid (HB1.out.trans (HBw.out.mono HB1.out.size))
          clear HSF HBw HP1 HB1 CR HM1
          obtain ⟨c0, c1, c2, c3⟩ := HP2.out.cells
          rcases hkc with ⟨hk, rfl⟩ | hkc
          · have HX := Lib.hid (PF.out hk)
            rw [hk] at c1
            clear hk
            go_wp2_with fail
            go_ret
            exact ⟨by rw [← HX.out]; rfl, HB2.out⟩
          · have HX := Lib.hid (PO.out c hkc)
            have hk1 : ¬ s.kind = 1 := by omega
            have hk2 : (s.kind == 1) = false := beq_f hk1
            go_wp2_with fail
            refine (CT.out _).mono ?_
            rintro e w3 ⟨rfl, b3⟩
            have HB3 := Lib.hid (HB2.out.trans (b3.mono HB2.out.size))
            clear b3
            go_wp2_with fail
            go_ret
            exact ⟨by rw [← HX.out]; rfl, HB3.out⟩))
    · rw [EM.print_no (fun h => hk h.1)]
      rw [let_none hk] at CL
      generalize S (DM.dateL y m d) = dt at *
      clear hq hp hd hdd hm hk CT CR HTX
      go_enter Tryd.func13, Tryd.ntmps13
      go_wp2_with fail
      generalize w.alloc (.cells #[.string s.prod, .int .i64 s.kind, .int .i64 s.expiry, .int .i64 s.strike] 24) = w0 at *
      have HSF : Hid (∀ ww, Below w0.heap.size w0 ww → (ww.cell? ⟨w.heap.size, 1, none⟩ = some (.int .i64 s.kind) ∧ ww.cell? ⟨w.heap.size, 2, none⟩ = some (.int .i64 s.expiry))) := Lib.hid (fun ww h => ⟨(HP0.out.below h HP0.out.lt).cells.2.1, (HP0.out.below h HP0.out.lt).cells.2.2.1⟩)
      have HBw : Hid (Below w0.heap.size w0 w0.drew) := Lib.hid (Below.refl _ _).drew
      go_region_held3 (fun ww => ww.cell? ⟨w.heap.size, 1, none⟩ = some (.int .i64 s.kind) ∧ ww.cell? ⟨w.heap.size, 2, none⟩ = some (.int .i64 s.expiry))
        (exact HSF.out _ HBw.out)
        (first
          | (go_at_call 23; refine (CL.out _).mono ?_; rintro e w6 ⟨rfl, rfl⟩)
          | (go_at_call 37; refine (CP.out _).mono ?_; rintro e w1 ⟨rfl, b6⟩; replace HBw := Lib.hid (HBw.out.trans (b6.mono HBw.out.size)); clear b6))
      all_goals (
        have HB1 := Lib.hid (HB0.out.trans (HBw.out.mono HB0.out.size))
        clear HSF HBw HP0 HM0 HB0
        go_wp2_with fail
        go_ret
        exact ⟨rfl, HB1.out⟩)
  · have CP := Lib.hid (fun ww => print_no s.expiry ww (by omega))
    rw [EM.print_no (fun h => hd h.2)]
    generalize letB s.kind = lk at *
    clear hq hp hd hm CT
    cases hlk : (lk.toList == [])
    · have hl2 : ¬ lk.toList = [] := by simpa using hlk
      go_enter Tryd.func13, Tryd.ntmps13
      go_wp2_with fail
      generalize w.alloc (.cells #[.string s.prod, .int .i64 s.kind, .int .i64 s.expiry, .int .i64 s.strike] 24) = w0 at *
      have HSF : Hid (∀ ww, Below w0.heap.size w0 ww → (ww.cell? ⟨w.heap.size, 1, none⟩ = some (.int .i64 s.kind) ∧ ww.cell? ⟨w.heap.size, 2, none⟩ = some (.int .i64 s.expiry))) := Lib.hid (fun ww h => ⟨(HP0.out.below h HP0.out.lt).cells.2.1, (HP0.out.below h HP0.out.lt).cells.2.2.1⟩)
      have HBw : Hid (Below w0.heap.size w0 w0.drew) := Lib.hid (Below.refl _ _).drew
      go_region_held3 (fun ww => ww.cell? ⟨w.heap.size, 1, none⟩ = some (.int .i64 s.kind) ∧ ww.cell? ⟨w.heap.size, 2, none⟩ = some (.int .i64 s.expiry))
        (exact HSF.out _ HBw.out)
        (first
          | (go_at_call 23; refine (CL.out _).mono ?_; rintro e w6 ⟨rfl, rfl⟩)
          | (go_at_call 37; refine (CP.out _).mono ?_; rintro e w6 ⟨rfl, rfl⟩))
      all_goals (
        have HB1 := Lib.hid (HB0.out.trans (HBw.out.mono HB0.out.size))
        clear HSF HBw HP0 HM0 HB0
        go_wp2_with fail
        go_ret
        exact ⟨rfl, HB1.out⟩)
    · have hl2 : lk.toList = [] := by simpa using hlk
      go_enter Tryd.func13, Tryd.ntmps13
      go_wp2_with fail
      generalize w.alloc (.cells #[.string s.prod, .int .i64 s.kind, .int .i64 s.expiry, .int .i64 s.strike] 24) = w0 at *
      have HSF : Hid (∀ ww, Below w0.heap.size w0 ww → (ww.cell? ⟨w.heap.size, 1, none⟩ = some (.int .i64 s.kind) ∧ ww.cell? ⟨w.heap.size, 2, none⟩ = some (.int .i64 s.expiry))) := Lib.hid (fun ww h => ⟨(HP0.out.below h HP0.out.lt).cells.2.1, (HP0.out.below h HP0.out.lt).cells.2.2.1⟩)
      have HBw : Hid (Below w0.heap.size w0 w0.drew) := Lib.hid (Below.refl _ _).drew
      go_region_held3 (fun ww => ww.cell? ⟨w.heap.size, 1, none⟩ = some (.int .i64 s.kind) ∧ ww.cell? ⟨w.heap.size, 2, none⟩ = some (.int .i64 s.expiry))
        (exact HSF.out _ HBw.out)
        (first
          | (go_at_call 23; refine (CL.out _).mono ?_; rintro e w6 ⟨rfl, rfl⟩)
          | (go_at_call 37; refine (CP.out _).mono ?_; rintro e w6 ⟨rfl, rfl⟩))
      all_goals (
        have HB1 := Lib.hid (HB0.out.trans (HBw.out.mono HB0.out.size))
        clear HSF HBw HP0 HM0 HB0
        go_wp2_with fail
        go_ret
        exact ⟨rfl, HB1.out⟩)
end Go.Proofs.YtiohainnpjikpaaDoor
