/- Put together: OpenProd, Own, Made, CBox, TapA, TapB, TapC, TapD. -/
import Derived.Test.YtagmknahmkniaacBun3
import Derived.Test.YtagmknahmkniaacBun5
import Derived.ProofKit
import Derived.OpenShut
import Derived.ShutString
import Derived.ChangeOld
import Derived.Maps.AppendAt
import Derived.Laws.ResultCell
import Derived.Laws.Rows
import Derived.Laws.EntriesVeiled
import Derived.Shelf.Abstract
/- A law's arguments: products and series, by value and in slices. -/
namespace Go.Proofs.Ytagmknahmkniaac
open Go.ChangeShapes Go.WideShapes Go.ChangeAt Go.RowKit Go.Recs
set_option linter.unusedVariables false
set_option maxRecDepth 100000

theorem prod_leafs : leafs Try.prog 2 23 = some prodL := by kernel_rfl
theorem ser_leafs : leafs Try.prog 2 55 = some serL := by kernel_rfl
theorem open_prodT {H : Type} {enc : TypeId × Value → H} {W : World} {base b0 : Nat} {spare : Nat → Bool} {held : Bool} {r : Reach} {v : Value} {d : DataW H} {p : List MemPlace}
    (hv : Value.okWide Try.prog W r b0 43 v) (h : DataW.Trod enc Try.prog W base spare held 43 v d p) :
    ∃ A cap, ∃ l : List QM.Prod, v = .slice A l.length cap ∧ (Prods W A l ∧ l.length ≤ cap) ∧ True := by
  obtain ⟨A, cap, rows, rfl, hR, hk, hc⟩ := open_recs (n := 2) (sz := 7) Try.underlying43 prod_leafs (by kernel_rfl) rfl (by omega) hv h
  obtain ⟨l, rfl, hq⟩ := typed (ls := prodL) prodV _ prod_row rows hk
  rw [List.length_map] at hc ⊢
  exact ⟨A, cap, l, rfl, ⟨⟨hR, hq⟩, hc⟩, trivial⟩
theorem open_prodV {H : Type} {enc : TypeId × Value → H} {W : World} {base b0 : Nat} {spare : Nat → Bool} {held : Bool} {r : Reach} {v : Value} {d : DataW H} {p : List MemPlace}
    (hv : Value.okWide Try.prog W r b0 23 v) (h : DataW.Trod enc Try.prog W base spare held 23 v d p) :
    ∃ x : QM.Prod, v = .agg #[.string x.name, .int .i64 x.cur, .int .i64 x.mult, .int .i64 x.tick, .int .i64 x.low, .int .i64 x.high, .bool x.phys] ∧ prodQ x := by
  obtain ⟨cs, rfl, hk⟩ := open_rec (n := 2) Try.underlying23 prod_leafs (by kernel_rfl) hv h
  obtain ⟨x, rfl, hq⟩ := prod_row cs hk
  exact ⟨x, rfl, hq⟩
theorem open_serV {H : Type} {enc : TypeId × Value → H} {W : World} {base b0 : Nat} {spare : Nat → Bool} {held : Bool} {r : Reach} {v : Value} {d : DataW H} {p : List MemPlace}
    (hv : Value.okWide Try.prog W r b0 55 v) (h : DataW.Trod enc Try.prog W base spare held 55 v d p) :
    ∃ x : EM.Ser, v = .agg #[.string x.prod, .int .i64 x.kind, .int .i64 x.expiry, .int .i64 x.strike] ∧ serQ x := by
  obtain ⟨cs, rfl, hk⟩ := open_rec (n := 2) Try.underlying55 ser_leafs (by kernel_rfl) hv h
  obtain ⟨x, rfl, hq⟩ := ser_row cs hk
  exact ⟨x, rfl, hq⟩
theorem prod_sized {H : Type} {enc : TypeId × Value → H} {W : World} {base : Nat} {spare : Nat → Bool} {held : Bool} {x : QM.Prod} {d : DataW H} {p : List MemPlace} {ts : List TypeId} {ds : List (DataW H)} {j : Nat}
    (h : (DataW.weightsEach Try.prog ts ds).all (· ≤ reachBytes) = true) (ht : ts[j]? = some 23) (hd : ds[j]? = some d)
    (hT : DataW.Trod enc Try.prog W base spare held 23 (.agg #[.string x.name, .int .i64 x.cur, .int .i64 x.mult, .int .i64 x.tick, .int .i64 x.low, .int .i64 x.high, .bool x.phys]) d p) : x.name.size ≤ 140737488351232 :=
  first_sized (cs := #[.string x.name, .int .i64 x.cur, .int .i64 x.mult, .int .i64 x.tick, .int .i64 x.low, .int .i64 x.high, .bool x.phys]) h ht hd hT Try.underlying23 rfl rfl Try.underlying9 (by kernel_rfl) rfl
theorem ser_sized {H : Type} {enc : TypeId × Value → H} {W : World} {base : Nat} {spare : Nat → Bool} {held : Bool} {x : EM.Ser} {d : DataW H} {p : List MemPlace} {ts : List TypeId} {ds : List (DataW H)} {j : Nat}
    (h : (DataW.weightsEach Try.prog ts ds).all (· ≤ reachBytes) = true) (ht : ts[j]? = some 55) (hd : ds[j]? = some d)
    (hT : DataW.Trod enc Try.prog W base spare held 55 (.agg #[.string x.prod, .int .i64 x.kind, .int .i64 x.expiry, .int .i64 x.strike]) d p) : x.prod.size ≤ 140737488351232 :=
  first_sized (cs := #[.string x.prod, .int .i64 x.kind, .int .i64 x.expiry, .int .i64 x.strike]) h ht hd hT Try.underlying55 rfl rfl Try.underlying9 (by kernel_rfl) rfl
end Go.Proofs.Ytagmknahmkniaac

/- Slices of ints that the call itself makes. -/
namespace Go.Proofs.Ytagmknahmkniaac
open Go.RowKit

theorem info_int : (Try.prog.info? 3).map (fun i => (i.zero, i.size, i.bytes)) = some (some (.int .i64 0), 1, 8) := by kernel_rfl

/-- the slice v, in memory from block B on, holds the numbers zs -/
def Own (w : World) (B : Nat) (v : Value) (zs : List Int) : Prop := w.ownsRow B 3 1 v zs.length (zs.map (Value.int .i64))

theorem Own.nil (w : World) (B : Nat) : Own w B (.slice none 0 0) [] := World.ownsRow_nil _ _ _ _

theorem Own.form {w : World} {B : Nat} {v : Value} {zs : List Int} (h : Own w B v zs) :
    (v = .slice none 0 0 ∧ zs = []) ∨ ∃ g cap, v = .slice (some ⟨g, 0, none⟩) zs.length cap ∧ B ≤ g ∧ g < w.heap.size ∧ zs.length ≤ cap := by
  rcases h.2 with ⟨rfl, h0⟩ | ⟨g, cap, cur, rfl, hB, hh, hn, _⟩
  · exact .inl ⟨rfl, List.eq_nil_of_length_eq_zero h0⟩
  · refine .inr ⟨g, cap, rfl, hB, ?_, hn⟩
    rcases Nat.lt_or_ge g w.heap.size with hlt | hge
    · exact hlt
    · rw [Array.getElem?_eq_none hge] at hh; cases hh

theorem Own.len {w : World} {B : Nat} {v : Value} {zs : List Int} (h : Own w B v zs) : zs.length ≤ maxLen := by
  rcases h.2 with ⟨_, h0⟩ | ⟨g, cap, cur, _, _, _, hn, hm, _⟩
  · rw [h0]; exact Nat.zero_le _
  · exact Nat.le_trans hn hm

theorem Own.cell {w : World} {B g cap : Nat} {zs : List Int} {n : Nat} (h : Own w B (.slice (some ⟨g, 0, none⟩) n cap) zs) (i : Nat) (hi : i < zs.length) :
    w.cell? ⟨g, i, none⟩ = some (.int .i64 (zs.getD i 0)) := by
  have hn : n = zs.length := by
    rcases h.2 with ⟨h0, _⟩ | ⟨g', cap', cur, h0, _⟩
    · cases h0
    · injection h0
  subst hn
  rw [World.ownsRow.cellAt h i (by omega)]
  simp [List.getD, hi]

theorem Own.ints {w : World} {B : Nat} {v : Value} {zs : List Int} (h : Own w B v zs) (hr : ∀ n ∈ zs, -9223372036854775808 ≤ n ∧ n ≤ 9223372036854775807) :
    ∃ A cap, v = .slice A zs.length cap ∧ Ints w A zs := by
  rcases h.form with ⟨rfl, rfl⟩ | ⟨g, cap, rfl, hB, hg, _⟩
  · exact ⟨none, 0, rfl, Ints.nil _ _⟩
  · refine ⟨_, cap, rfl, h.len, hr, .inr ⟨g, 0, rfl, hg, fun i hi => ?_⟩⟩
    rw [Nat.zero_add]
    exact h.cell i hi

theorem Own.kept {w w' : World} {B : Nat} {v : Value} {zs : List Int} (h : Own w B v zs) (hb : ∀ g, B ≤ g → g < w.heap.size → w'.heap[g]? = w.heap[g]?) : Own w' B v zs := by
  refine ⟨h.1, ?_⟩
  rcases h.2 with h0 | ⟨g, cap, cur, hv, hB, hh, r⟩
  · exact .inl h0
  · refine .inr ⟨g, cap, cur, hv, hB, ?_, r⟩
    rcases Nat.lt_or_ge g w.heap.size with hlt | hge
    · rw [hb g hB hlt]; exact hh
    · rw [Array.getElem?_eq_none hge] at hh; cases hh

theorem Own.below {w w' : World} {B : Nat} {v : Value} {zs : List Int} (h : Own w B v zs) (hb : Below w.heap.size w w') : Own w' B v zs :=
  h.kept fun g _ hg => hb.block g hg

theorem Own.alloc {w : World} {B : Nat} {v : Value} {zs : List Int} (h : Own w B v zs) (o : Obj) : Own (w.alloc o) B v zs := World.ownsRow.alloc h o
theorem Own.drewN {w : World} {B : Nat} {v : Value} {zs : List Int} (h : Own w B v zs) (n : Nat) : Own (w.drewN n) B v zs := h

theorem Own.block {w : World} {B : Nat} {v : Value} {zs : List Int} (h : Own w B v zs) : ∀ k, v.ownBlock = some k → B ≤ k := fun k hk => (World.ownsRow.lt h k hk).1

/-- 's = append(s, x)', the new element in a block of its own just made -/
theorem wpList_push {ops : Array Oper} {rest : List Oper} {o : Oper} {a : Act} {Q : Exit → Act → World → Prop} (w : World) (n : Int) (B : Nat) (zs : List Int) (s x : Operand)
    (hgd : o.guard = none) (ho : o.op = .call { callee := .builtin .append, args := #[s, x], argTypes := #[58, 58] })
    (v : Value) (hs : a.eval s = v) (hx : a.eval x = .slice (some ⟨w.heap.size, 0, none⟩) 1 1) (hown : Own w B v zs) (hl : zs.length < 1099511627776) (hB : B ≤ w.heap.size)
    (h : ∀ v' w', Own w' B v' (zs ++ [n]) → Below B w w' → w.heap.size ≤ w'.heap.size → w.grownBy w' v.ownBlock → wpList Try.prog ops Q rest (a.put o.dst v') w') :
    wpList Try.prog ops Q (o :: rest) a (w.alloc (.cells #[.int .i64 n] 3)) := by
  obtain ⟨i0, hi, hz0, hz1, hz2⟩ := info_parts info_int
  refine wpList_append_own (w.alloc (.cells #[.int .i64 n] 3)) hgd s x 58 ho B 3 i0 (.int .i64 0) 1 8 Try.underlying58 hi hz0 hz1 hz2 rfl (by decide) v zs.length (zs.map (Value.int .i64)) hs (Own.alloc hown _)
    ⟨w.heap.size, 0, none⟩ 1 1 [.int .i64 n] hx rfl ?_ ?_ (by unfold maxLen; omega) (by omega) (by simp; omega) ?_
  · intro j u hj
    match j, hj with
    | 0, hj => simp at hj; subst hj; simp [Addr.add]
  · intro u hu; simp at hu; subst hu; rfl
  · intro v' w' h1 h2 _
    have hg : w.grownBy w' v.ownBlock := (World.grownBy_alloc w _ v.ownBlock).trans h2
    refine h v' w' (by unfold Own; simpa using h1) ?_ hg.size hg
    exact (Below.refl B w).grown hg hB (Own.block hown)
end Go.Proofs.Ytagmknahmkniaac

/- Rows of ints made by 'make', known whole. -/
namespace Go.Proofs.Ytagmknahmkniaac
open Go.RowKit

/-- block g is just the numbers zs -/
def Row (w : World) (g : Nat) (zs : List Int) : Prop := w.heap[g]? = some (.cells (zs.map (Value.int .i64)).toArray 3 (0, 0))
/-- block g is one variable of type t -/
def Box (w : World) (g : Nat) (t : TypeId) (v : Value) : Prop := w.heap[g]? = some (.cells #[v] t (0, 0))

theorem lt_of_block {w : World} {g : Nat} {o : Obj} (h : w.heap[g]? = some o) : g < w.heap.size := by
  rcases Nat.lt_or_ge g w.heap.size with hlt | hge
  · exact hlt
  · rw [Array.getElem?_eq_none hge] at h; cases h

section
variable {w w' : World} {g : Nat} {zs : List Int} {t : TypeId} {v : Value}
theorem Row.lt (h : Row w g zs) : g < w.heap.size := lt_of_block h
theorem Box.lt (h : Box w g t v) : g < w.heap.size := lt_of_block h
theorem Row.cell (h : Row w g zs) (i : Nat) (hi : i < zs.length) : w.cell? ⟨g, i, none⟩ = some (.int .i64 (zs.getD i 0)) := by
  unfold Row at h
  simp [World.cell?, h, List.getD, hi]
theorem Row.frozen (h : Row w g zs) (i : Nat) : w.frozen? ⟨g, i, none⟩ = false := by
  unfold Row at h
  simp [World.frozen?, h]
theorem Box.cell (h : Box w g t v) : w.cell? ⟨g, 0, none⟩ = some v := by
  unfold Box at h
  simp [World.cell?, h]
theorem Box.frozen (h : Box w g t v) : w.frozen? ⟨g, 0, none⟩ = false := by
  unfold Box at h
  simp [World.frozen?, h]
theorem Row.set_ (h : Row w g zs) (i : Nat) (x : Int) : Row (w.setCell ⟨g, i, none⟩ (.int .i64 x)) g (zs.set i x) := by
  unfold Row at h ⊢
  simp [World.setCell, Array.getElem?_modify, h]
theorem Box.set_ (h : Box w g t v) (u : Value) : Box (w.setCell ⟨g, 0, none⟩ u) g t u := by
  unfold Box at h ⊢
  simp [World.setCell, Array.getElem?_modify, h]
theorem Row.far (h : Row w g zs) {p : Addr} (hp : g ≠ p.block) (u : Value) : Row (w.setCell p u) g zs := (Below.heap_setCell w p u g hp).trans h
theorem Box.far (h : Box w g t v) {p : Addr} (hp : g ≠ p.block) (u : Value) : Box (w.setCell p u) g t v := (Below.heap_setCell w p u g hp).trans h
theorem Row.alloc (h : Row w g zs) (o : Obj) : Row (w.alloc o) g zs := (Below.heap_alloc w o g h.lt).trans h
theorem Box.alloc (h : Box w g t v) (o : Obj) : Box (w.alloc o) g t v := (Below.heap_alloc w o g h.lt).trans h
theorem Row.drewN (h : Row w g zs) (n : Nat) : Row (w.drewN n) g zs := h
theorem Row.drew (h : Row w g zs) : Row w.drew g zs := h
theorem Box.drewN (h : Box w g t v) (n : Nat) : Box (w.drewN n) g t v := h
theorem Box.drew (h : Box w g t v) : Box w.drew g t v := h
theorem Row.below {B : Nat} (h : Row w g zs) (hb : Below B w w') (hg : g < B) : Row w' g zs := (hb.block g hg).trans h
theorem Box.below {B : Nat} (h : Box w g t v) (hb : Below B w w') (hg : g < B) : Box w' g t v := (hb.block g hg).trans h
theorem Box.new (w : World) (t : TypeId) (v : Value) : Box (w.alloc (.cells #[v] t)) w.heap.size t v := heap_alloc_new w _
theorem Row.own (h : Row w g zs) {B : Nat} (hB : B ≤ g) (hl : zs.length ≤ maxLen) : Own w B (.slice (some ⟨g, 0, none⟩) zs.length zs.length) zs :=
  ⟨by simp, .inr ⟨g, zs.length, _, rfl, hB, h, Nat.le_refl _, hl, by simp, by simp [List.take_of_length_le]⟩⟩
theorem Row.ints (h : Row w g zs) (hl : zs.length ≤ maxLen) (hr : ∀ n ∈ zs, -9223372036854775808 ≤ n ∧ n ≤ 9223372036854775807) : Ints w (some ⟨g, 0, none⟩) zs :=
  ⟨hl, hr, .inr ⟨g, 0, rfl, h.lt, fun i hi => by rw [Nat.zero_add]; exact h.cell i hi⟩⟩
end

/-- n noughts, as cells -/
def zeros (n : Nat) : Array Value := madeCells #[.int .i64 0] n
theorem Row.made (w : World) (n : Nat) : Row (w.alloc (.cells (zeros n) 3)) w.heap.size (List.replicate n 0) := by
  have e : zeros n = ((List.replicate n 0).map (Value.int .i64)).toArray := by
    apply Array.toList_inj.1
    simp [zeros, toList_madeCells_one]
  rw [e]; exact heap_alloc_new w _

theorem make_ints (n : Nat) (hn : n ≤ 1099511627776) (u : World) : (Instr.makeSlice 58 (.int .i64 (n : Int)) (.int .i64 (n : Int))).run Try.prog u =
    .ok (.slice (some ⟨u.heap.size, 0, none⟩) n n) (u.alloc (.cells (zeros n) 3)) := by
  obtain ⟨i0, hi, hz0, hz1, hz2⟩ := info_parts info_int
  have h := run_make (P := Try.prog) u 58 3 i0 (.int .i64 0) Try.underlying58 hi hz0 .i64 .i64 (n : Int) (n : Int) (by omega) (Int.le_refl _) (by rw [hz2]; omega) (by omega)
  rw [Int.toNat_natCast] at h
  simpa [hz1, Value.cells, zeros] using h

/-! a row of the call's own, whatever its room: stores -/
theorem Own.set_ {w : World} {B g n cap : Nat} {zs : List Int} (h : Own w B (.slice (some ⟨g, 0, none⟩) n cap) zs) (i : Nat) (x : Int) :
    Own (w.setCell ⟨g, i, none⟩ (.int .i64 x)) B (.slice (some ⟨g, 0, none⟩) n cap) (zs.set i x) := by
  have hn : n = zs.length := by
    rcases h.2 with ⟨h0, _⟩ | ⟨g', cap', cur, h0, _⟩
    · cases h0
    · injection h0
  subst hn
  have := (World.ownsRow.stored h i (.int .i64 x)).1
  unfold Own
  rw [List.length_set, List.map_set]
  exact this
theorem Own.frozen {w : World} {B g n cap : Nat} {zs : List Int} (h : Own w B (.slice (some ⟨g, 0, none⟩) n cap) zs) (i : Nat) : w.frozen? ⟨g, i, none⟩ = false := by
  have hn : n = zs.length := by
    rcases h.2 with ⟨h0, _⟩ | ⟨g', cap', cur, h0, _⟩
    · cases h0
    · injection h0
  subst hn
  exact World.ownsRow.frozenAt h i
theorem Own.far {w : World} {B g n cap : Nat} {zs : List Int} (h : Own w B (.slice (some ⟨g, 0, none⟩) n cap) zs) {p : Addr} (hp : g ≠ p.block) (u : Value) :
    Own (w.setCell p u) B (.slice (some ⟨g, 0, none⟩) n cap) zs := by
  refine ⟨h.1, ?_⟩
  rcases h.2 with ⟨h0, _⟩ | ⟨g', cap', cur, h0, hB, hh, r⟩
  · cases h0
  · refine .inr ⟨g', cap', cur, h0, hB, ?_, r⟩
    have : g' = g := by injection h0 with h1; injection h1 with h1; injection h1 with h1; exact h1.symm
    subst this
    rw [Below.heap_setCell w p u _ hp]; exact hh
theorem Own.empty (w : World) (B : Nat) (hB : B ≤ w.heap.size) : Own (w.alloc (.cells #[] 3)) B (.slice (some ⟨w.heap.size, 0, none⟩) 0 0) [] :=
  World.ownsRow_lit w #[] 0 hB (Nat.zero_le _) rfl
theorem Own.ge {w : World} {B g n cap : Nat} {zs : List Int} (h : Own w B (.slice (some ⟨g, 0, none⟩) n cap) zs) : B ≤ g ∧ g < w.heap.size := by
  rcases h.form with ⟨h0, _⟩ | ⟨g', c', h0, h1, h2, _⟩
  · cases h0
  · injection h0 with h1'; injection h1' with h1'; injection h1' with h1'
    subst h1'; exact ⟨h1, h2⟩

/-- two rows of the call's own, in different blocks -/
def Two (w : World) (B : Nat) (v : Value) (zs : List Int) (u : Value) (ys : List Int) : Prop :=
  Own w B v zs ∧ Own w B u ys ∧ ∃ g h, v.ownBlock = some g ∧ u.ownBlock = some h ∧ g ≠ h ∧ g < w.heap.size ∧ h < w.heap.size

theorem Two.swap {w : World} {B : Nat} {v u : Value} {zs ys : List Int} (h : Two w B v zs u ys) : Two w B u ys v zs := by
  obtain ⟨a, b, g, k, e1, e2, e3, e4, e5⟩ := h
  exact ⟨b, a, k, g, e2, e1, fun e => e3 e.symm, e5, e4⟩
theorem Two.below {w w' : World} {B : Nat} {v u : Value} {zs ys : List Int} (h : Two w B v zs u ys) (hb : Below w.heap.size w w') : Two w' B v zs u ys := by
  obtain ⟨a, b, g, k, e1, e2, e3, e4, e5⟩ := h
  exact ⟨a.below hb, b.below hb, g, k, e1, e2, e3, Nat.lt_of_lt_of_le e4 hb.size, Nat.lt_of_lt_of_le e5 hb.size⟩

/-- 's = append(s, x)' beside another row -/
theorem wpList_push2 {ops : Array Oper} {rest : List Oper} {o : Oper} {a : Act} {Q : Exit → Act → World → Prop} (w : World) (n : Int) (B : Nat) (zs ys : List Int) (s x : Operand)
    (hgd : o.guard = none) (ho : o.op = .call { callee := .builtin .append, args := #[s, x], argTypes := #[58, 58] })
    (v u : Value) (hs : a.eval s = v) (hx : a.eval x = .slice (some ⟨w.heap.size, 0, none⟩) 1 1) (hown : Two w B v zs u ys) (hl : zs.length < 1099511627776) (hB : B ≤ w.heap.size)
    (h : ∀ v' w', Two w' B v' (zs ++ [n]) u ys → Below B w w' → wpList Try.prog ops Q rest (a.put o.dst v') w') :
    wpList Try.prog ops Q (o :: rest) a (w.alloc (.cells #[.int .i64 n] 3)) := by
  obtain ⟨h1, h2, g, k, e1, e2, e3, e4, e5⟩ := hown
  obtain ⟨i0, hi, hz0, hz1, hz2⟩ := info_parts info_int
  refine wpList_append_own_at (w.alloc (.cells #[.int .i64 n] 3)) hgd s x 58 ho B 3 i0 (.int .i64 0) 1 8 Try.underlying58 hi hz0 hz1 hz2 rfl (by decide) v zs.length (zs.map (Value.int .i64)) hs (Own.alloc h1 _)
    ⟨w.heap.size, 0, none⟩ 1 1 [.int .i64 n] hx rfl ?_ ?_ (by unfold maxLen; omega) (by omega) (by simp; omega) ?_
  · intro j u hj
    match j, hj with
    | 0, hj => simp at hj; subst hj; simp [Addr.add]
  · intro u hu; simp at hu; subst hu; rfl
  · intro v' w' p1 p2 _ p4
    have hg : w.grownBy w' v.ownBlock := (World.grownBy_alloc w _ v.ownBlock).trans p2
    have own' : Own w' B v' (zs ++ [n]) := by unfold Own; simpa using p1
    have hu : Own w' B u ys := World.ownsRow.kept h2 hg (.inr (by rw [e1, e2]; intro e; injection e with e; exact e3 e.symm))
    refine h v' w' ⟨own', hu, ?_⟩ ((Below.refl B w).grown hg hB (Own.block h1))
    have hz := hg.size
    rcases p4 with p4 | p4
    · exact ⟨g, k, by rw [p4, e1], e2, e3, by omega, by omega⟩
    · refine ⟨w.heap.size + 1, k, by rw [p4]; simp, e2, by omega, ?_, by omega⟩
      have := World.ownsRow.lt p1 (w.heap.size + 1) (by rw [p4]; simp)
      exact this.2
end Go.Proofs.Ytagmknahmkniaac

/- Boxes: blocks known whole, over a seat. -/
namespace Go.Proofs.Ytagmknahmkniaac
open Go.RowKit
set_option linter.unusedVariables false
set_option linter.unusedSimpArgs false

/-- block g is just the cells cs -/
def CB (w : World) (g : Nat) (t : TypeId) (cs : Array Value) : Prop := w.heap[g]? = some (.cells cs t (0, 0))
section
variable {w w' : World} {g B : Nat} {t : TypeId} {cs : Array Value}
theorem CB.new (w : World) (t : TypeId) (cs : Array Value) : CB (w.alloc (.cells cs t)) w.heap.size t cs := heap_alloc_new w _
theorem CB.below (h : CB w g t cs) (hb : Below B w w') (hg : g < B) : CB w' g t cs := (hb.block g hg).trans h
theorem CB.lt (h : CB w g t cs) : g < w.heap.size := lt_of_block h
theorem CB.cell (h : CB w g t cs) (i : Nat) : w.cell? ⟨g, i, none⟩ = cs[i]? := by unfold CB at h; simp [World.cell?, h]
theorem CB.alloc (h : CB w g t cs) (o : Obj) : CB (w.alloc o) g t cs := (Below.heap_alloc w o g h.lt).trans h
theorem CB.drewN (h : CB w g t cs) (n : Nat) : CB (w.drewN n) g t cs := h
theorem CB.frozen (h : CB w g t cs) (i : Nat) : w.frozen? ⟨g, i, none⟩ = false := by unfold CB at h; simp [World.frozen?, h]
theorem CB.set_ (h : CB w g t cs) (i : Nat) (u : Value) : CB (w.setCell ⟨g, i, none⟩ u) g t (cs.setIfInBounds i u) := by
  unfold CB at h ⊢
  simp [World.setCell, Array.getElem?_modify, h]
theorem CB.far (h : CB w g t cs) {p : Addr} (hp : g ≠ p.block) (u : Value) : CB (w.setCell p u) g t cs := (Below.heap_setCell w p u g hp).trans h
end
theorem CB.new1 (w : World) (o : Obj) (t : TypeId) (cs : Array Value) : CB ((w.alloc o).alloc (.cells cs t)) (w.heap.size + 1) t cs := by
  have h := CB.new (w.alloc o) t cs
  rwa [show (w.alloc o).heap.size = w.heap.size + 1 by simp] at h
theorem CB.new2 (w : World) (o o' : Obj) (t : TypeId) (cs : Array Value) : CB (((w.alloc o).alloc o').alloc (.cells cs t)) (w.heap.size + 2) t cs := by
  have h := CB.new1 (w.alloc o) o' t cs
  rwa [show (w.alloc o).heap.size + 1 = w.heap.size + 2 by simp] at h
theorem below_al {a w : World} (h : Below a.heap.size a w) (o : Obj) : Below a.heap.size a (w.alloc o) := h.alloc h.size o
theorem results_cell1 {fn : Func} {p : Tmp} {ty : TypeId} (h : fn.results = #[.cell p ty]) (tmps : Array Value) (P : Program) (w : World) :
    (results fn tmps).run P w = ((asAddr (tmps.getD p undef)).run P w).andThen fun a w₁ => (loadVar ty a).run P w₁ := by
  simp only [results, h]
  simp [Sem.run_bind, Result.andThen]
theorem results_cell2 {fn : Func} {p q : Tmp} {ty tz : TypeId} (h : fn.results = #[.cell p ty, .cell q tz]) (tmps : Array Value) (P : Program) (w : World) :
    (results fn tmps).run P w = ((asAddr (tmps.getD p undef)).run P w).andThen fun a w₁ => ((loadVar ty a).run P w₁).andThen fun v w₂ => ((asAddr (tmps.getD q undef)).run P w₂).andThen fun b w₃ => ((loadVar tz b).run P w₃).andThen fun u w₄ => .ok (.tuple #[v, u]) w₄ := by
  simp only [results, h]
  simp [Sem.run_bind, Result.andThen]
end Go.Proofs.Ytagmknahmkniaac

/- Contracts of layer 17: within, Check, the program's and the reference's; a query's run. -/
namespace Go.Proofs.Ytagmknahmkniaac
open Go.RowKit Go.Recs
set_option linter.unusedVariables false
set_option linter.unusedSimpArgs false
abbrev tickA (x : TP.Tick) : Value := .agg #[.int .i64 x.time, .int .i64 x.qty, .int .i64 x.price]
abbrev tickC (x : TP.Tick) : Array Value := #[.int .i64 x.time, .int .i64 x.qty, .int .i64 x.price]
theorem within17_any (n a b : Int) (w : World) :
    Calls Try.prog 78 #[.int .i64 n, .int .i64 a, .int .i64 b] w fun e w' => e = .returned (.bool (QM.within n a b)) ∧ w = w' := by
  by_cases h1 : a ≤ n
  · by_cases h2 : n ≤ b
    · have e : QM.within n a b = true := QM.within_true.2 ⟨h1, h2⟩
      rw [e]; clear e
      go_enter Try.func78, Try.ntmps78
      go_wp2
      go_ret
      exact ⟨rfl, rfl⟩
    · have e : QM.within n a b = false := QM.within_false.2 (.inr (by omega))
      rw [e]; clear e
      go_enter Try.func78, Try.ntmps78
      go_wp2
      go_ret
      exact ⟨rfl, rfl⟩
  · have e : QM.within n a b = false := QM.within_false.2 (.inl (by omega))
    rw [e]; clear e
    go_enter Try.func78, Try.ntmps78
    go_wp2
    go_ret
    exact ⟨rfl, rfl⟩
theorem tick_at {l : List TP.Tick} {k : Nat} {t : TP.Tick} (h : TP.tAt l k = t) : TP.oneE l k = TP.oneT (TP.prev l k) t := by unfold TP.oneE; rw [h]
set_option maxRecDepth 100000 in
set_option maxHeartbeats 4000000 in
theorem tcheck_any (A : Option Addr) (l : List TP.Tick) (n cap : Nat) (hn : n = l.length) (w : World) (hI : Ticks w A l) :
    Calls Try.prog 37 #[.slice A n cap] w fun e w' => e = .returned (.int .i64 (TP.allE l)) ∧ Below w.heap.size w w' := by
  subst hn
  have hlen := hI.len
  by_cases h32 : 1024 < l.length
  · have e : TP.allE l = 8 := by unfold TP.allE; rw [if_pos h32]
    rw [e]; clear e hI
    go_enter Try.func37, Try.ntmps37
    go_wp2_with fail
    go_ret
    exact ⟨rfl, Below.refl _ _⟩
  have KS := Lib.hid (fun k => @TP.all_stop l k h32)
  have KE : Hid (TP.uptoE l l.length = 0 → TP.allE l = 0) := Lib.hid (fun h => by unfold TP.allE; rw [if_neg h32, h])
  have K0 : Hid (0 = TP.prev l 0) := Lib.hid rfl
  have C1 := Lib.hid (fun n a b ww => within17_any n a b ww)
  generalize TP.allE l = x at *
  have HI := Lib.hid hI
  clear hI
  go_enter Try.func37, Try.ntmps37
  go_wp2_with fail
  clear h32
  go_loopw [3, 5, 11] (fun p _ i wr => ∃ k : Nat, k ≤ l.length ∧ ∃ pv : Int, p = .int .i64 pv ∧ Hid (pv = TP.prev l k) ∧ i = .int .i64 k ∧ Hid (TP.uptoE l k = 0) ∧ Hid (Below w.heap.size w wr)) (fun _ _ i _ => l.length - (intOf i).toNat)
  case atStart => exact ⟨0, by omega, 0, rfl, K0, rfl, Lib.hid rfl, Lib.hid (Below.refl _ _)⟩
  case round =>
    obtain ⟨k, hk, pv, rfl, HPV, rfl, HE, HW⟩ := hrel
    by_cases hlt : k < l.length
    · obtain ⟨b, off, t, rfl, hb, HV, ⟨q0, q1, q2⟩, d0, d1, d2⟩ := ticks_get (HI.out.below HW.out) hlt
      have HWA := Lib.hid (HW.out.alloc HW.out.size (.cells (tickC t) 102))
      have HC := CB.new wr 102 (tickC t)
      have f0 := HC.cell 0
      have f1 := HC.cell 1
      have f2 := HC.cell 2
      simp only [List.getElem?_toArray, List.getElem?_cons_zero, List.getElem?_cons_succ] at f0 f1 f2
      have HO := Lib.hid (by rw [HPV.out]; exact tick_at HV.out : TP.oneE l k = TP.oneT pv t)
      have HF := Lib.hid (KS.out k hlt HE.out)
      have HS := Lib.hid (fun h => @TP.upto_step l k HE.out h)
      have HP : Hid (t.time = TP.prev l (k + 1)) := Lib.hid (by rw [TP.prev_succ, HV.out])
      obtain ⟨wa, hwa⟩ : ∃ wa, wr.alloc (.cells #[.int .i64 t.time, .int .i64 t.qty, .int .i64 t.price] 102) = wa := ⟨_, rfl⟩
      rw [hwa] at f0 f1 f2
      have HWA := Lib.hid (hwa ▸ HWA.out : Below w.heap.size w wa)
      clear HC HPV
      go_wp2_with fail
      refine (C1.out _ _ _ _).mono ?_
      rintro e w2 ⟨rfl, rfl⟩
      cases g1 : QM.within t.time pv 86399
      · have HX : Hid (x = 2) := Lib.hid (by
          have e : TP.oneE l k = 2 := by rw [HO.out]; unfold TP.oneT; rw [g1]; rfl
          rw [← e]; exact HF.out (by rw [e]; decide))
        go_wp2_with fail
        go_ret
        exact ⟨by rw [HX.out] <;> rfl, HWA.out⟩
      go_wp2_with fail
      refine (C1.out _ _ _ _).mono ?_
      rintro e w2 ⟨rfl, rfl⟩
      cases g2 : QM.within t.qty 1 1048576
      · have HX : Hid (x = 18) := Lib.hid (by
          have e : TP.oneE l k = 18 := by rw [HO.out]; unfold TP.oneT; rw [g1, g2]; rfl
          rw [← e]; exact HF.out (by rw [e]; decide))
        go_wp2_with fail
        go_ret
        exact ⟨by rw [HX.out] <;> rfl, HWA.out⟩
      go_wp2_with fail
      refine (C1.out _ _ _ _).mono ?_
      rintro e w2 ⟨rfl, rfl⟩
      cases g3 : QM.within t.price (-16777216) 16777216
      · have HX : Hid (x = 17) := Lib.hid (by
          have e : TP.oneE l k = 17 := by rw [HO.out]; unfold TP.oneT; rw [g1, g2, g3]; rfl
          rw [← e]; exact HF.out (by rw [e]; decide))
        go_wp2_with fail
        go_ret
        exact ⟨by rw [HX.out] <;> rfl, HWA.out⟩
      have HZ := Lib.hid (HS.out (by rw [HO.out]; unfold TP.oneT; rw [g1, g2, g3]; rfl))
      clear g1 g2 g3
      go_wp2_with fail
      go_roundw
      case rel => exact ⟨k + 1, by omega, _, rfl, HP, by go_num, HZ, HWA⟩
      case measure => simp [intOf]; omega
    · obtain rfl : k = l.length := by omega
      have HX := Lib.hid (KE.out HE.out)
      go_wp2_with fail
      go_ret
      exact ⟨by rw [HX.out] <;> rfl, HW.out⟩
/-- a function without results ends -/
theorem leave0 {P : Program} {fn : Func} {R : Ending → World → Prop} {a : Act} {w : World} (hr : fn.results = #[]) (hd : a.defers = []) (hR : R (.returned (.tuple #[])) w) : bodyPost P fn R .normal a w := by
  exact bodyPost_end (results_none hr _ _ _) hd hR
set_option maxRecDepth 100000 in
set_option maxHeartbeats 4000000 in
/-- a query's run: a function of the program with what it captured, called for tick after tick -/
theorem run17_any (F : Nat) (eg : ∀ args w, (callFunc F args).run Try.prog w = .ok (.enter F args) w) (cs : Array Value) (I : Nat → World → Prop) (A : Option Addr) (l : List TP.Tick) (n cap : Nat) (hn : n = l.length) (w0 w : World) (hI : Ticks w0 A l)
    (hB : ∀ k ww, I k ww → Below w0.heap.size w0 ww) (hal : ∀ k ww o, I k ww → I k (ww.alloc o)) (h0 : I 0 w)
    (hst : ∀ k, k < l.length → ∀ ww, I k ww → w.heap.size < ww.heap.size → Calls Try.prog F (#[tickA (TP.tAt l k)] ++ cs) ww fun e w' => e = .returned (.tuple #[]) ∧ I (k + 1) w' ∧ w'.heap[w.heap.size]? = ww.heap[w.heap.size]?) :
    Calls Try.prog 80 #[.agg #[.func (.func F) #[] cs], .slice A n cap] w fun e w' => e = .returned (.tuple #[]) ∧ I l.length w' := by
  subst hn
  have hlen := hI.len
  have HI := Lib.hid hI; have HB := Lib.hid hB; have HAL := Lib.hid hal; have HST := Lib.hid hst
  have H0 := Lib.hid (hal 0 w (.cells #[.func (.func F) #[] cs] 135) h0)
  have HC := Lib.hid (CB.new w 135 #[.func (.func F) #[] cs])
  clear hI hB hal hst h0
  go_enter Try.func80, Try.ntmps80
  go_wp2_with fail
  go_loopw [5, 8] (fun _ i wr => ∃ k : Nat, k ≤ l.length ∧ i = .int .i64 k ∧ Hid (I k wr) ∧ Hid (CB wr w.heap.size 135 #[.func (.func F) #[] cs])) (fun _ i _ => l.length - (intOf i).toNat)
  case atStart => exact ⟨0, by omega, rfl, H0, HC⟩
  case round =>
    clear H0 HC
    obtain ⟨k, hk, rfl, HK, HQ⟩ := hrel
    by_cases hlt : k < l.length
    · obtain ⟨b, off, t, rfl, hb, HV, ⟨q0, q1, q2⟩, d0, d1, d2⟩ := ticks_get (HI.out.below (HB.out k wr HK.out)) hlt
      have hX := CB.new wr 102 (tickC t)
      have f0 := hX.cell 0
      have f1 := hX.cell 1
      have f2 := hX.cell 2
      simp only [List.getElem?_toArray, List.getElem?_cons_zero, List.getElem?_cons_succ] at f0 f1 f2
      have hK := HAL.out k wr (.cells (tickC t) 102) HK.out
      have hQ := HQ.out.alloc (.cells (tickC t) 102)
      have c0 := hQ.cell 0
      simp only [List.getElem?_toArray, List.getElem?_cons_zero] at c0
      have hC := HST.out k hlt _ hK (by simp; have := HQ.out.lt; omega)
      rw [HV.out] at hC
      obtain ⟨wa, hwa⟩ : ∃ wa, wr.alloc (.cells #[.int .i64 t.time, .int .i64 t.qty, .int .i64 t.price] 102) = wa := ⟨_, rfl⟩
      rw [hwa] at f0 f1 f2 c0 hC hQ
      have HQA := Lib.hid hQ
      have HC := Lib.hid hC
      clear hX hK hQ hC HQ HK
      go_wp2_with fail
      refine HC.out.mono ?_
      rintro e w2 ⟨rfl, hi, hq⟩
      have HK2 := Lib.hid hi
      have HQ2 := Lib.hid (hq.trans HQA.out : CB w2 w.heap.size 135 #[.func (.func F) #[] cs])
      clear hi hq f0 f1 f2 c0 d0 d1 d2 hwa HC HQA
      go_wp2_with fail
      go_roundw
      case rel => exact ⟨k + 1, by omega, by go_num, HK2, HQ2⟩
      case measure => simp [intOf]; omega
    · obtain rfl : k = l.length := by omega
      go_wp2_with fail
      exact leave0 rfl rfl ⟨rfl, HK.out⟩
end Go.Proofs.Ytagmknahmkniaac

/- Contracts of layer 17: the closures of totals and Range; totals, Range. -/
namespace Go.Proofs.Ytagmknahmkniaac
open Go.RowKit Go.Recs
set_option linter.unusedVariables false
set_option linter.unusedSimpArgs false
/-- of what was there only the boxes g0 and g1 are written over -/
structure Twin (w w' : World) (g0 g1 : Nat) (v0 v1 : Value) : Prop where
  below : ∀ B w0, Below B w0 w → B ≤ g0 → B ≤ g1 → B ≤ w.heap.size → Below B w0 w'
  c0 : CB w' g0 3 #[v0]
  c1 : CB w' g1 3 #[v1]
  other : ∀ g, g ≠ g0 → g ≠ g1 → g < w.heap.size → w'.heap[g]? = w.heap[g]?
theorem Twin.of {w : World} {g0 g1 : Nat} {a b : Value} (c0 : CB w g0 3 #[a]) (c1 : CB w g1 3 #[b]) (hne : g0 ≠ g1) (o : Obj) (v0 v1 : Value) :
    Twin w (((w.alloc o).setCell ⟨g0, 0, none⟩ v0).setCell ⟨g1, 0, none⟩ v1) g0 g1 v0 v1 := by
  refine ⟨fun B w0 h h0 h1 hB => ((h.alloc hB o).setCell (p := ⟨g0, 0, none⟩) h0 _).setCell (p := ⟨g1, 0, none⟩) h1 _, ?_, ?_, fun g n0 n1 hg => ?_⟩
  · have := ((c0.alloc o).set_ 0 v0).far (p := ⟨g1, 0, none⟩) hne v1
    simpa using this
  · have := ((c1.alloc o).far (p := ⟨g0, 0, none⟩) (Ne.symm hne) v0).set_ 0 v1
    simpa using this
  · rw [Below.heap_setCell _ ⟨g1, 0, none⟩ _ g n1, Below.heap_setCell _ ⟨g0, 0, none⟩ _ g n0, Below.heap_alloc _ _ _ hg]
theorem Twin.drew {w w' : World} {g0 g1 : Nat} {v0 v1 : Value} (h : Twin w w' g0 g1 v0 v1) : Twin w w'.drew g0 g1 v0 v1 := ⟨fun B w0 a b c d => (h.below B w0 a b c d).drew, h.c0, h.c1, h.other⟩
theorem load_int (w : World) (g : Nat) (n : Int) (hb : CB w g 3 #[.int .i64 n]) : (loadVar 3 ⟨g, 0, none⟩).run Try.prog w = .ok (.int .i64 n) w := by
  have c := hb.cell 0
  simp only [List.getElem?_toArray, List.getElem?_cons_zero] at c
  have u3 := Try.underlying3
  have a3 := Try.isAgg3
  have z3 := Try.sizeOf3
  unfold loadVar
  go_simp
theorem results_ints2 {fn : Func} {p q : Tmp} (h : fn.results = #[.cell p 3, .cell q 3]) (tmps : Array Value) (w : World) (g j : Nat) (x y : Int)
    (hp : tmps.getD p undef = .pointer (some ⟨g, 0, none⟩)) (hq : tmps.getD q undef = .pointer (some ⟨j, 0, none⟩)) (hb : CB w g 3 #[.int .i64 x]) (hc : CB w j 3 #[.int .i64 y]) :
    (results fn tmps).run Try.prog w = .ok (.tuple #[.int .i64 x, .int .i64 y]) w := by
  rw [results_cell2 h, hp]
  simp only [asAddr, Sem.run_pure, Result.andThen_ok]
  rw [load_int w g x hb]
  simp only [Result.andThen_ok, hq, asAddr, Sem.run_pure]
  rw [load_int w j y hc]
  rfl
theorem results_cell2_tmp {fn : Func} {p q u : Tmp} {ty tz : TypeId} (h : fn.results = #[.cell p ty, .cell q tz, .tmp u]) (tmps : Array Value) (P : Program) (w : World) :
    (results fn tmps).run P w = ((asAddr (tmps.getD p undef)).run P w).andThen fun a w₁ => ((loadVar ty a).run P w₁).andThen fun v w₂ => ((asAddr (tmps.getD q undef)).run P w₂).andThen fun b w₃ => ((loadVar tz b).run P w₃).andThen fun z w₄ => .ok (.tuple #[v, z, tmps.getD u undef]) w₄ := by
  simp only [results, h]
  simp [Sem.run_bind, Result.andThen]
theorem results_ints3 {fn : Func} {p q u : Tmp} (h : fn.results = #[.cell p 3, .cell q 3, .tmp u]) (tmps : Array Value) (w : World) (g j : Nat) (x y : Int) (z : Value)
    (hp : tmps.getD p undef = .pointer (some ⟨g, 0, none⟩)) (hq : tmps.getD q undef = .pointer (some ⟨j, 0, none⟩)) (hu : tmps.getD u undef = z) (hb : CB w g 3 #[.int .i64 x]) (hc : CB w j 3 #[.int .i64 y]) :
    (results fn tmps).run Try.prog w = .ok (.tuple #[.int .i64 x, .int .i64 y, z]) w := by
  rw [results_cell2_tmp h, hp]
  simp only [asAddr, Sem.run_pure, Result.andThen_ok]
  rw [load_int w g x hb]
  simp only [Result.andThen_ok, hq, asAddr, Sem.run_pure]
  rw [load_int w j y hc]
  simp only [Result.andThen_ok, hu]
set_option maxRecDepth 100000 in
set_option maxHeartbeats 4000000 in
theorem totals1_any (g0 g1 : Nat) (hne : g0 ≠ g1) (t : TP.Tick) (a b : Int) (w : World) (h0 : CB w g0 3 #[.int .i64 a]) (h1 : CB w g1 3 #[.int .i64 b])
    (ha : -9223372036854775808 ≤ a + t.qty ∧ a + t.qty ≤ 9223372036854775807) (hm : -9223372036854775808 ≤ t.price * t.qty ∧ t.price * t.qty ≤ 9223372036854775807) (hb : -9223372036854775808 ≤ b + t.price * t.qty ∧ b + t.price * t.qty ≤ 9223372036854775807) :
    Calls Try.prog 98 #[tickA t, .pointer (some ⟨g0, 0, none⟩), .pointer (some ⟨g1, 0, none⟩)] w fun e w' => e = .returned (.tuple #[]) ∧ Twin w w' g0 g1 (.int .i64 (a + t.qty)) (.int .i64 (b + t.price * t.qty)) := by
  have HT := Lib.hid (Twin.of h0 h1 hne (.cells (tickC t) 102) (.int .i64 (a + t.qty)) (.int .i64 (b + t.price * t.qty)))
  have hX := CB.new w 102 (tickC t)
  have hY := h0.alloc (.cells (tickC t) 102)
  have hZ := h1.alloc (.cells (tickC t) 102)
  have f0 := hX.cell 0
  have f1 := hX.cell 1
  have f2 := hX.cell 2
  have c0 := hY.cell 0
  have c1 := hZ.cell 0
  have r0 := hY.frozen 0
  have r1 := hZ.frozen 0
  simp only [List.getElem?_toArray, List.getElem?_cons_zero, List.getElem?_cons_succ] at f0 f1 f2 c0 c1
  have n0 : ¬ g0 = w.heap.size := by have := h0.lt; omega
  have n1 : ¬ g1 = w.heap.size := by have := h1.lt; omega
  have n2 : ¬ w.heap.size = g0 := by have := h0.lt; omega
  have n3 : ¬ w.heap.size = g1 := by have := h1.lt; omega
  have n4 : ¬ g0 = g1 := hne
  have n5 : ¬ g1 = g0 := Ne.symm hne
  obtain ⟨wa, hwa⟩ : ∃ wa, w.alloc (.cells #[.int .i64 t.time, .int .i64 t.qty, .int .i64 t.price] 102) = wa := ⟨_, rfl⟩
  rw [hwa] at f0 f1 f2 c0 c1 r0 r1 HT
  obtain ⟨a1, a2⟩ := ha; obtain ⟨m1, m2⟩ := hm; obtain ⟨b1, b2⟩ := hb
  clear hX hY hZ h0 h1 hne
  go_enter Try.func98, Try.ntmps98
  go_wp2_with fail
  exact leave0 rfl rfl ⟨rfl, HT.out⟩
/-- two boxes and a query made -/
abbrev box3 (w : World) (a b : Int) (F : Nat) : World := ((w.alloc (.cells #[.int .i64 a] 3)).alloc (.cells #[.int .i64 b] 3)).alloc (.cells #[.func (.func F) #[] #[.pointer (some ⟨w.heap.size, 0, none⟩), .pointer (some ⟨w.heap.size + 1, 0, none⟩)]] 135)
theorem box3_size (w : World) (a b : Int) (F : Nat) : (box3 w a b F).heap.size = w.heap.size + 3 := by simp [box3]
theorem box3_below (w : World) (a b : Int) (F : Nat) : Below w.heap.size w (box3 w a b F) := below_al (below_al (below_al (Below.refl _ _) _) _) _
theorem box3_0 (w : World) (a b : Int) (F : Nat) : CB (box3 w a b F) w.heap.size 3 #[.int .i64 a] := ((CB.new _ _ _).alloc _).alloc _
theorem box3_1 (w : World) (a b : Int) (F : Nat) : CB (box3 w a b F) (w.heap.size + 1) 3 #[.int .i64 b] := (CB.new1 _ _ _ _).alloc _
theorem Twin.again {w : World} {g0 g1 : Nat} {a b : Value} (c0 : CB w g0 3 #[a]) (c1 : CB w g1 3 #[b]) (hne : g0 ≠ g1) {B : Nat} {w0 : World} (hb : Below B w0 w) (h0 : B ≤ g0) (h1 : B ≤ g1) (v0 v1 : Value) :
    Below B w0 ((w.setCell ⟨g0, 0, none⟩ v0).setCell ⟨g1, 0, none⟩ v1).drew ∧ CB ((w.setCell ⟨g0, 0, none⟩ v0).setCell ⟨g1, 0, none⟩ v1).drew g0 3 #[v0] ∧ CB ((w.setCell ⟨g0, 0, none⟩ v0).setCell ⟨g1, 0, none⟩ v1).drew g1 3 #[v1] := by
  refine ⟨((hb.setCell (p := ⟨g0, 0, none⟩) h0 _).setCell (p := ⟨g1, 0, none⟩) h1 _).drew, ?_, ?_⟩
  · have h : CB ((w.setCell ⟨g0, 0, none⟩ v0).setCell ⟨g1, 0, none⟩ v1) g0 3 #[v0] := by
      have := (c0.set_ 0 v0).far (p := ⟨g1, 0, none⟩) hne v1
      simpa using this
    exact h
  · have h : CB ((w.setCell ⟨g0, 0, none⟩ v0).setCell ⟨g1, 0, none⟩ v1) g1 3 #[v1] := by
      have := (c1.far (p := ⟨g0, 0, none⟩) (Ne.symm hne) v0).set_ 0 v1
      simpa using this
    exact h
set_option maxRecDepth 100000 in
set_option maxHeartbeats 4000000 in
theorem totals_any (A : Option Addr) (l : List TP.Tick) (n cap : Nat) (hn : n = l.length) (w : World) (hI : Ticks w A l) (hg : TP.Good l) :
    Calls Try.prog 82 #[.slice A n cap] w fun e w' => e = .returned (.tuple #[.int .i64 (TP.vol l), .int .i64 (TP.val l)]) ∧ Below w.heap.size w w' := by
  have hmf : ∀ (fn : Fn) (first cap : Array Value) (w : World), (Instr.makeFunc fn first cap).run Try.prog w = .ok (.func fn first cap) w := fun _ _ _ _ => rfl
  have eg : ∀ args w, (callFunc 98 args).run Try.prog w = .ok (.enter 98 args) w := enters_of Try.func98 (by kernel_rfl) rfl
  have C := Lib.hid (run17_any 98 eg #[.pointer (some ⟨w.heap.size, 0, none⟩), .pointer (some ⟨w.heap.size + 1, 0, none⟩)]
    (fun k ww => Below w.heap.size w ww ∧ CB ww w.heap.size 3 #[.int .i64 (TP.volU l k)] ∧ CB ww (w.heap.size + 1) 3 #[.int .i64 (TP.valU l k)]) A l n cap hn w (box3 w 0 0 98) hI
    (fun k ww h => h.1) (fun k ww o h => ⟨below_al h.1 o, h.2.1.alloc o, h.2.2.alloc o⟩) ⟨box3_below _ _ _ _, box3_0 _ _ _ _, box3_1 _ _ _ _⟩
    (fun k hk ww h hlt => by
      obtain ⟨hb, c0, c1⟩ := h
      rw [box3_size] at hlt
      have e1 := hg.each k hk
      have e2 := TP.mul_bound e1.2.2 e1.2.1
      have e3 := TP.vol_bounds hg k (by omega)
      have e4 := TP.val_bounds hg k (by omega)
      have hl := hg.len
      refine (totals1_any w.heap.size (w.heap.size + 1) (by omega) (TP.tAt l k) (TP.volU l k) (TP.valU l k) ww c0 c1 (by omega) (by omega) (by omega)).mono ?_
      rintro e w' ⟨rfl, T⟩
      refine ⟨rfl, ⟨T.below _ _ hb (Nat.le_refl _) (by omega) hb.size, ?_, ?_⟩, T.other _ (by rw [box3_size]; omega) (by rw [box3_size]; omega) (by rw [box3_size]; omega)⟩
      · rw [TP.volU_succ hk]; exact T.c0
      · rw [TP.valU_succ hk]; exact T.c1))
  rw [TP.volU_all, TP.valU_all] at C
  generalize TP.vol l = x at *
  generalize TP.val l = y at *
  subst hn
  have n0 : ¬ w.heap.size = w.heap.size + 1 := by omega
  have n1 : ¬ w.heap.size + 1 = w.heap.size := by omega
  clear hI hg eg
  go_enter Try.func82, Try.ntmps82
  go_wp2_with fail
  refine C.out.mono ?_
  rintro e w2 ⟨rfl, hb, h0, h1⟩
  have c0 := h0.cell 0
  have c1 := h1.cell 0
  have r0 := h0.frozen 0
  have r1 := h1.frozen 0
  simp only [List.getElem?_toArray, List.getElem?_cons_zero] at c0 c1
  have HZ := Lib.hid (Twin.again h0 h1 (by omega) hb (Nat.le_refl _) (by omega) (.int .i64 x) (.int .i64 y))
  clear hb h0 h1
  go_wp2_with fail
  go_region
  all_goals (
    go_wp2_with fail
    (try simp only [Exit.inBlock, Exit.then])
    exact bodyPost_ret (results_ints2 rfl _ _ _ _ _ _ rfl rfl HZ.out.2.1 HZ.out.2.2) rfl ⟨rfl, HZ.out.1⟩)
end Go.Proofs.Ytagmknahmkniaac

/- Contracts of layer 17: Range. -/
namespace Go.Proofs.Ytagmknahmkniaac
open Go.RowKit Go.Recs
set_option linter.unusedVariables false
set_option linter.unusedSimpArgs false
theorem two_below (w : World) (a b : Array Value) : Below w.heap.size w ((w.alloc (.cells a 3)).alloc (.cells b 3)) := below_al (below_al (Below.refl _ _) _) _
end Go.Proofs.Ytagmknahmkniaac

/- Contracts of layer 17: Window. -/
namespace Go.Proofs.Ytagmknahmkniaac
open Go.RowKit Go.Recs
set_option linter.unusedVariables false
set_option linter.unusedSimpArgs false
theorem info_tick : (Try.prog.info? 102).map (fun i => (i.zero, i.size, i.bytes)) = some (some (tickA TP.zero), 3, 24) := by kernel_rfl
theorem tick_one (t : TP.Tick) : ∀ u ∈ tickV t, u.oneCell' = true := by
  intro u hu
  simp [tickV] at hu
  rcases hu with rfl | rfl | rfl <;> rfl
set_option maxRecDepth 100000 in
set_option maxHeartbeats 4000000 in
theorem window1_any (g0 g1 g2 B : Nat) (b0 : g0 < B) (b1 : g1 < B) (b2 : g2 < B) (t : TP.Tick) (a b : Int) (v : Value) (rows : List (List Value)) (w : World) (h0 : CB w g0 3 #[.int .i64 a]) (h1 : CB w g1 3 #[.int .i64 b])
    (h2 : CB w g2 24 #[v]) (ho : OwnR w B 102 3 v rows) (hB : B ≤ w.heap.size) (hl : rows.length ≤ 1048576) :
    Calls Try.prog 79 #[tickA t, .pointer (some ⟨g0, 0, none⟩), .pointer (some ⟨g1, 0, none⟩), .pointer (some ⟨g2, 0, none⟩)] w fun e w' => e = .returned (.tuple #[]) ∧
      ∃ v', CB w' g2 24 #[v'] ∧ OwnR w' B 102 3 v' (if QM.within t.time a b = true then rows ++ [tickV t] else rows) ∧ (∀ B0 w0, Below B0 w0 w → B0 ≤ g2 → B0 ≤ B → Below B0 w0 w') ∧ ∀ g, g ≠ g2 → g < B → w'.heap[g]? = w.heap[g]? := by
  have C1 := Lib.hid (fun ww => within17_any t.time a b ww)
  have hX := CB.new w 102 (tickC t)
  have hY := h0.alloc (.cells (tickC t) 102)
  have hZ := h1.alloc (.cells (tickC t) 102)
  have hV := h2.alloc (.cells (tickC t) 102)
  have f0 := hX.cell 0
  have f1 := hX.cell 1
  have f2 := hX.cell 2
  have c0 := hY.cell 0
  have c1 := hZ.cell 0
  have c2 := hV.cell 0
  simp only [List.getElem?_toArray, List.getElem?_cons_zero, List.getElem?_cons_succ] at f0 f1 f2 c0 c1 c2
  have HO := Lib.hid (ho.alloc (.cells (tickC t) 102))
  have HA := Lib.hid (fun B0 w0 (h : Below B0 w0 w) (hb : B0 ≤ w.heap.size) => h.alloc hb (.cells (tickC t) 102))
  have HG := Lib.hid (fun g (hg : g < w.heap.size) => Below.heap_alloc w (.cells (tickC t) 102) g hg)
  have hsz : w.heap.size ≤ (w.alloc (.cells (tickC t) 102)).heap.size := by simp
  obtain ⟨wa, hwa⟩ : ∃ wa, w.alloc (.cells #[.int .i64 t.time, .int .i64 t.qty, .int .i64 t.price] 102) = wa := ⟨_, rfl⟩
  rw [hwa] at f0 f1 f2 c0 c1 c2 HO HA HG hV hsz
  have HV := Lib.hid hV
  have HSZ := Lib.hid hsz
  have H2 := Lib.hid h2
  have HW := Lib.hid (Nat.le_trans hB hsz)
  have HBW := Lib.hid hB
  clear hX hY hZ hV h0 h1 h2 ho hsz
  generalize QM.within t.time a b = q at *
  go_enter Try.func79, Try.ntmps79
  go_wp2_with fail
  refine (C1.out wa).mono ?_
  rintro e w2 ⟨rfl, rfl⟩
  cases q
  · go_wp2_with fail
    exact leave0 rfl rfl ⟨rfl, v, HV.out, by first | exact HO.out | (rw [if_neg (by decide)]; exact HO.out), fun B0 w0 h h2 h3 => HA.out B0 w0 h (Nat.le_trans h3 HBW.out), fun g _ hg => HG.out g (Nat.lt_of_lt_of_le hg HBW.out)⟩
  · go_wp2_with (at_builtin; refine wpList_pushR _ [.int .i64 t.time, .int .i64 t.qty, .int .i64 t.price] (tick_one t) B rows _ _ 24 102 3 24 _ Try.underlying24 info_tick rfl (by decide) rfl rfl rfl _ rfl rfl HO.out ?c1 ?c2 ?c3 ?_)
    case c1 => omega
    case c2 => simp only [maxLen]; omega
    case c3 => exact HW.out
    intro v2 w2 o2 b2 _ _
    have hV2 := HV.out.below b2 (by assumption)
    have k2 := hV2.cell 0
    have r2 := hV2.frozen 0
    simp only [List.getElem?_toArray, List.getElem?_cons_zero] at k2
    obtain ⟨m, g, cap, rfl⟩ : ∃ m g cap, v2 = .slice (some ⟨g, 0, none⟩) m cap := by
      rcases o2.form with ⟨_, he⟩ | ⟨g, cap, rfl, _⟩
      · simp at he
      · exact ⟨_, g, cap, rfl⟩
    have HZ : Hid (CB (w2.setCell ⟨g2, 0, none⟩ (.slice (some ⟨g, 0, none⟩) m cap)) g2 24 #[.slice (some ⟨g, 0, none⟩) m cap]) := Lib.hid (by
      have := hV2.set_ 0 (.slice (some ⟨g, 0, none⟩) m cap)
      simpa using this)
    have HO2 : Hid (OwnR (w2.setCell ⟨g2, 0, none⟩ (.slice (some ⟨g, 0, none⟩) m cap)) B 102 3 (.slice (some ⟨g, 0, none⟩) m cap) (rows ++ [tickV t])) :=
      Lib.hid (o2.kept fun j hj _ => Below.heap_setCell w2 ⟨g2, 0, none⟩ _ j (by show j ≠ g2; omega))
    have HB2 : Hid (∀ B0 w0, Below B0 w0 w → B0 ≤ g2 → B0 ≤ B → Below B0 w0 (w2.setCell ⟨g2, 0, none⟩ (.slice (some ⟨g, 0, none⟩) m cap))) :=
      Lib.hid (fun B0 w0 h h2 h3 => ((HA.out B0 w0 h (Nat.le_trans h3 HBW.out)).trans (b2.mono h3)).setCell (p := ⟨g2, 0, none⟩) h2 _)
    have HG2 : Hid (∀ j, j ≠ g2 → j < B → (w2.setCell ⟨g2, 0, none⟩ (.slice (some ⟨g, 0, none⟩) m cap)).heap[j]? = w.heap[j]?) :=
      Lib.hid (fun j h1 h2 => by rw [Below.heap_setCell w2 ⟨g2, 0, none⟩ _ j h1, b2.block j h2, HG.out j (Nat.lt_of_lt_of_le h2 HBW.out)])
    clear o2 b2 hV2 HV
    go_wp2_with fail
    exact leave0 rfl rfl ⟨rfl, _, HZ.out, by first | exact HO2.out | (rw [if_pos rfl]; exact HO2.out), HB2.out, HG2.out⟩
theorem load_row17 (w : World) (g : Nat) (p : Option Addr) (n c : Nat) (hb : CB w g 24 #[.slice p n c]) : (loadVar 24 ⟨g, 0, none⟩).run Try.prog w = .ok (.slice p n c) w := by
  have c := hb.cell 0
  simp only [List.getElem?_toArray, List.getElem?_cons_zero] at c
  have u3 := Try.underlying24
  have a3 := Try.isAgg24
  have z3 := Try.sizeOf24
  unfold loadVar
  go_simp
theorem results_row17 {fn : Func} {p : Tmp} (h : fn.results = #[.cell p 24]) (tmps : Array Value) (w : World) (g : Nat) (q : Option Addr) (n c : Nat)
    (hp : tmps.getD p undef = .pointer (some ⟨g, 0, none⟩)) (hb : CB w g 24 #[.slice q n c]) : (results fn tmps).run Try.prog w = .ok (.slice q n c) w := by
  rw [results_cell1 h, hp]
  simp only [asAddr, Sem.run_pure, Result.andThen_ok]
  exact load_row17 w g q n c hb
/-- the boxes of a window, and its query -/
abbrev box4 (w : World) (a b : Int) : World := (((w.alloc (.cells #[.int .i64 a] 3)).alloc (.cells #[.int .i64 b] 3)).alloc (.cells #[.slice none 0 0] 24)).alloc (.cells #[.func (.func 79) #[] #[.pointer (some ⟨w.heap.size, 0, none⟩), .pointer (some ⟨w.heap.size + 1, 0, none⟩), .pointer (some ⟨w.heap.size + 1 + 1, 0, none⟩)]] 135)
theorem box4_size (w : World) (a b : Int) : (box4 w a b).heap.size = w.heap.size + 4 := by simp [box4]
theorem box4_below (w : World) (a b : Int) : Below w.heap.size w (box4 w a b) := below_al (below_al (below_al (below_al (Below.refl _ _) _) _) _) _
theorem box4_0 (w : World) (a b : Int) : CB (box4 w a b) w.heap.size 3 #[.int .i64 a] := (((CB.new _ _ _).alloc _).alloc _).alloc _
theorem box4_1 (w : World) (a b : Int) : CB (box4 w a b) (w.heap.size + 1) 3 #[.int .i64 b] := ((CB.new1 _ _ _ _).alloc _).alloc _
theorem box4_2 (w : World) (a b : Int) : CB (box4 w a b) (w.heap.size + 1 + 1) 24 #[.slice none 0 0] := (CB.new2 _ _ _ _ _).alloc _
set_option maxRecDepth 100000 in
set_option maxHeartbeats 4000000 in
theorem window_any (A : Option Addr) (l : List TP.Tick) (n cap : Nat) (a b : Int) (hn : n = l.length) (hl : l.length ≤ 1048576) (w : World) (hI : Ticks w A l) :
    Calls Try.prog 42 #[.slice A n cap, .int .i64 a, .int .i64 b] w fun e w' => ∃ v, e = .returned v ∧ OwnR w' w.heap.size 102 3 v ((TP.win l a b).map tickV) ∧ Below w.heap.size w w' := by
  subst hn
  have hlen := hI.len
  have hmf : ∀ (fn : Fn) (first cap : Array Value) (w : World), (Instr.makeFunc fn first cap).run Try.prog w = .ok (.func fn first cap) w := fun _ _ _ _ => rfl
  have eg : ∀ args w, (callFunc 79 args).run Try.prog w = .ok (.enter 79 args) w := enters_of Try.func79 (by kernel_rfl) rfl
  have C := Lib.hid (run17_any 79 eg #[.pointer (some ⟨w.heap.size, 0, none⟩), .pointer (some ⟨w.heap.size + 1, 0, none⟩), .pointer (some ⟨w.heap.size + 1 + 1, 0, none⟩)]
    (fun k ww => Below w.heap.size w ww ∧ CB ww w.heap.size 3 #[.int .i64 a] ∧ CB ww (w.heap.size + 1) 3 #[.int .i64 b] ∧ w.heap.size + 5 ≤ ww.heap.size + 1 ∧
      ∃ v, CB ww (w.heap.size + 1 + 1) 24 #[v] ∧ OwnR ww (w.heap.size + 5) 102 3 v ((TP.winU l a b k).map tickV)) A l l.length cap rfl w (box4 w a b) hI
    (fun k ww h => h.1) (fun k ww o h => ⟨below_al h.1 o, h.2.1.alloc o, h.2.2.1.alloc o, by have := h.2.2.2.1; simp; omega, by
      obtain ⟨v, h1, h2⟩ := h.2.2.2.2
      exact ⟨v, h1.alloc o, h2.alloc o⟩⟩)
    ⟨box4_below _ _ _, box4_0 _ _ _, box4_1 _ _ _, by rw [box4_size]; omega, _, box4_2 _ _ _, OwnR.nil _ _ _ _⟩
    (fun k hk ww h hlt => by
      obtain ⟨hb, k0, k1, hs, v, k2, ho⟩ := h
      rw [box4_size] at hlt
      have hw := TP.winU_len l a b k (by omega)
      refine (window1_any w.heap.size (w.heap.size + 1) (w.heap.size + 1 + 1) (w.heap.size + 5) (by omega) (by omega) (by omega) (TP.tAt l k) a b v _ ww k0 k1 k2 ho (by omega) (by rw [List.length_map]; omega)).mono ?_
      rintro e w' ⟨rfl, v', m2, mo, mb, mg⟩
      have hb' := mb _ _ hb (by omega) (by omega)
      have hsz := (mb ww.heap.size ww (Below.refl _ _))
      refine ⟨rfl, ⟨hb', (mg _ (by omega) (by omega)).trans k0, (mg _ (by omega) (by omega)).trans k1, ?_, v', m2, ?_⟩, ?_⟩
      · have h4 : w'.heap[w.heap.size + 4]? = ww.heap[w.heap.size + 4]? := mg _ (by omega) (by omega)
        have h5 : ww.heap[w.heap.size + 4]? ≠ none := by rw [Array.getElem?_eq_getElem (by omega)]; simp
        rw [← h4] at h5
        rcases Nat.lt_or_ge (w.heap.size + 4) w'.heap.size with h | h
        · omega
        · rw [Array.getElem?_eq_none h] at h5; exact absurd rfl h5
      · cases hi : QM.within (TP.tAt l k).time a b
        · rw [hi] at mo; rw [TP.winU_out hk hi]; exact mo
        · rw [hi] at mo; rw [TP.winU_in hk hi, List.map_append]; exact mo
      · rw [box4_size]; exact mg _ (by omega) (by omega)))
  rw [TP.winU_all] at C
  generalize (TP.win l a b).map tickV = rows at *
  clear hI eg
  go_enter Try.func42, Try.ntmps42
  go_wp2_with fail
  refine C.out.mono ?_
  rintro e w2 ⟨rfl, hb, k0, k1, hs, v, k2, ho⟩
  obtain ⟨p, m, c, rfl⟩ : ∃ p m c, v = .slice p m c := by
    rcases ho.form with ⟨rfl, _⟩ | ⟨g, cap, rfl, _⟩
    · exact ⟨_, _, _, rfl⟩
    · exact ⟨_, _, _, rfl⟩
  have c2 := k2.cell 0
  have r2 := k2.frozen 0
  simp only [List.getElem?_toArray, List.getElem?_cons_zero] at c2
  have HZ : Hid (CB (w2.setCell ⟨w.heap.size + 1 + 1, 0, none⟩ (.slice p m c)) (w.heap.size + 1 + 1) 24 #[.slice p m c]) := Lib.hid (by
    have := k2.set_ 0 (.slice p m c)
    simpa using this)
  have HO : Hid (OwnR (w2.setCell ⟨w.heap.size + 1 + 1, 0, none⟩ (.slice p m c)) w.heap.size 102 3 (.slice p m c) rows) :=
    Lib.hid ((ho.kept fun j hj _ => Below.heap_setCell w2 ⟨w.heap.size + 1 + 1, 0, none⟩ _ j (by show j ≠ w.heap.size + 1 + 1; omega)).lower (by omega))
  have HB := Lib.hid (hb.setCell (p := ⟨w.heap.size + 1 + 1, 0, none⟩) (by show w.heap.size ≤ w.heap.size + 1 + 1; omega) (.slice p m c))
  clear hb k0 k1 k2 ho hs
  go_wp2_with fail
  (try simp only [Exit.inBlock, Exit.then])
  exact bodyPost_ret (results_row17 rfl _ _ _ _ _ _ rfl HZ.out) rfl ⟨_, rfl, HO.out, HB.out⟩
end Go.Proofs.Ytagmknahmkniaac
