/- Put together: SeriesMath, ProdCells, MemMath, MemCells. -/
import Derived.Test.YtagmknahmkniaacBun2
import Derived.Laws.Strings
import Derived.Test.YtagmknahmkniaacBun1
import Derived.ArgAppend
/- Layer 10's mathematics: series in order, sorted lists without repeats. -/
namespace EM
open Go
structure Ser where
  prod : ByteArray
  kind : Int
  expiry : Int
  strike : Int
def zero : Ser := ⟨⟨#[]⟩, 0, 0, 0⟩
def less (a b : Ser) : Bool := Op.bytesLess a.prod.toList b.prod.toList
def ord (a b : Int) : Int := if a < b then -1 else if b < a then 1 else 0
def cmp (a b : Ser) : Int :=
  if less a b = true then -1 else if less b a = true then 1 else if a.expiry ≠ b.expiry then ord a.expiry b.expiry else if a.kind ≠ b.kind then ord a.kind b.kind else ord a.strike b.strike
theorem toList_inj {s t : ByteArray} (h : s.toList = t.toList) : s = t := by
  rw [Go.ByteArray.toList_eq, Go.ByteArray.toList_eq] at h
  cases s; cases t
  simp only [ByteArray.mk.injEq]
  exact Array.toList_inj.1 h
theorem same_prod {a b : Ser} (h1 : less a b = false) (h2 : less b a = false) : a.prod = b.prod := by
  unfold less at h1 h2
  rcases OM.bl_tri a.prod.toList b.prod.toList with h | h | h
  · rw [h] at h1; cases h1
  · exact toList_inj h
  · rw [h] at h2; cases h2
theorem less_irrefl (a : Ser) : less a a = false := OM.bl_irrefl _
theorem less_asymm {a b : Ser} (h : less a b = true) : less b a = false := OM.bl_asymm h
theorem less_trans {a b c : Ser} (h1 : less a b = true) (h2 : less b c = true) : less a c = true := OM.bl_trans _ _ _ h1 h2
/-- a is ahead of b -/
def lt (a b : Ser) : Prop := less a b = true ∨ (a.prod = b.prod ∧ (a.expiry < b.expiry ∨ (a.expiry = b.expiry ∧ (a.kind < b.kind ∨ (a.kind = b.kind ∧ a.strike < b.strike)))))
theorem less_of_eq {a b c : Ser} (h : b.prod = c.prod) : less a b = less a c := by unfold less; rw [h]
theorem less_of_eq' {a b c : Ser} (h : a.prod = b.prod) : less a c = less b c := by unfold less; rw [h]
theorem less_eq_false {a b : Ser} (h : a.prod = b.prod) : less a b = false := by unfold less; rw [h]; exact OM.bl_irrefl _
theorem lt_irrefl (a : Ser) : ¬ lt a a := by
  unfold lt
  rw [less_irrefl]
  simp
theorem lt_trans {a b c : Ser} (h1 : lt a b) (h2 : lt b c) : lt a c := by
  unfold lt at *
  rcases h1 with h1 | ⟨e1, h1⟩
  · rcases h2 with h2 | ⟨e2, h2⟩
    · exact .inl (less_trans h1 h2)
    · left; rw [← less_of_eq e2]; exact h1
  · rcases h2 with h2 | ⟨e2, h2⟩
    · left; rw [less_of_eq' e1]; exact h2
    · right; exact ⟨e1.trans e2, by omega⟩
theorem lt_tri (a b : Ser) : lt a b ∨ a = b ∨ lt b a := by
  cases h1 : less a b
  · cases h2 : less b a
    · have e := same_prod h1 h2
      by_cases g1 : a.expiry = b.expiry
      · by_cases g2 : a.kind = b.kind
        · by_cases g3 : a.strike = b.strike
          · right; left
            cases a; cases b
            simp_all
          · rcases Int.lt_or_gt_of_ne g3 with g | g
            · exact .inl (.inr ⟨e, by omega⟩)
            · exact .inr (.inr (.inr ⟨e.symm, by omega⟩))
        · rcases Int.lt_or_gt_of_ne g2 with g | g
          · exact .inl (.inr ⟨e, by omega⟩)
          · exact .inr (.inr (.inr ⟨e.symm, by omega⟩))
      · rcases Int.lt_or_gt_of_ne g1 with g | g
        · exact .inl (.inr ⟨e, by omega⟩)
        · exact .inr (.inr (.inr ⟨e.symm, by omega⟩))
    · exact .inr (.inr (.inl h2))
  · exact .inl (.inl h1)
theorem lt_asymm {a b : Ser} (h : lt a b) : ¬ lt b a := fun g => lt_irrefl a (lt_trans h g)
theorem cmp_lt {a b : Ser} (h : lt a b) : cmp a b = -1 := by
  unfold cmp
  rcases h with h | ⟨e, h⟩
  · rw [if_pos h]
  · rw [if_neg (by rw [less_eq_false e]; simp), if_neg (by rw [less_eq_false e.symm]; simp)]
    by_cases g1 : a.expiry = b.expiry
    · rw [if_neg (by simp [g1])]
      by_cases g2 : a.kind = b.kind
      · rw [if_neg (by simp [g2])]
        unfold ord; rw [if_pos (by omega)]
      · rw [if_pos g2]; unfold ord; rw [if_pos (by omega)]
    · rw [if_pos g1]; unfold ord; rw [if_pos (by omega)]
theorem cmp_gt {a b : Ser} (h : lt b a) : cmp a b = 1 := by
  unfold cmp
  rcases h with h | ⟨e, h⟩
  · rw [if_neg (by rw [less_asymm h]; simp), if_pos h]
  · rw [if_neg (by rw [less_eq_false e.symm]; simp), if_neg (by rw [less_eq_false e]; simp)]
    by_cases g1 : a.expiry = b.expiry
    · rw [if_neg (by simp [g1])]
      by_cases g2 : a.kind = b.kind
      · rw [if_neg (by simp [g2])]
        unfold ord; rw [if_neg (by omega), if_pos (by omega)]
      · rw [if_pos g2]; unfold ord; rw [if_neg (by omega), if_pos (by omega)]
    · rw [if_pos g1]; unfold ord; rw [if_neg (by omega), if_pos (by omega)]
theorem cmp_self (a : Ser) : cmp a a = 0 := by
  unfold cmp
  rw [if_neg (by rw [less_irrefl]; simp), if_neg (by rw [less_irrefl]; simp), if_neg (by simp), if_neg (by simp)]
  unfold ord; simp
/-- which of the three -/
theorem cmp_cases (a b : Ser) : (cmp a b = -1 ∧ lt a b) ∨ (cmp a b = 0 ∧ a = b) ∨ (cmp a b = 1 ∧ lt b a) := by
  rcases lt_tri a b with h | rfl | h
  · exact .inl ⟨cmp_lt h, h⟩
  · exact .inr (.inl ⟨cmp_self a, rfl⟩)
  · exact .inr (.inr ⟨cmp_gt h, h⟩)
theorem cmp_zero {a b : Ser} : cmp a b = 0 ↔ a = b := by
  constructor
  · intro h
    rcases cmp_cases a b with ⟨g, _⟩ | ⟨_, g⟩ | ⟨g, _⟩
    · rw [g] at h; cases h
    · exact g
    · rw [g] at h; cases h
  · rintro rfl; exact cmp_self a
theorem cmp_neg {a b : Ser} : cmp a b = -1 ↔ lt a b := by
  constructor
  · intro h
    rcases cmp_cases a b with ⟨_, g⟩ | ⟨g, _⟩ | ⟨g, _⟩
    · exact g
    · rw [g] at h; cases h
    · rw [g] at h; cases h
  · exact cmp_lt
theorem cmp_anti (a b : Ser) : cmp b a = -cmp a b := by
  rcases cmp_cases a b with ⟨h, g⟩ | ⟨h, rfl⟩ | ⟨h, g⟩
  · rw [h, cmp_gt g]; rfl
  · rw [h]; rfl
  · rw [h, cmp_lt g]
theorem cmp_range (a b : Ser) : -1 ≤ cmp a b ∧ cmp a b ≤ 1 := by
  rcases cmp_cases a b with ⟨h, _⟩ | ⟨h, _⟩ | ⟨h, _⟩ <;> omega
/-- what is ahead of one that is ahead is ahead -/
theorem cmp_trans (a b c : Ser) : 0 < cmp a b ∨ 0 < cmp b c ∨ (cmp a c ≤ 0 ∧ (cmp a c < 0 ↔ (cmp a b < 0 ∨ cmp b c < 0))) := by
  rcases cmp_cases a b with ⟨h1, g1⟩ | ⟨h1, rfl⟩ | ⟨h1, g1⟩
  · rcases cmp_cases b c with ⟨h2, g2⟩ | ⟨h2, rfl⟩ | ⟨h2, g2⟩
    · right; right
      rw [cmp_lt (lt_trans g1 g2)]; omega
    · right; right; omega
    · right; left; omega
  · rcases cmp_cases a c with ⟨h2, g2⟩ | ⟨h2, rfl⟩ | ⟨h2, g2⟩
    · right; right; omega
    · right; right; omega
    · right; left; omega
  · left; omega

/-! sorted lists -/
def asc (l : List Ser) : Prop := l.Pairwise lt
/-- one more in its place, if it is not there -/
def put (s : Ser) : List Ser → List Ser
  | [] => [s]
  | x :: r => if cmp s x < 0 then s :: x :: r else if cmp s x = 0 then x :: r else x :: put s r
theorem put_mem (s : Ser) (l : List Ser) (y : Ser) : y ∈ put s l ↔ y = s ∨ y ∈ l := by
  induction l with
  | nil => simp [put]
  | cons x r ih =>
    unfold put
    by_cases h : cmp s x < 0
    · rw [if_pos h]; simp
    · rw [if_neg h]
      by_cases h0 : cmp s x = 0
      · rw [if_pos h0]
        have := cmp_zero.1 h0
        subst this
        simp
      · rw [if_neg h0, List.mem_cons, ih, List.mem_cons]
        constructor
        · rintro (h | h | h)
          · exact .inr (.inl h)
          · exact .inl h
          · exact .inr (.inr h)
        · rintro (h | h | h)
          · exact .inr (.inl h)
          · exact .inl h
          · exact .inr (.inr h)
theorem put_asc (s : Ser) {l : List Ser} (h : asc l) : asc (put s l) := by
  induction l with
  | nil => unfold put asc; simp
  | cons x r ih =>
    obtain ⟨h1, h2⟩ := List.pairwise_cons.1 h
    unfold put
    by_cases hc : cmp s x < 0
    · rw [if_pos hc]
      have hl : lt s x := cmp_neg.1 (by have := cmp_range s x; omega)
      refine List.pairwise_cons.2 ⟨fun y hy => ?_, h⟩
      rcases List.mem_cons.1 hy with rfl | hy
      · exact hl
      · exact lt_trans hl (h1 y hy)
    · rw [if_neg hc]
      by_cases h0 : cmp s x = 0
      · rw [if_pos h0]; exact h
      · rw [if_neg h0]
        refine List.pairwise_cons.2 ⟨fun y hy => ?_, ih h2⟩
        rcases (put_mem s r y).1 hy with rfl | hy
        · rcases cmp_cases y x with ⟨g, _⟩ | ⟨g, _⟩ | ⟨_, g⟩
          · omega
          · omega
          · exact g
        · exact h1 y hy
def sortL (l : List Ser) : List Ser := l.foldl (fun out s => put s out) []
theorem sort_snoc (l : List Ser) (s : Ser) : sortL (l ++ [s]) = put s (sortL l) := by simp [sortL]
theorem fold_asc (l : List Ser) : ∀ out, asc out → asc (l.foldl (fun out s => put s out) out) := by
  induction l with
  | nil => intro out h; exact h
  | cons s l ih => intro out h; exact ih _ (put_asc s h)
theorem fold_mem (l : List Ser) (y : Ser) : ∀ out, y ∈ l.foldl (fun out s => put s out) out ↔ y ∈ out ∨ y ∈ l := by
  induction l with
  | nil => intro out; simp
  | cons s l ih =>
    intro out
    rw [List.foldl_cons, ih, put_mem, List.mem_cons]
    constructor
    · rintro ((h | h) | h)
      · exact .inr (.inl h)
      · exact .inl h
      · exact .inr (.inr h)
    · rintro (h | h | h)
      · exact .inl (.inr h)
      · exact .inl (.inl h)
      · exact .inr h
theorem sort_asc (l : List Ser) : asc (sortL l) := fold_asc l [] List.Pairwise.nil
theorem sort_mem (l : List Ser) (y : Ser) : y ∈ sortL l ↔ y ∈ l := by
  unfold sortL; rw [fold_mem]; simp
/-- two that rise and hold the same are the same -/
theorem asc_unique : ∀ {l k : List Ser}, asc l → asc k → (∀ y, y ∈ l ↔ y ∈ k) → l = k := by
  intro l
  induction l with
  | nil =>
    intro k _ _ h
    cases k with
    | nil => rfl
    | cons y r => exact absurd ((h y).2 (by simp)) (by simp)
  | cons x r ih =>
    intro k hl hk h
    cases k with
    | nil => exact absurd ((h x).1 (by simp)) (by simp)
    | cons y s =>
      obtain ⟨l1, l2⟩ := List.pairwise_cons.1 hl
      obtain ⟨k1, k2⟩ := List.pairwise_cons.1 hk
      have e : x = y := by
        rcases List.mem_cons.1 ((h x).1 (by simp)) with g | g
        · exact g
        · rcases List.mem_cons.1 ((h y).2 (by simp)) with g' | g'
          · exact g'.symm
          · exact absurd (l1 y g') (lt_asymm (k1 x g))
      subst e
      congr 1
      refine ih l2 k2 fun z => ?_
      constructor
      · intro hz
        rcases List.mem_cons.1 ((h z).1 (List.mem_cons_of_mem _ hz)) with rfl | g
        · exact absurd (l1 z hz) (lt_irrefl z)
        · exact g
      · intro hz
        rcases List.mem_cons.1 ((h z).2 (List.mem_cons_of_mem _ hz)) with rfl | g
        · exact absurd (k1 z hz) (lt_irrefl z)
        · exact g
theorem sort_again (l : List Ser) : sortL (sortL l) = sortL l := asc_unique (sort_asc _) (sort_asc _) (fun y => sort_mem _ y)
theorem sort_of_asc {l k : List Ser} (h : asc k) (hm : ∀ y, y ∈ k ↔ y ∈ l) : k = sortL l := asc_unique h (sort_asc l) (fun y => by rw [hm, sort_mem])
theorem asc_at {l : List Ser} (h : asc l) {i : Nat} (h1 : 0 < i) (h2 : i < l.length) : lt l[i - 1] l[i] := List.pairwise_iff_getElem.1 h (i - 1) i (by omega) h2 (by omega)
end EM

/- Products and series in memory, over any program. -/
namespace Go.Recs
open Go.RowKit
set_option linter.unusedVariables false
def i64 (n : Int) : Prop := -9223372036854775808 ≤ n ∧ n ≤ 9223372036854775807
def prodV (p : QM.Prod) : List Value := [.string p.name, .int .i64 p.cur, .int .i64 p.mult, .int .i64 p.tick, .int .i64 p.low, .int .i64 p.high, .bool p.phys]
def prodQ (p : QM.Prod) : Prop := p.name.size ≤ maxLen ∧ i64 p.cur ∧ i64 p.mult ∧ i64 p.tick ∧ i64 p.low ∧ i64 p.high
def prodL : List Leaf := [.str, .int .i64, .int .i64, .int .i64, .int .i64, .int .i64, .bool]
def serV (s : EM.Ser) : List Value := [.string s.prod, .int .i64 s.kind, .int .i64 s.expiry, .int .i64 s.strike]
def serQ (s : EM.Ser) : Prop := s.prod.size ≤ maxLen ∧ i64 s.kind ∧ i64 s.expiry ∧ i64 s.strike
def serL : List Leaf := [.str, .int .i64, .int .i64, .int .i64]
theorem okAll_cons {l : Leaf} {ls : List Leaf} {r : List Value} (h : okAll (l :: ls) r) : ∃ c r', r = c :: r' ∧ l.ok c ∧ okAll ls r' := by
  cases r with
  | nil => exact h.elim
  | cons c r => exact ⟨c, r, rfl, h.1, h.2⟩
theorem okAll_nil {r : List Value} (h : okAll [] r) : r = [] := by
  cases r with
  | nil => rfl
  | cons c r => exact h.elim
theorem prod_row (r : List Value) (h : okAll prodL r) : ∃ p : QM.Prod, r = prodV p ∧ prodQ p := by
  obtain ⟨c0, r0, rfl, ⟨s, rfl, hs⟩, g0⟩ := okAll_cons h
  obtain ⟨c1, r1, rfl, ⟨n1, rfl, h1⟩, g1⟩ := okAll_cons g0
  obtain ⟨c2, r2, rfl, ⟨n2, rfl, h2⟩, g2⟩ := okAll_cons g1
  obtain ⟨c3, r3, rfl, ⟨n3, rfl, h3⟩, g3⟩ := okAll_cons g2
  obtain ⟨c4, r4, rfl, ⟨n4, rfl, h4⟩, g4⟩ := okAll_cons g3
  obtain ⟨c5, r5, rfl, ⟨n5, rfl, h5⟩, g5⟩ := okAll_cons g4
  obtain ⟨c6, r6, rfl, ⟨b, rfl⟩, g6⟩ := okAll_cons g5
  rw [okAll_nil g6]
  exact ⟨⟨s, n1, n2, n3, n4, n5, b⟩, rfl, hs, bounds_i64 h1, bounds_i64 h2, bounds_i64 h3, bounds_i64 h4, bounds_i64 h5⟩
theorem ser_row (r : List Value) (h : okAll serL r) : ∃ s : EM.Ser, r = serV s ∧ serQ s := by
  obtain ⟨c0, r0, rfl, ⟨s, rfl, hs⟩, g0⟩ := okAll_cons h
  obtain ⟨c1, r1, rfl, ⟨n1, rfl, h1⟩, g1⟩ := okAll_cons g0
  obtain ⟨c2, r2, rfl, ⟨n2, rfl, h2⟩, g2⟩ := okAll_cons g1
  obtain ⟨c3, r3, rfl, ⟨n3, rfl, h3⟩, g3⟩ := okAll_cons g2
  rw [okAll_nil g3]
  exact ⟨⟨s, n1, n2, n3⟩, rfl, hs, bounds_i64 h1, bounds_i64 h2, bounds_i64 h3⟩
abbrev Prods := TR prodV prodQ 7
abbrev Sers := TR serV serQ 4
theorem prods_get {w : World} {A : Option Addr} {l : List QM.Prod} (h : Prods w A l) {k : Nat} (hk : k < l.length) :
    ∃ b off, ∃ p : QM.Prod, A = some ⟨b, off, none⟩ ∧ b < w.heap.size ∧ Hid (QM.pAt l k = p) ∧ prodQ p ∧ w.cell? ⟨b, off + k * 7, none⟩ = some (.string p.name) ∧ w.cell? ⟨b, off + k * 7 + 1, none⟩ = some (.int .i64 p.cur) ∧
      w.cell? ⟨b, off + k * 7 + 2, none⟩ = some (.int .i64 p.mult) ∧ w.cell? ⟨b, off + k * 7 + 3, none⟩ = some (.int .i64 p.tick) ∧ w.cell? ⟨b, off + k * 7 + 4, none⟩ = some (.int .i64 p.low) ∧
      w.cell? ⟨b, off + k * 7 + 5, none⟩ = some (.int .i64 p.high) ∧ w.cell? ⟨b, off + k * 7 + 6, none⟩ = some (.bool p.phys) := by
  obtain ⟨b, off, rfl, hb, hq, hc⟩ := h.at_ hk
  refine ⟨b, off, l[k], rfl, hb, Lib.hid (by simp [QM.pAt, List.getD, hk]), hq, hc 0 (by omega), hc 1 (by omega), hc 2 (by omega), hc 3 (by omega), hc 4 (by omega), hc 5 (by omega), hc 6 (by omega)⟩
def sAt (l : List EM.Ser) (k : Nat) : EM.Ser := l.getD k EM.zero
theorem sers_get {w : World} {A : Option Addr} {l : List EM.Ser} (h : Sers w A l) {k : Nat} (hk : k < l.length) :
    ∃ b off, ∃ s : EM.Ser, A = some ⟨b, off, none⟩ ∧ b < w.heap.size ∧ Hid (sAt l k = s) ∧ serQ s ∧ w.cell? ⟨b, off + k * 4, none⟩ = some (.string s.prod) ∧ w.cell? ⟨b, off + k * 4 + 1, none⟩ = some (.int .i64 s.kind) ∧
      w.cell? ⟨b, off + k * 4 + 2, none⟩ = some (.int .i64 s.expiry) ∧ w.cell? ⟨b, off + k * 4 + 3, none⟩ = some (.int .i64 s.strike) := by
  obtain ⟨b, off, rfl, hb, hq, hc⟩ := h.at_ hk
  refine ⟨b, off, l[k], rfl, hb, Lib.hid (by simp [sAt, List.getD, hk]), hq, hc 0 (by omega), hc 1 (by omega), hc 2 (by omega), hc 3 (by omega)⟩
end Go.Recs

/- Layer 11's mathematics: members and their accounts. -/
namespace MM
open Go
set_option linter.unusedSimpArgs false
structure Ac where
  name : ByteArray
  kind : Int
structure Mem where
  name : ByteArray
  status : Int
  accs : List Ac
def nil : ByteArray := ⟨#[]⟩
def okN (s : ByteArray) : Bool := WM.name s.data.toList
def lt (s t : ByteArray) : Bool := Op.bytesLess s.toList t.toList
def eq (s t : ByteArray) : Bool := s.toList == t.toList
def le (s t : ByteArray) : Bool := lt s t || eq s t
theorem eq_iff {s t : ByteArray} : eq s t = true ↔ s = t := by
  unfold eq
  constructor
  · intro h; exact EM.toList_inj (by simpa using h)
  · rintro rfl; simp
theorem eq_false {s t : ByteArray} : eq s t = false ↔ s ≠ t := by rw [Bool.eq_false_iff, ne_eq, eq_iff]
theorem lt_tri (s t : ByteArray) : lt s t = true ∨ s = t ∨ lt t s = true := by
  rcases OM.bl_tri s.toList t.toList with h | h | h
  · exact .inl h
  · exact .inr (.inl (EM.toList_inj h))
  · exact .inr (.inr h)
theorem lt_irrefl (s : ByteArray) : lt s s = false := OM.bl_irrefl _
theorem lt_trans {s t u : ByteArray} (h1 : lt s t = true) (h2 : lt t u = true) : lt s u = true := OM.bl_trans _ _ _ h1 h2
theorem lt_asymm {s t : ByteArray} (h : lt s t = true) : lt t s = false := OM.bl_asymm h
theorem lt_of_le {s t : ByteArray} (h : le s t = false) : lt t s = true := by
  unfold le at h
  rw [Bool.or_eq_false_iff] at h
  rcases lt_tri s t with g | g | g
  · rw [h.1] at g; cases g
  · rw [eq_iff.2 g] at h; cases h.2
  · exact g
theorem le_of_lt {s t : ByteArray} (h : lt t s = true) : le s t = false := by
  unfold le
  rw [lt_asymm h]
  have : eq s t = false := eq_false.2 (by rintro rfl; rw [lt_irrefl] at h; cases h)
  rw [this]; rfl
theorem gt_eq (s t : ByteArray) : (!Op.bytesLess s.toList t.toList && !(s.toList == t.toList)) = lt t s := by
  have e : (!Op.bytesLess s.toList t.toList && !(s.toList == t.toList)) = !(le s t) := by unfold le lt eq; rw [Bool.not_or]
  rw [e]
  cases h : le s t
  · rw [lt_of_le h]; rfl
  · cases g : lt t s
    · rfl
    · rw [le_of_lt g] at h; cases h
theorem lt_ne {s t : ByteArray} (h : lt s t = true) : eq s t = false ∧ eq t s = false := by
  refine ⟨eq_false.2 ?_, eq_false.2 ?_⟩ <;> (rintro rfl; rw [lt_irrefl] at h; cases h)
theorem ok_le {s : ByteArray} (h : okN s = true) : le s nil = false := by
  apply le_of_lt
  rcases lt_tri nil s with g | g | g
  · exact g
  · subst g; revert h; decide
  · unfold lt at g
    rw [Go.ByteArray.toList_eq nil] at g
    cases e : s.toList <;> simp [nil, e, Op.bytesLess] at g

def kindOk (k : Int) : Bool := decide (1 ≤ k) && decide (k ≤ 3)
def statOk (k : Int) : Bool := decide (1 ≤ k) && decide (k ≤ 4)
def accE : ByteArray → List Ac → Int
  | _, [] => 0
  | p, a :: r => if okN a.name = false then 10 else if le a.name p = true then 12 else if kindOk a.kind = false then 21 else accE a.name r
def memE : ByteArray → List Mem → Int
  | _, [] => 0
  | p, m :: r => if okN m.name = false then 10 else if le m.name p = true then 12 else if statOk m.status = false then 13 else if 16 < m.accs.length then 8 else if accE nil m.accs ≠ 0 then accE nil m.accs else memE m.name r
def checkE (l : List Mem) : Int := if 32 < l.length then 8 else memE nil l
theorem acc_name {p : ByteArray} {a : Ac} {r : List Ac} (h : okN a.name = false) : accE p (a :: r) = 10 := by simp [accE, h]
theorem acc_le {p : ByteArray} {a : Ac} {r : List Ac} (h : okN a.name = true) (h2 : le a.name p = true) : accE p (a :: r) = 12 := by simp [accE, h, h2]
theorem acc_kind {p : ByteArray} {a : Ac} {r : List Ac} (h : okN a.name = true) (h2 : le a.name p = false) (h3 : kindOk a.kind = false) : accE p (a :: r) = 21 := by simp [accE, h, h2, h3]
theorem acc_next {p : ByteArray} {a : Ac} {r : List Ac} (h : okN a.name = true) (h2 : le a.name p = false) (h3 : kindOk a.kind = true) : accE p (a :: r) = accE a.name r := by simp [accE, h, h2, h3]
theorem mem_name {p : ByteArray} {m : Mem} {r : List Mem} (h : okN m.name = false) : memE p (m :: r) = 10 := by simp [memE, h]
theorem mem_le {p : ByteArray} {m : Mem} {r : List Mem} (h : okN m.name = true) (h2 : le m.name p = true) : memE p (m :: r) = 12 := by simp [memE, h, h2]
theorem mem_stat {p : ByteArray} {m : Mem} {r : List Mem} (h : okN m.name = true) (h2 : le m.name p = false) (h3 : statOk m.status = false) : memE p (m :: r) = 13 := by simp [memE, h, h2, h3]
theorem mem_long {p : ByteArray} {m : Mem} {r : List Mem} (h : okN m.name = true) (h2 : le m.name p = false) (h3 : statOk m.status = true) (h4 : 16 < m.accs.length) : memE p (m :: r) = 8 := by simp [memE, h, h2, h3, h4]
theorem mem_accs {p : ByteArray} {m : Mem} {r : List Mem} (h : okN m.name = true) (h2 : le m.name p = false) (h3 : statOk m.status = true) (h4 : ¬ 16 < m.accs.length) (h5 : accE nil m.accs ≠ 0) : memE p (m :: r) = accE nil m.accs := by simp [memE, h, h2, h3, h4, h5]
theorem mem_next {p : ByteArray} {m : Mem} {r : List Mem} (h : okN m.name = true) (h2 : le m.name p = false) (h3 : statOk m.status = true) (h4 : ¬ 16 < m.accs.length) (h5 : accE nil m.accs = 0) : memE p (m :: r) = memE m.name r := by simp [memE, h, h2, h3, h4, h5]
theorem acc_ok {p : ByteArray} {a : Ac} {r : List Ac} (h : accE p (a :: r) = 0) : okN a.name = true ∧ le a.name p = false ∧ kindOk a.kind = true ∧ accE a.name r = 0 := by
  unfold accE at h
  split at h
  · omega
  split at h
  · omega
  split at h
  · omega
  · simp_all
theorem mem_ok {p : ByteArray} {m : Mem} {r : List Mem} (h : memE p (m :: r) = 0) : okN m.name = true ∧ le m.name p = false ∧ statOk m.status = true ∧ ¬ 16 < m.accs.length ∧ accE nil m.accs = 0 ∧ memE m.name r = 0 := by
  unfold memE at h
  split at h
  · omega
  split at h
  · omega
  split at h
  · omega
  split at h
  · omega
  split at h
  · omega
  · simp_all

/-- x ahead of the first that p says yes to, at the end if there is none -/
def ins {α : Type} (p : α → Bool) (x : α) : List α → List α
  | [] => [x]
  | a :: r => if p a = true then x :: a :: r else a :: ins p x r
theorem ins_len {α : Type} (p : α → Bool) (x : α) (l : List α) : (ins p x l).length = l.length + 1 := by
  induction l with
  | nil => rfl
  | cons a r ih => unfold ins; split <;> simp [ih]
theorem ins_mem {α : Type} (p : α → Bool) (x y : α) (l : List α) : y ∈ ins p x l ↔ y = x ∨ y ∈ l := by
  induction l with
  | nil => simp [ins]
  | cons a r ih =>
    unfold ins
    split
    · simp
    · simp only [List.mem_cons, ih]
      constructor
      · rintro (h | h | h)
        · exact .inr (.inl h)
        · exact .inl h
        · exact .inr (.inr h)
      · rintro (h | h | h)
        · exact .inr (.inl h)
        · exact .inl h
        · exact .inr (.inr h)
/-- where: the first that p says yes to, else the end -/
def at_ {α : Type} (p : α → Bool) (l : List α) : Nat := (l.findIdx? p).getD l.length
theorem at_le {α : Type} (p : α → Bool) (l : List α) : at_ p l ≤ l.length := by
  unfold at_
  cases h : l.findIdx? p with
  | none => simp
  | some i =>
    have := (List.findIdx?_eq_some_iff_getElem.1 h).1
    simp; omega
theorem ins_at {α : Type} (p : α → Bool) (x : α) (l : List α) : ins p x l = l.take (at_ p l) ++ x :: l.drop (at_ p l) := by
  induction l with
  | nil => simp [ins, at_]
  | cons a r ih =>
    unfold ins
    cases h : p a
    · have e : at_ p (a :: r) = at_ p r + 1 := by
        unfold at_
        rw [List.findIdx?_cons, h]
        cases r.findIdx? p <;> simp
      rw [e]
      simp [ih]
    · have e : at_ p (a :: r) = 0 := by
        unfold at_
        rw [List.findIdx?_cons, h]
        simp
      rw [e]
      simp
theorem find_some {α : Type} {p : α → Bool} {l : List α} {k : Nat} (hk : k < l.length) (hj : ∀ j (h : j < l.length), j < k → p l[j] = false) (h : p l[k] = true) : l.findIdx? p = some k := by
  rw [List.findIdx?_eq_some_iff_getElem]
  refine ⟨hk, h, fun j hji => ?_⟩
  rw [hj j (by omega) hji]; decide
theorem find_none {α : Type} {p : α → Bool} {l : List α} (h : ∀ j (h : j < l.length), p l[j] = false) : l.findIdx? p = none := by
  rw [List.findIdx?_eq_none_iff]
  intro x hx
  obtain ⟨j, hj, rfl⟩ := List.mem_iff_getElem.1 hx
  exact h j hj

def pl (l : List Mem) (n : ByteArray) : Option Nat := l.findIdx? (fun m => eq m.name n)
def pa (l : List Ac) (n : ByteArray) : Option Nat := l.findIdx? (fun a => eq a.name n)
theorem pl_some {l : List Mem} {n : ByteArray} {i : Nat} (h : pl l n = some i) : ∃ hi : i < l.length, l[i].name = n := by
  obtain ⟨h1, h2, _⟩ := List.findIdx?_eq_some_iff_getElem.1 h
  exact ⟨h1, eq_iff.1 h2⟩
theorem pa_some {l : List Ac} {n : ByteArray} {i : Nat} (h : pa l n = some i) : ∃ hi : i < l.length, l[i].name = n := by
  obtain ⟨h1, h2, _⟩ := List.findIdx?_eq_some_iff_getElem.1 h
  exact ⟨h1, eq_iff.1 h2⟩
theorem pl_none {l : List Mem} {n : ByteArray} (h : pl l n = none) : ∀ m ∈ l, eq m.name n = false := List.findIdx?_eq_none_iff.1 h
theorem pa_none {l : List Ac} {n : ByteArray} (h : pa l n = none) : ∀ a ∈ l, eq a.name n = false := List.findIdx?_eq_none_iff.1 h

def insM (n : ByteArray) (l : List Mem) : List Mem := ins (fun m => lt n m.name) ⟨n, 1, []⟩ l
def insA (a : Ac) (l : List Ac) : List Ac := ins (fun b => lt a.name b.name) a l
def addE (l : List Mem) (n : ByteArray) : Int :=
  if checkE l ≠ 0 then checkE l else if okN n = false then 10 else if (pl l n).isSome = true then 12 else if 32 ≤ l.length then 8 else 0
def addL (l : List Mem) (n : ByteArray) : List Mem := if addE l n = 0 then insM n l else []
def mAt (l : List Mem) (i : Nat) : Mem := l.getD i ⟨nil, 0, []⟩
theorem mAt_get {l : List Mem} {i : Nat} (h : i < l.length) : mAt l i = l[i] := by simp [mAt, List.getD, h]
/-- the error of one more account among a member's -/
def opE (l : List Ac) (n : ByteArray) (kind : Int) : Int :=
  if okN n = false then 10 else if kindOk kind = false then 21 else if (pa l n).isSome = true then 12 else if 16 ≤ l.length then 8 else 0
def openE (l : List Mem) (n a : ByteArray) (kind : Int) : Int :=
  if checkE l ≠ 0 then checkE l else match pl l n with
    | none => 20
    | some i => if (mAt l i).status ≠ 1 then 20 else opE (mAt l i).accs a kind
def openL (l : List Mem) (n a : ByteArray) (kind : Int) : List Mem :=
  if openE l n a kind = 0 then match pl l n with
    | none => []
    | some i => l.set i { mAt l i with accs := insA ⟨a, kind⟩ (mAt l i).accs }
  else []
def leads (f t : Int) : Bool := if f = 1 then (t == 2 || t == 3 || t == 4) else if f = 2 then (t == 1 || t == 3) else false
def statE (l : List Mem) (n : ByteArray) (s : Int) : Int :=
  if checkE l ≠ 0 then checkE l else match pl l n with
    | none => 20
    | some i => if leads (mAt l i).status s = true then 0 else 13
def statL (l : List Mem) (n : ByteArray) (s : Int) : List Mem :=
  if statE l n s = 0 then match pl l n with
    | none => []
    | some i => l.set i { mAt l i with status := s }
  else []
def allows (s act : Int) : Bool := if s = 1 then true else if s = 2 then (act != 1 && act != 3) else if s = 3 then (decide (4 ≤ act) && decide (act ≤ 8)) else false
def mayE (l : List Mem) (n a : ByteArray) (act : Int) : Int :=
  match pl l n with
    | none => 20
    | some i => match pa (mAt l i).accs a with
      | none => 21
      | some _ => if allows (mAt l i).status act = true then 0 else 13
def accsL (l : List Mem) : List (ByteArray × ByteArray) := l.flatMap fun m => m.accs.map fun a => (m.name, a.name)

theorem acc_asc : ∀ {p : ByteArray} {l : List Ac}, accE p l = 0 → (∀ a ∈ l, lt p a.name = true) ∧ l.Pairwise (fun a b => lt a.name b.name = true) := by
  intro p l
  induction l generalizing p with
  | nil => intro _; simp
  | cons a r ih =>
    intro h
    obtain ⟨_, h2, _, h4⟩ := acc_ok h
    obtain ⟨g1, g2⟩ := ih h4
    have hp := lt_of_le h2
    refine ⟨?_, List.pairwise_cons.2 ⟨g1, g2⟩⟩
    intro b hb
    rcases List.mem_cons.1 hb with rfl | hb
    · exact hp
    · exact lt_trans hp (g1 b hb)
theorem mem_asc : ∀ {p : ByteArray} {l : List Mem}, memE p l = 0 → (∀ a ∈ l, lt p a.name = true) ∧ l.Pairwise (fun a b => lt a.name b.name = true) := by
  intro p l
  induction l generalizing p with
  | nil => intro _; simp
  | cons a r ih =>
    intro h
    obtain ⟨_, h2, _, _, _, h4⟩ := mem_ok h
    obtain ⟨g1, g2⟩ := ih h4
    have hp := lt_of_le h2
    refine ⟨?_, List.pairwise_cons.2 ⟨g1, g2⟩⟩
    intro b hb
    rcases List.mem_cons.1 hb with rfl | hb
    · exact hp
    · exact lt_trans hp (g1 b hb)
/-- in a list that may be, a member is found by its name -/
theorem find_mem {p : ByteArray} {l : List Mem} (h : memE p l = 0) {m : Mem} (hm : m ∈ l) : ∃ i, pl l m.name = some i ∧ ∃ hi : i < l.length, l[i] = m := by
  obtain ⟨i, hi, rfl⟩ := List.mem_iff_getElem.1 hm
  refine ⟨i, find_some hi ?_ (eq_iff.2 rfl), hi, rfl⟩
  intro j hj hji
  exact (lt_ne (List.pairwise_iff_getElem.1 (mem_asc h).2 j i hj hi hji)).1
theorem acc_ins {a : Ac} : ∀ {p : ByteArray} {l : List Ac}, accE p l = 0 → okN a.name = true → le a.name p = false → kindOk a.kind = true → (∀ b ∈ l, eq b.name a.name = false) → accE p (insA a l) = 0 := by
  intro p l
  induction l generalizing p with
  | nil => intro _ h1 h2 h3 _; exact acc_next h1 h2 h3
  | cons b r ih =>
    intro h h1 h2 h3 h4
    obtain ⟨g1, g2, g3, g4⟩ := acc_ok h
    unfold insA ins
    cases e : lt a.name b.name
    · rw [if_neg (by simp), acc_next g1 g2 g3]
      refine ih g4 h1 ?_ h3 (fun c hc => h4 c (List.mem_cons_of_mem _ hc))
      apply le_of_lt
      rcases lt_tri a.name b.name with g | g | g
      · rw [e] at g; cases g
      · have := h4 b (by simp)
        rw [← g] at this
        exact absurd rfl (eq_false.1 this)
      · exact g
    · rw [if_pos rfl, acc_next h1 h2 h3, acc_next g1 (le_of_lt e) g3]
      exact g4
theorem mem_ins {n : ByteArray} : ∀ {p : ByteArray} {l : List Mem}, memE p l = 0 → okN n = true → le n p = false → (∀ b ∈ l, eq b.name n = false) → memE p (insM n l) = 0 := by
  intro p l
  induction l generalizing p with
  | nil => intro _ h1 h2 _; exact mem_next (m := ⟨n, 1, []⟩) h1 h2 rfl (by simp) rfl
  | cons b r ih =>
    intro h h1 h2 h4
    obtain ⟨g1, g2, g3, g4, g5, g6⟩ := mem_ok h
    unfold insM ins
    cases e : lt n b.name
    · rw [if_neg (by simp), mem_next g1 g2 g3 g4 g5]
      refine ih g6 h1 ?_ (fun c hc => h4 c (List.mem_cons_of_mem _ hc))
      apply le_of_lt
      rcases lt_tri n b.name with g | g | g
      · rw [e] at g; cases g
      · have := h4 b (by simp)
        rw [← g] at this
        exact absurd rfl (eq_false.1 this)
      · exact g
    · rw [if_pos rfl, mem_next (m := ⟨n, 1, []⟩) h1 h2 rfl (by simp) rfl, mem_next g1 (le_of_lt e) g3 g4 g5]
      exact g6
theorem mem_set {m' : Mem} : ∀ {p : ByteArray} {l : List Mem} {i : Nat} (hi : i < l.length), memE p l = 0 → m'.name = l[i].name → statOk m'.status = true → ¬ 16 < m'.accs.length → accE nil m'.accs = 0 → memE p (l.set i m') = 0 := by
  intro p l
  induction l generalizing p with
  | nil => intro i hi; simp at hi
  | cons b r ih =>
    intro i hi h hn h1 h2 h3
    obtain ⟨g1, g2, g3, g4, g5, g6⟩ := mem_ok h
    cases i with
    | zero =>
      simp only [List.getElem_cons_zero] at hn
      rw [List.set_cons_zero, mem_next (by rw [hn]; exact g1) (by rw [hn]; exact g2) h1 h2 h3, hn]
      exact g6
    | succ i =>
      rw [List.set_cons_succ, mem_next g1 g2 g3 g4 g5]
      exact ih (i := i) (by simpa using hi) g6 (by simpa using hn) h1 h2 h3
theorem mem_at : ∀ {p : ByteArray} {l : List Mem} {i : Nat} (hi : i < l.length), memE p l = 0 → okN l[i].name = true ∧ statOk l[i].status = true ∧ ¬ 16 < l[i].accs.length ∧ accE nil l[i].accs = 0 := by
  intro p l
  induction l generalizing p with
  | nil => intro i hi; simp at hi
  | cons b r ih =>
    intro i hi h
    obtain ⟨g1, g2, g3, g4, g5, g6⟩ := mem_ok h
    cases i with
    | zero => exact ⟨g1, g3, g4, g5⟩
    | succ i => exact ih (i := i) (by simpa using hi) g6
theorem check_mem {l : List Mem} (h : checkE l = 0) : l.length ≤ 32 ∧ memE nil l = 0 := by
  unfold checkE at h
  split at h
  · omega
  · exact ⟨by omega, h⟩
theorem mem_check {l : List Mem} (h1 : l.length ≤ 32) (h : memE nil l = 0) : checkE l = 0 := by
  unfold checkE
  rw [if_neg (by omega)]; exact h
theorem add_ok {l : List Mem} {n : ByteArray} (h : addE l n = 0) : checkE l = 0 ∧ okN n = true ∧ pl l n = none ∧ l.length < 32 := by
  unfold addE at h
  split at h
  · omega
  split at h
  · omega
  split at h
  · omega
  split at h
  · omega
  · simp_all
theorem add_check {l : List Mem} {n : ByteArray} (h : addE l n = 0) : checkE (addL l n) = 0 := by
  obtain ⟨h1, h2, h3, h4⟩ := add_ok h
  unfold addL
  rw [if_pos h]
  refine mem_check (by unfold insM; rw [ins_len]; omega) (mem_ins (check_mem h1).2 h2 (ok_le h2) (pl_none h3))
theorem op_ok {l : List Ac} {n : ByteArray} {k : Int} (h : opE l n k = 0) : okN n = true ∧ kindOk k = true ∧ pa l n = none ∧ l.length < 16 := by
  unfold opE at h
  split at h
  · omega
  split at h
  · omega
  split at h
  · omega
  split at h
  · omega
  · simp_all
theorem open_ok {l : List Mem} {n a : ByteArray} {k : Int} (h : openE l n a k = 0) : checkE l = 0 ∧ ∃ i, pl l n = some i ∧ i < l.length ∧ (mAt l i).status = 1 ∧ opE (mAt l i).accs a k = 0 := by
  unfold openE at h
  split at h
  · omega
  rename_i hc
  split at h
  · omega
  rename_i i hi
  split at h
  · omega
  · exact ⟨by simpa using hc, i, hi, (pl_some hi).1, by simp_all, h⟩
theorem open_list {l : List Mem} {n a : ByteArray} {k : Int} {i : Nat} (h : openE l n a k = 0) (hi : pl l n = some i) : openL l n a k = l.set i { mAt l i with accs := insA ⟨a, k⟩ (mAt l i).accs } := by
  unfold openL
  rw [if_pos h, hi]
theorem open_check {l : List Mem} {n a : ByteArray} {k : Int} (h : openE l n a k = 0) : checkE (openL l n a k) = 0 := by
  obtain ⟨h1, i, h2, h3, h4, h5⟩ := open_ok h
  obtain ⟨h6, h7, h8, h9⟩ := op_ok h5
  obtain ⟨c1, c2⟩ := check_mem h1
  obtain ⟨m1, m2, m3, m4⟩ := mem_at h3 c2
  rw [open_list h h2]
  rw [mAt_get h3] at *
  exact mem_check (by simpa using c1) (mem_set h3 c2 rfl m2 (by show ¬ 16 < (insA _ _).length; unfold insA; rw [ins_len]; omega) (acc_ins m4 h6 (ok_le h6) h7 (pa_none h8)))
theorem stat_ok {l : List Mem} {n : ByteArray} {s : Int} (h : statE l n s = 0) : checkE l = 0 ∧ ∃ i, pl l n = some i ∧ i < l.length ∧ leads (mAt l i).status s = true := by
  unfold statE at h
  split at h
  · omega
  rename_i hc
  split at h
  · omega
  rename_i i hi
  split at h
  · rename_i hl
    exact ⟨by simpa using hc, i, hi, (pl_some hi).1, hl⟩
  · omega
theorem stat_list {l : List Mem} {n : ByteArray} {s : Int} {i : Nat} (h : statE l n s = 0) (hi : pl l n = some i) : statL l n s = l.set i { mAt l i with status := s } := by
  unfold statL
  rw [if_pos h, hi]
theorem leads_ok {f t : Int} (h : leads f t = true) : statOk t = true ∧ f < 3 := by
  unfold leads at h
  split at h
  · simp only [Bool.or_eq_true, beq_iff_eq] at h
    unfold statOk
    simp only [Bool.and_eq_true, decide_eq_true_eq]
    omega
  split at h
  · simp only [Bool.or_eq_true, beq_iff_eq] at h
    unfold statOk
    simp only [Bool.and_eq_true, decide_eq_true_eq]
    omega
  · cases h
theorem stat_check {l : List Mem} {n : ByteArray} {s : Int} (h : statE l n s = 0) : checkE (statL l n s) = 0 := by
  obtain ⟨h1, i, h2, h3, h4⟩ := stat_ok h
  obtain ⟨c1, c2⟩ := check_mem h1
  obtain ⟨m1, m2, m3, m4⟩ := mem_at h3 c2
  rw [stat_list h h2]
  rw [mAt_get h3] at *
  exact mem_check (by simpa using c1) (mem_set h3 c2 rfl (leads_ok h4).1 m3 m4)
/-- what a turn makes of a list, and what stays -/
def Kept (l l' : List Mem) (n : ByteArray) : Prop := checkE l' = 0 ∧ ∀ k (hk : k < l.length), ∃ i, pl l' l[k].name = some i ∧ ∃ hi : i < l'.length, (l'[i] = l[k] ∨ (l[k].name = n ∧ (3 ≤ l[k].status → l'[i].status = l[k].status) ∧ l[k].accs.length ≤ l'[i].accs.length))
theorem kept_add {l : List Mem} {n : ByteArray} (h : addE l n = 0) : Kept l (addL l n) n := by
  have hc := add_check h
  refine ⟨hc, fun k hk => ?_⟩
  have hm : l[k] ∈ addL l n := by
    unfold addL; rw [if_pos h]
    exact (ins_mem _ _ _ _).2 (.inr (List.getElem_mem hk))
  obtain ⟨i, h1, hi, h2⟩ := find_mem (check_mem hc).2 hm
  exact ⟨i, h1, hi, .inl h2⟩
theorem kept_set {l : List Mem} {n : ByteArray} {i : Nat} {m' : Mem} (hi : i < l.length) (hp : pl l n = some i) (hn : m'.name = l[i].name) (hs : 3 ≤ l[i].status → m'.status = l[i].status) (ha : l[i].accs.length ≤ m'.accs.length) (hc : checkE (l.set i m') = 0) : Kept l (l.set i m') n := by
  refine ⟨hc, fun k hk => ?_⟩
  by_cases e : k = i
  · subst e
    have hm : m' ∈ l.set k m' := List.mem_iff_getElem.2 ⟨k, by simpa using hk, by simp⟩
    obtain ⟨i', h1, hi', h2⟩ := find_mem (check_mem hc).2 hm
    rw [hn] at h1
    exact ⟨i', h1, hi', .inr ⟨(pl_some hp).2, by rw [h2]; exact hs, by rw [h2]; exact ha⟩⟩
  · have hm : l[k] ∈ l.set i m' := List.mem_iff_getElem.2 ⟨k, by simpa using hk, by rw [List.getElem_set]; rw [if_neg (fun h => e h.symm)]⟩
    obtain ⟨i', h1, hi', h2⟩ := find_mem (check_mem hc).2 hm
    exact ⟨i', h1, hi', .inl h2⟩
theorem kept_open {l : List Mem} {n a : ByteArray} {k : Int} (h : openE l n a k = 0) : Kept l (openL l n a k) n := by
  have hc := open_check h
  obtain ⟨h1, i, h2, h3, h4, h5⟩ := open_ok h
  rw [open_list h h2] at hc ⊢
  rw [mAt_get h3] at *
  exact kept_set h3 h2 rfl (fun _ => rfl) (by show _ ≤ (insA _ _).length; unfold insA; rw [ins_len]; omega) hc
theorem kept_stat {l : List Mem} {n : ByteArray} {s : Int} (h : statE l n s = 0) : Kept l (statL l n s) n := by
  have hc := stat_check h
  obtain ⟨h1, i, h2, h3, h4⟩ := stat_ok h
  rw [stat_list h h2] at hc ⊢
  rw [mAt_get h3] at *
  exact kept_set h3 h2 rfl (fun g => by have := (leads_ok h4).2; omega) (Nat.le_refl _) hc
end MM
namespace MM
theorem mem_one (p : ByteArray) (m : Mem) (r : List Mem) : memE p (m :: r) = if memE p [m] ≠ 0 then memE p [m] else memE m.name r := by
  by_cases h1 : okN m.name = false
  · rw [mem_name h1, mem_name h1]; rfl
  have h1' : okN m.name = true := by simpa using h1
  by_cases h2 : le m.name p = true
  · rw [mem_le h1' h2, mem_le h1' h2]; rfl
  have h2' : le m.name p = false := by simpa using h2
  by_cases h3 : statOk m.status = false
  · rw [mem_stat h1' h2' h3, mem_stat h1' h2' h3]; rfl
  have h3' : statOk m.status = true := by simpa using h3
  by_cases h4 : 16 < m.accs.length
  · rw [mem_long h1' h2' h3' h4, mem_long h1' h2' h3' h4]; rfl
  by_cases h5 : accE nil m.accs = 0
  · rw [mem_next h1' h2' h3' h4 h5, mem_next h1' h2' h3' h4 h5]; rfl
  · rw [mem_accs h1' h2' h3' h4 h5, mem_accs h1' h2' h3' h4 h5, if_pos h5]
theorem one_accs {p : ByteArray} {m : Mem} (h : okN m.name = true) (h2 : le m.name p = false) (h3 : statOk m.status = true) (h4 : ¬ 16 < m.accs.length) : memE p [m] = accE nil m.accs := by
  by_cases h5 : accE nil m.accs = 0
  · rw [mem_next h h2 h3 h4 h5, h5]; rfl
  · rw [mem_accs h h2 h3 h4 h5]
end MM

/- Members and their accounts in memory, over any program; rows of records with slices inside. -/
namespace Go.Recs
open Go.ChangeShapes Go.WideShapes Go.RowKit Go.Deep
set_option linter.unusedVariables false
section
variable {H : Type} {enc : TypeId × Value → H} {P : Program} {w : World} {base : Nat} {spare : Nat → Bool} {held : Bool}
/-- a slice whose records are read by R -/
theorem open_rows {t e : TypeId} {sz : Nat} {R : List Value → DataW H → Prop} {fuel : Nat} {cs : List Value} {x : DataW H × List MemPlace} (ht : P.underlying t = some (.slice e)) (hsz : P.cellsOf e = sz) (h0 : 0 < sz)
    (hR : ∀ k cs y, cs.length = sz → DataW.trod enc P w base spare held k e cs = some y → R cs y.1)
    (hf : DataW.trod enc P w base spare held fuel t cs = some x) :
    ∃ A cap rows, cs = [.slice A (List.length rows) cap] ∧ Recs w A sz rows ∧ rows.length ≤ cap ∧ ∃ ds sp, (x.1 = .nil ∧ rows = [] ∨ x.1 = .slice ds sp) ∧ ds.length = rows.length ∧ ∀ i, i < rows.length → R (rows.getD i []) (ds.getD i .nil) := by
  rcases open_slice ht hf with ⟨rfl, rfl⟩ | ⟨a, len, cap, m, k, D, Pl, rfl, hb, hl, hm, hmm, rfl, hrow⟩
  · exact ⟨none, 0, [], rfl, Recs.nil _ _ _, by simp, [], [], .inl ⟨rfl, rfl⟩, rfl, fun i hi => by simp at hi⟩
  · have hlm : len ≤ m := by rw [hmm]; split <;> omega
    rw [hsz] at hrow
    obtain ⟨Q, hQ⟩ := choose_lt (α := List Value) (n := len) (p := fun i cs => w.cells? base (a.add (i * sz)) sz = some cs ∧ R cs (D i)) (fun i hi => by
      obtain ⟨cs', h1, h2⟩ := hrow i (by omega)
      obtain ⟨_, hlen, _⟩ := World.cells?_some h1
      exact ⟨cs', h1, hR k cs' _ (by omega) h2⟩)
    have hlen : ((List.range len).map Q).length = len := by simp
    refine ⟨some a, cap, (List.range len).map Q, by rw [hlen], ?_, by rw [hlen]; exact hl, _, _, .inr rfl, by simp, ?_⟩
    · refine ⟨by rw [hlen]; omega, ?_, ?_⟩
      · intro q hq
        obtain ⟨i, hi, rfl⟩ := List.mem_map.1 hq
        obtain ⟨_, hli, _⟩ := World.cells?_some (hQ i (List.mem_range.1 hi)).1
        exact hli
      · rcases Nat.eq_zero_or_pos len with hz | hz
        · subst hz; exact .inl (by simp)
        · obtain ⟨b, off, spot⟩ := a
          obtain ⟨_, hl0, hc0⟩ := World.cells?_some (hQ 0 hz).1
          have hcc := hc0 0 (by omega)
          rw [List.getElem?_eq_getElem (show 0 < (Q 0).length by omega)] at hcc
          have hspot : spot = none := by simpa [Addr.add] using World.cell?_spot hcc
          subst hspot
          rw [Deep.add_add, add_at] at hcc
          refine .inr ⟨b, off, rfl, World.block_lt_of_cell? _ _ hcc, fun i j hi hj => ?_⟩
          have hi' : i < len := by rw [hlen] at hi; exact hi
          obtain ⟨_, hli, hci⟩ := World.cells?_some (hQ i hi').1
          have := hci j (by omega)
          rw [Deep.add_add, add_at] at this
          rw [this]
          simp [List.getD, hi']
    · intro i hi
      rw [hlen] at hi
      simpa [List.getD, hi] using (hQ i hi).2
end

def accV (a : MM.Ac) : List Value := [.string a.name, .int .i64 a.kind]
def accQ (a : MM.Ac) : Prop := a.name.size ≤ maxLen ∧ i64 a.kind
def accL : List Leaf := [.str, .int .i64]
theorem acc_row (r : List Value) (h : okAll accL r) : ∃ a : MM.Ac, r = accV a ∧ accQ a := by
  obtain ⟨c0, r0, rfl, ⟨s, rfl, hs⟩, g0⟩ := okAll_cons h
  obtain ⟨c1, r1, rfl, ⟨n1, rfl, h1⟩, g1⟩ := okAll_cons g0
  rw [okAll_nil g1]
  exact ⟨⟨s, n1⟩, rfl, hs, bounds_i64 h1⟩
abbrev Accs := TR accV accQ 2
def aAt (l : List MM.Ac) (k : Nat) : MM.Ac := l.getD k ⟨MM.nil, 0⟩
theorem aAt_get {l : List MM.Ac} {k : Nat} (h : k < l.length) : aAt l k = l[k] := by simp [aAt, List.getD, h]
theorem accs_get {w : World} {A : Option Addr} {l : List MM.Ac} (h : Accs w A l) {k : Nat} (hk : k < l.length) :
    ∃ b off, ∃ a : MM.Ac, A = some ⟨b, off, none⟩ ∧ b < w.heap.size ∧ Hid (aAt l k = a) ∧ accQ a ∧ w.cell? ⟨b, off + k * 2, none⟩ = some (.string a.name) ∧ w.cell? ⟨b, off + k * 2 + 1, none⟩ = some (.int .i64 a.kind) := by
  obtain ⟨b, off, rfl, hb, hq, hc⟩ := h.at_ hk
  exact ⟨b, off, l[k], rfl, hb, Lib.hid (aAt_get hk), hq, hc 0 (by omega), hc 1 (by omega)⟩

/-- a member's cells: where its accounts lie -/
structure MRow where
  m : MM.Mem
  A : Option Addr
  cap : Nat
def mrowV (r : MRow) : List Value := [.string r.m.name, .int .i64 r.m.status, .slice r.A r.m.accs.length r.cap]
def mrowQ (w : World) (r : MRow) : Prop := r.m.name.size ≤ maxLen ∧ i64 r.m.status ∧ Accs w r.A r.m.accs ∧ r.m.accs.length ≤ r.cap
theorem mrowQ.below {w w' : World} {r : MRow} (h : mrowQ w r) (hb : Below w.heap.size w w') : mrowQ w' r := ⟨h.1, h.2.1, h.2.2.1.below hb, h.2.2.2⟩
def MRows (w : World) (A : Option Addr) (rows : List MRow) : Prop := Recs w A 3 (rows.map mrowV) ∧ ∀ r ∈ rows, mrowQ w r
theorem MRows.below {w w' : World} {A : Option Addr} {rows : List MRow} (h : MRows w A rows) (hb : Below w.heap.size w w') : MRows w' A rows := ⟨h.1.below hb, fun r hr => (h.2 r hr).below hb⟩
/-- the slice at A holds the members l -/
def Mems (w : World) (A : Option Addr) (l : List MM.Mem) : Prop := ∃ rows : List MRow, rows.map MRow.m = l ∧ MRows w A rows
section
variable {w w' : World} {A : Option Addr} {l : List MM.Mem}
theorem Mems.below (h : Mems w A l) (hb : Below w.heap.size w w') : Mems w' A l := by
  obtain ⟨rows, e, hr⟩ := h
  exact ⟨rows, e, hr.below hb⟩
theorem Mems.nil (w : World) (A : Option Addr) : Mems w A [] := ⟨[], rfl, Recs.nil _ _ _, by simp⟩
theorem Mems.drewN (h : Mems w A l) (n : Nat) : Mems (w.drewN n) A l := h
theorem Mems.len (h : Mems w A l) : l.length ≤ 9223372036854775807 := by
  obtain ⟨rows, rfl, hr, _⟩ := h
  have := hr.len
  rw [List.length_map] at this ⊢
  exact this
/-- member k: where it lies, and its cells -/
theorem Mems.get (h : Mems w A l) {k : Nat} (hk : k < l.length) :
    ∃ b off A' cap', ∃ m : MM.Mem, A = some ⟨b, off, none⟩ ∧ b < w.heap.size ∧ Hid (MM.mAt l k = m) ∧ m.name.size ≤ maxLen ∧ i64 m.status ∧ Accs w A' m.accs ∧ m.accs.length ≤ cap' ∧
      w.cell? ⟨b, off + k * 3, none⟩ = some (.string m.name) ∧ w.cell? ⟨b, off + k * 3 + 1, none⟩ = some (.int .i64 m.status) ∧ w.cell? ⟨b, off + k * 3 + 2, none⟩ = some (.slice A' m.accs.length cap') := by
  obtain ⟨rows, rfl, hr, hq⟩ := h
  rw [List.length_map] at hk
  obtain ⟨b, off, rfl, hb, hc⟩ := hr.get (k := k) (by simpa using hk)
  have e : (rows.map mrowV).getD k [] = mrowV rows[k] := by simp [List.getD, hk]
  rw [e] at hc
  obtain ⟨q1, q2, q3, q4⟩ := hq rows[k] (List.getElem_mem hk)
  have e2 : MM.mAt (rows.map MRow.m) k = rows[k].m := by rw [MM.mAt_get (by simpa using hk)]; simp
  refine ⟨b, off, rows[k].A, rows[k].cap, rows[k].m, rfl, hb, Lib.hid e2, q1, q2, q3, q4, hc 0 (by omega), ?_, ?_⟩
  · rw [Nat.add_assoc]; exact hc 1 (by omega)
  · rw [Nat.add_assoc]; exact hc 2 (by omega)
end

/-- 's = append(l[:i:i], x)': the row is full, so a new one is made -/
theorem wpList_growR {P : Program} {ops : Array Oper} {rest : List Oper} {o : Oper} {a : Act} {Q : Exit → Act → World → Prop} (w : World) (x : List Value) (hx1 : ∀ u ∈ x, u.oneCell' = true) (rows : List (List Value)) (s y : Operand) (ts t : TypeId) (sz bytes : Nat) (z : Value)
    (hu : P.underlying ts = some (.slice t)) (hinfo : (P.info? t).map (fun i => (i.zero, i.size, i.bytes)) = some (some z, sz, bytes)) (hz : z.cells.size = sz) (h0 : 0 < sz) (hxl : x.length = sz)
    (hgd : o.guard = none) (ho : o.op = .call { callee := .builtin .append, args := #[s, y], argTypes := #[ts, ts] })
    (A : Option Addr) (n cap : Nat) (hn : n = rows.length) (hcap : cap = n) (hs : a.eval s = .slice A n cap) (hA : Recs w A sz rows) (hx : a.eval y = .slice (some ⟨w.heap.size, 0, none⟩) 1 1) (hl : (rows.length + 1) * bytes ≤ 140737488355328) (hm : rows.length + 1 ≤ maxLen)
    (h : ∀ v' w', OwnR w' w.heap.size t sz v' (rows ++ [x]) → Below w.heap.size w w' → wpList P ops Q rest (a.put o.dst v') w') :
    wpList P ops Q (o :: rest) a (w.alloc (.cells x.toArray t)) := by
  subst hn hcap
  obtain ⟨i0, hi, hz0, hz1, hz2⟩ := info_parts hinfo
  have hb0 : Below w.heap.size w (w.alloc (.cells x.toArray t)) := (Below.refl _ _).alloc (Nat.le_refl _) _
  have hA2 := hA.below hb0
  refine wpList_append_grows (w.alloc (.cells x.toArray t)) hgd s y ts ho t i0 z sz bytes hu hi hz0 hz1 hz2 hz h0 A rows.length rows.length rows.flatten hs ?_ (flat_len hA.2.1) ?_ ⟨w.heap.size, 0, none⟩ 1 1 x hx (by omega) ?_ hx1 (by omega) hm hl ?_
  · intro e
    rcases hA.2.2 with g | ⟨b, off, g, _⟩
    · rw [g]; simp
    · rw [e] at g; cases g
  · rintro b rfl j u hj
    rcases hA2.2.2 with e | ⟨b', off', e, hb, hcell⟩
    · subst e; simp at hj
    · injection e with e
      subst e
      have hlt : j < rows.flatten.length := by
        rcases Nat.lt_or_ge j rows.flatten.length with h | h
        · exact h
        · rw [List.getElem?_eq_none h] at hj; cases hj
      rw [flat_len hA.2.1] at hlt
      have hi' : j / sz < rows.length := Nat.div_lt_of_lt_mul (by rw [Nat.mul_comm]; exact hlt)
      have hj' : j % sz < sz := Nat.mod_lt _ h0
      have ej : j / sz * sz + j % sz = j := by rw [Nat.mul_comm]; exact Nat.div_add_mod j sz
      have e := flat_at hA.2.1 (j / sz) (j % sz) hi' hj'
      have e2 := hcell (j / sz) (j % sz) hi' hj'
      rw [ej] at e e2
      rw [add_at, e2, ← e, hj]
  · intro j u hj
    rw [add_at, Nat.zero_add]
    have hlt : j < x.length := by
      rcases Nat.lt_or_ge j x.length with g | g
      · exact g
      · rw [List.getElem?_eq_none g] at hj; cases hj
    have e : x.toArray[j]? = some u := by simpa using hj
    simp [e]
  · intro v' w' h1 h2
    have hr : ∀ r ∈ rows ++ [x], r.length = sz := by
      intro r hr
      rcases List.mem_append.1 hr with hr | hr
      · exact hA.2.1 r hr
      · rw [List.mem_singleton.1 hr]; exact hxl
    have ho : OwnR w' (w.heap.size + 1) t sz v' (rows ++ [x]) := ⟨hr, by simpa using h1⟩
    refine h v' w' (ho.lower (by omega)) (hb0.trans ((Below.refl _ _).grown h2 (by simp) (fun k hk => by cases hk)))

/-- an own row of records: one cell of one record written -/
theorem flat_set {sz : Nat} (h0 : 0 < sz) : ∀ {rows : List (List Value)} (i j : Nat) (u : Value), (∀ r ∈ rows, r.length = sz) → i < rows.length → j < sz → rows.flatten.set (i * sz + j) u = (rows.set i ((rows.getD i []).set j u)).flatten := by
  intro rows
  induction rows with
  | nil => intro i j u _ hi; simp at hi
  | cons r rows ih =>
    intro i j u hr hi hj
    have hl := hr r (by simp)
    cases i with
    | zero =>
      rw [Nat.zero_mul, Nat.zero_add, List.flatten_cons, List.set_append_left _ _ (by omega)]
      simp [List.getD]
    | succ i =>
      rw [Nat.succ_mul, List.flatten_cons, List.set_append_right _ _ (by omega), show i * sz + sz + j - r.length = i * sz + j by omega,
        ih i j u (fun q hq => hr q (by simp [hq])) (by simpa using hi) hj]
      simp [List.getD]
theorem OwnR.set_ {w : World} {B g n cap : Nat} {t : TypeId} {sz : Nat} {rows : List (List Value)} (h : OwnR w B t sz (.slice (some ⟨g, 0, none⟩) n cap) rows) (h0 : 0 < sz) {i j : Nat} (hi : i < rows.length) (hj : j < sz) (u : Value) :
    OwnR (w.setCell ⟨g, i * sz + j, none⟩ u) B t sz (.slice (some ⟨g, 0, none⟩) n cap) (rows.set i ((rows.getD i []).set j u)) := by
  have hn : n = rows.length := by
    rcases h.2.2 with ⟨h0, _⟩ | ⟨g', cap', cur, h0, _⟩
    · cases h0
    · injection h0
  subst hn
  have := (World.ownsRow.stored h.2 (i * sz + j) u).1
  refine ⟨?_, ?_⟩
  · intro r hr
    rcases List.mem_or_eq_of_mem_set hr with hr | rfl
    · exact h.1 r hr
    · rw [List.length_set]
      have : rows.getD i [] ∈ rows := by simp [List.getD, hi]
      exact h.1 _ this
  · rw [List.length_set, ← flat_set h0 i j u h.1 hi hj]
    exact this
theorem OwnR.frozen {w : World} {B g n cap : Nat} {t : TypeId} {sz : Nat} {rows : List (List Value)} (h : OwnR w B t sz (.slice (some ⟨g, 0, none⟩) n cap) rows) (i : Nat) : w.frozen? ⟨g, i, none⟩ = false := by
  have hn : n = rows.length := by
    rcases h.2.2 with ⟨h0, _⟩ | ⟨g', cap', cur, h0, _⟩
    · cases h0
    · injection h0
  subst hn
  exact World.ownsRow.frozenAt h.2 i
theorem OwnR.far {w : World} {B g n cap : Nat} {t : TypeId} {sz : Nat} {rows : List (List Value)} (h : OwnR w B t sz (.slice (some ⟨g, 0, none⟩) n cap) rows) {p : Addr} (hp : g ≠ p.block) (u : Value) :
    OwnR (w.setCell p u) B t sz (.slice (some ⟨g, 0, none⟩) n cap) rows := by
  refine ⟨h.1, h.2.1, ?_⟩
  rcases h.2.2 with ⟨h0, _⟩ | ⟨g', cap', cur, h0, hB, hh, r⟩
  · cases h0
  · refine .inr ⟨g', cap', cur, h0, hB, ?_, r⟩
    have : g' = g := by injection h0 with h1; injection h1 with h1; injection h1 with h1; exact h1.symm
    subst this
    rw [Below.heap_setCell w p u _ hp]; exact hh
end Go.Recs
