/- Put together: SeriesMath, ProdCells, TapeMath, TapCells, ListMath, Base, Own, Made. -/
import Derived.Test.YtaegapcccboinaaBun2
import Derived.Laws.Strings
import Derived.Test.YtaegapcccboinaaBun1
import Derived.Below
import Derived.Test.YtaegapcccboinaaRows
import Derived.WalkKit
import Derived.WalkSpells
import Derived.WalkLawsBesides
import Derived.IntWalk
import Derived.Lib.Hide
import Derived.Deep.QuietTactic
import Derived.BigQuiet
import Derived.Deep.Draws
import Derived.OpenShut
import Derived.Maps.AppendAt
/- Layer 10's mathematics: series in order, sorted lists without repeats. -/
namespace EM
open Go
structure Ser where
  prod : ByteArray
  kind : Int
  expiry : Int
  strike : Int
def zero : Ser := ⟨⟨#[]⟩, 0, 0, 0⟩
def less (a b : Ser) : Bool := Op.bytesLess a.prod.toList b.prod.toList
def ord (a b : Int) : Int := if a < b then -1 else if b < a then 1 else 0
def cmp (a b : Ser) : Int :=
  if less a b = true then -1 else if less b a = true then 1 else if a.expiry ≠ b.expiry then ord a.expiry b.expiry else if a.kind ≠ b.kind then ord a.kind b.kind else ord a.strike b.strike
theorem toList_inj {s t : ByteArray} (h : s.toList = t.toList) : s = t := by
  rw [Go.ByteArray.toList_eq, Go.ByteArray.toList_eq] at h
  cases s; cases t
  simp only [ByteArray.mk.injEq]
  exact Array.toList_inj.1 h
theorem same_prod {a b : Ser} (h1 : less a b = false) (h2 : less b a = false) : a.prod = b.prod := by
  unfold less at h1 h2
  rcases OM.bl_tri a.prod.toList b.prod.toList with h | h | h
  · rw [h] at h1; cases h1
  · exact toList_inj h
  · rw [h] at h2; cases h2
theorem less_irrefl (a : Ser) : less a a = false := OM.bl_irrefl _
theorem less_asymm {a b : Ser} (h : less a b = true) : less b a = false := OM.bl_asymm h
theorem less_trans {a b c : Ser} (h1 : less a b = true) (h2 : less b c = true) : less a c = true := OM.bl_trans _ _ _ h1 h2
/-- a is ahead of b -/
def lt (a b : Ser) : Prop := less a b = true ∨ (a.prod = b.prod ∧ (a.expiry < b.expiry ∨ (a.expiry = b.expiry ∧ (a.kind < b.kind ∨ (a.kind = b.kind ∧ a.strike < b.strike)))))
theorem less_of_eq {a b c : Ser} (h : b.prod = c.prod) : less a b = less a c := by unfold less; rw [h]
theorem less_of_eq' {a b c : Ser} (h : a.prod = b.prod) : less a c = less b c := by unfold less; rw [h]
theorem less_eq_false {a b : Ser} (h : a.prod = b.prod) : less a b = false := by unfold less; rw [h]; exact OM.bl_irrefl _
theorem lt_irrefl (a : Ser) : ¬ lt a a := by
  unfold lt
  rw [less_irrefl]
  simp
theorem lt_trans {a b c : Ser} (h1 : lt a b) (h2 : lt b c) : lt a c := by
  unfold lt at *
  rcases h1 with h1 | ⟨e1, h1⟩
  · rcases h2 with h2 | ⟨e2, h2⟩
    · exact .inl (less_trans h1 h2)
    · left; rw [← less_of_eq e2]; exact h1
  · rcases h2 with h2 | ⟨e2, h2⟩
    · left; rw [less_of_eq' e1]; exact h2
    · right; exact ⟨e1.trans e2, by omega⟩
theorem lt_tri (a b : Ser) : lt a b ∨ a = b ∨ lt b a := by
  cases h1 : less a b
  · cases h2 : less b a
    · have e := same_prod h1 h2
      by_cases g1 : a.expiry = b.expiry
      · by_cases g2 : a.kind = b.kind
        · by_cases g3 : a.strike = b.strike
          · right; left
            cases a; cases b
            simp_all
          · rcases Int.lt_or_gt_of_ne g3 with g | g
            · exact .inl (.inr ⟨e, by omega⟩)
            · exact .inr (.inr (.inr ⟨e.symm, by omega⟩))
        · rcases Int.lt_or_gt_of_ne g2 with g | g
          · exact .inl (.inr ⟨e, by omega⟩)
          · exact .inr (.inr (.inr ⟨e.symm, by omega⟩))
      · rcases Int.lt_or_gt_of_ne g1 with g | g
        · exact .inl (.inr ⟨e, by omega⟩)
        · exact .inr (.inr (.inr ⟨e.symm, by omega⟩))
    · exact .inr (.inr (.inl h2))
  · exact .inl (.inl h1)
theorem lt_asymm {a b : Ser} (h : lt a b) : ¬ lt b a := fun g => lt_irrefl a (lt_trans h g)
theorem cmp_lt {a b : Ser} (h : lt a b) : cmp a b = -1 := by
  unfold cmp
  rcases h with h | ⟨e, h⟩
  · rw [if_pos h]
  · rw [if_neg (by rw [less_eq_false e]; simp), if_neg (by rw [less_eq_false e.symm]; simp)]
    by_cases g1 : a.expiry = b.expiry
    · rw [if_neg (by simp [g1])]
      by_cases g2 : a.kind = b.kind
      · rw [if_neg (by simp [g2])]
        unfold ord; rw [if_pos (by omega)]
      · rw [if_pos g2]; unfold ord; rw [if_pos (by omega)]
    · rw [if_pos g1]; unfold ord; rw [if_pos (by omega)]
theorem cmp_gt {a b : Ser} (h : lt b a) : cmp a b = 1 := by
  unfold cmp
  rcases h with h | ⟨e, h⟩
  · rw [if_neg (by rw [less_asymm h]; simp), if_pos h]
  · rw [if_neg (by rw [less_eq_false e.symm]; simp), if_neg (by rw [less_eq_false e]; simp)]
    by_cases g1 : a.expiry = b.expiry
    · rw [if_neg (by simp [g1])]
      by_cases g2 : a.kind = b.kind
      · rw [if_neg (by simp [g2])]
        unfold ord; rw [if_neg (by omega), if_pos (by omega)]
      · rw [if_pos g2]; unfold ord; rw [if_neg (by omega), if_pos (by omega)]
    · rw [if_pos g1]; unfold ord; rw [if_neg (by omega), if_pos (by omega)]
theorem cmp_self (a : Ser) : cmp a a = 0 := by
  unfold cmp
  rw [if_neg (by rw [less_irrefl]; simp), if_neg (by rw [less_irrefl]; simp), if_neg (by simp), if_neg (by simp)]
  unfold ord; simp
/-- which of the three -/
theorem cmp_cases (a b : Ser) : (cmp a b = -1 ∧ lt a b) ∨ (cmp a b = 0 ∧ a = b) ∨ (cmp a b = 1 ∧ lt b a) := by
  rcases lt_tri a b with h | rfl | h
  · exact .inl ⟨cmp_lt h, h⟩
  · exact .inr (.inl ⟨cmp_self a, rfl⟩)
  · exact .inr (.inr ⟨cmp_gt h, h⟩)
theorem cmp_zero {a b : Ser} : cmp a b = 0 ↔ a = b := by
  constructor
  · intro h
    rcases cmp_cases a b with ⟨g, _⟩ | ⟨_, g⟩ | ⟨g, _⟩
    · rw [g] at h; cases h
    · exact g
    · rw [g] at h; cases h
  · rintro rfl; exact cmp_self a
theorem cmp_neg {a b : Ser} : cmp a b = -1 ↔ lt a b := by
  constructor
  · intro h
    rcases cmp_cases a b with ⟨_, g⟩ | ⟨g, _⟩ | ⟨g, _⟩
    · exact g
    · rw [g] at h; cases h
    · rw [g] at h; cases h
  · exact cmp_lt
theorem cmp_anti (a b : Ser) : cmp b a = -cmp a b := by
  rcases cmp_cases a b with ⟨h, g⟩ | ⟨h, rfl⟩ | ⟨h, g⟩
  · rw [h, cmp_gt g]; rfl
  · rw [h]; rfl
  · rw [h, cmp_lt g]
theorem cmp_range (a b : Ser) : -1 ≤ cmp a b ∧ cmp a b ≤ 1 := by
  rcases cmp_cases a b with ⟨h, _⟩ | ⟨h, _⟩ | ⟨h, _⟩ <;> omega
/-- what is ahead of one that is ahead is ahead -/
theorem cmp_trans (a b c : Ser) : 0 < cmp a b ∨ 0 < cmp b c ∨ (cmp a c ≤ 0 ∧ (cmp a c < 0 ↔ (cmp a b < 0 ∨ cmp b c < 0))) := by
  rcases cmp_cases a b with ⟨h1, g1⟩ | ⟨h1, rfl⟩ | ⟨h1, g1⟩
  · rcases cmp_cases b c with ⟨h2, g2⟩ | ⟨h2, rfl⟩ | ⟨h2, g2⟩
    · right; right
      rw [cmp_lt (lt_trans g1 g2)]; omega
    · right; right; omega
    · right; left; omega
  · rcases cmp_cases a c with ⟨h2, g2⟩ | ⟨h2, rfl⟩ | ⟨h2, g2⟩
    · right; right; omega
    · right; right; omega
    · right; left; omega
  · left; omega

/-! sorted lists -/
def asc (l : List Ser) : Prop := l.Pairwise lt
/-- one more in its place, if it is not there -/
def put (s : Ser) : List Ser → List Ser
  | [] => [s]
  | x :: r => if cmp s x < 0 then s :: x :: r else if cmp s x = 0 then x :: r else x :: put s r
theorem put_mem (s : Ser) (l : List Ser) (y : Ser) : y ∈ put s l ↔ y = s ∨ y ∈ l := by
  induction l with
  | nil => simp [put]
  | cons x r ih =>
    unfold put
    by_cases h : cmp s x < 0
    · rw [if_pos h]; simp
    · rw [if_neg h]
      by_cases h0 : cmp s x = 0
      · rw [if_pos h0]
        have := cmp_zero.1 h0
        subst this
        simp
      · rw [if_neg h0, List.mem_cons, ih, List.mem_cons]
        constructor
        · rintro (h | h | h)
          · exact .inr (.inl h)
          · exact .inl h
          · exact .inr (.inr h)
        · rintro (h | h | h)
          · exact .inr (.inl h)
          · exact .inl h
          · exact .inr (.inr h)
theorem put_asc (s : Ser) {l : List Ser} (h : asc l) : asc (put s l) := by
  induction l with
  | nil => unfold put asc; simp
  | cons x r ih =>
    obtain ⟨h1, h2⟩ := List.pairwise_cons.1 h
    unfold put
    by_cases hc : cmp s x < 0
    · rw [if_pos hc]
      have hl : lt s x := cmp_neg.1 (by have := cmp_range s x; omega)
      refine List.pairwise_cons.2 ⟨fun y hy => ?_, h⟩
      rcases List.mem_cons.1 hy with rfl | hy
      · exact hl
      · exact lt_trans hl (h1 y hy)
    · rw [if_neg hc]
      by_cases h0 : cmp s x = 0
      · rw [if_pos h0]; exact h
      · rw [if_neg h0]
        refine List.pairwise_cons.2 ⟨fun y hy => ?_, ih h2⟩
        rcases (put_mem s r y).1 hy with rfl | hy
        · rcases cmp_cases y x with ⟨g, _⟩ | ⟨g, _⟩ | ⟨_, g⟩
          · omega
          · omega
          · exact g
        · exact h1 y hy
def sortL (l : List Ser) : List Ser := l.foldl (fun out s => put s out) []
theorem sort_snoc (l : List Ser) (s : Ser) : sortL (l ++ [s]) = put s (sortL l) := by simp [sortL]
theorem fold_asc (l : List Ser) : ∀ out, asc out → asc (l.foldl (fun out s => put s out) out) := by
  induction l with
  | nil => intro out h; exact h
  | cons s l ih => intro out h; exact ih _ (put_asc s h)
theorem fold_mem (l : List Ser) (y : Ser) : ∀ out, y ∈ l.foldl (fun out s => put s out) out ↔ y ∈ out ∨ y ∈ l := by
  induction l with
  | nil => intro out; simp
  | cons s l ih =>
    intro out
    rw [List.foldl_cons, ih, put_mem, List.mem_cons]
    constructor
    · rintro ((h | h) | h)
      · exact .inr (.inl h)
      · exact .inl h
      · exact .inr (.inr h)
    · rintro (h | h | h)
      · exact .inl (.inr h)
      · exact .inl (.inl h)
      · exact .inr h
theorem sort_asc (l : List Ser) : asc (sortL l) := fold_asc l [] List.Pairwise.nil
theorem sort_mem (l : List Ser) (y : Ser) : y ∈ sortL l ↔ y ∈ l := by
  unfold sortL; rw [fold_mem]; simp
/-- two that rise and hold the same are the same -/
theorem asc_unique : ∀ {l k : List Ser}, asc l → asc k → (∀ y, y ∈ l ↔ y ∈ k) → l = k := by
  intro l
  induction l with
  | nil =>
    intro k _ _ h
    cases k with
    | nil => rfl
    | cons y r => exact absurd ((h y).2 (by simp)) (by simp)
  | cons x r ih =>
    intro k hl hk h
    cases k with
    | nil => exact absurd ((h x).1 (by simp)) (by simp)
    | cons y s =>
      obtain ⟨l1, l2⟩ := List.pairwise_cons.1 hl
      obtain ⟨k1, k2⟩ := List.pairwise_cons.1 hk
      have e : x = y := by
        rcases List.mem_cons.1 ((h x).1 (by simp)) with g | g
        · exact g
        · rcases List.mem_cons.1 ((h y).2 (by simp)) with g' | g'
          · exact g'.symm
          · exact absurd (l1 y g') (lt_asymm (k1 x g))
      subst e
      congr 1
      refine ih l2 k2 fun z => ?_
      constructor
      · intro hz
        rcases List.mem_cons.1 ((h z).1 (List.mem_cons_of_mem _ hz)) with rfl | g
        · exact absurd (l1 z hz) (lt_irrefl z)
        · exact g
      · intro hz
        rcases List.mem_cons.1 ((h z).2 (List.mem_cons_of_mem _ hz)) with rfl | g
        · exact absurd (k1 z hz) (lt_irrefl z)
        · exact g
theorem sort_again (l : List Ser) : sortL (sortL l) = sortL l := asc_unique (sort_asc _) (sort_asc _) (fun y => sort_mem _ y)
theorem sort_of_asc {l k : List Ser} (h : asc k) (hm : ∀ y, y ∈ k ↔ y ∈ l) : k = sortL l := asc_unique h (sort_asc l) (fun y => by rw [hm, sort_mem])
theorem asc_at {l : List Ser} (h : asc l) {i : Nat} (h1 : 0 < i) (h2 : i < l.length) : lt l[i - 1] l[i] := List.pairwise_iff_getElem.1 h (i - 1) i (by omega) h2 (by omega)
end EM

/- Products and series in memory, over any program. -/
namespace Go.Recs
open Go.RowKit
set_option linter.unusedVariables false
def i64 (n : Int) : Prop := -9223372036854775808 ≤ n ∧ n ≤ 9223372036854775807
def prodV (p : QM.Prod) : List Value := [.string p.name, .int .i64 p.cur, .int .i64 p.mult, .int .i64 p.tick, .int .i64 p.low, .int .i64 p.high, .bool p.phys]
def prodQ (p : QM.Prod) : Prop := p.name.size ≤ maxLen ∧ i64 p.cur ∧ i64 p.mult ∧ i64 p.tick ∧ i64 p.low ∧ i64 p.high
def prodL : List Leaf := [.str, .int .i64, .int .i64, .int .i64, .int .i64, .int .i64, .bool]
def serV (s : EM.Ser) : List Value := [.string s.prod, .int .i64 s.kind, .int .i64 s.expiry, .int .i64 s.strike]
def serQ (s : EM.Ser) : Prop := s.prod.size ≤ maxLen ∧ i64 s.kind ∧ i64 s.expiry ∧ i64 s.strike
def serL : List Leaf := [.str, .int .i64, .int .i64, .int .i64]
theorem okAll_cons {l : Leaf} {ls : List Leaf} {r : List Value} (h : okAll (l :: ls) r) : ∃ c r', r = c :: r' ∧ l.ok c ∧ okAll ls r' := by
  cases r with
  | nil => exact h.elim
  | cons c r => exact ⟨c, r, rfl, h.1, h.2⟩
theorem okAll_nil {r : List Value} (h : okAll [] r) : r = [] := by
  cases r with
  | nil => rfl
  | cons c r => exact h.elim
theorem prod_row (r : List Value) (h : okAll prodL r) : ∃ p : QM.Prod, r = prodV p ∧ prodQ p := by
  obtain ⟨c0, r0, rfl, ⟨s, rfl, hs⟩, g0⟩ := okAll_cons h
  obtain ⟨c1, r1, rfl, ⟨n1, rfl, h1⟩, g1⟩ := okAll_cons g0
  obtain ⟨c2, r2, rfl, ⟨n2, rfl, h2⟩, g2⟩ := okAll_cons g1
  obtain ⟨c3, r3, rfl, ⟨n3, rfl, h3⟩, g3⟩ := okAll_cons g2
  obtain ⟨c4, r4, rfl, ⟨n4, rfl, h4⟩, g4⟩ := okAll_cons g3
  obtain ⟨c5, r5, rfl, ⟨n5, rfl, h5⟩, g5⟩ := okAll_cons g4
  obtain ⟨c6, r6, rfl, ⟨b, rfl⟩, g6⟩ := okAll_cons g5
  rw [okAll_nil g6]
  exact ⟨⟨s, n1, n2, n3, n4, n5, b⟩, rfl, hs, bounds_i64 h1, bounds_i64 h2, bounds_i64 h3, bounds_i64 h4, bounds_i64 h5⟩
theorem ser_row (r : List Value) (h : okAll serL r) : ∃ s : EM.Ser, r = serV s ∧ serQ s := by
  obtain ⟨c0, r0, rfl, ⟨s, rfl, hs⟩, g0⟩ := okAll_cons h
  obtain ⟨c1, r1, rfl, ⟨n1, rfl, h1⟩, g1⟩ := okAll_cons g0
  obtain ⟨c2, r2, rfl, ⟨n2, rfl, h2⟩, g2⟩ := okAll_cons g1
  obtain ⟨c3, r3, rfl, ⟨n3, rfl, h3⟩, g3⟩ := okAll_cons g2
  rw [okAll_nil g3]
  exact ⟨⟨s, n1, n2, n3⟩, rfl, hs, bounds_i64 h1, bounds_i64 h2, bounds_i64 h3⟩
abbrev Prods := TR prodV prodQ 7
abbrev Sers := TR serV serQ 4
theorem prods_get {w : World} {A : Option Addr} {l : List QM.Prod} (h : Prods w A l) {k : Nat} (hk : k < l.length) :
    ∃ b off, ∃ p : QM.Prod, A = some ⟨b, off, none⟩ ∧ b < w.heap.size ∧ Hid (QM.pAt l k = p) ∧ prodQ p ∧ w.cell? ⟨b, off + k * 7, none⟩ = some (.string p.name) ∧ w.cell? ⟨b, off + k * 7 + 1, none⟩ = some (.int .i64 p.cur) ∧
      w.cell? ⟨b, off + k * 7 + 2, none⟩ = some (.int .i64 p.mult) ∧ w.cell? ⟨b, off + k * 7 + 3, none⟩ = some (.int .i64 p.tick) ∧ w.cell? ⟨b, off + k * 7 + 4, none⟩ = some (.int .i64 p.low) ∧
      w.cell? ⟨b, off + k * 7 + 5, none⟩ = some (.int .i64 p.high) ∧ w.cell? ⟨b, off + k * 7 + 6, none⟩ = some (.bool p.phys) := by
  obtain ⟨b, off, rfl, hb, hq, hc⟩ := h.at_ hk
  refine ⟨b, off, l[k], rfl, hb, Lib.hid (by simp [QM.pAt, List.getD, hk]), hq, hc 0 (by omega), hc 1 (by omega), hc 2 (by omega), hc 3 (by omega), hc 4 (by omega), hc 5 (by omega), hc 6 (by omega)⟩
def sAt (l : List EM.Ser) (k : Nat) : EM.Ser := l.getD k EM.zero
theorem sers_get {w : World} {A : Option Addr} {l : List EM.Ser} (h : Sers w A l) {k : Nat} (hk : k < l.length) :
    ∃ b off, ∃ s : EM.Ser, A = some ⟨b, off, none⟩ ∧ b < w.heap.size ∧ Hid (sAt l k = s) ∧ serQ s ∧ w.cell? ⟨b, off + k * 4, none⟩ = some (.string s.prod) ∧ w.cell? ⟨b, off + k * 4 + 1, none⟩ = some (.int .i64 s.kind) ∧
      w.cell? ⟨b, off + k * 4 + 2, none⟩ = some (.int .i64 s.expiry) ∧ w.cell? ⟨b, off + k * 4 + 3, none⟩ = some (.int .i64 s.strike) := by
  obtain ⟨b, off, rfl, hb, hq, hc⟩ := h.at_ hk
  refine ⟨b, off, l[k], rfl, hb, Lib.hid (by simp [sAt, List.getD, hk]), hq, hc 0 (by omega), hc 1 (by omega), hc 2 (by omega), hc 3 (by omega)⟩
end Go.Recs

/- Layer 17's mathematics: tapes. -/
namespace TP
set_option linter.unusedVariables false
structure Tick where
  time : Int
  qty : Int
  price : Int
def zero : Tick := ⟨0, 0, 0⟩
def tAt (l : List Tick) (k : Nat) : Tick := l.getD k zero
theorem tAt_get {l : List Tick} {k : Nat} (h : k < l.length) : tAt l k = l[k] := by simp [tAt, List.getD, h]
def prev (l : List Tick) (k : Nat) : Int := if k = 0 then 0 else (tAt l (k - 1)).time
theorem prev_zero (l : List Tick) : prev l 0 = 0 := rfl
theorem prev_succ (l : List Tick) (k : Nat) : prev l (k + 1) = (tAt l k).time := by unfold prev; simp
def oneT (a : Int) (t : Tick) : Int :=
  if QM.within t.time a 86399 = false then 2 else if QM.within t.qty 1 1048576 = false then 18 else if QM.within t.price (-16777216) 16777216 = false then 17 else 0
def oneE (l : List Tick) (k : Nat) : Int := oneT (prev l k) (tAt l k)
def uptoE (l : List Tick) : Nat → Int
  | 0 => 0
  | k + 1 => if uptoE l k = 0 then oneE l k else uptoE l k
def allE (l : List Tick) : Int := if 1024 < l.length then 8 else uptoE l l.length
theorem upto_stay {l : List Tick} {k : Nat} (h : uptoE l k ≠ 0) : ∀ m, uptoE l (k + m) = uptoE l k := by
  intro m
  induction m with
  | zero => rfl
  | succ m ih => rw [← Nat.add_assoc, uptoE, ih, if_neg h]
theorem all_stop {l : List Tick} {k : Nat} (hl : ¬ 1024 < l.length) (hk : k < l.length) (h : uptoE l k = 0) (h2 : oneE l k ≠ 0) : allE l = oneE l k := by
  have e : uptoE l (k + 1) = oneE l k := by rw [uptoE, if_pos h]
  unfold allE
  rw [if_neg hl]
  have := @upto_stay l (k + 1) (by rw [e]; exact h2) (l.length - (k + 1))
  rw [show k + 1 + (l.length - (k + 1)) = l.length by omega] at this
  rw [this, e]
theorem upto_step {l : List Tick} {k : Nat} (h : uptoE l k = 0) (h2 : oneE l k = 0) : uptoE l (k + 1) = 0 := by rw [uptoE, if_pos h]; exact h2
theorem upto_back {l : List Tick} {n : Nat} (h : uptoE l n = 0) : ∀ k, k < n → oneE l k = 0 := by
  induction n with
  | zero => intro k hk; omega
  | succ n ih =>
    intro k hk
    rw [uptoE] at h
    by_cases hn : uptoE l n = 0
    · rw [if_pos hn] at h
      rcases Nat.lt_or_ge k n with g | g
      · exact ih hn k g
      · obtain rfl : k = n := by omega
        exact h
    · rw [if_neg hn] at h; exact absurd h hn
theorem oneT_zero {a : Int} {t : Tick} : oneT a t = 0 ↔ (a ≤ t.time ∧ t.time ≤ 86399) ∧ (1 ≤ t.qty ∧ t.qty ≤ 1048576) ∧ (-16777216 ≤ t.price ∧ t.price ≤ 16777216) := by
  rw [← QM.within_true, ← QM.within_true, ← QM.within_true]
  unfold oneT
  cases QM.within t.time a 86399 <;> cases QM.within t.qty 1 1048576 <;> cases QM.within t.price (-16777216) 16777216 <;> simp
theorem one_time {a : Int} {t : Tick} (h : ¬ (a ≤ t.time ∧ t.time ≤ 86399)) : oneT a t = 2 := by
  unfold oneT; rw [if_pos (by rw [QM.within_false]; omega)]
theorem one_qty {a : Int} {t : Tick} (h : a ≤ t.time ∧ t.time ≤ 86399) (h2 : ¬ (1 ≤ t.qty ∧ t.qty ≤ 1048576)) : oneT a t = 18 := by
  unfold oneT; rw [QM.within_true.2 h, if_neg (by simp), if_pos (by rw [QM.within_false]; omega)]
theorem one_price {a : Int} {t : Tick} (h : a ≤ t.time ∧ t.time ≤ 86399) (h2 : 1 ≤ t.qty ∧ t.qty ≤ 1048576) (h3 : ¬ (-16777216 ≤ t.price ∧ t.price ≤ 16777216)) : oneT a t = 17 := by
  unfold oneT; rw [QM.within_true.2 h, if_neg (by simp), QM.within_true.2 h2, if_neg (by simp), if_pos (by rw [QM.within_false]; omega)]
/-- what ticks that were checked are -/
structure Good (l : List Tick) : Prop where
  len : l.length ≤ 1024
  each : ∀ k, k < l.length → (0 ≤ (tAt l k).time ∧ (tAt l k).time ≤ 86399) ∧ (1 ≤ (tAt l k).qty ∧ (tAt l k).qty ≤ 1048576) ∧ (-16777216 ≤ (tAt l k).price ∧ (tAt l k).price ≤ 16777216)
  rise : ∀ k, k + 1 < l.length → (tAt l k).time ≤ (tAt l (k + 1)).time
theorem good {l : List Tick} (h : allE l = 0) : Good l := by
  unfold allE at h
  split at h
  · cases h
  · rename_i hl
    have hb := fun k hk => oneT_zero.1 (upto_back h k hk)
    have h0 : ∀ k, k < l.length → 0 ≤ (tAt l k).time := by
      intro k
      induction k with
      | zero => intro hk; have := (hb 0 hk).1.1; rw [prev_zero] at this; exact this
      | succ k ih => intro hk; have := (hb (k + 1) hk).1.1; rw [prev_succ] at this; have := ih (by omega); omega
    refine ⟨by omega, fun k hk => ⟨⟨h0 k hk, (hb k hk).1.2⟩, (hb k hk).2⟩, fun k hk => ?_⟩
    have := (hb (k + 1) hk).1.1
    rw [prev_succ] at this
    exact this
theorem upto_of {l : List Tick} (hg : Good l) : ∀ k, k ≤ l.length → uptoE l k = 0 := by
  intro k
  induction k with
  | zero => intro _; rfl
  | succ k ih =>
    intro hk
    refine upto_step (ih (by omega)) (oneT_zero.2 ?_)
    obtain ⟨a, b, c⟩ := hg.each k (by omega)
    refine ⟨⟨?_, a.2⟩, b, c⟩
    cases k with
    | zero => exact a.1
    | succ k => rw [prev_succ]; exact hg.rise k (by omega)
theorem of_good {l : List Tick} (hg : Good l) : allE l = 0 := by
  unfold allE; rw [if_neg (by have := hg.len; omega)]; exact upto_of hg _ (Nat.le_refl _)
theorem prev_ge {l : List Tick} {k : Nat} (hk : k ≤ l.length) (h : uptoE l k = 0) : 0 ≤ prev l k := by
  induction k with
  | zero => exact Int.le_refl _
  | succ k ih =>
    have h1 := upto_back h k (by omega)
    have h2 : uptoE l k = 0 := by
      rw [uptoE] at h
      by_cases hn : uptoE l k = 0
      · exact hn
      · rw [if_neg hn] at h; exact absurd h hn
    have := (oneT_zero.1 h1).1.1
    have := ih (by omega) h2
    rw [prev_succ]; omega

/-- sums -/
def vol : List Tick → Int
  | [] => 0
  | t :: l => t.qty + vol l
def val : List Tick → Int
  | [] => 0
  | t :: l => t.price * t.qty + val l
theorem vol_append (a b : List Tick) : vol (a ++ b) = vol a + vol b := by
  induction a with
  | nil => simp [vol]
  | cons t a ih => rw [List.cons_append, vol, ih, vol]; omega
theorem val_append (a b : List Tick) : val (a ++ b) = val a + val b := by
  induction a with
  | nil => simp [val]
  | cons t a ih => rw [List.cons_append, val, ih, val]; omega
theorem take_succ {l : List Tick} {k : Nat} (h : k < l.length) : l.take (k + 1) = l.take k ++ [tAt l k] := by
  rw [tAt_get h, List.take_add_one, List.getElem?_eq_getElem h]; rfl
def volU (l : List Tick) (k : Nat) : Int := vol (l.take k)
def valU (l : List Tick) (k : Nat) : Int := val (l.take k)
theorem volU_zero (l : List Tick) : volU l 0 = 0 := rfl
theorem valU_zero (l : List Tick) : valU l 0 = 0 := rfl
theorem volU_all (l : List Tick) : volU l l.length = vol l := by unfold volU; rw [List.take_length]
theorem valU_all (l : List Tick) : valU l l.length = val l := by unfold valU; rw [List.take_length]
theorem volU_succ {l : List Tick} {k : Nat} (h : k < l.length) : volU l (k + 1) = volU l k + (tAt l k).qty := by
  unfold volU; rw [take_succ h, vol_append]; simp [vol]
theorem valU_succ {l : List Tick} {k : Nat} (h : k < l.length) : valU l (k + 1) = valU l k + (tAt l k).price * (tAt l k).qty := by
  unfold valU; rw [take_succ h, val_append]; simp [val]
theorem mul_bound {p q : Int} (hp : -16777216 ≤ p ∧ p ≤ 16777216) (hq : 1 ≤ q ∧ q ≤ 1048576) : -17592186044416 ≤ p * q ∧ p * q ≤ 17592186044416 := by
  have h1 : p * q ≤ 16777216 * q := Int.mul_le_mul_of_nonneg_right hp.2 (by omega)
  have h2 : (-16777216) * q ≤ p * q := Int.mul_le_mul_of_nonneg_right hp.1 (by omega)
  omega
theorem vol_bounds {l : List Tick} (hg : Good l) : ∀ k, k ≤ l.length → (k : Int) ≤ volU l k ∧ volU l k ≤ 1048576 * (k : Int) := by
  intro k
  induction k with
  | zero => intro _; rw [volU_zero]; omega
  | succ k ih =>
    intro hk
    have := ih (by omega)
    have := (hg.each k (by omega)).2.1
    rw [volU_succ (by omega)]; omega
theorem val_bounds {l : List Tick} (hg : Good l) : ∀ k, k ≤ l.length → -(17592186044416 * (k : Int)) ≤ valU l k ∧ valU l k ≤ 17592186044416 * (k : Int) := by
  intro k
  induction k with
  | zero => intro _; rw [valU_zero]; omega
  | succ k ih =>
    intro hk
    have := ih (by omega)
    have h1 := hg.each k (by omega)
    have := mul_bound h1.2.2 h1.2.1
    rw [valU_succ (by omega)]; omega
/-- the value lies between the lots at the least and at the greatest price -/
theorem val_between {l : List Tick} (hg : Good l) {x y : Int} (h : ∀ k, k < l.length → x ≤ (tAt l k).price ∧ (tAt l k).price ≤ y) : ∀ k, k ≤ l.length → x * volU l k ≤ valU l k ∧ valU l k ≤ y * volU l k := by
  intro k
  induction k with
  | zero => intro _; rw [valU_zero, volU_zero]; omega
  | succ k ih =>
    intro hk
    obtain ⟨i1, i2⟩ := ih (by omega)
    have h1 := (hg.each k (by omega)).2.1
    obtain ⟨h2, h3⟩ := h k (by omega)
    rw [valU_succ (by omega), volU_succ (by omega), Int.mul_add, Int.mul_add]
    have := Int.mul_le_mul_of_nonneg_right h2 (show 0 ≤ (tAt l k).qty by omega)
    have := Int.mul_le_mul_of_nonneg_right h3 (show 0 ≤ (tAt l k).qty by omega)
    omega

/-- the lowest and the highest price of the first k -/
def lowU (l : List Tick) : Nat → Int
  | 0 => (tAt l 0).price
  | k + 1 => if (tAt l k).price < lowU l k then (tAt l k).price else lowU l k
def highU (l : List Tick) : Nat → Int
  | 0 => (tAt l 0).price
  | k + 1 => if highU l k < (tAt l k).price then (tAt l k).price else highU l k
theorem lowU_one (l : List Tick) : lowU l 1 = (tAt l 0).price := by unfold lowU lowU; rw [if_neg (by omega)]
theorem highU_one (l : List Tick) : highU l 1 = (tAt l 0).price := by unfold highU highU; rw [if_neg (by omega)]
theorem lowU_le {l : List Tick} : ∀ k j, j < k → lowU l k ≤ (tAt l j).price := by
  intro k
  induction k with
  | zero => intro j hj; omega
  | succ k ih =>
    intro j hj
    rw [lowU]
    rcases Nat.lt_or_ge j k with g | g
    · have := ih j g; split <;> omega
    · obtain rfl : j = k := by omega
      split <;> omega
theorem le_highU {l : List Tick} : ∀ k j, j < k → (tAt l j).price ≤ highU l k := by
  intro k
  induction k with
  | zero => intro j hj; omega
  | succ k ih =>
    intro j hj
    rw [highU]
    rcases Nat.lt_or_ge j k with g | g
    · have := ih j g; split <;> omega
    · obtain rfl : j = k := by omega
      split <;> omega
theorem lowU_mem {l : List Tick} (h0 : 0 < l.length) : ∀ k, k ≤ l.length → ∃ j, j < l.length ∧ lowU l k = (tAt l j).price := by
  intro k
  induction k with
  | zero => intro _; exact ⟨0, h0, rfl⟩
  | succ k ih =>
    intro hk
    rw [lowU]
    split
    · exact ⟨k, by omega, rfl⟩
    · exact ih (by omega)
theorem highU_mem {l : List Tick} (h0 : 0 < l.length) : ∀ k, k ≤ l.length → ∃ j, j < l.length ∧ highU l k = (tAt l j).price := by
  intro k
  induction k with
  | zero => intro _; exact ⟨0, h0, rfl⟩
  | succ k ih =>
    intro hk
    rw [highU]
    split
    · exact ⟨k, by omega, rfl⟩
    · exact ih (by omega)
def lowN (l : List Tick) : Int := if l.length = 0 then 0 else lowU l l.length
def highN (l : List Tick) : Int := if l.length = 0 then 0 else highU l l.length

/-- a quotient by MulDiv lies between what its dividend lies between -/
theorem md_small {a c mode : Int} (ha : -1152921504606846975 ≤ a ∧ a ≤ 1152921504606846975) (hc : 1 ≤ c ∧ c ≤ 1152921504606846976) (h1 : 1 ≤ mode) (h5 : mode ≤ 5) : CM.mdE a 1 c mode = 0 := by
  have hA : CM.mdA a 1 c mode = true := by
    have f1 : CM.fits a = true := CM.fits_true.2 (by omega)
    have f2 : CM.fits c = true := CM.fits_true.2 (by omega)
    simp [CM.mdA, f1, f2, CM.fits_one, h1, h5]
  have hq : CM.mdQ a 1 c ≤ (CM.size a).toNat := by
    unfold CM.mdQ
    rw [show (CM.size 1).toNat = 1 from rfl, Nat.mul_one]
    exact Nat.div_le_self _ _
  have hs : CM.size a ≤ 1152921504606846975 := by unfold CM.size; split <;> omega
  have h0 := CM.size_nonneg a
  have hg : CM.mdG a 1 c mode ≤ 1152921504606846976 := by unfold CM.mdG; split <;> omega
  simp [CM.mdE, hA, show c ≠ 0 by omega, hg]
theorem md_between {a c x y mode : Int} (hc : 1 ≤ c ∧ c ≤ 1152921504606846976) (h1 : 1 ≤ mode) (h5 : mode ≤ 5) (hx : x * c ≤ a) (hy : a ≤ y * c)
    (bx : -1152921504606846975 ≤ x * c) (by_ : y * c ≤ 1152921504606846975) : CM.mdE a 1 c mode = 0 ∧ x ≤ CM.mdN a 1 c mode ∧ CM.mdN a 1 c mode ≤ y := by
  have e := md_small (a := a) (c := c) (mode := mode) (by omega) hc h1 h5
  have fc : CM.fits c = true := CM.fits_true.2 (by omega)
  have key : ∀ z : Int, -1152921504606846975 ≤ z * c → z * c ≤ 1152921504606846975 → CM.mdN (z * c) 1 c mode = z ∧ CM.mdE (z * c) 1 c mode = 0 := by
    intro z z1 z2
    have : -1152921504606846976 ≤ z ∧ z ≤ 1152921504606846976 := by
      constructor
      · apply Classical.byContradiction
        intro h
        have : z * c ≤ z * 1 := Int.mul_le_mul_of_nonpos_left (by omega) hc.1
        omega
      · apply Classical.byContradiction
        intro h
        have : z * 1 ≤ z * c := Int.mul_le_mul_of_nonneg_left hc.1 (by omega)
        omega
    exact QM.md_exact hc.1 (CM.fits_true.2 (by omega)) (CM.fits_true.2 this) fc h1 h5
  obtain ⟨k1, k2⟩ := key x bx (by omega)
  obtain ⟨k3, k4⟩ := key y (by omega) by_
  refine ⟨e, ?_, ?_⟩
  · have := CM.md_rises (b := 1) (by omega) (by omega) hx k2 e; rw [k1] at this; exact this
  · have := CM.md_rises (b := 1) (by omega) (by omega) hy e k4; rw [k3] at this; exact this
/-- the average -/
def vwE (l : List Tick) (step mode : Int) : Int :=
  if allE l ≠ 0 then allE l else if QM.within step 1 16777216 = false then 16 else if QM.within mode 1 5 = false then 2 else if l.length = 0 then 11 else 0
def vwK (l : List Tick) (step mode : Int) : Int := CM.mdN (val l) 1 (vol l * step) mode
def vwN (l : List Tick) (step mode : Int) : Int := if vwE l step mode = 0 then vwK l step mode * step else 0
theorem vw_zero {l : List Tick} {step mode : Int} (h : vwE l step mode = 0) : Good l ∧ (1 ≤ step ∧ step ≤ 16777216) ∧ (1 ≤ mode ∧ mode ≤ 5) ∧ 0 < l.length := by
  unfold vwE at h
  by_cases h1 : allE l = 0
  · rw [if_neg (by simp [h1])] at h
    cases h2 : QM.within step 1 16777216
    · rw [h2] at h; simp at h
    · cases h3 : QM.within mode 1 5
      · rw [h2, h3] at h; simp at h
      · rw [h2, h3] at h
        refine ⟨good h1, QM.within_true.1 h2, QM.within_true.1 h3, ?_⟩
        by_cases h4 : l.length = 0
        · rw [if_pos h4] at h; simp at h
        · omega
  · rw [if_pos h1] at h; exact absurd h h1
/-- what is multiplied and divided in an average, and what comes out -/
theorem vw_bounds {l : List Tick} {step mode : Int} (hg : Good l) (hs : 1 ≤ step ∧ step ≤ 16777216) (h1 : 1 ≤ mode) (h5 : mode ≤ 5) (h0 : 0 < l.length) :
    (1 ≤ vol l ∧ vol l ≤ 1073741824) ∧ (1 ≤ vol l * step ∧ vol l * step ≤ 18014398509481984) ∧ (-18014398509481984 ≤ val l ∧ val l ≤ 18014398509481984) ∧
      CM.mdE (val l) 1 (vol l * step) mode = 0 ∧ (-33554432 ≤ vwK l step mode ∧ vwK l step mode ≤ 33554432) ∧ (-33554432 ≤ vwK l step mode * step ∧ vwK l step mode * step ≤ 33554432) := by
  have hl := hg.len
  have hv := vol_bounds hg l.length (Nat.le_refl _)
  have ha := val_bounds hg l.length (Nat.le_refl _)
  have hb := val_between hg (x := -16777216) (y := 16777216) (fun k hk => (hg.each k hk).2.2) l.length (Nat.le_refl _)
  rw [volU_all] at hv hb
  rw [valU_all] at ha hb
  have hv1 : 1 ≤ vol l ∧ vol l ≤ 1073741824 := by omega
  have hm1 : vol l * 1 ≤ vol l * step := Int.mul_le_mul_of_nonneg_left hs.1 (by omega)
  have hm2 : vol l * step ≤ vol l * 16777216 := Int.mul_le_mul_of_nonneg_left hs.2 (by omega)
  have hc : 1 ≤ vol l * step ∧ vol l * step ≤ 18014398509481984 := by omega
  have d1 := Int.mul_ediv_add_emod 16777216 step
  have d2 := Int.emod_nonneg 16777216 (show step ≠ 0 by omega)
  have d3 := Int.emod_lt_of_pos 16777216 (show 0 < step by omega)
  obtain ⟨y, hy⟩ : ∃ y : Int, y = 16777216 / step + 1 := ⟨_, rfl⟩
  have ys : y * step = step * (16777216 / step) + step := by rw [hy, Int.add_mul, Int.one_mul, Int.mul_comm]
  have y1 : 16777216 ≤ y * step ∧ y * step ≤ 33554432 := by omega
  have y0 : 1 ≤ y := by have := Int.ediv_nonneg (show (0 : Int) ≤ 16777216 by omega) (show 0 ≤ step by omega); omega
  have e : y * (vol l * step) = y * step * vol l := by rw [Int.mul_assoc, Int.mul_comm step]
  have e2 : -y * (vol l * step) = -(y * step * vol l) := by rw [Int.neg_mul, e]
  have b1 : 16777216 * vol l ≤ y * step * vol l := Int.mul_le_mul_of_nonneg_right y1.1 (by omega)
  have b2 : y * step * vol l ≤ 33554432 * vol l := Int.mul_le_mul_of_nonneg_right y1.2 (by omega)
  have hK := md_between (a := val l) (c := vol l * step) (x := -y) (y := y) (mode := mode) ⟨hc.1, by omega⟩ h1 h5 (by rw [e2]; omega) (by rw [e]; omega) (by rw [e2]; omega) (by rw [e]; omega)
  have hk : -y ≤ vwK l step mode ∧ vwK l step mode ≤ y := hK.2
  have p1 : vwK l step mode * step ≤ y * step := Int.mul_le_mul_of_nonneg_right hk.2 (by omega)
  have p2 : (-y) * step ≤ vwK l step mode * step := Int.mul_le_mul_of_nonneg_right hk.1 (by omega)
  rw [Int.neg_mul] at p2
  have y2 : y ≤ 33554432 := by
    have : y * 1 ≤ y * step := Int.mul_le_mul_of_nonneg_left hs.1 (by omega)
    omega
  exact ⟨hv1, hc, by omega, hK.1, by omega, by omega⟩
/-- .. it lies within what all prices lie within, where these are multiples -/
theorem vw_within {l : List Tick} {step mode x y : Int} (hg : Good l) (hs : 1 ≤ step ∧ step ≤ 16777216) (h1 : 1 ≤ mode) (h5 : mode ≤ 5) (h0 : 0 < l.length)
    (h : ∀ k, k < l.length → x * step ≤ (tAt l k).price ∧ (tAt l k).price ≤ y * step) (hx : -16777216 ≤ x * step ∧ x * step ≤ 16777216) (hy : -16777216 ≤ y * step ∧ y * step ≤ 16777216) :
    x * step ≤ vwK l step mode * step ∧ vwK l step mode * step ≤ y * step := by
  obtain ⟨hv, hc, ha, _, _, _⟩ := vw_bounds (mode := mode) hg hs h1 h5 h0
  have hb := val_between hg h l.length (Nat.le_refl _)
  rw [volU_all, valU_all] at hb
  have ex : x * step * vol l = x * (vol l * step) := by rw [Int.mul_assoc, Int.mul_comm step]
  have ey : y * step * vol l = y * (vol l * step) := by rw [Int.mul_assoc, Int.mul_comm step]
  have bx : -16777216 * vol l ≤ x * step * vol l := Int.mul_le_mul_of_nonneg_right hx.1 (by omega)
  have bx2 : x * step * vol l ≤ 16777216 * vol l := Int.mul_le_mul_of_nonneg_right hx.2 (by omega)
  have by1 : -16777216 * vol l ≤ y * step * vol l := Int.mul_le_mul_of_nonneg_right hy.1 (by omega)
  have by2 : y * step * vol l ≤ 16777216 * vol l := Int.mul_le_mul_of_nonneg_right hy.2 (by omega)
  rw [ex] at hb bx bx2
  rw [ey] at hb by1 by2
  obtain ⟨_, m1, m2⟩ := md_between (mode := mode) ⟨hc.1, by omega⟩ h1 h5 hb.1 hb.2 (by omega) (by omega)
  exact ⟨Int.mul_le_mul_of_nonneg_right m1 (by omega), Int.mul_le_mul_of_nonneg_right m2 (by omega)⟩
def volN (l : List Tick) : Int := if allE l = 0 then vol l else 0
theorem vw_check {l : List Tick} {step mode : Int} (h : allE l ≠ 0) : vwE l step mode = allE l ∧ vwN l step mode = 0 := by
  have e : vwE l step mode = allE l := by unfold vwE; rw [if_pos h]
  exact ⟨e, by unfold vwN; rw [e, if_neg h]⟩
theorem vw_step {l : List Tick} {step mode : Int} (h : allE l = 0) (h2 : QM.within step 1 16777216 = false) : vwE l step mode = 16 ∧ vwN l step mode = 0 := by
  have e : vwE l step mode = 16 := by unfold vwE; rw [if_neg (by simp [h]), h2]; rfl
  exact ⟨e, by unfold vwN; rw [e]; rfl⟩
theorem vw_mode {l : List Tick} {step mode : Int} (h : allE l = 0) (h2 : QM.within step 1 16777216 = true) (h3 : QM.within mode 1 5 = false) : vwE l step mode = 2 ∧ vwN l step mode = 0 := by
  have e : vwE l step mode = 2 := by unfold vwE; rw [if_neg (by simp [h]), h2, h3, if_neg (by simp), if_pos rfl]
  exact ⟨e, by unfold vwN; rw [e]; rfl⟩
theorem vw_none {l : List Tick} {step mode : Int} (h : allE l = 0) (h2 : QM.within step 1 16777216 = true) (h3 : QM.within mode 1 5 = true) (h4 : l.length = 0) : vwE l step mode = 11 ∧ vwN l step mode = 0 := by
  have e : vwE l step mode = 11 := by unfold vwE; rw [if_neg (by simp [h]), h2, h3, if_neg (by simp), if_neg (by simp), if_pos h4]
  exact ⟨e, by unfold vwN; rw [e]; rfl⟩
theorem vw_ok {l : List Tick} {step mode : Int} (h : allE l = 0) (h2 : QM.within step 1 16777216 = true) (h3 : QM.within mode 1 5 = true) (h4 : 0 < l.length) : vwE l step mode = 0 ∧ vwN l step mode = vwK l step mode * step := by
  have e : vwE l step mode = 0 := by unfold vwE; rw [if_neg (by simp [h]), h2, h3, if_neg (by simp), if_neg (by simp), if_neg (by omega)]
  exact ⟨e, by unfold vwN; rw [e]; rfl⟩
/-- a window -/
def win (l : List Tick) (a b : Int) : List Tick := l.filter fun t => QM.within t.time a b
def winU (l : List Tick) (a b : Int) (k : Nat) : List Tick := win (l.take k) a b
theorem winU_zero (l : List Tick) (a b : Int) : winU l a b 0 = [] := rfl
theorem winU_all (l : List Tick) (a b : Int) : winU l a b l.length = win l a b := by unfold winU; rw [List.take_length]
theorem winU_in {l : List Tick} {a b : Int} {k : Nat} (h : k < l.length) (hi : QM.within (tAt l k).time a b = true) : winU l a b (k + 1) = winU l a b k ++ [tAt l k] := by
  unfold winU win; rw [take_succ h, List.filter_append]; simp [hi]
theorem winU_out {l : List Tick} {a b : Int} {k : Nat} (h : k < l.length) (hi : QM.within (tAt l k).time a b = false) : winU l a b (k + 1) = winU l a b k := by
  unfold winU win; rw [take_succ h, List.filter_append]; simp [hi]
theorem winU_len (l : List Tick) (a b : Int) (k : Nat) (hk : k ≤ l.length) : (winU l a b k).length ≤ k := by
  unfold winU win
  have := List.length_filter_le (fun t => QM.within t.time a b) (l.take k)
  rw [List.length_take] at this
  omega
theorem win_mem {l : List Tick} {a b : Int} {t : Tick} : t ∈ win l a b ↔ t ∈ l ∧ a ≤ t.time ∧ t.time ≤ b := by unfold win; rw [List.mem_filter, QM.within_true]
/-- what is last -/
def lastT (l : List Tick) : Tick := if l.length = 0 then zero else tAt l (l.length - 1)
end TP

/- Ticks of a tape in memory, over any program. -/
namespace Go.Recs
open Go.RowKit
set_option linter.unusedVariables false
def tickV (x : TP.Tick) : List Value := [.int .i64 x.time, .int .i64 x.qty, .int .i64 x.price]
def tickQ (x : TP.Tick) : Prop := i64 x.time ∧ i64 x.qty ∧ i64 x.price
def tickL : List Leaf := [.int .i64, .int .i64, .int .i64]
theorem tick_row (r : List Value) (h : okAll tickL r) : ∃ x : TP.Tick, r = tickV x ∧ tickQ x := by
  obtain ⟨c0, r0, rfl, ⟨n0, rfl, h0⟩, g0⟩ := okAll_cons h
  obtain ⟨c1, r1, rfl, ⟨n1, rfl, h1⟩, g1⟩ := okAll_cons g0
  obtain ⟨c2, r2, rfl, ⟨n2, rfl, h2⟩, g2⟩ := okAll_cons g1
  rw [okAll_nil g2]
  exact ⟨⟨n0, n1, n2⟩, rfl, bounds_i64 h0, bounds_i64 h1, bounds_i64 h2⟩
abbrev Ticks := TR tickV tickQ 3
theorem ticks_get {w : World} {A : Option Addr} {l : List TP.Tick} (h : Ticks w A l) {k : Nat} (hk : k < l.length) :
    ∃ b off, ∃ x : TP.Tick, A = some ⟨b, off, none⟩ ∧ b < w.heap.size ∧ Hid (TP.tAt l k = x) ∧ tickQ x ∧ w.cell? ⟨b, off + k * 3, none⟩ = some (.int .i64 x.time) ∧ w.cell? ⟨b, off + k * 3 + 1, none⟩ = some (.int .i64 x.qty) ∧ w.cell? ⟨b, off + k * 3 + 2, none⟩ = some (.int .i64 x.price) := by
  obtain ⟨b, off, rfl, hb, hq, hc⟩ := h.at_ hk
  exact ⟨b, off, l[k], rfl, hb, Lib.hid (TP.tAt_get hk), hq, hc 0 (by omega), hc 1 (by omega), hc 2 (by omega)⟩
end Go.Recs

/- Plain lists of numbers: sums and the like. -/
namespace LM

def tot : List Int → Int
  | [] => 0
  | x :: l => x + tot l

theorem tot_append (l m : List Int) : tot (l ++ m) = tot l + tot m := by
  induction l with
  | nil => simp [tot]
  | cons x l ih => simp only [List.cons_append, tot, ih]; omega

theorem tot_reverse (l : List Int) : tot l.reverse = tot l := by
  induction l with
  | nil => rfl
  | cons x l ih => rw [List.reverse_cons, tot_append, ih]; simp only [tot]; omega

theorem getD_at (l : List Int) (k : Nat) (h : k < l.length) : l.getD k 0 = l[k] := by simp [List.getD, h]

theorem take_snoc (l : List Int) (k : Nat) (h : k < l.length) : l.take (k + 1) = l.take k ++ [l.getD k 0] := by
  rw [List.take_succ_eq_append_getElem h, getD_at l k h]

theorem tot_take_succ (l : List Int) (k : Nat) (h : k < l.length) : tot (l.take (k + 1)) = tot (l.take k) + l.getD k 0 := by
  rw [take_snoc l k h, tot_append]; simp [tot]

theorem getD_mem (l : List Int) (k : Nat) (h : k < l.length) : l.getD k 0 ∈ l := by
  rw [getD_at l k h]; exact List.getElem_mem h

end LM

/- What a slice of ints reads as; small laws. -/
namespace Go.Proofs.Ytaegapcccboinaa
open Go.RowKit

/-- a slice at A holds the numbers zs, in w -/
def Ints (w : World) (A : Option Addr) (zs : List Int) : Prop :=
  zs.length ≤ maxLen ∧ (∀ n ∈ zs, -9223372036854775808 ≤ n ∧ n ≤ 9223372036854775807) ∧
  (zs = [] ∨ ∃ b off, A = some ⟨b, off, none⟩ ∧ b < w.heap.size ∧ ∀ i, i < zs.length → w.cell? ⟨b, off + i, none⟩ = some (.int .i64 (zs.getD i 0)))

theorem Ints.at_ {w : World} {A : Option Addr} {zs : List Int} (h : Ints w A zs) {k : Nat} (hk : k < zs.length) :
    ∃ b off, A = some ⟨b, off, none⟩ ∧ b < w.heap.size ∧ ∀ i, i < zs.length → w.cell? ⟨b, off + i, none⟩ = some (.int .i64 (zs.getD i 0)) := by
  rcases h.2.2 with h | h
  · subst h; simp at hk
  · exact h

theorem Ints.range {w : World} {A : Option Addr} {zs : List Int} (h : Ints w A zs) {k : Nat} (hk : k < zs.length) :
    -9223372036854775808 ≤ zs.getD k 0 ∧ zs.getD k 0 ≤ 9223372036854775807 := h.2.1 _ (LM.getD_mem zs k hk)

/-- element k, under a name of its own -/
theorem Ints.get {w : World} {A : Option Addr} {zs : List Int} (h : Ints w A zs) {k : Nat} (hk : k < zs.length) :
    ∃ b off v, A = some ⟨b, off, none⟩ ∧ b < w.heap.size ∧ w.cell? ⟨b, off + k, none⟩ = some (.int .i64 v) ∧ Hid (zs.getD k 0 = v) ∧ -9223372036854775808 ≤ v ∧ v ≤ 9223372036854775807 := by
  obtain ⟨b, off, rfl, hb, hc⟩ := h.at_ hk
  exact ⟨b, off, _, rfl, hb, hc k hk, rfl, h.range hk⟩

theorem Ints.len {w : World} {A : Option Addr} {zs : List Int} (h : Ints w A zs) : zs.length ≤ 9223372036854775807 := h.1

theorem Ints.keep {w w' : World} {A : Option Addr} {zs : List Int} (h : Ints w A zs) (hz : w.heap.size ≤ w'.heap.size)
    (hk : ∀ b o, b < w.heap.size → w'.cell? ⟨b, o, none⟩ = w.cell? ⟨b, o, none⟩) : Ints w' A zs := by
  refine ⟨h.1, h.2.1, ?_⟩
  rcases h.2.2 with h | ⟨b, off, rfl, hb, hc⟩
  · exact .inl h
  · exact .inr ⟨b, off, rfl, by omega, fun i hi => by rw [hk _ _ hb]; exact hc i hi⟩

theorem Ints.below {w w' : World} {A : Option Addr} {zs : List Int} (h : Ints w A zs) (hb : Below w.heap.size w w') : Ints w' A zs :=
  h.keep hb.size fun b o hlt => hb.cell (p := ⟨b, o, none⟩) hlt

theorem Ints.drewN {w : World} {A : Option Addr} {zs : List Int} (h : Ints w A zs) (n : Nat) : Ints (w.drewN n) A zs := h
theorem Ints.drew {w : World} {A : Option Addr} {zs : List Int} (h : Ints w A zs) : Ints w.drew A zs := h

theorem Ints.of_row {w : World} {x : Addr} {len cap : Nat} {zs : List Int} (hl : len ≤ cap) (hm : cap ≤ maxLen) (hz : zs.length = cap)
    (hcell : ∀ i, i < zs.length → w.cell? (x.add i) = some (.int .i64 (zs.getD i 0))) (hwz : ∀ n ∈ zs, (Lit.int .i64 n).wf = true) : Ints w (some x) (zs.take len) := by
  refine ⟨by simp; omega, fun n hn => bounds_i64 (hwz n (List.mem_of_mem_take hn)), ?_⟩
  rcases Nat.eq_zero_or_pos len with h0 | h0
  · subst h0; exact .inl (by simp)
  · obtain ⟨b, off, spot⟩ := x
    have hc := hcell 0 (by omega)
    have hspot : spot = none := by simpa [Addr.add] using World.cell?_spot hc
    subst hspot
    refine .inr ⟨b, off, rfl, World.block_lt_of_cell? _ _ hc, fun i hi => ?_⟩
    have hi' : i < len := by simp at hi; omega
    have := hcell i (by omega)
    rw [show (zs.take len).getD i 0 = zs.getD i 0 from by simp [List.getD, hi']]
    have e : (⟨b, off, none⟩ : Addr).add i = ⟨b, off + i, none⟩ := by
      unfold Addr.add
      by_cases h0 : i = 0
      · subst h0; simp
      · simp [h0]
    rwa [e] at this

theorem below_drewN {B : Nat} {a w : World} (h : Below B a w) (n : Nat) : Below B a (w.drewN n) := ⟨h.os, h.tape, h.output, h.size, h.block⟩

theorem Ints.nil (w : World) (A : Option Addr) : Ints w A [] := ⟨by simp, by simp, .inl rfl⟩

end Go.Proofs.Ytaegapcccboinaa

/- Slices of ints that the call itself makes. -/
namespace Go.Proofs.Ytaegapcccboinaa
open Go.RowKit

theorem info_int : (Try.prog.info? 3).map (fun i => (i.zero, i.size, i.bytes)) = some (some (.int .i64 0), 1, 8) := by kernel_rfl

/-- the slice v, in memory from block B on, holds the numbers zs -/
def Own (w : World) (B : Nat) (v : Value) (zs : List Int) : Prop := w.ownsRow B 3 1 v zs.length (zs.map (Value.int .i64))

theorem Own.nil (w : World) (B : Nat) : Own w B (.slice none 0 0) [] := World.ownsRow_nil _ _ _ _

theorem Own.form {w : World} {B : Nat} {v : Value} {zs : List Int} (h : Own w B v zs) :
    (v = .slice none 0 0 ∧ zs = []) ∨ ∃ g cap, v = .slice (some ⟨g, 0, none⟩) zs.length cap ∧ B ≤ g ∧ g < w.heap.size ∧ zs.length ≤ cap := by
  rcases h.2 with ⟨rfl, h0⟩ | ⟨g, cap, cur, rfl, hB, hh, hn, _⟩
  · exact .inl ⟨rfl, List.eq_nil_of_length_eq_zero h0⟩
  · refine .inr ⟨g, cap, rfl, hB, ?_, hn⟩
    rcases Nat.lt_or_ge g w.heap.size with hlt | hge
    · exact hlt
    · rw [Array.getElem?_eq_none hge] at hh; cases hh

theorem Own.len {w : World} {B : Nat} {v : Value} {zs : List Int} (h : Own w B v zs) : zs.length ≤ maxLen := by
  rcases h.2 with ⟨_, h0⟩ | ⟨g, cap, cur, _, _, _, hn, hm, _⟩
  · rw [h0]; exact Nat.zero_le _
  · exact Nat.le_trans hn hm

theorem Own.cell {w : World} {B g cap : Nat} {zs : List Int} {n : Nat} (h : Own w B (.slice (some ⟨g, 0, none⟩) n cap) zs) (i : Nat) (hi : i < zs.length) :
    w.cell? ⟨g, i, none⟩ = some (.int .i64 (zs.getD i 0)) := by
  have hn : n = zs.length := by
    rcases h.2 with ⟨h0, _⟩ | ⟨g', cap', cur, h0, _⟩
    · cases h0
    · injection h0
  subst hn
  rw [World.ownsRow.cellAt h i (by omega)]
  simp [List.getD, hi]

theorem Own.ints {w : World} {B : Nat} {v : Value} {zs : List Int} (h : Own w B v zs) (hr : ∀ n ∈ zs, -9223372036854775808 ≤ n ∧ n ≤ 9223372036854775807) :
    ∃ A cap, v = .slice A zs.length cap ∧ Ints w A zs := by
  rcases h.form with ⟨rfl, rfl⟩ | ⟨g, cap, rfl, hB, hg, _⟩
  · exact ⟨none, 0, rfl, Ints.nil _ _⟩
  · refine ⟨_, cap, rfl, h.len, hr, .inr ⟨g, 0, rfl, hg, fun i hi => ?_⟩⟩
    rw [Nat.zero_add]
    exact h.cell i hi

theorem Own.kept {w w' : World} {B : Nat} {v : Value} {zs : List Int} (h : Own w B v zs) (hb : ∀ g, B ≤ g → g < w.heap.size → w'.heap[g]? = w.heap[g]?) : Own w' B v zs := by
  refine ⟨h.1, ?_⟩
  rcases h.2 with h0 | ⟨g, cap, cur, hv, hB, hh, r⟩
  · exact .inl h0
  · refine .inr ⟨g, cap, cur, hv, hB, ?_, r⟩
    rcases Nat.lt_or_ge g w.heap.size with hlt | hge
    · rw [hb g hB hlt]; exact hh
    · rw [Array.getElem?_eq_none hge] at hh; cases hh

theorem Own.below {w w' : World} {B : Nat} {v : Value} {zs : List Int} (h : Own w B v zs) (hb : Below w.heap.size w w') : Own w' B v zs :=
  h.kept fun g _ hg => hb.block g hg

theorem Own.alloc {w : World} {B : Nat} {v : Value} {zs : List Int} (h : Own w B v zs) (o : Obj) : Own (w.alloc o) B v zs := World.ownsRow.alloc h o
theorem Own.drewN {w : World} {B : Nat} {v : Value} {zs : List Int} (h : Own w B v zs) (n : Nat) : Own (w.drewN n) B v zs := h

theorem Own.block {w : World} {B : Nat} {v : Value} {zs : List Int} (h : Own w B v zs) : ∀ k, v.ownBlock = some k → B ≤ k := fun k hk => (World.ownsRow.lt h k hk).1

/-- 's = append(s, x)', the new element in a block of its own just made -/
theorem wpList_push {ops : Array Oper} {rest : List Oper} {o : Oper} {a : Act} {Q : Exit → Act → World → Prop} (w : World) (n : Int) (B : Nat) (zs : List Int) (s x : Operand)
    (hgd : o.guard = none) (ho : o.op = .call { callee := .builtin .append, args := #[s, x], argTypes := #[99, 99] })
    (v : Value) (hs : a.eval s = v) (hx : a.eval x = .slice (some ⟨w.heap.size, 0, none⟩) 1 1) (hown : Own w B v zs) (hl : zs.length < 1099511627776) (hB : B ≤ w.heap.size)
    (h : ∀ v' w', Own w' B v' (zs ++ [n]) → Below B w w' → w.heap.size ≤ w'.heap.size → w.grownBy w' v.ownBlock → wpList Try.prog ops Q rest (a.put o.dst v') w') :
    wpList Try.prog ops Q (o :: rest) a (w.alloc (.cells #[.int .i64 n] 3)) := by
  obtain ⟨i0, hi, hz0, hz1, hz2⟩ := info_parts info_int
  refine wpList_append_own (w.alloc (.cells #[.int .i64 n] 3)) hgd s x 99 ho B 3 i0 (.int .i64 0) 1 8 Try.underlying99 hi hz0 hz1 hz2 rfl (by decide) v zs.length (zs.map (Value.int .i64)) hs (Own.alloc hown _)
    ⟨w.heap.size, 0, none⟩ 1 1 [.int .i64 n] hx rfl ?_ ?_ (by unfold maxLen; omega) (by omega) (by simp; omega) ?_
  · intro j u hj
    match j, hj with
    | 0, hj => simp at hj; subst hj; simp [Addr.add]
  · intro u hu; simp at hu; subst hu; rfl
  · intro v' w' h1 h2 _
    have hg : w.grownBy w' v.ownBlock := (World.grownBy_alloc w _ v.ownBlock).trans h2
    refine h v' w' (by unfold Own; simpa using h1) ?_ hg.size hg
    exact (Below.refl B w).grown hg hB (Own.block hown)
end Go.Proofs.Ytaegapcccboinaa

/- Rows of ints made by 'make', known whole. -/
namespace Go.Proofs.Ytaegapcccboinaa
open Go.RowKit

/-- block g is just the numbers zs -/
def Row (w : World) (g : Nat) (zs : List Int) : Prop := w.heap[g]? = some (.cells (zs.map (Value.int .i64)).toArray 3 (0, 0))
/-- block g is one variable of type t -/
def Box (w : World) (g : Nat) (t : TypeId) (v : Value) : Prop := w.heap[g]? = some (.cells #[v] t (0, 0))

theorem lt_of_block {w : World} {g : Nat} {o : Obj} (h : w.heap[g]? = some o) : g < w.heap.size := by
  rcases Nat.lt_or_ge g w.heap.size with hlt | hge
  · exact hlt
  · rw [Array.getElem?_eq_none hge] at h; cases h

section
variable {w w' : World} {g : Nat} {zs : List Int} {t : TypeId} {v : Value}
theorem Row.lt (h : Row w g zs) : g < w.heap.size := lt_of_block h
theorem Box.lt (h : Box w g t v) : g < w.heap.size := lt_of_block h
theorem Row.cell (h : Row w g zs) (i : Nat) (hi : i < zs.length) : w.cell? ⟨g, i, none⟩ = some (.int .i64 (zs.getD i 0)) := by
  unfold Row at h
  simp [World.cell?, h, List.getD, hi]
theorem Row.frozen (h : Row w g zs) (i : Nat) : w.frozen? ⟨g, i, none⟩ = false := by
  unfold Row at h
  simp [World.frozen?, h]
theorem Box.cell (h : Box w g t v) : w.cell? ⟨g, 0, none⟩ = some v := by
  unfold Box at h
  simp [World.cell?, h]
theorem Box.frozen (h : Box w g t v) : w.frozen? ⟨g, 0, none⟩ = false := by
  unfold Box at h
  simp [World.frozen?, h]
theorem Row.set_ (h : Row w g zs) (i : Nat) (x : Int) : Row (w.setCell ⟨g, i, none⟩ (.int .i64 x)) g (zs.set i x) := by
  unfold Row at h ⊢
  simp [World.setCell, Array.getElem?_modify, h]
theorem Box.set_ (h : Box w g t v) (u : Value) : Box (w.setCell ⟨g, 0, none⟩ u) g t u := by
  unfold Box at h ⊢
  simp [World.setCell, Array.getElem?_modify, h]
theorem Row.far (h : Row w g zs) {p : Addr} (hp : g ≠ p.block) (u : Value) : Row (w.setCell p u) g zs := (Below.heap_setCell w p u g hp).trans h
theorem Box.far (h : Box w g t v) {p : Addr} (hp : g ≠ p.block) (u : Value) : Box (w.setCell p u) g t v := (Below.heap_setCell w p u g hp).trans h
theorem Row.alloc (h : Row w g zs) (o : Obj) : Row (w.alloc o) g zs := (Below.heap_alloc w o g h.lt).trans h
theorem Box.alloc (h : Box w g t v) (o : Obj) : Box (w.alloc o) g t v := (Below.heap_alloc w o g h.lt).trans h
theorem Row.drewN (h : Row w g zs) (n : Nat) : Row (w.drewN n) g zs := h
theorem Row.drew (h : Row w g zs) : Row w.drew g zs := h
theorem Box.drewN (h : Box w g t v) (n : Nat) : Box (w.drewN n) g t v := h
theorem Box.drew (h : Box w g t v) : Box w.drew g t v := h
theorem Row.below {B : Nat} (h : Row w g zs) (hb : Below B w w') (hg : g < B) : Row w' g zs := (hb.block g hg).trans h
theorem Box.below {B : Nat} (h : Box w g t v) (hb : Below B w w') (hg : g < B) : Box w' g t v := (hb.block g hg).trans h
theorem Box.new (w : World) (t : TypeId) (v : Value) : Box (w.alloc (.cells #[v] t)) w.heap.size t v := heap_alloc_new w _
theorem Row.own (h : Row w g zs) {B : Nat} (hB : B ≤ g) (hl : zs.length ≤ maxLen) : Own w B (.slice (some ⟨g, 0, none⟩) zs.length zs.length) zs :=
  ⟨by simp, .inr ⟨g, zs.length, _, rfl, hB, h, Nat.le_refl _, hl, by simp, by simp [List.take_of_length_le]⟩⟩
theorem Row.ints (h : Row w g zs) (hl : zs.length ≤ maxLen) (hr : ∀ n ∈ zs, -9223372036854775808 ≤ n ∧ n ≤ 9223372036854775807) : Ints w (some ⟨g, 0, none⟩) zs :=
  ⟨hl, hr, .inr ⟨g, 0, rfl, h.lt, fun i hi => by rw [Nat.zero_add]; exact h.cell i hi⟩⟩
end

/-- n noughts, as cells -/
def zeros (n : Nat) : Array Value := madeCells #[.int .i64 0] n
theorem Row.made (w : World) (n : Nat) : Row (w.alloc (.cells (zeros n) 3)) w.heap.size (List.replicate n 0) := by
  have e : zeros n = ((List.replicate n 0).map (Value.int .i64)).toArray := by
    apply Array.toList_inj.1
    simp [zeros, toList_madeCells_one]
  rw [e]; exact heap_alloc_new w _

theorem make_ints (n : Nat) (hn : n ≤ 1099511627776) (u : World) : (Instr.makeSlice 99 (.int .i64 (n : Int)) (.int .i64 (n : Int))).run Try.prog u =
    .ok (.slice (some ⟨u.heap.size, 0, none⟩) n n) (u.alloc (.cells (zeros n) 3)) := by
  obtain ⟨i0, hi, hz0, hz1, hz2⟩ := info_parts info_int
  have h := run_make (P := Try.prog) u 99 3 i0 (.int .i64 0) Try.underlying99 hi hz0 .i64 .i64 (n : Int) (n : Int) (by omega) (Int.le_refl _) (by rw [hz2]; omega) (by omega)
  rw [Int.toNat_natCast] at h
  simpa [hz1, Value.cells, zeros] using h

/-! a row of the call's own, whatever its room: stores -/
theorem Own.set_ {w : World} {B g n cap : Nat} {zs : List Int} (h : Own w B (.slice (some ⟨g, 0, none⟩) n cap) zs) (i : Nat) (x : Int) :
    Own (w.setCell ⟨g, i, none⟩ (.int .i64 x)) B (.slice (some ⟨g, 0, none⟩) n cap) (zs.set i x) := by
  have hn : n = zs.length := by
    rcases h.2 with ⟨h0, _⟩ | ⟨g', cap', cur, h0, _⟩
    · cases h0
    · injection h0
  subst hn
  have := (World.ownsRow.stored h i (.int .i64 x)).1
  unfold Own
  rw [List.length_set, List.map_set]
  exact this
theorem Own.frozen {w : World} {B g n cap : Nat} {zs : List Int} (h : Own w B (.slice (some ⟨g, 0, none⟩) n cap) zs) (i : Nat) : w.frozen? ⟨g, i, none⟩ = false := by
  have hn : n = zs.length := by
    rcases h.2 with ⟨h0, _⟩ | ⟨g', cap', cur, h0, _⟩
    · cases h0
    · injection h0
  subst hn
  exact World.ownsRow.frozenAt h i
theorem Own.far {w : World} {B g n cap : Nat} {zs : List Int} (h : Own w B (.slice (some ⟨g, 0, none⟩) n cap) zs) {p : Addr} (hp : g ≠ p.block) (u : Value) :
    Own (w.setCell p u) B (.slice (some ⟨g, 0, none⟩) n cap) zs := by
  refine ⟨h.1, ?_⟩
  rcases h.2 with ⟨h0, _⟩ | ⟨g', cap', cur, h0, hB, hh, r⟩
  · cases h0
  · refine .inr ⟨g', cap', cur, h0, hB, ?_, r⟩
    have : g' = g := by injection h0 with h1; injection h1 with h1; injection h1 with h1; exact h1.symm
    subst this
    rw [Below.heap_setCell w p u _ hp]; exact hh
theorem Own.empty (w : World) (B : Nat) (hB : B ≤ w.heap.size) : Own (w.alloc (.cells #[] 3)) B (.slice (some ⟨w.heap.size, 0, none⟩) 0 0) [] :=
  World.ownsRow_lit w #[] 0 hB (Nat.zero_le _) rfl
theorem Own.ge {w : World} {B g n cap : Nat} {zs : List Int} (h : Own w B (.slice (some ⟨g, 0, none⟩) n cap) zs) : B ≤ g ∧ g < w.heap.size := by
  rcases h.form with ⟨h0, _⟩ | ⟨g', c', h0, h1, h2, _⟩
  · cases h0
  · injection h0 with h1'; injection h1' with h1'; injection h1' with h1'
    subst h1'; exact ⟨h1, h2⟩

/-- two rows of the call's own, in different blocks -/
def Two (w : World) (B : Nat) (v : Value) (zs : List Int) (u : Value) (ys : List Int) : Prop :=
  Own w B v zs ∧ Own w B u ys ∧ ∃ g h, v.ownBlock = some g ∧ u.ownBlock = some h ∧ g ≠ h ∧ g < w.heap.size ∧ h < w.heap.size

theorem Two.swap {w : World} {B : Nat} {v u : Value} {zs ys : List Int} (h : Two w B v zs u ys) : Two w B u ys v zs := by
  obtain ⟨a, b, g, k, e1, e2, e3, e4, e5⟩ := h
  exact ⟨b, a, k, g, e2, e1, fun e => e3 e.symm, e5, e4⟩
theorem Two.below {w w' : World} {B : Nat} {v u : Value} {zs ys : List Int} (h : Two w B v zs u ys) (hb : Below w.heap.size w w') : Two w' B v zs u ys := by
  obtain ⟨a, b, g, k, e1, e2, e3, e4, e5⟩ := h
  exact ⟨a.below hb, b.below hb, g, k, e1, e2, e3, Nat.lt_of_lt_of_le e4 hb.size, Nat.lt_of_lt_of_le e5 hb.size⟩

/-- 's = append(s, x)' beside another row -/
theorem wpList_push2 {ops : Array Oper} {rest : List Oper} {o : Oper} {a : Act} {Q : Exit → Act → World → Prop} (w : World) (n : Int) (B : Nat) (zs ys : List Int) (s x : Operand)
    (hgd : o.guard = none) (ho : o.op = .call { callee := .builtin .append, args := #[s, x], argTypes := #[99, 99] })
    (v u : Value) (hs : a.eval s = v) (hx : a.eval x = .slice (some ⟨w.heap.size, 0, none⟩) 1 1) (hown : Two w B v zs u ys) (hl : zs.length < 1099511627776) (hB : B ≤ w.heap.size)
    (h : ∀ v' w', Two w' B v' (zs ++ [n]) u ys → Below B w w' → wpList Try.prog ops Q rest (a.put o.dst v') w') :
    wpList Try.prog ops Q (o :: rest) a (w.alloc (.cells #[.int .i64 n] 3)) := by
  obtain ⟨h1, h2, g, k, e1, e2, e3, e4, e5⟩ := hown
  obtain ⟨i0, hi, hz0, hz1, hz2⟩ := info_parts info_int
  refine wpList_append_own_at (w.alloc (.cells #[.int .i64 n] 3)) hgd s x 99 ho B 3 i0 (.int .i64 0) 1 8 Try.underlying99 hi hz0 hz1 hz2 rfl (by decide) v zs.length (zs.map (Value.int .i64)) hs (Own.alloc h1 _)
    ⟨w.heap.size, 0, none⟩ 1 1 [.int .i64 n] hx rfl ?_ ?_ (by unfold maxLen; omega) (by omega) (by simp; omega) ?_
  · intro j u hj
    match j, hj with
    | 0, hj => simp at hj; subst hj; simp [Addr.add]
  · intro u hu; simp at hu; subst hu; rfl
  · intro v' w' p1 p2 _ p4
    have hg : w.grownBy w' v.ownBlock := (World.grownBy_alloc w _ v.ownBlock).trans p2
    have own' : Own w' B v' (zs ++ [n]) := by unfold Own; simpa using p1
    have hu : Own w' B u ys := World.ownsRow.kept h2 hg (.inr (by rw [e1, e2]; intro e; injection e with e; exact e3 e.symm))
    refine h v' w' ⟨own', hu, ?_⟩ ((Below.refl B w).grown hg hB (Own.block h1))
    have hz := hg.size
    rcases p4 with p4 | p4
    · exact ⟨g, k, by rw [p4, e1], e2, e3, by omega, by omega⟩
    · refine ⟨w.heap.size + 1, k, by rw [p4]; simp, e2, by omega, ?_, by omega⟩
      have := World.ownsRow.lt p1 (w.heap.size + 1) (by rw [p4]; simp)
      exact this.2
end Go.Proofs.Ytaegapcccboinaa
