/- Put together: SeriesMath, ProdCells, ListMath, Base, Own, Vals, Txt, WordsA. -/
import Derived.Test.YtagmknahmkniaaaBun2
import Derived.Laws.Strings
import Derived.Test.YtagmknahmkniaaaBun1
import Derived.Below
import Derived.Test.YtagmknahmkniaaaRows
import Derived.WalkKit
import Derived.WalkSpells
import Derived.WalkLawsBesides
import Derived.IntWalk
import Derived.Lib.Hide
import Derived.Deep.QuietTactic
import Derived.BigQuiet
import Derived.Deep.Draws
import Derived.OpenShut
import Derived.Laws.IdiomStrings
import Derived.Laws.Concat
/- Layer 10's mathematics: series in order, sorted lists without repeats. -/
namespace EM
open Go
structure Ser where
  prod : ByteArray
  kind : Int
  expiry : Int
  strike : Int
def zero : Ser := ⟨⟨#[]⟩, 0, 0, 0⟩
def less (a b : Ser) : Bool := Op.bytesLess a.prod.toList b.prod.toList
def ord (a b : Int) : Int := if a < b then -1 else if b < a then 1 else 0
def cmp (a b : Ser) : Int :=
  if less a b = true then -1 else if less b a = true then 1 else if a.expiry ≠ b.expiry then ord a.expiry b.expiry else if a.kind ≠ b.kind then ord a.kind b.kind else ord a.strike b.strike
theorem toList_inj {s t : ByteArray} (h : s.toList = t.toList) : s = t := by
  rw [Go.ByteArray.toList_eq, Go.ByteArray.toList_eq] at h
  cases s; cases t
  simp only [ByteArray.mk.injEq]
  exact Array.toList_inj.1 h
theorem same_prod {a b : Ser} (h1 : less a b = false) (h2 : less b a = false) : a.prod = b.prod := by
  unfold less at h1 h2
  rcases OM.bl_tri a.prod.toList b.prod.toList with h | h | h
  · rw [h] at h1; cases h1
  · exact toList_inj h
  · rw [h] at h2; cases h2
theorem less_irrefl (a : Ser) : less a a = false := OM.bl_irrefl _
theorem less_asymm {a b : Ser} (h : less a b = true) : less b a = false := OM.bl_asymm h
theorem less_trans {a b c : Ser} (h1 : less a b = true) (h2 : less b c = true) : less a c = true := OM.bl_trans _ _ _ h1 h2
/-- a is ahead of b -/
def lt (a b : Ser) : Prop := less a b = true ∨ (a.prod = b.prod ∧ (a.expiry < b.expiry ∨ (a.expiry = b.expiry ∧ (a.kind < b.kind ∨ (a.kind = b.kind ∧ a.strike < b.strike)))))
theorem less_of_eq {a b c : Ser} (h : b.prod = c.prod) : less a b = less a c := by unfold less; rw [h]
theorem less_of_eq' {a b c : Ser} (h : a.prod = b.prod) : less a c = less b c := by unfold less; rw [h]
theorem less_eq_false {a b : Ser} (h : a.prod = b.prod) : less a b = false := by unfold less; rw [h]; exact OM.bl_irrefl _
theorem lt_irrefl (a : Ser) : ¬ lt a a := by
  unfold lt
  rw [less_irrefl]
  simp
theorem lt_trans {a b c : Ser} (h1 : lt a b) (h2 : lt b c) : lt a c := by
  unfold lt at *
  rcases h1 with h1 | ⟨e1, h1⟩
  · rcases h2 with h2 | ⟨e2, h2⟩
    · exact .inl (less_trans h1 h2)
    · left; rw [← less_of_eq e2]; exact h1
  · rcases h2 with h2 | ⟨e2, h2⟩
    · left; rw [less_of_eq' e1]; exact h2
    · right; exact ⟨e1.trans e2, by omega⟩
theorem lt_tri (a b : Ser) : lt a b ∨ a = b ∨ lt b a := by
  cases h1 : less a b
  · cases h2 : less b a
    · have e := same_prod h1 h2
      by_cases g1 : a.expiry = b.expiry
      · by_cases g2 : a.kind = b.kind
        · by_cases g3 : a.strike = b.strike
          · right; left
            cases a; cases b
            simp_all
          · rcases Int.lt_or_gt_of_ne g3 with g | g
            · exact .inl (.inr ⟨e, by omega⟩)
            · exact .inr (.inr (.inr ⟨e.symm, by omega⟩))
        · rcases Int.lt_or_gt_of_ne g2 with g | g
          · exact .inl (.inr ⟨e, by omega⟩)
          · exact .inr (.inr (.inr ⟨e.symm, by omega⟩))
      · rcases Int.lt_or_gt_of_ne g1 with g | g
        · exact .inl (.inr ⟨e, by omega⟩)
        · exact .inr (.inr (.inr ⟨e.symm, by omega⟩))
    · exact .inr (.inr (.inl h2))
  · exact .inl (.inl h1)
theorem lt_asymm {a b : Ser} (h : lt a b) : ¬ lt b a := fun g => lt_irrefl a (lt_trans h g)
theorem cmp_lt {a b : Ser} (h : lt a b) : cmp a b = -1 := by
  unfold cmp
  rcases h with h | ⟨e, h⟩
  · rw [if_pos h]
  · rw [if_neg (by rw [less_eq_false e]; simp), if_neg (by rw [less_eq_false e.symm]; simp)]
    by_cases g1 : a.expiry = b.expiry
    · rw [if_neg (by simp [g1])]
      by_cases g2 : a.kind = b.kind
      · rw [if_neg (by simp [g2])]
        unfold ord; rw [if_pos (by omega)]
      · rw [if_pos g2]; unfold ord; rw [if_pos (by omega)]
    · rw [if_pos g1]; unfold ord; rw [if_pos (by omega)]
theorem cmp_gt {a b : Ser} (h : lt b a) : cmp a b = 1 := by
  unfold cmp
  rcases h with h | ⟨e, h⟩
  · rw [if_neg (by rw [less_asymm h]; simp), if_pos h]
  · rw [if_neg (by rw [less_eq_false e.symm]; simp), if_neg (by rw [less_eq_false e]; simp)]
    by_cases g1 : a.expiry = b.expiry
    · rw [if_neg (by simp [g1])]
      by_cases g2 : a.kind = b.kind
      · rw [if_neg (by simp [g2])]
        unfold ord; rw [if_neg (by omega), if_pos (by omega)]
      · rw [if_pos g2]; unfold ord; rw [if_neg (by omega), if_pos (by omega)]
    · rw [if_pos g1]; unfold ord; rw [if_neg (by omega), if_pos (by omega)]
theorem cmp_self (a : Ser) : cmp a a = 0 := by
  unfold cmp
  rw [if_neg (by rw [less_irrefl]; simp), if_neg (by rw [less_irrefl]; simp), if_neg (by simp), if_neg (by simp)]
  unfold ord; simp
/-- which of the three -/
theorem cmp_cases (a b : Ser) : (cmp a b = -1 ∧ lt a b) ∨ (cmp a b = 0 ∧ a = b) ∨ (cmp a b = 1 ∧ lt b a) := by
  rcases lt_tri a b with h | rfl | h
  · exact .inl ⟨cmp_lt h, h⟩
  · exact .inr (.inl ⟨cmp_self a, rfl⟩)
  · exact .inr (.inr ⟨cmp_gt h, h⟩)
theorem cmp_zero {a b : Ser} : cmp a b = 0 ↔ a = b := by
  constructor
  · intro h
    rcases cmp_cases a b with ⟨g, _⟩ | ⟨_, g⟩ | ⟨g, _⟩
    · rw [g] at h; cases h
    · exact g
    · rw [g] at h; cases h
  · rintro rfl; exact cmp_self a
theorem cmp_neg {a b : Ser} : cmp a b = -1 ↔ lt a b := by
  constructor
  · intro h
    rcases cmp_cases a b with ⟨_, g⟩ | ⟨g, _⟩ | ⟨g, _⟩
    · exact g
    · rw [g] at h; cases h
    · rw [g] at h; cases h
  · exact cmp_lt
theorem cmp_anti (a b : Ser) : cmp b a = -cmp a b := by
  rcases cmp_cases a b with ⟨h, g⟩ | ⟨h, rfl⟩ | ⟨h, g⟩
  · rw [h, cmp_gt g]; rfl
  · rw [h]; rfl
  · rw [h, cmp_lt g]
theorem cmp_range (a b : Ser) : -1 ≤ cmp a b ∧ cmp a b ≤ 1 := by
  rcases cmp_cases a b with ⟨h, _⟩ | ⟨h, _⟩ | ⟨h, _⟩ <;> omega
/-- what is ahead of one that is ahead is ahead -/
theorem cmp_trans (a b c : Ser) : 0 < cmp a b ∨ 0 < cmp b c ∨ (cmp a c ≤ 0 ∧ (cmp a c < 0 ↔ (cmp a b < 0 ∨ cmp b c < 0))) := by
  rcases cmp_cases a b with ⟨h1, g1⟩ | ⟨h1, rfl⟩ | ⟨h1, g1⟩
  · rcases cmp_cases b c with ⟨h2, g2⟩ | ⟨h2, rfl⟩ | ⟨h2, g2⟩
    · right; right
      rw [cmp_lt (lt_trans g1 g2)]; omega
    · right; right; omega
    · right; left; omega
  · rcases cmp_cases a c with ⟨h2, g2⟩ | ⟨h2, rfl⟩ | ⟨h2, g2⟩
    · right; right; omega
    · right; right; omega
    · right; left; omega
  · left; omega

/-! sorted lists -/
def asc (l : List Ser) : Prop := l.Pairwise lt
/-- one more in its place, if it is not there -/
def put (s : Ser) : List Ser → List Ser
  | [] => [s]
  | x :: r => if cmp s x < 0 then s :: x :: r else if cmp s x = 0 then x :: r else x :: put s r
theorem put_mem (s : Ser) (l : List Ser) (y : Ser) : y ∈ put s l ↔ y = s ∨ y ∈ l := by
  induction l with
  | nil => simp [put]
  | cons x r ih =>
    unfold put
    by_cases h : cmp s x < 0
    · rw [if_pos h]; simp
    · rw [if_neg h]
      by_cases h0 : cmp s x = 0
      · rw [if_pos h0]
        have := cmp_zero.1 h0
        subst this
        simp
      · rw [if_neg h0, List.mem_cons, ih, List.mem_cons]
        constructor
        · rintro (h | h | h)
          · exact .inr (.inl h)
          · exact .inl h
          · exact .inr (.inr h)
        · rintro (h | h | h)
          · exact .inr (.inl h)
          · exact .inl h
          · exact .inr (.inr h)
theorem put_asc (s : Ser) {l : List Ser} (h : asc l) : asc (put s l) := by
  induction l with
  | nil => unfold put asc; simp
  | cons x r ih =>
    obtain ⟨h1, h2⟩ := List.pairwise_cons.1 h
    unfold put
    by_cases hc : cmp s x < 0
    · rw [if_pos hc]
      have hl : lt s x := cmp_neg.1 (by have := cmp_range s x; omega)
      refine List.pairwise_cons.2 ⟨fun y hy => ?_, h⟩
      rcases List.mem_cons.1 hy with rfl | hy
      · exact hl
      · exact lt_trans hl (h1 y hy)
    · rw [if_neg hc]
      by_cases h0 : cmp s x = 0
      · rw [if_pos h0]; exact h
      · rw [if_neg h0]
        refine List.pairwise_cons.2 ⟨fun y hy => ?_, ih h2⟩
        rcases (put_mem s r y).1 hy with rfl | hy
        · rcases cmp_cases y x with ⟨g, _⟩ | ⟨g, _⟩ | ⟨_, g⟩
          · omega
          · omega
          · exact g
        · exact h1 y hy
def sortL (l : List Ser) : List Ser := l.foldl (fun out s => put s out) []
theorem sort_snoc (l : List Ser) (s : Ser) : sortL (l ++ [s]) = put s (sortL l) := by simp [sortL]
theorem fold_asc (l : List Ser) : ∀ out, asc out → asc (l.foldl (fun out s => put s out) out) := by
  induction l with
  | nil => intro out h; exact h
  | cons s l ih => intro out h; exact ih _ (put_asc s h)
theorem fold_mem (l : List Ser) (y : Ser) : ∀ out, y ∈ l.foldl (fun out s => put s out) out ↔ y ∈ out ∨ y ∈ l := by
  induction l with
  | nil => intro out; simp
  | cons s l ih =>
    intro out
    rw [List.foldl_cons, ih, put_mem, List.mem_cons]
    constructor
    · rintro ((h | h) | h)
      · exact .inr (.inl h)
      · exact .inl h
      · exact .inr (.inr h)
    · rintro (h | h | h)
      · exact .inl (.inr h)
      · exact .inl (.inl h)
      · exact .inr h
theorem sort_asc (l : List Ser) : asc (sortL l) := fold_asc l [] List.Pairwise.nil
theorem sort_mem (l : List Ser) (y : Ser) : y ∈ sortL l ↔ y ∈ l := by
  unfold sortL; rw [fold_mem]; simp
/-- two that rise and hold the same are the same -/
theorem asc_unique : ∀ {l k : List Ser}, asc l → asc k → (∀ y, y ∈ l ↔ y ∈ k) → l = k := by
  intro l
  induction l with
  | nil =>
    intro k _ _ h
    cases k with
    | nil => rfl
    | cons y r => exact absurd ((h y).2 (by simp)) (by simp)
  | cons x r ih =>
    intro k hl hk h
    cases k with
    | nil => exact absurd ((h x).1 (by simp)) (by simp)
    | cons y s =>
      obtain ⟨l1, l2⟩ := List.pairwise_cons.1 hl
      obtain ⟨k1, k2⟩ := List.pairwise_cons.1 hk
      have e : x = y := by
        rcases List.mem_cons.1 ((h x).1 (by simp)) with g | g
        · exact g
        · rcases List.mem_cons.1 ((h y).2 (by simp)) with g' | g'
          · exact g'.symm
          · exact absurd (l1 y g') (lt_asymm (k1 x g))
      subst e
      congr 1
      refine ih l2 k2 fun z => ?_
      constructor
      · intro hz
        rcases List.mem_cons.1 ((h z).1 (List.mem_cons_of_mem _ hz)) with rfl | g
        · exact absurd (l1 z hz) (lt_irrefl z)
        · exact g
      · intro hz
        rcases List.mem_cons.1 ((h z).2 (List.mem_cons_of_mem _ hz)) with rfl | g
        · exact absurd (k1 z hz) (lt_irrefl z)
        · exact g
theorem sort_again (l : List Ser) : sortL (sortL l) = sortL l := asc_unique (sort_asc _) (sort_asc _) (fun y => sort_mem _ y)
theorem sort_of_asc {l k : List Ser} (h : asc k) (hm : ∀ y, y ∈ k ↔ y ∈ l) : k = sortL l := asc_unique h (sort_asc l) (fun y => by rw [hm, sort_mem])
theorem asc_at {l : List Ser} (h : asc l) {i : Nat} (h1 : 0 < i) (h2 : i < l.length) : lt l[i - 1] l[i] := List.pairwise_iff_getElem.1 h (i - 1) i (by omega) h2 (by omega)
end EM

/- Products and series in memory, over any program. -/
namespace Go.Recs
open Go.RowKit
set_option linter.unusedVariables false
def i64 (n : Int) : Prop := -9223372036854775808 ≤ n ∧ n ≤ 9223372036854775807
def prodV (p : QM.Prod) : List Value := [.string p.name, .int .i64 p.cur, .int .i64 p.mult, .int .i64 p.tick, .int .i64 p.low, .int .i64 p.high, .bool p.phys]
def prodQ (p : QM.Prod) : Prop := p.name.size ≤ maxLen ∧ i64 p.cur ∧ i64 p.mult ∧ i64 p.tick ∧ i64 p.low ∧ i64 p.high
def prodL : List Leaf := [.str, .int .i64, .int .i64, .int .i64, .int .i64, .int .i64, .bool]
def serV (s : EM.Ser) : List Value := [.string s.prod, .int .i64 s.kind, .int .i64 s.expiry, .int .i64 s.strike]
def serQ (s : EM.Ser) : Prop := s.prod.size ≤ maxLen ∧ i64 s.kind ∧ i64 s.expiry ∧ i64 s.strike
def serL : List Leaf := [.str, .int .i64, .int .i64, .int .i64]
theorem okAll_cons {l : Leaf} {ls : List Leaf} {r : List Value} (h : okAll (l :: ls) r) : ∃ c r', r = c :: r' ∧ l.ok c ∧ okAll ls r' := by
  cases r with
  | nil => exact h.elim
  | cons c r => exact ⟨c, r, rfl, h.1, h.2⟩
theorem okAll_nil {r : List Value} (h : okAll [] r) : r = [] := by
  cases r with
  | nil => rfl
  | cons c r => exact h.elim
theorem prod_row (r : List Value) (h : okAll prodL r) : ∃ p : QM.Prod, r = prodV p ∧ prodQ p := by
  obtain ⟨c0, r0, rfl, ⟨s, rfl, hs⟩, g0⟩ := okAll_cons h
  obtain ⟨c1, r1, rfl, ⟨n1, rfl, h1⟩, g1⟩ := okAll_cons g0
  obtain ⟨c2, r2, rfl, ⟨n2, rfl, h2⟩, g2⟩ := okAll_cons g1
  obtain ⟨c3, r3, rfl, ⟨n3, rfl, h3⟩, g3⟩ := okAll_cons g2
  obtain ⟨c4, r4, rfl, ⟨n4, rfl, h4⟩, g4⟩ := okAll_cons g3
  obtain ⟨c5, r5, rfl, ⟨n5, rfl, h5⟩, g5⟩ := okAll_cons g4
  obtain ⟨c6, r6, rfl, ⟨b, rfl⟩, g6⟩ := okAll_cons g5
  rw [okAll_nil g6]
  exact ⟨⟨s, n1, n2, n3, n4, n5, b⟩, rfl, hs, bounds_i64 h1, bounds_i64 h2, bounds_i64 h3, bounds_i64 h4, bounds_i64 h5⟩
theorem ser_row (r : List Value) (h : okAll serL r) : ∃ s : EM.Ser, r = serV s ∧ serQ s := by
  obtain ⟨c0, r0, rfl, ⟨s, rfl, hs⟩, g0⟩ := okAll_cons h
  obtain ⟨c1, r1, rfl, ⟨n1, rfl, h1⟩, g1⟩ := okAll_cons g0
  obtain ⟨c2, r2, rfl, ⟨n2, rfl, h2⟩, g2⟩ := okAll_cons g1
  obtain ⟨c3, r3, rfl, ⟨n3, rfl, h3⟩, g3⟩ := okAll_cons g2
  rw [okAll_nil g3]
  exact ⟨⟨s, n1, n2, n3⟩, rfl, hs, bounds_i64 h1, bounds_i64 h2, bounds_i64 h3⟩
abbrev Prods := TR prodV prodQ 7
abbrev Sers := TR serV serQ 4
theorem prods_get {w : World} {A : Option Addr} {l : List QM.Prod} (h : Prods w A l) {k : Nat} (hk : k < l.length) :
    ∃ b off, ∃ p : QM.Prod, A = some ⟨b, off, none⟩ ∧ b < w.heap.size ∧ Hid (QM.pAt l k = p) ∧ prodQ p ∧ w.cell? ⟨b, off + k * 7, none⟩ = some (.string p.name) ∧ w.cell? ⟨b, off + k * 7 + 1, none⟩ = some (.int .i64 p.cur) ∧
      w.cell? ⟨b, off + k * 7 + 2, none⟩ = some (.int .i64 p.mult) ∧ w.cell? ⟨b, off + k * 7 + 3, none⟩ = some (.int .i64 p.tick) ∧ w.cell? ⟨b, off + k * 7 + 4, none⟩ = some (.int .i64 p.low) ∧
      w.cell? ⟨b, off + k * 7 + 5, none⟩ = some (.int .i64 p.high) ∧ w.cell? ⟨b, off + k * 7 + 6, none⟩ = some (.bool p.phys) := by
  obtain ⟨b, off, rfl, hb, hq, hc⟩ := h.at_ hk
  refine ⟨b, off, l[k], rfl, hb, Lib.hid (by simp [QM.pAt, List.getD, hk]), hq, hc 0 (by omega), hc 1 (by omega), hc 2 (by omega), hc 3 (by omega), hc 4 (by omega), hc 5 (by omega), hc 6 (by omega)⟩
def sAt (l : List EM.Ser) (k : Nat) : EM.Ser := l.getD k EM.zero
theorem sers_get {w : World} {A : Option Addr} {l : List EM.Ser} (h : Sers w A l) {k : Nat} (hk : k < l.length) :
    ∃ b off, ∃ s : EM.Ser, A = some ⟨b, off, none⟩ ∧ b < w.heap.size ∧ Hid (sAt l k = s) ∧ serQ s ∧ w.cell? ⟨b, off + k * 4, none⟩ = some (.string s.prod) ∧ w.cell? ⟨b, off + k * 4 + 1, none⟩ = some (.int .i64 s.kind) ∧
      w.cell? ⟨b, off + k * 4 + 2, none⟩ = some (.int .i64 s.expiry) ∧ w.cell? ⟨b, off + k * 4 + 3, none⟩ = some (.int .i64 s.strike) := by
  obtain ⟨b, off, rfl, hb, hq, hc⟩ := h.at_ hk
  refine ⟨b, off, l[k], rfl, hb, Lib.hid (by simp [sAt, List.getD, hk]), hq, hc 0 (by omega), hc 1 (by omega), hc 2 (by omega), hc 3 (by omega)⟩
end Go.Recs

/- Plain lists of numbers: sums and the like. -/
namespace LM

def tot : List Int → Int
  | [] => 0
  | x :: l => x + tot l

theorem tot_append (l m : List Int) : tot (l ++ m) = tot l + tot m := by
  induction l with
  | nil => simp [tot]
  | cons x l ih => simp only [List.cons_append, tot, ih]; omega

theorem tot_reverse (l : List Int) : tot l.reverse = tot l := by
  induction l with
  | nil => rfl
  | cons x l ih => rw [List.reverse_cons, tot_append, ih]; simp only [tot]; omega

theorem getD_at (l : List Int) (k : Nat) (h : k < l.length) : l.getD k 0 = l[k] := by simp [List.getD, h]

theorem take_snoc (l : List Int) (k : Nat) (h : k < l.length) : l.take (k + 1) = l.take k ++ [l.getD k 0] := by
  rw [List.take_succ_eq_append_getElem h, getD_at l k h]

theorem tot_take_succ (l : List Int) (k : Nat) (h : k < l.length) : tot (l.take (k + 1)) = tot (l.take k) + l.getD k 0 := by
  rw [take_snoc l k h, tot_append]; simp [tot]

theorem getD_mem (l : List Int) (k : Nat) (h : k < l.length) : l.getD k 0 ∈ l := by
  rw [getD_at l k h]; exact List.getElem_mem h

end LM

/- What a slice of ints reads as; small laws. -/
namespace Go.Proofs.Ytagmknahmkniaaa
open Go.RowKit

/-- a slice at A holds the numbers zs, in w -/
def Ints (w : World) (A : Option Addr) (zs : List Int) : Prop :=
  zs.length ≤ maxLen ∧ (∀ n ∈ zs, -9223372036854775808 ≤ n ∧ n ≤ 9223372036854775807) ∧
  (zs = [] ∨ ∃ b off, A = some ⟨b, off, none⟩ ∧ b < w.heap.size ∧ ∀ i, i < zs.length → w.cell? ⟨b, off + i, none⟩ = some (.int .i64 (zs.getD i 0)))

theorem Ints.at_ {w : World} {A : Option Addr} {zs : List Int} (h : Ints w A zs) {k : Nat} (hk : k < zs.length) :
    ∃ b off, A = some ⟨b, off, none⟩ ∧ b < w.heap.size ∧ ∀ i, i < zs.length → w.cell? ⟨b, off + i, none⟩ = some (.int .i64 (zs.getD i 0)) := by
  rcases h.2.2 with h | h
  · subst h; simp at hk
  · exact h

theorem Ints.range {w : World} {A : Option Addr} {zs : List Int} (h : Ints w A zs) {k : Nat} (hk : k < zs.length) :
    -9223372036854775808 ≤ zs.getD k 0 ∧ zs.getD k 0 ≤ 9223372036854775807 := h.2.1 _ (LM.getD_mem zs k hk)

/-- element k, under a name of its own -/
theorem Ints.get {w : World} {A : Option Addr} {zs : List Int} (h : Ints w A zs) {k : Nat} (hk : k < zs.length) :
    ∃ b off v, A = some ⟨b, off, none⟩ ∧ b < w.heap.size ∧ w.cell? ⟨b, off + k, none⟩ = some (.int .i64 v) ∧ Hid (zs.getD k 0 = v) ∧ -9223372036854775808 ≤ v ∧ v ≤ 9223372036854775807 := by
  obtain ⟨b, off, rfl, hb, hc⟩ := h.at_ hk
  exact ⟨b, off, _, rfl, hb, hc k hk, rfl, h.range hk⟩

theorem Ints.len {w : World} {A : Option Addr} {zs : List Int} (h : Ints w A zs) : zs.length ≤ 9223372036854775807 := h.1

theorem Ints.keep {w w' : World} {A : Option Addr} {zs : List Int} (h : Ints w A zs) (hz : w.heap.size ≤ w'.heap.size)
    (hk : ∀ b o, b < w.heap.size → w'.cell? ⟨b, o, none⟩ = w.cell? ⟨b, o, none⟩) : Ints w' A zs := by
  refine ⟨h.1, h.2.1, ?_⟩
  rcases h.2.2 with h | ⟨b, off, rfl, hb, hc⟩
  · exact .inl h
  · exact .inr ⟨b, off, rfl, by omega, fun i hi => by rw [hk _ _ hb]; exact hc i hi⟩

theorem Ints.below {w w' : World} {A : Option Addr} {zs : List Int} (h : Ints w A zs) (hb : Below w.heap.size w w') : Ints w' A zs :=
  h.keep hb.size fun b o hlt => hb.cell (p := ⟨b, o, none⟩) hlt

theorem Ints.drewN {w : World} {A : Option Addr} {zs : List Int} (h : Ints w A zs) (n : Nat) : Ints (w.drewN n) A zs := h
theorem Ints.drew {w : World} {A : Option Addr} {zs : List Int} (h : Ints w A zs) : Ints w.drew A zs := h

theorem Ints.of_row {w : World} {x : Addr} {len cap : Nat} {zs : List Int} (hl : len ≤ cap) (hm : cap ≤ maxLen) (hz : zs.length = cap)
    (hcell : ∀ i, i < zs.length → w.cell? (x.add i) = some (.int .i64 (zs.getD i 0))) (hwz : ∀ n ∈ zs, (Lit.int .i64 n).wf = true) : Ints w (some x) (zs.take len) := by
  refine ⟨by simp; omega, fun n hn => bounds_i64 (hwz n (List.mem_of_mem_take hn)), ?_⟩
  rcases Nat.eq_zero_or_pos len with h0 | h0
  · subst h0; exact .inl (by simp)
  · obtain ⟨b, off, spot⟩ := x
    have hc := hcell 0 (by omega)
    have hspot : spot = none := by simpa [Addr.add] using World.cell?_spot hc
    subst hspot
    refine .inr ⟨b, off, rfl, World.block_lt_of_cell? _ _ hc, fun i hi => ?_⟩
    have hi' : i < len := by simp at hi; omega
    have := hcell i (by omega)
    rw [show (zs.take len).getD i 0 = zs.getD i 0 from by simp [List.getD, hi']]
    have e : (⟨b, off, none⟩ : Addr).add i = ⟨b, off + i, none⟩ := by
      unfold Addr.add
      by_cases h0 : i = 0
      · subst h0; simp
      · simp [h0]
    rwa [e] at this

theorem below_drewN {B : Nat} {a w : World} (h : Below B a w) (n : Nat) : Below B a (w.drewN n) := ⟨h.os, h.tape, h.output, h.size, h.block⟩

theorem Ints.nil (w : World) (A : Option Addr) : Ints w A [] := ⟨by simp, by simp, .inl rfl⟩

end Go.Proofs.Ytagmknahmkniaaa

/- Slices of ints that the call itself makes. -/
namespace Go.Proofs.Ytagmknahmkniaaa
open Go.RowKit

theorem info_int : (Try.prog.info? 3).map (fun i => (i.zero, i.size, i.bytes)) = some (some (.int .i64 0), 1, 8) := by kernel_rfl

/-- the slice v, in memory from block B on, holds the numbers zs -/
def Own (w : World) (B : Nat) (v : Value) (zs : List Int) : Prop := w.ownsRow B 3 1 v zs.length (zs.map (Value.int .i64))

theorem Own.nil (w : World) (B : Nat) : Own w B (.slice none 0 0) [] := World.ownsRow_nil _ _ _ _

theorem Own.form {w : World} {B : Nat} {v : Value} {zs : List Int} (h : Own w B v zs) :
    (v = .slice none 0 0 ∧ zs = []) ∨ ∃ g cap, v = .slice (some ⟨g, 0, none⟩) zs.length cap ∧ B ≤ g ∧ g < w.heap.size ∧ zs.length ≤ cap := by
  rcases h.2 with ⟨rfl, h0⟩ | ⟨g, cap, cur, rfl, hB, hh, hn, _⟩
  · exact .inl ⟨rfl, List.eq_nil_of_length_eq_zero h0⟩
  · refine .inr ⟨g, cap, rfl, hB, ?_, hn⟩
    rcases Nat.lt_or_ge g w.heap.size with hlt | hge
    · exact hlt
    · rw [Array.getElem?_eq_none hge] at hh; cases hh

theorem Own.len {w : World} {B : Nat} {v : Value} {zs : List Int} (h : Own w B v zs) : zs.length ≤ maxLen := by
  rcases h.2 with ⟨_, h0⟩ | ⟨g, cap, cur, _, _, _, hn, hm, _⟩
  · rw [h0]; exact Nat.zero_le _
  · exact Nat.le_trans hn hm

theorem Own.cell {w : World} {B g cap : Nat} {zs : List Int} {n : Nat} (h : Own w B (.slice (some ⟨g, 0, none⟩) n cap) zs) (i : Nat) (hi : i < zs.length) :
    w.cell? ⟨g, i, none⟩ = some (.int .i64 (zs.getD i 0)) := by
  have hn : n = zs.length := by
    rcases h.2 with ⟨h0, _⟩ | ⟨g', cap', cur, h0, _⟩
    · cases h0
    · injection h0
  subst hn
  rw [World.ownsRow.cellAt h i (by omega)]
  simp [List.getD, hi]

theorem Own.ints {w : World} {B : Nat} {v : Value} {zs : List Int} (h : Own w B v zs) (hr : ∀ n ∈ zs, -9223372036854775808 ≤ n ∧ n ≤ 9223372036854775807) :
    ∃ A cap, v = .slice A zs.length cap ∧ Ints w A zs := by
  rcases h.form with ⟨rfl, rfl⟩ | ⟨g, cap, rfl, hB, hg, _⟩
  · exact ⟨none, 0, rfl, Ints.nil _ _⟩
  · refine ⟨_, cap, rfl, h.len, hr, .inr ⟨g, 0, rfl, hg, fun i hi => ?_⟩⟩
    rw [Nat.zero_add]
    exact h.cell i hi

theorem Own.kept {w w' : World} {B : Nat} {v : Value} {zs : List Int} (h : Own w B v zs) (hb : ∀ g, B ≤ g → g < w.heap.size → w'.heap[g]? = w.heap[g]?) : Own w' B v zs := by
  refine ⟨h.1, ?_⟩
  rcases h.2 with h0 | ⟨g, cap, cur, hv, hB, hh, r⟩
  · exact .inl h0
  · refine .inr ⟨g, cap, cur, hv, hB, ?_, r⟩
    rcases Nat.lt_or_ge g w.heap.size with hlt | hge
    · rw [hb g hB hlt]; exact hh
    · rw [Array.getElem?_eq_none hge] at hh; cases hh

theorem Own.below {w w' : World} {B : Nat} {v : Value} {zs : List Int} (h : Own w B v zs) (hb : Below w.heap.size w w') : Own w' B v zs :=
  h.kept fun g _ hg => hb.block g hg

theorem Own.alloc {w : World} {B : Nat} {v : Value} {zs : List Int} (h : Own w B v zs) (o : Obj) : Own (w.alloc o) B v zs := World.ownsRow.alloc h o
theorem Own.drewN {w : World} {B : Nat} {v : Value} {zs : List Int} (h : Own w B v zs) (n : Nat) : Own (w.drewN n) B v zs := h

theorem Own.block {w : World} {B : Nat} {v : Value} {zs : List Int} (h : Own w B v zs) : ∀ k, v.ownBlock = some k → B ≤ k := fun k hk => (World.ownsRow.lt h k hk).1

/-- 's = append(s, x)', the new element in a block of its own just made -/
theorem wpList_push {ops : Array Oper} {rest : List Oper} {o : Oper} {a : Act} {Q : Exit → Act → World → Prop} (w : World) (n : Int) (B : Nat) (zs : List Int) (s x : Operand)
    (hgd : o.guard = none) (ho : o.op = .call { callee := .builtin .append, args := #[s, x], argTypes := #[75, 75] })
    (v : Value) (hs : a.eval s = v) (hx : a.eval x = .slice (some ⟨w.heap.size, 0, none⟩) 1 1) (hown : Own w B v zs) (hl : zs.length < 1099511627776) (hB : B ≤ w.heap.size)
    (h : ∀ v' w', Own w' B v' (zs ++ [n]) → Below B w w' → w.heap.size ≤ w'.heap.size → w.grownBy w' v.ownBlock → wpList Try.prog ops Q rest (a.put o.dst v') w') :
    wpList Try.prog ops Q (o :: rest) a (w.alloc (.cells #[.int .i64 n] 3)) := by
  obtain ⟨i0, hi, hz0, hz1, hz2⟩ := info_parts info_int
  refine wpList_append_own (w.alloc (.cells #[.int .i64 n] 3)) hgd s x 75 ho B 3 i0 (.int .i64 0) 1 8 Try.underlying75 hi hz0 hz1 hz2 rfl (by decide) v zs.length (zs.map (Value.int .i64)) hs (Own.alloc hown _)
    ⟨w.heap.size, 0, none⟩ 1 1 [.int .i64 n] hx rfl ?_ ?_ (by unfold maxLen; omega) (by omega) (by simp; omega) ?_
  · intro j u hj
    match j, hj with
    | 0, hj => simp at hj; subst hj; simp [Addr.add]
  · intro u hu; simp at hu; subst hu; rfl
  · intro v' w' h1 h2 _
    have hg : w.grownBy w' v.ownBlock := (World.grownBy_alloc w _ v.ownBlock).trans h2
    refine h v' w' (by unfold Own; simpa using h1) ?_ hg.size hg
    exact (Below.refl B w).grown hg hB (Own.block hown)
end Go.Proofs.Ytagmknahmkniaaa

/- Slices of values of one cell each, of whatever type: what a slice holds, and slices that the call itself makes. -/
namespace Go.Proofs.Ytagmknahmkniaaa
open Go.RowKit

/-- a slice at A holds the values vs, in w -/
def Vals (w : World) (A : Option Addr) (vs : List Value) : Prop :=
  vs.length ≤ maxLen ∧ (vs = [] ∨ ∃ b off, A = some ⟨b, off, none⟩ ∧ b < w.heap.size ∧ ∀ i, i < vs.length → w.cell? ⟨b, off + i, none⟩ = vs[i]?)

section
variable {w w' : World} {A : Option Addr} {vs : List Value}
theorem Vals.get (h : Vals w A vs) {k : Nat} (hk : k < vs.length) : ∃ b off, A = some ⟨b, off, none⟩ ∧ b < w.heap.size ∧ w.cell? ⟨b, off + k, none⟩ = some vs[k] := by
  rcases h.2 with h0 | ⟨b, off, rfl, hb, hc⟩
  · subst h0; simp at hk
  · exact ⟨b, off, rfl, hb, by rw [hc k hk, List.getElem?_eq_getElem hk]⟩
theorem Vals.len (h : Vals w A vs) : vs.length ≤ 9223372036854775807 := h.1
theorem Vals.keep (h : Vals w A vs) (hz : w.heap.size ≤ w'.heap.size) (hk : ∀ b o, b < w.heap.size → w'.cell? ⟨b, o, none⟩ = w.cell? ⟨b, o, none⟩) : Vals w' A vs := by
  refine ⟨h.1, ?_⟩
  rcases h.2 with h | ⟨b, off, rfl, hb, hc⟩
  · exact .inl h
  · exact .inr ⟨b, off, rfl, by omega, fun i hi => by rw [hk _ _ hb]; exact hc i hi⟩
theorem Vals.below (h : Vals w A vs) (hb : Below w.heap.size w w') : Vals w' A vs := h.keep hb.size fun b o hlt => hb.cell (p := ⟨b, o, none⟩) hlt
theorem Vals.drewN (h : Vals w A vs) (n : Nat) : Vals (w.drewN n) A vs := h
theorem Vals.drew (h : Vals w A vs) : Vals w.drew A vs := h
theorem Vals.nil (w : World) (A : Option Addr) : Vals w A [] := ⟨by simp, .inl rfl⟩
theorem Vals.take_ (h : Vals w A vs) (n : Nat) : Vals w A (vs.take n) := by
  refine ⟨by rw [List.length_take]; have := h.1; omega, ?_⟩
  rcases h.2 with h | ⟨b, off, rfl, hb, hc⟩
  · exact .inl (by rw [h]; simp)
  · refine .inr ⟨b, off, rfl, hb, fun i hi => ?_⟩
    rw [List.length_take] at hi
    rw [hc i (by omega), List.getElem?_take_of_lt (by omega)]
theorem Vals.drop_ {b off : Nat} (h : Vals w (some ⟨b, off, none⟩) vs) (n : Nat) : Vals w (some ⟨b, off + n, none⟩) (vs.drop n) := by
  refine ⟨by rw [List.length_drop]; have := h.1; omega, ?_⟩
  rcases h.2 with h | ⟨b', off', e, hb, hc⟩
  · exact .inl (by rw [h]; simp)
  · injection e with e
    injection e with e1 e2
    subst e1 e2
    refine .inr ⟨_, _, rfl, hb, fun i hi => ?_⟩
    rw [List.length_drop] at hi
    rw [Nat.add_assoc, hc (n + i) (by omega), List.getElem?_drop]
theorem Vals.of_row {x : Addr} {len : Nat} {vs : List Value} (hm : vs.length ≤ maxLen) (hcell : ∀ i, i < vs.length → w.cell? (x.add i) = vs[i]?) : Vals w (some x) (vs.take len) := by
  refine Vals.take_ (⟨hm, ?_⟩ : Vals w (some x) vs) len
  rcases Nat.eq_zero_or_pos vs.length with h0 | h0
  · exact .inl (List.eq_nil_of_length_eq_zero h0)
  · obtain ⟨b, off, spot⟩ := x
    have hc := hcell 0 h0
    rw [List.getElem?_eq_getElem h0] at hc
    have hspot : spot = none := by simpa [Addr.add] using World.cell?_spot hc
    subst hspot
    refine .inr ⟨b, off, rfl, World.block_lt_of_cell? _ _ hc, fun i hi => ?_⟩
    have := hcell i hi
    have e : (⟨b, off, none⟩ : Addr).add i = ⟨b, off + i, none⟩ := by
      unfold Addr.add
      by_cases h0 : i = 0
      · subst h0; simp
      · simp [h0]
    rwa [e] at this
end

/-! bytes and texts -/
def byteV (c : UInt8) : Value := .int .u8 c.toNat
def Bytes (w : World) (A : Option Addr) (l : List UInt8) : Prop := Vals w A (l.map byteV)
def Strs (w : World) (A : Option Addr) (l : List ByteArray) : Prop := Vals w A (l.map Value.string) ∧ ∀ s ∈ l, s.size ≤ maxLen
section
variable {w w' : World} {A : Option Addr}
/-- byte k, under a name of its own -/
theorem Bytes.get {l : List UInt8} (h : Bytes w A l) {k : Nat} (hk : k < l.length) :
    ∃ b off, ∃ n : Int, A = some ⟨b, off, none⟩ ∧ b < w.heap.size ∧ w.cell? ⟨b, off + k, none⟩ = some (.int .u8 n) ∧ Hid ((l[k].toNat : Int) = n) ∧ 0 ≤ n ∧ n ≤ 255 := by
  obtain ⟨b, off, rfl, hb, hc⟩ := Vals.get h (k := k) (by rw [List.length_map]; exact hk)
  have := l[k].toNat_lt
  exact ⟨b, off, _, rfl, hb, by rw [hc, List.getElem_map]; rfl, rfl, by omega, by omega⟩
theorem Bytes.len {l : List UInt8} (h : Bytes w A l) : l.length ≤ 9223372036854775807 := by have := h.1; rw [List.length_map] at this; exact this
theorem Bytes.below {l : List UInt8} (h : Bytes w A l) (hb : Below w.heap.size w w') : Bytes w' A l := Vals.below h hb
theorem Bytes.drewN {l : List UInt8} (h : Bytes w A l) (n : Nat) : Bytes (w.drewN n) A l := h
theorem Bytes.nil (w : World) (A : Option Addr) : Bytes w A [] := Vals.nil w A
theorem Bytes.take_ {l : List UInt8} (h : Bytes w A l) (n : Nat) : Bytes w A (l.take n) := by unfold Bytes; rw [List.map_take]; exact Vals.take_ h n
theorem Bytes.drop_ {b off : Nat} {l : List UInt8} (h : Bytes w (some ⟨b, off, none⟩) l) (n : Nat) : Bytes w (some ⟨b, off + n, none⟩) (l.drop n) := by unfold Bytes; rw [List.map_drop]; exact Vals.drop_ h n
theorem Strs.get {l : List ByteArray} (h : Strs w A l) {k : Nat} (hk : k < l.length) :
    ∃ b off s, A = some ⟨b, off, none⟩ ∧ b < w.heap.size ∧ w.cell? ⟨b, off + k, none⟩ = some (.string s) ∧ Hid (l[k] = s) ∧ s.size ≤ 9223372036854775807 := by
  obtain ⟨b, off, rfl, hb, hc⟩ := Vals.get h.1 (k := k) (by rw [List.length_map]; exact hk)
  exact ⟨b, off, _, rfl, hb, by rw [hc, List.getElem_map], rfl, h.2 _ (List.getElem_mem hk)⟩
theorem Strs.len {l : List ByteArray} (h : Strs w A l) : l.length ≤ 9223372036854775807 := by have := h.1.1; rw [List.length_map] at this; exact this
theorem Strs.below {l : List ByteArray} (h : Strs w A l) (hb : Below w.heap.size w w') : Strs w' A l := ⟨h.1.below hb, h.2⟩
theorem Strs.drewN {l : List ByteArray} (h : Strs w A l) (n : Nat) : Strs (w.drewN n) A l := h
theorem Strs.nil (w : World) (A : Option Addr) : Strs w A [] := ⟨Vals.nil w A, by simp⟩
end

/-- the slice v, in memory from block B on, of elements of type t, holds the values vs -/
def OwnV (w : World) (B : Nat) (t : TypeId) (v : Value) (vs : List Value) : Prop := w.ownsRow B t 1 v vs.length vs
section
variable {w w' : World} {B : Nat} {t : TypeId} {v : Value} {vs : List Value}
theorem OwnV.nil (w : World) (B : Nat) (t : TypeId) : OwnV w B t (.slice none 0 0) [] := World.ownsRow_nil _ _ _ _
theorem OwnV.form (h : OwnV w B t v vs) : (v = .slice none 0 0 ∧ vs = []) ∨ ∃ g cap, v = .slice (some ⟨g, 0, none⟩) vs.length cap ∧ B ≤ g ∧ g < w.heap.size ∧ vs.length ≤ cap := by
  rcases h.2 with ⟨rfl, h0⟩ | ⟨g, cap, cur, rfl, hB, hh, hn, _⟩
  · exact .inl ⟨rfl, List.eq_nil_of_length_eq_zero h0⟩
  · refine .inr ⟨g, cap, rfl, hB, ?_, hn⟩
    rcases Nat.lt_or_ge g w.heap.size with hlt | hge
    · exact hlt
    · rw [Array.getElem?_eq_none hge] at hh; cases hh
theorem OwnV.len (h : OwnV w B t v vs) : vs.length ≤ maxLen := by
  rcases h.2 with ⟨_, h0⟩ | ⟨g, cap, cur, _, _, _, hn, hm, _⟩
  · rw [h0]; exact Nat.zero_le _
  · exact Nat.le_trans hn hm
theorem OwnV.vals (h : OwnV w B t v vs) : ∃ A cap, v = .slice A vs.length cap ∧ Vals w A vs := by
  have hl := h.len
  rcases h.2 with ⟨rfl, h0⟩ | ⟨g, cap, cur, rfl, hB, hh, hn, hm, hs, ht⟩
  · have := List.eq_nil_of_length_eq_zero h0
    subst this
    exact ⟨none, 0, rfl, Vals.nil _ _⟩
  · have hg : g < w.heap.size := by
      rcases Nat.lt_or_ge g w.heap.size with hlt | hge
      · exact hlt
      · rw [Array.getElem?_eq_none hge] at hh; cases hh
    refine ⟨_, cap, rfl, hl, .inr ⟨g, 0, rfl, hg, fun i hi => ?_⟩⟩
    rw [Nat.zero_add, World.ownsRow.cellAt h i (by omega), List.getElem?_eq_getElem hi]
theorem OwnV.kept (h : OwnV w B t v vs) (hb : ∀ g, B ≤ g → g < w.heap.size → w'.heap[g]? = w.heap[g]?) : OwnV w' B t v vs := by
  refine ⟨h.1, ?_⟩
  rcases h.2 with h0 | ⟨g, cap, cur, hv, hB, hh, r⟩
  · exact .inl h0
  · refine .inr ⟨g, cap, cur, hv, hB, ?_, r⟩
    rcases Nat.lt_or_ge g w.heap.size with hlt | hge
    · rw [hb g hB hlt]; exact hh
    · rw [Array.getElem?_eq_none hge] at hh; cases hh
theorem OwnV.below (h : OwnV w B t v vs) (hb : Below w.heap.size w w') : OwnV w' B t v vs := h.kept fun g _ hg => hb.block g hg
theorem OwnV.alloc (h : OwnV w B t v vs) (o : Obj) : OwnV (w.alloc o) B t v vs := World.ownsRow.alloc h o
theorem OwnV.drewN (h : OwnV w B t v vs) (n : Nat) : OwnV (w.drewN n) B t v vs := h
theorem OwnV.block (h : OwnV w B t v vs) : ∀ k, v.ownBlock = some k → B ≤ k := fun k hk => (World.ownsRow.lt h k hk).1
end

/-- 's = append(s, x)', the new element in a block of its own just made -/
theorem wpList_pushV {P : Program} {ops : Array Oper} {rest : List Oper} {o : Oper} {a : Act} {Q : Exit → Act → World → Prop} (w : World) (x : Value) (hx1 : x.oneCell' = true) (B : Nat) (vs : List Value) (s y : Operand) (ts t : TypeId) (bytes : Nat) (z : Value)
    (hu : P.underlying ts = some (.slice t)) (hinfo : (P.info? t).map (fun i => (i.zero, i.size, i.bytes)) = some (some z, 1, bytes)) (hz : z.cells.size = 1)
    (hgd : o.guard = none) (ho : o.op = .call { callee := .builtin .append, args := #[s, y], argTypes := #[ts, ts] })
    (v : Value) (hs : a.eval s = v) (hx : a.eval y = .slice (some ⟨w.heap.size, 0, none⟩) 1 1) (hown : OwnV w B t v vs) (hl : (vs.length + 1) * bytes ≤ 140737488355328) (hm : vs.length + 1 ≤ maxLen) (hB : B ≤ w.heap.size)
    (h : ∀ v' w', OwnV w' B t v' (vs ++ [x]) → Below B w w' → w.heap.size ≤ w'.heap.size → w.grownBy w' v.ownBlock → wpList P ops Q rest (a.put o.dst v') w') :
    wpList P ops Q (o :: rest) a (w.alloc (.cells #[x] t)) := by
  obtain ⟨i0, hi, hz0, hz1, hz2⟩ := info_parts hinfo
  refine wpList_append_own (w.alloc (.cells #[x] t)) hgd s y ts ho B t i0 z 1 bytes hu hi hz0 hz1 hz2 hz (by decide) v vs.length vs hs (OwnV.alloc hown _)
    ⟨w.heap.size, 0, none⟩ 1 1 [x] hx rfl ?_ ?_ hm hl (by simp; omega) ?_
  · intro j u hj
    match j, hj with
    | 0, hj => simp at hj; subst hj; simp [Addr.add]
  · intro u hu; simp at hu; subst hu; exact hx1
  · intro v' w' h1 h2 _
    have hg : w.grownBy w' v.ownBlock := (World.grownBy_alloc w _ v.ownBlock).trans h2
    refine h v' w' (by unfold OwnV; simpa using h1) ?_ hg.size hg
    exact (Below.refl B w).grown hg hB (OwnV.block hown)
end Go.Proofs.Ytagmknahmkniaaa

/- Strings and their bytes. -/
namespace Go.Proofs.Ytagmknahmkniaaa
open Go.RowKit

/-- a string's bytes -/
def L (s : ByteArray) : List UInt8 := s.data.toList
/-- the string of some bytes -/
def S (l : List UInt8) : ByteArray := ⟨l.toArray⟩
theorem L_S (l : List UInt8) : L (S l) = l := by simp [L, S]
theorem S_L (s : ByteArray) : S (L s) = s := by
  obtain ⟨d⟩ := s
  show ByteArray.mk d.toList.toArray = _
  rw [Array.toArray_toList]
theorem L_len (s : ByteArray) : (L s).length = s.size := Array.length_toList
theorem S_size (l : List UInt8) : (S l).size = l.length := List.size_toArray
theorem L_toList (s : ByteArray) : s.toList = L s := ByteArray.toList_eq s
theorem L_get (s : ByteArray) (k : Nat) (h : k < s.size) : (L s)[k]'(by rw [L_len]; exact h) = s[k] := by simp [L, ByteArray.getElem_eq_getElem_data]
theorem L_take_succ (s : ByteArray) (k : Nat) (h : k < s.size) : (L s).take (k + 1) = (L s).take k ++ [s[k]] := by
  rw [WM.take_snoc (L s) k (by rw [L_len]; exact h), L_get s k h]
theorem L_take_all (s : ByteArray) : (L s).take s.size = L s := List.take_of_length_le (by rw [L_len]; exact Nat.le_refl _)
theorem L_extract (s : ByteArray) (a b : Nat) : L (s.extract a b) = ((L s).take b).drop a := by
  simp [L, ByteArray.data_extract, List.drop_take]
theorem L_append (a b : ByteArray) : L (a ++ b) = L a ++ L b := by simp [L, ByteArray.data_append]
theorem L_inj {a b : ByteArray} (h : L a = L b) : a = b := by rw [← S_L a, ← S_L b, h]
theorem L_head (s : ByteArray) (h : 0 < s.size) : (L s).headD 0 = s[0] := by
  rw [← L_get s 0 h]
  have hl : 0 < (L s).length := by rw [L_len]; exact h
  rw [List.headD_eq_head?_getD, List.head?_eq_getElem?, List.getElem?_eq_getElem hl]
  rfl
theorem L_nil {s : ByteArray} (h : s.size = 0) : L s = [] := List.eq_nil_of_length_eq_zero (by rw [L_len]; exact h)
theorem isEmpty_false {s : ByteArray} (h : 0 < s.size) : s.toList.isEmpty = false := by
  rw [L_toList, List.isEmpty_eq_false_iff]
  intro e
  have := L_len s
  rw [e] at this; simp at this; omega
theorem isEmpty_true {s : ByteArray} (h : s.size = 0) : s.toList.isEmpty = true := by
  rw [L_toList, L_nil h]; rfl
theorem beq_t {a b : Int} (h : a = b) : (a == b) = true := by simpa using h
theorem beq_f {a b : Int} (h : ¬ a = b) : (a == b) = false := by simpa using h
end Go.Proofs.Ytagmknahmkniaaa

/- Contracts of the small functions of layer 3 that look at bytes and digits. -/
namespace Go.Proofs.Ytagmknahmkniaaa
open Go.RowKit

theorem isLetter_any (c : UInt8) (w : World) :
    Calls Try.prog 56 #[.int .u8 (c.toNat : Int)] w fun e w' => e = .returned (.bool (WM.letter c)) ∧ w = w' := by
  by_cases h1 : 97 ≤ (c.toNat : Int)
  · by_cases h2 : (c.toNat : Int) ≤ 122
    · rw [WM.letter_true.2 ⟨h1, h2⟩]
      go_enter Try.func56, Try.ntmps56
      go_wp2
      go_ret
      exact ⟨rfl, rfl⟩
    · rw [WM.letter_false.2 (by omega)]
      go_enter Try.func56, Try.ntmps56
      go_wp2
      go_ret
      exact ⟨rfl, rfl⟩
  · rw [WM.letter_false.2 (by omega)]
    go_enter Try.func56, Try.ntmps56
    go_wp2
    go_ret
    exact ⟨rfl, rfl⟩

theorem isDigit_any (c : UInt8) (w : World) :
    Calls Try.prog 57 #[.int .u8 (c.toNat : Int)] w fun e w' => e = .returned (.bool (WM.dig c)) ∧ w = w' := by
  by_cases h1 : 48 ≤ (c.toNat : Int)
  · by_cases h2 : (c.toNat : Int) ≤ 57
    · rw [WM.dig_true.2 ⟨h1, h2⟩]
      go_enter Try.func57, Try.ntmps57
      go_wp2
      go_ret
      exact ⟨rfl, rfl⟩
    · rw [WM.dig_false.2 (by omega)]
      go_enter Try.func57, Try.ntmps57
      go_wp2
      go_ret
      exact ⟨rfl, rfl⟩
  · rw [WM.dig_false.2 (by omega)]
    go_enter Try.func57, Try.ntmps57
    go_wp2
    go_ret
    exact ⟨rfl, rfl⟩

theorem all_step {p : UInt8 → Bool} {s : ByteArray} {k : Nat} (h : k < s.size) (ha : ((L s).take k).all p = true) (hk : p s[k] = true) : ((L s).take (k + 1)).all p = true := by
  rw [L_take_succ s k h, WM.all_snoc, ha, hk]; rfl
theorem all_not {p : UInt8 → Bool} {s : ByteArray} {k : Nat} (h : k < s.size) (hk : p s[k] = false) : (L s).all p = false :=
  WM.not_all k (by rw [L_len]; exact h) (by rw [L_get s k h]; exact hk)

end Go.Proofs.Ytagmknahmkniaaa
