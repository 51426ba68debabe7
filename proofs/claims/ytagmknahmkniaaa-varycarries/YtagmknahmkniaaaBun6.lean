/- Put together: SumMath, NovMath, NovCells, SeriesMath3, SeriesMath4, SerB, LegBox, PosMath. -/
import Derived.Test.YtagmknahmkniaaaBun1
import Derived.Test.YtagmknahmkniaaaBun3
import Derived.Test.YtagmknahmkniaaaBun5
import Derived.Test.YtagmknahmkniaaaBun2
import Derived.Lib.Bytealg
import Derived.Lib.Small
import Derived.Sort.Statements
import Derived.Lib.Split
import Derived.Lib.SplitLaws
import Derived.Lib.Replace
import Derived.Test.YtagmknahmkniaaaBun4
import Derived.Laws.StructEq
import Derived.Laws.ResultCell
import Derived.Laws.Rows
namespace CM
open LM

/-- all fit -/
def allFit (l : List Int) : Bool := l.all fits
def sumN (l : List Int) : Int := if allFit l then fitN (tot l) else 0
def sumE (l : List Int) : Int := if allFit l then fitE (tot l) else 2

theorem allFit_snoc (l : List Int) (x : Int) : allFit (l ++ [x]) = (allFit l && fits x) := by simp [allFit]
theorem allFit_take_succ (l : List Int) (k : Nat) (h : k < l.length) : allFit (l.take (k + 1)) = (allFit (l.take k) && fits (l.getD k 0)) := by
  rw [take_snoc l k h, allFit_snoc]
theorem allFit_reverse (l : List Int) : allFit l.reverse = allFit l := by simp [allFit]
theorem sumN_reverse (l : List Int) : sumN l.reverse = sumN l := by simp [sumN, allFit_reverse, tot_reverse]
theorem sumE_reverse (l : List Int) : sumE l.reverse = sumE l := by simp [sumE, allFit_reverse, tot_reverse]

theorem allFit_no {l : List Int} {k : Nat} (hk : k < l.length) (h : fits (l.getD k 0) = false) : sumN l = 0 ∧ sumE l = 2 := by
  have : allFit l = false := by
    cases hc : allFit l
    · rfl
    · have := (List.all_eq_true.1 hc) _ (getD_mem l k hk)
      rw [h] at this; exact absurd this (by simp)
  simp [sumN, sumE, this]

theorem sum_yes {l : List Int} (h : allFit l = true) : sumN l = fitN (tot l) ∧ sumE l = fitE (tot l) := by simp [sumN, sumE, h]

/-- what the program's Sum holds after k rounds -/
def SInv (l : List Int) (k : Nat) (full part : Int) : Prop :=
  allFit (l.take k) = true ∧ full * 1152921504606846976 + part = tot (l.take k) ∧ -1152921504606846976 < part ∧ part < 1152921504606846976 ∧ -(k : Int) ≤ full ∧ full ≤ k

theorem SInv.start (l : List Int) : SInv l 0 0 0 := ⟨rfl, rfl, by omega, by omega, by omega, by omega⟩

theorem SInv.bounds {l : List Int} {k : Nat} {full part : Int} (h : SInv l k full part) : -1152921504606846976 < part ∧ part < 1152921504606846976 ∧ -(k : Int) ≤ full ∧ full ≤ k := h.2.2

theorem SInv.step {l : List Int} {k : Nat} {full part f' p' : Int} (h : SInv l k full part) (hk : k < l.length) (hf : fits (l.getD k 0) = true)
    (he : f' * 1152921504606846976 + p' = full * 1152921504606846976 + part + l.getD k 0) (h1 : -1152921504606846976 < p') (h2 : p' < 1152921504606846976)
    (h3 : full - 1 ≤ f') (h4 : f' ≤ full + 1) : SInv l (k + 1) f' p' := by
  obtain ⟨a1, a2, a3, a4, a5, a6⟩ := h
  refine ⟨by rw [allFit_take_succ l k hk, a1, hf]; rfl, by rw [tot_take_succ l k hk, ← a2]; exact he, h1, h2, by omega, by omega⟩

theorem SInv.done {l : List Int} {full part : Int} (h : SInv l l.length full part) :
    (full > 1 ∨ full < -1 → sumN l = 0 ∧ sumE l = 3) ∧ (sumN l = fitN (full * 1152921504606846976 + part) ∧ sumE l = fitE (full * 1152921504606846976 + part)) := by
  obtain ⟨a1, a2, a3, a4, a5, a6⟩ := h
  rw [List.take_length] at a1 a2
  obtain ⟨s1, s2⟩ := sum_yes a1
  rw [s1, s2, a2]
  refine ⟨fun hf => ?_, rfl, rfl⟩
  have : fits (tot l) = false := by rw [fits_false, ← a2]; omega
  simp [fitN, fitE, this]
end CM

/- Layer 13's mathematics: the legs of trades with the house. -/
namespace NM
open LM
structure Leg where
  am : ByteArray
  an : ByteArray
  ser : EM.Ser
  qty : Int
  price : Int
  trade : Int
def zero : Leg := ⟨MM.nil, MM.nil, EM.zero, 0, 0, 0⟩
def lAt (l : List Leg) (k : Nat) : Leg := l.getD k zero
theorem lAt_get {l : List Leg} {k : Nat} (h : k < l.length) : lAt l k = l[k] := by simp [lAt, List.getD, h]
def aeq (am an bm bn : ByteArray) : Bool := (am.toList == bm.toList) && (an.toList == bn.toList)
def seqB (x y : EM.Ser) : Bool := (x.prod.toList == y.prod.toList) && ((x.kind == y.kind) && ((x.expiry == y.expiry) && (x.strike == y.strike)))
theorem aeq_iff {a b c d : ByteArray} : aeq a b c d = true ↔ a = c ∧ b = d := by
  unfold aeq
  rw [Bool.and_eq_true, beq_iff_eq, beq_iff_eq]
  constructor
  · rintro ⟨h1, h2⟩; exact ⟨EM.toList_inj h1, EM.toList_inj h2⟩
  · rintro ⟨rfl, rfl⟩; exact ⟨rfl, rfl⟩
theorem seqB_iff {x y : EM.Ser} : seqB x y = true ↔ x = y := by
  constructor
  · intro h
    unfold seqB at h
    simp only [Bool.and_eq_true, beq_iff_eq] at h
    obtain ⟨h1, h2, h3, h4⟩ := h
    cases x; cases y
    simp only at h1 h2 h3 h4
    rw [EM.toList_inj h1, h2, h3, h4]
  · rintro rfl
    simp [seqB]
/-- two legs the same -/
def leq (x y : Leg) : Bool := aeq x.am x.an y.am y.an && (seqB x.ser y.ser && ((x.qty == y.qty) && ((x.price == y.price) && (x.trade == y.trade))))
theorem leq_iff {x y : Leg} : leq x y = true ↔ x = y := by
  constructor
  · intro h
    unfold leq at h
    simp only [Bool.and_eq_true, beq_iff_eq, aeq_iff, seqB_iff] at h
    obtain ⟨⟨h1, h2⟩, h3, h4, h5, h6⟩ := h
    cases x; cases y
    simp_all
  · rintro rfl
    simp [leq, aeq, seqB]
/-- the legs of one trade -/
def bought (t : TM.Trd) : Leg := ⟨t.bm, t.bn, t.ser, t.qty, t.price, t.id⟩
def neg64 (x : Int) : Int := if x = -9223372036854775808 then x else -x
def sold (t : TM.Trd) : Leg := ⟨t.sm, t.sn, t.ser, neg64 t.qty, t.price, t.id⟩
def undo (x : Leg) : Leg := { x with qty := neg64 x.qty }
def allL (l : List TM.Trd) : List Leg := l.flatMap fun t => [bought t, sold t]
theorem allL_len (l : List TM.Trd) : (allL l).length = 2 * l.length := by
  induction l with
  | nil => rfl
  | cons t l ih => simp only [allL, List.flatMap_cons, List.length_append, List.length_cons, List.length_nil] at ih ⊢; omega
theorem take_succ {α : Type} {l : List α} {k : Nat} (h : k < l.length) : l.take (k + 1) = l.take k ++ [l[k]] := List.take_succ_eq_append_getElem h
theorem allL_succ {l : List TM.Trd} {k : Nat} (h : k < l.length) : allL (l.take (k + 1)) = allL (l.take k) ++ [bought (TM.tAt l k), sold (TM.tAt l k)] := by
  rw [take_succ h, TM.tAt_get h]
  simp only [allL, List.flatMap_append, List.flatMap_cons, List.flatMap_nil, List.append_nil]
def badQ (x : Leg) : Bool := decide (x.qty < -1048576) || decide (1048576 < x.qty)
def checkE (l : List Leg) : Int := if 2048 < l.length then 8 else if l.any badQ = true then 18 else 0
theorem check_long {l : List Leg} (h : 2048 < l.length) : checkE l = 8 := by unfold checkE; rw [if_pos h]
theorem check_qty {l : List Leg} (h : ¬ 2048 < l.length) {k : Nat} (hk : k < l.length) (hq : badQ (lAt l k) = true) : checkE l = 18 := by
  unfold checkE
  rw [if_neg h, if_pos]
  rw [lAt_get hk] at hq
  exact List.any_eq_true.2 ⟨_, List.getElem_mem hk, hq⟩
theorem check_ok {l : List Leg} (h : ¬ 2048 < l.length) (hq : ∀ j, j < l.length → badQ (lAt l j) = false) : checkE l = 0 := by
  unfold checkE
  rw [if_neg h, if_neg]
  intro e
  obtain ⟨x, hx, hb⟩ := List.any_eq_true.1 e
  obtain ⟨j, hj, rfl⟩ := List.getElem_of_mem hx
  have := hq j hj
  rw [lAt_get hj, hb] at this
  cases this
theorem check_inv {l : List Leg} (h : checkE l = 0) : l.length ≤ 2048 ∧ ∀ x ∈ l, -1048576 ≤ x.qty ∧ x.qty ≤ 1048576 := by
  unfold checkE at h
  split at h
  · cases h
  split at h
  · cases h
  · rename_i h1 h2
    refine ⟨by omega, fun x hx => ?_⟩
    have : badQ x = false := by
      cases e : badQ x
      · rfl
      · exact absurd (List.any_eq_true.2 ⟨x, hx, e⟩) h2
    unfold badQ at this
    simp at this
    omega
theorem check_cases (l : List Leg) : checkE l = 0 ∨ checkE l = 8 ∨ checkE l = 18 := by
  unfold checkE
  split
  · simp
  split <;> simp
/-- lots together -/
def qsum (l : List Leg) : Int := tot (l.map (·.qty))
theorem qsum_append (l m : List Leg) : qsum (l ++ m) = qsum l + qsum m := by simp [qsum, tot_append]
theorem qsum_one (x : Leg) : qsum [x] = x.qty := by simp [qsum, tot]
theorem qsum_nil : qsum [] = 0 := rfl
theorem qsum_bound {l : List Leg} (h : ∀ x ∈ l, -1048576 ≤ x.qty ∧ x.qty ≤ 1048576) : -(l.length * 1048576 : Int) ≤ qsum l ∧ qsum l ≤ l.length * 1048576 := by
  induction l with
  | nil => simp [qsum, tot]
  | cons x l ih =>
    have h1 := h x (by simp)
    have h2 := ih (fun y hy => h y (by simp [hy]))
    have e : qsum (x :: l) = x.qty + qsum l := by simp [qsum, tot]
    rw [e, List.length_cons]
    omega
theorem filter_succ {α : Type} {l : List α} {k : Nat} (h : k < l.length) (p : α → Bool) : (l.take (k + 1)).filter p = (l.take k).filter p ++ (if p l[k] = true then [l[k]] else []) := by
  rw [take_succ h, List.filter_append]
  congr 1
  cases h : p l[k] <;> simp [h]
/-- the lots of the first k that are asked for -/
def fsum (p : Leg → Bool) (l : List Leg) (k : Nat) : Int := qsum ((l.take k).filter p)
theorem fsum_zero (p : Leg → Bool) (l : List Leg) : fsum p l 0 = 0 := by simp [fsum, qsum, tot]
theorem fsum_hit {p : Leg → Bool} {l : List Leg} {k : Nat} (h : k < l.length) (hp : p (lAt l k) = true) : fsum p l (k + 1) = fsum p l k + (lAt l k).qty := by
  rw [lAt_get h] at hp ⊢
  unfold fsum
  rw [filter_succ h, if_pos hp, qsum_append, qsum_one]
theorem fsum_miss {p : Leg → Bool} {l : List Leg} {k : Nat} (h : k < l.length) (hp : p (lAt l k) = false) : fsum p l (k + 1) = fsum p l k := by
  rw [lAt_get h] at hp
  unfold fsum
  rw [filter_succ h, hp]
  simp
theorem fsum_end (p : Leg → Bool) (l : List Leg) : fsum p l l.length = qsum (l.filter p) := by unfold fsum; rw [List.take_length]
theorem sub_bound {l m : List Leg} (h : checkE l = 0) (hs : ∀ x ∈ m, x ∈ l) (hl : m.length ≤ l.length) : -2147483648 ≤ qsum m ∧ qsum m ≤ 2147483648 := by
  obtain ⟨h1, h2⟩ := check_inv h
  have := qsum_bound (l := m) (fun x hx => h2 x (hs x hx))
  omega
theorem fsum_bound {p : Leg → Bool} {l : List Leg} (h : checkE l = 0) (k : Nat) : -2147483648 ≤ fsum p l k ∧ fsum p l k ≤ 2147483648 := by
  refine sub_bound h (fun _ hx => List.mem_of_mem_take (List.mem_filter.1 hx).1) ?_
  refine Nat.le_trans (List.length_filter_le _ _) ?_
  rw [List.length_take]; omega
theorem qty_bound {l : List Leg} (h : checkE l = 0) {k : Nat} (hk : k < l.length) : -1048576 ≤ (lAt l k).qty ∧ (lAt l k).qty ≤ 1048576 := by
  rw [lAt_get hk]; exact (check_inv h).2 _ (List.getElem_mem hk)
def mine (am an : ByteArray) (s : EM.Ser) (x : Leg) : Bool := aeq x.am x.an am an && seqB x.ser s
def ofS (s : EM.Ser) (x : Leg) : Bool := seqB x.ser s
def netN (l : List Leg) (am an : ByteArray) (s : EM.Ser) : Int := if checkE l = 0 then qsum (l.filter (mine am an s)) else 0
def houseN (l : List Leg) (s : EM.Ser) : Int := if checkE l = 0 then -qsum (l.filter (ofS s)) else 0
theorem net_ok {l : List Leg} (h : checkE l = 0) (am an : ByteArray) (s : EM.Ser) : netN l am an s = qsum (l.filter (mine am an s)) := by unfold netN; rw [if_pos h]
theorem net_no {l : List Leg} (h : ¬ checkE l = 0) (am an : ByteArray) (s : EM.Ser) : netN l am an s = 0 := by unfold netN; rw [if_neg h]
theorem house_ok {l : List Leg} (h : checkE l = 0) (s : EM.Ser) : houseN l s = -qsum (l.filter (ofS s)) := by unfold houseN; rw [if_pos h]
theorem house_no {l : List Leg} (h : ¬ checkE l = 0) (s : EM.Ser) : houseN l s = 0 := by unfold houseN; rw [if_neg h]
theorem filter_bound {l : List Leg} (h : checkE l = 0) (p : Leg → Bool) : -2147483648 ≤ qsum (l.filter p) ∧ qsum (l.filter p) ≤ 2147483648 :=
  sub_bound h (fun _ hx => (List.mem_filter.1 hx).1) (List.length_filter_le _ _)
theorem net_bound (l : List Leg) (am an : ByteArray) (s : EM.Ser) : -2147483648 ≤ netN l am an s ∧ netN l am an s ≤ 2147483648 := by
  by_cases h : checkE l = 0
  · rw [net_ok h]; exact filter_bound h _
  · rw [net_no h]; omega
theorem house_bound (l : List Leg) (s : EM.Ser) : -2147483648 ≤ houseN l s ∧ houseN l s ≤ 2147483648 := by
  by_cases h : checkE l = 0
  · have := filter_bound h (ofS s)
    rw [house_ok h]; omega
  · rw [house_no h]; omega
/-- is the house flat? -/
def flatB (l : List Leg) : Bool := decide (checkE l = 0) && l.all fun x => houseN l x.ser == 0
theorem flat_no {l : List Leg} (h : ¬ checkE l = 0) : flatB l = false := by unfold flatB; simp [h]
theorem flat_bad {l : List Leg} {k : Nat} (hk : k < l.length) (h : ¬ houseN l (lAt l k).ser = 0) : flatB l = false := by
  unfold flatB
  rw [lAt_get hk] at h
  have : (l.all fun y => houseN l y.ser == 0) = false := by
    cases e : l.all fun y => houseN l y.ser == 0
    · rfl
    · exact absurd (by simpa using (List.all_eq_true.1 e) _ (List.getElem_mem hk)) h
  rw [this, Bool.and_false]
theorem flat_yes {l : List Leg} (h : checkE l = 0) (hk : ∀ j, j < l.length → houseN l (lAt l j).ser = 0) : flatB l = true := by
  unfold flatB
  rw [Bool.and_eq_true]
  refine ⟨by simpa using h, List.all_eq_true.2 fun x hx => ?_⟩
  obtain ⟨j, hj, rfl⟩ := List.getElem_of_mem hx
  have := hk j hj
  rw [lAt_get hj] at this
  simpa using this
theorem flat_inv {l : List Leg} (h : flatB l = true) : checkE l = 0 ∧ ∀ x ∈ l, houseN l x.ser = 0 := by
  unfold flatB at h
  rw [Bool.and_eq_true] at h
  exact ⟨by simpa using h.1, fun x hx => by simpa using (List.all_eq_true.1 h.2) x hx⟩
/-- what legs are worth -/
def firstE (p : QM.Prod) : List Leg → Int
  | [] => 0
  | x :: l => if QM.valueE p x.price x.qty = 0 then firstE p l else QM.valueE p x.price x.qty
def worth (p : QM.Prod) (l : List Leg) : List Int := l.map fun x => QM.valueN p x.price x.qty
def costE (l : List Leg) (am an : ByteArray) (p : QM.Prod) (s : EM.Ser) : Int :=
  if checkE l = 0 then (if firstE p (l.filter (mine am an s)) = 0 then CM.sumE (worth p (l.filter (mine am an s))) else firstE p (l.filter (mine am an s))) else checkE l
def costN (l : List Leg) (am an : ByteArray) (p : QM.Prod) (s : EM.Ser) : Int :=
  if checkE l = 0 then (if firstE p (l.filter (mine am an s)) = 0 then CM.sumN (worth p (l.filter (mine am an s))) else 0) else 0
theorem first_bad {p : QM.Prod} : ∀ {l : List Leg} {k : Nat}, k < l.length → (∀ j, j < k → QM.valueE p (lAt l j).price (lAt l j).qty = 0) → ¬ QM.valueE p (lAt l k).price (lAt l k).qty = 0 → firstE p l = QM.valueE p (lAt l k).price (lAt l k).qty := by
  intro l
  induction l with
  | nil => intro k h; simp at h
  | cons x l ih =>
    intro k hk h1 h2
    unfold firstE
    cases k with
    | zero =>
      have e : lAt (x :: l) 0 = x := rfl
      rw [e] at h2 ⊢
      rw [if_neg h2]
    | succ k =>
      have e0 : QM.valueE p x.price x.qty = 0 := h1 0 (by omega)
      rw [if_pos e0]
      exact ih (k := k) (by simpa using hk) (fun j hj => h1 (j + 1) (by omega)) h2
theorem first_ok {p : QM.Prod} : ∀ {l : List Leg}, (∀ j, j < l.length → QM.valueE p (lAt l j).price (lAt l j).qty = 0) → firstE p l = 0 := by
  intro l
  induction l with
  | nil => intro _; rfl
  | cons x l ih =>
    intro h
    have e0 : QM.valueE p x.price x.qty = 0 := h 0 (by simp)
    unfold firstE
    rw [if_pos e0]
    exact ih fun j hj => h (j + 1) (by simpa using hj)
/-- the first of a filtered list whose value fails, met in the unfiltered one -/
theorem first_append (p : QM.Prod) (l m : List Leg) : firstE p (l ++ m) = if firstE p l = 0 then firstE p m else firstE p l := by
  induction l with
  | nil => simp [firstE]
  | cons x l ih =>
    rw [List.cons_append]
    have e1 : ∀ r : List Leg, firstE p (x :: r) = if QM.valueE p x.price x.qty = 0 then firstE p r else QM.valueE p x.price x.qty := fun r => rfl
    rw [e1, e1]
    by_cases h : QM.valueE p x.price x.qty = 0
    · rw [if_pos h, if_pos h, ih]
    · rw [if_neg h, if_neg h, if_neg h]
theorem worth_append (p : QM.Prod) (l m : List Leg) : worth p (l ++ m) = worth p l ++ worth p m := by simp [worth]
theorem first_stop {p : QM.Prod} {f : Leg → Bool} {l : List Leg} {k : Nat} (hk : k < l.length) (h0 : firstE p ((l.take k).filter f) = 0) (hf : f (lAt l k) = true) (hv : ¬ QM.valueE p (lAt l k).price (lAt l k).qty = 0) :
    firstE p (l.filter f) = QM.valueE p (lAt l k).price (lAt l k).qty := by
  have e : l.filter f = (l.take (k + 1)).filter f ++ (l.drop (k + 1)).filter f := by rw [← List.filter_append, List.take_append_drop]
  have e2 : firstE p [lAt l k] = QM.valueE p (lAt l k).price (lAt l k).qty := by unfold firstE; rw [if_neg hv]
  have e3 : firstE p ((l.take (k + 1)).filter f) = QM.valueE p (lAt l k).price (lAt l k).qty := by
    rw [filter_succ hk, ← lAt_get hk, if_pos hf, first_append, if_pos h0, e2]
  rw [e, first_append, e3, if_neg hv]
theorem first_step {p : QM.Prod} {f : Leg → Bool} {l : List Leg} {k : Nat} (hk : k < l.length) (h0 : firstE p ((l.take k).filter f) = 0) (hv : f (lAt l k) = true → QM.valueE p (lAt l k).price (lAt l k).qty = 0) : firstE p ((l.take (k + 1)).filter f) = 0 := by
  rw [filter_succ hk, first_append, if_pos h0, ← lAt_get hk]
  by_cases hf : f (lAt l k) = true
  · rw [if_pos hf]; unfold firstE; rw [if_pos (hv hf)]; rfl
  · rw [if_neg hf]; rfl
theorem worth_hit {p : QM.Prod} {f : Leg → Bool} {l : List Leg} {k : Nat} (hk : k < l.length) (hf : f (lAt l k) = true) : worth p ((l.take (k + 1)).filter f) = worth p ((l.take k).filter f) ++ [QM.valueN p (lAt l k).price (lAt l k).qty] := by
  rw [filter_succ hk, ← lAt_get hk, if_pos hf, worth_append]; rfl
theorem worth_miss {p : QM.Prod} {f : Leg → Bool} {l : List Leg} {k : Nat} (hk : k < l.length) (hf : f (lAt l k) = false) : worth p ((l.take (k + 1)).filter f) = worth p ((l.take k).filter f) := by
  rw [filter_succ hk, ← lAt_get hk, hf]; simp
end NM

/- Legs in memory, over any program. -/
namespace Go.Recs
open Go.RowKit
set_option linter.unusedVariables false
def legV (x : NM.Leg) : List Value := [.string x.am, .string x.an, .string x.ser.prod, .int .i64 x.ser.kind, .int .i64 x.ser.expiry, .int .i64 x.ser.strike, .int .i64 x.qty, .int .i64 x.price, .int .i64 x.trade]
def legQ (x : NM.Leg) : Prop := x.am.size ≤ maxLen ∧ x.an.size ≤ maxLen ∧ serQ x.ser ∧ i64 x.qty ∧ i64 x.price ∧ i64 x.trade
def legL : List Leaf := [.str, .str, .str, .int .i64, .int .i64, .int .i64, .int .i64, .int .i64, .int .i64]
theorem leg_row (r : List Value) (h : okAll legL r) : ∃ x : NM.Leg, r = legV x ∧ legQ x := by
  obtain ⟨c0, r0, rfl, ⟨s0, rfl, h0⟩, g0⟩ := okAll_cons h
  obtain ⟨c1, r1, rfl, ⟨s1, rfl, h1⟩, g1⟩ := okAll_cons g0
  obtain ⟨c2, r2, rfl, ⟨s2, rfl, h2⟩, g2⟩ := okAll_cons g1
  obtain ⟨c3, r3, rfl, ⟨n3, rfl, h3⟩, g3⟩ := okAll_cons g2
  obtain ⟨c4, r4, rfl, ⟨n4, rfl, h4⟩, g4⟩ := okAll_cons g3
  obtain ⟨c5, r5, rfl, ⟨n5, rfl, h5⟩, g5⟩ := okAll_cons g4
  obtain ⟨c6, r6, rfl, ⟨n6, rfl, h6⟩, g6⟩ := okAll_cons g5
  obtain ⟨c7, r7, rfl, ⟨n7, rfl, h7⟩, g7⟩ := okAll_cons g6
  obtain ⟨c8, r8, rfl, ⟨n8, rfl, h8⟩, g8⟩ := okAll_cons g7
  rw [okAll_nil g8]
  exact ⟨⟨s0, s1, ⟨s2, n3, n4, n5⟩, n6, n7, n8⟩, rfl, h0, h1, ⟨h2, bounds_i64 h3, bounds_i64 h4, bounds_i64 h5⟩, bounds_i64 h6, bounds_i64 h7, bounds_i64 h8⟩
abbrev Legs := TR legV legQ 9
theorem legs_get {w : World} {A : Option Addr} {l : List NM.Leg} (h : Legs w A l) {k : Nat} (hk : k < l.length) :
    ∃ b off, ∃ x : NM.Leg, A = some ⟨b, off, none⟩ ∧ b < w.heap.size ∧ Hid (NM.lAt l k = x) ∧ legQ x ∧ w.cell? ⟨b, off + k * 9, none⟩ = some (.string x.am) ∧ w.cell? ⟨b, off + k * 9 + 1, none⟩ = some (.string x.an) ∧
      w.cell? ⟨b, off + k * 9 + 2, none⟩ = some (.string x.ser.prod) ∧ w.cell? ⟨b, off + k * 9 + 3, none⟩ = some (.int .i64 x.ser.kind) ∧ w.cell? ⟨b, off + k * 9 + 4, none⟩ = some (.int .i64 x.ser.expiry) ∧
      w.cell? ⟨b, off + k * 9 + 5, none⟩ = some (.int .i64 x.ser.strike) ∧ w.cell? ⟨b, off + k * 9 + 6, none⟩ = some (.int .i64 x.qty) ∧ w.cell? ⟨b, off + k * 9 + 7, none⟩ = some (.int .i64 x.price) ∧ w.cell? ⟨b, off + k * 9 + 8, none⟩ = some (.int .i64 x.trade) := by
  obtain ⟨b, off, rfl, hb, hq, hc⟩ := h.at_ hk
  exact ⟨b, off, l[k], rfl, hb, Lib.hid (NM.lAt_get hk), hq, hc 0 (by omega), hc 1 (by omega), hc 2 (by omega), hc 3 (by omega), hc 4 (by omega), hc 5 (by omega), hc 6 (by omega), hc 7 (by omega), hc 8 (by omega)⟩
theorem legV_one (l : List NM.Leg) : ∀ r ∈ l.map legV, ∀ u ∈ r, u.oneCell' = true := by
  intro r hr
  obtain ⟨t, _, rfl⟩ := List.mem_map.1 hr
  intro u hu
  simp only [legV, List.mem_cons, List.not_mem_nil, or_false] at hu
  rcases hu with rfl | rfl | rfl | rfl | rfl | rfl | rfl | rfl | rfl <;> rfl
end Go.Recs

/- Layer 10's mathematics: the library's comparisons, a sorted list made compact. -/
namespace EM
open Go
theorem cb_less : ∀ a b : List UInt8, Lib.compareBytes a b = if Op.bytesLess a b = true then -1 else if Op.bytesLess b a = true then 1 else 0
  | [], [] => by simp [Lib.compareBytes, Op.bytesLess]
  | [], _ :: _ => by simp [Lib.compareBytes, Op.bytesLess]
  | _ :: _, [] => by simp [Lib.compareBytes, Op.bytesLess]
  | a :: x, b :: y => by
    have ih := cb_less x y
    unfold Lib.compareBytes Op.bytesLess
    by_cases h1 : a < b
    · simp [h1]
    · by_cases h2 : b < a
      · have h3 : ¬ a = b := by intro e; subst e; exact absurd h2 (by simp)
        simp [h1, h2, h3]
      · have h3 : a = b := by
          have l1 : ¬ a.toNat < b.toNat := h1
          have l2 : ¬ b.toNat < a.toNat := h2
          exact UInt8.toNat_inj.1 (by omega)
        subst h3
        simp [h1, ih]
/-- the first that is not 0 -/
def orL : List Int → Int
  | [] => 0
  | x :: r => if x = 0 then orL r else x
theorem or_skip {l : List Int} {k : Nat} (h : k < l.length) (h0 : l[k] = 0) : orL (l.drop k) = orL (l.drop (k + 1)) := by
  rw [List.drop_eq_getElem_cons h, orL, if_pos h0]
theorem or_stop {l : List Int} {k : Nat} (h : k < l.length) (h0 : l[k] ≠ 0) : orL (l.drop k) = l[k] := by
  rw [List.drop_eq_getElem_cons h, orL, if_neg h0]
def four (a b : Ser) : List Int := [Lib.compareBytes a.prod.data.toList b.prod.data.toList, Lib.compareInt a.expiry b.expiry, Lib.compareInt a.kind b.kind, Lib.compareInt a.strike b.strike]
theorem ci_ord (x y : Int) : Lib.compareInt x y = ord x y := by unfold Lib.compareInt ord; rfl
theorem ord_zero {x y : Int} : ord x y = 0 ↔ x = y := by unfold ord; split <;> (try split) <;> constructor <;> intro h <;> omega
theorem cmp_or (a b : Ser) : orL (four a b) = cmp a b := by
  have e : Lib.compareBytes a.prod.data.toList b.prod.data.toList = if less a b = true then -1 else if less b a = true then 1 else 0 := by
    rw [cb_less]; unfold less; rw [Go.ByteArray.toList_eq, Go.ByteArray.toList_eq]
  unfold four
  rw [e]
  simp only [orL, ci_ord]
  unfold cmp
  by_cases h1 : less a b = true
  · rw [if_pos h1, if_pos h1, if_neg (by decide)]
  · rw [if_neg h1, if_neg h1]
    by_cases h2 : less b a = true
    · rw [if_pos h2, if_pos h2, if_neg (by decide)]
    · rw [if_neg h2, if_neg h2, if_pos rfl]
      by_cases h3 : a.expiry = b.expiry
      · rw [if_pos (ord_zero.2 h3), if_neg (show ¬ (a.expiry ≠ b.expiry) by simp [h3])]
        by_cases h4 : a.kind = b.kind
        · rw [if_pos (ord_zero.2 h4), if_neg (show ¬ (a.kind ≠ b.kind) by simp [h4])]
          by_cases h5 : a.strike = b.strike
          · rw [if_pos (ord_zero.2 h5), ord_zero.2 h5]
          · rw [if_neg (fun h => h5 (ord_zero.1 h))]
        · rw [if_neg (fun h => h4 (ord_zero.1 h)), if_pos h4]
      · rw [if_neg (fun h => h3 (ord_zero.1 h)), if_pos h3]

/-- the order that the sort asks for -/
def ltB (a b : Ser) : Bool := decide (cmp a b < 0)
theorem ltB_true {a b : Ser} : ltB a b = true ↔ lt a b := by
  unfold ltB
  rw [decide_eq_true_eq]
  rcases cmp_cases a b with ⟨h, g⟩ | ⟨h, g⟩ | ⟨h, g⟩
  · rw [h]; exact ⟨fun _ => g, fun _ => by decide⟩
  · rw [h]; subst g; exact ⟨fun h => absurd h (by decide), fun h => absurd h (lt_irrefl _)⟩
  · rw [h]; exact ⟨fun h => absurd h (by decide), fun h => absurd h (lt_asymm g)⟩
theorem ltB_false {a b : Ser} : ltB a b = false ↔ a = b ∨ lt b a := by
  rw [Bool.eq_false_iff, ne_eq, ltB_true]
  constructor
  · intro h
    rcases lt_tri a b with g | g | g
    · exact absurd g h
    · exact .inl g
    · exact .inr g
  · rintro (rfl | g)
    · exact lt_irrefl _
    · exact lt_asymm g
theorem swo : Go.Sort.SWO ltB where
  irrefl x := ltB_false.2 (.inl rfl)
  trans x y z h1 h2 := ltB_true.2 (lt_trans (ltB_true.1 h1) (ltB_true.1 h2))
  ntrans x y z h1 h2 := by
    rw [ltB_false] at *
    rcases h1 with rfl | h1
    · exact h2
    · rcases h2 with rfl | h2
      · exact .inr h1
      · exact .inr (lt_trans h2 h1)


/-- each run once: what stands so far, and one more -/
noncomputable def addL (out : List Ser) (s : Ser) : List Ser := if @decide (out.getLast? = some s) (Classical.propDecidable _) then out else out ++ [s]
noncomputable def cmpc (l : List Ser) : List Ser := l.foldl addL []
theorem addL_same {out : List Ser} {s : Ser} (h : out.getLast? = some s) : addL out s = out := by unfold addL; simp [h]
theorem addL_new {out : List Ser} {s : Ser} (h : out.getLast? ≠ some s) : addL out s = out ++ [s] := by unfold addL; simp [h]
theorem cmpc_snoc (l : List Ser) (s : Ser) : cmpc (l ++ [s]) = addL (cmpc l) s := by simp [cmpc]
theorem cmpc_last : ∀ (l : List Ser) (s : Ser), (cmpc (l ++ [s])).getLast? = some s := by
  intro l s
  rw [cmpc_snoc]
  by_cases h : (cmpc l).getLast? = some s
  · rw [addL_same h]; exact h
  · rw [addL_new h]; simp
theorem cmpc_take {l : List Ser} {k : Nat} (h : k < l.length) : cmpc (l.take (k + 1)) = addL (cmpc (l.take k)) l[k] := by
  rw [List.take_succ_eq_append_getElem h, cmpc_snoc]
theorem cmpc_last_take {l : List Ser} {k : Nat} (h0 : 0 < k) (h : k ≤ l.length) : (cmpc (l.take k)).getLast? = some (l[k - 1]'(by omega)) := by
  obtain ⟨j, rfl⟩ : ∃ j, k = j + 1 := ⟨k - 1, by omega⟩
  rw [List.take_succ_eq_append_getElem (by omega)]
  exact cmpc_last _ _
/-- the next is the same as the one ahead; it is another -/
theorem cmpc_same {l : List Ser} {k : Nat} (h0 : 0 < k) (h : k < l.length) (e : l[k] = l[k - 1]) : cmpc (l.take (k + 1)) = cmpc (l.take k) := by
  rw [cmpc_take h]
  exact addL_same (by rw [cmpc_last_take h0 (by omega), e])
theorem cmpc_other {l : List Ser} {k : Nat} (h0 : 0 < k) (h : k < l.length) (e : l[k] ≠ l[k - 1]) : cmpc (l.take (k + 1)) = cmpc (l.take k) ++ [l[k]] := by
  rw [cmpc_take h]
  refine addL_new ?_
  rw [cmpc_last_take h0 (by omega)]
  intro g
  injection g with g
  exact e g.symm
theorem cmpc_one {l : List Ser} (h : l.length ≤ 1) : cmpc l = l := by
  match l, h with
  | [], _ => rfl
  | [a], _ => simp [cmpc, addL]
theorem cmpc_len (l : List Ser) : ∀ k, k ≤ l.length → (cmpc (l.take k)).length ≤ k := by
  intro k
  induction k with
  | zero => intro _; simp [cmpc]
  | succ k ih =>
    intro h
    rw [cmpc_take (by omega)]
    have := ih (by omega)
    unfold addL
    split
    · omega
    · rw [List.length_append]; simp; omega
theorem cmpc_mem (l : List Ser) : ∀ k, k ≤ l.length → ∀ y, y ∈ cmpc (l.take k) ↔ y ∈ l.take k := by
  intro k
  induction k with
  | zero => intro _ y; simp [cmpc]
  | succ k ih =>
    intro h y
    have hk : k < l.length := by omega
    rw [cmpc_take hk, List.take_succ_eq_append_getElem hk, List.mem_append, List.mem_singleton]
    by_cases e : (cmpc (l.take k)).getLast? = some l[k]
    · rw [addL_same e, ih (by omega)]
      constructor
      · exact .inl
      · rintro (g | g)
        · exact g
        · rw [← ih (by omega), g]
          exact List.mem_of_getLast? e
    · rw [addL_new e, List.mem_append, List.mem_singleton, ih (by omega)]
theorem cmpc_asc (l : List Ser) (hs : ∀ i j (hi : i < l.length) (hj : j < l.length), i < j → ltB l[j] l[i] = false) : ∀ k, k ≤ l.length → asc (cmpc (l.take k)) ∧ (∀ y ∈ cmpc (l.take k), ∀ j (hj : j < l.length), k ≤ j → y = l[j] ∨ lt y l[j]) := by
  intro k
  induction k with
  | zero => intro _; exact ⟨by simp [cmpc, asc], by simp [cmpc]⟩
  | succ k ih =>
    intro h
    have hk : k < l.length := by omega
    obtain ⟨h1, h2⟩ := ih (by omega)
    rw [cmpc_take hk]
    have hn : ∀ j (hj : j < l.length), k + 1 ≤ j → l[k] = l[j] ∨ lt l[k] l[j] := by
      intro j hj hkj
      rcases ltB_false.1 (hs k j hk hj (by omega)) with g | g
      · exact .inl g.symm
      · exact .inr g
    by_cases e : (cmpc (l.take k)).getLast? = some l[k]
    · rw [addL_same e]
      exact ⟨h1, fun y hy j hj hkj => h2 y hy j hj (by omega)⟩
    · rw [addL_new e]
      have hlt : ∀ y ∈ cmpc (l.take k), lt y l[k] := by
        intro y hy
        rcases h2 y hy k hk (Nat.le_refl _) with g | g
        · exfalso
          -- y is the last one's equal, and nothing but the last one can be that
          subst g
          obtain ⟨i, hi, ei⟩ := List.getElem_of_mem hy
          by_cases hl : i = (cmpc (l.take k)).length - 1
          · apply e
            rw [List.getLast?_eq_getElem?, ← hl, List.getElem?_eq_getElem hi, ei]
          · have hlast := List.pairwise_iff_getElem.1 h1 i ((cmpc (l.take k)).length - 1) hi (by omega) (by omega)
            rw [ei] at hlast
            rcases h2 _ (List.getElem_mem (by omega : (cmpc (l.take k)).length - 1 < (cmpc (l.take k)).length)) k hk (Nat.le_refl _) with g | g
            · rw [g] at hlast; exact lt_irrefl _ hlast
            · exact lt_asymm g hlast
        · exact g
      refine ⟨?_, ?_⟩
      · unfold asc
        rw [List.pairwise_append]
        refine ⟨h1, by simp, ?_⟩
        intro a ha b hb
        rw [List.mem_singleton.1 hb]
        exact hlt a ha
      · intro y hy j hj hkj
        rcases List.mem_append.1 hy with hy | hy
        · exact h2 y hy j hj (by omega)
        · rw [List.mem_singleton.1 hy]; exact hn j hj hkj
/-- a sorted permutation made compact is the list in order, each once -/
theorem cmpc_sort {l k : List Ser} (hp : k.Perm l) (hs : ∀ i j (hi : i < k.length) (hj : j < k.length), i < j → ltB k[j] k[i] = false) : cmpc k = sortL l := by
  have h1 := (cmpc_asc k hs k.length (Nat.le_refl _)).1
  have h2 := cmpc_mem k k.length (Nat.le_refl _)
  rw [List.take_length] at h1 h2
  exact sort_of_asc h1 (fun y => by rw [h2, hp.mem_iff])
theorem cmpc_size (l : List Ser) : (cmpc l).length ≤ l.length := by
  have := cmpc_len l l.length (Nat.le_refl _)
  rwa [List.take_length] at this
end EM

/- Layer 10's mathematics: a text cut at a byte as the library cuts it, and a byte struck out. -/
namespace EM
open Go
theorem step_ps (b : UInt8) (l : List UInt8) : ∀ (ps : List (List UInt8)) (q : List UInt8), l.foldl (WM.step b) (ps, q) = (ps ++ (l.foldl (WM.step b) ([], q)).1, (l.foldl (WM.step b) ([], q)).2) := by
  induction l with
  | nil => intro ps q; simp
  | cons c l ih =>
    intro ps q
    rw [List.foldl_cons, List.foldl_cons]
    by_cases h : c = b
    · have e1 : WM.step b (ps, q) c = (ps ++ [q], []) := by simp [WM.step, h]
      have e2 : WM.step b ([], q) c = ([q], []) := by simp [WM.step, h]
      rw [e1, e2, ih (ps ++ [q]), ih [q]]
      simp
    · have e1 : WM.step b (ps, q) c = (ps, q ++ [c]) := by simp [WM.step, h]
      have e2 : WM.step b ([], q) c = ([], q ++ [c]) := by simp [WM.step, h]
      rw [e1, e2, ih ps]
theorem pieces_no {b : UInt8} {l : List UInt8} (h : b ∉ l) : WM.pieces b l = [l] := by unfold WM.pieces; rw [WM.run_no h]; rfl
theorem pieces_at {b : UInt8} {x : List UInt8} (h : b ∉ x) (y : List UInt8) : WM.pieces b (x ++ b :: y) = x :: WM.pieces b y := by
  have e : WM.run b (x ++ b :: y) = ([x] ++ (WM.run b y).1, (WM.run b y).2) := by
    unfold WM.run
    rw [List.foldl_append, List.foldl_cons]
    have e1 : x.foldl (WM.step b) ([], []) = ([], x) := WM.run_no h
    rw [e1]
    have e2 : WM.step b ([], x) b = ([x], []) := by simp [WM.step]
    rw [e2, step_ps]
  unfold WM.pieces
  rw [e]; rfl
theorem pieces_pos (b : UInt8) (l : List UInt8) : 0 < (WM.pieces b l).length := by unfold WM.pieces; simp
theorem index_no {c : UInt8} : ∀ {s : List UInt8}, c ∉ s → Lib.index s [c] = -1 := by
  intro s
  induction s with
  | nil => intro _; rfl
  | cons b l ih =>
    intro h
    have h1 : ¬ c = b := fun e => h (by simp [e])
    have h2 : c ∉ l := fun e => h (by simp [e])
    unfold Lib.index
    rw [ih h2]
    simp [List.isPrefixOf, h1]
theorem index_at {c : UInt8} : ∀ {x : List UInt8}, c ∉ x → ∀ y, Lib.index (x ++ c :: y) [c] = x.length := by
  intro x
  induction x with
  | nil => intro _ y; simp [Lib.index, List.isPrefixOf]
  | cons b l ih =>
    intro h y
    have h1 : ¬ c = b := fun e => h (by simp [e])
    have h2 : c ∉ l := fun e => h (by simp [e])
    rw [List.cons_append]
    unfold Lib.index
    rw [ih h2]
    have h3 : ¬ ((l.length : Int) == -1) = true := by simp
    rw [if_neg (by simp [List.isPrefixOf, h1]), if_neg h3]
    simp
theorem split_pieces (c : UInt8) : ∀ (k : Nat) (s : List UInt8), ((WM.pieces c s).length ≤ k + 1 → Lib.splitK [c] 0 k s = WM.pieces c s) ∧ (k + 1 ≤ (WM.pieces c s).length → (Lib.splitK [c] 0 k s).length = k + 1) := by
  intro k
  induction k with
  | zero =>
    intro s
    refine ⟨fun h => ?_, fun _ => rfl⟩
    by_cases hc : c ∈ s
    · obtain ⟨x, y, rfl, hx⟩ := List.eq_append_cons_of_mem hc
      rw [pieces_at hx] at h
      have := pieces_pos c y
      simp at h
      rw [h] at this; simp at this
    · rw [pieces_no hc]; rfl
  | succ k ih =>
    intro s
    by_cases hc : c ∈ s
    · obtain ⟨x, y, rfl, hx⟩ := List.eq_append_cons_of_mem hc
      have e : Lib.splitK [c] 0 (k + 1) (x ++ c :: y) = x :: Lib.splitK [c] 0 k y := by
        have h3 : ¬ (Lib.index (x ++ c :: y) [c] == -1) = true := by rw [index_at hx]; simp
        rw [Lib.splitK, if_neg h3, index_at hx]
        simp
      rw [e, pieces_at hx]
      obtain ⟨h1, h2⟩ := ih y
      refine ⟨fun h => ?_, fun h => ?_⟩
      · rw [h1 (by simpa using h)]
      · rw [List.length_cons, h2 (by simpa using h)]
    · have e : Lib.splitK [c] 0 (k + 1) s = [s] := by rw [Lib.splitK, if_pos (by rw [index_no hc]; rfl)]
      rw [e, pieces_no hc]
      exact ⟨fun _ => rfl, fun h => absurd h (by simp)⟩
theorem pieces_short (c : UInt8) : ∀ (n : Nat) (s : List UInt8), s.length ≤ n → (WM.pieces c s).length ≤ s.length + 1 := by
  intro n
  induction n with
  | zero =>
    intro s h
    have : s = [] := List.eq_nil_of_length_eq_zero (by omega)
    subst this
    rw [pieces_no (by simp)]; simp
  | succ n ih =>
    intro s h
    by_cases hc : c ∈ s
    · obtain ⟨x, y, rfl, hx⟩ := List.eq_append_cons_of_mem hc
      rw [pieces_at hx]
      have hl : y.length ≤ n := by simp at h; omega
      have := ih y hl
      simp; omega
    · rw [pieces_no hc]; simp
/-- cut in four at most: three pieces, and no more -/
theorem split_three (c : UInt8) (s : List UInt8) : ((Lib.splitK [c] 0 (min 4 (s.length + 1) - 1) s).length = 3 ↔ (WM.pieces c s).length = 3) ∧ ((WM.pieces c s).length = 3 → Lib.splitK [c] 0 (min 4 (s.length + 1) - 1) s = WM.pieces c s) ∧ (Lib.splitK [c] 0 (min 4 (s.length + 1) - 1) s).length ≤ min 4 (s.length + 1) := by
  have hb := pieces_short c s.length s (Nat.le_refl _)
  generalize hk : min 4 (s.length + 1) - 1 = k
  have hk1 : k + 1 = min 4 (s.length + 1) := by omega
  obtain ⟨h1, h2⟩ := split_pieces c k s
  by_cases h : (WM.pieces c s).length ≤ k + 1
  · rw [h1 h]
    exact ⟨Iff.rfl, fun _ => rfl, by omega⟩
  · have := h2 (by omega)
    refine ⟨?_, ?_, by omega⟩
    · rw [this]; constructor <;> intro g <;> omega
    · intro g; omega
theorem strike_out (c : UInt8) : ∀ (k : Nat) (s : List UInt8), Lib.count s [c] = k → Lib.replaceK [c] [] k s = s.filter (fun b => !(b == c)) := by
  intro k
  induction k with
  | zero =>
    intro s h
    rw [Lib.count_one, List.count_eq_zero] at h
    rw [Lib.replaceK]
    rw [List.filter_eq_self.2]
    intro a ha
    simp only [Bool.not_eq_true', beq_eq_false_iff_ne, ne_eq]
    intro e; subst e; exact h ha
  | succ k ih =>
    intro s h
    have hc : c ∈ s := by
      rw [Lib.count_one] at h
      exact List.count_pos_iff.1 (by omega)
    obtain ⟨x, y, rfl, hx⟩ := List.eq_append_cons_of_mem hc
    rw [Lib.replaceK_hit [c] [] k _ x.length (index_at hx y)]
    have hy : Lib.count y [c] = k := by
      rw [Lib.count_one] at h ⊢
      rw [List.count_append, List.count_cons_self, List.count_eq_zero.2 hx] at h
      omega
    have e1 : (x ++ c :: y).take x.length = x := by simp
    have e2 : (x ++ c :: y).drop (x.length + [c].length) = y := by simp
    rw [e1, e2, ih y hy, List.filter_append, List.filter_cons]
    have e3 : x.filter (fun b => !(b == c)) = x := by
      rw [List.filter_eq_self]
      intro a ha
      simp only [Bool.not_eq_true', beq_eq_false_iff_ne, ne_eq]
      intro e; subst e; exact hx ha
    rw [e3]
    simp
theorem replace_out (c : UInt8) (s : List UInt8) : Lib.replaceAll s [c] [] = s.filter (fun b => !(b == c)) := by
  unfold Lib.replaceAll Lib.replace
  rw [if_neg (by simp)]
  unfold Lib.replaceNum
  rw [if_pos (.inl (by decide))]
  exact strike_out c _ s rfl
end EM

/- Layer 10: series compared and in boxes. -/
namespace Go.Proofs.Ytagmknahmkniaaa
open Go.RowKit Go.Recs
set_option linter.unusedVariables false
abbrev serA (s : EM.Ser) : Value := .agg #[.string s.prod, .int .i64 s.kind, .int .i64 s.expiry, .int .i64 s.strike]
def seq (x y : EM.Ser) : Bool := (x.prod.toList == y.prod.toList) && ((x.kind == y.kind) && ((x.expiry == y.expiry) && (x.strike == y.strike)))
theorem seq_iff {x y : EM.Ser} : seq x y = true ↔ x = y := by
  constructor
  · intro h
    unfold seq at h
    simp only [Bool.and_eq_true, beq_iff_eq] at h
    obtain ⟨h1, h2, h3, h4⟩ := h
    cases x; cases y
    simp only at h1 h2 h3 h4
    rw [EM.toList_inj h1, h2, h3, h4]
  · rintro rfl
    simp [seq]
theorem seq_false {x y : EM.Ser} : seq x y = false ↔ x ≠ y := by rw [Bool.eq_false_iff, ne_eq, seq_iff]
theorem ser_in (x y : EM.Ser) (w : World) : (Op.equalIn 10000 56 (serA x) (serA y)).run Try.prog w = .ok (seq x y) w := by
  have u3 := Try.underlying3
  have u9 := Try.underlying9
  have a3 := Try.isAgg3
  have a9 := Try.isAgg9
  have z3 := Try.sizeOf3
  have z9 := Try.sizeOf9
  have hS : Try.prog.underlying 56 = some (.struct (Try.prog.fieldsOf 56)) := by kernel_rfl
  have hp : Try.prog.stoodInHeld 56 = false := by kernel_rfl
  rw [show (10000 : Nat) = 9999 + 1 from rfl, run_equalIn_agg w 9999 56 _ _ hS hp]
  simp only [Program.fieldsOf, Try.underlying56]
  unfold seq
  go_simp
  by_cases h1 : x.prod.toList = y.prod.toList <;> by_cases h2 : x.kind = y.kind <;> by_cases h3 : x.expiry = y.expiry <;> by_cases h4 : x.strike = y.strike <;> simp [h1, h2, h3, h4]
theorem ser_guard : Try.prog.eqGuardType Try.prog.depth 56 = false := by kernel_rfl
/-- block g is one series -/
def SBox (w : World) (g : Nat) (p : EM.Ser) : Prop := w.heap[g]? = some (.cells #[.string p.prod, .int .i64 p.kind, .int .i64 p.expiry, .int .i64 p.strike] 56 (0, 0))
section
variable {w w' : World} {g B : Nat} {p : EM.Ser}
theorem SBox.new (w : World) (p : EM.Ser) : SBox (w.alloc (.cells #[.string p.prod, .int .i64 p.kind, .int .i64 p.expiry, .int .i64 p.strike] 56)) w.heap.size p := heap_alloc_new w _
theorem SBox.below (h : SBox w g p) (hb : Below B w w') (hg : g < B) : SBox w' g p := (hb.block g hg).trans h
theorem SBox.lt (h : SBox w g p) : g < w.heap.size := lt_of_block h
theorem SBox.cells (h : SBox w g p) :
    w.cell? ⟨g, 0, none⟩ = some (.string p.prod) ∧ w.cell? ⟨g, 1, none⟩ = some (.int .i64 p.kind) ∧ w.cell? ⟨g, 2, none⟩ = some (.int .i64 p.expiry) ∧ w.cell? ⟨g, 3, none⟩ = some (.int .i64 p.strike) := by
  unfold SBox at h
  simp [World.cell?, h]
theorem SBox.drewN (h : SBox w g p) (n : Nat) : SBox (w.drewN n) g p := h
theorem SBox.drew (h : SBox w g p) : SBox w.drew g p := h
theorem SBox.alloc (h : SBox w g p) (o : Obj) : SBox (w.alloc o) g p := (Below.heap_alloc w o g h.lt).trans h
theorem SBox.frozen (h : SBox w g p) (i : Nat) : w.frozen? ⟨g, i, none⟩ = false := by unfold SBox at h; simp [World.frozen?, h]
theorem SBox.put (h : SBox w g p) (x : EM.Ser) : SBox ((((w.setCell ⟨g, 0, none⟩ (.string x.prod)).setCell ⟨g, 1, none⟩ (.int .i64 x.kind)).setCell ⟨g, 2, none⟩ (.int .i64 x.expiry)).setCell ⟨g, 3, none⟩ (.int .i64 x.strike)) g x := by
  unfold SBox at h ⊢
  simp [World.setCell, Array.getElem?_modify, h]
theorem SBox.put_below {a : World} (h : Below B a w) (hB : B ≤ g) (x : EM.Ser) : Below B a ((((w.setCell ⟨g, 0, none⟩ (.string x.prod)).setCell ⟨g, 1, none⟩ (.int .i64 x.kind)).setCell ⟨g, 2, none⟩ (.int .i64 x.expiry)).setCell ⟨g, 3, none⟩ (.int .i64 x.strike)) :=
  (((h.setCell hB _).setCell hB _).setCell hB _).setCell hB _
theorem SBox.strike (h : SBox w g p) (n : Int) : SBox (w.setCell ⟨g, 3, none⟩ (.int .i64 n)) g { p with strike := n } := by
  unfold SBox at h ⊢
  simp [World.setCell, Array.getElem?_modify, h]
end
theorem ser_under : Try.prog.underlying 56 = some (.struct (Try.prog.fieldsOf 56)) := by kernel_rfl
theorem ser_size : (Try.prog.info? 56).map (·.size) = some 4 := by kernel_rfl
theorem results_ser {fn : Func} {p u : Tmp} (h : fn.results = #[.cell p 56, .tmp u]) (tmps : Array Value) (w : World) (g : Nat) (x : EM.Ser)
    (hp : tmps.getD p undef = .pointer (some ⟨g, 0, none⟩)) (hb : SBox w g x) : (results fn tmps).run Try.prog w = .ok (.tuple #[serA x, tmps.getD u undef]) w := by
  rw [results_cell_tmp h, hp]
  simp only [asAddr, Sem.run_pure, Result.andThen_ok]
  rw [run_loadVar_row w g 56 56 _ (0, 0) _ hb ser_under rfl ser_size]
  rfl
end Go.Proofs.Ytagmknahmkniaaa

/- A leg and an account's name in a box; records compared. -/
namespace Go.Proofs.Ytagmknahmkniaaa
open Go.RowKit Go.Recs
set_option linter.unusedVariables false
set_option linter.unusedSimpArgs false
abbrev legA (x : NM.Leg) : Value := .agg #[.string x.am, .string x.an, .string x.ser.prod, .int .i64 x.ser.kind, .int .i64 x.ser.expiry, .int .i64 x.ser.strike, .int .i64 x.qty, .int .i64 x.price, .int .i64 x.trade]
abbrev legC (x : NM.Leg) : Array Value := #[.string x.am, .string x.an, .string x.ser.prod, .int .i64 x.ser.kind, .int .i64 x.ser.expiry, .int .i64 x.ser.strike, .int .i64 x.qty, .int .i64 x.price, .int .i64 x.trade]
abbrev kA (a b : ByteArray) : Value := .agg #[.string a, .string b]
abbrev kC (a b : ByteArray) : Array Value := #[.string a, .string b]
theorem info_leg : (Try.prog.info? 58).map (fun i => (i.zero, i.size, i.bytes)) = some (some (legA NM.zero), 9, 96) := by kernel_rfl
theorem leg_under : Try.prog.underlying 58 = some (.struct (Try.prog.fieldsOf 58)) := by kernel_rfl
theorem leg_size : (Try.prog.info? 58).map (·.size) = some 9 := by kernel_rfl
theorem load_leg (w : World) (g : Nat) (x : NM.Leg) (hb : CB w g 58 (legC x)) : (loadVar 58 ⟨g, 0, none⟩).run Try.prog w = .ok (legA x) w := by
  rw [run_loadVar_row w g 58 58 _ (0, 0) _ hb leg_under rfl leg_size]
theorem results_leg {fn : Func} {p : Tmp} (h : fn.results = #[.cell p 58]) (tmps : Array Value) (w : World) (g : Nat) (x : NM.Leg)
    (hp : tmps.getD p undef = .pointer (some ⟨g, 0, none⟩)) (hb : CB w g 58 (legC x)) : (results fn tmps).run Try.prog w = .ok (legA x) w := by
  rw [results_cell1 h, hp]
  simp only [asAddr, Sem.run_pure, Result.andThen_ok]
  exact load_leg w g x hb
theorem results_legs {fn : Func} {p q : Tmp} (h : fn.results = #[.cell p 58, .cell q 58]) (tmps : Array Value) (w : World) (g j : Nat) (x y : NM.Leg)
    (hp : tmps.getD p undef = .pointer (some ⟨g, 0, none⟩)) (hq : tmps.getD q undef = .pointer (some ⟨j, 0, none⟩)) (hb : CB w g 58 (legC x)) (hc : CB w j 58 (legC y)) : (results fn tmps).run Try.prog w = .ok (.tuple #[legA x, legA y]) w := by
  rw [results_cell2 h, hp]
  simp only [asAddr, Sem.run_pure, Result.andThen_ok]
  rw [load_leg w g x hb]
  simp only [Result.andThen_ok, hq, asAddr, Sem.run_pure]
  rw [load_leg w j y hc]
  rfl
/-- the world with the leg x in block g -/
def putL (w : World) (g : Nat) (x : NM.Leg) : World := ((((((((w.setCell ⟨g, 0, none⟩ (.string x.am)).setCell ⟨g, 1, none⟩ (.string x.an)).setCell ⟨g, 2, none⟩ (.string x.ser.prod)).setCell ⟨g, 3, none⟩ (.int .i64 x.ser.kind)).setCell ⟨g, 4, none⟩ (.int .i64 x.ser.expiry)).setCell ⟨g, 5, none⟩ (.int .i64 x.ser.strike)).setCell ⟨g, 6, none⟩ (.int .i64 x.qty)).setCell ⟨g, 7, none⟩ (.int .i64 x.price)).setCell ⟨g, 8, none⟩ (.int .i64 x.trade)
theorem CB.putL {w : World} {g : Nat} {y : NM.Leg} (h : CB w g 58 (legC y)) (x : NM.Leg) : CB (Proofs.Ytagmknahmkniaaa.putL w g x) g 58 (legC x) := by
  have := ((((((((h.set_ 0 (.string x.am)).set_ 1 (.string x.an)).set_ 2 (.string x.ser.prod)).set_ 3 (.int .i64 x.ser.kind)).set_ 4 (.int .i64 x.ser.expiry)).set_ 5 (.int .i64 x.ser.strike)).set_ 6 (.int .i64 x.qty)).set_ 7 (.int .i64 x.price)).set_ 8 (.int .i64 x.trade)
  unfold Proofs.Ytagmknahmkniaaa.putL
  simpa using this
theorem putL_below {a w : World} {B g : Nat} (h : Below B a w) (hg : B ≤ g) (x : NM.Leg) : Below B a (putL w g x) :=
  ((((((((h.setCell (p := ⟨g, 0, none⟩) hg _).setCell (p := ⟨g, 1, none⟩) hg _).setCell (p := ⟨g, 2, none⟩) hg _).setCell (p := ⟨g, 3, none⟩) hg _).setCell (p := ⟨g, 4, none⟩) hg _).setCell (p := ⟨g, 5, none⟩) hg _).setCell (p := ⟨g, 6, none⟩) hg _).setCell (p := ⟨g, 7, none⟩) hg _).setCell (p := ⟨g, 8, none⟩) hg _
theorem CB.putL_far {w : World} {g j : Nat} {t : TypeId} {cs : Array Value} (h : CB w g t cs) (hne : g ≠ j) (x : NM.Leg) : CB (Proofs.Ytagmknahmkniaaa.putL w j x) g t cs :=
  ((((((((h.far (p := ⟨j, 0, none⟩) hne _).far (p := ⟨j, 1, none⟩) hne _).far (p := ⟨j, 2, none⟩) hne _).far (p := ⟨j, 3, none⟩) hne _).far (p := ⟨j, 4, none⟩) hne _).far (p := ⟨j, 5, none⟩) hne _).far (p := ⟨j, 6, none⟩) hne _).far (p := ⟨j, 7, none⟩) hne _).far (p := ⟨j, 8, none⟩) hne _
theorem acc_in_at (n : Nat) (a b c d : ByteArray) (w : World) : (Op.equalIn (n + 2) 54 (kA a b) (kA c d)).run Try.prog w = .ok (NM.aeq a b c d) w := by
  have u9 := Try.underlying9
  have a9 := Try.isAgg9
  have z9 := Try.sizeOf9
  have hS : Try.prog.underlying 54 = some (.struct (Try.prog.fieldsOf 54)) := by kernel_rfl
  have hp : Try.prog.stoodInHeld 54 = false := by kernel_rfl
  rw [show n + 2 = (n + 1) + 1 from rfl, run_equalIn_agg w (n + 1) 54 _ _ hS hp]
  simp only [Program.fieldsOf, Try.underlying54]
  unfold NM.aeq
  go_simp
  by_cases h1 : a.toList = c.toList <;> by_cases h2 : b.toList = d.toList <;> simp [h1, h2]
theorem ser_in_at (n : Nat) (x y : EM.Ser) (w : World) : (Op.equalIn (n + 2) 56 (serA x) (serA y)).run Try.prog w = .ok (NM.seqB x y) w := by
  have u3 := Try.underlying3
  have u9 := Try.underlying9
  have a3 := Try.isAgg3
  have a9 := Try.isAgg9
  have z3 := Try.sizeOf3
  have z9 := Try.sizeOf9
  have hS : Try.prog.underlying 56 = some (.struct (Try.prog.fieldsOf 56)) := by kernel_rfl
  have hp : Try.prog.stoodInHeld 56 = false := by kernel_rfl
  rw [show n + 2 = (n + 1) + 1 from rfl, run_equalIn_agg w (n + 1) 56 _ _ hS hp]
  simp only [Program.fieldsOf, Try.underlying56]
  unfold NM.seqB
  go_simp
  by_cases h1 : x.prod.toList = y.prod.toList <;> by_cases h2 : x.kind = y.kind <;> by_cases h3 : x.expiry = y.expiry <;> by_cases h4 : x.strike = y.strike <;> simp [h1, h2, h3, h4]
theorem acc_in (a b c d : ByteArray) (w : World) : (Op.equalIn 10000 54 (kA a b) (kA c d)).run Try.prog w = .ok (NM.aeq a b c d) w := acc_in_at 9998 a b c d w
theorem serB_in (x y : EM.Ser) (w : World) : (Op.equalIn 10000 56 (serA x) (serA y)).run Try.prog w = .ok (NM.seqB x y) w := ser_in_at 9998 x y w
theorem acc_guard : Try.prog.eqGuardType Try.prog.depth 54 = false := by kernel_rfl
theorem leg_guard : Try.prog.eqGuardType Try.prog.depth 58 = false := by kernel_rfl
theorem leg_in (x y : NM.Leg) (w : World) : (Op.equalIn 10000 58 (legA x) (legA y)).run Try.prog w = .ok (NM.leq x y) w := by
  have u3 := Try.underlying3
  have a3 := Try.isAgg3
  have z3 := Try.sizeOf3
  have aA := Try.isAgg54
  have zA := Try.sizeOf54
  have aS := Try.isAgg56
  have zS := Try.sizeOf56
  have hS : Try.prog.underlying 58 = some (.struct (Try.prog.fieldsOf 58)) := by kernel_rfl
  have hp : Try.prog.stoodInHeld 58 = false := by kernel_rfl
  have e1 := acc_in_at 9997 x.am x.an y.am y.an
  have e2 := ser_in_at 9997 x.ser y.ser
  rw [show (10000 : Nat) = 9999 + 1 from rfl, run_equalIn_agg w 9999 58 _ _ hS hp]
  simp only [Program.fieldsOf, Try.underlying58]
  unfold NM.leq
  generalize NM.aeq x.am x.an y.am y.an = p at *
  generalize NM.seqB x.ser y.ser = q at *
  go_simp
  cases p <;> cases q <;> by_cases h1 : x.qty = y.qty <;> by_cases h2 : x.price = y.price <;> by_cases h3 : x.trade = y.trade <;> simp [h1, h2, h3]
end Go.Proofs.Ytagmknahmkniaaa

/- Layer 15: positions. -/
namespace PO
structure Pos where
  ser : EM.Ser
  lo : Int
  sh : Int
def zero : Pos := ⟨EM.zero, 0, 0⟩
def pAt (l : List Pos) (k : Nat) : Pos := l.getD k zero
theorem pAt_get {l : List Pos} {k : Nat} (h : k < l.length) : pAt l k = l[k] := by simp [pAt, List.getD, h]
end PO
