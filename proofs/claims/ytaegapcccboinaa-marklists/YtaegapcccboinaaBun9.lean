/- Put together: SumMath, NovMath, PosMath2, ShelfP, SerC, PosA, PosB, PosC. -/
import Derived.Test.YtaegapcccboinaaBun1
import Derived.Test.YtaegapcccboinaaBun3
import Derived.Test.YtaegapcccboinaaBun8
import Derived.Test.YtaegapcccboinaaBun2
import Derived.Test.YtaegapcccboinaaBun7
import Derived.Shelf.SlGeneric
import Derived.Shelf.Small.Wraps
import Derived.Shelf.Small.Strs
import Derived.Shelf.SlLaysQ
import Derived.Shelf.SlLaysF0
import Derived.Shelf.SlLaysE0
import Derived.Ground.NamesProg
import Derived.Ground.SlgqProg
import Derived.Ground.SlsfProg
import Derived.Ground.SlgnProg
import Derived.Test.YtaegapcccboinaaProg
import Derived.Test.YtaegapcccboinaaBun5
import Derived.Sort.Grow
import Derived.Deep.RegionHeld3
import Derived.Deep.QuietTactic
import Derived.BigQuiet
import Derived.Test.YtaegapcccboinaaBun4
namespace CM
open LM

/-- all fit -/
def allFit (l : List Int) : Bool := l.all fits
def sumN (l : List Int) : Int := if allFit l then fitN (tot l) else 0
def sumE (l : List Int) : Int := if allFit l then fitE (tot l) else 2

theorem allFit_snoc (l : List Int) (x : Int) : allFit (l ++ [x]) = (allFit l && fits x) := by simp [allFit]
theorem allFit_take_succ (l : List Int) (k : Nat) (h : k < l.length) : allFit (l.take (k + 1)) = (allFit (l.take k) && fits (l.getD k 0)) := by
  rw [take_snoc l k h, allFit_snoc]
theorem allFit_reverse (l : List Int) : allFit l.reverse = allFit l := by simp [allFit]
theorem sumN_reverse (l : List Int) : sumN l.reverse = sumN l := by simp [sumN, allFit_reverse, tot_reverse]
theorem sumE_reverse (l : List Int) : sumE l.reverse = sumE l := by simp [sumE, allFit_reverse, tot_reverse]

theorem allFit_no {l : List Int} {k : Nat} (hk : k < l.length) (h : fits (l.getD k 0) = false) : sumN l = 0 ∧ sumE l = 2 := by
  have : allFit l = false := by
    cases hc : allFit l
    · rfl
    · have := (List.all_eq_true.1 hc) _ (getD_mem l k hk)
      rw [h] at this; exact absurd this (by simp)
  simp [sumN, sumE, this]

theorem sum_yes {l : List Int} (h : allFit l = true) : sumN l = fitN (tot l) ∧ sumE l = fitE (tot l) := by simp [sumN, sumE, h]

/-- what the program's Sum holds after k rounds -/
def SInv (l : List Int) (k : Nat) (full part : Int) : Prop :=
  allFit (l.take k) = true ∧ full * 1152921504606846976 + part = tot (l.take k) ∧ -1152921504606846976 < part ∧ part < 1152921504606846976 ∧ -(k : Int) ≤ full ∧ full ≤ k

theorem SInv.start (l : List Int) : SInv l 0 0 0 := ⟨rfl, rfl, by omega, by omega, by omega, by omega⟩

theorem SInv.bounds {l : List Int} {k : Nat} {full part : Int} (h : SInv l k full part) : -1152921504606846976 < part ∧ part < 1152921504606846976 ∧ -(k : Int) ≤ full ∧ full ≤ k := h.2.2

theorem SInv.step {l : List Int} {k : Nat} {full part f' p' : Int} (h : SInv l k full part) (hk : k < l.length) (hf : fits (l.getD k 0) = true)
    (he : f' * 1152921504606846976 + p' = full * 1152921504606846976 + part + l.getD k 0) (h1 : -1152921504606846976 < p') (h2 : p' < 1152921504606846976)
    (h3 : full - 1 ≤ f') (h4 : f' ≤ full + 1) : SInv l (k + 1) f' p' := by
  obtain ⟨a1, a2, a3, a4, a5, a6⟩ := h
  refine ⟨by rw [allFit_take_succ l k hk, a1, hf]; rfl, by rw [tot_take_succ l k hk, ← a2]; exact he, h1, h2, by omega, by omega⟩

theorem SInv.done {l : List Int} {full part : Int} (h : SInv l l.length full part) :
    (full > 1 ∨ full < -1 → sumN l = 0 ∧ sumE l = 3) ∧ (sumN l = fitN (full * 1152921504606846976 + part) ∧ sumE l = fitE (full * 1152921504606846976 + part)) := by
  obtain ⟨a1, a2, a3, a4, a5, a6⟩ := h
  rw [List.take_length] at a1 a2
  obtain ⟨s1, s2⟩ := sum_yes a1
  rw [s1, s2, a2]
  refine ⟨fun hf => ?_, rfl, rfl⟩
  have : fits (tot l) = false := by rw [fits_false, ← a2]; omega
  simp [fitN, fitE, this]
end CM

/- Layer 13's mathematics: the legs of trades with the house. -/
namespace NM
open LM
structure Leg where
  am : ByteArray
  an : ByteArray
  ser : EM.Ser
  qty : Int
  price : Int
  trade : Int
def zero : Leg := ⟨MM.nil, MM.nil, EM.zero, 0, 0, 0⟩
def lAt (l : List Leg) (k : Nat) : Leg := l.getD k zero
theorem lAt_get {l : List Leg} {k : Nat} (h : k < l.length) : lAt l k = l[k] := by simp [lAt, List.getD, h]
def aeq (am an bm bn : ByteArray) : Bool := (am.toList == bm.toList) && (an.toList == bn.toList)
def seqB (x y : EM.Ser) : Bool := (x.prod.toList == y.prod.toList) && ((x.kind == y.kind) && ((x.expiry == y.expiry) && (x.strike == y.strike)))
theorem aeq_iff {a b c d : ByteArray} : aeq a b c d = true ↔ a = c ∧ b = d := by
  unfold aeq
  rw [Bool.and_eq_true, beq_iff_eq, beq_iff_eq]
  constructor
  · rintro ⟨h1, h2⟩; exact ⟨EM.toList_inj h1, EM.toList_inj h2⟩
  · rintro ⟨rfl, rfl⟩; exact ⟨rfl, rfl⟩
theorem seqB_iff {x y : EM.Ser} : seqB x y = true ↔ x = y := by
  constructor
  · intro h
    unfold seqB at h
    simp only [Bool.and_eq_true, beq_iff_eq] at h
    obtain ⟨h1, h2, h3, h4⟩ := h
    cases x; cases y
    simp only at h1 h2 h3 h4
    rw [EM.toList_inj h1, h2, h3, h4]
  · rintro rfl
    simp [seqB]
/-- two legs the same -/
def leq (x y : Leg) : Bool := aeq x.am x.an y.am y.an && (seqB x.ser y.ser && ((x.qty == y.qty) && ((x.price == y.price) && (x.trade == y.trade))))
theorem leq_iff {x y : Leg} : leq x y = true ↔ x = y := by
  constructor
  · intro h
    unfold leq at h
    simp only [Bool.and_eq_true, beq_iff_eq, aeq_iff, seqB_iff] at h
    obtain ⟨⟨h1, h2⟩, h3, h4, h5, h6⟩ := h
    cases x; cases y
    simp_all
  · rintro rfl
    simp [leq, aeq, seqB]
/-- the legs of one trade -/
def bought (t : TM.Trd) : Leg := ⟨t.bm, t.bn, t.ser, t.qty, t.price, t.id⟩
def neg64 (x : Int) : Int := if x = -9223372036854775808 then x else -x
def sold (t : TM.Trd) : Leg := ⟨t.sm, t.sn, t.ser, neg64 t.qty, t.price, t.id⟩
def undo (x : Leg) : Leg := { x with qty := neg64 x.qty }
def allL (l : List TM.Trd) : List Leg := l.flatMap fun t => [bought t, sold t]
theorem allL_len (l : List TM.Trd) : (allL l).length = 2 * l.length := by
  induction l with
  | nil => rfl
  | cons t l ih => simp only [allL, List.flatMap_cons, List.length_append, List.length_cons, List.length_nil] at ih ⊢; omega
theorem take_succ {α : Type} {l : List α} {k : Nat} (h : k < l.length) : l.take (k + 1) = l.take k ++ [l[k]] := List.take_succ_eq_append_getElem h
theorem allL_succ {l : List TM.Trd} {k : Nat} (h : k < l.length) : allL (l.take (k + 1)) = allL (l.take k) ++ [bought (TM.tAt l k), sold (TM.tAt l k)] := by
  rw [take_succ h, TM.tAt_get h]
  simp only [allL, List.flatMap_append, List.flatMap_cons, List.flatMap_nil, List.append_nil]
def badQ (x : Leg) : Bool := decide (x.qty < -1048576) || decide (1048576 < x.qty)
def checkE (l : List Leg) : Int := if 2048 < l.length then 8 else if l.any badQ = true then 18 else 0
theorem check_long {l : List Leg} (h : 2048 < l.length) : checkE l = 8 := by unfold checkE; rw [if_pos h]
theorem check_qty {l : List Leg} (h : ¬ 2048 < l.length) {k : Nat} (hk : k < l.length) (hq : badQ (lAt l k) = true) : checkE l = 18 := by
  unfold checkE
  rw [if_neg h, if_pos]
  rw [lAt_get hk] at hq
  exact List.any_eq_true.2 ⟨_, List.getElem_mem hk, hq⟩
theorem check_ok {l : List Leg} (h : ¬ 2048 < l.length) (hq : ∀ j, j < l.length → badQ (lAt l j) = false) : checkE l = 0 := by
  unfold checkE
  rw [if_neg h, if_neg]
  intro e
  obtain ⟨x, hx, hb⟩ := List.any_eq_true.1 e
  obtain ⟨j, hj, rfl⟩ := List.getElem_of_mem hx
  have := hq j hj
  rw [lAt_get hj, hb] at this
  cases this
theorem check_inv {l : List Leg} (h : checkE l = 0) : l.length ≤ 2048 ∧ ∀ x ∈ l, -1048576 ≤ x.qty ∧ x.qty ≤ 1048576 := by
  unfold checkE at h
  split at h
  · cases h
  split at h
  · cases h
  · rename_i h1 h2
    refine ⟨by omega, fun x hx => ?_⟩
    have : badQ x = false := by
      cases e : badQ x
      · rfl
      · exact absurd (List.any_eq_true.2 ⟨x, hx, e⟩) h2
    unfold badQ at this
    simp at this
    omega
theorem check_cases (l : List Leg) : checkE l = 0 ∨ checkE l = 8 ∨ checkE l = 18 := by
  unfold checkE
  split
  · simp
  split <;> simp
/-- lots together -/
def qsum (l : List Leg) : Int := tot (l.map (·.qty))
theorem qsum_append (l m : List Leg) : qsum (l ++ m) = qsum l + qsum m := by simp [qsum, tot_append]
theorem qsum_one (x : Leg) : qsum [x] = x.qty := by simp [qsum, tot]
theorem qsum_nil : qsum [] = 0 := rfl
theorem qsum_bound {l : List Leg} (h : ∀ x ∈ l, -1048576 ≤ x.qty ∧ x.qty ≤ 1048576) : -(l.length * 1048576 : Int) ≤ qsum l ∧ qsum l ≤ l.length * 1048576 := by
  induction l with
  | nil => simp [qsum, tot]
  | cons x l ih =>
    have h1 := h x (by simp)
    have h2 := ih (fun y hy => h y (by simp [hy]))
    have e : qsum (x :: l) = x.qty + qsum l := by simp [qsum, tot]
    rw [e, List.length_cons]
    omega
theorem filter_succ {α : Type} {l : List α} {k : Nat} (h : k < l.length) (p : α → Bool) : (l.take (k + 1)).filter p = (l.take k).filter p ++ (if p l[k] = true then [l[k]] else []) := by
  rw [take_succ h, List.filter_append]
  congr 1
  cases h : p l[k] <;> simp [h]
/-- the lots of the first k that are asked for -/
def fsum (p : Leg → Bool) (l : List Leg) (k : Nat) : Int := qsum ((l.take k).filter p)
theorem fsum_zero (p : Leg → Bool) (l : List Leg) : fsum p l 0 = 0 := by simp [fsum, qsum, tot]
theorem fsum_hit {p : Leg → Bool} {l : List Leg} {k : Nat} (h : k < l.length) (hp : p (lAt l k) = true) : fsum p l (k + 1) = fsum p l k + (lAt l k).qty := by
  rw [lAt_get h] at hp ⊢
  unfold fsum
  rw [filter_succ h, if_pos hp, qsum_append, qsum_one]
theorem fsum_miss {p : Leg → Bool} {l : List Leg} {k : Nat} (h : k < l.length) (hp : p (lAt l k) = false) : fsum p l (k + 1) = fsum p l k := by
  rw [lAt_get h] at hp
  unfold fsum
  rw [filter_succ h, hp]
  simp
theorem fsum_end (p : Leg → Bool) (l : List Leg) : fsum p l l.length = qsum (l.filter p) := by unfold fsum; rw [List.take_length]
theorem sub_bound {l m : List Leg} (h : checkE l = 0) (hs : ∀ x ∈ m, x ∈ l) (hl : m.length ≤ l.length) : -2147483648 ≤ qsum m ∧ qsum m ≤ 2147483648 := by
  obtain ⟨h1, h2⟩ := check_inv h
  have := qsum_bound (l := m) (fun x hx => h2 x (hs x hx))
  omega
theorem fsum_bound {p : Leg → Bool} {l : List Leg} (h : checkE l = 0) (k : Nat) : -2147483648 ≤ fsum p l k ∧ fsum p l k ≤ 2147483648 := by
  refine sub_bound h (fun _ hx => List.mem_of_mem_take (List.mem_filter.1 hx).1) ?_
  refine Nat.le_trans (List.length_filter_le _ _) ?_
  rw [List.length_take]; omega
theorem qty_bound {l : List Leg} (h : checkE l = 0) {k : Nat} (hk : k < l.length) : -1048576 ≤ (lAt l k).qty ∧ (lAt l k).qty ≤ 1048576 := by
  rw [lAt_get hk]; exact (check_inv h).2 _ (List.getElem_mem hk)
def mine (am an : ByteArray) (s : EM.Ser) (x : Leg) : Bool := aeq x.am x.an am an && seqB x.ser s
def ofS (s : EM.Ser) (x : Leg) : Bool := seqB x.ser s
def netN (l : List Leg) (am an : ByteArray) (s : EM.Ser) : Int := if checkE l = 0 then qsum (l.filter (mine am an s)) else 0
def houseN (l : List Leg) (s : EM.Ser) : Int := if checkE l = 0 then -qsum (l.filter (ofS s)) else 0
theorem net_ok {l : List Leg} (h : checkE l = 0) (am an : ByteArray) (s : EM.Ser) : netN l am an s = qsum (l.filter (mine am an s)) := by unfold netN; rw [if_pos h]
theorem net_no {l : List Leg} (h : ¬ checkE l = 0) (am an : ByteArray) (s : EM.Ser) : netN l am an s = 0 := by unfold netN; rw [if_neg h]
theorem house_ok {l : List Leg} (h : checkE l = 0) (s : EM.Ser) : houseN l s = -qsum (l.filter (ofS s)) := by unfold houseN; rw [if_pos h]
theorem house_no {l : List Leg} (h : ¬ checkE l = 0) (s : EM.Ser) : houseN l s = 0 := by unfold houseN; rw [if_neg h]
theorem filter_bound {l : List Leg} (h : checkE l = 0) (p : Leg → Bool) : -2147483648 ≤ qsum (l.filter p) ∧ qsum (l.filter p) ≤ 2147483648 :=
  sub_bound h (fun _ hx => (List.mem_filter.1 hx).1) (List.length_filter_le _ _)
theorem net_bound (l : List Leg) (am an : ByteArray) (s : EM.Ser) : -2147483648 ≤ netN l am an s ∧ netN l am an s ≤ 2147483648 := by
  by_cases h : checkE l = 0
  · rw [net_ok h]; exact filter_bound h _
  · rw [net_no h]; omega
theorem house_bound (l : List Leg) (s : EM.Ser) : -2147483648 ≤ houseN l s ∧ houseN l s ≤ 2147483648 := by
  by_cases h : checkE l = 0
  · have := filter_bound h (ofS s)
    rw [house_ok h]; omega
  · rw [house_no h]; omega
/-- is the house flat? -/
def flatB (l : List Leg) : Bool := decide (checkE l = 0) && l.all fun x => houseN l x.ser == 0
theorem flat_no {l : List Leg} (h : ¬ checkE l = 0) : flatB l = false := by unfold flatB; simp [h]
theorem flat_bad {l : List Leg} {k : Nat} (hk : k < l.length) (h : ¬ houseN l (lAt l k).ser = 0) : flatB l = false := by
  unfold flatB
  rw [lAt_get hk] at h
  have : (l.all fun y => houseN l y.ser == 0) = false := by
    cases e : l.all fun y => houseN l y.ser == 0
    · rfl
    · exact absurd (by simpa using (List.all_eq_true.1 e) _ (List.getElem_mem hk)) h
  rw [this, Bool.and_false]
theorem flat_yes {l : List Leg} (h : checkE l = 0) (hk : ∀ j, j < l.length → houseN l (lAt l j).ser = 0) : flatB l = true := by
  unfold flatB
  rw [Bool.and_eq_true]
  refine ⟨by simpa using h, List.all_eq_true.2 fun x hx => ?_⟩
  obtain ⟨j, hj, rfl⟩ := List.getElem_of_mem hx
  have := hk j hj
  rw [lAt_get hj] at this
  simpa using this
theorem flat_inv {l : List Leg} (h : flatB l = true) : checkE l = 0 ∧ ∀ x ∈ l, houseN l x.ser = 0 := by
  unfold flatB at h
  rw [Bool.and_eq_true] at h
  exact ⟨by simpa using h.1, fun x hx => by simpa using (List.all_eq_true.1 h.2) x hx⟩
/-- what legs are worth -/
def firstE (p : QM.Prod) : List Leg → Int
  | [] => 0
  | x :: l => if QM.valueE p x.price x.qty = 0 then firstE p l else QM.valueE p x.price x.qty
def worth (p : QM.Prod) (l : List Leg) : List Int := l.map fun x => QM.valueN p x.price x.qty
def costE (l : List Leg) (am an : ByteArray) (p : QM.Prod) (s : EM.Ser) : Int :=
  if checkE l = 0 then (if firstE p (l.filter (mine am an s)) = 0 then CM.sumE (worth p (l.filter (mine am an s))) else firstE p (l.filter (mine am an s))) else checkE l
def costN (l : List Leg) (am an : ByteArray) (p : QM.Prod) (s : EM.Ser) : Int :=
  if checkE l = 0 then (if firstE p (l.filter (mine am an s)) = 0 then CM.sumN (worth p (l.filter (mine am an s))) else 0) else 0
theorem first_bad {p : QM.Prod} : ∀ {l : List Leg} {k : Nat}, k < l.length → (∀ j, j < k → QM.valueE p (lAt l j).price (lAt l j).qty = 0) → ¬ QM.valueE p (lAt l k).price (lAt l k).qty = 0 → firstE p l = QM.valueE p (lAt l k).price (lAt l k).qty := by
  intro l
  induction l with
  | nil => intro k h; simp at h
  | cons x l ih =>
    intro k hk h1 h2
    unfold firstE
    cases k with
    | zero =>
      have e : lAt (x :: l) 0 = x := rfl
      rw [e] at h2 ⊢
      rw [if_neg h2]
    | succ k =>
      have e0 : QM.valueE p x.price x.qty = 0 := h1 0 (by omega)
      rw [if_pos e0]
      exact ih (k := k) (by simpa using hk) (fun j hj => h1 (j + 1) (by omega)) h2
theorem first_ok {p : QM.Prod} : ∀ {l : List Leg}, (∀ j, j < l.length → QM.valueE p (lAt l j).price (lAt l j).qty = 0) → firstE p l = 0 := by
  intro l
  induction l with
  | nil => intro _; rfl
  | cons x l ih =>
    intro h
    have e0 : QM.valueE p x.price x.qty = 0 := h 0 (by simp)
    unfold firstE
    rw [if_pos e0]
    exact ih fun j hj => h (j + 1) (by simpa using hj)
/-- the first of a filtered list whose value fails, met in the unfiltered one -/
theorem first_append (p : QM.Prod) (l m : List Leg) : firstE p (l ++ m) = if firstE p l = 0 then firstE p m else firstE p l := by
  induction l with
  | nil => simp [firstE]
  | cons x l ih =>
    rw [List.cons_append]
    have e1 : ∀ r : List Leg, firstE p (x :: r) = if QM.valueE p x.price x.qty = 0 then firstE p r else QM.valueE p x.price x.qty := fun r => rfl
    rw [e1, e1]
    by_cases h : QM.valueE p x.price x.qty = 0
    · rw [if_pos h, if_pos h, ih]
    · rw [if_neg h, if_neg h, if_neg h]
theorem worth_append (p : QM.Prod) (l m : List Leg) : worth p (l ++ m) = worth p l ++ worth p m := by simp [worth]
theorem first_stop {p : QM.Prod} {f : Leg → Bool} {l : List Leg} {k : Nat} (hk : k < l.length) (h0 : firstE p ((l.take k).filter f) = 0) (hf : f (lAt l k) = true) (hv : ¬ QM.valueE p (lAt l k).price (lAt l k).qty = 0) :
    firstE p (l.filter f) = QM.valueE p (lAt l k).price (lAt l k).qty := by
  have e : l.filter f = (l.take (k + 1)).filter f ++ (l.drop (k + 1)).filter f := by rw [← List.filter_append, List.take_append_drop]
  have e2 : firstE p [lAt l k] = QM.valueE p (lAt l k).price (lAt l k).qty := by unfold firstE; rw [if_neg hv]
  have e3 : firstE p ((l.take (k + 1)).filter f) = QM.valueE p (lAt l k).price (lAt l k).qty := by
    rw [filter_succ hk, ← lAt_get hk, if_pos hf, first_append, if_pos h0, e2]
  rw [e, first_append, e3, if_neg hv]
theorem first_step {p : QM.Prod} {f : Leg → Bool} {l : List Leg} {k : Nat} (hk : k < l.length) (h0 : firstE p ((l.take k).filter f) = 0) (hv : f (lAt l k) = true → QM.valueE p (lAt l k).price (lAt l k).qty = 0) : firstE p ((l.take (k + 1)).filter f) = 0 := by
  rw [filter_succ hk, first_append, if_pos h0, ← lAt_get hk]
  by_cases hf : f (lAt l k) = true
  · rw [if_pos hf]; unfold firstE; rw [if_pos (hv hf)]; rfl
  · rw [if_neg hf]; rfl
theorem worth_hit {p : QM.Prod} {f : Leg → Bool} {l : List Leg} {k : Nat} (hk : k < l.length) (hf : f (lAt l k) = true) : worth p ((l.take (k + 1)).filter f) = worth p ((l.take k).filter f) ++ [QM.valueN p (lAt l k).price (lAt l k).qty] := by
  rw [filter_succ hk, ← lAt_get hk, if_pos hf, worth_append]; rfl
theorem worth_miss {p : QM.Prod} {f : Leg → Bool} {l : List Leg} {k : Nat} (hk : k < l.length) (hf : f (lAt l k) = false) : worth p ((l.take (k + 1)).filter f) = worth p ((l.take k).filter f) := by
  rw [filter_succ hk, ← lAt_get hk, hf]; simp
end NM

/- Layer 15's mathematics: lists of positions, a leg applied. -/
namespace PO
def okL (n : Int) : Bool := decide (0 ≤ n) && decide (n ≤ 1048576)
theorem okL_iff {n : Int} : okL n = true ↔ 0 ≤ n ∧ n ≤ 1048576 := by unfold okL; simp
def lotsB (lo sh : Int) : Bool := okL lo && okL sh && (decide (0 < lo) || decide (0 < sh))
theorem lotsB_iff {lo sh : Int} : lotsB lo sh = true ↔ (0 ≤ lo ∧ lo ≤ 1048576) ∧ (0 ≤ sh ∧ sh ≤ 1048576) ∧ (0 < lo ∨ 0 < sh) := by unfold lotsB okL; simp; omega
def eAt (l : List Pos) (k : Nat) : Int := if 0 < k ∧ ¬ EM.cmp (pAt l (k - 1)).ser (pAt l k).ser < 0 then 19 else if lotsB (pAt l k).lo (pAt l k).sh = true then 0 else 18
def firstE : List Int → Int
  | [] => 0
  | e :: r => if e = 0 then firstE r else e
theorem first_all : ∀ {l : List Int}, (∀ e ∈ l, e = 0) → firstE l = 0
  | [], _ => rfl
  | e :: r, h => by unfold firstE; rw [if_pos (h e (by simp))]; exact first_all fun x hx => h x (by simp [hx])
theorem first_inv : ∀ {l : List Int}, firstE l = 0 → ∀ e ∈ l, e = 0
  | [], _, e, he => by simp at he
  | x :: r, h, e, he => by
    unfold firstE at h
    by_cases hx : x = 0
    · rw [if_pos hx] at h
      rcases List.mem_cons.1 he with rfl | he
      · exact hx
      · exact first_inv h e he
    · rw [if_neg hx] at h; exact absurd h hx
theorem first_at : ∀ {l : List Int} {k : Nat} (hk : k < l.length), (∀ j (hj : j < k), l[j] = 0) → l[k] ≠ 0 → firstE l = l[k]
  | [], _, hk, _, _ => by simp at hk
  | e :: r, 0, _, _, h => by
    have h' : ¬ e = 0 := h
    unfold firstE; rw [if_neg h']; rfl
  | e :: r, k + 1, hk, hj, h => by
    have h0 : e = 0 := hj 0 (by omega)
    unfold firstE
    rw [if_pos h0]
    exact first_at (k := k) (by simpa using hk) (fun j hjk => hj (j + 1) (by omega)) h
def checkE (l : List Pos) : Int := if 128 < l.length then 8 else firstE ((List.range l.length).map (eAt l))
theorem check_long {l : List Pos} (h : 128 < l.length) : checkE l = 8 := by unfold checkE; rw [if_pos h]
theorem check_ok {l : List Pos} (hl : ¬ 128 < l.length) (h : ∀ j, j < l.length → eAt l j = 0) : checkE l = 0 := by
  unfold checkE
  rw [if_neg hl]
  refine first_all fun e he => ?_
  obtain ⟨j, hj, rfl⟩ := List.mem_map.1 he
  exact h j (List.mem_range.1 hj)
theorem check_at {l : List Pos} (hl : ¬ 128 < l.length) {k : Nat} (hk : k < l.length) (hj : ∀ j, j < k → eAt l j = 0) (h : eAt l k ≠ 0) : checkE l = eAt l k := by
  unfold checkE
  rw [if_neg hl, first_at (k := k) (by simpa using hk) (fun j hjk => by simpa using hj j hjk) (by simpa using h)]
  simp
theorem check_inv {l : List Pos} (h : checkE l = 0) : l.length ≤ 128 ∧ ∀ j, j < l.length → eAt l j = 0 := by
  unfold checkE at h
  by_cases hl : 128 < l.length
  · rw [if_pos hl] at h; cases h
  · rw [if_neg hl] at h
    exact ⟨by omega, fun j hj => first_inv h _ (List.mem_map.2 ⟨j, List.mem_range.2 hj, rfl⟩)⟩
def ascP (l : List Pos) : Prop := l.Pairwise (fun a b => EM.lt a.ser b.ser)
theorem eAt_zero {l : List Pos} {k : Nat} (h : eAt l k = 0) : (0 < k → EM.lt (pAt l (k - 1)).ser (pAt l k).ser) ∧ lotsB (pAt l k).lo (pAt l k).sh = true := by
  unfold eAt at h
  split at h
  · cases h
  · rename_i h1
    split at h
    · rename_i h2
      refine ⟨fun hk => ?_, h2⟩
      have h3 : EM.cmp (pAt l (k - 1)).ser (pAt l k).ser < 0 := by
        by_cases g : EM.cmp (pAt l (k - 1)).ser (pAt l k).ser < 0
        · exact g
        · exact absurd ⟨hk, g⟩ h1
      rcases EM.cmp_cases (pAt l (k - 1)).ser (pAt l k).ser with ⟨_, g⟩ | ⟨e, _⟩ | ⟨e, _⟩
      · exact g
      · omega
      · omega
    · cases h
theorem asc_of {l : List Pos} (h : ∀ j, j < l.length → eAt l j = 0) : ascP l := by
  refine List.pairwise_iff_getElem.2 fun i j hi hj hij => ?_
  have key : ∀ d i, i + d + 1 < l.length → EM.lt (pAt l i).ser (pAt l (i + d + 1)).ser := by
    intro d
    induction d with
    | zero => intro i hd; exact (eAt_zero (h (i + 0 + 1) hd)).1 (by omega)
    | succ d ih =>
      intro i hd
      have h1 := ih i (by omega)
      have h2 := (eAt_zero (h (i + (d + 1) + 1) hd)).1 (by omega)
      exact EM.lt_trans h1 h2
  have := key (j - i - 1) i (by omega)
  rw [show i + (j - i - 1) + 1 = j by omega, pAt_get hi, pAt_get hj] at this
  exact this
theorem check_good {l : List Pos} (h : checkE l = 0) : l.length ≤ 128 ∧ ascP l ∧ ∀ p ∈ l, lotsB p.lo p.sh = true := by
  obtain ⟨h1, h2⟩ := check_inv h
  refine ⟨h1, asc_of h2, fun p hp => ?_⟩
  obtain ⟨j, hj, rfl⟩ := List.getElem_of_mem hp
  have := (eAt_zero (h2 j hj)).2
  rwa [pAt_get hj] at this
theorem asc_inj {l : List Pos} (h : ascP l) {a b : Pos} (ha : a ∈ l) (hb : b ∈ l) (e : a.ser = b.ser) : a = b := by
  obtain ⟨i, hi, rfl⟩ := List.getElem_of_mem ha
  obtain ⟨j, hj, rfl⟩ := List.getElem_of_mem hb
  rcases Nat.lt_trichotomy i j with g | rfl | g
  · have := List.pairwise_iff_getElem.1 h i j hi hj g
    rw [e] at this; exact absurd this (EM.lt_irrefl _)
  · rfl
  · have := List.pairwise_iff_getElem.1 h j i hj hi g
    rw [e] at this; exact absurd this (EM.lt_irrefl _)
/-- a sorted arrangement of an ascending list is that list -/
theorem sort_unique {xs ys : List Pos} (hp : xs.Perm ys) (hy : ascP ys) (hs : ∀ i j (hi : i < xs.length) (hj : j < xs.length), i < j → ¬ EM.lt xs[j].ser xs[i].ser) : xs = ys := by
  refine List.Perm.eq_of_pairwise (le := fun a b : Pos => ¬ EM.lt b.ser a.ser) (fun a b ha hb h1 h2 => ?_) (List.pairwise_iff_getElem.2 hs) (hy.imp fun h => EM.lt_asymm h) hp
  rcases EM.lt_tri a.ser b.ser with g | g | g
  · exact absurd g h2
  · exact asc_inj hy (hp.mem_iff.1 ha) hb g
  · exact absurd g h1
def others (l : List Pos) (s : EM.Ser) : List Pos := l.filter fun q => !NM.seqB q.ser s
def insP (p : Pos) : List Pos → List Pos
  | [] => [p]
  | q :: m => if EM.cmp q.ser p.ser < 0 then q :: insP p m else p :: q :: m
theorem ins_perm (p : Pos) : ∀ m : List Pos, (insP p m).Perm (p :: m)
  | [] => List.Perm.refl _
  | q :: m => by
    unfold insP
    split
    · exact ((ins_perm p m).cons q).trans (List.Perm.swap p q m)
    · exact List.Perm.refl _
theorem ins_asc {p : Pos} : ∀ {m : List Pos}, ascP m → (∀ q ∈ m, q.ser ≠ p.ser) → ascP (insP p m)
  | [], _, _ => by simp [insP, ascP]
  | q :: m, h, hn => by
    obtain ⟨h1, h2⟩ := List.pairwise_cons.1 h
    unfold insP
    split
    · rename_i hc
      refine List.pairwise_cons.2 ⟨fun y hy => ?_, ins_asc h2 fun x hx => hn x (by simp [hx])⟩
      rcases List.mem_cons.1 ((ins_perm p m).mem_iff.1 hy) with rfl | hy
      · rcases EM.cmp_cases q.ser y.ser with ⟨_, g⟩ | ⟨e, _⟩ | ⟨e, _⟩
        · exact g
        · omega
        · omega
      · exact h1 y hy
    · rename_i hc
      have hpq : EM.lt p.ser q.ser := by
        rcases EM.cmp_cases q.ser p.ser with ⟨e, _⟩ | ⟨_, e⟩ | ⟨_, g⟩
        · omega
        · exact absurd e (hn q (by simp))
        · exact g
      refine List.pairwise_cons.2 ⟨fun y hy => ?_, h⟩
      rcases List.mem_cons.1 hy with rfl | hy
      · exact hpq
      · exact EM.lt_trans hpq (h1 y hy)
theorem others_ne {l : List Pos} {s : EM.Ser} : ∀ q ∈ others l s, q.ser ≠ s := by
  intro q hq e
  have := (List.mem_filter.1 hq).2
  rw [NM.seqB_iff.2 e] at this
  cases this
theorem others_asc {l : List Pos} (h : ascP l) (s : EM.Ser) : ascP (others l s) := h.filter _
def putsL (l : List Pos) (p : Pos) : List Pos := if p.lo = 0 ∧ p.sh = 0 then others l p.ser else insP p (others l p.ser)
theorem puts_asc {l : List Pos} (h : ascP l) (p : Pos) : ascP (putsL l p) := by
  unfold putsL
  split
  · exact others_asc h _
  · exact ins_asc (others_asc h _) others_ne
/-- the reference's loop -/
def stepR (p : Pos) (st : List Pos × Bool) (x : Pos) : List Pos × Bool :=
  if NM.seqB x.ser p.ser = true then st else if st.2 = false ∧ 0 < EM.cmp x.ser p.ser then (st.1 ++ [p, x], true) else (st.1 ++ [x], st.2)
theorem fold_others (p : Pos) : ∀ (l : List Pos) (out : List Pos), l.foldl (stepR p) (out, true) = (out ++ others l p.ser, true)
  | [], out => by simp [others]
  | x :: l, out => by
    rw [List.foldl_cons]
    cases h : NM.seqB x.ser p.ser
    · have e : stepR p (out, true) x = (out ++ [x], true) := by unfold stepR; rw [h]; simp
      rw [e, fold_others p l]
      simp [others, h]
    · have e : stepR p (out, true) x = (out, true) := by unfold stepR; rw [h]; simp
      rw [e, fold_others p l]
      simp [others, h]
theorem fold_ins (p : Pos) : ∀ (l : List Pos) (out : List Pos), (if (l.foldl (stepR p) (out, false)).2 = true then (l.foldl (stepR p) (out, false)).1 else (l.foldl (stepR p) (out, false)).1 ++ [p]) = out ++ insP p (others l p.ser)
  | [], out => by simp [others, insP]
  | x :: l, out => by
    rw [List.foldl_cons]
    cases h : NM.seqB x.ser p.ser
    · have hne : x.ser ≠ p.ser := fun e => by rw [NM.seqB_iff.2 e] at h; cases h
      have eo : others (x :: l) p.ser = x :: others l p.ser := by simp [others, h]
      rw [eo]
      rcases EM.cmp_cases x.ser p.ser with ⟨e1, _⟩ | ⟨_, e1⟩ | ⟨e1, _⟩
      · have e : stepR p (out, false) x = (out ++ [x], false) := by unfold stepR; rw [h, if_neg (by simp), if_neg (by simp; omega)]
        rw [e, fold_ins p l]
        simp [insP, e1]
      · exact absurd e1 hne
      · have e : stepR p (out, false) x = (out ++ [p, x], true) := by unfold stepR; rw [h, if_neg (by simp), if_pos (by simp; omega)]
        rw [e, fold_others p l]
        simp [insP, e1]
    · have e : stepR p (out, false) x = (out, false) := by unfold stepR; rw [h]; simp
      rw [e, fold_ins p l]
      simp [others, h]
/-- the first position of a series -/
def fidx (l : List Pos) (s : EM.Ser) : Option Nat := l.findIdx? fun q => NM.seqB q.ser s
def findP (l : List Pos) (s : EM.Ser) : Pos := match fidx l s with
  | some k => pAt l k
  | none => ⟨s, 0, 0⟩
theorem fidx_some {l : List Pos} {s : EM.Ser} {k : Nat} (hk : k < l.length) (hj : ∀ j, j < k → NM.seqB (pAt l j).ser s = false) (h : NM.seqB (pAt l k).ser s = true) : fidx l s = some k := by
  unfold fidx
  rw [List.findIdx?_eq_some_iff_getElem]
  refine ⟨hk, by rw [← pAt_get hk]; exact h, fun j hji => ?_⟩
  rw [← pAt_get (Nat.lt_trans hji hk), hj j hji]
  decide
theorem fidx_none {l : List Pos} {s : EM.Ser} (h : ∀ j, j < l.length → NM.seqB (pAt l j).ser s = false) : fidx l s = none := by
  unfold fidx
  rw [List.findIdx?_eq_none_iff]
  intro x hx
  obtain ⟨j, hj, rfl⟩ := List.mem_iff_getElem.1 hx
  rw [← pAt_get hj]
  exact h j hj
theorem find_ser (l : List Pos) (s : EM.Ser) : (findP l s).ser = s := by
  unfold findP
  cases h : fidx l s with
  | none => rfl
  | some k =>
    obtain ⟨hk, h1, _⟩ := List.findIdx?_eq_some_iff_getElem.1 h
    show (pAt l k).ser = s
    rw [pAt_get hk]
    exact NM.seqB_iff.1 h1
theorem find_cases (l : List Pos) (s : EM.Ser) : (findP l s ∈ l ∧ (findP l s).ser = s) ∨ (findP l s = ⟨s, 0, 0⟩ ∧ ∀ q ∈ l, q.ser ≠ s) := by
  unfold findP
  cases h : fidx l s with
  | none =>
    refine .inr ⟨rfl, fun q hq e => ?_⟩
    have := List.findIdx?_eq_none_iff.1 h q hq
    rw [NM.seqB_iff.2 e] at this; cases this
  | some k =>
    obtain ⟨hk, h1, _⟩ := List.findIdx?_eq_some_iff_getElem.1 h
    exact .inl ⟨by show pAt l k ∈ l; rw [pAt_get hk]; exact List.getElem_mem hk, by show (pAt l k).ser = s; rw [pAt_get hk]; exact NM.seqB_iff.1 h1⟩
theorem find_lots {l : List Pos} (h : ∀ p ∈ l, lotsB p.lo p.sh = true) (s : EM.Ser) : (0 ≤ (findP l s).lo ∧ (findP l s).lo ≤ 1048576) ∧ 0 ≤ (findP l s).sh ∧ (findP l s).sh ≤ 1048576 := by
  rcases find_cases l s with ⟨h1, _⟩ | ⟨h1, _⟩
  · have := lotsB_iff.1 (h _ h1)
    omega
  · rw [h1]; simp
/-- a leg applied -/
def absI (n : Int) : Int := if n < 0 then -n else n
def legE (kind qty closes : Int) : Int := if ¬ (1 ≤ kind ∧ kind ≤ 3) then 21 else if qty = 0 ∨ qty < -1048576 ∨ 1048576 < qty then 18 else if kind = 3 ∧ (closes < 0 ∨ absI qty < closes) then 18 else 0
def ownS (p : Pos) (qty : Int) : Int := if qty < 0 then p.sh else p.lo
def othS (p : Pos) (qty : Int) : Int := if qty < 0 then p.lo else p.sh
def cloS (kind qty closes : Int) (p : Pos) : Int := if kind = 3 then closes else min (absI qty) (othS p qty)
def chg (p : Pos) (qty c : Int) : Pos := if qty < 0 then ⟨p.ser, p.lo - c, p.sh + (absI qty - c)⟩ else ⟨p.ser, p.lo + (absI qty - c), p.sh - c⟩
def chgE (p : Pos) (qty c : Int) : Int := if othS p qty < c then 30 else if 1048576 < ownS p qty + (absI qty - c) then 18 else 0
def newP (l : List Pos) (kind : Int) (s : EM.Ser) (qty closes : Int) : Pos := chg (findP l s) qty (cloS kind qty closes (findP l s))
def applyE (l : List Pos) (kind : Int) (s : EM.Ser) (qty closes : Int) : Int :=
  if checkE l ≠ 0 then checkE l else if legE kind qty closes ≠ 0 then legE kind qty closes
  else if chgE (findP l s) qty (cloS kind qty closes (findP l s)) ≠ 0 then chgE (findP l s) qty (cloS kind qty closes (findP l s))
  else if 128 < (putsL l (newP l kind s qty closes)).length then 8 else 0
def applyL (l : List Pos) (kind : Int) (s : EM.Ser) (qty closes : Int) : List Pos := if applyE l kind s qty closes = 0 then putsL l (newP l kind s qty closes) else []
end PO

/-
  DERIVED: THE SHELF's CONTRACTS AT THIS DUMP, IN PLAIN WORDS (tools/lay-plain.mjs out of 'YtaegapcccboinaaShelfP.lean', which tools/lay-shelf.mjs wrote): THE SAME DECLARATIONS UNDER THE SAME NAMES: 'import', 'namespace', 'open', 'def', 'theorem' AND NOTHING ELSE: no command of the shelf's: FOR A HAND-IN. Each laying: the table of numbers ('.._ren') and one theorem, a field a fact of the dump's own or the kernel's comparison; each contract: ONE APPLICATION.
-/
namespace Go.Proofs
open Go.Shelf
def Try.lays106_ren : Go.Shelf.Ren := ⟨fun | 106 => 102 | 213 => 110 | 265 => 112 | n => n, fun | 9 => 9 | 3 => 3 | n => n, fun | n => n⟩
theorem Try.lays106 : Go.Proofs.Lays.n106 Try.prog Try.lays106_ren := {
  mixed := by kernel_rfl
  f106 := Try.func102.trans (congrArg some (by kernel_rfl))
  f213 := Try.func110.trans (congrArg some (by kernel_rfl))
  f265 := Try.func112.trans (congrArg some (by kernel_rfl))
  t3 := Try.underlying3
  a3 := Try.isAgg3
  z3 := Try.sizeOf3
  v3 := Try.zeroValue3
  t9 := Try.underlying9
  a9 := Try.isAgg9
  z9 := Try.sizeOf9
  v9 := Try.zeroValue9 }
def Try.lays122_ren : Go.Shelf.Ren := ⟨fun | 122 => 45 | 215 => 82 | n => n, fun | 3 => 3 | 4 => 4 | n => n, fun | n => n⟩
theorem Try.lays122 : Go.Proofs.Lays.n122 Try.prog Try.lays122_ren := {
  mixed := by kernel_rfl
  f122 := Try.func45.trans (congrArg some (by kernel_rfl))
  f215 := Try.func82.trans (congrArg some (by kernel_rfl))
  t3 := Try.underlying3
  a3 := Try.isAgg3
  z3 := Try.sizeOf3
  v3 := Try.zeroValue3
  t4 := Try.underlying4
  a4 := Try.isAgg4
  z4 := Try.sizeOf4
  v4 := Try.zeroValue4 }
end Go.Proofs

/- Layer 10: Compare. -/
namespace Go.Proofs.Ytaegapcccboinaa
open Go.RowKit Go.Recs Go.Shelf
set_option linter.unusedVariables false

/-- the world has at most new blocks, and draws -/
def GR (w w' : World) : Prop := ∃ q os, w' = Go.Sort.grow (w.drewN q) os
theorem GR.refl (w : World) : GR w w := ⟨0, #[], by simp [Go.Sort.grow, World.drewN]⟩
theorem GR.alloc {a w : World} (h : GR a w) (o : Obj) : GR a (w.alloc o) := by
  obtain ⟨q, os, rfl⟩ := h
  exact ⟨q, os ++ #[o], by rw [Go.Sort.alloc_eq_grow, Go.Sort.grow_grow]⟩
theorem GR.drew {a w : World} (h : GR a w) : GR a w.drew := by
  obtain ⟨q, os, rfl⟩ := h
  exact ⟨q + 1, os, rfl⟩
theorem GR.below {a w : World} (h : GR a w) : Below a.heap.size a w := by
  obtain ⟨q, os, rfl⟩ := h
  refine ⟨rfl, rfl, rfl, ?_, fun k hk => ?_⟩
  · show a.heap.size ≤ (a.heap ++ os).size
    simp
  · show (a.heap ++ os)[k]? = a.heap[k]?
    rw [Array.getElem?_append_left hk]

set_option maxHeartbeats 1000000 in
theorem or_any (A : Option Addr) (l : List Int) (cap : Nat) (w : World) (hI : Ints w A l) :
    Calls Try.prog 101 #[.slice A l.length cap] w fun e w' => e = .returned (.int .i64 (EM.orL l)) ∧ w = w' := by
  have hlen := hI.len
  have HSK := Lib.hid (fun k => @EM.or_skip l k); have HST := Lib.hid (fun k => @EM.or_stop l k)
  have H0 : Hid (EM.orL (l.drop 0) = EM.orL l) := Lib.hid rfl
  have HN : Hid (EM.orL (l.drop l.length) = 0) := Lib.hid (by rw [List.drop_length]; rfl)
  generalize EM.orL l = x at *
  go_enter Try.func101, Try.ntmps101
  go_wp2
  go_loop [5, 8] (fun _ i => ∃ k : Nat, k ≤ l.length ∧ i = .int .i64 k ∧ Hid (EM.orL (l.drop k) = x)) (fun _ i => l.length - (intOf i).toNat)
  case atStart => exact ⟨0, by omega, rfl, H0⟩
  case round =>
    obtain ⟨k, hk, rfl, HE⟩ := hrel
    by_cases hlt : k < l.length
    · obtain ⟨b, off, v, rfl, hb, hcell, HV, v1, v2⟩ := hI.get hlt
      have HVV : Hid (l[k] = v) := Lib.hid (by have := HV.out; simpa [List.getD, hlt] using this)
      by_cases hv : v = 0
      · subst hv
        have HE2 : Hid (EM.orL (l.drop (k + 1)) = x) := Lib.hid (by rw [← HSK.out k hlt HVV.out]; exact HE.out)
        go_wp2
        go_round
        case rel => exact ⟨k + 1, by omega, by go_num, HE2⟩
        case measure => simp [intOf]; omega
      · have HX : Hid (x = v) := Lib.hid (by rw [← HE.out, HST.out k hlt (by rw [HVV.out]; exact hv), HVV.out])
        have hd : (v != 0) = true := by simpa using hv
        go_wp2
        go_ret
        exact ⟨by rw [HX.out]; rfl, rfl⟩
    · obtain rfl : k = l.length := by omega
      have HX : Hid (x = 0) := Lib.hid (HE.out.symm.trans HN.out)
      go_wp2
      go_ret
      exact ⟨by rw [HX.out]; rfl, rfl⟩
theorem scmp_any (a b : ByteArray) (w : World) : Calls Try.prog 102 #[.string a, .string b] w fun e w' => e = .returned (.int .i64 (Lib.compareBytes a.data.toList b.data.toList)) ∧ w' = w := Any.strings_Compare Try.lays106 a b w
theorem icmp_any (x y : Int) (w : World) : Calls Try.prog 45 #[.int .i64 x, .int .i64 y] w fun e w' => e = .returned (.int .i64 (Lib.compareInt x y)) ∧ w' = w := Any.cmp_Compare_int Try.lays122 x y w
theorem cb_range (a b : List UInt8) : -1 ≤ Lib.compareBytes a b ∧ Lib.compareBytes a b ≤ 1 := by rw [EM.cb_less]; split <;> (try split) <;> omega
theorem ci_range (a b : Int) : -1 ≤ Lib.compareInt a b ∧ Lib.compareInt a b ≤ 1 := by unfold Lib.compareInt; split <;> (try split) <;> omega
theorem or4_any (a b : EM.Ser) (ww : World) :
    Calls Try.prog 101 #[.slice (some ⟨ww.heap.size, 0, none⟩) 4 4] (ww.alloc (.cells #[.int .i64 (Lib.compareBytes a.prod.data.toList b.prod.data.toList), .int .i64 (Lib.compareInt a.expiry b.expiry), .int .i64 (Lib.compareInt a.kind b.kind), .int .i64 (Lib.compareInt a.strike b.strike)] 3)).drew
      fun e w' => e = .returned (.int .i64 (EM.cmp a b)) ∧ (ww.alloc (.cells #[.int .i64 (Lib.compareBytes a.prod.data.toList b.prod.data.toList), .int .i64 (Lib.compareInt a.expiry b.expiry), .int .i64 (Lib.compareInt a.kind b.kind), .int .i64 (Lib.compareInt a.strike b.strike)] 3)).drew = w' := by
  have hI : Ints (ww.alloc (.cells ((EM.four a b).map (Value.int .i64)).toArray 3)) (some ⟨ww.heap.size, 0, none⟩) (EM.four a b) := by
    refine ⟨by show 4 ≤ _; decide, ?_, .inr ⟨_, _, rfl, by simp, fun i hi => ?_⟩⟩
    · intro n hn
      have r1 := cb_range a.prod.data.toList b.prod.data.toList
      have r2 := ci_range a.expiry b.expiry
      have r3 := ci_range a.kind b.kind
      have r4 := ci_range a.strike b.strike
      simp only [EM.four, List.mem_cons, List.not_mem_nil, or_false] at hn
      rcases hn with rfl | rfl | rfl | rfl <;> omega
    · rw [World.cell?_alloc_at _ _ _ _ rfl]
      simp [List.getD, hi]
  have := or_any _ (EM.four a b) 4 _ hI.drew
  rw [EM.cmp_or] at this
  exact this

set_option maxHeartbeats 4000000 in
theorem ecmp_any (a b : EM.Ser) (w : World) : Calls Try.prog 65 #[serA a, serA b] w fun e w' => e = .returned (.int .i64 (EM.cmp a b)) ∧ GR w w' := by
  have HG0 := Lib.hid (((GR.refl w).alloc (.cells #[.string a.prod, .int .i64 a.kind, .int .i64 a.expiry, .int .i64 a.strike] 57)).alloc (.cells #[.string b.prod, .int .i64 b.kind, .int .i64 b.expiry, .int .i64 b.strike] 57))
  have hgd := ser_guard
  by_cases hab : a = b
  · subst hab
    rw [EM.cmp_self]
    have E1 : ∀ ww, (Op.equalIn 10000 57 (serA a) (serA a)).run Try.prog ww = .ok true ww := fun ww => by rw [ser_in, seq_iff.2 rfl]
    go_enter Try.func65, Try.ntmps65
    go_wp2_with fail
    go_ret
    exact ⟨rfl, HG0.out⟩
  · have E1 : ∀ ww, (Op.equalIn 10000 57 (serA a) (serA b)).run Try.prog ww = .ok false ww := fun ww => by rw [ser_in, seq_false.2 hab]
    have HA0 := Lib.hid ((SBox.new w a).alloc (.cells #[.string b.prod, .int .i64 b.kind, .int .i64 b.expiry, .int .i64 b.strike] 57))
    have HB0 := Lib.hid (SBox.new (w.alloc (.cells #[.string a.prod, .int .i64 a.kind, .int .i64 a.expiry, .int .i64 a.strike] 57)) b)
    have HSZ : Hid ((w.alloc (.cells #[.string a.prod, .int .i64 a.kind, .int .i64 a.expiry, .int .i64 a.strike] 57)).heap.size = w.heap.size + 1) := Lib.hid (by simp)
    rw [HSZ.out] at HB0
    have CO := Lib.hid (fun ww => or4_any a b ww)
    have CS := Lib.hid (fun ww => scmp_any a.prod b.prod ww)
    have C1 := Lib.hid (fun ww => icmp_any a.expiry b.expiry ww); have C2 := Lib.hid (fun ww => icmp_any a.kind b.kind ww); have C3 := Lib.hid (fun ww => icmp_any a.strike b.strike ww)
    generalize EM.cmp a b = r at *
    generalize Lib.compareBytes a.prod.data.toList b.prod.data.toList = r0 at *
    generalize Lib.compareInt a.expiry b.expiry = r1 at *
    generalize Lib.compareInt a.kind b.kind = r2 at *
    generalize Lib.compareInt a.strike b.strike = r3 at *
    clear hab HSZ
    go_enter Try.func65, Try.ntmps65
    go_wp2_with fail
    generalize (w.alloc (.cells #[.string a.prod, .int .i64 a.kind, .int .i64 a.expiry, .int .i64 a.strike] 57)).alloc (.cells #[.string b.prod, .int .i64 b.kind, .int .i64 b.expiry, .int .i64 b.strike] 57) = w0 at *
    have HSF : Hid (∀ ww, Below w0.heap.size w0 ww → (ww.cell? ⟨w.heap.size, 0, none⟩ = some (.string a.prod) ∧ ww.cell? ⟨w.heap.size, 1, none⟩ = some (.int .i64 a.kind) ∧ ww.cell? ⟨w.heap.size, 2, none⟩ = some (.int .i64 a.expiry) ∧ ww.cell? ⟨w.heap.size, 3, none⟩ = some (.int .i64 a.strike)) ∧
      (ww.cell? ⟨w.heap.size + 1, 0, none⟩ = some (.string b.prod) ∧ ww.cell? ⟨w.heap.size + 1, 1, none⟩ = some (.int .i64 b.kind) ∧ ww.cell? ⟨w.heap.size + 1, 2, none⟩ = some (.int .i64 b.expiry) ∧ ww.cell? ⟨w.heap.size + 1, 3, none⟩ = some (.int .i64 b.strike))) := Lib.hid (fun ww h => ⟨(HA0.out.below h HA0.out.lt).cells, (HB0.out.below h HB0.out.lt).cells⟩)
    have HBw : Hid (Below w0.heap.size w0 w0.drew) := Lib.hid (Below.refl _ _).drew
    clear HA0 HB0
    go_region_held3 (fun ww => (ww.cell? ⟨w.heap.size, 0, none⟩ = some (.string a.prod) ∧ ww.cell? ⟨w.heap.size, 1, none⟩ = some (.int .i64 a.kind) ∧ ww.cell? ⟨w.heap.size, 2, none⟩ = some (.int .i64 a.expiry) ∧ ww.cell? ⟨w.heap.size, 3, none⟩ = some (.int .i64 a.strike)) ∧
      (ww.cell? ⟨w.heap.size + 1, 0, none⟩ = some (.string b.prod) ∧ ww.cell? ⟨w.heap.size + 1, 1, none⟩ = some (.int .i64 b.kind) ∧ ww.cell? ⟨w.heap.size + 1, 2, none⟩ = some (.int .i64 b.expiry) ∧ ww.cell? ⟨w.heap.size + 1, 3, none⟩ = some (.int .i64 b.strike)))
      (first | exact HSF.out _ HBw.out | exact HSF.out _ (HBw.out.alloc HBw.out.size _))
      (first
        | (go_at_call 102; refine (CS.out _).mono ?_; rintro e w6 ⟨rfl, rfl⟩)
        | (go_at_call 45; with_reducible refine (C1.out _).mono ?_; rintro e w6 ⟨rfl, rfl⟩)
        | (go_at_call 45; with_reducible refine (C2.out _).mono ?_; rintro e w6 ⟨rfl, rfl⟩)
        | (go_at_call 45; with_reducible refine (C3.out _).mono ?_; rintro e w6 ⟨rfl, rfl⟩)
        | (go_at_call 101; refine (CO.out _).mono ?_; rintro e w6 ⟨rfl, rfl⟩))
    all_goals (
      clear HSF CO CS C1 C2 C3
      go_wp2_with fail
      go_ret
      exact ⟨rfl, by first | exact HG0.out.drew.alloc _ | exact (HG0.out.alloc _).drew⟩)
end Go.Proofs.Ytaegapcccboinaa

/- Contracts of layer 15: what may be; Check. -/
namespace Go.Proofs.Ytaegapcccboinaa
open Go.RowKit Go.Recs
set_option linter.unusedVariables false
set_option linter.unusedSimpArgs false
end Go.Proofs.Ytaegapcccboinaa

/- Contracts of layer 15: Check. -/
namespace Go.Proofs.Ytaegapcccboinaa
open Go.RowKit Go.Recs
set_option linter.unusedVariables false
set_option linter.unusedSimpArgs false
theorem eAt_bad {l : List PO.Pos} {k : Nat} (hk : 0 < k) (h : ¬ EM.cmp (PO.pAt l (k - 1)).ser (PO.pAt l k).ser < 0) : PO.eAt l k = 19 := by unfold PO.eAt; rw [if_pos ⟨hk, h⟩]
theorem eAt_lots {l : List PO.Pos} {k : Nat} (h0 : 0 < k → EM.cmp (PO.pAt l (k - 1)).ser (PO.pAt l k).ser < 0) : PO.eAt l k = if PO.lotsB (PO.pAt l k).lo (PO.pAt l k).sh = true then 0 else 18 := by
  unfold PO.eAt
  rw [if_neg (fun h => h.2 (h0 h.1))]
end Go.Proofs.Ytaegapcccboinaa

/- Contracts of layer 15: positions by series: put, find. -/
namespace PO
def putM (l : List Pos) (x : Pos) : List Pos := if x.lo = 0 ∧ x.sh = 0 then others l x.ser else x :: others l x.ser
end PO
namespace Go.Recs
open Go.Maps Go.RowKit
theorem ownsM_isMap {P : Program} {w : World} {k : TypeId} {R : Value → Option (DataW Unit × List MemPlace)} {b n : Nat} {D : DataW Unit} (h : w.ownsMap P k R b n D) : IsMap D := by
  obtain ⟨es, clock, _, _, _, rfl⟩ := h
  exact ⟨_, rfl⟩
theorem below_turned {w w' : World} {b B : Nat} (h : w.grownBy w' (some b)) (hB : B ≤ b) (hw : B ≤ w.heap.size) : Below B w w' :=
  (Below.refl B w).grown h hw (fun j e => by cases e; exact hB)
/-- 'm[k]' at whatever elements -/
theorem wpList_lookR {H : Type} {P : Program} (w : World) {ops : Array Oper} {rest : List Oper} {o : Oper} {a : Act} {Q : Exit → Act → World → Prop}
    (hg : o.guard = none) (m x : Operand) (t : TypeId) (hop : o.op = Op.lookup t m x false)
    (k e : TypeId) (K : Keyed P k) (ht : P.underlying t = some (.map k e)) (R : Value → Option (DataW H × List MemPlace)) (z : Value) (hz : (zeroValue e).run P w = .ok z w) (zd : DataW H) (zp : List MemPlace) (hzd : R z = some (zd, zp)) (b n : Nat) (D : DataW H)
    (hm : a.eval m = .map (some b)) (hown : w.ownsMap P k R b n D) (key : Value) (kl : Lit) (hx : a.eval x = key) (hkey : keyOf P k key = some kl)
    (hK : ∀ (v : Value) (ps : List MemPlace), R v = some (D.atKey kl zd, ps) → wpList P ops Q rest (a.put o.dst v) w) :
    wpList P ops Q (o :: rest) a w := by
  refine wpList_plain hg fun K' hK' => ?_
  obtain ⟨v, ps, hrun, hv⟩ := hown.lookup K ht hz hzd hkey
  unfold Oper.wp
  simp [execOp, hop, hm, hx, hrun, Result.andThen]
  exact hK' _ _ (hK v ps hv)
end Go.Recs
namespace Go.Proofs.Ytaegapcccboinaa
open Go.RowKit Go.Recs Go.Maps
set_option linter.unusedVariables false
set_option linter.unusedSimpArgs false
theorem others_keys {l : List PO.Pos} {s : EM.Ser} (hl : ∀ p ∈ l, posQ p) (hs : serQ s) : ∀ y ∈ l, (!NM.seqB y.ser s) = true ↔ pkey y ≠ skey s := by
  intro y hy
  constructor
  · intro h e
    have e2 := skey_inj (hl y hy).1 hs e
    rw [NM.seqB_iff.2 e2] at h
    cases h
  · intro h
    cases e : NM.seqB y.ser s
    · rfl
    · exact absurd (by rw [← NM.seqB_iff.1 e]; rfl) h
end Go.Proofs.Ytaegapcccboinaa
