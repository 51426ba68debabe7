/- Put together: PosCells, PosBx, PosMath2, ShelfP, SerC, PosA, PosB, ProdD. -/
import Derived.Test.YtagmknahmkniaaaBun3
import Derived.Test.YtagmknahmkniaaaBun6
import Derived.Test.YtagmknahmkniaaaBun5
import Derived.Shelf.LaySoft
import Derived.Shelf.Lay
import Derived.Shelf.SlGeneric
import Derived.Shelf.Small.Wraps
import Derived.Shelf.Small.Strs
import Derived.Shelf.SlLaysQ
import Derived.Shelf.SlLaysF0
import Derived.Shelf.SlLaysE0
import Derived.Ground.NamesProg
import Derived.Ground.SlgqProg
import Derived.Ground.SlsfProg
import Derived.Ground.SlgnProg
import Derived.Test.YtagmknahmkniaaaProg
import Derived.Sort.Grow
import Derived.Deep.RegionHeld3
import Derived.Deep.QuietTactic
import Derived.BigQuiet
import Derived.Laws.ResultCell
import Derived.Laws.Rows
/- Positions in memory, over any program. -/
namespace Go.Recs
open Go.RowKit
set_option linter.unusedVariables false
def posV (x : PO.Pos) : List Value := [.string x.ser.prod, .int .i64 x.ser.kind, .int .i64 x.ser.expiry, .int .i64 x.ser.strike, .int .i64 x.lo, .int .i64 x.sh]
def posQ (x : PO.Pos) : Prop := serQ x.ser ∧ i64 x.lo ∧ i64 x.sh
def posL : List Leaf := [.str, .int .i64, .int .i64, .int .i64, .int .i64, .int .i64]
theorem pos_row (r : List Value) (h : okAll posL r) : ∃ x : PO.Pos, r = posV x ∧ posQ x := by
  obtain ⟨c0, r0, rfl, ⟨s0, rfl, h0⟩, g0⟩ := okAll_cons h
  obtain ⟨c1, r1, rfl, ⟨n1, rfl, h1⟩, g1⟩ := okAll_cons g0
  obtain ⟨c2, r2, rfl, ⟨n2, rfl, h2⟩, g2⟩ := okAll_cons g1
  obtain ⟨c3, r3, rfl, ⟨n3, rfl, h3⟩, g3⟩ := okAll_cons g2
  obtain ⟨c4, r4, rfl, ⟨n4, rfl, h4⟩, g4⟩ := okAll_cons g3
  obtain ⟨c5, r5, rfl, ⟨n5, rfl, h5⟩, g5⟩ := okAll_cons g4
  rw [okAll_nil g5]
  exact ⟨⟨⟨s0, n1, n2, n3⟩, n4, n5⟩, rfl, ⟨h0, bounds_i64 h1, bounds_i64 h2, bounds_i64 h3⟩, bounds_i64 h4, bounds_i64 h5⟩
abbrev Poss := TR posV posQ 6
theorem poss_get {w : World} {A : Option Addr} {l : List PO.Pos} (h : Poss w A l) {k : Nat} (hk : k < l.length) :
    ∃ b off, ∃ x : PO.Pos, A = some ⟨b, off, none⟩ ∧ b < w.heap.size ∧ Hid (PO.pAt l k = x) ∧ posQ x ∧ w.cell? ⟨b, off + k * 6, none⟩ = some (.string x.ser.prod) ∧ w.cell? ⟨b, off + k * 6 + 1, none⟩ = some (.int .i64 x.ser.kind) ∧
      w.cell? ⟨b, off + k * 6 + 2, none⟩ = some (.int .i64 x.ser.expiry) ∧ w.cell? ⟨b, off + k * 6 + 3, none⟩ = some (.int .i64 x.ser.strike) ∧ w.cell? ⟨b, off + k * 6 + 4, none⟩ = some (.int .i64 x.lo) ∧ w.cell? ⟨b, off + k * 6 + 5, none⟩ = some (.int .i64 x.sh) := by
  obtain ⟨b, off, rfl, hb, hq, hc⟩ := h.at_ hk
  exact ⟨b, off, l[k], rfl, hb, Lib.hid (PO.pAt_get hk), hq, hc 0 (by omega), hc 1 (by omega), hc 2 (by omega), hc 3 (by omega), hc 4 (by omega), hc 5 (by omega)⟩
theorem posV_one (l : List PO.Pos) : ∀ r ∈ l.map posV, ∀ u ∈ r, u.oneCell' = true := by
  intro r hr
  obtain ⟨t, _, rfl⟩ := List.mem_map.1 hr
  intro u hu
  simp only [posV, List.mem_cons, List.not_mem_nil, or_false] at hu
  rcases hu with rfl | rfl | rfl | rfl | rfl | rfl <;> rfl
end Go.Recs

/- A position in a box. -/
namespace Go.Proofs.Ytagmknahmkniaaa
open Go.RowKit Go.Recs
set_option linter.unusedVariables false
set_option linter.unusedSimpArgs false
abbrev posA (x : PO.Pos) : Value := .agg #[.string x.ser.prod, .int .i64 x.ser.kind, .int .i64 x.ser.expiry, .int .i64 x.ser.strike, .int .i64 x.lo, .int .i64 x.sh]
abbrev posC (x : PO.Pos) : Array Value := #[.string x.ser.prod, .int .i64 x.ser.kind, .int .i64 x.ser.expiry, .int .i64 x.ser.strike, .int .i64 x.lo, .int .i64 x.sh]
theorem info_pos : (Try.prog.info? 80).map (fun i => (i.zero, i.size, i.bytes)) = some (some (posA PO.zero), 6, 56) := by kernel_rfl
theorem pos_under : Try.prog.underlying 80 = some (.struct (Try.prog.fieldsOf 80)) := by kernel_rfl
theorem pos_size : (Try.prog.info? 80).map (·.size) = some 6 := by kernel_rfl
theorem load_pos (w : World) (g : Nat) (x : PO.Pos) (hb : CB w g 80 (posC x)) : (loadVar 80 ⟨g, 0, none⟩).run Try.prog w = .ok (posA x) w := by
  rw [run_loadVar_row w g 80 80 _ (0, 0) _ hb pos_under rfl pos_size]
end Go.Proofs.Ytagmknahmkniaaa

/- Layer 15's mathematics: lists of positions, a leg applied. -/
namespace PO
def okL (n : Int) : Bool := decide (0 ≤ n) && decide (n ≤ 1048576)
theorem okL_iff {n : Int} : okL n = true ↔ 0 ≤ n ∧ n ≤ 1048576 := by unfold okL; simp
def lotsB (lo sh : Int) : Bool := okL lo && okL sh && (decide (0 < lo) || decide (0 < sh))
theorem lotsB_iff {lo sh : Int} : lotsB lo sh = true ↔ (0 ≤ lo ∧ lo ≤ 1048576) ∧ (0 ≤ sh ∧ sh ≤ 1048576) ∧ (0 < lo ∨ 0 < sh) := by unfold lotsB okL; simp; omega
def eAt (l : List Pos) (k : Nat) : Int := if 0 < k ∧ ¬ EM.cmp (pAt l (k - 1)).ser (pAt l k).ser < 0 then 19 else if lotsB (pAt l k).lo (pAt l k).sh = true then 0 else 18
def firstE : List Int → Int
  | [] => 0
  | e :: r => if e = 0 then firstE r else e
theorem first_all : ∀ {l : List Int}, (∀ e ∈ l, e = 0) → firstE l = 0
  | [], _ => rfl
  | e :: r, h => by unfold firstE; rw [if_pos (h e (by simp))]; exact first_all fun x hx => h x (by simp [hx])
theorem first_inv : ∀ {l : List Int}, firstE l = 0 → ∀ e ∈ l, e = 0
  | [], _, e, he => by simp at he
  | x :: r, h, e, he => by
    unfold firstE at h
    by_cases hx : x = 0
    · rw [if_pos hx] at h
      rcases List.mem_cons.1 he with rfl | he
      · exact hx
      · exact first_inv h e he
    · rw [if_neg hx] at h; exact absurd h hx
theorem first_at : ∀ {l : List Int} {k : Nat} (hk : k < l.length), (∀ j (hj : j < k), l[j] = 0) → l[k] ≠ 0 → firstE l = l[k]
  | [], _, hk, _, _ => by simp at hk
  | e :: r, 0, _, _, h => by
    have h' : ¬ e = 0 := h
    unfold firstE; rw [if_neg h']; rfl
  | e :: r, k + 1, hk, hj, h => by
    have h0 : e = 0 := hj 0 (by omega)
    unfold firstE
    rw [if_pos h0]
    exact first_at (k := k) (by simpa using hk) (fun j hjk => hj (j + 1) (by omega)) h
def checkE (l : List Pos) : Int := if 128 < l.length then 8 else firstE ((List.range l.length).map (eAt l))
theorem check_long {l : List Pos} (h : 128 < l.length) : checkE l = 8 := by unfold checkE; rw [if_pos h]
theorem check_ok {l : List Pos} (hl : ¬ 128 < l.length) (h : ∀ j, j < l.length → eAt l j = 0) : checkE l = 0 := by
  unfold checkE
  rw [if_neg hl]
  refine first_all fun e he => ?_
  obtain ⟨j, hj, rfl⟩ := List.mem_map.1 he
  exact h j (List.mem_range.1 hj)
theorem check_at {l : List Pos} (hl : ¬ 128 < l.length) {k : Nat} (hk : k < l.length) (hj : ∀ j, j < k → eAt l j = 0) (h : eAt l k ≠ 0) : checkE l = eAt l k := by
  unfold checkE
  rw [if_neg hl, first_at (k := k) (by simpa using hk) (fun j hjk => by simpa using hj j hjk) (by simpa using h)]
  simp
theorem check_inv {l : List Pos} (h : checkE l = 0) : l.length ≤ 128 ∧ ∀ j, j < l.length → eAt l j = 0 := by
  unfold checkE at h
  by_cases hl : 128 < l.length
  · rw [if_pos hl] at h; cases h
  · rw [if_neg hl] at h
    exact ⟨by omega, fun j hj => first_inv h _ (List.mem_map.2 ⟨j, List.mem_range.2 hj, rfl⟩)⟩
def ascP (l : List Pos) : Prop := l.Pairwise (fun a b => EM.lt a.ser b.ser)
theorem eAt_zero {l : List Pos} {k : Nat} (h : eAt l k = 0) : (0 < k → EM.lt (pAt l (k - 1)).ser (pAt l k).ser) ∧ lotsB (pAt l k).lo (pAt l k).sh = true := by
  unfold eAt at h
  split at h
  · cases h
  · rename_i h1
    split at h
    · rename_i h2
      refine ⟨fun hk => ?_, h2⟩
      have h3 : EM.cmp (pAt l (k - 1)).ser (pAt l k).ser < 0 := by
        by_cases g : EM.cmp (pAt l (k - 1)).ser (pAt l k).ser < 0
        · exact g
        · exact absurd ⟨hk, g⟩ h1
      rcases EM.cmp_cases (pAt l (k - 1)).ser (pAt l k).ser with ⟨_, g⟩ | ⟨e, _⟩ | ⟨e, _⟩
      · exact g
      · omega
      · omega
    · cases h
theorem asc_of {l : List Pos} (h : ∀ j, j < l.length → eAt l j = 0) : ascP l := by
  refine List.pairwise_iff_getElem.2 fun i j hi hj hij => ?_
  have key : ∀ d i, i + d + 1 < l.length → EM.lt (pAt l i).ser (pAt l (i + d + 1)).ser := by
    intro d
    induction d with
    | zero => intro i hd; exact (eAt_zero (h (i + 0 + 1) hd)).1 (by omega)
    | succ d ih =>
      intro i hd
      have h1 := ih i (by omega)
      have h2 := (eAt_zero (h (i + (d + 1) + 1) hd)).1 (by omega)
      exact EM.lt_trans h1 h2
  have := key (j - i - 1) i (by omega)
  rw [show i + (j - i - 1) + 1 = j by omega, pAt_get hi, pAt_get hj] at this
  exact this
theorem check_good {l : List Pos} (h : checkE l = 0) : l.length ≤ 128 ∧ ascP l ∧ ∀ p ∈ l, lotsB p.lo p.sh = true := by
  obtain ⟨h1, h2⟩ := check_inv h
  refine ⟨h1, asc_of h2, fun p hp => ?_⟩
  obtain ⟨j, hj, rfl⟩ := List.getElem_of_mem hp
  have := (eAt_zero (h2 j hj)).2
  rwa [pAt_get hj] at this
theorem asc_inj {l : List Pos} (h : ascP l) {a b : Pos} (ha : a ∈ l) (hb : b ∈ l) (e : a.ser = b.ser) : a = b := by
  obtain ⟨i, hi, rfl⟩ := List.getElem_of_mem ha
  obtain ⟨j, hj, rfl⟩ := List.getElem_of_mem hb
  rcases Nat.lt_trichotomy i j with g | rfl | g
  · have := List.pairwise_iff_getElem.1 h i j hi hj g
    rw [e] at this; exact absurd this (EM.lt_irrefl _)
  · rfl
  · have := List.pairwise_iff_getElem.1 h j i hj hi g
    rw [e] at this; exact absurd this (EM.lt_irrefl _)
/-- a sorted arrangement of an ascending list is that list -/
theorem sort_unique {xs ys : List Pos} (hp : xs.Perm ys) (hy : ascP ys) (hs : ∀ i j (hi : i < xs.length) (hj : j < xs.length), i < j → ¬ EM.lt xs[j].ser xs[i].ser) : xs = ys := by
  refine List.Perm.eq_of_pairwise (le := fun a b : Pos => ¬ EM.lt b.ser a.ser) (fun a b ha hb h1 h2 => ?_) (List.pairwise_iff_getElem.2 hs) (hy.imp fun h => EM.lt_asymm h) hp
  rcases EM.lt_tri a.ser b.ser with g | g | g
  · exact absurd g h2
  · exact asc_inj hy (hp.mem_iff.1 ha) hb g
  · exact absurd g h1
def others (l : List Pos) (s : EM.Ser) : List Pos := l.filter fun q => !NM.seqB q.ser s
def insP (p : Pos) : List Pos → List Pos
  | [] => [p]
  | q :: m => if EM.cmp q.ser p.ser < 0 then q :: insP p m else p :: q :: m
theorem ins_perm (p : Pos) : ∀ m : List Pos, (insP p m).Perm (p :: m)
  | [] => List.Perm.refl _
  | q :: m => by
    unfold insP
    split
    · exact ((ins_perm p m).cons q).trans (List.Perm.swap p q m)
    · exact List.Perm.refl _
theorem ins_asc {p : Pos} : ∀ {m : List Pos}, ascP m → (∀ q ∈ m, q.ser ≠ p.ser) → ascP (insP p m)
  | [], _, _ => by simp [insP, ascP]
  | q :: m, h, hn => by
    obtain ⟨h1, h2⟩ := List.pairwise_cons.1 h
    unfold insP
    split
    · rename_i hc
      refine List.pairwise_cons.2 ⟨fun y hy => ?_, ins_asc h2 fun x hx => hn x (by simp [hx])⟩
      rcases List.mem_cons.1 ((ins_perm p m).mem_iff.1 hy) with rfl | hy
      · rcases EM.cmp_cases q.ser y.ser with ⟨_, g⟩ | ⟨e, _⟩ | ⟨e, _⟩
        · exact g
        · omega
        · omega
      · exact h1 y hy
    · rename_i hc
      have hpq : EM.lt p.ser q.ser := by
        rcases EM.cmp_cases q.ser p.ser with ⟨e, _⟩ | ⟨_, e⟩ | ⟨_, g⟩
        · omega
        · exact absurd e (hn q (by simp))
        · exact g
      refine List.pairwise_cons.2 ⟨fun y hy => ?_, h⟩
      rcases List.mem_cons.1 hy with rfl | hy
      · exact hpq
      · exact EM.lt_trans hpq (h1 y hy)
theorem others_ne {l : List Pos} {s : EM.Ser} : ∀ q ∈ others l s, q.ser ≠ s := by
  intro q hq e
  have := (List.mem_filter.1 hq).2
  rw [NM.seqB_iff.2 e] at this
  cases this
theorem others_asc {l : List Pos} (h : ascP l) (s : EM.Ser) : ascP (others l s) := h.filter _
def putsL (l : List Pos) (p : Pos) : List Pos := if p.lo = 0 ∧ p.sh = 0 then others l p.ser else insP p (others l p.ser)
theorem puts_asc {l : List Pos} (h : ascP l) (p : Pos) : ascP (putsL l p) := by
  unfold putsL
  split
  · exact others_asc h _
  · exact ins_asc (others_asc h _) others_ne
/-- the reference's loop -/
def stepR (p : Pos) (st : List Pos × Bool) (x : Pos) : List Pos × Bool :=
  if NM.seqB x.ser p.ser = true then st else if st.2 = false ∧ 0 < EM.cmp x.ser p.ser then (st.1 ++ [p, x], true) else (st.1 ++ [x], st.2)
theorem fold_others (p : Pos) : ∀ (l : List Pos) (out : List Pos), l.foldl (stepR p) (out, true) = (out ++ others l p.ser, true)
  | [], out => by simp [others]
  | x :: l, out => by
    rw [List.foldl_cons]
    cases h : NM.seqB x.ser p.ser
    · have e : stepR p (out, true) x = (out ++ [x], true) := by unfold stepR; rw [h]; simp
      rw [e, fold_others p l]
      simp [others, h]
    · have e : stepR p (out, true) x = (out, true) := by unfold stepR; rw [h]; simp
      rw [e, fold_others p l]
      simp [others, h]
theorem fold_ins (p : Pos) : ∀ (l : List Pos) (out : List Pos), (if (l.foldl (stepR p) (out, false)).2 = true then (l.foldl (stepR p) (out, false)).1 else (l.foldl (stepR p) (out, false)).1 ++ [p]) = out ++ insP p (others l p.ser)
  | [], out => by simp [others, insP]
  | x :: l, out => by
    rw [List.foldl_cons]
    cases h : NM.seqB x.ser p.ser
    · have hne : x.ser ≠ p.ser := fun e => by rw [NM.seqB_iff.2 e] at h; cases h
      have eo : others (x :: l) p.ser = x :: others l p.ser := by simp [others, h]
      rw [eo]
      rcases EM.cmp_cases x.ser p.ser with ⟨e1, _⟩ | ⟨_, e1⟩ | ⟨e1, _⟩
      · have e : stepR p (out, false) x = (out ++ [x], false) := by unfold stepR; rw [h, if_neg (by simp), if_neg (by simp; omega)]
        rw [e, fold_ins p l]
        simp [insP, e1]
      · exact absurd e1 hne
      · have e : stepR p (out, false) x = (out ++ [p, x], true) := by unfold stepR; rw [h, if_neg (by simp), if_pos (by simp; omega)]
        rw [e, fold_others p l]
        simp [insP, e1]
    · have e : stepR p (out, false) x = (out, false) := by unfold stepR; rw [h]; simp
      rw [e, fold_ins p l]
      simp [others, h]
/-- the first position of a series -/
def fidx (l : List Pos) (s : EM.Ser) : Option Nat := l.findIdx? fun q => NM.seqB q.ser s
def findP (l : List Pos) (s : EM.Ser) : Pos := match fidx l s with
  | some k => pAt l k
  | none => ⟨s, 0, 0⟩
theorem fidx_some {l : List Pos} {s : EM.Ser} {k : Nat} (hk : k < l.length) (hj : ∀ j, j < k → NM.seqB (pAt l j).ser s = false) (h : NM.seqB (pAt l k).ser s = true) : fidx l s = some k := by
  unfold fidx
  rw [List.findIdx?_eq_some_iff_getElem]
  refine ⟨hk, by rw [← pAt_get hk]; exact h, fun j hji => ?_⟩
  rw [← pAt_get (Nat.lt_trans hji hk), hj j hji]
  decide
theorem fidx_none {l : List Pos} {s : EM.Ser} (h : ∀ j, j < l.length → NM.seqB (pAt l j).ser s = false) : fidx l s = none := by
  unfold fidx
  rw [List.findIdx?_eq_none_iff]
  intro x hx
  obtain ⟨j, hj, rfl⟩ := List.mem_iff_getElem.1 hx
  rw [← pAt_get hj]
  exact h j hj
theorem find_ser (l : List Pos) (s : EM.Ser) : (findP l s).ser = s := by
  unfold findP
  cases h : fidx l s with
  | none => rfl
  | some k =>
    obtain ⟨hk, h1, _⟩ := List.findIdx?_eq_some_iff_getElem.1 h
    show (pAt l k).ser = s
    rw [pAt_get hk]
    exact NM.seqB_iff.1 h1
theorem find_cases (l : List Pos) (s : EM.Ser) : (findP l s ∈ l ∧ (findP l s).ser = s) ∨ (findP l s = ⟨s, 0, 0⟩ ∧ ∀ q ∈ l, q.ser ≠ s) := by
  unfold findP
  cases h : fidx l s with
  | none =>
    refine .inr ⟨rfl, fun q hq e => ?_⟩
    have := List.findIdx?_eq_none_iff.1 h q hq
    rw [NM.seqB_iff.2 e] at this; cases this
  | some k =>
    obtain ⟨hk, h1, _⟩ := List.findIdx?_eq_some_iff_getElem.1 h
    exact .inl ⟨by show pAt l k ∈ l; rw [pAt_get hk]; exact List.getElem_mem hk, by show (pAt l k).ser = s; rw [pAt_get hk]; exact NM.seqB_iff.1 h1⟩
theorem find_lots {l : List Pos} (h : ∀ p ∈ l, lotsB p.lo p.sh = true) (s : EM.Ser) : (0 ≤ (findP l s).lo ∧ (findP l s).lo ≤ 1048576) ∧ 0 ≤ (findP l s).sh ∧ (findP l s).sh ≤ 1048576 := by
  rcases find_cases l s with ⟨h1, _⟩ | ⟨h1, _⟩
  · have := lotsB_iff.1 (h _ h1)
    omega
  · rw [h1]; simp
/-- a leg applied -/
def absI (n : Int) : Int := if n < 0 then -n else n
def legE (kind qty closes : Int) : Int := if ¬ (1 ≤ kind ∧ kind ≤ 3) then 21 else if qty = 0 ∨ qty < -1048576 ∨ 1048576 < qty then 18 else if kind = 3 ∧ (closes < 0 ∨ absI qty < closes) then 18 else 0
def ownS (p : Pos) (qty : Int) : Int := if qty < 0 then p.sh else p.lo
def othS (p : Pos) (qty : Int) : Int := if qty < 0 then p.lo else p.sh
def cloS (kind qty closes : Int) (p : Pos) : Int := if kind = 3 then closes else min (absI qty) (othS p qty)
def chg (p : Pos) (qty c : Int) : Pos := if qty < 0 then ⟨p.ser, p.lo - c, p.sh + (absI qty - c)⟩ else ⟨p.ser, p.lo + (absI qty - c), p.sh - c⟩
def chgE (p : Pos) (qty c : Int) : Int := if othS p qty < c then 30 else if 1048576 < ownS p qty + (absI qty - c) then 18 else 0
def newP (l : List Pos) (kind : Int) (s : EM.Ser) (qty closes : Int) : Pos := chg (findP l s) qty (cloS kind qty closes (findP l s))
def applyE (l : List Pos) (kind : Int) (s : EM.Ser) (qty closes : Int) : Int :=
  if checkE l ≠ 0 then checkE l else if legE kind qty closes ≠ 0 then legE kind qty closes
  else if chgE (findP l s) qty (cloS kind qty closes (findP l s)) ≠ 0 then chgE (findP l s) qty (cloS kind qty closes (findP l s))
  else if 128 < (putsL l (newP l kind s qty closes)).length then 8 else 0
def applyL (l : List Pos) (kind : Int) (s : EM.Ser) (qty closes : Int) : List Pos := if applyE l kind s qty closes = 0 then putsL l (newP l kind s qty closes) else []
end PO

namespace Go.Proofs
open Go.Shelf
shelf_try shelf_lay Lays.n106 Nm 106 at Try as Try.lays106
shelf_try shelf_lay Lays.n122 Nm 122 at Try as Try.lays122
shelf_tried
end Go.Proofs

/- Layer 10: Compare. -/
namespace Go.Proofs.Ytagmknahmkniaaa
open Go.RowKit Go.Recs Go.Shelf
set_option linter.unusedVariables false

/-- the world has at most new blocks, and draws -/
def GR (w w' : World) : Prop := ∃ q os, w' = Go.Sort.grow (w.drewN q) os
theorem GR.refl (w : World) : GR w w := ⟨0, #[], by simp [Go.Sort.grow, World.drewN]⟩
theorem GR.alloc {a w : World} (h : GR a w) (o : Obj) : GR a (w.alloc o) := by
  obtain ⟨q, os, rfl⟩ := h
  exact ⟨q, os ++ #[o], by rw [Go.Sort.alloc_eq_grow, Go.Sort.grow_grow]⟩
theorem GR.drew {a w : World} (h : GR a w) : GR a w.drew := by
  obtain ⟨q, os, rfl⟩ := h
  exact ⟨q + 1, os, rfl⟩
theorem GR.below {a w : World} (h : GR a w) : Below a.heap.size a w := by
  obtain ⟨q, os, rfl⟩ := h
  refine ⟨rfl, rfl, rfl, ?_, fun k hk => ?_⟩
  · show a.heap.size ≤ (a.heap ++ os).size
    simp
  · show (a.heap ++ os)[k]? = a.heap[k]?
    rw [Array.getElem?_append_left hk]

set_option maxHeartbeats 1000000 in
theorem or_any (A : Option Addr) (l : List Int) (cap : Nat) (w : World) (hI : Ints w A l) :
    Calls Try.prog 80 #[.slice A l.length cap] w fun e w' => e = .returned (.int .i64 (EM.orL l)) ∧ w = w' := by
  have hlen := hI.len
  have HSK := Lib.hid (fun k => @EM.or_skip l k); have HST := Lib.hid (fun k => @EM.or_stop l k)
  have H0 : Hid (EM.orL (l.drop 0) = EM.orL l) := Lib.hid rfl
  have HN : Hid (EM.orL (l.drop l.length) = 0) := Lib.hid (by rw [List.drop_length]; rfl)
  generalize EM.orL l = x at *
  go_enter Try.func80, Try.ntmps80
  go_wp2
  go_loop [5, 8] (fun _ i => ∃ k : Nat, k ≤ l.length ∧ i = .int .i64 k ∧ Hid (EM.orL (l.drop k) = x)) (fun _ i => l.length - (intOf i).toNat)
  case atStart => exact ⟨0, by omega, rfl, H0⟩
  case round =>
    obtain ⟨k, hk, rfl, HE⟩ := hrel
    by_cases hlt : k < l.length
    · obtain ⟨b, off, v, rfl, hb, hcell, HV, v1, v2⟩ := hI.get hlt
      have HVV : Hid (l[k] = v) := Lib.hid (by have := HV.out; simpa [List.getD, hlt] using this)
      by_cases hv : v = 0
      · subst hv
        have HE2 : Hid (EM.orL (l.drop (k + 1)) = x) := Lib.hid (by rw [← HSK.out k hlt HVV.out]; exact HE.out)
        go_wp2
        go_round
        case rel => exact ⟨k + 1, by omega, by go_num, HE2⟩
        case measure => simp [intOf]; omega
      · have HX : Hid (x = v) := Lib.hid (by rw [← HE.out, HST.out k hlt (by rw [HVV.out]; exact hv), HVV.out])
        have hd : (v != 0) = true := by simpa using hv
        go_wp2
        go_ret
        exact ⟨by rw [HX.out]; rfl, rfl⟩
    · obtain rfl : k = l.length := by omega
      have HX : Hid (x = 0) := Lib.hid (HE.out.symm.trans HN.out)
      go_wp2
      go_ret
      exact ⟨by rw [HX.out]; rfl, rfl⟩
theorem scmp_any (a b : ByteArray) (w : World) : Calls Try.prog 81 #[.string a, .string b] w fun e w' => e = .returned (.int .i64 (Lib.compareBytes a.data.toList b.data.toList)) ∧ w' = w := Any.strings_Compare Try.lays106 a b w
theorem icmp_any (x y : Int) (w : World) : Calls Try.prog 82 #[.int .i64 x, .int .i64 y] w fun e w' => e = .returned (.int .i64 (Lib.compareInt x y)) ∧ w' = w := Any.cmp_Compare_int Try.lays122 x y w
theorem cb_range (a b : List UInt8) : -1 ≤ Lib.compareBytes a b ∧ Lib.compareBytes a b ≤ 1 := by rw [EM.cb_less]; split <;> (try split) <;> omega
theorem ci_range (a b : Int) : -1 ≤ Lib.compareInt a b ∧ Lib.compareInt a b ≤ 1 := by unfold Lib.compareInt; split <;> (try split) <;> omega
theorem or4_any (a b : EM.Ser) (ww : World) :
    Calls Try.prog 80 #[.slice (some ⟨ww.heap.size, 0, none⟩) 4 4] (ww.alloc (.cells #[.int .i64 (Lib.compareBytes a.prod.data.toList b.prod.data.toList), .int .i64 (Lib.compareInt a.expiry b.expiry), .int .i64 (Lib.compareInt a.kind b.kind), .int .i64 (Lib.compareInt a.strike b.strike)] 3)).drew
      fun e w' => e = .returned (.int .i64 (EM.cmp a b)) ∧ (ww.alloc (.cells #[.int .i64 (Lib.compareBytes a.prod.data.toList b.prod.data.toList), .int .i64 (Lib.compareInt a.expiry b.expiry), .int .i64 (Lib.compareInt a.kind b.kind), .int .i64 (Lib.compareInt a.strike b.strike)] 3)).drew = w' := by
  have hI : Ints (ww.alloc (.cells ((EM.four a b).map (Value.int .i64)).toArray 3)) (some ⟨ww.heap.size, 0, none⟩) (EM.four a b) := by
    refine ⟨by show 4 ≤ _; decide, ?_, .inr ⟨_, _, rfl, by simp, fun i hi => ?_⟩⟩
    · intro n hn
      have r1 := cb_range a.prod.data.toList b.prod.data.toList
      have r2 := ci_range a.expiry b.expiry
      have r3 := ci_range a.kind b.kind
      have r4 := ci_range a.strike b.strike
      simp only [EM.four, List.mem_cons, List.not_mem_nil, or_false] at hn
      rcases hn with rfl | rfl | rfl | rfl <;> omega
    · rw [World.cell?_alloc_at _ _ _ _ rfl]
      simp [List.getD, hi]
  have := or_any _ (EM.four a b) 4 _ hI.drew
  rw [EM.cmp_or] at this
  exact this

set_option maxHeartbeats 4000000 in
theorem ecmp_any (a b : EM.Ser) (w : World) : Calls Try.prog 72 #[serA a, serA b] w fun e w' => e = .returned (.int .i64 (EM.cmp a b)) ∧ GR w w' := by
  have HG0 := Lib.hid (((GR.refl w).alloc (.cells #[.string a.prod, .int .i64 a.kind, .int .i64 a.expiry, .int .i64 a.strike] 56)).alloc (.cells #[.string b.prod, .int .i64 b.kind, .int .i64 b.expiry, .int .i64 b.strike] 56))
  have hgd := ser_guard
  by_cases hab : a = b
  · subst hab
    rw [EM.cmp_self]
    have E1 : ∀ ww, (Op.equalIn 10000 56 (serA a) (serA a)).run Try.prog ww = .ok true ww := fun ww => by rw [ser_in, seq_iff.2 rfl]
    go_enter Try.func72, Try.ntmps72
    go_wp2_with fail
    go_ret
    exact ⟨rfl, HG0.out⟩
  · have E1 : ∀ ww, (Op.equalIn 10000 56 (serA a) (serA b)).run Try.prog ww = .ok false ww := fun ww => by rw [ser_in, seq_false.2 hab]
    have HA0 := Lib.hid ((SBox.new w a).alloc (.cells #[.string b.prod, .int .i64 b.kind, .int .i64 b.expiry, .int .i64 b.strike] 56))
    have HB0 := Lib.hid (SBox.new (w.alloc (.cells #[.string a.prod, .int .i64 a.kind, .int .i64 a.expiry, .int .i64 a.strike] 56)) b)
    have HSZ : Hid ((w.alloc (.cells #[.string a.prod, .int .i64 a.kind, .int .i64 a.expiry, .int .i64 a.strike] 56)).heap.size = w.heap.size + 1) := Lib.hid (by simp)
    rw [HSZ.out] at HB0
    have CO := Lib.hid (fun ww => or4_any a b ww)
    have CS := Lib.hid (fun ww => scmp_any a.prod b.prod ww)
    have C1 := Lib.hid (fun ww => icmp_any a.expiry b.expiry ww); have C2 := Lib.hid (fun ww => icmp_any a.kind b.kind ww); have C3 := Lib.hid (fun ww => icmp_any a.strike b.strike ww)
    generalize EM.cmp a b = r at *
    generalize Lib.compareBytes a.prod.data.toList b.prod.data.toList = r0 at *
    generalize Lib.compareInt a.expiry b.expiry = r1 at *
    generalize Lib.compareInt a.kind b.kind = r2 at *
    generalize Lib.compareInt a.strike b.strike = r3 at *
    clear hab HSZ
    go_enter Try.func72, Try.ntmps72
    go_wp2_with fail
    generalize (w.alloc (.cells #[.string a.prod, .int .i64 a.kind, .int .i64 a.expiry, .int .i64 a.strike] 56)).alloc (.cells #[.string b.prod, .int .i64 b.kind, .int .i64 b.expiry, .int .i64 b.strike] 56) = w0 at *
    have HSF : Hid (∀ ww, Below w0.heap.size w0 ww → (ww.cell? ⟨w.heap.size, 0, none⟩ = some (.string a.prod) ∧ ww.cell? ⟨w.heap.size, 1, none⟩ = some (.int .i64 a.kind) ∧ ww.cell? ⟨w.heap.size, 2, none⟩ = some (.int .i64 a.expiry) ∧ ww.cell? ⟨w.heap.size, 3, none⟩ = some (.int .i64 a.strike)) ∧
      (ww.cell? ⟨w.heap.size + 1, 0, none⟩ = some (.string b.prod) ∧ ww.cell? ⟨w.heap.size + 1, 1, none⟩ = some (.int .i64 b.kind) ∧ ww.cell? ⟨w.heap.size + 1, 2, none⟩ = some (.int .i64 b.expiry) ∧ ww.cell? ⟨w.heap.size + 1, 3, none⟩ = some (.int .i64 b.strike))) := Lib.hid (fun ww h => ⟨(HA0.out.below h HA0.out.lt).cells, (HB0.out.below h HB0.out.lt).cells⟩)
    have HBw : Hid (Below w0.heap.size w0 w0.drew) := Lib.hid (Below.refl _ _).drew
    clear HA0 HB0
    go_region_held3 (fun ww => (ww.cell? ⟨w.heap.size, 0, none⟩ = some (.string a.prod) ∧ ww.cell? ⟨w.heap.size, 1, none⟩ = some (.int .i64 a.kind) ∧ ww.cell? ⟨w.heap.size, 2, none⟩ = some (.int .i64 a.expiry) ∧ ww.cell? ⟨w.heap.size, 3, none⟩ = some (.int .i64 a.strike)) ∧
      (ww.cell? ⟨w.heap.size + 1, 0, none⟩ = some (.string b.prod) ∧ ww.cell? ⟨w.heap.size + 1, 1, none⟩ = some (.int .i64 b.kind) ∧ ww.cell? ⟨w.heap.size + 1, 2, none⟩ = some (.int .i64 b.expiry) ∧ ww.cell? ⟨w.heap.size + 1, 3, none⟩ = some (.int .i64 b.strike)))
      (first | exact HSF.out _ HBw.out | exact HSF.out _ (HBw.out.alloc HBw.out.size _))
      (first
        | (go_at_call 81; refine (CS.out _).mono ?_; rintro e w6 ⟨rfl, rfl⟩)
        | (go_at_call 82; with_reducible refine (C1.out _).mono ?_; rintro e w6 ⟨rfl, rfl⟩)
        | (go_at_call 82; with_reducible refine (C2.out _).mono ?_; rintro e w6 ⟨rfl, rfl⟩)
        | (go_at_call 82; with_reducible refine (C3.out _).mono ?_; rintro e w6 ⟨rfl, rfl⟩)
        | (go_at_call 80; refine (CO.out _).mono ?_; rintro e w6 ⟨rfl, rfl⟩))
    all_goals (
      clear HSF CO CS C1 C2 C3
      go_wp2_with fail
      go_ret
      exact ⟨rfl, by first | exact HG0.out.drew.alloc _ | exact (HG0.out.alloc _).drew⟩)
end Go.Proofs.Ytagmknahmkniaaa

/- Contracts of layer 15: what may be; Check. -/
namespace Go.Proofs.Ytagmknahmkniaaa
open Go.RowKit Go.Recs
set_option linter.unusedVariables false
set_option linter.unusedSimpArgs false
set_option maxHeartbeats 1000000 in
theorem pwithin_any (n lo hi : Int) (w : World) : Calls Try.prog 83 #[.int .i64 n, .int .i64 lo, .int .i64 hi] w fun e w' => e = .returned (.bool (decide (lo ≤ n) && decide (n ≤ hi))) ∧ w = w' := by
  by_cases h1 : lo ≤ n <;> by_cases h2 : n ≤ hi
  all_goals (
    simp only [h1, h2, decide_true, decide_false, Bool.and_true, Bool.and_false, Bool.true_and, Bool.false_and]
    go_enter Try.func83, Try.ntmps83
    go_wp2_with fail
    go_ret
    exact ⟨rfl, rfl⟩)
set_option maxHeartbeats 1000000 in
theorem plots15_any (lo sh : Int) (w : World) : Calls Try.prog 73 #[.int .i64 lo, .int .i64 sh] w fun e w' => e = .returned (.bool (PO.lotsB lo sh)) ∧ w = w' := by
  have C1 := Lib.hid (fun n ww => pwithin_any n 0 1048576 ww)
  unfold PO.lotsB PO.okL
  by_cases h1 : 0 ≤ lo ∧ lo ≤ 1048576
  · have e1 : (decide ((0 : Int) ≤ lo) && decide (lo ≤ 1048576)) = true := by simp; omega
    by_cases h2 : 0 ≤ sh ∧ sh ≤ 1048576
    · have e2 : (decide ((0 : Int) ≤ sh) && decide (sh ≤ 1048576)) = true := by simp; omega
      have C2 := Lib.hid (fun ww => C1.out lo ww); have C3 := Lib.hid (fun ww => C1.out sh ww)
      rw [e1] at C2; rw [e2] at C3
      rw [e1, e2]
      clear e1 e2 C1 h1 h2
      by_cases h3 : 0 < lo
      · simp only [h3, decide_true, Bool.true_or, Bool.and_true]
        go_enter Try.func73, Try.ntmps73
        go_wp2_with fail
        refine (C2.out _).mono ?_
        rintro e w1 ⟨rfl, rfl⟩
        go_wp2_with fail
        refine (C3.out _).mono ?_
        rintro e w1 ⟨rfl, rfl⟩
        go_wp2_with fail
        go_ret
        exact ⟨rfl, rfl⟩
      · by_cases h4 : 0 < sh
        all_goals (
          simp only [h3, h4, decide_true, decide_false, Bool.false_or, Bool.and_true, Bool.and_false]
          have HD3 := Lib.hid h3; have HD4 := Lib.hid h4
          go_enter Try.func73, Try.ntmps73
          go_wp2_with fail
          refine (C2.out _).mono ?_
          rintro e w1 ⟨rfl, rfl⟩
          go_wp2_with fail
          refine (C3.out _).mono ?_
          rintro e w1 ⟨rfl, rfl⟩
          go_wp2_with fail
          go_ret
          exact ⟨by first | rfl | (simp [HD3.out, HD4.out]), rfl⟩)
    · have e2 : (decide ((0 : Int) ≤ sh) && decide (sh ≤ 1048576)) = false := by simp; omega
      have C2 := Lib.hid (fun ww => C1.out lo ww); have C3 := Lib.hid (fun ww => C1.out sh ww)
      rw [e1] at C2; rw [e2] at C3
      rw [e1, e2]
      clear e1 e2 C1 h1 h2
      simp only [Bool.and_false, Bool.false_and]
      go_enter Try.func73, Try.ntmps73
      go_wp2_with fail
      refine (C2.out _).mono ?_
      rintro e w1 ⟨rfl, rfl⟩
      go_wp2_with fail
      refine (C3.out _).mono ?_
      rintro e w1 ⟨rfl, rfl⟩
      go_wp2_with fail
      go_ret
      exact ⟨rfl, rfl⟩
  · have e1 : (decide ((0 : Int) ≤ lo) && decide (lo ≤ 1048576)) = false := by simp; omega
    have C2 := Lib.hid (fun ww => C1.out lo ww)
    rw [e1] at C2
    rw [e1]
    clear e1 C1 h1
    simp only [Bool.false_and]
    go_enter Try.func73, Try.ntmps73
    go_wp2_with fail
    refine (C2.out _).mono ?_
    rintro e w1 ⟨rfl, rfl⟩
    go_wp2_with fail
    go_ret
    exact ⟨rfl, rfl⟩
end Go.Proofs.Ytagmknahmkniaaa

/- Contracts of layer 15: Check. -/
namespace Go.Proofs.Ytagmknahmkniaaa
open Go.RowKit Go.Recs
set_option linter.unusedVariables false
set_option linter.unusedSimpArgs false
theorem eAt_bad {l : List PO.Pos} {k : Nat} (hk : 0 < k) (h : ¬ EM.cmp (PO.pAt l (k - 1)).ser (PO.pAt l k).ser < 0) : PO.eAt l k = 19 := by unfold PO.eAt; rw [if_pos ⟨hk, h⟩]
theorem eAt_lots {l : List PO.Pos} {k : Nat} (h0 : 0 < k → EM.cmp (PO.pAt l (k - 1)).ser (PO.pAt l k).ser < 0) : PO.eAt l k = if PO.lotsB (PO.pAt l k).lo (PO.pAt l k).sh = true then 0 else 18 := by
  unfold PO.eAt
  rw [if_neg (fun h => h.2 (h0 h.1))]
set_option maxHeartbeats 4000000 in
set_option maxRecDepth 100000 in
theorem pcheck15_any (A : Option Addr) (l : List PO.Pos) (n cap : Nat) (hn : n = l.length) (w : World) (hI : Poss w A l) :
    Calls Try.prog 59 #[.slice A n cap] w fun e w' => e = .returned (.int .i64 (PO.checkE l)) ∧ Below w.heap.size w w' := by
  subst hn
  have hlen := hI.len
  have HI := Lib.hid hI
  have KL := Lib.hid (@PO.check_long l); have KO := Lib.hid (@PO.check_ok l); have KA := Lib.hid (fun h k => @PO.check_at l h k)
  have C1 := Lib.hid (fun a b ww => ecmp_any a b ww); have C2 := Lib.hid (fun a b ww => plots15_any a b ww)
  generalize PO.checkE l = r at *
  clear hI
  by_cases hl : 128 < l.length
  · have HR := Lib.hid (KL.out hl)
    have hl' : (128 : Int) < (l.length : Int) := by omega
    clear hl
    go_enter Try.func59, Try.ntmps59
    go_wp2_with fail
    go_ret
    exact ⟨by rw [HR.out] <;> rfl, Below.refl _ _⟩
  have HL := Lib.hid hl
  have hl' : ¬ (128 : Int) < (l.length : Int) := by omega
  have hl2 : l.length ≤ 128 := by omega
  clear hl
  go_enter Try.func59, Try.ntmps59
  go_wp2_with fail
  go_loopw [3, 4, 10] (fun _ _ i wr => ∃ k : Nat, k ≤ l.length ∧ i = .int .i64 (k : Int) ∧ Hid (∀ j, j < k → PO.eAt l j = 0) ∧ Hid (Below w.heap.size w wr)) (fun _ _ i _ => l.length - (intOf i).toNat)
  case atStart => exact ⟨0, by omega, rfl, Lib.hid (fun j h => by omega), Lib.hid (Below.refl _ _)⟩
  case round =>
    obtain ⟨k, hk, rfl, HE, HB⟩ := hrel
    by_cases hlt : k < l.length
    · obtain ⟨b, off, x, rfl, hb, HV, q, d0, d1, d2, d3, d4, d5⟩ := poss_get (HI.out.below HB.out) hlt
      have HBx := Lib.hid (below_al HB.out (.cells (posC x) 80))
      have HX := Lib.hid (CB.new wr 80 (posC x))
      have C3 := Lib.hid (fun ww => C2.out x.lo x.sh ww)
      clear q
      rcases Nat.eq_zero_or_pos k with h0 | h0
      · have hk1 : decide (0 < k) = false := by simp [h0]
        have hk2 : ¬ (0 : Int) < (k : Int) := by omega
        have HEL : Hid (PO.eAt l k = if PO.lotsB x.lo x.sh = true then 0 else 18) := Lib.hid (by rw [eAt_lots (fun h => by omega), HV.out])
        have hk3 : ((k : Int) == 0) = true := beq_t (by omega)
        have HK0 := Lib.hid h0
        clear h0
        generalize PO.lotsB x.lo x.sh = bl at *
        cases bl
        · have HR := Lib.hid (KA.out HL.out k hlt HE.out (by rw [HEL.out]; simp))
          have HR2 : Hid (r = 18) := Lib.hid (by rw [HR.out, HEL.out]; rfl)
          go_wp2_with fail
          go_quiet (fail)
          go_wp2_with fail
          refine (C3.out _).mono ?_
          rintro e w2 ⟨rfl, rfl⟩
          go_wp2_with fail
          go_ret
          exact ⟨by rw [HR2.out] <;> rfl, by first | exact below_drewN HBx.out _ | exact HBx.out⟩
        · have HE2 : Hid (∀ j, j < k + 1 → PO.eAt l j = 0) := Lib.hid (fun j hj => by
            rcases Nat.lt_or_ge j k with g | g
            · exact HE.out j g
            · obtain rfl : j = k := by omega
              rw [HEL.out]; rfl)
          go_wp2_with fail
          go_quiet (fail)
          go_wp2_with fail
          refine (C3.out _).mono ?_
          rintro e w2 ⟨rfl, rfl⟩
          go_wp2_with fail
          go_roundw
          case rel => exact ⟨k + 1, by omega, by go_num, HE2, Lib.hid (by first | exact below_drewN HBx.out _ | exact HBx.out)⟩
          case measure => simp [intOf]; omega
      · obtain ⟨j, rfl⟩ : ∃ j, k = j + 1 := ⟨k - 1, by omega⟩
        obtain ⟨b', off', y, he, hb', HVy, qy, g0, g1, g2, g3, g4, g5⟩ := poss_get (HI.out.below HB.out) (k := j) (by omega)
        injection he with he
        injection he with e1 e2
        subst e1 e2
        have HBb : Hid (b < wr.heap.size) := Lib.hid hb
        have C4 := Lib.hid (fun ww => C1.out y.ser x.ser ww)
        have HSF : Hid (∀ ww, Below (wr.alloc (.cells (posC x) 80)).heap.size (wr.alloc (.cells (posC x) 80)) ww → ((ww.cell? ⟨b, off + j * 6, none⟩ = some (.string y.ser.prod) ∧ ww.cell? ⟨b, off + j * 6 + 1, none⟩ = some (.int .i64 y.ser.kind) ∧ ww.cell? ⟨b, off + j * 6 + 2, none⟩ = some (.int .i64 y.ser.expiry) ∧ ww.cell? ⟨b, off + j * 6 + 3, none⟩ = some (.int .i64 y.ser.strike)) ∧
            (ww.cell? ⟨wr.heap.size, 0, none⟩ = some (.string x.ser.prod) ∧ ww.cell? ⟨wr.heap.size, 1, none⟩ = some (.int .i64 x.ser.kind) ∧ ww.cell? ⟨wr.heap.size, 2, none⟩ = some (.int .i64 x.ser.expiry) ∧ ww.cell? ⟨wr.heap.size, 3, none⟩ = some (.int .i64 x.ser.strike)) ∧ (ww.cell? ⟨wr.heap.size, 4, none⟩ = some (.int .i64 x.lo) ∧ ww.cell? ⟨wr.heap.size, 5, none⟩ = some (.int .i64 x.sh)))) := Lib.hid (fun ww h => by
          have hc := fun i => (HX.out.below h HX.out.lt).cell i
          have hd := fun o => (h.cell (p := ⟨b, o, none⟩) (by have := HBb.out; simp; omega)).trans ((below_al (Below.refl wr.heap.size wr) (.cells (posC x) 80)).cell (p := ⟨b, o, none⟩) HBb.out)
          exact ⟨⟨(hd _).trans g0, (hd _).trans g1, (hd _).trans g2, (hd _).trans g3⟩, ⟨hc 0, hc 1, hc 2, hc 3⟩, hc 4, hc 5⟩)
        have hwj : IntKind.i64.wrap ((j : Int) + 1 - 1) = (j : Int) := by rw [show (j : Int) + 1 - 1 = (j : Int) by omega]; exact IntWalk.i64_in _ (by omega)
        have hwj2 : (0 : Int) < (j : Int) + 1 := by omega
        have hjl : j < l.length := by omega
        have hwj3 : IntKind.i64.wrap (j : Int) = (j : Int) := IntWalk.i64_in _ (by omega)
        have hj0 : (0 : Int) ≤ (j : Int) := by omega
        have hj1 : (j : Int) < (l.length : Int) := by omega
        have hj2 : (j : Int) ≤ (l.length : Int) := by omega
        clear qy h0 hb'
        by_cases hc : EM.cmp y.ser x.ser < 0
        · have HEL : Hid (PO.eAt l (j + 1) = if PO.lotsB x.lo x.sh = true then 0 else 18) := Lib.hid (by rw [eAt_lots (fun _ => by rw [show j + 1 - 1 = j from rfl, HVy.out, HV.out]; exact hc), HV.out])
          have hcm : ¬ 0 ≤ EM.cmp y.ser x.ser := by omega
          generalize PO.lotsB x.lo x.sh = bl at *
          generalize EM.cmp y.ser x.ser = cm at *
          go_wp2_with fail
          generalize wr.alloc (.cells #[.string x.ser.prod, .int .i64 x.ser.kind, .int .i64 x.ser.expiry, .int .i64 x.ser.strike, .int .i64 x.lo, .int .i64 x.sh] 80) = w2 at *
          have HBw : Hid (Below w2.heap.size w2 w2.drew) := Lib.hid (Below.refl _ _).drew
          go_region_held3 (fun ww => ((ww.cell? ⟨b, off + j * 6, none⟩ = some (.string y.ser.prod) ∧ ww.cell? ⟨b, off + j * 6 + 1, none⟩ = some (.int .i64 y.ser.kind) ∧ ww.cell? ⟨b, off + j * 6 + 2, none⟩ = some (.int .i64 y.ser.expiry) ∧ ww.cell? ⟨b, off + j * 6 + 3, none⟩ = some (.int .i64 y.ser.strike)) ∧
            (ww.cell? ⟨wr.heap.size, 0, none⟩ = some (.string x.ser.prod) ∧ ww.cell? ⟨wr.heap.size, 1, none⟩ = some (.int .i64 x.ser.kind) ∧ ww.cell? ⟨wr.heap.size, 2, none⟩ = some (.int .i64 x.ser.expiry) ∧ ww.cell? ⟨wr.heap.size, 3, none⟩ = some (.int .i64 x.ser.strike)) ∧ (ww.cell? ⟨wr.heap.size, 4, none⟩ = some (.int .i64 x.lo) ∧ ww.cell? ⟨wr.heap.size, 5, none⟩ = some (.int .i64 x.sh))))
            (with_reducible exact HSF.out _ HBw.out)
            ((go_at_call 72; refine (C4.out _).mono ?_; rintro e w5 ⟨rfl, b5⟩; replace HBw := Lib.hid (HBw.out.trans (b5.below.mono HBw.out.size)); clear b5))
          all_goals (
            have HBF := Lib.hid (HBx.out.trans (HBw.out.mono HBx.out.size))
            have hcl := HSF.out _ HBw.out
            obtain ⟨_, _, x4, x5⟩ := hcl
            clear HSF HBw d0 d1 d2 d3 d4 d5 g0 g1 g2 g3 g4 g5
            cases bl
            · have HR := Lib.hid (KA.out HL.out (j + 1) hlt HE.out (by rw [HEL.out]; simp))
              have HR2 : Hid (r = 18) := Lib.hid (by rw [HR.out, HEL.out]; rfl)
              go_wp2_with fail
              refine (C3.out _).mono ?_
              rintro e w6 ⟨rfl, rfl⟩
              go_wp2_with fail
              go_ret
              exact ⟨by rw [HR2.out] <;> rfl, HBF.out⟩
            · have HE2 : Hid (∀ i, i < j + 1 + 1 → PO.eAt l i = 0) := Lib.hid (fun i hi => by
                rcases Nat.lt_or_ge i (j + 1) with g | g
                · exact HE.out i g
                · obtain rfl : i = j + 1 := by omega
                  rw [HEL.out]; rfl)
              go_wp2_with fail
              refine (C3.out _).mono ?_
              rintro e w6 ⟨rfl, rfl⟩
              go_wp2_with fail
              go_roundw
              case rel => exact ⟨j + 1 + 1, by omega, by go_num, HE2, HBF⟩
              case measure => simp [intOf]; omega)
        · have HR := Lib.hid (KA.out HL.out (j + 1) hlt HE.out (by rw [eAt_bad (by omega) (by rw [show j + 1 - 1 = j from rfl, HVy.out, HV.out]; exact hc)]; simp))
          have HR2 : Hid (r = 19) := Lib.hid (by rw [HR.out, eAt_bad (by omega) (by rw [show j + 1 - 1 = j from rfl, HVy.out, HV.out]; exact hc)])
          have hcm : 0 ≤ EM.cmp y.ser x.ser := by omega
          generalize EM.cmp y.ser x.ser = cm at *
          go_wp2_with fail
          generalize wr.alloc (.cells #[.string x.ser.prod, .int .i64 x.ser.kind, .int .i64 x.ser.expiry, .int .i64 x.ser.strike, .int .i64 x.lo, .int .i64 x.sh] 80) = w2 at *
          have HBw : Hid (Below w2.heap.size w2 w2.drew) := Lib.hid (Below.refl _ _).drew
          go_region_held3 (fun ww => ((ww.cell? ⟨b, off + j * 6, none⟩ = some (.string y.ser.prod) ∧ ww.cell? ⟨b, off + j * 6 + 1, none⟩ = some (.int .i64 y.ser.kind) ∧ ww.cell? ⟨b, off + j * 6 + 2, none⟩ = some (.int .i64 y.ser.expiry) ∧ ww.cell? ⟨b, off + j * 6 + 3, none⟩ = some (.int .i64 y.ser.strike)) ∧
            (ww.cell? ⟨wr.heap.size, 0, none⟩ = some (.string x.ser.prod) ∧ ww.cell? ⟨wr.heap.size, 1, none⟩ = some (.int .i64 x.ser.kind) ∧ ww.cell? ⟨wr.heap.size, 2, none⟩ = some (.int .i64 x.ser.expiry) ∧ ww.cell? ⟨wr.heap.size, 3, none⟩ = some (.int .i64 x.ser.strike)) ∧ (ww.cell? ⟨wr.heap.size, 4, none⟩ = some (.int .i64 x.lo) ∧ ww.cell? ⟨wr.heap.size, 5, none⟩ = some (.int .i64 x.sh))))
            (with_reducible exact HSF.out _ HBw.out)
            ((go_at_call 72; refine (C4.out _).mono ?_; rintro e w5 ⟨rfl, b5⟩; replace HBw := Lib.hid (HBw.out.trans (b5.below.mono HBw.out.size)); clear b5))
          all_goals (
            have HBF := Lib.hid (HBx.out.trans (HBw.out.mono HBx.out.size))
            clear HSF HBw d0 d1 d2 d3 d4 d5 g0 g1 g2 g3 g4 g5
            go_wp2_with fail
            go_ret
            exact ⟨by rw [HR2.out] <;> rfl, HBF.out⟩)
    · obtain rfl : k = l.length := by omega
      have HR := Lib.hid (KO.out HL.out HE.out)
      go_wp2_with fail
      go_ret
      exact ⟨by rw [HR.out] <;> rfl, HB.out⟩
end Go.Proofs.Ytagmknahmkniaaa

/- Contracts of layer 9: Find. -/
namespace Go.Proofs.Ytagmknahmkniaaa
open Go.RowKit Go.Recs
set_option linter.unusedVariables false

theorem prod_under : Try.prog.underlying 52 = some (.struct (Try.prog.fieldsOf 52)) := by kernel_rfl
theorem prod_size : (Try.prog.info? 52).map (·.size) = some 7 := by kernel_rfl
theorem results_prod {fn : Func} {p u : Tmp} (h : fn.results = #[.cell p 52, .tmp u]) (tmps : Array Value) (w : World) (g : Nat) (x : QM.Prod)
    (hp : tmps.getD p undef = .pointer (some ⟨g, 0, none⟩)) (hb : PBox w g x) : (results fn tmps).run Try.prog w = .ok (.tuple #[prodA x, tmps.getD u undef]) w := by
  rw [results_cell_tmp h, hp]
  simp only [asAddr, Sem.run_pure, Result.andThen_ok]
  rw [run_loadVar_row w g 52 52 _ (0, 0) _ hb prod_under rfl prod_size]
  rfl
section
variable {w w' : World} {g : Nat} {p : QM.Prod}
theorem PBox.drewN (h : PBox w g p) (n : Nat) : PBox (w.drewN n) g p := h
theorem PBox.drew (h : PBox w g p) : PBox w.drew g p := h
theorem PBox.alloc (h : PBox w g p) (o : Obj) : PBox (w.alloc o) g p := (Below.heap_alloc w o g h.lt).trans h
theorem PBox.frozen (h : PBox w g p) (i : Nat) : w.frozen? ⟨g, i, none⟩ = false := by unfold PBox at h; simp [World.frozen?, h]
theorem PBox.put (h : PBox w g p) (x : QM.Prod) : PBox (((((((w.setCell ⟨g, 0, none⟩ (.string x.name)).setCell ⟨g, 1, none⟩ (.int .i64 x.cur)).setCell ⟨g, 2, none⟩ (.int .i64 x.mult)).setCell ⟨g, 3, none⟩ (.int .i64 x.tick)).setCell ⟨g, 4, none⟩ (.int .i64 x.low)).setCell ⟨g, 5, none⟩ (.int .i64 x.high)).setCell ⟨g, 6, none⟩ (.bool x.phys)) g x := by
  unfold PBox at h ⊢
  simp [World.setCell, Array.getElem?_modify, h]
theorem PBox.put_below {B : Nat} {a : World} (h : Below B a w) (hB : B ≤ g) (x : QM.Prod) : Below B a (((((((w.setCell ⟨g, 0, none⟩ (.string x.name)).setCell ⟨g, 1, none⟩ (.int .i64 x.cur)).setCell ⟨g, 2, none⟩ (.int .i64 x.mult)).setCell ⟨g, 3, none⟩ (.int .i64 x.tick)).setCell ⟨g, 4, none⟩ (.int .i64 x.low)).setCell ⟨g, 5, none⟩ (.int .i64 x.high)).setCell ⟨g, 6, none⟩ (.bool x.phys)) :=
  ((((((h.setCell hB _).setCell hB _).setCell hB _).setCell hB _).setCell hB _).setCell hB _).setCell hB _
end

def firstP (l : List QM.Prod) (s : ByteArray) : QM.Prod × Bool := match l.find? (fun p => p.name.toList == s.toList) with | some p => (p, true) | none => (QM.zero, false)
theorem first_yes {l : List QM.Prod} {s : ByteArray} {k : Nat} (hk : k < l.length) (h : ∀ j, j < k → ((QM.pAt l j).name.toList == s.toList) = false) (h2 : ((QM.pAt l k).name.toList == s.toList) = true) : firstP l s = (QM.pAt l k, true) := by
  have e : l.find? (fun p => p.name.toList == s.toList) = some (QM.pAt l k) := by
    rw [List.find?_eq_some_iff_getElem]
    refine ⟨h2, k, hk, by simp [QM.pAt, List.getD, hk], fun j hj => ?_⟩
    have := h j hj
    have hjl : j < l.length := by omega
    simp only [QM.pAt, List.getD, List.getElem?_eq_getElem hjl, Option.getD_some] at this
    rw [this]; rfl
  unfold firstP; rw [e]
theorem first_no {l : List QM.Prod} {s : ByteArray} (h : ∀ j, j < l.length → ((QM.pAt l j).name.toList == s.toList) = false) : firstP l s = (QM.zero, false) := by
  have e : l.find? (fun p => p.name.toList == s.toList) = none := by
    rw [List.find?_eq_none]
    intro a ha
    obtain ⟨j, hj, rfl⟩ := List.getElem_of_mem ha
    have := h j hj
    simp only [QM.pAt, List.getD, List.getElem?_eq_getElem hj, Option.getD_some] at this
    simp [this]
  unfold firstP; rw [e]

theorem qfind1_any (p : QM.Prod) (s : ByteArray) (g : Nat) (w : World) (hc : w.cell? ⟨g, 0, none⟩ = some (.string s)) (hg : g < w.heap.size) :
    Calls Try.prog 76 #[prodA p, .pointer (some ⟨g, 0, none⟩)] w fun e w' => e = .returned (.bool (p.name.toList == s.toList)) ∧ Below w.heap.size w w' := by
  have HB := Lib.hid ((Below.refl w.heap.size w).alloc (Nat.le_refl _) (.cells #[.string p.name, .int .i64 p.cur, .int .i64 p.mult, .int .i64 p.tick, .int .i64 p.low, .int .i64 p.high, .bool p.phys] 52))
  have hc2 := (HB.out.cell (p := ⟨g, 0, none⟩) hg).trans hc
  go_enter Try.func76, Try.ntmps76
  go_wp2
  go_ret
  exact ⟨rfl, HB.out⟩

set_option maxHeartbeats 4000000 in
theorem qfirst_any (A : Option Addr) (l : List QM.Prod) (cap : Nat) (s : ByteArray) (g : Nat) (w : World) (hI : Prods w A l) (hc : w.cell? ⟨g, 0, none⟩ = some (.string s)) (hg : g < w.heap.size) :
    Calls Try.prog 75 #[.slice A l.length cap, .func (.func 76) #[] #[.pointer (some ⟨g, 0, none⟩)]] w fun e w' => e = .returned (.tuple #[prodA (firstP l s).1, .bool (firstP l s).2]) ∧ Below w.heap.size w w' := by
  have HY := Lib.hid (fun k => @first_yes l s k)
  have HN := Lib.hid (@first_no l s)
  have hlen : l.length ≤ 9223372036854775807 := by have := hI.1.len; rw [List.length_map] at this; exact this
  generalize firstP l s = xy at *
  obtain ⟨x, y⟩ := xy
  have HB := Lib.hid ((Below.refl w.heap.size w).alloc (Nat.le_refl _) (.cells #[.string ⟨#[]⟩, .int .i64 0, .int .i64 0, .int .i64 0, .int .i64 0, .int .i64 0, .bool false] 52))
  have HP : Hid (PBox (w.alloc (.cells #[.string ⟨#[]⟩, .int .i64 0, .int .i64 0, .int .i64 0, .int .i64 0, .int .i64 0, .bool false] 52)) w.heap.size QM.zero) := Lib.hid (PBox.new w QM.zero)
  have HI := Lib.hid (hI.below HB.out)
  have HC := Lib.hid ((HB.out.cell (p := ⟨g, 0, none⟩) hg).trans hc)
  have HG : Hid (g < w.heap.size) := Lib.hid hg
  clear hI hc hg
  go_enter Try.func75, Try.ntmps75
  go_wp2
  have HS : Hid (w.heap.size < (w.alloc (.cells #[.string ⟨#[]⟩, .int .i64 0, .int .i64 0, .int .i64 0, .int .i64 0, .int .i64 0, .bool false] 52)).heap.size) := Lib.hid (new_lt _ _)
  generalize w.alloc (.cells #[.string ⟨#[]⟩, .int .i64 0, .int .i64 0, .int .i64 0, .int .i64 0, .int .i64 0, .bool false] 52) = w0 at *
  go_loopw [7, 10] (fun _ i wr => ∃ k : Nat, k ≤ l.length ∧ i = .int .i64 k ∧ Hid (∀ j, j < k → ((QM.pAt l j).name.toList == s.toList) = false) ∧ Hid (Below w0.heap.size w0 wr)) (fun _ i _ => l.length - (intOf i).toNat)
  case atStart => exact ⟨0, by omega, rfl, Lib.hid (fun j h => by omega), Lib.hid (Below.refl _ _)⟩
  case round =>
    obtain ⟨k, hk, rfl, HE, HW⟩ := hrel
    by_cases hlt : k < l.length
    · obtain ⟨b, off, p, rfl, hb, HV, q0, d0, d1, d2, d3, d4, d5, d6⟩ := prods_get (HI.out.below HW.out) hlt
      have HWA := Lib.hid (HW.out.alloc HW.out.size (.cells #[.string p.name, .int .i64 p.cur, .int .i64 p.mult, .int .i64 p.tick, .int .i64 p.low, .int .i64 p.high, .bool p.phys] 52))
      have HQ := Lib.hid (PBox.new wr p)
      have HL := Lib.hid (new_lt wr (.cells #[.string p.name, .int .i64 p.cur, .int .i64 p.mult, .int .i64 p.tick, .int .i64 p.low, .int .i64 p.high, .bool p.phys] 52))
      have C1 := Lib.hid (fun ww h1 h2 => qfind1_any p s g ww h1 h2)
      have HC2 : Hid ((wr.alloc (.cells #[.string p.name, .int .i64 p.cur, .int .i64 p.mult, .int .i64 p.tick, .int .i64 p.low, .int .i64 p.high, .bool p.phys] 52)).cell? ⟨g, 0, none⟩ = some (.string s)) :=
        Lib.hid ((HWA.out.cell (p := ⟨g, 0, none⟩) (Nat.lt_trans HG.out HS.out)).trans HC.out)
      have HG2 : Hid (g < (wr.alloc (.cells #[.string p.name, .int .i64 p.cur, .int .i64 p.mult, .int .i64 p.tick, .int .i64 p.low, .int .i64 p.high, .bool p.phys] 52)).heap.size) :=
        Lib.hid (Nat.lt_of_lt_of_le (Nat.lt_trans HG.out HS.out) HWA.out.size)
      go_wp2_with fail
      refine (C1.out _ HC2.out HG2.out).mono ?_
      rintro e w2 ⟨rfl, b2⟩
      have HW2 := Lib.hid (HWA.out.trans (b2.mono HWA.out.size))
      have HQ2 := Lib.hid (HQ.out.below b2 HL.out)
      clear b2 d0 d1 d2 d3 d4 d5 d6 HC2 HG2 HWA HQ HL
      cases he : (p.name.toList == s.toList)
      · have HE2 : Hid (∀ j, j < k + 1 → ((QM.pAt l j).name.toList == s.toList) = false) := Lib.hid (fun j hj => by
          rcases Nat.lt_or_ge j k with g | g
          · exact HE.out j g
          · obtain rfl : j = k := by omega
            rw [HV.out]; exact he)
        go_wp2_with fail
        go_roundw
        case rel => exact ⟨k + 1, by omega, by go_num, HE2, HW2⟩
        case measure => simp [intOf]; omega
      · have HR := Lib.hid (HY.out k hlt HE.out (by rw [HV.out]; exact he))
        have HP2 := Lib.hid (HP.out.below HW2.out HS.out)
        obtain ⟨c0, c1, c2, c3, c4, c5, c6⟩ := HP2.out.cells
        have f0 := HP2.out.frozen 0; have f1 := HP2.out.frozen 1; have f2 := HP2.out.frozen 2; have f3 := HP2.out.frozen 3; have f4 := HP2.out.frozen 4; have f5 := HP2.out.frozen 5; have f6 := HP2.out.frozen 6
        obtain ⟨d0, d1, d2, d3, d4, d5, d6⟩ := HQ2.out.cells
        go_wp2_with fail
        (try simp only [Exit.inBlock, Exit.then])
        refine bodyPost_ret (results_prod rfl _ _ _ _ rfl (HP2.out.put p)) rfl ⟨?_, ?_⟩
        · have h1 := HR.out; rw [HV.out] at h1; injection h1 with h1 h2; rw [h1, h2]; rfl
        · exact PBox.put_below (HB.out.trans (HW2.out.mono HB.out.size)) (Nat.le_refl _) p
    · obtain rfl : k = l.length := by omega
      have HR := Lib.hid (HN.out HE.out)
      have HP2 := Lib.hid (HP.out.below HW.out HS.out)
      obtain ⟨c0, c1, c2, c3, c4, c5, c6⟩ : wr.cell? ⟨w.heap.size, 0, none⟩ = some (.string ⟨#[]⟩) ∧ wr.cell? ⟨w.heap.size, 1, none⟩ = some (.int .i64 0) ∧ wr.cell? ⟨w.heap.size, 2, none⟩ = some (.int .i64 0) ∧ wr.cell? ⟨w.heap.size, 3, none⟩ = some (.int .i64 0) ∧ wr.cell? ⟨w.heap.size, 4, none⟩ = some (.int .i64 0) ∧ wr.cell? ⟨w.heap.size, 5, none⟩ = some (.int .i64 0) ∧ wr.cell? ⟨w.heap.size, 6, none⟩ = some (.bool false) := HP2.out.cells
      have f0 := HP2.out.frozen 0; have f1 := HP2.out.frozen 1; have f2 := HP2.out.frozen 2; have f3 := HP2.out.frozen 3; have f4 := HP2.out.frozen 4; have f5 := HP2.out.frozen 5; have f6 := HP2.out.frozen 6
      go_wp2_with fail
      (try simp only [Exit.inBlock, Exit.then])
      refine bodyPost_ret (results_prod rfl _ _ _ _ rfl (HP2.out.put QM.zero)) rfl ⟨?_, ?_⟩
      · have h1 := HR.out; injection h1 with h1 h2; rw [h1, h2]; rfl
      · exact PBox.put_below (HB.out.trans (HW.out.mono HB.out.size)) (Nat.le_refl _) QM.zero

set_option maxHeartbeats 2000000 in
theorem qfind_any (A : Option Addr) (l : List QM.Prod) (cap : Nat) (s : ByteArray) (w : World) (hI : Prods w A l) :
    Calls Try.prog 61 #[.slice A l.length cap, .string s] w fun e w' => e = .returned (.tuple #[prodA (firstP l s).1, .bool (firstP l s).2]) ∧ Below w.heap.size w w' := by
  have HB1 := Lib.hid ((Below.refl w.heap.size w).alloc (Nat.le_refl _) (.cells #[.string s] 9))
  have C1 := Lib.hid (fun ww (h : Prods ww A l) hc hg => qfirst_any A l cap s w.heap.size ww h hc hg)
  generalize firstP l s = xy at *
  obtain ⟨x, y⟩ := xy
  have HB2 := Lib.hid (HB1.out.alloc HB1.out.size (.cells #[.string ⟨#[]⟩, .int .i64 0, .int .i64 0, .int .i64 0, .int .i64 0, .int .i64 0, .bool false] 52))
  have HP : Hid (PBox ((w.alloc (.cells #[.string s] 9)).alloc (.cells #[.string ⟨#[]⟩, .int .i64 0, .int .i64 0, .int .i64 0, .int .i64 0, .int .i64 0, .bool false] 52)) (w.heap.size + 1) QM.zero) := Lib.hid (by
    have := PBox.new (w.alloc (.cells #[.string s] 9)) QM.zero
    rw [show (w.alloc (.cells #[.string s] 9)).heap.size = w.heap.size + 1 by simp] at this
    exact this)
  have HX : Hid (Box ((w.alloc (.cells #[.string s] 9)).alloc (.cells #[.string ⟨#[]⟩, .int .i64 0, .int .i64 0, .int .i64 0, .int .i64 0, .int .i64 0, .bool false] 52)) w.heap.size 9 (.string s)) := Lib.hid ((Box.new w 9 (.string s)).alloc _)
  have HI := Lib.hid (hI.below HB2.out)
  clear hI HB1
  have hmf : ∀ (fn : Fn) (first cap : Array Value) (w : World), (Instr.makeFunc fn first cap).run Try.prog w = .ok (.func fn first cap) w := fun _ _ _ _ => rfl
  go_enter Try.func61, Try.ntmps61
  go_wp2_with fail
  refine (C1.out _ HI.out HX.out.cell HX.out.lt).mono ?_
  rintro e w2 ⟨rfl, b2⟩
  have HP2 := Lib.hid (HP.out.below b2 HP.out.lt)
  have HB3 := Lib.hid (HB2.out.trans (b2.mono HB2.out.size))
  obtain ⟨c0, c1, c2, c3, c4, c5, c6⟩ := HP2.out.cells
  have f0 := HP2.out.frozen 0; have f1 := HP2.out.frozen 1; have f2 := HP2.out.frozen 2; have f3 := HP2.out.frozen 3; have f4 := HP2.out.frozen 4; have f5 := HP2.out.frozen 5; have f6 := HP2.out.frozen 6
  clear b2
  go_wp2_with fail
  (try simp only [Exit.inBlock, Exit.then])
  refine bodyPost_ret (results_prod rfl _ _ _ _ rfl (HP2.out.put x)) rfl ⟨?_, ?_⟩
  · rfl
  · exact PBox.put_below HB3.out (by omega) x
end Go.Proofs.Ytagmknahmkniaaa
