/- Put together: PosMath2, ShelfP, SerC, PosA, PosB, PosC, PosD, PosE. -/
import Derived.Test.YtdhkflmodcgooaaBun3
import Derived.Test.YtdhkflmodcgooaaBun5
import Derived.Shelf.SlGeneric
import Derived.Shelf.Small.Wraps
import Derived.Shelf.Small.Strs
import Derived.Shelf.SlLaysQ
import Derived.Shelf.SlLaysF0
import Derived.Shelf.SlLaysE0
import Derived.Ground.NamesProg
import Derived.Ground.SlgqProg
import Derived.Ground.SlsfProg
import Derived.Ground.SlgnProg
import Derived.Test.YtdhkflmodcgooaaProg
import Derived.Test.YtdhkflmodcgooaaBun4
import Derived.Sort.Grow
import Derived.Deep.RegionHeld3
import Derived.Deep.QuietTactic
import Derived.BigQuiet
/- Layer 15's mathematics: lists of positions, a leg applied. -/
namespace PO
def okL (n : Int) : Bool := decide (0 ≤ n) && decide (n ≤ 1048576)
theorem okL_iff {n : Int} : okL n = true ↔ 0 ≤ n ∧ n ≤ 1048576 := by unfold okL; simp
def lotsB (lo sh : Int) : Bool := okL lo && okL sh && (decide (0 < lo) || decide (0 < sh))
theorem lotsB_iff {lo sh : Int} : lotsB lo sh = true ↔ (0 ≤ lo ∧ lo ≤ 1048576) ∧ (0 ≤ sh ∧ sh ≤ 1048576) ∧ (0 < lo ∨ 0 < sh) := by unfold lotsB okL; simp; omega
def eAt (l : List Pos) (k : Nat) : Int := if 0 < k ∧ ¬ EM.cmp (pAt l (k - 1)).ser (pAt l k).ser < 0 then 19 else if lotsB (pAt l k).lo (pAt l k).sh = true then 0 else 18
def firstE : List Int → Int
  | [] => 0
  | e :: r => if e = 0 then firstE r else e
theorem first_all : ∀ {l : List Int}, (∀ e ∈ l, e = 0) → firstE l = 0
  | [], _ => rfl
  | e :: r, h => by unfold firstE; rw [if_pos (h e (by simp))]; exact first_all fun x hx => h x (by simp [hx])
theorem first_inv : ∀ {l : List Int}, firstE l = 0 → ∀ e ∈ l, e = 0
  | [], _, e, he => by simp at he
  | x :: r, h, e, he => by
    unfold firstE at h
    by_cases hx : x = 0
    · rw [if_pos hx] at h
      rcases List.mem_cons.1 he with rfl | he
      · exact hx
      · exact first_inv h e he
    · rw [if_neg hx] at h; exact absurd h hx
theorem first_at : ∀ {l : List Int} {k : Nat} (hk : k < l.length), (∀ j (hj : j < k), l[j] = 0) → l[k] ≠ 0 → firstE l = l[k]
  | [], _, hk, _, _ => by simp at hk
  | e :: r, 0, _, _, h => by
    have h' : ¬ e = 0 := h
    unfold firstE; rw [if_neg h']; rfl
  | e :: r, k + 1, hk, hj, h => by
    have h0 : e = 0 := hj 0 (by omega)
    unfold firstE
    rw [if_pos h0]
    exact first_at (k := k) (by simpa using hk) (fun j hjk => hj (j + 1) (by omega)) h
def checkE (l : List Pos) : Int := if 128 < l.length then 8 else firstE ((List.range l.length).map (eAt l))
theorem check_long {l : List Pos} (h : 128 < l.length) : checkE l = 8 := by unfold checkE; rw [if_pos h]
theorem check_ok {l : List Pos} (hl : ¬ 128 < l.length) (h : ∀ j, j < l.length → eAt l j = 0) : checkE l = 0 := by
  unfold checkE
  rw [if_neg hl]
  refine first_all fun e he => ?_
  obtain ⟨j, hj, rfl⟩ := List.mem_map.1 he
  exact h j (List.mem_range.1 hj)
theorem check_at {l : List Pos} (hl : ¬ 128 < l.length) {k : Nat} (hk : k < l.length) (hj : ∀ j, j < k → eAt l j = 0) (h : eAt l k ≠ 0) : checkE l = eAt l k := by
  unfold checkE
  rw [if_neg hl, first_at (k := k) (by simpa using hk) (fun j hjk => by simpa using hj j hjk) (by simpa using h)]
  simp
theorem check_inv {l : List Pos} (h : checkE l = 0) : l.length ≤ 128 ∧ ∀ j, j < l.length → eAt l j = 0 := by
  unfold checkE at h
  by_cases hl : 128 < l.length
  · rw [if_pos hl] at h; cases h
  · rw [if_neg hl] at h
    exact ⟨by omega, fun j hj => first_inv h _ (List.mem_map.2 ⟨j, List.mem_range.2 hj, rfl⟩)⟩
def ascP (l : List Pos) : Prop := l.Pairwise (fun a b => EM.lt a.ser b.ser)
theorem eAt_zero {l : List Pos} {k : Nat} (h : eAt l k = 0) : (0 < k → EM.lt (pAt l (k - 1)).ser (pAt l k).ser) ∧ lotsB (pAt l k).lo (pAt l k).sh = true := by
  unfold eAt at h
  split at h
  · cases h
  · rename_i h1
    split at h
    · rename_i h2
      refine ⟨fun hk => ?_, h2⟩
      have h3 : EM.cmp (pAt l (k - 1)).ser (pAt l k).ser < 0 := by
        by_cases g : EM.cmp (pAt l (k - 1)).ser (pAt l k).ser < 0
        · exact g
        · exact absurd ⟨hk, g⟩ h1
      rcases EM.cmp_cases (pAt l (k - 1)).ser (pAt l k).ser with ⟨_, g⟩ | ⟨e, _⟩ | ⟨e, _⟩
      · exact g
      · omega
      · omega
    · cases h
theorem asc_of {l : List Pos} (h : ∀ j, j < l.length → eAt l j = 0) : ascP l := by
  refine List.pairwise_iff_getElem.2 fun i j hi hj hij => ?_
  have key : ∀ d i, i + d + 1 < l.length → EM.lt (pAt l i).ser (pAt l (i + d + 1)).ser := by
    intro d
    induction d with
    | zero => intro i hd; exact (eAt_zero (h (i + 0 + 1) hd)).1 (by omega)
    | succ d ih =>
      intro i hd
      have h1 := ih i (by omega)
      have h2 := (eAt_zero (h (i + (d + 1) + 1) hd)).1 (by omega)
      exact EM.lt_trans h1 h2
  have := key (j - i - 1) i (by omega)
  rw [show i + (j - i - 1) + 1 = j by omega, pAt_get hi, pAt_get hj] at this
  exact this
theorem check_good {l : List Pos} (h : checkE l = 0) : l.length ≤ 128 ∧ ascP l ∧ ∀ p ∈ l, lotsB p.lo p.sh = true := by
  obtain ⟨h1, h2⟩ := check_inv h
  refine ⟨h1, asc_of h2, fun p hp => ?_⟩
  obtain ⟨j, hj, rfl⟩ := List.getElem_of_mem hp
  have := (eAt_zero (h2 j hj)).2
  rwa [pAt_get hj] at this
theorem asc_inj {l : List Pos} (h : ascP l) {a b : Pos} (ha : a ∈ l) (hb : b ∈ l) (e : a.ser = b.ser) : a = b := by
  obtain ⟨i, hi, rfl⟩ := List.getElem_of_mem ha
  obtain ⟨j, hj, rfl⟩ := List.getElem_of_mem hb
  rcases Nat.lt_trichotomy i j with g | rfl | g
  · have := List.pairwise_iff_getElem.1 h i j hi hj g
    rw [e] at this; exact absurd this (EM.lt_irrefl _)
  · rfl
  · have := List.pairwise_iff_getElem.1 h j i hj hi g
    rw [e] at this; exact absurd this (EM.lt_irrefl _)
/-- a sorted arrangement of an ascending list is that list -/
theorem sort_unique {xs ys : List Pos} (hp : xs.Perm ys) (hy : ascP ys) (hs : ∀ i j (hi : i < xs.length) (hj : j < xs.length), i < j → ¬ EM.lt xs[j].ser xs[i].ser) : xs = ys := by
  refine List.Perm.eq_of_pairwise (le := fun a b : Pos => ¬ EM.lt b.ser a.ser) (fun a b ha hb h1 h2 => ?_) (List.pairwise_iff_getElem.2 hs) (hy.imp fun h => EM.lt_asymm h) hp
  rcases EM.lt_tri a.ser b.ser with g | g | g
  · exact absurd g h2
  · exact asc_inj hy (hp.mem_iff.1 ha) hb g
  · exact absurd g h1
def others (l : List Pos) (s : EM.Ser) : List Pos := l.filter fun q => !NM.seqB q.ser s
def insP (p : Pos) : List Pos → List Pos
  | [] => [p]
  | q :: m => if EM.cmp q.ser p.ser < 0 then q :: insP p m else p :: q :: m
theorem ins_perm (p : Pos) : ∀ m : List Pos, (insP p m).Perm (p :: m)
  | [] => List.Perm.refl _
  | q :: m => by
    unfold insP
    split
    · exact ((ins_perm p m).cons q).trans (List.Perm.swap p q m)
    · exact List.Perm.refl _
theorem ins_asc {p : Pos} : ∀ {m : List Pos}, ascP m → (∀ q ∈ m, q.ser ≠ p.ser) → ascP (insP p m)
  | [], _, _ => by simp [insP, ascP]
  | q :: m, h, hn => by
    obtain ⟨h1, h2⟩ := List.pairwise_cons.1 h
    unfold insP
    split
    · rename_i hc
      refine List.pairwise_cons.2 ⟨fun y hy => ?_, ins_asc h2 fun x hx => hn x (by simp [hx])⟩
      rcases List.mem_cons.1 ((ins_perm p m).mem_iff.1 hy) with rfl | hy
      · rcases EM.cmp_cases q.ser y.ser with ⟨_, g⟩ | ⟨e, _⟩ | ⟨e, _⟩
        · exact g
        · omega
        · omega
      · exact h1 y hy
    · rename_i hc
      have hpq : EM.lt p.ser q.ser := by
        rcases EM.cmp_cases q.ser p.ser with ⟨e, _⟩ | ⟨_, e⟩ | ⟨_, g⟩
        · omega
        · exact absurd e (hn q (by simp))
        · exact g
      refine List.pairwise_cons.2 ⟨fun y hy => ?_, h⟩
      rcases List.mem_cons.1 hy with rfl | hy
      · exact hpq
      · exact EM.lt_trans hpq (h1 y hy)
theorem others_ne {l : List Pos} {s : EM.Ser} : ∀ q ∈ others l s, q.ser ≠ s := by
  intro q hq e
  have := (List.mem_filter.1 hq).2
  rw [NM.seqB_iff.2 e] at this
  cases this
theorem others_asc {l : List Pos} (h : ascP l) (s : EM.Ser) : ascP (others l s) := h.filter _
def putsL (l : List Pos) (p : Pos) : List Pos := if p.lo = 0 ∧ p.sh = 0 then others l p.ser else insP p (others l p.ser)
theorem puts_asc {l : List Pos} (h : ascP l) (p : Pos) : ascP (putsL l p) := by
  unfold putsL
  split
  · exact others_asc h _
  · exact ins_asc (others_asc h _) others_ne
/-- the reference's loop -/
def stepR (p : Pos) (st : List Pos × Bool) (x : Pos) : List Pos × Bool :=
  if NM.seqB x.ser p.ser = true then st else if st.2 = false ∧ 0 < EM.cmp x.ser p.ser then (st.1 ++ [p, x], true) else (st.1 ++ [x], st.2)
theorem fold_others (p : Pos) : ∀ (l : List Pos) (out : List Pos), l.foldl (stepR p) (out, true) = (out ++ others l p.ser, true)
  | [], out => by simp [others]
  | x :: l, out => by
    rw [List.foldl_cons]
    cases h : NM.seqB x.ser p.ser
    · have e : stepR p (out, true) x = (out ++ [x], true) := by unfold stepR; rw [h]; simp
      rw [e, fold_others p l]
      simp [others, h]
    · have e : stepR p (out, true) x = (out, true) := by unfold stepR; rw [h]; simp
      rw [e, fold_others p l]
      simp [others, h]
theorem fold_ins (p : Pos) : ∀ (l : List Pos) (out : List Pos), (if (l.foldl (stepR p) (out, false)).2 = true then (l.foldl (stepR p) (out, false)).1 else (l.foldl (stepR p) (out, false)).1 ++ [p]) = out ++ insP p (others l p.ser)
  | [], out => by simp [others, insP]
  | x :: l, out => by
    rw [List.foldl_cons]
    cases h : NM.seqB x.ser p.ser
    · have hne : x.ser ≠ p.ser := fun e => by rw [NM.seqB_iff.2 e] at h; cases h
      have eo : others (x :: l) p.ser = x :: others l p.ser := by simp [others, h]
      rw [eo]
      rcases EM.cmp_cases x.ser p.ser with ⟨e1, _⟩ | ⟨_, e1⟩ | ⟨e1, _⟩
      · have e : stepR p (out, false) x = (out ++ [x], false) := by unfold stepR; rw [h, if_neg (by simp), if_neg (by simp; omega)]
        rw [e, fold_ins p l]
        simp [insP, e1]
      · exact absurd e1 hne
      · have e : stepR p (out, false) x = (out ++ [p, x], true) := by unfold stepR; rw [h, if_neg (by simp), if_pos (by simp; omega)]
        rw [e, fold_others p l]
        simp [insP, e1]
    · have e : stepR p (out, false) x = (out, false) := by unfold stepR; rw [h]; simp
      rw [e, fold_ins p l]
      simp [others, h]
/-- the first position of a series -/
def fidx (l : List Pos) (s : EM.Ser) : Option Nat := l.findIdx? fun q => NM.seqB q.ser s
def findP (l : List Pos) (s : EM.Ser) : Pos := match fidx l s with
  | some k => pAt l k
  | none => ⟨s, 0, 0⟩
theorem fidx_some {l : List Pos} {s : EM.Ser} {k : Nat} (hk : k < l.length) (hj : ∀ j, j < k → NM.seqB (pAt l j).ser s = false) (h : NM.seqB (pAt l k).ser s = true) : fidx l s = some k := by
  unfold fidx
  rw [List.findIdx?_eq_some_iff_getElem]
  refine ⟨hk, by rw [← pAt_get hk]; exact h, fun j hji => ?_⟩
  rw [← pAt_get (Nat.lt_trans hji hk), hj j hji]
  decide
theorem fidx_none {l : List Pos} {s : EM.Ser} (h : ∀ j, j < l.length → NM.seqB (pAt l j).ser s = false) : fidx l s = none := by
  unfold fidx
  rw [List.findIdx?_eq_none_iff]
  intro x hx
  obtain ⟨j, hj, rfl⟩ := List.mem_iff_getElem.1 hx
  rw [← pAt_get hj]
  exact h j hj
theorem find_ser (l : List Pos) (s : EM.Ser) : (findP l s).ser = s := by
  unfold findP
  cases h : fidx l s with
  | none => rfl
  | some k =>
    obtain ⟨hk, h1, _⟩ := List.findIdx?_eq_some_iff_getElem.1 h
    show (pAt l k).ser = s
    rw [pAt_get hk]
    exact NM.seqB_iff.1 h1
theorem find_cases (l : List Pos) (s : EM.Ser) : (findP l s ∈ l ∧ (findP l s).ser = s) ∨ (findP l s = ⟨s, 0, 0⟩ ∧ ∀ q ∈ l, q.ser ≠ s) := by
  unfold findP
  cases h : fidx l s with
  | none =>
    refine .inr ⟨rfl, fun q hq e => ?_⟩
    have := List.findIdx?_eq_none_iff.1 h q hq
    rw [NM.seqB_iff.2 e] at this; cases this
  | some k =>
    obtain ⟨hk, h1, _⟩ := List.findIdx?_eq_some_iff_getElem.1 h
    exact .inl ⟨by show pAt l k ∈ l; rw [pAt_get hk]; exact List.getElem_mem hk, by show (pAt l k).ser = s; rw [pAt_get hk]; exact NM.seqB_iff.1 h1⟩
theorem find_lots {l : List Pos} (h : ∀ p ∈ l, lotsB p.lo p.sh = true) (s : EM.Ser) : (0 ≤ (findP l s).lo ∧ (findP l s).lo ≤ 1048576) ∧ 0 ≤ (findP l s).sh ∧ (findP l s).sh ≤ 1048576 := by
  rcases find_cases l s with ⟨h1, _⟩ | ⟨h1, _⟩
  · have := lotsB_iff.1 (h _ h1)
    omega
  · rw [h1]; simp
/-- a leg applied -/
def absI (n : Int) : Int := if n < 0 then -n else n
def legE (kind qty closes : Int) : Int := if ¬ (1 ≤ kind ∧ kind ≤ 3) then 21 else if qty = 0 ∨ qty < -1048576 ∨ 1048576 < qty then 18 else if kind = 3 ∧ (closes < 0 ∨ absI qty < closes) then 18 else 0
def ownS (p : Pos) (qty : Int) : Int := if qty < 0 then p.sh else p.lo
def othS (p : Pos) (qty : Int) : Int := if qty < 0 then p.lo else p.sh
def cloS (kind qty closes : Int) (p : Pos) : Int := if kind = 3 then closes else min (absI qty) (othS p qty)
def chg (p : Pos) (qty c : Int) : Pos := if qty < 0 then ⟨p.ser, p.lo - c, p.sh + (absI qty - c)⟩ else ⟨p.ser, p.lo + (absI qty - c), p.sh - c⟩
def chgE (p : Pos) (qty c : Int) : Int := if othS p qty < c then 30 else if 1048576 < ownS p qty + (absI qty - c) then 18 else 0
def newP (l : List Pos) (kind : Int) (s : EM.Ser) (qty closes : Int) : Pos := chg (findP l s) qty (cloS kind qty closes (findP l s))
def applyE (l : List Pos) (kind : Int) (s : EM.Ser) (qty closes : Int) : Int :=
  if checkE l ≠ 0 then checkE l else if legE kind qty closes ≠ 0 then legE kind qty closes
  else if chgE (findP l s) qty (cloS kind qty closes (findP l s)) ≠ 0 then chgE (findP l s) qty (cloS kind qty closes (findP l s))
  else if 128 < (putsL l (newP l kind s qty closes)).length then 8 else 0
def applyL (l : List Pos) (kind : Int) (s : EM.Ser) (qty closes : Int) : List Pos := if applyE l kind s qty closes = 0 then putsL l (newP l kind s qty closes) else []
end PO

/-
  DERIVED: THE SHELF's CONTRACTS AT THIS DUMP, IN PLAIN WORDS (tools/lay-plain.mjs out of 'YtdhkflmodcgooaaShelfP.lean', which tools/lay-shelf.mjs wrote): THE SAME DECLARATIONS UNDER THE SAME NAMES: 'import', 'namespace', 'open', 'def', 'theorem' AND NOTHING ELSE: no command of the shelf's: FOR A HAND-IN. Each laying: the table of numbers ('.._ren') and one theorem, a field a fact of the dump's own or the kernel's comparison; each contract: ONE APPLICATION.
-/
namespace Go.Proofs
open Go.Shelf
def Try.lays106_ren : Go.Shelf.Ren := ⟨fun | 106 => 82 | 213 => 92 | 265 => 97 | n => n, fun | 9 => 9 | 3 => 3 | n => n, fun | n => n⟩
theorem Try.lays106 : Go.Proofs.Lays.n106 Try.prog Try.lays106_ren := {
  mixed := by kernel_rfl
  f106 := Try.func82.trans (congrArg some (by kernel_rfl))
  f213 := Try.func92.trans (congrArg some (by kernel_rfl))
  f265 := Try.func97.trans (congrArg some (by kernel_rfl))
  t3 := Try.underlying3
  a3 := Try.isAgg3
  z3 := Try.sizeOf3
  v3 := Try.zeroValue3
  t9 := Try.underlying9
  a9 := Try.isAgg9
  z9 := Try.sizeOf9
  v9 := Try.zeroValue9 }
def Try.lays122_ren : Go.Shelf.Ren := ⟨fun | 122 => 83 | 215 => 93 | n => n, fun | 3 => 3 | 4 => 4 | n => n, fun | n => n⟩
theorem Try.lays122 : Go.Proofs.Lays.n122 Try.prog Try.lays122_ren := {
  mixed := by kernel_rfl
  f122 := Try.func83.trans (congrArg some (by kernel_rfl))
  f215 := Try.func93.trans (congrArg some (by kernel_rfl))
  t3 := Try.underlying3
  a3 := Try.isAgg3
  z3 := Try.sizeOf3
  v3 := Try.zeroValue3
  t4 := Try.underlying4
  a4 := Try.isAgg4
  z4 := Try.sizeOf4
  v4 := Try.zeroValue4 }
def Try.sortP_ren : Go.Shelf.Ren := ⟨fun | 6 => 95 | 15 => 100 | 14 => 99 | 28 => 109 | 29 => 110 | 20 => 101 | 21 => 102 | 22 => 103 | 23 => 104 | 24 => 105 | 25 => 106 | 26 => 107 | 27 => 108 | 46 => 111 | 47 => 112 | 48 => 113 | 49 => 114 | 50 => 115 | 57 => 116 | n => n, fun | 22 => 42 | 24 => 46 | 25 => 128 | 3 => 3 | 39 => 134 | 0 => 0 | 53 => 143 | 55 => 145 | 4 => 4 | 46 => 137 | 45 => 136 | 50 => 75 | 5 => 5 | 9 => 9 | 66 => 146 | 70 => 123 | 76 => 151 | 77 => 152 | n => n, fun | n => n⟩
theorem Try.sortP : Go.Proofs.SlLaysF0.n6 Try.prog Try.sortP_ren := {
  mixed := by kernel_rfl
  f6 := ⟨Try.f95.name, by decide, Try.func95.trans (congrArg some (by kernel_rfl))⟩
  f14 := ⟨Try.f99.name, by decide, Try.func99.trans (congrArg some (by kernel_rfl))⟩
  f15 := Try.func100.trans (congrArg some (by kernel_rfl))
  f20 := ⟨Try.f101.name, by decide, Try.func101.trans (congrArg some (by kernel_rfl))⟩
  f21 := ⟨Try.f102.name, by decide, Try.func102.trans (congrArg some (by kernel_rfl))⟩
  f22 := ⟨Try.f103.name, by decide, Try.func103.trans (congrArg some (by kernel_rfl))⟩
  f23 := ⟨Try.f104.name, by decide, Try.func104.trans (congrArg some (by kernel_rfl))⟩
  f24 := ⟨Try.f105.name, by decide, Try.func105.trans (congrArg some (by kernel_rfl))⟩
  f25 := ⟨Try.f106.name, by decide, Try.func106.trans (congrArg some (by kernel_rfl))⟩
  f26 := ⟨Try.f107.name, by decide, Try.func107.trans (congrArg some (by kernel_rfl))⟩
  f27 := ⟨Try.f108.name, by decide, Try.func108.trans (congrArg some (by kernel_rfl))⟩
  f28 := Try.func109.trans (congrArg some (by kernel_rfl))
  f29 := Try.func110.trans (congrArg some (by kernel_rfl))
  f46 := ⟨Try.f111.name, by decide, Try.func111.trans (congrArg some (by kernel_rfl))⟩
  f47 := Try.func112.trans (congrArg some (by kernel_rfl))
  f48 := Try.func113.trans (congrArg some (by kernel_rfl))
  f49 := ⟨Try.f114.name, by decide, Try.func114.trans (congrArg some (by kernel_rfl))⟩
  f50 := ⟨Try.f115.name, by decide, Try.func115.trans (congrArg some (by kernel_rfl))⟩
  f57 := ⟨Try.f116.name, by decide, Try.func116.trans (congrArg some (by kernel_rfl))⟩
  t0 := Try.underlying0
  a0 := Try.isAgg0
  z0 := Try.sizeOf0
  v0 := Try.zeroValue0
  t3 := Try.underlying3
  a3 := Try.isAgg3
  z3 := Try.sizeOf3
  v3 := Try.zeroValue3
  t4 := Try.underlying4
  a4 := Try.isAgg4
  z4 := Try.sizeOf4
  v4 := Try.zeroValue4
  t5 := Try.underlying5
  a5 := Try.isAgg5
  z5 := Try.sizeOf5
  v5 := Try.zeroValue5
  t9 := Try.underlying9
  a9 := Try.isAgg9
  z9 := Try.sizeOf9
  v9 := Try.zeroValue9
  t22 := Try.underlying42
  a22 := Try.isAgg42
  z22 := Try.sizeOf42
  v22 := Try.zeroValue42
  t25 := Try.underlying128
  a25 := Try.isAgg128
  z25 := Try.sizeOf128
  v25 := Try.zeroValue128
  t39 := Try.underlying134
  a39 := Try.isAgg134
  z39 := Try.sizeOf134
  v39 := Try.zeroValue134
  t45 := Try.underlying136
  a45 := Try.isAgg136
  z45 := Try.sizeOf136
  v45 := Try.zeroValue136
  t46 := Try.underlying137
  a46 := Try.isAgg137
  z46 := Try.sizeOf137
  v46 := Try.zeroValue137
  t50 := Try.underlying75
  a50 := Try.isAgg75
  z50 := Try.sizeOf75
  v50 := Try.zeroValue75
  t53 := Try.underlying143
  a53 := Try.isAgg143
  z53 := Try.sizeOf143
  v53 := Try.zeroValue143
  t55 := Try.underlying145
  a55 := Try.isAgg145
  z55 := Try.sizeOf145
  v55 := Try.zeroValue145
  t66 := Try.underlying146
  a66 := Try.isAgg146
  z66 := Try.sizeOf146
  v66 := Try.zeroValue146
  t70 := Try.underlying123
  a70 := Try.isAgg123
  z70 := Try.sizeOf123
  v70 := Try.zeroValue123
  t76 := Try.underlying151
  a76 := Try.isAgg151
  z76 := Try.sizeOf151
  v76 := Try.zeroValue151
  t77 := Try.underlying152
  a77 := Try.isAgg152
  z77 := Try.sizeOf152
  v77 := Try.zeroValue152 }
end Go.Proofs

/- Layer 10: Compare. -/
namespace Go.Proofs.Ytdhkflmodcgooaa
open Go.RowKit Go.Recs Go.Shelf
set_option linter.unusedVariables false

/-- the world has at most new blocks, and draws -/
def GR (w w' : World) : Prop := ∃ q os, w' = Go.Sort.grow (w.drewN q) os
theorem GR.refl (w : World) : GR w w := ⟨0, #[], by simp [Go.Sort.grow, World.drewN]⟩
theorem GR.alloc {a w : World} (h : GR a w) (o : Obj) : GR a (w.alloc o) := by
  obtain ⟨q, os, rfl⟩ := h
  exact ⟨q, os ++ #[o], by rw [Go.Sort.alloc_eq_grow, Go.Sort.grow_grow]⟩
theorem GR.drew {a w : World} (h : GR a w) : GR a w.drew := by
  obtain ⟨q, os, rfl⟩ := h
  exact ⟨q + 1, os, rfl⟩
theorem GR.below {a w : World} (h : GR a w) : Below a.heap.size a w := by
  obtain ⟨q, os, rfl⟩ := h
  refine ⟨rfl, rfl, rfl, ?_, fun k hk => ?_⟩
  · show a.heap.size ≤ (a.heap ++ os).size
    simp
  · show (a.heap ++ os)[k]? = a.heap[k]?
    rw [Array.getElem?_append_left hk]

set_option maxHeartbeats 1000000 in
theorem or_any (A : Option Addr) (l : List Int) (cap : Nat) (w : World) (hI : Ints w A l) :
    Calls Try.prog 81 #[.slice A l.length cap] w fun e w' => e = .returned (.int .i64 (EM.orL l)) ∧ w = w' := by
  have hlen := hI.len
  have HSK := Lib.hid (fun k => @EM.or_skip l k); have HST := Lib.hid (fun k => @EM.or_stop l k)
  have H0 : Hid (EM.orL (l.drop 0) = EM.orL l) := Lib.hid rfl
  have HN : Hid (EM.orL (l.drop l.length) = 0) := Lib.hid (by rw [List.drop_length]; rfl)
  generalize EM.orL l = x at *
  go_enter Try.func81, Try.ntmps81
  go_wp2
  go_loop [5, 8] (fun _ i => ∃ k : Nat, k ≤ l.length ∧ i = .int .i64 k ∧ Hid (EM.orL (l.drop k) = x)) (fun _ i => l.length - (intOf i).toNat)
  case atStart => exact ⟨0, by omega, rfl, H0⟩
  case round =>
    obtain ⟨k, hk, rfl, HE⟩ := hrel
    by_cases hlt : k < l.length
    · obtain ⟨b, off, v, rfl, hb, hcell, HV, v1, v2⟩ := hI.get hlt
      have HVV : Hid (l[k] = v) := Lib.hid (by have := HV.out; simpa [List.getD, hlt] using this)
      by_cases hv : v = 0
      · subst hv
        have HE2 : Hid (EM.orL (l.drop (k + 1)) = x) := Lib.hid (by rw [← HSK.out k hlt HVV.out]; exact HE.out)
        go_wp2
        go_round
        case rel => exact ⟨k + 1, by omega, by go_num, HE2⟩
        case measure => simp [intOf]; omega
      · have HX : Hid (x = v) := Lib.hid (by rw [← HE.out, HST.out k hlt (by rw [HVV.out]; exact hv), HVV.out])
        have hd : (v != 0) = true := by simpa using hv
        go_wp2
        go_ret
        exact ⟨by rw [HX.out]; rfl, rfl⟩
    · obtain rfl : k = l.length := by omega
      have HX : Hid (x = 0) := Lib.hid (HE.out.symm.trans HN.out)
      go_wp2
      go_ret
      exact ⟨by rw [HX.out]; rfl, rfl⟩
theorem scmp_any (a b : ByteArray) (w : World) : Calls Try.prog 82 #[.string a, .string b] w fun e w' => e = .returned (.int .i64 (Lib.compareBytes a.data.toList b.data.toList)) ∧ w' = w := Any.strings_Compare Try.lays106 a b w
theorem icmp_any (x y : Int) (w : World) : Calls Try.prog 83 #[.int .i64 x, .int .i64 y] w fun e w' => e = .returned (.int .i64 (Lib.compareInt x y)) ∧ w' = w := Any.cmp_Compare_int Try.lays122 x y w
theorem cb_range (a b : List UInt8) : -1 ≤ Lib.compareBytes a b ∧ Lib.compareBytes a b ≤ 1 := by rw [EM.cb_less]; split <;> (try split) <;> omega
theorem ci_range (a b : Int) : -1 ≤ Lib.compareInt a b ∧ Lib.compareInt a b ≤ 1 := by unfold Lib.compareInt; split <;> (try split) <;> omega
theorem or4_any (a b : EM.Ser) (ww : World) :
    Calls Try.prog 81 #[.slice (some ⟨ww.heap.size, 0, none⟩) 4 4] (ww.alloc (.cells #[.int .i64 (Lib.compareBytes a.prod.data.toList b.prod.data.toList), .int .i64 (Lib.compareInt a.expiry b.expiry), .int .i64 (Lib.compareInt a.kind b.kind), .int .i64 (Lib.compareInt a.strike b.strike)] 3)).drew
      fun e w' => e = .returned (.int .i64 (EM.cmp a b)) ∧ (ww.alloc (.cells #[.int .i64 (Lib.compareBytes a.prod.data.toList b.prod.data.toList), .int .i64 (Lib.compareInt a.expiry b.expiry), .int .i64 (Lib.compareInt a.kind b.kind), .int .i64 (Lib.compareInt a.strike b.strike)] 3)).drew = w' := by
  have hI : Ints (ww.alloc (.cells ((EM.four a b).map (Value.int .i64)).toArray 3)) (some ⟨ww.heap.size, 0, none⟩) (EM.four a b) := by
    refine ⟨by show 4 ≤ _; decide, ?_, .inr ⟨_, _, rfl, by simp, fun i hi => ?_⟩⟩
    · intro n hn
      have r1 := cb_range a.prod.data.toList b.prod.data.toList
      have r2 := ci_range a.expiry b.expiry
      have r3 := ci_range a.kind b.kind
      have r4 := ci_range a.strike b.strike
      simp only [EM.four, List.mem_cons, List.not_mem_nil, or_false] at hn
      rcases hn with rfl | rfl | rfl | rfl <;> omega
    · rw [World.cell?_alloc_at _ _ _ _ rfl]
      simp [List.getD, hi]
  have := or_any _ (EM.four a b) 4 _ hI.drew
  rw [EM.cmp_or] at this
  exact this

set_option maxHeartbeats 4000000 in
theorem ecmp_any (a b : EM.Ser) (w : World) : Calls Try.prog 47 #[serA a, serA b] w fun e w' => e = .returned (.int .i64 (EM.cmp a b)) ∧ GR w w' := by
  have HG0 := Lib.hid (((GR.refl w).alloc (.cells #[.string a.prod, .int .i64 a.kind, .int .i64 a.expiry, .int .i64 a.strike] 44)).alloc (.cells #[.string b.prod, .int .i64 b.kind, .int .i64 b.expiry, .int .i64 b.strike] 44))
  have hgd := ser_guard
  by_cases hab : a = b
  · subst hab
    rw [EM.cmp_self]
    have E1 : ∀ ww, (Op.equalIn 10000 44 (serA a) (serA a)).run Try.prog ww = .ok true ww := fun ww => by rw [ser_in, seq_iff.2 rfl]
    go_enter Try.func47, Try.ntmps47
    go_wp2_with fail
    go_ret
    exact ⟨rfl, HG0.out⟩
  · have E1 : ∀ ww, (Op.equalIn 10000 44 (serA a) (serA b)).run Try.prog ww = .ok false ww := fun ww => by rw [ser_in, seq_false.2 hab]
    have HA0 := Lib.hid ((SBox.new w a).alloc (.cells #[.string b.prod, .int .i64 b.kind, .int .i64 b.expiry, .int .i64 b.strike] 44))
    have HB0 := Lib.hid (SBox.new (w.alloc (.cells #[.string a.prod, .int .i64 a.kind, .int .i64 a.expiry, .int .i64 a.strike] 44)) b)
    have HSZ : Hid ((w.alloc (.cells #[.string a.prod, .int .i64 a.kind, .int .i64 a.expiry, .int .i64 a.strike] 44)).heap.size = w.heap.size + 1) := Lib.hid (by simp)
    rw [HSZ.out] at HB0
    have CO := Lib.hid (fun ww => or4_any a b ww)
    have CS := Lib.hid (fun ww => scmp_any a.prod b.prod ww)
    have C1 := Lib.hid (fun ww => icmp_any a.expiry b.expiry ww); have C2 := Lib.hid (fun ww => icmp_any a.kind b.kind ww); have C3 := Lib.hid (fun ww => icmp_any a.strike b.strike ww)
    generalize EM.cmp a b = r at *
    generalize Lib.compareBytes a.prod.data.toList b.prod.data.toList = r0 at *
    generalize Lib.compareInt a.expiry b.expiry = r1 at *
    generalize Lib.compareInt a.kind b.kind = r2 at *
    generalize Lib.compareInt a.strike b.strike = r3 at *
    clear hab HSZ
    go_enter Try.func47, Try.ntmps47
    go_wp2_with fail
    generalize (w.alloc (.cells #[.string a.prod, .int .i64 a.kind, .int .i64 a.expiry, .int .i64 a.strike] 44)).alloc (.cells #[.string b.prod, .int .i64 b.kind, .int .i64 b.expiry, .int .i64 b.strike] 44) = w0 at *
    have HSF : Hid (∀ ww, Below w0.heap.size w0 ww → (ww.cell? ⟨w.heap.size, 0, none⟩ = some (.string a.prod) ∧ ww.cell? ⟨w.heap.size, 1, none⟩ = some (.int .i64 a.kind) ∧ ww.cell? ⟨w.heap.size, 2, none⟩ = some (.int .i64 a.expiry) ∧ ww.cell? ⟨w.heap.size, 3, none⟩ = some (.int .i64 a.strike)) ∧
      (ww.cell? ⟨w.heap.size + 1, 0, none⟩ = some (.string b.prod) ∧ ww.cell? ⟨w.heap.size + 1, 1, none⟩ = some (.int .i64 b.kind) ∧ ww.cell? ⟨w.heap.size + 1, 2, none⟩ = some (.int .i64 b.expiry) ∧ ww.cell? ⟨w.heap.size + 1, 3, none⟩ = some (.int .i64 b.strike))) := Lib.hid (fun ww h => ⟨(HA0.out.below h HA0.out.lt).cells, (HB0.out.below h HB0.out.lt).cells⟩)
    have HBw : Hid (Below w0.heap.size w0 w0.drew) := Lib.hid (Below.refl _ _).drew
    clear HA0 HB0
    go_region_held3 (fun ww => (ww.cell? ⟨w.heap.size, 0, none⟩ = some (.string a.prod) ∧ ww.cell? ⟨w.heap.size, 1, none⟩ = some (.int .i64 a.kind) ∧ ww.cell? ⟨w.heap.size, 2, none⟩ = some (.int .i64 a.expiry) ∧ ww.cell? ⟨w.heap.size, 3, none⟩ = some (.int .i64 a.strike)) ∧
      (ww.cell? ⟨w.heap.size + 1, 0, none⟩ = some (.string b.prod) ∧ ww.cell? ⟨w.heap.size + 1, 1, none⟩ = some (.int .i64 b.kind) ∧ ww.cell? ⟨w.heap.size + 1, 2, none⟩ = some (.int .i64 b.expiry) ∧ ww.cell? ⟨w.heap.size + 1, 3, none⟩ = some (.int .i64 b.strike)))
      (first | exact HSF.out _ HBw.out | exact HSF.out _ (HBw.out.alloc HBw.out.size _))
      (first
        | (go_at_call 82; refine (CS.out _).mono ?_; rintro e w6 ⟨rfl, rfl⟩)
        | (go_at_call 83; with_reducible refine (C1.out _).mono ?_; rintro e w6 ⟨rfl, rfl⟩)
        | (go_at_call 83; with_reducible refine (C2.out _).mono ?_; rintro e w6 ⟨rfl, rfl⟩)
        | (go_at_call 83; with_reducible refine (C3.out _).mono ?_; rintro e w6 ⟨rfl, rfl⟩)
        | (go_at_call 81; refine (CO.out _).mono ?_; rintro e w6 ⟨rfl, rfl⟩))
    all_goals (
      clear HSF CO CS C1 C2 C3
      go_wp2_with fail
      go_ret
      exact ⟨rfl, by first | exact HG0.out.drew.alloc _ | exact (HG0.out.alloc _).drew⟩)
end Go.Proofs.Ytdhkflmodcgooaa

/- Contracts of layer 15: what may be; Check. -/
namespace Go.Proofs.Ytdhkflmodcgooaa
open Go.RowKit Go.Recs
set_option linter.unusedVariables false
set_option linter.unusedSimpArgs false
set_option maxHeartbeats 1000000 in
theorem pwithin_any (n lo hi : Int) (w : World) : Calls Try.prog 51 #[.int .i64 n, .int .i64 lo, .int .i64 hi] w fun e w' => e = .returned (.bool (decide (lo ≤ n) && decide (n ≤ hi))) ∧ w = w' := by
  by_cases h1 : lo ≤ n <;> by_cases h2 : n ≤ hi
  all_goals (
    simp only [h1, h2, decide_true, decide_false, Bool.and_true, Bool.and_false, Bool.true_and, Bool.false_and]
    go_enter Try.func51, Try.ntmps51
    go_wp2_with fail
    go_ret
    exact ⟨rfl, rfl⟩)
set_option maxHeartbeats 1000000 in
theorem plots15_any (lo sh : Int) (w : World) : Calls Try.prog 48 #[.int .i64 lo, .int .i64 sh] w fun e w' => e = .returned (.bool (PO.lotsB lo sh)) ∧ w = w' := by
  have C1 := Lib.hid (fun n ww => pwithin_any n 0 1048576 ww)
  unfold PO.lotsB PO.okL
  by_cases h1 : 0 ≤ lo ∧ lo ≤ 1048576
  · have e1 : (decide ((0 : Int) ≤ lo) && decide (lo ≤ 1048576)) = true := by simp; omega
    by_cases h2 : 0 ≤ sh ∧ sh ≤ 1048576
    · have e2 : (decide ((0 : Int) ≤ sh) && decide (sh ≤ 1048576)) = true := by simp; omega
      have C2 := Lib.hid (fun ww => C1.out lo ww); have C3 := Lib.hid (fun ww => C1.out sh ww)
      rw [e1] at C2; rw [e2] at C3
      rw [e1, e2]
      clear e1 e2 C1 h1 h2
      by_cases h3 : 0 < lo
      · simp only [h3, decide_true, Bool.true_or, Bool.and_true]
        go_enter Try.func48, Try.ntmps48
        go_wp2_with fail
        refine (C2.out _).mono ?_
        rintro e w1 ⟨rfl, rfl⟩
        go_wp2_with fail
        refine (C3.out _).mono ?_
        rintro e w1 ⟨rfl, rfl⟩
        go_wp2_with fail
        go_ret
        exact ⟨rfl, rfl⟩
      · by_cases h4 : 0 < sh
        all_goals (
          simp only [h3, h4, decide_true, decide_false, Bool.false_or, Bool.and_true, Bool.and_false]
          have HD3 := Lib.hid h3; have HD4 := Lib.hid h4
          go_enter Try.func48, Try.ntmps48
          go_wp2_with fail
          refine (C2.out _).mono ?_
          rintro e w1 ⟨rfl, rfl⟩
          go_wp2_with fail
          refine (C3.out _).mono ?_
          rintro e w1 ⟨rfl, rfl⟩
          go_wp2_with fail
          go_ret
          exact ⟨by first | rfl | (simp [HD3.out, HD4.out]), rfl⟩)
    · have e2 : (decide ((0 : Int) ≤ sh) && decide (sh ≤ 1048576)) = false := by simp; omega
      have C2 := Lib.hid (fun ww => C1.out lo ww); have C3 := Lib.hid (fun ww => C1.out sh ww)
      rw [e1] at C2; rw [e2] at C3
      rw [e1, e2]
      clear e1 e2 C1 h1 h2
      simp only [Bool.and_false, Bool.false_and]
      go_enter Try.func48, Try.ntmps48
      go_wp2_with fail
      refine (C2.out _).mono ?_
      rintro e w1 ⟨rfl, rfl⟩
      go_wp2_with fail
      refine (C3.out _).mono ?_
      rintro e w1 ⟨rfl, rfl⟩
      go_wp2_with fail
      go_ret
      exact ⟨rfl, rfl⟩
  · have e1 : (decide ((0 : Int) ≤ lo) && decide (lo ≤ 1048576)) = false := by simp; omega
    have C2 := Lib.hid (fun ww => C1.out lo ww)
    rw [e1] at C2
    rw [e1]
    clear e1 C1 h1
    simp only [Bool.false_and]
    go_enter Try.func48, Try.ntmps48
    go_wp2_with fail
    refine (C2.out _).mono ?_
    rintro e w1 ⟨rfl, rfl⟩
    go_wp2_with fail
    go_ret
    exact ⟨rfl, rfl⟩
set_option maxHeartbeats 1000000 in
theorem pkind15_any (n : Int) (w : World) : Calls Try.prog 85 #[.int .i64 n] w fun e w' => e = .returned (.bool (decide (1 ≤ n) && decide (n ≤ 3))) ∧ w = w' := by
  by_cases h1 : n = 1
  · subst h1
    go_enter Try.func85, Try.ntmps85
    go_wp2_with fail
    go_ret
    exact ⟨rfl, rfl⟩
  by_cases h2 : n = 2
  · subst h2
    go_enter Try.func85, Try.ntmps85
    go_wp2_with fail
    go_ret
    exact ⟨rfl, rfl⟩
  by_cases h3 : n = 3
  · subst h3
    go_enter Try.func85, Try.ntmps85
    go_wp2_with fail
    go_ret
    exact ⟨rfl, rfl⟩
  have e : (decide (1 ≤ n) && decide (n ≤ 3)) = false := by simp; omega
  have q1 : (n == 1) = false := beq_f h1
  have q2 : (n == 2) = false := beq_f h2
  have q3 : (n == 3) = false := beq_f h3
  rw [e]
  clear e
  go_enter Try.func85, Try.ntmps85
  go_wp2_with fail
  go_ret
  exact ⟨rfl, rfl⟩
set_option maxHeartbeats 1000000 in
theorem psize15_any (n : Int) (h1 : -1048576 ≤ n) (h2 : n ≤ 1048576) (w : World) : Calls Try.prog 86 #[.int .i64 n] w fun e w' => e = .returned (.int .i64 (PO.absI n)) ∧ w = w' := by
  have HA : Hid (PO.absI n = max n (-n)) := Lib.hid (by unfold PO.absI; split <;> omega)
  rw [HA.out]
  go_enter Try.func86, Try.ntmps86
  go_wp2_with fail
  go_ret
  exact ⟨rfl, rfl⟩
end Go.Proofs.Ytdhkflmodcgooaa

/- Contracts of layer 15: Check. -/
namespace Go.Proofs.Ytdhkflmodcgooaa
open Go.RowKit Go.Recs
set_option linter.unusedVariables false
set_option linter.unusedSimpArgs false
theorem eAt_bad {l : List PO.Pos} {k : Nat} (hk : 0 < k) (h : ¬ EM.cmp (PO.pAt l (k - 1)).ser (PO.pAt l k).ser < 0) : PO.eAt l k = 19 := by unfold PO.eAt; rw [if_pos ⟨hk, h⟩]
theorem eAt_lots {l : List PO.Pos} {k : Nat} (h0 : 0 < k → EM.cmp (PO.pAt l (k - 1)).ser (PO.pAt l k).ser < 0) : PO.eAt l k = if PO.lotsB (PO.pAt l k).lo (PO.pAt l k).sh = true then 0 else 18 := by
  unfold PO.eAt
  rw [if_neg (fun h => h.2 (h0 h.1))]
set_option maxHeartbeats 4000000 in
set_option maxRecDepth 100000 in
theorem pcheck15_any (A : Option Addr) (l : List PO.Pos) (n cap : Nat) (hn : n = l.length) (w : World) (hI : Poss w A l) :
    Calls Try.prog 17 #[.slice A n cap] w fun e w' => e = .returned (.int .i64 (PO.checkE l)) ∧ Below w.heap.size w w' := by
  subst hn
  have hlen := hI.len
  have HI := Lib.hid hI
  have KL := Lib.hid (@PO.check_long l); have KO := Lib.hid (@PO.check_ok l); have KA := Lib.hid (fun h k => @PO.check_at l h k)
  have C1 := Lib.hid (fun a b ww => ecmp_any a b ww); have C2 := Lib.hid (fun a b ww => plots15_any a b ww)
  generalize PO.checkE l = r at *
  clear hI
  by_cases hl : 128 < l.length
  · have HR := Lib.hid (KL.out hl)
    have hl' : (128 : Int) < (l.length : Int) := by omega
    clear hl
    go_enter Try.func17, Try.ntmps17
    go_wp2_with fail
    go_ret
    exact ⟨by rw [HR.out] <;> rfl, Below.refl _ _⟩
  have HL := Lib.hid hl
  have hl' : ¬ (128 : Int) < (l.length : Int) := by omega
  have hl2 : l.length ≤ 128 := by omega
  clear hl
  go_enter Try.func17, Try.ntmps17
  go_wp2_with fail
  go_loopw [3, 4, 10] (fun _ _ i wr => ∃ k : Nat, k ≤ l.length ∧ i = .int .i64 (k : Int) ∧ Hid (∀ j, j < k → PO.eAt l j = 0) ∧ Hid (Below w.heap.size w wr)) (fun _ _ i _ => l.length - (intOf i).toNat)
  case atStart => exact ⟨0, by omega, rfl, Lib.hid (fun j h => by omega), Lib.hid (Below.refl _ _)⟩
  case round =>
    obtain ⟨k, hk, rfl, HE, HB⟩ := hrel
    by_cases hlt : k < l.length
    · obtain ⟨b, off, x, rfl, hb, HV, q, d0, d1, d2, d3, d4, d5⟩ := poss_get (HI.out.below HB.out) hlt
      have HBx := Lib.hid (below_al HB.out (.cells (posC x) 46))
      have HX := Lib.hid (CB.new wr 46 (posC x))
      have C3 := Lib.hid (fun ww => C2.out x.lo x.sh ww)
      clear q
      rcases Nat.eq_zero_or_pos k with h0 | h0
      · have hk1 : decide (0 < k) = false := by simp [h0]
        have hk2 : ¬ (0 : Int) < (k : Int) := by omega
        have HEL : Hid (PO.eAt l k = if PO.lotsB x.lo x.sh = true then 0 else 18) := Lib.hid (by rw [eAt_lots (fun h => by omega), HV.out])
        have hk3 : ((k : Int) == 0) = true := beq_t (by omega)
        have HK0 := Lib.hid h0
        clear h0
        generalize PO.lotsB x.lo x.sh = bl at *
        cases bl
        · have HR := Lib.hid (KA.out HL.out k hlt HE.out (by rw [HEL.out]; simp))
          have HR2 : Hid (r = 18) := Lib.hid (by rw [HR.out, HEL.out]; rfl)
          go_wp2_with fail
          go_quiet (fail)
          go_wp2_with fail
          refine (C3.out _).mono ?_
          rintro e w2 ⟨rfl, rfl⟩
          go_wp2_with fail
          go_ret
          exact ⟨by rw [HR2.out] <;> rfl, by first | exact below_drewN HBx.out _ | exact HBx.out⟩
        · have HE2 : Hid (∀ j, j < k + 1 → PO.eAt l j = 0) := Lib.hid (fun j hj => by
            rcases Nat.lt_or_ge j k with g | g
            · exact HE.out j g
            · obtain rfl : j = k := by omega
              rw [HEL.out]; rfl)
          go_wp2_with fail
          go_quiet (fail)
          go_wp2_with fail
          refine (C3.out _).mono ?_
          rintro e w2 ⟨rfl, rfl⟩
          go_wp2_with fail
          go_roundw
          case rel => exact ⟨k + 1, by omega, by go_num, HE2, Lib.hid (by first | exact below_drewN HBx.out _ | exact HBx.out)⟩
          case measure => simp [intOf]; omega
      · obtain ⟨j, rfl⟩ : ∃ j, k = j + 1 := ⟨k - 1, by omega⟩
        obtain ⟨b', off', y, he, hb', HVy, qy, g0, g1, g2, g3, g4, g5⟩ := poss_get (HI.out.below HB.out) (k := j) (by omega)
        injection he with he
        injection he with e1 e2
        subst e1 e2
        have HBb : Hid (b < wr.heap.size) := Lib.hid hb
        have C4 := Lib.hid (fun ww => C1.out y.ser x.ser ww)
        have HSF : Hid (∀ ww, Below (wr.alloc (.cells (posC x) 46)).heap.size (wr.alloc (.cells (posC x) 46)) ww → ((ww.cell? ⟨b, off + j * 6, none⟩ = some (.string y.ser.prod) ∧ ww.cell? ⟨b, off + j * 6 + 1, none⟩ = some (.int .i64 y.ser.kind) ∧ ww.cell? ⟨b, off + j * 6 + 2, none⟩ = some (.int .i64 y.ser.expiry) ∧ ww.cell? ⟨b, off + j * 6 + 3, none⟩ = some (.int .i64 y.ser.strike)) ∧
            (ww.cell? ⟨wr.heap.size, 0, none⟩ = some (.string x.ser.prod) ∧ ww.cell? ⟨wr.heap.size, 1, none⟩ = some (.int .i64 x.ser.kind) ∧ ww.cell? ⟨wr.heap.size, 2, none⟩ = some (.int .i64 x.ser.expiry) ∧ ww.cell? ⟨wr.heap.size, 3, none⟩ = some (.int .i64 x.ser.strike)) ∧ (ww.cell? ⟨wr.heap.size, 4, none⟩ = some (.int .i64 x.lo) ∧ ww.cell? ⟨wr.heap.size, 5, none⟩ = some (.int .i64 x.sh)))) := Lib.hid (fun ww h => by
          have hc := fun i => (HX.out.below h HX.out.lt).cell i
          have hd := fun o => (h.cell (p := ⟨b, o, none⟩) (by have := HBb.out; simp; omega)).trans ((below_al (Below.refl wr.heap.size wr) (.cells (posC x) 46)).cell (p := ⟨b, o, none⟩) HBb.out)
          exact ⟨⟨(hd _).trans g0, (hd _).trans g1, (hd _).trans g2, (hd _).trans g3⟩, ⟨hc 0, hc 1, hc 2, hc 3⟩, hc 4, hc 5⟩)
        have hwj : IntKind.i64.wrap ((j : Int) + 1 - 1) = (j : Int) := by rw [show (j : Int) + 1 - 1 = (j : Int) by omega]; exact IntWalk.i64_in _ (by omega)
        have hwj2 : (0 : Int) < (j : Int) + 1 := by omega
        have hjl : j < l.length := by omega
        have hwj3 : IntKind.i64.wrap (j : Int) = (j : Int) := IntWalk.i64_in _ (by omega)
        have hj0 : (0 : Int) ≤ (j : Int) := by omega
        have hj1 : (j : Int) < (l.length : Int) := by omega
        have hj2 : (j : Int) ≤ (l.length : Int) := by omega
        clear qy h0 hb'
        by_cases hc : EM.cmp y.ser x.ser < 0
        · have HEL : Hid (PO.eAt l (j + 1) = if PO.lotsB x.lo x.sh = true then 0 else 18) := Lib.hid (by rw [eAt_lots (fun _ => by rw [show j + 1 - 1 = j from rfl, HVy.out, HV.out]; exact hc), HV.out])
          have hcm : ¬ 0 ≤ EM.cmp y.ser x.ser := by omega
          generalize PO.lotsB x.lo x.sh = bl at *
          generalize EM.cmp y.ser x.ser = cm at *
          go_wp2_with fail
          generalize wr.alloc (.cells #[.string x.ser.prod, .int .i64 x.ser.kind, .int .i64 x.ser.expiry, .int .i64 x.ser.strike, .int .i64 x.lo, .int .i64 x.sh] 46) = w2 at *
          have HBw : Hid (Below w2.heap.size w2 w2.drew) := Lib.hid (Below.refl _ _).drew
          go_region_held3 (fun ww => ((ww.cell? ⟨b, off + j * 6, none⟩ = some (.string y.ser.prod) ∧ ww.cell? ⟨b, off + j * 6 + 1, none⟩ = some (.int .i64 y.ser.kind) ∧ ww.cell? ⟨b, off + j * 6 + 2, none⟩ = some (.int .i64 y.ser.expiry) ∧ ww.cell? ⟨b, off + j * 6 + 3, none⟩ = some (.int .i64 y.ser.strike)) ∧
            (ww.cell? ⟨wr.heap.size, 0, none⟩ = some (.string x.ser.prod) ∧ ww.cell? ⟨wr.heap.size, 1, none⟩ = some (.int .i64 x.ser.kind) ∧ ww.cell? ⟨wr.heap.size, 2, none⟩ = some (.int .i64 x.ser.expiry) ∧ ww.cell? ⟨wr.heap.size, 3, none⟩ = some (.int .i64 x.ser.strike)) ∧ (ww.cell? ⟨wr.heap.size, 4, none⟩ = some (.int .i64 x.lo) ∧ ww.cell? ⟨wr.heap.size, 5, none⟩ = some (.int .i64 x.sh))))
            (with_reducible exact HSF.out _ HBw.out)
            ((go_at_call 47; refine (C4.out _).mono ?_; rintro e w5 ⟨rfl, b5⟩; replace HBw := Lib.hid (HBw.out.trans (b5.below.mono HBw.out.size)); clear b5))
          all_goals (
            have HBF := Lib.hid (HBx.out.trans (HBw.out.mono HBx.out.size))
            have hcl := HSF.out _ HBw.out
            obtain ⟨_, _, x4, x5⟩ := hcl
            clear HSF HBw d0 d1 d2 d3 d4 d5 g0 g1 g2 g3 g4 g5
            cases bl
            · have HR := Lib.hid (KA.out HL.out (j + 1) hlt HE.out (by rw [HEL.out]; simp))
              have HR2 : Hid (r = 18) := Lib.hid (by rw [HR.out, HEL.out]; rfl)
              go_wp2_with fail
              refine (C3.out _).mono ?_
              rintro e w6 ⟨rfl, rfl⟩
              go_wp2_with fail
              go_ret
              exact ⟨by rw [HR2.out] <;> rfl, HBF.out⟩
            · have HE2 : Hid (∀ i, i < j + 1 + 1 → PO.eAt l i = 0) := Lib.hid (fun i hi => by
                rcases Nat.lt_or_ge i (j + 1) with g | g
                · exact HE.out i g
                · obtain rfl : i = j + 1 := by omega
                  rw [HEL.out]; rfl)
              go_wp2_with fail
              refine (C3.out _).mono ?_
              rintro e w6 ⟨rfl, rfl⟩
              go_wp2_with fail
              go_roundw
              case rel => exact ⟨j + 1 + 1, by omega, by go_num, HE2, HBF⟩
              case measure => simp [intOf]; omega)
        · have HR := Lib.hid (KA.out HL.out (j + 1) hlt HE.out (by rw [eAt_bad (by omega) (by rw [show j + 1 - 1 = j from rfl, HVy.out, HV.out]; exact hc)]; simp))
          have HR2 : Hid (r = 19) := Lib.hid (by rw [HR.out, eAt_bad (by omega) (by rw [show j + 1 - 1 = j from rfl, HVy.out, HV.out]; exact hc)])
          have hcm : 0 ≤ EM.cmp y.ser x.ser := by omega
          generalize EM.cmp y.ser x.ser = cm at *
          go_wp2_with fail
          generalize wr.alloc (.cells #[.string x.ser.prod, .int .i64 x.ser.kind, .int .i64 x.ser.expiry, .int .i64 x.ser.strike, .int .i64 x.lo, .int .i64 x.sh] 46) = w2 at *
          have HBw : Hid (Below w2.heap.size w2 w2.drew) := Lib.hid (Below.refl _ _).drew
          go_region_held3 (fun ww => ((ww.cell? ⟨b, off + j * 6, none⟩ = some (.string y.ser.prod) ∧ ww.cell? ⟨b, off + j * 6 + 1, none⟩ = some (.int .i64 y.ser.kind) ∧ ww.cell? ⟨b, off + j * 6 + 2, none⟩ = some (.int .i64 y.ser.expiry) ∧ ww.cell? ⟨b, off + j * 6 + 3, none⟩ = some (.int .i64 y.ser.strike)) ∧
            (ww.cell? ⟨wr.heap.size, 0, none⟩ = some (.string x.ser.prod) ∧ ww.cell? ⟨wr.heap.size, 1, none⟩ = some (.int .i64 x.ser.kind) ∧ ww.cell? ⟨wr.heap.size, 2, none⟩ = some (.int .i64 x.ser.expiry) ∧ ww.cell? ⟨wr.heap.size, 3, none⟩ = some (.int .i64 x.ser.strike)) ∧ (ww.cell? ⟨wr.heap.size, 4, none⟩ = some (.int .i64 x.lo) ∧ ww.cell? ⟨wr.heap.size, 5, none⟩ = some (.int .i64 x.sh))))
            (with_reducible exact HSF.out _ HBw.out)
            ((go_at_call 47; refine (C4.out _).mono ?_; rintro e w5 ⟨rfl, b5⟩; replace HBw := Lib.hid (HBw.out.trans (b5.below.mono HBw.out.size)); clear b5))
          all_goals (
            have HBF := Lib.hid (HBx.out.trans (HBw.out.mono HBx.out.size))
            clear HSF HBw d0 d1 d2 d3 d4 d5 g0 g1 g2 g3 g4 g5
            go_wp2_with fail
            go_ret
            exact ⟨by rw [HR2.out] <;> rfl, HBF.out⟩)
    · obtain rfl : k = l.length := by omega
      have HR := Lib.hid (KO.out HL.out HE.out)
      go_wp2_with fail
      go_ret
      exact ⟨by rw [HR.out] <;> rfl, HB.out⟩
end Go.Proofs.Ytdhkflmodcgooaa

/- Contracts of layer 15: positions by series: put, find. -/
namespace PO
def putM (l : List Pos) (x : Pos) : List Pos := if x.lo = 0 ∧ x.sh = 0 then others l x.ser else x :: others l x.ser
end PO
namespace Go.Recs
open Go.Maps Go.RowKit
theorem ownsM_isMap {P : Program} {w : World} {k : TypeId} {R : Value → Option (DataW Unit × List MemPlace)} {b n : Nat} {D : DataW Unit} (h : w.ownsMap P k R b n D) : IsMap D := by
  obtain ⟨es, clock, _, _, _, rfl⟩ := h
  exact ⟨_, rfl⟩
theorem below_turned {w w' : World} {b B : Nat} (h : w.grownBy w' (some b)) (hB : B ≤ b) (hw : B ≤ w.heap.size) : Below B w w' :=
  (Below.refl B w).grown h hw (fun j e => by cases e; exact hB)
/-- 'm[k]' at whatever elements -/
theorem wpList_lookR {H : Type} {P : Program} (w : World) {ops : Array Oper} {rest : List Oper} {o : Oper} {a : Act} {Q : Exit → Act → World → Prop}
    (hg : o.guard = none) (m x : Operand) (t : TypeId) (hop : o.op = Op.lookup t m x false)
    (k e : TypeId) (K : Keyed P k) (ht : P.underlying t = some (.map k e)) (R : Value → Option (DataW H × List MemPlace)) (z : Value) (hz : (zeroValue e).run P w = .ok z w) (zd : DataW H) (zp : List MemPlace) (hzd : R z = some (zd, zp)) (b n : Nat) (D : DataW H)
    (hm : a.eval m = .map (some b)) (hown : w.ownsMap P k R b n D) (key : Value) (kl : Lit) (hx : a.eval x = key) (hkey : keyOf P k key = some kl)
    (hK : ∀ (v : Value) (ps : List MemPlace), R v = some (D.atKey kl zd, ps) → wpList P ops Q rest (a.put o.dst v) w) :
    wpList P ops Q (o :: rest) a w := by
  refine wpList_plain hg fun K' hK' => ?_
  obtain ⟨v, ps, hrun, hv⟩ := hown.lookup K ht hz hzd hkey
  unfold Oper.wp
  simp [execOp, hop, hm, hx, hrun, Result.andThen]
  exact hK' _ _ (hK v ps hv)
end Go.Recs
namespace Go.Proofs.Ytdhkflmodcgooaa
open Go.RowKit Go.Recs Go.Maps
set_option linter.unusedVariables false
set_option linter.unusedSimpArgs false
theorem others_keys {l : List PO.Pos} {s : EM.Ser} (hl : ∀ p ∈ l, posQ p) (hs : serQ s) : ∀ y ∈ l, (!NM.seqB y.ser s) = true ↔ pkey y ≠ skey s := by
  intro y hy
  constructor
  · intro h e
    have e2 := skey_inj (hl y hy).1 hs e
    rw [NM.seqB_iff.2 e2] at h
    cases h
  · intro h
    cases e : NM.seqB y.ser s
    · rfl
    · exact absurd (by rw [← NM.seqB_iff.1 e]; rfl) h
set_option maxHeartbeats 4000000 in
set_option maxRecDepth 100000 in
theorem pput_any (x : PO.Pos) (hx : posQ x) (b nn : Nat) (D : DataW Unit) (ps : List PO.Pos) (hS : PSays D ps) (hq : ∀ p ∈ ps, posQ p) (hnn : nn < 1000000) (w : World) (hown : w.ownsMap Try.prog 44 posElem b nn D) :
    Calls Try.prog 58 #[.map (some b), posA x] w fun e w' => e = .returned (.tuple #[]) ∧ (∃ D', w'.ownsMap Try.prog 44 posElem b (nn + 1) D' ∧ PSays D' (PO.putM ps x)) ∧ ∀ B, B ≤ b → Below B w w' := by
  have HK := Lib.hid (skey_is hx.1)
  have HO := Lib.hid (hown.alloc (.cells (posC x) 46))
  have HZ := Lib.hid hown.lt
  have HSD : Hid (PSays (D.del (skey x.ser)) (PO.others ps x.ser)) := Lib.hid (hS.del (others_keys hq hx.1))
  have HSP : Hid (PSays (D.put (skey x.ser) (posD x)) (x :: PO.others ps x.ser)) := Lib.hid (MG.Says.put hS (ownsM_isMap hown) (a := x) (skey_lit hx.1) (others_keys hq hx.1))
  have HPZ : Hid (x.lo = 0 ∧ x.sh = 0 → PO.putM ps x = PO.others ps x.ser) := Lib.hid (fun h => by unfold PO.putM; rw [if_pos h])
  have HPN : Hid (¬ (x.lo = 0 ∧ x.sh = 0) → PO.putM ps x = x :: PO.others ps x.ser) := Lib.hid (fun h => by unfold PO.putM; rw [if_neg h])
  have HBL : Hid (∀ B w1, B ≤ b → (w.alloc (.cells (posC x) 46)).grownBy w1 (some b) → Below B w w1) := Lib.hid (fun B w1 hB h => by
    have h0 : B ≤ w.heap.size := by have := HZ.out; omega
    exact ((Below.refl B w).alloc h0 _).trans (below_turned h hB (by simp; omega)))
  clear hS hq hown hx
  by_cases h1 : x.lo = 0
  · have c1 : (x.lo == 0) = true := beq_t h1
    by_cases h2 : x.sh = 0
    · have c2 : (x.sh == 0) = true := beq_t h2
      have HP := Lib.hid (HPZ.out ⟨h1, h2⟩)
      clear h1 h2 HPZ HPN HSP
      go_enter Try.func58, Try.ntmps58
      go_wp2_with (at_delete; refine wpList_delete_own _ rfl _ _ 97 44 rfl 46 (Keyed.of_law ser_law) bySer_under _ b nn _ rfl HO.out _ _ rfl HK.out ?_; intro w1 hown1 hturn1)
      have HO1 := Lib.hid (hown1.mono (Nat.le_succ nn))
      have HT1 := Lib.hid hturn1
      clear hown1 hturn1
      go_wp2_with fail
      first | (go_end0; exact ⟨rfl, ⟨_, HO1.out, by rw [HP.out]; exact HSD.out⟩, fun B hB => HBL.out B _ hB HT1.out.grown⟩) | exact bodyPost_ret (results_none rfl _ _ _) rfl ⟨rfl, ⟨_, HO1.out, by rw [HP.out]; exact HSD.out⟩, fun B hB => HBL.out B _ hB HT1.out.grown⟩
    · have c2 : (x.sh == 0) = false := beq_f h2
      have HP := Lib.hid (HPN.out (fun h => h2 h.2))
      clear h1 h2 HPZ HPN HSD
      go_enter Try.func58, Try.ntmps58
      go_wp2_with (at_mapUpdate; refine wpList_mapUpdate_own _ rfl _ _ _ 97 rfl 44 46 (Keyed.of_law ser_law) bySer_under _ b nn _ rfl HO.out (by unfold maxLen; omega) _ _ _ rfl rfl HK.out _ [] (posElem_is x) ?_; intro w1 hown1 gr1)
      have HO1 := Lib.hid hown1
      have HT1 := Lib.hid gr1
      clear hown1 gr1
      go_wp2_with fail
      go_end0
      exact ⟨rfl, ⟨_, HO1.out, by rw [HP.out]; exact HSP.out⟩, fun B hB => HBL.out B _ hB HT1.out⟩
  · have c1 : (x.lo == 0) = false := beq_f h1
    have HP := Lib.hid (HPN.out (fun h => h1 h.1))
    clear h1 HPZ HPN HSD
    go_enter Try.func58, Try.ntmps58
    go_wp2_with (at_mapUpdate; refine wpList_mapUpdate_own _ rfl _ _ _ 97 rfl 44 46 (Keyed.of_law ser_law) bySer_under _ b nn _ rfl HO.out (by unfold maxLen; omega) _ _ _ rfl rfl HK.out _ [] (posElem_is x) ?_; intro w1 hown1 gr1)
    have HO1 := Lib.hid hown1
    have HT1 := Lib.hid gr1
    clear hown1 gr1
    go_wp2_with fail
    go_end0
    exact ⟨rfl, ⟨_, HO1.out, by rw [HP.out]; exact HSP.out⟩, fun B hB => HBL.out B _ hB HT1.out⟩
end Go.Proofs.Ytdhkflmodcgooaa

/- Contracts of layer 15: positions by series: find. -/
namespace Go.Proofs.Ytdhkflmodcgooaa
open Go.RowKit Go.Recs Go.Maps
set_option linter.unusedVariables false
set_option linter.unusedSimpArgs false
theorem results_pos {fn : Func} {p : Tmp} (h : fn.results = #[.cell p 46]) (tmps : Array Value) (w : World) (g : Nat) (x : PO.Pos)
    (hp : tmps.getD p undef = .pointer (some ⟨g, 0, none⟩)) (hb : CB w g 46 (posC x)) : (results fn tmps).run Try.prog w = .ok (posA x) w := by
  rw [results_cell1 h, hp]
  simp only [asAddr, Sem.run_pure, Result.andThen_ok]
  exact load_pos w g x hb
set_option maxHeartbeats 4000000 in
set_option maxRecDepth 100000 in
theorem pfind_any (q : PO.Pos) (s : EM.Ser) (hs : serQ s) (b nn : Nat) (D : DataW Unit) (ps : List PO.Pos) (hS : PSays D ps) (hq : ∀ p ∈ ps, posQ p) (hf : (q ∈ ps ∧ q.ser = s) ∨ (q = ⟨s, 0, 0⟩ ∧ ∀ p ∈ ps, p.ser ≠ s)) (w : World) (hown : w.ownsMap Try.prog 44 posElem b nn D) :
    Calls Try.prog 55 #[.map (some b), serA s] w fun e w' => e = .returned (posA q) ∧ Below w.heap.size w w' := by
  have HK := Lib.hid (skey_is hs)
  have HO := Lib.hid ((hown.alloc (.cells #[.string s.prod, .int .i64 s.kind, .int .i64 s.expiry, .int .i64 s.strike] 44)).alloc (.cells (posC PO.zero) 46))
  obtain ⟨q0, hq0, hq1, hq2, hq3⟩ : ∃ q0 : PO.Pos, (∀ v mp, posElem v = some (D.atKey (skey s) (posD PO.zero), mp) → v = posA q0) ∧ q.ser = s ∧ q.lo = q0.lo ∧ q.sh = q0.sh := by
    rcases hf with ⟨h1, h2⟩ | ⟨rfl, h2⟩
    · refine ⟨q, fun v mp hv => ?_, h2, rfl, rfl⟩
      have e : D.atKey (skey s) (posD PO.zero) = posD q := by rw [← h2]; exact hS.at_ q h1 _
      rw [e] at hv
      obtain ⟨x, rfl, ex⟩ := posElem_inv hv
      rw [posD_inj (Prod.mk.inj ex).1]
    · refine ⟨PO.zero, fun v mp hv => ?_, rfl, rfl, rfl⟩
      have e : D.atKey (skey s) (posD PO.zero) = posD PO.zero := hS.miss (fun a ha e => h2 a ha (skey_inj (hq a ha).1 hs e)) _
      rw [e] at hv
      obtain ⟨x, rfl, ex⟩ := posElem_inv hv
      rw [posD_inj (Prod.mk.inj ex).1]
  have HV := Lib.hid hq0
  have HQ : Hid (q = ⟨s, q0.lo, q0.sh⟩) := Lib.hid (by rw [← hq1, ← hq2, ← hq3])
  have HB0 := Lib.hid (fun (a b c : Array Value) => below_al (below_al (below_al (Below.refl w.heap.size w) (.cells a 44)) (.cells b 46)) (.cells c 46))
  rw [HQ.out]
  clear hS hq hf hown hs hq0 hq1 hq2 hq3 HQ
  go_enter Try.func55, Try.ntmps55
  go_wp2_with (at_lookup; refine wpList_lookR _ rfl _ _ 97 rfl 44 46 (Keyed.of_law ser_law) bySer_under posElem (posA PO.zero) (pos_zero _) (posD PO.zero) [] (posElem_is _) b nn _ rfl HO.out _ _ rfl HK.out ?_; intro v mp hv; obtain rfl : v = posA q0 := HV.out v mp hv; clear hv)
  go_wp2_with fail
  (try simp only [Exit.inBlock, Exit.then])
  exact bodyPost_ret (results_pos (x := ⟨s, q0.lo, q0.sh⟩) rfl _ _ _ rfl (by first | exact CB.new1 _ _ _ _ | exact CB.new2 _ _ _ _ _ | exact (CB.new1 _ _ _ _).alloc _)) rfl ⟨rfl, by first | exact HB0.out _ _ _⟩
end Go.Proofs.Ytdhkflmodcgooaa

/- Contracts of layer 15: positions by series: indexed. -/
namespace PO
theorem putM_fresh {ps : List Pos} {x : Pos} (h : lotsB x.lo x.sh = true) (hn : ∀ p ∈ ps, p.ser ≠ x.ser) : putM ps x = x :: ps := by
  have h1 := lotsB_iff.1 h
  unfold putM
  rw [if_neg (by omega)]
  have : others ps x.ser = ps := List.filter_eq_self.2 fun q hq => by
    cases e : NM.seqB q.ser x.ser
    · rfl
    · exact absurd (NM.seqB_iff.1 e) (hn q hq)
  rw [this]
theorem take_perm {l ps : List Pos} {k : Nat} (hk : k < l.length) (hp : ps.Perm (l.take k)) : (pAt l k :: ps).Perm (l.take (k + 1)) := by
  rw [List.take_succ_eq_append_getElem hk, pAt_get hk]
  exact (hp.cons _).trans (List.perm_append_comm (l₁ := [l[k]]))
theorem take_ne {l : List Pos} (h : ascP l) {k : Nat} (hk : k < l.length) {p : Pos} (hp : p ∈ l.take k) : p.ser ≠ (pAt l k).ser := by
  obtain ⟨j, hj, rfl⟩ := List.getElem_of_mem hp
  rw [List.length_take] at hj
  rw [List.getElem_take, pAt_get hk]
  intro e
  have := List.pairwise_iff_getElem.1 h j k (by omega) hk (by omega)
  rw [e] at this
  exact EM.lt_irrefl _ this
end PO
namespace Go.Proofs.Ytdhkflmodcgooaa
open Go.RowKit Go.Recs Go.Maps
set_option linter.unusedVariables false
set_option linter.unusedSimpArgs false
set_option maxHeartbeats 4000000 in
set_option maxRecDepth 100000 in
theorem pindexed_any (A : Option Addr) (l : List PO.Pos) (n cap : Nat) (hn : n = l.length) (hc : PO.checkE l = 0) (w : World) (hI : Poss w A l) :
    Calls Try.prog 54 #[.slice A n cap] w fun e w' => e = .returned (.map (some w.heap.size)) ∧ (∃ D ps, w'.ownsMap Try.prog 44 posElem w.heap.size l.length D ∧ PSays D ps ∧ ps.Perm l) ∧ Below w.heap.size w w' := by
  subst hn
  have hlen := hI.len
  have HI := Lib.hid hI
  obtain ⟨hl, ha, hg⟩ := PO.check_good hc
  have KP := Lib.hid (fun k ps => @PO.take_perm l ps k); have KN := Lib.hid (fun k hk p => @PO.take_ne l ha k hk p)
  have KG : Hid (∀ k, k < l.length → PO.lotsB (PO.pAt l k).lo (PO.pAt l k).sh = true) := Lib.hid (fun k hk => by rw [PO.pAt_get hk]; exact hg _ (List.getElem_mem hk))
  have KQ : Hid (∀ k, ∀ p ∈ l.take k, posQ p) := Lib.hid (fun k p hp => hI.2 p (List.mem_of_mem_take hp))
  have hmm := @run_makeMap Try.prog
  clear hI hc ha hg
  go_enter Try.func54, Try.ntmps54
  go_wp2_with fail
  have HOM : Hid ((w.alloc (.map #[] 0)).ownsMap Try.prog 44 posElem w.heap.size 0 (.map [])) := Lib.hid (World.ownsMap_made (H := Unit) w Try.prog 44 posElem)
  have HB0 := Lib.hid (below_al (Below.refl w.heap.size w) (.map #[] 0))
  go_loopw [5, 9] (fun _ i wr => ∃ (k : Nat) (D : DataW Unit) (ps : List PO.Pos), k ≤ l.length ∧ i = .int .i64 (k : Int) ∧ Hid (wr.ownsMap Try.prog 44 posElem w.heap.size k D) ∧ Hid (PSays D ps) ∧ Hid (ps.Perm (l.take k)) ∧ Hid (Below w.heap.size w wr)) (fun _ i _ => l.length - (intOf i).toNat)
  case atStart => exact ⟨0, .map [], [], by omega, rfl, HOM, Lib.hid MG.Says.nil, Lib.hid (List.Perm.refl _), HB0⟩
  case round =>
    obtain ⟨k, D, ps, hk, rfl, HM, HS, HP, HB⟩ := hrel
    by_cases hlt : k < l.length
    · obtain ⟨b, off, x, rfl, hb, HV, q, d0, d1, d2, d3, d4, d5⟩ := poss_get (HI.out.below HB.out) hlt
      have HBx := Lib.hid (below_al HB.out (.cells (posC x) 46))
      have HMx := Lib.hid (HM.out.alloc (.cells (posC x) 46))
      have C1 := Lib.hid (pput_any x q w.heap.size k D ps HS.out (fun p hp => KQ.out k p (HP.out.mem_iff.1 hp)) (by omega) _ HMx.out)
      have HE : Hid (PO.putM ps x = x :: ps) := Lib.hid (by
        have h1 := KG.out k hlt
        rw [HV.out] at h1
        exact PO.putM_fresh h1 (fun p hp => by have := KN.out k hlt p (HP.out.mem_iff.1 hp); rwa [HV.out] at this))
      have HP2 : Hid ((x :: ps).Perm (l.take (k + 1))) := Lib.hid (by have := KP.out k ps hlt HP.out; rwa [HV.out] at this)
      clear q HM HS
      go_wp2_with fail
      refine C1.out.mono ?_
      rintro e w3 ⟨rfl, ⟨D3, hm3, hs3⟩, hb3⟩
      have HM3 := Lib.hid hm3
      have HS3 : Hid (PSays D3 (x :: ps)) := Lib.hid (by rw [← HE.out]; exact hs3)
      have HB3 := Lib.hid (HBx.out.trans (hb3 w.heap.size (Nat.le_refl _)))
      clear hm3 hs3 hb3 C1
      go_wp2_with fail
      go_roundw
      case rel => exact ⟨k + 1, D3, x :: ps, by omega, by go_num, HM3, HS3, HP2, HB3⟩
      case measure => simp [intOf]; omega
    · obtain rfl : k = l.length := by omega
      have HPE : Hid (ps.Perm l) := Lib.hid (by have := HP.out; rwa [List.take_length] at this)
      go_wp2_with fail
      go_ret
      exact ⟨rfl, ⟨D, ps, HM.out, HS.out, HPE.out⟩, HB.out⟩
end Go.Proofs.Ytdhkflmodcgooaa
