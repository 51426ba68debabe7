/- Put together: PosP, PosMath3, PosMath4, MarkMath2, MarkCells, MrkJ, MrkK, MrkL. -/
import Derived.Test.YtaegapcccboinaaBun12
import Derived.Test.YtaegapcccboinaaBun10
import Derived.Test.YtaegapcccboinaaBun9
import Derived.Test.YtaegapcccboinaaBun7
import Derived.Test.YtaegapcccboinaaBun3
import Derived.Deep.RegionHeld3
/- Contracts of layer 15: Find. -/
namespace Go.Proofs.Ytaegapcccboinaa
open Go.RowKit Go.Recs
set_option linter.unusedVariables false
set_option linter.unusedSimpArgs false
end Go.Proofs.Ytaegapcccboinaa

/- Layer 15's mathematics: lots moved. -/
namespace PO
def mv0E (fr to : List Pos) (kind lo sh : Int) : Int :=
  if checkE fr ≠ 0 then checkE fr else if checkE to ≠ 0 then checkE to else if ¬ (1 ≤ kind ∧ kind ≤ 3) then 21 else if ¬ lotsB lo sh = true then 18 else 0
def lessP (l : List Pos) (s : EM.Ser) (lo sh : Int) : Pos := ⟨s, (findP l s).lo - lo, (findP l s).sh - sh⟩
def gvE (l : List Pos) (s : EM.Ser) (lo sh : Int) : Int := if (findP l s).lo < lo ∨ (findP l s).sh < sh then 30 else 0
def gvL (l : List Pos) (s : EM.Ser) (lo sh : Int) : List Pos := if gvE l s lo sh = 0 then putsL l (lessP l s lo sh) else []
/-- one of the two legs -/
def r1E (l : List Pos) (kind : Int) (s : EM.Ser) (q : Int) : Int := if q = 0 then 0 else applyE l kind s q 0
def r1L (l : List Pos) (kind : Int) (s : EM.Ser) (q : Int) : List Pos := if q = 0 then l else applyL l kind s q 0
def rcE (l : List Pos) (kind : Int) (s : EM.Ser) (lo sh : Int) : Int := if r1E l kind s lo ≠ 0 then r1E l kind s lo else r1E (r1L l kind s lo) kind s (-sh)
def rcL (l : List Pos) (kind : Int) (s : EM.Ser) (lo sh : Int) : List Pos := if rcE l kind s lo sh = 0 then r1L (r1L l kind s lo) kind s (-sh) else []
def mvE (fr to : List Pos) (kind : Int) (s : EM.Ser) (lo sh : Int) : Int :=
  if mv0E fr to kind lo sh ≠ 0 then mv0E fr to kind lo sh else if gvE fr s lo sh ≠ 0 then gvE fr s lo sh else rcE to kind s lo sh
def mvA (fr to : List Pos) (kind : Int) (s : EM.Ser) (lo sh : Int) : List Pos := if mvE fr to kind s lo sh = 0 then gvL fr s lo sh else []
def mvB (fr to : List Pos) (kind : Int) (s : EM.Ser) (lo sh : Int) : List Pos := if mvE fr to kind s lo sh = 0 then rcL to kind s lo sh else []
theorem puts_mem {l : List Pos} {p q : Pos} (h : q ∈ putsL l p) : q = p ∨ q ∈ l := by
  unfold putsL at h
  split at h
  · exact .inr (List.mem_filter.1 h).1
  · rcases List.mem_cons.1 ((ins_perm p _).mem_iff.1 h) with h | h
    · exact .inl h
    · exact .inr (List.mem_filter.1 h).1
theorem apply_inv {l : List Pos} {kind : Int} {s : EM.Ser} {qty closes : Int} (h : applyE l kind s qty closes = 0) :
    checkE l = 0 ∧ legE kind qty closes = 0 ∧ chgE (findP l s) qty (cloS kind qty closes (findP l s)) = 0 ∧ (putsL l (newP l kind s qty closes)).length ≤ 128 ∧ applyL l kind s qty closes = putsL l (newP l kind s qty closes) := by
  have e : applyL l kind s qty closes = putsL l (newP l kind s qty closes) := by unfold applyL; rw [if_pos h]
  unfold applyE at h
  split at h
  · rename_i g; exact absurd h g
  rename_i g1
  split at h
  · rename_i g; exact absurd h g
  rename_i g2
  split at h
  · rename_i g; exact absurd h g
  rename_i g3
  split at h
  · cases h
  rename_i g4
  exact ⟨by omega, by omega, by omega, by omega, e⟩
theorem apply_no {l : List Pos} {kind : Int} {s : EM.Ser} {qty closes : Int} (h : ¬ applyE l kind s qty closes = 0) : applyL l kind s qty closes = [] := by unfold applyL; rw [if_neg h]
theorem lots_two {lo sh : Int} (h : lotsB lo sh = true) : (0 ≤ lo ∧ lo ≤ 1048576) ∧ (0 ≤ sh ∧ sh ≤ 1048576) ∧ (¬ lo = 0 ∨ ¬ sh = 0) := by
  have := lotsB_iff.1 h
  omega
end PO

/- Layer 15's mathematics: each series' Net behind a row of legs. -/
namespace PO
structure Dor where
  leg : NM.Leg
  clo : Int
def Dor.zero : Dor := ⟨NM.zero, 0⟩
def dAt (l : List Dor) (k : Nat) : Dor := l.getD k Dor.zero
theorem dAt_get {l : List Dor} {k : Nat} (h : k < l.length) : dAt l k = l[k] := by simp [dAt, List.getD, h]
def net (p : Pos) : Int := p.lo - p.sh
def inc (x : Dor) (s : EM.Ser) : Int := if NM.seqB x.leg.ser s = true then x.leg.qty else 0
def sumI (s : EM.Ser) : List Dor → Int
  | [] => 0
  | x :: r => inc x s + sumI s r
theorem sumI_append (s : EM.Ser) : ∀ (a b : List Dor), sumI s (a ++ b) = sumI s a + sumI s b
  | [], b => by simp [sumI]
  | x :: a, b => by simp only [List.cons_append, sumI, sumI_append s a b]; omega
theorem sumI_take {l : List Dor} {k : Nat} (h : k < l.length) (s : EM.Ser) : sumI s (l.take (k + 1)) = sumI s (l.take k) + inc (dAt l k) s := by
  rw [List.take_succ_eq_append_getElem h, sumI_append, dAt_get h]; simp [sumI]
theorem sumI_drop {l : List Dor} {k : Nat} (h : k < l.length) (s : EM.Ser) : sumI s (l.drop k) = sumI s (l.drop (k + 1)) + inc (dAt l k) s := by
  rw [List.drop_eq_getElem_cons h, dAt_get h]; simp only [sumI]; omega
theorem sumI_small {l : List Dor} (s : EM.Ser) (h : ∀ j, j < l.length → -1048576 ≤ (dAt l j).leg.qty ∧ (dAt l j).leg.qty ≤ 1048576) : ∀ k, k ≤ l.length → -1048576 * (k : Int) ≤ sumI s (l.take k) ∧ sumI s (l.take k) ≤ 1048576 * (k : Int)
  | 0, _ => by simp [sumI]
  | k + 1, hk => by
    have h1 := sumI_small s h k (by omega)
    have h2 := h k (by omega)
    rw [sumI_take (by omega)]
    have h3 : -1048576 ≤ inc (dAt l k) s ∧ inc (dAt l k) s ≤ 1048576 := by unfold inc; split <;> omega
    omega
theorem find_mem {m : List Pos} (h : ascP m) {q : Pos} (hq : q ∈ m) : findP m q.ser = q := by
  rcases find_cases m q.ser with ⟨h1, h2⟩ | ⟨_, h2⟩
  · exact asc_inj h h1 hq h2
  · exact absurd rfl (h2 q hq)
theorem find_not {m : List Pos} {s : EM.Ser} (h : ∀ q ∈ m, q.ser ≠ s) : findP m s = ⟨s, 0, 0⟩ := by
  rcases find_cases m s with ⟨h1, h2⟩ | ⟨h1, _⟩
  · exact absurd h2 (h _ h1)
  · exact h1
theorem mem_others {l : List Pos} {s : EM.Ser} {q : Pos} : q ∈ others l s ↔ q ∈ l ∧ q.ser ≠ s := by
  unfold others
  rw [List.mem_filter]
  constructor
  · rintro ⟨h1, h2⟩
    refine ⟨h1, fun e => ?_⟩
    rw [NM.seqB_iff.2 e] at h2; cases h2
  · rintro ⟨h1, h2⟩
    refine ⟨h1, ?_⟩
    cases hh : NM.seqB q.ser s with
    | false => rfl
    | true => exact absurd (NM.seqB_iff.1 hh) h2
theorem mem_puts {l : List Pos} {p q : Pos} : q ∈ putsL l p ↔ (q = p ∧ ¬ (p.lo = 0 ∧ p.sh = 0)) ∨ (q ∈ l ∧ q.ser ≠ p.ser) := by
  unfold putsL
  split
  · rename_i h
    rw [mem_others]
    constructor
    · exact .inr
    · rintro (⟨_, h2⟩ | h1)
      · exact absurd h h2
      · exact h1
  · rename_i h
    rw [(ins_perm p _).mem_iff, List.mem_cons, mem_others]
    constructor
    · rintro (h1 | h1)
      · exact .inl ⟨h1, h⟩
      · exact .inr h1
    · rintro (⟨h1, _⟩ | h1)
      · exact .inl h1
      · exact .inr h1
theorem find_put_same {l : List Pos} (h : ascP l) (p : Pos) : findP (putsL l p) p.ser = p := by
  by_cases hz : p.lo = 0 ∧ p.sh = 0
  · rw [find_not (fun q hq => ?_)]
    · obtain ⟨s, lo, sh⟩ := p
      obtain ⟨h1, h2⟩ := hz
      simp only at h1 h2
      rw [h1, h2]
    · rcases mem_puts.1 hq with ⟨_, h2⟩ | ⟨_, h2⟩
      · exact absurd hz h2
      · exact h2
  · exact find_mem (puts_asc h p) (mem_puts.2 (.inl ⟨rfl, hz⟩))
theorem find_put_other {l : List Pos} (h : ascP l) (p : Pos) {s : EM.Ser} (hs : s ≠ p.ser) : findP (putsL l p) s = findP l s := by
  rcases find_cases l s with ⟨h1, h2⟩ | ⟨h1, h2⟩
  · have := find_mem (puts_asc h p) (q := findP l s) (mem_puts.2 (.inr ⟨h1, by rw [h2]; exact hs⟩))
    rwa [h2] at this
  · rw [h1]
    refine find_not fun q hq e => ?_
    rcases mem_puts.1 hq with ⟨h3, _⟩ | ⟨h3, _⟩
    · rw [h3] at e; exact hs e.symm
    · exact h2 q h3 e
theorem check_of_good {l : List Pos} (hl : l.length ≤ 128) (ha : ascP l) (hg : ∀ p ∈ l, lotsB p.lo p.sh = true) : checkE l = 0 := by
  refine check_ok (by omega) fun j hj => ?_
  unfold eAt
  rw [if_neg, if_pos]
  · rw [pAt_get hj]; exact hg _ (List.getElem_mem hj)
  · rintro ⟨h0, h1⟩
    have hl : EM.lt (pAt l (j - 1)).ser (pAt l j).ser := by
      rw [pAt_get hj, pAt_get (by omega)]
      exact List.pairwise_iff_getElem.1 ha (j - 1) j (by omega) hj (by omega)
    have := EM.cmp_neg.2 hl
    omega
theorem apply_net {l : List Pos} {s : EM.Ser} {q : Int} (h : applyE l 2 s q 0 = 0) :
    (∀ s', net (findP (applyL l 2 s q 0) s') = net (findP l s') + if NM.seqB s s' = true then q else 0) ∧ checkE (applyL l 2 s q 0) = 0 ∧ checkE l = 0 ∧ -1048576 ≤ q ∧ q ≤ 1048576 := by
  obtain ⟨h1, h2, h3, h4, h5⟩ := apply_inv h
  obtain ⟨_, ha, hg⟩ := check_good h1
  obtain ⟨⟨q0, q1, q2⟩, k1, k2⟩ := clo_ok hg h2 s
  obtain ⟨e1, e2, e3, e4⟩ := chg_q (find_lots hg s) k1 k2 h3
  have es : (newP l 2 s q 0).ser = s := by unfold newP; rw [e1, find_ser]
  have en : net (newP l 2 s q 0) = net (findP l s) + q := by
    unfold newP net chg absI
    split
    · show (findP l s).lo - _ - ((findP l s).sh + (-q - _)) = _; omega
    · show (findP l s).lo + (q - _) - ((findP l s).sh - _) = _; omega
  rw [h5]
  refine ⟨fun s' => ?_, check_of_good h4 (puts_asc ha _) (fun p hp => ?_), h1, q1, q2⟩
  · by_cases hs : s = s'
    · subst hs
      have := find_put_same ha (newP l 2 s q 0)
      rw [es] at this
      rw [this, en, if_pos (NM.seqB_iff.2 rfl)]
    · rw [find_put_other ha _ (by rw [es]; exact fun e => hs e.symm), if_neg (fun e => hs (NM.seqB_iff.1 e))]; omega
  · rcases mem_puts.1 hp with ⟨rfl, hz⟩ | ⟨hp, _⟩
    · refine lotsB_iff.2 ⟨?_, ?_, ?_⟩
      · unfold newP; omega
      · unfold newP; omega
      · unfold newP at hz ⊢; omega
    · exact hg p hp
end PO
namespace Go.Recs
open Go.RowKit
def doV (x : PO.Dor) : List Value := [.string x.leg.am, .string x.leg.an, .string x.leg.ser.prod, .int .i64 x.leg.ser.kind, .int .i64 x.leg.ser.expiry, .int .i64 x.leg.ser.strike, .int .i64 x.leg.qty, .int .i64 x.leg.price, .int .i64 x.leg.trade, .int .i64 x.clo]
def doQ (x : PO.Dor) : Prop := legQ x.leg ∧ i64 x.clo
def doL : List Leaf := [.str, .str, .str, .int .i64, .int .i64, .int .i64, .int .i64, .int .i64, .int .i64, .int .i64]
theorem do_row (r : List Value) (h : okAll doL r) : ∃ x : PO.Dor, r = doV x ∧ doQ x := by
  obtain ⟨c0, r0, rfl, ⟨s0, rfl, h0⟩, g0⟩ := okAll_cons h
  obtain ⟨c1, r1, rfl, ⟨s1, rfl, h1⟩, g1⟩ := okAll_cons g0
  obtain ⟨c2, r2, rfl, ⟨s2, rfl, h2⟩, g2⟩ := okAll_cons g1
  obtain ⟨c3, r3, rfl, ⟨n3, rfl, h3⟩, g3⟩ := okAll_cons g2
  obtain ⟨c4, r4, rfl, ⟨n4, rfl, h4⟩, g4⟩ := okAll_cons g3
  obtain ⟨c5, r5, rfl, ⟨n5, rfl, h5⟩, g5⟩ := okAll_cons g4
  obtain ⟨c6, r6, rfl, ⟨n6, rfl, h6⟩, g6⟩ := okAll_cons g5
  obtain ⟨c7, r7, rfl, ⟨n7, rfl, h7⟩, g7⟩ := okAll_cons g6
  obtain ⟨c8, r8, rfl, ⟨n8, rfl, h8⟩, g8⟩ := okAll_cons g7
  obtain ⟨c9, r9, rfl, ⟨n9, rfl, h9⟩, g9⟩ := okAll_cons g8
  rw [okAll_nil g9]
  exact ⟨⟨⟨s0, s1, ⟨s2, n3, n4, n5⟩, n6, n7, n8⟩, n9⟩, rfl, ⟨h0, h1, ⟨h2, bounds_i64 h3, bounds_i64 h4, bounds_i64 h5⟩, bounds_i64 h6, bounds_i64 h7, bounds_i64 h8⟩, bounds_i64 h9⟩
abbrev Dos := TR doV doQ 10
theorem dos_get {w : World} {A : Option Addr} {l : List PO.Dor} (h : Dos w A l) {k : Nat} (hk : k < l.length) :
    ∃ b off, ∃ x : PO.Dor, A = some ⟨b, off, none⟩ ∧ b < w.heap.size ∧ Hid (PO.dAt l k = x) ∧ doQ x ∧ w.cell? ⟨b, off + k * 10, none⟩ = some (.string x.leg.am) ∧ w.cell? ⟨b, off + k * 10 + 1, none⟩ = some (.string x.leg.an) ∧
      w.cell? ⟨b, off + k * 10 + 2, none⟩ = some (.string x.leg.ser.prod) ∧ w.cell? ⟨b, off + k * 10 + 3, none⟩ = some (.int .i64 x.leg.ser.kind) ∧ w.cell? ⟨b, off + k * 10 + 4, none⟩ = some (.int .i64 x.leg.ser.expiry) ∧
      w.cell? ⟨b, off + k * 10 + 5, none⟩ = some (.int .i64 x.leg.ser.strike) ∧ w.cell? ⟨b, off + k * 10 + 6, none⟩ = some (.int .i64 x.leg.qty) ∧ w.cell? ⟨b, off + k * 10 + 7, none⟩ = some (.int .i64 x.leg.price) ∧ w.cell? ⟨b, off + k * 10 + 8, none⟩ = some (.int .i64 x.leg.trade) ∧ w.cell? ⟨b, off + k * 10 + 9, none⟩ = some (.int .i64 x.clo) := by
  obtain ⟨b, off, rfl, hb, hq, hc⟩ := h.at_ hk
  exact ⟨b, off, l[k], rfl, hb, Lib.hid (PO.dAt_get hk), hq, hc 0 (by omega), hc 1 (by omega), hc 2 (by omega), hc 3 (by omega), hc 4 (by omega), hc 5 (by omega), hc 6 (by omega), hc 7 (by omega), hc 8 (by omega), hc 9 (by omega)⟩
end Go.Recs

/- Layer 18's mathematics: lists of marks. -/
namespace MR
set_option linter.unusedVariables false
structure Mk where
  ser : EM.Ser
  price : Int
def zero : Mk := ⟨EM.zero, 0⟩
def mAt (l : List Mk) (k : Nat) : Mk := l.getD k zero
theorem mAt_get {l : List Mk} {k : Nat} (h : k < l.length) : mAt l k = l[k] := by simp [mAt, List.getD, h]
def eAt (l : List Mk) (k : Nat) : Int := if 0 < k ∧ ¬ EM.cmp (mAt l (k - 1)).ser (mAt l k).ser < 0 then 19 else if MK.isP (mAt l k).price = true then 0 else 17
def checkE (l : List Mk) : Int := if 128 < l.length then 8 else PO.firstE ((List.range l.length).map (eAt l))
theorem check_long {l : List Mk} (h : 128 < l.length) : checkE l = 8 := by unfold checkE; rw [if_pos h]
theorem check_ok {l : List Mk} (hl : ¬ 128 < l.length) (h : ∀ j, j < l.length → eAt l j = 0) : checkE l = 0 := by
  unfold checkE
  rw [if_neg hl]
  refine PO.first_all fun e he => ?_
  obtain ⟨j, hj, rfl⟩ := List.mem_map.1 he
  exact h j (List.mem_range.1 hj)
theorem check_at {l : List Mk} (hl : ¬ 128 < l.length) {k : Nat} (hk : k < l.length) (hj : ∀ j, j < k → eAt l j = 0) (h : eAt l k ≠ 0) : checkE l = eAt l k := by
  unfold checkE
  rw [if_neg hl, PO.first_at (k := k) (by simpa using hk) (fun j hj' => by simpa using hj j hj') (by simpa using h)]
  simp
theorem check_inv {l : List Mk} (h : checkE l = 0) : l.length ≤ 128 ∧ ∀ j, j < l.length → eAt l j = 0 := by
  unfold checkE at h
  split at h
  · cases h
  · refine ⟨by omega, fun j hj => PO.first_inv h _ (List.mem_map.2 ⟨j, List.mem_range.2 hj, rfl⟩)⟩
def asc (l : List Mk) : Prop := l.Pairwise (fun a b => EM.lt a.ser b.ser)
theorem eAt_zero {l : List Mk} {k : Nat} (h : eAt l k = 0) : (0 < k → EM.lt (mAt l (k - 1)).ser (mAt l k).ser) ∧ MK.isP (mAt l k).price = true := by
  unfold eAt at h
  split at h
  · cases h
  · rename_i h1
    split at h
    · rename_i h2
      refine ⟨fun hk => ?_, h2⟩
      have h3 : EM.cmp (mAt l (k - 1)).ser (mAt l k).ser < 0 := Classical.byContradiction fun g => h1 ⟨hk, g⟩
      rcases EM.cmp_cases (mAt l (k - 1)).ser (mAt l k).ser with ⟨_, g⟩ | ⟨g, _⟩ | ⟨g, _⟩
      · exact g
      · omega
      · omega
    · cases h
theorem asc_of {l : List Mk} (h : ∀ j, j < l.length → eAt l j = 0) : asc l := by
  refine List.pairwise_iff_getElem.2 fun i j hi hj hij => ?_
  have key : ∀ d i, i + d + 1 < l.length → EM.lt (mAt l i).ser (mAt l (i + d + 1)).ser := by
    intro d
    induction d with
    | zero => intro i hd; exact (eAt_zero (h (i + 0 + 1) hd)).1 (by omega)
    | succ d ih =>
      intro i hd
      have h1 := ih i (by omega)
      have h2 := (eAt_zero (h (i + (d + 1) + 1) hd)).1 (by omega)
      exact EM.lt_trans h1 h2
  have := key (j - i - 1) i (by omega)
  rw [show i + (j - i - 1) + 1 = j by omega, mAt_get hi, mAt_get hj] at this
  exact this
theorem check_good {l : List Mk} (h : checkE l = 0) : l.length ≤ 128 ∧ asc l ∧ ∀ p ∈ l, MK.isP p.price = true := by
  obtain ⟨h1, h2⟩ := check_inv h
  refine ⟨h1, asc_of h2, fun p hp => ?_⟩
  obtain ⟨j, hj, rfl⟩ := List.getElem_of_mem hp
  have := (eAt_zero (h2 j hj)).2
  rwa [mAt_get hj] at this
theorem lt_cmp {a b : EM.Ser} (h : EM.lt a b) : EM.cmp a b < 0 := by
  rcases EM.cmp_cases a b with ⟨g, _⟩ | ⟨_, g⟩ | ⟨_, g⟩
  · omega
  · rw [g] at h; exact absurd h (EM.lt_irrefl _)
  · exact absurd (EM.lt_trans h g) (EM.lt_irrefl _)
theorem check_of {l : List Mk} (hl : l.length ≤ 128) (ha : asc l) (hp : ∀ p ∈ l, MK.isP p.price = true) : checkE l = 0 := by
  refine check_ok (by omega) fun j hj => ?_
  unfold eAt
  rw [if_neg, if_pos]
  · rw [mAt_get hj]; exact hp _ (List.getElem_mem hj)
  · rintro ⟨h0, h1⟩
    rw [mAt_get hj, mAt_get (show j - 1 < l.length by omega)] at h1
    exact h1 (lt_cmp (List.pairwise_iff_getElem.1 ha (j - 1) j (by omega) hj (by omega)))
/-- a mark as a position, with one lot sold -/
def toP (x : Mk) : PO.Pos := ⟨x.ser, x.price, 1⟩
theorem asc_map {l : List Mk} : PO.ascP (l.map toP) ↔ asc l := by unfold PO.ascP asc; rw [List.pairwise_map]; rfl
def fidx (l : List Mk) (s : EM.Ser) : Option Nat := l.findIdx? fun q => NM.seqB q.ser s
def findN (l : List Mk) (s : EM.Ser) : Int := match fidx l s with
  | some k => (mAt l k).price
  | none => 0
def findB (l : List Mk) (s : EM.Ser) : Bool := (fidx l s).isSome
theorem fidx_some {l : List Mk} {s : EM.Ser} {k : Nat} (hk : k < l.length) (hj : ∀ j, j < k → NM.seqB (mAt l j).ser s = false) (h : NM.seqB (mAt l k).ser s = true) : fidx l s = some k := by
  unfold fidx
  rw [List.findIdx?_eq_some_iff_getElem]
  refine ⟨hk, by rw [← mAt_get hk]; exact h, fun j hj' => ?_⟩
  have := hj j hj'
  rw [mAt_get (by omega)] at this
  simp [this]
theorem fidx_none {l : List Mk} {s : EM.Ser} (h : ∀ j, j < l.length → NM.seqB (mAt l j).ser s = false) : fidx l s = none := by
  unfold fidx
  rw [List.findIdx?_eq_none_iff]
  intro x hx
  obtain ⟨j, hj, rfl⟩ := List.getElem_of_mem hx
  have := h j hj
  rwa [mAt_get hj] at this
theorem fidx_map (l : List Mk) (s : EM.Ser) : PO.fidx (l.map toP) s = fidx l s := by
  unfold PO.fidx fidx
  rw [List.findIdx?_map]; rfl
theorem find_map (l : List Mk) (s : EM.Ser) : findN l s = (PO.findP (l.map toP) s).lo ∧ findB l s = decide ((PO.findP (l.map toP) s).sh = 1) := by
  unfold findN findB PO.findP
  rw [fidx_map]
  cases h : fidx l s with
  | none => exact ⟨rfl, rfl⟩
  | some k =>
    have hk : k < l.length := by
      unfold fidx at h
      rw [List.findIdx?_eq_some_iff_getElem] at h
      exact h.1
    have e : PO.pAt (l.map toP) k = toP (mAt l k) := by
      rw [PO.pAt_get (by simpa using hk), mAt_get hk]; simp
    simp only [e]
    exact ⟨rfl, rfl⟩
/-- the list with a mark at its place -/
def putM (l : List Mk) (m : Mk) : List Mk := l.filter (fun x => decide (EM.cmp x.ser m.ser < 0)) ++ m :: l.filter (fun x => decide (0 < EM.cmp x.ser m.ser))
theorem put_ins (m : Mk) : ∀ {l : List Mk}, asc l → (putM l m).map toP = PO.insP (toP m) (PO.others (l.map toP) m.ser) := by
  intro l
  induction l with
  | nil => intro _; rfl
  | cons x l ih =>
    intro h
    have hx := List.pairwise_cons.1 h
    have i := ih hx.2
    unfold putM at i ⊢
    rcases EM.cmp_cases x.ser m.ser with ⟨e, g⟩ | ⟨e, g⟩ | ⟨e, g⟩
    · have hs : NM.seqB x.ser m.ser = false := by
        cases hh : NM.seqB x.ser m.ser
        · rfl
        · rw [NM.seqB_iff.1 hh] at g; exact absurd g (EM.lt_irrefl _)
      have eo : PO.others ((x :: l).map toP) m.ser = toP x :: PO.others (l.map toP) m.ser := by
        unfold PO.others
        rw [List.map_cons, List.filter_cons_of_pos (by show (!NM.seqB x.ser m.ser) = true; rw [hs]; rfl)]
      rw [eo, List.filter_cons_of_pos (by simp; omega), List.filter_cons_of_neg (by simp; omega), PO.insP, if_pos (by show EM.cmp x.ser m.ser < 0; omega)]
      rw [List.cons_append, List.map_cons, i]
    · have hl : ∀ y ∈ l, EM.lt m.ser y.ser := fun y hy => by rw [← g]; exact hx.1 y hy
      have f1 : l.filter (fun y => decide (EM.cmp y.ser m.ser < 0)) = [] := List.filter_eq_nil_iff.2 fun y hy => by
        have h1 := hl y hy
        intro h2
        rcases EM.cmp_cases y.ser m.ser with ⟨_, k⟩ | ⟨k, _⟩ | ⟨k, _⟩
        · exact absurd (EM.lt_trans h1 k) (EM.lt_irrefl _)
        · simp at h2; omega
        · simp at h2; omega
      have hs : NM.seqB x.ser m.ser = true := NM.seqB_iff.2 g
      have eo : PO.others ((x :: l).map toP) m.ser = PO.others (l.map toP) m.ser := by
        unfold PO.others
        rw [List.map_cons, List.filter_cons_of_neg (by show ¬ (!NM.seqB x.ser m.ser) = true; rw [hs]; simp)]
      rw [eo, List.filter_cons_of_neg (by simp; omega), List.filter_cons_of_neg (by simp; omega)]
      exact i
    · have hl : ∀ y ∈ l, EM.lt m.ser y.ser := fun y hy => EM.lt_trans g (hx.1 y hy)
      have f1 : l.filter (fun y => decide (EM.cmp y.ser m.ser < 0)) = [] := List.filter_eq_nil_iff.2 fun y hy => by
        have h1 := hl y hy
        intro h2
        rcases EM.cmp_cases y.ser m.ser with ⟨_, k⟩ | ⟨k, _⟩ | ⟨k, _⟩
        · exact absurd (EM.lt_trans h1 k) (EM.lt_irrefl _)
        · simp at h2; omega
        · simp at h2; omega
      have f2 : l.filter (fun y => decide (0 < EM.cmp y.ser m.ser)) = l := List.filter_eq_self.2 fun y hy => by
        have h1 := hl y hy
        rcases EM.cmp_cases y.ser m.ser with ⟨_, k⟩ | ⟨_, k⟩ | ⟨k, _⟩
        · exact absurd (EM.lt_trans h1 k) (EM.lt_irrefl _)
        · rw [k] at h1; exact absurd h1 (EM.lt_irrefl _)
        · simp; omega
      have f3 : ∀ y ∈ l, NM.seqB y.ser m.ser = false := fun y hy => by
        cases hh : NM.seqB y.ser m.ser
        · rfl
        · have h1 := hl y hy
          rw [NM.seqB_iff.1 hh] at h1; exact absurd h1 (EM.lt_irrefl _)
      have hs : NM.seqB x.ser m.ser = false := by
        cases hh : NM.seqB x.ser m.ser
        · rfl
        · rw [NM.seqB_iff.1 hh] at g; exact absurd g (EM.lt_irrefl _)
      have eo : PO.others ((x :: l).map toP) m.ser = (x :: l).map toP := by
        unfold PO.others
        refine List.filter_eq_self.2 fun q hq => ?_
        obtain ⟨y, hy, rfl⟩ := List.mem_map.1 hq
        show (!NM.seqB y.ser m.ser) = true
        rcases List.mem_cons.1 hy with rfl | hy
        · rw [hs]; rfl
        · rw [f3 y hy]; rfl
      rw [eo, List.filter_cons_of_neg (by simp; omega), List.filter_cons_of_pos (by simp; omega), f1, f2, List.map_cons, PO.insP, if_neg (by show ¬ EM.cmp x.ser m.ser < 0; omega)]
      rfl
theorem put_map {l : List Mk} (h : asc l) (m : Mk) : (putM l m).map toP = PO.putsL (l.map toP) (toP m) := by
  rw [put_ins m h]
  unfold PO.putsL
  rw [if_neg (by show ¬ (m.price = 0 ∧ (1 : Int) = 0); omega)]
  rfl
theorem put_asc {l : List Mk} (h : asc l) (m : Mk) : asc (putM l m) := by
  rw [← asc_map, put_map h]
  exact PO.puts_asc (asc_map.2 h) _
theorem put_same {l : List Mk} (h : asc l) (m : Mk) : findN (putM l m) m.ser = m.price ∧ findB (putM l m) m.ser = true := by
  rw [(find_map _ _).1, (find_map _ _).2, put_map h]
  have e := PO.find_put_same (asc_map.2 h) (toP m)
  have e2 : (toP m).ser = m.ser := rfl
  rw [e2] at e
  rw [e]
  exact ⟨rfl, rfl⟩
theorem put_other {l : List Mk} (h : asc l) (m : Mk) {s : EM.Ser} (hs : s ≠ m.ser) : findN (putM l m) s = findN l s ∧ findB (putM l m) s = findB l s := by
  rw [(find_map _ _).1, (find_map _ _).2, (find_map l _).1, (find_map l _).2, put_map h, PO.find_put_other (asc_map.2 h) (toP m) hs]
  exact ⟨rfl, rfl⟩
theorem put_mem {l : List Mk} {m x : Mk} (h : x ∈ putM l m) : x = m ∨ x ∈ l := by
  unfold putM at h
  rcases List.mem_append.1 h with h | h
  · exact .inr (List.mem_filter.1 h).1
  · rcases List.mem_cons.1 h with h | h
    · exact .inl h
    · exact .inr (List.mem_filter.1 h).1
/-- the first place that is not below -/
def Edge (l : List Mk) (s : EM.Ser) (i : Nat) : Prop := i ≤ l.length ∧ (∀ j, j < i → EM.cmp (mAt l j).ser s < 0) ∧ (∀ j, i ≤ j → j < l.length → ¬ EM.cmp (mAt l j).ser s < 0)
theorem edge_put {l : List Mk} (h : asc l) {m : Mk} {i : Nat} (he : Edge l m.ser i) :
    putM l m = l.take i ++ m :: (if i < l.length ∧ EM.cmp (mAt l i).ser m.ser = 0 then l.drop (i + 1) else l.drop i) := by
  obtain ⟨h1, h2, h3⟩ := he
  have e : l = l.take i ++ l.drop i := (List.take_append_drop i l).symm
  have a1 : ∀ x ∈ l.take i, EM.cmp x.ser m.ser < 0 := fun x hx => by
    obtain ⟨j, hj, rfl⟩ := List.mem_take_iff_getElem.1 hx
    have := h2 j (by omega)
    rwa [mAt_get (by omega)] at this
  have a2 : ∀ x ∈ l.drop i, ¬ EM.cmp x.ser m.ser < 0 := fun x hx => by
    obtain ⟨j, hj, rfl⟩ := List.getElem_of_mem hx
    rw [List.length_drop] at hj
    have := h3 (i + j) (by omega) (by omega)
    rw [mAt_get (by omega)] at this
    rwa [List.getElem_drop]
  have f1 : l.filter (fun x => decide (EM.cmp x.ser m.ser < 0)) = l.take i := by
    conv => lhs; rw [e]
    rw [List.filter_append, List.filter_eq_self.2 (fun x hx => by simpa using a1 x hx), List.filter_eq_nil_iff.2 (fun x hx => by simpa using a2 x hx), List.append_nil]
  have f0 : (l.take i).filter (fun x => decide (0 < EM.cmp x.ser m.ser)) = [] := List.filter_eq_nil_iff.2 (fun x hx => by have := a1 x hx; simp; omega)
  have f2 : l.filter (fun x => decide (0 < EM.cmp x.ser m.ser)) = (l.drop i).filter (fun x => decide (0 < EM.cmp x.ser m.ser)) := by
    conv => lhs; rw [e]
    rw [List.filter_append, f0, List.nil_append]
  unfold putM
  rw [f1, f2]
  congr 2
  by_cases hi : i < l.length ∧ EM.cmp (mAt l i).ser m.ser = 0
  · rw [if_pos hi]
    have ed : l.drop i = mAt l i :: l.drop (i + 1) := by rw [mAt_get hi.1]; exact List.drop_eq_getElem_cons hi.1
    rw [ed, List.filter_cons_of_neg (by simp; omega)]
    refine List.filter_eq_self.2 fun x hx => ?_
    obtain ⟨j, hj, rfl⟩ := List.getElem_of_mem hx
    rw [List.length_drop] at hj
    rw [List.getElem_drop]
    have hlt := List.pairwise_iff_getElem.1 h i (i + 1 + j) hi.1 (by omega) (by omega)
    have es : (mAt l i).ser = m.ser := by
      rcases EM.cmp_cases (mAt l i).ser m.ser with ⟨k, _⟩ | ⟨_, k⟩ | ⟨k, _⟩
      · omega
      · exact k
      · omega
    rw [← mAt_get hi.1, es] at hlt
    rcases EM.cmp_cases (l[i + 1 + j]).ser m.ser with ⟨_, k⟩ | ⟨_, k⟩ | ⟨k, _⟩
    · exact absurd (EM.lt_trans hlt k) (EM.lt_irrefl _)
    · rw [k] at hlt; exact absurd hlt (EM.lt_irrefl _)
    · simp; omega
  · rw [if_neg hi]
    refine List.filter_eq_self.2 fun x hx => ?_
    have h4 := a2 x hx
    obtain ⟨j, hj, rfl⟩ := List.getElem_of_mem hx
    rw [List.length_drop] at hj
    rw [List.getElem_drop] at h4 ⊢
    have : ¬ EM.cmp (l[i + j]).ser m.ser = 0 := by
      intro h0
      cases j with
      | zero => exact hi ⟨by omega, by rw [mAt_get (by omega)]; exact h0⟩
      | succ j =>
        have hlt := List.pairwise_iff_getElem.1 h i (i + (j + 1)) (by omega) (by omega) (by omega)
        have es : (l[i + (j + 1)]).ser = m.ser := by
          rcases EM.cmp_cases (l[i + (j + 1)]).ser m.ser with ⟨k, _⟩ | ⟨_, k⟩ | ⟨k, _⟩
          · omega
          · exact k
          · omega
        rw [es] at hlt
        have h5 := h3 i (Nat.le_refl _) (by omega)
        rw [mAt_get (by omega)] at h5
        exact h5 (lt_cmp hlt)
    simp; omega
theorem edge_len {l : List Mk} {m : Mk} : (putM l m).length ≤ l.length + 1 := by
  unfold putM
  rw [List.length_append, List.length_cons]
  have : ∀ l : List Mk, (l.filter (fun x => decide (EM.cmp x.ser m.ser < 0))).length + (l.filter (fun x => decide (0 < EM.cmp x.ser m.ser))).length ≤ l.length := by
    intro l
    induction l with
    | nil => simp
    | cons x l ih =>
      rw [List.filter_cons, List.filter_cons]
      split
      · rename_i h1
        rw [if_neg (by simp at h1 ⊢; omega)]
        simp; omega
      · split
        · simp; omega
        · simp; omega
  have := this l
  omega
end MR

/- Marks in memory, over any program. -/
namespace Go.Recs
open Go.RowKit
set_option linter.unusedVariables false
def markV (x : MR.Mk) : List Value := [.string x.ser.prod, .int .i64 x.ser.kind, .int .i64 x.ser.expiry, .int .i64 x.ser.strike, .int .i64 x.price]
def markQ (x : MR.Mk) : Prop := serQ x.ser ∧ i64 x.price
def markL : List Leaf := [.str, .int .i64, .int .i64, .int .i64, .int .i64]
theorem mark_row (r : List Value) (h : okAll markL r) : ∃ x : MR.Mk, r = markV x ∧ markQ x := by
  obtain ⟨c0, r0, rfl, ⟨s0, rfl, h0⟩, g0⟩ := okAll_cons h
  obtain ⟨c1, r1, rfl, ⟨n1, rfl, h1⟩, g1⟩ := okAll_cons g0
  obtain ⟨c2, r2, rfl, ⟨n2, rfl, h2⟩, g2⟩ := okAll_cons g1
  obtain ⟨c3, r3, rfl, ⟨n3, rfl, h3⟩, g3⟩ := okAll_cons g2
  obtain ⟨c4, r4, rfl, ⟨n4, rfl, h4⟩, g4⟩ := okAll_cons g3
  rw [okAll_nil g4]
  exact ⟨⟨⟨s0, n1, n2, n3⟩, n4⟩, rfl, ⟨h0, bounds_i64 h1, bounds_i64 h2, bounds_i64 h3⟩, bounds_i64 h4⟩
abbrev Marks := TR markV markQ 5
theorem marks_get {w : World} {A : Option Addr} {l : List MR.Mk} (h : Marks w A l) {k : Nat} (hk : k < l.length) :
    ∃ b off, ∃ x : MR.Mk, A = some ⟨b, off, none⟩ ∧ b < w.heap.size ∧ Hid (MR.mAt l k = x) ∧ markQ x ∧ w.cell? ⟨b, off + k * 5, none⟩ = some (.string x.ser.prod) ∧ w.cell? ⟨b, off + k * 5 + 1, none⟩ = some (.int .i64 x.ser.kind) ∧
      w.cell? ⟨b, off + k * 5 + 2, none⟩ = some (.int .i64 x.ser.expiry) ∧ w.cell? ⟨b, off + k * 5 + 3, none⟩ = some (.int .i64 x.ser.strike) ∧ w.cell? ⟨b, off + k * 5 + 4, none⟩ = some (.int .i64 x.price) := by
  obtain ⟨b, off, rfl, hb, hq, hc⟩ := h.at_ hk
  exact ⟨b, off, l[k], rfl, hb, Lib.hid (MR.mAt_get hk), hq, hc 0 (by omega), hc 1 (by omega), hc 2 (by omega), hc 3 (by omega), hc 4 (by omega)⟩
theorem markV_one (x : MR.Mk) : ∀ u ∈ markV x, u.oneCell' = true := by
  intro u hu
  simp only [markV, List.mem_cons, List.not_mem_nil, or_false] at hu
  rcases hu with rfl | rfl | rfl | rfl | rfl <;> rfl
end Go.Recs

/- Contracts of layer 18: CheckAll. -/
namespace Go.Proofs.Ytaegapcccboinaa
open Go.RowKit Go.Recs
set_option linter.unusedVariables false
set_option linter.unusedSimpArgs false
theorem mAt_bad {l : List MR.Mk} {k : Nat} (hk : 0 < k) (h : ¬ EM.cmp (MR.mAt l (k - 1)).ser (MR.mAt l k).ser < 0) : MR.eAt l k = 19 := by unfold MR.eAt; rw [if_pos ⟨hk, h⟩]
theorem mAt_ok {l : List MR.Mk} {k : Nat} (h0 : 0 < k → EM.cmp (MR.mAt l (k - 1)).ser (MR.mAt l k).ser < 0) : MR.eAt l k = if MK.isP (MR.mAt l k).price = true then 0 else 17 := by
  unfold MR.eAt
  rw [if_neg (fun h => h.2 (h0 h.1))]
abbrev mkC (x : MR.Mk) : Array Value := #[.string x.ser.prod, .int .i64 x.ser.kind, .int .i64 x.ser.expiry, .int .i64 x.ser.strike, .int .i64 x.price]
abbrev mkA (x : MR.Mk) : Value := .agg #[.string x.ser.prod, .int .i64 x.ser.kind, .int .i64 x.ser.expiry, .int .i64 x.ser.strike, .int .i64 x.price]
set_option maxHeartbeats 4000000 in
set_option maxRecDepth 100000 in
theorem mcheckall_any (A : Option Addr) (l : List MR.Mk) (n cap : Nat) (hn : n = l.length) (w : World) (hI : Marks w A l) :
    Calls Try.prog 32 #[.slice A n cap] w fun e w' => e = .returned (.int .i64 (MR.checkE l)) ∧ Below w.heap.size w w' := by
  subst hn
  have hlen := hI.len
  have HI := Lib.hid hI
  have KL := Lib.hid (@MR.check_long l); have KO := Lib.hid (@MR.check_ok l); have KA := Lib.hid (fun h k => @MR.check_at l h k)
  have C1 := Lib.hid (fun a b ww => ecmp_any a b ww); have C2 := Lib.hid (fun a ww => isprice18_any a ww)
  generalize MR.checkE l = r at *
  clear hI
  by_cases hl : 128 < l.length
  · have HR := Lib.hid (KL.out hl)
    have hl' : (128 : Int) < (l.length : Int) := by omega
    clear hl
    go_enter Try.func32, Try.ntmps32
    go_wp2_with fail
    go_ret
    exact ⟨by rw [HR.out] <;> rfl, Below.refl _ _⟩
  have HL := Lib.hid hl
  have hl' : ¬ (128 : Int) < (l.length : Int) := by omega
  have hl2 : l.length ≤ 128 := by omega
  clear hl
  go_enter Try.func32, Try.ntmps32
  go_wp2_with fail
  go_loopw [3, 4, 10] (fun _ _ i wr => ∃ k : Nat, k ≤ l.length ∧ i = .int .i64 (k : Int) ∧ Hid (∀ j, j < k → MR.eAt l j = 0) ∧ Hid (Below w.heap.size w wr)) (fun _ _ i _ => l.length - (intOf i).toNat)
  case atStart => exact ⟨0, by omega, rfl, Lib.hid (fun j h => by omega), Lib.hid (Below.refl _ _)⟩
  case round =>
    obtain ⟨k, hk, rfl, HE, HB⟩ := hrel
    by_cases hlt : k < l.length
    · obtain ⟨b, off, x, rfl, hb, HV, q, d0, d1, d2, d3, d4⟩ := marks_get (HI.out.below HB.out) hlt
      have HBx := Lib.hid (below_al HB.out (.cells (mkC x) 59))
      have HX := Lib.hid (CB.new wr 59 (mkC x))
      have C3 := Lib.hid (fun ww => C2.out x.price ww)
      clear q
      rcases Nat.eq_zero_or_pos k with h0 | h0
      · have hk1 : decide (0 < k) = false := by simp [h0]
        have hk2 : ¬ (0 : Int) < (k : Int) := by omega
        have HEL : Hid (MR.eAt l k = if MK.isP x.price = true then 0 else 17) := Lib.hid (by rw [mAt_ok (fun h => by omega), HV.out])
        have hk3 : ((k : Int) == 0) = true := beq_t (by omega)
        have HK0 := Lib.hid h0
        clear h0
        generalize MK.isP x.price = bl at *
        cases bl
        · have HR := Lib.hid (KA.out HL.out k hlt HE.out (by rw [HEL.out]; simp))
          have HR2 : Hid (r = 17) := Lib.hid (by rw [HR.out, HEL.out]; rfl)
          go_wp2_with fail
          go_quiet (fail)
          go_wp2_with fail
          refine (C3.out _).mono ?_
          rintro e w2 ⟨rfl, rfl⟩
          go_wp2_with fail
          go_ret
          exact ⟨by rw [HR2.out] <;> rfl, by first | exact below_drewN HBx.out _ | exact HBx.out⟩
        · have HE2 : Hid (∀ j, j < k + 1 → MR.eAt l j = 0) := Lib.hid (fun j hj => by
            rcases Nat.lt_or_ge j k with g | g
            · exact HE.out j g
            · obtain rfl : j = k := by omega
              rw [HEL.out]; rfl)
          go_wp2_with fail
          go_quiet (fail)
          go_wp2_with fail
          refine (C3.out _).mono ?_
          rintro e w2 ⟨rfl, rfl⟩
          go_wp2_with fail
          go_roundw
          case rel => exact ⟨k + 1, by omega, by go_num, HE2, Lib.hid (by first | exact below_drewN HBx.out _ | exact HBx.out)⟩
          case measure => simp [intOf]; omega
      · obtain ⟨j, rfl⟩ : ∃ j, k = j + 1 := ⟨k - 1, by omega⟩
        obtain ⟨b', off', y, he, hb', HVy, qy, g0, g1, g2, g3, g4⟩ := marks_get (HI.out.below HB.out) (k := j) (by omega)
        injection he with he
        injection he with e1 e2
        subst e1 e2
        have HBb : Hid (b < wr.heap.size) := Lib.hid hb
        have C4 := Lib.hid (fun ww => C1.out y.ser x.ser ww)
        have HSF : Hid (∀ ww, Below (wr.alloc (.cells (mkC x) 59)).heap.size (wr.alloc (.cells (mkC x) 59)) ww → ((ww.cell? ⟨b, off + j * 5, none⟩ = some (.string y.ser.prod) ∧ ww.cell? ⟨b, off + j * 5 + 1, none⟩ = some (.int .i64 y.ser.kind) ∧ ww.cell? ⟨b, off + j * 5 + 2, none⟩ = some (.int .i64 y.ser.expiry) ∧ ww.cell? ⟨b, off + j * 5 + 3, none⟩ = some (.int .i64 y.ser.strike)) ∧
            (ww.cell? ⟨wr.heap.size, 0, none⟩ = some (.string x.ser.prod) ∧ ww.cell? ⟨wr.heap.size, 1, none⟩ = some (.int .i64 x.ser.kind) ∧ ww.cell? ⟨wr.heap.size, 2, none⟩ = some (.int .i64 x.ser.expiry) ∧ ww.cell? ⟨wr.heap.size, 3, none⟩ = some (.int .i64 x.ser.strike)) ∧ (ww.cell? ⟨wr.heap.size, 4, none⟩ = some (.int .i64 x.price)))) := Lib.hid (fun ww h => by
          have hc := fun i => (HX.out.below h HX.out.lt).cell i
          have hd := fun o => (h.cell (p := ⟨b, o, none⟩) (by have := HBb.out; simp; omega)).trans ((below_al (Below.refl wr.heap.size wr) (.cells (mkC x) 59)).cell (p := ⟨b, o, none⟩) HBb.out)
          exact ⟨⟨(hd _).trans g0, (hd _).trans g1, (hd _).trans g2, (hd _).trans g3⟩, ⟨hc 0, hc 1, hc 2, hc 3⟩, hc 4⟩)
        have hwj : IntKind.i64.wrap ((j : Int) + 1 - 1) = (j : Int) := by rw [show (j : Int) + 1 - 1 = (j : Int) by omega]; exact IntWalk.i64_in _ (by omega)
        have hwj2 : (0 : Int) < (j : Int) + 1 := by omega
        have hjl : j < l.length := by omega
        have hwj3 : IntKind.i64.wrap (j : Int) = (j : Int) := IntWalk.i64_in _ (by omega)
        have hj0 : (0 : Int) ≤ (j : Int) := by omega
        have hj1 : (j : Int) < (l.length : Int) := by omega
        have hj2 : (j : Int) ≤ (l.length : Int) := by omega
        clear qy h0 hb'
        by_cases hc : EM.cmp y.ser x.ser < 0
        · have HEL : Hid (MR.eAt l (j + 1) = if MK.isP x.price = true then 0 else 17) := Lib.hid (by rw [mAt_ok (fun _ => by rw [show j + 1 - 1 = j from rfl, HVy.out, HV.out]; exact hc), HV.out])
          have hcm : ¬ 0 ≤ EM.cmp y.ser x.ser := by omega
          generalize MK.isP x.price = bl at *
          generalize EM.cmp y.ser x.ser = cm at *
          go_wp2_with fail
          generalize wr.alloc (.cells #[.string x.ser.prod, .int .i64 x.ser.kind, .int .i64 x.ser.expiry, .int .i64 x.ser.strike, .int .i64 x.price] 59) = w2 at *
          have HBw : Hid (Below w2.heap.size w2 w2.drew) := Lib.hid (Below.refl _ _).drew
          go_region_held3 (fun ww => ((ww.cell? ⟨b, off + j * 5, none⟩ = some (.string y.ser.prod) ∧ ww.cell? ⟨b, off + j * 5 + 1, none⟩ = some (.int .i64 y.ser.kind) ∧ ww.cell? ⟨b, off + j * 5 + 2, none⟩ = some (.int .i64 y.ser.expiry) ∧ ww.cell? ⟨b, off + j * 5 + 3, none⟩ = some (.int .i64 y.ser.strike)) ∧
            (ww.cell? ⟨wr.heap.size, 0, none⟩ = some (.string x.ser.prod) ∧ ww.cell? ⟨wr.heap.size, 1, none⟩ = some (.int .i64 x.ser.kind) ∧ ww.cell? ⟨wr.heap.size, 2, none⟩ = some (.int .i64 x.ser.expiry) ∧ ww.cell? ⟨wr.heap.size, 3, none⟩ = some (.int .i64 x.ser.strike)) ∧ (ww.cell? ⟨wr.heap.size, 4, none⟩ = some (.int .i64 x.price))))
            (with_reducible exact HSF.out _ HBw.out)
            ((go_at_call 65; refine (C4.out _).mono ?_; rintro e w5 ⟨rfl, b5⟩; replace HBw := Lib.hid (HBw.out.trans (b5.below.mono HBw.out.size)); clear b5))
          all_goals (
            have HBF := Lib.hid (HBx.out.trans (HBw.out.mono HBx.out.size))
            have hcl := HSF.out _ HBw.out
            obtain ⟨_, _, x4⟩ := hcl
            clear HSF HBw d0 d1 d2 d3 d4 g0 g1 g2 g3 g4
            cases bl
            · have HR := Lib.hid (KA.out HL.out (j + 1) hlt HE.out (by rw [HEL.out]; simp))
              have HR2 : Hid (r = 17) := Lib.hid (by rw [HR.out, HEL.out]; rfl)
              go_wp2_with fail
              refine (C3.out _).mono ?_
              rintro e w6 ⟨rfl, rfl⟩
              go_wp2_with fail
              go_ret
              exact ⟨by rw [HR2.out] <;> rfl, HBF.out⟩
            · have HE2 : Hid (∀ i, i < j + 1 + 1 → MR.eAt l i = 0) := Lib.hid (fun i hi => by
                rcases Nat.lt_or_ge i (j + 1) with g | g
                · exact HE.out i g
                · obtain rfl : i = j + 1 := by omega
                  rw [HEL.out]; rfl)
              go_wp2_with fail
              refine (C3.out _).mono ?_
              rintro e w6 ⟨rfl, rfl⟩
              go_wp2_with fail
              go_roundw
              case rel => exact ⟨j + 1 + 1, by omega, by go_num, HE2, HBF⟩
              case measure => simp [intOf]; omega)
        · have HR := Lib.hid (KA.out HL.out (j + 1) hlt HE.out (by rw [mAt_bad (by omega) (by rw [show j + 1 - 1 = j from rfl, HVy.out, HV.out]; exact hc)]; simp))
          have HR2 : Hid (r = 19) := Lib.hid (by rw [HR.out, mAt_bad (by omega) (by rw [show j + 1 - 1 = j from rfl, HVy.out, HV.out]; exact hc)])
          have hcm : 0 ≤ EM.cmp y.ser x.ser := by omega
          generalize EM.cmp y.ser x.ser = cm at *
          go_wp2_with fail
          generalize wr.alloc (.cells #[.string x.ser.prod, .int .i64 x.ser.kind, .int .i64 x.ser.expiry, .int .i64 x.ser.strike, .int .i64 x.price] 59) = w2 at *
          have HBw : Hid (Below w2.heap.size w2 w2.drew) := Lib.hid (Below.refl _ _).drew
          go_region_held3 (fun ww => ((ww.cell? ⟨b, off + j * 5, none⟩ = some (.string y.ser.prod) ∧ ww.cell? ⟨b, off + j * 5 + 1, none⟩ = some (.int .i64 y.ser.kind) ∧ ww.cell? ⟨b, off + j * 5 + 2, none⟩ = some (.int .i64 y.ser.expiry) ∧ ww.cell? ⟨b, off + j * 5 + 3, none⟩ = some (.int .i64 y.ser.strike)) ∧
            (ww.cell? ⟨wr.heap.size, 0, none⟩ = some (.string x.ser.prod) ∧ ww.cell? ⟨wr.heap.size, 1, none⟩ = some (.int .i64 x.ser.kind) ∧ ww.cell? ⟨wr.heap.size, 2, none⟩ = some (.int .i64 x.ser.expiry) ∧ ww.cell? ⟨wr.heap.size, 3, none⟩ = some (.int .i64 x.ser.strike)) ∧ (ww.cell? ⟨wr.heap.size, 4, none⟩ = some (.int .i64 x.price))))
            (with_reducible exact HSF.out _ HBw.out)
            ((go_at_call 65; refine (C4.out _).mono ?_; rintro e w5 ⟨rfl, b5⟩; replace HBw := Lib.hid (HBw.out.trans (b5.below.mono HBw.out.size)); clear b5))
          all_goals (
            have HBF := Lib.hid (HBx.out.trans (HBw.out.mono HBx.out.size))
            clear HSF HBw d0 d1 d2 d3 d4 g0 g1 g2 g3 g4
            go_wp2_with fail
            go_ret
            exact ⟨by rw [HR2.out] <;> rfl, HBF.out⟩)
    · obtain rfl : k = l.length := by omega
      have HR := Lib.hid (KO.out HL.out HE.out)
      go_wp2_with fail
      go_ret
      exact ⟨by rw [HR.out] <;> rfl, HB.out⟩
end Go.Proofs.Ytaegapcccboinaa

/- Contracts of layer 18: Find; the order of marks by series. -/
namespace Go.Proofs.Ytaegapcccboinaa
open Go.RowKit Go.Recs
set_option linter.unusedVariables false
set_option linter.unusedSimpArgs false
abbrev sC (s : EM.Ser) : Array Value := #[.string s.prod, .int .i64 s.kind, .int .i64 s.expiry, .int .i64 s.strike]
def fN (l : List MR.Mk) : Option Nat → Int
  | some k => (MR.mAt l k).price
  | none => 0
theorem find_fN (l : List MR.Mk) (s : EM.Ser) : MR.findN l s = fN l (MR.fidx l s) := by unfold MR.findN; cases MR.fidx l s <;> rfl
set_option maxHeartbeats 4000000 in
theorem mfind_any (A : Option Addr) (l : List MR.Mk) (n cap : Nat) (hn : n = l.length) (s : EM.Ser) (w : World) (hI : Marks w A l) :
    Calls Try.prog 30 #[.slice A n cap, serA s] w fun e w' => e = .returned (.tuple #[.int .i64 (MR.findN l s), .bool (MR.findB l s)]) ∧ Below w.heap.size w w' := by
  subst hn
  have hlen := hI.len
  rw [find_fN, show MR.findB l s = (MR.fidx l s).isSome from rfl]
  have KY := Lib.hid (fun k => @MR.fidx_some l s k); have KN := Lib.hid (@MR.fidx_none l s)
  have HB0 := Lib.hid ((Below.refl w.heap.size w).alloc (Nat.le_refl _) (.cells (sC s) 57))
  have HS := Lib.hid (CB.new w 57 (sC s))
  have HI := Lib.hid (hI.below HB0.out)
  generalize MR.fidx l s = o at *
  generalize hpr : fN l o = pr
  generalize hbb : o.isSome = bb
  have HPR := Lib.hid hpr; have HBB1 := Lib.hid hbb
  clear hI hpr hbb
  have hgl : w.heap.size < (w.alloc (.cells (sC s) 57)).heap.size := HS.out.lt
  go_enter Try.func30, Try.ntmps30
  go_wp2_with fail
  generalize w.alloc (.cells #[.string s.prod, .int .i64 s.kind, .int .i64 s.expiry, .int .i64 s.strike] 57) = w1 at *
  go_loopw [7, 10] (fun _ i wr => ∃ k : Nat, k ≤ l.length ∧ i = .int .i64 (k : Int) ∧ Hid (∀ j, j < k → NM.seqB (MR.mAt l j).ser s = false) ∧ Hid (Below w1.heap.size w1 wr) ∧ Hid (Below w.heap.size w wr)) (fun _ i _ => l.length - (intOf i).toNat)
  case atStart => exact ⟨0, by omega, rfl, Lib.hid (fun j h => by omega), Lib.hid (Below.refl _ _), HB0⟩
  case round =>
    obtain ⟨k, hk, rfl, HE, HB, HBB⟩ := hrel
    by_cases hlt : k < l.length
    · obtain ⟨b, off, x, rfl, hb, HV, q, d0, d1, d2, d3, d4⟩ := marks_get (HI.out.below HB.out) hlt
      have HV2 : Hid (NM.seqB (MR.mAt l k).ser s = NM.seqB x.ser s) := Lib.hid (by rw [HV.out])
      have HBx := Lib.hid (below_al HB.out (.cells (mkC x) 59))
      have HBy := Lib.hid (below_al HBB.out (.cells (mkC x) 59))
      have HX := Lib.hid (CB.new wr 59 (mkC x))
      have HG2 := Lib.hid (HS.out.below HBx.out hgl)
      have c0 := HX.out.cell 0; have c1 := HX.out.cell 1; have c2 := HX.out.cell 2; have c3 := HX.out.cell 3; have c4 := HX.out.cell 4
      have s0 := HG2.out.cell 0; have s1 := HG2.out.cell 1; have s2 := HG2.out.cell 2; have s3 := HG2.out.cell 3
      simp only [List.getElem?_toArray, List.getElem?_cons_zero, List.getElem?_cons_succ] at c0 c1 c2 c3 c4 s0 s1 s2 s3
      have E1 : ∀ ww, (Op.equalIn 10000 57 (.agg #[.string x.ser.prod, .int .i64 x.ser.kind, .int .i64 x.ser.expiry, .int .i64 x.ser.strike]) (.agg #[.string s.prod, .int .i64 s.kind, .int .i64 s.expiry, .int .i64 s.strike])).run Try.prog ww = .ok (NM.seqB x.ser s) ww := fun ww => ser_in x.ser s ww
      have E2 := ser_guard
      clear q
      cases hp : NM.seqB x.ser s
      · rw [hp] at E1 HV2
        have HE2 : Hid (∀ j, j < k + 1 → NM.seqB (MR.mAt l j).ser s = false) := Lib.hid (fun j hj => by
          rcases Nat.lt_or_ge j k with gg | gg
          · exact HE.out j gg
          · obtain rfl : j = k := by omega
            exact HV2.out)
        clear hp
        go_wp2_with fail
        go_roundw
        case rel => exact ⟨k + 1, by omega, by go_num, HE2, HBx, HBy⟩
        case measure => simp [intOf]; omega
      · rw [hp] at E1
        have HX := Lib.hid (KY.out k hlt HE.out (HV2.out.trans hp))
        have HXP : Hid (pr = x.price) := Lib.hid (by rw [← HPR.out, HX.out]; show (MR.mAt l k).price = _; rw [HV.out])
        have HXS : Hid (bb = true) := Lib.hid (by rw [← HBB1.out, HX.out]; rfl)
        clear hp HX
        go_wp2_with fail
        go_ret2
        exact ⟨by rw [HXP.out, HXS.out] <;> rfl, HBy.out⟩
    · obtain rfl : k = l.length := by omega
      have HX := Lib.hid (KN.out HE.out)
      have HXP : Hid (pr = 0) := Lib.hid (by rw [← HPR.out, HX.out]; rfl)
      have HXS : Hid (bb = false) := Lib.hid (by rw [← HBB1.out, HX.out]; rfl)
      clear HX
      go_wp2_with fail
      go_ret2
      exact ⟨by rw [HXP.out, HXS.out] <;> rfl, HBB.out⟩
set_option maxHeartbeats 2000000 in
theorem mcmp_any (x : MR.Mk) (s : EM.Ser) (w : World) :
    Calls Try.prog 64 #[mkA x, serA s] w fun e w' => e = .returned (.int .i64 (EM.cmp x.ser s)) ∧ Below w.heap.size w w' := by
  have C1 := Lib.hid (fun ww => ecmp_any x.ser s ww)
  have HB0 := Lib.hid (((Below.refl w.heap.size w).alloc (Nat.le_refl _) (.cells (mkC x) 59)).alloc (by show w.heap.size ≤ (w.alloc _).heap.size; simp) (.cells (sC s) 57))
  have HX := Lib.hid (CB.new w 59 (mkC x))
  have HX2 := Lib.hid (HX.out.alloc (.cells (sC s) 57))
  have HS := Lib.hid (CB.new (w.alloc (.cells (mkC x) 59)) 57 (sC s))
  have c0 := HX2.out.cell 0; have c1 := HX2.out.cell 1; have c2 := HX2.out.cell 2; have c3 := HX2.out.cell 3
  have s0 := HS.out.cell 0; have s1 := HS.out.cell 1; have s2 := HS.out.cell 2; have s3 := HS.out.cell 3
  simp only [List.getElem?_toArray, List.getElem?_cons_zero, List.getElem?_cons_succ] at c0 c1 c2 c3 s0 s1 s2 s3
  generalize EM.cmp x.ser s = r at *
  go_enter Try.func64, Try.ntmps64
  go_wp2_with fail
  refine (C1.out _).mono ?_
  rintro e w2 ⟨rfl, b2⟩
  have HB2 := Lib.hid (HB0.out.trans (b2.below.mono HB0.out.size))
  clear b2
  go_wp2_with fail
  go_ret
  exact ⟨rfl, HB2.out⟩
end Go.Proofs.Ytaegapcccboinaa

/- Contracts of layer 18: the place of a series among marks. -/
namespace MR
theorem cmp_down {l : List Mk} {s : EM.Ser} (h : asc l) {a b : Nat} (hab : a ≤ b) (hb : b < l.length) (hc : EM.cmp (mAt l b).ser s < 0) : EM.cmp (mAt l a).ser s < 0 := by
  rcases Nat.lt_or_ge a b with g | g
  · have h1 := List.pairwise_iff_getElem.1 h a b (by omega) hb g
    rw [← mAt_get hb, ← mAt_get (show a < l.length by omega)] at h1
    rcases EM.cmp_cases (mAt l b).ser s with ⟨_, k⟩ | ⟨k, _⟩ | ⟨k, _⟩
    · exact lt_cmp (EM.lt_trans h1 k)
    · omega
    · omega
  · obtain rfl : a = b := by omega
    exact hc
end MR
namespace Go.Proofs.Ytaegapcccboinaa
open Go.RowKit Go.Recs
set_option linter.unusedVariables false
set_option linter.unusedSimpArgs false
theorem bs_step {w1 wr : World} {g b : Nat} {o : Nat} {x : MR.Mk} {s : EM.Ser} (hS : CB wr g 57 (sC s)) (hg : g < wr.heap.size) (hb : b < wr.heap.size)
    (d0 : wr.cell? ⟨b, o, none⟩ = some (.string x.ser.prod)) (d1 : wr.cell? ⟨b, o + 1, none⟩ = some (.int .i64 x.ser.kind)) (d2 : wr.cell? ⟨b, o + 2, none⟩ = some (.int .i64 x.ser.expiry)) (d3 : wr.cell? ⟨b, o + 3, none⟩ = some (.int .i64 x.ser.strike)) (d4 : wr.cell? ⟨b, o + 4, none⟩ = some (.int .i64 x.price)) :
    ∀ ww, Below wr.heap.size wr ww → ((ww.cell? ⟨b, o, none⟩ = some (.string x.ser.prod) ∧ ww.cell? ⟨b, o + 1, none⟩ = some (.int .i64 x.ser.kind) ∧ ww.cell? ⟨b, o + 2, none⟩ = some (.int .i64 x.ser.expiry) ∧ ww.cell? ⟨b, o + 3, none⟩ = some (.int .i64 x.ser.strike) ∧ ww.cell? ⟨b, o + 4, none⟩ = some (.int .i64 x.price)) ∧
      (ww.cell? ⟨g, 0, none⟩ = some (.string s.prod) ∧ ww.cell? ⟨g, 1, none⟩ = some (.int .i64 s.kind) ∧ ww.cell? ⟨g, 2, none⟩ = some (.int .i64 s.expiry) ∧ ww.cell? ⟨g, 3, none⟩ = some (.int .i64 s.strike))) := fun ww h => by
  have hc := fun o => h.cell (p := ⟨b, o, none⟩) hb
  have hd := fun i => (hS.below h hg).cell i
  exact ⟨⟨(hc _).trans d0, (hc _).trans d1, (hc _).trans d2, (hc _).trans d3, (hc _).trans d4⟩, hd 0, hd 1, hd 2, hd 3⟩
set_option maxHeartbeats 4000000 in
set_option maxRecDepth 100000 in
theorem mbs_any (A : Option Addr) (l : List MR.Mk) (n cap : Nat) (hn : n = l.length) (s : EM.Ser) (w : World) (hI : Marks w A l) (ha : MR.asc l) (hl : l.length ≤ 128) :
    Calls Try.prog 63 #[.slice A n cap, serA s, .func (.func 64) #[] #[]] w fun e w' => (∃ i : Nat, Hid (MR.Edge l s i) ∧ e = .returned (.tuple #[.int .i64 i, .bool (decide (i < l.length ∧ EM.cmp (MR.mAt l i).ser s = 0))])) ∧ Below w.heap.size w w' := by
  subst hn
  have hlen := hI.len
  have HD := Lib.hid (fun a b => @MR.cmp_down l s ha a b)
  have HB0 := Lib.hid ((Below.refl w.heap.size w).alloc (Nat.le_refl _) (.cells (sC s) 57))
  have HS := Lib.hid (CB.new w 57 (sC s))
  have HI := Lib.hid (hI.below HB0.out)
  have C := Lib.hid (fun x ww => mcmp_any x s ww)
  clear hI ha
  have hgl : w.heap.size < (w.alloc (.cells (sC s) 57)).heap.size := HS.out.lt
  go_enter Try.func63, Try.ntmps63
  go_wp2_with fail
  generalize w.alloc (.cells #[.string s.prod, .int .i64 s.kind, .int .i64 s.expiry, .int .i64 s.strike] 57) = w1 at *
  go_loopw [9, 10, 11] (fun a b _ wr => ∃ lo hi : Nat, lo ≤ hi ∧ hi ≤ l.length ∧ a = .int .i64 (lo : Int) ∧ b = .int .i64 (hi : Int) ∧ Hid (∀ j, j < lo → EM.cmp (MR.mAt l j).ser s < 0) ∧ Hid (∀ j, hi ≤ j → j < l.length → 0 ≤ EM.cmp (MR.mAt l j).ser s) ∧ Hid (Below w1.heap.size w1 wr) ∧ Hid (Below w.heap.size w wr)) (fun a b _ _ => (intOf b).toNat - (intOf a).toNat)
  case atStart => exact ⟨0, l.length, by omega, by omega, rfl, rfl, Lib.hid (fun j h => by omega), Lib.hid (fun j h1 h2 => by omega), Lib.hid (Below.refl _ _), HB0⟩
  case round =>
    obtain ⟨lo, hi, hlh, hhi, rfl, rfl, HL, HH, HB, HBB⟩ := hrel
    by_cases hlt : lo < hi
    · obtain ⟨k, hk⟩ : ∃ k, k = (lo + hi) / 2 := ⟨_, rfl⟩
      have hk4 : ((lo : Int) + (hi : Int)) / 2 = (k : Int) := by omega
      have hk1 : lo ≤ k := by omega
      have hk2 : k < hi := by omega
      have hkl : k < l.length := by omega
      have HKK := Lib.hid hk
      clear hk
      obtain ⟨b, off, x, rfl, hb, HV, q, d0, d1, d2, d3, d4⟩ := marks_get (HI.out.below HB.out) hkl
      have HSF := Lib.hid (bs_step (w1 := w1) (HS.out.below HB.out hgl) (Nat.lt_of_lt_of_le hgl HB.out.size) hb d0 d1 d2 d3 d4)
      have HV2 : Hid (EM.cmp (MR.mAt l k).ser s = EM.cmp x.ser s) := Lib.hid (by rw [HV.out])
      have C1 := Lib.hid (fun ww => C.out x ww)
      have hj0 : (0 : Int) ≤ (k : Int) := by omega
      have hj1 : (k : Int) < (l.length : Int) := by omega
      clear q d0 d1 d2 d3 d4
      have S0 := HSF.out wr (Below.refl _ _)
      obtain ⟨⟨d0, d1, d2, d3, d4⟩, s0, s1, s2, s3⟩ := S0
      by_cases hc : EM.cmp x.ser s < 0
      · have HL2 : Hid (∀ j, j < k + 1 → EM.cmp (MR.mAt l j).ser s < 0) := Lib.hid (fun j hj => HD.out j k (by omega) hkl (by rw [HV2.out]; exact hc))
        generalize EM.cmp x.ser s = cm at *
        go_wp2_with fail
        have HBw : Hid (Below wr.heap.size wr wr.drew) := Lib.hid (Below.refl _ _).drew
        go_region_held3 (fun ww => ((ww.cell? ⟨b, off + k * 5, none⟩ = some (.string x.ser.prod) ∧ ww.cell? ⟨b, off + k * 5 + 1, none⟩ = some (.int .i64 x.ser.kind) ∧ ww.cell? ⟨b, off + k * 5 + 2, none⟩ = some (.int .i64 x.ser.expiry) ∧ ww.cell? ⟨b, off + k * 5 + 3, none⟩ = some (.int .i64 x.ser.strike) ∧ ww.cell? ⟨b, off + k * 5 + 4, none⟩ = some (.int .i64 x.price)) ∧
          (ww.cell? ⟨w.heap.size, 0, none⟩ = some (.string s.prod) ∧ ww.cell? ⟨w.heap.size, 1, none⟩ = some (.int .i64 s.kind) ∧ ww.cell? ⟨w.heap.size, 2, none⟩ = some (.int .i64 s.expiry) ∧ ww.cell? ⟨w.heap.size, 3, none⟩ = some (.int .i64 s.strike))))
          (with_reducible exact HSF.out _ HBw.out)
          ((go_at_call 64; refine (C1.out _).mono ?_; rintro e w5 ⟨rfl, b5⟩; replace HBw := Lib.hid (HBw.out.trans (b5.mono HBw.out.size)); clear b5))
        all_goals (
          have HB2 := Lib.hid (HB.out.trans (HBw.out.mono HB.out.size))
          have HBB2 := Lib.hid (HBB.out.trans (HBw.out.mono HBB.out.size))
          clear HSF HBw d0 d1 d2 d3 d4 s0 s1 s2 s3
          go_wp2_with fail
          go_roundw
          case rel => exact ⟨k + 1, hi, by omega, hhi, by go_num, rfl, HL2, HH, HB2, HBB2⟩
          case measure => simp [intOf]; omega)
      · have HH2 : Hid (∀ j, k ≤ j → j < l.length → 0 ≤ EM.cmp (MR.mAt l j).ser s) := Lib.hid (fun j h1 h2 => Int.not_lt.1 fun h3 => by have := HD.out k j h1 h2 h3; rw [HV2.out] at this; exact hc this)
        generalize EM.cmp x.ser s = cm at *
        go_wp2_with fail
        have HBw : Hid (Below wr.heap.size wr wr.drew) := Lib.hid (Below.refl _ _).drew
        go_region_held3 (fun ww => ((ww.cell? ⟨b, off + k * 5, none⟩ = some (.string x.ser.prod) ∧ ww.cell? ⟨b, off + k * 5 + 1, none⟩ = some (.int .i64 x.ser.kind) ∧ ww.cell? ⟨b, off + k * 5 + 2, none⟩ = some (.int .i64 x.ser.expiry) ∧ ww.cell? ⟨b, off + k * 5 + 3, none⟩ = some (.int .i64 x.ser.strike) ∧ ww.cell? ⟨b, off + k * 5 + 4, none⟩ = some (.int .i64 x.price)) ∧
          (ww.cell? ⟨w.heap.size, 0, none⟩ = some (.string s.prod) ∧ ww.cell? ⟨w.heap.size, 1, none⟩ = some (.int .i64 s.kind) ∧ ww.cell? ⟨w.heap.size, 2, none⟩ = some (.int .i64 s.expiry) ∧ ww.cell? ⟨w.heap.size, 3, none⟩ = some (.int .i64 s.strike))))
          (with_reducible exact HSF.out _ HBw.out)
          ((go_at_call 64; refine (C1.out _).mono ?_; rintro e w5 ⟨rfl, b5⟩; replace HBw := Lib.hid (HBw.out.trans (b5.mono HBw.out.size)); clear b5))
        all_goals (
          have HB2 := Lib.hid (HB.out.trans (HBw.out.mono HB.out.size))
          have HBB2 := Lib.hid (HBB.out.trans (HBw.out.mono HBB.out.size))
          clear HSF HBw d0 d1 d2 d3 d4 s0 s1 s2 s3
          go_wp2_with fail
          go_roundw
          case rel => exact ⟨lo, k, hk1, by omega, rfl, rfl, HL, HH2, HB2, HBB2⟩
          case measure => simp [intOf]; omega)
    · obtain rfl : lo = hi := by omega
      have HE : Hid (MR.Edge l s lo) := Lib.hid ⟨hhi, HL.out, fun j h1 h2 => Int.not_lt.2 (HH.out j h1 h2)⟩
      by_cases hin : lo < l.length
      · obtain ⟨b, off, x, rfl, hb, HV, q, d0, d1, d2, d3, d4⟩ := marks_get (HI.out.below HB.out) hin
        have HSF := Lib.hid (bs_step (w1 := w1) (HS.out.below HB.out hgl) (Nat.lt_of_lt_of_le hgl HB.out.size) hb d0 d1 d2 d3 d4)
        have HF : Hid (decide (lo < l.length ∧ EM.cmp (MR.mAt l lo).ser s = 0) = (EM.cmp x.ser s == 0)) := Lib.hid (by rw [HV.out, Bool.eq_iff_iff]; simp [hin])
        have C1 := Lib.hid (fun ww => C.out x ww)
        have hj0 : (0 : Int) ≤ (lo : Int) := by omega
        have hj1 : (lo : Int) < (l.length : Int) := by omega
        clear q
        have S0 := HSF.out wr (Below.refl _ _)
        generalize EM.cmp x.ser s = cm at *
        generalize hf : (cm == 0) = fb at *
        clear hlh hlt
        go_wp2_with fail
        have HBw : Hid (Below wr.heap.size wr wr.drew) := Lib.hid (Below.refl _ _).drew
        go_region_held3 (fun ww => ((ww.cell? ⟨b, off + lo * 5, none⟩ = some (.string x.ser.prod) ∧ ww.cell? ⟨b, off + lo * 5 + 1, none⟩ = some (.int .i64 x.ser.kind) ∧ ww.cell? ⟨b, off + lo * 5 + 2, none⟩ = some (.int .i64 x.ser.expiry) ∧ ww.cell? ⟨b, off + lo * 5 + 3, none⟩ = some (.int .i64 x.ser.strike) ∧ ww.cell? ⟨b, off + lo * 5 + 4, none⟩ = some (.int .i64 x.price)) ∧
            (ww.cell? ⟨w.heap.size, 0, none⟩ = some (.string s.prod) ∧ ww.cell? ⟨w.heap.size, 1, none⟩ = some (.int .i64 s.kind) ∧ ww.cell? ⟨w.heap.size, 2, none⟩ = some (.int .i64 s.expiry) ∧ ww.cell? ⟨w.heap.size, 3, none⟩ = some (.int .i64 s.strike))))
            (with_reducible exact HSF.out _ HBw.out)
            ((go_at_call 64; refine (C1.out _).mono ?_; rintro e w5 ⟨rfl, b5⟩; replace HBw := Lib.hid (HBw.out.trans (b5.mono HBw.out.size)); clear b5))
        all_goals (
          have HBB2 := Lib.hid (HBB.out.trans (HBw.out.mono HBB.out.size))
          clear HSF HBw d0 d1 d2 d3 d4
          go_wp2_with fail
          go_ret2
          exact ⟨⟨lo, HE, by rw [HF.out] <;> rfl⟩, HBB2.out⟩)
      · have hjf : decide ((lo : Int) < (l.length : Int)) = false := by simp; omega
        have HF : Hid (decide (lo < l.length ∧ EM.cmp (MR.mAt l lo).ser s = 0) = false) := Lib.hid (by simp; omega)
        go_wp2_with fail
        go_quiet (fail)
        go_wp2_with fail
        go_ret2
        exact ⟨⟨lo, HE, by rw [HF.out] <;> rfl⟩, by first | exact HBB.out | exact below_drewN HBB.out _⟩
end Go.Proofs.Ytaegapcccboinaa
