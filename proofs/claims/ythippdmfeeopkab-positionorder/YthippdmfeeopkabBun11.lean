/- Put together: PosP, PosMath3, PosMath4, PosI, PosJ, PosK, PosL. -/
import Derived.Test.YthippdmfeeopkabBun10
import Derived.Test.YthippdmfeeopkabBun6
import Derived.Test.YthippdmfeeopkabBun1
/- Contracts of layer 15: Find. -/
namespace Go.Proofs.Ythippdmfeeopkab
open Go.RowKit Go.Recs
set_option linter.unusedVariables false
set_option linter.unusedSimpArgs false
set_option maxHeartbeats 4000000 in
set_option maxRecDepth 100000 in
theorem pfindl_any (A : Option Addr) (l : List PO.Pos) (cap : Nat) (s : EM.Ser) (w : World) (hI : Poss w A l) :
    Calls Try.prog 9 #[.slice A l.length cap, serA s] w fun e w' => e = .returned (posA (PO.findP l s)) ∧ Below w.heap.size w w' := by
  have hlen := hI.len
  have HBa := Lib.hid ((Below.refl w.heap.size w).alloc (Nat.le_refl _) (.cells (serC s) 31))
  have HG0 := Lib.hid (CB.new w 31 (serC s))
  have HB0 := Lib.hid (below_al HBa.out (.cells (posC PO.zero) 38))
  have HG := Lib.hid (HG0.out.alloc (.cells (posC PO.zero) 38))
  have HT0 := Lib.hid (CB.new1 w (.cells (serC s) 31) 38 (posC PO.zero))
  have HI := Lib.hid (hI.below HB0.out)
  have C1 := Lib.hid (fun ww h => pplace_any A l cap s ww h)
  clear hI HBa HG0
  cases hp : PO.fidx l s with
  | none =>
    have ef : PO.findP l s = ⟨s, 0, 0⟩ := by unfold PO.findP; rw [hp]
    rw [ef]
    rw [hp, show ixP none = -1 from rfl] at C1
    clear hp ef
    go_enter Try.func9, Try.ntmps9
    go_wp2_with fail
    refine (C1.out _ HI.out).mono ?_
    rintro e w1 ⟨rfl, b1⟩
    have HB1 := Lib.hid (HB0.out.trans (b1.mono HB0.out.size))
    have HT1 := Lib.hid (HT0.out.below b1 HT0.out.lt)
    have HG1 := Lib.hid (HG.out.below b1 HG.out.lt)
    clear b1
    have s0 := HG1.out.cell 0; have s1 := HG1.out.cell 1; have s2 := HG1.out.cell 2; have s3 := HG1.out.cell 3
    have k0 := HT1.out.cell 0; have k1 := HT1.out.cell 1; have k2 := HT1.out.cell 2; have k3 := HT1.out.cell 3; have k4 := HT1.out.cell 4; have k5 := HT1.out.cell 5
    simp only [List.getElem?_toArray, List.getElem?_cons_zero, List.getElem?_cons_succ] at s0 s1 s2 s3 k0 k1 k2 k3 k4 k5
    have f0 := HT1.out.frozen 0; have f1 := HT1.out.frozen 1; have f2 := HT1.out.frozen 2; have f3 := HT1.out.frozen 3; have f4 := HT1.out.frozen 4; have f5 := HT1.out.frozen 5
    have hzl := HT1.out.lt
    go_wp2_with fail
    (try simp only [Exit.inBlock, Exit.then])
    exact bodyPost_ret (results_pos (x := ⟨s, 0, 0⟩) rfl _ _ _ rfl (HT1.out.putP ⟨s, 0, 0⟩)) rfl ⟨rfl, putP_below HB1.out (Nat.le_succ _) ⟨s, 0, 0⟩⟩
  | some i =>
    obtain ⟨hi, -⟩ := List.findIdx?_eq_some_iff_getElem.1 hp
    have ef : PO.findP l s = PO.pAt l i := by unfold PO.findP; rw [hp]
    rw [ef]
    rw [hp, show ixP (some i) = (i : Int) from rfl] at C1
    clear hp ef
    generalize hx : PO.pAt l i = x at *
    have HXX := Lib.hid hx
    clear hx
    go_enter Try.func9, Try.ntmps9
    go_wp2_with fail
    refine (C1.out _ HI.out).mono ?_
    rintro e w1 ⟨rfl, b1⟩
    have HB1 := Lib.hid (HB0.out.trans (b1.mono HB0.out.size))
    have HT1 := Lib.hid (HT0.out.below b1 HT0.out.lt)
    have HG1 := Lib.hid (HG.out.below b1 HG.out.lt)
    obtain ⟨b, off, t, rfl, hb, HV, q, d0, d1, d2, d3, d4, d5⟩ := poss_get (HI.out.below b1) hi
    obtain rfl : x = t := HXX.out.symm.trans HV.out
    clear b1 q HV HXX
    have s0 := HG1.out.cell 0; have s1 := HG1.out.cell 1; have s2 := HG1.out.cell 2; have s3 := HG1.out.cell 3
    have k0 := HT1.out.cell 0; have k1 := HT1.out.cell 1; have k2 := HT1.out.cell 2; have k3 := HT1.out.cell 3; have k4 := HT1.out.cell 4; have k5 := HT1.out.cell 5
    simp only [List.getElem?_toArray, List.getElem?_cons_zero, List.getElem?_cons_succ] at s0 s1 s2 s3 k0 k1 k2 k3 k4 k5
    have f0 := HT1.out.frozen 0; have f1 := HT1.out.frozen 1; have f2 := HT1.out.frozen 2; have f3 := HT1.out.frozen 3; have f4 := HT1.out.frozen 4; have f5 := HT1.out.frozen 5
    have hzl := HT1.out.lt
    go_wp2_with fail
    (try simp only [Exit.inBlock, Exit.then])
    exact bodyPost_ret (results_pos (x := x) rfl _ _ _ rfl (HT1.out.putP x)) rfl ⟨rfl, putP_below HB1.out (Nat.le_succ _) x⟩
end Go.Proofs.Ythippdmfeeopkab

/- Layer 15's mathematics: lots moved. -/
namespace PO
def mv0E (fr to : List Pos) (kind lo sh : Int) : Int :=
  if checkE fr ≠ 0 then checkE fr else if checkE to ≠ 0 then checkE to else if ¬ (1 ≤ kind ∧ kind ≤ 3) then 21 else if ¬ lotsB lo sh = true then 18 else 0
def lessP (l : List Pos) (s : EM.Ser) (lo sh : Int) : Pos := ⟨s, (findP l s).lo - lo, (findP l s).sh - sh⟩
def gvE (l : List Pos) (s : EM.Ser) (lo sh : Int) : Int := if (findP l s).lo < lo ∨ (findP l s).sh < sh then 30 else 0
def gvL (l : List Pos) (s : EM.Ser) (lo sh : Int) : List Pos := if gvE l s lo sh = 0 then putsL l (lessP l s lo sh) else []
/-- one of the two legs -/
def r1E (l : List Pos) (kind : Int) (s : EM.Ser) (q : Int) : Int := if q = 0 then 0 else applyE l kind s q 0
def r1L (l : List Pos) (kind : Int) (s : EM.Ser) (q : Int) : List Pos := if q = 0 then l else applyL l kind s q 0
def rcE (l : List Pos) (kind : Int) (s : EM.Ser) (lo sh : Int) : Int := if r1E l kind s lo ≠ 0 then r1E l kind s lo else r1E (r1L l kind s lo) kind s (-sh)
def rcL (l : List Pos) (kind : Int) (s : EM.Ser) (lo sh : Int) : List Pos := if rcE l kind s lo sh = 0 then r1L (r1L l kind s lo) kind s (-sh) else []
def mvE (fr to : List Pos) (kind : Int) (s : EM.Ser) (lo sh : Int) : Int :=
  if mv0E fr to kind lo sh ≠ 0 then mv0E fr to kind lo sh else if gvE fr s lo sh ≠ 0 then gvE fr s lo sh else rcE to kind s lo sh
def mvA (fr to : List Pos) (kind : Int) (s : EM.Ser) (lo sh : Int) : List Pos := if mvE fr to kind s lo sh = 0 then gvL fr s lo sh else []
def mvB (fr to : List Pos) (kind : Int) (s : EM.Ser) (lo sh : Int) : List Pos := if mvE fr to kind s lo sh = 0 then rcL to kind s lo sh else []
theorem puts_mem {l : List Pos} {p q : Pos} (h : q ∈ putsL l p) : q = p ∨ q ∈ l := by
  unfold putsL at h
  split at h
  · exact .inr (List.mem_filter.1 h).1
  · rcases List.mem_cons.1 ((ins_perm p _).mem_iff.1 h) with h | h
    · exact .inl h
    · exact .inr (List.mem_filter.1 h).1
theorem apply_inv {l : List Pos} {kind : Int} {s : EM.Ser} {qty closes : Int} (h : applyE l kind s qty closes = 0) :
    checkE l = 0 ∧ legE kind qty closes = 0 ∧ chgE (findP l s) qty (cloS kind qty closes (findP l s)) = 0 ∧ (putsL l (newP l kind s qty closes)).length ≤ 128 ∧ applyL l kind s qty closes = putsL l (newP l kind s qty closes) := by
  have e : applyL l kind s qty closes = putsL l (newP l kind s qty closes) := by unfold applyL; rw [if_pos h]
  unfold applyE at h
  split at h
  · rename_i g; exact absurd h g
  rename_i g1
  split at h
  · rename_i g; exact absurd h g
  rename_i g2
  split at h
  · rename_i g; exact absurd h g
  rename_i g3
  split at h
  · cases h
  rename_i g4
  exact ⟨by omega, by omega, by omega, by omega, e⟩
theorem apply_no {l : List Pos} {kind : Int} {s : EM.Ser} {qty closes : Int} (h : ¬ applyE l kind s qty closes = 0) : applyL l kind s qty closes = [] := by unfold applyL; rw [if_neg h]
theorem lots_two {lo sh : Int} (h : lotsB lo sh = true) : (0 ≤ lo ∧ lo ≤ 1048576) ∧ (0 ≤ sh ∧ sh ≤ 1048576) ∧ (¬ lo = 0 ∨ ¬ sh = 0) := by
  have := lotsB_iff.1 h
  omega
end PO

/- Layer 15's mathematics: each series' Net behind a row of legs. -/
namespace PO
structure Dor where
  leg : NM.Leg
  clo : Int
def Dor.zero : Dor := ⟨NM.zero, 0⟩
def dAt (l : List Dor) (k : Nat) : Dor := l.getD k Dor.zero
theorem dAt_get {l : List Dor} {k : Nat} (h : k < l.length) : dAt l k = l[k] := by simp [dAt, List.getD, h]
def net (p : Pos) : Int := p.lo - p.sh
def inc (x : Dor) (s : EM.Ser) : Int := if NM.seqB x.leg.ser s = true then x.leg.qty else 0
def sumI (s : EM.Ser) : List Dor → Int
  | [] => 0
  | x :: r => inc x s + sumI s r
theorem sumI_append (s : EM.Ser) : ∀ (a b : List Dor), sumI s (a ++ b) = sumI s a + sumI s b
  | [], b => by simp [sumI]
  | x :: a, b => by simp only [List.cons_append, sumI, sumI_append s a b]; omega
theorem sumI_take {l : List Dor} {k : Nat} (h : k < l.length) (s : EM.Ser) : sumI s (l.take (k + 1)) = sumI s (l.take k) + inc (dAt l k) s := by
  rw [List.take_succ_eq_append_getElem h, sumI_append, dAt_get h]; simp [sumI]
theorem sumI_drop {l : List Dor} {k : Nat} (h : k < l.length) (s : EM.Ser) : sumI s (l.drop k) = sumI s (l.drop (k + 1)) + inc (dAt l k) s := by
  rw [List.drop_eq_getElem_cons h, dAt_get h]; simp only [sumI]; omega
theorem sumI_small {l : List Dor} (s : EM.Ser) (h : ∀ j, j < l.length → -1048576 ≤ (dAt l j).leg.qty ∧ (dAt l j).leg.qty ≤ 1048576) : ∀ k, k ≤ l.length → -1048576 * (k : Int) ≤ sumI s (l.take k) ∧ sumI s (l.take k) ≤ 1048576 * (k : Int)
  | 0, _ => by simp [sumI]
  | k + 1, hk => by
    have h1 := sumI_small s h k (by omega)
    have h2 := h k (by omega)
    rw [sumI_take (by omega)]
    have h3 : -1048576 ≤ inc (dAt l k) s ∧ inc (dAt l k) s ≤ 1048576 := by unfold inc; split <;> omega
    omega
theorem find_mem {m : List Pos} (h : ascP m) {q : Pos} (hq : q ∈ m) : findP m q.ser = q := by
  rcases find_cases m q.ser with ⟨h1, h2⟩ | ⟨_, h2⟩
  · exact asc_inj h h1 hq h2
  · exact absurd rfl (h2 q hq)
theorem find_not {m : List Pos} {s : EM.Ser} (h : ∀ q ∈ m, q.ser ≠ s) : findP m s = ⟨s, 0, 0⟩ := by
  rcases find_cases m s with ⟨h1, h2⟩ | ⟨h1, _⟩
  · exact absurd h2 (h _ h1)
  · exact h1
theorem mem_others {l : List Pos} {s : EM.Ser} {q : Pos} : q ∈ others l s ↔ q ∈ l ∧ q.ser ≠ s := by
  unfold others
  rw [List.mem_filter]
  constructor
  · rintro ⟨h1, h2⟩
    refine ⟨h1, fun e => ?_⟩
    rw [NM.seqB_iff.2 e] at h2; cases h2
  · rintro ⟨h1, h2⟩
    refine ⟨h1, ?_⟩
    cases hh : NM.seqB q.ser s with
    | false => rfl
    | true => exact absurd (NM.seqB_iff.1 hh) h2
theorem mem_puts {l : List Pos} {p q : Pos} : q ∈ putsL l p ↔ (q = p ∧ ¬ (p.lo = 0 ∧ p.sh = 0)) ∨ (q ∈ l ∧ q.ser ≠ p.ser) := by
  unfold putsL
  split
  · rename_i h
    rw [mem_others]
    constructor
    · exact .inr
    · rintro (⟨_, h2⟩ | h1)
      · exact absurd h h2
      · exact h1
  · rename_i h
    rw [(ins_perm p _).mem_iff, List.mem_cons, mem_others]
    constructor
    · rintro (h1 | h1)
      · exact .inl ⟨h1, h⟩
      · exact .inr h1
    · rintro (⟨h1, _⟩ | h1)
      · exact .inl h1
      · exact .inr h1
theorem find_put_same {l : List Pos} (h : ascP l) (p : Pos) : findP (putsL l p) p.ser = p := by
  by_cases hz : p.lo = 0 ∧ p.sh = 0
  · rw [find_not (fun q hq => ?_)]
    · obtain ⟨s, lo, sh⟩ := p
      obtain ⟨h1, h2⟩ := hz
      simp only at h1 h2
      rw [h1, h2]
    · rcases mem_puts.1 hq with ⟨_, h2⟩ | ⟨_, h2⟩
      · exact absurd hz h2
      · exact h2
  · exact find_mem (puts_asc h p) (mem_puts.2 (.inl ⟨rfl, hz⟩))
theorem find_put_other {l : List Pos} (h : ascP l) (p : Pos) {s : EM.Ser} (hs : s ≠ p.ser) : findP (putsL l p) s = findP l s := by
  rcases find_cases l s with ⟨h1, h2⟩ | ⟨h1, h2⟩
  · have := find_mem (puts_asc h p) (q := findP l s) (mem_puts.2 (.inr ⟨h1, by rw [h2]; exact hs⟩))
    rwa [h2] at this
  · rw [h1]
    refine find_not fun q hq e => ?_
    rcases mem_puts.1 hq with ⟨h3, _⟩ | ⟨h3, _⟩
    · rw [h3] at e; exact hs e.symm
    · exact h2 q h3 e
theorem check_of_good {l : List Pos} (hl : l.length ≤ 128) (ha : ascP l) (hg : ∀ p ∈ l, lotsB p.lo p.sh = true) : checkE l = 0 := by
  refine check_ok (by omega) fun j hj => ?_
  unfold eAt
  rw [if_neg, if_pos]
  · rw [pAt_get hj]; exact hg _ (List.getElem_mem hj)
  · rintro ⟨h0, h1⟩
    have hl : EM.lt (pAt l (j - 1)).ser (pAt l j).ser := by
      rw [pAt_get hj, pAt_get (by omega)]
      exact List.pairwise_iff_getElem.1 ha (j - 1) j (by omega) hj (by omega)
    have := EM.cmp_neg.2 hl
    omega
theorem apply_net {l : List Pos} {s : EM.Ser} {q : Int} (h : applyE l 2 s q 0 = 0) :
    (∀ s', net (findP (applyL l 2 s q 0) s') = net (findP l s') + if NM.seqB s s' = true then q else 0) ∧ checkE (applyL l 2 s q 0) = 0 ∧ checkE l = 0 ∧ -1048576 ≤ q ∧ q ≤ 1048576 := by
  obtain ⟨h1, h2, h3, h4, h5⟩ := apply_inv h
  obtain ⟨_, ha, hg⟩ := check_good h1
  obtain ⟨⟨q0, q1, q2⟩, k1, k2⟩ := clo_ok hg h2 s
  obtain ⟨e1, e2, e3, e4⟩ := chg_q (find_lots hg s) k1 k2 h3
  have es : (newP l 2 s q 0).ser = s := by unfold newP; rw [e1, find_ser]
  have en : net (newP l 2 s q 0) = net (findP l s) + q := by
    unfold newP net chg absI
    split
    · show (findP l s).lo - _ - ((findP l s).sh + (-q - _)) = _; omega
    · show (findP l s).lo + (q - _) - ((findP l s).sh - _) = _; omega
  rw [h5]
  refine ⟨fun s' => ?_, check_of_good h4 (puts_asc ha _) (fun p hp => ?_), h1, q1, q2⟩
  · by_cases hs : s = s'
    · subst hs
      have := find_put_same ha (newP l 2 s q 0)
      rw [es] at this
      rw [this, en, if_pos (NM.seqB_iff.2 rfl)]
    · rw [find_put_other ha _ (by rw [es]; exact fun e => hs e.symm), if_neg (fun e => hs (NM.seqB_iff.1 e))]; omega
  · rcases mem_puts.1 hp with ⟨rfl, hz⟩ | ⟨hp, _⟩
    · refine lotsB_iff.2 ⟨?_, ?_, ?_⟩
      · unfold newP; omega
      · unfold newP; omega
      · unfold newP at hz ⊢; omega
    · exact hg p hp
end PO
namespace Go.Recs
open Go.RowKit
def doV (x : PO.Dor) : List Value := [.string x.leg.am, .string x.leg.an, .string x.leg.ser.prod, .int .i64 x.leg.ser.kind, .int .i64 x.leg.ser.expiry, .int .i64 x.leg.ser.strike, .int .i64 x.leg.qty, .int .i64 x.leg.price, .int .i64 x.leg.trade, .int .i64 x.clo]
def doQ (x : PO.Dor) : Prop := legQ x.leg ∧ i64 x.clo
def doL : List Leaf := [.str, .str, .str, .int .i64, .int .i64, .int .i64, .int .i64, .int .i64, .int .i64, .int .i64]
theorem do_row (r : List Value) (h : okAll doL r) : ∃ x : PO.Dor, r = doV x ∧ doQ x := by
  obtain ⟨c0, r0, rfl, ⟨s0, rfl, h0⟩, g0⟩ := okAll_cons h
  obtain ⟨c1, r1, rfl, ⟨s1, rfl, h1⟩, g1⟩ := okAll_cons g0
  obtain ⟨c2, r2, rfl, ⟨s2, rfl, h2⟩, g2⟩ := okAll_cons g1
  obtain ⟨c3, r3, rfl, ⟨n3, rfl, h3⟩, g3⟩ := okAll_cons g2
  obtain ⟨c4, r4, rfl, ⟨n4, rfl, h4⟩, g4⟩ := okAll_cons g3
  obtain ⟨c5, r5, rfl, ⟨n5, rfl, h5⟩, g5⟩ := okAll_cons g4
  obtain ⟨c6, r6, rfl, ⟨n6, rfl, h6⟩, g6⟩ := okAll_cons g5
  obtain ⟨c7, r7, rfl, ⟨n7, rfl, h7⟩, g7⟩ := okAll_cons g6
  obtain ⟨c8, r8, rfl, ⟨n8, rfl, h8⟩, g8⟩ := okAll_cons g7
  obtain ⟨c9, r9, rfl, ⟨n9, rfl, h9⟩, g9⟩ := okAll_cons g8
  rw [okAll_nil g9]
  exact ⟨⟨⟨s0, s1, ⟨s2, n3, n4, n5⟩, n6, n7, n8⟩, n9⟩, rfl, ⟨h0, h1, ⟨h2, bounds_i64 h3, bounds_i64 h4, bounds_i64 h5⟩, bounds_i64 h6, bounds_i64 h7, bounds_i64 h8⟩, bounds_i64 h9⟩
abbrev Dos := TR doV doQ 10
theorem dos_get {w : World} {A : Option Addr} {l : List PO.Dor} (h : Dos w A l) {k : Nat} (hk : k < l.length) :
    ∃ b off, ∃ x : PO.Dor, A = some ⟨b, off, none⟩ ∧ b < w.heap.size ∧ Hid (PO.dAt l k = x) ∧ doQ x ∧ w.cell? ⟨b, off + k * 10, none⟩ = some (.string x.leg.am) ∧ w.cell? ⟨b, off + k * 10 + 1, none⟩ = some (.string x.leg.an) ∧
      w.cell? ⟨b, off + k * 10 + 2, none⟩ = some (.string x.leg.ser.prod) ∧ w.cell? ⟨b, off + k * 10 + 3, none⟩ = some (.int .i64 x.leg.ser.kind) ∧ w.cell? ⟨b, off + k * 10 + 4, none⟩ = some (.int .i64 x.leg.ser.expiry) ∧
      w.cell? ⟨b, off + k * 10 + 5, none⟩ = some (.int .i64 x.leg.ser.strike) ∧ w.cell? ⟨b, off + k * 10 + 6, none⟩ = some (.int .i64 x.leg.qty) ∧ w.cell? ⟨b, off + k * 10 + 7, none⟩ = some (.int .i64 x.leg.price) ∧ w.cell? ⟨b, off + k * 10 + 8, none⟩ = some (.int .i64 x.leg.trade) ∧ w.cell? ⟨b, off + k * 10 + 9, none⟩ = some (.int .i64 x.clo) := by
  obtain ⟨b, off, rfl, hb, hq, hc⟩ := h.at_ hk
  exact ⟨b, off, l[k], rfl, hb, Lib.hid (PO.dAt_get hk), hq, hc 0 (by omega), hc 1 (by omega), hc 2 (by omega), hc 3 (by omega), hc 4 (by omega), hc 5 (by omega), hc 6 (by omega), hc 7 (by omega), hc 8 (by omega), hc 9 (by omega)⟩
end Go.Recs

/- Contracts of layer 15: what is given, checked. -/
namespace Go.Proofs.Ythippdmfeeopkab
open Go.RowKit Go.Recs Go.Maps
set_option linter.unusedVariables false
set_option linter.unusedSimpArgs false
set_option maxHeartbeats 2000000 in
theorem pcheckmove_any (A B : Option Addr) (l m : List PO.Pos) (na ca nb cb : Nat) (hna : na = l.length) (hnb : nb = m.length) (kind lo sh : Int) (w : World) (hI : Poss w A l) (hJ : Poss w B m) :
    Calls Try.prog 30 #[.slice A na ca, .slice B nb cb, .int .i64 kind, .int .i64 lo, .int .i64 sh] w fun e w' => e = .returned (.int .i64 (PO.mv0E l m kind lo sh)) ∧ Below w.heap.size w w' := by
  subst hna hnb
  have C1 := Lib.hid (pcheck15_any A l l.length ca rfl w hI)
  have C2 := Lib.hid (fun ww h => pcheck15_any B m m.length cb rfl ww h)
  have C3 := Lib.hid (fun ww => pkind15_any kind ww)
  have C4 := Lib.hid (fun ww => plots15_any lo sh ww)
  have HJ := Lib.hid hJ
  clear hI hJ
  by_cases h1 : PO.checkE l = 0
  · rw [h1] at C1
    by_cases h2 : PO.checkE m = 0
    · rw [h2] at C2
      by_cases h3 : 1 ≤ kind ∧ kind ≤ 3
      · have e3 : (decide (1 ≤ kind) && decide (kind ≤ 3)) = true := by simp; omega
        rw [e3] at C3
        have e : PO.mv0E l m kind lo sh = if ¬ PO.lotsB lo sh = true then 18 else 0 := by unfold PO.mv0E; rw [if_neg (by simp [h1]), if_neg (by simp [h2]), if_neg (by simp [h3])]
        rw [e]
        clear e e3 h1 h2 h3
        generalize PO.lotsB lo sh = bl at *
        cases bl
        all_goals (
          go_enter Try.func30, Try.ntmps30
          go_wp2_with fail
          refine C1.out.mono ?_
          rintro e w1 ⟨rfl, b1⟩
          have HB1 := Lib.hid b1
          have HJ1 := Lib.hid (HJ.out.below b1)
          clear b1
          go_wp2_with fail
          refine (C2.out _ HJ1.out).mono ?_
          rintro e w2 ⟨rfl, b2⟩
          have HB2 := Lib.hid (HB1.out.trans (b2.mono HB1.out.size))
          clear b2
          go_wp2_with fail
          refine (C3.out _).mono ?_
          rintro e w3 ⟨rfl, rfl⟩
          go_wp2_with fail
          refine (C4.out _).mono ?_
          rintro e w3 ⟨rfl, rfl⟩
          go_wp2_with fail
          go_ret
          exact ⟨by first | rfl | simp, HB2.out⟩)
      · have e3 : (decide (1 ≤ kind) && decide (kind ≤ 3)) = false := by simp; omega
        rw [e3] at C3
        have e : PO.mv0E l m kind lo sh = 21 := by unfold PO.mv0E; rw [if_neg (by simp [h1]), if_neg (by simp [h2]), if_pos h3]
        rw [e]
        clear e e3 h1 h2 h3 C4
        go_enter Try.func30, Try.ntmps30
        go_wp2_with fail
        refine C1.out.mono ?_
        rintro e w1 ⟨rfl, b1⟩
        have HB1 := Lib.hid b1
        have HJ1 := Lib.hid (HJ.out.below b1)
        clear b1
        go_wp2_with fail
        refine (C2.out _ HJ1.out).mono ?_
        rintro e w2 ⟨rfl, b2⟩
        have HB2 := Lib.hid (HB1.out.trans (b2.mono HB1.out.size))
        clear b2
        go_wp2_with fail
        refine (C3.out _).mono ?_
        rintro e w3 ⟨rfl, rfl⟩
        go_wp2_with fail
        go_ret
        exact ⟨rfl, HB2.out⟩
    · have e : PO.mv0E l m kind lo sh = PO.checkE m := by unfold PO.mv0E; rw [if_neg (by simp [h1]), if_pos h2]
      have hne : (PO.checkE m != 0) = true := by simpa using h2
      rw [e]
      generalize PO.checkE m = r at *
      clear e h1 h2 C3 C4
      go_enter Try.func30, Try.ntmps30
      go_wp2_with fail
      refine C1.out.mono ?_
      rintro e w1 ⟨rfl, b1⟩
      have HB1 := Lib.hid b1
      have HJ1 := Lib.hid (HJ.out.below b1)
      clear b1
      go_wp2_with fail
      refine (C2.out _ HJ1.out).mono ?_
      rintro e w2 ⟨rfl, b2⟩
      have HB2 := Lib.hid (HB1.out.trans (b2.mono HB1.out.size))
      clear b2
      go_wp2_with fail
      go_ret
      exact ⟨rfl, HB2.out⟩
  · have e : PO.mv0E l m kind lo sh = PO.checkE l := by unfold PO.mv0E; rw [if_pos h1]
    have hne : (PO.checkE l != 0) = true := by simpa using h1
    rw [e]
    generalize PO.checkE l = r at *
    clear e h1 C2 C3 C4
    go_enter Try.func30, Try.ntmps30
    go_wp2_with fail
    refine C1.out.mono ?_
    rintro e w1 ⟨rfl, b1⟩
    have HB1 := Lib.hid b1
    clear b1
    go_wp2_with fail
    go_ret
    exact ⟨rfl, HB1.out⟩
set_option maxHeartbeats 4000000 in
set_option maxRecDepth 100000 in
theorem pgiven_any (A : Option Addr) (l : List PO.Pos) (n cap : Nat) (hn : n = l.length) (hc : PO.checkE l = 0) (s : EM.Ser) (hs : serQ s) (lo sh : Int) (hls : (0 ≤ lo ∧ lo ≤ 1048576) ∧ 0 ≤ sh ∧ sh ≤ 1048576) (w : World) (hI : Poss w A l) :
    Calls Try.prog 31 #[.slice A n cap, serA s, .int .i64 lo, .int .i64 sh] w fun e w' => ∃ v, e = .returned (.tuple #[v, .int .i64 (PO.gvE l s lo sh)]) ∧ OwnR w' w.heap.size 38 6 v ((PO.gvL l s lo sh).map posV) ∧ Below w.heap.size w w' := by
  subst hn
  have hlen := hI.len
  have HB0 := Lib.hid (below_al (Below.refl w.heap.size w) (.cells #[.string s.prod, .int .i64 s.kind, .int .i64 s.expiry, .int .i64 s.strike] 31))
  have HX0 := Lib.hid (SBox.new w s)
  have HI0 := Lib.hid (hI.below HB0.out)
  have HQL := Lib.hid hI.2
  clear hI
  obtain ⟨hl1, ha, hg⟩ := PO.check_good hc
  have hfl := PO.find_lots hg s
  have hfs := PO.find_ser l s
  have C3 := Lib.hid (fun ww h => pindexed_any A l l.length cap rfl hc ww h)
  have C4 := Lib.hid (fun b nn D ps (hp : ps.Perm l) ww hS hw => pfind_any (PO.findP l s) s hs b nn D ps hS (fun p hh => HQL.out p (hp.mem_iff.1 hh)) (PO.find_perm hp s) ww hw)
  have HNP : Hid (PO.lessP l s lo sh = ⟨(PO.findP l s).ser, (PO.findP l s).lo - lo, (PO.findP l s).sh - sh⟩) := Lib.hid (by unfold PO.lessP; rw [hfs])
  have HNQ : Hid (posQ (PO.lessP l s lo sh)) := Lib.hid ⟨hs, ⟨by show -9223372036854775808 ≤ (PO.findP l s).lo - lo; omega, by show (PO.findP l s).lo - lo ≤ 9223372036854775807; omega⟩, ⟨by show -9223372036854775808 ≤ (PO.findP l s).sh - sh; omega, by show (PO.findP l s).sh - sh ≤ 9223372036854775807; omega⟩⟩
  have HPL : Hid (∀ ps : List PO.Pos, ps.Perm l → (PO.putM ps (PO.lessP l s lo sh)).Perm (PO.putsL l (PO.lessP l s lo sh))) := Lib.hid (fun ps h => PO.puts_perm h _)
  have HPN : Hid ((PO.putsL l (PO.lessP l s lo sh)).length ≤ 129) := Lib.hid (by
    unfold PO.putsL
    split
    · have := List.length_filter_le (fun q : PO.Pos => !NM.seqB q.ser (PO.lessP l s lo sh).ser) l
      unfold PO.others; omega
    · rw [(PO.ins_perm _ _).length_eq, List.length_cons]
      have := List.length_filter_le (fun q : PO.Pos => !NM.seqB q.ser (PO.lessP l s lo sh).ser) l
      unfold PO.others; omega)
  have HAS : Hid (PO.ascP (PO.putsL l (PO.lessP l s lo sh))) := Lib.hid (PO.puts_asc ha _)
  have KE : Hid (((PO.findP l s).lo < lo ∨ (PO.findP l s).sh < sh → PO.gvE l s lo sh = 30 ∧ PO.gvL l s lo sh = []) ∧ (¬ ((PO.findP l s).lo < lo ∨ (PO.findP l s).sh < sh) → PO.gvE l s lo sh = 0 ∧ PO.gvL l s lo sh = PO.putsL l (PO.lessP l s lo sh))) := Lib.hid ⟨fun h => by
      have e : PO.gvE l s lo sh = 30 := by unfold PO.gvE; rw [if_pos h]
      exact ⟨e, by unfold PO.gvL; rw [e]; rfl⟩, fun h => by
      have e : PO.gvE l s lo sh = 0 := by unfold PO.gvE; rw [if_neg h]
      exact ⟨e, by unfold PO.gvL; rw [if_pos e]⟩⟩
  obtain ⟨⟨a1, a2⟩, a3, a4⟩ := hfl
  obtain ⟨⟨b1, b2⟩, b3, b4⟩ := hls
  generalize PO.gvE l s lo sh = ge at *
  generalize PO.gvL l s lo sh = gl at *
  generalize PO.lessP l s lo sh = np at *
  generalize PO.findP l s = fp at *
  generalize PO.putsL l np = pl at *
  clear hc ha hg hfs
  go_enter Try.func31, Try.ntmps31
  go_wp2_with fail
  generalize w.alloc (.cells #[.string s.prod, .int .i64 s.kind, .int .i64 s.expiry, .int .i64 s.strike] 31) = w0 at *
  refine (C3.out _ HI0.out).mono ?_
  rintro e w2 ⟨rfl, ⟨D, ps, hm, hS, hP⟩, bb2⟩
  have HB2 := Lib.hid (HB0.out.trans (bb2.mono HB0.out.size))
  have HX2 := Lib.hid (HX0.out.below bb2 HX0.out.lt)
  have HM2 := Lib.hid hm; have HS2 := Lib.hid hS; have HP2 := Lib.hid hP
  have HLE : Hid (w.heap.size ≤ w0.heap.size) := Lib.hid HB0.out.size
  have C4b := Lib.hid (C4.out _ _ D ps hP w2 hS hm)
  obtain ⟨x2, x3, x4, x5⟩ := HX2.out.cells
  have xl2 := HX2.out.lt
  clear bb2 hm hS hP HX0 HI0 C3 C4 HB0
  generalize hbk : w0.heap.size = bk at *
  clear hbk
  go_wp2_with fail
  refine C4b.out.mono ?_
  clear x2 x3 x4 x5 xl2
  rintro e w3 ⟨rfl, bb3⟩
  have HB3 := Lib.hid (HB2.out.trans (bb3.mono HB2.out.size))
  have HGB : Hid (bk ≠ w3.heap.size) := Lib.hid (by have := HM2.out.lt; have := bb3.size; omega)
  have HM3 := Lib.hid (owns_below HM2.out bb3)
  clear bb3 C4b HX2 HM2 HB2
  by_cases hlt : fp.lo < lo ∨ fp.sh < sh
  · have HR := Lib.hid (KE.out.1 hlt)
    have HB4 := Lib.hid (fun (a : Array Value) => below_al HB3.out (.cells a 38))
    by_cases h1 : fp.lo < lo
    · clear hlt KE
      go_wp2_with fail
      go_ret2
      exact ⟨_, by rw [HR.out.1] <;> rfl, by rw [HR.out.2]; exact OwnR.nil _ _ _ _, HB4.out _⟩
    · have h2 : fp.sh < sh := by omega
      clear hlt KE
      go_wp2_with fail
      go_ret2
      exact ⟨_, by rw [HR.out.1] <;> rfl, by rw [HR.out.2]; exact OwnR.nil _ _ _ _, HB4.out _⟩
  · have HR := Lib.hid (KE.out.2 hlt)
    have h1 : ¬ fp.lo < lo := fun h => hlt (.inl h)
    have h2 : ¬ fp.sh < sh := fun h => hlt (.inr h)
    have HM7 : Hid ((w3.alloc (.cells #[.string fp.ser.prod, .int .i64 fp.ser.kind, .int .i64 fp.ser.expiry, .int .i64 fp.ser.strike, .int .i64 (fp.lo - lo), .int .i64 (fp.sh - sh)] 38)).ownsMap Try.prog 31 posElem bk l.length D) := Lib.hid (HM3.out.alloc _)
    have HB7 := Lib.hid (below_al HB3.out (.cells #[.string fp.ser.prod, .int .i64 fp.ser.kind, .int .i64 fp.ser.expiry, .int .i64 fp.ser.strike, .int .i64 (fp.lo - lo), .int .i64 (fp.sh - sh)] 38))
    have hnp := HNP.out
    subst hnp
    have C7 := Lib.hid (pput_any _ HNQ.out bk l.length D ps HS2.out (fun p hh => HQL.out p (HP2.out.mem_iff.1 hh)) (by omega) _ HM7.out)
    clear hlt KE HNP
    go_wp2_with fail
    generalize w3.alloc (.cells #[.string fp.ser.prod, .int .i64 fp.ser.kind, .int .i64 fp.ser.expiry, .int .i64 fp.ser.strike, .int .i64 (fp.lo - lo), .int .i64 (fp.sh - sh)] 38) = w7 at *
    refine C7.out.mono ?_
    rintro e w8 ⟨rfl, ⟨D8, hm8, hs8⟩, hb8⟩
    have HB8 := Lib.hid (HB7.out.trans (hb8 w.heap.size HLE.out))
    have C9 := Lib.hid (plist_any bk _ D8 _ pl hs8 (by rw [(HPL.out ps HP2.out).length_eq]; have := HPN.out; omega) (HPL.out ps HP2.out) HAS.out w8 hm8)
    clear hm8 hs8 hb8 C7
    go_wp2_with fail
    refine C9.out.mono ?_
    rintro e w9 ⟨v, rfl, g1, g2⟩
    have H1 := Lib.hid (g1.lower HB8.out.size); have H2 := Lib.hid (HB8.out.trans (g2.mono HB8.out.size))
    clear g1 g2
    go_wp2_with fail
    go_ret2
    exact ⟨_, by rw [HR.out.1] <;> rfl, by rw [HR.out.2]; exact H1.out, H2.out⟩
end Go.Proofs.Ythippdmfeeopkab

/- Contracts of layer 15: what is received. -/
namespace Go.Proofs.Ythippdmfeeopkab
open Go.RowKit Go.Recs Go.Maps
set_option linter.unusedVariables false
set_option linter.unusedSimpArgs false
theorem apply_posQ {l : List PO.Pos} (hq : ∀ p ∈ l, posQ p) {s : EM.Ser} (hs : serQ s) (kind qty closes : Int) : ∀ p ∈ PO.applyL l kind s qty closes, posQ p := by
  intro p hp
  by_cases he : PO.applyE l kind s qty closes = 0
  · obtain ⟨h1, h2, h3, _, h5⟩ := PO.apply_inv he
    rw [h5] at hp
    obtain ⟨_, _, hg⟩ := PO.check_good h1
    obtain ⟨⟨q0, q1, q2⟩, k1, k2⟩ := PO.clo_ok hg h2 s
    obtain ⟨e1, e2, e3, e4⟩ := PO.chg_q (PO.find_lots hg s) k1 k2 h3
    rcases PO.puts_mem hp with rfl | hp
    · exact ⟨by show serQ (PO.chg _ _ _).ser; rw [e1, PO.find_ser]; exact hs, ⟨by show _ ≤ (PO.chg _ _ _).lo; omega, by show (PO.chg _ _ _).lo ≤ _; omega⟩, ⟨by show _ ≤ (PO.chg _ _ _).sh; omega, by show (PO.chg _ _ _).sh ≤ _; omega⟩⟩
    · exact hq p hp
  · rw [PO.apply_no he] at hp
    cases hp
abbrev sleg (s : EM.Ser) (q : Int) : NM.Leg := ⟨⟨#[]⟩, ⟨#[]⟩, s, q, 0, 0⟩
theorem sleg_q {s : EM.Ser} (hs : serQ s) {q : Int} (h1 : -1048576 ≤ q) (h2 : q ≤ 1048576) : legQ (sleg s q) := by
  have z : (⟨#[]⟩ : ByteArray).size ≤ maxLen := by decide
  have z0 : i64 0 := ⟨by decide, by decide⟩
  exact ⟨z, z, hs, ⟨by show _ ≤ q; omega, by show q ≤ _; omega⟩, z0, z0⟩
set_option maxHeartbeats 4000000 in
set_option maxRecDepth 100000 in
theorem preceived_any (A : Option Addr) (l : List PO.Pos) (n cap : Nat) (hn : n = l.length) (kind : Int) (s : EM.Ser) (hs : serQ s) (lo sh : Int) (hls : (0 ≤ lo ∧ lo ≤ 1048576) ∧ (0 ≤ sh ∧ sh ≤ 1048576) ∧ (¬ lo = 0 ∨ ¬ sh = 0)) (w : World) (hI : Poss w A l) :
    Calls Try.prog 32 #[.slice A n cap, .int .i64 kind, serA s, .int .i64 lo, .int .i64 sh] w fun e w' => ∃ v, e = .returned (.tuple #[v, .int .i64 (PO.rcE l kind s lo sh)]) ∧ OwnR w' w.heap.size 38 6 v ((PO.rcL l kind s lo sh).map posV) ∧ Below w.heap.size w w' := by
  subst hn
  have hlen := hI.len
  obtain ⟨⟨a1, a2⟩, ⟨a3, a4⟩, hnz⟩ := hls
  have HB0 := Lib.hid (below_al (below_al (Below.refl w.heap.size w) (.cells #[.string s.prod, .int .i64 s.kind, .int .i64 s.expiry, .int .i64 s.strike] 31)) (.cells #[.int .i64 lo, .int .i64 (-sh)] 3))
  have HX0 := Lib.hid ((SBox.new w s).alloc (.cells #[.int .i64 lo, .int .i64 (-sh)] 3))
  have HA0 := Lib.hid (CB.new1 w (.cells #[.string s.prod, .int .i64 s.kind, .int .i64 s.expiry, .int .i64 s.strike] 31) 3 #[.int .i64 lo, .int .i64 (-sh)])
  have HI0 := Lib.hid (hI.below HB0.out)
  have HQL := Lib.hid hI.2
  clear hI
  by_cases hlz : lo = 0
  · have hsn : ¬ sh = 0 := by omega
    have c1 : (lo == 0) = true := beq_t hlz
    have c2 : (-sh == 0) = false := beq_f (by omega)
    have C1 := Lib.hid (fun ww h => papply_any A l l.length cap rfl kind (sleg s (-sh)) (sleg_q hs (by omega) (by omega)) 0 ww h)
    have r1 : PO.r1E l kind s lo = 0 := by unfold PO.r1E; rw [if_pos hlz]
    have r2 : PO.r1L l kind s lo = l := by unfold PO.r1L; rw [if_pos hlz]
    have e1 : PO.rcE l kind s lo sh = PO.applyE l kind s (-sh) 0 := by unfold PO.rcE; rw [r1, r2, if_neg (by simp)]; unfold PO.r1E; rw [if_neg (by omega)]
    have e2 : PO.rcL l kind s lo sh = PO.applyL l kind s (-sh) 0 := by
      unfold PO.rcL
      rw [e1, r2]
      by_cases he : PO.applyE l kind s (-sh) 0 = 0
      · rw [if_pos he]; unfold PO.r1L; rw [if_neg (by omega)]
      · rw [if_neg he, PO.apply_no he]
    rw [e1, e2]
    have KL : Hid (¬ PO.applyE l kind s (-sh) 0 = 0 → PO.applyL l kind s (-sh) 0 = []) := Lib.hid (fun h => PO.apply_no h)
    generalize PO.applyE l kind s (-sh) 0 = r at *
    generalize PO.applyL l kind s (-sh) 0 = rl at *
    clear e1 e2 r1 r2 hnz hlz hsn
    go_enter Try.func32, Try.ntmps32
    go_wp2_with fail
    generalize (w.alloc (.cells #[.string s.prod, .int .i64 s.kind, .int .i64 s.expiry, .int .i64 s.strike] 31)).alloc (.cells #[.int .i64 lo, .int .i64 (-sh)] 3) = w0 at *
    obtain ⟨x2, x3, x4, x5⟩ := HX0.out.cells
    have xl := HX0.out.lt
    have y0 : w0.cell? ⟨w.heap.size + 1, 0, none⟩ = some (.int .i64 lo) := HA0.out.cell 0
    have y1 : w0.cell? ⟨w.heap.size + 1, 1, none⟩ = some (.int .i64 (-sh)) := HA0.out.cell 1
    have yl := HA0.out.lt
    refine wp_loop_rounds 3 ?_
    rw [rounds_succ]
    go_wp2_with fail
    rw [rounds_succ]
    by_cases hr : r = 0
    · subst hr
      go_wp2_with fail
      refine (C1.out _ HI0.out).mono ?_
      rintro e w1 ⟨v, rfl, g1, g2⟩
      have HB1 := Lib.hid (HB0.out.trans (g2.mono HB0.out.size))
      have H1 := Lib.hid (g1.lower HB0.out.size)
      clear g1 g2 x2 x3 x4 x5 y0 y1
      go_wp2_with fail
      rw [rounds_succ]
      go_wp2_with fail
      go_ret2
      exact ⟨_, rfl, H1.out, HB1.out⟩
    · have hne : (r != 0) = true := by simpa using hr
      have hrl := KL.out hr
      subst hrl
      clear hr
      go_wp2_with fail
      refine (C1.out _ HI0.out).mono ?_
      rintro e w1 ⟨v, rfl, g1, g2⟩
      have HB1 := Lib.hid (HB0.out.trans (g2.mono HB0.out.size))
      clear g1 g2 x2 x3 x4 x5 y0 y1
      go_wp2_with fail
      go_ret2
      exact ⟨_, rfl, OwnR.nil _ _ _ _, HB1.out⟩
  · have c1 : (lo == 0) = false := beq_f hlz
    have C1 := Lib.hid (fun ww h => papply_any A l l.length cap rfl kind (sleg s lo) (sleg_q hs (by omega) a2) 0 ww h)
    have HQ1 := Lib.hid (apply_posQ HQL.out hs kind lo 0)
    have r1 : PO.r1E l kind s lo = PO.applyE l kind s lo 0 := by unfold PO.r1E; rw [if_neg hlz]
    have r2 : PO.r1L l kind s lo = PO.applyL l kind s lo 0 := by unfold PO.r1L; rw [if_neg hlz]
    by_cases he : PO.applyE l kind s lo 0 = 0
    · by_cases hsz : sh = 0
      · have c2 : (-sh == 0) = true := beq_t (by omega)
        have e1 : PO.rcE l kind s lo sh = 0 := by unfold PO.rcE; rw [r1, if_neg (by simp [he])]; unfold PO.r1E; rw [if_pos (by omega)]
        have e2 : PO.rcL l kind s lo sh = PO.applyL l kind s lo 0 := by unfold PO.rcL; rw [if_pos e1, r2]; unfold PO.r1L; rw [if_pos (by omega)]
        rw [e1, e2]
        rw [he] at C1
        generalize PO.applyL l kind s lo 0 = rl at *
        clear e1 e2 r1 r2 he hnz hlz hsz
        go_enter Try.func32, Try.ntmps32
        go_wp2_with fail
        generalize (w.alloc (.cells #[.string s.prod, .int .i64 s.kind, .int .i64 s.expiry, .int .i64 s.strike] 31)).alloc (.cells #[.int .i64 lo, .int .i64 (-sh)] 3) = w0 at *
        obtain ⟨x2, x3, x4, x5⟩ := HX0.out.cells
        have xl := HX0.out.lt
        have y0 : w0.cell? ⟨w.heap.size + 1, 0, none⟩ = some (.int .i64 lo) := HA0.out.cell 0
        have y1 : w0.cell? ⟨w.heap.size + 1, 1, none⟩ = some (.int .i64 (-sh)) := HA0.out.cell 1
        have yl := HA0.out.lt
        refine wp_loop_rounds 3 ?_
        rw [rounds_succ]
        go_wp2_with fail
        refine (C1.out _ HI0.out).mono ?_
        rintro e w1 ⟨v, rfl, g1, g2⟩
        obtain ⟨A1, k1, rfl, hR1, hk1⟩ := g1.recs
        have HB1 := Lib.hid (HB0.out.trans (g2.mono HB0.out.size))
        have H1 := Lib.hid (g1.lower HB0.out.size)
        have HI1 : Hid (Poss w1 A1 rl) := Lib.hid ⟨hR1, HQ1.out⟩
        have HX1 := Lib.hid (HX0.out.below g2 HX0.out.lt)
        have HA1 := Lib.hid (HA0.out.below g2 HA0.out.lt)
        rw [List.length_map] at H1 ⊢
        clear g1 g2 x2 x3 x4 x5 y0 y1 xl yl hR1 hk1
        obtain ⟨x2, x3, x4, x5⟩ := HX1.out.cells
        have xl := HX1.out.lt
        have y0 : w1.cell? ⟨w.heap.size + 1, 0, none⟩ = some (.int .i64 lo) := HA1.out.cell 0
        have y1 : w1.cell? ⟨w.heap.size + 1, 1, none⟩ = some (.int .i64 (-sh)) := HA1.out.cell 1
        have yl := HA1.out.lt
        go_wp2_with fail
        rw [rounds_succ]
        go_wp2_with fail
        rw [rounds_succ]
        go_wp2_with fail
        go_ret2
        exact ⟨_, rfl, H1.out, HB1.out⟩
      · have c2 : (-sh == 0) = false := beq_f (by omega)
        have e1 : PO.rcE l kind s lo sh = PO.applyE (PO.applyL l kind s lo 0) kind s (-sh) 0 := by unfold PO.rcE; rw [r1, r2, if_neg (by simp [he])]; unfold PO.r1E; rw [if_neg (by omega)]
        have e2 : PO.rcL l kind s lo sh = PO.applyL (PO.applyL l kind s lo 0) kind s (-sh) 0 := by
          unfold PO.rcL
          rw [e1, r2]
          by_cases h : PO.applyE (PO.applyL l kind s lo 0) kind s (-sh) 0 = 0
          · rw [if_pos h]; unfold PO.r1L; rw [if_neg (by omega)]
          · rw [if_neg h, PO.apply_no h]
        rw [e1, e2]
        rw [he] at C1
        have KL : Hid (¬ PO.applyE (PO.applyL l kind s lo 0) kind s (-sh) 0 = 0 → PO.applyL (PO.applyL l kind s lo 0) kind s (-sh) 0 = []) := Lib.hid (fun h => PO.apply_no h)
        have C2 := Lib.hid (fun A2 c2 ww h => papply_any A2 (PO.applyL l kind s lo 0) (PO.applyL l kind s lo 0).length c2 rfl kind (sleg s (-sh)) (sleg_q hs (by omega) (by omega)) 0 ww h)
        generalize PO.applyE (PO.applyL l kind s lo 0) kind s (-sh) 0 = r at *
        generalize PO.applyL (PO.applyL l kind s lo 0) kind s (-sh) 0 = rl2 at *
        generalize PO.applyL l kind s lo 0 = rl at *
        clear e1 e2 r1 r2 he hnz hlz hsz
        go_enter Try.func32, Try.ntmps32
        go_wp2_with fail
        generalize (w.alloc (.cells #[.string s.prod, .int .i64 s.kind, .int .i64 s.expiry, .int .i64 s.strike] 31)).alloc (.cells #[.int .i64 lo, .int .i64 (-sh)] 3) = w0 at *
        obtain ⟨x2, x3, x4, x5⟩ := HX0.out.cells
        have xl := HX0.out.lt
        have y0 : w0.cell? ⟨w.heap.size + 1, 0, none⟩ = some (.int .i64 lo) := HA0.out.cell 0
        have y1 : w0.cell? ⟨w.heap.size + 1, 1, none⟩ = some (.int .i64 (-sh)) := HA0.out.cell 1
        have yl := HA0.out.lt
        refine wp_loop_rounds 3 ?_
        rw [rounds_succ]
        go_wp2_with fail
        refine (C1.out _ HI0.out).mono ?_
        rintro e w1 ⟨v, rfl, g1, g2⟩
        obtain ⟨A1, k1, rfl, hR1, hk1⟩ := g1.recs
        have HB1 := Lib.hid (HB0.out.trans (g2.mono HB0.out.size))
        have H1 := Lib.hid (g1.lower HB0.out.size)
        have HI1 : Hid (Poss w1 A1 rl) := Lib.hid ⟨hR1, HQ1.out⟩
        have HX1 := Lib.hid (HX0.out.below g2 HX0.out.lt)
        have HA1 := Lib.hid (HA0.out.below g2 HA0.out.lt)
        rw [List.length_map] at H1 ⊢
        clear g1 g2 x2 x3 x4 x5 y0 y1 xl yl hR1 hk1
        obtain ⟨x2, x3, x4, x5⟩ := HX1.out.cells
        have xl := HX1.out.lt
        have y0 : w1.cell? ⟨w.heap.size + 1, 0, none⟩ = some (.int .i64 lo) := HA1.out.cell 0
        have y1 : w1.cell? ⟨w.heap.size + 1, 1, none⟩ = some (.int .i64 (-sh)) := HA1.out.cell 1
        have yl := HA1.out.lt
        go_wp2_with fail
        rw [rounds_succ]
        go_wp2_with fail
        refine (C2.out _ _ _ HI1.out).mono ?_
        rintro e w2 ⟨v2, rfl, g1, g2⟩
        have HB2 := Lib.hid (HB1.out.trans (g2.mono HB1.out.size))
        have H2 := Lib.hid (g1.lower HB1.out.size)
        clear g1 g2 x2 x3 x4 x5 y0 y1
        by_cases hr : r = 0
        · subst hr
          go_wp2_with fail
          rw [rounds_succ]
          go_wp2_with fail
          go_ret2
          exact ⟨_, rfl, H2.out, HB2.out⟩
        · have hne : (r != 0) = true := by simpa using hr
          have hrl := Lib.hid (KL.out hr)
          clear hr
          go_wp2_with fail
          go_ret2
          exact ⟨_, rfl, by rw [hrl.out]; exact OwnR.nil _ _ _ _, HB2.out⟩
    · have e1 : PO.rcE l kind s lo sh = PO.applyE l kind s lo 0 := by unfold PO.rcE; rw [r1, if_pos he]
      have e2 : PO.rcL l kind s lo sh = [] := by unfold PO.rcL; rw [e1, if_neg he]
      have hne : (PO.applyE l kind s lo 0 != 0) = true := by simpa using he
      rw [e1, e2]
      generalize PO.applyE l kind s lo 0 = r at *
      generalize PO.applyL l kind s lo 0 = rl at *
      clear e1 e2 he r1 r2 hnz hlz
      go_enter Try.func32, Try.ntmps32
      go_wp2_with fail
      generalize (w.alloc (.cells #[.string s.prod, .int .i64 s.kind, .int .i64 s.expiry, .int .i64 s.strike] 31)).alloc (.cells #[.int .i64 lo, .int .i64 (-sh)] 3) = w0 at *
      obtain ⟨x2, x3, x4, x5⟩ := HX0.out.cells
      have xl := HX0.out.lt
      have y0 : w0.cell? ⟨w.heap.size + 1, 0, none⟩ = some (.int .i64 lo) := HA0.out.cell 0
      have y1 : w0.cell? ⟨w.heap.size + 1, 1, none⟩ = some (.int .i64 (-sh)) := HA0.out.cell 1
      have yl := HA0.out.lt
      refine wp_loop_rounds 3 ?_
      rw [rounds_succ]
      go_wp2_with fail
      refine (C1.out _ HI0.out).mono ?_
      rintro e w1 ⟨v, rfl, g1, g2⟩
      have HB1 := Lib.hid (HB0.out.trans (g2.mono HB0.out.size))
      clear g1 g2 x2 x3 x4 x5 y0 y1
      go_wp2_with fail
      go_ret2
      exact ⟨_, rfl, OwnR.nil _ _ _ _, HB1.out⟩
end Go.Proofs.Ythippdmfeeopkab

/- Contracts of layer 15: Move. -/
namespace Go.Proofs.Ythippdmfeeopkab
open Go.RowKit Go.Recs Go.Maps
set_option linter.unusedVariables false
set_option linter.unusedSimpArgs false
theorem results_ttt15 {fn : Func} {a b c : Tmp} (h : fn.results = #[.tmp a, .tmp b, .tmp c]) (tmps : Array Value) (P : Program) (w : World) : (results fn tmps).run P w = .ok (.tuple #[tmps.getD a undef, tmps.getD b undef, tmps.getD c undef]) w := by
  simp only [results, h]
  simp [Sem.run_bind, Result.andThen]
set_option maxHeartbeats 4000000 in
set_option maxRecDepth 100000 in
theorem pmove_any (A B : Option Addr) (l m : List PO.Pos) (na ca nb cb : Nat) (hna : na = l.length) (hnb : nb = m.length) (kind : Int) (s : EM.Ser) (hs : serQ s) (lo sh : Int) (w : World) (hI : Poss w A l) (hJ : Poss w B m) :
    Calls Try.prog 11 #[.slice A na ca, .slice B nb cb, .int .i64 kind, serA s, .int .i64 lo, .int .i64 sh] w fun e w' =>
      ∃ va vb, e = .returned (.tuple #[va, vb, .int .i64 (PO.mvE l m kind s lo sh)]) ∧ OwnR w' w.heap.size 38 6 va ((PO.mvA l m kind s lo sh).map posV) ∧ OwnR w' w.heap.size 38 6 vb ((PO.mvB l m kind s lo sh).map posV) ∧ Below w.heap.size w w' := by
  subst hna hnb
  have HB0 := Lib.hid (below_al (Below.refl w.heap.size w) (.cells #[.string s.prod, .int .i64 s.kind, .int .i64 s.expiry, .int .i64 s.strike] 31))
  have HX0 := Lib.hid (SBox.new w s)
  have HI0 := Lib.hid (hI.below HB0.out); have HJ0 := Lib.hid (hJ.below HB0.out)
  have C1 := Lib.hid (fun ww h1 h2 => pcheckmove_any A B l m l.length ca m.length cb rfl rfl kind lo sh ww h1 h2)
  clear hI hJ
  by_cases h0 : PO.mv0E l m kind lo sh = 0
  · have hc : PO.checkE l = 0 := by
      by_cases g : PO.checkE l = 0
      · exact g
      · unfold PO.mv0E at h0; rw [if_pos g] at h0; exact absurd h0 g
    have hls : PO.lotsB lo sh = true := by
      unfold PO.mv0E at h0
      split at h0
      · rename_i g; exact absurd h0 g
      split at h0
      · rename_i g; exact absurd h0 g
      split at h0
      · cases h0
      split at h0
      · cases h0
      rename_i g; simpa using g
    have hl3 := PO.lots_two hls
    have C2 := Lib.hid (fun ww h => pgiven_any A l l.length ca rfl hc s hs lo sh ⟨hl3.1, hl3.2.1⟩ ww h)
    have C3 := Lib.hid (fun ww h => preceived_any B m m.length cb rfl kind s hs lo sh hl3 ww h)
    rw [h0] at C1
    by_cases hg : PO.gvE l s lo sh = 0
    · have e1 : PO.mvE l m kind s lo sh = PO.rcE m kind s lo sh := by unfold PO.mvE; rw [if_neg (by simp [h0]), if_neg (by simp [hg])]
      by_cases hr : PO.rcE m kind s lo sh = 0
      · have e2 : PO.mvA l m kind s lo sh = PO.gvL l s lo sh := by unfold PO.mvA; rw [if_pos (e1.trans hr)]
        have e3 : PO.mvB l m kind s lo sh = PO.rcL m kind s lo sh := by unfold PO.mvB; rw [if_pos (e1.trans hr)]
        rw [e1, e2, e3, hr]
        rw [hg] at C2
        rw [hr] at C3
        generalize PO.gvL l s lo sh = gl at *
        generalize PO.rcL m kind s lo sh = rl at *
        clear e1 e2 e3 hr hg h0 hc hls hl3
        go_enter Try.func11, Try.ntmps11
        go_wp2_with fail
        generalize w.alloc (.cells #[.string s.prod, .int .i64 s.kind, .int .i64 s.expiry, .int .i64 s.strike] 31) = w0 at *
        refine (C1.out _ HI0.out HJ0.out).mono ?_
        rintro e w1 ⟨rfl, b1⟩
        have HB1 := Lib.hid (HB0.out.trans (b1.mono HB0.out.size))
        have HI1 := Lib.hid (HI0.out.below b1); have HJ1 := Lib.hid (HJ0.out.below b1)
        have HX1 := Lib.hid (HX0.out.below b1 HX0.out.lt)
        obtain ⟨x2, x3, x4, x5⟩ := HX1.out.cells
        have xl := HX1.out.lt
        clear b1 HB0 HI0 HJ0 HX0 C1
        go_wp2_with fail
        refine (C2.out _ HI1.out).mono ?_
        clear x2 x3 x4 x5 xl
        rintro e w2 ⟨v2, rfl, g1, g2⟩
        have HB2 := Lib.hid (HB1.out.trans (g2.mono HB1.out.size))
        have HJ2 := Lib.hid (HJ1.out.below g2)
        have HX2 := Lib.hid (HX1.out.below g2 HX1.out.lt)
        have HO2 := Lib.hid (g1.lower HB1.out.size)
        obtain ⟨x2, x3, x4, x5⟩ := HX2.out.cells
        have xl := HX2.out.lt
        clear g1 g2 HB1 HI1 HJ1 HX1 C2
        go_wp2_with fail
        refine (C3.out _ HJ2.out).mono ?_
        clear x2 x3 x4 x5 xl
        rintro e w3 ⟨v3, rfl, g1, g2⟩
        have HB3 := Lib.hid (HB2.out.trans (g2.mono HB2.out.size))
        have HO3 := Lib.hid (HO2.out.below g2)
        have HP3 := Lib.hid (g1.lower HB2.out.size)
        clear g1 g2 C3
        go_wp2_with fail
        (try simp only [Exit.inBlock, Exit.then])
        first | (go_ret3; exact ⟨_, _, rfl, HO3.out, HP3.out, HB3.out⟩) | exact bodyPost_ret (results_ttt15 rfl _ _ _) rfl ⟨_, _, rfl, HO3.out, HP3.out, HB3.out⟩
      · have e2 : PO.mvA l m kind s lo sh = [] := by unfold PO.mvA; rw [e1, if_neg hr]
        have e3 : PO.mvB l m kind s lo sh = [] := by unfold PO.mvB; rw [e1, if_neg hr]
        have hne : (PO.rcE m kind s lo sh != 0) = true := by simpa using hr
        rw [e1, e2, e3]
        rw [hg] at C2
        generalize PO.gvL l s lo sh = gl at *
        generalize PO.rcL m kind s lo sh = rl at *
        generalize PO.rcE m kind s lo sh = r at *
        clear e1 e2 e3 hr hg h0 hc hls hl3
        go_enter Try.func11, Try.ntmps11
        go_wp2_with fail
        generalize w.alloc (.cells #[.string s.prod, .int .i64 s.kind, .int .i64 s.expiry, .int .i64 s.strike] 31) = w0 at *
        refine (C1.out _ HI0.out HJ0.out).mono ?_
        rintro e w1 ⟨rfl, b1⟩
        have HB1 := Lib.hid (HB0.out.trans (b1.mono HB0.out.size))
        have HI1 := Lib.hid (HI0.out.below b1); have HJ1 := Lib.hid (HJ0.out.below b1)
        have HX1 := Lib.hid (HX0.out.below b1 HX0.out.lt)
        obtain ⟨x2, x3, x4, x5⟩ := HX1.out.cells
        have xl := HX1.out.lt
        clear b1 HB0 HI0 HJ0 HX0 C1
        go_wp2_with fail
        refine (C2.out _ HI1.out).mono ?_
        clear x2 x3 x4 x5 xl
        rintro e w2 ⟨v2, rfl, g1, g2⟩
        have HB2 := Lib.hid (HB1.out.trans (g2.mono HB1.out.size))
        have HJ2 := Lib.hid (HJ1.out.below g2)
        have HX2 := Lib.hid (HX1.out.below g2 HX1.out.lt)
        obtain ⟨x2, x3, x4, x5⟩ := HX2.out.cells
        have xl := HX2.out.lt
        clear g1 g2 HB1 HI1 HJ1 HX1 C2
        go_wp2_with fail
        refine (C3.out _ HJ2.out).mono ?_
        clear x2 x3 x4 x5 xl
        rintro e w3 ⟨v3, rfl, g1, g2⟩
        have HB3 := Lib.hid (HB2.out.trans (g2.mono HB2.out.size))
        clear g1 g2 C3
        go_wp2_with fail
        (try simp only [Exit.inBlock, Exit.then])
        first | (go_ret3; exact ⟨_, _, rfl, OwnR.nil _ _ _ _, OwnR.nil _ _ _ _, HB3.out⟩) | exact bodyPost_ret (results_ttt15 rfl _ _ _) rfl ⟨_, _, rfl, OwnR.nil _ _ _ _, OwnR.nil _ _ _ _, HB3.out⟩
    · have e1 : PO.mvE l m kind s lo sh = PO.gvE l s lo sh := by unfold PO.mvE; rw [if_neg (by simp [h0]), if_pos hg]
      have e2 : PO.mvA l m kind s lo sh = [] := by unfold PO.mvA; rw [e1, if_neg hg]
      have e3 : PO.mvB l m kind s lo sh = [] := by unfold PO.mvB; rw [e1, if_neg hg]
      have hne : (PO.gvE l s lo sh != 0) = true := by simpa using hg
      rw [e1, e2, e3]
      generalize PO.gvE l s lo sh = r at *
      generalize PO.gvL l s lo sh = gl at *
      clear e1 e2 e3 hg h0 hc hls hl3 C3
      go_enter Try.func11, Try.ntmps11
      go_wp2_with fail
      generalize w.alloc (.cells #[.string s.prod, .int .i64 s.kind, .int .i64 s.expiry, .int .i64 s.strike] 31) = w0 at *
      refine (C1.out _ HI0.out HJ0.out).mono ?_
      rintro e w1 ⟨rfl, b1⟩
      have HB1 := Lib.hid (HB0.out.trans (b1.mono HB0.out.size))
      have HI1 := Lib.hid (HI0.out.below b1)
      have HX1 := Lib.hid (HX0.out.below b1 HX0.out.lt)
      obtain ⟨x2, x3, x4, x5⟩ := HX1.out.cells
      have xl := HX1.out.lt
      clear b1 HB0 HI0 HJ0 HX0 C1
      go_wp2_with fail
      refine (C2.out _ HI1.out).mono ?_
      clear x2 x3 x4 x5 xl
      rintro e w2 ⟨v2, rfl, g1, g2⟩
      have HB2 := Lib.hid (HB1.out.trans (g2.mono HB1.out.size))
      clear g1 g2
      go_wp2_with fail
      (try simp only [Exit.inBlock, Exit.then])
      first | (go_ret3; exact ⟨_, _, rfl, OwnR.nil _ _ _ _, OwnR.nil _ _ _ _, HB2.out⟩) | exact bodyPost_ret (results_ttt15 rfl _ _ _) rfl ⟨_, _, rfl, OwnR.nil _ _ _ _, OwnR.nil _ _ _ _, HB2.out⟩
  · have e1 : PO.mvE l m kind s lo sh = PO.mv0E l m kind lo sh := by unfold PO.mvE; rw [if_pos h0]
    have e2 : PO.mvA l m kind s lo sh = [] := by unfold PO.mvA; rw [e1, if_neg h0]
    have e3 : PO.mvB l m kind s lo sh = [] := by unfold PO.mvB; rw [e1, if_neg h0]
    have hne : (PO.mv0E l m kind lo sh != 0) = true := by simpa using h0
    rw [e1, e2, e3]
    generalize PO.mv0E l m kind lo sh = r at *
    clear e1 e2 e3 h0
    go_enter Try.func11, Try.ntmps11
    go_wp2_with fail
    generalize w.alloc (.cells #[.string s.prod, .int .i64 s.kind, .int .i64 s.expiry, .int .i64 s.strike] 31) = w0 at *
    refine (C1.out _ HI0.out HJ0.out).mono ?_
    rintro e w1 ⟨rfl, b1⟩
    have HB1 := Lib.hid (HB0.out.trans (b1.mono HB0.out.size))
    clear b1
    go_wp2_with fail
    (try simp only [Exit.inBlock, Exit.then])
    first | (go_ret3; exact ⟨_, _, rfl, OwnR.nil _ _ _ _, OwnR.nil _ _ _ _, HB1.out⟩) | exact bodyPost_ret (results_ttt15 rfl _ _ _) rfl ⟨_, _, rfl, OwnR.nil _ _ _ _, OwnR.nil _ _ _ _, HB1.out⟩
end Go.Proofs.Ythippdmfeeopkab

/- Contracts of layer 15: Netted. -/
namespace PO
def bothN (p : Pos) : Int := max 0 (min p.lo p.sh)
def netP (p : Pos) : Pos := ⟨p.ser, p.lo - bothN p, p.sh - bothN p⟩
def hasL (p : Pos) : Bool := !(p.lo == 0) || !(p.sh == 0)
def netL (l : List Pos) : List Pos := (l.map netP).filter hasL
theorem net_yes {l : List Pos} {k : Nat} (hk : k < l.length) (h : hasL (netP (pAt l k)) = true) : netL (l.take (k + 1)) = netL (l.take k) ++ [netP (pAt l k)] := by
  unfold netL
  rw [List.take_succ_eq_append_getElem hk, List.map_append, List.filter_append, ← pAt_get hk]
  simp [h]
theorem net_no {l : List Pos} {k : Nat} (hk : k < l.length) (h : hasL (netP (pAt l k)) = false) : netL (l.take (k + 1)) = netL (l.take k) := by
  unfold netL
  rw [List.take_succ_eq_append_getElem hk, List.map_append, List.filter_append, ← pAt_get hk]
  simp [h]
end PO
namespace Go.Proofs.Ythippdmfeeopkab
open Go.RowKit Go.Recs
set_option linter.unusedVariables false
set_option linter.unusedSimpArgs false
set_option maxHeartbeats 4000000 in
set_option maxRecDepth 100000 in
theorem pnetted_any (A : Option Addr) (l : List PO.Pos) (n cap : Nat) (hn : n = l.length) (hl : l.length ≤ 100000000000) (w : World) (hI : Poss w A l) :
    Calls Try.prog 19 #[.slice A n cap] w fun e w' => ∃ v, e = .returned v ∧ OwnR w' w.heap.size 38 6 v ((PO.netL l).map posV) ∧ Below w.heap.size w w' := by
  subst hn
  have hlen := hI.len
  have HI := Lib.hid hI
  have KY := Lib.hid (fun k => @PO.net_yes l k); have KN := Lib.hid (fun k => @PO.net_no l k)
  have KE : Hid (PO.netL (l.take l.length) = PO.netL l) := Lib.hid (by rw [List.take_length])
  have KL : Hid (∀ k, k ≤ l.length → (PO.netL (l.take k)).length ≤ k) := Lib.hid (fun k hk => by
    have h1 := List.length_filter_le PO.hasL ((l.take k).map PO.netP)
    rw [List.length_map, List.length_take] at h1
    unfold PO.netL; omega)
  generalize PO.netL l = r at *
  clear hI
  go_enter Try.func19, Try.ntmps19
  go_wp2_with fail
  go_loopw [2, 4, 5, 8] (fun v _ _ i wr => ∃ k : Nat, k ≤ l.length ∧ i = .int .i64 (k : Int) ∧ Hid (OwnR wr w.heap.size 38 6 v ((PO.netL (l.take k)).map posV)) ∧ Hid (Below w.heap.size w wr)) (fun _ _ _ i _ => l.length - (intOf i).toNat)
  case atStart => exact ⟨0, by omega, rfl, Lib.hid (OwnR.nil _ _ _ _), Lib.hid (Below.refl _ _)⟩
  case round =>
    obtain ⟨k, hk, rfl, HO, HB⟩ := hrel
    by_cases hlt : k < l.length
    · obtain ⟨b, off, x, rfl, hb, HV, ⟨q1, ⟨l1, l2⟩, s1, s2⟩, d0, d1, d2, d3, d4, d5⟩ := poss_get (HI.out.below HB.out) hlt
      have HBx := Lib.hid (fun (c : Array Value) => below_al HB.out (.cells c 38))
      have HOx := Lib.hid (fun (c : Array Value) => HO.out.alloc (.cells c 38))
      have b0 : 0 ≤ PO.bothN x := by unfold PO.bothN; omega
      have b1 : x.lo - PO.bothN x ≤ 9223372036854775807 := by omega
      have b2 : -9223372036854775808 ≤ x.lo - PO.bothN x := by unfold PO.bothN; omega
      have b3 : x.sh - PO.bothN x ≤ 9223372036854775807 := by omega
      have b4 : -9223372036854775808 ≤ x.sh - PO.bothN x := by unfold PO.bothN; omega
      have hbn : PO.bothN x = max 0 (min x.lo x.sh) := rfl
      have HBN := Lib.hid hbn
      rw [hbn] at b0 b1 b2 b3 b4
      clear q1 hbn
      have HX : Hid (PO.netP x = ⟨x.ser, x.lo - max 0 (min x.lo x.sh), x.sh - max 0 (min x.lo x.sh)⟩) := Lib.hid rfl
      by_cases hz : x.lo - max 0 (min x.lo x.sh) = 0 ∧ x.sh - max 0 (min x.lo x.sh) = 0
      · have z1 : (x.lo - max 0 (min x.lo x.sh) != 0) = false := by simpa using hz.1
        have z2 : (x.sh - max 0 (min x.lo x.sh) != 0) = false := by simpa using hz.2
        have HN : Hid (PO.netL (l.take (k + 1)) = PO.netL (l.take k)) := Lib.hid (KN.out k hlt (by rw [HV.out, HX.out]; unfold PO.hasL; simp [hz.1, hz.2]))
        have HOn : Hid (∀ c : Array Value, OwnR (wr.alloc (.cells c 38)) w.heap.size 38 6 u2 ((PO.netL (l.take (k + 1))).map posV)) := Lib.hid (fun c => by rw [HN.out]; exact HOx.out c)
        clear hz HV
        go_wp2_with fail
        go_roundw
        case rel => exact ⟨k + 1, by omega, by go_num, Lib.hid (HOn.out _), Lib.hid (HBx.out _)⟩
        case measure => simp [intOf]; omega
      · have HN : Hid ((PO.netL (l.take (k + 1))).map posV = (PO.netL (l.take k)).map posV ++ [posV (PO.netP x)]) := Lib.hid (by
          rw [KY.out k hlt (by rw [HV.out, HX.out]; unfold PO.hasL; simp only [Bool.or_eq_true, Bool.not_eq_true', beq_eq_false_iff_ne]; omega), HV.out, List.map_append]; rfl)
        rw [HX.out] at HN
        have HZ := Lib.hid (KL.out k hk)
        have hsz : (wr.alloc (.cells (posC ⟨x.ser, x.lo - max 0 (min x.lo x.sh), x.sh - max 0 (min x.lo x.sh)⟩) 38)).heap.size = wr.heap.size + 1 := by simp
        have HOy := Lib.hid (HOx.out (posC ⟨x.ser, x.lo - max 0 (min x.lo x.sh), x.sh - max 0 (min x.lo x.sh)⟩))
        have HBy := Lib.hid (HBx.out (posC ⟨x.ser, x.lo - max 0 (min x.lo x.sh), x.sh - max 0 (min x.lo x.sh)⟩))
        by_cases hz1 : x.lo - max 0 (min x.lo x.sh) = 0
        · have z1 : (x.lo - max 0 (min x.lo x.sh) != 0) = false := by simpa using hz1
          have z2 : (x.sh - max 0 (min x.lo x.sh) != 0) = true := by simpa using (fun h => hz ⟨hz1, h⟩)
          clear hz hz1 HV HOx HBx
          go_wp2_with (at_builtin; go_loud (refine wpList_pushR _ (posV ⟨x.ser, x.lo - max 0 (min x.lo x.sh), x.sh - max 0 (min x.lo x.sh)⟩) (posV_one [⟨x.ser, x.lo - max 0 (min x.lo x.sh), x.sh - max 0 (min x.lo x.sh)⟩] _ (by simp)) w.heap.size ((PO.netL (l.take k)).map posV) _ _ 22 38 6 56 _ Try.underlying22 info_pos rfl (by decide) rfl rfl rfl _ (by rfl) (by first | rfl | exact (congrArg (fun z => Value.slice (some ⟨z, 0, none⟩) 1 1) hsz.symm)) HOy.out ?c1 ?c2 HBy.out.size ?_))
          case c1 => rw [List.length_map]; have := HZ.out; omega
          case c2 => rw [List.length_map]; have := HZ.out; simp only [maxLen]; omega
          intro v6 w6 o6 b6 _ _
          have HO6 : Hid (OwnR w6 w.heap.size 38 6 v6 ((PO.netL (l.take (k + 1))).map posV)) := Lib.hid (by rw [HN.out]; exact o6)
          have HB6 := Lib.hid (HBy.out.trans b6)
          clear o6 b6 HOy HZ HN hsz
          go_wp2_with fail
          go_roundw
          case rel => exact ⟨k + 1, by omega, by go_num, HO6, HB6⟩
          case measure => simp [intOf]; omega
        · have z1 : (x.lo - max 0 (min x.lo x.sh) != 0) = true := by simpa using hz1
          clear hz hz1 HV HOx HBx
          go_wp2_with (at_builtin; go_loud (refine wpList_pushR _ (posV ⟨x.ser, x.lo - max 0 (min x.lo x.sh), x.sh - max 0 (min x.lo x.sh)⟩) (posV_one [⟨x.ser, x.lo - max 0 (min x.lo x.sh), x.sh - max 0 (min x.lo x.sh)⟩] _ (by simp)) w.heap.size ((PO.netL (l.take k)).map posV) _ _ 22 38 6 56 _ Try.underlying22 info_pos rfl (by decide) rfl rfl rfl _ (by rfl) (by first | rfl | exact (congrArg (fun z => Value.slice (some ⟨z, 0, none⟩) 1 1) hsz.symm)) HOy.out ?c3 ?c4 HBy.out.size ?_))
          case c3 => rw [List.length_map]; have := HZ.out; omega
          case c4 => rw [List.length_map]; have := HZ.out; simp only [maxLen]; omega
          intro v6 w6 o6 b6 _ _
          have HO6 : Hid (OwnR w6 w.heap.size 38 6 v6 ((PO.netL (l.take (k + 1))).map posV)) := Lib.hid (by rw [HN.out]; exact o6)
          have HB6 := Lib.hid (HBy.out.trans b6)
          clear o6 b6 HOy HZ HN hsz
          go_wp2_with fail
          go_roundw
          case rel => exact ⟨k + 1, by omega, by go_num, HO6, HB6⟩
          case measure => simp [intOf]; omega
    · obtain rfl : k = l.length := by omega
      rw [KE.out] at HO
      go_wp2_with fail
      go_ret
      exact ⟨_, rfl, HO.out, HB.out⟩
end Go.Proofs.Ythippdmfeeopkab
