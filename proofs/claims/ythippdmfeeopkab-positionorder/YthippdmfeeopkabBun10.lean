/- Put together: PosH, MemCells, WordsA, WordsE, MemA, PosO. -/
import Derived.Test.YthippdmfeeopkabBun6
import Derived.Test.YthippdmfeeopkabBun7
import Derived.Test.YthippdmfeeopkabBun9
import Derived.Deep.Cut
import Derived.Test.YthippdmfeeopkabBun3
import Derived.Test.YthippdmfeeopkabBun5
import Derived.ArgAppend
import Derived.Test.YthippdmfeeopkabBun4
import Derived.Laws.StructEq
import Derived.Laws.ResultCell
import Derived.Laws.Rows
/- Contracts of layer 15: Apply. -/
namespace PO
theorem others_perm {l ps : List Pos} (h : ps.Perm l) (s : EM.Ser) : (others ps s).Perm (others l s) := h.filter _
theorem puts_perm {l ps : List Pos} (h : ps.Perm l) (x : Pos) : (putM ps x).Perm (putsL l x) := by
  unfold putM putsL
  split
  · exact others_perm h _
  · exact ((others_perm h _).cons x).trans (ins_perm x _).symm
theorem find_perm {l ps : List Pos} (h : ps.Perm l) (s : EM.Ser) : (findP l s ∈ ps ∧ (findP l s).ser = s) ∨ (findP l s = ⟨s, 0, 0⟩ ∧ ∀ p ∈ ps, p.ser ≠ s) := by
  rcases find_cases l s with ⟨h1, h2⟩ | ⟨h1, h2⟩
  · exact .inl ⟨h.mem_iff.2 h1, h2⟩
  · exact .inr ⟨h1, fun p hp => h2 p (h.mem_iff.1 hp)⟩
theorem clo_ok {l : List Pos} (hg : ∀ p ∈ l, lotsB p.lo p.sh = true) {kind qty closes : Int} (hl : legE kind qty closes = 0) (s : EM.Ser) :
    (¬ qty = 0 ∧ -1048576 ≤ qty ∧ qty ≤ 1048576) ∧ 0 ≤ cloS kind qty closes (findP l s) ∧ cloS kind qty closes (findP l s) ≤ absI qty := by
  have h1 := find_lots hg s
  unfold legE at hl
  split at hl
  · cases hl
  split at hl
  · cases hl
  rename_i h2
  split at hl
  · cases hl
  rename_i h3
  have ha : 0 ≤ absI qty := by unfold absI; split <;> omega
  have ho : 0 ≤ othS (findP l s) qty := by unfold othS; split <;> omega
  refine ⟨by omega, ?_⟩
  unfold cloS
  split
  · rename_i hk
    have h4 : ¬ (closes < 0 ∨ absI qty < closes) := fun h => h3 ⟨hk, h⟩
    omega
  · omega
theorem chg_q {p : Pos} {qty c : Int} (hp : (0 ≤ p.lo ∧ p.lo ≤ 1048576) ∧ 0 ≤ p.sh ∧ p.sh ≤ 1048576) (c1 : 0 ≤ c) (c2 : c ≤ absI qty) (h : chgE p qty c = 0) :
    (chg p qty c).ser = p.ser ∧ (0 ≤ (chg p qty c).lo ∧ (chg p qty c).lo ≤ 1048576) ∧ 0 ≤ (chg p qty c).sh ∧ (chg p qty c).sh ≤ 1048576 := by
  unfold chgE at h
  split at h
  · cases h
  rename_i h1
  split at h
  · cases h
  rename_i h2
  unfold othS at h1
  unfold ownS at h2
  unfold chg
  split
  · rename_i hq
    rw [if_pos hq] at h1 h2
    exact ⟨rfl, by show 0 ≤ p.lo - c ∧ p.lo - c ≤ 1048576; omega, by show 0 ≤ p.sh + (absI qty - c); omega, by show p.sh + (absI qty - c) ≤ 1048576; omega⟩
  · rename_i hq
    rw [if_neg hq] at h1 h2
    exact ⟨rfl, by show 0 ≤ p.lo + (absI qty - c) ∧ p.lo + (absI qty - c) ≤ 1048576; omega, by show 0 ≤ p.sh - c; omega, by show p.sh - c ≤ 1048576; omega⟩
end PO
namespace Go.Proofs.Ythippdmfeeopkab
open Go.RowKit Go.Recs Go.Maps
set_option linter.unusedVariables false
set_option linter.unusedSimpArgs false
theorem grownBy_set (W : World) (p : Addr) (v : Value) : W.grownBy (W.setCell p v) (some p.block) :=
  ⟨rfl, rfl, rfl, (KeepsWalks.setCell W p v).size, fun k _ hk => Below.heap_setCell _ _ _ k (fun e => hk (by rw [e]))⟩
theorem owns_putP {w : World} {k : TypeId} {R : Value → Option (DataW Unit × List MemPlace)} {b n g : Nat} {D : DataW Unit} (h : w.ownsMap Try.prog k R b n D) (hne : b ≠ g) (x : PO.Pos) : (putP w g x).ownsMap Try.prog k R b n D := by
  have one : ∀ {u : World} (i : Nat) (v : Value), u.ownsMap Try.prog k R b n D → (u.setCell ⟨g, i, none⟩ v).ownsMap Try.prog k R b n D := fun i v hu => hu.kept (grownBy_set _ ⟨g, i, none⟩ v) (fun e => hne (by injection e))
  exact one 5 _ (one 4 _ (one 3 _ (one 2 _ (one 1 _ (one 0 _ h)))))
theorem owns_below {w w' : World} {k : TypeId} {R : Value → Option (DataW Unit × List MemPlace)} {b n : Nat} {D : DataW Unit} (h : w.ownsMap Try.prog k R b n D) (hb : Below w.heap.size w w') : w'.ownsMap Try.prog k R b n D :=
  h.kept (row := none) ⟨hb.os, hb.tape, hb.output, hb.size, fun i hi _ => hb.block i hi⟩ (by simp)
set_option maxHeartbeats 4000000 in
set_option maxRecDepth 100000 in
theorem papply_any (A : Option Addr) (l : List PO.Pos) (n cap : Nat) (hn : n = l.length) (kind : Int) (x : NM.Leg) (hx : legQ x) (closes : Int) (w : World) (hI : Poss w A l) :
    Calls Try.prog 7 #[.slice A n cap, .int .i64 kind, legA x, .int .i64 closes] w fun e w' => ∃ v, e = .returned (.tuple #[v, .int .i64 (PO.applyE l kind x.ser x.qty closes)]) ∧ OwnR w' w.heap.size 38 6 v ((PO.applyL l kind x.ser x.qty closes).map posV) ∧ Below w.heap.size w w' := by
  subst hn
  have hlen := hI.len
  have HB0 := Lib.hid (below_al (Below.refl w.heap.size w) (.cells (legC x) 33))
  have HX0 := Lib.hid (CB.new w 33 (legC x))
  have HI0 := Lib.hid (hI.below HB0.out)
  have hser := hx.2.2.1
  have C1 := Lib.hid (fun ww h => pcheck15_any A l l.length cap rfl ww h)
  have C2 := Lib.hid (fun ww => pcheckleg_any kind x.qty closes ww)
  have HQL := Lib.hid hI.2
  clear hI
  by_cases hc : PO.checkE l = 0
  · obtain ⟨hl1, ha, hg⟩ := PO.check_good hc
    rw [hc] at C1
    by_cases hl : PO.legE kind x.qty closes = 0
    · rw [hl] at C2
      obtain ⟨⟨q0, q1, q2⟩, k1, k2⟩ := PO.clo_ok hg hl x.ser
      have hfl := PO.find_lots hg x.ser
      have hfs := PO.find_ser l x.ser
      have C3 := Lib.hid (fun ww h => pindexed_any A l l.length cap rfl hc ww h)
      have C4 := Lib.hid (fun b nn D ps (hp : ps.Perm l) ww hS hw => pfind_any (PO.findP l x.ser) x.ser hser b nn D ps hS (fun p hh => HQL.out p (hp.mem_iff.1 hh)) (PO.find_perm hp x.ser) ww hw)
      have C5 := Lib.hid (fun ww => poffset_any (PO.findP l x.ser) x.qty q0 q1 q2 ww)
      have C6 := Lib.hid (fun ww => pchanged_any (PO.findP l x.ser) x.qty (PO.cloS kind x.qty closes (PO.findP l x.ser)) hfl q0 q1 q2 k1 k2 ww)
      have HG : Hid (¬ PO.chgE (PO.findP l x.ser) x.qty (PO.cloS kind x.qty closes (PO.findP l x.ser)) = 0 → PO.applyE l kind x.ser x.qty closes = PO.chgE (PO.findP l x.ser) x.qty (PO.cloS kind x.qty closes (PO.findP l x.ser)) ∧ PO.applyL l kind x.ser x.qty closes = []) := Lib.hid (fun h => by
        have e : PO.applyE l kind x.ser x.qty closes = PO.chgE (PO.findP l x.ser) x.qty (PO.cloS kind x.qty closes (PO.findP l x.ser)) := by unfold PO.applyE; rw [if_neg (by simp [hc]), if_neg (by simp [hl]), if_pos h]
        exact ⟨e, by unfold PO.applyL; rw [e, if_neg h]⟩)
      have H8 : Hid (PO.chgE (PO.findP l x.ser) x.qty (PO.cloS kind x.qty closes (PO.findP l x.ser)) = 0 → 128 < (PO.putsL l (PO.newP l kind x.ser x.qty closes)).length → PO.applyE l kind x.ser x.qty closes = 8 ∧ PO.applyL l kind x.ser x.qty closes = []) := Lib.hid (fun h h8 => by
        have e : PO.applyE l kind x.ser x.qty closes = 8 := by unfold PO.applyE; rw [if_neg (by simp [hc]), if_neg (by simp [hl]), if_neg (by simp [h]), if_pos h8]
        exact ⟨e, by unfold PO.applyL; rw [e]; rfl⟩)
      have HK : Hid (PO.chgE (PO.findP l x.ser) x.qty (PO.cloS kind x.qty closes (PO.findP l x.ser)) = 0 → ¬ 128 < (PO.putsL l (PO.newP l kind x.ser x.qty closes)).length → PO.applyE l kind x.ser x.qty closes = 0 ∧ PO.applyL l kind x.ser x.qty closes = PO.putsL l (PO.newP l kind x.ser x.qty closes)) := Lib.hid (fun h h8 => by
        have e : PO.applyE l kind x.ser x.qty closes = 0 := by unfold PO.applyE; rw [if_neg (by simp [hc]), if_neg (by simp [hl]), if_neg (by simp [h]), if_neg h8]
        exact ⟨e, by unfold PO.applyL; rw [if_pos e]⟩)
      have HN : Hid (PO.newP l kind x.ser x.qty closes = PO.chg (PO.findP l x.ser) x.qty (PO.cloS kind x.qty closes (PO.findP l x.ser))) := Lib.hid rfl
      have HNQ : Hid (PO.chgE (PO.findP l x.ser) x.qty (PO.cloS kind x.qty closes (PO.findP l x.ser)) = 0 → posQ (PO.newP l kind x.ser x.qty closes)) := Lib.hid (fun h => by
        obtain ⟨e1, e2, e3, e4⟩ := PO.chg_q hfl k1 k2 h
        rw [← HN.out] at e1 e2 e3 e4
        exact ⟨by rw [e1, hfs]; exact hser, ⟨by omega, by omega⟩, ⟨by omega, by omega⟩⟩)
      have HAS : Hid (PO.ascP (PO.putsL l (PO.newP l kind x.ser x.qty closes))) := Lib.hid (PO.puts_asc ha _)
      have HPL : Hid (∀ ps : List PO.Pos, ps.Perm l → (PO.putM ps (PO.newP l kind x.ser x.qty closes)).Perm (PO.putsL l (PO.newP l kind x.ser x.qty closes))) := Lib.hid (fun ps h => PO.puts_perm h _)
      have HCL : Hid ((¬ kind = 3 → PO.cloS kind x.qty closes (PO.findP l x.ser) = min (PO.absI x.qty) (PO.othS (PO.findP l x.ser) x.qty)) ∧ (kind = 3 → PO.cloS kind x.qty closes (PO.findP l x.ser) = closes)) := Lib.hid ⟨fun h => by unfold PO.cloS; rw [if_neg h], fun h => by unfold PO.cloS; rw [if_pos h]⟩
      generalize PO.applyE l kind x.ser x.qty closes = ae at *
      generalize PO.applyL l kind x.ser x.qty closes = al at *
      generalize PO.newP l kind x.ser x.qty closes = np at *
      generalize PO.cloS kind x.qty closes (PO.findP l x.ser) = cl at *
      generalize PO.chgE (PO.findP l x.ser) x.qty cl = ce at *
      rw [← HN.out] at C6
      generalize PO.findP l x.ser = fp at *
      generalize PO.putsL l np = pl at *
      clear hc hl ha hg HN hfl hfs
      go_enter Try.func7, Try.ntmps7
      go_wp2_with fail
      generalize w.alloc (.cells #[.string x.am, .string x.an, .string x.ser.prod, .int .i64 x.ser.kind, .int .i64 x.ser.expiry, .int .i64 x.ser.strike, .int .i64 x.qty, .int .i64 x.price, .int .i64 x.trade] 33) = w0 at *
      refine (C1.out _ HI0.out).mono ?_
      rintro e w1 ⟨rfl, b1⟩
      have HB1 := Lib.hid (HB0.out.trans (b1.mono HB0.out.size))
      have HI1 := Lib.hid (HI0.out.below b1)
      have HX1 := Lib.hid (HX0.out.below b1 HX0.out.lt)
      have x6 : w1.cell? ⟨w.heap.size, 6, none⟩ = some (.int .i64 x.qty) := HX1.out.cell 6
      have xl1 := HX1.out.lt
      clear b1 HB0 HI0 HX0 C1
      go_wp2_with fail
      refine (C2.out _).mono ?_
      rintro e w2 ⟨rfl, rfl⟩
      go_wp2_with fail
      refine (C3.out _ HI1.out).mono ?_
      rintro e w2 ⟨rfl, ⟨D, ps, hm, hS, hP⟩, b2⟩
      have HB2 := Lib.hid (HB1.out.trans (b2.mono HB1.out.size))
      have HX2 := Lib.hid (HX1.out.below b2 HX1.out.lt)
      have HM2 := Lib.hid hm; have HS2 := Lib.hid hS; have HP2 := Lib.hid hP
      have HLE : Hid (w.heap.size ≤ w1.heap.size) := Lib.hid HB1.out.size
      have C4b := Lib.hid (C4.out _ _ D ps hP w2 hS hm)
      have x2 : w2.cell? ⟨w.heap.size, 2, none⟩ = some (.string x.ser.prod) := HX2.out.cell 2
      have x3 : w2.cell? ⟨w.heap.size, 3, none⟩ = some (.int .i64 x.ser.kind) := HX2.out.cell 3
      have x4 : w2.cell? ⟨w.heap.size, 4, none⟩ = some (.int .i64 x.ser.expiry) := HX2.out.cell 4
      have x5 : w2.cell? ⟨w.heap.size, 5, none⟩ = some (.int .i64 x.ser.strike) := HX2.out.cell 5
      have xl2 := HX2.out.lt
      clear b2 hm hS hP HX1 HI1 x6 xl1 C2 C3 C4
      generalize hbk : w1.heap.size = bk at *
      clear hbk
      go_wp2_with fail
      refine C4b.out.mono ?_
      clear x2 x3 x4 x5 xl2
      rintro e w3 ⟨rfl, b3⟩
      have HB3 := Lib.hid (HB2.out.trans (b3.mono HB2.out.size))
      have HX2b := Lib.hid (HX2.out.below b3 HX2.out.lt)
      have HX4 := Lib.hid ((HX2.out.below b3 HX2.out.lt).alloc (.cells (posC fp) 38))
      have HM4 := Lib.hid ((owns_below HM2.out b3).alloc (.cells (posC fp) 38))
      have HF4 := Lib.hid (CB.new w3 38 (posC fp))
      have HB4 := Lib.hid (below_al HB3.out (.cells (posC fp) 38))
      have HLT3 : Hid (w2.heap.size ≤ w3.heap.size) := Lib.hid b3.size
      clear b3 C4b
      have HGB : Hid (bk ≠ w3.heap.size) := Lib.hid (by have := HM2.out.lt; have := HLT3.out; omega)
      have HGG : Hid (w.heap.size ≤ w3.heap.size) := Lib.hid HB3.out.size
      by_cases k3 : kind = 3
      · have c3 : (kind != 3) = false := by simp [k3]
        have hcl : cl = closes := HCL.out.2 k3
        rw [hcl] at C6
        clear k3 hcl HCL C5
        go_upto_region 11 with fail
        generalize w3.alloc (.cells #[.string fp.ser.prod, .int .i64 fp.ser.kind, .int .i64 fp.ser.expiry, .int .i64 fp.ser.strike, .int .i64 fp.lo, .int .i64 fp.sh] 38) = w4 at *
        generalize w3.heap.size = g at *
        have hg4 : w4.cell? ⟨w.heap.size, 6, none⟩ = some (.int .i64 x.qty) := HX4.out.cell 6
        have xl4 := HX4.out.lt
        have gl4 := HF4.out.lt
        have a0 : w4.cell? ⟨g, 0, none⟩ = some (.string fp.ser.prod) := HF4.out.cell 0
        have a1 : w4.cell? ⟨g, 1, none⟩ = some (.int .i64 fp.ser.kind) := HF4.out.cell 1
        have a2 : w4.cell? ⟨g, 2, none⟩ = some (.int .i64 fp.ser.expiry) := HF4.out.cell 2
        have a3 : w4.cell? ⟨g, 3, none⟩ = some (.int .i64 fp.ser.strike) := HF4.out.cell 3
        have a4 : w4.cell? ⟨g, 4, none⟩ = some (.int .i64 fp.lo) := HF4.out.cell 4
        have a5 : w4.cell? ⟨g, 5, none⟩ = some (.int .i64 fp.sh) := HF4.out.cell 5
        by_cases hce : ce = 0
        · subst hce
          have HQN := Lib.hid (HNQ.out (by first | rfl | trivial))
          have C6b := Lib.hid (fun ww => C6.out ww)
          rw [if_pos rfl] at C6b
          go_wp2_with fail
          refine (C6b.out _).mono ?_
          rintro e w6 ⟨rfl, b6⟩
          have HB6 := Lib.hid (HB4.out.trans (b6.mono HB4.out.size))
          have HM6 := Lib.hid (owns_below HM4.out b6)
          have HF6 := Lib.hid (HF4.out.below b6 HF4.out.lt)
          have HF7 : Hid (CB ((((((w6.setCell ⟨g, 0, none⟩ (.string np.ser.prod)).setCell ⟨g, 1, none⟩ (.int .i64 np.ser.kind)).setCell ⟨g, 2, none⟩ (.int .i64 np.ser.expiry)).setCell ⟨g, 3, none⟩ (.int .i64 np.ser.strike)).setCell ⟨g, 4, none⟩ (.int .i64 np.lo)).setCell ⟨g, 5, none⟩ (.int .i64 np.sh)) g 38 (posC np)) := Lib.hid (HF6.out.putP np)
          have HM7 : Hid (((((((w6.setCell ⟨g, 0, none⟩ (.string np.ser.prod)).setCell ⟨g, 1, none⟩ (.int .i64 np.ser.kind)).setCell ⟨g, 2, none⟩ (.int .i64 np.ser.expiry)).setCell ⟨g, 3, none⟩ (.int .i64 np.ser.strike)).setCell ⟨g, 4, none⟩ (.int .i64 np.lo)).setCell ⟨g, 5, none⟩ (.int .i64 np.sh)).ownsMap Try.prog 31 posElem bk l.length D) := Lib.hid (owns_putP HM6.out HGB.out np)
          have HB7 : Hid (Below w.heap.size w ((((((w6.setCell ⟨g, 0, none⟩ (.string np.ser.prod)).setCell ⟨g, 1, none⟩ (.int .i64 np.ser.kind)).setCell ⟨g, 2, none⟩ (.int .i64 np.ser.expiry)).setCell ⟨g, 3, none⟩ (.int .i64 np.ser.strike)).setCell ⟨g, 4, none⟩ (.int .i64 np.lo)).setCell ⟨g, 5, none⟩ (.int .i64 np.sh))) := Lib.hid (putP_below HB6.out HGG.out np)
          clear b6 hg4 xl4 gl4 a0 a1 a2 a3 a4 a5
          have b0 : w6.cell? ⟨g, 0, none⟩ = some (.string fp.ser.prod) := HF6.out.cell 0
          have b1 : w6.cell? ⟨g, 1, none⟩ = some (.int .i64 fp.ser.kind) := HF6.out.cell 1
          have b2 : w6.cell? ⟨g, 2, none⟩ = some (.int .i64 fp.ser.expiry) := HF6.out.cell 2
          have b3 : w6.cell? ⟨g, 3, none⟩ = some (.int .i64 fp.ser.strike) := HF6.out.cell 3
          have b4 : w6.cell? ⟨g, 4, none⟩ = some (.int .i64 fp.lo) := HF6.out.cell 4
          have b5 : w6.cell? ⟨g, 5, none⟩ = some (.int .i64 fp.sh) := HF6.out.cell 5
          have c0 := HF6.out.frozen 0
          have c1 := HF6.out.frozen 1
          have c2 := HF6.out.frozen 2
          have c3 := HF6.out.frozen 3
          have c4 := HF6.out.frozen 4
          have c5 := HF6.out.frozen 5
          have gl6 := HF6.out.lt
          go_upto_region 14 with fail
          generalize (((((w6.setCell ⟨g, 0, none⟩ (.string np.ser.prod)).setCell ⟨g, 1, none⟩ (.int .i64 np.ser.kind)).setCell ⟨g, 2, none⟩ (.int .i64 np.ser.expiry)).setCell ⟨g, 3, none⟩ (.int .i64 np.ser.strike)).setCell ⟨g, 4, none⟩ (.int .i64 np.lo)).setCell ⟨g, 5, none⟩ (.int .i64 np.sh) = w7 at *
          clear b0 b1 b2 b3 b4 b5 c0 c1 c2 c3 c4 c5 gl6 HF6 HM6 HB6
          have d0 : w7.cell? ⟨g, 0, none⟩ = some (.string np.ser.prod) := HF7.out.cell 0
          have d1 : w7.cell? ⟨g, 1, none⟩ = some (.int .i64 np.ser.kind) := HF7.out.cell 1
          have d2 : w7.cell? ⟨g, 2, none⟩ = some (.int .i64 np.ser.expiry) := HF7.out.cell 2
          have d3 : w7.cell? ⟨g, 3, none⟩ = some (.int .i64 np.ser.strike) := HF7.out.cell 3
          have d4 : w7.cell? ⟨g, 4, none⟩ = some (.int .i64 np.lo) := HF7.out.cell 4
          have d5 : w7.cell? ⟨g, 5, none⟩ = some (.int .i64 np.sh) := HF7.out.cell 5
          have gl7 := HF7.out.lt
          have C7 := Lib.hid (pput_any np HQN.out bk l.length D ps HS2.out (fun p hh => HQL.out p (HP2.out.mem_iff.1 hh)) (by omega) w7 HM7.out)
          go_wp2_with fail
          refine C7.out.mono ?_
          clear d0 d1 d2 d3 d4 d5 gl7
          rintro e w8 ⟨rfl, ⟨D8, hm8, hs8⟩, hb8⟩
          have HM8 := Lib.hid hm8
          have HB8 := Lib.hid (HB7.out.trans (hb8 w.heap.size HLE.out))
          have HSZ : Hid (Maps.size D8 = pl.length) := Lib.hid (by rw [MG.Says.size_ hs8 (hm8.canon (Keyed.of_law ser_law)), (HPL.out ps HP2.out).length_eq])
          have HLM : Hid ((PO.putM ps np).length = pl.length) := Lib.hid (HPL.out ps HP2.out).length_eq
          by_cases h8 : 128 < pl.length
          · have HR := Lib.hid (H8.out (by first | rfl | trivial) h8)
            have hsz : (128 : Int) < ((Maps.size D8 : Nat) : Int) := by rw [HSZ.out]; omega
            clear hm8 hs8 hb8 C7 h8
            go_wp2_with (at_len; refine wpList_len_own _ rfl _ 63 rfl 31 38 bySer_under posElem bk _ _ rfl HM8.out ?_)
            go_ret2
            exact ⟨_, by rw [HR.out.1] <;> rfl, by rw [HR.out.2]; exact OwnR.nil _ _ _ _, HB8.out⟩
          · have HR := Lib.hid (HK.out (by first | rfl | trivial) h8)
            have hsz : ¬ (128 : Int) < ((Maps.size D8 : Nat) : Int) := by rw [HSZ.out]; omega
            have C9 := Lib.hid (plist_any bk _ D8 _ pl hs8 (by rw [HLM.out]; omega) (HPL.out ps HP2.out) HAS.out w8 hm8)
            clear hm8 hs8 hb8 C7 h8
            go_wp2_with (at_len; refine wpList_len_own _ rfl _ 63 rfl 31 38 bySer_under posElem bk _ _ rfl HM8.out ?_)
            refine C9.out.mono ?_
            rintro e w9 ⟨v, rfl, h1, h2⟩
            have H1 := Lib.hid (h1.lower HB8.out.size); have H2 := Lib.hid (HB8.out.trans (h2.mono HB8.out.size))
            clear h1 h2
            go_wp2_with fail
            go_ret2
            exact ⟨_, by rw [HR.out.1] <;> rfl, by rw [HR.out.2]; exact H1.out, H2.out⟩
        · have HR := Lib.hid (HG.out hce)
          have C6b := Lib.hid (fun ww => C6.out ww)
          rw [if_neg hce] at C6b
          have hne : (ce != 0) = true := by simpa using hce
          clear hce
          go_wp2_with fail
          refine (C6b.out _).mono ?_
          rintro e w6 ⟨rfl, b6⟩
          have HB6 := Lib.hid (HB4.out.trans (b6.mono HB4.out.size))
          have HF6 := Lib.hid (HF4.out.below b6 HF4.out.lt)
          have HB7 : Hid (Below w.heap.size w ((((((w6.setCell ⟨g, 0, none⟩ (.string PO.zero.ser.prod)).setCell ⟨g, 1, none⟩ (.int .i64 PO.zero.ser.kind)).setCell ⟨g, 2, none⟩ (.int .i64 PO.zero.ser.expiry)).setCell ⟨g, 3, none⟩ (.int .i64 PO.zero.ser.strike)).setCell ⟨g, 4, none⟩ (.int .i64 PO.zero.lo)).setCell ⟨g, 5, none⟩ (.int .i64 PO.zero.sh))) := Lib.hid (putP_below HB6.out HGG.out PO.zero)
          clear b6 hg4 xl4 gl4 a0 a1 a2 a3 a4 a5
          have b0 : w6.cell? ⟨g, 0, none⟩ = some (.string fp.ser.prod) := HF6.out.cell 0
          have b1 : w6.cell? ⟨g, 1, none⟩ = some (.int .i64 fp.ser.kind) := HF6.out.cell 1
          have b2 : w6.cell? ⟨g, 2, none⟩ = some (.int .i64 fp.ser.expiry) := HF6.out.cell 2
          have b3 : w6.cell? ⟨g, 3, none⟩ = some (.int .i64 fp.ser.strike) := HF6.out.cell 3
          have b4 : w6.cell? ⟨g, 4, none⟩ = some (.int .i64 fp.lo) := HF6.out.cell 4
          have b5 : w6.cell? ⟨g, 5, none⟩ = some (.int .i64 fp.sh) := HF6.out.cell 5
          have c0 := HF6.out.frozen 0
          have c1 := HF6.out.frozen 1
          have c2 := HF6.out.frozen 2
          have c3 := HF6.out.frozen 3
          have c4 := HF6.out.frozen 4
          have c5 := HF6.out.frozen 5
          have gl6 := HF6.out.lt
          go_upto_region 12 with fail
          generalize (((((w6.setCell ⟨g, 0, none⟩ (.string PO.zero.ser.prod)).setCell ⟨g, 1, none⟩ (.int .i64 PO.zero.ser.kind)).setCell ⟨g, 2, none⟩ (.int .i64 PO.zero.ser.expiry)).setCell ⟨g, 3, none⟩ (.int .i64 PO.zero.ser.strike)).setCell ⟨g, 4, none⟩ (.int .i64 PO.zero.lo)).setCell ⟨g, 5, none⟩ (.int .i64 PO.zero.sh) = w7 at *
          clear b0 b1 b2 b3 b4 b5 c0 c1 c2 c3 c4 c5 gl6 HF6 HB6
          go_wp2_with fail
          go_ret2
          exact ⟨_, by rw [HR.out.1] <;> rfl, by rw [HR.out.2]; exact OwnR.nil _ _ _ _, HB7.out⟩
      · have c3 : (kind != 3) = true := by simpa using k3
        have hcl := HCL.out.1 k3
        rw [hcl] at C6
        have hh6 : w3.cell? ⟨w.heap.size, 6, none⟩ = some (.int .i64 x.qty) := HX2b.out.cell 6
        have hhl := HX2b.out.lt
        clear k3 hcl HCL
        go_wp2_with fail
        generalize w3.alloc (.cells #[.string fp.ser.prod, .int .i64 fp.ser.kind, .int .i64 fp.ser.expiry, .int .i64 fp.ser.strike, .int .i64 fp.lo, .int .i64 fp.sh] 38) = w4 at *
        clear hh6 hhl
        generalize w3.heap.size = g at *
        refine (C5.out _).mono ?_
        rintro e w5 ⟨rfl, b5⟩
        have HX5 := Lib.hid (HX4.out.below b5 HX4.out.lt)
        have HM5 := Lib.hid (owns_below HM4.out b5)
        have HF5 := Lib.hid (HF4.out.below b5 HF4.out.lt)
        have HB5 := Lib.hid (HB4.out.trans (b5.mono HB4.out.size))
        clear b5
        have hg5 : w5.cell? ⟨w.heap.size, 6, none⟩ = some (.int .i64 x.qty) := HX5.out.cell 6
        have xl5 := HX5.out.lt
        have gl5 := HF5.out.lt
        have a0 : w5.cell? ⟨g, 0, none⟩ = some (.string fp.ser.prod) := HF5.out.cell 0
        have a1 : w5.cell? ⟨g, 1, none⟩ = some (.int .i64 fp.ser.kind) := HF5.out.cell 1
        have a2 : w5.cell? ⟨g, 2, none⟩ = some (.int .i64 fp.ser.expiry) := HF5.out.cell 2
        have a3 : w5.cell? ⟨g, 3, none⟩ = some (.int .i64 fp.ser.strike) := HF5.out.cell 3
        have a4 : w5.cell? ⟨g, 4, none⟩ = some (.int .i64 fp.lo) := HF5.out.cell 4
        have a5 : w5.cell? ⟨g, 5, none⟩ = some (.int .i64 fp.sh) := HF5.out.cell 5
        by_cases hce : ce = 0
        · subst hce
          have HQN := Lib.hid (HNQ.out (by first | rfl | trivial))
          have C6b := Lib.hid (fun ww => C6.out ww)
          rw [if_pos rfl] at C6b
          go_wp2_with fail
          refine (C6b.out _).mono ?_
          rintro e w6 ⟨rfl, b6⟩
          have HB6 := Lib.hid (HB5.out.trans (b6.mono HB5.out.size))
          have HM6 := Lib.hid (owns_below HM5.out b6)
          have HF6 := Lib.hid (HF5.out.below b6 HF5.out.lt)
          have HF7 : Hid (CB ((((((w6.setCell ⟨g, 0, none⟩ (.string np.ser.prod)).setCell ⟨g, 1, none⟩ (.int .i64 np.ser.kind)).setCell ⟨g, 2, none⟩ (.int .i64 np.ser.expiry)).setCell ⟨g, 3, none⟩ (.int .i64 np.ser.strike)).setCell ⟨g, 4, none⟩ (.int .i64 np.lo)).setCell ⟨g, 5, none⟩ (.int .i64 np.sh)) g 38 (posC np)) := Lib.hid (HF6.out.putP np)
          have HM7 : Hid (((((((w6.setCell ⟨g, 0, none⟩ (.string np.ser.prod)).setCell ⟨g, 1, none⟩ (.int .i64 np.ser.kind)).setCell ⟨g, 2, none⟩ (.int .i64 np.ser.expiry)).setCell ⟨g, 3, none⟩ (.int .i64 np.ser.strike)).setCell ⟨g, 4, none⟩ (.int .i64 np.lo)).setCell ⟨g, 5, none⟩ (.int .i64 np.sh)).ownsMap Try.prog 31 posElem bk l.length D) := Lib.hid (owns_putP HM6.out HGB.out np)
          have HB7 : Hid (Below w.heap.size w ((((((w6.setCell ⟨g, 0, none⟩ (.string np.ser.prod)).setCell ⟨g, 1, none⟩ (.int .i64 np.ser.kind)).setCell ⟨g, 2, none⟩ (.int .i64 np.ser.expiry)).setCell ⟨g, 3, none⟩ (.int .i64 np.ser.strike)).setCell ⟨g, 4, none⟩ (.int .i64 np.lo)).setCell ⟨g, 5, none⟩ (.int .i64 np.sh))) := Lib.hid (putP_below HB6.out HGG.out np)
          clear b6 hg5 xl5 gl5 a0 a1 a2 a3 a4 a5
          have b0 : w6.cell? ⟨g, 0, none⟩ = some (.string fp.ser.prod) := HF6.out.cell 0
          have b1 : w6.cell? ⟨g, 1, none⟩ = some (.int .i64 fp.ser.kind) := HF6.out.cell 1
          have b2 : w6.cell? ⟨g, 2, none⟩ = some (.int .i64 fp.ser.expiry) := HF6.out.cell 2
          have b3 : w6.cell? ⟨g, 3, none⟩ = some (.int .i64 fp.ser.strike) := HF6.out.cell 3
          have b4 : w6.cell? ⟨g, 4, none⟩ = some (.int .i64 fp.lo) := HF6.out.cell 4
          have b5 : w6.cell? ⟨g, 5, none⟩ = some (.int .i64 fp.sh) := HF6.out.cell 5
          have c0 := HF6.out.frozen 0
          have c1 := HF6.out.frozen 1
          have c2 := HF6.out.frozen 2
          have c3 := HF6.out.frozen 3
          have c4 := HF6.out.frozen 4
          have c5 := HF6.out.frozen 5
          have gl6 := HF6.out.lt
          go_upto_region 14 with fail
          generalize (((((w6.setCell ⟨g, 0, none⟩ (.string np.ser.prod)).setCell ⟨g, 1, none⟩ (.int .i64 np.ser.kind)).setCell ⟨g, 2, none⟩ (.int .i64 np.ser.expiry)).setCell ⟨g, 3, none⟩ (.int .i64 np.ser.strike)).setCell ⟨g, 4, none⟩ (.int .i64 np.lo)).setCell ⟨g, 5, none⟩ (.int .i64 np.sh) = w7 at *
          clear b0 b1 b2 b3 b4 b5 c0 c1 c2 c3 c4 c5 gl6 HF6 HM6 HB6
          have d0 : w7.cell? ⟨g, 0, none⟩ = some (.string np.ser.prod) := HF7.out.cell 0
          have d1 : w7.cell? ⟨g, 1, none⟩ = some (.int .i64 np.ser.kind) := HF7.out.cell 1
          have d2 : w7.cell? ⟨g, 2, none⟩ = some (.int .i64 np.ser.expiry) := HF7.out.cell 2
          have d3 : w7.cell? ⟨g, 3, none⟩ = some (.int .i64 np.ser.strike) := HF7.out.cell 3
          have d4 : w7.cell? ⟨g, 4, none⟩ = some (.int .i64 np.lo) := HF7.out.cell 4
          have d5 : w7.cell? ⟨g, 5, none⟩ = some (.int .i64 np.sh) := HF7.out.cell 5
          have gl7 := HF7.out.lt
          have C7 := Lib.hid (pput_any np HQN.out bk l.length D ps HS2.out (fun p hh => HQL.out p (HP2.out.mem_iff.1 hh)) (by omega) w7 HM7.out)
          go_wp2_with fail
          refine C7.out.mono ?_
          clear d0 d1 d2 d3 d4 d5 gl7
          rintro e w8 ⟨rfl, ⟨D8, hm8, hs8⟩, hb8⟩
          have HM8 := Lib.hid hm8
          have HB8 := Lib.hid (HB7.out.trans (hb8 w.heap.size HLE.out))
          have HSZ : Hid (Maps.size D8 = pl.length) := Lib.hid (by rw [MG.Says.size_ hs8 (hm8.canon (Keyed.of_law ser_law)), (HPL.out ps HP2.out).length_eq])
          have HLM : Hid ((PO.putM ps np).length = pl.length) := Lib.hid (HPL.out ps HP2.out).length_eq
          by_cases h8 : 128 < pl.length
          · have HR := Lib.hid (H8.out (by first | rfl | trivial) h8)
            have hsz : (128 : Int) < ((Maps.size D8 : Nat) : Int) := by rw [HSZ.out]; omega
            clear hm8 hs8 hb8 C7 h8
            go_wp2_with (at_len; refine wpList_len_own _ rfl _ 63 rfl 31 38 bySer_under posElem bk _ _ rfl HM8.out ?_)
            go_ret2
            exact ⟨_, by rw [HR.out.1] <;> rfl, by rw [HR.out.2]; exact OwnR.nil _ _ _ _, HB8.out⟩
          · have HR := Lib.hid (HK.out (by first | rfl | trivial) h8)
            have hsz : ¬ (128 : Int) < ((Maps.size D8 : Nat) : Int) := by rw [HSZ.out]; omega
            have C9 := Lib.hid (plist_any bk _ D8 _ pl hs8 (by rw [HLM.out]; omega) (HPL.out ps HP2.out) HAS.out w8 hm8)
            clear hm8 hs8 hb8 C7 h8
            go_wp2_with (at_len; refine wpList_len_own _ rfl _ 63 rfl 31 38 bySer_under posElem bk _ _ rfl HM8.out ?_)
            refine C9.out.mono ?_
            rintro e w9 ⟨v, rfl, h1, h2⟩
            have H1 := Lib.hid (h1.lower HB8.out.size); have H2 := Lib.hid (HB8.out.trans (h2.mono HB8.out.size))
            clear h1 h2
            go_wp2_with fail
            go_ret2
            exact ⟨_, by rw [HR.out.1] <;> rfl, by rw [HR.out.2]; exact H1.out, H2.out⟩
        · have HR := Lib.hid (HG.out hce)
          have C6b := Lib.hid (fun ww => C6.out ww)
          rw [if_neg hce] at C6b
          have hne : (ce != 0) = true := by simpa using hce
          clear hce
          go_wp2_with fail
          refine (C6b.out _).mono ?_
          rintro e w6 ⟨rfl, b6⟩
          have HB6 := Lib.hid (HB5.out.trans (b6.mono HB5.out.size))
          have HF6 := Lib.hid (HF5.out.below b6 HF5.out.lt)
          have HB7 : Hid (Below w.heap.size w ((((((w6.setCell ⟨g, 0, none⟩ (.string PO.zero.ser.prod)).setCell ⟨g, 1, none⟩ (.int .i64 PO.zero.ser.kind)).setCell ⟨g, 2, none⟩ (.int .i64 PO.zero.ser.expiry)).setCell ⟨g, 3, none⟩ (.int .i64 PO.zero.ser.strike)).setCell ⟨g, 4, none⟩ (.int .i64 PO.zero.lo)).setCell ⟨g, 5, none⟩ (.int .i64 PO.zero.sh))) := Lib.hid (putP_below HB6.out HGG.out PO.zero)
          clear b6 hg5 xl5 gl5 a0 a1 a2 a3 a4 a5
          have b0 : w6.cell? ⟨g, 0, none⟩ = some (.string fp.ser.prod) := HF6.out.cell 0
          have b1 : w6.cell? ⟨g, 1, none⟩ = some (.int .i64 fp.ser.kind) := HF6.out.cell 1
          have b2 : w6.cell? ⟨g, 2, none⟩ = some (.int .i64 fp.ser.expiry) := HF6.out.cell 2
          have b3 : w6.cell? ⟨g, 3, none⟩ = some (.int .i64 fp.ser.strike) := HF6.out.cell 3
          have b4 : w6.cell? ⟨g, 4, none⟩ = some (.int .i64 fp.lo) := HF6.out.cell 4
          have b5 : w6.cell? ⟨g, 5, none⟩ = some (.int .i64 fp.sh) := HF6.out.cell 5
          have c0 := HF6.out.frozen 0
          have c1 := HF6.out.frozen 1
          have c2 := HF6.out.frozen 2
          have c3 := HF6.out.frozen 3
          have c4 := HF6.out.frozen 4
          have c5 := HF6.out.frozen 5
          have gl6 := HF6.out.lt
          go_upto_region 12 with fail
          generalize (((((w6.setCell ⟨g, 0, none⟩ (.string PO.zero.ser.prod)).setCell ⟨g, 1, none⟩ (.int .i64 PO.zero.ser.kind)).setCell ⟨g, 2, none⟩ (.int .i64 PO.zero.ser.expiry)).setCell ⟨g, 3, none⟩ (.int .i64 PO.zero.ser.strike)).setCell ⟨g, 4, none⟩ (.int .i64 PO.zero.lo)).setCell ⟨g, 5, none⟩ (.int .i64 PO.zero.sh) = w7 at *
          clear b0 b1 b2 b3 b4 b5 c0 c1 c2 c3 c4 c5 gl6 HF6 HB6
          go_wp2_with fail
          go_ret2
          exact ⟨_, by rw [HR.out.1] <;> rfl, by rw [HR.out.2]; exact OwnR.nil _ _ _ _, HB7.out⟩
    · have e : PO.applyE l kind x.ser x.qty closes = PO.legE kind x.qty closes := by unfold PO.applyE; rw [if_neg (by simp [hc]), if_pos hl]
      have e2 : PO.applyL l kind x.ser x.qty closes = [] := by unfold PO.applyL; rw [e, if_neg hl]
      have hne : (PO.legE kind x.qty closes != 0) = true := by simpa using hl
      rw [e, e2]
      generalize PO.legE kind x.qty closes = r at *
      clear e e2 hc hl ha hg
      go_enter Try.func7, Try.ntmps7
      go_wp2_with fail
      generalize w.alloc (.cells #[.string x.am, .string x.an, .string x.ser.prod, .int .i64 x.ser.kind, .int .i64 x.ser.expiry, .int .i64 x.ser.strike, .int .i64 x.qty, .int .i64 x.price, .int .i64 x.trade] 33) = w0 at *
      refine (C1.out _ HI0.out).mono ?_
      rintro e w1 ⟨rfl, b1⟩
      have HB1 := Lib.hid (HB0.out.trans (b1.mono HB0.out.size))
      have HX1 := Lib.hid (HX0.out.below b1 HX0.out.lt)
      have x6 : w1.cell? ⟨w.heap.size, 6, none⟩ = some (.int .i64 x.qty) := HX1.out.cell 6
      clear b1
      go_wp2_with fail
      refine (C2.out _).mono ?_
      rintro e w2 ⟨rfl, rfl⟩
      go_wp2_with fail
      go_ret2
      exact ⟨_, rfl, OwnR.nil _ _ _ _, HB1.out⟩
  · have e : PO.applyE l kind x.ser x.qty closes = PO.checkE l := by unfold PO.applyE; rw [if_pos hc]
    have e2 : PO.applyL l kind x.ser x.qty closes = [] := by unfold PO.applyL; rw [e, if_neg hc]
    have hne : (PO.checkE l != 0) = true := by simpa using hc
    rw [e, e2]
    generalize PO.checkE l = r at *
    clear e e2 hc
    go_enter Try.func7, Try.ntmps7
    go_wp2_with fail
    generalize w.alloc (.cells #[.string x.am, .string x.an, .string x.ser.prod, .int .i64 x.ser.kind, .int .i64 x.ser.expiry, .int .i64 x.ser.strike, .int .i64 x.qty, .int .i64 x.price, .int .i64 x.trade] 33) = w0 at *
    refine (C1.out _ HI0.out).mono ?_
    rintro e w1 ⟨rfl, b1⟩
    have HB1 := Lib.hid (HB0.out.trans (b1.mono HB0.out.size))
    clear b1
    go_wp2_with fail
    go_ret2
    exact ⟨_, rfl, OwnR.nil _ _ _ _, HB1.out⟩
end Go.Proofs.Ythippdmfeeopkab

/- Members and their accounts in memory, over any program; rows of records with slices inside. -/
namespace Go.Recs
open Go.ChangeShapes Go.WideShapes Go.RowKit Go.Deep
set_option linter.unusedVariables false
section
variable {H : Type} {enc : TypeId × Value → H} {P : Program} {w : World} {base : Nat} {spare : Nat → Bool} {held : Bool}
/-- a slice whose records are read by R -/
theorem open_rows {t e : TypeId} {sz : Nat} {R : List Value → DataW H → Prop} {fuel : Nat} {cs : List Value} {x : DataW H × List MemPlace} (ht : P.underlying t = some (.slice e)) (hsz : P.cellsOf e = sz) (h0 : 0 < sz)
    (hR : ∀ k cs y, cs.length = sz → DataW.trod enc P w base spare held k e cs = some y → R cs y.1)
    (hf : DataW.trod enc P w base spare held fuel t cs = some x) :
    ∃ A cap rows, cs = [.slice A (List.length rows) cap] ∧ Recs w A sz rows ∧ rows.length ≤ cap ∧ ∃ ds sp, (x.1 = .nil ∧ rows = [] ∨ x.1 = .slice ds sp) ∧ ds.length = rows.length ∧ ∀ i, i < rows.length → R (rows.getD i []) (ds.getD i .nil) := by
  rcases open_slice ht hf with ⟨rfl, rfl⟩ | ⟨a, len, cap, m, k, D, Pl, rfl, hb, hl, hm, hmm, rfl, hrow⟩
  · exact ⟨none, 0, [], rfl, Recs.nil _ _ _, by simp, [], [], .inl ⟨rfl, rfl⟩, rfl, fun i hi => by simp at hi⟩
  · have hlm : len ≤ m := by rw [hmm]; split <;> omega
    rw [hsz] at hrow
    obtain ⟨Q, hQ⟩ := choose_lt (α := List Value) (n := len) (p := fun i cs => w.cells? base (a.add (i * sz)) sz = some cs ∧ R cs (D i)) (fun i hi => by
      obtain ⟨cs', h1, h2⟩ := hrow i (by omega)
      obtain ⟨_, hlen, _⟩ := World.cells?_some h1
      exact ⟨cs', h1, hR k cs' _ (by omega) h2⟩)
    have hlen : ((List.range len).map Q).length = len := by simp
    refine ⟨some a, cap, (List.range len).map Q, by rw [hlen], ?_, by rw [hlen]; exact hl, _, _, .inr rfl, by simp, ?_⟩
    · refine ⟨by rw [hlen]; omega, ?_, ?_⟩
      · intro q hq
        obtain ⟨i, hi, rfl⟩ := List.mem_map.1 hq
        obtain ⟨_, hli, _⟩ := World.cells?_some (hQ i (List.mem_range.1 hi)).1
        exact hli
      · rcases Nat.eq_zero_or_pos len with hz | hz
        · subst hz; exact .inl (by simp)
        · obtain ⟨b, off, spot⟩ := a
          obtain ⟨_, hl0, hc0⟩ := World.cells?_some (hQ 0 hz).1
          have hcc := hc0 0 (by omega)
          rw [List.getElem?_eq_getElem (show 0 < (Q 0).length by omega)] at hcc
          have hspot : spot = none := by simpa [Addr.add] using World.cell?_spot hcc
          subst hspot
          rw [Deep.add_add, add_at] at hcc
          refine .inr ⟨b, off, rfl, World.block_lt_of_cell? _ _ hcc, fun i j hi hj => ?_⟩
          have hi' : i < len := by rw [hlen] at hi; exact hi
          obtain ⟨_, hli, hci⟩ := World.cells?_some (hQ i hi').1
          have := hci j (by omega)
          rw [Deep.add_add, add_at] at this
          rw [this]
          simp [List.getD, hi']
    · intro i hi
      rw [hlen] at hi
      simpa [List.getD, hi] using (hQ i hi).2
end

def accV (a : MM.Ac) : List Value := [.string a.name, .int .i64 a.kind]
def accQ (a : MM.Ac) : Prop := a.name.size ≤ maxLen ∧ i64 a.kind
def accL : List Leaf := [.str, .int .i64]
theorem acc_row (r : List Value) (h : okAll accL r) : ∃ a : MM.Ac, r = accV a ∧ accQ a := by
  obtain ⟨c0, r0, rfl, ⟨s, rfl, hs⟩, g0⟩ := okAll_cons h
  obtain ⟨c1, r1, rfl, ⟨n1, rfl, h1⟩, g1⟩ := okAll_cons g0
  rw [okAll_nil g1]
  exact ⟨⟨s, n1⟩, rfl, hs, bounds_i64 h1⟩
abbrev Accs := TR accV accQ 2
def aAt (l : List MM.Ac) (k : Nat) : MM.Ac := l.getD k ⟨MM.nil, 0⟩
theorem aAt_get {l : List MM.Ac} {k : Nat} (h : k < l.length) : aAt l k = l[k] := by simp [aAt, List.getD, h]
theorem accs_get {w : World} {A : Option Addr} {l : List MM.Ac} (h : Accs w A l) {k : Nat} (hk : k < l.length) :
    ∃ b off, ∃ a : MM.Ac, A = some ⟨b, off, none⟩ ∧ b < w.heap.size ∧ Hid (aAt l k = a) ∧ accQ a ∧ w.cell? ⟨b, off + k * 2, none⟩ = some (.string a.name) ∧ w.cell? ⟨b, off + k * 2 + 1, none⟩ = some (.int .i64 a.kind) := by
  obtain ⟨b, off, rfl, hb, hq, hc⟩ := h.at_ hk
  exact ⟨b, off, l[k], rfl, hb, Lib.hid (aAt_get hk), hq, hc 0 (by omega), hc 1 (by omega)⟩

/-- a member's cells: where its accounts lie -/
structure MRow where
  m : MM.Mem
  A : Option Addr
  cap : Nat
def mrowV (r : MRow) : List Value := [.string r.m.name, .int .i64 r.m.status, .slice r.A r.m.accs.length r.cap]
def mrowQ (w : World) (r : MRow) : Prop := r.m.name.size ≤ maxLen ∧ i64 r.m.status ∧ Accs w r.A r.m.accs ∧ r.m.accs.length ≤ r.cap
theorem mrowQ.below {w w' : World} {r : MRow} (h : mrowQ w r) (hb : Below w.heap.size w w') : mrowQ w' r := ⟨h.1, h.2.1, h.2.2.1.below hb, h.2.2.2⟩
def MRows (w : World) (A : Option Addr) (rows : List MRow) : Prop := Recs w A 3 (rows.map mrowV) ∧ ∀ r ∈ rows, mrowQ w r
theorem MRows.below {w w' : World} {A : Option Addr} {rows : List MRow} (h : MRows w A rows) (hb : Below w.heap.size w w') : MRows w' A rows := ⟨h.1.below hb, fun r hr => (h.2 r hr).below hb⟩
/-- the slice at A holds the members l -/
def Mems (w : World) (A : Option Addr) (l : List MM.Mem) : Prop := ∃ rows : List MRow, rows.map MRow.m = l ∧ MRows w A rows
section
variable {w w' : World} {A : Option Addr} {l : List MM.Mem}
theorem Mems.below (h : Mems w A l) (hb : Below w.heap.size w w') : Mems w' A l := by
  obtain ⟨rows, e, hr⟩ := h
  exact ⟨rows, e, hr.below hb⟩
theorem Mems.nil (w : World) (A : Option Addr) : Mems w A [] := ⟨[], rfl, Recs.nil _ _ _, by simp⟩
theorem Mems.drewN (h : Mems w A l) (n : Nat) : Mems (w.drewN n) A l := h
theorem Mems.len (h : Mems w A l) : l.length ≤ 9223372036854775807 := by
  obtain ⟨rows, rfl, hr, _⟩ := h
  have := hr.len
  rw [List.length_map] at this ⊢
  exact this
/-- member k: where it lies, and its cells -/
theorem Mems.get (h : Mems w A l) {k : Nat} (hk : k < l.length) :
    ∃ b off A' cap', ∃ m : MM.Mem, A = some ⟨b, off, none⟩ ∧ b < w.heap.size ∧ Hid (MM.mAt l k = m) ∧ m.name.size ≤ maxLen ∧ i64 m.status ∧ Accs w A' m.accs ∧ m.accs.length ≤ cap' ∧
      w.cell? ⟨b, off + k * 3, none⟩ = some (.string m.name) ∧ w.cell? ⟨b, off + k * 3 + 1, none⟩ = some (.int .i64 m.status) ∧ w.cell? ⟨b, off + k * 3 + 2, none⟩ = some (.slice A' m.accs.length cap') := by
  obtain ⟨rows, rfl, hr, hq⟩ := h
  rw [List.length_map] at hk
  obtain ⟨b, off, rfl, hb, hc⟩ := hr.get (k := k) (by simpa using hk)
  have e : (rows.map mrowV).getD k [] = mrowV rows[k] := by simp [List.getD, hk]
  rw [e] at hc
  obtain ⟨q1, q2, q3, q4⟩ := hq rows[k] (List.getElem_mem hk)
  have e2 : MM.mAt (rows.map MRow.m) k = rows[k].m := by rw [MM.mAt_get (by simpa using hk)]; simp
  refine ⟨b, off, rows[k].A, rows[k].cap, rows[k].m, rfl, hb, Lib.hid e2, q1, q2, q3, q4, hc 0 (by omega), ?_, ?_⟩
  · rw [Nat.add_assoc]; exact hc 1 (by omega)
  · rw [Nat.add_assoc]; exact hc 2 (by omega)
end

/-- 's = append(l[:i:i], x)': the row is full, so a new one is made -/
theorem wpList_growR {P : Program} {ops : Array Oper} {rest : List Oper} {o : Oper} {a : Act} {Q : Exit → Act → World → Prop} (w : World) (x : List Value) (hx1 : ∀ u ∈ x, u.oneCell' = true) (rows : List (List Value)) (s y : Operand) (ts t : TypeId) (sz bytes : Nat) (z : Value)
    (hu : P.underlying ts = some (.slice t)) (hinfo : (P.info? t).map (fun i => (i.zero, i.size, i.bytes)) = some (some z, sz, bytes)) (hz : z.cells.size = sz) (h0 : 0 < sz) (hxl : x.length = sz)
    (hgd : o.guard = none) (ho : o.op = .call { callee := .builtin .append, args := #[s, y], argTypes := #[ts, ts] })
    (A : Option Addr) (n cap : Nat) (hn : n = rows.length) (hcap : cap = n) (hs : a.eval s = .slice A n cap) (hA : Recs w A sz rows) (hx : a.eval y = .slice (some ⟨w.heap.size, 0, none⟩) 1 1) (hl : (rows.length + 1) * bytes ≤ 140737488355328) (hm : rows.length + 1 ≤ maxLen)
    (h : ∀ v' w', OwnR w' w.heap.size t sz v' (rows ++ [x]) → Below w.heap.size w w' → wpList P ops Q rest (a.put o.dst v') w') :
    wpList P ops Q (o :: rest) a (w.alloc (.cells x.toArray t)) := by
  subst hn hcap
  obtain ⟨i0, hi, hz0, hz1, hz2⟩ := info_parts hinfo
  have hb0 : Below w.heap.size w (w.alloc (.cells x.toArray t)) := (Below.refl _ _).alloc (Nat.le_refl _) _
  have hA2 := hA.below hb0
  refine wpList_append_grows (w.alloc (.cells x.toArray t)) hgd s y ts ho t i0 z sz bytes hu hi hz0 hz1 hz2 hz h0 A rows.length rows.length rows.flatten hs ?_ (flat_len hA.2.1) ?_ ⟨w.heap.size, 0, none⟩ 1 1 x hx (by omega) ?_ hx1 (by omega) hm hl ?_
  · intro e
    rcases hA.2.2 with g | ⟨b, off, g, _⟩
    · rw [g]; simp
    · rw [e] at g; cases g
  · rintro b rfl j u hj
    rcases hA2.2.2 with e | ⟨b', off', e, hb, hcell⟩
    · subst e; simp at hj
    · injection e with e
      subst e
      have hlt : j < rows.flatten.length := by
        rcases Nat.lt_or_ge j rows.flatten.length with h | h
        · exact h
        · rw [List.getElem?_eq_none h] at hj; cases hj
      rw [flat_len hA.2.1] at hlt
      have hi' : j / sz < rows.length := Nat.div_lt_of_lt_mul (by rw [Nat.mul_comm]; exact hlt)
      have hj' : j % sz < sz := Nat.mod_lt _ h0
      have ej : j / sz * sz + j % sz = j := by rw [Nat.mul_comm]; exact Nat.div_add_mod j sz
      have e := flat_at hA.2.1 (j / sz) (j % sz) hi' hj'
      have e2 := hcell (j / sz) (j % sz) hi' hj'
      rw [ej] at e e2
      rw [add_at, e2, ← e, hj]
  · intro j u hj
    rw [add_at, Nat.zero_add]
    have hlt : j < x.length := by
      rcases Nat.lt_or_ge j x.length with g | g
      · exact g
      · rw [List.getElem?_eq_none g] at hj; cases hj
    have e : x.toArray[j]? = some u := by simpa using hj
    simp [e]
  · intro v' w' h1 h2
    have hr : ∀ r ∈ rows ++ [x], r.length = sz := by
      intro r hr
      rcases List.mem_append.1 hr with hr | hr
      · exact hA.2.1 r hr
      · rw [List.mem_singleton.1 hr]; exact hxl
    have ho : OwnR w' (w.heap.size + 1) t sz v' (rows ++ [x]) := ⟨hr, by simpa using h1⟩
    refine h v' w' (ho.lower (by omega)) (hb0.trans ((Below.refl _ _).grown h2 (by simp) (fun k hk => by cases hk)))

/-- an own row of records: one cell of one record written -/
theorem flat_set {sz : Nat} (h0 : 0 < sz) : ∀ {rows : List (List Value)} (i j : Nat) (u : Value), (∀ r ∈ rows, r.length = sz) → i < rows.length → j < sz → rows.flatten.set (i * sz + j) u = (rows.set i ((rows.getD i []).set j u)).flatten := by
  intro rows
  induction rows with
  | nil => intro i j u _ hi; simp at hi
  | cons r rows ih =>
    intro i j u hr hi hj
    have hl := hr r (by simp)
    cases i with
    | zero =>
      rw [Nat.zero_mul, Nat.zero_add, List.flatten_cons, List.set_append_left _ _ (by omega)]
      simp [List.getD]
    | succ i =>
      rw [Nat.succ_mul, List.flatten_cons, List.set_append_right _ _ (by omega), show i * sz + sz + j - r.length = i * sz + j by omega,
        ih i j u (fun q hq => hr q (by simp [hq])) (by simpa using hi) hj]
      simp [List.getD]
theorem OwnR.set_ {w : World} {B g n cap : Nat} {t : TypeId} {sz : Nat} {rows : List (List Value)} (h : OwnR w B t sz (.slice (some ⟨g, 0, none⟩) n cap) rows) (h0 : 0 < sz) {i j : Nat} (hi : i < rows.length) (hj : j < sz) (u : Value) :
    OwnR (w.setCell ⟨g, i * sz + j, none⟩ u) B t sz (.slice (some ⟨g, 0, none⟩) n cap) (rows.set i ((rows.getD i []).set j u)) := by
  have hn : n = rows.length := by
    rcases h.2.2 with ⟨h0, _⟩ | ⟨g', cap', cur, h0, _⟩
    · cases h0
    · injection h0
  subst hn
  have := (World.ownsRow.stored h.2 (i * sz + j) u).1
  refine ⟨?_, ?_⟩
  · intro r hr
    rcases List.mem_or_eq_of_mem_set hr with hr | rfl
    · exact h.1 r hr
    · rw [List.length_set]
      have : rows.getD i [] ∈ rows := by simp [List.getD, hi]
      exact h.1 _ this
  · rw [List.length_set, ← flat_set h0 i j u h.1 hi hj]
    exact this
theorem OwnR.frozen {w : World} {B g n cap : Nat} {t : TypeId} {sz : Nat} {rows : List (List Value)} (h : OwnR w B t sz (.slice (some ⟨g, 0, none⟩) n cap) rows) (i : Nat) : w.frozen? ⟨g, i, none⟩ = false := by
  have hn : n = rows.length := by
    rcases h.2.2 with ⟨h0, _⟩ | ⟨g', cap', cur, h0, _⟩
    · cases h0
    · injection h0
  subst hn
  exact World.ownsRow.frozenAt h.2 i
theorem OwnR.far {w : World} {B g n cap : Nat} {t : TypeId} {sz : Nat} {rows : List (List Value)} (h : OwnR w B t sz (.slice (some ⟨g, 0, none⟩) n cap) rows) {p : Addr} (hp : g ≠ p.block) (u : Value) :
    OwnR (w.setCell p u) B t sz (.slice (some ⟨g, 0, none⟩) n cap) rows := by
  refine ⟨h.1, h.2.1, ?_⟩
  rcases h.2.2 with ⟨h0, _⟩ | ⟨g', cap', cur, h0, hB, hh, r⟩
  · cases h0
  · refine .inr ⟨g', cap', cur, h0, hB, ?_, r⟩
    have : g' = g := by injection h0 with h1; injection h1 with h1; injection h1 with h1; exact h1.symm
    subst this
    rw [Below.heap_setCell w p u _ hp]; exact hh
end Go.Recs

/- Contracts of the small functions of layer 3 that look at bytes and digits. -/
namespace Go.Proofs.Ythippdmfeeopkab
open Go.RowKit

theorem isLetter_any (c : UInt8) (w : World) :
    Calls Try.prog 87 #[.int .u8 (c.toNat : Int)] w fun e w' => e = .returned (.bool (WM.letter c)) ∧ w = w' := by
  by_cases h1 : 97 ≤ (c.toNat : Int)
  · by_cases h2 : (c.toNat : Int) ≤ 122
    · rw [WM.letter_true.2 ⟨h1, h2⟩]
      go_enter Try.func87, Try.ntmps87
      go_wp2
      go_ret
      exact ⟨rfl, rfl⟩
    · rw [WM.letter_false.2 (by omega)]
      go_enter Try.func87, Try.ntmps87
      go_wp2
      go_ret
      exact ⟨rfl, rfl⟩
  · rw [WM.letter_false.2 (by omega)]
    go_enter Try.func87, Try.ntmps87
    go_wp2
    go_ret
    exact ⟨rfl, rfl⟩

theorem isDigit_any (c : UInt8) (w : World) :
    Calls Try.prog 88 #[.int .u8 (c.toNat : Int)] w fun e w' => e = .returned (.bool (WM.dig c)) ∧ w = w' := by
  by_cases h1 : 48 ≤ (c.toNat : Int)
  · by_cases h2 : (c.toNat : Int) ≤ 57
    · rw [WM.dig_true.2 ⟨h1, h2⟩]
      go_enter Try.func88, Try.ntmps88
      go_wp2
      go_ret
      exact ⟨rfl, rfl⟩
    · rw [WM.dig_false.2 (by omega)]
      go_enter Try.func88, Try.ntmps88
      go_wp2
      go_ret
      exact ⟨rfl, rfl⟩
  · rw [WM.dig_false.2 (by omega)]
    go_enter Try.func88, Try.ntmps88
    go_wp2
    go_ret
    exact ⟨rfl, rfl⟩

theorem all_step {p : UInt8 → Bool} {s : ByteArray} {k : Nat} (h : k < s.size) (ha : ((L s).take k).all p = true) (hk : p s[k] = true) : ((L s).take (k + 1)).all p = true := by
  rw [L_take_succ s k h, WM.all_snoc, ha, hk]; rfl
theorem all_not {p : UInt8 → Bool} {s : ByteArray} {k : Nat} (h : k < s.size) (hk : p s[k] = false) : (L s).all p = false :=
  WM.not_all k (by rw [L_len]; exact h) (by rw [L_get s k h]; exact hk)

end Go.Proofs.Ythippdmfeeopkab

/- Contracts: names. -/
namespace Go.Proofs.Ythippdmfeeopkab
open Go.RowKit
set_option linter.unusedVariables false

def lord (c : UInt8) : Bool := WM.letter c || WM.dig c
theorem name_eq (l : List UInt8) : WM.name l = (l.all lord && WM.letter (l.headD 0) && decide (l.length ≤ 12)) := rfl

set_option maxHeartbeats 1000000 in
theorem name_any (s : ByteArray) (w : World) (hs : s.size ≤ 9223372036854775807) :
    Calls Try.prog 73 #[.string s] w fun e w' => e = .returned (.bool (WM.name (L s))) ∧ w = w' := by
  have HQ := name_eq (L s)
  generalize hv : WM.name (L s) = v at *
  clear hv
  rw [L_len] at HQ
  by_cases h0 : s.size = 0
  · rw [L_nil h0] at HQ
    have HN : Hid (v = false) := Lib.hid (by rw [HQ]; rfl)
    clear HQ
    have c0 : ((s.size : Int) == 0) = true := beq_t (by omega)
    go_enter Try.func73, Try.ntmps73
    go_wp2
    go_ret
    exact ⟨by rw [HN.out]; rfl, rfl⟩
  · have hp : 0 < s.size := by omega
    rw [L_head s hp] at HQ
    have c0 : ((s.size : Int) == 0) = false := beq_f (by omega)
    clear h0
    by_cases h1 : 12 < s.size
    · have HN : Hid (v = false) := Lib.hid (by
        rw [HQ, show decide (s.size ≤ 12) = false by simp; omega]; simp)
      clear HQ
      go_enter Try.func73, Try.ntmps73
      go_wp2
      go_ret
      exact ⟨by rw [HN.out]; rfl, rfl⟩
    · have e1 : decide (s.size ≤ 12) = true := by simp; omega
      rw [e1] at HQ
      clear e1
      cases hl : WM.letter s[0]
      · have HN : Hid (v = false) := Lib.hid (by rw [HQ, hl]; simp)
        clear HQ
        go_enter Try.func73, Try.ntmps73
        go_wp2_with (go_at_call 87; refine (isLetter_any _ _).mono ?_; rintro e w' ⟨rfl, rfl⟩)
        go_ret
        exact ⟨by rw [HN.out]; rfl, rfl⟩
      · have HN : Hid (v = (L s).all lord) := Lib.hid (by rw [HQ, hl]; simp)
        clear HQ
        go_enter Try.func73, Try.ntmps73
        go_wp2_with (go_at_call 87; refine (isLetter_any _ _).mono ?_; rintro e w' ⟨rfl, rfl⟩)
        go_loop [20] (fun i => ∃ k : Nat, k ≤ s.size ∧ i = .int .i64 k ∧ Hid (((L s).take k).all lord = true)) (fun i => s.size - (intOf i).toNat)
        case atStart => exact ⟨0, by omega, rfl, Lib.hid rfl⟩
        case round =>
          clear hl
          obtain ⟨k, hk, rfl, HA⟩ := hrel
          by_cases hlt : k < s.size
          · cases hl : WM.letter s[k]
            · cases hd : WM.dig s[k]
              · have HF := Lib.hid (all_not (p := lord) hlt (by unfold lord; rw [hl, hd]; rfl))
                go_wp2_with (first
                  | (go_at_call 87; refine (isLetter_any _ _).mono ?_; rintro e w' ⟨rfl, rfl⟩)
                  | (go_at_call 88; refine (isDigit_any _ _).mono ?_; rintro e w' ⟨rfl, rfl⟩))
                go_ret
                exact ⟨by rw [HN.out, HF.out]; rfl, rfl⟩
              · have HF := Lib.hid (all_step (p := lord) hlt HA.out (by unfold lord; rw [hl, hd]; rfl))
                go_wp2_with (first
                  | (go_at_call 87; refine (isLetter_any _ _).mono ?_; rintro e w' ⟨rfl, rfl⟩)
                  | (go_at_call 88; refine (isDigit_any _ _).mono ?_; rintro e w' ⟨rfl, rfl⟩))
                go_round
                case rel => exact ⟨k + 1, by omega, by go_num, HF⟩
                case measure => simp [intOf]; omega
            · have HF := Lib.hid (all_step (p := lord) hlt HA.out (by unfold lord; rw [hl]; rfl))
              go_wp2_with (first
                | (go_at_call 87; refine (isLetter_any _ _).mono ?_; rintro e w' ⟨rfl, rfl⟩)
                | (go_at_call 88; refine (isDigit_any _ _).mono ?_; rintro e w' ⟨rfl, rfl⟩))
              go_round
              case rel => exact ⟨k + 1, by omega, by go_num, HF⟩
              case measure => simp [intOf]; omega
          · obtain rfl : k = s.size := by omega
            have HE := HA.out
            rw [L_take_all] at HE
            have HE := Lib.hid HE
            go_wp2
            go_ret
            exact ⟨by rw [HN.out, HE.out]; rfl, rfl⟩

end Go.Proofs.Ythippdmfeeopkab

/- Contracts of layer 11: boxes, states and kinds, the closures. -/
namespace Go.Proofs.Ythippdmfeeopkab
open Go.RowKit Go.Recs
set_option linter.unusedVariables false
set_option linter.unusedSimpArgs false

abbrev accA (a : MM.Ac) : Value := .agg #[.string a.name, .int .i64 a.kind]
abbrev memA (m : MM.Mem) (A : Option Addr) (cap : Nat) : Value := .agg #[.string m.name, .int .i64 m.status, .slice A m.accs.length cap]
abbrev keyA (n a : ByteArray) : Value := .agg #[.string n, .string a]
abbrev accC (a : MM.Ac) : Array Value := #[.string a.name, .int .i64 a.kind]
abbrev memC (m : MM.Mem) (A : Option Addr) (cap : Nat) : Array Value := #[.string m.name, .int .i64 m.status, .slice A m.accs.length cap]
abbrev keyC (n a : ByteArray) : Array Value := #[.string n, .string a]

theorem isStatus_any (n : Int) (w : World) :
    Calls Try.prog 74 #[.int .i64 n] w fun e w' => e = .returned (.bool (MM.statOk n)) ∧ w = w' := by
  have hc : n = 1 ∨ n = 2 ∨ n = 3 ∨ n = 4 ∨ (¬ n = 1 ∧ ¬ n = 2 ∧ ¬ n = 3 ∧ ¬ n = 4) := by omega
  rcases hc with rfl | rfl | rfl | rfl | ⟨h1, h2, h3, h4⟩
  · go_enter Try.func74, Try.ntmps74
    go_wp2
    go_ret
    exact ⟨rfl, rfl⟩
  · go_enter Try.func74, Try.ntmps74
    go_wp2
    go_ret
    exact ⟨rfl, rfl⟩
  · go_enter Try.func74, Try.ntmps74
    go_wp2
    go_ret
    exact ⟨rfl, rfl⟩
  · go_enter Try.func74, Try.ntmps74
    go_wp2
    go_ret
    exact ⟨rfl, rfl⟩
  · have e : MM.statOk n = false := by unfold MM.statOk; rw [Bool.and_eq_false_iff]; simp only [decide_eq_false_iff_not]; omega
    rw [e]; clear e
    go_enter Try.func74, Try.ntmps74
    go_wp2
    go_ret
    exact ⟨rfl, rfl⟩

theorem isKind_any (n : Int) (w : World) :
    Calls Try.prog 89 #[.int .i64 n] w fun e w' => e = .returned (.bool (MM.kindOk n)) ∧ w = w' := by
  have hc : n = 1 ∨ n = 2 ∨ n = 3 ∨ (¬ n = 1 ∧ ¬ n = 2 ∧ ¬ n = 3) := by omega
  rcases hc with rfl | rfl | rfl | ⟨h1, h2, h3⟩
  · go_enter Try.func89, Try.ntmps89
    go_wp2
    go_ret
    exact ⟨rfl, rfl⟩
  · go_enter Try.func89, Try.ntmps89
    go_wp2
    go_ret
    exact ⟨rfl, rfl⟩
  · go_enter Try.func89, Try.ntmps89
    go_wp2
    go_ret
    exact ⟨rfl, rfl⟩
  · have e : MM.kindOk n = false := by unfold MM.kindOk; rw [Bool.and_eq_false_iff]; simp only [decide_eq_false_iff_not]; omega
    rw [e]; clear e
    go_enter Try.func89, Try.ntmps89
    go_wp2
    go_ret
    exact ⟨rfl, rfl⟩

/-! the closures -/
end Go.Proofs.Ythippdmfeeopkab

/- Contracts of layer 15: the place of a series, Find, Net. -/
namespace Go.Proofs.Ythippdmfeeopkab
open Go.RowKit Go.Recs
set_option linter.unusedVariables false
set_option linter.unusedSimpArgs false
abbrev serC (s : EM.Ser) : Array Value := #[.string s.prod, .int .i64 s.kind, .int .i64 s.expiry, .int .i64 s.strike]
theorem seq_B (x y : EM.Ser) : seq x y = NM.seqB x y := rfl
theorem pis_any (x : PO.Pos) (g : Nat) (s : EM.Ser) (w : World) (hb : CB w g 31 (serC s)) :
    Calls Try.prog 49 #[posA x, .pointer (some ⟨g, 0, none⟩)] w fun e w' => e = .returned (.bool (NM.seqB x.ser s)) ∧ Below w.heap.size w w' := by
  have HB0 := Lib.hid ((Below.refl w.heap.size w).alloc (Nat.le_refl _) (.cells (posC x) 38))
  have HG := Lib.hid (hb.alloc (.cells (posC x) 38))
  have c0 := HG.out.cell 0; have c1 := HG.out.cell 1; have c2 := HG.out.cell 2; have c3 := HG.out.cell 3
  simp only [List.getElem?_toArray, List.getElem?_cons_zero, List.getElem?_cons_succ] at c0 c1 c2 c3
  have E1 : ∀ ww, (Op.equalIn 10000 31 (.agg #[.string x.ser.prod, .int .i64 x.ser.kind, .int .i64 x.ser.expiry, .int .i64 x.ser.strike]) (.agg #[.string s.prod, .int .i64 s.kind, .int .i64 s.expiry, .int .i64 s.strike])).run Try.prog ww = .ok (NM.seqB x.ser s) ww := fun ww => ser_in x.ser s ww
  have E2 := ser_guard
  clear hb
  generalize NM.seqB x.ser s = r at *
  go_enter Try.func49, Try.ntmps49
  go_wp2_with fail
  go_ret
  exact ⟨rfl, HB0.out⟩
def ixP : Option Nat → Int
  | some k => k
  | none => -1
set_option maxHeartbeats 4000000 in
theorem pindex_any (A : Option Addr) (l : List PO.Pos) (cap g : Nat) (s : EM.Ser) (w : World) (hI : Poss w A l) (hg : CB w g 31 (serC s)) :
    Calls Try.prog 48 #[.slice A l.length cap, .func (.func 49) #[] #[.pointer (some ⟨g, 0, none⟩)]] w fun e w' => e = .returned (.int .i64 (ixP (PO.fidx l s))) ∧ Below w.heap.size w w' := by
  have hlen : l.length ≤ 9223372036854775807 := hI.len
  have KY := Lib.hid (fun k => @PO.fidx_some l s k); have KN := Lib.hid (@PO.fidx_none l s)
  have HC := Lib.hid (fun (t : PO.Pos) ww h => pis_any t g s ww h)
  generalize PO.fidx l s = o at *
  have HI := Lib.hid hI; have HG := Lib.hid hg
  have hgl : g < w.heap.size := hg.lt
  clear hI hg
  go_enter Try.func48, Try.ntmps48
  go_wp2
  go_loopw [8, 5] (fun i _ wr => ∃ k : Nat, k ≤ l.length ∧ i = .int .i64 (k : Int) ∧ Hid (∀ j, j < k → NM.seqB (PO.pAt l j).ser s = false) ∧ Hid (Below w.heap.size w wr)) (fun i _ _ => l.length - (intOf i).toNat)
  case atStart => exact ⟨0, by omega, rfl, Lib.hid (fun j h => by omega), Lib.hid (Below.refl _ _)⟩
  case round =>
    obtain ⟨k, hk, rfl, HE, HB⟩ := hrel
    by_cases hlt : k < l.length
    · obtain ⟨b, off, t, rfl, hb, HV, q, d0, d1, d2, d3, d4, d5⟩ := poss_get (HI.out.below HB.out) hlt
      have C1 := Lib.hid (fun ww h => HC.out t ww h)
      have HV2 : Hid (NM.seqB (PO.pAt l k).ser s = NM.seqB t.ser s) := Lib.hid (by rw [HV.out])
      have HG2 := Lib.hid (HG.out.below HB.out hgl)
      clear q HC
      cases hp : NM.seqB t.ser s
      · rw [hp] at C1 HV2
        have HE2 : Hid (∀ j, j < k + 1 → NM.seqB (PO.pAt l j).ser s = false) := Lib.hid (fun j hj => by
          rcases Nat.lt_or_ge j k with gg | gg
          · exact HE.out j gg
          · obtain rfl : j = k := by omega
            exact HV2.out)
        clear hp
        go_wp2_with fail
        refine (C1.out _ HG2.out).mono ?_
        rintro e w1 ⟨rfl, b1⟩
        have HB3 := Lib.hid (HB.out.trans (b1.mono HB.out.size))
        clear b1
        go_wp2_with fail
        go_roundw
        case rel => exact ⟨k + 1, by omega, by go_num, HE2, HB3⟩
        case measure => simp [intOf]; omega
      · rw [hp] at C1
        have HX := Lib.hid (KY.out k hlt HE.out (HV2.out.trans hp))
        clear hp
        go_wp2_with fail
        refine (C1.out _ HG2.out).mono ?_
        rintro e w1 ⟨rfl, b1⟩
        have HB3 := Lib.hid (HB.out.trans (b1.mono HB.out.size))
        clear b1
        go_wp2_with fail
        go_ret
        exact ⟨by rw [HX.out] <;> rfl, HB3.out⟩
    · obtain rfl : k = l.length := by omega
      have HX := Lib.hid (KN.out HE.out)
      go_wp2_with fail
      go_ret
      exact ⟨by rw [HX.out] <;> rfl, HB.out⟩
set_option maxHeartbeats 2000000 in
theorem pplace_any (A : Option Addr) (l : List PO.Pos) (cap : Nat) (s : EM.Ser) (w : World) (hI : Poss w A l) :
    Calls Try.prog 27 #[.slice A l.length cap, serA s] w fun e w' => e = .returned (.tuple #[.int .i64 (ixP (PO.fidx l s)), .bool (PO.fidx l s).isSome]) ∧ Below w.heap.size w w' := by
  have hmf : ∀ (fn : Fn) (first cap : Array Value) (w : World), (Instr.makeFunc fn first cap).run Try.prog w = .ok (.func fn first cap) w := fun _ _ _ _ => rfl
  have HB0 := Lib.hid ((Below.refl w.heap.size w).alloc (Nat.le_refl _) (.cells (serC s) 31))
  have C := Lib.hid (pindex_any A l cap w.heap.size s _ (hI.below HB0.out) (CB.new w 31 (serC s)))
  have hx : ((PO.fidx l s).isSome = true ∧ 0 ≤ ixP (PO.fidx l s)) ∨ ((PO.fidx l s).isSome = false ∧ ixP (PO.fidx l s) = -1) := by
    cases PO.fidx l s with
    | none => exact .inr ⟨rfl, rfl⟩
    | some i => exact .inl ⟨rfl, by simp [ixP]⟩
  generalize ixP (PO.fidx l s) = x at *
  generalize (PO.fidx l s).isSome = y at *
  clear hI
  rcases hx with ⟨rfl, hx⟩ | ⟨rfl, rfl⟩
  all_goals (
    go_enter Try.func27, Try.ntmps27
    go_wp2_with fail
    refine C.out.mono ?_
    rintro e w1 ⟨rfl, b1⟩
    have HB1 := Lib.hid (HB0.out.trans (b1.mono HB0.out.size))
    clear b1
    go_wp2_with fail
    go_ret2
    exact ⟨rfl, HB1.out⟩)
theorem pnet_any (x : PO.Pos) (n : Int) (hn : IntKind.i64.wrap (x.lo - x.sh) = n) (w : World) :
    Calls Try.prog 8 #[posA x] w fun e w' => e = .returned (.int .i64 n) ∧ Below w.heap.size w w' := by
  have HB0 := Lib.hid ((Below.refl w.heap.size w).alloc (Nat.le_refl _) (.cells (posC x) 38))
  go_enter Try.func8, Try.ntmps8
  go_wp2_with fail
  go_ret
  exact ⟨rfl, HB0.out⟩
end Go.Proofs.Ythippdmfeeopkab
