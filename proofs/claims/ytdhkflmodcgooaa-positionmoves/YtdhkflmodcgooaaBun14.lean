/- Put together: PosU, PosMath3, PosI, PosJ, PosK. -/
import Derived.Test.YtdhkflmodcgooaaBun13
import Derived.Test.YtdhkflmodcgooaaBun6
import Derived.Test.YtdhkflmodcgooaaBun9
/- Contracts of layer 15's reference: Apply, any leg. -/
namespace Go.Proofs.Ytdhkflmodcgooaa
open Go.RowKit Go.Recs
set_option linter.unusedVariables false
set_option linter.unusedSimpArgs false
set_option maxHeartbeats 16000000 in
set_option maxRecDepth 100000 in
theorem rapply15_any (A : Option Addr) (l : List PO.Pos) (n cap : Nat) (hn : n = l.length) (kind : Int) (x : NM.Leg) (closes : Int) (w : World) (hI : Poss w A l) :
    Calls Try.prog 30 #[.slice A n cap, .int .i64 kind, legA x, .int .i64 closes] w fun e w' => ∃ v, e = .returned (.tuple #[v, .int .i64 (PO.applyE l kind x.ser x.qty closes)]) ∧ OwnR w' w.heap.size 46 6 v ((PO.applyL l kind x.ser x.qty closes).map posV) ∧ Below w.heap.size w w' := by
  subst hn
  have hlen := hI.len
  have HB0 := Lib.hid (below_al (Below.refl w.heap.size w) (.cells (legC x) 60))
  have HX0 := Lib.hid (CB.new w 60 (legC x))
  have HI0 := Lib.hid (hI.below HB0.out)
  have C1 := Lib.hid (fun ww h => rcheck15_any A l l.length cap rfl ww h)
  have C2 := Lib.hid (fun ww => rkind15_any kind ww)
  have x2 : (w.alloc (.cells (legC x) 60)).cell? ⟨w.heap.size, 2, none⟩ = some (.string x.ser.prod) := HX0.out.cell 2
  have x3 : (w.alloc (.cells (legC x) 60)).cell? ⟨w.heap.size, 3, none⟩ = some (.int .i64 x.ser.kind) := HX0.out.cell 3
  have x4 : (w.alloc (.cells (legC x) 60)).cell? ⟨w.heap.size, 4, none⟩ = some (.int .i64 x.ser.expiry) := HX0.out.cell 4
  have x5 : (w.alloc (.cells (legC x) 60)).cell? ⟨w.heap.size, 5, none⟩ = some (.int .i64 x.ser.strike) := HX0.out.cell 5
  have x6 : (w.alloc (.cells (legC x) 60)).cell? ⟨w.heap.size, 6, none⟩ = some (.int .i64 x.qty) := HX0.out.cell 6
  have HI00 := Lib.hid hI
  clear hI
  by_cases hc : PO.checkE l = 0
  · have hl128 : l.length ≤ 1048576 := by have := (PO.check_good hc).1; omega
    obtain ⟨_, _, hg⟩ := PO.check_good hc
    rw [hc] at C1
    by_cases hk : 1 ≤ kind ∧ kind ≤ 3
    · rw [show (decide (1 ≤ kind) && decide (kind ≤ 3)) = true by simp [hk]] at C2
      by_cases hqq : x.qty = 0 ∨ x.qty < -1048576 ∨ 1048576 < x.qty
      · have hl : PO.legE kind x.qty closes = 18 := by unfold PO.legE; rw [if_neg (by simp [hk]), if_pos hqq]
        obtain ⟨r1, r2⟩ := PO.apply_leg (s := x.ser) hc (by rw [hl]; decide)
        rw [r1, r2, hl]
        clear r1 r2 hl hc hg
        rcases hqq with q0 | q0 | q0
        · have z1 : (x.qty == 0) = true := by simpa using q0
          clear q0
          go_enter Try.func30, Try.ntmps30
          go_wp2_with fail
          generalize w.alloc (.cells #[.string x.am, .string x.an, .string x.ser.prod, .int .i64 x.ser.kind, .int .i64 x.ser.expiry, .int .i64 x.ser.strike, .int .i64 x.qty, .int .i64 x.price, .int .i64 x.trade] 60) = w0 at *
          refine (C1.out _ HI0.out).mono ?_
          rintro e w1 ⟨rfl, b1⟩
          have HB1 := Lib.hid (HB0.out.trans (b1.mono HB0.out.size))
          have HI1 := Lib.hid (HI0.out.below b1)
          have HX1 := Lib.hid (HX0.out.below b1 HX0.out.lt)
          clear b1 HB0 HI0 HX0 C1 x2 x3 x4 x5 x6
          have x2 : w1.cell? ⟨w.heap.size, 2, none⟩ = some (.string x.ser.prod) := HX1.out.cell 2
          have x3 : w1.cell? ⟨w.heap.size, 3, none⟩ = some (.int .i64 x.ser.kind) := HX1.out.cell 3
          have x4 : w1.cell? ⟨w.heap.size, 4, none⟩ = some (.int .i64 x.ser.expiry) := HX1.out.cell 4
          have x5 : w1.cell? ⟨w.heap.size, 5, none⟩ = some (.int .i64 x.ser.strike) := HX1.out.cell 5
          have x6 : w1.cell? ⟨w.heap.size, 6, none⟩ = some (.int .i64 x.qty) := HX1.out.cell 6
          have xl1 := HX1.out.lt
          go_wp2_with fail
          refine (C2.out _).mono ?_
          rintro e w2 ⟨rfl, rfl⟩
          go_wp2_with fail
          go_ret2
          exact ⟨_, rfl, OwnR.nil _ _ _ _, HB1.out⟩
        · have z1 : (x.qty == 0) = false := by simp; omega
          go_enter Try.func30, Try.ntmps30
          go_wp2_with fail
          generalize w.alloc (.cells #[.string x.am, .string x.an, .string x.ser.prod, .int .i64 x.ser.kind, .int .i64 x.ser.expiry, .int .i64 x.ser.strike, .int .i64 x.qty, .int .i64 x.price, .int .i64 x.trade] 60) = w0 at *
          refine (C1.out _ HI0.out).mono ?_
          rintro e w1 ⟨rfl, b1⟩
          have HB1 := Lib.hid (HB0.out.trans (b1.mono HB0.out.size))
          have HI1 := Lib.hid (HI0.out.below b1)
          have HX1 := Lib.hid (HX0.out.below b1 HX0.out.lt)
          clear b1 HB0 HI0 HX0 C1 x2 x3 x4 x5 x6
          have x2 : w1.cell? ⟨w.heap.size, 2, none⟩ = some (.string x.ser.prod) := HX1.out.cell 2
          have x3 : w1.cell? ⟨w.heap.size, 3, none⟩ = some (.int .i64 x.ser.kind) := HX1.out.cell 3
          have x4 : w1.cell? ⟨w.heap.size, 4, none⟩ = some (.int .i64 x.ser.expiry) := HX1.out.cell 4
          have x5 : w1.cell? ⟨w.heap.size, 5, none⟩ = some (.int .i64 x.ser.strike) := HX1.out.cell 5
          have x6 : w1.cell? ⟨w.heap.size, 6, none⟩ = some (.int .i64 x.qty) := HX1.out.cell 6
          have xl1 := HX1.out.lt
          go_wp2_with fail
          refine (C2.out _).mono ?_
          rintro e w2 ⟨rfl, rfl⟩
          go_wp2_with fail
          go_ret2
          exact ⟨_, rfl, OwnR.nil _ _ _ _, HB1.out⟩
        · have z1 : (x.qty == 0) = false := by simp; omega
          have z2 : decide (x.qty < -1048576) = false := decide_eq_false (by omega)
          go_enter Try.func30, Try.ntmps30
          go_wp2_with fail
          generalize w.alloc (.cells #[.string x.am, .string x.an, .string x.ser.prod, .int .i64 x.ser.kind, .int .i64 x.ser.expiry, .int .i64 x.ser.strike, .int .i64 x.qty, .int .i64 x.price, .int .i64 x.trade] 60) = w0 at *
          refine (C1.out _ HI0.out).mono ?_
          rintro e w1 ⟨rfl, b1⟩
          have HB1 := Lib.hid (HB0.out.trans (b1.mono HB0.out.size))
          have HI1 := Lib.hid (HI0.out.below b1)
          have HX1 := Lib.hid (HX0.out.below b1 HX0.out.lt)
          clear b1 HB0 HI0 HX0 C1 x2 x3 x4 x5 x6
          have x2 : w1.cell? ⟨w.heap.size, 2, none⟩ = some (.string x.ser.prod) := HX1.out.cell 2
          have x3 : w1.cell? ⟨w.heap.size, 3, none⟩ = some (.int .i64 x.ser.kind) := HX1.out.cell 3
          have x4 : w1.cell? ⟨w.heap.size, 4, none⟩ = some (.int .i64 x.ser.expiry) := HX1.out.cell 4
          have x5 : w1.cell? ⟨w.heap.size, 5, none⟩ = some (.int .i64 x.ser.strike) := HX1.out.cell 5
          have x6 : w1.cell? ⟨w.heap.size, 6, none⟩ = some (.int .i64 x.qty) := HX1.out.cell 6
          have xl1 := HX1.out.lt
          go_wp2_with fail
          refine (C2.out _).mono ?_
          rintro e w2 ⟨rfl, rfl⟩
          go_wp2_with fail
          go_ret2
          exact ⟨_, rfl, OwnR.nil _ _ _ _, HB1.out⟩
      · have z1 : (x.qty == 0) = false := by simp; omega
        have z2 : decide (x.qty < -1048576) = false := decide_eq_false (by omega)
        have z3 : decide (1048576 < x.qty) = false := decide_eq_false (by omega)
        have C3 := Lib.hid (fun ww => rsize15_any x.qty (by omega) ww)
        by_cases hcl : kind = 3 ∧ (closes < 0 ∨ PO.absI x.qty < closes)
        · have hl : PO.legE kind x.qty closes = 18 := by unfold PO.legE; rw [if_neg (by simp [hk]), if_neg hqq, if_pos hcl]
          obtain ⟨r1, r2⟩ := PO.apply_leg (s := x.ser) hc (by rw [hl]; decide)
          rw [r1, r2, hl]
          obtain ⟨hk3, hcl⟩ := hcl
          have z4 : (kind == 3) = true := by simp [hk3]
          generalize PO.absI x.qty = na at *
          clear r1 r2 hl hc hg hk3 hqq
          rcases hcl with c0 | c0
          · go_enter Try.func30, Try.ntmps30
            go_wp2_with fail
            generalize w.alloc (.cells #[.string x.am, .string x.an, .string x.ser.prod, .int .i64 x.ser.kind, .int .i64 x.ser.expiry, .int .i64 x.ser.strike, .int .i64 x.qty, .int .i64 x.price, .int .i64 x.trade] 60) = w0 at *
            refine (C1.out _ HI0.out).mono ?_
            rintro e w1 ⟨rfl, b1⟩
            have HB1 := Lib.hid (HB0.out.trans (b1.mono HB0.out.size))
            have HI1 := Lib.hid (HI0.out.below b1)
            have HX1 := Lib.hid (HX0.out.below b1 HX0.out.lt)
            clear b1 HB0 HI0 HX0 C1 x2 x3 x4 x5 x6
            have x2 : w1.cell? ⟨w.heap.size, 2, none⟩ = some (.string x.ser.prod) := HX1.out.cell 2
            have x3 : w1.cell? ⟨w.heap.size, 3, none⟩ = some (.int .i64 x.ser.kind) := HX1.out.cell 3
            have x4 : w1.cell? ⟨w.heap.size, 4, none⟩ = some (.int .i64 x.ser.expiry) := HX1.out.cell 4
            have x5 : w1.cell? ⟨w.heap.size, 5, none⟩ = some (.int .i64 x.ser.strike) := HX1.out.cell 5
            have x6 : w1.cell? ⟨w.heap.size, 6, none⟩ = some (.int .i64 x.qty) := HX1.out.cell 6
            have xl1 := HX1.out.lt
            go_wp2_with fail
            refine (C2.out _).mono ?_
            rintro e w2 ⟨rfl, rfl⟩
            go_wp2_with fail
            refine (C3.out _).mono ?_
            rintro e w2 ⟨rfl, rfl⟩
            go_wp2_with fail
            go_ret2
            exact ⟨_, rfl, OwnR.nil _ _ _ _, HB1.out⟩
          · by_cases c1 : closes < 0
            · go_enter Try.func30, Try.ntmps30
              go_wp2_with fail
              generalize w.alloc (.cells #[.string x.am, .string x.an, .string x.ser.prod, .int .i64 x.ser.kind, .int .i64 x.ser.expiry, .int .i64 x.ser.strike, .int .i64 x.qty, .int .i64 x.price, .int .i64 x.trade] 60) = w0 at *
              refine (C1.out _ HI0.out).mono ?_
              rintro e w1 ⟨rfl, b1⟩
              have HB1 := Lib.hid (HB0.out.trans (b1.mono HB0.out.size))
              have HI1 := Lib.hid (HI0.out.below b1)
              have HX1 := Lib.hid (HX0.out.below b1 HX0.out.lt)
              clear b1 HB0 HI0 HX0 C1 x2 x3 x4 x5 x6
              have x2 : w1.cell? ⟨w.heap.size, 2, none⟩ = some (.string x.ser.prod) := HX1.out.cell 2
              have x3 : w1.cell? ⟨w.heap.size, 3, none⟩ = some (.int .i64 x.ser.kind) := HX1.out.cell 3
              have x4 : w1.cell? ⟨w.heap.size, 4, none⟩ = some (.int .i64 x.ser.expiry) := HX1.out.cell 4
              have x5 : w1.cell? ⟨w.heap.size, 5, none⟩ = some (.int .i64 x.ser.strike) := HX1.out.cell 5
              have x6 : w1.cell? ⟨w.heap.size, 6, none⟩ = some (.int .i64 x.qty) := HX1.out.cell 6
              have xl1 := HX1.out.lt
              go_wp2_with fail
              refine (C2.out _).mono ?_
              rintro e w2 ⟨rfl, rfl⟩
              go_wp2_with fail
              refine (C3.out _).mono ?_
              rintro e w2 ⟨rfl, rfl⟩
              go_wp2_with fail
              go_ret2
              exact ⟨_, rfl, OwnR.nil _ _ _ _, HB1.out⟩
            · have z5 : decide (closes < 0) = false := decide_eq_false c1
              go_enter Try.func30, Try.ntmps30
              go_wp2_with fail
              generalize w.alloc (.cells #[.string x.am, .string x.an, .string x.ser.prod, .int .i64 x.ser.kind, .int .i64 x.ser.expiry, .int .i64 x.ser.strike, .int .i64 x.qty, .int .i64 x.price, .int .i64 x.trade] 60) = w0 at *
              refine (C1.out _ HI0.out).mono ?_
              rintro e w1 ⟨rfl, b1⟩
              have HB1 := Lib.hid (HB0.out.trans (b1.mono HB0.out.size))
              have HI1 := Lib.hid (HI0.out.below b1)
              have HX1 := Lib.hid (HX0.out.below b1 HX0.out.lt)
              clear b1 HB0 HI0 HX0 C1 x2 x3 x4 x5 x6
              have x2 : w1.cell? ⟨w.heap.size, 2, none⟩ = some (.string x.ser.prod) := HX1.out.cell 2
              have x3 : w1.cell? ⟨w.heap.size, 3, none⟩ = some (.int .i64 x.ser.kind) := HX1.out.cell 3
              have x4 : w1.cell? ⟨w.heap.size, 4, none⟩ = some (.int .i64 x.ser.expiry) := HX1.out.cell 4
              have x5 : w1.cell? ⟨w.heap.size, 5, none⟩ = some (.int .i64 x.ser.strike) := HX1.out.cell 5
              have x6 : w1.cell? ⟨w.heap.size, 6, none⟩ = some (.int .i64 x.qty) := HX1.out.cell 6
              have xl1 := HX1.out.lt
              go_wp2_with fail
              refine (C2.out _).mono ?_
              rintro e w2 ⟨rfl, rfl⟩
              go_wp2_with fail
              refine (C3.out _).mono ?_
              rintro e w2 ⟨rfl, rfl⟩
              go_wp2_with fail
              go_ret2
              exact ⟨_, rfl, OwnR.nil _ _ _ _, HB1.out⟩
        · have hl : PO.legE kind x.qty closes = 0 := by unfold PO.legE; rw [if_neg (by simp [hk]), if_neg hqq, if_neg hcl]
          by_cases hneg : x.qty < 0
          · exact rapply15_neg A l l.length cap rfl kind x closes w HI00.out hc hl hneg
          · exact rapply15_pos A l l.length cap rfl kind x closes w HI00.out hc hl hneg
    · have hl : PO.legE kind x.qty closes = 21 := by unfold PO.legE; rw [if_pos hk]
      obtain ⟨r1, r2⟩ := PO.apply_leg (s := x.ser) hc (by rw [hl]; decide)
      rw [r1, r2, hl]
      rw [show (decide (1 ≤ kind) && decide (kind ≤ 3)) = false by rw [Bool.and_eq_false_iff, decide_eq_false_iff_not, decide_eq_false_iff_not]; omega] at C2
      clear r1 r2 hl hc hg hk
      go_enter Try.func30, Try.ntmps30
      go_wp2_with fail
      generalize w.alloc (.cells #[.string x.am, .string x.an, .string x.ser.prod, .int .i64 x.ser.kind, .int .i64 x.ser.expiry, .int .i64 x.ser.strike, .int .i64 x.qty, .int .i64 x.price, .int .i64 x.trade] 60) = w0 at *
      refine (C1.out _ HI0.out).mono ?_
      rintro e w1 ⟨rfl, b1⟩
      have HB1 := Lib.hid (HB0.out.trans (b1.mono HB0.out.size))
      have HI1 := Lib.hid (HI0.out.below b1)
      have HX1 := Lib.hid (HX0.out.below b1 HX0.out.lt)
      clear b1 HB0 HI0 HX0 C1 x2 x3 x4 x5 x6
      have x2 : w1.cell? ⟨w.heap.size, 2, none⟩ = some (.string x.ser.prod) := HX1.out.cell 2
      have x3 : w1.cell? ⟨w.heap.size, 3, none⟩ = some (.int .i64 x.ser.kind) := HX1.out.cell 3
      have x4 : w1.cell? ⟨w.heap.size, 4, none⟩ = some (.int .i64 x.ser.expiry) := HX1.out.cell 4
      have x5 : w1.cell? ⟨w.heap.size, 5, none⟩ = some (.int .i64 x.ser.strike) := HX1.out.cell 5
      have x6 : w1.cell? ⟨w.heap.size, 6, none⟩ = some (.int .i64 x.qty) := HX1.out.cell 6
      have xl1 := HX1.out.lt
      go_wp2_with fail
      refine (C2.out _).mono ?_
      rintro e w2 ⟨rfl, rfl⟩
      go_wp2_with fail
      go_ret2
      exact ⟨_, rfl, OwnR.nil _ _ _ _, HB1.out⟩
  · obtain ⟨r1, r2⟩ := PO.apply_check (kind := kind) (s := x.ser) (qty := x.qty) (closes := closes) hc
    rw [r1, r2]
    generalize PO.checkE l = ce at *
    have hne : (ce != 0) = true := by simpa using hc
    clear r1 r2 hc
    go_enter Try.func30, Try.ntmps30
    go_wp2_with fail
    generalize w.alloc (.cells #[.string x.am, .string x.an, .string x.ser.prod, .int .i64 x.ser.kind, .int .i64 x.ser.expiry, .int .i64 x.ser.strike, .int .i64 x.qty, .int .i64 x.price, .int .i64 x.trade] 60) = w0 at *
    refine (C1.out _ HI0.out).mono ?_
    rintro e w1 ⟨rfl, b1⟩
    have HB1 := Lib.hid (HB0.out.trans (b1.mono HB0.out.size))
    have HI1 := Lib.hid (HI0.out.below b1)
    have HX1 := Lib.hid (HX0.out.below b1 HX0.out.lt)
    clear b1 HB0 HI0 HX0 C1 x2 x3 x4 x5 x6
    have x2 : w1.cell? ⟨w.heap.size, 2, none⟩ = some (.string x.ser.prod) := HX1.out.cell 2
    have x3 : w1.cell? ⟨w.heap.size, 3, none⟩ = some (.int .i64 x.ser.kind) := HX1.out.cell 3
    have x4 : w1.cell? ⟨w.heap.size, 4, none⟩ = some (.int .i64 x.ser.expiry) := HX1.out.cell 4
    have x5 : w1.cell? ⟨w.heap.size, 5, none⟩ = some (.int .i64 x.ser.strike) := HX1.out.cell 5
    have x6 : w1.cell? ⟨w.heap.size, 6, none⟩ = some (.int .i64 x.qty) := HX1.out.cell 6
    have xl1 := HX1.out.lt
    go_wp2_with fail
    go_ret2
    exact ⟨_, rfl, OwnR.nil _ _ _ _, HB1.out⟩
end Go.Proofs.Ytdhkflmodcgooaa

/- Layer 15's mathematics: lots moved. -/
namespace PO
def mv0E (fr to : List Pos) (kind lo sh : Int) : Int :=
  if checkE fr ≠ 0 then checkE fr else if checkE to ≠ 0 then checkE to else if ¬ (1 ≤ kind ∧ kind ≤ 3) then 21 else if ¬ lotsB lo sh = true then 18 else 0
def lessP (l : List Pos) (s : EM.Ser) (lo sh : Int) : Pos := ⟨s, (findP l s).lo - lo, (findP l s).sh - sh⟩
def gvE (l : List Pos) (s : EM.Ser) (lo sh : Int) : Int := if (findP l s).lo < lo ∨ (findP l s).sh < sh then 30 else 0
def gvL (l : List Pos) (s : EM.Ser) (lo sh : Int) : List Pos := if gvE l s lo sh = 0 then putsL l (lessP l s lo sh) else []
/-- one of the two legs -/
def r1E (l : List Pos) (kind : Int) (s : EM.Ser) (q : Int) : Int := if q = 0 then 0 else applyE l kind s q 0
def r1L (l : List Pos) (kind : Int) (s : EM.Ser) (q : Int) : List Pos := if q = 0 then l else applyL l kind s q 0
def rcE (l : List Pos) (kind : Int) (s : EM.Ser) (lo sh : Int) : Int := if r1E l kind s lo ≠ 0 then r1E l kind s lo else r1E (r1L l kind s lo) kind s (-sh)
def rcL (l : List Pos) (kind : Int) (s : EM.Ser) (lo sh : Int) : List Pos := if rcE l kind s lo sh = 0 then r1L (r1L l kind s lo) kind s (-sh) else []
def mvE (fr to : List Pos) (kind : Int) (s : EM.Ser) (lo sh : Int) : Int :=
  if mv0E fr to kind lo sh ≠ 0 then mv0E fr to kind lo sh else if gvE fr s lo sh ≠ 0 then gvE fr s lo sh else rcE to kind s lo sh
def mvA (fr to : List Pos) (kind : Int) (s : EM.Ser) (lo sh : Int) : List Pos := if mvE fr to kind s lo sh = 0 then gvL fr s lo sh else []
def mvB (fr to : List Pos) (kind : Int) (s : EM.Ser) (lo sh : Int) : List Pos := if mvE fr to kind s lo sh = 0 then rcL to kind s lo sh else []
theorem puts_mem {l : List Pos} {p q : Pos} (h : q ∈ putsL l p) : q = p ∨ q ∈ l := by
  unfold putsL at h
  split at h
  · exact .inr (List.mem_filter.1 h).1
  · rcases List.mem_cons.1 ((ins_perm p _).mem_iff.1 h) with h | h
    · exact .inl h
    · exact .inr (List.mem_filter.1 h).1
theorem apply_inv {l : List Pos} {kind : Int} {s : EM.Ser} {qty closes : Int} (h : applyE l kind s qty closes = 0) :
    checkE l = 0 ∧ legE kind qty closes = 0 ∧ chgE (findP l s) qty (cloS kind qty closes (findP l s)) = 0 ∧ (putsL l (newP l kind s qty closes)).length ≤ 128 ∧ applyL l kind s qty closes = putsL l (newP l kind s qty closes) := by
  have e : applyL l kind s qty closes = putsL l (newP l kind s qty closes) := by unfold applyL; rw [if_pos h]
  unfold applyE at h
  split at h
  · rename_i g; exact absurd h g
  rename_i g1
  split at h
  · rename_i g; exact absurd h g
  rename_i g2
  split at h
  · rename_i g; exact absurd h g
  rename_i g3
  split at h
  · cases h
  rename_i g4
  exact ⟨by omega, by omega, by omega, by omega, e⟩
theorem apply_no {l : List Pos} {kind : Int} {s : EM.Ser} {qty closes : Int} (h : ¬ applyE l kind s qty closes = 0) : applyL l kind s qty closes = [] := by unfold applyL; rw [if_neg h]
theorem lots_two {lo sh : Int} (h : lotsB lo sh = true) : (0 ≤ lo ∧ lo ≤ 1048576) ∧ (0 ≤ sh ∧ sh ≤ 1048576) ∧ (¬ lo = 0 ∨ ¬ sh = 0) := by
  have := lotsB_iff.1 h
  omega
end PO

/- Contracts of layer 15: what is given, checked. -/
namespace Go.Proofs.Ytdhkflmodcgooaa
open Go.RowKit Go.Recs Go.Maps
set_option linter.unusedVariables false
set_option linter.unusedSimpArgs false
set_option maxHeartbeats 2000000 in
theorem pcheckmove_any (A B : Option Addr) (l m : List PO.Pos) (na ca nb cb : Nat) (hna : na = l.length) (hnb : nb = m.length) (kind lo sh : Int) (w : World) (hI : Poss w A l) (hJ : Poss w B m) :
    Calls Try.prog 63 #[.slice A na ca, .slice B nb cb, .int .i64 kind, .int .i64 lo, .int .i64 sh] w fun e w' => e = .returned (.int .i64 (PO.mv0E l m kind lo sh)) ∧ Below w.heap.size w w' := by
  subst hna hnb
  have C1 := Lib.hid (pcheck15_any A l l.length ca rfl w hI)
  have C2 := Lib.hid (fun ww h => pcheck15_any B m m.length cb rfl ww h)
  have C3 := Lib.hid (fun ww => pkind15_any kind ww)
  have C4 := Lib.hid (fun ww => plots15_any lo sh ww)
  have HJ := Lib.hid hJ
  clear hI hJ
  by_cases h1 : PO.checkE l = 0
  · rw [h1] at C1
    by_cases h2 : PO.checkE m = 0
    · rw [h2] at C2
      by_cases h3 : 1 ≤ kind ∧ kind ≤ 3
      · have e3 : (decide (1 ≤ kind) && decide (kind ≤ 3)) = true := by simp; omega
        rw [e3] at C3
        have e : PO.mv0E l m kind lo sh = if ¬ PO.lotsB lo sh = true then 18 else 0 := by unfold PO.mv0E; rw [if_neg (by simp [h1]), if_neg (by simp [h2]), if_neg (by simp [h3])]
        rw [e]
        clear e e3 h1 h2 h3
        generalize PO.lotsB lo sh = bl at *
        cases bl
        all_goals (
          go_enter Try.func63, Try.ntmps63
          go_wp2_with fail
          refine C1.out.mono ?_
          rintro e w1 ⟨rfl, b1⟩
          have HB1 := Lib.hid b1
          have HJ1 := Lib.hid (HJ.out.below b1)
          clear b1
          go_wp2_with fail
          refine (C2.out _ HJ1.out).mono ?_
          rintro e w2 ⟨rfl, b2⟩
          have HB2 := Lib.hid (HB1.out.trans (b2.mono HB1.out.size))
          clear b2
          go_wp2_with fail
          refine (C3.out _).mono ?_
          rintro e w3 ⟨rfl, rfl⟩
          go_wp2_with fail
          refine (C4.out _).mono ?_
          rintro e w3 ⟨rfl, rfl⟩
          go_wp2_with fail
          go_ret
          exact ⟨by first | rfl | simp, HB2.out⟩)
      · have e3 : (decide (1 ≤ kind) && decide (kind ≤ 3)) = false := by simp; omega
        rw [e3] at C3
        have e : PO.mv0E l m kind lo sh = 21 := by unfold PO.mv0E; rw [if_neg (by simp [h1]), if_neg (by simp [h2]), if_pos h3]
        rw [e]
        clear e e3 h1 h2 h3 C4
        go_enter Try.func63, Try.ntmps63
        go_wp2_with fail
        refine C1.out.mono ?_
        rintro e w1 ⟨rfl, b1⟩
        have HB1 := Lib.hid b1
        have HJ1 := Lib.hid (HJ.out.below b1)
        clear b1
        go_wp2_with fail
        refine (C2.out _ HJ1.out).mono ?_
        rintro e w2 ⟨rfl, b2⟩
        have HB2 := Lib.hid (HB1.out.trans (b2.mono HB1.out.size))
        clear b2
        go_wp2_with fail
        refine (C3.out _).mono ?_
        rintro e w3 ⟨rfl, rfl⟩
        go_wp2_with fail
        go_ret
        exact ⟨rfl, HB2.out⟩
    · have e : PO.mv0E l m kind lo sh = PO.checkE m := by unfold PO.mv0E; rw [if_neg (by simp [h1]), if_pos h2]
      have hne : (PO.checkE m != 0) = true := by simpa using h2
      rw [e]
      generalize PO.checkE m = r at *
      clear e h1 h2 C3 C4
      go_enter Try.func63, Try.ntmps63
      go_wp2_with fail
      refine C1.out.mono ?_
      rintro e w1 ⟨rfl, b1⟩
      have HB1 := Lib.hid b1
      have HJ1 := Lib.hid (HJ.out.below b1)
      clear b1
      go_wp2_with fail
      refine (C2.out _ HJ1.out).mono ?_
      rintro e w2 ⟨rfl, b2⟩
      have HB2 := Lib.hid (HB1.out.trans (b2.mono HB1.out.size))
      clear b2
      go_wp2_with fail
      go_ret
      exact ⟨rfl, HB2.out⟩
  · have e : PO.mv0E l m kind lo sh = PO.checkE l := by unfold PO.mv0E; rw [if_pos h1]
    have hne : (PO.checkE l != 0) = true := by simpa using h1
    rw [e]
    generalize PO.checkE l = r at *
    clear e h1 C2 C3 C4
    go_enter Try.func63, Try.ntmps63
    go_wp2_with fail
    refine C1.out.mono ?_
    rintro e w1 ⟨rfl, b1⟩
    have HB1 := Lib.hid b1
    clear b1
    go_wp2_with fail
    go_ret
    exact ⟨rfl, HB1.out⟩
set_option maxHeartbeats 4000000 in
set_option maxRecDepth 100000 in
theorem pgiven_any (A : Option Addr) (l : List PO.Pos) (n cap : Nat) (hn : n = l.length) (hc : PO.checkE l = 0) (s : EM.Ser) (hs : serQ s) (lo sh : Int) (hls : (0 ≤ lo ∧ lo ≤ 1048576) ∧ 0 ≤ sh ∧ sh ≤ 1048576) (w : World) (hI : Poss w A l) :
    Calls Try.prog 64 #[.slice A n cap, serA s, .int .i64 lo, .int .i64 sh] w fun e w' => ∃ v, e = .returned (.tuple #[v, .int .i64 (PO.gvE l s lo sh)]) ∧ OwnR w' w.heap.size 46 6 v ((PO.gvL l s lo sh).map posV) ∧ Below w.heap.size w w' := by
  subst hn
  have hlen := hI.len
  have HB0 := Lib.hid (below_al (Below.refl w.heap.size w) (.cells #[.string s.prod, .int .i64 s.kind, .int .i64 s.expiry, .int .i64 s.strike] 44))
  have HX0 := Lib.hid (SBox.new w s)
  have HI0 := Lib.hid (hI.below HB0.out)
  have HQL := Lib.hid hI.2
  clear hI
  obtain ⟨hl1, ha, hg⟩ := PO.check_good hc
  have hfl := PO.find_lots hg s
  have hfs := PO.find_ser l s
  have C3 := Lib.hid (fun ww h => pindexed_any A l l.length cap rfl hc ww h)
  have C4 := Lib.hid (fun b nn D ps (hp : ps.Perm l) ww hS hw => pfind_any (PO.findP l s) s hs b nn D ps hS (fun p hh => HQL.out p (hp.mem_iff.1 hh)) (PO.find_perm hp s) ww hw)
  have HNP : Hid (PO.lessP l s lo sh = ⟨(PO.findP l s).ser, (PO.findP l s).lo - lo, (PO.findP l s).sh - sh⟩) := Lib.hid (by unfold PO.lessP; rw [hfs])
  have HNQ : Hid (posQ (PO.lessP l s lo sh)) := Lib.hid ⟨hs, ⟨by show -9223372036854775808 ≤ (PO.findP l s).lo - lo; omega, by show (PO.findP l s).lo - lo ≤ 9223372036854775807; omega⟩, ⟨by show -9223372036854775808 ≤ (PO.findP l s).sh - sh; omega, by show (PO.findP l s).sh - sh ≤ 9223372036854775807; omega⟩⟩
  have HPL : Hid (∀ ps : List PO.Pos, ps.Perm l → (PO.putM ps (PO.lessP l s lo sh)).Perm (PO.putsL l (PO.lessP l s lo sh))) := Lib.hid (fun ps h => PO.puts_perm h _)
  have HPN : Hid ((PO.putsL l (PO.lessP l s lo sh)).length ≤ 129) := Lib.hid (by
    unfold PO.putsL
    split
    · have := List.length_filter_le (fun q : PO.Pos => !NM.seqB q.ser (PO.lessP l s lo sh).ser) l
      unfold PO.others; omega
    · rw [(PO.ins_perm _ _).length_eq, List.length_cons]
      have := List.length_filter_le (fun q : PO.Pos => !NM.seqB q.ser (PO.lessP l s lo sh).ser) l
      unfold PO.others; omega)
  have HAS : Hid (PO.ascP (PO.putsL l (PO.lessP l s lo sh))) := Lib.hid (PO.puts_asc ha _)
  have KE : Hid (((PO.findP l s).lo < lo ∨ (PO.findP l s).sh < sh → PO.gvE l s lo sh = 30 ∧ PO.gvL l s lo sh = []) ∧ (¬ ((PO.findP l s).lo < lo ∨ (PO.findP l s).sh < sh) → PO.gvE l s lo sh = 0 ∧ PO.gvL l s lo sh = PO.putsL l (PO.lessP l s lo sh))) := Lib.hid ⟨fun h => by
      have e : PO.gvE l s lo sh = 30 := by unfold PO.gvE; rw [if_pos h]
      exact ⟨e, by unfold PO.gvL; rw [e]; rfl⟩, fun h => by
      have e : PO.gvE l s lo sh = 0 := by unfold PO.gvE; rw [if_neg h]
      exact ⟨e, by unfold PO.gvL; rw [if_pos e]⟩⟩
  obtain ⟨⟨a1, a2⟩, a3, a4⟩ := hfl
  obtain ⟨⟨b1, b2⟩, b3, b4⟩ := hls
  generalize PO.gvE l s lo sh = ge at *
  generalize PO.gvL l s lo sh = gl at *
  generalize PO.lessP l s lo sh = np at *
  generalize PO.findP l s = fp at *
  generalize PO.putsL l np = pl at *
  clear hc ha hg hfs
  go_enter Try.func64, Try.ntmps64
  go_wp2_with fail
  generalize w.alloc (.cells #[.string s.prod, .int .i64 s.kind, .int .i64 s.expiry, .int .i64 s.strike] 44) = w0 at *
  refine (C3.out _ HI0.out).mono ?_
  rintro e w2 ⟨rfl, ⟨D, ps, hm, hS, hP⟩, bb2⟩
  have HB2 := Lib.hid (HB0.out.trans (bb2.mono HB0.out.size))
  have HX2 := Lib.hid (HX0.out.below bb2 HX0.out.lt)
  have HM2 := Lib.hid hm; have HS2 := Lib.hid hS; have HP2 := Lib.hid hP
  have HLE : Hid (w.heap.size ≤ w0.heap.size) := Lib.hid HB0.out.size
  have C4b := Lib.hid (C4.out _ _ D ps hP w2 hS hm)
  obtain ⟨x2, x3, x4, x5⟩ := HX2.out.cells
  have xl2 := HX2.out.lt
  clear bb2 hm hS hP HX0 HI0 C3 C4 HB0
  generalize hbk : w0.heap.size = bk at *
  clear hbk
  go_wp2_with fail
  refine C4b.out.mono ?_
  clear x2 x3 x4 x5 xl2
  rintro e w3 ⟨rfl, bb3⟩
  have HB3 := Lib.hid (HB2.out.trans (bb3.mono HB2.out.size))
  have HGB : Hid (bk ≠ w3.heap.size) := Lib.hid (by have := HM2.out.lt; have := bb3.size; omega)
  have HM3 := Lib.hid (owns_below HM2.out bb3)
  clear bb3 C4b HX2 HM2 HB2
  by_cases hlt : fp.lo < lo ∨ fp.sh < sh
  · have HR := Lib.hid (KE.out.1 hlt)
    have HB4 := Lib.hid (fun (a : Array Value) => below_al HB3.out (.cells a 46))
    by_cases h1 : fp.lo < lo
    · clear hlt KE
      go_wp2_with fail
      go_ret2
      exact ⟨_, by rw [HR.out.1] <;> rfl, by rw [HR.out.2]; exact OwnR.nil _ _ _ _, HB4.out _⟩
    · have h2 : fp.sh < sh := by omega
      clear hlt KE
      go_wp2_with fail
      go_ret2
      exact ⟨_, by rw [HR.out.1] <;> rfl, by rw [HR.out.2]; exact OwnR.nil _ _ _ _, HB4.out _⟩
  · have HR := Lib.hid (KE.out.2 hlt)
    have h1 : ¬ fp.lo < lo := fun h => hlt (.inl h)
    have h2 : ¬ fp.sh < sh := fun h => hlt (.inr h)
    have HM7 : Hid ((w3.alloc (.cells #[.string fp.ser.prod, .int .i64 fp.ser.kind, .int .i64 fp.ser.expiry, .int .i64 fp.ser.strike, .int .i64 (fp.lo - lo), .int .i64 (fp.sh - sh)] 46)).ownsMap Try.prog 44 posElem bk l.length D) := Lib.hid (HM3.out.alloc _)
    have HB7 := Lib.hid (below_al HB3.out (.cells #[.string fp.ser.prod, .int .i64 fp.ser.kind, .int .i64 fp.ser.expiry, .int .i64 fp.ser.strike, .int .i64 (fp.lo - lo), .int .i64 (fp.sh - sh)] 46))
    have hnp := HNP.out
    subst hnp
    have C7 := Lib.hid (pput_any _ HNQ.out bk l.length D ps HS2.out (fun p hh => HQL.out p (HP2.out.mem_iff.1 hh)) (by omega) _ HM7.out)
    clear hlt KE HNP
    go_wp2_with fail
    generalize w3.alloc (.cells #[.string fp.ser.prod, .int .i64 fp.ser.kind, .int .i64 fp.ser.expiry, .int .i64 fp.ser.strike, .int .i64 (fp.lo - lo), .int .i64 (fp.sh - sh)] 46) = w7 at *
    refine C7.out.mono ?_
    rintro e w8 ⟨rfl, ⟨D8, hm8, hs8⟩, hb8⟩
    have HB8 := Lib.hid (HB7.out.trans (hb8 w.heap.size HLE.out))
    have C9 := Lib.hid (plist_any bk _ D8 _ pl hs8 (by rw [(HPL.out ps HP2.out).length_eq]; have := HPN.out; omega) (HPL.out ps HP2.out) HAS.out w8 hm8)
    clear hm8 hs8 hb8 C7
    go_wp2_with fail
    refine C9.out.mono ?_
    rintro e w9 ⟨v, rfl, g1, g2⟩
    have H1 := Lib.hid (g1.lower HB8.out.size); have H2 := Lib.hid (HB8.out.trans (g2.mono HB8.out.size))
    clear g1 g2
    go_wp2_with fail
    go_ret2
    exact ⟨_, by rw [HR.out.1] <;> rfl, by rw [HR.out.2]; exact H1.out, H2.out⟩
end Go.Proofs.Ytdhkflmodcgooaa

/- Contracts of layer 15: what is received. -/
namespace Go.Proofs.Ytdhkflmodcgooaa
open Go.RowKit Go.Recs Go.Maps
set_option linter.unusedVariables false
set_option linter.unusedSimpArgs false
theorem apply_posQ {l : List PO.Pos} (hq : ∀ p ∈ l, posQ p) {s : EM.Ser} (hs : serQ s) (kind qty closes : Int) : ∀ p ∈ PO.applyL l kind s qty closes, posQ p := by
  intro p hp
  by_cases he : PO.applyE l kind s qty closes = 0
  · obtain ⟨h1, h2, h3, _, h5⟩ := PO.apply_inv he
    rw [h5] at hp
    obtain ⟨_, _, hg⟩ := PO.check_good h1
    obtain ⟨⟨q0, q1, q2⟩, k1, k2⟩ := PO.clo_ok hg h2 s
    obtain ⟨e1, e2, e3, e4⟩ := PO.chg_q (PO.find_lots hg s) k1 k2 h3
    rcases PO.puts_mem hp with rfl | hp
    · exact ⟨by show serQ (PO.chg _ _ _).ser; rw [e1, PO.find_ser]; exact hs, ⟨by show _ ≤ (PO.chg _ _ _).lo; omega, by show (PO.chg _ _ _).lo ≤ _; omega⟩, ⟨by show _ ≤ (PO.chg _ _ _).sh; omega, by show (PO.chg _ _ _).sh ≤ _; omega⟩⟩
    · exact hq p hp
  · rw [PO.apply_no he] at hp
    cases hp
abbrev sleg (s : EM.Ser) (q : Int) : NM.Leg := ⟨⟨#[]⟩, ⟨#[]⟩, s, q, 0, 0⟩
theorem sleg_q {s : EM.Ser} (hs : serQ s) {q : Int} (h1 : -1048576 ≤ q) (h2 : q ≤ 1048576) : legQ (sleg s q) := by
  have z : (⟨#[]⟩ : ByteArray).size ≤ maxLen := by decide
  have z0 : i64 0 := ⟨by decide, by decide⟩
  exact ⟨z, z, hs, ⟨by show _ ≤ q; omega, by show q ≤ _; omega⟩, z0, z0⟩
set_option maxHeartbeats 4000000 in
set_option maxRecDepth 100000 in
theorem preceived_any (A : Option Addr) (l : List PO.Pos) (n cap : Nat) (hn : n = l.length) (kind : Int) (s : EM.Ser) (hs : serQ s) (lo sh : Int) (hls : (0 ≤ lo ∧ lo ≤ 1048576) ∧ (0 ≤ sh ∧ sh ≤ 1048576) ∧ (¬ lo = 0 ∨ ¬ sh = 0)) (w : World) (hI : Poss w A l) :
    Calls Try.prog 65 #[.slice A n cap, .int .i64 kind, serA s, .int .i64 lo, .int .i64 sh] w fun e w' => ∃ v, e = .returned (.tuple #[v, .int .i64 (PO.rcE l kind s lo sh)]) ∧ OwnR w' w.heap.size 46 6 v ((PO.rcL l kind s lo sh).map posV) ∧ Below w.heap.size w w' := by
  subst hn
  have hlen := hI.len
  obtain ⟨⟨a1, a2⟩, ⟨a3, a4⟩, hnz⟩ := hls
  have HB0 := Lib.hid (below_al (below_al (Below.refl w.heap.size w) (.cells #[.string s.prod, .int .i64 s.kind, .int .i64 s.expiry, .int .i64 s.strike] 44)) (.cells #[.int .i64 lo, .int .i64 (-sh)] 3))
  have HX0 := Lib.hid ((SBox.new w s).alloc (.cells #[.int .i64 lo, .int .i64 (-sh)] 3))
  have HA0 := Lib.hid (CB.new1 w (.cells #[.string s.prod, .int .i64 s.kind, .int .i64 s.expiry, .int .i64 s.strike] 44) 3 #[.int .i64 lo, .int .i64 (-sh)])
  have HI0 := Lib.hid (hI.below HB0.out)
  have HQL := Lib.hid hI.2
  clear hI
  by_cases hlz : lo = 0
  · have hsn : ¬ sh = 0 := by omega
    have c1 : (lo == 0) = true := beq_t hlz
    have c2 : (-sh == 0) = false := beq_f (by omega)
    have C1 := Lib.hid (fun ww h => papply_any A l l.length cap rfl kind (sleg s (-sh)) (sleg_q hs (by omega) (by omega)) 0 ww h)
    have r1 : PO.r1E l kind s lo = 0 := by unfold PO.r1E; rw [if_pos hlz]
    have r2 : PO.r1L l kind s lo = l := by unfold PO.r1L; rw [if_pos hlz]
    have e1 : PO.rcE l kind s lo sh = PO.applyE l kind s (-sh) 0 := by unfold PO.rcE; rw [r1, r2, if_neg (by simp)]; unfold PO.r1E; rw [if_neg (by omega)]
    have e2 : PO.rcL l kind s lo sh = PO.applyL l kind s (-sh) 0 := by
      unfold PO.rcL
      rw [e1, r2]
      by_cases he : PO.applyE l kind s (-sh) 0 = 0
      · rw [if_pos he]; unfold PO.r1L; rw [if_neg (by omega)]
      · rw [if_neg he, PO.apply_no he]
    rw [e1, e2]
    have KL : Hid (¬ PO.applyE l kind s (-sh) 0 = 0 → PO.applyL l kind s (-sh) 0 = []) := Lib.hid (fun h => PO.apply_no h)
    generalize PO.applyE l kind s (-sh) 0 = r at *
    generalize PO.applyL l kind s (-sh) 0 = rl at *
    clear e1 e2 r1 r2 hnz hlz hsn
    go_enter Try.func65, Try.ntmps65
    go_wp2_with fail
    generalize (w.alloc (.cells #[.string s.prod, .int .i64 s.kind, .int .i64 s.expiry, .int .i64 s.strike] 44)).alloc (.cells #[.int .i64 lo, .int .i64 (-sh)] 3) = w0 at *
    obtain ⟨x2, x3, x4, x5⟩ := HX0.out.cells
    have xl := HX0.out.lt
    have y0 : w0.cell? ⟨w.heap.size + 1, 0, none⟩ = some (.int .i64 lo) := HA0.out.cell 0
    have y1 : w0.cell? ⟨w.heap.size + 1, 1, none⟩ = some (.int .i64 (-sh)) := HA0.out.cell 1
    have yl := HA0.out.lt
    refine wp_loop_rounds 3 ?_
    rw [rounds_succ]
    go_wp2_with fail
    rw [rounds_succ]
    by_cases hr : r = 0
    · subst hr
      go_wp2_with fail
      refine (C1.out _ HI0.out).mono ?_
      rintro e w1 ⟨v, rfl, g1, g2⟩
      have HB1 := Lib.hid (HB0.out.trans (g2.mono HB0.out.size))
      have H1 := Lib.hid (g1.lower HB0.out.size)
      clear g1 g2 x2 x3 x4 x5 y0 y1
      go_wp2_with fail
      rw [rounds_succ]
      go_wp2_with fail
      go_ret2
      exact ⟨_, rfl, H1.out, HB1.out⟩
    · have hne : (r != 0) = true := by simpa using hr
      have hrl := KL.out hr
      subst hrl
      clear hr
      go_wp2_with fail
      refine (C1.out _ HI0.out).mono ?_
      rintro e w1 ⟨v, rfl, g1, g2⟩
      have HB1 := Lib.hid (HB0.out.trans (g2.mono HB0.out.size))
      clear g1 g2 x2 x3 x4 x5 y0 y1
      go_wp2_with fail
      go_ret2
      exact ⟨_, rfl, OwnR.nil _ _ _ _, HB1.out⟩
  · have c1 : (lo == 0) = false := beq_f hlz
    have C1 := Lib.hid (fun ww h => papply_any A l l.length cap rfl kind (sleg s lo) (sleg_q hs (by omega) a2) 0 ww h)
    have HQ1 := Lib.hid (apply_posQ HQL.out hs kind lo 0)
    have r1 : PO.r1E l kind s lo = PO.applyE l kind s lo 0 := by unfold PO.r1E; rw [if_neg hlz]
    have r2 : PO.r1L l kind s lo = PO.applyL l kind s lo 0 := by unfold PO.r1L; rw [if_neg hlz]
    by_cases he : PO.applyE l kind s lo 0 = 0
    · by_cases hsz : sh = 0
      · have c2 : (-sh == 0) = true := beq_t (by omega)
        have e1 : PO.rcE l kind s lo sh = 0 := by unfold PO.rcE; rw [r1, if_neg (by simp [he])]; unfold PO.r1E; rw [if_pos (by omega)]
        have e2 : PO.rcL l kind s lo sh = PO.applyL l kind s lo 0 := by unfold PO.rcL; rw [if_pos e1, r2]; unfold PO.r1L; rw [if_pos (by omega)]
        rw [e1, e2]
        rw [he] at C1
        generalize PO.applyL l kind s lo 0 = rl at *
        clear e1 e2 r1 r2 he hnz hlz hsz
        go_enter Try.func65, Try.ntmps65
        go_wp2_with fail
        generalize (w.alloc (.cells #[.string s.prod, .int .i64 s.kind, .int .i64 s.expiry, .int .i64 s.strike] 44)).alloc (.cells #[.int .i64 lo, .int .i64 (-sh)] 3) = w0 at *
        obtain ⟨x2, x3, x4, x5⟩ := HX0.out.cells
        have xl := HX0.out.lt
        have y0 : w0.cell? ⟨w.heap.size + 1, 0, none⟩ = some (.int .i64 lo) := HA0.out.cell 0
        have y1 : w0.cell? ⟨w.heap.size + 1, 1, none⟩ = some (.int .i64 (-sh)) := HA0.out.cell 1
        have yl := HA0.out.lt
        refine wp_loop_rounds 3 ?_
        rw [rounds_succ]
        go_wp2_with fail
        refine (C1.out _ HI0.out).mono ?_
        rintro e w1 ⟨v, rfl, g1, g2⟩
        obtain ⟨A1, k1, rfl, hR1, hk1⟩ := g1.recs
        have HB1 := Lib.hid (HB0.out.trans (g2.mono HB0.out.size))
        have H1 := Lib.hid (g1.lower HB0.out.size)
        have HI1 : Hid (Poss w1 A1 rl) := Lib.hid ⟨hR1, HQ1.out⟩
        have HX1 := Lib.hid (HX0.out.below g2 HX0.out.lt)
        have HA1 := Lib.hid (HA0.out.below g2 HA0.out.lt)
        rw [List.length_map] at H1 ⊢
        clear g1 g2 x2 x3 x4 x5 y0 y1 xl yl hR1 hk1
        obtain ⟨x2, x3, x4, x5⟩ := HX1.out.cells
        have xl := HX1.out.lt
        have y0 : w1.cell? ⟨w.heap.size + 1, 0, none⟩ = some (.int .i64 lo) := HA1.out.cell 0
        have y1 : w1.cell? ⟨w.heap.size + 1, 1, none⟩ = some (.int .i64 (-sh)) := HA1.out.cell 1
        have yl := HA1.out.lt
        go_wp2_with fail
        rw [rounds_succ]
        go_wp2_with fail
        rw [rounds_succ]
        go_wp2_with fail
        go_ret2
        exact ⟨_, rfl, H1.out, HB1.out⟩
      · have c2 : (-sh == 0) = false := beq_f (by omega)
        have e1 : PO.rcE l kind s lo sh = PO.applyE (PO.applyL l kind s lo 0) kind s (-sh) 0 := by unfold PO.rcE; rw [r1, r2, if_neg (by simp [he])]; unfold PO.r1E; rw [if_neg (by omega)]
        have e2 : PO.rcL l kind s lo sh = PO.applyL (PO.applyL l kind s lo 0) kind s (-sh) 0 := by
          unfold PO.rcL
          rw [e1, r2]
          by_cases h : PO.applyE (PO.applyL l kind s lo 0) kind s (-sh) 0 = 0
          · rw [if_pos h]; unfold PO.r1L; rw [if_neg (by omega)]
          · rw [if_neg h, PO.apply_no h]
        rw [e1, e2]
        rw [he] at C1
        have KL : Hid (¬ PO.applyE (PO.applyL l kind s lo 0) kind s (-sh) 0 = 0 → PO.applyL (PO.applyL l kind s lo 0) kind s (-sh) 0 = []) := Lib.hid (fun h => PO.apply_no h)
        have C2 := Lib.hid (fun A2 c2 ww h => papply_any A2 (PO.applyL l kind s lo 0) (PO.applyL l kind s lo 0).length c2 rfl kind (sleg s (-sh)) (sleg_q hs (by omega) (by omega)) 0 ww h)
        generalize PO.applyE (PO.applyL l kind s lo 0) kind s (-sh) 0 = r at *
        generalize PO.applyL (PO.applyL l kind s lo 0) kind s (-sh) 0 = rl2 at *
        generalize PO.applyL l kind s lo 0 = rl at *
        clear e1 e2 r1 r2 he hnz hlz hsz
        go_enter Try.func65, Try.ntmps65
        go_wp2_with fail
        generalize (w.alloc (.cells #[.string s.prod, .int .i64 s.kind, .int .i64 s.expiry, .int .i64 s.strike] 44)).alloc (.cells #[.int .i64 lo, .int .i64 (-sh)] 3) = w0 at *
        obtain ⟨x2, x3, x4, x5⟩ := HX0.out.cells
        have xl := HX0.out.lt
        have y0 : w0.cell? ⟨w.heap.size + 1, 0, none⟩ = some (.int .i64 lo) := HA0.out.cell 0
        have y1 : w0.cell? ⟨w.heap.size + 1, 1, none⟩ = some (.int .i64 (-sh)) := HA0.out.cell 1
        have yl := HA0.out.lt
        refine wp_loop_rounds 3 ?_
        rw [rounds_succ]
        go_wp2_with fail
        refine (C1.out _ HI0.out).mono ?_
        rintro e w1 ⟨v, rfl, g1, g2⟩
        obtain ⟨A1, k1, rfl, hR1, hk1⟩ := g1.recs
        have HB1 := Lib.hid (HB0.out.trans (g2.mono HB0.out.size))
        have H1 := Lib.hid (g1.lower HB0.out.size)
        have HI1 : Hid (Poss w1 A1 rl) := Lib.hid ⟨hR1, HQ1.out⟩
        have HX1 := Lib.hid (HX0.out.below g2 HX0.out.lt)
        have HA1 := Lib.hid (HA0.out.below g2 HA0.out.lt)
        rw [List.length_map] at H1 ⊢
        clear g1 g2 x2 x3 x4 x5 y0 y1 xl yl hR1 hk1
        obtain ⟨x2, x3, x4, x5⟩ := HX1.out.cells
        have xl := HX1.out.lt
        have y0 : w1.cell? ⟨w.heap.size + 1, 0, none⟩ = some (.int .i64 lo) := HA1.out.cell 0
        have y1 : w1.cell? ⟨w.heap.size + 1, 1, none⟩ = some (.int .i64 (-sh)) := HA1.out.cell 1
        have yl := HA1.out.lt
        go_wp2_with fail
        rw [rounds_succ]
        go_wp2_with fail
        refine (C2.out _ _ _ HI1.out).mono ?_
        rintro e w2 ⟨v2, rfl, g1, g2⟩
        have HB2 := Lib.hid (HB1.out.trans (g2.mono HB1.out.size))
        have H2 := Lib.hid (g1.lower HB1.out.size)
        clear g1 g2 x2 x3 x4 x5 y0 y1
        by_cases hr : r = 0
        · subst hr
          go_wp2_with fail
          rw [rounds_succ]
          go_wp2_with fail
          go_ret2
          exact ⟨_, rfl, H2.out, HB2.out⟩
        · have hne : (r != 0) = true := by simpa using hr
          have hrl := Lib.hid (KL.out hr)
          clear hr
          go_wp2_with fail
          go_ret2
          exact ⟨_, rfl, by rw [hrl.out]; exact OwnR.nil _ _ _ _, HB2.out⟩
    · have e1 : PO.rcE l kind s lo sh = PO.applyE l kind s lo 0 := by unfold PO.rcE; rw [r1, if_pos he]
      have e2 : PO.rcL l kind s lo sh = [] := by unfold PO.rcL; rw [e1, if_neg he]
      have hne : (PO.applyE l kind s lo 0 != 0) = true := by simpa using he
      rw [e1, e2]
      generalize PO.applyE l kind s lo 0 = r at *
      generalize PO.applyL l kind s lo 0 = rl at *
      clear e1 e2 he r1 r2 hnz hlz
      go_enter Try.func65, Try.ntmps65
      go_wp2_with fail
      generalize (w.alloc (.cells #[.string s.prod, .int .i64 s.kind, .int .i64 s.expiry, .int .i64 s.strike] 44)).alloc (.cells #[.int .i64 lo, .int .i64 (-sh)] 3) = w0 at *
      obtain ⟨x2, x3, x4, x5⟩ := HX0.out.cells
      have xl := HX0.out.lt
      have y0 : w0.cell? ⟨w.heap.size + 1, 0, none⟩ = some (.int .i64 lo) := HA0.out.cell 0
      have y1 : w0.cell? ⟨w.heap.size + 1, 1, none⟩ = some (.int .i64 (-sh)) := HA0.out.cell 1
      have yl := HA0.out.lt
      refine wp_loop_rounds 3 ?_
      rw [rounds_succ]
      go_wp2_with fail
      refine (C1.out _ HI0.out).mono ?_
      rintro e w1 ⟨v, rfl, g1, g2⟩
      have HB1 := Lib.hid (HB0.out.trans (g2.mono HB0.out.size))
      clear g1 g2 x2 x3 x4 x5 y0 y1
      go_wp2_with fail
      go_ret2
      exact ⟨_, rfl, OwnR.nil _ _ _ _, HB1.out⟩
end Go.Proofs.Ytdhkflmodcgooaa

/- Contracts of layer 15: Move. -/
namespace Go.Proofs.Ytdhkflmodcgooaa
open Go.RowKit Go.Recs Go.Maps
set_option linter.unusedVariables false
set_option linter.unusedSimpArgs false
theorem results_ttt15 {fn : Func} {a b c : Tmp} (h : fn.results = #[.tmp a, .tmp b, .tmp c]) (tmps : Array Value) (P : Program) (w : World) : (results fn tmps).run P w = .ok (.tuple #[tmps.getD a undef, tmps.getD b undef, tmps.getD c undef]) w := by
  simp only [results, h]
  simp [Sem.run_bind, Result.andThen]
set_option maxHeartbeats 4000000 in
set_option maxRecDepth 100000 in
theorem pmove_any (A B : Option Addr) (l m : List PO.Pos) (na ca nb cb : Nat) (hna : na = l.length) (hnb : nb = m.length) (kind : Int) (s : EM.Ser) (hs : serQ s) (lo sh : Int) (w : World) (hI : Poss w A l) (hJ : Poss w B m) :
    Calls Try.prog 31 #[.slice A na ca, .slice B nb cb, .int .i64 kind, serA s, .int .i64 lo, .int .i64 sh] w fun e w' =>
      ∃ va vb, e = .returned (.tuple #[va, vb, .int .i64 (PO.mvE l m kind s lo sh)]) ∧ OwnR w' w.heap.size 46 6 va ((PO.mvA l m kind s lo sh).map posV) ∧ OwnR w' w.heap.size 46 6 vb ((PO.mvB l m kind s lo sh).map posV) ∧ Below w.heap.size w w' := by
  subst hna hnb
  have HB0 := Lib.hid (below_al (Below.refl w.heap.size w) (.cells #[.string s.prod, .int .i64 s.kind, .int .i64 s.expiry, .int .i64 s.strike] 44))
  have HX0 := Lib.hid (SBox.new w s)
  have HI0 := Lib.hid (hI.below HB0.out); have HJ0 := Lib.hid (hJ.below HB0.out)
  have C1 := Lib.hid (fun ww h1 h2 => pcheckmove_any A B l m l.length ca m.length cb rfl rfl kind lo sh ww h1 h2)
  clear hI hJ
  by_cases h0 : PO.mv0E l m kind lo sh = 0
  · have hc : PO.checkE l = 0 := by
      by_cases g : PO.checkE l = 0
      · exact g
      · unfold PO.mv0E at h0; rw [if_pos g] at h0; exact absurd h0 g
    have hls : PO.lotsB lo sh = true := by
      unfold PO.mv0E at h0
      split at h0
      · rename_i g; exact absurd h0 g
      split at h0
      · rename_i g; exact absurd h0 g
      split at h0
      · cases h0
      split at h0
      · cases h0
      rename_i g; simpa using g
    have hl3 := PO.lots_two hls
    have C2 := Lib.hid (fun ww h => pgiven_any A l l.length ca rfl hc s hs lo sh ⟨hl3.1, hl3.2.1⟩ ww h)
    have C3 := Lib.hid (fun ww h => preceived_any B m m.length cb rfl kind s hs lo sh hl3 ww h)
    rw [h0] at C1
    by_cases hg : PO.gvE l s lo sh = 0
    · have e1 : PO.mvE l m kind s lo sh = PO.rcE m kind s lo sh := by unfold PO.mvE; rw [if_neg (by simp [h0]), if_neg (by simp [hg])]
      by_cases hr : PO.rcE m kind s lo sh = 0
      · have e2 : PO.mvA l m kind s lo sh = PO.gvL l s lo sh := by unfold PO.mvA; rw [if_pos (e1.trans hr)]
        have e3 : PO.mvB l m kind s lo sh = PO.rcL m kind s lo sh := by unfold PO.mvB; rw [if_pos (e1.trans hr)]
        rw [e1, e2, e3, hr]
        rw [hg] at C2
        rw [hr] at C3
        generalize PO.gvL l s lo sh = gl at *
        generalize PO.rcL m kind s lo sh = rl at *
        clear e1 e2 e3 hr hg h0 hc hls hl3
        go_enter Try.func31, Try.ntmps31
        go_wp2_with fail
        generalize w.alloc (.cells #[.string s.prod, .int .i64 s.kind, .int .i64 s.expiry, .int .i64 s.strike] 44) = w0 at *
        refine (C1.out _ HI0.out HJ0.out).mono ?_
        rintro e w1 ⟨rfl, b1⟩
        have HB1 := Lib.hid (HB0.out.trans (b1.mono HB0.out.size))
        have HI1 := Lib.hid (HI0.out.below b1); have HJ1 := Lib.hid (HJ0.out.below b1)
        have HX1 := Lib.hid (HX0.out.below b1 HX0.out.lt)
        obtain ⟨x2, x3, x4, x5⟩ := HX1.out.cells
        have xl := HX1.out.lt
        clear b1 HB0 HI0 HJ0 HX0 C1
        go_wp2_with fail
        refine (C2.out _ HI1.out).mono ?_
        clear x2 x3 x4 x5 xl
        rintro e w2 ⟨v2, rfl, g1, g2⟩
        have HB2 := Lib.hid (HB1.out.trans (g2.mono HB1.out.size))
        have HJ2 := Lib.hid (HJ1.out.below g2)
        have HX2 := Lib.hid (HX1.out.below g2 HX1.out.lt)
        have HO2 := Lib.hid (g1.lower HB1.out.size)
        obtain ⟨x2, x3, x4, x5⟩ := HX2.out.cells
        have xl := HX2.out.lt
        clear g1 g2 HB1 HI1 HJ1 HX1 C2
        go_wp2_with fail
        refine (C3.out _ HJ2.out).mono ?_
        clear x2 x3 x4 x5 xl
        rintro e w3 ⟨v3, rfl, g1, g2⟩
        have HB3 := Lib.hid (HB2.out.trans (g2.mono HB2.out.size))
        have HO3 := Lib.hid (HO2.out.below g2)
        have HP3 := Lib.hid (g1.lower HB2.out.size)
        clear g1 g2 C3
        go_wp2_with fail
        (try simp only [Exit.inBlock, Exit.then])
        first | (go_ret3; exact ⟨_, _, rfl, HO3.out, HP3.out, HB3.out⟩) | exact bodyPost_ret (results_ttt15 rfl _ _ _) rfl ⟨_, _, rfl, HO3.out, HP3.out, HB3.out⟩
      · have e2 : PO.mvA l m kind s lo sh = [] := by unfold PO.mvA; rw [e1, if_neg hr]
        have e3 : PO.mvB l m kind s lo sh = [] := by unfold PO.mvB; rw [e1, if_neg hr]
        have hne : (PO.rcE m kind s lo sh != 0) = true := by simpa using hr
        rw [e1, e2, e3]
        rw [hg] at C2
        generalize PO.gvL l s lo sh = gl at *
        generalize PO.rcL m kind s lo sh = rl at *
        generalize PO.rcE m kind s lo sh = r at *
        clear e1 e2 e3 hr hg h0 hc hls hl3
        go_enter Try.func31, Try.ntmps31
        go_wp2_with fail
        generalize w.alloc (.cells #[.string s.prod, .int .i64 s.kind, .int .i64 s.expiry, .int .i64 s.strike] 44) = w0 at *
        refine (C1.out _ HI0.out HJ0.out).mono ?_
        rintro e w1 ⟨rfl, b1⟩
        have HB1 := Lib.hid (HB0.out.trans (b1.mono HB0.out.size))
        have HI1 := Lib.hid (HI0.out.below b1); have HJ1 := Lib.hid (HJ0.out.below b1)
        have HX1 := Lib.hid (HX0.out.below b1 HX0.out.lt)
        obtain ⟨x2, x3, x4, x5⟩ := HX1.out.cells
        have xl := HX1.out.lt
        clear b1 HB0 HI0 HJ0 HX0 C1
        go_wp2_with fail
        refine (C2.out _ HI1.out).mono ?_
        clear x2 x3 x4 x5 xl
        rintro e w2 ⟨v2, rfl, g1, g2⟩
        have HB2 := Lib.hid (HB1.out.trans (g2.mono HB1.out.size))
        have HJ2 := Lib.hid (HJ1.out.below g2)
        have HX2 := Lib.hid (HX1.out.below g2 HX1.out.lt)
        obtain ⟨x2, x3, x4, x5⟩ := HX2.out.cells
        have xl := HX2.out.lt
        clear g1 g2 HB1 HI1 HJ1 HX1 C2
        go_wp2_with fail
        refine (C3.out _ HJ2.out).mono ?_
        clear x2 x3 x4 x5 xl
        rintro e w3 ⟨v3, rfl, g1, g2⟩
        have HB3 := Lib.hid (HB2.out.trans (g2.mono HB2.out.size))
        clear g1 g2 C3
        go_wp2_with fail
        (try simp only [Exit.inBlock, Exit.then])
        first | (go_ret3; exact ⟨_, _, rfl, OwnR.nil _ _ _ _, OwnR.nil _ _ _ _, HB3.out⟩) | exact bodyPost_ret (results_ttt15 rfl _ _ _) rfl ⟨_, _, rfl, OwnR.nil _ _ _ _, OwnR.nil _ _ _ _, HB3.out⟩
    · have e1 : PO.mvE l m kind s lo sh = PO.gvE l s lo sh := by unfold PO.mvE; rw [if_neg (by simp [h0]), if_pos hg]
      have e2 : PO.mvA l m kind s lo sh = [] := by unfold PO.mvA; rw [e1, if_neg hg]
      have e3 : PO.mvB l m kind s lo sh = [] := by unfold PO.mvB; rw [e1, if_neg hg]
      have hne : (PO.gvE l s lo sh != 0) = true := by simpa using hg
      rw [e1, e2, e3]
      generalize PO.gvE l s lo sh = r at *
      generalize PO.gvL l s lo sh = gl at *
      clear e1 e2 e3 hg h0 hc hls hl3 C3
      go_enter Try.func31, Try.ntmps31
      go_wp2_with fail
      generalize w.alloc (.cells #[.string s.prod, .int .i64 s.kind, .int .i64 s.expiry, .int .i64 s.strike] 44) = w0 at *
      refine (C1.out _ HI0.out HJ0.out).mono ?_
      rintro e w1 ⟨rfl, b1⟩
      have HB1 := Lib.hid (HB0.out.trans (b1.mono HB0.out.size))
      have HI1 := Lib.hid (HI0.out.below b1)
      have HX1 := Lib.hid (HX0.out.below b1 HX0.out.lt)
      obtain ⟨x2, x3, x4, x5⟩ := HX1.out.cells
      have xl := HX1.out.lt
      clear b1 HB0 HI0 HJ0 HX0 C1
      go_wp2_with fail
      refine (C2.out _ HI1.out).mono ?_
      clear x2 x3 x4 x5 xl
      rintro e w2 ⟨v2, rfl, g1, g2⟩
      have HB2 := Lib.hid (HB1.out.trans (g2.mono HB1.out.size))
      clear g1 g2
      go_wp2_with fail
      (try simp only [Exit.inBlock, Exit.then])
      first | (go_ret3; exact ⟨_, _, rfl, OwnR.nil _ _ _ _, OwnR.nil _ _ _ _, HB2.out⟩) | exact bodyPost_ret (results_ttt15 rfl _ _ _) rfl ⟨_, _, rfl, OwnR.nil _ _ _ _, OwnR.nil _ _ _ _, HB2.out⟩
  · have e1 : PO.mvE l m kind s lo sh = PO.mv0E l m kind lo sh := by unfold PO.mvE; rw [if_pos h0]
    have e2 : PO.mvA l m kind s lo sh = [] := by unfold PO.mvA; rw [e1, if_neg h0]
    have e3 : PO.mvB l m kind s lo sh = [] := by unfold PO.mvB; rw [e1, if_neg h0]
    have hne : (PO.mv0E l m kind lo sh != 0) = true := by simpa using h0
    rw [e1, e2, e3]
    generalize PO.mv0E l m kind lo sh = r at *
    clear e1 e2 e3 h0
    go_enter Try.func31, Try.ntmps31
    go_wp2_with fail
    generalize w.alloc (.cells #[.string s.prod, .int .i64 s.kind, .int .i64 s.expiry, .int .i64 s.strike] 44) = w0 at *
    refine (C1.out _ HI0.out HJ0.out).mono ?_
    rintro e w1 ⟨rfl, b1⟩
    have HB1 := Lib.hid (HB0.out.trans (b1.mono HB0.out.size))
    clear b1
    go_wp2_with fail
    (try simp only [Exit.inBlock, Exit.then])
    first | (go_ret3; exact ⟨_, _, rfl, OwnR.nil _ _ _ _, OwnR.nil _ _ _ _, HB1.out⟩) | exact bodyPost_ret (results_ttt15 rfl _ _ _) rfl ⟨_, _, rfl, OwnR.nil _ _ _ _, OwnR.nil _ _ _ _, HB1.out⟩
end Go.Proofs.Ytdhkflmodcgooaa
