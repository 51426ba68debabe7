/- Put together: CentsC, CentsD, ProdC, VaryMath, CBox, VarA, MemMath, TradeMath. -/
import Derived.Test.YtagmknahmkniaaaBun3
import Derived.Test.YtagmknahmkniaaaBun4
import Derived.Test.YtagmknahmkniaaaBun1
import Derived.Test.YtagmknahmkniaaaBun2
import Derived.Laws.ResultCell
import Derived.Laws.Rows
namespace Go.Proofs.Ytagmknahmkniaaa
open Go.RowKit
set_option maxHeartbeats 400000 in
theorem rounding_any (q r d : Int) (n : Bool) (w : World) :
    Calls Try.prog 70 #[.int .i64 q, .int .i64 r, .int .i64 d, .bool n] w fun e w' =>
      e = .returned (.func (.func 79) #[] #[.pointer (some ⟨w.heap.size + 1, 0, none⟩), .pointer (some ⟨w.heap.size + 1 + 1 + 1, 0, none⟩), .pointer (some ⟨w.heap.size + 1 + 1, 0, none⟩), .pointer (some ⟨w.heap.size, 0, none⟩)]) ∧
      w' = (((w.alloc (.cells #[.int .i64 q] 3)).alloc (.cells #[.int .i64 r] 3)).alloc (.cells #[.int .i64 d] 3)).alloc (.cells #[.bool n] 4) := by
  go_enter Try.func70, Try.ntmps70
  go_wp2
  go_ret
  exact ⟨rfl, rfl⟩

set_option maxHeartbeats 1000000 in
theorem grow_any (mode q r d : Int) (n : Bool) (p1 p2 p3 p4 : Addr) (w : World) (hm1 : 1 ≤ mode) (hm5 : mode ≤ 5)
    (h1 : w.cell? p1 = some (.int .i64 r)) (h2 : w.cell? p2 = some (.bool n)) (h3 : w.cell? p3 = some (.int .i64 d)) (h4 : w.cell? p4 = some (.int .i64 q))
    (hr0 : 0 ≤ r) (hr : r < d) (hd : d ≤ 1152921504606846976) (hq : 0 ≤ q) (hq1 : q ≤ 1152921504606846976) :
    Calls Try.prog 79 #[.int .i64 mode, .pointer (some p1), .pointer (some p2), .pointer (some p3), .pointer (some p4)] w fun e w' =>
      e = .returned (.bool (CM.grow q r d mode n)) ∧ w = w' := by
  by_cases hz : r = 0
  · subst hz
    have hg : CM.grow q 0 d mode n = false := by simp [CM.grow]
    rw [hg]; clear hg
    go_enter Try.func79, Try.ntmps79
    go_wp2
    go_ret
    exact ⟨rfl, rfl⟩
  · have hz' : (r == 0) = false := by simpa using hz
    have hm : mode = 1 ∨ mode = 2 ∨ mode = 3 ∨ mode = 4 ∨ mode = 5 := by omega
    rcases hm with rfl | rfl | rfl | rfl | rfl
    · have hg : CM.grow q r d 1 n = false := by simp [CM.grow]
      rw [hg]; clear hg hz
      go_enter Try.func79, Try.ntmps79
      go_wp2
      go_ret
      exact ⟨rfl, rfl⟩
    · have hg : CM.grow q r d 2 n = true := by simp [CM.grow, hz]
      rw [hg]; clear hg hz
      go_enter Try.func79, Try.ntmps79
      go_wp2
      go_ret
      exact ⟨rfl, rfl⟩
    · have hg : CM.grow q r d 3 n = n := by simp [CM.grow, hz]
      rw [hg]; clear hg hz
      go_enter Try.func79, Try.ntmps79
      go_wp2
      go_ret
      exact ⟨rfl, rfl⟩
    · have hg : CM.grow q r d 4 n = !n := by simp [CM.grow, hz]
      rw [hg]; clear hg hz
      go_enter Try.func79, Try.ntmps79
      go_wp2
      go_ret
      exact ⟨rfl, rfl⟩
    · by_cases g1 : d < 2 * r
      · have hg : CM.grow q r d 5 n = true := by simp [CM.grow, hz, g1]
        rw [hg]; clear hg hz
        go_enter Try.func79, Try.ntmps79
        go_wp2
        go_ret
        exact ⟨rfl, rfl⟩
      · by_cases g2 : 2 * r = d
        · subst g2
          cases g3 : decide (q % 2 = 1)
          · have hg : CM.grow q r (2 * r) 5 n = false := by simpa [CM.grow, hz] using g3
            rw [hg]; clear hg hz
            have g3' : (q % 2 == 1) = false := by simpa using g3
            clear g3
            go_enter Try.func79, Try.ntmps79
            go_wp2
            go_ret
            exact ⟨rfl, rfl⟩
          · have hg : CM.grow q r (2 * r) 5 n = true := by simpa [CM.grow, hz] using g3
            rw [hg]; clear hg hz
            have g3' : (q % 2 == 1) = true := by simpa using g3
            clear g3
            go_enter Try.func79, Try.ntmps79
            go_wp2
            go_ret
            exact ⟨rfl, rfl⟩
        · have hg : CM.grow q r d 5 n = false := by simp [CM.grow, hz, g1, g2]
          rw [hg]; clear hg hz
          have g2' : (2 * r == d) = false := by simpa using g2
          clear g2
          go_enter Try.func79, Try.ntmps79
          go_wp2
          go_ret
          exact ⟨rfl, rfl⟩

theorem cell_fresh (v : World) (q : Int) : (v.alloc (.cells #[.int .i64 q] 3)).cell? ⟨v.heap.size, 0, none⟩ = some (.int .i64 q) := by go_simp

theorem grow_new (mode q r d : Int) (n : Bool) (w : World) (k : Nat) (hm1 : 1 ≤ mode) (hm5 : mode ≤ 5)
    (hr0 : 0 ≤ r) (hr : r < d) (hd : d ≤ 1152921504606846976) (hq : 0 ≤ q) (hq1 : q ≤ 1152921504606846976) :
    Calls Try.prog 79 #[.int .i64 mode, .pointer (some ⟨w.heap.size + 1, 0, none⟩), .pointer (some ⟨w.heap.size + 1 + 1 + 1, 0, none⟩), .pointer (some ⟨w.heap.size + 1 + 1, 0, none⟩), .pointer (some ⟨w.heap.size, 0, none⟩)]
      (((((w.drewN k).alloc (.cells #[.int .i64 q] 3)).alloc (.cells #[.int .i64 r] 3)).alloc (.cells #[.int .i64 d] 3)).alloc (.cells #[.bool n] 4)) fun e w' =>
      e = .returned (.bool (CM.grow q r d mode n)) ∧ ((((w.drewN k).alloc (.cells #[.int .i64 q] 3)).alloc (.cells #[.int .i64 r] 3)).alloc (.cells #[.int .i64 d] 3)).alloc (.cells #[.bool n] 4) = w' :=
  grow_any mode q r d n _ _ _ _ _ hm1 hm5 (by go_simp) (by go_simp) (by go_simp) (by go_simp; exact cell_fresh (w.drewN k) q) hr0 hr hd hq hq1

theorem muldiv_arg (a b c mode : Int) (w : World) (h : CM.mdA a b c mode = false) :
    Calls Try.prog 55 #[.int .i64 a, .int .i64 b, .int .i64 c, .int .i64 mode] w fun e w' => e = .returned (.tuple #[.int .i64 0, .int .i64 2]) ∧ w = w' := by
  cases ha : CM.fits a
  · clear h
    go_enter Try.func55, Try.ntmps55
    go_wp2_with (go_at_call 67; refine (fits_any _ _).mono ?_; rintro e w' ⟨rfl, rfl⟩)
    go_ret2
    exact ⟨rfl, rfl⟩
  · cases hb : CM.fits b
    · clear h
      go_enter Try.func55, Try.ntmps55
      go_wp2_with (go_at_call 67; refine (fits_any _ _).mono ?_; rintro e w' ⟨rfl, rfl⟩)
      go_ret2
      exact ⟨rfl, rfl⟩
    · cases hc : CM.fits c
      · clear h
        go_enter Try.func55, Try.ntmps55
        go_wp2_with (go_at_call 67; refine (fits_any _ _).mono ?_; rintro e w' ⟨rfl, rfl⟩)
        go_ret2
        exact ⟨rfl, rfl⟩
      · simp [CM.mdA, ha, hb, hc] at h
        by_cases hm : mode < 1
        · clear h
          go_enter Try.func55, Try.ntmps55
          go_wp2_with (go_at_call 67; refine (fits_any _ _).mono ?_; rintro e w' ⟨rfl, rfl⟩)
          go_ret2
          exact ⟨rfl, rfl⟩
        · have hm5 : 5 < mode := by omega
          clear h
          go_enter Try.func55, Try.ntmps55
          go_wp2_with (go_at_call 67; refine (fits_any _ _).mono ?_; rintro e w' ⟨rfl, rfl⟩)
          go_ret2
          exact ⟨rfl, rfl⟩

theorem mdA_parts {a b c mode : Int} (h : CM.mdA a b c mode = true) : CM.fits a = true ∧ CM.fits b = true ∧ CM.fits c = true ∧ 1 ≤ mode ∧ mode ≤ 5 := by
  simp [CM.mdA] at h
  obtain ⟨⟨⟨⟨h1, h2⟩, h3⟩, h4⟩, h5⟩ := h
  exact ⟨h1, h2, h3, h4, h5⟩

theorem muldiv_zero (a b mode : Int) (w : World) (h : CM.mdA a b 0 mode = true) :
    Calls Try.prog 55 #[.int .i64 a, .int .i64 b, .int .i64 0, .int .i64 mode] w fun e w' => e = .returned (.tuple #[.int .i64 0, .int .i64 4]) ∧ w = w' := by
  obtain ⟨ha, hb, hc, h1, h5⟩ := mdA_parts h
  clear h
  go_enter Try.func55, Try.ntmps55
  go_wp2_with (go_at_call 67; refine (fits_any _ _).mono ?_; rintro e w' ⟨rfl, rfl⟩)
  go_ret2
  exact ⟨rfl, rfl⟩

set_option maxHeartbeats 400000 in
theorem muldiv_over (a b c mode : Int) (w : World) (h : CM.mdA a b c mode = true) (hc0 : (c == 0) = false)
    (hk : CM.dok (CM.size a).toNat (CM.size b).toNat (CM.size c).toNat = false) :
    Calls Try.prog 55 #[.int .i64 a, .int .i64 b, .int .i64 c, .int .i64 mode] w fun e w' => e = .returned (.tuple #[.int .i64 0, .int .i64 3]) ∧ ∃ n, w' = w.drewN n := by
  obtain ⟨ha, hb, hc, hm1, hm5⟩ := mdA_parts h
  clear h
  obtain ⟨a1, a2⟩ := CM.fits_true.1 ha
  obtain ⟨b1, b2⟩ := CM.fits_true.1 hb
  obtain ⟨c1, c2⟩ := CM.fits_true.1 hc
  have sa0 := CM.size_nonneg a
  have sa1 := CM.size_le a1 a2
  have sb0 := CM.size_nonneg b
  have sb1 := CM.size_le b1 b2
  have sc0 : 0 < CM.size c := CM.size_pos (by simpa using hc0)
  have sc1 := CM.size_le c1 c2
  go_enter Try.func55, Try.ntmps55
  go_wp2_with (first
    | (go_at_call 67; refine (fits_any _ _).mono ?_; rintro e w' ⟨rfl, rfl⟩)
    | (go_at_call 69; refine (size_any _ _ (by assumption) (by assumption)).mono ?_; rintro e w' ⟨rfl, rfl⟩)
    | (go_at_call 68; refine (divide_int _ _ _ _ (by assumption) (by assumption) (by assumption) (by assumption) (by assumption) (by assumption)).mono ?_; rintro e w' ⟨rfl, n, rfl⟩))
  go_ret2
  exact ⟨rfl, _, rfl⟩

set_option maxHeartbeats 1000000 in
theorem muldiv_in (a b c mode : Int) (w : World) (h : CM.mdA a b c mode = true) (hc0 : (c == 0) = false)
    (hk : CM.dok (CM.size a).toNat (CM.size b).toNat (CM.size c).toNat = true) :
    Calls Try.prog 55 #[.int .i64 a, .int .i64 b, .int .i64 c, .int .i64 mode] w fun e w' => e = .returned (.tuple #[.int .i64 (CM.mdN a b c mode), .int .i64 (CM.mdE a b c mode)]) ∧ Below w.heap.size w w' := by
  have hcn : c ≠ 0 := by simpa using hc0
  have HF := Lib.hid (fun g => @CM.md_fit a b c mode g h hcn)
  obtain ⟨ha, hb, hc, hm1, hm5⟩ := mdA_parts h
  clear h
  obtain ⟨a1, a2⟩ := CM.fits_true.1 ha
  obtain ⟨b1, b2⟩ := CM.fits_true.1 hb
  obtain ⟨c1, c2⟩ := CM.fits_true.1 hc
  have sa0 := CM.size_nonneg a
  have sa1 := CM.size_le a1 a2
  have sb0 := CM.size_nonneg b
  have sb1 := CM.size_le b1 b2
  have sc0 : 0 < CM.size c := CM.size_pos hcn
  have sc1 := CM.size_le c1 c2
  obtain ⟨e1, e2⟩ := CM.dq_eq hk
  have r1 := CM.mdR_lt a b hcn
  have r0 : (0 : Int) ≤ CM.mdR a b c := Int.natCast_nonneg _
  have q0 := CM.mdQ_nonneg a b c
  have q1 := CM.dok_iff.1 hk
  clear hcn
  have hneg : (!((!(decide (a < 0) == decide (b < 0))) == decide (c < 0))) = CM.neg a b c := rfl
  cases hg : CM.grow (CM.mdQ a b c) (CM.mdR a b c) (CM.size c) mode (CM.neg a b c)
  all_goals
    cases hn : CM.neg a b c
    all_goals
      rw [hn] at hg
      have HG : Hid (CM.mdG a b c mode = _) := Lib.hid (show CM.mdG a b c mode = CM.mdQ a b c + _ from by unfold CM.mdG; rw [hn, hg])
      simp only [if_true, if_false, Bool.false_eq_true] at HG
      have HN := Lib.hid hn
      rw [hn] at hneg
      clear hn
      go_enter Try.func55, Try.ntmps55
      go_wp2_with (first
        | (go_at_call 67; refine (fits_any _ _).mono ?_; rintro e w' ⟨rfl, rfl⟩)
        | (go_at_call 69; refine (size_any _ _ (by assumption) (by assumption)).mono ?_; rintro e w' ⟨rfl, rfl⟩)
        | (go_at_call 68; refine (divide_int _ _ _ _ (by assumption) (by assumption) (by assumption) (by assumption) (by assumption) (by assumption)).mono ?_; rintro e w' ⟨rfl, n, rfl⟩)
        | (go_at_call 70; refine (rounding_any _ _ _ _ _).mono ?_; rintro e w' ⟨rfl, rfl⟩)
        | (go_at_call 79; refine (grow_new _ _ _ _ _ _ _ (by assumption) (by assumption) (by assumption) (by assumption) (by assumption) (by assumption) (by assumption)).mono ?_; rintro e w' ⟨rfl, rfl⟩)
        | (go_at_call 71; refine (fitting_any _ _).mono ?_; rintro e w' ⟨rfl, rfl⟩))
      go_ret2
      refine ⟨?_, ?_⟩
      · obtain ⟨f1, f2⟩ := HF.out _ rfl
        rw [HN.out, HG.out] at f1 f2
        simp only [if_true, if_false, Bool.false_eq_true, Int.add_zero] at f1 f2
        rw [← f1, ← f2]; rfl
      · exact ((((below_drewN (Below.refl _ _) n).alloc (Nat.le_refl _) _).alloc (by simp) _).alloc (by simp <;> omega) _).alloc (by simp <;> omega) _

theorem muldiv_any (a b c mode : Int) (w : World) :
    Calls Try.prog 55 #[.int .i64 a, .int .i64 b, .int .i64 c, .int .i64 mode] w fun e w' => e = .returned (.tuple #[.int .i64 (CM.mdN a b c mode), .int .i64 (CM.mdE a b c mode)]) ∧ Below w.heap.size w w' := by
  cases h : CM.mdA a b c mode
  · have e1 : CM.mdN a b c mode = 0 := by simp [CM.mdN, h]
    have e2 : CM.mdE a b c mode = 2 := by simp [CM.mdE, h]
    rw [e1, e2]
    exact (muldiv_arg a b c mode w h).mono fun _ _ ⟨he, hw⟩ => ⟨he, by subst hw; exact Below.refl _ _⟩
  · by_cases hc : c = 0
    · subst hc
      have e1 : CM.mdN a b 0 mode = 0 := by simp [CM.mdN]
      have e2 : CM.mdE a b 0 mode = 4 := by simp [CM.mdE, h]
      rw [e1, e2]
      exact (muldiv_zero a b mode w h).mono fun _ _ ⟨he, hw⟩ => ⟨he, by subst hw; exact Below.refl _ _⟩
    · cases hk : CM.dok (CM.size a).toNat (CM.size b).toNat (CM.size c).toNat
      · obtain ⟨e1, e2⟩ := CM.md_over h hc (by
          have := (not_congr (@CM.dok_iff a b c)).1 (by rw [hk]; simp)
          omega)
        rw [e1, e2]
        exact (muldiv_over a b c mode w h (by simpa using hc) hk).mono fun _ _ ⟨he, n, hw⟩ => ⟨he, by subst hw; exact below_drewN (Below.refl _ _) n⟩
      · exact muldiv_in a b c mode w h (by simpa using hc) hk
end Go.Proofs.Ytagmknahmkniaaa

namespace Go.Proofs.Ytagmknahmkniaaa
open Go.RowKit
end Go.Proofs.Ytagmknahmkniaaa

/- Contracts of layer 9: Price, Round, Value, the program's and the reference's. -/
namespace Go.Proofs.Ytagmknahmkniaaa
open Go.RowKit Go.Recs
set_option linter.unusedVariables false

/-- block g is one product -/
def PBox (w : World) (g : Nat) (p : QM.Prod) : Prop := w.heap[g]? = some (.cells #[.string p.name, .int .i64 p.cur, .int .i64 p.mult, .int .i64 p.tick, .int .i64 p.low, .int .i64 p.high, .bool p.phys] 52 (0, 0))
theorem PBox.new (w : World) (p : QM.Prod) : PBox (w.alloc (.cells #[.string p.name, .int .i64 p.cur, .int .i64 p.mult, .int .i64 p.tick, .int .i64 p.low, .int .i64 p.high, .bool p.phys] 52)) w.heap.size p := heap_alloc_new w _
theorem PBox.below {w w' : World} {g B : Nat} {p : QM.Prod} (h : PBox w g p) (hb : Below B w w') (hg : g < B) : PBox w' g p := (hb.block g hg).trans h
theorem PBox.lt {w : World} {g : Nat} {p : QM.Prod} (h : PBox w g p) : g < w.heap.size := lt_of_block h
theorem PBox.cells {w : World} {g : Nat} {p : QM.Prod} (h : PBox w g p) :
    w.cell? ⟨g, 0, none⟩ = some (.string p.name) ∧ w.cell? ⟨g, 1, none⟩ = some (.int .i64 p.cur) ∧ w.cell? ⟨g, 2, none⟩ = some (.int .i64 p.mult) ∧ w.cell? ⟨g, 3, none⟩ = some (.int .i64 p.tick) ∧
    w.cell? ⟨g, 4, none⟩ = some (.int .i64 p.low) ∧ w.cell? ⟨g, 5, none⟩ = some (.int .i64 p.high) ∧ w.cell? ⟨g, 6, none⟩ = some (.bool p.phys) := by
  unfold PBox at h
  simp [World.cell?, h]
theorem new_lt (w : World) (o : Obj) : w.heap.size < (w.alloc o).heap.size := by simp

set_option maxHeartbeats 2000000 in
theorem qvalue_any (p : QM.Prod) (x q : Int) (hq : prodQ p) (w : World) :
    Calls Try.prog 36 #[prodA p, .int .i64 x, .int .i64 q] w fun e w' => e = .returned (.tuple #[.int .i64 (QM.valueN p x q), .int .i64 (QM.valueE p x q)]) ∧ Below w.heap.size w w' := by
  have C0 := Lib.hid (fun ww => qcheck_any p hq ww)
  have HB := Lib.hid ((Below.refl w.heap.size w).alloc (Nat.le_refl _) (.cells #[.string p.name, .int .i64 p.cur, .int .i64 p.mult, .int .i64 p.tick, .int .i64 p.low, .int .i64 p.high, .bool p.phys] 52))
  have HP := Lib.hid (PBox.new w p)
  have HL := Lib.hid (new_lt w (.cells #[.string p.name, .int .i64 p.cur, .int .i64 p.mult, .int .i64 p.tick, .int .i64 p.low, .int .i64 p.high, .bool p.phys] 52))
  by_cases hc : QM.checkE p = 0
  · have C1 := Lib.hid (fun ww => qwithin_any x (-33554432) 33554432 ww)
    have C2 := Lib.hid (fun ww => qwithin_any q (-1048576) 1048576 ww)
    have K1 := Lib.hid (@QM.vl_out p x q hc)
    have K2 := Lib.hid (@QM.vl_qty p x q hc)
    have K3 := Lib.hid (@QM.vl_ok p x q hc)
    have KR := Lib.hid (@QM.value_range p x q)
    rw [hc] at C0
    generalize QM.valueE p x q = y at *
    generalize QM.valueN p x q = z at *
    generalize QM.within x (-33554432) 33554432 = b1 at *
    generalize QM.within q (-1048576) 1048576 = b2 at *
    clear hc hq
    go_enter Try.func36, Try.ntmps36
    go_wp2_with fail
    refine (C0.out _).mono ?_
    rintro e w1 ⟨rfl, b⟩
    have HB1 := Lib.hid (HB.out.trans (b.mono HB.out.size))
    obtain ⟨c0, c1, c2, c3, c4, c5, c6⟩ := (HP.out.below b HL.out).cells
    clear b HB HP HL
    go_wp2_with fail
    refine (C1.out _).mono ?_
    rintro e w2 ⟨rfl, rfl⟩
    cases b1
    · have HX := Lib.hid (K1.out (by trivial))
      go_wp2_with fail
      go_ret2
      exact ⟨by rw [HX.out.1, HX.out.2]; rfl, HB1.out⟩
    go_wp2_with fail
    refine (C2.out _).mono ?_
    rintro e w2 ⟨rfl, rfl⟩
    cases b2
    · have HX := Lib.hid (K2.out (by trivial) (by trivial))
      go_wp2_with fail
      go_ret2
      exact ⟨by rw [HX.out.1, HX.out.2]; rfl, HB1.out⟩
    have HX := Lib.hid (K3.out (by trivial) (by trivial))
    obtain ⟨r1, r2⟩ := KR.out HX.out.1
    have hw1 : wrap64 (x * p.mult) = x * p.mult := IntWalk.wrap64_in _ (by omega)
    have hw2 : wrap64 (x * p.mult * q) = x * p.mult * q := IntWalk.wrap64_in _ (by omega)
    clear r1 r2
    go_wp2_with fail
    go_ret2
    exact ⟨by rw [HX.out.1, HX.out.2]; simp only [hw2]; rfl, HB1.out⟩
  · obtain ⟨e1, e2⟩ := @QM.vl_bad p x q hc
    rw [e1, e2]; clear e1 e2
    have hd : (QM.checkE p != 0) = true := by simpa using hc
    generalize QM.checkE p = y at *
    clear hc hq HP HL
    go_enter Try.func36, Try.ntmps36
    go_wp2_with fail
    refine (C0.out _).mono ?_
    rintro e w1 ⟨rfl, b⟩
    have HB1 := Lib.hid (HB.out.trans (b.mono HB.out.size))
    clear b
    go_wp2_with fail
    go_ret2
    exact ⟨rfl, HB1.out⟩

set_option maxHeartbeats 2000000 in
theorem rqvalue_any (p : QM.Prod) (x q : Int) (hq : prodQ p) (w : World) :
    Calls Try.prog 39 #[prodA p, .int .i64 x, .int .i64 q] w fun e w' => e = .returned (.tuple #[.int .i64 (QM.valueN p x q), .int .i64 (QM.valueE p x q)]) ∧ Below w.heap.size w w' := by
  have C0 := Lib.hid (fun ww => rqcheck_any p hq ww)
  have HB := Lib.hid ((Below.refl w.heap.size w).alloc (Nat.le_refl _) (.cells #[.string p.name, .int .i64 p.cur, .int .i64 p.mult, .int .i64 p.tick, .int .i64 p.low, .int .i64 p.high, .bool p.phys] 52))
  have HP := Lib.hid (PBox.new w p)
  have HL := Lib.hid (new_lt w (.cells #[.string p.name, .int .i64 p.cur, .int .i64 p.mult, .int .i64 p.tick, .int .i64 p.low, .int .i64 p.high, .bool p.phys] 52))
  by_cases hc : QM.checkE p = 0
  · have C1 := Lib.hid (fun ww => rqwithin_any x (-33554432) 33554432 ww)
    have C2 := Lib.hid (fun ww => rqwithin_any q (-1048576) 1048576 ww)
    have K1 := Lib.hid (@QM.vl_out p x q hc)
    have K2 := Lib.hid (@QM.vl_qty p x q hc)
    have K3 := Lib.hid (@QM.vl_ok p x q hc)
    have KR := Lib.hid (@QM.value_range p x q)
    rw [hc] at C0
    generalize QM.valueE p x q = y at *
    generalize QM.valueN p x q = z at *
    generalize QM.within x (-33554432) 33554432 = b1 at *
    generalize QM.within q (-1048576) 1048576 = b2 at *
    clear hc hq
    go_enter Try.func39, Try.ntmps39
    go_wp2_with fail
    refine (C0.out _).mono ?_
    rintro e w1 ⟨rfl, b⟩
    have HB1 := Lib.hid (HB.out.trans (b.mono HB.out.size))
    obtain ⟨c0, c1, c2, c3, c4, c5, c6⟩ := (HP.out.below b HL.out).cells
    clear b HB HP HL
    go_wp2_with fail
    refine (C1.out _).mono ?_
    rintro e w2 ⟨rfl, rfl⟩
    cases b1
    · have HX := Lib.hid (K1.out (by trivial))
      go_wp2_with fail
      go_ret2
      exact ⟨by rw [HX.out.1, HX.out.2]; rfl, HB1.out⟩
    go_wp2_with fail
    refine (C2.out _).mono ?_
    rintro e w2 ⟨rfl, rfl⟩
    cases b2
    · have HX := Lib.hid (K2.out (by trivial) (by trivial))
      go_wp2_with fail
      go_ret2
      exact ⟨by rw [HX.out.1, HX.out.2]; rfl, HB1.out⟩
    have HX := Lib.hid (K3.out (by trivial) (by trivial))
    obtain ⟨r1, r2⟩ := KR.out HX.out.1
    have hw1 : wrap64 (x * p.mult) = x * p.mult := IntWalk.wrap64_in _ (by omega)
    have hw2 : wrap64 (x * p.mult * q) = x * p.mult * q := IntWalk.wrap64_in _ (by omega)
    clear r1 r2
    go_wp2_with fail
    go_ret2
    exact ⟨by rw [HX.out.1, HX.out.2]; simp only [hw2]; rfl, HB1.out⟩
  · obtain ⟨e1, e2⟩ := @QM.vl_bad p x q hc
    rw [e1, e2]; clear e1 e2
    have hd : (QM.checkE p != 0) = true := by simpa using hc
    generalize QM.checkE p = y at *
    clear hc hq HP HL
    go_enter Try.func39, Try.ntmps39
    go_wp2_with fail
    refine (C0.out _).mono ?_
    rintro e w1 ⟨rfl, b⟩
    have HB1 := Lib.hid (HB.out.trans (b.mono HB.out.size))
    clear b
    go_wp2_with fail
    go_ret2
    exact ⟨rfl, HB1.out⟩
end Go.Proofs.Ytagmknahmkniaaa

/- Layer 20's mathematics: what lots get by a change of prices. -/
namespace VM
def isP (n : Int) : Bool := QM.within n (-16777216) 16777216
theorem isP_true {n : Int} : isP n = true ↔ -16777216 ≤ n ∧ n ≤ 16777216 := QM.within_true
def carE (p : QM.Prod) (net b n : Int) : Int := if QM.checkE p ≠ 0 then QM.checkE p else if (isP b && isP n) = false then 17 else QM.valueE p (n - b) net
def carN (p : QM.Prod) (net b n : Int) : Int := if carE p net b n = 0 then QM.valueN p (n - b) net else 0
theorem car_bad {p : QM.Prod} {net b n : Int} (h : QM.checkE p ≠ 0) : carE p net b n = QM.checkE p ∧ carN p net b n = 0 := by
  have e : carE p net b n = QM.checkE p := by unfold carE; rw [if_pos h]
  exact ⟨e, by unfold carN; rw [e, if_neg h]⟩
theorem car_price {p : QM.Prod} {net b n : Int} (h : QM.checkE p = 0) (h2 : (isP b && isP n) = false) : carE p net b n = 17 ∧ carN p net b n = 0 := by
  have e : carE p net b n = 17 := by unfold carE; rw [if_neg (by simp [h]), if_pos h2]
  exact ⟨e, by unfold carN; rw [e]; rfl⟩
theorem car_val {p : QM.Prod} {net b n : Int} (h : QM.checkE p = 0) (h2 : (isP b && isP n) = true) : carE p net b n = QM.valueE p (n - b) net ∧ carN p net b n = QM.valueN p (n - b) net := by
  have e : carE p net b n = QM.valueE p (n - b) net := by unfold carE; rw [if_neg (by simp [h]), if_neg (by simp [h2])]
  refine ⟨e, ?_⟩
  unfold carN
  rw [e]
  split
  · rfl
  · rename_i h3
    unfold QM.valueN; rw [if_neg h3]
end VM

/- Boxes: blocks known whole, over a seat. -/
namespace Go.Proofs.Ytagmknahmkniaaa
open Go.RowKit
set_option linter.unusedVariables false
set_option linter.unusedSimpArgs false

/-- block g is just the cells cs -/
def CB (w : World) (g : Nat) (t : TypeId) (cs : Array Value) : Prop := w.heap[g]? = some (.cells cs t (0, 0))
section
variable {w w' : World} {g B : Nat} {t : TypeId} {cs : Array Value}
theorem CB.new (w : World) (t : TypeId) (cs : Array Value) : CB (w.alloc (.cells cs t)) w.heap.size t cs := heap_alloc_new w _
theorem CB.below (h : CB w g t cs) (hb : Below B w w') (hg : g < B) : CB w' g t cs := (hb.block g hg).trans h
theorem CB.lt (h : CB w g t cs) : g < w.heap.size := lt_of_block h
theorem CB.cell (h : CB w g t cs) (i : Nat) : w.cell? ⟨g, i, none⟩ = cs[i]? := by unfold CB at h; simp [World.cell?, h]
theorem CB.alloc (h : CB w g t cs) (o : Obj) : CB (w.alloc o) g t cs := (Below.heap_alloc w o g h.lt).trans h
theorem CB.drewN (h : CB w g t cs) (n : Nat) : CB (w.drewN n) g t cs := h
theorem CB.frozen (h : CB w g t cs) (i : Nat) : w.frozen? ⟨g, i, none⟩ = false := by unfold CB at h; simp [World.frozen?, h]
theorem CB.set_ (h : CB w g t cs) (i : Nat) (u : Value) : CB (w.setCell ⟨g, i, none⟩ u) g t (cs.setIfInBounds i u) := by
  unfold CB at h ⊢
  simp [World.setCell, Array.getElem?_modify, h]
theorem CB.far (h : CB w g t cs) {p : Addr} (hp : g ≠ p.block) (u : Value) : CB (w.setCell p u) g t cs := (Below.heap_setCell w p u g hp).trans h
end
theorem CB.new1 (w : World) (o : Obj) (t : TypeId) (cs : Array Value) : CB ((w.alloc o).alloc (.cells cs t)) (w.heap.size + 1) t cs := by
  have h := CB.new (w.alloc o) t cs
  rwa [show (w.alloc o).heap.size = w.heap.size + 1 by simp] at h
theorem CB.new2 (w : World) (o o' : Obj) (t : TypeId) (cs : Array Value) : CB (((w.alloc o).alloc o').alloc (.cells cs t)) (w.heap.size + 2) t cs := by
  have h := CB.new1 (w.alloc o) o' t cs
  rwa [show (w.alloc o).heap.size + 1 = w.heap.size + 2 by simp] at h
theorem below_al {a w : World} (h : Below a.heap.size a w) (o : Obj) : Below a.heap.size a (w.alloc o) := h.alloc h.size o
theorem results_cell1 {fn : Func} {p : Tmp} {ty : TypeId} (h : fn.results = #[.cell p ty]) (tmps : Array Value) (P : Program) (w : World) :
    (results fn tmps).run P w = ((asAddr (tmps.getD p undef)).run P w).andThen fun a w₁ => (loadVar ty a).run P w₁ := by
  simp only [results, h]
  simp [Sem.run_bind, Result.andThen]
theorem results_cell2 {fn : Func} {p q : Tmp} {ty tz : TypeId} (h : fn.results = #[.cell p ty, .cell q tz]) (tmps : Array Value) (P : Program) (w : World) :
    (results fn tmps).run P w = ((asAddr (tmps.getD p undef)).run P w).andThen fun a w₁ => ((loadVar ty a).run P w₁).andThen fun v w₂ => ((asAddr (tmps.getD q undef)).run P w₂).andThen fun b w₃ => ((loadVar tz b).run P w₃).andThen fun u w₄ => .ok (.tuple #[v, u]) w₄ := by
  simp only [results, h]
  simp [Sem.run_bind, Result.andThen]
end Go.Proofs.Ytagmknahmkniaaa

/- Contracts of layer 20: isPrice, Carried. -/
namespace Go.Proofs.Ytagmknahmkniaaa
open Go.RowKit Go.Recs
set_option linter.unusedVariables false
set_option linter.unusedSimpArgs false
theorem visprice_any (n : Int) (w : World) : Calls Try.prog 35 #[.int .i64 n] w fun e w' => e = .returned (.bool (VM.isP n)) ∧ w = w' := by
  by_cases h1 : -16777216 ≤ n
  · by_cases h2 : n ≤ 16777216
    · rw [VM.isP_true.2 ⟨h1, h2⟩]
      go_enter Try.func35, Try.ntmps35
      go_wp2
      go_ret
      exact ⟨rfl, rfl⟩
    · have e : VM.isP n = false := QM.within_false.2 (.inr (by omega))
      rw [e]; clear e
      go_enter Try.func35, Try.ntmps35
      go_wp2
      go_ret
      exact ⟨rfl, rfl⟩
  · have e : VM.isP n = false := QM.within_false.2 (.inl (by omega))
    rw [e]; clear e
    go_enter Try.func35, Try.ntmps35
    go_wp2
    go_ret
    exact ⟨rfl, rfl⟩
set_option maxHeartbeats 4000000 in
theorem vcarried_any (p : QM.Prod) (net b n : Int) (hq : prodQ p) (w : World) :
    Calls Try.prog 21 #[prodA p, .int .i64 net, .int .i64 b, .int .i64 n] w fun e w' => e = .returned (.tuple #[.int .i64 (VM.carN p net b n), .int .i64 (VM.carE p net b n)]) ∧ Below w.heap.size w w' := by
  have C0 := Lib.hid (fun ww => qcheck_any p hq ww)
  have HB := Lib.hid (below_al (Below.refl w.heap.size w) (.cells #[.string p.name, .int .i64 p.cur, .int .i64 p.mult, .int .i64 p.tick, .int .i64 p.low, .int .i64 p.high, .bool p.phys] 52))
  have HP := Lib.hid (PBox.new w p)
  have HL := Lib.hid (new_lt w (.cells #[.string p.name, .int .i64 p.cur, .int .i64 p.mult, .int .i64 p.tick, .int .i64 p.low, .int .i64 p.high, .bool p.phys] 52))
  have P1 := Lib.hid (fun ww => visprice_any b ww)
  have P2 := Lib.hid (fun ww => visprice_any n ww)
  obtain ⟨c0, c1, c2, c3, c4, c5, c6⟩ := HP.out.cells
  by_cases hc : QM.checkE p = 0
  · rw [hc] at C0
    cases h1 : VM.isP b
    · obtain ⟨e1, e2⟩ := VM.car_price (p := p) (net := net) (b := b) (n := n) hc (by rw [h1]; rfl)
      rw [h1] at P1
      rw [e1, e2]; clear e1 e2 h1 hc hq
      go_enter Try.func21, Try.ntmps21
      go_wp2_with fail
      refine (C0.out _).mono ?_
      rintro e w1 ⟨rfl, b1⟩
      have HB1 := Lib.hid (HB.out.trans (b1.mono HB.out.size))
      clear b1
      go_wp2_with fail
      refine (P1.out _).mono ?_
      rintro e w2 ⟨rfl, rfl⟩
      go_wp2_with fail
      go_ret2
      exact ⟨rfl, HB1.out⟩
    cases h2 : VM.isP n
    · obtain ⟨e1, e2⟩ := VM.car_price (p := p) (net := net) (b := b) (n := n) hc (by rw [h1, h2]; rfl)
      rw [h1] at P1
      rw [h2] at P2
      rw [e1, e2]; clear e1 e2 h1 h2 hc hq
      go_enter Try.func21, Try.ntmps21
      go_wp2_with fail
      refine (C0.out _).mono ?_
      rintro e w1 ⟨rfl, b1⟩
      have HB1 := Lib.hid (HB.out.trans (b1.mono HB.out.size))
      clear b1
      go_wp2_with fail
      refine (P1.out _).mono ?_
      rintro e w2 ⟨rfl, rfl⟩
      go_wp2_with fail
      refine (P2.out _).mono ?_
      rintro e w2 ⟨rfl, rfl⟩
      go_wp2_with fail
      go_ret2
      exact ⟨rfl, HB1.out⟩
    obtain ⟨e1, e2⟩ := VM.car_val (p := p) (net := net) (b := b) (n := n) hc (by rw [h1, h2]; rfl)
    have i1 := VM.isP_true.1 h1
    have i2 := VM.isP_true.1 h2
    rw [h1] at P1
    rw [h2] at P2
    have C3 := Lib.hid (fun ww => qvalue_any p (n - b) net hq ww)
    rw [e1, e2]; clear e1 e2 h1 h2 hc hq
    generalize QM.valueE p (n - b) net = ve at *
    generalize QM.valueN p (n - b) net = vn at *
    go_enter Try.func21, Try.ntmps21
    go_wp2_with fail
    refine (C0.out _).mono ?_
    rintro e w1 ⟨rfl, b1⟩
    have HB1 := Lib.hid (HB.out.trans (b1.mono HB.out.size))
    have HP1 := Lib.hid (HP.out.below b1 HL.out)
    clear b1 c0 c1 c2 c3 c4 c5 c6 HB
    obtain ⟨c0, c1, c2, c3, c4, c5, c6⟩ := HP1.out.cells
    go_wp2_with fail
    refine (P1.out _).mono ?_
    rintro e w2 ⟨rfl, rfl⟩
    go_wp2_with fail
    refine (P2.out _).mono ?_
    rintro e w2 ⟨rfl, rfl⟩
    go_wp2_with fail
    refine (C3.out _).mono ?_
    rintro e w2 ⟨rfl, b2⟩
    have HB2 := Lib.hid (HB1.out.trans (b2.mono HB1.out.size))
    clear b2
    go_wp2_with fail
    go_ret2
    exact ⟨rfl, HB2.out⟩
  · obtain ⟨e1, e2⟩ := VM.car_bad (p := p) (net := net) (b := b) (n := n) hc
    have hd : (QM.checkE p != 0) = true := by simpa using hc
    rw [e1, e2]; clear e1 e2
    generalize QM.checkE p = y at *
    clear hc hq
    go_enter Try.func21, Try.ntmps21
    go_wp2_with fail
    refine (C0.out _).mono ?_
    rintro e w1 ⟨rfl, b1⟩
    have HB1 := Lib.hid (HB.out.trans (b1.mono HB.out.size))
    clear b1
    go_wp2_with fail
    go_ret2
    exact ⟨rfl, HB1.out⟩
end Go.Proofs.Ytagmknahmkniaaa

/- Layer 11's mathematics: members and their accounts. -/
namespace MM
open Go
set_option linter.unusedSimpArgs false
structure Ac where
  name : ByteArray
  kind : Int
structure Mem where
  name : ByteArray
  status : Int
  accs : List Ac
def nil : ByteArray := ⟨#[]⟩
def okN (s : ByteArray) : Bool := WM.name s.data.toList
def lt (s t : ByteArray) : Bool := Op.bytesLess s.toList t.toList
def eq (s t : ByteArray) : Bool := s.toList == t.toList
def le (s t : ByteArray) : Bool := lt s t || eq s t
theorem eq_iff {s t : ByteArray} : eq s t = true ↔ s = t := by
  unfold eq
  constructor
  · intro h; exact EM.toList_inj (by simpa using h)
  · rintro rfl; simp
theorem eq_false {s t : ByteArray} : eq s t = false ↔ s ≠ t := by rw [Bool.eq_false_iff, ne_eq, eq_iff]
theorem lt_tri (s t : ByteArray) : lt s t = true ∨ s = t ∨ lt t s = true := by
  rcases OM.bl_tri s.toList t.toList with h | h | h
  · exact .inl h
  · exact .inr (.inl (EM.toList_inj h))
  · exact .inr (.inr h)
theorem lt_irrefl (s : ByteArray) : lt s s = false := OM.bl_irrefl _
theorem lt_trans {s t u : ByteArray} (h1 : lt s t = true) (h2 : lt t u = true) : lt s u = true := OM.bl_trans _ _ _ h1 h2
theorem lt_asymm {s t : ByteArray} (h : lt s t = true) : lt t s = false := OM.bl_asymm h
theorem lt_of_le {s t : ByteArray} (h : le s t = false) : lt t s = true := by
  unfold le at h
  rw [Bool.or_eq_false_iff] at h
  rcases lt_tri s t with g | g | g
  · rw [h.1] at g; cases g
  · rw [eq_iff.2 g] at h; cases h.2
  · exact g
theorem le_of_lt {s t : ByteArray} (h : lt t s = true) : le s t = false := by
  unfold le
  rw [lt_asymm h]
  have : eq s t = false := eq_false.2 (by rintro rfl; rw [lt_irrefl] at h; cases h)
  rw [this]; rfl
theorem gt_eq (s t : ByteArray) : (!Op.bytesLess s.toList t.toList && !(s.toList == t.toList)) = lt t s := by
  have e : (!Op.bytesLess s.toList t.toList && !(s.toList == t.toList)) = !(le s t) := by unfold le lt eq; rw [Bool.not_or]
  rw [e]
  cases h : le s t
  · rw [lt_of_le h]; rfl
  · cases g : lt t s
    · rfl
    · rw [le_of_lt g] at h; cases h
theorem lt_ne {s t : ByteArray} (h : lt s t = true) : eq s t = false ∧ eq t s = false := by
  refine ⟨eq_false.2 ?_, eq_false.2 ?_⟩ <;> (rintro rfl; rw [lt_irrefl] at h; cases h)
theorem ok_le {s : ByteArray} (h : okN s = true) : le s nil = false := by
  apply le_of_lt
  rcases lt_tri nil s with g | g | g
  · exact g
  · subst g; revert h; decide
  · unfold lt at g
    rw [Go.ByteArray.toList_eq nil] at g
    cases e : s.toList <;> simp [nil, e, Op.bytesLess] at g

def kindOk (k : Int) : Bool := decide (1 ≤ k) && decide (k ≤ 3)
def statOk (k : Int) : Bool := decide (1 ≤ k) && decide (k ≤ 4)
def accE : ByteArray → List Ac → Int
  | _, [] => 0
  | p, a :: r => if okN a.name = false then 10 else if le a.name p = true then 12 else if kindOk a.kind = false then 21 else accE a.name r
def memE : ByteArray → List Mem → Int
  | _, [] => 0
  | p, m :: r => if okN m.name = false then 10 else if le m.name p = true then 12 else if statOk m.status = false then 13 else if 16 < m.accs.length then 8 else if accE nil m.accs ≠ 0 then accE nil m.accs else memE m.name r
def checkE (l : List Mem) : Int := if 32 < l.length then 8 else memE nil l
theorem acc_name {p : ByteArray} {a : Ac} {r : List Ac} (h : okN a.name = false) : accE p (a :: r) = 10 := by simp [accE, h]
theorem acc_le {p : ByteArray} {a : Ac} {r : List Ac} (h : okN a.name = true) (h2 : le a.name p = true) : accE p (a :: r) = 12 := by simp [accE, h, h2]
theorem acc_kind {p : ByteArray} {a : Ac} {r : List Ac} (h : okN a.name = true) (h2 : le a.name p = false) (h3 : kindOk a.kind = false) : accE p (a :: r) = 21 := by simp [accE, h, h2, h3]
theorem acc_next {p : ByteArray} {a : Ac} {r : List Ac} (h : okN a.name = true) (h2 : le a.name p = false) (h3 : kindOk a.kind = true) : accE p (a :: r) = accE a.name r := by simp [accE, h, h2, h3]
theorem mem_name {p : ByteArray} {m : Mem} {r : List Mem} (h : okN m.name = false) : memE p (m :: r) = 10 := by simp [memE, h]
theorem mem_le {p : ByteArray} {m : Mem} {r : List Mem} (h : okN m.name = true) (h2 : le m.name p = true) : memE p (m :: r) = 12 := by simp [memE, h, h2]
theorem mem_stat {p : ByteArray} {m : Mem} {r : List Mem} (h : okN m.name = true) (h2 : le m.name p = false) (h3 : statOk m.status = false) : memE p (m :: r) = 13 := by simp [memE, h, h2, h3]
theorem mem_long {p : ByteArray} {m : Mem} {r : List Mem} (h : okN m.name = true) (h2 : le m.name p = false) (h3 : statOk m.status = true) (h4 : 16 < m.accs.length) : memE p (m :: r) = 8 := by simp [memE, h, h2, h3, h4]
theorem mem_accs {p : ByteArray} {m : Mem} {r : List Mem} (h : okN m.name = true) (h2 : le m.name p = false) (h3 : statOk m.status = true) (h4 : ¬ 16 < m.accs.length) (h5 : accE nil m.accs ≠ 0) : memE p (m :: r) = accE nil m.accs := by simp [memE, h, h2, h3, h4, h5]
theorem mem_next {p : ByteArray} {m : Mem} {r : List Mem} (h : okN m.name = true) (h2 : le m.name p = false) (h3 : statOk m.status = true) (h4 : ¬ 16 < m.accs.length) (h5 : accE nil m.accs = 0) : memE p (m :: r) = memE m.name r := by simp [memE, h, h2, h3, h4, h5]
theorem acc_ok {p : ByteArray} {a : Ac} {r : List Ac} (h : accE p (a :: r) = 0) : okN a.name = true ∧ le a.name p = false ∧ kindOk a.kind = true ∧ accE a.name r = 0 := by
  unfold accE at h
  split at h
  · omega
  split at h
  · omega
  split at h
  · omega
  · simp_all
theorem mem_ok {p : ByteArray} {m : Mem} {r : List Mem} (h : memE p (m :: r) = 0) : okN m.name = true ∧ le m.name p = false ∧ statOk m.status = true ∧ ¬ 16 < m.accs.length ∧ accE nil m.accs = 0 ∧ memE m.name r = 0 := by
  unfold memE at h
  split at h
  · omega
  split at h
  · omega
  split at h
  · omega
  split at h
  · omega
  split at h
  · omega
  · simp_all

/-- x ahead of the first that p says yes to, at the end if there is none -/
def ins {α : Type} (p : α → Bool) (x : α) : List α → List α
  | [] => [x]
  | a :: r => if p a = true then x :: a :: r else a :: ins p x r
theorem ins_len {α : Type} (p : α → Bool) (x : α) (l : List α) : (ins p x l).length = l.length + 1 := by
  induction l with
  | nil => rfl
  | cons a r ih => unfold ins; split <;> simp [ih]
theorem ins_mem {α : Type} (p : α → Bool) (x y : α) (l : List α) : y ∈ ins p x l ↔ y = x ∨ y ∈ l := by
  induction l with
  | nil => simp [ins]
  | cons a r ih =>
    unfold ins
    split
    · simp
    · simp only [List.mem_cons, ih]
      constructor
      · rintro (h | h | h)
        · exact .inr (.inl h)
        · exact .inl h
        · exact .inr (.inr h)
      · rintro (h | h | h)
        · exact .inr (.inl h)
        · exact .inl h
        · exact .inr (.inr h)
/-- where: the first that p says yes to, else the end -/
def at_ {α : Type} (p : α → Bool) (l : List α) : Nat := (l.findIdx? p).getD l.length
theorem at_le {α : Type} (p : α → Bool) (l : List α) : at_ p l ≤ l.length := by
  unfold at_
  cases h : l.findIdx? p with
  | none => simp
  | some i =>
    have := (List.findIdx?_eq_some_iff_getElem.1 h).1
    simp; omega
theorem ins_at {α : Type} (p : α → Bool) (x : α) (l : List α) : ins p x l = l.take (at_ p l) ++ x :: l.drop (at_ p l) := by
  induction l with
  | nil => simp [ins, at_]
  | cons a r ih =>
    unfold ins
    cases h : p a
    · have e : at_ p (a :: r) = at_ p r + 1 := by
        unfold at_
        rw [List.findIdx?_cons, h]
        cases r.findIdx? p <;> simp
      rw [e]
      simp [ih]
    · have e : at_ p (a :: r) = 0 := by
        unfold at_
        rw [List.findIdx?_cons, h]
        simp
      rw [e]
      simp
theorem find_some {α : Type} {p : α → Bool} {l : List α} {k : Nat} (hk : k < l.length) (hj : ∀ j (h : j < l.length), j < k → p l[j] = false) (h : p l[k] = true) : l.findIdx? p = some k := by
  rw [List.findIdx?_eq_some_iff_getElem]
  refine ⟨hk, h, fun j hji => ?_⟩
  rw [hj j (by omega) hji]; decide
theorem find_none {α : Type} {p : α → Bool} {l : List α} (h : ∀ j (h : j < l.length), p l[j] = false) : l.findIdx? p = none := by
  rw [List.findIdx?_eq_none_iff]
  intro x hx
  obtain ⟨j, hj, rfl⟩ := List.mem_iff_getElem.1 hx
  exact h j hj

def pl (l : List Mem) (n : ByteArray) : Option Nat := l.findIdx? (fun m => eq m.name n)
def pa (l : List Ac) (n : ByteArray) : Option Nat := l.findIdx? (fun a => eq a.name n)
theorem pl_some {l : List Mem} {n : ByteArray} {i : Nat} (h : pl l n = some i) : ∃ hi : i < l.length, l[i].name = n := by
  obtain ⟨h1, h2, _⟩ := List.findIdx?_eq_some_iff_getElem.1 h
  exact ⟨h1, eq_iff.1 h2⟩
theorem pa_some {l : List Ac} {n : ByteArray} {i : Nat} (h : pa l n = some i) : ∃ hi : i < l.length, l[i].name = n := by
  obtain ⟨h1, h2, _⟩ := List.findIdx?_eq_some_iff_getElem.1 h
  exact ⟨h1, eq_iff.1 h2⟩
theorem pl_none {l : List Mem} {n : ByteArray} (h : pl l n = none) : ∀ m ∈ l, eq m.name n = false := List.findIdx?_eq_none_iff.1 h
theorem pa_none {l : List Ac} {n : ByteArray} (h : pa l n = none) : ∀ a ∈ l, eq a.name n = false := List.findIdx?_eq_none_iff.1 h

def insM (n : ByteArray) (l : List Mem) : List Mem := ins (fun m => lt n m.name) ⟨n, 1, []⟩ l
def insA (a : Ac) (l : List Ac) : List Ac := ins (fun b => lt a.name b.name) a l
def addE (l : List Mem) (n : ByteArray) : Int :=
  if checkE l ≠ 0 then checkE l else if okN n = false then 10 else if (pl l n).isSome = true then 12 else if 32 ≤ l.length then 8 else 0
def addL (l : List Mem) (n : ByteArray) : List Mem := if addE l n = 0 then insM n l else []
def mAt (l : List Mem) (i : Nat) : Mem := l.getD i ⟨nil, 0, []⟩
theorem mAt_get {l : List Mem} {i : Nat} (h : i < l.length) : mAt l i = l[i] := by simp [mAt, List.getD, h]
/-- the error of one more account among a member's -/
def opE (l : List Ac) (n : ByteArray) (kind : Int) : Int :=
  if okN n = false then 10 else if kindOk kind = false then 21 else if (pa l n).isSome = true then 12 else if 16 ≤ l.length then 8 else 0
def openE (l : List Mem) (n a : ByteArray) (kind : Int) : Int :=
  if checkE l ≠ 0 then checkE l else match pl l n with
    | none => 20
    | some i => if (mAt l i).status ≠ 1 then 20 else opE (mAt l i).accs a kind
def openL (l : List Mem) (n a : ByteArray) (kind : Int) : List Mem :=
  if openE l n a kind = 0 then match pl l n with
    | none => []
    | some i => l.set i { mAt l i with accs := insA ⟨a, kind⟩ (mAt l i).accs }
  else []
def leads (f t : Int) : Bool := if f = 1 then (t == 2 || t == 3 || t == 4) else if f = 2 then (t == 1 || t == 3) else false
def statE (l : List Mem) (n : ByteArray) (s : Int) : Int :=
  if checkE l ≠ 0 then checkE l else match pl l n with
    | none => 20
    | some i => if leads (mAt l i).status s = true then 0 else 13
def statL (l : List Mem) (n : ByteArray) (s : Int) : List Mem :=
  if statE l n s = 0 then match pl l n with
    | none => []
    | some i => l.set i { mAt l i with status := s }
  else []
def allows (s act : Int) : Bool := if s = 1 then true else if s = 2 then (act != 1 && act != 3) else if s = 3 then (decide (4 ≤ act) && decide (act ≤ 8)) else false
def mayE (l : List Mem) (n a : ByteArray) (act : Int) : Int :=
  match pl l n with
    | none => 20
    | some i => match pa (mAt l i).accs a with
      | none => 21
      | some _ => if allows (mAt l i).status act = true then 0 else 13
def accsL (l : List Mem) : List (ByteArray × ByteArray) := l.flatMap fun m => m.accs.map fun a => (m.name, a.name)

theorem acc_asc : ∀ {p : ByteArray} {l : List Ac}, accE p l = 0 → (∀ a ∈ l, lt p a.name = true) ∧ l.Pairwise (fun a b => lt a.name b.name = true) := by
  intro p l
  induction l generalizing p with
  | nil => intro _; simp
  | cons a r ih =>
    intro h
    obtain ⟨_, h2, _, h4⟩ := acc_ok h
    obtain ⟨g1, g2⟩ := ih h4
    have hp := lt_of_le h2
    refine ⟨?_, List.pairwise_cons.2 ⟨g1, g2⟩⟩
    intro b hb
    rcases List.mem_cons.1 hb with rfl | hb
    · exact hp
    · exact lt_trans hp (g1 b hb)
theorem mem_asc : ∀ {p : ByteArray} {l : List Mem}, memE p l = 0 → (∀ a ∈ l, lt p a.name = true) ∧ l.Pairwise (fun a b => lt a.name b.name = true) := by
  intro p l
  induction l generalizing p with
  | nil => intro _; simp
  | cons a r ih =>
    intro h
    obtain ⟨_, h2, _, _, _, h4⟩ := mem_ok h
    obtain ⟨g1, g2⟩ := ih h4
    have hp := lt_of_le h2
    refine ⟨?_, List.pairwise_cons.2 ⟨g1, g2⟩⟩
    intro b hb
    rcases List.mem_cons.1 hb with rfl | hb
    · exact hp
    · exact lt_trans hp (g1 b hb)
/-- in a list that may be, a member is found by its name -/
theorem find_mem {p : ByteArray} {l : List Mem} (h : memE p l = 0) {m : Mem} (hm : m ∈ l) : ∃ i, pl l m.name = some i ∧ ∃ hi : i < l.length, l[i] = m := by
  obtain ⟨i, hi, rfl⟩ := List.mem_iff_getElem.1 hm
  refine ⟨i, find_some hi ?_ (eq_iff.2 rfl), hi, rfl⟩
  intro j hj hji
  exact (lt_ne (List.pairwise_iff_getElem.1 (mem_asc h).2 j i hj hi hji)).1
theorem acc_ins {a : Ac} : ∀ {p : ByteArray} {l : List Ac}, accE p l = 0 → okN a.name = true → le a.name p = false → kindOk a.kind = true → (∀ b ∈ l, eq b.name a.name = false) → accE p (insA a l) = 0 := by
  intro p l
  induction l generalizing p with
  | nil => intro _ h1 h2 h3 _; exact acc_next h1 h2 h3
  | cons b r ih =>
    intro h h1 h2 h3 h4
    obtain ⟨g1, g2, g3, g4⟩ := acc_ok h
    unfold insA ins
    cases e : lt a.name b.name
    · rw [if_neg (by simp), acc_next g1 g2 g3]
      refine ih g4 h1 ?_ h3 (fun c hc => h4 c (List.mem_cons_of_mem _ hc))
      apply le_of_lt
      rcases lt_tri a.name b.name with g | g | g
      · rw [e] at g; cases g
      · have := h4 b (by simp)
        rw [← g] at this
        exact absurd rfl (eq_false.1 this)
      · exact g
    · rw [if_pos rfl, acc_next h1 h2 h3, acc_next g1 (le_of_lt e) g3]
      exact g4
theorem mem_ins {n : ByteArray} : ∀ {p : ByteArray} {l : List Mem}, memE p l = 0 → okN n = true → le n p = false → (∀ b ∈ l, eq b.name n = false) → memE p (insM n l) = 0 := by
  intro p l
  induction l generalizing p with
  | nil => intro _ h1 h2 _; exact mem_next (m := ⟨n, 1, []⟩) h1 h2 rfl (by simp) rfl
  | cons b r ih =>
    intro h h1 h2 h4
    obtain ⟨g1, g2, g3, g4, g5, g6⟩ := mem_ok h
    unfold insM ins
    cases e : lt n b.name
    · rw [if_neg (by simp), mem_next g1 g2 g3 g4 g5]
      refine ih g6 h1 ?_ (fun c hc => h4 c (List.mem_cons_of_mem _ hc))
      apply le_of_lt
      rcases lt_tri n b.name with g | g | g
      · rw [e] at g; cases g
      · have := h4 b (by simp)
        rw [← g] at this
        exact absurd rfl (eq_false.1 this)
      · exact g
    · rw [if_pos rfl, mem_next (m := ⟨n, 1, []⟩) h1 h2 rfl (by simp) rfl, mem_next g1 (le_of_lt e) g3 g4 g5]
      exact g6
theorem mem_set {m' : Mem} : ∀ {p : ByteArray} {l : List Mem} {i : Nat} (hi : i < l.length), memE p l = 0 → m'.name = l[i].name → statOk m'.status = true → ¬ 16 < m'.accs.length → accE nil m'.accs = 0 → memE p (l.set i m') = 0 := by
  intro p l
  induction l generalizing p with
  | nil => intro i hi; simp at hi
  | cons b r ih =>
    intro i hi h hn h1 h2 h3
    obtain ⟨g1, g2, g3, g4, g5, g6⟩ := mem_ok h
    cases i with
    | zero =>
      simp only [List.getElem_cons_zero] at hn
      rw [List.set_cons_zero, mem_next (by rw [hn]; exact g1) (by rw [hn]; exact g2) h1 h2 h3, hn]
      exact g6
    | succ i =>
      rw [List.set_cons_succ, mem_next g1 g2 g3 g4 g5]
      exact ih (i := i) (by simpa using hi) g6 (by simpa using hn) h1 h2 h3
theorem mem_at : ∀ {p : ByteArray} {l : List Mem} {i : Nat} (hi : i < l.length), memE p l = 0 → okN l[i].name = true ∧ statOk l[i].status = true ∧ ¬ 16 < l[i].accs.length ∧ accE nil l[i].accs = 0 := by
  intro p l
  induction l generalizing p with
  | nil => intro i hi; simp at hi
  | cons b r ih =>
    intro i hi h
    obtain ⟨g1, g2, g3, g4, g5, g6⟩ := mem_ok h
    cases i with
    | zero => exact ⟨g1, g3, g4, g5⟩
    | succ i => exact ih (i := i) (by simpa using hi) g6
theorem check_mem {l : List Mem} (h : checkE l = 0) : l.length ≤ 32 ∧ memE nil l = 0 := by
  unfold checkE at h
  split at h
  · omega
  · exact ⟨by omega, h⟩
theorem mem_check {l : List Mem} (h1 : l.length ≤ 32) (h : memE nil l = 0) : checkE l = 0 := by
  unfold checkE
  rw [if_neg (by omega)]; exact h
theorem add_ok {l : List Mem} {n : ByteArray} (h : addE l n = 0) : checkE l = 0 ∧ okN n = true ∧ pl l n = none ∧ l.length < 32 := by
  unfold addE at h
  split at h
  · omega
  split at h
  · omega
  split at h
  · omega
  split at h
  · omega
  · simp_all
theorem add_check {l : List Mem} {n : ByteArray} (h : addE l n = 0) : checkE (addL l n) = 0 := by
  obtain ⟨h1, h2, h3, h4⟩ := add_ok h
  unfold addL
  rw [if_pos h]
  refine mem_check (by unfold insM; rw [ins_len]; omega) (mem_ins (check_mem h1).2 h2 (ok_le h2) (pl_none h3))
theorem op_ok {l : List Ac} {n : ByteArray} {k : Int} (h : opE l n k = 0) : okN n = true ∧ kindOk k = true ∧ pa l n = none ∧ l.length < 16 := by
  unfold opE at h
  split at h
  · omega
  split at h
  · omega
  split at h
  · omega
  split at h
  · omega
  · simp_all
theorem open_ok {l : List Mem} {n a : ByteArray} {k : Int} (h : openE l n a k = 0) : checkE l = 0 ∧ ∃ i, pl l n = some i ∧ i < l.length ∧ (mAt l i).status = 1 ∧ opE (mAt l i).accs a k = 0 := by
  unfold openE at h
  split at h
  · omega
  rename_i hc
  split at h
  · omega
  rename_i i hi
  split at h
  · omega
  · exact ⟨by simpa using hc, i, hi, (pl_some hi).1, by simp_all, h⟩
theorem open_list {l : List Mem} {n a : ByteArray} {k : Int} {i : Nat} (h : openE l n a k = 0) (hi : pl l n = some i) : openL l n a k = l.set i { mAt l i with accs := insA ⟨a, k⟩ (mAt l i).accs } := by
  unfold openL
  rw [if_pos h, hi]
theorem open_check {l : List Mem} {n a : ByteArray} {k : Int} (h : openE l n a k = 0) : checkE (openL l n a k) = 0 := by
  obtain ⟨h1, i, h2, h3, h4, h5⟩ := open_ok h
  obtain ⟨h6, h7, h8, h9⟩ := op_ok h5
  obtain ⟨c1, c2⟩ := check_mem h1
  obtain ⟨m1, m2, m3, m4⟩ := mem_at h3 c2
  rw [open_list h h2]
  rw [mAt_get h3] at *
  exact mem_check (by simpa using c1) (mem_set h3 c2 rfl m2 (by show ¬ 16 < (insA _ _).length; unfold insA; rw [ins_len]; omega) (acc_ins m4 h6 (ok_le h6) h7 (pa_none h8)))
theorem stat_ok {l : List Mem} {n : ByteArray} {s : Int} (h : statE l n s = 0) : checkE l = 0 ∧ ∃ i, pl l n = some i ∧ i < l.length ∧ leads (mAt l i).status s = true := by
  unfold statE at h
  split at h
  · omega
  rename_i hc
  split at h
  · omega
  rename_i i hi
  split at h
  · rename_i hl
    exact ⟨by simpa using hc, i, hi, (pl_some hi).1, hl⟩
  · omega
theorem stat_list {l : List Mem} {n : ByteArray} {s : Int} {i : Nat} (h : statE l n s = 0) (hi : pl l n = some i) : statL l n s = l.set i { mAt l i with status := s } := by
  unfold statL
  rw [if_pos h, hi]
theorem leads_ok {f t : Int} (h : leads f t = true) : statOk t = true ∧ f < 3 := by
  unfold leads at h
  split at h
  · simp only [Bool.or_eq_true, beq_iff_eq] at h
    unfold statOk
    simp only [Bool.and_eq_true, decide_eq_true_eq]
    omega
  split at h
  · simp only [Bool.or_eq_true, beq_iff_eq] at h
    unfold statOk
    simp only [Bool.and_eq_true, decide_eq_true_eq]
    omega
  · cases h
theorem stat_check {l : List Mem} {n : ByteArray} {s : Int} (h : statE l n s = 0) : checkE (statL l n s) = 0 := by
  obtain ⟨h1, i, h2, h3, h4⟩ := stat_ok h
  obtain ⟨c1, c2⟩ := check_mem h1
  obtain ⟨m1, m2, m3, m4⟩ := mem_at h3 c2
  rw [stat_list h h2]
  rw [mAt_get h3] at *
  exact mem_check (by simpa using c1) (mem_set h3 c2 rfl (leads_ok h4).1 m3 m4)
/-- what a turn makes of a list, and what stays -/
def Kept (l l' : List Mem) (n : ByteArray) : Prop := checkE l' = 0 ∧ ∀ k (hk : k < l.length), ∃ i, pl l' l[k].name = some i ∧ ∃ hi : i < l'.length, (l'[i] = l[k] ∨ (l[k].name = n ∧ (3 ≤ l[k].status → l'[i].status = l[k].status) ∧ l[k].accs.length ≤ l'[i].accs.length))
theorem kept_add {l : List Mem} {n : ByteArray} (h : addE l n = 0) : Kept l (addL l n) n := by
  have hc := add_check h
  refine ⟨hc, fun k hk => ?_⟩
  have hm : l[k] ∈ addL l n := by
    unfold addL; rw [if_pos h]
    exact (ins_mem _ _ _ _).2 (.inr (List.getElem_mem hk))
  obtain ⟨i, h1, hi, h2⟩ := find_mem (check_mem hc).2 hm
  exact ⟨i, h1, hi, .inl h2⟩
theorem kept_set {l : List Mem} {n : ByteArray} {i : Nat} {m' : Mem} (hi : i < l.length) (hp : pl l n = some i) (hn : m'.name = l[i].name) (hs : 3 ≤ l[i].status → m'.status = l[i].status) (ha : l[i].accs.length ≤ m'.accs.length) (hc : checkE (l.set i m') = 0) : Kept l (l.set i m') n := by
  refine ⟨hc, fun k hk => ?_⟩
  by_cases e : k = i
  · subst e
    have hm : m' ∈ l.set k m' := List.mem_iff_getElem.2 ⟨k, by simpa using hk, by simp⟩
    obtain ⟨i', h1, hi', h2⟩ := find_mem (check_mem hc).2 hm
    rw [hn] at h1
    exact ⟨i', h1, hi', .inr ⟨(pl_some hp).2, by rw [h2]; exact hs, by rw [h2]; exact ha⟩⟩
  · have hm : l[k] ∈ l.set i m' := List.mem_iff_getElem.2 ⟨k, by simpa using hk, by rw [List.getElem_set]; rw [if_neg (fun h => e h.symm)]⟩
    obtain ⟨i', h1, hi', h2⟩ := find_mem (check_mem hc).2 hm
    exact ⟨i', h1, hi', .inl h2⟩
theorem kept_open {l : List Mem} {n a : ByteArray} {k : Int} (h : openE l n a k = 0) : Kept l (openL l n a k) n := by
  have hc := open_check h
  obtain ⟨h1, i, h2, h3, h4, h5⟩ := open_ok h
  rw [open_list h h2] at hc ⊢
  rw [mAt_get h3] at *
  exact kept_set h3 h2 rfl (fun _ => rfl) (by show _ ≤ (insA _ _).length; unfold insA; rw [ins_len]; omega) hc
theorem kept_stat {l : List Mem} {n : ByteArray} {s : Int} (h : statE l n s = 0) : Kept l (statL l n s) n := by
  have hc := stat_check h
  obtain ⟨h1, i, h2, h3, h4⟩ := stat_ok h
  rw [stat_list h h2] at hc ⊢
  rw [mAt_get h3] at *
  exact kept_set h3 h2 rfl (fun g => by have := (leads_ok h4).2; omega) (Nat.le_refl _) hc
end MM
namespace MM
theorem mem_one (p : ByteArray) (m : Mem) (r : List Mem) : memE p (m :: r) = if memE p [m] ≠ 0 then memE p [m] else memE m.name r := by
  by_cases h1 : okN m.name = false
  · rw [mem_name h1, mem_name h1]; rfl
  have h1' : okN m.name = true := by simpa using h1
  by_cases h2 : le m.name p = true
  · rw [mem_le h1' h2, mem_le h1' h2]; rfl
  have h2' : le m.name p = false := by simpa using h2
  by_cases h3 : statOk m.status = false
  · rw [mem_stat h1' h2' h3, mem_stat h1' h2' h3]; rfl
  have h3' : statOk m.status = true := by simpa using h3
  by_cases h4 : 16 < m.accs.length
  · rw [mem_long h1' h2' h3' h4, mem_long h1' h2' h3' h4]; rfl
  by_cases h5 : accE nil m.accs = 0
  · rw [mem_next h1' h2' h3' h4 h5, mem_next h1' h2' h3' h4 h5]; rfl
  · rw [mem_accs h1' h2' h3' h4 h5, mem_accs h1' h2' h3' h4 h5, if_pos h5]
theorem one_accs {p : ByteArray} {m : Mem} (h : okN m.name = true) (h2 : le m.name p = false) (h3 : statOk m.status = true) (h4 : ¬ 16 < m.accs.length) : memE p [m] = accE nil m.accs := by
  by_cases h5 : accE nil m.accs = 0
  · rw [mem_next h h2 h3 h4 h5, h5]; rfl
  · rw [mem_accs h h2 h3 h4 h5]
end MM

/- Layer 12's mathematics: lists of trades. -/
namespace TM
structure Trd where
  id : Int
  day : Int
  time : Int
  ser : EM.Ser
  qty : Int
  price : Int
  bm : ByteArray
  bn : ByteArray
  sm : ByteArray
  sn : ByteArray
def zero : Trd := ⟨0, 0, 0, EM.zero, 0, 0, MM.nil, MM.nil, MM.nil, MM.nil⟩
def tAt (l : List Trd) (k : Nat) : Trd := l.getD k zero
theorem tAt_get {l : List Trd} {k : Nat} (h : k < l.length) : tAt l k = l[k] := by simp [tAt, List.getD, h]
def pt (l : List Trd) (id : Int) : Option Nat := l.findIdx? (fun t => t.id == id)
theorem pt_some {l : List Trd} {id : Int} {i : Nat} (h : pt l id = some i) : ∃ hi : i < l.length, l[i].id = id := by
  obtain ⟨h1, h2, _⟩ := List.findIdx?_eq_some_iff_getElem.1 h
  exact ⟨h1, by simpa using h2⟩
theorem pt_none {l : List Trd} {id : Int} (h : pt l id = none) : ∀ t ∈ l, (t.id == id) = false := List.findIdx?_eq_none_iff.1 h
def insT (t : Trd) (l : List Trd) : List Trd := MM.ins (fun o => decide (t.id < o.id)) t l
def addE (l : List Trd) (t : Trd) : Int := if 1024 ≤ l.length then 8 else if (pt l t.id).isSome = true then 12 else 0
def addL (l : List Trd) (t : Trd) : List Trd := if addE l t = 0 then insT t l else []
def bustE (l : List Trd) (id : Int) : Int := if (pt l id).isSome = true then 0 else 22
def bustL (l : List Trd) (id : Int) : List Trd := match pt l id with
  | none => []
  | some i => l.take i ++ l.drop (i + 1)
def findT (l : List Trd) (id : Int) : Trd := match pt l id with
  | none => zero
  | some i => tAt l i
theorem add_ok {l : List Trd} {t : Trd} (h : addE l t = 0) : l.length < 1024 ∧ pt l t.id = none := by
  unfold addE at h
  split at h
  · omega
  split at h
  · omega
  · simp_all
/-- where a trade was put it is found, and busting it gives the list back -/
theorem add_back {l : List Trd} {t : Trd} (h : addE l t = 0) : findT (addL l t) t.id = t ∧ (pt (addL l t) t.id).isSome = true ∧ bustL (addL l t) t.id = l ∧ (addL l t).length = l.length + 1 := by
  obtain ⟨_, h2⟩ := add_ok h
  have e : addL l t = insT t l := by unfold addL; rw [if_pos h]
  have hat := MM.at_le (fun o : Trd => decide (t.id < o.id)) l
  have ei : insT t l = l.take (MM.at_ (fun o => decide (t.id < o.id)) l) ++ t :: l.drop (MM.at_ (fun o => decide (t.id < o.id)) l) := MM.ins_at _ _ _
  have hlen : (insT t l).length = l.length + 1 := MM.ins_len _ _ _
  rw [e]
  generalize MM.at_ (fun o : Trd => decide (t.id < o.id)) l = i at *
  have ht : (l.take i).length = i := by rw [List.length_take]; omega
  have hg : ∀ hi : i < (insT t l).length, (insT t l)[i] = t := by
    intro hi
    simp only [ei]
    rw [List.getElem_append_right (by omega)]
    simp [ht]
  have hp : pt (insT t l) t.id = some i := by
    refine MM.find_some (by omega) ?_ (by rw [hg]; simp)
    intro j hj hji
    have : (insT t l)[j] = l[j]'(by omega) := by
      simp only [ei]
      rw [List.getElem_append_left (by omega)]
      simp
    rw [this]
    exact pt_none h2 _ (List.getElem_mem _)
  refine ⟨?_, by rw [hp]; rfl, ?_, hlen⟩
  · unfold findT
    rw [hp]
    show tAt _ i = t
    rw [tAt_get (by omega)]
    exact hg _
  · unfold bustL
    rw [hp]
    show (insT t l).take i ++ (insT t l).drop (i + 1) = l
    rw [ei, List.take_append, List.drop_append, ht]
    simp [List.take_take, List.drop_eq_nil_of_le, ht]
def isAcc (m n : ByteArray) (t : Trd) : Bool := (MM.eq t.bm m && MM.eq t.bn n) || (MM.eq t.sm m && MM.eq t.sn n)
def ofL (l : List Trd) (m n : ByteArray) : List Trd := l.filter (isAcc m n)
def sameS (x y : EM.Ser) : Bool := (x.prod.toList == y.prod.toList) && ((x.kind == y.kind) && ((x.expiry == y.expiry) && (x.strike == y.strike)))
def lotOf (s : EM.Ser) (t : Trd) : Int := if (sameS t.ser s && (decide (1 ≤ t.qty) && decide (t.qty ≤ 1048576))) = true then t.qty else 0
def vol (s : EM.Ser) : List Trd → Int
  | [] => 0
  | t :: r => lotOf s t + vol s r
def volume (l : List Trd) (s : EM.Ser) : Int := vol s (l.take 1024)
theorem lot_range (s : EM.Ser) (t : Trd) : 0 ≤ lotOf s t ∧ lotOf s t ≤ 1048576 := by
  unfold lotOf
  split
  · next h =>
    simp only [Bool.and_eq_true, decide_eq_true_eq] at h
    omega
  · omega
theorem vol_range (s : EM.Ser) (l : List Trd) : 0 ≤ vol s l ∧ vol s l ≤ 1048576 * l.length := by
  induction l with
  | nil => simp [vol]
  | cons t r ih =>
    have := lot_range s t
    unfold vol
    rw [List.length_cons]
    omega
theorem vol_snoc (s : EM.Ser) (l : List Trd) (t : Trd) : vol s (l ++ [t]) = vol s l + lotOf s t := by
  induction l with
  | nil => simp [vol]
  | cons a r ih => simp only [List.cons_append, vol, ih]; omega
end TM
