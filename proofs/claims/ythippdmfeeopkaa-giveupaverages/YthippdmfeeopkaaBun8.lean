/- Put together: CentsC, CentsD, GivF, GivMath2, GivG, CentsE, CentsF, SumMath2. -/
import Derived.Test.YthippdmfeeopkaaBun4
import Derived.Test.YthippdmfeeopkaaBun7
import Derived.Test.YthippdmfeeopkaaBun2
import Derived.Deep.RegionHeld3
import Derived.Test.YthippdmfeeopkaaBun3
import Derived.Test.YthippdmfeeopkaaBun1
namespace Go.Proofs.Ythippdmfeeopkaa
open Go.RowKit
set_option maxHeartbeats 400000 in
theorem rounding_any (q r d : Int) (n : Bool) (w : World) :
    Calls Try.prog 116 #[.int .i64 q, .int .i64 r, .int .i64 d, .bool n] w fun e w' =>
      e = .returned (.func (.func 140) #[] #[.pointer (some ⟨w.heap.size + 1, 0, none⟩), .pointer (some ⟨w.heap.size + 1 + 1 + 1, 0, none⟩), .pointer (some ⟨w.heap.size + 1 + 1, 0, none⟩), .pointer (some ⟨w.heap.size, 0, none⟩)]) ∧
      w' = (((w.alloc (.cells #[.int .i64 q] 3)).alloc (.cells #[.int .i64 r] 3)).alloc (.cells #[.int .i64 d] 3)).alloc (.cells #[.bool n] 4) := by
  go_enter Try.func116, Try.ntmps116
  go_wp2
  go_ret
  exact ⟨rfl, rfl⟩

set_option maxHeartbeats 1000000 in
theorem grow_any (mode q r d : Int) (n : Bool) (p1 p2 p3 p4 : Addr) (w : World) (hm1 : 1 ≤ mode) (hm5 : mode ≤ 5)
    (h1 : w.cell? p1 = some (.int .i64 r)) (h2 : w.cell? p2 = some (.bool n)) (h3 : w.cell? p3 = some (.int .i64 d)) (h4 : w.cell? p4 = some (.int .i64 q))
    (hr0 : 0 ≤ r) (hr : r < d) (hd : d ≤ 1152921504606846976) (hq : 0 ≤ q) (hq1 : q ≤ 1152921504606846976) :
    Calls Try.prog 140 #[.int .i64 mode, .pointer (some p1), .pointer (some p2), .pointer (some p3), .pointer (some p4)] w fun e w' =>
      e = .returned (.bool (CM.grow q r d mode n)) ∧ w = w' := by
  by_cases hz : r = 0
  · subst hz
    have hg : CM.grow q 0 d mode n = false := by simp [CM.grow]
    rw [hg]; clear hg
    go_enter Try.func140, Try.ntmps140
    go_wp2
    go_ret
    exact ⟨rfl, rfl⟩
  · have hz' : (r == 0) = false := by simpa using hz
    have hm : mode = 1 ∨ mode = 2 ∨ mode = 3 ∨ mode = 4 ∨ mode = 5 := by omega
    rcases hm with rfl | rfl | rfl | rfl | rfl
    · have hg : CM.grow q r d 1 n = false := by simp [CM.grow]
      rw [hg]; clear hg hz
      go_enter Try.func140, Try.ntmps140
      go_wp2
      go_ret
      exact ⟨rfl, rfl⟩
    · have hg : CM.grow q r d 2 n = true := by simp [CM.grow, hz]
      rw [hg]; clear hg hz
      go_enter Try.func140, Try.ntmps140
      go_wp2
      go_ret
      exact ⟨rfl, rfl⟩
    · have hg : CM.grow q r d 3 n = n := by simp [CM.grow, hz]
      rw [hg]; clear hg hz
      go_enter Try.func140, Try.ntmps140
      go_wp2
      go_ret
      exact ⟨rfl, rfl⟩
    · have hg : CM.grow q r d 4 n = !n := by simp [CM.grow, hz]
      rw [hg]; clear hg hz
      go_enter Try.func140, Try.ntmps140
      go_wp2
      go_ret
      exact ⟨rfl, rfl⟩
    · by_cases g1 : d < 2 * r
      · have hg : CM.grow q r d 5 n = true := by simp [CM.grow, hz, g1]
        rw [hg]; clear hg hz
        go_enter Try.func140, Try.ntmps140
        go_wp2
        go_ret
        exact ⟨rfl, rfl⟩
      · by_cases g2 : 2 * r = d
        · subst g2
          cases g3 : decide (q % 2 = 1)
          · have hg : CM.grow q r (2 * r) 5 n = false := by simpa [CM.grow, hz] using g3
            rw [hg]; clear hg hz
            have g3' : (q % 2 == 1) = false := by simpa using g3
            clear g3
            go_enter Try.func140, Try.ntmps140
            go_wp2
            go_ret
            exact ⟨rfl, rfl⟩
          · have hg : CM.grow q r (2 * r) 5 n = true := by simpa [CM.grow, hz] using g3
            rw [hg]; clear hg hz
            have g3' : (q % 2 == 1) = true := by simpa using g3
            clear g3
            go_enter Try.func140, Try.ntmps140
            go_wp2
            go_ret
            exact ⟨rfl, rfl⟩
        · have hg : CM.grow q r d 5 n = false := by simp [CM.grow, hz, g1, g2]
          rw [hg]; clear hg hz
          have g2' : (2 * r == d) = false := by simpa using g2
          clear g2
          go_enter Try.func140, Try.ntmps140
          go_wp2
          go_ret
          exact ⟨rfl, rfl⟩

theorem cell_fresh (v : World) (q : Int) : (v.alloc (.cells #[.int .i64 q] 3)).cell? ⟨v.heap.size, 0, none⟩ = some (.int .i64 q) := by go_simp

theorem grow_new (mode q r d : Int) (n : Bool) (w : World) (k : Nat) (hm1 : 1 ≤ mode) (hm5 : mode ≤ 5)
    (hr0 : 0 ≤ r) (hr : r < d) (hd : d ≤ 1152921504606846976) (hq : 0 ≤ q) (hq1 : q ≤ 1152921504606846976) :
    Calls Try.prog 140 #[.int .i64 mode, .pointer (some ⟨w.heap.size + 1, 0, none⟩), .pointer (some ⟨w.heap.size + 1 + 1 + 1, 0, none⟩), .pointer (some ⟨w.heap.size + 1 + 1, 0, none⟩), .pointer (some ⟨w.heap.size, 0, none⟩)]
      (((((w.drewN k).alloc (.cells #[.int .i64 q] 3)).alloc (.cells #[.int .i64 r] 3)).alloc (.cells #[.int .i64 d] 3)).alloc (.cells #[.bool n] 4)) fun e w' =>
      e = .returned (.bool (CM.grow q r d mode n)) ∧ ((((w.drewN k).alloc (.cells #[.int .i64 q] 3)).alloc (.cells #[.int .i64 r] 3)).alloc (.cells #[.int .i64 d] 3)).alloc (.cells #[.bool n] 4) = w' :=
  grow_any mode q r d n _ _ _ _ _ hm1 hm5 (by go_simp) (by go_simp) (by go_simp) (by go_simp; exact cell_fresh (w.drewN k) q) hr0 hr hd hq hq1

theorem muldiv_arg (a b c mode : Int) (w : World) (h : CM.mdA a b c mode = false) :
    Calls Try.prog 63 #[.int .i64 a, .int .i64 b, .int .i64 c, .int .i64 mode] w fun e w' => e = .returned (.tuple #[.int .i64 0, .int .i64 2]) ∧ w = w' := by
  cases ha : CM.fits a
  · clear h
    go_enter Try.func63, Try.ntmps63
    go_wp2_with (go_at_call 113; refine (fits_any _ _).mono ?_; rintro e w' ⟨rfl, rfl⟩)
    go_ret2
    exact ⟨rfl, rfl⟩
  · cases hb : CM.fits b
    · clear h
      go_enter Try.func63, Try.ntmps63
      go_wp2_with (go_at_call 113; refine (fits_any _ _).mono ?_; rintro e w' ⟨rfl, rfl⟩)
      go_ret2
      exact ⟨rfl, rfl⟩
    · cases hc : CM.fits c
      · clear h
        go_enter Try.func63, Try.ntmps63
        go_wp2_with (go_at_call 113; refine (fits_any _ _).mono ?_; rintro e w' ⟨rfl, rfl⟩)
        go_ret2
        exact ⟨rfl, rfl⟩
      · simp [CM.mdA, ha, hb, hc] at h
        by_cases hm : mode < 1
        · clear h
          go_enter Try.func63, Try.ntmps63
          go_wp2_with (go_at_call 113; refine (fits_any _ _).mono ?_; rintro e w' ⟨rfl, rfl⟩)
          go_ret2
          exact ⟨rfl, rfl⟩
        · have hm5 : 5 < mode := by omega
          clear h
          go_enter Try.func63, Try.ntmps63
          go_wp2_with (go_at_call 113; refine (fits_any _ _).mono ?_; rintro e w' ⟨rfl, rfl⟩)
          go_ret2
          exact ⟨rfl, rfl⟩

theorem mdA_parts {a b c mode : Int} (h : CM.mdA a b c mode = true) : CM.fits a = true ∧ CM.fits b = true ∧ CM.fits c = true ∧ 1 ≤ mode ∧ mode ≤ 5 := by
  simp [CM.mdA] at h
  obtain ⟨⟨⟨⟨h1, h2⟩, h3⟩, h4⟩, h5⟩ := h
  exact ⟨h1, h2, h3, h4, h5⟩

theorem muldiv_zero (a b mode : Int) (w : World) (h : CM.mdA a b 0 mode = true) :
    Calls Try.prog 63 #[.int .i64 a, .int .i64 b, .int .i64 0, .int .i64 mode] w fun e w' => e = .returned (.tuple #[.int .i64 0, .int .i64 4]) ∧ w = w' := by
  obtain ⟨ha, hb, hc, h1, h5⟩ := mdA_parts h
  clear h
  go_enter Try.func63, Try.ntmps63
  go_wp2_with (go_at_call 113; refine (fits_any _ _).mono ?_; rintro e w' ⟨rfl, rfl⟩)
  go_ret2
  exact ⟨rfl, rfl⟩

set_option maxHeartbeats 400000 in
theorem muldiv_over (a b c mode : Int) (w : World) (h : CM.mdA a b c mode = true) (hc0 : (c == 0) = false)
    (hk : CM.dok (CM.size a).toNat (CM.size b).toNat (CM.size c).toNat = false) :
    Calls Try.prog 63 #[.int .i64 a, .int .i64 b, .int .i64 c, .int .i64 mode] w fun e w' => e = .returned (.tuple #[.int .i64 0, .int .i64 3]) ∧ ∃ n, w' = w.drewN n := by
  obtain ⟨ha, hb, hc, hm1, hm5⟩ := mdA_parts h
  clear h
  obtain ⟨a1, a2⟩ := CM.fits_true.1 ha
  obtain ⟨b1, b2⟩ := CM.fits_true.1 hb
  obtain ⟨c1, c2⟩ := CM.fits_true.1 hc
  have sa0 := CM.size_nonneg a
  have sa1 := CM.size_le a1 a2
  have sb0 := CM.size_nonneg b
  have sb1 := CM.size_le b1 b2
  have sc0 : 0 < CM.size c := CM.size_pos (by simpa using hc0)
  have sc1 := CM.size_le c1 c2
  go_enter Try.func63, Try.ntmps63
  go_wp2_with (first
    | (go_at_call 113; refine (fits_any _ _).mono ?_; rintro e w' ⟨rfl, rfl⟩)
    | (go_at_call 115; refine (size_any _ _ (by assumption) (by assumption)).mono ?_; rintro e w' ⟨rfl, rfl⟩)
    | (go_at_call 114; refine (divide_int _ _ _ _ (by assumption) (by assumption) (by assumption) (by assumption) (by assumption) (by assumption)).mono ?_; rintro e w' ⟨rfl, n, rfl⟩))
  go_ret2
  exact ⟨rfl, _, rfl⟩

set_option maxHeartbeats 1000000 in
theorem muldiv_in (a b c mode : Int) (w : World) (h : CM.mdA a b c mode = true) (hc0 : (c == 0) = false)
    (hk : CM.dok (CM.size a).toNat (CM.size b).toNat (CM.size c).toNat = true) :
    Calls Try.prog 63 #[.int .i64 a, .int .i64 b, .int .i64 c, .int .i64 mode] w fun e w' => e = .returned (.tuple #[.int .i64 (CM.mdN a b c mode), .int .i64 (CM.mdE a b c mode)]) ∧ Below w.heap.size w w' := by
  have hcn : c ≠ 0 := by simpa using hc0
  have HF := Lib.hid (fun g => @CM.md_fit a b c mode g h hcn)
  obtain ⟨ha, hb, hc, hm1, hm5⟩ := mdA_parts h
  clear h
  obtain ⟨a1, a2⟩ := CM.fits_true.1 ha
  obtain ⟨b1, b2⟩ := CM.fits_true.1 hb
  obtain ⟨c1, c2⟩ := CM.fits_true.1 hc
  have sa0 := CM.size_nonneg a
  have sa1 := CM.size_le a1 a2
  have sb0 := CM.size_nonneg b
  have sb1 := CM.size_le b1 b2
  have sc0 : 0 < CM.size c := CM.size_pos hcn
  have sc1 := CM.size_le c1 c2
  obtain ⟨e1, e2⟩ := CM.dq_eq hk
  have r1 := CM.mdR_lt a b hcn
  have r0 : (0 : Int) ≤ CM.mdR a b c := Int.natCast_nonneg _
  have q0 := CM.mdQ_nonneg a b c
  have q1 := CM.dok_iff.1 hk
  clear hcn
  have hneg : (!((!(decide (a < 0) == decide (b < 0))) == decide (c < 0))) = CM.neg a b c := rfl
  cases hg : CM.grow (CM.mdQ a b c) (CM.mdR a b c) (CM.size c) mode (CM.neg a b c)
  all_goals
    cases hn : CM.neg a b c
    all_goals
      rw [hn] at hg
      have HG : Hid (CM.mdG a b c mode = _) := Lib.hid (show CM.mdG a b c mode = CM.mdQ a b c + _ from by unfold CM.mdG; rw [hn, hg])
      simp only [if_true, if_false, Bool.false_eq_true] at HG
      have HN := Lib.hid hn
      rw [hn] at hneg
      clear hn
      go_enter Try.func63, Try.ntmps63
      go_wp2_with (first
        | (go_at_call 113; refine (fits_any _ _).mono ?_; rintro e w' ⟨rfl, rfl⟩)
        | (go_at_call 115; refine (size_any _ _ (by assumption) (by assumption)).mono ?_; rintro e w' ⟨rfl, rfl⟩)
        | (go_at_call 114; refine (divide_int _ _ _ _ (by assumption) (by assumption) (by assumption) (by assumption) (by assumption) (by assumption)).mono ?_; rintro e w' ⟨rfl, n, rfl⟩)
        | (go_at_call 116; refine (rounding_any _ _ _ _ _).mono ?_; rintro e w' ⟨rfl, rfl⟩)
        | (go_at_call 140; refine (grow_new _ _ _ _ _ _ _ (by assumption) (by assumption) (by assumption) (by assumption) (by assumption) (by assumption) (by assumption)).mono ?_; rintro e w' ⟨rfl, rfl⟩)
        | (go_at_call 117; refine (fitting_any _ _).mono ?_; rintro e w' ⟨rfl, rfl⟩))
      go_ret2
      refine ⟨?_, ?_⟩
      · obtain ⟨f1, f2⟩ := HF.out _ rfl
        rw [HN.out, HG.out] at f1 f2
        simp only [if_true, if_false, Bool.false_eq_true, Int.add_zero] at f1 f2
        rw [← f1, ← f2]; rfl
      · exact ((((below_drewN (Below.refl _ _) n).alloc (Nat.le_refl _) _).alloc (by simp) _).alloc (by simp <;> omega) _).alloc (by simp <;> omega) _

theorem muldiv_any (a b c mode : Int) (w : World) :
    Calls Try.prog 63 #[.int .i64 a, .int .i64 b, .int .i64 c, .int .i64 mode] w fun e w' => e = .returned (.tuple #[.int .i64 (CM.mdN a b c mode), .int .i64 (CM.mdE a b c mode)]) ∧ Below w.heap.size w w' := by
  cases h : CM.mdA a b c mode
  · have e1 : CM.mdN a b c mode = 0 := by simp [CM.mdN, h]
    have e2 : CM.mdE a b c mode = 2 := by simp [CM.mdE, h]
    rw [e1, e2]
    exact (muldiv_arg a b c mode w h).mono fun _ _ ⟨he, hw⟩ => ⟨he, by subst hw; exact Below.refl _ _⟩
  · by_cases hc : c = 0
    · subst hc
      have e1 : CM.mdN a b 0 mode = 0 := by simp [CM.mdN]
      have e2 : CM.mdE a b 0 mode = 4 := by simp [CM.mdE, h]
      rw [e1, e2]
      exact (muldiv_zero a b mode w h).mono fun _ _ ⟨he, hw⟩ => ⟨he, by subst hw; exact Below.refl _ _⟩
    · cases hk : CM.dok (CM.size a).toNat (CM.size b).toNat (CM.size c).toNat
      · obtain ⟨e1, e2⟩ := CM.md_over h hc (by
          have := (not_congr (@CM.dok_iff a b c)).1 (by rw [hk]; simp)
          omega)
        rw [e1, e2]
        exact (muldiv_over a b c mode w h (by simpa using hc) hk).mono fun _ _ ⟨he, n, hw⟩ => ⟨he, by subst hw; exact below_drewN (Below.refl _ _) n⟩
      · exact muldiv_in a b c mode w h (by simpa using hc) hk
end Go.Proofs.Ythippdmfeeopkaa

namespace Go.Proofs.Ythippdmfeeopkaa
open Go.RowKit
end Go.Proofs.Ythippdmfeeopkaa

/- Contracts of layer 14: Average. -/
namespace Go.Proofs.Ythippdmfeeopkaa
open Go.RowKit Go.Recs
set_option linter.unusedVariables false
set_option linter.unusedSimpArgs false
set_option maxHeartbeats 8000000 in
set_option maxRecDepth 100000 in
theorem pfirst_any (A : Option Addr) (l : List TM.Trd) (cap g : Nat) (tick : Int) (w : World) (hI : Trds w A l) (hg : CB w g 118 #[.func (.func 108) #[.agg #[.slice A l.length cap, .int .i64 tick]] #[], .func (.func 109) #[.agg #[.slice A l.length cap, .int .i64 tick]] #[], .func (.func 110) #[.agg #[.slice A l.length cap, .int .i64 tick]] #[], .func (.func 111) #[.agg #[.slice A l.length cap, .int .i64 tick]] #[], .func (.func 112) #[.agg #[.slice A l.length cap, .int .i64 tick]] #[]]) :
    Calls Try.prog 103 #[.slice (some ⟨g, 0, none⟩) 5 5] w fun e w' => e = .returned (.int .i64 (GM.poolE l tick)) ∧ Below w.heap.size w w' := by
  have HI := Lib.hid hI
  have HG := Lib.hid hg
  have hgl := hg.lt
  have C0 := Lib.hid (fun ww => pticks_any A l l.length cap tick rfl ww)
  have C1 := Lib.hid (fun ww => pcount_any A l l.length cap tick rfl ww)
  have C2 := Lib.hid (fun ww h => pone_any A l l.length cap tick rfl ww h)
  have C3 := Lib.hid (fun ww h => psizes_any A l l.length cap tick rfl ww h)
  have C4 := Lib.hid (fun ww h => pprices_any A l l.length cap tick rfl ww h)
  have KR : Hid (GM.poolE l tick = GM.orE [GM.tickE tick, GM.countE l.length, GM.oneE l, GM.lotsE l, GM.priceE l]) := Lib.hid rfl
  generalize GM.poolE l tick = r at *
  generalize GM.tickE tick = e0 at *
  generalize GM.countE l.length = e1 at *
  generalize GM.oneE l = e2 at *
  generalize GM.lotsE l = e3 at *
  generalize GM.priceE l = e4 at *
  clear hI hg
  go_enter Try.func103, Try.ntmps103
  go_wp2_with fail
  go_loopw [4, 5, 8] (fun _ _ i wr => Hid (Below w.heap.size w wr) ∧ (i = .int .i64 0 ∨ (i = .int .i64 1 ∧ Hid (e0 = 0)) ∨ (i = .int .i64 2 ∧ Hid (e0 = 0 ∧ e1 = 0)) ∨ (i = .int .i64 3 ∧ Hid (e0 = 0 ∧ e1 = 0 ∧ e2 = 0)) ∨ (i = .int .i64 4 ∧ Hid (e0 = 0 ∧ e1 = 0 ∧ e2 = 0 ∧ e3 = 0)) ∨ (i = .int .i64 5 ∧ Hid (e0 = 0 ∧ e1 = 0 ∧ e2 = 0 ∧ e3 = 0 ∧ e4 = 0)))) (fun _ _ i _ => 5 - (intOf i).toNat)
  case atStart => exact ⟨Lib.hid (Below.refl _ _), .inl rfl⟩
  case round =>
    obtain ⟨HB, hr⟩ := hrel
    have HGr := Lib.hid (HG.out.below HB.out hgl)
    have HIr := Lib.hid (HI.out.below HB.out)
    rcases hr with rfl | ⟨rfl, hz⟩ | ⟨rfl, hz⟩ | ⟨rfl, hz⟩ | ⟨rfl, hz⟩ | ⟨rfl, hz⟩
    · have c0 : wr.cell? ⟨g, 0, none⟩ = some (.func (.func 108) #[.agg #[.slice A l.length cap, .int .i64 tick]] #[]) := HGr.out.cell 0
      by_cases h0 : e0 = 0
      · have HE0 := Lib.hid h0
        have C9 := Lib.hid (C0.out wr)
        rw [h0] at C9
        have HZ : Hid (e0 = 0) := HE0
        clear h0
        go_wp2_with fail
        refine C9.out.mono ?_
        rintro e w1 ⟨rfl, b1⟩
        have HB1 := Lib.hid (HB.out.trans (b1.mono HB.out.size))
        clear b1
        go_wp2_with fail
        go_roundw
        case rel => exact ⟨HB1, .inr (.inl ⟨by go_num, HZ⟩)⟩
        case measure => simp [intOf]
      · have HR : Hid (r = e0) := Lib.hid (by rw [KR.out, or0 h0])
        have C9 := Lib.hid (C0.out wr)
        have hne : (e0 != 0) = true := by simpa using h0
        clear h0
        go_wp2_with fail
        refine C9.out.mono ?_
        rintro e w1 ⟨rfl, b1⟩
        have HB1 := Lib.hid (HB.out.trans (b1.mono HB.out.size))
        clear b1
        go_wp2_with fail
        go_ret
        exact ⟨by rw [HR.out] <;> rfl, HB1.out⟩
    · have c0 : wr.cell? ⟨g, 1, none⟩ = some (.func (.func 109) #[.agg #[.slice A l.length cap, .int .i64 tick]] #[]) := HGr.out.cell 1
      by_cases h0 : e1 = 0
      · have HE0 := Lib.hid h0
        have C9 := Lib.hid (C1.out wr)
        rw [h0] at C9
        have HZ : Hid (e0 = 0 ∧ e1 = 0) := Lib.hid ⟨hz.out, HE0.out⟩
        clear h0
        go_wp2_with fail
        refine C9.out.mono ?_
        rintro e w1 ⟨rfl, b1⟩
        have HB1 := Lib.hid (HB.out.trans (b1.mono HB.out.size))
        clear b1
        go_wp2_with fail
        go_roundw
        case rel => exact ⟨HB1, .inr (.inr (.inl ⟨by go_num, HZ⟩))⟩
        case measure => simp [intOf]
      · have HR : Hid (r = e1) := Lib.hid (by rw [KR.out, orS hz.out, or0 h0])
        have C9 := Lib.hid (C1.out wr)
        have hne : (e1 != 0) = true := by simpa using h0
        clear h0
        go_wp2_with fail
        refine C9.out.mono ?_
        rintro e w1 ⟨rfl, b1⟩
        have HB1 := Lib.hid (HB.out.trans (b1.mono HB.out.size))
        clear b1
        go_wp2_with fail
        go_ret
        exact ⟨by rw [HR.out] <;> rfl, HB1.out⟩
    · have c0 : wr.cell? ⟨g, 2, none⟩ = some (.func (.func 110) #[.agg #[.slice A l.length cap, .int .i64 tick]] #[]) := HGr.out.cell 2
      by_cases h0 : e2 = 0
      · have HE0 := Lib.hid h0
        have C9 := Lib.hid (C2.out wr HIr.out)
        rw [h0] at C9
        have HZ : Hid (e0 = 0 ∧ e1 = 0 ∧ e2 = 0) := Lib.hid ⟨hz.out.1, hz.out.2, HE0.out⟩
        clear h0
        go_wp2_with fail
        refine C9.out.mono ?_
        rintro e w1 ⟨rfl, b1⟩
        have HB1 := Lib.hid (HB.out.trans (b1.mono HB.out.size))
        clear b1
        go_wp2_with fail
        go_roundw
        case rel => exact ⟨HB1, .inr (.inr (.inr (.inl ⟨by go_num, HZ⟩)))⟩
        case measure => simp [intOf]
      · have HR : Hid (r = e2) := Lib.hid (by rw [KR.out, orS hz.out.1, orS hz.out.2, or0 h0])
        have C9 := Lib.hid (C2.out wr HIr.out)
        have hne : (e2 != 0) = true := by simpa using h0
        clear h0
        go_wp2_with fail
        refine C9.out.mono ?_
        rintro e w1 ⟨rfl, b1⟩
        have HB1 := Lib.hid (HB.out.trans (b1.mono HB.out.size))
        clear b1
        go_wp2_with fail
        go_ret
        exact ⟨by rw [HR.out] <;> rfl, HB1.out⟩
    · have c0 : wr.cell? ⟨g, 3, none⟩ = some (.func (.func 111) #[.agg #[.slice A l.length cap, .int .i64 tick]] #[]) := HGr.out.cell 3
      by_cases h0 : e3 = 0
      · have HE0 := Lib.hid h0
        have C9 := Lib.hid (C3.out wr HIr.out)
        rw [h0] at C9
        have HZ : Hid (e0 = 0 ∧ e1 = 0 ∧ e2 = 0 ∧ e3 = 0) := Lib.hid ⟨hz.out.1, hz.out.2.1, hz.out.2.2, HE0.out⟩
        clear h0
        go_wp2_with fail
        refine C9.out.mono ?_
        rintro e w1 ⟨rfl, b1⟩
        have HB1 := Lib.hid (HB.out.trans (b1.mono HB.out.size))
        clear b1
        go_wp2_with fail
        go_roundw
        case rel => exact ⟨HB1, .inr (.inr (.inr (.inr (.inl ⟨by go_num, HZ⟩))))⟩
        case measure => simp [intOf]
      · have HR : Hid (r = e3) := Lib.hid (by rw [KR.out, orS hz.out.1, orS hz.out.2.1, orS hz.out.2.2, or0 h0])
        have C9 := Lib.hid (C3.out wr HIr.out)
        have hne : (e3 != 0) = true := by simpa using h0
        clear h0
        go_wp2_with fail
        refine C9.out.mono ?_
        rintro e w1 ⟨rfl, b1⟩
        have HB1 := Lib.hid (HB.out.trans (b1.mono HB.out.size))
        clear b1
        go_wp2_with fail
        go_ret
        exact ⟨by rw [HR.out] <;> rfl, HB1.out⟩
    · have c0 : wr.cell? ⟨g, 4, none⟩ = some (.func (.func 112) #[.agg #[.slice A l.length cap, .int .i64 tick]] #[]) := HGr.out.cell 4
      by_cases h0 : e4 = 0
      · have HE0 := Lib.hid h0
        have C9 := Lib.hid (C4.out wr HIr.out)
        rw [h0] at C9
        have HZ : Hid (e0 = 0 ∧ e1 = 0 ∧ e2 = 0 ∧ e3 = 0 ∧ e4 = 0) := Lib.hid ⟨hz.out.1, hz.out.2.1, hz.out.2.2.1, hz.out.2.2.2, HE0.out⟩
        clear h0
        go_wp2_with fail
        refine C9.out.mono ?_
        rintro e w1 ⟨rfl, b1⟩
        have HB1 := Lib.hid (HB.out.trans (b1.mono HB.out.size))
        clear b1
        go_wp2_with fail
        go_roundw
        case rel => exact ⟨HB1, .inr (.inr (.inr (.inr (.inr (⟨by go_num, HZ⟩)))))⟩
        case measure => simp [intOf]
      · have HR : Hid (r = e4) := Lib.hid (by rw [KR.out, orS hz.out.1, orS hz.out.2.1, orS hz.out.2.2.1, orS hz.out.2.2.2, or0 h0])
        have C9 := Lib.hid (C4.out wr HIr.out)
        have hne : (e4 != 0) = true := by simpa using h0
        clear h0
        go_wp2_with fail
        refine C9.out.mono ?_
        rintro e w1 ⟨rfl, b1⟩
        have HB1 := Lib.hid (HB.out.trans (b1.mono HB.out.size))
        clear b1
        go_wp2_with fail
        go_ret
        exact ⟨by rw [HR.out] <;> rfl, HB1.out⟩
    · have HR : Hid (r = 0) := Lib.hid (by rw [KR.out, orS hz.out.1, orS hz.out.2.1, orS hz.out.2.2.1, orS hz.out.2.2.2.1, orS hz.out.2.2.2.2]; rfl)
      go_wp2_with fail
      go_ret
      exact ⟨by rw [HR.out] <;> rfl, HB.out⟩

set_option maxHeartbeats 4000000 in
set_option maxRecDepth 100000 in
theorem pcheck_any (A : Option Addr) (l : List TM.Trd) (n cap : Nat) (tick : Int) (hn : n = l.length) (w : World) (hI : Trds w A l) :
    Calls Try.prog 60 #[.agg #[.slice A n cap, .int .i64 tick]] w fun e w' => e = .returned (.int .i64 (GM.poolE l tick)) ∧ Below w.heap.size w w' := by
  subst hn
  have hmf : ∀ (fn : Fn) (first cap : Array Value) (w : World), (Instr.makeFunc fn first cap).run Try.prog w = .ok (.func fn first cap) w := fun _ _ _ _ => rfl
  have HB0 := Lib.hid (below_al (below_al (Below.refl w.heap.size w) (.cells #[.slice A l.length cap, .int .i64 tick] 121)) (.cells #[.func (.func 108) #[.agg #[.slice A l.length cap, .int .i64 tick]] #[], .func (.func 109) #[.agg #[.slice A l.length cap, .int .i64 tick]] #[], .func (.func 110) #[.agg #[.slice A l.length cap, .int .i64 tick]] #[], .func (.func 111) #[.agg #[.slice A l.length cap, .int .i64 tick]] #[], .func (.func 112) #[.agg #[.slice A l.length cap, .int .i64 tick]] #[]] 118))
  have HG : Hid (CB ((w.alloc (.cells #[.slice A l.length cap, .int .i64 tick] 121)).alloc (.cells #[.func (.func 108) #[.agg #[.slice A l.length cap, .int .i64 tick]] #[], .func (.func 109) #[.agg #[.slice A l.length cap, .int .i64 tick]] #[], .func (.func 110) #[.agg #[.slice A l.length cap, .int .i64 tick]] #[], .func (.func 111) #[.agg #[.slice A l.length cap, .int .i64 tick]] #[], .func (.func 112) #[.agg #[.slice A l.length cap, .int .i64 tick]] #[]] 118)) (w.heap.size + 1) 118 #[.func (.func 108) #[.agg #[.slice A l.length cap, .int .i64 tick]] #[], .func (.func 109) #[.agg #[.slice A l.length cap, .int .i64 tick]] #[], .func (.func 110) #[.agg #[.slice A l.length cap, .int .i64 tick]] #[], .func (.func 111) #[.agg #[.slice A l.length cap, .int .i64 tick]] #[], .func (.func 112) #[.agg #[.slice A l.length cap, .int .i64 tick]] #[]]) := Lib.hid (CB.new1 _ _ _ _)
  have C := Lib.hid (pfirst_any A l cap (w.heap.size + 1) tick _ (hI.below HB0.out) HG.out)
  generalize GM.poolE l tick = r at *
  clear hI HG
  go_enter Try.func60, Try.ntmps60
  go_wp2_with fail
  refine C.out.mono ?_
  rintro e w1 ⟨rfl, b1⟩
  have HB1 := Lib.hid (HB0.out.trans (b1.mono HB0.out.size))
  clear b1
  go_wp2_with fail
  go_ret
  exact ⟨rfl, HB1.out⟩
end Go.Proofs.Ythippdmfeeopkaa

/- Layer 14's mathematics: the average price. -/
namespace GM
theorem grow3 (q r c : Int) (n : Bool) : CM.grow q r c 3 n = if r = 0 then false else n := by unfold CM.grow; simp
theorem md_floor {a c : Int} (ha : -18014398509481984 ≤ a ∧ a ≤ 18014398509481984) (hc : 1 ≤ c ∧ c ≤ 18014398509481984) : CM.mdN a 1 c 3 = a / c := by
  have hA : CM.mdA a 1 c 3 = true := by
    unfold CM.mdA CM.fits
    simp
    omega
  have hc0 : ¬ c = 0 := by omega
  have hsc : (CM.size c).toNat = c.toNat := by unfold CM.size; rw [if_neg (by omega)]
  have hs1 : (CM.size 1).toNat = 1 := rfl
  have hscI : CM.size c = c := by unfold CM.size; rw [if_neg (by omega)]
  have hcn : 0 < c.toNat := by omega
  unfold CM.mdN
  rw [if_pos hA, if_neg hc0]
  rcases Int.lt_or_le a 0 with h | h
  · have hsa : (CM.size a).toNat = (-a).toNat := by unfold CM.size; rw [if_pos h]
    have hn : CM.neg a 1 c = true := by unfold CM.neg; simp; omega
    have hQ : CM.mdQ a 1 c = (-a).toNat / c.toNat := by unfold CM.mdQ; rw [hsa, hs1, hsc, Nat.mul_one]
    have hR : CM.mdR a 1 c = (-a).toNat % c.toNat := by unfold CM.mdR; rw [hsa, hs1, hsc, Nat.mul_one]
    have hG : CM.mdG a 1 c 3 = ((-a).toNat / c.toNat : Nat) + if (-a).toNat % c.toNat = 0 then 0 else 1 := by
      unfold CM.mdG
      rw [hQ, hR, hn, grow3]
      generalize (-a).toNat / c.toNat = Q
      generalize (-a).toNat % c.toNat = R
      by_cases hr : R = 0
      · subst hr; simp
      · have hr' : ¬ (R : Int) = 0 := by omega
        rw [if_neg hr', if_neg hr, if_pos rfl]
    have hdm := Nat.div_add_mod (-a).toNat c.toNat
    have hml := Nat.mod_lt (-a).toNat hcn
    have hql : (-a).toNat / c.toNat ≤ (-a).toNat := Nat.div_le_self _ _
    have hle : CM.mdG a 1 c 3 ≤ 1152921504606846976 := by rw [hG]; split <;> omega
    rw [if_pos hle, hn, if_pos rfl, hG]
    have key : a = -(((-a).toNat / c.toNat : Nat) : Int) * c - (((-a).toNat % c.toNat : Nat) : Int) := by
      have h1 : (((-a).toNat : Nat) : Int) = -a := by omega
      have h2 : ((c.toNat : Nat) : Int) = c := by omega
      have h3 : (((-a).toNat : Nat) : Int) = ((c.toNat : Nat) : Int) * (((-a).toNat / c.toNat : Nat) : Int) + (((-a).toNat % c.toNat : Nat) : Int) := by exact_mod_cast hdm.symm
      rw [h1, h2] at h3
      have h4 : -(((-a).toNat / c.toNat : Nat) : Int) * c = -(c * (((-a).toNat / c.toNat : Nat) : Int)) := by rw [Int.neg_mul, Int.mul_comm]
      rw [h4]; omega
    generalize ((-a).toNat / c.toNat : Nat) = Q at *
    generalize ((-a).toNat % c.toNat : Nat) = R at *
    by_cases hr : R = 0
    · rw [if_pos hr]
      subst hr
      have e : a = c * (-(Q : Int)) := by rw [Int.mul_comm]; omega
      rw [e, Int.mul_ediv_cancel_left _ hc0]
      omega
    · rw [if_neg hr]
      have e : a = (c - (R : Int)) + c * (-(Q : Int) - 1) := by
        rw [Int.mul_sub, Int.mul_comm c (-(Q : Int))]
        omega
      have : a / c = (c - (R : Int)) / c + (-(Q : Int) - 1) := by
        conv => lhs; rw [e]
        exact Int.add_mul_ediv_left _ _ hc0
      rw [this, Int.ediv_eq_zero_of_lt (by omega) (by omega)]
      omega
  · have hsa : (CM.size a).toNat = a.toNat := by unfold CM.size; rw [if_neg (by omega)]
    have hn : CM.neg a 1 c = false := by unfold CM.neg; simp; omega
    have hQ : CM.mdQ a 1 c = a.toNat / c.toNat := by unfold CM.mdQ; rw [hsa, hs1, hsc, Nat.mul_one]
    have hR : CM.mdR a 1 c = a.toNat % c.toNat := by unfold CM.mdR; rw [hsa, hs1, hsc, Nat.mul_one]
    have hG : CM.mdG a 1 c 3 = (a.toNat / c.toNat : Nat) := by
      unfold CM.mdG
      rw [hQ, hR, hn, grow3]
      generalize a.toNat / c.toNat = Q
      generalize a.toNat % c.toNat = R
      by_cases hr : (R : Int) = 0
      · rw [if_pos hr]; simp
      · rw [if_neg hr]; simp
    have hql : a.toNat / c.toNat ≤ a.toNat := Nat.div_le_self _ _
    have hle : CM.mdG a 1 c 3 ≤ 1152921504606846976 := by rw [hG]; omega
    rw [if_pos hle, hn, hG]
    have h1 : ((a.toNat : Nat) : Int) = a := by omega
    have h2 : ((c.toNat : Nat) : Int) = c := by omega
    show ((a.toNat / c.toNat : Nat) : Int) = a / c
    rw [Int.natCast_ediv, h1, h2]
theorem or_zero : ∀ {l : List Int}, orE l = 0 → ∀ e ∈ l, e = 0
  | [], _, e, h => by simp at h
  | x :: r, h0, e, h => by
    have hx : x = 0 := by
      rcases Int.lt_trichotomy x 0 with g | g | g
      · unfold orE at h0; rw [if_neg (by omega)] at h0; exact h0
      · exact g
      · unfold orE at h0; rw [if_neg (by omega)] at h0; exact h0
    rcases List.mem_cons.1 h with h | h
    · rw [h, hx]
    · unfold orE at h0
      rw [if_pos hx] at h0
      exact or_zero h0 e h
def avgK (l : List TM.Trd) (tick : Int) : Int := cost l / (lots l * tick)
def avgP (l : List TM.Trd) (tick : Int) : Int := avgK l tick * tick
def avgR (l : List TM.Trd) (tick : Int) : Int := cost l - lots l * avgP l tick
structure Pooled (l : List TM.Trd) (tick : Int) : Prop where
  each : ∀ t ∈ l, (1 ≤ t.qty ∧ t.qty ≤ 1048576) ∧ -16777216 ≤ t.price ∧ t.price ≤ 16777216
  len : 1 ≤ l.length ∧ l.length ≤ 1024
  tk : 1 ≤ tick ∧ tick ≤ 16777216
theorem pooled {l : List TM.Trd} {tick : Int} (h : poolE l tick = 0) : Pooled l tick := by
  have hz := or_zero h
  have h1 := hz (tickE tick) (by simp)
  have h2 := hz (countE l.length) (by simp)
  have h4 := hz (lotsE l) (by simp)
  have h5 := hz (priceE l) (by simp)
  refine ⟨fun t ht => ⟨?_, ?_⟩, ?_, ?_⟩
  · unfold lotsE at h4
    split at h4
    · rename_i g; exact okQ_iff.1 (List.all_eq_true.1 g t ht)
    · cases h4
  · unfold priceE at h5
    split at h5
    · rename_i g
      have := List.all_eq_true.1 g t ht
      unfold okP at this
      simpa using this
    · cases h5
  · unfold countE at h2
    split at h2
    · assumption
    · cases h2
  · unfold tickE at h1
    split at h1
    · assumption
    · cases h1
theorem lots_bounds {l : List TM.Trd} (h : ∀ t ∈ l, (1 ≤ t.qty ∧ t.qty ≤ 1048576) ∧ -16777216 ≤ t.price ∧ t.price ≤ 16777216) : (l.length : Int) ≤ lots l ∧ lots l ≤ l.length * 1048576 := by
  induction l with
  | nil => simp [lots, LM.tot]
  | cons t l ih =>
    have h1 := h t (by simp)
    have h2 := ih fun y hy => h y (by simp [hy])
    have e : lots (t :: l) = t.qty + lots l := by simp [lots, LM.tot]
    rw [e, List.length_cons]
    omega
/-- the numbers of an average, and their bounds -/
theorem avg_bounds {l : List TM.Trd} {tick : Int} (h : Pooled l tick) (hc : -18014398509481984 ≤ cost l ∧ cost l ≤ 18014398509481984) :
    (1 ≤ lots l ∧ lots l ≤ 1073741824) ∧ (1 ≤ lots l * tick ∧ lots l * tick ≤ 18014398509481984) ∧ (-18014398509481984 ≤ avgK l tick ∧ avgK l tick ≤ 18014398509481984) ∧
    (-36028797018963968 ≤ avgP l tick ∧ avgP l tick ≤ 36028797018963968) ∧ (-36028797018963968 ≤ lots l * avgP l tick ∧ lots l * avgP l tick ≤ 36028797018963968) ∧ 0 ≤ avgR l tick ∧ avgR l tick < lots l * tick := by
  have hl := lots_bounds h.each
  have hn := h.len
  have ht := h.tk
  have hq : 1 ≤ lots l ∧ lots l ≤ 1073741824 := by omega
  have e1 : lots l * avgP l tick = avgK l tick * (lots l * tick) := by unfold avgP; rw [← Int.mul_assoc, Int.mul_comm (lots l) (avgK l tick), Int.mul_assoc]
  have hs1 : 1 ≤ lots l * tick := by
    have : 1 * 1 ≤ lots l * tick := Int.mul_le_mul hq.1 ht.1 (by omega) (by omega)
    omega
  have hs2 : lots l * tick ≤ 18014398509481984 := by
    have : lots l * tick ≤ 1073741824 * 16777216 := Int.mul_le_mul hq.2 ht.2 (by omega) (by omega)
    omega
  have ek : avgK l tick = cost l / (lots l * tick) := rfl
  unfold avgR
  rw [e1]
  generalize avgP l tick = p at *
  generalize lots l * tick = s at *
  have k1 : cost l / s * s ≤ cost l := Int.ediv_mul_le _ (by omega)
  have k2 : cost l < (cost l / s + 1) * s := Int.lt_ediv_add_one_mul_self _ (by omega)
  rw [← ek] at k1 k2
  rw [Int.add_mul, Int.one_mul] at k2
  generalize avgK l tick = k at *
  generalize lots l = q at *
  have b1 : -36028797018963968 ≤ k * s ∧ k * s ≤ 36028797018963968 := by omega
  have b2 : -18014398509481984 ≤ k ∧ k ≤ 18014398509481984 := by
    rcases Int.lt_or_le k 0 with g | g
    · have : (k + 1) * s ≤ k + 1 := by
        have h1 : (k + 1) * s ≤ (k + 1) * 1 := Int.mul_le_mul_of_nonpos_left (by omega) (by omega)
        omega
      rw [Int.add_mul, Int.one_mul] at this
      omega
    · have h1 : k * 1 ≤ k * s := Int.mul_le_mul_of_nonneg_left (by omega) g
      omega
  have b3 : -36028797018963968 ≤ p ∧ p ≤ 36028797018963968 := by
    rw [← e1] at b1
    rcases Int.lt_or_le p 0 with g | g
    · have h1 : q * p ≤ 1 * p := Int.mul_le_mul_of_nonpos_right (by omega) (by omega)
      omega
    · have h1 : 1 * p ≤ q * p := Int.mul_le_mul_of_nonneg_right (by omega) g
      omega
  omega
end GM

/- Contracts of layer 14: Average. -/
namespace Go.Proofs.Ythippdmfeeopkaa
open Go.RowKit Go.Recs
set_option linter.unusedVariables false
set_option linter.unusedSimpArgs false
def aveP (l : List TM.Trd) (tick : Int) : Int := if GM.poolE l tick = 0 then GM.avgP l tick else 0
def aveR (l : List TM.Trd) (tick : Int) : Int := if GM.poolE l tick = 0 then GM.avgR l tick else 0
theorem results_ttt {fn : Func} {a b c : Tmp} (h : fn.results = #[.tmp a, .tmp b, .tmp c]) (tmps : Array Value) (P : Program) (w : World) : (results fn tmps).run P w = .ok (.tuple #[tmps.getD a undef, tmps.getD b undef, tmps.getD c undef]) w := by
  simp only [results, h]
  simp [Sem.run_bind, Result.andThen]
set_option maxHeartbeats 8000000 in
set_option maxRecDepth 100000 in
theorem gaverage_any (A : Option Addr) (l : List TM.Trd) (n cap : Nat) (tick : Int) (hn : n = l.length) (w : World) (hI : Trds w A l) (hi : i64 tick) :
    Calls Try.prog 22 #[.slice A n cap, .int .i64 tick] w fun e w' => e = .returned (.tuple #[.int .i64 (aveP l tick), .int .i64 (aveR l tick), .int .i64 (GM.poolE l tick)]) ∧ Below w.heap.size w w' := by
  subst hn
  have hlen := hI.len
  have HB0 := Lib.hid (below_al (Below.refl w.heap.size w) (.cells #[.slice A l.length cap, .int .i64 tick] 121))
  have HX0 := Lib.hid (CB.new w 121 #[.slice A l.length cap, .int .i64 tick])
  have HI := Lib.hid (hI.below HB0.out)
  have C1 := Lib.hid (fun ww h => pcheck_any A l l.length cap tick rfl ww h)
  clear hI
  by_cases hp : GM.poolE l tick = 0
  · have hP := GM.pooled hp
    have hcb := pcost_any_bound hP.each hP.len.2
    have C2 := Lib.hid (fun ww h => plots_any A l l.length cap tick rfl ww h hP.each hP.len.2)
    have C3 := Lib.hid (fun ww h => pcost_any A l l.length cap tick rfl ww h hP.each hP.len.2)
    obtain ⟨⟨q1, q2⟩, ⟨s1, s2⟩, ⟨k1, k2⟩, ⟨p1, p2⟩, ⟨m1, m2⟩, r1, r2⟩ := GM.avg_bounds hP hcb
    have hmd : CM.mdN (GM.cost l) 1 (GM.lots l * tick) 3 = GM.avgK l tick := GM.md_floor hcb ⟨s1, s2⟩
    have C4 := Lib.hid (fun ww => muldiv_any (GM.cost l) 1 (GM.lots l * tick) 3 ww)
    rw [hmd] at C4
    have e1 : aveP l tick = GM.avgK l tick * tick := by unfold aveP; rw [if_pos hp]; rfl
    have e2 : aveR l tick = GM.cost l - GM.lots l * (GM.avgK l tick * tick) := by unfold aveR; rw [if_pos hp]; rfl
    have ep : GM.avgP l tick = GM.avgK l tick * tick := rfl
    rw [ep] at p1 p2 m1 m2
    rw [e1, e2]
    rw [hp] at C1 ⊢
    obtain ⟨c1, c2⟩ := hcb
    have t1 := hP.tk.1; have t2 := hP.tk.2
    clear hp hP e1 e2 ep hmd r1 r2 hi
    generalize GM.cost l = c at *
    generalize GM.lots l = q at *
    generalize GM.avgK l tick = k at *
    generalize CM.mdE c 1 (q * tick) 3 = me at *
    go_enter Try.func22, Try.ntmps22
    go_wp2_with fail
    generalize w.alloc (.cells #[.slice A l.length cap, .int .i64 tick] 121) = w0 at *
    refine (C1.out _ HI.out).mono ?_
    rintro e w1 ⟨rfl, b1⟩
    have HB1 := Lib.hid (HB0.out.trans (b1.mono HB0.out.size))
    have HI1 := Lib.hid (HI.out.below b1)
    have HX1 := Lib.hid (HX0.out.below b1 HX0.out.lt)
    have hxl := HX1.out.lt
    have HSF : Hid (∀ ww, Below w1.heap.size w1 ww → ww.cell? ⟨w.heap.size, 0, none⟩ = some (.slice A l.length cap) ∧ ww.cell? ⟨w.heap.size, 1, none⟩ = some (.int .i64 tick)) := Lib.hid (fun ww h => ⟨(HX1.out.below h hxl).cell 0, (HX1.out.below h hxl).cell 1⟩)
    have HBw : Hid (Below w1.heap.size w1 w1.drew) := Lib.hid (Below.refl _ _).drew
    clear b1 HB0 HX0 HI C1
    go_wp2_with fail
    go_region_held3 (fun ww => ww.cell? ⟨w.heap.size, 0, none⟩ = some (.slice A l.length cap) ∧ ww.cell? ⟨w.heap.size, 1, none⟩ = some (.int .i64 tick))
      (with_reducible exact HSF.out _ HBw.out)
      (first
        | (go_at_call 61; refine (C2.out _ (HI1.out.below HBw.out)).mono ?_; rintro e w5 ⟨rfl, b5⟩; replace HBw := Lib.hid (HBw.out.trans (b5.mono HBw.out.size)); clear b5)
        | (go_at_call 62; refine (C3.out _ (HI1.out.below HBw.out)).mono ?_; rintro e w5 ⟨rfl, b5⟩; replace HBw := Lib.hid (HBw.out.trans (b5.mono HBw.out.size)); clear b5))
    all_goals (
      have HB5 := Lib.hid (HB1.out.trans (HBw.out.mono HB1.out.size))
      clear HSF HBw HX1
      go_wp2_with fail
      refine (C4.out _).mono ?_
      rintro e w6 ⟨rfl, b6⟩
      have HB6 := Lib.hid (HB5.out.trans (b6.mono HB5.out.size))
      clear b6
      go_wp2_with fail
      (try simp only [Exit.inBlock, Exit.then])
      first | (go_ret3; exact ⟨rfl, HB6.out⟩) | exact bodyPost_ret (results_ttt rfl _ _ _) rfl ⟨rfl, HB6.out⟩)
  · have e1 : aveP l tick = 0 := by unfold aveP; rw [if_neg hp]
    have e2 : aveR l tick = 0 := by unfold aveR; rw [if_neg hp]
    rw [e1, e2]
    have hne : (GM.poolE l tick != 0) = true := by simpa using hp
    generalize GM.poolE l tick = r at *
    clear hp e1 e2
    go_enter Try.func22, Try.ntmps22
    go_wp2_with fail
    refine (C1.out _ HI.out).mono ?_
    rintro e w1 ⟨rfl, b1⟩
    have HB1 := Lib.hid (HB0.out.trans (b1.mono HB0.out.size))
    clear b1
    go_wp2_with fail
    (try simp only [Exit.inBlock, Exit.then])
    first | (go_ret3; exact ⟨rfl, HB1.out⟩) | exact bodyPost_ret (results_ttt rfl _ _ _) rfl ⟨rfl, HB1.out⟩
end Go.Proofs.Ythippdmfeeopkaa

namespace Go.Proofs.Ythippdmfeeopkaa
open Go.RowKit
end Go.Proofs.Ythippdmfeeopkaa

namespace Go.Proofs.Ythippdmfeeopkaa
open Go.RowKit
theorem ints_three (x y z : Int) (w : World) (hx : -9223372036854775808 ≤ x ∧ x ≤ 9223372036854775807) (hy : -9223372036854775808 ≤ y ∧ y ≤ 9223372036854775807) (hz : -9223372036854775808 ≤ z ∧ z ≤ 9223372036854775807) :
    Ints (w.alloc (.cells #[.int .i64 x, .int .i64 y, .int .i64 z] 3)) (some ⟨w.heap.size, 0, none⟩) [x, y, z] := by
  refine ⟨by unfold maxLen; simp, by simp; omega, .inr ⟨_, _, rfl, by simp, fun i hi => ?_⟩⟩
  rw [Nat.zero_add]
  have : i = 0 ∨ i = 1 ∨ i = 2 := by simp at hi; omega
  rcases this with rfl | rfl | rfl <;> simp

end Go.Proofs.Ythippdmfeeopkaa

namespace CM
open LM

/-- what the reference's Sum holds after k rounds -/
def RSInv (l : List Int) (k : Nat) (high low : Int) : Prop :=
  allFit (l.take k) = true ∧ high * 1073741824 + low = tot (l.take k) ∧ -(k * 1073741824 : Int) ≤ high ∧ high ≤ k * 1073741824 ∧ -(k * 1073741824 : Int) ≤ low ∧ low ≤ k * 1073741824

theorem RSInv.start (l : List Int) : RSInv l 0 0 0 := ⟨rfl, rfl, by omega, by omega, by omega, by omega⟩
theorem RSInv.bounds {l : List Int} {k : Nat} {high low : Int} (h : RSInv l k high low) :
    -(k * 1073741824 : Int) ≤ high ∧ high ≤ k * 1073741824 ∧ -(k * 1073741824 : Int) ≤ low ∧ low ≤ k * 1073741824 := h.2.2

theorem tparts (v : Int) (h1 : -1152921504606846976 ≤ v) (h2 : v ≤ 1152921504606846976) :
    -1073741824 ≤ v.tdiv 1073741824 ∧ v.tdiv 1073741824 ≤ 1073741824 ∧ -1073741824 < v.tmod 1073741824 ∧ v.tmod 1073741824 < 1073741824 ∧ v.tdiv 1073741824 * 1073741824 + v.tmod 1073741824 = v := by
  have e := Int.mul_tdiv_add_tmod v 1073741824
  by_cases h0 : 0 ≤ v
  · have a := Int.tdiv_eq_ediv_of_nonneg (b := 1073741824) h0
    have b := Int.tmod_eq_emod_of_nonneg (b := 1073741824) h0
    rw [a, b] at *
    omega
  · have a : v.tdiv 1073741824 = -((-v) / 1073741824) := by
      rw [← Int.tdiv_eq_ediv_of_nonneg (by omega), Int.neg_tdiv]; omega
    have b : v.tmod 1073741824 = -((-v) % 1073741824) := by
      rw [← Int.tmod_eq_emod_of_nonneg (by omega), Int.neg_tmod]; omega
    rw [a, b] at *
    omega

theorem RSInv.step {l : List Int} {k : Nat} {high low : Int} (h : RSInv l k high low) (hk : k < l.length) (hf : fits (l.getD k 0) = true) :
    RSInv l (k + 1) (high + (l.getD k 0).tdiv 1073741824) (low + (l.getD k 0).tmod 1073741824) := by
  obtain ⟨a1, a2, a3, a4, a5, a6⟩ := h
  obtain ⟨f1, f2⟩ := fits_true.1 hf
  obtain ⟨t1, t2, t3, t4, t5⟩ := tparts _ f1 f2
  refine ⟨by rw [allFit_take_succ l k hk, a1, hf]; rfl, by rw [tot_take_succ l k hk, ← a2]; omega, ?_, ?_, ?_, ?_⟩ <;> (push_cast; omega)

/-- what is told at the end -/
theorem RSInv.done {l : List Int} {high low h' l' : Int} (h : RSInv l l.length high low) (hl : l.length ≤ 4294967296)
    (eh : h' = high + low.tdiv 1073741824) (el : l' = low.tmod 1073741824) :
    (h' < -1073741825 ∨ 1073741825 < h' → sumN l = 0 ∧ sumE l = 3) ∧ sumN l = fitN (h' * 1073741824 + l') ∧ sumE l = fitE (h' * 1073741824 + l') ∧
      -1073741824 < l' ∧ l' < 1073741824 ∧ -9223372036854775808 ≤ h' ∧ h' ≤ 9223372036854775807 := by
  obtain ⟨a1, a2, a3, a4, a5, a6⟩ := h
  rw [List.take_length] at a1 a2
  obtain ⟨s1, s2⟩ := sum_yes a1
  have hlow : -9223372036854775808 ≤ low ∧ low ≤ 9223372036854775807 := by omega
  have hb : -8589934592 ≤ low.tdiv 1073741824 ∧ low.tdiv 1073741824 ≤ 8589934592 ∧ -1073741824 < low.tmod 1073741824 ∧ low.tmod 1073741824 < 1073741824 ∧ low.tdiv 1073741824 * 1073741824 + low.tmod 1073741824 = low := by
    have e := Int.mul_tdiv_add_tmod low 1073741824
    by_cases h0 : 0 ≤ low
    · have a := Int.tdiv_eq_ediv_of_nonneg (b := 1073741824) h0
      have b := Int.tmod_eq_emod_of_nonneg (b := 1073741824) h0
      rw [a, b] at *
      omega
    · have a : low.tdiv 1073741824 = -((-low) / 1073741824) := by
        rw [← Int.tdiv_eq_ediv_of_nonneg (by omega), Int.neg_tdiv]; omega
      have b : low.tmod 1073741824 = -((-low) % 1073741824) := by
        rw [← Int.tmod_eq_emod_of_nonneg (by omega), Int.neg_tmod]; omega
      rw [a, b] at *
      omega
  obtain ⟨b1, b2, b3, b4, b5⟩ := hb
  have e : h' * 1073741824 + l' = tot l := by rw [← a2, eh, el]; omega
  rw [s1, s2, e]
  refine ⟨fun hc => ?_, rfl, rfl, by omega, by omega, by omega, by omega⟩
  have : fits (tot l) = false := by rw [fits_false, ← e]; omega
  simp [fitN, fitE, this]
end CM
