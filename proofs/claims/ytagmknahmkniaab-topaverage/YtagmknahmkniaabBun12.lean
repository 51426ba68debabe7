/- Put together: ShareA, ShareB, ShareC, ShareD, GivJ. -/
import Derived.Test.YtagmknahmkniaabBun3
import Derived.Test.YtagmknahmkniaabBun6
import Derived.Laws.BitsAllLaws
import Derived.Laws.BitsLemmas
import Derived.Test.YtagmknahmkniaabBun7
import Derived.Test.YtagmknahmkniaabBun4
import Derived.Deep.DeepCutAuto
import Derived.Deep.RegionWith
import Derived.Test.YtagmknahmkniaabBun11
namespace Go.Proofs.Ytagmknahmkniaab
open Go.RowKit

theorem inrange_any (n : Int) (w : World) : Calls Try.prog 77 #[.int .i64 n] w fun e w' => e = .returned (.bool (SM.inR n)) ∧ w = w' := by
  by_cases h1 : 0 ≤ n
  · by_cases h2 : n ≤ 1152921504606846976
    · have h : SM.inR n = true := SM.inR_true.2 ⟨h1, h2⟩
      rw [h]; clear h
      go_enter Try.func77, Try.ntmps77
      go_wp2
      go_ret
      exact ⟨rfl, rfl⟩
    · have h : SM.inR n = false := SM.inR_false.2 (by omega)
      rw [h]; clear h
      go_enter Try.func77, Try.ntmps77
      go_wp2
      go_ret
      exact ⟨rfl, rfl⟩
  · have h : SM.inR n = false := SM.inR_false.2 (by omega)
    rw [h]; clear h
    go_enter Try.func77, Try.ntmps77
    go_wp2
    go_ret
    exact ⟨rfl, rfl⟩

/-- the error of Fill and Back -/
def rowE (total : Int) (l : List Int) : Int := if SM.inR total && SM.allR l then (if 1024 < l.length then 8 else 0) else 2

set_option maxHeartbeats 1000000 in
theorem sumof_any (A : Option Addr) (zs : List Int) (cap : Nat) (w : World) (hI : Ints w A zs) :
    Calls Try.prog 78 #[.slice A zs.length cap] w fun e w' => e = .returned (.tuple #[.int .i64 (SM.sN zs), .int .i64 (SM.sE zs)]) ∧ w = w' := by
  have hlen := hI.len
  by_cases hlong : 1024 < zs.length
  · have e1 : SM.sN zs = 0 := by simp [SM.sN, hlong]
    have e2 : SM.sE zs = 8 := by simp [SM.sE, hlong]
    rw [e1, e2]; clear e1 e2
    go_enter Try.func78, Try.ntmps78
    go_wp2
    go_ret2
    exact ⟨rfl, rfl⟩
  · have e1 : SM.sN zs = SM.wN zs := by simp [SM.sN, hlong]
    have e2 : SM.sE zs = SM.wE zs := by simp [SM.sE, hlong]
    rw [e1, e2]; clear e1 e2
    go_enter Try.func78, Try.ntmps78
    go_wp2
    go_loop [2, 11] (fun s i => ∃ k : Nat, ∃ x : Int, k ≤ zs.length ∧ i = .int .i64 k ∧ s = .int .i64 x ∧ SM.WInv zs k x) (fun _ i => zs.length - (intOf i).toNat)
    case atStart => exact ⟨0, 0, by omega, rfl, rfl, SM.WInv.start zs⟩
    case round =>
      obtain ⟨k, x, hk, rfl, rfl, hS⟩ := hrel
      obtain ⟨x1, x2⟩ := hS.bounds
      by_cases hlt : k < zs.length
      · obtain ⟨b, off, v, rfl, hb, hcell, HV, v1, v2⟩ := hI.get hlt
        have HI := Lib.hid hI
        clear hI
        cases hf : SM.inR v
        · have HE := Lib.hid (SM.w_no (SM.wOk_no hlt (by rw [HV.out]; exact hf)))
          go_wp2_with (go_at_call 77; refine (inrange_any _ _).mono ?_; rintro e w' ⟨rfl, rfl⟩)
          go_ret2
          exact ⟨by rw [HE.out.1, HE.out.2]; rfl, rfl⟩
        · obtain ⟨g1, g2⟩ := SM.inR_true.1 hf
          by_cases hs : 1152921504606846976 - x < v
          · have HE := Lib.hid (SM.w_no (hS.over hlt HV.out hs))
            go_wp2_with (go_at_call 77; refine (inrange_any _ _).mono ?_; rintro e w' ⟨rfl, rfl⟩)
            go_ret2
            exact ⟨by rw [HE.out.1, HE.out.2]; rfl, rfl⟩
          · have HN := Lib.hid (hS.step hlt HV.out hf (by omega))
            go_wp2_with (go_at_call 77; refine (inrange_any _ _).mono ?_; rintro e w' ⟨rfl, rfl⟩)
            go_round
            case rel => exact ⟨k + 1, _, by omega, by go_num, rfl, HN.out⟩
            case measure => simp [intOf]; omega
      · obtain rfl : k = zs.length := by omega
        obtain ⟨d1, d2⟩ := hS.done
        have HE := Lib.hid (SM.w_yes d1)
        have D2 := Lib.hid d2
        clear d1 d2
        go_wp2
        go_ret2
        exact ⟨by rw [HE.out.1, HE.out.2, ← D2.out]; rfl, rfl⟩

end Go.Proofs.Ytagmknahmkniaab

namespace Go.Proofs.Ytagmknahmkniaab
open Go.RowKit

theorem and_three (t : Nat) (ht : t ≤ 1152921504606846976) : bits BinOp.and IntKind.i64 (t : Int) 3 = ((t % 4 : Nat) : Int) := by
  have h1 : (BitVec.ofInt 64 (t : Int)).toNat = t := by
    rw [BitVec.ofInt_natCast, BitVec.toNat_ofNat]; exact Nat.mod_eq_of_lt (by omega)
  have h2 : (BitVec.ofInt 64 (3 : Int)).toNat = 3 := rfl
  have h3 : t &&& 3 = t % 4 := Nat.and_two_pow_sub_one_eq_mod t 2
  show IntKind.i64.wrap ((BitVec.ofInt 64 (t : Int) &&& BitVec.ofInt 64 (3 : Int)).toNat : Int) = _
  rw [BitVec.toNat_and, h1, h2, h3, IntKind.wrap_i64]
  omega

theorem digit_is (a k : Nat) (ha : a ≤ 1152921504606846976) : bits BinOp.and IntKind.i64 ((a : Int) / 2 ^ (2 * (30 - k))) 3 = SM.digit a k := by
  have e : ((a : Int) / 2 ^ (2 * (30 - k))) = ((a / 4 ^ (30 - k) : Nat) : Int) := by
    rw [Int.natCast_ediv, Int.natCast_pow, Int.pow_mul]; rfl
  rw [e, and_three _ (Nat.le_trans (Nat.div_le_self _ _) ha)]
  rfl

set_option maxHeartbeats 1000000 in
theorem portion_nat (a b c : Nat) (w : World) (ha : a ≤ 1152921504606846976) (hb : b ≤ c) (hc0 : 0 < c) (hc : c ≤ 1152921504606846976) :
    Calls Try.prog 111 #[.int .i64 a, .int .i64 b, .int .i64 c] w fun e w' => e = .returned (.tuple #[.int .i64 (SM.pq a b c), .int .i64 (SM.pr a b c)]) ∧ ∃ n, w' = w.drewN n := by
  go_enter Try.func111, Try.ntmps111
  go_wp2
  go_loopw [6, 7, 11] (fun q r i wr => ∃ k : Nat, ∃ x y : Int, k ≤ 31 ∧ i = .int .i64 k ∧ q = .int .i64 x ∧ r = .int .i64 y ∧ SM.PInv a b c k x y ∧ ∃ n, wr = w.drewN n) (fun _ _ i _ => 31 - (intOf i).toNat)
  case atStart => exact ⟨0, 0, 0, by omega, rfl, rfl, rfl, SM.PInv.start a b c ha, 0, rfl⟩
  case round =>
    obtain ⟨k, x, y, hk, rfl, rfl, rfl, hD, n, rfl⟩ := hrel
    obtain ⟨hx0, hx1, hx2, hy0, hy1⟩ := hD.bounds hc0 hb
    by_cases hlt : k < 31
    · clear hx2
      have hd4 := SM.digit_lt a k
      have ht := digit_is a k ha
      obtain ⟨t, ht2⟩ : ∃ t : Int, (SM.digit a k : Int) = t := ⟨_, rfl⟩
      have t0 : 0 ≤ t := by omega
      have t3 : t ≤ 3 := by omega
      obtain ⟨p, hp⟩ : ∃ p : Int, t * (b : Int) = p := ⟨_, rfl⟩
      have p0 : 0 ≤ p := by rw [← hp]; exact Int.mul_nonneg t0 (by omega)
      have p1 : p ≤ 3 * b := by rw [← hp]; exact Int.mul_le_mul_of_nonneg_right t3 (by omega)
      have hN := hD.step hlt hc0 t (4 * y + p) ht2.symm (by rw [hp])
      obtain ⟨n0, n1, _, n3, n4⟩ := hN.bounds hc0 hb
      have HN := Lib.hid hN
      rw [ht2] at ht
      clear hN ht2 hd4
      have e1 : wrap64 (4 * x + (4 * y + p) / (c : Int)) = 4 * x + (4 * y + p) / (c : Int) := IntWalk.wrap64_in _ (by omega)
      go_wp2
      go_quiet (fail)
      go_wp2
      go_roundw
      case rel => exact ⟨k + 1, _, _, by omega, by go_num, rfl, rfl, HN.out, _, rfl⟩
      case measure => simp [intOf]; omega
    · obtain rfl : k = 31 := by omega
      obtain ⟨d1, d2⟩ := hD.done
      have D1 := Lib.hid d1; have D2 := Lib.hid d2
      clear d1 d2 hx2
      go_wp2
      go_ret2
      exact ⟨by rw [← D1.out, ← D2.out]; rfl, _, rfl⟩

theorem portion_any (a b c : Int) (w : World) (a0 : 0 ≤ a) (ha : a ≤ 1152921504606846976) (b0 : 0 ≤ b) (hb : b ≤ c) (hc0 : 0 < c) (hc : c ≤ 1152921504606846976) :
    Calls Try.prog 111 #[.int .i64 a, .int .i64 b, .int .i64 c] w fun e w' => e = .returned (.tuple #[.int .i64 (SM.pq a b c), .int .i64 (SM.pr a b c)]) ∧ ∃ n, w' = w.drewN n := by
  obtain ⟨x, rfl⟩ := Int.eq_ofNat_of_zero_le a0
  obtain ⟨y, rfl⟩ := Int.eq_ofNat_of_zero_le b0
  obtain ⟨z, rfl⟩ := Int.eq_ofNat_of_zero_le (Int.le_of_lt hc0)
  exact portion_nat x y z w (by omega) (by omega) (by omega) (by omega)

theorem quo_bit (a k : Nat) (hk : k < 61) : (a : Int) / ((1152921504606846976 / 2 ^ k : Nat) : Int) = ((a / 2 ^ (60 - k) : Nat) : Int) := by
  have e : 1152921504606846976 / 2 ^ k = 2 ^ (60 - k) := by
    rw [show 1152921504606846976 = 2 ^ 60 by rfl, Nat.pow_div (by omega) (by omega)]
  rw [e]; rfl
theorem bit_pos (k : Nat) (hk : k < 61) : 0 < 1152921504606846976 / 2 ^ k := by
  rw [show 1152921504606846976 = 2 ^ 60 by rfl, Nat.pow_div (by omega) (by omega)]
  exact Nat.two_pow_pos _
theorem bit_half (k : Nat) : ((1152921504606846976 / 2 ^ k : Nat) : Int) / 2 = ((1152921504606846976 / 2 ^ (k + 1) : Nat) : Int) := by
  rw [Nat.pow_succ, ← Nat.div_div_eq_div_mul]; rfl

/-- the unit of round k -/
def unit (k : Nat) : Int := ((1152921504606846976 / 2 ^ k : Nat) : Int)
theorem unit_le (k : Nat) : 0 ≤ unit k ∧ unit k ≤ 1152921504606846976 := by
  have h := Nat.div_le_self 1152921504606846976 (2 ^ k)
  unfold unit
  generalize 1152921504606846976 / 2 ^ k = u at *
  omega

end Go.Proofs.Ytagmknahmkniaab

namespace Go.Proofs.Ytagmknahmkniaab
open Go.RowKit

set_option maxHeartbeats 1000000 in
/-- the closure that finds the largest remainder -/
theorem largest_any (g3 g2 : Nat) (zs : List Int) (w : World) (hX : Box w g3 50 (.slice (some ⟨g2, 0, none⟩) zs.length zs.length)) (hR : Row w g2 zs) (hl : zs.length ≤ 1024) :
    Calls Try.prog 112 #[.pointer (some ⟨g3, 0, none⟩)] w fun e w' => e = .returned (.int .i64 (SM.amax zs)) ∧ w = w' := by
  have hbox := hX.cell
  go_enter Try.func112, Try.ntmps112
  go_wp2
  go_loop [1, 6] (fun b i => ∃ k : Nat, k ≤ zs.length ∧ i = .int .i64 k ∧ b = .int .i64 (SM.amaxK zs k)) (fun _ i => zs.length - (intOf i).toNat)
  case atStart => exact ⟨0, by omega, rfl, rfl⟩
  case round =>
    obtain ⟨k, hk, rfl, rfl⟩ := hrel
    by_cases hlt : k < zs.length
    · have hm : SM.amaxK zs k < zs.length := by
        rcases Nat.eq_zero_or_pos k with h | h
        · subst h; simp [SM.amaxK]; omega
        · have := SM.amaxK_lt zs k h; omega
      obtain ⟨v, hv⟩ : ∃ v, zs.getD k 0 = v := ⟨_, rfl⟩
      obtain ⟨u, hu⟩ : ∃ u, zs.getD (SM.amaxK zs k) 0 = u := ⟨_, rfl⟩
      have hc1 := hR.cell k hlt
      have hc2 := hR.cell (SM.amaxK zs k) hm
      rw [hv] at hc1
      rw [hu] at hc2
      have HS : Hid (SM.amaxK zs (k + 1) = if u < v then k else SM.amaxK zs k) := by
        show SM.amaxK zs (k + 1) = _
        rw [SM.amaxK, hv, hu]
      clear hv hu
      generalize SM.amaxK zs k = m at *
      by_cases hc : u < v
      · rw [if_pos hc] at HS
        go_wp2
        go_round
        case rel => exact ⟨k + 1, by omega, by go_num, by rw [HS.out]⟩
        case measure => simp [intOf]; omega
      · rw [if_neg hc] at HS
        go_wp2
        go_round
        case rel => exact ⟨k + 1, by omega, by go_num, by rw [HS.out]⟩
        case measure => simp [intOf]; omega
    · obtain rfl : k = zs.length := by omega
      go_wp2
      go_ret
      exact ⟨rfl, rfl⟩

/-- the memory that 'divide' begins with -/
theorem divide_memory (w : World) (n : Nat) :
    let W := ((w.alloc (.cells (zeros n) 3)).alloc (.cells (zeros n) 3)).alloc (.cells #[.slice (some ⟨w.heap.size + 1, 0, none⟩) n n] 50)
    Row W w.heap.size (List.replicate n 0) ∧ Row W (w.heap.size + 1) (List.replicate n 0) ∧ Box W (w.heap.size + 1 + 1) 50 (.slice (some ⟨w.heap.size + 1, 0, none⟩) n n) ∧ Below w.heap.size w W := by
  have h2 := Row.made (w.alloc (.cells (zeros n) 3)) n
  have h3 := Box.new ((w.alloc (.cells (zeros n) 3)).alloc (.cells (zeros n) 3)) 50 (.slice (some ⟨w.heap.size + 1, 0, none⟩) n n)
  simp only [World.size_alloc] at h2 h3
  refine ⟨((Row.made w n).alloc _).alloc _, h2.alloc _, h3, ?_⟩
  exact (((Below.refl _ _).alloc (Nat.le_refl _) _).alloc (by simp) _).alloc (by simp <;> omega) _

theorem divide_round {w wr : World} {g1 g2 g3 k m B : Nat} {ps rs : List Int} {bv : Value} (x y : Int) (h1 : Row wr g1 ps) (h2 : Row wr g2 rs) (h3 : Box wr g3 50 bv) (hB : Below B w wr)
    (e12 : g1 ≠ g2) (e13 : g3 ≠ g1) (e23 : g3 ≠ g2) (b1 : B ≤ g1) (b2 : B ≤ g2) :
    let W := ((wr.drewN m).setCell ⟨g1, k, none⟩ (.int .i64 x)).setCell ⟨g2, k, none⟩ (.int .i64 y)
    Row W g1 (ps.set k x) ∧ Row W g2 (rs.set k y) ∧ Box W g3 50 bv ∧ Below B w W :=
  ⟨((h1.drewN m).set_ k x).far (p := ⟨g2, k, none⟩) e12 _, ((h2.drewN m).far (p := ⟨g1, k, none⟩) e12.symm _).set_ k y, ((h3.drewN m).far (p := ⟨g1, k, none⟩) e13 _).far (p := ⟨g2, k, none⟩) e23 _,
    ((below_drewN hB m).setCell (p := ⟨g1, k, none⟩) b1 _).setCell (p := ⟨g2, k, none⟩) b2 _⟩

theorem divide_round' {w wr : World} {g1 g2 g3 k B : Nat} {ps rs : List Int} {bv : Value} (x y : Int) (h1 : Row wr g1 ps) (h2 : Row wr g2 rs) (h3 : Box wr g3 50 bv) (hB : Below B w wr)
    (e12 : g1 ≠ g2) (e13 : g3 ≠ g1) (e23 : g3 ≠ g2) (b1 : B ≤ g1) (b2 : B ≤ g2) :
    let W := (wr.setCell ⟨g1, k, none⟩ (.int .i64 x)).setCell ⟨g2, k, none⟩ (.int .i64 y)
    Row W g1 (ps.set k x) ∧ Row W g2 (rs.set k y) ∧ Box W g3 50 bv ∧ Below B w W :=
  ⟨(h1.set_ k x).far (p := ⟨g2, k, none⟩) e12 _, (h2.far (p := ⟨g1, k, none⟩) e12.symm _).set_ k y, (h3.far (p := ⟨g1, k, none⟩) e13 _).far (p := ⟨g2, k, none⟩) e23 _,
    (hB.setCell (p := ⟨g1, k, none⟩) b1 _).setCell (p := ⟨g2, k, none⟩) b2 _⟩

set_option maxHeartbeats 1000000 in
theorem divide2_any (total all : Int) (A : Option Addr) (zs : List Int) (cap : Nat) (w : World) (hI : Ints w A zs) (hl : zs.length ≤ 1024) (hz : SM.allR zs = true) (hall : all = LM.tot zs) (ha0 : 0 < all) (ha1 : all ≤ 1152921504606846976) (t0 : 0 ≤ total) (t1 : total ≤ 1152921504606846976) :
    Calls Try.prog 79 #[.int .i64 total, .slice A zs.length cap, .int .i64 all] w fun e w' => ∃ g, e = .returned (.slice (some ⟨g, 0, none⟩) zs.length zs.length) ∧ w.heap.size ≤ g ∧ Row w' g (SM.parts total all zs) ∧ Below w.heap.size w w' := by
  have hmk := make_ints zs.length (by omega)
  have HALL := Lib.hid hall
  have HZ := Lib.hid hz
  clear hall hz
  go_enter Try.func79, Try.ntmps79
  go_wp2
  go_loopw [8, 22] (fun l i wr => ∃ k : Nat, k ≤ zs.length ∧ i = .int .i64 k ∧ l = .int .i64 (total - LM.tot ((SM.qs total all zs).take k)) ∧ Row wr w.heap.size (SM.pre (SM.qs total all zs) k) ∧
      Row wr (w.heap.size + 1) (SM.pre (SM.rs total all zs) k) ∧ Box wr (w.heap.size + 1 + 1) 50 (.slice (some ⟨w.heap.size + 1, 0, none⟩) zs.length zs.length) ∧ Below w.heap.size w wr)
    (fun _ i _ => zs.length - (intOf i).toNat)
  case atStart =>
    obtain ⟨m1, m2, m3, m4⟩ := divide_memory w zs.length
    exact ⟨0, by omega, rfl, by simp [LM.tot], by rw [SM.pre_zero, SM.qs_len]; exact m1, by rw [SM.pre_zero, SM.rs_len]; exact m2, m3, m4⟩
  case round =>
    obtain ⟨k, hk, rfl, rfl, hR1, hR2, hX, hB⟩ := hrel
    by_cases hlt : k < zs.length
    · have hI2 := hI.below hB
      obtain ⟨b, off, v, rfl, hb, hcell, HV, v1, v2⟩ := hI2.get hlt
      have hbox := hX.cell
      have hf1 := hR1.frozen k
      have hf2 := hR2.frozen k
      obtain ⟨o1, hc1⟩ : ∃ o, wr.cell? ⟨w.heap.size, k, none⟩ = some (.int .i64 o) := ⟨_, hR1.cell k (by rw [SM.pre_len _ _ (by rw [SM.qs_len]; omega), SM.qs_len]; exact hlt)⟩
      obtain ⟨o2, hc2⟩ : ∃ o, wr.cell? ⟨w.heap.size + 1, k, none⟩ = some (.int .i64 o) := ⟨_, hR2.cell k (by rw [SM.pre_len _ _ (by rw [SM.rs_len]; omega), SM.rs_len]; exact hlt)⟩
      have hn : v = zs.getD k 0 := HV.out.symm
      have hvr := SM.allR_get HZ.out hlt
      rw [← hn] at hvr
      obtain ⟨vr1, vr2⟩ := hvr
      have hva : v ≤ all := by
        rw [HALL.out, hn]
        have h1 := SM.tot_take_le HZ.out (k + 1)
        rw [LM.tot_take_succ zs k hlt] at h1
        have h2 := SM.tot_nonneg (SM.allR_take HZ.out k)
        omega
      clear hn
      obtain ⟨s0, s1⟩ := SM.qs_take t0 HZ.out ha0 HALL.out k
      have p0 := SM.pq_nonneg t0 vr1 ha0
      have p1 := SM.pq_le t0 hva ha0
      have HL : Hid (LM.tot ((SM.qs total all zs).take (k + 1)) = LM.tot ((SM.qs total all zs).take k) + SM.pq total v all) := by
        show _ = _
        rw [LM.tot_take_succ _ _ (by rw [SM.qs_len]; exact hlt), SM.qs_get _ _ _ _ hlt, HV.out]
      generalize LM.tot ((SM.qs total all zs).take k) = T at *
      go_wp2
      go_region_with (go_at_call 111; refine (portion_any _ _ _ _ t0 t1 vr1 hva ha0 ha1).mono ?_; rintro e w' ⟨rfl, n, rfl⟩)
      all_goals go_wp2
      all_goals
        go_roundw
        case rel =>
          obtain ⟨q1, q2, q3, q4⟩ := divide_round (m := 1 + n) (k := k) (SM.pq total v all) (SM.pr total v all) hR1 hR2 hX hB (by omega) (by omega) (by omega) (by omega) (by omega)
          have e1 : (SM.pre (SM.qs total all zs) k).set k (SM.pq total v all) = SM.pre (SM.qs total all zs) (k + 1) := by
            rw [← SM.pre_set _ _ (by rw [SM.qs_len]; exact hlt), SM.qs_get _ _ _ _ hlt, HV.out]
          have e2 : (SM.pre (SM.rs total all zs) k).set k (SM.pr total v all) = SM.pre (SM.rs total all zs) (k + 1) := by
            rw [← SM.pre_set _ _ (by rw [SM.rs_len]; exact hlt), SM.rs_get _ _ _ _ hlt, HV.out]
          rw [e1] at q1
          rw [e2] at q2
          exact ⟨k + 1, by omega, by go_num, by rw [HL.out]; go_num, q1, q2, q3, q4⟩
        case measure => simp [intOf]; omega
    · obtain rfl : k = zs.length := by omega
      obtain ⟨f0, f1⟩ := SM.left_range total all zs HALL.out ha0
      have eq1 : SM.pre (SM.qs total all zs) zs.length = SM.qs total all zs := by
        have := SM.pre_full (SM.qs total all zs); rwa [SM.qs_len] at this
      have eq2 : SM.pre (SM.rs total all zs) zs.length = SM.rs total all zs := by
        have := SM.pre_full (SM.rs total all zs); rwa [SM.rs_len] at this
      have eq3 : total - LM.tot ((SM.qs total all zs).take zs.length) = SM.leftOf total all zs := by
        unfold SM.leftOf; rw [List.take_of_length_le (by rw [SM.qs_len]; exact Nat.le_refl _)]
      rw [eq1] at hR1
      rw [eq2] at hR2
      rw [eq3]
      obtain ⟨L, hL⟩ := Int.eq_ofNat_of_zero_le f0
      have HP : Hid (SM.parts total all zs = (SM.diter 0 L (SM.qs total all zs, SM.rs total all zs)).1) := by
        show _ = _
        unfold SM.parts; rw [hL]; rfl
      rw [hL] at f1 ⊢
      clear eq1 eq2 eq3 hL f0
      go_wp2
      go_loopw [49] (fun i wr => ∃ t : Nat, t ≤ L ∧ i = .int .i64 t ∧ Row wr w.heap.size (SM.diter 0 t (SM.qs total all zs, SM.rs total all zs)).1 ∧
          Row wr (w.heap.size + 1) (SM.diter 0 t (SM.qs total all zs, SM.rs total all zs)).2 ∧ Box wr (w.heap.size + 1 + 1) 50 (.slice (some ⟨w.heap.size + 1, 0, none⟩) zs.length zs.length) ∧ Below w.heap.size w wr)
        (fun i _ => L - (intOf i).toNat)
      case atStart => exact ⟨0, by omega, rfl, hR1, hR2, hX, hB⟩
      case round =>
        clear hR1 hR2 hX hB
        obtain ⟨t, ht, rfl, hR1, hR2, hX, hB⟩ := hrel
        by_cases hlt2 : t < L
        · have n1 : (SM.diter 0 t (SM.qs total all zs, SM.rs total all zs)).1.length = zs.length := by rw [(SM.diter_len _ _ _).1]; exact SM.qs_len _ _ _
          have n2 : (SM.diter 0 t (SM.qs total all zs, SM.rs total all zs)).2.length = zs.length := by rw [(SM.diter_len _ _ _).2]; exact SM.rs_len _ _ _
          have hm : SM.amax (SM.diter 0 t (SM.qs total all zs, SM.rs total all zs)).2 < zs.length := by rw [← n2]; exact SM.amax_lt _ (by rw [n2]; omega)
          have hbd := SM.diter_bound 0 t (SM.qs total all zs, SM.rs total all zs) (by simp only [SM.qs_len, SM.rs_len]) (SM.amax (SM.diter 0 t (SM.qs total all zs, SM.rs total all zs)).2)
          have hq0 := SM.qs_nonneg t0 HZ.out ha0 _ hm
          have hq1 : (SM.qs total all zs).getD (SM.amax (SM.diter 0 t (SM.qs total all zs, SM.rs total all zs)).2) 0 ≤ total := by
            rw [SM.qs_get _ _ _ _ hm]
            refine SM.pq_le t0 ?_ ha0
            have h1 := SM.elem_le HZ.out hm
            have h2 := HALL.out
            omega
          simp only [] at hbd
          have hc1 := hR1.cell _ (by rw [n1]; exact hm)
          have hc2 := hR2.cell _ (by rw [n2]; exact hm)
          have hf1 := hR1.frozen (SM.amax (SM.diter 0 t (SM.qs total all zs, SM.rs total all zs)).2)
          have hf2 := hR2.frozen (SM.amax (SM.diter 0 t (SM.qs total all zs, SM.rs total all zs)).2)
          have hX2 : Box wr (w.heap.size + 1 + 1) 50 (.slice (some ⟨w.heap.size + 1, 0, none⟩) (SM.diter 0 t (SM.qs total all zs, SM.rs total all zs)).2.length (SM.diter 0 t (SM.qs total all zs, SM.rs total all zs)).2.length) := by rw [n2]; exact hX
          have CL := Lib.hid (largest_any _ _ _ wr hX2 hR2 (by rw [n2]; exact hl))
          have hbox := hX.cell
          have HR := Lib.hid (fun x => divide_round' (k := SM.amax (SM.diter 0 t (SM.qs total all zs, SM.rs total all zs)).2) x 0 hR1 hR2 hX hB (by omega) (by omega) (by omega) (by omega) (by omega))
          have HD : Hid (SM.diter 0 (t + 1) (SM.qs total all zs, SM.rs total all zs) = SM.dstep 0 (SM.diter 0 t (SM.qs total all zs, SM.rs total all zs))) := rfl
          unfold SM.dstep SM.inc at HD
          clear hX2 hR1 hR2 n1 n2
          generalize SM.amax (SM.diter 0 t (SM.qs total all zs, SM.rs total all zs)).2 = im at *
          generalize (SM.diter 0 t (SM.qs total all zs, SM.rs total all zs)).2.getD im 0 = r0 at *
          generalize (SM.diter 0 t (SM.qs total all zs, SM.rs total all zs)).1.getD im 0 = p0 at *
          obtain ⟨hbd1, hbd2⟩ := hbd
          go_wp2_with fail
          refine CL.out.mono ?_
          rintro e w' ⟨rfl, rfl⟩
          go_wp2
          go_roundw
          case rel =>
            obtain ⟨q1, q2, q3, q4⟩ := HR.out (p0 + 1)
            exact ⟨t + 1, by omega, by go_num, by rw [HD.out]; exact q1, by rw [HD.out]; exact q2, q3, q4⟩
          case measure => simp [intOf]; omega
        · obtain rfl : t = L := by omega
          go_wp2
          go_ret
          exact ⟨_, rfl, Nat.le_refl _, by rw [HP.out]; exact hR1, hB⟩
end Go.Proofs.Ytagmknahmkniaab

namespace Go.Proofs.Ytagmknahmkniaab
open Go.RowKit

set_option maxHeartbeats 1000000 in
theorem ssplit_any (total : Int) (A : Option Addr) (zs : List Int) (cap : Nat) (w : World) (hI : Ints w A zs) :
    Calls Try.prog 41 #[.int .i64 total, .slice A zs.length cap] w fun e w' =>
      ∃ v, e = .returned (.tuple #[v, .int .i64 (SM.splE total zs)]) ∧ Own w' w.heap.size v (SM.splN total zs) ∧ Below w.heap.size w w' := by
  have hlen := hI.len
  cases h1 : SM.inR total
  · obtain ⟨e1, e2⟩ := @SM.spl_arg total zs h1
    rw [e1, e2]; clear e1 e2
    go_enter Try.func41, Try.ntmps41
    go_wp2_with (go_at_call 77; refine (inrange_any _ _).mono ?_; rintro e w' ⟨rfl, rfl⟩)
    go_ret2
    exact ⟨_, rfl, Own.nil _ _, Below.refl _ _⟩
  · by_cases hlong : 1024 < zs.length
    · obtain ⟨e1, e2⟩ := @SM.spl_long total zs h1 hlong
      have e3 : SM.sN zs = 0 := by simp [SM.sN, hlong]
      have e4 : SM.sE zs = 8 := by simp [SM.sE, hlong]
      rw [e1, e2]; clear e1 e2
      go_enter Try.func41, Try.ntmps41
      go_wp2_with (first
        | (go_at_call 77; refine (inrange_any _ _).mono ?_; rintro e w' ⟨rfl, rfl⟩)
        | (go_at_call 78; refine (sumof_any _ _ _ _ hI).mono ?_; rintro e w' ⟨rfl, rfl⟩))
      go_ret2
      exact ⟨_, rfl, Own.nil _ _, Below.refl _ _⟩
    · cases hw : SM.wOk zs
      · obtain ⟨e1, e2⟩ := @SM.spl_weight total zs h1 hlong (.inl hw)
        have e3 : SM.sN zs = 0 := by simp [SM.sN, hlong, (SM.w_no hw).1]
        have e4 : SM.sE zs = 26 := by simp [SM.sE, hlong, (SM.w_no hw).2]
        rw [e1, e2]; clear e1 e2
        go_enter Try.func41, Try.ntmps41
        go_wp2_with (first
          | (go_at_call 77; refine (inrange_any _ _).mono ?_; rintro e w' ⟨rfl, rfl⟩)
          | (go_at_call 78; refine (sumof_any _ _ _ _ hI).mono ?_; rintro e w' ⟨rfl, rfl⟩))
        go_ret2
        exact ⟨_, rfl, Own.nil _ _, Below.refl _ _⟩
      · have e3 : SM.sN zs = LM.tot zs := by simp [SM.sN, hlong, (SM.w_yes hw).1]
        have e4 : SM.sE zs = 0 := by simp [SM.sE, hlong, (SM.w_yes hw).2]
        by_cases h0 : LM.tot zs = 0
        · obtain ⟨e1, e2⟩ := @SM.spl_weight total zs h1 hlong (.inr h0)
          rw [e1, e2]; clear e1 e2
          go_enter Try.func41, Try.ntmps41
          go_wp2_with (first
            | (go_at_call 77; refine (inrange_any _ _).mono ?_; rintro e w' ⟨rfl, rfl⟩)
            | (go_at_call 78; refine (sumof_any _ _ _ _ hI).mono ?_; rintro e w' ⟨rfl, rfl⟩))
          go_ret2
          exact ⟨_, rfl, Own.nil _ _, Below.refl _ _⟩
        · obtain ⟨e1, e2⟩ := @SM.spl_ok total zs h1 hlong hw h0
          rw [e1, e2]; clear e1 e2
          obtain ⟨hr, ht1⟩ := SM.wOk_parts hw
          have ht0 := SM.tot_nonneg hr
          have hz : (LM.tot zs == 0) = false := by simpa using h0
          obtain ⟨i1, i2⟩ := SM.inR_true.1 h1
          have CD := Lib.hid (divide2_any total (LM.tot zs) A zs cap w hI (by omega) hr rfl (by omega) ht1 i1 i2)
          have HL : zs.length ≤ maxLen := hI.1
          clear h0 hr
          go_enter Try.func41, Try.ntmps41
          go_wp2_with (first
            | (go_at_call 77; refine (inrange_any _ _).mono ?_; rintro e w' ⟨rfl, rfl⟩)
            | (go_at_call 78; refine (sumof_any _ _ _ _ hI).mono ?_; rintro e w' ⟨rfl, rfl⟩)
            | (go_at_call 79; refine CD.out.mono ?_; rintro e w1 ⟨g, rfl, hg, hrow, hb⟩))
          go_ret2
          refine ⟨_, rfl, ?_, hb⟩
          have := hrow.own hg (by rw [SM.parts_len]; exact HL)
          rw [SM.parts_len] at this
          exact this
end Go.Proofs.Ytagmknahmkniaab

/- Contracts of layer 14: Even. -/
namespace Go.Proofs.Ytagmknahmkniaab
open Go.RowKit Go.Recs
set_option linter.unusedVariables false
set_option linter.unusedSimpArgs false
def evenE (l : List TM.Trd) (tick : Int) (p : List GM.Part) : Int := if GM.poolE l tick = 0 then GM.partsE (GM.lots l) p else GM.poolE l tick
def evenP (l : List TM.Trd) (tick : Int) (p : List GM.Part) : Int := if evenE l tick p = 0 then GM.avgP l tick else 0
def evenL (l : List TM.Trd) (tick : Int) (p : List GM.Part) : List Int := if evenE l tick p = 0 then SM.splN (GM.avgR l tick) (p.map (·.qty)) else []
theorem qtys_range {p : List GM.Part} (h : ∀ x ∈ p, partQ x) : ∀ n ∈ p.map (·.qty), -9223372036854775808 ≤ n ∧ n ≤ 9223372036854775807 := by
  intro n hn
  obtain ⟨x, hx, rfl⟩ := List.mem_map.1 hn
  exact (h x hx).2.2
theorem parts_len {all : Int} {p : List GM.Part} (h : GM.partsE all p = 0) : p.length ≤ 1024 := by
  unfold GM.partsE at h
  exact (count_inv (GM.or_zero h _ (by simp))).2
theorem own_lower {w : World} {B B' : Nat} {v : Value} {zs : List Int} (h : Own w B v zs) (hB : B' ≤ B) : Own w B' v zs := by
  refine ⟨h.1, ?_⟩
  rcases h.2 with h | ⟨g, cp, cur, hv, hg, r⟩
  · exact .inl h
  · exact .inr ⟨g, cp, cur, hv, Nat.le_trans hB hg, r⟩
set_option maxHeartbeats 8000000 in
set_option maxRecDepth 100000 in
theorem geven_any (A : Option Addr) (l : List TM.Trd) (n cap : Nat) (tick : Int) (hn : n = l.length) (B : Option Addr) (p : List GM.Part) (m cp : Nat) (hm : m = p.length) (w : World) (hI : Trds w A l) (hP : Parts w B p) (hi : i64 tick) :
    Calls Try.prog 18 #[.slice A n cap, .int .i64 tick, .slice B m cp] w fun e w' => ∃ v, e = .returned (.tuple #[.int .i64 (evenP l tick p), v, .int .i64 (evenE l tick p)]) ∧ Own w' w.heap.size v (evenL l tick p) ∧ Below w.heap.size w w' := by
  subst hn hm
  have C1 := Lib.hid (gaverage_any A l l.length cap tick rfl w hI hi)
  have HI := Lib.hid hI; have HP := Lib.hid hP
  clear hI hP
  by_cases hp : GM.poolE l tick = 0
  · have hPo := GM.pooled hp
    have C2 := Lib.hid (fun ww h => plots_any A l l.length cap tick rfl ww h hPo.each hPo.len.2)
    have ea : aveP l tick = GM.avgP l tick := by unfold aveP; rw [if_pos hp]
    have eb : aveR l tick = GM.avgR l tick := by unfold aveR; rw [if_pos hp]
    have ec : evenE l tick p = GM.partsE (GM.lots l) p := by unfold evenE; rw [if_pos hp]
    have C3 := Lib.hid (fun ww h => dcheck_any (GM.lots l) B p p.length cp rfl ww h)
    rw [ea, eb, hp] at C1
    by_cases hd : GM.partsE (GM.lots l) p = 0
    · have e1 : evenP l tick p = GM.avgP l tick := by unfold evenP; rw [if_pos (ec.trans hd)]
      have e2 : evenL l tick p = SM.splN (GM.avgR l tick) (p.map (·.qty)) := by unfold evenL; rw [if_pos (ec.trans hd)]
      have C4 := Lib.hid (fun ww h => dquant_any (GM.lots l) B p p.length cp rfl ww h (parts_len hd))
      have C5 := Lib.hid (fun A c ww h => ssplit_any (GM.avgR l tick) A (p.map (·.qty)) c ww h)
      have HQR := Lib.hid (qtys_range HP.out.2)
      rw [e1, e2, ec, hd]
      rw [hd] at C3
      clear e1 e2 ec ea eb hp hPo hd hi
      generalize GM.lots l = q at *
      generalize GM.avgP l tick = ap at *
      generalize GM.avgR l tick = ar at *
      generalize SM.splE ar (p.map (·.qty)) = se at *
      generalize SM.splN ar (p.map (·.qty)) = sn at *
      generalize hqs : p.map (·.qty) = qs at *
      clear hqs
      go_enter Try.func18, Try.ntmps18
      go_wp2_with fail
      refine C1.out.mono ?_
      rintro e w1 ⟨rfl, b1⟩
      have HI1 := Lib.hid (HI.out.below b1); have HP1 := Lib.hid (HP.out.below b1)
      have HB1 := Lib.hid b1
      clear b1 HI HP C1
      go_wp2_with fail
      refine (C2.out _ HI1.out).mono ?_
      rintro e w2 ⟨rfl, b2⟩
      have HB2 := Lib.hid (below_al (HB1.out.trans (b2.mono HB1.out.size)) (.cells (divC q B p.length cp) 115))
      have HP2 := Lib.hid ((HP1.out.below b2).below (below_al (Below.refl w2.heap.size w2) (.cells (divC q B p.length cp) 115)))
      have HX2 := Lib.hid (CB.new w2 115 (divC q B p.length cp))
      clear b2 HB1 HP1 HI1 C2
      go_wp2_with fail
      refine (C3.out _ HP2.out).mono ?_
      rintro e w3 ⟨rfl, b3⟩
      have HB3 := Lib.hid (HB2.out.trans (b3.mono HB2.out.size))
      have HP3 := Lib.hid (HP2.out.below b3)
      have HX3 := Lib.hid (HX2.out.below b3 HX2.out.lt)
      have x0 : w3.cell? ⟨w2.heap.size, 0, none⟩ = some (.int .i64 q) := HX3.out.cell 0
      have x1 : w3.cell? ⟨w2.heap.size, 1, none⟩ = some (.slice B p.length cp) := HX3.out.cell 1
      clear b3 HB2 HP2 HX2 C3
      go_wp2_with fail
      refine (C4.out _ HP3.out).mono ?_
      clear x0 x1
      rintro e w4 ⟨v4, rfl, o4, b4⟩
      have HB4 := Lib.hid (HB3.out.trans (b4.mono HB3.out.size))
      obtain ⟨A4, c4, rfl, hi4⟩ := o4.ints HQR.out
      clear b4 o4 HB3 HP3 HX3 C4
      go_wp2_with fail
      refine (C5.out _ _ _ hi4).mono ?_
      rintro e w5 ⟨v5, rfl, o5, b5⟩
      have HB5 := Lib.hid (HB4.out.trans (b5.mono HB4.out.size))
      have HO5 := Lib.hid (own_lower o5 HB4.out.size)
      clear b5 o5 HB4 hi4 C5
      go_wp2_with fail
      (try simp only [Exit.inBlock, Exit.then])
      first | (go_ret3; exact ⟨_, rfl, HO5.out, HB5.out⟩) | exact bodyPost_ret (results_ttt rfl _ _ _) rfl ⟨_, rfl, HO5.out, HB5.out⟩
    · have e1 : evenP l tick p = 0 := by unfold evenP; rw [ec, if_neg hd]
      have e2 : evenL l tick p = [] := by unfold evenL; rw [ec, if_neg hd]
      have hne : (GM.partsE (GM.lots l) p != 0) = true := by simpa using hd
      rw [e1, e2, ec]
      clear e1 e2 ec ea eb hp hPo hd hi
      generalize GM.partsE (GM.lots l) p = r at *
      generalize GM.lots l = q at *
      generalize GM.avgP l tick = ap at *
      generalize GM.avgR l tick = ar at *
      go_enter Try.func18, Try.ntmps18
      go_wp2_with fail
      refine C1.out.mono ?_
      rintro e w1 ⟨rfl, b1⟩
      have HI1 := Lib.hid (HI.out.below b1); have HP1 := Lib.hid (HP.out.below b1)
      have HB1 := Lib.hid b1
      clear b1 HI HP C1
      go_wp2_with fail
      refine (C2.out _ HI1.out).mono ?_
      rintro e w2 ⟨rfl, b2⟩
      have HB2 := Lib.hid (below_al (HB1.out.trans (b2.mono HB1.out.size)) (.cells (divC q B p.length cp) 115))
      have HP2 := Lib.hid ((HP1.out.below b2).below (below_al (Below.refl w2.heap.size w2) (.cells (divC q B p.length cp) 115)))
      clear b2 HB1 HP1 HI1 C2
      go_wp2_with fail
      refine (C3.out _ HP2.out).mono ?_
      rintro e w3 ⟨rfl, b3⟩
      have HB3 := Lib.hid (HB2.out.trans (b3.mono HB2.out.size))
      clear b3 HB2 HP2 C3
      go_wp2_with fail
      (try simp only [Exit.inBlock, Exit.then])
      first | (go_ret3; exact ⟨_, rfl, Own.nil _ _, HB3.out⟩) | exact bodyPost_ret (results_ttt rfl _ _ _) rfl ⟨_, rfl, Own.nil _ _, HB3.out⟩
  · have ec : evenE l tick p = GM.poolE l tick := by unfold evenE; rw [if_neg hp]
    have e1 : evenP l tick p = 0 := by unfold evenP; rw [ec, if_neg hp]
    have e2 : evenL l tick p = [] := by unfold evenL; rw [ec, if_neg hp]
    have ea : aveP l tick = 0 := by unfold aveP; rw [if_neg hp]
    have eb : aveR l tick = 0 := by unfold aveR; rw [if_neg hp]
    have hne : (GM.poolE l tick != 0) = true := by simpa using hp
    rw [e1, e2, ec]
    rw [ea, eb] at C1
    clear e1 e2 ec ea eb hp hi
    generalize GM.poolE l tick = r at *
    go_enter Try.func18, Try.ntmps18
    go_wp2_with fail
    refine C1.out.mono ?_
    rintro e w1 ⟨rfl, b1⟩
    have HB1 := Lib.hid b1
    clear b1
    go_wp2_with fail
    (try simp only [Exit.inBlock, Exit.then])
    first | (go_ret3; exact ⟨_, rfl, Own.nil _ _, HB1.out⟩) | exact bodyPost_ret (results_ttt rfl _ _ _) rfl ⟨_, rfl, Own.nil _ _, HB1.out⟩
end Go.Proofs.Ytagmknahmkniaab
