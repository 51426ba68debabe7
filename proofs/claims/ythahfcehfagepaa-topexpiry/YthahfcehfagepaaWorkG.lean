/- Contracts of layer 6's reference: the n-th working day this way and that, Count, Expiry. -/
import Derived.Test.YthahfcehfagepaaWorkMath3
import Derived.Test.YthahfcehfagepaaDateG
namespace KM
theorem up_at (W : Int → Bool) (d : Int) (n : Nat) (hd : d ≤ 73048) : up W (73049 - d).toNat d n = if W d = true then (if n = 1 then some d else up W (73049 - (d + 1)).toNat (d + 1) (n - 1)) else up W (73049 - (d + 1)).toNat (d + 1) n := by
  rw [show (73049 - d).toNat = (73049 - (d + 1)).toNat + 1 by omega]; rfl
theorem down_at (W : Int → Bool) (d : Int) (n : Nat) (hd : 0 ≤ d) : down W (d + 1).toNat d n = if W d = true then (if n = 1 then some d else down W (d - 1 + 1).toNat (d - 1) (n - 1)) else down W (d - 1 + 1).toNat (d - 1) n := by
  rw [show (d + 1).toNat = (d - 1 + 1).toNat + 1 by omega]; rfl
end KM
namespace Go.Proofs.Ythahfcehfagepaa
open Go.RowKit
set_option linter.unusedVariables false

set_option maxHeartbeats 1000000 in
theorem toward_up (A : Option Addr) (zs : List Int) (cap : Nat) (day n : Int) (w : World) (hI : Ints w A zs) (hc : KM.cdE zs day = 0) (n1 : 1 ≤ n) (n2 : n ≤ 9223372036854775807) :
    Calls Try.prog 63 #[.slice A zs.length cap, .int .i64 day, .int .i64 n, .int .i64 1] w fun e w' => e = .returned (.tuple #[.int .i64 (KM.oN (KM.up (KM.works zs) (73048 - day).toNat (day + 1) n.toNat)), .int .i64 (KM.oE (KM.up (KM.works zs) (73048 - day).toNat (day + 1) n.toNat))]) ∧ ∃ q, w' = w.drewN q := by
  have C := rworks_any A zs cap day w hI
  rw [hc] at C
  obtain ⟨h0, h1⟩ := DM.isd_of (KM.cdE_zero hc).2
  have HRW := Lib.hid (fun (ww : World) (d : Int) (h : Ints ww A zs) => rw_any A zs cap d ww h)
  have HU := Lib.hid (KM.up_at (KM.works zs))
  have hst : KM.up (KM.works zs) (73048 - day).toNat (day + 1) n.toNat = KM.up (KM.works zs) (73049 - (day + 1)).toNat (day + 1) n.toNat := by rw [show (73049 - (day + 1)) = 73048 - day by omega]
  generalize hW : KM.works zs = W at *
  generalize ho : KM.up W (73048 - day).toNat (day + 1) n.toNat = o at *
  generalize KM.wkN zs day = wkk at *
  have HST := Lib.hid hst; have HC := Lib.hid C; have HI := Lib.hid hI
  clear C hst hI hW ho hc
  go_enter Try.func63, Try.ntmps63
  go_wp2_with fail
  refine HC.out.mono ?_
  rintro e w1 ⟨rfl, q, rfl⟩
  have HI1 := Lib.hid (HI.out.drewN q)
  go_wp2
  go_loop [2, 12] (fun a b => ∃ x d : Int, a = .int .i64 x ∧ b = .int .i64 d ∧ 1 ≤ x ∧ x ≤ 9223372036854775807 ∧ 0 ≤ d ∧ d ≤ 73049 ∧ Hid (o = KM.up W (73049 - d).toNat d x.toNat)) (fun _ b => (73050 - intOf b).toNat)
  case atStart => exact ⟨n, day + 1, rfl, rfl, n1, n2, by omega, by omega, HST⟩
  case round =>
    obtain ⟨x, d, rfl, rfl, x1, x2, d1, d2, HO⟩ := hrel
    by_cases hlt : d ≤ 73048
    · have hu := HU.out d x.toNat hlt
      have CW := HRW.out _ d HI1.out d1 hlt
      cases hw : W d
      · rw [hw] at hu CW
        simp only [Bool.false_eq_true, if_false] at hu
        have HN : Hid (o = KM.up W (73049 - (d + 1)).toNat (d + 1) x.toNat) := Lib.hid (by rw [HO.out, hu])
        have HCW := Lib.hid CW
        have hx0 : (x == 0) = false := beq_f (by omega)
        clear hu CW hw
        go_wp2_with (go_at_call 62; refine HCW.out.mono ?_; rintro e w' ⟨rfl, rfl⟩)
        go_round
        case rel => exact ⟨x, d + 1, rfl, rfl, x1, x2, by omega, by omega, HN⟩
        case measure => simp [intOf]; omega
      · rw [hw] at hu CW
        simp only [if_true] at hu
        have HCW := Lib.hid CW
        by_cases hx : x = 1
        · rw [if_pos (by omega)] at hu
          have HN : Hid (o = some d) := Lib.hid (by rw [HO.out, hu])
          have hx0 : (x - 1 == 0) = true := beq_t (by omega)
          clear hu CW hw hx
          go_wp2_with (go_at_call 62; refine HCW.out.mono ?_; rintro e w' ⟨rfl, rfl⟩)
          go_ret2
          exact ⟨by rw [HN.out]; rfl, _, rfl⟩
        · rw [if_neg (by omega), show x.toNat - 1 = (x - 1).toNat by omega] at hu
          have HN : Hid (o = KM.up W (73049 - (d + 1)).toNat (d + 1) (x - 1).toNat) := Lib.hid (by rw [HO.out, hu])
          have hx0 : (x - 1 == 0) = false := beq_f (by omega)
          have x3 : 1 ≤ x - 1 := by omega
          clear hu CW hw hx
          go_wp2_with (go_at_call 62; refine HCW.out.mono ?_; rintro e w' ⟨rfl, rfl⟩)
          go_round
          case rel => exact ⟨x - 1, d + 1, rfl, rfl, x3, by omega, by omega, by omega, HN⟩
          case measure => simp [intOf]; omega
    · have HN : Hid (o = none) := Lib.hid (by rw [HO.out, show (73049 - d).toNat = 0 by omega]; rfl)
      go_wp2
      go_ret2
      exact ⟨by rw [HN.out]; rfl, _, rfl⟩

set_option maxHeartbeats 1000000 in
theorem toward_down (A : Option Addr) (zs : List Int) (cap : Nat) (day n : Int) (w : World) (hI : Ints w A zs) (hc : KM.cdE zs day = 0) (n1 : 1 ≤ n) (n2 : n ≤ 9223372036854775807) :
    Calls Try.prog 63 #[.slice A zs.length cap, .int .i64 day, .int .i64 n, .int .i64 (-1)] w fun e w' => e = .returned (.tuple #[.int .i64 (KM.oN (KM.down (KM.works zs) day.toNat (day - 1) n.toNat)), .int .i64 (KM.oE (KM.down (KM.works zs) day.toNat (day - 1) n.toNat))]) ∧ ∃ q, w' = w.drewN q := by
  have C := rworks_any A zs cap day w hI
  rw [hc] at C
  obtain ⟨h0, h1⟩ := DM.isd_of (KM.cdE_zero hc).2
  have HRW := Lib.hid (fun (ww : World) (d : Int) (h : Ints ww A zs) => rw_any A zs cap d ww h)
  have HU := Lib.hid (KM.down_at (KM.works zs))
  have hst : KM.down (KM.works zs) day.toNat (day - 1) n.toNat = KM.down (KM.works zs) (day - 1 + 1).toNat (day - 1) n.toNat := by rw [show day - 1 + 1 = day by omega]
  generalize hW : KM.works zs = W at *
  generalize ho : KM.down W day.toNat (day - 1) n.toNat = o at *
  generalize KM.wkN zs day = wkk at *
  have HST := Lib.hid hst; have HC := Lib.hid C; have HI := Lib.hid hI
  clear C hst hI hW ho hc
  go_enter Try.func63, Try.ntmps63
  go_wp2_with fail
  refine HC.out.mono ?_
  rintro e w1 ⟨rfl, q, rfl⟩
  have HI1 := Lib.hid (HI.out.drewN q)
  go_wp2
  go_loop [2, 12] (fun a b => ∃ x d : Int, a = .int .i64 x ∧ b = .int .i64 d ∧ 1 ≤ x ∧ x ≤ 9223372036854775807 ∧ -1 ≤ d ∧ d ≤ 73048 ∧ Hid (o = KM.down W (d + 1).toNat d x.toNat)) (fun _ b => (intOf b + 1).toNat)
  case atStart => exact ⟨n, day - 1, rfl, by go_num, n1, n2, by omega, by omega, HST⟩
  case round =>
    obtain ⟨x, d, rfl, rfl, x1, x2, d1, d2, HO⟩ := hrel
    by_cases hlt : 0 ≤ d
    · have hu := HU.out d x.toNat hlt
      have CW := HRW.out _ d HI1.out hlt d2
      cases hw : W d
      · rw [hw] at hu CW
        simp only [Bool.false_eq_true, if_false] at hu
        have HN : Hid (o = KM.down W (d - 1 + 1).toNat (d - 1) x.toNat) := Lib.hid (by rw [HO.out, hu])
        have HCW := Lib.hid CW
        have hx0 : (x == 0) = false := beq_f (by omega)
        clear hu CW hw
        go_wp2_with (go_at_call 62; refine HCW.out.mono ?_; rintro e w' ⟨rfl, rfl⟩)
        go_round
        case rel => exact ⟨x, d - 1, rfl, by go_num, x1, x2, by omega, by omega, HN⟩
        case measure => simp [intOf]; omega
      · rw [hw] at hu CW
        simp only [if_true] at hu
        have HCW := Lib.hid CW
        by_cases hx : x = 1
        · rw [if_pos (by omega)] at hu
          have HN : Hid (o = some d) := Lib.hid (by rw [HO.out, hu])
          have hx0 : (x - 1 == 0) = true := beq_t (by omega)
          clear hu CW hw hx
          go_wp2_with (go_at_call 62; refine HCW.out.mono ?_; rintro e w' ⟨rfl, rfl⟩)
          go_ret2
          exact ⟨by rw [HN.out]; rfl, _, rfl⟩
        · rw [if_neg (by omega), show x.toNat - 1 = (x - 1).toNat by omega] at hu
          have HN : Hid (o = KM.down W (d - 1 + 1).toNat (d - 1) (x - 1).toNat) := Lib.hid (by rw [HO.out, hu])
          have hx0 : (x - 1 == 0) = false := beq_f (by omega)
          have x3 : 1 ≤ x - 1 := by omega
          clear hu CW hw hx
          go_wp2_with (go_at_call 62; refine HCW.out.mono ?_; rintro e w' ⟨rfl, rfl⟩)
          go_round
          case rel => exact ⟨x - 1, d - 1, rfl, by go_num, x3, by omega, by omega, by omega, HN⟩
          case measure => simp [intOf]; omega
    · have HN : Hid (o = none) := Lib.hid (by rw [HO.out, show (d + 1).toNat = 0 by omega]; rfl)
      go_wp2
      go_ret2
      exact ⟨by rw [HN.out]; rfl, _, rfl⟩

theorem toward_no (A : Option Addr) (zs : List Int) (cap : Nat) (day n by_ : Int) (w : World) (hI : Ints w A zs) (hc : KM.cdE zs day ≠ 0) :
    Calls Try.prog 63 #[.slice A zs.length cap, .int .i64 day, .int .i64 n, .int .i64 by_] w fun e w' => e = .returned (.tuple #[.int .i64 0, .int .i64 (KM.cdE zs day)]) ∧ ∃ q, w' = w.drewN q := by
  have C := rworks_any A zs cap day w hI
  generalize KM.wkN zs day = wkk at *
  generalize KM.cdE zs day = r at *
  have HC := Lib.hid C
  have hb := bne0 hc
  clear C hc hI
  go_enter Try.func63, Try.ntmps63
  go_wp2_with fail
  refine HC.out.mono ?_
  rintro e w1 ⟨rfl, q, rfl⟩
  go_wp2
  go_ret2
  exact ⟨rfl, _, rfl⟩
end Go.Proofs.Ythahfcehfagepaa
