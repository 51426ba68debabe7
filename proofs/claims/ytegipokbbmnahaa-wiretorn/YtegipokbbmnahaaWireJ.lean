/- Contracts: numbers at a place, the reference's. -/
import Derived.Test.YtegipokbbmnahaaWireG
namespace Go.Proofs.Ytegipokbbmnahaa
open Go.RowKit
set_option linter.unusedVariables false

/-- the place of the last byte of the number at p, or -1 -/
def lastOf (m : List UInt8) (p : Nat) : Int := match XM.code m with
  | none => -1
  | some c => (p : Int) + c.length - 1

theorem get_drop {l : List UInt8} {p j : Nat} (h : p + j < l.length) : (l.drop p)[j]'(by rw [List.length_drop]; omega) = l[p + j] := by simp

set_option maxHeartbeats 1000000 in
theorem rlast_any (A : Option Addr) (n cap : Nat) (l : List UInt8) (p : Nat) (w : World) (hn : n = l.length) (hA : Bytes w A l) (hl : l.length ≤ 1000000) (hp : p ≤ l.length) :
    Calls Try.prog 69 #[.slice A n cap, .int .i64 (p : Int)] w fun e w' => e = .returned (.int .i64 (lastOf (l.drop p) p)) ∧ w = w' := by
  subst hn
  generalize hr : lastOf (l.drop p) p = res
  have HR := Lib.hid hr
  clear hr
  go_enter Try.func69, Try.ntmps69
  go_wp2
  go_loop [5] (fun i => ∃ k : Nat, p ≤ k ∧ k ≤ l.length ∧ i = .int .i64 k ∧ Hid (((l.drop p).take (k - p)).all XM.big = true)) (fun i => l.length - (intOf i).toNat)
  case atStart => exact ⟨p, by omega, hp, rfl, Lib.hid (by simp)⟩
  case round =>
    obtain ⟨k, hk1, hk, rfl, HA'⟩ := hrel
    by_cases hlt : k < l.length
    · obtain ⟨b, off, n, rfl, hb, hcell, HN, n0, n1⟩ := hA.get hlt
      have HA := Lib.hid hA
      clear hA
      have hd : k - p < (l.drop p).length := by rw [List.length_drop]; omega
      have hg : (l.drop p)[k - p] = l[k] := by
        have := get_drop (l := l) (p := p) (j := k - p) (by omega)
        rw [this]; congr 1; omega
      by_cases h128 : n < 128
      · have HF : Hid (res = (k : Int)) := Lib.hid (by
          rw [← HR.out]
          unfold lastOf
          rw [XM.code_some hd HA'.out (by rw [hg]; have := HN.out; omega)]
          show (p : Int) + (((l.drop p).take (k - p + 1)).length : Int) - 1 = k
          rw [List.length_take]; omega)
        clear hd hg
        go_wp2
        go_ret
        exact ⟨by rw [HF.out]; rfl, rfl⟩
      · have HS : Hid (((l.drop p).take (k + 1 - p)).all XM.big = true) := Lib.hid (by
          rw [show k + 1 - p = k - p + 1 by omega, WM.take_snoc _ _ hd, WM.all_snoc, HA'.out, hg]
          have := HN.out
          simp [XM.big]; omega)
        clear hd hg
        have c1 : decide (n < 128) = false := decide_eq_false h128
        go_wp2
        go_round
        case rel => exact ⟨k + 1, by omega, by omega, by go_num, HS⟩
        case measure => simp [intOf]; omega
    · obtain rfl : k = l.length := by omega
      have HF : Hid (res = -1) := Lib.hid (by
        rw [← HR.out]
        unfold lastOf
        have := HA'.out
        rw [List.take_of_length_le (by rw [List.length_drop]; omega)] at this
        rw [XM.code_none this])
      go_wp2
      go_ret
      exact ⟨by rw [HF.out]; rfl, rfl⟩

theorem code_split {m c : List UInt8} (h : XM.code m = some c) : 0 < c.length ∧ c.length ≤ m.length ∧ c = m.take c.length := by
  obtain ⟨r, hr⟩ := XM.code_take h
  have := XM.code_ne h
  refine ⟨List.length_pos_iff.2 this, by rw [hr, List.length_append]; omega, by rw [hr]; simp⟩
theorem code_get {l c : List UInt8} {p : Nat} (h : c = (l.drop p).take c.length) (t : Nat) (ht : t < c.length) (hl : p + t < l.length) : c[t] = l[p + t] := by
  have h2 : t < ((l.drop p).take c.length).length := by rw [← h]; exact ht
  have h1 : c[t] = ((l.drop p).take c.length)[t] := by congr 1
  rw [h1, List.getElem_take]
  exact get_drop hl
theorem decW_drop (c : List UInt8) (t : Nat) (ht : t < c.length) : XM.decW (c.drop t) = c[t].toNat % 128 + 128 * XM.decW (c.drop (t + 1)) := by
  rw [List.drop_eq_getElem_cons ht]; rfl
theorem decW_drop_le (c : List UInt8) (t : Nat) : XM.decW (c.drop t) ≤ XM.decW c := by
  induction t with
  | zero => simp
  | succ t ih =>
    by_cases ht : t < c.length
    · have := decW_drop c t ht
      omega
    · rw [List.drop_eq_nil_of_le (by omega)]; simp [XM.decW]
theorem down_range {u : Nat} (h : u < 18446744073709551616) : -9223372036854775808 ≤ XM.down u ∧ XM.down u ≤ 9223372036854775807 := by unfold XM.down; split <;> omega

set_option maxHeartbeats 4000000 in
set_option maxRecDepth 100000 in
theorem rint4_any (A : Option Addr) (n cap : Nat) (l : List UInt8) (p : Nat) (w : World) (hn : n = l.length) (hA : Bytes w A l) (hl : l.length ≤ 1000000) (hp : p ≤ l.length) :
    Calls Try.prog 36 #[.slice A n cap, .int .i64 (p : Int)] w fun e w' => e = .returned (.tuple #[.int .i64 (XM.intN (l.drop p)), .int .i64 (offOr (XM.intE (l.drop p)) ((p : Int) + XM.intK (l.drop p))), .int .i64 (XM.intE (l.drop p))]) ∧ w = w' := by
  subst hn
  have CL := rlast_any A l.length cap l p w rfl hA hl hp
  have d1 : ¬ (p : Int) < 0 := by omega
  cases hcode : XM.code (l.drop p) with
  | none =>
    have e1 : XM.intE (l.drop p) = 6 := by unfold XM.intE; rw [hcode]
    have e2 : XM.intN (l.drop p) = 0 := by unfold XM.intN; rw [hcode]
    rw [e1, e2, offOr_no (by omega)]
    have e3 : lastOf (l.drop p) p = -1 := by unfold lastOf; rw [hcode]
    rw [e3] at CL
    have HCL := Lib.hid CL
    clear CL e1 e2 e3 hcode hA
    go_enter Try.func36, Try.ntmps36
    go_wp2_with fail
    (with_reducible refine HCL.out.mono ?_)
    rintro e w' ⟨rfl, rfl⟩
    go_wp2
    go_ret3
    exact ⟨rfl, rfl⟩
  | some c =>
    obtain ⟨c1, c2, c3⟩ := code_split hcode
    rw [List.length_drop] at c2
    obtain ⟨j, hj⟩ : ∃ j : Nat, c.length = j + 1 := ⟨c.length - 1, by omega⟩
    have e3 : lastOf (l.drop p) p = ((p + j : Nat) : Int) := by unfold lastOf; rw [hcode]; show (p : Int) + c.length - 1 = _; omega
    rw [e3] at CL
    have hkl : p + j < l.length := by omega
    have hjd : j < (l.drop p).length := by rw [List.length_drop]; omega
    have hg : (l.drop p)[j] = l[p + j] := get_drop hkl
    obtain ⟨b, off, v, rfl, hb, hcell, HV, v0, v1⟩ := hA.get hkl
    have rgt := XM.right_last_eq hjd
    rw [← hj, ← c3, hg] at rgt
    have hq0 : (l[p + j] == 0) = (v == 0) := by
      rw [Bool.eq_iff_iff]
      simp only [beq_iff_eq]
      have := HV.out
      constructor
      · intro h; rw [h] at this; exact this.symm
      · intro h; exact UInt8.toNat_inj.1 (by have e0 : (0 : UInt8).toNat = 0 := rfl; omega)
    have hq1 : decide (1 < l[p + j].toNat) = decide (1 < v) := by rw [decide_eq_decide]; have := HV.out; omega
    rw [hq0, hq1] at rgt
    have bad : XM.right c = false → XM.intE (l.drop p) = 5 ∧ XM.intN (l.drop p) = 0 := fun h => by
      unfold XM.intE XM.intN; rw [hcode]; simp [h]
    have good : XM.right c = true → XM.intE (l.drop p) = 0 ∧ XM.intN (l.drop p) = XM.down (XM.decW c) ∧ XM.intK (l.drop p) = j + 1 := fun h => by
      unfold XM.intE XM.intN XM.intK; rw [hcode]; simp [h, hj]
    have hcget := code_get c3
    have dlt : XM.right c = true → XM.decW c < 18446744073709551616 := fun h => XM.dec_lt (XM.code_ne hcode) h
    generalize XM.intN (l.drop p) = iN at *
    generalize XM.intE (l.drop p) = iE at *
    generalize XM.intK (l.drop p) = iK at *
    have HCL := Lib.hid CL; have RGT := Lib.hid rgt; have HA := Lib.hid hA; have BAD := Lib.hid bad; have GOOD := Lib.hid good; have HCG := Lib.hid hcget; have DLT := Lib.hid dlt; have HJ := Lib.hid hj
    have l1 : p ≤ p + j := by omega
    have l2 : p + j ≤ p + j := by omega
    have ej : ((p + j : Nat) : Int) - (p : Int) = (j : Int) := by omega
    clear CL e3 hcode hA rgt bad good hq0 hq1 hcget dlt c3 hg hjd hj
    generalize hk : p + j = k at *
    have hk1 : k ≤ p + j := by omega
    have hk2 : p + j ≤ k := by omega
    clear hk l2
    by_cases j9 : 9 < j
    · have hB := BAD.out (by rw [RGT.out, decide_eq_false (show ¬ j ≤ 9 by omega)]; rfl)
      obtain ⟨rfl, rfl⟩ := hB
      rw [offOr_no (by omega)]
      go_enter Try.func36, Try.ntmps36
      go_wp2_with fail
      (with_reducible refine HCL.out.mono ?_)
      rintro e w' ⟨rfl, rfl⟩
      go_wp2
      go_ret3
      exact ⟨rfl, rfl⟩
    · have c9 : decide (9 < j) = false := decide_eq_false j9
      have g9 : decide (j ≤ 9) = true := decide_eq_true (by omega)
      by_cases hz : 0 < j ∧ v = 0
      · have pk : p < k := by omega
        have cv : (v == 0) = true := beq_t hz.2
        have hB := BAD.out (by rw [RGT.out, decide_eq_true hz.1, cv]; simp)
        obtain ⟨rfl, rfl⟩ := hB
        rw [offOr_no (by omega)]
        clear hz g9
        go_enter Try.func36, Try.ntmps36
        go_wp2_with fail
        (with_reducible refine HCL.out.mono ?_)
        rintro e w' ⟨rfl, rfl⟩
        go_wp2
        go_ret3
        exact ⟨rfl, rfl⟩
      · by_cases hy : j = 9 ∧ 1 < v
        · have pk : p < k := by omega
          have cv : (v == 0) = false := beq_f (by omega)
          have cj : ((j : Int) == 9) = true := beq_t (by omega)
          have hv1 := hy.2
          have hB := BAD.out (by
            rw [RGT.out, show (j == 9) = true by simpa using hy.1, decide_eq_true hy.2]; simp)
          obtain ⟨rfl, rfl⟩ := hB
          rw [offOr_no (by omega)]
          clear hz g9 hy
          go_enter Try.func36, Try.ntmps36
          go_wp2_with fail
          (with_reducible refine HCL.out.mono ?_)
          rintro e w' ⟨rfl, rfl⟩
          go_wp2
          go_ret3
          exact ⟨rfl, rfl⟩
        · have hR : XM.right c = true := by
            rw [RGT.out, g9]
            by_cases a0 : 0 < j
            · have cv : (v == 0) = false := beq_f (fun h => hz ⟨a0, h⟩)
              rw [cv]
              by_cases a9 : j = 9
              · rw [decide_eq_false (show ¬ 1 < v from fun h => hy ⟨a9, h⟩)]; simp
              · rw [show (j == 9) = false by simpa using a9]; simp
            · rw [decide_eq_false a0, show (j == 9) = false by simp; omega]; simp
          obtain ⟨g1, g2, g3⟩ := GOOD.out hR
          have hD := DLT.out hR
          subst g1
          rw [offOr_ok rfl]
          have hdn := down_range hD
          have HG2 := Lib.hid g2
          have HK : Hid ((p : Int) + (iK : Int) = (k : Int) + 1) := Lib.hid (by rw [g3]; omega)
          clear g2 g3 hR BAD GOOD RGT DLT
          by_cases a0 : 0 < j
          · have pk : p < k := by omega
            have cv : (v == 0) = false := beq_f (fun h => hz ⟨a0, h⟩)
            by_cases a9 : j = 9
            · have cj : ((j : Int) == 9) = true := beq_t (by omega)
              have cv1 : decide (1 < v) = false := decide_eq_false (fun h => hy ⟨a9, h⟩)
              clear hz hy a9 g9
              go_enter Try.func36, Try.ntmps36
              go_wp2_with fail
              (with_reducible refine HCL.out.mono ?_)
              rintro e w' ⟨rfl, rfl⟩
              go_wp2
              clear hcell v0 v1 HV
              go_loop [8, 9] (fun u i => ∃ t x : Nat, t ≤ j + 1 ∧ i = .int .i64 ((p : Int) + (t : Int) - 1) ∧ u = .int .u64 (x : Int) ∧ Hid (XM.decW (c.drop t) = x)) (fun _ i => (intOf i + 1 - (p : Int)).toNat)
              case atStart => exact ⟨j + 1, 0, by omega, by congr 1; omega, rfl, Lib.hid (by rw [List.drop_eq_nil_of_le (by rw [HJ.out]; omega)]; rfl)⟩
              case round =>
                obtain ⟨t, x, ht, rfl, rfl, HX⟩ := hrel
                cases t with
                | zero =>
                  have hx := HX.out
                  rw [List.drop_zero] at hx
                  subst hx
                  have e0 : (p : Int) + ((0 : Nat) : Int) - 1 = (p : Int) - 1 := by omega
                  rw [e0]
                  have cge : decide ((p : Int) ≤ (p : Int) - 1) = false := decide_eq_false (by omega)
                  clear e0 HX HCL
                  by_cases par : XM.decW c % 2 = 1
                  · have HU : Hid (-((XM.decW c : Int) / 2) - 1 = iN) := Lib.hid (by rw [HG2.out]; unfold XM.down; rw [if_pos par]; omega)
                    have cp : ((XM.decW c : Int) % 2 == 1) = true := beq_t (by omega)
                    clear par
                    go_wp2
                    go_ret3
                    exact ⟨ret3_int HU.out HK.out.symm rfl, rfl⟩
                  · have HU : Hid ((XM.decW c : Int) / 2 = iN) := Lib.hid (by rw [HG2.out]; unfold XM.down; rw [if_neg par]; omega)
                    have cp : ((XM.decW c : Int) % 2 == 1) = false := beq_f (by omega)
                    clear par
                    go_wp2
                    go_ret3
                    exact ⟨ret3_int HU.out HK.out.symm rfl, rfl⟩
                | succ t1 =>
                  have hq : p + t1 < l.length := by omega
                  obtain ⟨b2, off2, y, e2, hb2, hcell2, HY, y0, y1⟩ := HA.out.get hq
                  injection e2 with e2
                  injection e2 with e2 e3
                  subst e2 e3
                  have hd := decW_drop c t1 (by rw [HJ.out]; omega)
                  rw [HCG.out t1 (by rw [HJ.out]; omega) hq, HX.out] at hd
                  have hle := decW_drop_le c t1
                  have HNX : Hid ((x : Int) * 128 + y % 128 = ((XM.decW (c.drop t1) : Nat) : Int)) := Lib.hid (by rw [hd, ← HY.out]; omega)
                  have bx : (x : Int) * 128 + y % 128 < 18446744073709551616 := by rw [HNX.out]; omega
                  have ei : (p : Int) + ((t1 + 1 : Nat) : Int) - 1 = ((p + t1 : Nat) : Int) := by omega
                  have HEI : Hid (((p + t1 : Nat) : Int) - 1 = (p : Int) + (t1 : Int) - 1) := Lib.hid (by omega)
                  rw [ei]
                  have hpq : p ≤ p + t1 := by omega
                  clear hd hle ei HX HY
                  generalize hqq : p + t1 = q at *
                  clear hqq
                  go_wp2
                  go_round
                  case rel => exact ⟨t1, XM.decW (c.drop t1), by omega, by rw [HEI.out], by rw [HNX.out], Lib.hid rfl⟩
                  case measure => simp [intOf]; omega
            · have cj : ((j : Int) == 9) = false := beq_f (by omega)
              clear hz hy a9 g9
              go_enter Try.func36, Try.ntmps36
              go_wp2_with fail
              (with_reducible refine HCL.out.mono ?_)
              rintro e w' ⟨rfl, rfl⟩
              go_wp2
              clear hcell v0 v1 HV
              go_loop [8, 9] (fun u i => ∃ t x : Nat, t ≤ j + 1 ∧ i = .int .i64 ((p : Int) + (t : Int) - 1) ∧ u = .int .u64 (x : Int) ∧ Hid (XM.decW (c.drop t) = x)) (fun _ i => (intOf i + 1 - (p : Int)).toNat)
              case atStart => exact ⟨j + 1, 0, by omega, by congr 1; omega, rfl, Lib.hid (by rw [List.drop_eq_nil_of_le (by rw [HJ.out]; omega)]; rfl)⟩
              case round =>
                obtain ⟨t, x, ht, rfl, rfl, HX⟩ := hrel
                cases t with
                | zero =>
                  have hx := HX.out
                  rw [List.drop_zero] at hx
                  subst hx
                  have e0 : (p : Int) + ((0 : Nat) : Int) - 1 = (p : Int) - 1 := by omega
                  rw [e0]
                  have cge : decide ((p : Int) ≤ (p : Int) - 1) = false := decide_eq_false (by omega)
                  clear e0 HX HCL
                  by_cases par : XM.decW c % 2 = 1
                  · have HU : Hid (-((XM.decW c : Int) / 2) - 1 = iN) := Lib.hid (by rw [HG2.out]; unfold XM.down; rw [if_pos par]; omega)
                    have cp : ((XM.decW c : Int) % 2 == 1) = true := beq_t (by omega)
                    clear par
                    go_wp2
                    go_ret3
                    exact ⟨ret3_int HU.out HK.out.symm rfl, rfl⟩
                  · have HU : Hid ((XM.decW c : Int) / 2 = iN) := Lib.hid (by rw [HG2.out]; unfold XM.down; rw [if_neg par]; omega)
                    have cp : ((XM.decW c : Int) % 2 == 1) = false := beq_f (by omega)
                    clear par
                    go_wp2
                    go_ret3
                    exact ⟨ret3_int HU.out HK.out.symm rfl, rfl⟩
                | succ t1 =>
                  have hq : p + t1 < l.length := by omega
                  obtain ⟨b2, off2, y, e2, hb2, hcell2, HY, y0, y1⟩ := HA.out.get hq
                  injection e2 with e2
                  injection e2 with e2 e3
                  subst e2 e3
                  have hd := decW_drop c t1 (by rw [HJ.out]; omega)
                  rw [HCG.out t1 (by rw [HJ.out]; omega) hq, HX.out] at hd
                  have hle := decW_drop_le c t1
                  have HNX : Hid ((x : Int) * 128 + y % 128 = ((XM.decW (c.drop t1) : Nat) : Int)) := Lib.hid (by rw [hd, ← HY.out]; omega)
                  have bx : (x : Int) * 128 + y % 128 < 18446744073709551616 := by rw [HNX.out]; omega
                  have ei : (p : Int) + ((t1 + 1 : Nat) : Int) - 1 = ((p + t1 : Nat) : Int) := by omega
                  have HEI : Hid (((p + t1 : Nat) : Int) - 1 = (p : Int) + (t1 : Int) - 1) := Lib.hid (by omega)
                  rw [ei]
                  have hpq : p ≤ p + t1 := by omega
                  clear hd hle ei HX HY
                  generalize hqq : p + t1 = q at *
                  clear hqq
                  go_wp2
                  go_round
                  case rel => exact ⟨t1, XM.decW (c.drop t1), by omega, by rw [HEI.out], by rw [HNX.out], Lib.hid rfl⟩
                  case measure => simp [intOf]; omega
          · have pk : decide (p < k) = false := decide_eq_false (by omega)
            have cj : ((j : Int) == 9) = false := beq_f (by omega)
            clear hz hy g9
            go_enter Try.func36, Try.ntmps36
            go_wp2_with fail
            (with_reducible refine HCL.out.mono ?_)
            rintro e w' ⟨rfl, rfl⟩
            go_wp2
            clear hcell v0 v1 HV
            go_loop [8, 9] (fun u i => ∃ t x : Nat, t ≤ j + 1 ∧ i = .int .i64 ((p : Int) + (t : Int) - 1) ∧ u = .int .u64 (x : Int) ∧ Hid (XM.decW (c.drop t) = x)) (fun _ i => (intOf i + 1 - (p : Int)).toNat)
            case atStart => exact ⟨j + 1, 0, by omega, by congr 1; omega, rfl, Lib.hid (by rw [List.drop_eq_nil_of_le (by rw [HJ.out]; omega)]; rfl)⟩
            case round =>
              obtain ⟨t, x, ht, rfl, rfl, HX⟩ := hrel
              cases t with
              | zero =>
                have hx := HX.out
                rw [List.drop_zero] at hx
                subst hx
                have e0 : (p : Int) + ((0 : Nat) : Int) - 1 = (p : Int) - 1 := by omega
                rw [e0]
                have cge : decide ((p : Int) ≤ (p : Int) - 1) = false := decide_eq_false (by omega)
                clear e0 HX HCL
                by_cases par : XM.decW c % 2 = 1
                · have HU : Hid (-((XM.decW c : Int) / 2) - 1 = iN) := Lib.hid (by rw [HG2.out]; unfold XM.down; rw [if_pos par]; omega)
                  have cp : ((XM.decW c : Int) % 2 == 1) = true := beq_t (by omega)
                  clear par
                  go_wp2
                  go_ret3
                  exact ⟨ret3_int HU.out HK.out.symm rfl, rfl⟩
                · have HU : Hid ((XM.decW c : Int) / 2 = iN) := Lib.hid (by rw [HG2.out]; unfold XM.down; rw [if_neg par]; omega)
                  have cp : ((XM.decW c : Int) % 2 == 1) = false := beq_f (by omega)
                  clear par
                  go_wp2
                  go_ret3
                  exact ⟨ret3_int HU.out HK.out.symm rfl, rfl⟩
              | succ t1 =>
                have hq : p + t1 < l.length := by omega
                obtain ⟨b2, off2, y, e2, hb2, hcell2, HY, y0, y1⟩ := HA.out.get hq
                injection e2 with e2
                injection e2 with e2 e3
                subst e2 e3
                have hd := decW_drop c t1 (by rw [HJ.out]; omega)
                rw [HCG.out t1 (by rw [HJ.out]; omega) hq, HX.out] at hd
                have hle := decW_drop_le c t1
                have HNX : Hid ((x : Int) * 128 + y % 128 = ((XM.decW (c.drop t1) : Nat) : Int)) := Lib.hid (by rw [hd, ← HY.out]; omega)
                have bx : (x : Int) * 128 + y % 128 < 18446744073709551616 := by rw [HNX.out]; omega
                have ei : (p : Int) + ((t1 + 1 : Nat) : Int) - 1 = ((p + t1 : Nat) : Int) := by omega
                have HEI : Hid (((p + t1 : Nat) : Int) - 1 = (p : Int) + (t1 : Int) - 1) := Lib.hid (by omega)
                rw [ei]
                have hpq : p ≤ p + t1 := by omega
                clear hd hle ei HX HY
                generalize hqq : p + t1 = q at *
                clear hqq
                go_wp2
                go_round
                case rel => exact ⟨t1, XM.decW (c.drop t1), by omega, by rw [HEI.out], by rw [HNX.out], Lib.hid rfl⟩
                case measure => simp [intOf]; omega
end Go.Proofs.Ytegipokbbmnahaa
