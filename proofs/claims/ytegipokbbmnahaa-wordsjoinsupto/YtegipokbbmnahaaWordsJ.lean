/- Contracts: Text and Money, the reference's. -/
import Derived.Test.YtegipokbbmnahaaWordsI
namespace Go.Proofs.Ytegipokbbmnahaa
open Go.RowKit
set_option linter.unusedVariables false

theorem one_byte (w : World) (x : UInt8) : Bytes (w.alloc (.cells #[.int .u8 (x.toNat : Int)] 5)) (some ⟨w.heap.size, 0, none⟩) [x] := by
  refine ⟨by simp [maxLen], .inr ⟨w.heap.size, 0, rfl, by simp, fun i hi => ?_⟩⟩
  rw [Nat.zero_add]
  have hi' : i = 0 := by simpa using hi
  subst hi'
  rw [World.cell?_alloc_mark]
  rfl
theorem tmod_neg (m : Nat) : (-(m : Int)).tmod 10 = -((m % 10 : Nat) : Int) := by rw [Int.neg_tmod, Int.natCast_emod]; rfl
theorem tdiv_neg (m : Nat) : (-(m : Int)).tdiv 10 = -((m / 10 : Nat) : Int) := by rw [Int.neg_tdiv]; rfl
theorem rtext_aux (k : Nat) : ∀ (n : Int) (w : World), n ≤ 0 → -9223372036854775808 ≤ n → n.natAbs = k →
    Calls Try.prog 65 #[.int .i64 n] w fun e w' => e = .returned (.string (S (WM.dec n.natAbs))) ∧ Below w.heap.size w w' := by
  induction k using Nat.strongRecOn with
  | ind k ih =>
  intro n w h0 h1 hk
  have HK := Lib.hid hk
  clear hk
  have IH := Lib.hid ih
  clear ih
  generalize hr : S (WM.dec n.natAbs) = res
  have HR := Lib.hid hr
  clear hr
  have hm : n.tmod 10 = -((n.natAbs % 10 : Nat) : Int) := by
    have := tmod_neg n.natAbs
    rwa [show -(n.natAbs : Int) = n by omega] at this
  have hq : n.tdiv 10 = -((n.natAbs / 10 : Nat) : Int) := by
    have := tdiv_neg n.natAbs
    rwa [show -(n.natAbs : Int) = n by omega] at this
  have t1 : -9 ≤ n.tmod 10 := by omega
  have t2 : n.tmod 10 ≤ 0 := by omega
  have t3 : -922337203685477580 ≤ n.tdiv 10 := by omega
  have t4 : n.tdiv 10 ≤ 0 := by omega
  have hx : ((UInt8.ofNat (48 + n.natAbs % 10)).toNat : Int) = 48 - n.tmod 10 := by rw [UInt8.toNat_ofNat', hm]; omega
  have hcv := str_of (one_byte w (UInt8.ofNat (48 + n.natAbs % 10))) 1
  rw [hx] at hcv
  have HM := Lib.hid hm; have HQ := Lib.hid hq
  clear hm hq hx
  have hz : (S [UInt8.ofNat (48 + n.natAbs % 10)]).size = 1 := by rw [S_size]; rfl
  have HL := Lib.hid (L_S [UInt8.ofNat (48 + n.natAbs % 10)])
  generalize S [UInt8.ofNat (48 + n.natAbs % 10)] = ds at *
  have z1 : ds.size ≤ 1 := by omega
  clear hz
  have hcv2 : (convert 40 9 (.slice (some ⟨w.heap.size, 0, none⟩) 1 1)).run Try.prog (w.alloc (.cells #[.int .u8 (48 - n.tmod 10)] 5)) = .ok (.string ds) (w.alloc (.cells #[.int .u8 (48 - n.tmod 10)] 5)) := hcv
  clear hcv
  have hB : Below w.heap.size w (w.alloc (.cells #[.int .u8 (48 - n.tmod 10)] 5)) := (Below.refl _ _).alloc (Nat.le_refl _) _
  by_cases h10 : -10 < n
  · have HF : Hid (ds = res) := Lib.hid (by
      rw [← HR.out, WM.dec_small (by omega)]
      apply L_inj
      rw [HL.out, L_S, show n.natAbs % 10 = n.natAbs by omega])
    go_enter Try.func65, Try.ntmps65
    go_wp2_with fail
    go_ret
    exact ⟨by rw [← HF.out]; rfl, hB⟩
  · have hlt : (n.tdiv 10).natAbs < k := by rw [HQ.out, ← HK.out]; omega
    have HD : Hid (WM.dec n.natAbs = WM.dec (n.tdiv 10).natAbs ++ [UInt8.ofNat (48 + n.natAbs % 10)]) := Lib.hid (by
      rw [WM.dec_big (by omega), HQ.out, show (-((n.natAbs / 10 : Nat) : Int)).natAbs = n.natAbs / 10 by omega])
    have hdl := dec_len (n := (n.tdiv 10).natAbs) (by omega)
    have HLT := Lib.hid hlt
    have HBB := Lib.hid hB
    clear hlt hB
    have d10 : decide (-10 < n) = false := decide_eq_false h10
    go_enter Try.func65, Try.ntmps65
    go_wp2_with fail
    refine (IH.out _ HLT.out (n.tdiv 10) _ t4 (by omega) rfl).mono ?_
    rintro e w1 ⟨rfl, b1⟩
    have hsz : (S (WM.dec (n.tdiv 10).natAbs)).size ≤ 20 := by rw [S_size]; exact hdl
    have HF : Hid (S (WM.dec (n.tdiv 10).natAbs) ++ ds = res) := Lib.hid (by
      rw [← HR.out]
      apply L_inj
      rw [L_append, L_S, L_S, HL.out, HD.out])
    generalize S (WM.dec (n.tdiv 10).natAbs) = pre at *
    have hadd := run_string_add_sum (P := Try.prog) w1 pre ds (by omega)
    rw [HF.out] at hadd
    have HB1 := Lib.hid (HBB.out.trans (b1.mono (by simp)))
    clear b1
    go_wp2_with fail
    go_ret
    exact ⟨rfl, HB1.out⟩
theorem rtext_any (n : Int) (w : World) (h0 : n ≤ 0) (h1 : -9223372036854775808 ≤ n) :
    Calls Try.prog 65 #[.int .i64 n] w fun e w' => e = .returned (.string (S (WM.dec n.natAbs))) ∧ Below w.heap.size w w' := rtext_aux _ n w h0 h1 rfl

theorem rTextTop_any (n : Int) (w : World) (h1 : -9223372036854775808 ≤ n) (h2 : n ≤ 9223372036854775807) :
    Calls Try.prog 22 #[.int .i64 n] w fun e w' => e = .returned (.string (S (WM.textL n))) ∧ Below w.heap.size w w' := by
  generalize hr : S (WM.textL n) = res
  have HR := Lib.hid hr
  clear hr
  by_cases h : n < 0
  · go_enter Try.func22, Try.ntmps22
    go_wp2_with fail
    refine (rtext_any n w (by omega) h1).mono ?_
    rintro e w1 ⟨rfl, b1⟩
    have hsz : (S (WM.dec n.natAbs)).size ≤ 20 := by rw [S_size]; exact dec_len (by omega)
    have HF : Hid (ByteArray.mk #[45] ++ S (WM.dec n.natAbs) = res) := Lib.hid (by
      rw [← HR.out]
      apply L_inj
      rw [L_append, L_S, L_S]
      unfold WM.textL
      rw [if_pos h]; rfl)
    generalize S (WM.dec n.natAbs) = pre at *
    have hadd := run_string_add_sum (P := Try.prog) w1 ⟨#[45]⟩ pre (by rw [show (ByteArray.mk #[45]).size = 1 from rfl]; omega)
    rw [HF.out] at hadd
    have HB1 := Lib.hid b1
    clear b1
    go_wp2_with fail
    go_ret
    exact ⟨rfl, HB1.out⟩
  · go_enter Try.func22, Try.ntmps22
    go_wp2_with fail
    refine (rtext_any (-n) w (by omega) (by omega)).mono ?_
    rintro e w1 ⟨rfl, b1⟩
    have HF : Hid (S (WM.dec (-n).natAbs) = res) := Lib.hid (by
      rw [← HR.out]
      unfold WM.textL
      rw [if_neg (by omega), show (-n).natAbs = n.natAbs by omega])
    rw [HF.out]
    have HB1 := Lib.hid b1
    clear b1
    go_wp2_with fail
    go_ret
    exact ⟨rfl, HB1.out⟩

theorem dec_one (d : Nat) (h : d < 10) : S (WM.dec d) = S [UInt8.ofNat (48 + d)] := by rw [WM.dec_small h]

set_option maxHeartbeats 2000000 in
theorem rMoneyTop_any (n : Int) (w : World) (h1 : -9223372036854775808 ≤ n) (h2 : n ≤ 9223372036854775807) :
    Calls Try.prog 24 #[.int .i64 n] w fun e w' => e = .returned (.string (S (WM.moneyL n))) ∧ Below w.heap.size w w' := by
  generalize hr : S (WM.moneyL n) = res
  have HR := Lib.hid hr
  clear hr
  obtain ⟨m, hm⟩ : ∃ m : Nat, n.natAbs = m := ⟨_, rfl⟩
  have a1 : (-((m : Int) / 100)).natAbs = m / 100 := by omega
  have a3 : (-((m : Int) % 10)).natAbs = m % 10 := by omega
  have a4 : (-((m : Int) / 10 % 10)).natAbs = m / 10 % 10 := by omega
  have HA1 := Lib.hid a1; have HA3 := Lib.hid a3; have HA4 := Lib.hid a4
  have hle : m ≤ 9223372036854775808 := by omega
  have HE : Hid (∀ sg : ByteArray, L sg = (if n < 0 then [45] else []) → ((sg ++ S (WM.dec (m / 100)) ++ ByteArray.mk #[46]) ++ S (WM.dec (m / 10 % 10))) ++ S (WM.dec (m % 10)) = res) := Lib.hid (by
    intro sg hsg
    rw [← HR.out]
    apply L_inj
    have e46 : L ⟨#[46]⟩ = [46] := rfl
    rw [L_append, L_append, L_append, L_append, hsg, L_S, L_S, L_S, L_S, e46, WM.dec_small (show m / 10 % 10 < 10 by omega), WM.dec_small (show m % 10 < 10 by omega)]
    unfold WM.moneyL WM.money
    rw [hm]
    split <;> simp)
  have hd := dec_len (n := m / 100) (by omega)
  clear a1 a3 a4
  by_cases h : n < 0
  · have hn : n = -(m : Int) := by omega
    have HE2 := Lib.hid (HE.out ⟨#[45]⟩ (by rw [if_pos h]; rfl))
    clear hm HE HR
    subst hn
    go_enter Try.func24, Try.ntmps24
    go_wp2_with fail
    (with_reducible refine (rtext_any (-((m : Int) / 100)) w (by omega) (by omega)).mono ?_)
    rw [HA1.out]
    rintro e w1 ⟨rfl, b1⟩
    have HB1 := Lib.hid b1
    clear b1
    have s1 : (S (WM.dec (m / 100))).size ≤ 20 := by rw [S_size]; exact hd
    generalize S (WM.dec (m / 100)) = x1 at *
    have z1 : (ByteArray.mk #[45] ++ x1).size ≤ 21 := by rw [ByteArray.size_append, show (ByteArray.mk #[45]).size = 1 from rfl]; omega
    have hadd := run_string_add_sum (P := Try.prog) w1 ⟨#[45]⟩ x1 (by rw [show (ByteArray.mk #[45]).size = 1 from rfl]; omega)
    have z2 : (ByteArray.mk #[45] ++ x1 ++ ByteArray.mk #[46]).size ≤ 22 := by rw [ByteArray.size_append, show (ByteArray.mk #[46]).size = 1 from rfl]; omega
    have hadd2 := run_string_add_sum (P := Try.prog) w1 (ByteArray.mk #[45] ++ x1) ⟨#[46]⟩ (by rw [show (ByteArray.mk #[46]).size = 1 from rfl]; omega)
    generalize ByteArray.mk #[45] ++ x1 = y1 at *
    generalize y1 ++ ByteArray.mk #[46] = y2 at *
    go_wp2_with fail
    clear hadd hadd2
    (with_reducible refine (rtext_any (-((m : Int) / 10 % 10)) w1 (by omega) (by omega)).mono ?_)
    rw [HA4.out]
    rintro e w2 ⟨rfl, b2⟩
    have HB2 := Lib.hid (HB1.out.trans (b2.mono HB1.out.size))
    clear b2 HB1
    have s2 : (S (WM.dec (m / 10 % 10))).size ≤ 20 := by rw [S_size]; exact dec_len (by omega)
    generalize S (WM.dec (m / 10 % 10)) = x2 at *
    have z3 : (y2 ++ x2).size ≤ 42 := by rw [ByteArray.size_append]; omega
    have hadd := run_string_add_sum (P := Try.prog) w2 y2 x2 (by omega)
    generalize y2 ++ x2 = y3 at *
    go_wp2_with fail
    clear hadd
    (with_reducible refine (rtext_any (-((m : Int) % 10)) w2 (by omega) (by omega)).mono ?_)
    rw [HA3.out]
    rintro e w3 ⟨rfl, b3⟩
    have HB3 := Lib.hid (HB2.out.trans (b3.mono HB2.out.size))
    clear b3 HB2
    have s3 : (S (WM.dec (m % 10))).size ≤ 20 := by rw [S_size]; exact dec_len (by omega)
    generalize S (WM.dec (m % 10)) = x3 at *
    have hadd := run_string_add_sum (P := Try.prog) w3 y3 x3 (by omega)
    rw [HE2.out] at hadd
    go_wp2_with fail
    go_ret
    exact ⟨rfl, HB3.out⟩
  · have hn : n = (m : Int) := by omega
    have HE2 := Lib.hid (HE.out ⟨#[]⟩ (by rw [if_neg h]; rfl))
    clear hm HE HR
    subst hn
    go_enter Try.func24, Try.ntmps24
    go_wp2_with fail
    (with_reducible refine (rtext_any (-((m : Int) / 100)) w (by omega) (by omega)).mono ?_)
    rw [HA1.out]
    rintro e w1 ⟨rfl, b1⟩
    have HB1 := Lib.hid b1
    clear b1
    have s1 : (S (WM.dec (m / 100))).size ≤ 20 := by rw [S_size]; exact hd
    generalize S (WM.dec (m / 100)) = x1 at *
    have z1 : (ByteArray.mk #[] ++ x1).size ≤ 21 := by rw [ByteArray.size_append, show (ByteArray.mk #[]).size = 0 from rfl]; omega
    have hadd := run_string_add_sum (P := Try.prog) w1 ⟨#[]⟩ x1 (by rw [show (ByteArray.mk #[]).size = 0 from rfl]; omega)
    have z2 : (ByteArray.mk #[] ++ x1 ++ ByteArray.mk #[46]).size ≤ 22 := by rw [ByteArray.size_append, show (ByteArray.mk #[46]).size = 1 from rfl]; omega
    have hadd2 := run_string_add_sum (P := Try.prog) w1 (ByteArray.mk #[] ++ x1) ⟨#[46]⟩ (by rw [show (ByteArray.mk #[46]).size = 1 from rfl]; omega)
    generalize ByteArray.mk #[] ++ x1 = y1 at *
    generalize y1 ++ ByteArray.mk #[46] = y2 at *
    go_wp2_with fail
    clear hadd hadd2
    (with_reducible refine (rtext_any (-((m : Int) / 10 % 10)) w1 (by omega) (by omega)).mono ?_)
    rw [HA4.out]
    rintro e w2 ⟨rfl, b2⟩
    have HB2 := Lib.hid (HB1.out.trans (b2.mono HB1.out.size))
    clear b2 HB1
    have s2 : (S (WM.dec (m / 10 % 10))).size ≤ 20 := by rw [S_size]; exact dec_len (by omega)
    generalize S (WM.dec (m / 10 % 10)) = x2 at *
    have z3 : (y2 ++ x2).size ≤ 42 := by rw [ByteArray.size_append]; omega
    have hadd := run_string_add_sum (P := Try.prog) w2 y2 x2 (by omega)
    generalize y2 ++ x2 = y3 at *
    go_wp2_with fail
    clear hadd
    (with_reducible refine (rtext_any (-((m : Int) % 10)) w2 (by omega) (by omega)).mono ?_)
    rw [HA3.out]
    rintro e w3 ⟨rfl, b3⟩
    have HB3 := Lib.hid (HB2.out.trans (b3.mono HB2.out.size))
    clear b3 HB2
    have s3 : (S (WM.dec (m % 10))).size ≤ 20 := by rw [S_size]; exact dec_len (by omega)
    generalize S (WM.dec (m % 10)) = x3 at *
    have hadd := run_string_add_sum (P := Try.prog) w3 y3 x3 (by omega)
    rw [HE2.out] at hadd
    go_wp2_with fail
    go_ret
    exact ⟨rfl, HB3.out⟩
end Go.Proofs.Ytegipokbbmnahaa
