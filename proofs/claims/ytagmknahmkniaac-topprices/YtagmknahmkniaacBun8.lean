/- Put together: WordsA, WordsE, StrEq, ProdA, ProdB, ProductMath3, ProdC, TapeMath2. -/
import Derived.Test.YtagmknahmkniaacBun7
import Derived.Test.YtagmknahmkniaacBun3
import Derived.Laws.StructEq
import Derived.Test.YtagmknahmkniaacBun2
import Derived.Test.YtagmknahmkniaacBun6
import Derived.Test.YtagmknahmkniaacBun4
/- Contracts of the small functions of layer 3 that look at bytes and digits. -/
namespace Go.Proofs.Ytagmknahmkniaac
open Go.RowKit

theorem isLetter_any (c : UInt8) (w : World) :
    Calls Try.prog 84 #[.int .u8 (c.toNat : Int)] w fun e w' => e = .returned (.bool (WM.letter c)) ∧ w = w' := by
  by_cases h1 : 97 ≤ (c.toNat : Int)
  · by_cases h2 : (c.toNat : Int) ≤ 122
    · rw [WM.letter_true.2 ⟨h1, h2⟩]
      go_enter Try.func84, Try.ntmps84
      go_wp2
      go_ret
      exact ⟨rfl, rfl⟩
    · rw [WM.letter_false.2 (by omega)]
      go_enter Try.func84, Try.ntmps84
      go_wp2
      go_ret
      exact ⟨rfl, rfl⟩
  · rw [WM.letter_false.2 (by omega)]
    go_enter Try.func84, Try.ntmps84
    go_wp2
    go_ret
    exact ⟨rfl, rfl⟩

theorem isDigit_any (c : UInt8) (w : World) :
    Calls Try.prog 85 #[.int .u8 (c.toNat : Int)] w fun e w' => e = .returned (.bool (WM.dig c)) ∧ w = w' := by
  by_cases h1 : 48 ≤ (c.toNat : Int)
  · by_cases h2 : (c.toNat : Int) ≤ 57
    · rw [WM.dig_true.2 ⟨h1, h2⟩]
      go_enter Try.func85, Try.ntmps85
      go_wp2
      go_ret
      exact ⟨rfl, rfl⟩
    · rw [WM.dig_false.2 (by omega)]
      go_enter Try.func85, Try.ntmps85
      go_wp2
      go_ret
      exact ⟨rfl, rfl⟩
  · rw [WM.dig_false.2 (by omega)]
    go_enter Try.func85, Try.ntmps85
    go_wp2
    go_ret
    exact ⟨rfl, rfl⟩

theorem all_step {p : UInt8 → Bool} {s : ByteArray} {k : Nat} (h : k < s.size) (ha : ((L s).take k).all p = true) (hk : p s[k] = true) : ((L s).take (k + 1)).all p = true := by
  rw [L_take_succ s k h, WM.all_snoc, ha, hk]; rfl
theorem all_not {p : UInt8 → Bool} {s : ByteArray} {k : Nat} (h : k < s.size) (hk : p s[k] = false) : (L s).all p = false :=
  WM.not_all k (by rw [L_len]; exact h) (by rw [L_get s k h]; exact hk)

end Go.Proofs.Ytagmknahmkniaac

/- Contracts: names. -/
namespace Go.Proofs.Ytagmknahmkniaac
open Go.RowKit
set_option linter.unusedVariables false

def lord (c : UInt8) : Bool := WM.letter c || WM.dig c
theorem name_eq (l : List UInt8) : WM.name l = (l.all lord && WM.letter (l.headD 0) && decide (l.length ≤ 12)) := rfl

set_option maxHeartbeats 1000000 in
theorem name_any (s : ByteArray) (w : World) (hs : s.size ≤ 9223372036854775807) :
    Calls Try.prog 58 #[.string s] w fun e w' => e = .returned (.bool (WM.name (L s))) ∧ w = w' := by
  have HQ := name_eq (L s)
  generalize hv : WM.name (L s) = v at *
  clear hv
  rw [L_len] at HQ
  by_cases h0 : s.size = 0
  · rw [L_nil h0] at HQ
    have HN : Hid (v = false) := Lib.hid (by rw [HQ]; rfl)
    clear HQ
    have c0 : ((s.size : Int) == 0) = true := beq_t (by omega)
    go_enter Try.func58, Try.ntmps58
    go_wp2
    go_ret
    exact ⟨by rw [HN.out]; rfl, rfl⟩
  · have hp : 0 < s.size := by omega
    rw [L_head s hp] at HQ
    have c0 : ((s.size : Int) == 0) = false := beq_f (by omega)
    clear h0
    by_cases h1 : 12 < s.size
    · have HN : Hid (v = false) := Lib.hid (by
        rw [HQ, show decide (s.size ≤ 12) = false by simp; omega]; simp)
      clear HQ
      go_enter Try.func58, Try.ntmps58
      go_wp2
      go_ret
      exact ⟨by rw [HN.out]; rfl, rfl⟩
    · have e1 : decide (s.size ≤ 12) = true := by simp; omega
      rw [e1] at HQ
      clear e1
      cases hl : WM.letter s[0]
      · have HN : Hid (v = false) := Lib.hid (by rw [HQ, hl]; simp)
        clear HQ
        go_enter Try.func58, Try.ntmps58
        go_wp2_with (go_at_call 84; refine (isLetter_any _ _).mono ?_; rintro e w' ⟨rfl, rfl⟩)
        go_ret
        exact ⟨by rw [HN.out]; rfl, rfl⟩
      · have HN : Hid (v = (L s).all lord) := Lib.hid (by rw [HQ, hl]; simp)
        clear HQ
        go_enter Try.func58, Try.ntmps58
        go_wp2_with (go_at_call 84; refine (isLetter_any _ _).mono ?_; rintro e w' ⟨rfl, rfl⟩)
        go_loop [20] (fun i => ∃ k : Nat, k ≤ s.size ∧ i = .int .i64 k ∧ Hid (((L s).take k).all lord = true)) (fun i => s.size - (intOf i).toNat)
        case atStart => exact ⟨0, by omega, rfl, Lib.hid rfl⟩
        case round =>
          clear hl
          obtain ⟨k, hk, rfl, HA⟩ := hrel
          by_cases hlt : k < s.size
          · cases hl : WM.letter s[k]
            · cases hd : WM.dig s[k]
              · have HF := Lib.hid (all_not (p := lord) hlt (by unfold lord; rw [hl, hd]; rfl))
                go_wp2_with (first
                  | (go_at_call 84; refine (isLetter_any _ _).mono ?_; rintro e w' ⟨rfl, rfl⟩)
                  | (go_at_call 85; refine (isDigit_any _ _).mono ?_; rintro e w' ⟨rfl, rfl⟩))
                go_ret
                exact ⟨by rw [HN.out, HF.out]; rfl, rfl⟩
              · have HF := Lib.hid (all_step (p := lord) hlt HA.out (by unfold lord; rw [hl, hd]; rfl))
                go_wp2_with (first
                  | (go_at_call 84; refine (isLetter_any _ _).mono ?_; rintro e w' ⟨rfl, rfl⟩)
                  | (go_at_call 85; refine (isDigit_any _ _).mono ?_; rintro e w' ⟨rfl, rfl⟩))
                go_round
                case rel => exact ⟨k + 1, by omega, by go_num, HF⟩
                case measure => simp [intOf]; omega
            · have HF := Lib.hid (all_step (p := lord) hlt HA.out (by unfold lord; rw [hl]; rfl))
              go_wp2_with (first
                | (go_at_call 84; refine (isLetter_any _ _).mono ?_; rintro e w' ⟨rfl, rfl⟩)
                | (go_at_call 85; refine (isDigit_any _ _).mono ?_; rintro e w' ⟨rfl, rfl⟩))
              go_round
              case rel => exact ⟨k + 1, by omega, by go_num, HF⟩
              case measure => simp [intOf]; omega
          · obtain rfl : k = s.size := by omega
            have HE := HA.out
            rw [L_take_all] at HE
            have HE := Lib.hid HE
            go_wp2
            go_ret
            exact ⟨by rw [HN.out, HE.out]; rfl, rfl⟩

end Go.Proofs.Ytagmknahmkniaac

/- Two texts compared: as the walk says it. -/
namespace Go.Proofs.Ytagmknahmkniaac
theorem str_t {s t : ByteArray} (h : s = t) : (s.toList == t.toList) = true := by subst h; simp
theorem str_f {s t : ByteArray} (h : s ≠ t) : (s.toList == t.toList) = false := by
  rw [L_toList, L_toList]
  cases e : (L s == L t)
  · rfl
  · exact absurd (L_inj (by simpa using e)) h
end Go.Proofs.Ytagmknahmkniaac

/- Contracts of layer 9: products compared, the bounds, Check. -/
namespace Go.Proofs.Ytagmknahmkniaac
open Go.RowKit Go.Recs
set_option linter.unusedVariables false
abbrev prodA (p : QM.Prod) : Value := .agg #[.string p.name, .int .i64 p.cur, .int .i64 p.mult, .int .i64 p.tick, .int .i64 p.low, .int .i64 p.high, .bool p.phys]
def peq (x y : QM.Prod) : Bool := (x.name.toList == y.name.toList) && ((x.cur == y.cur) && ((x.mult == y.mult) && ((x.tick == y.tick) && ((x.low == y.low) && ((x.high == y.high) && (x.phys == y.phys))))))
theorem peq_iff {x y : QM.Prod} : peq x y = true ↔ x = y := by
  constructor
  · intro h
    unfold peq at h
    simp only [Bool.and_eq_true, beq_iff_eq] at h
    obtain ⟨h1, h2, h3, h4, h5, h6, h7⟩ := h
    cases x; cases y
    simp only at h1 h2 h3 h4 h5 h6 h7
    rw [EM.toList_inj h1, h2, h3, h4, h5, h6, h7]
  · rintro rfl
    simp [peq]
theorem peq_false {x y : QM.Prod} : peq x y = false ↔ x ≠ y := by rw [Bool.eq_false_iff, ne_eq, peq_iff]
theorem prod_in (x y : QM.Prod) (w : World) : (Op.equalIn 10000 23 (prodA x) (prodA y)).run Try.prog w = .ok (peq x y) w := by
  have u3 := Try.underlying3
  have u4 := Try.underlying4
  have u9 := Try.underlying9
  have a3 := Try.isAgg3
  have a4 := Try.isAgg4
  have a9 := Try.isAgg9
  have z3 := Try.sizeOf3
  have z4 := Try.sizeOf4
  have z9 := Try.sizeOf9
  have hS : Try.prog.underlying 23 = some (.struct (Try.prog.fieldsOf 23)) := by kernel_rfl
  have hp : Try.prog.stoodInHeld 23 = false := by kernel_rfl
  rw [show (10000 : Nat) = 9999 + 1 from rfl, run_equalIn_agg w 9999 23 _ _ hS hp]
  simp only [Program.fieldsOf, Try.underlying23]
  unfold peq
  go_simp
  by_cases h1 : x.name.toList = y.name.toList <;> by_cases h2 : x.cur = y.cur <;> by_cases h3 : x.mult = y.mult <;> by_cases h4 : x.tick = y.tick <;> by_cases h5 : x.low = y.low <;> by_cases h6 : x.high = y.high <;> by_cases h7 : x.phys = y.phys <;> simp [h1, h2, h3, h4, h5, h6, h7]
theorem prod_guard : Try.prog.eqGuardType Try.prog.depth 23 = false := by kernel_rfl

theorem qwithin_any (n a b : Int) (w : World) :
    Calls Try.prog 18 #[.int .i64 n, .int .i64 a, .int .i64 b] w fun e w' => e = .returned (.bool (QM.within n a b)) ∧ w = w' := by
  by_cases h1 : a ≤ n
  · by_cases h2 : n ≤ b
    · have e : QM.within n a b = true := QM.within_true.2 ⟨h1, h2⟩
      rw [e]; clear e
      go_enter Try.func18, Try.ntmps18
      go_wp2
      go_ret
      exact ⟨rfl, rfl⟩
    · have e : QM.within n a b = false := QM.within_false.2 (.inr (by omega))
      rw [e]; clear e
      go_enter Try.func18, Try.ntmps18
      go_wp2
      go_ret
      exact ⟨rfl, rfl⟩
  · have e : QM.within n a b = false := QM.within_false.2 (.inl (by omega))
    rw [e]; clear e
    go_enter Try.func18, Try.ntmps18
    go_wp2
    go_ret
    exact ⟨rfl, rfl⟩
theorem qmul_any (n t : Int) (ht : t ≠ 0) (w : World) :
    Calls Try.prog 19 #[.int .i64 n, .int .i64 t] w fun e w' => e = .returned (.bool (n.tmod t == 0)) ∧ w = w' := by
  have h0 : ¬ t = 0 := ht
  go_enter Try.func19, Try.ntmps19
  go_wp2
  go_ret
  exact ⟨rfl, rfl⟩
end Go.Proofs.Ytagmknahmkniaac

/- Contracts of layer 9: Check, the program's and the reference's. -/
namespace Go.Proofs.Ytagmknahmkniaac
open Go.RowKit Go.Recs
set_option linter.unusedVariables false

theorem ck1 {p : QM.Prod} (h : WM.name (L p.name) = false) : QM.checkE p = 10 := by unfold QM.checkE; rw [if_pos (show QM.nameOk p = false from h)]
theorem ck2 {p : QM.Prod} (h : WM.name (L p.name) = true) (h2 : QM.within p.cur 0 7 = false) : QM.checkE p = 25 := by
  unfold QM.checkE; rw [if_neg (show ¬ QM.nameOk p = false by rw [show QM.nameOk p = true from h]; decide), if_pos h2]
theorem ck3 {p : QM.Prod} (h : WM.name (L p.name) = true) (h2 : QM.within p.cur 0 7 = true) (h3 : QM.within p.mult 1 4096 = false) : QM.checkE p = 2 := by
  unfold QM.checkE; rw [if_neg (show ¬ QM.nameOk p = false by rw [show QM.nameOk p = true from h]; decide), if_neg (by rw [h2]; decide), if_pos h3]
theorem ck4 {p : QM.Prod} (h : WM.name (L p.name) = true) (h2 : QM.within p.cur 0 7 = true) (h3 : QM.within p.mult 1 4096 = true) (h4 : QM.within p.tick 1 16777216 = false) : QM.checkE p = 16 := by
  unfold QM.checkE; rw [if_neg (show ¬ QM.nameOk p = false by rw [show QM.nameOk p = true from h]; decide), if_neg (by rw [h2]; decide), if_neg (by rw [h3]; decide), if_pos h4]
theorem ck5 {p : QM.Prod} (h : WM.name (L p.name) = true) (h2 : QM.within p.cur 0 7 = true) (h3 : QM.within p.mult 1 4096 = true) (h4 : QM.within p.tick 1 16777216 = true) :
    QM.checkE p = if QM.rangeOk p = false then 17 else 0 := by
  unfold QM.checkE; rw [if_neg (show ¬ QM.nameOk p = false by rw [show QM.nameOk p = true from h]; decide), if_neg (by rw [h2]; decide), if_neg (by rw [h3]; decide), if_neg (by rw [h4]; decide)]
theorem rg (p : QM.Prod) : QM.rangeOk p = (QM.within p.low (-16777216) 16777216 && QM.within p.high (-16777216) 16777216 && decide (p.low ≤ p.high) && (p.low.tmod p.tick == 0) && (p.high.tmod p.tick == 0)) := rfl

set_option maxHeartbeats 2000000 in
theorem qcheck_any (p : QM.Prod) (hq : prodQ p) (w : World) :
    Calls Try.prog 17 #[prodA p] w fun e w' => e = .returned (.int .i64 (QM.checkE p)) ∧ Below w.heap.size w w' := by
  obtain ⟨hn, _, _, _, _, _⟩ := hq
  have hn2 : p.name.size ≤ 9223372036854775807 := hn
  have C0 := Lib.hid (fun ww => name_any p.name ww hn2)
  have C1 := Lib.hid (fun ww => qwithin_any p.cur 0 7 ww)
  have C2 := Lib.hid (fun ww => qwithin_any p.mult 1 4096 ww)
  have C3 := Lib.hid (fun ww => qwithin_any p.tick 1 16777216 ww)
  have C4 := Lib.hid (fun ww => qwithin_any p.low (-16777216) 16777216 ww)
  have C5 := Lib.hid (fun ww => qwithin_any p.high (-16777216) 16777216 ww)
  have HT : Hid (QM.within p.tick 1 16777216 = true → p.tick ≠ 0) := Lib.hid (fun h => by have := QM.within_true.1 h; omega)
  have C6 := Lib.hid (fun (h : p.tick ≠ 0) ww => qmul_any p.low p.tick h ww)
  have C7 := Lib.hid (fun (h : p.tick ≠ 0) ww => qmul_any p.high p.tick h ww)
  have K1 := Lib.hid (@ck1 p); have K2 := Lib.hid (@ck2 p); have K3 := Lib.hid (@ck3 p); have K4 := Lib.hid (@ck4 p); have K5 := Lib.hid (@ck5 p)
  rw [rg] at K5
  have HB := Lib.hid (fun o => (Below.refl w.heap.size w).alloc (Nat.le_refl _) o)
  generalize QM.checkE p = x at *
  generalize WM.name (L p.name) = b0 at *
  generalize QM.within p.cur 0 7 = b1 at *
  generalize QM.within p.mult 1 4096 = b2 at *
  generalize QM.within p.tick 1 16777216 = b3 at *
  generalize QM.within p.low (-16777216) 16777216 = b4 at *
  generalize QM.within p.high (-16777216) 16777216 = b5 at *
  generalize (p.low.tmod p.tick == 0) = b6 at *
  generalize (p.high.tmod p.tick == 0) = b7 at *
  clear hn hn2
  go_enter Try.func17, Try.ntmps17
  go_wp2_with fail
  refine (C0.out _).mono ?_
  rintro e w1 ⟨rfl, rfl⟩
  cases b0
  · have HX := Lib.hid (K1.out (by trivial))
    go_wp2_with fail
    go_ret
    exact ⟨by rw [HX.out]; rfl, HB.out _⟩
  go_wp2_with fail
  refine (C1.out _).mono ?_
  rintro e w1 ⟨rfl, rfl⟩
  cases b1
  · have HX := Lib.hid (K2.out (by trivial) (by trivial))
    go_wp2_with fail
    go_ret
    exact ⟨by rw [HX.out]; rfl, HB.out _⟩
  go_wp2_with fail
  refine (C2.out _).mono ?_
  rintro e w1 ⟨rfl, rfl⟩
  cases b2
  · have HX := Lib.hid (K3.out (by trivial) (by trivial) (by trivial))
    go_wp2_with fail
    go_ret
    exact ⟨by rw [HX.out]; rfl, HB.out _⟩
  go_wp2_with fail
  refine (C3.out _).mono ?_
  rintro e w1 ⟨rfl, rfl⟩
  cases b3
  · have HX := Lib.hid (K4.out (by trivial) (by trivial) (by trivial) (by trivial))
    go_wp2_with fail
    go_ret
    exact ⟨by rw [HX.out]; rfl, HB.out _⟩
  have HX := Lib.hid (K5.out (by trivial) (by trivial) (by trivial) (by trivial))
  have HT2 := Lib.hid (HT.out (by trivial))
  clear K1 K2 K3 K4 K5 HT
  go_wp2_with fail
  refine (C4.out _).mono ?_
  rintro e w1 ⟨rfl, rfl⟩
  cases b4
  · go_wp2_with fail
    go_ret
    exact ⟨by rw [HX.out]; simp, HB.out _⟩
  go_wp2_with fail
  refine (C5.out _).mono ?_
  rintro e w1 ⟨rfl, rfl⟩
  cases b5
  · go_wp2_with fail
    go_ret
    exact ⟨by rw [HX.out]; simp, HB.out _⟩
  by_cases hlh : p.high < p.low
  · have hd : decide (p.low ≤ p.high) = false := by simp; omega
    rw [hd] at HX; clear hd
    go_wp2_with fail
    go_ret
    exact ⟨by rw [HX.out]; simp, HB.out _⟩
  have hd : decide (p.low ≤ p.high) = true := by simp; omega
  rw [hd] at HX; clear hd
  go_wp2_with fail
  refine (C6.out HT2.out _).mono ?_
  rintro e w1 ⟨rfl, rfl⟩
  cases b6
  · go_wp2_with fail
    go_ret
    exact ⟨by rw [HX.out]; simp, HB.out _⟩
  go_wp2_with fail
  refine (C7.out HT2.out _).mono ?_
  rintro e w1 ⟨rfl, rfl⟩
  cases b7
  · go_wp2_with fail
    go_ret
    exact ⟨by rw [HX.out]; simp, HB.out _⟩
  go_wp2_with fail
  go_ret
  exact ⟨by rw [HX.out]; simp, HB.out _⟩

end Go.Proofs.Ytagmknahmkniaac

/- Layer 9's mathematics: roundings and values, case by case. -/
namespace QM
open CM
theorem md_bad {a b c mode : Int} (h : within mode 1 5 = false) : mdE a b c mode = 2 ∧ mdN a b c mode = 0 := by
  have hA : mdA a b c mode = false := by
    rw [within_false] at h
    unfold mdA
    rcases h with h | h
    · simp [show ¬ 1 ≤ mode by omega]
    · simp [show ¬ mode ≤ 5 by omega]
  simp [mdE, mdN, hA]
theorem md_small {x t mode : Int} (x1 : -16777216 ≤ x) (x2 : x ≤ 16777216) (t1 : 1 ≤ t) (t2 : t ≤ 16777216) (h : within mode 1 5 = true) :
    mdE x 1 t mode = 0 ∧ -16777217 ≤ mdN x 1 t mode ∧ mdN x 1 t mode ≤ 16777217 := by
  obtain ⟨m1, m5⟩ := within_true.1 h
  have hA : mdA x 1 t mode = true := by
    have f1 : fits x = true := fits_of (by omega) (by omega)
    have f2 : fits 1 = true := by decide
    have f3 : fits t = true := fits_of (by omega) (by omega)
    simp [mdA, f1, f2, f3, m1, m5]
  have hq : (mdQ x 1 t : Int) ≤ 16777216 := by
    unfold mdQ
    have hs : size x ≤ 16777216 := by unfold size; split <;> omega
    have hs0 := size_nonneg x
    have : (size x).toNat * (size 1).toNat / (size t).toNat ≤ (size x).toNat * (size 1).toNat := Nat.div_le_self _ _
    have e1 : (size 1).toNat = 1 := by decide
    rw [e1, Nat.mul_one] at this ⊢
    omega
  have hg : 0 ≤ mdG x 1 t mode ∧ mdG x 1 t mode ≤ 16777217 := by
    unfold mdG
    split <;> omega
  have h0 : t ≠ 0 := by omega
  have hle : mdG x 1 t mode ≤ 1152921504606846976 := by omega
  have e : mdN x 1 t mode = if neg x 1 t = true then -mdG x 1 t mode else mdG x 1 t mode := by simp [mdN, hA, h0, hle]
  refine ⟨by simp [mdE, hA, h0, hle], ?_⟩
  rw [e]
  split <;> omega
theorem mul_small {n t : Int} (n1 : -16777217 ≤ n) (n2 : n ≤ 16777217) (t1 : 1 ≤ t) (t2 : t ≤ 16777216) : -281474993487872 ≤ n * t ∧ n * t ≤ 281474993487872 := by
  have a1 : n * t ≤ 16777217 * t := Int.mul_le_mul_of_nonneg_right n2 (by omega)
  have a2 : -16777217 * t ≤ n * t := Int.mul_le_mul_of_nonneg_right n1 (by omega)
  omega

section
variable {p : Prod} {x mode q : Int}
theorem pk_bad (h : checkE p ≠ 0) : priceE p x = checkE p := by unfold priceE; rw [if_pos h]
theorem pk_out (h : checkE p = 0) (h2 : within x p.low p.high = false) : priceE p x = 17 := by unfold priceE; rw [if_neg (by simp [h]), if_pos h2]
theorem pk_tick (h : checkE p = 0) (h2 : within x p.low p.high = true) (h3 : (x.tmod p.tick == 0) = false) : priceE p x = 16 := by
  unfold priceE; rw [if_neg (by simp [h]), if_neg (by simp [h2]), if_pos (by simpa using h3)]
theorem pk_ok (h : checkE p = 0) (h2 : within x p.low p.high = true) (h3 : (x.tmod p.tick == 0) = true) : priceE p x = 0 := by
  unfold priceE; rw [if_neg (by simp [h]), if_neg (by simp [h2]), if_neg (by simpa using h3)]
theorem tick_pos (h : checkE p = 0) : p.tick ≠ 0 := by have := (check_parts h).2.2.2.1; omega
theorem rd_bad (h : checkE p ≠ 0) : roundE p x mode = checkE p ∧ roundN p x mode = 0 := by
  have e : roundE p x mode = checkE p := by unfold roundE; rw [if_pos h]
  exact ⟨e, by unfold roundN; rw [e, if_neg h]⟩
theorem rd_out (h : checkE p = 0) (h2 : within x (-16777216) 16777216 = false) : roundE p x mode = 17 ∧ roundN p x mode = 0 := by
  have e : roundE p x mode = 17 := by unfold roundE; rw [if_neg (by simp [h]), if_pos h2]
  exact ⟨e, by unfold roundN; rw [e, if_neg (by decide)]⟩
theorem rd_mode (h : checkE p = 0) (h2 : within x (-16777216) 16777216 = true) (h3 : within mode 1 5 = false) : roundE p x mode = 2 ∧ roundN p x mode = 0 := by
  have e : roundE p x mode = 2 := by unfold roundE; rw [if_neg (by simp [h]), if_neg (by simp [h2]), if_pos h3]
  exact ⟨e, by unfold roundN; rw [e, if_neg (by decide)]⟩
theorem rd_ok (h : checkE p = 0) (h2 : within x (-16777216) 16777216 = true) (h3 : within mode 1 5 = true) :
    (roundE p x mode = 0 ∧ roundN p x mode = clamp (mdN x 1 p.tick mode * p.tick) p.low p.high) ∧ mdE x 1 p.tick mode = 0 ∧ -281474993487872 ≤ mdN x 1 p.tick mode * p.tick ∧ mdN x 1 p.tick mode * p.tick ≤ 281474993487872 := by
  have e : roundE p x mode = 0 := by unfold roundE; rw [if_neg (by simp [h]), if_neg (by simp [h2]), if_neg (by simp [h3])]
  have ht := (check_parts h).2.2.2.1
  have hx := within_true.1 h2
  obtain ⟨m0, m1, m2⟩ := md_small hx.1 hx.2 ht.1 ht.2 h3
  exact ⟨⟨e, by unfold roundN; rw [if_pos e]⟩, m0, mul_small m1 m2 ht.1 ht.2⟩
theorem vl_bad (h : checkE p ≠ 0) : valueE p x q = checkE p ∧ valueN p x q = 0 := by
  have e : valueE p x q = checkE p := by unfold valueE; rw [if_pos h]
  exact ⟨e, by unfold valueN; rw [e, if_neg h]⟩
theorem vl_out (h : checkE p = 0) (h2 : within x (-33554432) 33554432 = false) : valueE p x q = 17 ∧ valueN p x q = 0 := by
  have e : valueE p x q = 17 := by unfold valueE; rw [if_neg (by simp [h]), if_pos h2]
  exact ⟨e, by unfold valueN; rw [e, if_neg (by decide)]⟩
theorem vl_qty (h : checkE p = 0) (h2 : within x (-33554432) 33554432 = true) (h3 : within q (-1048576) 1048576 = false) : valueE p x q = 18 ∧ valueN p x q = 0 := by
  have e : valueE p x q = 18 := by unfold valueE; rw [if_neg (by simp [h]), if_neg (by simp [h2]), if_pos h3]
  exact ⟨e, by unfold valueN; rw [e, if_neg (by decide)]⟩
theorem vl_ok (h : checkE p = 0) (h2 : within x (-33554432) 33554432 = true) (h3 : within q (-1048576) 1048576 = true) : valueE p x q = 0 ∧ valueN p x q = x * p.mult * q := by
  have e : valueE p x q = 0 := by unfold valueE; rw [if_neg (by simp [h]), if_neg (by simp [h2]), if_neg (by simp [h3])]
  exact ⟨e, by unfold valueN; rw [if_pos e]⟩
end
end QM

/- Contracts of layer 9: Price, Round, Value, the program's and the reference's. -/
namespace Go.Proofs.Ytagmknahmkniaac
open Go.RowKit Go.Recs
set_option linter.unusedVariables false

/-- block g is one product -/
def PBox (w : World) (g : Nat) (p : QM.Prod) : Prop := w.heap[g]? = some (.cells #[.string p.name, .int .i64 p.cur, .int .i64 p.mult, .int .i64 p.tick, .int .i64 p.low, .int .i64 p.high, .bool p.phys] 23 (0, 0))
theorem PBox.new (w : World) (p : QM.Prod) : PBox (w.alloc (.cells #[.string p.name, .int .i64 p.cur, .int .i64 p.mult, .int .i64 p.tick, .int .i64 p.low, .int .i64 p.high, .bool p.phys] 23)) w.heap.size p := heap_alloc_new w _
theorem PBox.below {w w' : World} {g B : Nat} {p : QM.Prod} (h : PBox w g p) (hb : Below B w w') (hg : g < B) : PBox w' g p := (hb.block g hg).trans h
theorem PBox.lt {w : World} {g : Nat} {p : QM.Prod} (h : PBox w g p) : g < w.heap.size := lt_of_block h
theorem PBox.cells {w : World} {g : Nat} {p : QM.Prod} (h : PBox w g p) :
    w.cell? ⟨g, 0, none⟩ = some (.string p.name) ∧ w.cell? ⟨g, 1, none⟩ = some (.int .i64 p.cur) ∧ w.cell? ⟨g, 2, none⟩ = some (.int .i64 p.mult) ∧ w.cell? ⟨g, 3, none⟩ = some (.int .i64 p.tick) ∧
    w.cell? ⟨g, 4, none⟩ = some (.int .i64 p.low) ∧ w.cell? ⟨g, 5, none⟩ = some (.int .i64 p.high) ∧ w.cell? ⟨g, 6, none⟩ = some (.bool p.phys) := by
  unfold PBox at h
  simp [World.cell?, h]
theorem new_lt (w : World) (o : Obj) : w.heap.size < (w.alloc o).heap.size := by simp

set_option maxHeartbeats 2000000 in
theorem qprice_any (p : QM.Prod) (x : Int) (hq : prodQ p) (w : World) :
    Calls Try.prog 7 #[prodA p, .int .i64 x] w fun e w' => e = .returned (.int .i64 (QM.priceE p x)) ∧ Below w.heap.size w w' := by
  have C0 := Lib.hid (fun ww => qcheck_any p hq ww)
  have HB := Lib.hid ((Below.refl w.heap.size w).alloc (Nat.le_refl _) (.cells #[.string p.name, .int .i64 p.cur, .int .i64 p.mult, .int .i64 p.tick, .int .i64 p.low, .int .i64 p.high, .bool p.phys] 23))
  have HP := Lib.hid (PBox.new w p)
  have HL := Lib.hid (new_lt w (.cells #[.string p.name, .int .i64 p.cur, .int .i64 p.mult, .int .i64 p.tick, .int .i64 p.low, .int .i64 p.high, .bool p.phys] 23))
  by_cases hc : QM.checkE p = 0
  · have ht := QM.tick_pos hc
    have C1 := Lib.hid (fun ww => qwithin_any x p.low p.high ww)
    have C2 := Lib.hid (fun ww => qmul_any x p.tick ht ww)
    have K1 := Lib.hid (@QM.pk_out p x hc); have K2 := Lib.hid (@QM.pk_tick p x hc); have K3 := Lib.hid (@QM.pk_ok p x hc)
    rw [hc] at C0
    generalize QM.priceE p x = y at *
    generalize QM.within x p.low p.high = b1 at *
    generalize (x.tmod p.tick == 0) = b2 at *
    clear hc ht hq
    go_enter Try.func7, Try.ntmps7
    go_wp2_with fail
    refine (C0.out _).mono ?_
    rintro e w1 ⟨rfl, b⟩
    have HB1 := Lib.hid (HB.out.trans (b.mono HB.out.size))
    obtain ⟨c0, c1, c2, c3, c4, c5, c6⟩ := (HP.out.below b HL.out).cells
    clear b HB HP HL
    go_wp2_with fail
    refine (C1.out _).mono ?_
    rintro e w2 ⟨rfl, rfl⟩
    cases b1
    · have HX := Lib.hid (K1.out (by trivial))
      go_wp2_with fail
      go_ret
      exact ⟨by rw [HX.out]; rfl, HB1.out⟩
    go_wp2_with fail
    refine (C2.out _).mono ?_
    rintro e w2 ⟨rfl, rfl⟩
    cases b2
    · have HX := Lib.hid (K2.out (by trivial) (by trivial))
      go_wp2_with fail
      go_ret
      exact ⟨by rw [HX.out]; rfl, HB1.out⟩
    have HX := Lib.hid (K3.out (by trivial) (by trivial))
    go_wp2_with fail
    go_ret
    exact ⟨by rw [HX.out]; rfl, HB1.out⟩
  · rw [QM.pk_bad hc]
    have hd : (QM.checkE p != 0) = true := by simpa using hc
    generalize QM.checkE p = y at *
    clear hc hq HP HL
    go_enter Try.func7, Try.ntmps7
    go_wp2_with fail
    refine (C0.out _).mono ?_
    rintro e w1 ⟨rfl, b⟩
    have HB1 := Lib.hid (HB.out.trans (b.mono HB.out.size))
    clear b
    go_wp2_with fail
    go_ret
    exact ⟨rfl, HB1.out⟩

set_option maxHeartbeats 2000000 in
theorem qround_any (p : QM.Prod) (x mode : Int) (hq : prodQ p) (w : World) :
    Calls Try.prog 56 #[prodA p, .int .i64 x, .int .i64 mode] w fun e w' => e = .returned (.tuple #[.int .i64 (QM.roundN p x mode), .int .i64 (QM.roundE p x mode)]) ∧ Below w.heap.size w w' := by
  have C0 := Lib.hid (fun ww => qcheck_any p hq ww)
  have HB := Lib.hid ((Below.refl w.heap.size w).alloc (Nat.le_refl _) (.cells #[.string p.name, .int .i64 p.cur, .int .i64 p.mult, .int .i64 p.tick, .int .i64 p.low, .int .i64 p.high, .bool p.phys] 23))
  have HP := Lib.hid (PBox.new w p)
  have HL := Lib.hid (new_lt w (.cells #[.string p.name, .int .i64 p.cur, .int .i64 p.mult, .int .i64 p.tick, .int .i64 p.low, .int .i64 p.high, .bool p.phys] 23))
  by_cases hc : QM.checkE p = 0
  · have C1 := Lib.hid (fun ww => qwithin_any x (-16777216) 16777216 ww)
    have C2 := Lib.hid (fun ww => muldiv_any x 1 p.tick mode ww)
    have C3 := Lib.hid (fun ww => clamp_any (CM.mdN x 1 p.tick mode * p.tick) p.low p.high ww)
    have K1 := Lib.hid (@QM.rd_out p x mode hc)
    have K2 := Lib.hid (fun h2 h3 => (⟨@QM.rd_mode p x mode hc h2 h3, QM.md_bad h3⟩ : (_ ∧ _) ∧ (CM.mdE x 1 p.tick mode = 2 ∧ CM.mdN x 1 p.tick mode = 0)))
    have K3 := Lib.hid (@QM.rd_ok p x mode hc)
    rw [hc] at C0
    generalize QM.roundE p x mode = y at *
    generalize QM.roundN p x mode = z at *
    generalize QM.within x (-16777216) 16777216 = b1 at *
    generalize QM.within mode 1 5 = b2 at *
    generalize CM.mdE x 1 p.tick mode = me at *
    generalize CM.mdN x 1 p.tick mode = mn at *
    clear hc hq
    go_enter Try.func56, Try.ntmps56
    go_wp2_with fail
    refine (C0.out _).mono ?_
    rintro e w1 ⟨rfl, b⟩
    have HB1 := Lib.hid (HB.out.trans (b.mono HB.out.size))
    have HP1 := Lib.hid (HP.out.below b HL.out)
    obtain ⟨c0, c1, c2, c3, c4, c5, c6⟩ := (HP.out.below b HL.out).cells
    clear b HB HP HL
    go_wp2_with fail
    refine (C1.out _).mono ?_
    rintro e w2 ⟨rfl, rfl⟩
    cases b1
    · have HX := Lib.hid (K1.out (by trivial))
      go_wp2_with fail
      go_ret2
      exact ⟨by rw [HX.out.1, HX.out.2]; rfl, HB1.out⟩
    go_wp2_with fail
    refine (C2.out _).mono ?_
    rintro e w2 ⟨rfl, b⟩
    have HB2 := Lib.hid (HB1.out.trans (b.mono HB1.out.size))
    have HP2 := Lib.hid (HP1.out.below b HP1.out.lt)
    clear c0 c1 c2 c3 c4 c5 c6
    obtain ⟨c0, c1, c2, c3, c4, c5, c6⟩ := (HP1.out.below b HP1.out.lt).cells
    clear b HB1 HP1
    cases b2
    · have HX := Lib.hid (K2.out (by trivial) (by trivial))
      obtain ⟨rfl, rfl⟩ := HX.out.2
      go_wp2_with fail
      go_ret2
      exact ⟨by rw [HX.out.1.1, HX.out.1.2]; rfl, HB2.out⟩
    obtain ⟨HX, rfl, hb1, hb2⟩ := K3.out (by trivial) (by trivial)
    have HX := Lib.hid HX
    have hw : wrap64 (mn * p.tick) = mn * p.tick := IntWalk.wrap64_in _ (by omega)
    clear hb1 hb2
    go_wp2_with fail
    refine (C3.out _).mono ?_
    rintro e w3 ⟨rfl, rfl⟩
    go_wp2_with fail
    go_ret2
    exact ⟨by rw [HX.out.1, HX.out.2]; rfl, HB2.out⟩
  · obtain ⟨e1, e2⟩ := @QM.rd_bad p x mode hc
    rw [e1, e2]; clear e1 e2
    have hd : (QM.checkE p != 0) = true := by simpa using hc
    generalize QM.checkE p = y at *
    clear hc hq HP HL
    go_enter Try.func56, Try.ntmps56
    go_wp2_with fail
    refine (C0.out _).mono ?_
    rintro e w1 ⟨rfl, b⟩
    have HB1 := Lib.hid (HB.out.trans (b.mono HB.out.size))
    clear b
    go_wp2_with fail
    go_ret2
    exact ⟨rfl, HB1.out⟩

set_option maxHeartbeats 2000000 in
theorem qvalue_any (p : QM.Prod) (x q : Int) (hq : prodQ p) (w : World) :
    Calls Try.prog 10 #[prodA p, .int .i64 x, .int .i64 q] w fun e w' => e = .returned (.tuple #[.int .i64 (QM.valueN p x q), .int .i64 (QM.valueE p x q)]) ∧ Below w.heap.size w w' := by
  have C0 := Lib.hid (fun ww => qcheck_any p hq ww)
  have HB := Lib.hid ((Below.refl w.heap.size w).alloc (Nat.le_refl _) (.cells #[.string p.name, .int .i64 p.cur, .int .i64 p.mult, .int .i64 p.tick, .int .i64 p.low, .int .i64 p.high, .bool p.phys] 23))
  have HP := Lib.hid (PBox.new w p)
  have HL := Lib.hid (new_lt w (.cells #[.string p.name, .int .i64 p.cur, .int .i64 p.mult, .int .i64 p.tick, .int .i64 p.low, .int .i64 p.high, .bool p.phys] 23))
  by_cases hc : QM.checkE p = 0
  · have C1 := Lib.hid (fun ww => qwithin_any x (-33554432) 33554432 ww)
    have C2 := Lib.hid (fun ww => qwithin_any q (-1048576) 1048576 ww)
    have K1 := Lib.hid (@QM.vl_out p x q hc)
    have K2 := Lib.hid (@QM.vl_qty p x q hc)
    have K3 := Lib.hid (@QM.vl_ok p x q hc)
    have KR := Lib.hid (@QM.value_range p x q)
    rw [hc] at C0
    generalize QM.valueE p x q = y at *
    generalize QM.valueN p x q = z at *
    generalize QM.within x (-33554432) 33554432 = b1 at *
    generalize QM.within q (-1048576) 1048576 = b2 at *
    clear hc hq
    go_enter Try.func10, Try.ntmps10
    go_wp2_with fail
    refine (C0.out _).mono ?_
    rintro e w1 ⟨rfl, b⟩
    have HB1 := Lib.hid (HB.out.trans (b.mono HB.out.size))
    obtain ⟨c0, c1, c2, c3, c4, c5, c6⟩ := (HP.out.below b HL.out).cells
    clear b HB HP HL
    go_wp2_with fail
    refine (C1.out _).mono ?_
    rintro e w2 ⟨rfl, rfl⟩
    cases b1
    · have HX := Lib.hid (K1.out (by trivial))
      go_wp2_with fail
      go_ret2
      exact ⟨by rw [HX.out.1, HX.out.2]; rfl, HB1.out⟩
    go_wp2_with fail
    refine (C2.out _).mono ?_
    rintro e w2 ⟨rfl, rfl⟩
    cases b2
    · have HX := Lib.hid (K2.out (by trivial) (by trivial))
      go_wp2_with fail
      go_ret2
      exact ⟨by rw [HX.out.1, HX.out.2]; rfl, HB1.out⟩
    have HX := Lib.hid (K3.out (by trivial) (by trivial))
    obtain ⟨r1, r2⟩ := KR.out HX.out.1
    have hw1 : wrap64 (x * p.mult) = x * p.mult := IntWalk.wrap64_in _ (by omega)
    have hw2 : wrap64 (x * p.mult * q) = x * p.mult * q := IntWalk.wrap64_in _ (by omega)
    clear r1 r2
    go_wp2_with fail
    go_ret2
    exact ⟨by rw [HX.out.1, HX.out.2]; simp only [hw2]; rfl, HB1.out⟩
  · obtain ⟨e1, e2⟩ := @QM.vl_bad p x q hc
    rw [e1, e2]; clear e1 e2
    have hd : (QM.checkE p != 0) = true := by simpa using hc
    generalize QM.checkE p = y at *
    clear hc hq HP HL
    go_enter Try.func10, Try.ntmps10
    go_wp2_with fail
    refine (C0.out _).mono ?_
    rintro e w1 ⟨rfl, b⟩
    have HB1 := Lib.hid (HB.out.trans (b.mono HB.out.size))
    clear b
    go_wp2_with fail
    go_ret2
    exact ⟨rfl, HB1.out⟩

end Go.Proofs.Ytagmknahmkniaac

/- Layer 17's mathematics: what follows. -/
namespace TP
set_option linter.unusedVariables false
theorem vw_modes {l : List Tick} {step m m' : Int} (h : 1 ≤ m ∧ m ≤ 5) (h' : 1 ≤ m' ∧ m' ≤ 5) : vwE l step m = vwE l step m' := by
  unfold vwE; rw [QM.within_true.2 h, QM.within_true.2 h']
theorem vw_bad {l : List Tick} {step m : Int} (h : vwE l step m ≠ 0) : vwN l step m = 0 := by unfold vwN; rw [if_neg h]
theorem within {l : List Tick} (h : vwE l 1 3 = 0) : 0 < l.length ∧ lowN l ≤ vwN l 1 3 ∧ vwN l 1 3 ≤ vwN l 1 4 ∧ vwN l 1 4 ≤ highN l ∧ vwN l 1 4 - vwN l 1 3 ≤ 1 ∧ (-33554432 ≤ vwN l 1 3 ∧ vwN l 1 4 ≤ 33554432) := by
  obtain ⟨hg, hs, hm, h0⟩ := vw_zero h
  have h4 : vwE l 1 4 = 0 := by rw [vw_modes (m := 4) (m' := 3) (by omega) (by omega)]; exact h
  have e3 : vwN l 1 3 = vwK l 1 3 := by unfold vwN; rw [if_pos h, Int.mul_one]
  have e4 : vwN l 1 4 = vwK l 1 4 := by unfold vwN; rw [if_pos h4, Int.mul_one]
  have eL : lowN l = lowU l l.length := by unfold lowN; rw [if_neg (by omega)]
  have eH : highN l = highU l l.length := by unfold highN; rw [if_neg (by omega)]
  obtain ⟨j, hj, ej⟩ := lowU_mem h0 l.length (Nat.le_refl _)
  obtain ⟨i, hi, ei⟩ := highU_mem h0 l.length (Nat.le_refl _)
  have bj := (hg.each j hj).2.2
  have bi := (hg.each i hi).2.2
  rw [← ej] at bj
  rw [← ei] at bi
  have hp : ∀ k, k < l.length → lowU l l.length * 1 ≤ (tAt l k).price ∧ (tAt l k).price ≤ highU l l.length * 1 := fun k hk => by
    rw [Int.mul_one, Int.mul_one]; exact ⟨lowU_le _ k hk, le_highU _ k hk⟩
  have w3 := vw_within (mode := 3) hg hs (by omega) (by omega) h0 hp (by omega) (by omega)
  have w4 := vw_within (mode := 4) hg hs (by omega) (by omega) h0 hp (by omega) (by omega)
  obtain ⟨_, _, _, k1, b3, _⟩ := vw_bounds (mode := 3) hg hs (by omega) (by omega) h0
  have k := fun m (hm : 1 ≤ m ∧ m ≤ 5) => (vw_bounds (mode := m) hg hs hm.1 hm.2 h0).2.2.2.1
  have b4 := (vw_bounds (mode := 4) hg hs (by omega) (by omega) h0).2.2.2.2.1
  obtain ⟨q, hq, hl⟩ := CM.md_lie (k 1 (by omega)) (k 2 (by omega)) (k 3 (by omega)) (k 4 (by omega)) (k 5 (by omega))
  have f3 : vwK l 1 3 = CM.mdN (val l) 1 (vol l * 1) 3 := rfl
  have f4 : vwK l 1 4 = CM.mdN (val l) 1 (vol l * 1) 4 := rfl
  rw [← f3, ← f4] at hl
  rw [e3, e4, eL, eH]
  simp only [Int.mul_one] at w3 w4
  refine ⟨h0, w3.1, ?_, w4.2, ?_, ?_⟩ <;> omega
end TP
