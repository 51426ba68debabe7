/- Put together: WordsE, StrEq, ProdA, ProdB, ProductMath3, Made, CentsA, CentsB. -/
import Derived.Test.YtagmknahmkniaaaBun3
import Derived.Laws.StructEq
import Derived.Test.YtagmknahmkniaaaBun2
import Derived.Maps.AppendAt
import Derived.Test.YtagmknahmkniaaaRows
import Derived.Test.YtagmknahmkniaaaBun1
import Derived.WalkKit
import Derived.WalkSpells
import Derived.WalkLawsBesides
import Derived.IntWalk
import Derived.Lib.Hide
import Derived.Deep.QuietTactic
import Derived.BigQuiet
import Derived.Laws.BitsAllLaws
import Derived.Laws.BitsLemmas
/- Contracts: names. -/
namespace Go.Proofs.Ytagmknahmkniaaa
open Go.RowKit
set_option linter.unusedVariables false

def lord (c : UInt8) : Bool := WM.letter c || WM.dig c
theorem name_eq (l : List UInt8) : WM.name l = (l.all lord && WM.letter (l.headD 0) && decide (l.length ≤ 12)) := rfl

set_option maxHeartbeats 1000000 in
theorem name_any (s : ByteArray) (w : World) (hs : s.size ≤ 9223372036854775807) :
    Calls Try.prog 44 #[.string s] w fun e w' => e = .returned (.bool (WM.name (L s))) ∧ w = w' := by
  have HQ := name_eq (L s)
  generalize hv : WM.name (L s) = v at *
  clear hv
  rw [L_len] at HQ
  by_cases h0 : s.size = 0
  · rw [L_nil h0] at HQ
    have HN : Hid (v = false) := Lib.hid (by rw [HQ]; rfl)
    clear HQ
    have c0 : ((s.size : Int) == 0) = true := beq_t (by omega)
    go_enter Try.func44, Try.ntmps44
    go_wp2
    go_ret
    exact ⟨by rw [HN.out]; rfl, rfl⟩
  · have hp : 0 < s.size := by omega
    rw [L_head s hp] at HQ
    have c0 : ((s.size : Int) == 0) = false := beq_f (by omega)
    clear h0
    by_cases h1 : 12 < s.size
    · have HN : Hid (v = false) := Lib.hid (by
        rw [HQ, show decide (s.size ≤ 12) = false by simp; omega]; simp)
      clear HQ
      go_enter Try.func44, Try.ntmps44
      go_wp2
      go_ret
      exact ⟨by rw [HN.out]; rfl, rfl⟩
    · have e1 : decide (s.size ≤ 12) = true := by simp; omega
      rw [e1] at HQ
      clear e1
      cases hl : WM.letter s[0]
      · have HN : Hid (v = false) := Lib.hid (by rw [HQ, hl]; simp)
        clear HQ
        go_enter Try.func44, Try.ntmps44
        go_wp2_with (go_at_call 56; refine (isLetter_any _ _).mono ?_; rintro e w' ⟨rfl, rfl⟩)
        go_ret
        exact ⟨by rw [HN.out]; rfl, rfl⟩
      · have HN : Hid (v = (L s).all lord) := Lib.hid (by rw [HQ, hl]; simp)
        clear HQ
        go_enter Try.func44, Try.ntmps44
        go_wp2_with (go_at_call 56; refine (isLetter_any _ _).mono ?_; rintro e w' ⟨rfl, rfl⟩)
        go_loop [20] (fun i => ∃ k : Nat, k ≤ s.size ∧ i = .int .i64 k ∧ Hid (((L s).take k).all lord = true)) (fun i => s.size - (intOf i).toNat)
        case atStart => exact ⟨0, by omega, rfl, Lib.hid rfl⟩
        case round =>
          clear hl
          obtain ⟨k, hk, rfl, HA⟩ := hrel
          by_cases hlt : k < s.size
          · cases hl : WM.letter s[k]
            · cases hd : WM.dig s[k]
              · have HF := Lib.hid (all_not (p := lord) hlt (by unfold lord; rw [hl, hd]; rfl))
                go_wp2_with (first
                  | (go_at_call 56; refine (isLetter_any _ _).mono ?_; rintro e w' ⟨rfl, rfl⟩)
                  | (go_at_call 57; refine (isDigit_any _ _).mono ?_; rintro e w' ⟨rfl, rfl⟩))
                go_ret
                exact ⟨by rw [HN.out, HF.out]; rfl, rfl⟩
              · have HF := Lib.hid (all_step (p := lord) hlt HA.out (by unfold lord; rw [hl, hd]; rfl))
                go_wp2_with (first
                  | (go_at_call 56; refine (isLetter_any _ _).mono ?_; rintro e w' ⟨rfl, rfl⟩)
                  | (go_at_call 57; refine (isDigit_any _ _).mono ?_; rintro e w' ⟨rfl, rfl⟩))
                go_round
                case rel => exact ⟨k + 1, by omega, by go_num, HF⟩
                case measure => simp [intOf]; omega
            · have HF := Lib.hid (all_step (p := lord) hlt HA.out (by unfold lord; rw [hl]; rfl))
              go_wp2_with (first
                | (go_at_call 56; refine (isLetter_any _ _).mono ?_; rintro e w' ⟨rfl, rfl⟩)
                | (go_at_call 57; refine (isDigit_any _ _).mono ?_; rintro e w' ⟨rfl, rfl⟩))
              go_round
              case rel => exact ⟨k + 1, by omega, by go_num, HF⟩
              case measure => simp [intOf]; omega
          · obtain rfl : k = s.size := by omega
            have HE := HA.out
            rw [L_take_all] at HE
            have HE := Lib.hid HE
            go_wp2
            go_ret
            exact ⟨by rw [HN.out, HE.out]; rfl, rfl⟩

set_option maxHeartbeats 1000000 in
theorem rname_any (s : ByteArray) (w : World) (hs : s.size ≤ 9223372036854775807) :
    Calls Try.prog 47 #[.string s] w fun e w' => e = .returned (.bool (WM.name (L s))) ∧ w = w' := by
  have HQ := name_eq (L s)
  generalize hv : WM.name (L s) = v at *
  clear hv
  rw [L_len] at HQ
  have HQ' := Lib.hid HQ
  clear HQ
  have HQ := HQ'
  clear HQ'
  go_enter Try.func47, Try.ntmps47
  go_wp2
  go_loop [3] (fun i => ∃ k : Nat, k ≤ s.size ∧ i = .int .i64 k ∧ Hid (((L s).take k).all lord = true) ∧ Hid (∀ h : 0 < s.size, 0 < k → WM.letter s[0] = true)) (fun i => s.size - (intOf i).toNat)
  case atStart => exact ⟨0, by omega, rfl, Lib.hid rfl, Lib.hid (fun _ h => by omega)⟩
  case round =>
    obtain ⟨k, hk, rfl, HA, HB⟩ := hrel
    by_cases hlt : k < s.size
    · have hp : 0 < s.size := by omega
      have H0 := Lib.hid (L_head s hp)
      cases hl : WM.letter s[k]
      · by_cases hk0 : k = 0
        · subst hk0
          have HN : Hid (v = false) := Lib.hid (by rw [HQ.out, H0.out, hl]; simp)
          rcases WM.letter_false.1 hl with h | h
          · clear hl
            go_wp2
            go_ret
            exact ⟨by rw [HN.out]; rfl, rfl⟩
          · clear hl
            have h2 : 97 ≤ (s[0].toNat : Int) := by omega
            have h3 : decide ((s[0].toNat : Int) ≤ 122) = false := decide_eq_false (by omega)
            go_wp2
            go_ret
            exact ⟨by rw [HN.out]; rfl, rfl⟩
        · have ck : ((k : Int) == 0) = false := by simp; omega
          have HL := Lib.hid (HB.out hp (by omega))
          cases hd : WM.dig s[k]
          · have HF := all_not (p := lord) hlt (by unfold lord; rw [hl, hd]; rfl)
            have HN : Hid (v = false) := Lib.hid (by rw [HQ.out, HF]; simp)
            clear HF
            rcases WM.letter_false.1 hl with h | h
            · rcases WM.dig_false.1 hd with h' | h'
              · clear hl hd
                go_wp2
                go_ret
                exact ⟨by rw [HN.out]; rfl, rfl⟩
              · clear hl hd
                have h4 : decide ((s[k].toNat : Int) < 48) = false := decide_eq_false (by omega)
                go_wp2
                go_ret
                exact ⟨by rw [HN.out]; rfl, rfl⟩
            · have h' : 57 < (s[k].toNat : Int) := by omega
              have h2 : 97 ≤ (s[k].toNat : Int) := by omega
              have h3 : decide ((s[k].toNat : Int) ≤ 122) = false := decide_eq_false (by omega)
              have h4 : decide ((s[k].toNat : Int) < 48) = false := decide_eq_false (by omega)
              clear hl hd
              go_wp2
              go_ret
              exact ⟨by rw [HN.out]; rfl, rfl⟩
          · have HF := Lib.hid (all_step (p := lord) hlt HA.out (by unfold lord; rw [hl, hd]; rfl))
            obtain ⟨d1, d2⟩ := WM.dig_true.1 hd
            have d3 : (s[k].toNat : Int) < 97 := by omega
            clear hl hd
            go_wp2
            go_round
            case rel => exact ⟨k + 1, by omega, by go_num, HF, Lib.hid (fun _ _ => HL.out)⟩
            case measure => simp [intOf]; omega
      · have HF := Lib.hid (all_step (p := lord) hlt HA.out (by unfold lord; rw [hl]; rfl))
        obtain ⟨d1, d2⟩ := WM.letter_true.1 hl
        have HL : Hid (WM.letter s[0] = true) := Lib.hid (by
          by_cases hk0 : k = 0
          · subst hk0; exact hl
          · exact HB.out hp (by omega))
        clear hl
        go_wp2
        go_round
        case rel => exact ⟨k + 1, by omega, by go_num, HF, Lib.hid (fun _ _ => HL.out)⟩
        case measure => simp [intOf]; omega
    · obtain rfl : k = s.size := by omega
      have HE := HA.out
      rw [L_take_all] at HE
      have HE := Lib.hid HE
      by_cases h0 : s.size = 0
      · have HN : Hid (v = false) := Lib.hid (by rw [HQ.out, L_nil h0]; rfl)
        have c0 : decide (0 < s.size) = false := decide_eq_false (by omega)
        go_wp2
        go_ret
        exact ⟨by rw [HN.out]; rfl, rfl⟩
      · have hp : 0 < s.size := by omega
        have HN : Hid (v = decide (s.size ≤ 12)) := Lib.hid (by rw [HQ.out, HE.out, L_head s hp, HB.out hp hp]; simp)
        by_cases h1 : s.size ≤ 12
        · have HM : Hid (v = true) := Lib.hid (by rw [HN.out]; simpa using h1)
          go_wp2
          go_ret
          exact ⟨by rw [HM.out]; first | rfl | (simp_all; omega), rfl⟩
        · have HM : Hid (v = false) := Lib.hid (by rw [HN.out]; simpa using h1)
          have c1 : decide (s.size ≤ 12) = false := by simpa using h1
          go_wp2
          go_ret
          exact ⟨by rw [HM.out]; first | rfl | (simp_all; omega), rfl⟩
end Go.Proofs.Ytagmknahmkniaaa

/- Two texts compared: as the walk says it. -/
namespace Go.Proofs.Ytagmknahmkniaaa
theorem str_t {s t : ByteArray} (h : s = t) : (s.toList == t.toList) = true := by subst h; simp
theorem str_f {s t : ByteArray} (h : s ≠ t) : (s.toList == t.toList) = false := by
  rw [L_toList, L_toList]
  cases e : (L s == L t)
  · rfl
  · exact absurd (L_inj (by simpa using e)) h
end Go.Proofs.Ytagmknahmkniaaa

/- Contracts of layer 9: products compared, the bounds, Check. -/
namespace Go.Proofs.Ytagmknahmkniaaa
open Go.RowKit Go.Recs
set_option linter.unusedVariables false
abbrev prodA (p : QM.Prod) : Value := .agg #[.string p.name, .int .i64 p.cur, .int .i64 p.mult, .int .i64 p.tick, .int .i64 p.low, .int .i64 p.high, .bool p.phys]
def peq (x y : QM.Prod) : Bool := (x.name.toList == y.name.toList) && ((x.cur == y.cur) && ((x.mult == y.mult) && ((x.tick == y.tick) && ((x.low == y.low) && ((x.high == y.high) && (x.phys == y.phys))))))
theorem peq_iff {x y : QM.Prod} : peq x y = true ↔ x = y := by
  constructor
  · intro h
    unfold peq at h
    simp only [Bool.and_eq_true, beq_iff_eq] at h
    obtain ⟨h1, h2, h3, h4, h5, h6, h7⟩ := h
    cases x; cases y
    simp only at h1 h2 h3 h4 h5 h6 h7
    rw [EM.toList_inj h1, h2, h3, h4, h5, h6, h7]
  · rintro rfl
    simp [peq]
theorem peq_false {x y : QM.Prod} : peq x y = false ↔ x ≠ y := by rw [Bool.eq_false_iff, ne_eq, peq_iff]
theorem prod_in (x y : QM.Prod) (w : World) : (Op.equalIn 10000 52 (prodA x) (prodA y)).run Try.prog w = .ok (peq x y) w := by
  have u3 := Try.underlying3
  have u4 := Try.underlying4
  have u9 := Try.underlying9
  have a3 := Try.isAgg3
  have a4 := Try.isAgg4
  have a9 := Try.isAgg9
  have z3 := Try.sizeOf3
  have z4 := Try.sizeOf4
  have z9 := Try.sizeOf9
  have hS : Try.prog.underlying 52 = some (.struct (Try.prog.fieldsOf 52)) := by kernel_rfl
  have hp : Try.prog.stoodInHeld 52 = false := by kernel_rfl
  rw [show (10000 : Nat) = 9999 + 1 from rfl, run_equalIn_agg w 9999 52 _ _ hS hp]
  simp only [Program.fieldsOf, Try.underlying52]
  unfold peq
  go_simp
  by_cases h1 : x.name.toList = y.name.toList <;> by_cases h2 : x.cur = y.cur <;> by_cases h3 : x.mult = y.mult <;> by_cases h4 : x.tick = y.tick <;> by_cases h5 : x.low = y.low <;> by_cases h6 : x.high = y.high <;> by_cases h7 : x.phys = y.phys <;> simp [h1, h2, h3, h4, h5, h6, h7]
theorem prod_guard : Try.prog.eqGuardType Try.prog.depth 52 = false := by kernel_rfl

theorem qwithin_any (n a b : Int) (w : World) :
    Calls Try.prog 45 #[.int .i64 n, .int .i64 a, .int .i64 b] w fun e w' => e = .returned (.bool (QM.within n a b)) ∧ w = w' := by
  by_cases h1 : a ≤ n
  · by_cases h2 : n ≤ b
    · have e : QM.within n a b = true := QM.within_true.2 ⟨h1, h2⟩
      rw [e]; clear e
      go_enter Try.func45, Try.ntmps45
      go_wp2
      go_ret
      exact ⟨rfl, rfl⟩
    · have e : QM.within n a b = false := QM.within_false.2 (.inr (by omega))
      rw [e]; clear e
      go_enter Try.func45, Try.ntmps45
      go_wp2
      go_ret
      exact ⟨rfl, rfl⟩
  · have e : QM.within n a b = false := QM.within_false.2 (.inl (by omega))
    rw [e]; clear e
    go_enter Try.func45, Try.ntmps45
    go_wp2
    go_ret
    exact ⟨rfl, rfl⟩
theorem rqwithin_any (n a b : Int) (w : World) :
    Calls Try.prog 48 #[.int .i64 n, .int .i64 a, .int .i64 b] w fun e w' => e = .returned (.bool (QM.within n a b)) ∧ w = w' := by
  by_cases h1 : a ≤ n
  · by_cases h2 : n ≤ b
    · have e : QM.within n a b = true := QM.within_true.2 ⟨h1, h2⟩
      rw [e]; clear e
      go_enter Try.func48, Try.ntmps48
      go_wp2
      go_ret
      exact ⟨rfl, rfl⟩
    · have e : QM.within n a b = false := QM.within_false.2 (.inr (by omega))
      rw [e]; clear e
      go_enter Try.func48, Try.ntmps48
      go_wp2
      go_ret
      exact ⟨rfl, rfl⟩
  · have e : QM.within n a b = false := QM.within_false.2 (.inl (by omega))
    rw [e]; clear e
    go_enter Try.func48, Try.ntmps48
    go_wp2
    go_ret
    exact ⟨rfl, rfl⟩
theorem qmul_any (n t : Int) (ht : t ≠ 0) (w : World) :
    Calls Try.prog 46 #[.int .i64 n, .int .i64 t] w fun e w' => e = .returned (.bool (n.tmod t == 0)) ∧ w = w' := by
  have h0 : ¬ t = 0 := ht
  go_enter Try.func46, Try.ntmps46
  go_wp2
  go_ret
  exact ⟨rfl, rfl⟩
end Go.Proofs.Ytagmknahmkniaaa

/- Contracts of layer 9: Check, the program's and the reference's. -/
namespace Go.Proofs.Ytagmknahmkniaaa
open Go.RowKit Go.Recs
set_option linter.unusedVariables false

theorem ck1 {p : QM.Prod} (h : WM.name (L p.name) = false) : QM.checkE p = 10 := by unfold QM.checkE; rw [if_pos (show QM.nameOk p = false from h)]
theorem ck2 {p : QM.Prod} (h : WM.name (L p.name) = true) (h2 : QM.within p.cur 0 7 = false) : QM.checkE p = 25 := by
  unfold QM.checkE; rw [if_neg (show ¬ QM.nameOk p = false by rw [show QM.nameOk p = true from h]; decide), if_pos h2]
theorem ck3 {p : QM.Prod} (h : WM.name (L p.name) = true) (h2 : QM.within p.cur 0 7 = true) (h3 : QM.within p.mult 1 4096 = false) : QM.checkE p = 2 := by
  unfold QM.checkE; rw [if_neg (show ¬ QM.nameOk p = false by rw [show QM.nameOk p = true from h]; decide), if_neg (by rw [h2]; decide), if_pos h3]
theorem ck4 {p : QM.Prod} (h : WM.name (L p.name) = true) (h2 : QM.within p.cur 0 7 = true) (h3 : QM.within p.mult 1 4096 = true) (h4 : QM.within p.tick 1 16777216 = false) : QM.checkE p = 16 := by
  unfold QM.checkE; rw [if_neg (show ¬ QM.nameOk p = false by rw [show QM.nameOk p = true from h]; decide), if_neg (by rw [h2]; decide), if_neg (by rw [h3]; decide), if_pos h4]
theorem ck5 {p : QM.Prod} (h : WM.name (L p.name) = true) (h2 : QM.within p.cur 0 7 = true) (h3 : QM.within p.mult 1 4096 = true) (h4 : QM.within p.tick 1 16777216 = true) :
    QM.checkE p = if QM.rangeOk p = false then 17 else 0 := by
  unfold QM.checkE; rw [if_neg (show ¬ QM.nameOk p = false by rw [show QM.nameOk p = true from h]; decide), if_neg (by rw [h2]; decide), if_neg (by rw [h3]; decide), if_neg (by rw [h4]; decide)]
theorem rg (p : QM.Prod) : QM.rangeOk p = (QM.within p.low (-16777216) 16777216 && QM.within p.high (-16777216) 16777216 && decide (p.low ≤ p.high) && (p.low.tmod p.tick == 0) && (p.high.tmod p.tick == 0)) := rfl

set_option maxHeartbeats 2000000 in
theorem qcheck_any (p : QM.Prod) (hq : prodQ p) (w : World) :
    Calls Try.prog 34 #[prodA p] w fun e w' => e = .returned (.int .i64 (QM.checkE p)) ∧ Below w.heap.size w w' := by
  obtain ⟨hn, _, _, _, _, _⟩ := hq
  have hn2 : p.name.size ≤ 9223372036854775807 := hn
  have C0 := Lib.hid (fun ww => name_any p.name ww hn2)
  have C1 := Lib.hid (fun ww => qwithin_any p.cur 0 7 ww)
  have C2 := Lib.hid (fun ww => qwithin_any p.mult 1 4096 ww)
  have C3 := Lib.hid (fun ww => qwithin_any p.tick 1 16777216 ww)
  have C4 := Lib.hid (fun ww => qwithin_any p.low (-16777216) 16777216 ww)
  have C5 := Lib.hid (fun ww => qwithin_any p.high (-16777216) 16777216 ww)
  have HT : Hid (QM.within p.tick 1 16777216 = true → p.tick ≠ 0) := Lib.hid (fun h => by have := QM.within_true.1 h; omega)
  have C6 := Lib.hid (fun (h : p.tick ≠ 0) ww => qmul_any p.low p.tick h ww)
  have C7 := Lib.hid (fun (h : p.tick ≠ 0) ww => qmul_any p.high p.tick h ww)
  have K1 := Lib.hid (@ck1 p); have K2 := Lib.hid (@ck2 p); have K3 := Lib.hid (@ck3 p); have K4 := Lib.hid (@ck4 p); have K5 := Lib.hid (@ck5 p)
  rw [rg] at K5
  have HB := Lib.hid (fun o => (Below.refl w.heap.size w).alloc (Nat.le_refl _) o)
  generalize QM.checkE p = x at *
  generalize WM.name (L p.name) = b0 at *
  generalize QM.within p.cur 0 7 = b1 at *
  generalize QM.within p.mult 1 4096 = b2 at *
  generalize QM.within p.tick 1 16777216 = b3 at *
  generalize QM.within p.low (-16777216) 16777216 = b4 at *
  generalize QM.within p.high (-16777216) 16777216 = b5 at *
  generalize (p.low.tmod p.tick == 0) = b6 at *
  generalize (p.high.tmod p.tick == 0) = b7 at *
  clear hn hn2
  go_enter Try.func34, Try.ntmps34
  go_wp2_with fail
  refine (C0.out _).mono ?_
  rintro e w1 ⟨rfl, rfl⟩
  cases b0
  · have HX := Lib.hid (K1.out (by trivial))
    go_wp2_with fail
    go_ret
    exact ⟨by rw [HX.out]; rfl, HB.out _⟩
  go_wp2_with fail
  refine (C1.out _).mono ?_
  rintro e w1 ⟨rfl, rfl⟩
  cases b1
  · have HX := Lib.hid (K2.out (by trivial) (by trivial))
    go_wp2_with fail
    go_ret
    exact ⟨by rw [HX.out]; rfl, HB.out _⟩
  go_wp2_with fail
  refine (C2.out _).mono ?_
  rintro e w1 ⟨rfl, rfl⟩
  cases b2
  · have HX := Lib.hid (K3.out (by trivial) (by trivial) (by trivial))
    go_wp2_with fail
    go_ret
    exact ⟨by rw [HX.out]; rfl, HB.out _⟩
  go_wp2_with fail
  refine (C3.out _).mono ?_
  rintro e w1 ⟨rfl, rfl⟩
  cases b3
  · have HX := Lib.hid (K4.out (by trivial) (by trivial) (by trivial) (by trivial))
    go_wp2_with fail
    go_ret
    exact ⟨by rw [HX.out]; rfl, HB.out _⟩
  have HX := Lib.hid (K5.out (by trivial) (by trivial) (by trivial) (by trivial))
  have HT2 := Lib.hid (HT.out (by trivial))
  clear K1 K2 K3 K4 K5 HT
  go_wp2_with fail
  refine (C4.out _).mono ?_
  rintro e w1 ⟨rfl, rfl⟩
  cases b4
  · go_wp2_with fail
    go_ret
    exact ⟨by rw [HX.out]; simp, HB.out _⟩
  go_wp2_with fail
  refine (C5.out _).mono ?_
  rintro e w1 ⟨rfl, rfl⟩
  cases b5
  · go_wp2_with fail
    go_ret
    exact ⟨by rw [HX.out]; simp, HB.out _⟩
  by_cases hlh : p.high < p.low
  · have hd : decide (p.low ≤ p.high) = false := by simp; omega
    rw [hd] at HX; clear hd
    go_wp2_with fail
    go_ret
    exact ⟨by rw [HX.out]; simp, HB.out _⟩
  have hd : decide (p.low ≤ p.high) = true := by simp; omega
  rw [hd] at HX; clear hd
  go_wp2_with fail
  refine (C6.out HT2.out _).mono ?_
  rintro e w1 ⟨rfl, rfl⟩
  cases b6
  · go_wp2_with fail
    go_ret
    exact ⟨by rw [HX.out]; simp, HB.out _⟩
  go_wp2_with fail
  refine (C7.out HT2.out _).mono ?_
  rintro e w1 ⟨rfl, rfl⟩
  cases b7
  · go_wp2_with fail
    go_ret
    exact ⟨by rw [HX.out]; simp, HB.out _⟩
  go_wp2_with fail
  go_ret
  exact ⟨by rw [HX.out]; simp, HB.out _⟩

set_option maxHeartbeats 2000000 in
theorem rqcheck_any (p : QM.Prod) (hq : prodQ p) (w : World) :
    Calls Try.prog 37 #[prodA p] w fun e w' => e = .returned (.int .i64 (QM.checkE p)) ∧ Below w.heap.size w w' := by
  obtain ⟨hn, _, _, _, _, _⟩ := hq
  have hn2 : p.name.size ≤ 9223372036854775807 := hn
  have C0 := Lib.hid (fun ww => rname_any p.name ww hn2)
  have C1 := Lib.hid (fun ww => rqwithin_any p.cur 0 7 ww)
  have C2 := Lib.hid (fun ww => rqwithin_any p.mult 1 4096 ww)
  have C3 := Lib.hid (fun ww => rqwithin_any p.tick 1 16777216 ww)
  have C4 := Lib.hid (fun ww => rqwithin_any p.low (-16777216) 16777216 ww)
  have C5 := Lib.hid (fun ww => rqwithin_any p.high (-16777216) 16777216 ww)
  have HT : Hid (QM.within p.tick 1 16777216 = true → p.tick ≠ 0) := Lib.hid (fun h => by have := QM.within_true.1 h; omega)
  have K1 := Lib.hid (@ck1 p); have K2 := Lib.hid (@ck2 p); have K3 := Lib.hid (@ck3 p); have K4 := Lib.hid (@ck4 p); have K5 := Lib.hid (@ck5 p)
  rw [rg] at K5
  have HB := Lib.hid (fun o => (Below.refl w.heap.size w).alloc (Nat.le_refl _) o)
  generalize QM.checkE p = x at *
  generalize WM.name (L p.name) = b0 at *
  generalize QM.within p.cur 0 7 = b1 at *
  generalize QM.within p.mult 1 4096 = b2 at *
  generalize QM.within p.tick 1 16777216 = b3 at *
  generalize QM.within p.low (-16777216) 16777216 = b4 at *
  generalize QM.within p.high (-16777216) 16777216 = b5 at *
  clear hn hn2
  go_enter Try.func37, Try.ntmps37
  go_wp2_with fail
  refine (C0.out _).mono ?_
  rintro e w1 ⟨rfl, rfl⟩
  cases b0
  · have HX := Lib.hid (K1.out (by trivial))
    go_wp2_with fail
    go_ret
    exact ⟨by rw [HX.out]; rfl, HB.out _⟩
  go_wp2_with fail
  refine (C1.out _).mono ?_
  rintro e w1 ⟨rfl, rfl⟩
  cases b1
  · have HX := Lib.hid (K2.out (by trivial) (by trivial))
    go_wp2_with fail
    go_ret
    exact ⟨by rw [HX.out]; rfl, HB.out _⟩
  go_wp2_with fail
  refine (C2.out _).mono ?_
  rintro e w1 ⟨rfl, rfl⟩
  cases b2
  · have HX := Lib.hid (K3.out (by trivial) (by trivial) (by trivial))
    go_wp2_with fail
    go_ret
    exact ⟨by rw [HX.out]; rfl, HB.out _⟩
  go_wp2_with fail
  refine (C3.out _).mono ?_
  rintro e w1 ⟨rfl, rfl⟩
  cases b3
  · have HX := Lib.hid (K4.out (by trivial) (by trivial) (by trivial) (by trivial))
    go_wp2_with fail
    go_ret
    exact ⟨by rw [HX.out]; rfl, HB.out _⟩
  have HX := Lib.hid (K5.out (by trivial) (by trivial) (by trivial) (by trivial))
  have HT2 : ¬ p.tick = 0 := HT.out (by trivial)
  clear K1 K2 K3 K4 K5 HT
  go_wp2_with fail
  refine (C4.out _).mono ?_
  rintro e w1 ⟨rfl, rfl⟩
  cases b4
  · go_wp2_with fail
    go_ret
    exact ⟨by rw [HX.out]; simp, HB.out _⟩
  go_wp2_with fail
  refine (C5.out _).mono ?_
  rintro e w1 ⟨rfl, rfl⟩
  cases b5
  · go_wp2_with fail
    go_ret
    exact ⟨by rw [HX.out]; simp, HB.out _⟩
  by_cases hlh : p.high < p.low
  · have hd : decide (p.low ≤ p.high) = false := by simp; omega
    rw [hd] at HX; clear hd
    go_wp2_with fail
    go_ret
    exact ⟨by rw [HX.out]; simp, HB.out _⟩
  have hd : decide (p.low ≤ p.high) = true := by simp; omega
  rw [hd] at HX; clear hd
  cases h6 : (p.low.tmod p.tick == 0)
  · rw [h6] at HX
    have h6' : ¬ p.low.tmod p.tick = 0 := by simpa using h6
    have h6b : (p.low.tmod p.tick != 0) = true := by rw [bne, h6]; rfl
    go_wp2_with fail
    go_ret
    exact ⟨by rw [HX.out]; simp, HB.out _⟩
  rw [h6] at HX
  have h6' : p.low.tmod p.tick = 0 := by simpa using h6
  have h6b : (p.low.tmod p.tick != 0) = false := by rw [bne, h6]; rfl
  cases h7 : (p.high.tmod p.tick == 0)
  · rw [h7] at HX
    have h7' : ¬ p.high.tmod p.tick = 0 := by simpa using h7
    have h7b : (p.high.tmod p.tick != 0) = true := by rw [bne, h7]; rfl
    go_wp2_with fail
    go_ret
    exact ⟨by rw [HX.out]; simp, HB.out _⟩
  rw [h7] at HX
  have h7' : p.high.tmod p.tick = 0 := by simpa using h7
  have h7b : (p.high.tmod p.tick != 0) = false := by rw [bne, h7]; rfl
  go_wp2_with fail
  go_ret
  exact ⟨by rw [HX.out]; simp, HB.out _⟩
end Go.Proofs.Ytagmknahmkniaaa

/- Layer 9's mathematics: roundings and values, case by case. -/
namespace QM
open CM
theorem md_bad {a b c mode : Int} (h : within mode 1 5 = false) : mdE a b c mode = 2 ∧ mdN a b c mode = 0 := by
  have hA : mdA a b c mode = false := by
    rw [within_false] at h
    unfold mdA
    rcases h with h | h
    · simp [show ¬ 1 ≤ mode by omega]
    · simp [show ¬ mode ≤ 5 by omega]
  simp [mdE, mdN, hA]
theorem md_small {x t mode : Int} (x1 : -16777216 ≤ x) (x2 : x ≤ 16777216) (t1 : 1 ≤ t) (t2 : t ≤ 16777216) (h : within mode 1 5 = true) :
    mdE x 1 t mode = 0 ∧ -16777217 ≤ mdN x 1 t mode ∧ mdN x 1 t mode ≤ 16777217 := by
  obtain ⟨m1, m5⟩ := within_true.1 h
  have hA : mdA x 1 t mode = true := by
    have f1 : fits x = true := fits_of (by omega) (by omega)
    have f2 : fits 1 = true := by decide
    have f3 : fits t = true := fits_of (by omega) (by omega)
    simp [mdA, f1, f2, f3, m1, m5]
  have hq : (mdQ x 1 t : Int) ≤ 16777216 := by
    unfold mdQ
    have hs : size x ≤ 16777216 := by unfold size; split <;> omega
    have hs0 := size_nonneg x
    have : (size x).toNat * (size 1).toNat / (size t).toNat ≤ (size x).toNat * (size 1).toNat := Nat.div_le_self _ _
    have e1 : (size 1).toNat = 1 := by decide
    rw [e1, Nat.mul_one] at this ⊢
    omega
  have hg : 0 ≤ mdG x 1 t mode ∧ mdG x 1 t mode ≤ 16777217 := by
    unfold mdG
    split <;> omega
  have h0 : t ≠ 0 := by omega
  have hle : mdG x 1 t mode ≤ 1152921504606846976 := by omega
  have e : mdN x 1 t mode = if neg x 1 t = true then -mdG x 1 t mode else mdG x 1 t mode := by simp [mdN, hA, h0, hle]
  refine ⟨by simp [mdE, hA, h0, hle], ?_⟩
  rw [e]
  split <;> omega
theorem mul_small {n t : Int} (n1 : -16777217 ≤ n) (n2 : n ≤ 16777217) (t1 : 1 ≤ t) (t2 : t ≤ 16777216) : -281474993487872 ≤ n * t ∧ n * t ≤ 281474993487872 := by
  have a1 : n * t ≤ 16777217 * t := Int.mul_le_mul_of_nonneg_right n2 (by omega)
  have a2 : -16777217 * t ≤ n * t := Int.mul_le_mul_of_nonneg_right n1 (by omega)
  omega

section
variable {p : Prod} {x mode q : Int}
theorem pk_bad (h : checkE p ≠ 0) : priceE p x = checkE p := by unfold priceE; rw [if_pos h]
theorem pk_out (h : checkE p = 0) (h2 : within x p.low p.high = false) : priceE p x = 17 := by unfold priceE; rw [if_neg (by simp [h]), if_pos h2]
theorem pk_tick (h : checkE p = 0) (h2 : within x p.low p.high = true) (h3 : (x.tmod p.tick == 0) = false) : priceE p x = 16 := by
  unfold priceE; rw [if_neg (by simp [h]), if_neg (by simp [h2]), if_pos (by simpa using h3)]
theorem pk_ok (h : checkE p = 0) (h2 : within x p.low p.high = true) (h3 : (x.tmod p.tick == 0) = true) : priceE p x = 0 := by
  unfold priceE; rw [if_neg (by simp [h]), if_neg (by simp [h2]), if_neg (by simpa using h3)]
theorem tick_pos (h : checkE p = 0) : p.tick ≠ 0 := by have := (check_parts h).2.2.2.1; omega
theorem rd_bad (h : checkE p ≠ 0) : roundE p x mode = checkE p ∧ roundN p x mode = 0 := by
  have e : roundE p x mode = checkE p := by unfold roundE; rw [if_pos h]
  exact ⟨e, by unfold roundN; rw [e, if_neg h]⟩
theorem rd_out (h : checkE p = 0) (h2 : within x (-16777216) 16777216 = false) : roundE p x mode = 17 ∧ roundN p x mode = 0 := by
  have e : roundE p x mode = 17 := by unfold roundE; rw [if_neg (by simp [h]), if_pos h2]
  exact ⟨e, by unfold roundN; rw [e, if_neg (by decide)]⟩
theorem rd_mode (h : checkE p = 0) (h2 : within x (-16777216) 16777216 = true) (h3 : within mode 1 5 = false) : roundE p x mode = 2 ∧ roundN p x mode = 0 := by
  have e : roundE p x mode = 2 := by unfold roundE; rw [if_neg (by simp [h]), if_neg (by simp [h2]), if_pos h3]
  exact ⟨e, by unfold roundN; rw [e, if_neg (by decide)]⟩
theorem rd_ok (h : checkE p = 0) (h2 : within x (-16777216) 16777216 = true) (h3 : within mode 1 5 = true) :
    (roundE p x mode = 0 ∧ roundN p x mode = clamp (mdN x 1 p.tick mode * p.tick) p.low p.high) ∧ mdE x 1 p.tick mode = 0 ∧ -281474993487872 ≤ mdN x 1 p.tick mode * p.tick ∧ mdN x 1 p.tick mode * p.tick ≤ 281474993487872 := by
  have e : roundE p x mode = 0 := by unfold roundE; rw [if_neg (by simp [h]), if_neg (by simp [h2]), if_neg (by simp [h3])]
  have ht := (check_parts h).2.2.2.1
  have hx := within_true.1 h2
  obtain ⟨m0, m1, m2⟩ := md_small hx.1 hx.2 ht.1 ht.2 h3
  exact ⟨⟨e, by unfold roundN; rw [if_pos e]⟩, m0, mul_small m1 m2 ht.1 ht.2⟩
theorem vl_bad (h : checkE p ≠ 0) : valueE p x q = checkE p ∧ valueN p x q = 0 := by
  have e : valueE p x q = checkE p := by unfold valueE; rw [if_pos h]
  exact ⟨e, by unfold valueN; rw [e, if_neg h]⟩
theorem vl_out (h : checkE p = 0) (h2 : within x (-33554432) 33554432 = false) : valueE p x q = 17 ∧ valueN p x q = 0 := by
  have e : valueE p x q = 17 := by unfold valueE; rw [if_neg (by simp [h]), if_pos h2]
  exact ⟨e, by unfold valueN; rw [e, if_neg (by decide)]⟩
theorem vl_qty (h : checkE p = 0) (h2 : within x (-33554432) 33554432 = true) (h3 : within q (-1048576) 1048576 = false) : valueE p x q = 18 ∧ valueN p x q = 0 := by
  have e : valueE p x q = 18 := by unfold valueE; rw [if_neg (by simp [h]), if_neg (by simp [h2]), if_pos h3]
  exact ⟨e, by unfold valueN; rw [e, if_neg (by decide)]⟩
theorem vl_ok (h : checkE p = 0) (h2 : within x (-33554432) 33554432 = true) (h3 : within q (-1048576) 1048576 = true) : valueE p x q = 0 ∧ valueN p x q = x * p.mult * q := by
  have e : valueE p x q = 0 := by unfold valueE; rw [if_neg (by simp [h]), if_neg (by simp [h2]), if_neg (by simp [h3])]
  exact ⟨e, by unfold valueN; rw [if_pos e]⟩
end
end QM

/- Rows of ints made by 'make', known whole. -/
namespace Go.Proofs.Ytagmknahmkniaaa
open Go.RowKit

/-- block g is just the numbers zs -/
def Row (w : World) (g : Nat) (zs : List Int) : Prop := w.heap[g]? = some (.cells (zs.map (Value.int .i64)).toArray 3 (0, 0))
/-- block g is one variable of type t -/
def Box (w : World) (g : Nat) (t : TypeId) (v : Value) : Prop := w.heap[g]? = some (.cells #[v] t (0, 0))

theorem lt_of_block {w : World} {g : Nat} {o : Obj} (h : w.heap[g]? = some o) : g < w.heap.size := by
  rcases Nat.lt_or_ge g w.heap.size with hlt | hge
  · exact hlt
  · rw [Array.getElem?_eq_none hge] at h; cases h

section
variable {w w' : World} {g : Nat} {zs : List Int} {t : TypeId} {v : Value}
theorem Row.lt (h : Row w g zs) : g < w.heap.size := lt_of_block h
theorem Box.lt (h : Box w g t v) : g < w.heap.size := lt_of_block h
theorem Row.cell (h : Row w g zs) (i : Nat) (hi : i < zs.length) : w.cell? ⟨g, i, none⟩ = some (.int .i64 (zs.getD i 0)) := by
  unfold Row at h
  simp [World.cell?, h, List.getD, hi]
theorem Row.frozen (h : Row w g zs) (i : Nat) : w.frozen? ⟨g, i, none⟩ = false := by
  unfold Row at h
  simp [World.frozen?, h]
theorem Box.cell (h : Box w g t v) : w.cell? ⟨g, 0, none⟩ = some v := by
  unfold Box at h
  simp [World.cell?, h]
theorem Box.frozen (h : Box w g t v) : w.frozen? ⟨g, 0, none⟩ = false := by
  unfold Box at h
  simp [World.frozen?, h]
theorem Row.set_ (h : Row w g zs) (i : Nat) (x : Int) : Row (w.setCell ⟨g, i, none⟩ (.int .i64 x)) g (zs.set i x) := by
  unfold Row at h ⊢
  simp [World.setCell, Array.getElem?_modify, h]
theorem Box.set_ (h : Box w g t v) (u : Value) : Box (w.setCell ⟨g, 0, none⟩ u) g t u := by
  unfold Box at h ⊢
  simp [World.setCell, Array.getElem?_modify, h]
theorem Row.far (h : Row w g zs) {p : Addr} (hp : g ≠ p.block) (u : Value) : Row (w.setCell p u) g zs := (Below.heap_setCell w p u g hp).trans h
theorem Box.far (h : Box w g t v) {p : Addr} (hp : g ≠ p.block) (u : Value) : Box (w.setCell p u) g t v := (Below.heap_setCell w p u g hp).trans h
theorem Row.alloc (h : Row w g zs) (o : Obj) : Row (w.alloc o) g zs := (Below.heap_alloc w o g h.lt).trans h
theorem Box.alloc (h : Box w g t v) (o : Obj) : Box (w.alloc o) g t v := (Below.heap_alloc w o g h.lt).trans h
theorem Row.drewN (h : Row w g zs) (n : Nat) : Row (w.drewN n) g zs := h
theorem Row.drew (h : Row w g zs) : Row w.drew g zs := h
theorem Box.drewN (h : Box w g t v) (n : Nat) : Box (w.drewN n) g t v := h
theorem Box.drew (h : Box w g t v) : Box w.drew g t v := h
theorem Row.below {B : Nat} (h : Row w g zs) (hb : Below B w w') (hg : g < B) : Row w' g zs := (hb.block g hg).trans h
theorem Box.below {B : Nat} (h : Box w g t v) (hb : Below B w w') (hg : g < B) : Box w' g t v := (hb.block g hg).trans h
theorem Box.new (w : World) (t : TypeId) (v : Value) : Box (w.alloc (.cells #[v] t)) w.heap.size t v := heap_alloc_new w _
theorem Row.own (h : Row w g zs) {B : Nat} (hB : B ≤ g) (hl : zs.length ≤ maxLen) : Own w B (.slice (some ⟨g, 0, none⟩) zs.length zs.length) zs :=
  ⟨by simp, .inr ⟨g, zs.length, _, rfl, hB, h, Nat.le_refl _, hl, by simp, by simp [List.take_of_length_le]⟩⟩
theorem Row.ints (h : Row w g zs) (hl : zs.length ≤ maxLen) (hr : ∀ n ∈ zs, -9223372036854775808 ≤ n ∧ n ≤ 9223372036854775807) : Ints w (some ⟨g, 0, none⟩) zs :=
  ⟨hl, hr, .inr ⟨g, 0, rfl, h.lt, fun i hi => by rw [Nat.zero_add]; exact h.cell i hi⟩⟩
end

/-- n noughts, as cells -/
def zeros (n : Nat) : Array Value := madeCells #[.int .i64 0] n
theorem Row.made (w : World) (n : Nat) : Row (w.alloc (.cells (zeros n) 3)) w.heap.size (List.replicate n 0) := by
  have e : zeros n = ((List.replicate n 0).map (Value.int .i64)).toArray := by
    apply Array.toList_inj.1
    simp [zeros, toList_madeCells_one]
  rw [e]; exact heap_alloc_new w _

theorem make_ints (n : Nat) (hn : n ≤ 1099511627776) (u : World) : (Instr.makeSlice 75 (.int .i64 (n : Int)) (.int .i64 (n : Int))).run Try.prog u =
    .ok (.slice (some ⟨u.heap.size, 0, none⟩) n n) (u.alloc (.cells (zeros n) 3)) := by
  obtain ⟨i0, hi, hz0, hz1, hz2⟩ := info_parts info_int
  have h := run_make (P := Try.prog) u 75 3 i0 (.int .i64 0) Try.underlying75 hi hz0 .i64 .i64 (n : Int) (n : Int) (by omega) (Int.le_refl _) (by rw [hz2]; omega) (by omega)
  rw [Int.toNat_natCast] at h
  simpa [hz1, Value.cells, zeros] using h

/-! a row of the call's own, whatever its room: stores -/
theorem Own.set_ {w : World} {B g n cap : Nat} {zs : List Int} (h : Own w B (.slice (some ⟨g, 0, none⟩) n cap) zs) (i : Nat) (x : Int) :
    Own (w.setCell ⟨g, i, none⟩ (.int .i64 x)) B (.slice (some ⟨g, 0, none⟩) n cap) (zs.set i x) := by
  have hn : n = zs.length := by
    rcases h.2 with ⟨h0, _⟩ | ⟨g', cap', cur, h0, _⟩
    · cases h0
    · injection h0
  subst hn
  have := (World.ownsRow.stored h i (.int .i64 x)).1
  unfold Own
  rw [List.length_set, List.map_set]
  exact this
theorem Own.frozen {w : World} {B g n cap : Nat} {zs : List Int} (h : Own w B (.slice (some ⟨g, 0, none⟩) n cap) zs) (i : Nat) : w.frozen? ⟨g, i, none⟩ = false := by
  have hn : n = zs.length := by
    rcases h.2 with ⟨h0, _⟩ | ⟨g', cap', cur, h0, _⟩
    · cases h0
    · injection h0
  subst hn
  exact World.ownsRow.frozenAt h i
theorem Own.far {w : World} {B g n cap : Nat} {zs : List Int} (h : Own w B (.slice (some ⟨g, 0, none⟩) n cap) zs) {p : Addr} (hp : g ≠ p.block) (u : Value) :
    Own (w.setCell p u) B (.slice (some ⟨g, 0, none⟩) n cap) zs := by
  refine ⟨h.1, ?_⟩
  rcases h.2 with ⟨h0, _⟩ | ⟨g', cap', cur, h0, hB, hh, r⟩
  · cases h0
  · refine .inr ⟨g', cap', cur, h0, hB, ?_, r⟩
    have : g' = g := by injection h0 with h1; injection h1 with h1; injection h1 with h1; exact h1.symm
    subst this
    rw [Below.heap_setCell w p u _ hp]; exact hh
theorem Own.empty (w : World) (B : Nat) (hB : B ≤ w.heap.size) : Own (w.alloc (.cells #[] 3)) B (.slice (some ⟨w.heap.size, 0, none⟩) 0 0) [] :=
  World.ownsRow_lit w #[] 0 hB (Nat.zero_le _) rfl
theorem Own.ge {w : World} {B g n cap : Nat} {zs : List Int} (h : Own w B (.slice (some ⟨g, 0, none⟩) n cap) zs) : B ≤ g ∧ g < w.heap.size := by
  rcases h.form with ⟨h0, _⟩ | ⟨g', c', h0, h1, h2, _⟩
  · cases h0
  · injection h0 with h1'; injection h1' with h1'; injection h1' with h1'
    subst h1'; exact ⟨h1, h2⟩

/-- two rows of the call's own, in different blocks -/
def Two (w : World) (B : Nat) (v : Value) (zs : List Int) (u : Value) (ys : List Int) : Prop :=
  Own w B v zs ∧ Own w B u ys ∧ ∃ g h, v.ownBlock = some g ∧ u.ownBlock = some h ∧ g ≠ h ∧ g < w.heap.size ∧ h < w.heap.size

theorem Two.swap {w : World} {B : Nat} {v u : Value} {zs ys : List Int} (h : Two w B v zs u ys) : Two w B u ys v zs := by
  obtain ⟨a, b, g, k, e1, e2, e3, e4, e5⟩ := h
  exact ⟨b, a, k, g, e2, e1, fun e => e3 e.symm, e5, e4⟩
theorem Two.below {w w' : World} {B : Nat} {v u : Value} {zs ys : List Int} (h : Two w B v zs u ys) (hb : Below w.heap.size w w') : Two w' B v zs u ys := by
  obtain ⟨a, b, g, k, e1, e2, e3, e4, e5⟩ := h
  exact ⟨a.below hb, b.below hb, g, k, e1, e2, e3, Nat.lt_of_lt_of_le e4 hb.size, Nat.lt_of_lt_of_le e5 hb.size⟩

/-- 's = append(s, x)' beside another row -/
theorem wpList_push2 {ops : Array Oper} {rest : List Oper} {o : Oper} {a : Act} {Q : Exit → Act → World → Prop} (w : World) (n : Int) (B : Nat) (zs ys : List Int) (s x : Operand)
    (hgd : o.guard = none) (ho : o.op = .call { callee := .builtin .append, args := #[s, x], argTypes := #[75, 75] })
    (v u : Value) (hs : a.eval s = v) (hx : a.eval x = .slice (some ⟨w.heap.size, 0, none⟩) 1 1) (hown : Two w B v zs u ys) (hl : zs.length < 1099511627776) (hB : B ≤ w.heap.size)
    (h : ∀ v' w', Two w' B v' (zs ++ [n]) u ys → Below B w w' → wpList Try.prog ops Q rest (a.put o.dst v') w') :
    wpList Try.prog ops Q (o :: rest) a (w.alloc (.cells #[.int .i64 n] 3)) := by
  obtain ⟨h1, h2, g, k, e1, e2, e3, e4, e5⟩ := hown
  obtain ⟨i0, hi, hz0, hz1, hz2⟩ := info_parts info_int
  refine wpList_append_own_at (w.alloc (.cells #[.int .i64 n] 3)) hgd s x 75 ho B 3 i0 (.int .i64 0) 1 8 Try.underlying75 hi hz0 hz1 hz2 rfl (by decide) v zs.length (zs.map (Value.int .i64)) hs (Own.alloc h1 _)
    ⟨w.heap.size, 0, none⟩ 1 1 [.int .i64 n] hx rfl ?_ ?_ (by unfold maxLen; omega) (by omega) (by simp; omega) ?_
  · intro j u hj
    match j, hj with
    | 0, hj => simp at hj; subst hj; simp [Addr.add]
  · intro u hu; simp at hu; subst hu; rfl
  · intro v' w' p1 p2 _ p4
    have hg : w.grownBy w' v.ownBlock := (World.grownBy_alloc w _ v.ownBlock).trans p2
    have own' : Own w' B v' (zs ++ [n]) := by unfold Own; simpa using p1
    have hu : Own w' B u ys := World.ownsRow.kept h2 hg (.inr (by rw [e1, e2]; intro e; injection e with e; exact e3 e.symm))
    refine h v' w' ⟨own', hu, ?_⟩ ((Below.refl B w).grown hg hB (Own.block h1))
    have hz := hg.size
    rcases p4 with p4 | p4
    · exact ⟨g, k, by rw [p4, e1], e2, e3, by omega, by omega⟩
    · refine ⟨w.heap.size + 1, k, by rw [p4]; simp, e2, by omega, ?_, by omega⟩
      have := World.ownsRow.lt p1 (w.heap.size + 1) (by rw [p4]; simp)
      exact this.2
end Go.Proofs.Ytagmknahmkniaaa

/- Contracts of layer 1's small functions and of their references. -/
namespace Go.Proofs.Ytagmknahmkniaaa
open Go.RowKit

theorem fits_any (n : Int) (w : World) :
    Calls Try.prog 67 #[.int .i64 n] w fun e w' => e = .returned (.bool (CM.fits n)) ∧ w = w' := by
  by_cases h1 : -1152921504606846976 ≤ n
  · by_cases h2 : n ≤ 1152921504606846976
    · have h : CM.fits n = true := CM.fits_true.2 ⟨h1, h2⟩
      rw [h]; clear h
      go_enter Try.func67, Try.ntmps67
      go_wp2
      go_ret
      exact ⟨rfl, rfl⟩
    · have h : CM.fits n = false := CM.fits_false.2 (by omega)
      rw [h]; clear h
      go_enter Try.func67, Try.ntmps67
      go_wp2
      go_ret
      exact ⟨rfl, rfl⟩
  · have h : CM.fits n = false := CM.fits_false.2 (by omega)
    rw [h]; clear h
    go_enter Try.func67, Try.ntmps67
    go_wp2
    go_ret
    exact ⟨rfl, rfl⟩

theorem fitting_any (n : Int) (w : World) :
    Calls Try.prog 71 #[.int .i64 n] w fun e w' => e = .returned (.tuple #[.int .i64 (CM.fitN n), .int .i64 (CM.fitE n)]) ∧ w = w' := by
  cases h : CM.fits n
  · have hn : CM.fitN n = 0 := by simp [CM.fitN, h]
    have he : CM.fitE n = 3 := by simp [CM.fitE, h]
    rw [hn, he]; clear hn he
    go_enter Try.func71, Try.ntmps71
    go_wp2_with (go_at_call 67; refine (fits_any _ _).mono ?_; rintro e w' ⟨rfl, rfl⟩)
    go_ret2
    exact ⟨rfl, rfl⟩
  · have hn : CM.fitN n = n := by simp [CM.fitN, h]
    have he : CM.fitE n = 0 := by simp [CM.fitE, h]
    rw [hn, he]; clear hn he
    go_enter Try.func71, Try.ntmps71
    go_wp2_with (go_at_call 67; refine (fits_any _ _).mono ?_; rintro e w' ⟨rfl, rfl⟩)
    go_ret2
    exact ⟨rfl, rfl⟩

theorem clamp_any (n low high : Int) (w : World) :
    Calls Try.prog 32 #[.int .i64 n, .int .i64 low, .int .i64 high] w fun e w' => e = .returned (.int .i64 (CM.clamp n low high)) ∧ w = w' := by
  by_cases h1 : n < low
  · have h : CM.clamp n low high = low := by simp [CM.clamp, h1]
    rw [h]; clear h
    go_enter Try.func32, Try.ntmps32
    go_wp2
    go_ret
    exact ⟨rfl, rfl⟩
  · by_cases h2 : high < low
    · have h : CM.clamp n low high = low := by simp [CM.clamp, h2]
      rw [h]; clear h
      go_enter Try.func32, Try.ntmps32
      go_wp2
      go_ret
      exact ⟨rfl, rfl⟩
    · by_cases h3 : high < n
      · have h : CM.clamp n low high = high := by simp [CM.clamp, h1, h2, h3]
        rw [h]; clear h
        go_enter Try.func32, Try.ntmps32
        go_wp2
        go_ret
        exact ⟨rfl, rfl⟩
      · have h : CM.clamp n low high = n := by simp [CM.clamp, h1, h2, h3]
        rw [h]; clear h
        go_enter Try.func32, Try.ntmps32
        go_wp2
        go_ret
        exact ⟨rfl, rfl⟩

theorem size_any (n : Int) (w : World) (h1 : -1152921504606846976 ≤ n) (h2 : n ≤ 1152921504606846976) :
    Calls Try.prog 69 #[.int .i64 n] w fun e w' => e = .returned (.int .i64 (CM.size n)) ∧ w = w' := by
  by_cases h : n < 0
  · have hs : CM.size n = -n := by simp [CM.size, h]
    rw [hs]; clear hs
    go_enter Try.func69, Try.ntmps69
    go_wp2
    go_ret
    exact ⟨rfl, rfl⟩
  · have hs : CM.size n = n := by simp [CM.size, h]
    rw [hs]; clear hs
    go_enter Try.func69, Try.ntmps69
    go_wp2
    go_ret
    exact ⟨rfl, rfl⟩

end Go.Proofs.Ytagmknahmkniaaa

namespace Go.Proofs.Ytagmknahmkniaaa
open Go.RowKit

theorem ofInt_i64 (a : Nat) (ha : a < 9223372036854775808) : (BitVec.ofInt 64 (a : Int)).toNat = a := by
  rw [BitVec.ofInt_natCast, BitVec.toNat_ofNat]; exact Nat.mod_eq_of_lt (by omega)
theorem i64_and_nat (a b : Nat) (ha : a < 9223372036854775808) (hb : b < 9223372036854775808) : bits .and .i64 (a : Int) (b : Int) = ((a &&& b : Nat) : Int) := by
  have hx : a &&& b < 2 ^ 63 := Nat.and_lt_two_pow _ (by omega)
  show IntKind.i64.wrap ((BitVec.ofInt 64 (a : Int) &&& BitVec.ofInt 64 (b : Int)).toNat : Int) = _
  rw [BitVec.toNat_and, ofInt_i64 a ha, ofInt_i64 b hb, IntKind.wrap_i64]
  omega

theorem div_pow_le (a j : Nat) : a / 2 ^ j ≤ a := Nat.div_le_self _ _

theorem bit_test (a k : Nat) (ha : a ≤ 1152921504606846976) :
    (bits BinOp.and IntKind.i64 ((a : Int) / 2 ^ (60 - k)) 1 == 1) = decide (CM.bitAt a k = 1) := by
  have e : ((a : Int) / 2 ^ (60 - k)) = ((a / 2 ^ (60 - k) : Nat) : Int) := by
    rw [Int.natCast_ediv, Int.natCast_pow]; rfl
  have hl := div_pow_le a (60 - k)
  have h := i64_and_nat (a / 2 ^ (60 - k)) 1 (by omega) (by omega)
  rw [e, show (1 : Int) = ((1 : Nat) : Int) from rfl, h, Nat.and_one_is_mod]
  unfold CM.bitAt
  generalize a / 2 ^ (60 - k) % 2 = t
  rw [Bool.eq_iff_iff]; simp; omega

theorem bit_test2 (a k : Nat) :
    ((((a : Int) / 2 ^ (60 - k)).tmod 2) == 1) = decide (CM.bitAt a k = 1) := by
  have e : ((a : Int) / 2 ^ (60 - k)) = ((a / 2 ^ (60 - k) : Nat) : Int) := by
    rw [Int.natCast_ediv, Int.natCast_pow]; rfl
  rw [e, Int.tmod_eq_emod_of_nonneg (Int.natCast_nonneg _)]
  unfold CM.bitAt
  generalize a / 2 ^ (60 - k) = t
  rw [Bool.eq_iff_iff]; simp; omega

set_option maxHeartbeats 400000 in
theorem divide_any (a b c : Nat) (w : World) (ha : a ≤ 1152921504606846976) (hb : b ≤ 1152921504606846976) (hc0 : 0 < c) (hc : c ≤ 1152921504606846976) :
    Calls Try.prog 68 #[.int .i64 a, .int .i64 b, .int .i64 c] w fun e w' => e = .returned (.tuple #[.int .i64 (CM.dq a b c), .int .i64 (CM.dr a b c), .bool (CM.dok a b c)]) ∧ ∃ n, w' = w.drewN n := by
  go_enter Try.func68, Try.ntmps68
  go_wp2
  go_loopw [6, 7, 10] (fun q r i wr => ∃ k : Nat, ∃ x y : Int, k ≤ 61 ∧ i = .int .i64 k ∧ q = .int .i64 x ∧ r = .int .i64 y ∧ CM.DInv a b c k x y ∧ ∃ n, wr = w.drewN n) (fun _ _ i _ => 61 - (intOf i).toNat)
  case atStart => exact ⟨0, 0, 0, by omega, rfl, rfl, rfl, CM.DInv.start a b c ha, 0, rfl⟩
  case round =>
    obtain ⟨k, x, y, hk, rfl, rfl, rfl, hD, n, rfl⟩ := hrel
    obtain ⟨hx0, hx1, hy0, hy1⟩ := hD.bounds hc0
    by_cases hlt : k < 61
    · have ht := bit_test a k ha
      rcases CM.bit_01 a k with h0 | h1
      · rw [show decide (CM.bitAt a k = 1) = false from by simp [h0]] at ht
        obtain ⟨s1, s2⟩ := hD.step0 hlt hc0 h0
        have S1 := Lib.hid s1; have S2 := Lib.hid s2
        clear h0 s1 s2
        obtain ⟨q0, q1⟩ := IntWalk.tdiv_le (2 * y) c (by omega) (by omega)
        have e1 : wrap64 (2 * x + 2 * y / (c : Int)) = 2 * x + 2 * y / (c : Int) := IntWalk.wrap64_in _ (by omega)
        have hlow : 0 ≤ 2 * x + 2 * y / (c : Int) := by omega
        cases hf : CM.fits (2 * x + 2 * y / (c : Int))
        · have HN : Hid (1152921504606846976 < a * b / c) := S2.out (by rcases CM.fits_false.1 hf with h | h <;> omega)
          go_wp2
          go_quiet (fail)
          go_wp2_with (go_at_call 67; refine (fits_any _ _).mono ?_; rintro e w' ⟨rfl, rfl⟩)
          go_ret3
          obtain ⟨n1, n2, n3⟩ := CM.dok_no HN.out
          exact ⟨by rw [n1, n2, n3]; rfl, _, rfl⟩
        · have HY := Lib.hid (S1.out (CM.fits_true.1 hf).2)
          go_wp2
          go_quiet (fail)
          go_wp2_with (go_at_call 67; refine (fits_any _ _).mono ?_; rintro e w' ⟨rfl, rfl⟩)
          go_roundw
          case rel => exact ⟨k + 1, _, _, by omega, by go_num, rfl, rfl, HY.out, _, rfl⟩
          case measure => simp [intOf]; omega
      · rw [show decide (CM.bitAt a k = 1) = true from by simp [h1]] at ht
        obtain ⟨s1, s2⟩ := hD.step1 hlt hc0 h1
        have S1 := Lib.hid s1; have S2 := Lib.hid s2
        clear h1 s1 s2
        obtain ⟨p0, p1⟩ := IntWalk.tdiv_le (b : Int) c (by omega) (by omega)
        have m0 : 0 ≤ (b : Int) % (c : Int) := Int.emod_nonneg _ (by omega)
        have m1 : (b : Int) % (c : Int) < c := Int.emod_lt_of_pos _ (by omega)
        have hy2 : 0 ≤ 2 * y + (b : Int) % (c : Int) := by omega
        obtain ⟨q0, q1⟩ := IntWalk.tdiv_le (2 * y + (b : Int) % (c : Int)) c (by omega) (by omega)
        have e0 : wrap64 ((b : Int) / (c : Int)) = (b : Int) / (c : Int) := IntWalk.wrap64_in _ (by omega)
        have e1 : wrap64 (2 * x + (b : Int) / (c : Int)) = 2 * x + (b : Int) / (c : Int) := IntWalk.wrap64_in _ (by omega)
        have e2 : wrap64 (2 * y + (b : Int) % (c : Int)) = 2 * y + (b : Int) % (c : Int) := IntWalk.wrap64_in _ (by omega)
        have hq3 : (2 * y + (b : Int) % (c : Int)) / (c : Int) ≤ 3 := by
          have : (2 * y + (b : Int) % (c : Int)) < 4 * (c : Int) := by omega
          have := Int.ediv_lt_of_lt_mul (by omega) this
          omega
        have e3 : wrap64 ((2 * y + (b : Int) % (c : Int)) / (c : Int)) = (2 * y + (b : Int) % (c : Int)) / (c : Int) := IntWalk.wrap64_in _ (by omega)
        have e4 : wrap64 (2 * x + (b : Int) / (c : Int) + (2 * y + (b : Int) % (c : Int)) / (c : Int)) = 2 * x + (b : Int) / (c : Int) + (2 * y + (b : Int) % (c : Int)) / (c : Int) := IntWalk.wrap64_in _ (by omega)
        have e5 : (2 * y + (b : Int) % (c : Int)).tdiv (c : Int) = (2 * y + (b : Int) % (c : Int)) / (c : Int) := Int.tdiv_eq_ediv_of_nonneg hy2
        have e6 : (2 * y + (b : Int) % (c : Int)).tmod (c : Int) = (2 * y + (b : Int) % (c : Int)) % (c : Int) := Int.tmod_eq_emod_of_nonneg hy2
        have hlow : 0 ≤ 2 * x + (b : Int) / (c : Int) + (2 * y + (b : Int) % (c : Int)) / (c : Int) := by omega
        cases hf : CM.fits (2 * x + (b : Int) / (c : Int) + (2 * y + (b : Int) % (c : Int)) / (c : Int))
        · have HN : Hid (1152921504606846976 < a * b / c) := S2.out (by rcases CM.fits_false.1 hf with h | h <;> omega)
          go_wp2
          go_quiet (fail)
          go_wp2
          go_quiet (fail)
          go_wp2_with (go_at_call 67; refine (fits_any _ _).mono ?_; rintro e w' ⟨rfl, rfl⟩)
          go_ret3
          obtain ⟨n1, n2, n3⟩ := CM.dok_no HN.out
          exact ⟨by rw [n1, n2, n3]; rfl, _, rfl⟩
        · have HY := Lib.hid (S1.out (CM.fits_true.1 hf).2)
          go_wp2
          go_quiet (fail)
          go_wp2
          go_quiet (fail)
          go_wp2_with (go_at_call 67; refine (fits_any _ _).mono ?_; rintro e w' ⟨rfl, rfl⟩)
          go_roundw
          case rel => exact ⟨k + 1, _, _, by omega, by go_num, rfl, rfl, (by simpa using HY.out), _, rfl⟩
          case measure => simp [intOf]; omega
    · obtain rfl : k = 61 := by omega
      obtain ⟨d1, d2, d3⟩ := hD.done
      have D1 := Lib.hid d1; have D2 := Lib.hid d2; have D3 := Lib.hid d3
      clear d1 d2 d3
      go_wp2
      go_ret3
      exact ⟨by rw [← D1.out, ← D2.out, D3.out]; rfl, _, rfl⟩

theorem divide_int (a b c : Int) (w : World) (a0 : 0 ≤ a) (ha : a ≤ 1152921504606846976) (b0 : 0 ≤ b) (hb : b ≤ 1152921504606846976) (hc0 : 0 < c) (hc : c ≤ 1152921504606846976) :
    Calls Try.prog 68 #[.int .i64 a, .int .i64 b, .int .i64 c] w fun e w' => e = .returned (.tuple #[.int .i64 (CM.dq a.toNat b.toNat c.toNat), .int .i64 (CM.dr a.toNat b.toNat c.toNat), .bool (CM.dok a.toNat b.toNat c.toNat)]) ∧ ∃ n, w' = w.drewN n := by
  obtain ⟨x, rfl⟩ := Int.eq_ofNat_of_zero_le a0
  obtain ⟨y, rfl⟩ := Int.eq_ofNat_of_zero_le b0
  obtain ⟨z, rfl⟩ := Int.eq_ofNat_of_zero_le (Int.le_of_lt hc0)
  rw [Int.toNat_natCast, Int.toNat_natCast, Int.toNat_natCast]
  exact divide_any x y z w (by omega) (by omega) (by omega) (by omega)

end Go.Proofs.Ytagmknahmkniaaa
