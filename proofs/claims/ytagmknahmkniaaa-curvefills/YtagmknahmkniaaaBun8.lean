/- Put together: CurK, CurveMath4, CurL, CurM, RecsCut, CurO. -/
import Derived.Test.YtagmknahmkniaaaBun7
import Derived.Test.YtagmknahmkniaaaBun4
import Derived.Test.YtagmknahmkniaaaBun3
import Derived.Deep.RegionLawGrows
/- Contracts of layer 19: the reference's Check. -/
namespace Go.Proofs.Ytagmknahmkniaaa
open Go.RowKit Go.Recs
set_option linter.unusedVariables false
set_option linter.unusedSimpArgs false
theorem drew_ex {w : World} {a b : Nat} : ∃ k, (w.drewN a).drewN b = w.drewN k := ⟨a + b, World.drewN_drewN _ _ _⟩
set_option maxRecDepth 100000 in
set_option maxHeartbeats 8000000 in
theorem rucheck_any (A : Option Addr) (l : List UM.Pt) (n cap : Nat) (hn : n = l.length) (w : World) (hI : Pts w A l) :
    Calls Try.prog 13 #[.slice A n cap] w fun e w' => e = .returned (.int .i64 (UM.checkE l)) ∧ ∃ k, w' = w.drewN k := by
  subst hn
  have hlen := hI.len
  cases h32 : QM.within l.length 1 128
  · have e : UM.checkE l = 8 := by unfold UM.checkE; rw [if_pos h32]
    have hb := QM.within_false.1 h32
    rw [e]; clear e hI h32
    rcases hb with hb | hb
    · have hd : decide ((l.length : Int) < 1) = true := by simpa using hb
      go_enter Try.func13, Try.ntmps13
      go_wp2_with fail
      go_ret
      exact ⟨rfl, 0, rfl⟩
    · have hd : decide ((l.length : Int) < 1) = false := by simp; omega
      have hd2 : decide (128 < (l.length : Int)) = true := by simpa using hb
      have hd3 : ¬ (l.length : Int) < 1 := by omega
      go_enter Try.func13, Try.ntmps13
      go_wp2_with fail
      go_ret
      exact ⟨rfl, 0, rfl⟩
  have hb := QM.within_true.1 h32
  have hd1 : ¬ (l.length : Int) < 1 := by omega
  have hd2 : ¬ (128 : Int) < (l.length : Int) := by omega
  have KA := Lib.hid (fun j (h : j < l.length) e k => UM.rest_at h e k)
  have KE := Lib.hid (fun e k => UM.rest_end l e k)
  have K0 : Hid (UM.checkE l = UM.restE (l.drop 0) 0 false) := Lib.hid (by unfold UM.checkE; rw [if_neg (by simp [h32]), List.drop_zero])
  generalize UM.checkE l = x at *
  clear h32 hb
  go_enter Try.func13, Try.ntmps13
  go_wp2_with fail
  go_loopw [3, 4] (fun kv i wr => ∃ (j nd : Nat) (ea : Int) (kn : Bool), j ≤ l.length ∧ i = .int .i64 (j : Int) ∧ kv = .bool kn ∧ Hid (x = UM.restE (l.drop j) ea kn) ∧ Hid ((j = 0 ∧ ea = 0) ∨ ∃ m, j = m + 1 ∧ ea = (UM.pAt l m).exp + 1 ∧ 0 ≤ (UM.pAt l m).exp) ∧ wr = w.drewN nd) (fun _ i _ => l.length - (intOf i).toNat)
  case atStart => exact ⟨0, 0, 0, false, by omega, rfl, rfl, K0, Lib.hid (.inl ⟨rfl, rfl⟩), rfl⟩
  case round =>
    obtain ⟨j, nd, ea, kn, hj, rfl, rfl, HX, HE, rfl⟩ := hrel
    by_cases hlt : j < l.length
    · obtain ⟨b, off, t, rfl, hb, HV, ⟨⟨i0, i1⟩, q1⟩, d0, d1, d2⟩ := pts_get hI hlt
      have HR : Hid (x = if QM.within t.exp ea 73048 = false then 15 else if t.known = true ∧ UM.isP t.price = false then 17 else UM.restE (l.drop (j + 1)) (t.exp + 1) (kn || t.known)) := Lib.hid (by rw [HX.out, KA.out j hlt, HV.out])
      have HI := Lib.hid hI
      obtain ⟨te, tp, tk⟩ := t
      simp only [] at d0 d1 d2 i0 i1
      clear q1 hI
      by_cases c1 : te < 0
      · have hdc : decide (te < 0) = true := by simpa using c1
        have hea : 0 ≤ ea := by
          rcases HE.out with ⟨_, h⟩ | ⟨m, _, h, h2⟩ <;> omega
        have HX2 : Hid (x = 15) := Lib.hid (by rw [HR.out, if_pos (QM.within_false.2 (.inl (by show te < ea; omega)))])
        clear HR c1
        go_wp2_with fail
        go_quiet (fail)
        go_wp2_with fail
        go_ret
        exact ⟨by rw [HX2.out] <;> rfl, by first | exact ⟨_, rfl⟩ | exact drew_ex⟩
      have hdc1 : decide (te < 0) = false := by simpa using c1
      by_cases c2 : 73048 < te
      · have hdc2 : decide (73048 < te) = true := by simpa using c2
        have HX2 : Hid (x = 15) := Lib.hid (by rw [HR.out, if_pos (QM.within_false.2 (.inr c2))])
        clear HR c1 c2
        go_wp2_with fail
        go_quiet (fail)
        go_wp2_with fail
        go_ret
        exact ⟨by rw [HX2.out] <;> rfl, by first | exact ⟨_, rfl⟩ | exact drew_ex⟩
      have hdc2 : decide (73048 < te) = false := by simpa using c2
      rcases HE.out with ⟨rfl, rfl⟩ | ⟨m, rfl, rfl, hye⟩
      · have hj0 : decide ((0 : Int) < 0) = false := by decide
        have HR2 : Hid (x = if tk = true ∧ UM.isP tp = false then 17 else UM.restE (l.drop (0 + 1)) (te + 1) (kn || tk)) := Lib.hid (by rw [HR.out, if_neg (by rw [QM.within_true.2 ⟨by show 0 ≤ te; omega, by show te ≤ 73048; omega⟩]; simp)])
        have HE2 : Hid ((0 + 1 = 0 ∧ te + 1 = 0) ∨ ∃ m, 0 + 1 = m + 1 ∧ te + 1 = (UM.pAt l m).exp + 1 ∧ 0 ≤ (UM.pAt l m).exp) := Lib.hid (.inr ⟨0, rfl, by rw [HV.out], by rw [HV.out]; show 0 ≤ te; omega⟩)
        clear HR HX HV HE c1 c2
        simp only [Nat.zero_mul, Nat.add_zero, Nat.zero_add] at d0 d1 d2
        cases tk
        · have HX2 : Hid (x = UM.restE (l.drop (0 + 1)) (te + 1) kn) := Lib.hid (by rw [HR2.out]; simp)
          cases kn
          all_goals (
            go_wp2_with fail
            go_quiet (fail)
            go_wp2_with fail
            go_roundw
            case rel => exact ⟨0 + 1, _, te + 1, _, by omega, by go_num, rfl, HX2, HE2, rfl⟩
            case measure => simp [intOf]; omega)
        · by_cases c4 : tp < -16777216
          · have HX2 : Hid (x = 17) := Lib.hid (by rw [HR2.out, show UM.isP tp = false from QM.within_false.2 (.inl c4)]; simp)
            go_wp2_with fail
            go_quiet (fail)
            go_wp2_with fail
            go_ret
            exact ⟨by rw [HX2.out] <;> rfl, by first | exact ⟨_, rfl⟩ | exact drew_ex⟩
          · by_cases c5 : 16777216 < tp
            · have HX2 : Hid (x = 17) := Lib.hid (by rw [HR2.out, show UM.isP tp = false from QM.within_false.2 (.inr c5)]; simp)
              go_wp2_with fail
              go_quiet (fail)
              go_wp2_with fail
              go_ret
              exact ⟨by rw [HX2.out] <;> rfl, by first | exact ⟨_, rfl⟩ | exact drew_ex⟩
            · have HX2 : Hid (x = UM.restE (l.drop (0 + 1)) (te + 1) true) := Lib.hid (by rw [HR2.out, show UM.isP tp = true from QM.within_true.2 ⟨by omega, by omega⟩]; simp)
              cases kn
              all_goals (
                go_wp2_with fail
                go_quiet (fail)
                go_wp2_with fail
                go_roundw
                case rel => exact ⟨0 + 1, _, te + 1, _, by omega, by go_num, rfl, HX2, HE2, rfl⟩
                case measure => simp [intOf]; omega)
      · obtain ⟨b', off', y, he, hb', HVy, qy, g0, g1, g2⟩ := pts_get HI.out (k := m) (by omega)
        injection he with he
        injection he with e1 e2
        subst e1 e2
        rw [HVy.out] at hye HR
        obtain ⟨ye, yp, yk⟩ := y
        simp only [] at g0 g1 g2 hye HR
        have hwj : IntKind.i64.wrap ((m : Int) + 1 - 1) = (m : Int) := by rw [show (m : Int) + 1 - 1 = (m : Int) by omega]; exact IntWalk.i64_in _ (by omega)
        have hjp : decide ((0 : Int) < (m : Int) + 1) = true := decide_eq_true (by omega)
        have hwj3 : IntKind.i64.wrap (m : Int) = (m : Int) := IntWalk.i64_in _ (by omega)
        have hj0 : (0 : Int) ≤ (m : Int) := by omega
        have hj1 : (m : Int) < (l.length : Int) := by omega
        have hml : m < l.length := by omega
        clear qy hb' g1 g2
        by_cases c3 : te ≤ ye
        · have hdc3 : decide (te ≤ ye) = true := by simpa using c3
          have HX2 : Hid (x = 15) := Lib.hid (by rw [HR.out, if_pos (QM.within_false.2 (.inl (by show te < ye + 1; omega)))])
          clear HR HX HV HE c1 c2 c3 HVy
          go_wp2_with fail
          go_quiet (fail)
          go_wp2_with fail
          go_ret
          exact ⟨by rw [HX2.out] <;> rfl, by first | exact ⟨_, rfl⟩ | exact drew_ex⟩
        · have hdc3 : decide (te ≤ ye) = false := by simpa using c3
          have HR2 : Hid (x = if tk = true ∧ UM.isP tp = false then 17 else UM.restE (l.drop (m + 1 + 1)) (te + 1) (kn || tk)) := Lib.hid (by rw [HR.out, if_neg (by rw [QM.within_true.2 ⟨by show ye + 1 ≤ te; omega, by show te ≤ 73048; omega⟩]; simp)])
          have HE2 : Hid ((m + 1 + 1 = 0 ∧ te + 1 = 0) ∨ ∃ k, m + 1 + 1 = k + 1 ∧ te + 1 = (UM.pAt l k).exp + 1 ∧ 0 ≤ (UM.pAt l k).exp) := Lib.hid (.inr ⟨m + 1, rfl, by rw [HV.out], by rw [HV.out]; show 0 ≤ te; omega⟩)
          clear HR HX HV HE c1 c2 c3 HVy
          cases tk
          · have HX2 : Hid (x = UM.restE (l.drop (m + 1 + 1)) (te + 1) kn) := Lib.hid (by rw [HR2.out]; simp)
            cases kn
            all_goals (
              go_wp2_with fail
              go_quiet (fail)
              go_wp2_with fail
              go_roundw
              case rel => exact ⟨m + 1 + 1, _, te + 1, _, by omega, by go_num, rfl, HX2, HE2, rfl⟩
              case measure => simp [intOf]; omega)
          · by_cases c4 : tp < -16777216
            · have HX2 : Hid (x = 17) := Lib.hid (by rw [HR2.out, show UM.isP tp = false from QM.within_false.2 (.inl c4)]; simp)
              go_wp2_with fail
              go_quiet (fail)
              go_wp2_with fail
              go_ret
              exact ⟨by rw [HX2.out] <;> rfl, by first | exact ⟨_, rfl⟩ | exact drew_ex⟩
            · by_cases c5 : 16777216 < tp
              · have HX2 : Hid (x = 17) := Lib.hid (by rw [HR2.out, show UM.isP tp = false from QM.within_false.2 (.inr c5)]; simp)
                go_wp2_with fail
                go_quiet (fail)
                go_wp2_with fail
                go_ret
                exact ⟨by rw [HX2.out] <;> rfl, by first | exact ⟨_, rfl⟩ | exact drew_ex⟩
              · have HX2 : Hid (x = UM.restE (l.drop (m + 1 + 1)) (te + 1) true) := Lib.hid (by rw [HR2.out, show UM.isP tp = true from QM.within_true.2 ⟨by omega, by omega⟩]; simp)
                cases kn
                all_goals (
                  go_wp2_with fail
                  go_quiet (fail)
                  go_wp2_with fail
                  go_roundw
                  case rel => exact ⟨m + 1 + 1, _, te + 1, _, by omega, by go_num, rfl, HX2, HE2, rfl⟩
                  case measure => simp [intOf]; omega)
    · obtain rfl : j = l.length := by omega
      cases kn
      · have HX2 : Hid (x = 11) := Lib.hid (by rw [HX.out, KE.out]; rfl)
        go_wp2_with fail
        go_ret
        exact ⟨by rw [HX2.out] <;> rfl, nd, rfl⟩
      · have HX2 : Hid (x = 0) := Lib.hid (by rw [HX.out, KE.out]; rfl)
        go_wp2_with fail
        go_ret
        exact ⟨by rw [HX2.out] <;> rfl, nd, rfl⟩
end Go.Proofs.Ytagmknahmkniaaa

/- Layer 19's mathematics: the reference's rounding, and its points by their places. -/
namespace UM
set_option linter.unusedVariables false
/-- quotient and rest, as Go tells them, made whole -/
def qE (n d : Int) : Int := if n.tmod d < 0 then n.tdiv d - 1 else n.tdiv d
def rE (n d : Int) : Int := if n.tmod d < 0 then n.tmod d + d else n.tmod d
theorem near_parts {n d : Int} (hd : 1 ≤ d) : n = d * qE n d + rE n d ∧ 0 ≤ rE n d ∧ rE n d < d := by
  have h1 := Int.mul_tdiv_add_tmod n d
  have h2 : n.tmod d < d := Int.tmod_lt_of_pos n (by omega)
  have h3 : -d < n.tmod d := by
    have := Int.lt_tmod_of_pos n (b := d) (by omega)
    omega
  unfold qE rE
  split
  · rw [Int.mul_sub]; omega
  · omega
theorem near_is {n d : Int} (hd : 1 ≤ d) (h2 : d ≤ 4398046511104) (v1 : -4398046511104 ≤ n) (v2 : n ≤ 4398046511104) : K n d = qE n d + if d < 2 * rE n d ∨ (2 * rE n d = d ∧ qE n d % 2 = 1) then 1 else 0 := by
  obtain ⟨h, r0, r1⟩ := near_parts (n := n) hd
  exact (near_of h r0 r1 hd h2 v1 v2).2
theorem tmod2 (q : Int) : q.tmod 2 ≠ 0 ↔ q % 2 = 1 := by
  rcases Int.le_total 0 q with h | h
  · rw [Int.tmod_eq_emod_of_nonneg h]; omega
  · have e : q.tmod 2 = -((-q).tmod 2) := by rw [Int.neg_tmod, Int.neg_neg]
    rw [e, Int.tmod_eq_emod_of_nonneg (by omega)]; omega
/-- points at two places with one day -/
theorem ord_inj {l : List Pt} : ∀ {e : Int}, Ord l e → ∀ i j, i < l.length → j < l.length → pAt l i = pAt l j → i = j := by
  induction l with
  | nil => intro e _ i j hi; simp at hi
  | cons p t ih =>
    rintro e ⟨a, b, c, d⟩ i j hi hj h
    have key : ∀ k, k < t.length → pAt t k ≠ p := fun k hk he => by
      have := d.mem (pAt t k) (by rw [pAt_get hk]; exact List.getElem_mem _)
      rw [he] at this; omega
    cases i with
    | zero =>
      cases j with
      | zero => rfl
      | succ j => exact absurd h.symm (key j (by simpa using hj))
    | succ i =>
      cases j with
      | zero => exact absurd h (key i (by simpa using hi))
      | succ j => rw [ih d i j (by simpa using hi) (by simpa using hj) h]
/-- a place, or -1 -/
def At (l : List Pt) (p : Pt) (i : Int) : Prop := (i = -1 ∧ p = zero) ∨ ∃ j : Nat, j < l.length ∧ i = (j : Int) ∧ p = pAt l j ∧ (pAt l j).known = true
end UM

/- Contracts of layer 19: the reference's rounding and its price of a day. -/
namespace Go.Proofs.Ytagmknahmkniaaa
open Go.RowKit Go.Recs
set_option linter.unusedVariables false
set_option linter.unusedSimpArgs false
set_option maxHeartbeats 4000000 in
theorem rnear_any (n d : Int) (hd : 1 ≤ d) (h2 : d ≤ 4398046511104) (v1 : -4398046511104 ≤ n) (v2 : n ≤ 4398046511104) (w : World) :
    Calls Try.prog 43 #[.int .i64 n, .int .i64 d] w fun e w' => e = .returned (.int .i64 (UM.K n d)) ∧ w = w' := by
  rw [UM.near_is hd h2 v1 v2]
  obtain ⟨hp, r0, r1⟩ := UM.near_parts (n := n) hd
  have hm := Int.mul_tdiv_add_tmod n d
  obtain ⟨q, hq⟩ : ∃ q, n.tdiv d = q := ⟨_, rfl⟩
  obtain ⟨r, hr⟩ : ∃ r, n.tmod d = r := ⟨_, rfl⟩
  have hrl : r < d := by rw [← hr]; exact Int.tmod_lt_of_pos n (by omega)
  have hrg : -d < r := by have := Int.lt_tmod_of_pos n (b := d) (by omega); omega
  rw [hq, hr] at hm
  have hqb : -8796093022208 ≤ q ∧ q ≤ 8796093022208 := by
    rcases Int.le_total 0 q with h | h
    · have : q * 1 ≤ q * d := Int.mul_le_mul_of_nonneg_left hd h
      rw [Int.mul_comm q d] at this
      omega
    · have : q * d ≤ q * 1 := Int.mul_le_mul_of_nonpos_left h hd
      rw [Int.mul_comm q d] at this
      omega
  have hd0 : ¬ d = 0 := by omega
  clear hm hp r0 r1
  unfold UM.qE UM.rE
  rw [hq, hr]
  have key : ∀ (q' r' : Int), (d < 2 * r' ∨ 2 * r' = d ∧ q'.tmod 2 ≠ 0) ∨ ((¬ d < 2 * r' ∧ (2 * r' = d ∧ q'.tmod 2 = 0 ∨ ¬ 2 * r' = d))) := by
    intro q' r'
    by_cases a : d < 2 * r'
    · exact .inl (.inl a)
    · by_cases b : 2 * r' = d
      · by_cases c : q'.tmod 2 = 0
        · exact .inr ⟨a, .inl ⟨b, c⟩⟩
        · exact .inl (.inr ⟨b, c⟩)
      · exact .inr ⟨a, .inr b⟩
  by_cases hneg : r < 0
  · rw [if_pos hneg, if_pos hneg]
    have K1 := key (q - 1) (r + d)
    clear key
    by_cases a : d < 2 * (r + d)
    · rw [if_pos (.inl a)]
      go_enter Try.func43, Try.ntmps43
      go_wp2_with fail
      go_ret
      exact ⟨rfl, rfl⟩
    · by_cases b : 2 * (r + d) = d
      · by_cases c : (q - 1).tmod 2 = 0
        · have cb : ((q - 1).tmod 2 != 0) = false := by simpa using c
          rw [if_neg (by have := UM.tmod2 (q - 1); omega)]
          have bb : (2 * (r + d) == d) = true := beq_t b
          clear b K1
          go_enter Try.func43, Try.ntmps43
          go_wp2_with fail
          go_ret
          exact ⟨by simp, rfl⟩
        · have cb : ((q - 1).tmod 2 != 0) = true := by simpa using c
          rw [if_pos (.inr ⟨b, (UM.tmod2 _).1 c⟩)]
          have bb : (2 * (r + d) == d) = true := beq_t b
          clear b K1
          go_enter Try.func43, Try.ntmps43
          go_wp2_with fail
          go_ret
          exact ⟨rfl, rfl⟩
      · rw [if_neg (by omega)]
        have bb : (2 * (r + d) == d) = false := beq_f b
        clear K1
        go_enter Try.func43, Try.ntmps43
        go_wp2_with fail
        go_ret
        exact ⟨by simp, rfl⟩
  · rw [if_neg hneg, if_neg hneg]
    clear key
    by_cases a : d < 2 * r
    · rw [if_pos (.inl a)]
      go_enter Try.func43, Try.ntmps43
      go_wp2_with fail
      go_ret
      exact ⟨rfl, rfl⟩
    · by_cases b : 2 * r = d
      · by_cases c : q.tmod 2 = 0
        · have cb : (q.tmod 2 != 0) = false := by simpa using c
          rw [if_neg (by have := UM.tmod2 q; omega)]
          have bb : (2 * r == d) = true := beq_t b
          clear b
          go_enter Try.func43, Try.ntmps43
          go_wp2_with fail
          go_ret
          exact ⟨by simp, rfl⟩
        · have cb : (q.tmod 2 != 0) = true := by simpa using c
          rw [if_pos (.inr ⟨b, (UM.tmod2 _).1 c⟩)]
          have bb : (2 * r == d) = true := beq_t b
          clear b
          go_enter Try.func43, Try.ntmps43
          go_wp2_with fail
          go_ret
          exact ⟨rfl, rfl⟩
      · rw [if_neg (by omega)]
        have bb : (2 * r == d) = false := beq_f b
        go_enter Try.func43, Try.ntmps43
        go_wp2_with fail
        go_ret
        exact ⟨by simp, rfl⟩
end Go.Proofs.Ytagmknahmkniaaa

/- Contracts of layer 19: the reference's price of a day. -/
namespace UM
theorem at_high_end (l : List Pt) (day : Int) : At l (highK (l.drop l.length) day) (-1) := .inl ⟨rfl, high_end l day⟩
theorem at_high_skip {l : List Pt} {day b : Int} {j : Nat} (h : j < l.length) (hA : At l (highK (l.drop (j + 1)) day) b) (hc : ((pAt l j).known && decide (day ≤ (pAt l j).exp)) = false) : At l (highK (l.drop j) day) b := by
  rw [high_step h, hc]; exact hA
theorem at_high_take {l : List Pt} {day : Int} {j : Nat} (h : j < l.length) (hk : (pAt l j).known = true) (hc : day ≤ (pAt l j).exp) : At l (highK (l.drop j) day) (j : Int) := by
  rw [high_step h, hk, decide_eq_true hc]
  exact .inr ⟨j, h, rfl, rfl, hk⟩
theorem at_low_zero (l : List Pt) (day : Int) : At l (lowK (l.take 0) day) (-1) := .inl ⟨rfl, rfl⟩
theorem at_low_skip {l : List Pt} {day b : Int} {j : Nat} (h : j < l.length) (hA : At l (lowK (l.take j) day) b) (hc : ((pAt l j).known && decide ((pAt l j).exp ≤ day)) = false) : At l (lowK (l.take (j + 1)) day) b := by
  rw [low_step h, hc]; exact hA
theorem at_low_take {l : List Pt} {day : Int} {j : Nat} (h : j < l.length) (hk : (pAt l j).known = true) (hc : (pAt l j).exp ≤ day) : At l (lowK (l.take (j + 1)) day) (j : Int) := by
  rw [low_step h, hk, decide_eq_true hc]
  exact .inr ⟨j, h, rfl, rfl, hk⟩
theorem At.range {l : List Pt} {p : Pt} {i : Int} (h : At l p i) : -1 ≤ i ∧ i < l.length := by
  rcases h with ⟨h, _⟩ | ⟨j, h, rfl, _⟩ <;> omega
/-- the ways that a price may be found -/
inductive Ways (l : List Pt) (day tick a b : Int) : Prop
  | right (j : Nat) (ha : a = -1) (hj : j < l.length) (hb : b = (j : Int)) (h : priceN l day tick = (pAt l j).price)
  | left (j : Nat) (ha : a = (j : Int)) (hj : j < l.length) (hb : b = -1) (h : priceN l day tick = (pAt l j).price)
  | same (j : Nat) (ha : a = (j : Int)) (hj : j < l.length) (hb : b = (j : Int)) (h : priceN l day tick = (pAt l j).price)
  | two (i j : Nat) (ha : a = (i : Int)) (hi : i < l.length) (hb : b = (j : Int)) (hj : j < l.length) (hn : i ≠ j) (hp : Pair (pAt l i) (pAt l j) day tick) (h : priceN l day tick = tweenN (pAt l i) (pAt l j) day tick)
theorem ways {l : List Pt} (g : Good l) {day tick a b : Int} (hd : 0 ≤ day ∧ day ≤ 73048) (ht : 1 ≤ tick ∧ tick ≤ 16777216) (hA : At l (lowK l day) a) (hB : At l (highK l day) b) : Ways l day tick a b := by
  obtain ⟨⟨m1, m2, m3, m4⟩, hc⟩ := ar_cases g (tick := tick) hd ht
  have A : arA l day = if (lowK l day).known = true then lowK l day else highK l day := rfl
  have B : arB l day = if (lowK l day).known = true ∧ (highK l day).known = false then lowK l day else highK l day := rfl
  rcases hA with ⟨ha, h1⟩ | ⟨i, hi, ha, h1, hk1⟩
  · rw [h1, zero_known] at A B
    rw [if_neg (by simp)] at A B
    rcases hB with ⟨hb, h2⟩ | ⟨j, hj, hb, h2, hk2⟩
    · rw [A, h2] at m2; cases m2
    · exact .right j ha hj hb (by rw [price_same tick (by rw [A, B]), A, h2])
  · rw [h1, if_pos hk1] at A
    rcases hB with ⟨hb, h2⟩ | ⟨j, hj, hb, h2, hk2⟩
    · rw [h1, h2, if_pos ⟨hk1, rfl⟩] at B
      exact .left i ha hi hb (by rw [price_same tick (by rw [A, B]), A])
    · rw [h1, h2, if_neg (by simp [hk2])] at B
      by_cases e : i = j
      · subst e
        exact .same i ha hi hb (by rw [price_same tick (by rw [A, B]), A])
      · rcases hc with hc | ⟨hn, hp⟩
        · rw [A, B] at hc
          exact absurd (ord_inj g.ord i j hi hj hc) e
        · rw [A, B] at hn hp
          exact .two i j ha hi hb hj e hp (by rw [price_tween tick (by rw [A, B]; exact hn), A, B])
end UM
namespace Go.Proofs.Ytagmknahmkniaaa
open Go.RowKit Go.Recs
set_option linter.unusedVariables false
set_option linter.unusedSimpArgs false
set_option maxRecDepth 100000 in
set_option maxHeartbeats 8000000 in
theorem rat_any (A : Option Addr) (l : List UM.Pt) (n cap : Nat) (hn : n = l.length) (day tick : Int) (g : UM.Good l) (hd : 0 ≤ day ∧ day ≤ 73048) (ht : 1 ≤ tick ∧ tick ≤ 16777216) (w : World) (hI : Pts w A l) :
    Calls Try.prog 29 #[.slice A n cap, .int .i64 day, .int .i64 tick] w fun e w' => e = .returned (.int .i64 (UM.priceN l day tick)) ∧ ∃ k, w' = w.drewN k := by
  subst hn
  have hlen := hI.len
  have HI := Lib.hid hI
  have H0 := Lib.hid (UM.at_high_end l day)
  have HS := Lib.hid (fun b j (h : j < l.length) hA hc => @UM.at_high_skip l day b j h hA hc)
  have HT := Lib.hid (fun j (h : j < l.length) hk hc => @UM.at_high_take l day j h hk hc)
  have L0 := Lib.hid (UM.at_low_zero l day)
  have LS := Lib.hid (fun b j (h : j < l.length) hA hc => @UM.at_low_skip l day b j h hA hc)
  have LT := Lib.hid (fun j (h : j < l.length) hk hc => @UM.at_low_take l day j h hk hc)
  have LE : Hid (UM.lowK (l.take l.length) day = UM.lowK l day) := Lib.hid (by rw [List.take_length])
  have HE : Hid (UM.highK (l.drop 0) day = UM.highK l day) := Lib.hid (by rw [List.drop_zero])
  have WY := Lib.hid (fun a b h1 h2 => @UM.ways l g day tick a b hd ht h1 h2)
  have C := Lib.hid (fun n d ww h1 h2 h3 h4 => rnear_any n d h1 h2 h3 h4 ww)
  obtain ⟨pn, hpn⟩ : ∃ pn, UM.priceN l day tick = pn := ⟨_, rfl⟩
  rw [hpn]
  have HPN := Lib.hid hpn
  clear hI hpn g
  go_enter Try.func29, Try.ntmps29
  go_wp2_with fail
  go_loop [8, 9] (fun bs i => ∃ (k : Nat) (b : Int), k ≤ l.length ∧ i = .int .i64 ((k : Int) - 1) ∧ bs = .int .i64 b ∧ Hid (UM.At l (UM.highK (l.drop k) day) b)) (fun _ i => (intOf i + 1).toNat)
  case atStart => exact ⟨l.length, -1, Nat.le_refl _, rfl, rfl, H0⟩
  case round =>
    obtain ⟨k, b, hk, rfl, rfl, HA⟩ := hrel
    cases k with
    | succ j =>
      have e : (((j + 1 : Nat) : Int) - 1) = (j : Int) := by omega
      rw [e]; clear e
      have hlt : j < l.length := by omega
      obtain ⟨bl, off, t, rfl, hb, HV, q, d0, d1, d2⟩ := pts_get HI.out hlt
      have HS1 := Lib.hid (fun hc => HS.out b j hlt HA.out hc)
      have HT1 := Lib.hid (fun hk hc => HT.out j hlt hk hc)
      rw [HV.out] at HS1 HT1
      obtain ⟨te, tp, tk⟩ := t
      simp only [] at d0 d1 d2
      clear q HV hk
      cases tk
      · have HA2 := Lib.hid (HS1.out rfl)
        go_wp2_with fail
        go_round
        case rel => exact ⟨j, b, by omega, by go_num, rfl, HA2⟩
        case measure => simp [intOf]
      · by_cases hc : day ≤ te
        · have HA2 := Lib.hid (HT1.out rfl hc)
          have hdc : decide (day ≤ te) = true := by simpa using hc
          go_wp2_with fail
          go_round
          case rel => exact ⟨j, (j : Int), by omega, by go_num, rfl, HA2⟩
          case measure => simp [intOf]
        · have HA2 := Lib.hid (HS1.out (by simpa using hc))
          have hdc : decide (day ≤ te) = false := by simpa using hc
          go_wp2_with fail
          go_round
          case rel => exact ⟨j, b, by omega, by go_num, rfl, HA2⟩
          case measure => simp [intOf]
    | zero =>
      have e : (((0 : Nat) : Int) - 1) = -1 := rfl
      rw [e]; clear e
      rw [HE.out] at HA
      go_wp2_with fail
      go_loop [7, 10] (fun av i => ∃ (k : Nat) (a : Int), k ≤ l.length ∧ i = .int .i64 (k : Int) ∧ av = .int .i64 a ∧ Hid (UM.At l (UM.lowK (l.take k) day) a)) (fun _ i => l.length - (intOf i).toNat)
      case atStart => exact ⟨0, -1, Nat.zero_le _, rfl, rfl, L0⟩
      case round =>
        obtain ⟨k, a, hk, rfl, rfl, HL⟩ := hrel
        by_cases hlt : k < l.length
        · obtain ⟨bl, off, t, rfl, hb, HV, q, d0, d1, d2⟩ := pts_get HI.out hlt
          have HS1 := Lib.hid (fun hc => LS.out a k hlt HL.out hc)
          have HT1 := Lib.hid (fun hk hc => LT.out k hlt hk hc)
          rw [HV.out] at HS1 HT1
          obtain ⟨te, tp, tk⟩ := t
          simp only [] at d0 d1 d2
          clear q HV
          cases tk
          · have HA2 := Lib.hid (HS1.out rfl)
            go_wp2_with fail
            go_round
            case rel => exact ⟨k + 1, a, by omega, by go_num, rfl, HA2⟩
            case measure => simp [intOf]; omega
          · by_cases hc : te ≤ day
            · have HA2 := Lib.hid (HT1.out rfl hc)
              have hdc : decide (te ≤ day) = true := by simpa using hc
              go_wp2_with fail
              go_round
              case rel => exact ⟨k + 1, (k : Int), by omega, by go_num, rfl, HA2⟩
              case measure => simp [intOf]; omega
            · have HA2 := Lib.hid (HS1.out (by simpa using hc))
              have hdc : decide (te ≤ day) = false := by simpa using hc
              go_wp2_with fail
              go_round
              case rel => exact ⟨k + 1, a, by omega, by go_num, rfl, HA2⟩
              case measure => simp [intOf]; omega
        · obtain rfl : k = l.length := by omega
          rw [LE.out] at HL
          have W := WY.out a b HL.out HA.out
          clear hk hlt WY HS HT LS LT H0 L0 LE HE HL HA
          rcases W with ⟨j, rfl, hj, rfl, h⟩ | ⟨j, rfl, hj, rfl, h⟩ | ⟨j, rfl, hj, rfl, h⟩ | ⟨i, j, rfl, hi, rfl, hj, hne, hp, h⟩
          · obtain ⟨bl, off, t, rfl, hb, HV, q, d0, d1, d2⟩ := pts_get HI.out hj
            rw [HV.out] at h
            have HH := Lib.hid h
            clear q h HV
            go_wp2_with fail
            go_ret
            exact ⟨by rw [← HPN.out, HH.out]; rfl, 0, rfl⟩
          · obtain ⟨bl, off, t, rfl, hb, HV, q, d0, d1, d2⟩ := pts_get HI.out hj
            rw [HV.out] at h
            have HH := Lib.hid h
            have hj0 : ¬ (j : Int) < 0 := by omega
            clear q h HV
            go_wp2_with fail
            go_ret
            exact ⟨by rw [← HPN.out, HH.out]; rfl, 0, rfl⟩
          · obtain ⟨bl, off, t, rfl, hb, HV, q, d0, d1, d2⟩ := pts_get HI.out hj
            rw [HV.out] at h
            have HH := Lib.hid h
            have hj0 : ¬ (j : Int) < 0 := by omega
            have hjd : decide ((j : Int) < 0) = false := decide_eq_false hj0
            clear q h HV
            go_wp2_with fail
            go_ret
            exact ⟨by rw [← HPN.out, HH.out]; rfl, 0, rfl⟩
          · obtain ⟨bl, off, x, rfl, hb, HV, q, d0, d1, d2⟩ := pts_get HI.out hi
            obtain ⟨bl', off', y, he, hb', HW, q', e0, e1, e2⟩ := pts_get HI.out hj
            injection he with he
            injection he with f1 f2
            subst f1 f2
            rw [HV.out, HW.out] at h hp
            have HH := Lib.hid h
            have hi0 : ¬ (i : Int) < 0 := by omega
            have hj0 : ¬ (j : Int) < 0 := by omega
            have hnij : ((i : Int) == (j : Int)) = false := beq_f (by omega)
            obtain ⟨lx, ly, lc⟩ := hp.lined
            obtain ⟨-, hk, hnn⟩ := hp.bounds
            obtain ⟨pda, pdb, plt, ppa, ppb, ptk⟩ := hp
            have hC := Lib.hid (C.out (x.price * (y.exp - x.exp) + (y.price - x.price) * (day - x.exp)) ((y.exp - x.exp) * tick) · (by omega) (by omega) (by omega) (by omega))
            have eK : UM.K (x.price * (y.exp - x.exp) + (y.price - x.price) * (day - x.exp)) ((y.exp - x.exp) * tick) = UM.tweenK x y day tick := rfl
            rw [eK] at hC
            have eN : UM.tweenN x y day tick = UM.tweenK x y day tick * tick := rfl
            rw [eN] at hnn
            have HN := Lib.hid eN
            have wx1 : IntKind.i64.wrap (y.exp - x.exp) = y.exp - x.exp := IntWalk.i64_in _ (by omega)
            have wx2 : IntKind.i64.wrap (y.price - x.price) = y.price - x.price := IntWalk.i64_in _ (by omega)
            have wx3 : IntKind.i64.wrap (day - x.exp) = day - x.exp := IntWalk.i64_in _ (by omega)
            have wx4 : IntKind.i64.wrap (x.price * (y.exp - x.exp)) = x.price * (y.exp - x.exp) := IntWalk.i64_in _ (by omega)
            have wx5 : IntKind.i64.wrap ((y.price - x.price) * (day - x.exp)) = (y.price - x.price) * (day - x.exp) := IntWalk.i64_in _ (by omega)
            have wx6 : IntKind.i64.wrap (x.price * (y.exp - x.exp) + (y.price - x.price) * (day - x.exp)) = x.price * (y.exp - x.exp) + (y.price - x.price) * (day - x.exp) := IntWalk.i64_in _ (by omega)
            generalize UM.tweenK x y day tick = z at *
            clear q q' h HV HW eK eN hne hb'
            go_wp2_with fail
            go_quiet (fail)
            go_wp2_with fail
            go_quiet (fail)
            go_wp2_with fail
            refine (hC.out _).mono ?_
            rintro e w5 ⟨rfl, rfl⟩
            go_wp2_with fail
            go_ret
            exact ⟨by rw [← HPN.out, HH.out, HN.out]; rfl, by first | exact ⟨_, rfl⟩ | exact drew_ex⟩
end Go.Proofs.Ytagmknahmkniaaa

/- Parts of slices of records, and appends in regions that draw, over any program. -/
namespace Go.Recs
open Go.RowKit
set_option linter.unusedVariables false
set_option linter.unusedSimpArgs false
/-- where a part of a slice lies -/
def cutR (A : Option Addr) (m lo sz : Nat) : Option Addr := if m = lo then A else A.map (·.add (lo * sz))
theorem Recs.cut {w : World} {A : Option Addr} {sz : Nat} {rows : List (List Value)} (h : Recs w A sz rows) {m lo hi : Nat} (h1 : lo ≤ hi) (h2 : hi ≤ rows.length) (h3 : hi ≤ m) : Recs w (cutR A m lo sz) sz ((rows.take hi).drop lo) := by
  by_cases hz : lo = hi
  · have : (rows.take hi).drop lo = [] := by rw [List.drop_eq_nil_iff, List.length_take]; omega
    rw [this]; exact Recs.nil _ _ _
  · unfold cutR
    rw [if_neg (by omega)]
    have hl : ((rows.take hi).drop lo).length = hi - lo := by rw [List.length_drop, List.length_take]; omega
    refine ⟨by rw [hl]; have := h.1; omega, fun r hr => h.2.1 r (List.mem_of_mem_take (List.mem_of_mem_drop hr)), ?_⟩
    rcases h.2.2 with h | ⟨b, off, rfl, hb, hc⟩
    · subst h; simp at h2; omega
    · refine .inr ⟨b, off + lo * sz, by simp [add_at], hb, fun i j hi' hj => ?_⟩
      rw [hl] at hi'
      have := hc (lo + i) j (by omega) hj
      rw [Nat.add_mul] at this
      rw [show off + lo * sz + (i * sz + j) = off + (lo * sz + i * sz + j) by omega, this]
      have e : ((rows.take hi).drop lo).getD i [] = rows.getD (lo + i) [] := by
        have h1 : lo + i < rows.length := by omega
        have h2 : lo + i < hi := by omega
        simp [List.getD, h1, h2, List.getElem?_take]
      rw [e]
theorem run_fromR {P : Program} {ts t : TypeId} {sz bytes : Nat} {z : Value} (hu : P.underlying ts = some (.slice t)) (hinfo : (P.info? t).map (fun i => (i.zero, i.size, i.bytes)) = some (some z, sz, bytes)) {A : Option Addr} {n cap lo : Nat} (h : lo ≤ n) (w : World) :
    (Instr.slice ts (.slice A n cap) (some (.int .i64 (lo : Int))) none none).run P w = .ok (.slice (cutR A cap lo sz) (n - lo) (cap - lo)) w := by
  obtain ⟨i0, hi, hz0, hz1, hz2⟩ := info_parts hinfo
  have h0 : (0 : Int) ≤ (lo : Int) ∧ (lo : Int) ≤ (n : Int) := by omega
  simp [Instr.slice, Instr.sliceBounds, Instr.sliceBound, asIntOf, run_underlying hu, sizeOf, typeInfo, hi, hz1, h0, cutR]
  intro hc; omega
theorem run_full {P : Program} {ts t : TypeId} {sz bytes : Nat} {z : Value} (hu : P.underlying ts = some (.slice t)) (hinfo : (P.info? t).map (fun i => (i.zero, i.size, i.bytes)) = some (some z, sz, bytes)) {A : Option Addr} {n cap k : Nat} (h : k ≤ cap) (w : World) :
    (Instr.slice ts (.slice A n cap) none (some (.int .i64 (k : Int))) (some (.int .i64 (k : Int)))).run P w = .ok (.slice (cutR A k 0 sz) k k) w := by
  obtain ⟨i0, hi, hz0, hz1, hz2⟩ := info_parts hinfo
  have h0 : (0 : Int) ≤ (k : Int) ∧ (k : Int) ≤ (cap : Int) := by omega
  have h1 : (0 : Int) ≤ (k : Int) ∧ (k : Int) ≤ (k : Int) := by omega
  simp [Instr.slice, Instr.sliceBounds, Instr.sliceBound, asIntOf, run_underlying hu, sizeOf, typeInfo, hi, hz1, h0, h1, cutR]
  all_goals (try (intro hc; omega))
theorem run_toR {P : Program} {ts t : TypeId} {sz bytes : Nat} {z : Value} (hu : P.underlying ts = some (.slice t)) (hinfo : (P.info? t).map (fun i => (i.zero, i.size, i.bytes)) = some (some z, sz, bytes)) {A : Option Addr} {n cap k : Nat} (h : k ≤ cap) (w : World) :
    (Instr.slice ts (.slice A n cap) none (some (.int .i64 (k : Int))) none).run P w = .ok (.slice (cutR A cap 0 sz) k cap) w := by
  obtain ⟨i0, hi, hz0, hz1, hz2⟩ := info_parts hinfo
  have h0 : (0 : Int) ≤ (k : Int) ∧ (k : Int) ≤ (cap : Int) := by omega
  simp [Instr.slice, Instr.sliceBounds, Instr.sliceBound, asIntOf, run_underlying hu, sizeOf, typeInfo, hi, hz1, h0, cutR]
  all_goals (try (intro hc; omega))

theorem step_growR {P : Program} {ops : Array Oper} {o : Oper} {a : Act} {K : Act → World → Prop} {Q : Exit → Act → World → Prop} {E : Prop} (w : World) (x : List Value) (hx1 : ∀ u ∈ x, u.oneCell' = true) (rows : List (List Value)) (s y : Operand) (ts t : TypeId) (sz bytes : Nat) (z : Value)
    (hu : P.underlying ts = some (.slice t)) (hinfo : (P.info? t).map (fun i => (i.zero, i.size, i.bytes)) = some (some z, sz, bytes)) (hz : z.cells.size = sz) (h0 : 0 < sz) (hxl : x.length = sz)
    (hgd : o.guard = none) (ho : o.op = .call { callee := .builtin .append, args := #[s, y], argTypes := #[ts, ts] })
    (A : Option Addr) (n cap : Nat) (hs : a.eval s = .slice A n cap) (hx : a.eval y = .slice (some ⟨w.heap.size, 0, none⟩) 1 1) (hn : n = rows.length) (hcap : cap = n) (hA : Recs w A sz rows) (hl : (rows.length + 1) * bytes ≤ 140737488355328) (hm : rows.length + 1 ≤ maxLen)
    (h : ∀ v' w', OwnR w' w.heap.size t sz v' (rows ++ [x]) → Below w.heap.size w w' → K (a.put o.dst v') w') :
    if Region.wanted o (yielded ops a.tmps) = true then Oper.wp P o a (w.alloc (.cells x.toArray t)) K Q else E := by
  subst hn hcap
  obtain ⟨i0, hi, hz0, hz1, hz2⟩ := info_parts hinfo
  have hb0 : Below w.heap.size w (w.alloc (.cells x.toArray t)) := (Below.refl _ _).alloc (Nat.le_refl _) _
  have hA2 := hA.below hb0
  refine step_append_grows hgd s y ts ho t i0 z sz bytes hu hi hz0 hz1 hz2 hz h0 A rows.length rows.length rows.flatten hs ?_ (flat_len hA.2.1) ?_ ⟨w.heap.size, 0, none⟩ 1 1 x hx (by omega) ?_ hx1 (by omega) hm hl ?_
  · intro e
    rcases hA.2.2 with g | ⟨b, off, g, _⟩
    · rw [g]; simp
    · rw [e] at g; cases g
  · rintro b rfl j u hj
    rcases hA2.2.2 with e | ⟨b', off', e, hb, hcell⟩
    · subst e; simp at hj
    · injection e with e
      subst e
      have hlt : j < rows.flatten.length := by
        rcases Nat.lt_or_ge j rows.flatten.length with h | h
        · exact h
        · rw [List.getElem?_eq_none h] at hj; cases hj
      rw [flat_len hA.2.1] at hlt
      have hi' : j / sz < rows.length := Nat.div_lt_of_lt_mul (by rw [Nat.mul_comm]; exact hlt)
      have hj' : j % sz < sz := Nat.mod_lt _ h0
      have ej : j / sz * sz + j % sz = j := by rw [Nat.mul_comm]; exact Nat.div_add_mod j sz
      have e := flat_at hA.2.1 (j / sz) (j % sz) hi' hj'
      have e2 := hcell (j / sz) (j % sz) hi' hj'
      rw [ej] at e e2
      rw [add_at, e2, ← e, hj]
  · intro j u hj
    rw [add_at, Nat.zero_add]
    have hlt : j < x.length := by
      rcases Nat.lt_or_ge j x.length with g | g
      · exact g
      · rw [List.getElem?_eq_none g] at hj; cases hj
    have e : x.toArray[j]? = some u := by simpa using hj
    simp [e]
  · intro v' w' h1 h2
    have hr : ∀ r ∈ rows ++ [x], r.length = sz := by
      intro r hr
      rcases List.mem_append.1 hr with hr | hr
      · exact hA.2.1 r hr
      · rw [List.mem_singleton.1 hr]; exact hxl
    have ho : OwnR w' (w.heap.size + 1) t sz v' (rows ++ [x]) := ⟨hr, by simpa using h1⟩
    refine h v' w' (ho.lower (by omega)) (hb0.trans ((Below.refl _ _).grown h2 (by simp) (fun k hk => by cases hk)))

theorem step_catR {P : Program} {ops : Array Oper} {o : Oper} {a : Act} {K : Act → World → Prop} {Q : Exit → Act → World → Prop} {E : Prop} (w : World) (B : Nat) (rows more : List (List Value)) (x y : Operand) (ts t : TypeId) (sz bytes : Nat) (z : Value)
    (hu : P.underlying ts = some (.slice t)) (hinfo : (P.info? t).map (fun i => (i.zero, i.size, i.bytes)) = some (some z, sz, bytes)) (hz : z.cells.size = sz) (h0 : 0 < sz)
    (hgd : o.guard = none) (ho : o.op = .call { callee := .builtin .append, args := #[x, y], argTypes := #[ts, ts] })
    (v : Value) (A : Option Addr) (n c : Nat) (hs : a.eval x = v) (hx : a.eval y = .slice A n c) (hn : n = more.length) (hown : OwnR w B t sz v rows) (hm : Recs w A sz more) (h1 : ∀ r ∈ more, ∀ u ∈ r, u.oneCell' = true)
    (hl : (rows.length + more.length) * bytes ≤ 140737488355328) (hmx : rows.length + more.length ≤ maxLen) (hB : B ≤ w.heap.size)
    (h : ∀ v' w', OwnR w' B t sz v' (rows ++ more) → Below B w w' → K (a.put o.dst v') w') :
    if Region.wanted o (yielded ops a.tmps) = true then Oper.wp P o a w K Q else E := by
  subst hn
  have hw : Region.wanted o (yielded ops a.tmps) = true := by simp [Region.wanted, hgd]
  rw [if_pos hw]
  obtain ⟨v', w', hr, h2, h3⟩ := run_catR w B rows more ts t o.type sz bytes z hu hinfo hz h0 v hown A c hm h1 hl hmx hB
  unfold Oper.wp
  simp [execOp, ho, resolve, invoke, builtin, hs, hx, hr, Result.andThen]
  exact h v' w' h2 ((Below.refl B w).grown h3 hB (OwnR.block hown))

/-- the records are not in block g -/
def Apart {α : Type} (g : Nat) (A : Option Addr) (l : List α) : Prop := l = [] ∨ ∃ b off, A = some ⟨b, off, none⟩ ∧ b ≠ g
theorem TR.apart {α : Type} {f : α → List Value} {Q : α → Prop} {sz : Nat} {w : World} {A : Option Addr} {l : List α} (h : TR f Q sz w A l) {g : Nat} (hg : w.heap.size ≤ g) : Apart g A l := by
  rcases h.1.2.2 with e | ⟨b, off, rfl, hb, _⟩
  · exact .inl (by simpa using e)
  · exact .inr ⟨b, off, rfl, by omega⟩
theorem TR.set_ {α : Type} {f : α → List Value} {Q : α → Prop} {sz : Nat} {w : World} {A : Option Addr} {l : List α} (h : TR f Q sz w A l) {g i : Nat} (ha : Apart g A l) (u : Value) : TR f Q sz (w.setCell ⟨g, i, none⟩ u) A l := by
  rcases ha with rfl | ⟨b, off, rfl, hb⟩
  · exact TR.nil _ _
  · obtain ⟨⟨h1, h2, h3⟩, h4⟩ := h
    refine ⟨⟨h1, h2, ?_⟩, h4⟩
    rcases h3 with e | ⟨b', off', e, hb', hc⟩
    · exact .inl e
    · injection e with e
      injection e with e1 e2
      subst e1 e2
      refine .inr ⟨b, off, rfl, by simpa using hb', fun i' j hi hj => ?_⟩
      rw [← hc i' j hi hj]
      unfold World.cell?
      rw [Below.heap_setCell w ⟨g, i, none⟩ u b hb]

/-- a slice of members that the call itself made: its accounts lie elsewhere -/
def OwnM (t : TypeId) (w : World) (B : Nat) (v : Value) (rows : List MRow) : Prop := OwnR w B t 3 v (rows.map mrowV) ∧ ∀ r ∈ rows, mrowQ w r ∧ ∀ g, v.ownBlock = some g → Apart g r.A r.m.accs
section
variable {t : TypeId} {w w' : World} {B : Nat} {v : Value} {rows : List MRow}
theorem OwnM.below (h : OwnM t w B v rows) (hb : Below w.heap.size w w') : OwnM t w' B v rows := ⟨h.1.below hb, fun r hr => ⟨(h.2 r hr).1.below hb, (h.2 r hr).2⟩⟩
theorem OwnM.mems (h : OwnM t w B v rows) : ∃ A cap, v = .slice A (rows.map MRow.m).length cap ∧ Mems w A (rows.map MRow.m) ∧ (rows.map MRow.m).length ≤ cap := by
  obtain ⟨A, cap, rfl, hr, hc⟩ := h.1.recs
  refine ⟨A, cap, by simp, ⟨rows, rfl, hr, fun r hr => (h.2 r hr).1⟩, by simpa using hc⟩
theorem getD_rows {k : Nat} (hk : k < rows.length) : (rows.map mrowV).getD k [] = mrowV rows[k] := by simp [List.getD, hk]
/-- member k gets other accounts -/
theorem OwnM.setA {g n c : Nat} (h : OwnM t w B (.slice (some ⟨g, 0, none⟩) n c) rows) {k : Nat} (hk : k < rows.length) {A' : Option Addr} {al : List MM.Ac} {cap' : Nat} (hA : Accs w A' al) (hc : al.length ≤ cap') (ha : Apart g A' al) :
    OwnM t (w.setCell ⟨g, k * 3 + 2, none⟩ (.slice A' al.length cap')) B (.slice (some ⟨g, 0, none⟩) n c) (rows.set k ⟨{ rows[k].m with accs := al }, A', cap'⟩) := by
  refine ⟨?_, ?_⟩
  · have := h.1.set_ (by omega) (i := k) (j := 2) (by simpa using hk) (by omega) (.slice A' al.length cap')
    rw [getD_rows hk] at this
    rw [List.map_set]
    exact this
  · intro r hr
    rcases List.mem_or_eq_of_mem_set hr with hr | rfl
    · obtain ⟨⟨q1, q2, q3, q4⟩, q5⟩ := h.2 r hr
      exact ⟨⟨q1, q2, q3.set_ (q5 g rfl) _, q4⟩, q5⟩
    · obtain ⟨⟨q1, q2, q3, q4⟩, q5⟩ := h.2 rows[k] (List.getElem_mem hk)
      refine ⟨⟨q1, q2, hA.set_ ha _, hc⟩, fun g' hg' => ?_⟩
      have : g' = g := by simpa [Value.ownBlock] using hg'.symm
      subst this; exact ha
/-- member k gets another status -/
theorem OwnM.setS {g n c : Nat} (h : OwnM t w B (.slice (some ⟨g, 0, none⟩) n c) rows) {k : Nat} (hk : k < rows.length) {s : Int} (hs : i64 s) :
    OwnM t (w.setCell ⟨g, k * 3 + 1, none⟩ (.int .i64 s)) B (.slice (some ⟨g, 0, none⟩) n c) (rows.set k ⟨{ rows[k].m with status := s }, rows[k].A, rows[k].cap⟩) := by
  refine ⟨?_, ?_⟩
  · have := h.1.set_ (by omega) (i := k) (j := 1) (by simpa using hk) (by omega) (.int .i64 s)
    rw [getD_rows hk] at this
    rw [List.map_set]
    exact this
  · intro r hr
    rcases List.mem_or_eq_of_mem_set hr with hr | rfl
    · obtain ⟨⟨q1, q2, q3, q4⟩, q5⟩ := h.2 r hr
      exact ⟨⟨q1, q2, q3.set_ (q5 g rfl) _, q4⟩, q5⟩
    · obtain ⟨⟨q1, q2, q3, q4⟩, q5⟩ := h.2 rows[k] (List.getElem_mem hk)
      exact ⟨⟨q1, hs, q3.set_ (q5 g rfl) _, q4⟩, q5⟩
end
theorem mrowV_one (rows : List MRow) : ∀ r ∈ rows.map mrowV, ∀ u ∈ r, u.oneCell' = true := by
  intro r hr u hu
  obtain ⟨p, _, rfl⟩ := List.mem_map.1 hr
  simp only [mrowV, List.mem_cons, List.not_mem_nil, or_false] at hu
  rcases hu with rfl | rfl | rfl <;> rfl
theorem accV_one (l : List MM.Ac) : ∀ r ∈ l.map accV, ∀ u ∈ r, u.oneCell' = true := by
  intro r hr u hu
  obtain ⟨p, _, rfl⟩ := List.mem_map.1 hr
  simp only [accV, List.mem_cons, List.not_mem_nil, or_false] at hu
  rcases hu with rfl | rfl <;> rfl
end Go.Recs

/- Contracts of layer 19: the reference's Fill. -/
namespace UM
theorem tk_zero (f : Pt → Pt) (l : List Pt) : (l.map f).take 0 = [] := rfl
theorem tk_succ (f : Pt → Pt) (l : List Pt) {k : Nat} (h : k < l.length) : (l.map f).take (k + 1) = (l.map f).take k ++ [f (pAt l k)] := by
  rw [List.take_succ_eq_append_getElem (by simpa using h), List.getElem_map, pAt_get h]
theorem tk_all (f : Pt → Pt) (l : List Pt) : (l.map f).take l.length = l.map f := List.take_of_length_le (by simp)
end UM
namespace Go.Proofs.Ytagmknahmkniaaa
open Go.RowKit Go.Recs
set_option linter.unusedVariables false
set_option linter.unusedSimpArgs false
theorem lit_ptO (W : World) (x : UM.Pt) : Recs (W.alloc (.cells #[.int .i64 x.exp, .int .i64 x.price, .bool x.known] 44)) (some ⟨W.heap.size, 0, none⟩) 3 [ptV x] := by
  obtain ⟨A', cap, e, hr, _⟩ := OwnR.recs (OwnR.lit W W.heap.size 44 3 [ptV x] (by simp [ptV]) (Nat.le_refl _) (by simp [maxLen]))
  injection e with e
  subst e
  exact hr
theorem one_ptO (x : UM.Pt) : ∀ r ∈ [ptV x], ∀ u ∈ r, u.oneCell' = true := fun r hr => by rw [List.mem_singleton.1 hr]; exact ptV_one x
set_option maxHeartbeats 8000000 in
set_option maxRecDepth 100000 in
theorem rfill_any (A : Option Addr) (l : List UM.Pt) (n cap : Nat) (hn : n = l.length) (tick : Int) (w : World) (hI : Pts w A l) :
    Calls Try.prog 16 #[.slice A n cap, .int .i64 tick] w fun e w' => ∃ v, e = .returned (.tuple #[v, .int .i64 (UM.tickE l tick)]) ∧ OwnR w' w.heap.size 44 3 v ((UM.fillR l tick).map ptV) ∧ Below w.heap.size w w' := by
  subst hn
  have hlen := hI.len
  have C1 := Lib.hid (rucheck_any A l l.length cap rfl w hI)
  by_cases h : UM.checkE l = 0
  · rw [h] at C1
    by_cases t1 : tick < 1
    · have e0 : UM.tickE l tick = 16 := by unfold UM.tickE; rw [if_neg (by simp [h]), if_pos (QM.within_false.2 (.inl t1))]
      have td : decide (tick < 1) = true := by simpa using t1
      rw [UM.fill_no (by rw [e0]; decide), e0]; clear h e0 hI
      go_enter Try.func16, Try.ntmps16
      go_wp2_with fail
      refine C1.out.mono ?_
      rintro e w1 ⟨rfl, k1, rfl⟩
      go_wp2_with fail
      go_ret2
      exact ⟨_, rfl, OwnR.nil _ _ _ _, below_drewN (Below.refl _ _) _⟩
    by_cases t2 : 16777216 < tick
    · have e0 : UM.tickE l tick = 16 := by unfold UM.tickE; rw [if_neg (by simp [h]), if_pos (QM.within_false.2 (.inr t2))]
      have td : decide (tick < 1) = false := by simpa using t1
      have td2 : decide (16777216 < tick) = true := by simpa using t2
      rw [UM.fill_no (by rw [e0]; decide), e0]; clear h e0 hI
      go_enter Try.func16, Try.ntmps16
      go_wp2_with fail
      refine C1.out.mono ?_
      rintro e w1 ⟨rfl, k1, rfl⟩
      go_wp2_with fail
      go_ret2
      exact ⟨_, rfl, OwnR.nil _ _ _ _, below_drewN (Below.refl _ _) _⟩
    have ht : 1 ≤ tick ∧ tick ≤ 16777216 := ⟨by omega, by omega⟩
    have g := UM.check_good.1 h
    have e0 := UM.tick_ok g ht
    have td : decide (tick < 1) = false := by simpa using t1
    have td2 : decide (16777216 < tick) = false := by simpa using t2
    rw [UM.fill_yes e0, e0]
    have hl2 := g.len
    have C3 := Lib.hid (fun k (hk : k < l.length) ww h => rat_any A l l.length cap rfl (UM.pAt l k).exp tick g ⟨(g.ord.mem _ (UM.pAt_mem hk)).1, (g.ord.mem _ (UM.pAt_mem hk)).2.1⟩ ht ww h)
    have HI := Lib.hid hI
    have KF := Lib.hid (fun p (hp : p.known = false) => (show UM.fillP l tick p = ⟨p.exp, UM.priceN l p.exp tick, true⟩ by unfold UM.fillP; rw [if_neg (by simp [hp])]))
    have KT := Lib.hid (fun p (hp : p.known = true) => (show UM.fillP l tick p = p by unfold UM.fillP; rw [if_pos hp]))
    have TS := Lib.hid (fun k (hk : k < l.length) => UM.tk_succ (UM.fillP l tick) l hk)
    have TZ := Lib.hid (UM.tk_zero (UM.fillP l tick) l)
    have TA := Lib.hid (UM.tk_all (UM.fillP l tick) l)
    generalize UM.fillP l tick = f at *
    clear h e0 hI g ht
    go_enter Try.func16, Try.ntmps16
    go_wp2_with fail
    refine C1.out.mono ?_
    rintro e w1 ⟨rfl, k1, rfl⟩
    have HB1 : Hid (Below w.heap.size w (w.drewN k1)) := Lib.hid (below_drewN (Below.refl _ _) k1)
    have HI1 : Hid (Pts (w.drewN k1) A l) := Lib.hid HI.out
    generalize w.drewN k1 = w1 at *
    clear C1
    go_wp2_with fail
    go_loopw [7, 8] (fun sv i wr => ∃ (k : Nat) (v : Value), v = sv ∧ k ≤ l.length ∧ i = .int .i64 (k : Int) ∧ Hid (OwnR wr w1.heap.size 44 3 v (((l.map f).take k).map ptV)) ∧ Hid (Below w1.heap.size w1 wr)) (fun _ i _ => l.length - (intOf i).toNat)
    case atStart => exact ⟨0, _, rfl, by omega, rfl, Lib.hid (OwnR.empty w1 w1.heap.size 44 3 (Nat.le_refl _)), Lib.hid (below_al (Below.refl _ _) _)⟩
    case round =>
      obtain ⟨k, v, rfl, hk, rfl, HO, HB⟩ := hrel
      have HSZ := Lib.hid HB.out.size
      by_cases hlt : k < l.length
      · obtain ⟨b, off, t, rfl, hb, HV, q, d0, d1, d2⟩ := pts_get (HI1.out.below HB.out) hlt
        have HS := Lib.hid (TS.out k hlt)
        have HC := Lib.hid (C3.out k hlt)
        rw [HV.out] at HS HC
        have HZ1 : Hid (((((l.map f).take k).map ptV).length + 1) * 24 ≤ 140737488355328 ∧ (((l.map f).take k).map ptV).length + 1 ≤ maxLen) := Lib.hid (by rw [List.length_map, List.length_take, List.length_map]; simp only [maxLen]; omega)
        obtain ⟨te, tp, tk⟩ := t
        simp only [] at d0 d1 d2
        clear q HV
        cases tk
        · have HS2 : Hid ((l.map f).take (k + 1) = (l.map f).take k ++ [⟨te, UM.priceN l te tick, true⟩]) := Lib.hid (by rw [HS.out, KF.out _ rfl])
          have HIw : Pts wr (some ⟨b, off, none⟩) l := HI1.out.below HB.out
          have HIr : Hid (Pts wr.drew (some ⟨b, off, none⟩) l) := Lib.hid HIw
          clear HIw
          have HC2 := Lib.hid (show ∀ ww, Pts ww (some ⟨b, off, none⟩) l → Calls Try.prog 29 #[.slice (some ⟨b, off, none⟩) l.length cap, .int .i64 te, .int .i64 tick] ww fun e w' => e = .returned (.int .i64 (UM.priceN l te tick)) ∧ ∃ k, w' = ww.drewN k from fun ww h => HC.out ww h)
          generalize UM.priceN l te tick = z at *
          clear HS HC
          go_wp2_with fail
          go_region_law (first
            | (go_simp; go_at_call 29; refine (HC2.out _ HIr.out).mono ?_; rintro e w5 ⟨rfl, k5, rfl⟩)
            | (refine step_catR _ w1.heap.size (((l.map f).take k).map ptV) [ptV ⟨te, z, true⟩] _ _ _ 44 3 24 _ Try.underlying22 info_pt rfl (by decide) rfl rfl v (some ⟨wr.heap.size, 0, none⟩) 1 1 (by simp [Act.eval, Act.put]) (by simp [Act.eval, Act.put]) rfl (OwnR.alloc HO.out _) (lit_ptO wr _) (one_ptO _) HZ1.out.1 HZ1.out.2 (by have := HSZ.out; simp; omega) ?_; intro v2 w2 o2 b2))
          all_goals (
            have HO2 : Hid (OwnR w2 w1.heap.size 44 3 v2 (((l.map f).take (k + 1)).map ptV)) := Lib.hid (by rw [HS2.out, List.map_append]; exact o2)
            have HB2 : Hid (Below w1.heap.size w1 w2) := Lib.hid (Below.trans (by first | exact below_drewN (below_al HB.out _) _ | exact (below_drewN (below_al HB.out _) _).drew | exact below_drewN (below_al HB.out _).drew _) b2)
            clear o2 b2 HO HB HIr d0 d1 d2
            go_wp2_with fail
            go_roundw
            case rel => exact ⟨k + 1, _, rfl, by omega, by go_num, HO2, HB2⟩
            case measure => simp [intOf]; omega)
        · have HS2 : Hid ((l.map f).take (k + 1) = (l.map f).take k ++ [⟨te, tp, true⟩]) := Lib.hid (by rw [HS.out, KT.out _ rfl])
          obtain ⟨rows, hrows⟩ : ∃ rows, ((l.map f).take k).map ptV = rows := ⟨_, rfl⟩
          rw [hrows] at HO HZ1
          have HRW := Lib.hid hrows
          clear HS HC hrows
          go_wp2_with (at_builtin; refine wpList_pushR wr (ptV ⟨te, tp, true⟩) (ptV_one _) w1.heap.size rows _ _ _ 44 3 24 _ Try.underlying22 info_pt rfl (by decide) rfl rfl rfl v (by rfl) (by rfl) HO.out HZ1.out.1 HZ1.out.2 HB.out.size ?_)
          rintro v2 w2 o2 b2 s2 g2'
          have HO2 : Hid (OwnR w2 w1.heap.size 44 3 v2 (((l.map f).take (k + 1)).map ptV)) := Lib.hid (by rw [HS2.out, List.map_append, HRW.out]; exact o2)
          have HB2 := Lib.hid (HB.out.trans b2)
          clear o2 b2 s2 g2' HO HB d0 d1 d2
          go_wp2_with fail
          go_roundw
          case rel => exact ⟨k + 1, _, rfl, by omega, by go_num, HO2, HB2⟩
          case measure => simp [intOf]; omega
      · obtain rfl : k = l.length := by omega
        rw [TA.out] at HO
        have HBF := Lib.hid (HB1.out.trans (HB.out.mono HB1.out.size))
        go_wp2_with fail
        go_ret2
        exact ⟨v, rfl, HO.out.lower HB1.out.size, HBF.out⟩
  · have e0 : UM.tickE l tick = UM.checkE l := by unfold UM.tickE; rw [if_pos h]
    have hd : (UM.checkE l != 0) = true := by simpa using h
    rw [UM.fill_no (by rw [e0]; exact h), e0]
    generalize UM.checkE l = y at *
    clear h hI e0
    go_enter Try.func16, Try.ntmps16
    go_wp2_with fail
    refine C1.out.mono ?_
    rintro e w1 ⟨rfl, k1, rfl⟩
    go_wp2_with fail
    go_ret2
    exact ⟨_, rfl, OwnR.nil _ _ _ _, below_drewN (Below.refl _ _) _⟩
end Go.Proofs.Ytagmknahmkniaaa
