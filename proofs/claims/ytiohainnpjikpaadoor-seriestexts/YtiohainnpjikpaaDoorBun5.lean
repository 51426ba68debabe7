/- Put together: DateMath5, DateF, DateG, OrderMath, SeriesMath, CentsMath, CentsDiv, CentsDiv2. -/
import Derived.Test.YtiohainnpjikpaaDoorBun4
import Derived.Below
import Derived.Laws.Strings
import Derived.IntWalk
/- A date's form, byte by byte. -/
namespace DM
set_option linter.unusedVariables false

def okAt (i : Nat) (c : UInt8) : Bool := if i = 4 ∨ i = 7 then c == 45 else decide (isD c)
def okUpTo (s : List UInt8) (k : Nat) : Prop := ∀ i, i < k → okAt i (s.getD i 0) = true
def formB (s : List UInt8) : Bool := decide (s.length = 10) && (List.range 10).all (fun i => okAt i (s.getD i 0))
theorem ten {α : Type} (s : List α) (h : s.length = 10) : ∃ a b c d e f g h i j, s = [a, b, c, d, e, f, g, h, i, j] := by
  match s, h with
  | [a, b, c, d, e, f, g, h, i, j], _ => exact ⟨a, b, c, d, e, f, g, h, i, j, rfl⟩
theorem formB_true {s : List UInt8} : formB s = true ↔ form s := by
  unfold formB
  simp only [Bool.and_eq_true, decide_eq_true_eq, List.all_eq_true, List.mem_range]
  constructor
  · rintro ⟨h, h2⟩
    obtain ⟨a, b, c, d, e, f, g, h, i, j, rfl⟩ := ten s h
    have k0 := h2 0 (by omega); have k1 := h2 1 (by omega); have k2 := h2 2 (by omega); have k3 := h2 3 (by omega); have k4 := h2 4 (by omega)
    have k5 := h2 5 (by omega); have k6 := h2 6 (by omega); have k7 := h2 7 (by omega); have k8 := h2 8 (by omega); have k9 := h2 9 (by omega)
    simp [okAt] at k0 k1 k2 k3 k4 k5 k6 k7 k8 k9
    subst k4 k7
    exact ⟨a, b, c, d, f, g, i, j, rfl, k0, k1, k2, k3, k5, k6, k8, k9⟩
  · rintro ⟨a, b, c, d, e, f, g, h, rfl, k0, k1, k2, k3, k5, k6, k8, k9⟩
    refine ⟨rfl, ?_⟩
    intro i hi
    have : i = 0 ∨ i = 1 ∨ i = 2 ∨ i = 3 ∨ i = 4 ∨ i = 5 ∨ i = 6 ∨ i = 7 ∨ i = 8 ∨ i = 9 := by omega
    rcases this with rfl | rfl | rfl | rfl | rfl | rfl | rfl | rfl | rfl | rfl <;> simp [okAt, k0, k1, k2, k3, k5, k6, k8, k9]
theorem formB_false {s : List UInt8} : formB s = false ↔ ¬ form s := by rw [← formB_true]; simp
theorem formB_len {s : List UInt8} (h : s.length ≠ 10) : formB s = false := by unfold formB; simp [h]
theorem formB_no {s : List UInt8} {k : Nat} (hk : k < 10) (h : okAt k (s.getD k 0) = false) : formB s = false := by
  cases e : formB s with
  | false => rfl
  | true =>
    unfold formB at e
    simp only [Bool.and_eq_true, decide_eq_true_eq, List.all_eq_true, List.mem_range] at e
    rw [e.2 k hk] at h; cases h
theorem formB_all {s : List UInt8} (hl : s.length = 10) (h : okUpTo s 10) : formB s = true := by
  unfold formB
  simp only [Bool.and_eq_true, decide_eq_true_eq, List.all_eq_true, List.mem_range]
  exact ⟨hl, fun i hi => h i hi⟩
theorem okUpTo_succ {s : List UInt8} {k : Nat} (h : okUpTo s k) (hk : okAt k (s.getD k 0) = true) : okUpTo s (k + 1) := by
  intro i hi
  rcases Nat.lt_or_ge i k with g | g
  · exact h i g
  · rw [show i = k by omega]; exact hk
def parE (s : List UInt8) : Int := if formB s = true then ofE (yearOf s) (monthOf s) (dayIn s) else 5
def parN (s : List UInt8) : Int := if formB s = true then ofN (yearOf s) (monthOf s) (dayIn s) else 0
/-- what is read is the day whose text it is -/
theorem par_back {s : List UInt8} (h : parE s = 0) : isDate (parN s) (yearOf s) (monthOf s) (dayIn s) ∧ dateL (yearOf s) (monthOf s) (dayIn s) = s := by
  unfold parE at h
  cases hf : formB s with
  | false => rw [hf] at h; simp at h
  | true =>
    rw [hf] at h
    simp only [if_true] at h
    have hok : okDate (yearOf s) (monthOf s) (dayIn s) := by
      unfold ofE at h; split at h
      · assumption
      · omega
    refine ⟨⟨hok, ?_⟩, (form_read (formB_true.1 hf)).1⟩
    unfold parN
    rw [hf]
    simp only [if_true]
    unfold ofN; rw [if_pos hok]
/-- a day's text is read as that day -/
theorem par_text {day y m d : Int} (h : isDate day y m d) : parN (dateL y m d) = day ∧ parE (dateL y m d) = 0 := by
  obtain ⟨h1, e⟩ := h
  have r := (dim_range y m).2
  obtain ⟨p1, p2, p3, p4, p5, p6⟩ := h1
  obtain ⟨a, b, c⟩ := dateL_read (y := y) (m := m) (d := d) (by omega) (by omega) (by omega)
  unfold parN parE
  rw [formB_true.2 (dateL_form y m d), if_pos rfl, if_pos rfl, a, b, c]
  unfold ofN ofE
  rw [if_pos ⟨p1, p2, p3, p4, p5, p6⟩, if_pos ⟨p1, p2, p3, p4, p5, p6⟩]
  exact ⟨e, rfl⟩
end DM

/- Contracts: a date's text read. -/
namespace Go.Proofs.YtiohainnpjikpaaDoor
open Go.RowKit
set_option linter.unusedVariables false

theorem pat_d {k : Nat} (h : k < (⟨#[100, 100, 100, 100, 45, 100, 100, 45, 100, 100]⟩ : ByteArray).size) (h4 : k ≠ 4) (h7 : k ≠ 7) :
    (((⟨#[100, 100, 100, 100, 45, 100, 100, 45, 100, 100]⟩ : ByteArray)[k]).toNat : Int) = 100 := by
  have h10 : k < 10 := h
  have : k = 0 ∨ k = 1 ∨ k = 2 ∨ k = 3 ∨ k = 5 ∨ k = 6 ∨ k = 8 ∨ k = 9 := by omega
  rcases this with rfl | rfl | rfl | rfl | rfl | rfl | rfl | rfl <;> rfl
theorem pat_m {k : Nat} (h : k < (⟨#[100, 100, 100, 100, 45, 100, 100, 45, 100, 100]⟩ : ByteArray).size) (h4 : k = 4 ∨ k = 7) :
    (((⟨#[100, 100, 100, 100, 45, 100, 100, 45, 100, 100]⟩ : ByteArray)[k]).toNat : Int) = 45 := by
  rcases h4 with rfl | rfl <;> rfl
theorem getD_at_ (s : ByteArray) (k : Nat) (h : k < s.size) : (L s).getD k 0 = s[k] := by
  rw [← L_get s k h]
  simp [List.getD, List.getElem?_eq_getElem (show k < (L s).length by rw [L_len]; exact h)]
theorem okAt_d {k : Nat} (h4 : k ≠ 4) (h7 : k ≠ 7) (c : UInt8) : (DM.okAt k c = true ↔ 48 ≤ (c.toNat : Int) ∧ (c.toNat : Int) ≤ 57) := by
  unfold DM.okAt
  rw [if_neg (by omega)]
  rw [decide_eq_true_iff]
  unfold DM.isD
  omega
theorem okAt_m {k : Nat} (h4 : k = 4 ∨ k = 7) (c : UInt8) : DM.okAt k c = ((c.toNat : Int) == 45) := by
  unfold DM.okAt
  rw [if_pos h4, Bool.eq_iff_iff, beq_iff_eq, beq_iff_eq, ← UInt8.toNat_inj]
  have : (45 : UInt8).toNat = 45 := rfl
  omega

set_option maxHeartbeats 1000000 in
theorem formed_any (s : ByteArray) (w : World) (hs : s.size ≤ 9223372036854775807) :
    Calls Tryd.prog 83 #[.string s] w fun e w' => e = .returned (.bool (DM.formB (L s))) ∧ ∃ k, w' = w.drewN k := by
  generalize hv : DM.formB (L s) = v
  have HV := Lib.hid hv
  clear hv
  by_cases hl : s.size = 10
  · have hl2 : ((s.size : Int) != 10) = false := by simp; omega
    have HL := Lib.hid hl
    have hl3 : 10 ≤ s.size := by omega
    clear hl
    go_enter Tryd.func83, Tryd.ntmps83
    go_wp2
    go_loopw [7] (fun i wr => ∃ k n : Nat, k ≤ 10 ∧ i = .int .i64 k ∧ wr = w.drewN n ∧ Hid (DM.okUpTo (L s) k)) (fun i _ => 10 - (intOf i).toNat)
    case atStart => exact ⟨0, 0, by omega, rfl, rfl, Lib.hid (fun i hi => by omega)⟩
    case round =>
      obtain ⟨k, n, hk, rfl, rfl, HK⟩ := hrel
      by_cases hlt : k < 10
      · have hks : k < s.size := by omega
        have HG := Lib.hid (getD_at_ s k hks)
        have hkp : k < (⟨#[100, 100, 100, 100, 45, 100, 100, 45, 100, 100]⟩ : ByteArray).size := hlt
        by_cases hd : k = 4 ∨ k = 7
        · have hp := pat_m hkp hd
          have ho := okAt_m hd s[k]
          cases hb : ((s[k].toNat : Int) == 45)
          · have HN := Lib.hid (DM.formB_no hlt (by rw [HG.out, ho, hb]))
            have hb2 : ((s[k].toNat : Int) != 45) = true := by simp [bne, hb]
            clear ho hd hb
            go_wp2
            go_quiet (fail)
            go_wp2
            go_ret
            exact ⟨by rw [← HV.out, HN.out]; rfl, _, World.drewN_drewN _ _ _⟩
          · have HN := Lib.hid (DM.okUpTo_succ HK.out (by rw [HG.out, ho, hb]))
            have hb2 : ((s[k].toNat : Int) != 45) = false := by simp [bne, hb]
            clear ho hd hb
            go_wp2
            go_quiet (fail)
            go_wp2
            go_roundw
            case rel => exact ⟨k + 1, _, by omega, by go_num, rfl, HN⟩
            case measure => simp [intOf]; omega
        · have hp := pat_d hkp (by omega) (by omega)
          have ho := okAt_d (k := k) (by omega) (by omega) s[k]
          clear hd
          by_cases h1 : 48 ≤ (s[k].toNat : Int)
          · by_cases h2 : (s[k].toNat : Int) ≤ 57
            · have HN := Lib.hid (DM.okUpTo_succ HK.out (by rw [HG.out]; exact ho.2 ⟨h1, h2⟩))
              clear ho
              go_wp2
              go_roundw
              case rel => exact ⟨k + 1, _, by omega, by go_num, rfl, HN⟩
              case measure => simp [intOf]; omega
            · have HN := Lib.hid (DM.formB_no hlt (by
                rw [HG.out]
                cases e : DM.okAt k s[k] with
                | false => rfl
                | true => exact absurd (ho.1 e).2 h2))
              clear ho
              go_wp2
              go_ret
              exact ⟨by rw [← HV.out, HN.out]; rfl, _, rfl⟩
          · have HN := Lib.hid (DM.formB_no hlt (by
              rw [HG.out]
              cases e : DM.okAt k s[k] with
              | false => rfl
              | true => exact absurd (ho.1 e).1 h1))
            clear ho
            go_wp2
            go_ret
            exact ⟨by rw [← HV.out, HN.out]; rfl, _, rfl⟩
      · obtain rfl : k = 10 := by omega
        have HN := Lib.hid (DM.formB_all (by rw [L_len]; exact HL.out) HK.out)
        go_wp2
        go_ret
        exact ⟨by rw [← HV.out, HN.out]; rfl, _, rfl⟩
  · have HN := Lib.hid (DM.formB_len (s := L s) (by rw [L_len]; exact hl))
    have hl2 : ((s.size : Int) != 10) = true := by simp; omega
    clear hl
    go_enter Tryd.func83, Tryd.ntmps83
    go_wp2
    go_ret
    exact ⟨by rw [← HV.out, HN.out]; rfl, 0, rfl⟩

/-! figures -/
theorem dgo_snoc (l : List UInt8) (c : UInt8) : ∀ n : Int, l.all (fun c => decide (DM.isD c)) = true → DM.dgo n (l ++ [c]) = if DM.isD c then 10 * DM.dgo n l + DM.dv c else -1 := by
  induction l with
  | nil => intro n _; rfl
  | cons a t ih =>
    intro n h
    simp only [List.all_cons, Bool.and_eq_true, decide_eq_true_eq] at h
    show (if DM.isD a then DM.dgo (10 * n + DM.dv a) (t ++ [c]) else -1) = _
    rw [if_pos h.1, ih _ h.2]
    show _ = if DM.isD c then 10 * (if DM.isD a then DM.dgo (10 * n + DM.dv a) t else -1) + DM.dv c else -1
    rw [if_pos h.1]
theorem dgo_bad (l : List UInt8) (k : Nat) (hk : k < l.length) (h : ¬ DM.isD l[k]) : ∀ n : Int, DM.dgo n l = -1 := by
  induction l generalizing k with
  | nil => simp at hk
  | cons a t ih =>
    intro n
    show (if DM.isD a then DM.dgo (10 * n + DM.dv a) t else -1) = -1
    by_cases ha : DM.isD a
    · rw [if_pos ha]
      cases k with
      | zero => exact absurd ha h
      | succ k => exact ih k (by simpa using hk) (by simpa using h) _
    · rw [if_neg ha]
theorem dgo_range (l : List UInt8) : ∀ n : Int, 0 ≤ n → l.all (fun c => decide (DM.isD c)) = true → l.length ≤ 4 → ∀ m : Int, n < m → DM.dgo n l < m * 10 ^ l.length ∧ 0 ≤ DM.dgo n l := by
  induction l with
  | nil => intro n h _ _ m hm; simp [DM.dgo]; omega
  | cons a t ih =>
    intro n h ha hl m hm
    simp only [List.all_cons, Bool.and_eq_true, decide_eq_true_eq] at ha
    have r := DM.dv_range ha.1
    show (if DM.isD a then DM.dgo (10 * n + DM.dv a) t else -1) < _ ∧ 0 ≤ (if DM.isD a then DM.dgo (10 * n + DM.dv a) t else -1)
    rw [if_pos ha.1]
    have := ih (10 * n + DM.dv a) (by omega) ha.2 (by simp at hl; omega) (m * 10) (by omega)
    rw [List.length_cons, Int.pow_succ, Int.mul_comm (10 ^ t.length) 10, ← Int.mul_assoc]
    exact this
theorem dgo_small {l : List UInt8} (ha : l.all (fun c => decide (DM.isD c)) = true) (hl : l.length ≤ 4) : 0 ≤ DM.dgo 0 l ∧ DM.dgo 0 l ≤ 9999 := by
  have h := dgo_range l 0 (by omega) ha hl 1 (by omega)
  have : l.length = 0 ∨ l.length = 1 ∨ l.length = 2 ∨ l.length = 3 ∨ l.length = 4 := by omega
  rcases this with e | e | e | e | e <;> rw [e] at h <;> omega
theorem all_take_ {p : UInt8 → Bool} {l : List UInt8} (h : l.all p = true) (k : Nat) : (l.take k).all p = true := by
  rw [List.all_eq_true] at h ⊢
  exact fun x hx => h x (List.mem_of_mem_take hx)

set_option maxHeartbeats 1000000 in
theorem number5_any (s : ByteArray) (w : World) (hs : s.size ≤ 4) (ha : (L s).all (fun c => decide (DM.isD c)) = true) :
    Calls Tryd.prog 85 #[.string s] w fun e w' => e = .returned (.int .i64 (DM.dgo 0 (L s))) ∧ w = w' := by
  generalize hv : DM.dgo 0 (L s) = v
  have HV := Lib.hid hv
  have HA := Lib.hid ha
  clear hv ha
  go_enter Tryd.func85, Tryd.ntmps85
  go_wp2
  go_loop [2, 6] (fun n i => ∃ k : Nat, ∃ x : Int, k ≤ s.size ∧ i = .int .i64 k ∧ n = .int .i64 x ∧ 0 ≤ x ∧ x ≤ 9999 ∧ Hid (DM.dgo 0 ((L s).take k) = x)) (fun _ i => s.size - (intOf i).toNat)
  case atStart => exact ⟨0, 0, by omega, rfl, rfl, by omega, by omega, Lib.hid rfl⟩
  case round =>
    obtain ⟨k, x, hk, rfl, rfl, x1, x2, HX⟩ := hrel
    by_cases hlt : k < s.size
    · have hst := dgo_snoc ((L s).take k) s[k] 0 (all_take_ HA.out k)
      have hd : DM.isD s[k] := by
        have := HA.out
        rw [List.all_eq_true] at this
        have h2 := this s[k] (by rw [← L_get s k hlt]; exact List.getElem_mem _)
        simpa using h2
      rw [if_pos hd, HX.out, ← L_take_succ s k hlt] at hst
      have hr := dgo_small (all_take_ HA.out (k + 1)) (by rw [List.length_take]; omega)
      rw [hst] at hr
      unfold DM.isD at hd
      unfold DM.dv at hst hr
      obtain ⟨hr1, hr2⟩ := hr
      obtain ⟨d1, d2⟩ := hd
      have e1 : 48 ≤ (s[k].toNat : Int) := by omega
      have e2 : (s[k].toNat : Int) ≤ 57 := by omega
      have HST := Lib.hid hst
      clear hst d1 d2
      go_wp2
      go_round
      case rel => exact ⟨k + 1, _, by omega, by go_num, rfl, hr1, hr2, HST⟩
      case measure => simp [intOf]; omega
    · obtain rfl : k = s.size := by omega
      have HE := HX.out
      rw [L_take_all] at HE
      have HE := Lib.hid HE
      go_wp2
      go_ret
      exact ⟨by rw [← HV.out, HE.out]; rfl, rfl⟩

end Go.Proofs.YtiohainnpjikpaaDoor

/- Contracts: Parse, the program's and the reference's. -/
namespace Go.Proofs.YtiohainnpjikpaaDoor
open Go.RowKit
set_option linter.unusedVariables false

/-- a contract that leaves the world alone, inside a region that draws -/
theorem quietly {P : Program} {f : FuncId} {args : Array Value} {w : World} {n : Nat} {v : Value}
    (h : Calls P f args (w.drewN n) fun e w' => e = .returned v ∧ w.drewN n = w') : Calls P f args (w.drewN n) fun e w'' => e = .returned v ∧ ∃ m, w'' = w.drewN m :=
  h.mono fun _ _ ⟨he, hm⟩ => ⟨he, n, hm.symm⟩

def dAll (l : List UInt8) : Bool := l.all (fun c => decide (DM.isD c))

/-- the three runs of a text of ten bytes -/
theorem parts_ten (s : ByteArray) (hl : s.size = 10) : (L (s.extract 0 4) = (L s).take 4 ∧ L (s.extract 5 7) = ((L s).drop 5).take 2 ∧ L (s.extract 8 10) = (L s).drop 8) ∧
    ((s.extract 0 4).size ≤ 4 ∧ (s.extract 5 7).size ≤ 4 ∧ (s.extract 8 10).size ≤ 4) := by
  have hL := L_len s
  refine ⟨⟨?_, ?_, ?_⟩, ?_, ?_, ?_⟩
  · rw [L_extract]; rfl
  · rw [L_extract, List.drop_take]
  · rw [L_extract, List.take_of_length_le (by omega)]
  · rw [ByteArray.size_extract]; omega
  · rw [ByteArray.size_extract]; omega
  · rw [ByteArray.size_extract]; omega
theorem form_parts {l : List UInt8} (h : DM.form l) : dAll (l.take 4) = true ∧ dAll ((l.drop 5).take 2) = true ∧ dAll (l.drop 8) = true := by
  obtain ⟨a, b, c, d, e, f, g, h, rfl, ha, hb, hc, hd, he, hf, hg, hh⟩ := h
  simp [dAll, ha, hb, hc, hd, he, hf, hg, hh]
theorem form_len {l : List UInt8} (h : DM.form l) : l.length = 10 := by
  obtain ⟨a, b, c, d, e, f, g, h, rfl, _⟩ := h
  rfl

set_option maxHeartbeats 1000000 in
theorem parse_any (s : ByteArray) (w : World) (hs : s.size ≤ 9223372036854775807) :
    Calls Tryd.prog 58 #[.string s] w fun e w' => e = .returned (.tuple #[.int .i64 (DM.parN (L s)), .int .i64 (DM.parE (L s))]) ∧ ∃ n, w' = w.drewN n := by
  have CF := formed_any s w hs
  generalize hn : DM.parN (L s) = rn
  generalize he : DM.parE (L s) = re
  unfold DM.parN at hn
  unfold DM.parE at he
  cases hf : DM.formB (L s)
  · rw [hf] at hn he CF
    simp only [Bool.false_eq_true, if_false] at hn he
    subst hn he
    have HCF := Lib.hid CF
    clear CF hf
    go_enter Tryd.func58, Tryd.ntmps58
    go_wp2_with fail
    refine HCF.out.mono ?_
    rintro e w1 ⟨rfl, n1, rfl⟩
    go_wp2
    go_ret2
    exact ⟨rfl, _, rfl⟩
  · rw [hf] at hn he CF
    simp only [if_true] at hn he
    have hfo := DM.formB_true.1 hf
    have hsz : s.size = 10 := by rw [← L_len]; exact form_len hfo
    obtain ⟨⟨p1, p2, p3⟩, q1, q2, q3⟩ := parts_ten s hsz
    obtain ⟨f1, f2, f3⟩ := form_parts hfo
    have HF : Hid (∀ t : ByteArray, (t = s.extract 0 4 ∨ t = s.extract 5 7 ∨ t = s.extract 8 10) → t.size ≤ 4 ∧ (L t).all (fun c => decide (DM.isD c)) = true) := Lib.hid (by
      rintro t (rfl | rfl | rfl)
      · exact ⟨q1, by rw [p1]; exact f1⟩
      · exact ⟨q2, by rw [p2]; exact f2⟩
      · exact ⟨q3, by rw [p3]; exact f3⟩)
    unfold DM.yearOf DM.monthOf DM.dayIn at hn he
    rw [← p1, ← p2, ← p3] at hn he
    have HN := Lib.hid hn; have HE := Lib.hid he
    have HCF := Lib.hid CF
    have h10 : (10 : Int) ≤ (s.size : Int) := by omega
    have h4 : (4 : Int) ≤ (s.size : Int) := by omega
    have h7 : (7 : Int) ≤ (s.size : Int) := by omega
    clear CF hf hn he hfo hsz p1 p2 p3 q1 q2 q3 f1 f2 f3
    go_enter Tryd.func58, Tryd.ntmps58
    go_wp2_with fail
    refine HCF.out.mono ?_
    rintro e w1 ⟨rfl, n1, hw1⟩
    have HW1 := Lib.hid hw1
    clear hw1
    go_wp2
    go_quiet (first
      | (go_at_call 85; exact quietly (number5_any _ _ (HF.out _ (by simp)).1 (HF.out _ (by simp)).2))
      | (go_at_call 84; exact quietly (of_any _ _ _ _)))
    go_wp2
    go_ret2
    exact ⟨by rw [← HN.out, ← HE.out]; rfl, _, by rw [HW1.out]; exact World.drewN_drewN _ _ _⟩
end Go.Proofs.YtiohainnpjikpaaDoor

/- Texts in order: the model's own order of bytes is a total order. -/
namespace OM
open Go
theorem bl_irrefl : ∀ x : List UInt8, Op.bytesLess x x = false
  | [] => rfl
  | a :: x => by
    simp [Op.bytesLess, bl_irrefl x]
theorem bl_trans : ∀ x y z : List UInt8, Op.bytesLess x y = true → Op.bytesLess y z = true → Op.bytesLess x z = true
  | [], [], z, h, _ => by simp [Op.bytesLess] at h
  | [], _ :: _, [], _, h => by simp [Op.bytesLess] at h
  | [], _ :: _, _ :: _, _, _ => by simp [Op.bytesLess]
  | _ :: _, [], _, h, _ => by simp [Op.bytesLess] at h
  | _ :: _, _ :: _, [], _, h => by simp [Op.bytesLess] at h
  | a :: x, b :: y, c :: z, h1, h2 => by
    simp only [Op.bytesLess, Bool.or_eq_true, decide_eq_true_eq, Bool.and_eq_true, beq_iff_eq] at h1 h2 ⊢
    rcases h1 with h1 | ⟨rfl, h1⟩
    · rcases h2 with h2 | ⟨rfl, h2⟩
      · left; rw [UInt8.lt_iff_toNat_lt] at *; omega
      · left; exact h1
    · rcases h2 with h2 | ⟨rfl, h2⟩
      · left; exact h2
      · right; exact ⟨rfl, bl_trans x y z h1 h2⟩
theorem bl_asymm {x y : List UInt8} (h : Op.bytesLess x y = true) : Op.bytesLess y x = false := by
  cases e : Op.bytesLess y x
  · rfl
  · have := bl_trans _ _ _ h e
    rw [bl_irrefl] at this; cases this
theorem bl_tri : ∀ x y : List UInt8, Op.bytesLess x y = true ∨ x = y ∨ Op.bytesLess y x = true
  | [], [] => .inr (.inl rfl)
  | [], _ :: _ => .inl (by simp [Op.bytesLess])
  | _ :: _, [] => .inr (.inr (by simp [Op.bytesLess]))
  | a :: x, b :: y => by
    simp only [Op.bytesLess, Bool.or_eq_true, decide_eq_true_eq, Bool.and_eq_true, beq_iff_eq]
    have h : a < b ∨ a = b ∨ b < a := by
      rw [UInt8.lt_iff_toNat_lt, UInt8.lt_iff_toNat_lt, ← UInt8.toNat_inj]; omega
    rcases h with h | rfl | h
    · exact .inl (.inl h)
    · rcases bl_tri x y with g | rfl | g
      · exact .inl (.inr ⟨rfl, g⟩)
      · exact .inr (.inl rfl)
      · exact .inr (.inr (.inr ⟨rfl, g⟩))
    · exact .inr (.inr (.inl h))
end OM

/- Layer 10's mathematics: series in order, sorted lists without repeats. -/
namespace EM
open Go
structure Ser where
  prod : ByteArray
  kind : Int
  expiry : Int
  strike : Int
def zero : Ser := ⟨⟨#[]⟩, 0, 0, 0⟩
def less (a b : Ser) : Bool := Op.bytesLess a.prod.toList b.prod.toList
def ord (a b : Int) : Int := if a < b then -1 else if b < a then 1 else 0
def cmp (a b : Ser) : Int :=
  if less a b = true then -1 else if less b a = true then 1 else if a.expiry ≠ b.expiry then ord a.expiry b.expiry else if a.kind ≠ b.kind then ord a.kind b.kind else ord a.strike b.strike
theorem toList_inj {s t : ByteArray} (h : s.toList = t.toList) : s = t := by
  rw [Go.ByteArray.toList_eq, Go.ByteArray.toList_eq] at h
  cases s; cases t
  simp only [ByteArray.mk.injEq]
  exact Array.toList_inj.1 h
theorem same_prod {a b : Ser} (h1 : less a b = false) (h2 : less b a = false) : a.prod = b.prod := by
  unfold less at h1 h2
  rcases OM.bl_tri a.prod.toList b.prod.toList with h | h | h
  · rw [h] at h1; cases h1
  · exact toList_inj h
  · rw [h] at h2; cases h2
theorem less_irrefl (a : Ser) : less a a = false := OM.bl_irrefl _
theorem less_asymm {a b : Ser} (h : less a b = true) : less b a = false := OM.bl_asymm h
theorem less_trans {a b c : Ser} (h1 : less a b = true) (h2 : less b c = true) : less a c = true := OM.bl_trans _ _ _ h1 h2
/-- a is ahead of b -/
def lt (a b : Ser) : Prop := less a b = true ∨ (a.prod = b.prod ∧ (a.expiry < b.expiry ∨ (a.expiry = b.expiry ∧ (a.kind < b.kind ∨ (a.kind = b.kind ∧ a.strike < b.strike)))))
theorem less_of_eq {a b c : Ser} (h : b.prod = c.prod) : less a b = less a c := by unfold less; rw [h]
theorem less_of_eq' {a b c : Ser} (h : a.prod = b.prod) : less a c = less b c := by unfold less; rw [h]
theorem less_eq_false {a b : Ser} (h : a.prod = b.prod) : less a b = false := by unfold less; rw [h]; exact OM.bl_irrefl _
theorem lt_irrefl (a : Ser) : ¬ lt a a := by
  unfold lt
  rw [less_irrefl]
  simp
theorem lt_trans {a b c : Ser} (h1 : lt a b) (h2 : lt b c) : lt a c := by
  unfold lt at *
  rcases h1 with h1 | ⟨e1, h1⟩
  · rcases h2 with h2 | ⟨e2, h2⟩
    · exact .inl (less_trans h1 h2)
    · left; rw [← less_of_eq e2]; exact h1
  · rcases h2 with h2 | ⟨e2, h2⟩
    · left; rw [less_of_eq' e1]; exact h2
    · right; exact ⟨e1.trans e2, by omega⟩
theorem lt_tri (a b : Ser) : lt a b ∨ a = b ∨ lt b a := by
  cases h1 : less a b
  · cases h2 : less b a
    · have e := same_prod h1 h2
      by_cases g1 : a.expiry = b.expiry
      · by_cases g2 : a.kind = b.kind
        · by_cases g3 : a.strike = b.strike
          · right; left
            cases a; cases b
            simp_all
          · rcases Int.lt_or_gt_of_ne g3 with g | g
            · exact .inl (.inr ⟨e, by omega⟩)
            · exact .inr (.inr (.inr ⟨e.symm, by omega⟩))
        · rcases Int.lt_or_gt_of_ne g2 with g | g
          · exact .inl (.inr ⟨e, by omega⟩)
          · exact .inr (.inr (.inr ⟨e.symm, by omega⟩))
      · rcases Int.lt_or_gt_of_ne g1 with g | g
        · exact .inl (.inr ⟨e, by omega⟩)
        · exact .inr (.inr (.inr ⟨e.symm, by omega⟩))
    · exact .inr (.inr (.inl h2))
  · exact .inl (.inl h1)
theorem lt_asymm {a b : Ser} (h : lt a b) : ¬ lt b a := fun g => lt_irrefl a (lt_trans h g)
theorem cmp_lt {a b : Ser} (h : lt a b) : cmp a b = -1 := by
  unfold cmp
  rcases h with h | ⟨e, h⟩
  · rw [if_pos h]
  · rw [if_neg (by rw [less_eq_false e]; simp), if_neg (by rw [less_eq_false e.symm]; simp)]
    by_cases g1 : a.expiry = b.expiry
    · rw [if_neg (by simp [g1])]
      by_cases g2 : a.kind = b.kind
      · rw [if_neg (by simp [g2])]
        unfold ord; rw [if_pos (by omega)]
      · rw [if_pos g2]; unfold ord; rw [if_pos (by omega)]
    · rw [if_pos g1]; unfold ord; rw [if_pos (by omega)]
theorem cmp_gt {a b : Ser} (h : lt b a) : cmp a b = 1 := by
  unfold cmp
  rcases h with h | ⟨e, h⟩
  · rw [if_neg (by rw [less_asymm h]; simp), if_pos h]
  · rw [if_neg (by rw [less_eq_false e.symm]; simp), if_neg (by rw [less_eq_false e]; simp)]
    by_cases g1 : a.expiry = b.expiry
    · rw [if_neg (by simp [g1])]
      by_cases g2 : a.kind = b.kind
      · rw [if_neg (by simp [g2])]
        unfold ord; rw [if_neg (by omega), if_pos (by omega)]
      · rw [if_pos g2]; unfold ord; rw [if_neg (by omega), if_pos (by omega)]
    · rw [if_pos g1]; unfold ord; rw [if_neg (by omega), if_pos (by omega)]
theorem cmp_self (a : Ser) : cmp a a = 0 := by
  unfold cmp
  rw [if_neg (by rw [less_irrefl]; simp), if_neg (by rw [less_irrefl]; simp), if_neg (by simp), if_neg (by simp)]
  unfold ord; simp
/-- which of the three -/
theorem cmp_cases (a b : Ser) : (cmp a b = -1 ∧ lt a b) ∨ (cmp a b = 0 ∧ a = b) ∨ (cmp a b = 1 ∧ lt b a) := by
  rcases lt_tri a b with h | rfl | h
  · exact .inl ⟨cmp_lt h, h⟩
  · exact .inr (.inl ⟨cmp_self a, rfl⟩)
  · exact .inr (.inr ⟨cmp_gt h, h⟩)
theorem cmp_zero {a b : Ser} : cmp a b = 0 ↔ a = b := by
  constructor
  · intro h
    rcases cmp_cases a b with ⟨g, _⟩ | ⟨_, g⟩ | ⟨g, _⟩
    · rw [g] at h; cases h
    · exact g
    · rw [g] at h; cases h
  · rintro rfl; exact cmp_self a
theorem cmp_neg {a b : Ser} : cmp a b = -1 ↔ lt a b := by
  constructor
  · intro h
    rcases cmp_cases a b with ⟨_, g⟩ | ⟨g, _⟩ | ⟨g, _⟩
    · exact g
    · rw [g] at h; cases h
    · rw [g] at h; cases h
  · exact cmp_lt
theorem cmp_anti (a b : Ser) : cmp b a = -cmp a b := by
  rcases cmp_cases a b with ⟨h, g⟩ | ⟨h, rfl⟩ | ⟨h, g⟩
  · rw [h, cmp_gt g]; rfl
  · rw [h]; rfl
  · rw [h, cmp_lt g]
theorem cmp_range (a b : Ser) : -1 ≤ cmp a b ∧ cmp a b ≤ 1 := by
  rcases cmp_cases a b with ⟨h, _⟩ | ⟨h, _⟩ | ⟨h, _⟩ <;> omega
/-- what is ahead of one that is ahead is ahead -/
theorem cmp_trans (a b c : Ser) : 0 < cmp a b ∨ 0 < cmp b c ∨ (cmp a c ≤ 0 ∧ (cmp a c < 0 ↔ (cmp a b < 0 ∨ cmp b c < 0))) := by
  rcases cmp_cases a b with ⟨h1, g1⟩ | ⟨h1, rfl⟩ | ⟨h1, g1⟩
  · rcases cmp_cases b c with ⟨h2, g2⟩ | ⟨h2, rfl⟩ | ⟨h2, g2⟩
    · right; right
      rw [cmp_lt (lt_trans g1 g2)]; omega
    · right; right; omega
    · right; left; omega
  · rcases cmp_cases a c with ⟨h2, g2⟩ | ⟨h2, rfl⟩ | ⟨h2, g2⟩
    · right; right; omega
    · right; right; omega
    · right; left; omega
  · left; omega

/-! sorted lists -/
def asc (l : List Ser) : Prop := l.Pairwise lt
/-- one more in its place, if it is not there -/
def put (s : Ser) : List Ser → List Ser
  | [] => [s]
  | x :: r => if cmp s x < 0 then s :: x :: r else if cmp s x = 0 then x :: r else x :: put s r
theorem put_mem (s : Ser) (l : List Ser) (y : Ser) : y ∈ put s l ↔ y = s ∨ y ∈ l := by
  induction l with
  | nil => simp [put]
  | cons x r ih =>
    unfold put
    by_cases h : cmp s x < 0
    · rw [if_pos h]; simp
    · rw [if_neg h]
      by_cases h0 : cmp s x = 0
      · rw [if_pos h0]
        have := cmp_zero.1 h0
        subst this
        simp
      · rw [if_neg h0, List.mem_cons, ih, List.mem_cons]
        constructor
        · rintro (h | h | h)
          · exact .inr (.inl h)
          · exact .inl h
          · exact .inr (.inr h)
        · rintro (h | h | h)
          · exact .inr (.inl h)
          · exact .inl h
          · exact .inr (.inr h)
theorem put_asc (s : Ser) {l : List Ser} (h : asc l) : asc (put s l) := by
  induction l with
  | nil => unfold put asc; simp
  | cons x r ih =>
    obtain ⟨h1, h2⟩ := List.pairwise_cons.1 h
    unfold put
    by_cases hc : cmp s x < 0
    · rw [if_pos hc]
      have hl : lt s x := cmp_neg.1 (by have := cmp_range s x; omega)
      refine List.pairwise_cons.2 ⟨fun y hy => ?_, h⟩
      rcases List.mem_cons.1 hy with rfl | hy
      · exact hl
      · exact lt_trans hl (h1 y hy)
    · rw [if_neg hc]
      by_cases h0 : cmp s x = 0
      · rw [if_pos h0]; exact h
      · rw [if_neg h0]
        refine List.pairwise_cons.2 ⟨fun y hy => ?_, ih h2⟩
        rcases (put_mem s r y).1 hy with rfl | hy
        · rcases cmp_cases y x with ⟨g, _⟩ | ⟨g, _⟩ | ⟨_, g⟩
          · omega
          · omega
          · exact g
        · exact h1 y hy
def sortL (l : List Ser) : List Ser := l.foldl (fun out s => put s out) []
theorem sort_snoc (l : List Ser) (s : Ser) : sortL (l ++ [s]) = put s (sortL l) := by simp [sortL]
theorem fold_asc (l : List Ser) : ∀ out, asc out → asc (l.foldl (fun out s => put s out) out) := by
  induction l with
  | nil => intro out h; exact h
  | cons s l ih => intro out h; exact ih _ (put_asc s h)
theorem fold_mem (l : List Ser) (y : Ser) : ∀ out, y ∈ l.foldl (fun out s => put s out) out ↔ y ∈ out ∨ y ∈ l := by
  induction l with
  | nil => intro out; simp
  | cons s l ih =>
    intro out
    rw [List.foldl_cons, ih, put_mem, List.mem_cons]
    constructor
    · rintro ((h | h) | h)
      · exact .inr (.inl h)
      · exact .inl h
      · exact .inr (.inr h)
    · rintro (h | h | h)
      · exact .inl (.inr h)
      · exact .inl (.inl h)
      · exact .inr h
theorem sort_asc (l : List Ser) : asc (sortL l) := fold_asc l [] List.Pairwise.nil
theorem sort_mem (l : List Ser) (y : Ser) : y ∈ sortL l ↔ y ∈ l := by
  unfold sortL; rw [fold_mem]; simp
/-- two that rise and hold the same are the same -/
theorem asc_unique : ∀ {l k : List Ser}, asc l → asc k → (∀ y, y ∈ l ↔ y ∈ k) → l = k := by
  intro l
  induction l with
  | nil =>
    intro k _ _ h
    cases k with
    | nil => rfl
    | cons y r => exact absurd ((h y).2 (by simp)) (by simp)
  | cons x r ih =>
    intro k hl hk h
    cases k with
    | nil => exact absurd ((h x).1 (by simp)) (by simp)
    | cons y s =>
      obtain ⟨l1, l2⟩ := List.pairwise_cons.1 hl
      obtain ⟨k1, k2⟩ := List.pairwise_cons.1 hk
      have e : x = y := by
        rcases List.mem_cons.1 ((h x).1 (by simp)) with g | g
        · exact g
        · rcases List.mem_cons.1 ((h y).2 (by simp)) with g' | g'
          · exact g'.symm
          · exact absurd (l1 y g') (lt_asymm (k1 x g))
      subst e
      congr 1
      refine ih l2 k2 fun z => ?_
      constructor
      · intro hz
        rcases List.mem_cons.1 ((h z).1 (List.mem_cons_of_mem _ hz)) with rfl | g
        · exact absurd (l1 z hz) (lt_irrefl z)
        · exact g
      · intro hz
        rcases List.mem_cons.1 ((h z).2 (List.mem_cons_of_mem _ hz)) with rfl | g
        · exact absurd (k1 z hz) (lt_irrefl z)
        · exact g
theorem sort_again (l : List Ser) : sortL (sortL l) = sortL l := asc_unique (sort_asc _) (sort_asc _) (fun y => sort_mem _ y)
theorem sort_of_asc {l k : List Ser} (h : asc k) (hm : ∀ y, y ∈ k ↔ y ∈ l) : k = sortL l := asc_unique h (sort_asc l) (fun y => by rw [hm, sort_mem])
theorem asc_at {l : List Ser} (h : asc l) {i : Nat} (h1 : 0 < i) (h2 : i < l.length) : lt l[i - 1] l[i] := List.pairwise_iff_getElem.1 h (i - 1) i (by omega) h2 (by omega)
end EM

/- Plain mathematics of layer 1: no Go in sight. -/
namespace CM

/-- 2^60 -/
def M : Int := 1152921504606846976
theorem M_eq : M = 1152921504606846976 := rfl

def fits (n : Int) : Bool := decide (-1152921504606846976 ≤ n) && decide (n ≤ 1152921504606846976)
theorem fits_true {n : Int} : fits n = true ↔ -1152921504606846976 ≤ n ∧ n ≤ 1152921504606846976 := by simp [fits]
theorem fits_false {n : Int} : fits n = false ↔ n < -1152921504606846976 ∨ 1152921504606846976 < n := by
  simp [fits]; omega

/-- an exact result as it is told: the number -/
def fitN (n : Int) : Int := if fits n then n else 0
/-- .. and the error -/
def fitE (n : Int) : Int := if fits n then 0 else 3

def addN (a b : Int) : Int := if fits a && fits b then fitN (a + b) else 0
def addE (a b : Int) : Int := if fits a && fits b then fitE (a + b) else 2
def subN (a b : Int) : Int := if fits a && fits b then fitN (a - b) else 0
def subE (a b : Int) : Int := if fits a && fits b then fitE (a - b) else 2

def clamp (n low high : Int) : Int := if n < low ∨ high < low then low else if high < n then high else n

def size (n : Int) : Int := if n < 0 then -n else n
theorem size_nonneg (n : Int) : 0 ≤ size n := by unfold size; split <;> omega
theorem size_le {n : Int} (h1 : -1152921504606846976 ≤ n) (h2 : n ≤ 1152921504606846976) : size n ≤ 1152921504606846976 := by unfold size; split <;> omega

end CM

/- Plain mathematics of the bitwise division. -/
namespace CM

/-- what the bitwise division holds after k of its 61 rounds -/
def DInv (a b c k : Nat) (q r : Int) : Prop :=
  q = ((a / 2 ^ (61 - k) * b / c : Nat) : Int) ∧ r = ((a / 2 ^ (61 - k) * b % c : Nat) : Int) ∧ q ≤ 1152921504606846976

/-- the bit of round k -/
def bitAt (a k : Nat) : Nat := a / 2 ^ (60 - k) % 2

theorem half_step (a k : Nat) (hk : k < 61) : a / 2 ^ (61 - (k + 1)) = 2 * (a / 2 ^ (61 - k)) + bitAt a k := by
  have e : 61 - k = (60 - k) + 1 := by omega
  have e2 : 61 - (k + 1) = 60 - k := by omega
  rw [e, e2, Nat.pow_succ, ← Nat.div_div_eq_div_mul]
  unfold bitAt
  omega

theorem bit_01 (a k : Nat) : bitAt a k = 0 ∨ bitAt a k = 1 := by unfold bitAt; omega

theorem DInv.start (a b c : Nat) (ha : a ≤ 1152921504606846976) : DInv a b c 0 0 0 := by
  have h : a / 2 ^ (61 - 0) = 0 := Nat.div_eq_of_lt (by omega)
  unfold DInv; rw [h]; simp

theorem DInv.bounds {a b c k : Nat} {q r : Int} (h : DInv a b c k q r) (hc : 0 < c) : 0 ≤ q ∧ q ≤ 1152921504606846976 ∧ 0 ≤ r ∧ r < c := by
  obtain ⟨h1, h2, h3⟩ := h
  have := Nat.mod_lt (a / 2 ^ (61 - k) * b) hc
  generalize a / 2 ^ (61 - k) * b / c = X at *
  generalize a / 2 ^ (61 - k) * b % c = Y at *
  omega

theorem step_div (A b c t : Nat) (hc : 0 < c) : (2 * A + t) * b / c = 2 * (A * b / c) + (2 * (A * b % c) + t * b) / c ∧ (2 * A + t) * b % c = (2 * (A * b % c) + t * b) % c := by
  have e : (2 * A + t) * b = c * (2 * (A * b / c)) + (2 * (A * b % c) + t * b) := by
    have := Nat.div_add_mod (A * b) c
    calc (2 * A + t) * b = 2 * (A * b) + t * b := by rw [Nat.add_mul, Nat.mul_assoc]
      _ = 2 * (c * (A * b / c) + A * b % c) + t * b := by rw [this]
      _ = _ := by rw [Nat.mul_add, Nat.mul_left_comm]; omega
  rw [e]
  exact ⟨by rw [Nat.mul_add_div hc], by rw [Nat.mul_add_mod]⟩

theorem split_div (r b c : Nat) (hc : 0 < c) : (2 * r + b) / c = b / c + (2 * r + b % c) / c ∧ (2 * r + b) % c = (2 * r + b % c) % c := by
  have e : 2 * r + b = c * (b / c) + (2 * r + b % c) := by
    have := Nat.div_add_mod b c
    omega
  rw [e]
  exact ⟨by rw [Nat.mul_add_div hc], by rw [Nat.mul_add_mod]⟩

theorem mono_div (a b c k : Nat) : a / 2 ^ (61 - (k + 1)) * b / c ≤ a * b / c :=
  Nat.div_le_div_right (Nat.mul_le_mul_right _ (Nat.div_le_self _ _))

theorem DInv.step0 {a b c k : Nat} {x y : Int} (h : DInv a b c k x y) (hk : k < 61) (hc : 0 < c) (hb : bitAt a k = 0) :
    (2 * x + 2 * y / (c : Int) ≤ 1152921504606846976 → DInv a b c (k + 1) (2 * x + 2 * y / (c : Int)) (2 * y % (c : Int))) ∧
    (1152921504606846976 < 2 * x + 2 * y / (c : Int) → 1152921504606846976 < a * b / c) := by
  obtain ⟨hx, hy, _⟩ := h
  have hs := half_step a k hk
  rw [hb] at hs
  obtain ⟨s1, s2⟩ := step_div (a / 2 ^ (61 - k)) b c 0 hc
  rw [← hs] at s1 s2
  have hm := mono_div a b c k
  have e1 : 2 * x + 2 * y / (c : Int) = ((a / 2 ^ (61 - (k + 1)) * b / c : Nat) : Int) := by
    rw [s1, hx, hy]; simp only [Nat.zero_mul, Nat.add_zero]; rw [Int.natCast_add, Int.natCast_mul, Int.natCast_ediv, Int.natCast_mul]; rfl
  have e2 : 2 * y % (c : Int) = ((a / 2 ^ (61 - (k + 1)) * b % c : Nat) : Int) := by
    rw [s2, hy]; simp only [Nat.zero_mul, Nat.add_zero]; rw [Int.natCast_emod, Int.natCast_mul]; rfl
  rw [e1, e2]
  exact ⟨fun hle => ⟨rfl, rfl, hle⟩, fun hlt => by omega⟩

theorem DInv.step1 {a b c k : Nat} {x y : Int} (h : DInv a b c k x y) (hk : k < 61) (hc : 0 < c) (hb : bitAt a k = 1) :
    (2 * x + (b : Int) / (c : Int) + (2 * y + (b : Int) % (c : Int)) / (c : Int) ≤ 1152921504606846976 → DInv a b c (k + 1) (2 * x + (b : Int) / (c : Int) + (2 * y + (b : Int) % (c : Int)) / (c : Int)) ((2 * y + (b : Int) % (c : Int)) % (c : Int))) ∧
    (1152921504606846976 < 2 * x + (b : Int) / (c : Int) + (2 * y + (b : Int) % (c : Int)) / (c : Int) → 1152921504606846976 < a * b / c) := by
  obtain ⟨hx, hy, _⟩ := h
  have hs := half_step a k hk
  rw [hb] at hs
  obtain ⟨s1, s2⟩ := step_div (a / 2 ^ (61 - k)) b c 1 hc
  rw [← hs, Nat.one_mul] at s1 s2
  obtain ⟨d1, d2⟩ := split_div (a / 2 ^ (61 - k) * b % c) b c hc
  rw [d1] at s1
  rw [d2] at s2
  have hm := mono_div a b c k
  have e1 : 2 * x + (b : Int) / (c : Int) + (2 * y + (b : Int) % (c : Int)) / (c : Int) = ((a / 2 ^ (61 - (k + 1)) * b / c : Nat) : Int) := by
    rw [s1, hx, hy, Int.add_assoc]
    simp only [Int.natCast_add, Int.natCast_mul, Int.natCast_ediv, Int.natCast_emod]; rfl
  have e2 : (2 * y + (b : Int) % (c : Int)) % (c : Int) = ((a / 2 ^ (61 - (k + 1)) * b % c : Nat) : Int) := by
    rw [s2, hy]
    simp only [Int.natCast_add, Int.natCast_mul, Int.natCast_emod]; rfl
  rw [e1, e2]
  exact ⟨fun hle => ⟨rfl, rfl, hle⟩, fun hlt => by omega⟩

/-- what the division tells -/
def dok (a b c : Nat) : Bool := decide (a * b / c ≤ 1152921504606846976)
def dq (a b c : Nat) : Int := if dok a b c then ((a * b / c : Nat) : Int) else 0
def dr (a b c : Nat) : Int := if dok a b c then ((a * b % c : Nat) : Int) else 0

theorem DInv.done {a b c : Nat} {x y : Int} (h : DInv a b c 61 x y) : x = dq a b c ∧ y = dr a b c ∧ dok a b c = true := by
  obtain ⟨hx, hy, hm⟩ := h
  simp only [Nat.sub_self, Nat.pow_zero, Nat.div_one] at hx hy
  have hk : dok a b c = true := by unfold dok; simp only [decide_eq_true_eq]; omega
  simp [dq, dr, hk, hx, hy]

theorem dok_no {a b c : Nat} (h : 1152921504606846976 < a * b / c) : dok a b c = false ∧ dq a b c = 0 ∧ dr a b c = 0 := by
  have hk : dok a b c = false := by unfold dok; simp only [decide_eq_false_iff_not]; omega
  simp [dq, dr, hk]
theorem dok_yes {a b c : Nat} (h : a * b / c ≤ 1152921504606846976) : dok a b c = true := by unfold dok; simpa using h

/-- the reference's quotient, held at 2^61 -/
def rq (a b c : Nat) : Int := if a * b / c ≤ 2305843009213693952 then ((a * b / c : Nat) : Int) else 2305843009213693952

/-- .. and the rest -/
def rr (a b c : Nat) : Int := ((a * b % c : Nat) : Int)

def RInv (a b c k : Nat) (q r : Int) : Prop :=
  q = rq (a / 2 ^ (61 - k)) b c ∧ r = ((a / 2 ^ (61 - k) * b % c : Nat) : Int)

theorem RInv.start (a b c : Nat) (ha : a ≤ 1152921504606846976) : RInv a b c 0 0 0 := by
  have h : a / 2 ^ (61 - 0) = 0 := Nat.div_eq_of_lt (by omega)
  unfold RInv rq; rw [h]; simp

theorem RInv.bounds {a b c k : Nat} {q r : Int} (h : RInv a b c k q r) (hc : 0 < c) : 0 ≤ q ∧ q ≤ 2305843009213693952 ∧ 0 ≤ r ∧ r < c := by
  obtain ⟨h1, h2⟩ := h
  have := Nat.mod_lt (a / 2 ^ (61 - k) * b) hc
  unfold rq at h1
  generalize a / 2 ^ (61 - k) * b / c = X at *
  generalize a / 2 ^ (61 - k) * b % c = Y at *
  split at h1 <;> omega

/-- one round of the reference: t is the bit, z what stands to be divided -/
theorem RInv.step {a b c k : Nat} {x y : Int} (h : RInv a b c k x y) (hk : k < 61) (hc : 0 < c) (z : Int) (hz : z = 2 * y + bitAt a k * b) :
    (2 * x + z / (c : Int) ≤ 2305843009213693952 → RInv a b c (k + 1) (2 * x + z / (c : Int)) (z % (c : Int))) ∧
    (2305843009213693952 < 2 * x + z / (c : Int) → RInv a b c (k + 1) 2305843009213693952 (z % (c : Int))) := by
  obtain ⟨hx, hy⟩ := h
  have hs := half_step a k hk
  obtain ⟨s1, s2⟩ := step_div (a / 2 ^ (61 - k)) b c (bitAt a k) hc
  rw [← hs] at s1 s2
  have ez : z = ((2 * (a / 2 ^ (61 - k) * b % c) + bitAt a k * b : Nat) : Int) := by
    rw [hz, hy]; simp only [Int.natCast_add, Int.natCast_mul, Int.natCast_emod]; rfl
  have e2 : z % (c : Int) = ((a / 2 ^ (61 - (k + 1)) * b % c : Nat) : Int) := by
    rw [s2, ez]; rfl
  have e1 : z / (c : Int) = (((2 * (a / 2 ^ (61 - k) * b % c) + bitAt a k * b) / c : Nat) : Int) := by
    rw [ez]; rfl
  unfold RInv rq
  rw [e2, e1]
  unfold rq at hx
  rw [s1]
  generalize (2 * (a / 2 ^ (61 - k) * b % c) + bitAt a k * b) / c = Z at *
  generalize a / 2 ^ (61 - k) * b / c = X at *
  constructor
  · intro hle
    split at hx
    · refine ⟨?_, rfl⟩
      rw [if_pos (by omega)]; omega
    · omega
  · intro hlt
    refine ⟨?_, rfl⟩
    split at hx
    · rw [if_neg (by omega)]
    · rw [if_neg (by omega)]

theorem RInv.done {a b c : Nat} {x y : Int} (h : RInv a b c 61 x y) : x = rq a b c ∧ y = rr a b c := by
  obtain ⟨hx, hy⟩ := h
  simp only [Nat.sub_self, Nat.pow_zero, Nat.div_one] at hx hy
  exact ⟨hx, hy⟩

/-- is the exact quotient's sign minus? -/
def neg (a b c : Int) : Bool := !((!(decide (a < 0) == decide (b < 0))) == decide (c < 0))

/-- does the quotient's size grow by one? -/
def grow (q r c mode : Int) (n : Bool) : Bool :=
  if r = 0 then false else if mode = 2 then true else if mode = 3 then n else if mode = 4 then !n else
  if mode = 5 then decide (c < 2 * r) || (decide (2 * r = c) && decide (q % 2 = 1)) else false

def mdQ (a b c : Int) : Nat := (size a).toNat * (size b).toNat / (size c).toNat
def mdR (a b c : Int) : Nat := (size a).toNat * (size b).toNat % (size c).toNat
/-- the rounded quotient's size -/
def mdG (a b c mode : Int) : Int := mdQ a b c + if grow (mdQ a b c) (mdR a b c) (size c) mode (neg a b c) then 1 else 0
def mdA (a b c mode : Int) : Bool := fits a && fits b && fits c && decide (1 ≤ mode) && decide (mode ≤ 5)
/-- MulDiv's number -/
def mdN (a b c mode : Int) : Int :=
  if mdA a b c mode then if c = 0 then 0 else if mdG a b c mode ≤ 1152921504606846976 then (if neg a b c then -mdG a b c mode else mdG a b c mode) else 0 else 0
/-- .. and its error -/
def mdE (a b c mode : Int) : Int :=
  if mdA a b c mode then if c = 0 then 4 else if mdG a b c mode ≤ 1152921504606846976 then 0 else 3 else 2

theorem size_pos {c : Int} (h : c ≠ 0) : 0 < size c := by unfold size; split <;> omega
theorem size_zero {c : Int} (h : size c = 0) : c = 0 := by unfold size at h; split at h <;> omega

theorem mdQ_nonneg (a b c : Int) : (0 : Int) ≤ mdQ a b c := Int.natCast_nonneg _
theorem mdR_lt (a b : Int) {c : Int} (h : c ≠ 0) : (mdR a b c : Int) < size c := by
  have := size_pos h
  have := Nat.mod_lt ((size a).toNat * (size b).toNat) (show 0 < (size c).toNat by omega)
  unfold mdR; omega

theorem dq_eq {a b c : Int} (h : dok (size a).toNat (size b).toNat (size c).toNat = true) :
    dq (size a).toNat (size b).toNat (size c).toNat = mdQ a b c ∧ dr (size a).toNat (size b).toNat (size c).toNat = mdR a b c := by
  simp [dq, dr, h, mdQ, mdR]
theorem dok_iff {a b c : Int} : dok (size a).toNat (size b).toNat (size c).toNat = true ↔ (mdQ a b c : Int) ≤ 1152921504606846976 := by
  unfold dok mdQ; simp only [decide_eq_true_eq]; omega

/-- what is told of the signed result, through 'fitting' -/
theorem md_fit {a b c mode g : Int} (hA : mdA a b c mode = true) (hc : c ≠ 0) (hg : g = if neg a b c then -mdG a b c mode else mdG a b c mode) :
    fitN g = mdN a b c mode ∧ fitE g = mdE a b c mode := by
  have h0 : 0 ≤ mdG a b c mode := by
    have := mdQ_nonneg a b c
    unfold mdG; split <;> omega
  unfold fitN fitE mdN mdE
  simp only [hA, hc, if_true, if_false]
  by_cases hle : mdG a b c mode ≤ 1152921504606846976
  · have hf : fits g = true := by rw [fits_true, hg]; split <;> omega
    rw [hg] at hf ⊢
    simp [hle, hf]
  · have hf : fits g = false := by rw [fits_false, hg]; split <;> omega
    simp [hle, hf]

/-- the quotient alone does not fit -/
theorem md_over {a b c mode : Int} (hA : mdA a b c mode = true) (hc : c ≠ 0) (h : 1152921504606846976 < (mdQ a b c : Int)) :
    mdN a b c mode = 0 ∧ mdE a b c mode = 3 := by
  have h0 : ¬ mdG a b c mode ≤ 1152921504606846976 := by unfold mdG; split <;> omega
  simp [mdN, mdE, hA, hc, h0]
end CM

namespace CM
theorem ref_bounds (a b : Int) {c : Int} (hc : c ≠ 0) :
    0 ≤ rq (size a).toNat (size b).toNat (size c).toNat ∧ rq (size a).toNat (size b).toNat (size c).toNat ≤ 2305843009213693952 ∧
    0 ≤ rr (size a).toNat (size b).toNat (size c).toNat ∧ rr (size a).toNat (size b).toNat (size c).toNat < size c := by
  have h := mdR_lt a b hc
  unfold mdR at h
  unfold rq rr
  refine ⟨by split; exact Int.natCast_nonneg _; omega, by split <;> omega, Int.natCast_nonneg _, h⟩

theorem md_ref {a b c mode : Int} (hA : mdA a b c mode = true) (hc : c ≠ 0) :
    (1152921504606846976 < rq (size a).toNat (size b).toNat (size c).toNat + (if grow (rq (size a).toNat (size b).toNat (size c).toNat) (rr (size a).toNat (size b).toNat (size c).toNat) (size c) mode (neg a b c) then 1 else 0) →
      mdN a b c mode = 0 ∧ mdE a b c mode = 3) ∧
    (rq (size a).toNat (size b).toNat (size c).toNat + (if grow (rq (size a).toNat (size b).toNat (size c).toNat) (rr (size a).toNat (size b).toNat (size c).toNat) (size c) mode (neg a b c) then 1 else 0) ≤ 1152921504606846976 →
      mdN a b c mode = (if neg a b c then -(rq (size a).toNat (size b).toNat (size c).toNat + (if grow (rq (size a).toNat (size b).toNat (size c).toNat) (rr (size a).toNat (size b).toNat (size c).toNat) (size c) mode (neg a b c) then 1 else 0))
        else rq (size a).toNat (size b).toNat (size c).toNat + (if grow (rq (size a).toNat (size b).toNat (size c).toNat) (rr (size a).toNat (size b).toNat (size c).toNat) (size c) mode (neg a b c) then 1 else 0)) ∧ mdE a b c mode = 0) := by
  by_cases hQ : (size a).toNat * (size b).toNat / (size c).toNat ≤ 2305843009213693952
  · have e1 : rq (size a).toNat (size b).toNat (size c).toNat = mdQ a b c := by unfold rq mdQ; rw [if_pos hQ]
    have e2 : rr (size a).toNat (size b).toNat (size c).toNat = mdR a b c := rfl
    rw [e1, e2]
    have e3 : (mdQ a b c : Int) + (if grow (mdQ a b c) (mdR a b c) (size c) mode (neg a b c) then 1 else 0) = mdG a b c mode := rfl
    rw [e3]
    constructor
    · intro hlt
      have hn : ¬ mdG a b c mode ≤ 1152921504606846976 := by omega
      simp [mdN, mdE, hA, hc, hn]
    · intro hle
      simp [mdN, mdE, hA, hc, hle]
  · have e1 : rq (size a).toNat (size b).toNat (size c).toNat = 2305843009213693952 := by unfold rq; rw [if_neg hQ]
    rw [e1]
    have hQ2 : 1152921504606846976 < (mdQ a b c : Int) := by unfold mdQ; omega
    constructor
    · intro _
      exact md_over hA hc hQ2
    · intro hle
      split at hle <;> omega
end CM
