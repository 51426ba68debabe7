/- Contracts: a date's text read. -/
import Derived.Test.YthahfcehfagepaaDateE
import Derived.Test.YthahfcehfagepaaDateMath5
namespace Go.Proofs.Ythahfcehfagepaa
open Go.RowKit
set_option linter.unusedVariables false

theorem pat_d {k : Nat} (h : k < (⟨#[100, 100, 100, 100, 45, 100, 100, 45, 100, 100]⟩ : ByteArray).size) (h4 : k ≠ 4) (h7 : k ≠ 7) :
    (((⟨#[100, 100, 100, 100, 45, 100, 100, 45, 100, 100]⟩ : ByteArray)[k]).toNat : Int) = 100 := by
  have h10 : k < 10 := h
  have : k = 0 ∨ k = 1 ∨ k = 2 ∨ k = 3 ∨ k = 5 ∨ k = 6 ∨ k = 8 ∨ k = 9 := by omega
  rcases this with rfl | rfl | rfl | rfl | rfl | rfl | rfl | rfl <;> rfl
theorem pat_m {k : Nat} (h : k < (⟨#[100, 100, 100, 100, 45, 100, 100, 45, 100, 100]⟩ : ByteArray).size) (h4 : k = 4 ∨ k = 7) :
    (((⟨#[100, 100, 100, 100, 45, 100, 100, 45, 100, 100]⟩ : ByteArray)[k]).toNat : Int) = 45 := by
  rcases h4 with rfl | rfl <;> rfl
theorem getD_at_ (s : ByteArray) (k : Nat) (h : k < s.size) : (L s).getD k 0 = s[k] := by
  rw [← L_get s k h]
  simp [List.getD, List.getElem?_eq_getElem (show k < (L s).length by rw [L_len]; exact h)]
theorem okAt_d {k : Nat} (h4 : k ≠ 4) (h7 : k ≠ 7) (c : UInt8) : (DM.okAt k c = true ↔ 48 ≤ (c.toNat : Int) ∧ (c.toNat : Int) ≤ 57) := by
  unfold DM.okAt
  rw [if_neg (by omega)]
  rw [decide_eq_true_iff]
  unfold DM.isD
  omega
theorem okAt_m {k : Nat} (h4 : k = 4 ∨ k = 7) (c : UInt8) : DM.okAt k c = ((c.toNat : Int) == 45) := by
  unfold DM.okAt
  rw [if_pos h4, Bool.eq_iff_iff, beq_iff_eq, beq_iff_eq, ← UInt8.toNat_inj]
  have : (45 : UInt8).toNat = 45 := rfl
  omega

set_option maxHeartbeats 1000000 in
theorem formed_any (s : ByteArray) (w : World) (hs : s.size ≤ 9223372036854775807) :
    Calls Try.prog 56 #[.string s] w fun e w' => e = .returned (.bool (DM.formB (L s))) ∧ ∃ k, w' = w.drewN k := by
  generalize hv : DM.formB (L s) = v
  have HV := Lib.hid hv
  clear hv
  by_cases hl : s.size = 10
  · have hl2 : ((s.size : Int) != 10) = false := by simp; omega
    have HL := Lib.hid hl
    have hl3 : 10 ≤ s.size := by omega
    clear hl
    go_enter Try.func56, Try.ntmps56
    go_wp2
    go_loopw [7] (fun i wr => ∃ k n : Nat, k ≤ 10 ∧ i = .int .i64 k ∧ wr = w.drewN n ∧ Hid (DM.okUpTo (L s) k)) (fun i _ => 10 - (intOf i).toNat)
    case atStart => exact ⟨0, 0, by omega, rfl, rfl, Lib.hid (fun i hi => by omega)⟩
    case round =>
      obtain ⟨k, n, hk, rfl, rfl, HK⟩ := hrel
      by_cases hlt : k < 10
      · have hks : k < s.size := by omega
        have HG := Lib.hid (getD_at_ s k hks)
        have hkp : k < (⟨#[100, 100, 100, 100, 45, 100, 100, 45, 100, 100]⟩ : ByteArray).size := hlt
        by_cases hd : k = 4 ∨ k = 7
        · have hp := pat_m hkp hd
          have ho := okAt_m hd s[k]
          cases hb : ((s[k].toNat : Int) == 45)
          · have HN := Lib.hid (DM.formB_no hlt (by rw [HG.out, ho, hb]))
            have hb2 : ((s[k].toNat : Int) != 45) = true := by simp [bne, hb]
            clear ho hd hb
            go_wp2
            go_quiet (fail)
            go_wp2
            go_ret
            exact ⟨by rw [← HV.out, HN.out]; rfl, _, World.drewN_drewN _ _ _⟩
          · have HN := Lib.hid (DM.okUpTo_succ HK.out (by rw [HG.out, ho, hb]))
            have hb2 : ((s[k].toNat : Int) != 45) = false := by simp [bne, hb]
            clear ho hd hb
            go_wp2
            go_quiet (fail)
            go_wp2
            go_roundw
            case rel => exact ⟨k + 1, _, by omega, by go_num, rfl, HN⟩
            case measure => simp [intOf]; omega
        · have hp := pat_d hkp (by omega) (by omega)
          have ho := okAt_d (k := k) (by omega) (by omega) s[k]
          clear hd
          by_cases h1 : 48 ≤ (s[k].toNat : Int)
          · by_cases h2 : (s[k].toNat : Int) ≤ 57
            · have HN := Lib.hid (DM.okUpTo_succ HK.out (by rw [HG.out]; exact ho.2 ⟨h1, h2⟩))
              clear ho
              go_wp2
              go_roundw
              case rel => exact ⟨k + 1, _, by omega, by go_num, rfl, HN⟩
              case measure => simp [intOf]; omega
            · have HN := Lib.hid (DM.formB_no hlt (by
                rw [HG.out]
                cases e : DM.okAt k s[k] with
                | false => rfl
                | true => exact absurd (ho.1 e).2 h2))
              clear ho
              go_wp2
              go_ret
              exact ⟨by rw [← HV.out, HN.out]; rfl, _, rfl⟩
          · have HN := Lib.hid (DM.formB_no hlt (by
              rw [HG.out]
              cases e : DM.okAt k s[k] with
              | false => rfl
              | true => exact absurd (ho.1 e).1 h1))
            clear ho
            go_wp2
            go_ret
            exact ⟨by rw [← HV.out, HN.out]; rfl, _, rfl⟩
      · obtain rfl : k = 10 := by omega
        have HN := Lib.hid (DM.formB_all (by rw [L_len]; exact HL.out) HK.out)
        go_wp2
        go_ret
        exact ⟨by rw [← HV.out, HN.out]; rfl, _, rfl⟩
  · have HN := Lib.hid (DM.formB_len (s := L s) (by rw [L_len]; exact hl))
    have hl2 : ((s.size : Int) != 10) = true := by simp; omega
    clear hl
    go_enter Try.func56, Try.ntmps56
    go_wp2
    go_ret
    exact ⟨by rw [← HV.out, HN.out]; rfl, 0, rfl⟩

/-! figures -/
theorem dgo_snoc (l : List UInt8) (c : UInt8) : ∀ n : Int, l.all (fun c => decide (DM.isD c)) = true → DM.dgo n (l ++ [c]) = if DM.isD c then 10 * DM.dgo n l + DM.dv c else -1 := by
  induction l with
  | nil => intro n _; rfl
  | cons a t ih =>
    intro n h
    simp only [List.all_cons, Bool.and_eq_true, decide_eq_true_eq] at h
    show (if DM.isD a then DM.dgo (10 * n + DM.dv a) (t ++ [c]) else -1) = _
    rw [if_pos h.1, ih _ h.2]
    show _ = if DM.isD c then 10 * (if DM.isD a then DM.dgo (10 * n + DM.dv a) t else -1) + DM.dv c else -1
    rw [if_pos h.1]
theorem dgo_bad (l : List UInt8) (k : Nat) (hk : k < l.length) (h : ¬ DM.isD l[k]) : ∀ n : Int, DM.dgo n l = -1 := by
  induction l generalizing k with
  | nil => simp at hk
  | cons a t ih =>
    intro n
    show (if DM.isD a then DM.dgo (10 * n + DM.dv a) t else -1) = -1
    by_cases ha : DM.isD a
    · rw [if_pos ha]
      cases k with
      | zero => exact absurd ha h
      | succ k => exact ih k (by simpa using hk) (by simpa using h) _
    · rw [if_neg ha]
theorem dgo_range (l : List UInt8) : ∀ n : Int, 0 ≤ n → l.all (fun c => decide (DM.isD c)) = true → l.length ≤ 4 → ∀ m : Int, n < m → DM.dgo n l < m * 10 ^ l.length ∧ 0 ≤ DM.dgo n l := by
  induction l with
  | nil => intro n h _ _ m hm; simp [DM.dgo]; omega
  | cons a t ih =>
    intro n h ha hl m hm
    simp only [List.all_cons, Bool.and_eq_true, decide_eq_true_eq] at ha
    have r := DM.dv_range ha.1
    show (if DM.isD a then DM.dgo (10 * n + DM.dv a) t else -1) < _ ∧ 0 ≤ (if DM.isD a then DM.dgo (10 * n + DM.dv a) t else -1)
    rw [if_pos ha.1]
    have := ih (10 * n + DM.dv a) (by omega) ha.2 (by simp at hl; omega) (m * 10) (by omega)
    rw [List.length_cons, Int.pow_succ, Int.mul_comm (10 ^ t.length) 10, ← Int.mul_assoc]
    exact this
theorem dgo_small {l : List UInt8} (ha : l.all (fun c => decide (DM.isD c)) = true) (hl : l.length ≤ 4) : 0 ≤ DM.dgo 0 l ∧ DM.dgo 0 l ≤ 9999 := by
  have h := dgo_range l 0 (by omega) ha hl 1 (by omega)
  have : l.length = 0 ∨ l.length = 1 ∨ l.length = 2 ∨ l.length = 3 ∨ l.length = 4 := by omega
  rcases this with e | e | e | e | e <;> rw [e] at h <;> omega
theorem all_take_ {p : UInt8 → Bool} {l : List UInt8} (h : l.all p = true) (k : Nat) : (l.take k).all p = true := by
  rw [List.all_eq_true] at h ⊢
  exact fun x hx => h x (List.mem_of_mem_take hx)

set_option maxHeartbeats 1000000 in
theorem number5_any (s : ByteArray) (w : World) (hs : s.size ≤ 4) (ha : (L s).all (fun c => decide (DM.isD c)) = true) :
    Calls Try.prog 57 #[.string s] w fun e w' => e = .returned (.int .i64 (DM.dgo 0 (L s))) ∧ w = w' := by
  generalize hv : DM.dgo 0 (L s) = v
  have HV := Lib.hid hv
  have HA := Lib.hid ha
  clear hv ha
  go_enter Try.func57, Try.ntmps57
  go_wp2
  go_loop [2, 6] (fun n i => ∃ k : Nat, ∃ x : Int, k ≤ s.size ∧ i = .int .i64 k ∧ n = .int .i64 x ∧ 0 ≤ x ∧ x ≤ 9999 ∧ Hid (DM.dgo 0 ((L s).take k) = x)) (fun _ i => s.size - (intOf i).toNat)
  case atStart => exact ⟨0, 0, by omega, rfl, rfl, by omega, by omega, Lib.hid rfl⟩
  case round =>
    obtain ⟨k, x, hk, rfl, rfl, x1, x2, HX⟩ := hrel
    by_cases hlt : k < s.size
    · have hst := dgo_snoc ((L s).take k) s[k] 0 (all_take_ HA.out k)
      have hd : DM.isD s[k] := by
        have := HA.out
        rw [List.all_eq_true] at this
        have h2 := this s[k] (by rw [← L_get s k hlt]; exact List.getElem_mem _)
        simpa using h2
      rw [if_pos hd, HX.out, ← L_take_succ s k hlt] at hst
      have hr := dgo_small (all_take_ HA.out (k + 1)) (by rw [List.length_take]; omega)
      rw [hst] at hr
      unfold DM.isD at hd
      unfold DM.dv at hst hr
      obtain ⟨hr1, hr2⟩ := hr
      obtain ⟨d1, d2⟩ := hd
      have e1 : 48 ≤ (s[k].toNat : Int) := by omega
      have e2 : (s[k].toNat : Int) ≤ 57 := by omega
      have HST := Lib.hid hst
      clear hst d1 d2
      go_wp2
      go_round
      case rel => exact ⟨k + 1, _, by omega, by go_num, rfl, hr1, hr2, HST⟩
      case measure => simp [intOf]; omega
    · obtain rfl : k = s.size := by omega
      have HE := HX.out
      rw [L_take_all] at HE
      have HE := Lib.hid HE
      go_wp2
      go_ret
      exact ⟨by rw [← HV.out, HE.out]; rfl, rfl⟩

set_option maxHeartbeats 1000000 in
theorem digits5_any (s : ByteArray) (w : World) (hs : s.size ≤ 4) :
    Calls Try.prog 58 #[.string s] w fun e w' => e = .returned (.int .i64 (DM.dgo 0 (L s))) ∧ w = w' := by
  generalize hv : DM.dgo 0 (L s) = v
  have HV := Lib.hid hv
  clear hv
  go_enter Try.func58, Try.ntmps58
  go_wp2
  go_loop [3, 4] (fun n i => ∃ k : Nat, ∃ x : Int, k ≤ s.size ∧ i = .int .i64 k ∧ n = .int .i64 x ∧ 0 ≤ x ∧ x ≤ 9999 ∧ Hid (DM.dgo 0 ((L s).take k) = x) ∧ Hid (((L s).take k).all (fun c => decide (DM.isD c)) = true)) (fun _ i => s.size - (intOf i).toNat)
  case atStart => exact ⟨0, 0, by omega, rfl, rfl, by omega, by omega, Lib.hid rfl, Lib.hid rfl⟩
  case round =>
    obtain ⟨k, x, hk, rfl, rfl, x1, x2, HX, HA⟩ := hrel
    by_cases hlt : k < s.size
    · by_cases hd : DM.isD s[k]
      · have hst := dgo_snoc ((L s).take k) s[k] 0 HA.out
        have hal : ((L s).take (k + 1)).all (fun c => decide (DM.isD c)) = true := by
          rw [L_take_succ s k hlt, List.all_append, HA.out]
          simp [hd]
        rw [if_pos hd, HX.out, ← L_take_succ s k hlt] at hst
        have hr := dgo_small hal (by rw [List.length_take]; omega)
        rw [hst] at hr
        unfold DM.isD at hd
        unfold DM.dv at hst hr
        obtain ⟨hr1, hr2⟩ := hr
        obtain ⟨d1, d2⟩ := hd
        have e1 : 48 ≤ (s[k].toNat : Int) := by omega
        have e2 : (s[k].toNat : Int) ≤ 57 := by omega
        have HST := Lib.hid hst
        have HAL := Lib.hid hal
        clear hst d1 d2 hal
        go_wp2
        go_round
        case rel => exact ⟨k + 1, _, by omega, by go_num, rfl, hr1, hr2, HST, HAL⟩
        case measure => simp [intOf]; omega
      · have HN : Hid (v = -1) := Lib.hid (by
          rw [← HV.out]
          exact dgo_bad (L s) k (by rw [L_len]; exact hlt) (by rw [L_get s k hlt]; exact hd) 0)
        unfold DM.isD at hd
        have : (s[k].toNat : Int) < 48 ∨ (48 ≤ (s[k].toNat : Int) ∧ 57 < (s[k].toNat : Int)) := by omega
        clear hd
        rcases this with h | ⟨h, h2⟩
        · go_wp2
          go_ret
          exact ⟨by rw [HN.out]; rfl, rfl⟩
        · go_wp2
          go_ret
          exact ⟨by rw [HN.out]; rfl, rfl⟩
    · obtain rfl : k = s.size := by omega
      have HE := HX.out
      rw [L_take_all] at HE
      have HE := Lib.hid HE
      go_wp2
      go_ret
      exact ⟨by rw [← HV.out, HE.out]; rfl, rfl⟩
end Go.Proofs.Ythahfcehfagepaa
