/- Contracts: what reads money. -/
import Derived.Test.YtegipokbbmnahaaWordsF
import Derived.Test.YtegipokbbmnahaaWordsD
import Derived.Deep.Cut
import Derived.Deep.CutRange
namespace Go.Proofs.Ytegipokbbmnahaa
open Go.RowKit
set_option linter.unusedVariables false

theorem Strs.made (w : World) (ls : List ByteArray) (h : ∀ s ∈ ls, s.size ≤ maxLen) (hl : ls.length ≤ maxLen) : Strs (w.alloc (.cells (ls.map Value.string).toArray 9)) (some ⟨w.heap.size, 0, none⟩) ls := by
  refine ⟨⟨by rw [List.length_map]; exact hl, .inr ⟨w.heap.size, 0, rfl, by simp, fun i hi => ?_⟩⟩, h⟩
  rw [Nat.zero_add]
  rw [World.cell?_alloc_mark]
  simp
theorem quiet_eq {P : Program} {f : FuncId} {args : Array Value} {w : World} {n : Nat} {v : Value}
    (h : Calls P f args (w.drewN n) fun e w' => e = .returned v ∧ w.drewN n = w') : Calls P f args (w.drewN n) fun e w'' => e = .returned v ∧ ∃ m, w'' = w.drewN m :=
  h.mono fun _ _ ⟨he, hm⟩ => ⟨he, n, hm.symm⟩

theorem cok_of (t : ByteArray) (p : Nat) (hpl : p < t.size) (hp : t.size = p + 3) : WM.cok (L t) = ((t[p] == 46) && WM.digits (L (t.extract 0 p)) && (L (t.extract (p + 1) t.size)).all WM.dig) ∧
    WM.cval (L t) = WM.val (L (t.extract 0 p) ++ L (t.extract (p + 1) t.size)) := by
  have e1 : (L t).length - 3 = p := by rw [L_len]; omega
  have e2 : (L t).length - 2 = p + 1 := by rw [L_len]; omega
  have e3 : L (t.extract 0 p) = (L t).take p := by rw [L_extract]; simp
  have e4 : L (t.extract (p + 1) t.size) = (L t).drop (p + 1) := by rw [L_extract, L_take_all]
  have e5 : (L t).getD p 0 = t[p]'(by omega) := by
    rw [← L_get t p (by omega)]
    simp [List.getD, List.getElem?_eq_getElem (show p < (L t).length by rw [L_len]; omega)]
  refine ⟨?_, by unfold WM.cval; rw [e1, e2, e3, e4]⟩
  unfold WM.cok
  rw [e1, e2, e3, e4, e5]
  by_cases h : p = 0
  · subst h
    simp [WM.digits_nil]
  · have : decide (4 ≤ (L t).length) = true := by rw [L_len]; simp; omega
    rw [this]; simp

theorem cok_short (t : ByteArray) (h : t.size < 3) : WM.cok (L t) = false := by
  unfold WM.cok
  have : decide (4 ≤ (L t).length) = false := decide_eq_false (by rw [L_len]; omega)
  rw [this]; rfl

theorem dot_eq (c : UInt8) : ((c.toNat : Int) != 46) = !(c == 46) := by
  rw [Bool.eq_iff_iff]
  simp only [bne_iff_ne, ne_eq, Bool.not_eq_true', beq_eq_false_iff_ne]
  constructor
  · intro h h'; exact h (by rw [h']; rfl)
  · intro h h'; exact h (UInt8.toNat_inj.1 (by have : (46 : UInt8).toNat = 46 := rfl; omega))

set_option maxHeartbeats 2000000 in
theorem cents_any (s : ByteArray) (w : World) (hs : s.size ≤ 140737488355328) :
    Calls Try.prog 16 #[.string s] w fun e w' => e = .returned (.tuple #[.int .i64 (WM.centsN (L s)), .int .i64 (WM.centsE (L s))]) ∧ Below w.heap.size w w' := by
  have HC := Lib.hid (cutSign_any s w (by omega))
  generalize hn : WM.centsN (L s) = rn
  generalize he : WM.centsE (L s) = re
  have HN := Lib.hid hn
  have HE := Lib.hid he
  clear hn he
  go_enter Try.func16, Try.ntmps16
  go_wp2_with fail
  refine HC.out.mono ?_
  rintro e w' ⟨t, rfl, h1, h2, m, rfl⟩
  have H1 := Lib.hid h1
  clear h1 HC
  have F1 : Hid (WM.cok (L t) = false → rn = 0 ∧ re = 5) := Lib.hid (fun h => by
    rw [← HN.out, ← HE.out]; unfold WM.centsN WM.centsE; rw [← H1.out, h]; exact ⟨rfl, rfl⟩)
  have F2 : Hid (WM.cok (L t) = true → rn = WM.signN (WM.cval (L t)) (WM.below (L s)) ∧ re = WM.signE (WM.cval (L t)) (WM.below (L s))) := Lib.hid (fun h => by
    rw [← HN.out, ← HE.out]; unfold WM.centsN WM.centsE; rw [← H1.out, h]; exact ⟨rfl, rfl⟩)
  have h3 : t.size ≤ 140737488355328 := by omega
  have HB : Hid (Below w.heap.size w (w.drewN m)) := Lib.hid (below_drewN (Below.refl _ _) m)
  generalize w.drewN m = w0 at *
  generalize WM.below (L s) = b at *
  clear h2 hs H1 HN HE
  by_cases hp : t.size < 3
  · have HF := Lib.hid (F1.out (cok_short t hp))
    have c1 : (t.size : Int) - 3 < 0 := by omega
    clear F1 F2
    go_wp2
    go_ret2
    exact ⟨by rw [HF.out.1, HF.out.2]; rfl, HB.out⟩
  · obtain ⟨p, hp⟩ : ∃ p : Nat, t.size = p + 3 := ⟨t.size - 3, by omega⟩
    have hpl : p < t.size := by omega
    obtain ⟨k1, k2⟩ := cok_of t p hpl hp
    have e1 : (t.size : Int) - 3 = (p : Int) := by omega
    have l1 : p + 3 ≤ t.size := by omega
    have l2 : t.size ≤ p + 3 := by omega
    have hd := dot_eq t[p]
    have z1 := ByteArray.size_extract (a := t) (b := 0) (e := p)
    have z2 := ByteArray.size_extract (a := t) (b := p + 1) (e := t.size)
    have y1 : (t.extract 0 p).size ≤ p := by omega
    have y2 : (t.extract (p + 1) t.size).size ≤ 2 := by omega
    clear hp z1 z2
    cases c46 : (t[p] == 46)
    · rw [c46] at k1 hd
      have HF := Lib.hid (F1.out (by rw [k1]; rfl))
      have hd' : ((t[p].toNat : Int) != 46) = true := hd
      clear F1 F2 k1 k2 hd c46 y1 y2
      go_wp2
      go_ret2
      exact ⟨by rw [HF.out.1, HF.out.2]; rfl, HB.out⟩
    · rw [c46] at k1 hd
      have hd' : ((t[p].toNat : Int) != 46) = false := hd
      have q1 : (0 : Int) ≤ (p : Int) := by omega
      have q2 : (p : Int) ≤ (t.size : Int) := by omega
      have q3 : (0 : Int) ≤ (p : Int) + 1 := by omega
      have q4 : (p : Int) + 1 ≤ (t.size : Int) := by omega
      have q5 : ((p : Int) + 1).toNat = p + 1 := by omega
      have K1 := Lib.hid k1; have K2 := Lib.hid k2; have Y1 := Lib.hid y1; have Y2 := Lib.hid y2
      clear k1 k2 hd c46 y1 y2
      go_wp2
      go_quiet (fail)
      generalize hw1 : w0.drewN _ = w1 at *
      have HB1 : Hid (Below w.heap.size w w1) := Lib.hid (by rw [← hw1]; exact below_drewN HB.out _)
      clear hw1 HB
      generalize t.extract 0 p = a at *
      generalize t.extract (p + 1) t.size = c at *
      have y1 := Y1.out
      have y2 := Y2.out
      have ya : a.size ≤ 9223372036854775807 := by omega
      have yc : c.size ≤ 9223372036854775807 := by omega
      cases da : WM.digits (L a)
      · have HF := Lib.hid (F1.out (by rw [K1.out, da]; rfl))
        go_wp2_with fail
        refine (isWhole_any a _ ya).mono ?_
        rintro e w' ⟨rfl, rfl⟩
        go_wp2
        go_ret2
        exact ⟨by rw [HF.out.1, HF.out.2]; rfl, HB1.out⟩
      · have DA := Lib.hid da
        go_wp2_with fail
        refine (isWhole_any a _ ya).mono ?_
        rintro e w' ⟨rfl, rfl⟩
        cases dc : (L c).all WM.dig
        · have HF := Lib.hid (F1.out (by rw [K1.out, da, dc]; rfl))
          go_wp2_with fail
          refine (areDigits_any c _ yc).mono ?_
          rintro e w' ⟨rfl, rfl⟩
          go_wp2
          go_ret2
          exact ⟨by rw [HF.out.1, HF.out.2]; rfl, HB1.out⟩
        · have DC := Lib.hid dc
          have HF := Lib.hid (F2.out (by rw [K1.out, da, dc]; rfl))
          go_wp2_with fail
          refine (areDigits_any c _ yc).mono ?_
          rintro e w' ⟨rfl, rfl⟩
          go_wp2_with fail
          clear da dc F1 F2 K1
          have hm := Strs.made w1 [a, c] (by
            intro x hx
            simp at hx
            unfold maxLen
            rcases hx with rfl | rfl <;> omega) (by simp [maxLen])
          refine (concat_any ⟨#[]⟩ _ [a, c] 2 _ (Nat.zero_le _) hm (by show WM.tl 0 [a.size, c.size] ≤ _; simp [WM.tl]; omega)).mono ?_
          rintro e w2 ⟨rfl, b2⟩
          clear hm
          have HB2 : Hid (Below w.heap.size w w2) := Lib.hid ((HB1.out.alloc HB1.out.size _).trans (b2.mono (by have := HB1.out.size; simp; omega)))
          clear b2
          have hu : L (S (WM.catL (L ⟨#[]⟩) (texts [a, c]))) = L a ++ L c := by rw [L_S]; rfl
          have hz : (S (WM.catL (L ⟨#[]⟩) (texts [a, c]))).size ≤ 9223372036854775807 := by rw [← L_len, hu, List.length_append, L_len, L_len]; omega
          generalize S (WM.catL (L ⟨#[]⟩) (texts [a, c])) = u at *
          have HU := Lib.hid hu
          clear hu
          have C := number_any b u w2 hz (by rw [HU.out, List.all_append, WM.digits_all DA.out, DC.out]; rfl)
          rw [HU.out, ← K2.out, ← HF.out.1, ← HF.out.2] at C
          have HC := Lib.hid C
          clear C
          go_wp2_with fail
          refine HC.out.mono ?_
          rintro e w' ⟨rfl, rfl⟩
          go_wp2
          go_ret2
          exact ⟨rfl, HB2.out⟩

theorem one_dig (c : ByteArray) (h : 0 < c.size) : WM.digits (L (ByteArray.mk #[49] ++ c)) = (L c).all WM.dig := by
  have hl := L_len c
  rw [L_append]
  have e : L (ByteArray.mk #[49]) = [49] := rfl
  rw [e, WM.digits_def (by simp)]
  have h1 : decide (1 < ([49] ++ L c).length) = true := by
    apply decide_eq_true
    rw [List.length_append, hl]
    simp; omega
  rw [h1]
  have h2 : WM.dig 49 = true := by decide
  simp [h2]

set_option maxHeartbeats 2000000 in
theorem rcents_any (s : ByteArray) (w : World) (hs : s.size ≤ 140737488355328) :
    Calls Try.prog 17 #[.string s] w fun e w' => e = .returned (.tuple #[.int .i64 (WM.centsN (L s)), .int .i64 (WM.centsE (L s))]) ∧ ∃ n, w' = w.drewN n := by
  generalize hn : WM.centsN (L s) = rn
  generalize he : WM.centsE (L s) = re
  have HN := Lib.hid hn
  have HE := Lib.hid he
  clear hn he
  obtain ⟨t, h1, h2, h3⟩ := cut_parts s
  have h4 : t.size ≤ 140737488355328 := by omega
  have H1 := Lib.hid h1
  clear h1
  have F1 : Hid (WM.cok (L t) = false → rn = 0 ∧ re = 5) := Lib.hid (fun h => by
    rw [← HN.out, ← HE.out]; unfold WM.centsN WM.centsE; rw [← H1.out, h]; exact ⟨rfl, rfl⟩)
  have F2 : Hid (∀ b, WM.below (L s) = b → WM.cok (L t) = true → rn = WM.signN (WM.cval (L t)) b ∧ re = WM.signE (WM.cval (L t)) b) := Lib.hid (fun b hb h => by
    rw [← HN.out, ← HE.out]; unfold WM.centsN WM.centsE; rw [← H1.out, h, hb]; exact ⟨rfl, rfl⟩)
  clear HN HE H1
  rcases h3 with ⟨h0, rfl, hb⟩ | ⟨hp, c, rfl, hb⟩ | ⟨hp, c, ht, hb⟩
  · have c0 : decide (0 < t.size) = false := decide_eq_false (by omega)
    have c1 : (t.size : Int) - 3 < 1 := by omega
    have HF := Lib.hid (F1.out (cok_short t (by omega)))
    clear F1 F2 hb h2
    go_enter Try.func17, Try.ntmps17
    go_wp2
    go_ret2
    exact ⟨by rw [HF.out.1, HF.out.2]; rfl, 0, rfl⟩
  · have F2' := Lib.hid (F2.out _ hb)
    clear F2 hb h2
    go_enter Try.func17, Try.ntmps17
    go_upto_region 4 with (fail)
    by_cases hp3 : t.size < 4
    · have HF : Hid (rn = 0 ∧ re = 5) := Lib.hid (F1.out (by
        by_cases h : t.size < 3
        · exact cok_short t h
        · unfold WM.cok
          rw [decide_eq_false (by rw [L_len]; omega)]; rfl))
      have c1 : (t.size : Int) - 3 < 1 := by omega
      go_wp2
      go_ret2
      exact ⟨by rw [HF.out.1, HF.out.2]; rfl, 0, rfl⟩
    · obtain ⟨p, hp3⟩ : ∃ p : Nat, t.size = p + 3 := ⟨t.size - 3, by omega⟩
      have hpl : p < t.size := by omega
      obtain ⟨k1, k2⟩ := cok_of t p hpl hp3
      have e1 : (t.size : Int) - 3 = (p : Int) := by omega
      have l1 : p + 3 ≤ t.size := by omega
      have l2 : t.size ≤ p + 3 := by omega
      have l3 : 1 ≤ p := by omega
      have l4 : decide (p < 1) = false := decide_eq_false (by omega)
      have hd := dot_eq t[p]
      have z1 := ByteArray.size_extract (a := t) (b := 0) (e := p)
      have z2 := ByteArray.size_extract (a := t) (b := p + 1) (e := t.size)
      have y1 : (t.extract 0 p).size ≤ p := by omega
      have y2 : (t.extract (p + 1) t.size).size ≤ 2 := by omega
      have y3 : 0 < (t.extract (p + 1) t.size).size := by omega
      clear hp3 z1 z2
      cases c46 : (t[p] == 46)
      · rw [c46] at k1 hd
        have HF := Lib.hid (F1.out (by rw [k1]; rfl))
        have hd' : ((t[p].toNat : Int) != 46) = true := hd
        clear F1 F2' k1 k2 hd c46 y1 y2 y3
        go_wp2
        go_ret2
        exact ⟨by rw [HF.out.1, HF.out.2]; rfl, 0, rfl⟩
      · rw [c46] at k1 hd
        have hd' : ((t[p].toNat : Int) != 46) = false := hd
        have q1 : (0 : Int) ≤ (p : Int) := by omega
        have q2 : (p : Int) ≤ (t.size : Int) := by omega
        have q3 : (0 : Int) ≤ (p : Int) + 1 := by omega
        have q4 : (p : Int) + 1 ≤ (t.size : Int) := by omega
        have q5 : ((p : Int) + 1).toNat = p + 1 := by omega
        have K1 := Lib.hid k1; have K2 := Lib.hid k2; have Y1 := Lib.hid y1; have Y2 := Lib.hid y2; have Y3 := Lib.hid y3
        have ya : (t.extract 0 p).size ≤ 9223372036854775807 := by omega
        have yc : (ByteArray.mk #[49] ++ t.extract (p + 1) t.size).size ≤ 9223372036854775807 := by rw [ByteArray.size_append, show (ByteArray.mk #[49]).size = 1 from rfl]; omega
        have YA := Lib.hid ya; have YC := Lib.hid yc
        have hone := one_dig (t.extract (p + 1) t.size) y3
        have HO := Lib.hid hone
        have hadd := fun (ww : World) => run_string_add_sum (P := Try.prog) ww ⟨#[49]⟩ (t.extract (p + 1) t.size) (by rw [show (ByteArray.mk #[49]).size = 1 from rfl]; omega)
        have hadd2 := fun (ww : World) => run_string_add_sum (P := Try.prog) ww (t.extract 0 p) (t.extract (p + 1) t.size) (by omega)
        have HA2 := Lib.hid hadd2
        have HA1 := Lib.hid hadd
        clear k1 k2 hd c46 y1 y2 y3 ya yc hone hadd2 hadd
        cases da : WM.digits (L (t.extract 0 p))
        · have HF := Lib.hid (F1.out (by rw [K1.out, da]; rfl))
          go_wp2_with fail
          refine (rdigits_any _ _ YA.out).mono ?_
          rintro e w' ⟨rfl, rfl⟩
          go_wp2
          go_ret2
          exact ⟨by rw [HF.out.1, HF.out.2]; rfl, 0, rfl⟩
        · have DA := Lib.hid da
          go_wp2_with fail
          refine (rdigits_any _ _ YA.out).mono ?_
          rintro e w' ⟨rfl, rfl⟩
          have hadd := HA1.out
          go_wp2_with fail
          refine (rdigits_any _ _ YC.out).mono ?_
          rintro e w' ⟨rfl, rfl⟩
          rw [HO.out]
          clear hadd
          cases dc : (L (t.extract (p + 1) t.size)).all WM.dig
          · have HF := Lib.hid (F1.out (by rw [K1.out, da, dc]; rfl))
            go_wp2
            go_ret2
            exact ⟨by rw [HF.out.1, HF.out.2]; rfl, 0, rfl⟩
          · have DC := Lib.hid dc
            have HF := Lib.hid (F2'.out (by rw [K1.out, da, dc]; rfl))
            have hall : (L (t.extract 0 p ++ t.extract (p + 1) t.size)).all WM.dig = true := by rw [L_append, List.all_append, WM.digits_all DA.out, DC.out]; rfl
            have hz : (t.extract 0 p ++ t.extract (p + 1) t.size).size ≤ 9223372036854775807 := by
              rw [ByteArray.size_append]
              have := Y1.out; have := Y2.out
              omega
            obtain ⟨v0, v1⟩ := (WM.sval_val hall).1
            have CV := fun (ww : World) => rvalue_any (t.extract 0 p ++ t.extract (p + 1) t.size) ww hz hall
            have CS := fun (ww : World) => rsigned_any (WM.sval (L (t.extract 0 p ++ t.extract (p + 1) t.size))) false ww v0 v1
            have hsg := WM.sign_sval hall false
            rw [hsg.1, hsg.2, L_append, ← K2.out, ← HF.out.1, ← HF.out.2] at CS
            rw [L_append] at CV
            have HCV := Lib.hid CV; have HCS := Lib.hid CS
            have hadd2 := HA2.out
            clear CV CS hsg hall hz v0 v1 da
            go_wp2_with fail
            go_quiet (first
              | (go_at_call 58; exact quiet_eq (HCV.out _))
              | (go_at_call 57; exact quiet_eq (HCS.out _)))
            go_wp2
            go_ret2
            exact ⟨rfl, _, rfl⟩
  · have F2' := Lib.hid (F2.out _ hb)
    have HT := Lib.hid ht
    clear F2 hb h2 ht
    go_enter Try.func17, Try.ntmps17
    go_upto_region 4 with (fail)
    rw [← HT.out]
    by_cases hp3 : t.size < 4
    · have HF : Hid (rn = 0 ∧ re = 5) := Lib.hid (F1.out (by
        by_cases h : t.size < 3
        · exact cok_short t h
        · unfold WM.cok
          rw [decide_eq_false (by rw [L_len]; omega)]; rfl))
      have c1 : (t.size : Int) - 3 < 1 := by omega
      go_wp2
      go_ret2
      exact ⟨by rw [HF.out.1, HF.out.2]; rfl, 0, rfl⟩
    · obtain ⟨p, hp3⟩ : ∃ p : Nat, t.size = p + 3 := ⟨t.size - 3, by omega⟩
      have hpl : p < t.size := by omega
      obtain ⟨k1, k2⟩ := cok_of t p hpl hp3
      have e1 : (t.size : Int) - 3 = (p : Int) := by omega
      have l1 : p + 3 ≤ t.size := by omega
      have l2 : t.size ≤ p + 3 := by omega
      have l3 : 1 ≤ p := by omega
      have l4 : decide (p < 1) = false := decide_eq_false (by omega)
      have hd := dot_eq t[p]
      have z1 := ByteArray.size_extract (a := t) (b := 0) (e := p)
      have z2 := ByteArray.size_extract (a := t) (b := p + 1) (e := t.size)
      have y1 : (t.extract 0 p).size ≤ p := by omega
      have y2 : (t.extract (p + 1) t.size).size ≤ 2 := by omega
      have y3 : 0 < (t.extract (p + 1) t.size).size := by omega
      clear hp3 z1 z2
      cases c46 : (t[p] == 46)
      · rw [c46] at k1 hd
        have HF := Lib.hid (F1.out (by rw [k1]; rfl))
        have hd' : ((t[p].toNat : Int) != 46) = true := hd
        clear F1 F2' k1 k2 hd c46 y1 y2 y3
        go_wp2
        go_ret2
        exact ⟨by rw [HF.out.1, HF.out.2]; rfl, 0, rfl⟩
      · rw [c46] at k1 hd
        have hd' : ((t[p].toNat : Int) != 46) = false := hd
        have q1 : (0 : Int) ≤ (p : Int) := by omega
        have q2 : (p : Int) ≤ (t.size : Int) := by omega
        have q3 : (0 : Int) ≤ (p : Int) + 1 := by omega
        have q4 : (p : Int) + 1 ≤ (t.size : Int) := by omega
        have q5 : ((p : Int) + 1).toNat = p + 1 := by omega
        have K1 := Lib.hid k1; have K2 := Lib.hid k2; have Y1 := Lib.hid y1; have Y2 := Lib.hid y2; have Y3 := Lib.hid y3
        have ya : (t.extract 0 p).size ≤ 9223372036854775807 := by omega
        have yc : (ByteArray.mk #[49] ++ t.extract (p + 1) t.size).size ≤ 9223372036854775807 := by rw [ByteArray.size_append, show (ByteArray.mk #[49]).size = 1 from rfl]; omega
        have YA := Lib.hid ya; have YC := Lib.hid yc
        have hone := one_dig (t.extract (p + 1) t.size) y3
        have HO := Lib.hid hone
        have hadd := fun (ww : World) => run_string_add_sum (P := Try.prog) ww ⟨#[49]⟩ (t.extract (p + 1) t.size) (by rw [show (ByteArray.mk #[49]).size = 1 from rfl]; omega)
        have hadd2 := fun (ww : World) => run_string_add_sum (P := Try.prog) ww (t.extract 0 p) (t.extract (p + 1) t.size) (by omega)
        have HA2 := Lib.hid hadd2
        have HA1 := Lib.hid hadd
        clear k1 k2 hd c46 y1 y2 y3 ya yc hone hadd2 hadd
        cases da : WM.digits (L (t.extract 0 p))
        · have HF := Lib.hid (F1.out (by rw [K1.out, da]; rfl))
          go_wp2_with fail
          refine (rdigits_any _ _ YA.out).mono ?_
          rintro e w' ⟨rfl, rfl⟩
          go_wp2
          go_ret2
          exact ⟨by rw [HF.out.1, HF.out.2]; rfl, 0, rfl⟩
        · have DA := Lib.hid da
          go_wp2_with fail
          refine (rdigits_any _ _ YA.out).mono ?_
          rintro e w' ⟨rfl, rfl⟩
          have hadd := HA1.out
          go_wp2_with fail
          refine (rdigits_any _ _ YC.out).mono ?_
          rintro e w' ⟨rfl, rfl⟩
          rw [HO.out]
          clear hadd
          cases dc : (L (t.extract (p + 1) t.size)).all WM.dig
          · have HF := Lib.hid (F1.out (by rw [K1.out, da, dc]; rfl))
            go_wp2
            go_ret2
            exact ⟨by rw [HF.out.1, HF.out.2]; rfl, 0, rfl⟩
          · have DC := Lib.hid dc
            have HF := Lib.hid (F2'.out (by rw [K1.out, da, dc]; rfl))
            have hall : (L (t.extract 0 p ++ t.extract (p + 1) t.size)).all WM.dig = true := by rw [L_append, List.all_append, WM.digits_all DA.out, DC.out]; rfl
            have hz : (t.extract 0 p ++ t.extract (p + 1) t.size).size ≤ 9223372036854775807 := by
              rw [ByteArray.size_append]
              have := Y1.out; have := Y2.out
              omega
            obtain ⟨v0, v1⟩ := (WM.sval_val hall).1
            have CV := fun (ww : World) => rvalue_any (t.extract 0 p ++ t.extract (p + 1) t.size) ww hz hall
            have CS := fun (ww : World) => rsigned_any (WM.sval (L (t.extract 0 p ++ t.extract (p + 1) t.size))) true ww v0 v1
            have hsg := WM.sign_sval hall true
            rw [hsg.1, hsg.2, L_append, ← K2.out, ← HF.out.1, ← HF.out.2] at CS
            rw [L_append] at CV
            have HCV := Lib.hid CV; have HCS := Lib.hid CS
            have hadd2 := HA2.out
            clear CV CS hsg hall hz v0 v1 da
            go_wp2_with fail
            go_quiet (first
              | (go_at_call 58; exact quiet_eq (HCV.out _))
              | (go_at_call 57; exact quiet_eq (HCS.out _)))
            go_wp2
            go_ret2
            exact ⟨rfl, _, rfl⟩
end Go.Proofs.Ytegipokbbmnahaa
