/- Contracts of layer 17: within, Check, the program's and the reference's; a query's run. -/
import Derived.Test.YtaegapcccboinaaTapCells
import Derived.Test.YtaegapcccboinaaCBox
namespace Go.Proofs.Ytaegapcccboinaa
open Go.RowKit Go.Recs
set_option linter.unusedVariables false
set_option linter.unusedSimpArgs false
abbrev tickA (x : TP.Tick) : Value := .agg #[.int .i64 x.time, .int .i64 x.qty, .int .i64 x.price]
abbrev tickC (x : TP.Tick) : Array Value := #[.int .i64 x.time, .int .i64 x.qty, .int .i64 x.price]
theorem within17_any (n a b : Int) (w : World) :
    Calls Try.prog 37 #[.int .i64 n, .int .i64 a, .int .i64 b] w fun e w' => e = .returned (.bool (QM.within n a b)) ∧ w = w' := by
  by_cases h1 : a ≤ n
  · by_cases h2 : n ≤ b
    · have e : QM.within n a b = true := QM.within_true.2 ⟨h1, h2⟩
      rw [e]; clear e
      go_enter Try.func37, Try.ntmps37
      go_wp2
      go_ret
      exact ⟨rfl, rfl⟩
    · have e : QM.within n a b = false := QM.within_false.2 (.inr (by omega))
      rw [e]; clear e
      go_enter Try.func37, Try.ntmps37
      go_wp2
      go_ret
      exact ⟨rfl, rfl⟩
  · have e : QM.within n a b = false := QM.within_false.2 (.inl (by omega))
    rw [e]; clear e
    go_enter Try.func37, Try.ntmps37
    go_wp2
    go_ret
    exact ⟨rfl, rfl⟩
theorem tick_at {l : List TP.Tick} {k : Nat} {t : TP.Tick} (h : TP.tAt l k = t) : TP.oneE l k = TP.oneT (TP.prev l k) t := by unfold TP.oneE; rw [h]
set_option maxRecDepth 100000 in
set_option maxHeartbeats 4000000 in
theorem tcheck_any (A : Option Addr) (l : List TP.Tick) (n cap : Nat) (hn : n = l.length) (w : World) (hI : Ticks w A l) :
    Calls Try.prog 36 #[.slice A n cap] w fun e w' => e = .returned (.int .i64 (TP.allE l)) ∧ Below w.heap.size w w' := by
  subst hn
  have hlen := hI.len
  by_cases h32 : 1024 < l.length
  · have e : TP.allE l = 8 := by unfold TP.allE; rw [if_pos h32]
    rw [e]; clear e hI
    go_enter Try.func36, Try.ntmps36
    go_wp2_with fail
    go_ret
    exact ⟨rfl, Below.refl _ _⟩
  have KS := Lib.hid (fun k => @TP.all_stop l k h32)
  have KE : Hid (TP.uptoE l l.length = 0 → TP.allE l = 0) := Lib.hid (fun h => by unfold TP.allE; rw [if_neg h32, h])
  have K0 : Hid (0 = TP.prev l 0) := Lib.hid rfl
  have C1 := Lib.hid (fun n a b ww => within17_any n a b ww)
  generalize TP.allE l = x at *
  have HI := Lib.hid hI
  clear hI
  go_enter Try.func36, Try.ntmps36
  go_wp2_with fail
  clear h32
  go_loopw [3, 5, 11] (fun p _ i wr => ∃ k : Nat, k ≤ l.length ∧ ∃ pv : Int, p = .int .i64 pv ∧ Hid (pv = TP.prev l k) ∧ i = .int .i64 k ∧ Hid (TP.uptoE l k = 0) ∧ Hid (Below w.heap.size w wr)) (fun _ _ i _ => l.length - (intOf i).toNat)
  case atStart => exact ⟨0, by omega, 0, rfl, K0, rfl, Lib.hid rfl, Lib.hid (Below.refl _ _)⟩
  case round =>
    obtain ⟨k, hk, pv, rfl, HPV, rfl, HE, HW⟩ := hrel
    by_cases hlt : k < l.length
    · obtain ⟨b, off, t, rfl, hb, HV, ⟨q0, q1, q2⟩, d0, d1, d2⟩ := ticks_get (HI.out.below HW.out) hlt
      have HWA := Lib.hid (HW.out.alloc HW.out.size (.cells (tickC t) 72))
      have HC := CB.new wr 72 (tickC t)
      have f0 := HC.cell 0
      have f1 := HC.cell 1
      have f2 := HC.cell 2
      simp only [List.getElem?_toArray, List.getElem?_cons_zero, List.getElem?_cons_succ] at f0 f1 f2
      have HO := Lib.hid (by rw [HPV.out]; exact tick_at HV.out : TP.oneE l k = TP.oneT pv t)
      have HF := Lib.hid (KS.out k hlt HE.out)
      have HS := Lib.hid (fun h => @TP.upto_step l k HE.out h)
      have HP : Hid (t.time = TP.prev l (k + 1)) := Lib.hid (by rw [TP.prev_succ, HV.out])
      obtain ⟨wa, hwa⟩ : ∃ wa, wr.alloc (.cells #[.int .i64 t.time, .int .i64 t.qty, .int .i64 t.price] 72) = wa := ⟨_, rfl⟩
      rw [hwa] at f0 f1 f2
      have HWA := Lib.hid (hwa ▸ HWA.out : Below w.heap.size w wa)
      clear HC HPV
      go_wp2_with fail
      refine (C1.out _ _ _ _).mono ?_
      rintro e w2 ⟨rfl, rfl⟩
      cases g1 : QM.within t.time pv 86399
      · have HX : Hid (x = 2) := Lib.hid (by
          have e : TP.oneE l k = 2 := by rw [HO.out]; unfold TP.oneT; rw [g1]; rfl
          rw [← e]; exact HF.out (by rw [e]; decide))
        go_wp2_with fail
        go_ret
        exact ⟨by rw [HX.out] <;> rfl, HWA.out⟩
      go_wp2_with fail
      refine (C1.out _ _ _ _).mono ?_
      rintro e w2 ⟨rfl, rfl⟩
      cases g2 : QM.within t.qty 1 1048576
      · have HX : Hid (x = 18) := Lib.hid (by
          have e : TP.oneE l k = 18 := by rw [HO.out]; unfold TP.oneT; rw [g1, g2]; rfl
          rw [← e]; exact HF.out (by rw [e]; decide))
        go_wp2_with fail
        go_ret
        exact ⟨by rw [HX.out] <;> rfl, HWA.out⟩
      go_wp2_with fail
      refine (C1.out _ _ _ _).mono ?_
      rintro e w2 ⟨rfl, rfl⟩
      cases g3 : QM.within t.price (-16777216) 16777216
      · have HX : Hid (x = 17) := Lib.hid (by
          have e : TP.oneE l k = 17 := by rw [HO.out]; unfold TP.oneT; rw [g1, g2, g3]; rfl
          rw [← e]; exact HF.out (by rw [e]; decide))
        go_wp2_with fail
        go_ret
        exact ⟨by rw [HX.out] <;> rfl, HWA.out⟩
      have HZ := Lib.hid (HS.out (by rw [HO.out]; unfold TP.oneT; rw [g1, g2, g3]; rfl))
      clear g1 g2 g3
      go_wp2_with fail
      go_roundw
      case rel => exact ⟨k + 1, by omega, _, rfl, HP, by go_num, HZ, HWA⟩
      case measure => simp [intOf]; omega
    · obtain rfl : k = l.length := by omega
      have HX := Lib.hid (KE.out HE.out)
      go_wp2_with fail
      go_ret
      exact ⟨by rw [HX.out] <;> rfl, HW.out⟩
/-- a function without results ends -/
theorem leave0 {P : Program} {fn : Func} {R : Ending → World → Prop} {a : Act} {w : World} (hr : fn.results = #[]) (hd : a.defers = []) (hR : R (.returned (.tuple #[])) w) : bodyPost P fn R .normal a w := by
  exact bodyPost_end (results_none hr _ _ _) hd hR
set_option maxRecDepth 100000 in
set_option maxHeartbeats 4000000 in
/-- a query's run: a function of the program with what it captured, called for tick after tick -/
theorem run17_any (F : Nat) (eg : ∀ args w, (callFunc F args).run Try.prog w = .ok (.enter F args) w) (cs : Array Value) (I : Nat → World → Prop) (A : Option Addr) (l : List TP.Tick) (n cap : Nat) (hn : n = l.length) (w0 w : World) (hI : Ticks w0 A l)
    (hB : ∀ k ww, I k ww → Below w0.heap.size w0 ww) (hal : ∀ k ww o, I k ww → I k (ww.alloc o)) (h0 : I 0 w)
    (hst : ∀ k, k < l.length → ∀ ww, I k ww → w.heap.size < ww.heap.size → Calls Try.prog F (#[tickA (TP.tAt l k)] ++ cs) ww fun e w' => e = .returned (.tuple #[]) ∧ I (k + 1) w' ∧ w'.heap[w.heap.size]? = ww.heap[w.heap.size]?) :
    Calls Try.prog 48 #[.agg #[.func (.func F) #[] cs], .slice A n cap] w fun e w' => e = .returned (.tuple #[]) ∧ I l.length w' := by
  subst hn
  have hlen := hI.len
  have HI := Lib.hid hI; have HB := Lib.hid hB; have HAL := Lib.hid hal; have HST := Lib.hid hst
  have H0 := Lib.hid (hal 0 w (.cells #[.func (.func F) #[] cs] 86) h0)
  have HC := Lib.hid (CB.new w 86 #[.func (.func F) #[] cs])
  clear hI hB hal hst h0
  go_enter Try.func48, Try.ntmps48
  go_wp2_with fail
  go_loopw [5, 8] (fun _ i wr => ∃ k : Nat, k ≤ l.length ∧ i = .int .i64 k ∧ Hid (I k wr) ∧ Hid (CB wr w.heap.size 86 #[.func (.func F) #[] cs])) (fun _ i _ => l.length - (intOf i).toNat)
  case atStart => exact ⟨0, by omega, rfl, H0, HC⟩
  case round =>
    clear H0 HC
    obtain ⟨k, hk, rfl, HK, HQ⟩ := hrel
    by_cases hlt : k < l.length
    · obtain ⟨b, off, t, rfl, hb, HV, ⟨q0, q1, q2⟩, d0, d1, d2⟩ := ticks_get (HI.out.below (HB.out k wr HK.out)) hlt
      have hX := CB.new wr 72 (tickC t)
      have f0 := hX.cell 0
      have f1 := hX.cell 1
      have f2 := hX.cell 2
      simp only [List.getElem?_toArray, List.getElem?_cons_zero, List.getElem?_cons_succ] at f0 f1 f2
      have hK := HAL.out k wr (.cells (tickC t) 72) HK.out
      have hQ := HQ.out.alloc (.cells (tickC t) 72)
      have c0 := hQ.cell 0
      simp only [List.getElem?_toArray, List.getElem?_cons_zero] at c0
      have hC := HST.out k hlt _ hK (by simp; have := HQ.out.lt; omega)
      rw [HV.out] at hC
      obtain ⟨wa, hwa⟩ : ∃ wa, wr.alloc (.cells #[.int .i64 t.time, .int .i64 t.qty, .int .i64 t.price] 72) = wa := ⟨_, rfl⟩
      rw [hwa] at f0 f1 f2 c0 hC hQ
      have HQA := Lib.hid hQ
      have HC := Lib.hid hC
      clear hX hK hQ hC HQ HK
      go_wp2_with fail
      refine HC.out.mono ?_
      rintro e w2 ⟨rfl, hi, hq⟩
      have HK2 := Lib.hid hi
      have HQ2 := Lib.hid (hq.trans HQA.out : CB w2 w.heap.size 86 #[.func (.func F) #[] cs])
      clear hi hq f0 f1 f2 c0 d0 d1 d2 hwa HC HQA
      go_wp2_with fail
      go_roundw
      case rel => exact ⟨k + 1, by omega, by go_num, HK2, HQ2⟩
      case measure => simp [intOf]; omega
    · obtain rfl : k = l.length := by omega
      go_wp2_with fail
      exact leave0 rfl rfl ⟨rfl, HK.out⟩
end Go.Proofs.Ytaegapcccboinaa
