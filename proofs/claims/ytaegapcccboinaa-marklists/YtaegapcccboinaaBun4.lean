/- Put together: CBox, TapA, TapB, TapC, TapD, CentsA, CentsB. -/
import Derived.Test.YtaegapcccboinaaBun3
import Derived.Laws.ResultCell
import Derived.Laws.Rows
import Derived.Laws.EntriesVeiled
import Derived.Shelf.Abstract
import Derived.Test.YtaegapcccboinaaRows
import Derived.Test.YtaegapcccboinaaBun1
import Derived.WalkKit
import Derived.WalkSpells
import Derived.WalkLawsBesides
import Derived.IntWalk
import Derived.Lib.Hide
import Derived.Deep.QuietTactic
import Derived.BigQuiet
import Derived.Laws.BitsAllLaws
import Derived.Laws.BitsLemmas
/- Boxes: blocks known whole, over a seat. -/
namespace Go.Proofs.Ytaegapcccboinaa
open Go.RowKit
set_option linter.unusedVariables false
set_option linter.unusedSimpArgs false

/-- block g is just the cells cs -/
def CB (w : World) (g : Nat) (t : TypeId) (cs : Array Value) : Prop := w.heap[g]? = some (.cells cs t (0, 0))
section
variable {w w' : World} {g B : Nat} {t : TypeId} {cs : Array Value}
theorem CB.new (w : World) (t : TypeId) (cs : Array Value) : CB (w.alloc (.cells cs t)) w.heap.size t cs := heap_alloc_new w _
theorem CB.below (h : CB w g t cs) (hb : Below B w w') (hg : g < B) : CB w' g t cs := (hb.block g hg).trans h
theorem CB.lt (h : CB w g t cs) : g < w.heap.size := lt_of_block h
theorem CB.cell (h : CB w g t cs) (i : Nat) : w.cell? ⟨g, i, none⟩ = cs[i]? := by unfold CB at h; simp [World.cell?, h]
theorem CB.alloc (h : CB w g t cs) (o : Obj) : CB (w.alloc o) g t cs := (Below.heap_alloc w o g h.lt).trans h
theorem CB.drewN (h : CB w g t cs) (n : Nat) : CB (w.drewN n) g t cs := h
theorem CB.frozen (h : CB w g t cs) (i : Nat) : w.frozen? ⟨g, i, none⟩ = false := by unfold CB at h; simp [World.frozen?, h]
theorem CB.set_ (h : CB w g t cs) (i : Nat) (u : Value) : CB (w.setCell ⟨g, i, none⟩ u) g t (cs.setIfInBounds i u) := by
  unfold CB at h ⊢
  simp [World.setCell, Array.getElem?_modify, h]
theorem CB.far (h : CB w g t cs) {p : Addr} (hp : g ≠ p.block) (u : Value) : CB (w.setCell p u) g t cs := (Below.heap_setCell w p u g hp).trans h
end
theorem CB.new1 (w : World) (o : Obj) (t : TypeId) (cs : Array Value) : CB ((w.alloc o).alloc (.cells cs t)) (w.heap.size + 1) t cs := by
  have h := CB.new (w.alloc o) t cs
  rwa [show (w.alloc o).heap.size = w.heap.size + 1 by simp] at h
theorem CB.new2 (w : World) (o o' : Obj) (t : TypeId) (cs : Array Value) : CB (((w.alloc o).alloc o').alloc (.cells cs t)) (w.heap.size + 2) t cs := by
  have h := CB.new1 (w.alloc o) o' t cs
  rwa [show (w.alloc o).heap.size + 1 = w.heap.size + 2 by simp] at h
theorem below_al {a w : World} (h : Below a.heap.size a w) (o : Obj) : Below a.heap.size a (w.alloc o) := h.alloc h.size o
theorem results_cell1 {fn : Func} {p : Tmp} {ty : TypeId} (h : fn.results = #[.cell p ty]) (tmps : Array Value) (P : Program) (w : World) :
    (results fn tmps).run P w = ((asAddr (tmps.getD p undef)).run P w).andThen fun a w₁ => (loadVar ty a).run P w₁ := by
  simp only [results, h]
  simp [Sem.run_bind, Result.andThen]
theorem results_cell2 {fn : Func} {p q : Tmp} {ty tz : TypeId} (h : fn.results = #[.cell p ty, .cell q tz]) (tmps : Array Value) (P : Program) (w : World) :
    (results fn tmps).run P w = ((asAddr (tmps.getD p undef)).run P w).andThen fun a w₁ => ((loadVar ty a).run P w₁).andThen fun v w₂ => ((asAddr (tmps.getD q undef)).run P w₂).andThen fun b w₃ => ((loadVar tz b).run P w₃).andThen fun u w₄ => .ok (.tuple #[v, u]) w₄ := by
  simp only [results, h]
  simp [Sem.run_bind, Result.andThen]
end Go.Proofs.Ytaegapcccboinaa

/- Contracts of layer 17: within, Check, the program's and the reference's; a query's run. -/
namespace Go.Proofs.Ytaegapcccboinaa
open Go.RowKit Go.Recs
set_option linter.unusedVariables false
set_option linter.unusedSimpArgs false
abbrev tickA (x : TP.Tick) : Value := .agg #[.int .i64 x.time, .int .i64 x.qty, .int .i64 x.price]
abbrev tickC (x : TP.Tick) : Array Value := #[.int .i64 x.time, .int .i64 x.qty, .int .i64 x.price]
theorem within17_any (n a b : Int) (w : World) :
    Calls Try.prog 37 #[.int .i64 n, .int .i64 a, .int .i64 b] w fun e w' => e = .returned (.bool (QM.within n a b)) ∧ w = w' := by
  by_cases h1 : a ≤ n
  · by_cases h2 : n ≤ b
    · have e : QM.within n a b = true := QM.within_true.2 ⟨h1, h2⟩
      rw [e]; clear e
      go_enter Try.func37, Try.ntmps37
      go_wp2
      go_ret
      exact ⟨rfl, rfl⟩
    · have e : QM.within n a b = false := QM.within_false.2 (.inr (by omega))
      rw [e]; clear e
      go_enter Try.func37, Try.ntmps37
      go_wp2
      go_ret
      exact ⟨rfl, rfl⟩
  · have e : QM.within n a b = false := QM.within_false.2 (.inl (by omega))
    rw [e]; clear e
    go_enter Try.func37, Try.ntmps37
    go_wp2
    go_ret
    exact ⟨rfl, rfl⟩
theorem tick_at {l : List TP.Tick} {k : Nat} {t : TP.Tick} (h : TP.tAt l k = t) : TP.oneE l k = TP.oneT (TP.prev l k) t := by unfold TP.oneE; rw [h]
set_option maxRecDepth 100000 in
set_option maxHeartbeats 4000000 in
theorem tcheck_any (A : Option Addr) (l : List TP.Tick) (n cap : Nat) (hn : n = l.length) (w : World) (hI : Ticks w A l) :
    Calls Try.prog 36 #[.slice A n cap] w fun e w' => e = .returned (.int .i64 (TP.allE l)) ∧ Below w.heap.size w w' := by
  subst hn
  have hlen := hI.len
  by_cases h32 : 1024 < l.length
  · have e : TP.allE l = 8 := by unfold TP.allE; rw [if_pos h32]
    rw [e]; clear e hI
    go_enter Try.func36, Try.ntmps36
    go_wp2_with fail
    go_ret
    exact ⟨rfl, Below.refl _ _⟩
  have KS := Lib.hid (fun k => @TP.all_stop l k h32)
  have KE : Hid (TP.uptoE l l.length = 0 → TP.allE l = 0) := Lib.hid (fun h => by unfold TP.allE; rw [if_neg h32, h])
  have K0 : Hid (0 = TP.prev l 0) := Lib.hid rfl
  have C1 := Lib.hid (fun n a b ww => within17_any n a b ww)
  generalize TP.allE l = x at *
  have HI := Lib.hid hI
  clear hI
  go_enter Try.func36, Try.ntmps36
  go_wp2_with fail
  clear h32
  go_loopw [3, 5, 11] (fun p _ i wr => ∃ k : Nat, k ≤ l.length ∧ ∃ pv : Int, p = .int .i64 pv ∧ Hid (pv = TP.prev l k) ∧ i = .int .i64 k ∧ Hid (TP.uptoE l k = 0) ∧ Hid (Below w.heap.size w wr)) (fun _ _ i _ => l.length - (intOf i).toNat)
  case atStart => exact ⟨0, by omega, 0, rfl, K0, rfl, Lib.hid rfl, Lib.hid (Below.refl _ _)⟩
  case round =>
    obtain ⟨k, hk, pv, rfl, HPV, rfl, HE, HW⟩ := hrel
    by_cases hlt : k < l.length
    · obtain ⟨b, off, t, rfl, hb, HV, ⟨q0, q1, q2⟩, d0, d1, d2⟩ := ticks_get (HI.out.below HW.out) hlt
      have HWA := Lib.hid (HW.out.alloc HW.out.size (.cells (tickC t) 72))
      have HC := CB.new wr 72 (tickC t)
      have f0 := HC.cell 0
      have f1 := HC.cell 1
      have f2 := HC.cell 2
      simp only [List.getElem?_toArray, List.getElem?_cons_zero, List.getElem?_cons_succ] at f0 f1 f2
      have HO := Lib.hid (by rw [HPV.out]; exact tick_at HV.out : TP.oneE l k = TP.oneT pv t)
      have HF := Lib.hid (KS.out k hlt HE.out)
      have HS := Lib.hid (fun h => @TP.upto_step l k HE.out h)
      have HP : Hid (t.time = TP.prev l (k + 1)) := Lib.hid (by rw [TP.prev_succ, HV.out])
      obtain ⟨wa, hwa⟩ : ∃ wa, wr.alloc (.cells #[.int .i64 t.time, .int .i64 t.qty, .int .i64 t.price] 72) = wa := ⟨_, rfl⟩
      rw [hwa] at f0 f1 f2
      have HWA := Lib.hid (hwa ▸ HWA.out : Below w.heap.size w wa)
      clear HC HPV
      go_wp2_with fail
      refine (C1.out _ _ _ _).mono ?_
      rintro e w2 ⟨rfl, rfl⟩
      cases g1 : QM.within t.time pv 86399
      · have HX : Hid (x = 2) := Lib.hid (by
          have e : TP.oneE l k = 2 := by rw [HO.out]; unfold TP.oneT; rw [g1]; rfl
          rw [← e]; exact HF.out (by rw [e]; decide))
        go_wp2_with fail
        go_ret
        exact ⟨by rw [HX.out] <;> rfl, HWA.out⟩
      go_wp2_with fail
      refine (C1.out _ _ _ _).mono ?_
      rintro e w2 ⟨rfl, rfl⟩
      cases g2 : QM.within t.qty 1 1048576
      · have HX : Hid (x = 18) := Lib.hid (by
          have e : TP.oneE l k = 18 := by rw [HO.out]; unfold TP.oneT; rw [g1, g2]; rfl
          rw [← e]; exact HF.out (by rw [e]; decide))
        go_wp2_with fail
        go_ret
        exact ⟨by rw [HX.out] <;> rfl, HWA.out⟩
      go_wp2_with fail
      refine (C1.out _ _ _ _).mono ?_
      rintro e w2 ⟨rfl, rfl⟩
      cases g3 : QM.within t.price (-16777216) 16777216
      · have HX : Hid (x = 17) := Lib.hid (by
          have e : TP.oneE l k = 17 := by rw [HO.out]; unfold TP.oneT; rw [g1, g2, g3]; rfl
          rw [← e]; exact HF.out (by rw [e]; decide))
        go_wp2_with fail
        go_ret
        exact ⟨by rw [HX.out] <;> rfl, HWA.out⟩
      have HZ := Lib.hid (HS.out (by rw [HO.out]; unfold TP.oneT; rw [g1, g2, g3]; rfl))
      clear g1 g2 g3
      go_wp2_with fail
      go_roundw
      case rel => exact ⟨k + 1, by omega, _, rfl, HP, by go_num, HZ, HWA⟩
      case measure => simp [intOf]; omega
    · obtain rfl : k = l.length := by omega
      have HX := Lib.hid (KE.out HE.out)
      go_wp2_with fail
      go_ret
      exact ⟨by rw [HX.out] <;> rfl, HW.out⟩
/-- a function without results ends -/
theorem leave0 {P : Program} {fn : Func} {R : Ending → World → Prop} {a : Act} {w : World} (hr : fn.results = #[]) (hd : a.defers = []) (hR : R (.returned (.tuple #[])) w) : bodyPost P fn R .normal a w := by
  exact bodyPost_end (results_none hr _ _ _) hd hR
set_option maxRecDepth 100000 in
set_option maxHeartbeats 4000000 in
/-- a query's run: a function of the program with what it captured, called for tick after tick -/
theorem run17_any (F : Nat) (eg : ∀ args w, (callFunc F args).run Try.prog w = .ok (.enter F args) w) (cs : Array Value) (I : Nat → World → Prop) (A : Option Addr) (l : List TP.Tick) (n cap : Nat) (hn : n = l.length) (w0 w : World) (hI : Ticks w0 A l)
    (hB : ∀ k ww, I k ww → Below w0.heap.size w0 ww) (hal : ∀ k ww o, I k ww → I k (ww.alloc o)) (h0 : I 0 w)
    (hst : ∀ k, k < l.length → ∀ ww, I k ww → w.heap.size < ww.heap.size → Calls Try.prog F (#[tickA (TP.tAt l k)] ++ cs) ww fun e w' => e = .returned (.tuple #[]) ∧ I (k + 1) w' ∧ w'.heap[w.heap.size]? = ww.heap[w.heap.size]?) :
    Calls Try.prog 48 #[.agg #[.func (.func F) #[] cs], .slice A n cap] w fun e w' => e = .returned (.tuple #[]) ∧ I l.length w' := by
  subst hn
  have hlen := hI.len
  have HI := Lib.hid hI; have HB := Lib.hid hB; have HAL := Lib.hid hal; have HST := Lib.hid hst
  have H0 := Lib.hid (hal 0 w (.cells #[.func (.func F) #[] cs] 86) h0)
  have HC := Lib.hid (CB.new w 86 #[.func (.func F) #[] cs])
  clear hI hB hal hst h0
  go_enter Try.func48, Try.ntmps48
  go_wp2_with fail
  go_loopw [5, 8] (fun _ i wr => ∃ k : Nat, k ≤ l.length ∧ i = .int .i64 k ∧ Hid (I k wr) ∧ Hid (CB wr w.heap.size 86 #[.func (.func F) #[] cs])) (fun _ i _ => l.length - (intOf i).toNat)
  case atStart => exact ⟨0, by omega, rfl, H0, HC⟩
  case round =>
    clear H0 HC
    obtain ⟨k, hk, rfl, HK, HQ⟩ := hrel
    by_cases hlt : k < l.length
    · obtain ⟨b, off, t, rfl, hb, HV, ⟨q0, q1, q2⟩, d0, d1, d2⟩ := ticks_get (HI.out.below (HB.out k wr HK.out)) hlt
      have hX := CB.new wr 72 (tickC t)
      have f0 := hX.cell 0
      have f1 := hX.cell 1
      have f2 := hX.cell 2
      simp only [List.getElem?_toArray, List.getElem?_cons_zero, List.getElem?_cons_succ] at f0 f1 f2
      have hK := HAL.out k wr (.cells (tickC t) 72) HK.out
      have hQ := HQ.out.alloc (.cells (tickC t) 72)
      have c0 := hQ.cell 0
      simp only [List.getElem?_toArray, List.getElem?_cons_zero] at c0
      have hC := HST.out k hlt _ hK (by simp; have := HQ.out.lt; omega)
      rw [HV.out] at hC
      obtain ⟨wa, hwa⟩ : ∃ wa, wr.alloc (.cells #[.int .i64 t.time, .int .i64 t.qty, .int .i64 t.price] 72) = wa := ⟨_, rfl⟩
      rw [hwa] at f0 f1 f2 c0 hC hQ
      have HQA := Lib.hid hQ
      have HC := Lib.hid hC
      clear hX hK hQ hC HQ HK
      go_wp2_with fail
      refine HC.out.mono ?_
      rintro e w2 ⟨rfl, hi, hq⟩
      have HK2 := Lib.hid hi
      have HQ2 := Lib.hid (hq.trans HQA.out : CB w2 w.heap.size 86 #[.func (.func F) #[] cs])
      clear hi hq f0 f1 f2 c0 d0 d1 d2 hwa HC HQA
      go_wp2_with fail
      go_roundw
      case rel => exact ⟨k + 1, by omega, by go_num, HK2, HQ2⟩
      case measure => simp [intOf]; omega
    · obtain rfl : k = l.length := by omega
      go_wp2_with fail
      exact leave0 rfl rfl ⟨rfl, HK.out⟩
end Go.Proofs.Ytaegapcccboinaa

/- Contracts of layer 17: the closures of totals and Range; totals, Range. -/
namespace Go.Proofs.Ytaegapcccboinaa
open Go.RowKit Go.Recs
set_option linter.unusedVariables false
set_option linter.unusedSimpArgs false
/-- of what was there only the boxes g0 and g1 are written over -/
structure Twin (w w' : World) (g0 g1 : Nat) (v0 v1 : Value) : Prop where
  below : ∀ B w0, Below B w0 w → B ≤ g0 → B ≤ g1 → B ≤ w.heap.size → Below B w0 w'
  c0 : CB w' g0 3 #[v0]
  c1 : CB w' g1 3 #[v1]
  other : ∀ g, g ≠ g0 → g ≠ g1 → g < w.heap.size → w'.heap[g]? = w.heap[g]?
theorem Twin.of {w : World} {g0 g1 : Nat} {a b : Value} (c0 : CB w g0 3 #[a]) (c1 : CB w g1 3 #[b]) (hne : g0 ≠ g1) (o : Obj) (v0 v1 : Value) :
    Twin w (((w.alloc o).setCell ⟨g0, 0, none⟩ v0).setCell ⟨g1, 0, none⟩ v1) g0 g1 v0 v1 := by
  refine ⟨fun B w0 h h0 h1 hB => ((h.alloc hB o).setCell (p := ⟨g0, 0, none⟩) h0 _).setCell (p := ⟨g1, 0, none⟩) h1 _, ?_, ?_, fun g n0 n1 hg => ?_⟩
  · have := ((c0.alloc o).set_ 0 v0).far (p := ⟨g1, 0, none⟩) hne v1
    simpa using this
  · have := ((c1.alloc o).far (p := ⟨g0, 0, none⟩) (Ne.symm hne) v0).set_ 0 v1
    simpa using this
  · rw [Below.heap_setCell _ ⟨g1, 0, none⟩ _ g n1, Below.heap_setCell _ ⟨g0, 0, none⟩ _ g n0, Below.heap_alloc _ _ _ hg]
theorem Twin.drew {w w' : World} {g0 g1 : Nat} {v0 v1 : Value} (h : Twin w w' g0 g1 v0 v1) : Twin w w'.drew g0 g1 v0 v1 := ⟨fun B w0 a b c d => (h.below B w0 a b c d).drew, h.c0, h.c1, h.other⟩
theorem load_int (w : World) (g : Nat) (n : Int) (hb : CB w g 3 #[.int .i64 n]) : (loadVar 3 ⟨g, 0, none⟩).run Try.prog w = .ok (.int .i64 n) w := by
  have c := hb.cell 0
  simp only [List.getElem?_toArray, List.getElem?_cons_zero] at c
  have u3 := Try.underlying3
  have a3 := Try.isAgg3
  have z3 := Try.sizeOf3
  unfold loadVar
  go_simp
theorem results_ints2 {fn : Func} {p q : Tmp} (h : fn.results = #[.cell p 3, .cell q 3]) (tmps : Array Value) (w : World) (g j : Nat) (x y : Int)
    (hp : tmps.getD p undef = .pointer (some ⟨g, 0, none⟩)) (hq : tmps.getD q undef = .pointer (some ⟨j, 0, none⟩)) (hb : CB w g 3 #[.int .i64 x]) (hc : CB w j 3 #[.int .i64 y]) :
    (results fn tmps).run Try.prog w = .ok (.tuple #[.int .i64 x, .int .i64 y]) w := by
  rw [results_cell2 h, hp]
  simp only [asAddr, Sem.run_pure, Result.andThen_ok]
  rw [load_int w g x hb]
  simp only [Result.andThen_ok, hq, asAddr, Sem.run_pure]
  rw [load_int w j y hc]
  rfl
theorem results_cell2_tmp {fn : Func} {p q u : Tmp} {ty tz : TypeId} (h : fn.results = #[.cell p ty, .cell q tz, .tmp u]) (tmps : Array Value) (P : Program) (w : World) :
    (results fn tmps).run P w = ((asAddr (tmps.getD p undef)).run P w).andThen fun a w₁ => ((loadVar ty a).run P w₁).andThen fun v w₂ => ((asAddr (tmps.getD q undef)).run P w₂).andThen fun b w₃ => ((loadVar tz b).run P w₃).andThen fun z w₄ => .ok (.tuple #[v, z, tmps.getD u undef]) w₄ := by
  simp only [results, h]
  simp [Sem.run_bind, Result.andThen]
theorem results_ints3 {fn : Func} {p q u : Tmp} (h : fn.results = #[.cell p 3, .cell q 3, .tmp u]) (tmps : Array Value) (w : World) (g j : Nat) (x y : Int) (z : Value)
    (hp : tmps.getD p undef = .pointer (some ⟨g, 0, none⟩)) (hq : tmps.getD q undef = .pointer (some ⟨j, 0, none⟩)) (hu : tmps.getD u undef = z) (hb : CB w g 3 #[.int .i64 x]) (hc : CB w j 3 #[.int .i64 y]) :
    (results fn tmps).run Try.prog w = .ok (.tuple #[.int .i64 x, .int .i64 y, z]) w := by
  rw [results_cell2_tmp h, hp]
  simp only [asAddr, Sem.run_pure, Result.andThen_ok]
  rw [load_int w g x hb]
  simp only [Result.andThen_ok, hq, asAddr, Sem.run_pure]
  rw [load_int w j y hc]
  simp only [Result.andThen_ok, hu]
set_option maxRecDepth 100000 in
set_option maxHeartbeats 4000000 in
theorem totals1_any (g0 g1 : Nat) (hne : g0 ≠ g1) (t : TP.Tick) (a b : Int) (w : World) (h0 : CB w g0 3 #[.int .i64 a]) (h1 : CB w g1 3 #[.int .i64 b])
    (ha : -9223372036854775808 ≤ a + t.qty ∧ a + t.qty ≤ 9223372036854775807) (hm : -9223372036854775808 ≤ t.price * t.qty ∧ t.price * t.qty ≤ 9223372036854775807) (hb : -9223372036854775808 ≤ b + t.price * t.qty ∧ b + t.price * t.qty ≤ 9223372036854775807) :
    Calls Try.prog 70 #[tickA t, .pointer (some ⟨g0, 0, none⟩), .pointer (some ⟨g1, 0, none⟩)] w fun e w' => e = .returned (.tuple #[]) ∧ Twin w w' g0 g1 (.int .i64 (a + t.qty)) (.int .i64 (b + t.price * t.qty)) := by
  have HT := Lib.hid (Twin.of h0 h1 hne (.cells (tickC t) 72) (.int .i64 (a + t.qty)) (.int .i64 (b + t.price * t.qty)))
  have hX := CB.new w 72 (tickC t)
  have hY := h0.alloc (.cells (tickC t) 72)
  have hZ := h1.alloc (.cells (tickC t) 72)
  have f0 := hX.cell 0
  have f1 := hX.cell 1
  have f2 := hX.cell 2
  have c0 := hY.cell 0
  have c1 := hZ.cell 0
  have r0 := hY.frozen 0
  have r1 := hZ.frozen 0
  simp only [List.getElem?_toArray, List.getElem?_cons_zero, List.getElem?_cons_succ] at f0 f1 f2 c0 c1
  have n0 : ¬ g0 = w.heap.size := by have := h0.lt; omega
  have n1 : ¬ g1 = w.heap.size := by have := h1.lt; omega
  have n2 : ¬ w.heap.size = g0 := by have := h0.lt; omega
  have n3 : ¬ w.heap.size = g1 := by have := h1.lt; omega
  have n4 : ¬ g0 = g1 := hne
  have n5 : ¬ g1 = g0 := Ne.symm hne
  obtain ⟨wa, hwa⟩ : ∃ wa, w.alloc (.cells #[.int .i64 t.time, .int .i64 t.qty, .int .i64 t.price] 72) = wa := ⟨_, rfl⟩
  rw [hwa] at f0 f1 f2 c0 c1 r0 r1 HT
  obtain ⟨a1, a2⟩ := ha; obtain ⟨m1, m2⟩ := hm; obtain ⟨b1, b2⟩ := hb
  clear hX hY hZ h0 h1 hne
  go_enter Try.func70, Try.ntmps70
  go_wp2_with fail
  exact leave0 rfl rfl ⟨rfl, HT.out⟩
/-- two boxes and a query made -/
abbrev box3 (w : World) (a b : Int) (F : Nat) : World := ((w.alloc (.cells #[.int .i64 a] 3)).alloc (.cells #[.int .i64 b] 3)).alloc (.cells #[.func (.func F) #[] #[.pointer (some ⟨w.heap.size, 0, none⟩), .pointer (some ⟨w.heap.size + 1, 0, none⟩)]] 86)
theorem box3_size (w : World) (a b : Int) (F : Nat) : (box3 w a b F).heap.size = w.heap.size + 3 := by simp [box3]
theorem box3_below (w : World) (a b : Int) (F : Nat) : Below w.heap.size w (box3 w a b F) := below_al (below_al (below_al (Below.refl _ _) _) _) _
theorem box3_0 (w : World) (a b : Int) (F : Nat) : CB (box3 w a b F) w.heap.size 3 #[.int .i64 a] := ((CB.new _ _ _).alloc _).alloc _
theorem box3_1 (w : World) (a b : Int) (F : Nat) : CB (box3 w a b F) (w.heap.size + 1) 3 #[.int .i64 b] := (CB.new1 _ _ _ _).alloc _
theorem Twin.again {w : World} {g0 g1 : Nat} {a b : Value} (c0 : CB w g0 3 #[a]) (c1 : CB w g1 3 #[b]) (hne : g0 ≠ g1) {B : Nat} {w0 : World} (hb : Below B w0 w) (h0 : B ≤ g0) (h1 : B ≤ g1) (v0 v1 : Value) :
    Below B w0 ((w.setCell ⟨g0, 0, none⟩ v0).setCell ⟨g1, 0, none⟩ v1).drew ∧ CB ((w.setCell ⟨g0, 0, none⟩ v0).setCell ⟨g1, 0, none⟩ v1).drew g0 3 #[v0] ∧ CB ((w.setCell ⟨g0, 0, none⟩ v0).setCell ⟨g1, 0, none⟩ v1).drew g1 3 #[v1] := by
  refine ⟨((hb.setCell (p := ⟨g0, 0, none⟩) h0 _).setCell (p := ⟨g1, 0, none⟩) h1 _).drew, ?_, ?_⟩
  · have h : CB ((w.setCell ⟨g0, 0, none⟩ v0).setCell ⟨g1, 0, none⟩ v1) g0 3 #[v0] := by
      have := (c0.set_ 0 v0).far (p := ⟨g1, 0, none⟩) hne v1
      simpa using this
    exact h
  · have h : CB ((w.setCell ⟨g0, 0, none⟩ v0).setCell ⟨g1, 0, none⟩ v1) g1 3 #[v1] := by
      have := (c1.far (p := ⟨g0, 0, none⟩) (Ne.symm hne) v0).set_ 0 v1
      simpa using this
    exact h
set_option maxRecDepth 100000 in
set_option maxHeartbeats 4000000 in
theorem totals_any (A : Option Addr) (l : List TP.Tick) (n cap : Nat) (hn : n = l.length) (w : World) (hI : Ticks w A l) (hg : TP.Good l) :
    Calls Try.prog 38 #[.slice A n cap] w fun e w' => e = .returned (.tuple #[.int .i64 (TP.vol l), .int .i64 (TP.val l)]) ∧ Below w.heap.size w w' := by
  have hmf : ∀ (fn : Fn) (first cap : Array Value) (w : World), (Instr.makeFunc fn first cap).run Try.prog w = .ok (.func fn first cap) w := fun _ _ _ _ => rfl
  have eg : ∀ args w, (callFunc 70 args).run Try.prog w = .ok (.enter 70 args) w := enters_of Try.func70 (by kernel_rfl) rfl
  have C := Lib.hid (run17_any 70 eg #[.pointer (some ⟨w.heap.size, 0, none⟩), .pointer (some ⟨w.heap.size + 1, 0, none⟩)]
    (fun k ww => Below w.heap.size w ww ∧ CB ww w.heap.size 3 #[.int .i64 (TP.volU l k)] ∧ CB ww (w.heap.size + 1) 3 #[.int .i64 (TP.valU l k)]) A l n cap hn w (box3 w 0 0 70) hI
    (fun k ww h => h.1) (fun k ww o h => ⟨below_al h.1 o, h.2.1.alloc o, h.2.2.alloc o⟩) ⟨box3_below _ _ _ _, box3_0 _ _ _ _, box3_1 _ _ _ _⟩
    (fun k hk ww h hlt => by
      obtain ⟨hb, c0, c1⟩ := h
      rw [box3_size] at hlt
      have e1 := hg.each k hk
      have e2 := TP.mul_bound e1.2.2 e1.2.1
      have e3 := TP.vol_bounds hg k (by omega)
      have e4 := TP.val_bounds hg k (by omega)
      have hl := hg.len
      refine (totals1_any w.heap.size (w.heap.size + 1) (by omega) (TP.tAt l k) (TP.volU l k) (TP.valU l k) ww c0 c1 (by omega) (by omega) (by omega)).mono ?_
      rintro e w' ⟨rfl, T⟩
      refine ⟨rfl, ⟨T.below _ _ hb (Nat.le_refl _) (by omega) hb.size, ?_, ?_⟩, T.other _ (by rw [box3_size]; omega) (by rw [box3_size]; omega) (by rw [box3_size]; omega)⟩
      · rw [TP.volU_succ hk]; exact T.c0
      · rw [TP.valU_succ hk]; exact T.c1))
  rw [TP.volU_all, TP.valU_all] at C
  generalize TP.vol l = x at *
  generalize TP.val l = y at *
  subst hn
  have n0 : ¬ w.heap.size = w.heap.size + 1 := by omega
  have n1 : ¬ w.heap.size + 1 = w.heap.size := by omega
  clear hI hg eg
  go_enter Try.func38, Try.ntmps38
  go_wp2_with fail
  refine C.out.mono ?_
  rintro e w2 ⟨rfl, hb, h0, h1⟩
  have c0 := h0.cell 0
  have c1 := h1.cell 0
  have r0 := h0.frozen 0
  have r1 := h1.frozen 0
  simp only [List.getElem?_toArray, List.getElem?_cons_zero] at c0 c1
  have HZ := Lib.hid (Twin.again h0 h1 (by omega) hb (Nat.le_refl _) (by omega) (.int .i64 x) (.int .i64 y))
  clear hb h0 h1
  go_wp2_with fail
  go_region
  all_goals (
    go_wp2_with fail
    (try simp only [Exit.inBlock, Exit.then])
    exact bodyPost_ret (results_ints2 rfl _ _ _ _ _ _ rfl rfl HZ.out.2.1 HZ.out.2.2) rfl ⟨rfl, HZ.out.1⟩)
set_option maxRecDepth 100000 in
set_option maxHeartbeats 4000000 in
theorem range1_any (g0 g1 : Nat) (hne : g0 ≠ g1) (t : TP.Tick) (a b : Int) (w : World) (h0 : CB w g0 3 #[.int .i64 a]) (h1 : CB w g1 3 #[.int .i64 b]) :
    Calls Try.prog 47 #[tickA t, .pointer (some ⟨g0, 0, none⟩), .pointer (some ⟨g1, 0, none⟩)] w fun e w' => e = .returned (.tuple #[]) ∧ Twin w w' g0 g1 (.int .i64 (if t.price < a then t.price else a)) (.int .i64 (if b < t.price then t.price else b)) := by
  have HT := Lib.hid (fun v0 v1 => (Twin.of h0 h1 hne (.cells (tickC t) 72) v0 v1).drew)
  have hX := CB.new w 72 (tickC t)
  have hY := h0.alloc (.cells (tickC t) 72)
  have hZ := h1.alloc (.cells (tickC t) 72)
  have f0 := hX.cell 0
  have f1 := hX.cell 1
  have f2 := hX.cell 2
  have c0 := hY.cell 0
  have c1 := hZ.cell 0
  have r0 := hY.frozen 0
  have r1 := hZ.frozen 0
  simp only [List.getElem?_toArray, List.getElem?_cons_zero, List.getElem?_cons_succ] at f0 f1 f2 c0 c1
  have n0 : ¬ g0 = w.heap.size := by have := h0.lt; omega
  have n1 : ¬ g1 = w.heap.size := by have := h1.lt; omega
  have n2 : ¬ w.heap.size = g0 := by have := h0.lt; omega
  have n3 : ¬ w.heap.size = g1 := by have := h1.lt; omega
  have n4 : ¬ g0 = g1 := hne
  have n5 : ¬ g1 = g0 := Ne.symm hne
  obtain ⟨wa, hwa⟩ : ∃ wa, w.alloc (.cells #[.int .i64 t.time, .int .i64 t.qty, .int .i64 t.price] 72) = wa := ⟨_, rfl⟩
  rw [hwa] at f0 f1 f2 c0 c1 r0 r1 HT
  clear hX hY hZ h0 h1 hne
  by_cases ha : t.price < a
  · rw [if_pos ha]
    by_cases hb : b < t.price
    · rw [if_pos hb]
      go_enter Try.func47, Try.ntmps47
      go_wp2_with fail
      go_region
      all_goals (
        go_wp2_with fail
        exact leave0 rfl rfl ⟨rfl, HT.out _ _⟩)
    · rw [if_neg hb]
      have hb2 : t.price ≤ b := by omega
      go_enter Try.func47, Try.ntmps47
      go_wp2_with fail
      go_region
      all_goals (
        go_wp2_with fail
        exact leave0 rfl rfl ⟨rfl, HT.out _ _⟩)
  · rw [if_neg ha]
    have ha2 : a ≤ t.price := by omega
    by_cases hb : b < t.price
    · rw [if_pos hb]
      go_enter Try.func47, Try.ntmps47
      go_wp2_with fail
      go_region
      all_goals (
        go_wp2_with fail
        exact leave0 rfl rfl ⟨rfl, HT.out _ _⟩)
    · rw [if_neg hb]
      have hb2 : t.price ≤ b := by omega
      go_enter Try.func47, Try.ntmps47
      go_wp2_with fail
      go_region
      all_goals (
        go_wp2_with fail
        exact leave0 rfl rfl ⟨rfl, HT.out _ _⟩)
end Go.Proofs.Ytaegapcccboinaa

/- Contracts of layer 17: Range. -/
namespace Go.Proofs.Ytaegapcccboinaa
open Go.RowKit Go.Recs
set_option linter.unusedVariables false
set_option linter.unusedSimpArgs false
theorem two_below (w : World) (a b : Array Value) : Below w.heap.size w ((w.alloc (.cells a 3)).alloc (.cells b 3)) := below_al (below_al (Below.refl _ _) _) _
set_option maxRecDepth 100000 in
set_option maxHeartbeats 4000000 in
theorem range_any (A : Option Addr) (l : List TP.Tick) (n cap : Nat) (hn : n = l.length) (w : World) (hI : Ticks w A l) :
    Calls Try.prog 18 #[.slice A n cap] w fun e w' => e = .returned (.tuple #[.int .i64 (TP.lowN l), .int .i64 (TP.highN l), .bool (decide (0 < l.length))]) ∧ Below w.heap.size w w' := by
  subst hn
  have hlen := hI.len
  have hmf : ∀ (fn : Fn) (first cap : Array Value) (w : World), (Instr.makeFunc fn first cap).run Try.prog w = .ok (.func fn first cap) w := fun _ _ _ _ => rfl
  have HB0 := Lib.hid (fun a b => two_below w a b)
  by_cases h0 : l.length = 0
  · have e1 : TP.lowN l = 0 := by unfold TP.lowN; rw [if_pos h0]
    have e2 : TP.highN l = 0 := by unfold TP.highN; rw [if_pos h0]
    have e3 : decide (0 < l.length) = false := by simp [h0]
    rw [e1, e2, e3, h0]
    have hX := Lib.hid ((CB.new w 3 #[.int .i64 0]).alloc (.cells #[.int .i64 0] 3))
    have hY := Lib.hid (CB.new1 w (.cells #[.int .i64 0] 3) 3 #[.int .i64 0])
    clear e1 e2 e3 h0 hI
    go_enter Try.func18, Try.ntmps18
    go_wp2_with fail
    (try simp only [Exit.inBlock, Exit.then])
    exact bodyPost_ret (results_ints3 rfl _ _ _ _ _ _ _ rfl rfl rfl hX.out hY.out) rfl ⟨rfl, HB0.out _ _⟩
  · have hpos : 0 < l.length := by omega
    have e1 : TP.lowN l = TP.lowU l l.length := by unfold TP.lowN; rw [if_neg h0]
    have e2 : TP.highN l = TP.highU l l.length := by unfold TP.highN; rw [if_neg h0]
    have e3 : decide (0 < l.length) = true := by simp [hpos]
    have eg : ∀ args w, (callFunc 47 args).run Try.prog w = .ok (.enter 47 args) w := enters_of Try.func47 (by kernel_rfl) rfl
    have C := Lib.hid (fun (w2 : World) (hb : Below w.heap.size w w2) (hs : w.heap.size + 1 < w2.heap.size) (k0 : CB w2 w.heap.size 3 #[.int .i64 (TP.lowU l 0)]) (k1 : CB w2 (w.heap.size + 1) 3 #[.int .i64 (TP.highU l 0)]) =>
      run17_any 47 eg #[.pointer (some ⟨w.heap.size, 0, none⟩), .pointer (some ⟨w.heap.size + 1, 0, none⟩)]
      (fun k ww => Below w.heap.size w ww ∧ CB ww w.heap.size 3 #[.int .i64 (TP.lowU l k)] ∧ CB ww (w.heap.size + 1) 3 #[.int .i64 (TP.highU l k)]) A l l.length cap rfl w w2 hI
      (fun k ww h => h.1) (fun k ww o h => ⟨below_al h.1 o, h.2.1.alloc o, h.2.2.alloc o⟩) ⟨hb, k0, k1⟩
      (fun k hk ww h hlt => by
        obtain ⟨hb, c0, c1⟩ := h
        refine (range1_any w.heap.size (w.heap.size + 1) (by omega) (TP.tAt l k) (TP.lowU l k) (TP.highU l k) ww c0 c1).mono ?_
        rintro e w' ⟨rfl, T⟩
        exact ⟨rfl, ⟨T.below _ _ hb (Nat.le_refl _) (by omega) hb.size, T.c0, T.c1⟩, T.other _ (by omega) (by omega) hlt⟩))
    have HI := Lib.hid hI
    obtain ⟨p0, hp0⟩ : ∃ p0, (TP.tAt l 0).price = p0 := ⟨_, rfl⟩
    have z1 : TP.lowU l 0 = p0 := hp0
    have z2 : TP.highU l 0 = p0 := hp0
    rw [z1, z2] at C
    rw [e1, e2, e3]
    generalize TP.lowU l l.length = x at *
    generalize TP.highU l l.length = y at *
    have HP := Lib.hid hp0
    have n0 : ¬ w.heap.size = w.heap.size + 1 := by omega
    have n1 : ¬ w.heap.size + 1 = w.heap.size := by omega
    have hX := (CB.new w 3 #[.int .i64 0]).alloc (.cells #[.int .i64 0] 3)
    have hY := CB.new1 w (.cells #[.int .i64 0] 3) 3 #[.int .i64 0]
    obtain ⟨b, off, t, rfl, hb, HV, ⟨q0, q1, q2⟩, d0, d1, d2⟩ := ticks_get (hI.below (HB0.out #[.int .i64 0] #[.int .i64 0])) hpos
    have HBA := HB0.out #[.int .i64 0] #[.int .i64 0]
    have hs1 : ((w.alloc (.cells #[.int .i64 0] 3)).alloc (.cells #[.int .i64 0] 3)).heap.size = w.heap.size + 2 := by simp
    have HTP : Hid (t.price = p0) := Lib.hid (by rw [← HP.out, HV.out])
    simp only [Nat.zero_mul, Nat.add_zero] at d0 d1 d2
    have hnn : ¬ (l.length : Int) = 0 := by omega
    clear hI eg e1 e2 e3 z1 z2 hp0 q0 q1 q2 d0 d1
    go_enter Try.func18, Try.ntmps18
    go_wp2_with fail
    generalize (w.alloc (.cells #[.int .i64 0] 3)).alloc (.cells #[.int .i64 0] 3) = w1 at *
    have c0 := hX.cell 0
    have c1 := hY.cell 0
    have r0 := hX.frozen 0
    have r1 := hY.frozen 0
    simp only [List.getElem?_toArray, List.getElem?_cons_zero] at c0 c1
    have HZ := Lib.hid (Twin.again hX hY (by omega) HBA (Nat.le_refl _) (by omega) (.int .i64 t.price) (.int .i64 t.price))
    rw [HTP.out] at HZ d2
    have HS1 := Lib.hid hs1
    clear hX hY HBA HB0 hs1
    go_region
    all_goals (
      generalize hw2 : ((w1.setCell ⟨w.heap.size, 0, none⟩ (.int .i64 p0)).setCell ⟨w.heap.size + 1, 0, none⟩ (.int .i64 p0)).drew = w2 at *
      have hs2 : w2.heap.size = w.heap.size + 2 := by rw [← hw2]; simp [HS1.out]
      have C2 := Lib.hid (C.out (w2.alloc (.cells #[.func (.func 47) #[] #[.pointer (some ⟨w.heap.size, 0, none⟩), .pointer (some ⟨w.heap.size + 1, 0, none⟩)]] 86)) (below_al HZ.out.1 _) (by simp; omega) (HZ.out.2.1.alloc _) (HZ.out.2.2.alloc _))
      clear hw2 c0 c1 r0 r1 d2 C
      go_wp2_with fail
      refine C2.out.mono ?_
      rintro e w3 ⟨rfl, hb3, h0, h1⟩
      have c0 := h0.cell 0
      have c1 := h1.cell 0
      have r0 := h0.frozen 0
      have r1 := h1.frozen 0
      simp only [List.getElem?_toArray, List.getElem?_cons_zero] at c0 c1
      have HZ3 := Lib.hid (Twin.again h0 h1 (by omega) hb3 (Nat.le_refl _) (by omega) (.int .i64 x) (.int .i64 y))
      clear hb3 h0 h1
      go_wp2_with fail
      go_region
      all_goals (
        go_wp2_with fail
        (try simp only [Exit.inBlock, Exit.then])
        exact bodyPost_ret (results_ints3 rfl _ _ _ _ _ _ _ rfl rfl rfl HZ3.out.2.1 HZ3.out.2.2) rfl ⟨rfl, HZ3.out.1⟩))
end Go.Proofs.Ytaegapcccboinaa

/- Contracts of layer 17: Window. -/
namespace Go.Proofs.Ytaegapcccboinaa
open Go.RowKit Go.Recs
set_option linter.unusedVariables false
set_option linter.unusedSimpArgs false
theorem info_tick : (Try.prog.info? 72).map (fun i => (i.zero, i.size, i.bytes)) = some (some (tickA TP.zero), 3, 24) := by kernel_rfl
theorem tick_one (t : TP.Tick) : ∀ u ∈ tickV t, u.oneCell' = true := by
  intro u hu
  simp [tickV] at hu
  rcases hu with rfl | rfl | rfl <;> rfl
set_option maxRecDepth 100000 in
set_option maxHeartbeats 4000000 in
theorem window1_any (g0 g1 g2 B : Nat) (b0 : g0 < B) (b1 : g1 < B) (b2 : g2 < B) (t : TP.Tick) (a b : Int) (v : Value) (rows : List (List Value)) (w : World) (h0 : CB w g0 3 #[.int .i64 a]) (h1 : CB w g1 3 #[.int .i64 b])
    (h2 : CB w g2 22 #[v]) (ho : OwnR w B 72 3 v rows) (hB : B ≤ w.heap.size) (hl : rows.length ≤ 1048576) :
    Calls Try.prog 49 #[tickA t, .pointer (some ⟨g0, 0, none⟩), .pointer (some ⟨g1, 0, none⟩), .pointer (some ⟨g2, 0, none⟩)] w fun e w' => e = .returned (.tuple #[]) ∧
      ∃ v', CB w' g2 22 #[v'] ∧ OwnR w' B 72 3 v' (if QM.within t.time a b = true then rows ++ [tickV t] else rows) ∧ (∀ B0 w0, Below B0 w0 w → B0 ≤ g2 → B0 ≤ B → Below B0 w0 w') ∧ ∀ g, g ≠ g2 → g < B → w'.heap[g]? = w.heap[g]? := by
  have C1 := Lib.hid (fun ww => within17_any t.time a b ww)
  have hX := CB.new w 72 (tickC t)
  have hY := h0.alloc (.cells (tickC t) 72)
  have hZ := h1.alloc (.cells (tickC t) 72)
  have hV := h2.alloc (.cells (tickC t) 72)
  have f0 := hX.cell 0
  have f1 := hX.cell 1
  have f2 := hX.cell 2
  have c0 := hY.cell 0
  have c1 := hZ.cell 0
  have c2 := hV.cell 0
  simp only [List.getElem?_toArray, List.getElem?_cons_zero, List.getElem?_cons_succ] at f0 f1 f2 c0 c1 c2
  have HO := Lib.hid (ho.alloc (.cells (tickC t) 72))
  have HA := Lib.hid (fun B0 w0 (h : Below B0 w0 w) (hb : B0 ≤ w.heap.size) => h.alloc hb (.cells (tickC t) 72))
  have HG := Lib.hid (fun g (hg : g < w.heap.size) => Below.heap_alloc w (.cells (tickC t) 72) g hg)
  have hsz : w.heap.size ≤ (w.alloc (.cells (tickC t) 72)).heap.size := by simp
  obtain ⟨wa, hwa⟩ : ∃ wa, w.alloc (.cells #[.int .i64 t.time, .int .i64 t.qty, .int .i64 t.price] 72) = wa := ⟨_, rfl⟩
  rw [hwa] at f0 f1 f2 c0 c1 c2 HO HA HG hV hsz
  have HV := Lib.hid hV
  have HSZ := Lib.hid hsz
  have H2 := Lib.hid h2
  have HW := Lib.hid (Nat.le_trans hB hsz)
  have HBW := Lib.hid hB
  clear hX hY hZ hV h0 h1 h2 ho hsz
  generalize QM.within t.time a b = q at *
  go_enter Try.func49, Try.ntmps49
  go_wp2_with fail
  refine (C1.out wa).mono ?_
  rintro e w2 ⟨rfl, rfl⟩
  cases q
  · go_wp2_with fail
    exact leave0 rfl rfl ⟨rfl, v, HV.out, by first | exact HO.out | (rw [if_neg (by decide)]; exact HO.out), fun B0 w0 h h2 h3 => HA.out B0 w0 h (Nat.le_trans h3 HBW.out), fun g _ hg => HG.out g (Nat.lt_of_lt_of_le hg HBW.out)⟩
  · go_wp2_with (at_builtin; refine wpList_pushR _ [.int .i64 t.time, .int .i64 t.qty, .int .i64 t.price] (tick_one t) B rows _ _ 22 72 3 24 _ Try.underlying22 info_tick rfl (by decide) rfl rfl rfl _ rfl rfl HO.out ?c1 ?c2 ?c3 ?_)
    case c1 => omega
    case c2 => simp only [maxLen]; omega
    case c3 => exact HW.out
    intro v2 w2 o2 b2 _ _
    have hV2 := HV.out.below b2 (by assumption)
    have k2 := hV2.cell 0
    have r2 := hV2.frozen 0
    simp only [List.getElem?_toArray, List.getElem?_cons_zero] at k2
    obtain ⟨m, g, cap, rfl⟩ : ∃ m g cap, v2 = .slice (some ⟨g, 0, none⟩) m cap := by
      rcases o2.form with ⟨_, he⟩ | ⟨g, cap, rfl, _⟩
      · simp at he
      · exact ⟨_, g, cap, rfl⟩
    have HZ : Hid (CB (w2.setCell ⟨g2, 0, none⟩ (.slice (some ⟨g, 0, none⟩) m cap)) g2 22 #[.slice (some ⟨g, 0, none⟩) m cap]) := Lib.hid (by
      have := hV2.set_ 0 (.slice (some ⟨g, 0, none⟩) m cap)
      simpa using this)
    have HO2 : Hid (OwnR (w2.setCell ⟨g2, 0, none⟩ (.slice (some ⟨g, 0, none⟩) m cap)) B 72 3 (.slice (some ⟨g, 0, none⟩) m cap) (rows ++ [tickV t])) :=
      Lib.hid (o2.kept fun j hj _ => Below.heap_setCell w2 ⟨g2, 0, none⟩ _ j (by show j ≠ g2; omega))
    have HB2 : Hid (∀ B0 w0, Below B0 w0 w → B0 ≤ g2 → B0 ≤ B → Below B0 w0 (w2.setCell ⟨g2, 0, none⟩ (.slice (some ⟨g, 0, none⟩) m cap))) :=
      Lib.hid (fun B0 w0 h h2 h3 => ((HA.out B0 w0 h (Nat.le_trans h3 HBW.out)).trans (b2.mono h3)).setCell (p := ⟨g2, 0, none⟩) h2 _)
    have HG2 : Hid (∀ j, j ≠ g2 → j < B → (w2.setCell ⟨g2, 0, none⟩ (.slice (some ⟨g, 0, none⟩) m cap)).heap[j]? = w.heap[j]?) :=
      Lib.hid (fun j h1 h2 => by rw [Below.heap_setCell w2 ⟨g2, 0, none⟩ _ j h1, b2.block j h2, HG.out j (Nat.lt_of_lt_of_le h2 HBW.out)])
    clear o2 b2 hV2 HV
    go_wp2_with fail
    exact leave0 rfl rfl ⟨rfl, _, HZ.out, by first | exact HO2.out | (rw [if_pos rfl]; exact HO2.out), HB2.out, HG2.out⟩
theorem load_row17 (w : World) (g : Nat) (p : Option Addr) (n c : Nat) (hb : CB w g 22 #[.slice p n c]) : (loadVar 22 ⟨g, 0, none⟩).run Try.prog w = .ok (.slice p n c) w := by
  have c := hb.cell 0
  simp only [List.getElem?_toArray, List.getElem?_cons_zero] at c
  have u3 := Try.underlying22
  have a3 := Try.isAgg22
  have z3 := Try.sizeOf22
  unfold loadVar
  go_simp
theorem results_row17 {fn : Func} {p : Tmp} (h : fn.results = #[.cell p 22]) (tmps : Array Value) (w : World) (g : Nat) (q : Option Addr) (n c : Nat)
    (hp : tmps.getD p undef = .pointer (some ⟨g, 0, none⟩)) (hb : CB w g 22 #[.slice q n c]) : (results fn tmps).run Try.prog w = .ok (.slice q n c) w := by
  rw [results_cell1 h, hp]
  simp only [asAddr, Sem.run_pure, Result.andThen_ok]
  exact load_row17 w g q n c hb
/-- the boxes of a window, and its query -/
abbrev box4 (w : World) (a b : Int) : World := (((w.alloc (.cells #[.int .i64 a] 3)).alloc (.cells #[.int .i64 b] 3)).alloc (.cells #[.slice none 0 0] 22)).alloc (.cells #[.func (.func 49) #[] #[.pointer (some ⟨w.heap.size, 0, none⟩), .pointer (some ⟨w.heap.size + 1, 0, none⟩), .pointer (some ⟨w.heap.size + 1 + 1, 0, none⟩)]] 86)
theorem box4_size (w : World) (a b : Int) : (box4 w a b).heap.size = w.heap.size + 4 := by simp [box4]
theorem box4_below (w : World) (a b : Int) : Below w.heap.size w (box4 w a b) := below_al (below_al (below_al (below_al (Below.refl _ _) _) _) _) _
theorem box4_0 (w : World) (a b : Int) : CB (box4 w a b) w.heap.size 3 #[.int .i64 a] := (((CB.new _ _ _).alloc _).alloc _).alloc _
theorem box4_1 (w : World) (a b : Int) : CB (box4 w a b) (w.heap.size + 1) 3 #[.int .i64 b] := ((CB.new1 _ _ _ _).alloc _).alloc _
theorem box4_2 (w : World) (a b : Int) : CB (box4 w a b) (w.heap.size + 1 + 1) 22 #[.slice none 0 0] := (CB.new2 _ _ _ _ _).alloc _
set_option maxRecDepth 100000 in
set_option maxHeartbeats 4000000 in
theorem window_any (A : Option Addr) (l : List TP.Tick) (n cap : Nat) (a b : Int) (hn : n = l.length) (hl : l.length ≤ 1048576) (w : World) (hI : Ticks w A l) :
    Calls Try.prog 20 #[.slice A n cap, .int .i64 a, .int .i64 b] w fun e w' => ∃ v, e = .returned v ∧ OwnR w' w.heap.size 72 3 v ((TP.win l a b).map tickV) ∧ Below w.heap.size w w' := by
  subst hn
  have hlen := hI.len
  have hmf : ∀ (fn : Fn) (first cap : Array Value) (w : World), (Instr.makeFunc fn first cap).run Try.prog w = .ok (.func fn first cap) w := fun _ _ _ _ => rfl
  have eg : ∀ args w, (callFunc 49 args).run Try.prog w = .ok (.enter 49 args) w := enters_of Try.func49 (by kernel_rfl) rfl
  have C := Lib.hid (run17_any 49 eg #[.pointer (some ⟨w.heap.size, 0, none⟩), .pointer (some ⟨w.heap.size + 1, 0, none⟩), .pointer (some ⟨w.heap.size + 1 + 1, 0, none⟩)]
    (fun k ww => Below w.heap.size w ww ∧ CB ww w.heap.size 3 #[.int .i64 a] ∧ CB ww (w.heap.size + 1) 3 #[.int .i64 b] ∧ w.heap.size + 5 ≤ ww.heap.size + 1 ∧
      ∃ v, CB ww (w.heap.size + 1 + 1) 22 #[v] ∧ OwnR ww (w.heap.size + 5) 72 3 v ((TP.winU l a b k).map tickV)) A l l.length cap rfl w (box4 w a b) hI
    (fun k ww h => h.1) (fun k ww o h => ⟨below_al h.1 o, h.2.1.alloc o, h.2.2.1.alloc o, by have := h.2.2.2.1; simp; omega, by
      obtain ⟨v, h1, h2⟩ := h.2.2.2.2
      exact ⟨v, h1.alloc o, h2.alloc o⟩⟩)
    ⟨box4_below _ _ _, box4_0 _ _ _, box4_1 _ _ _, by rw [box4_size]; omega, _, box4_2 _ _ _, OwnR.nil _ _ _ _⟩
    (fun k hk ww h hlt => by
      obtain ⟨hb, k0, k1, hs, v, k2, ho⟩ := h
      rw [box4_size] at hlt
      have hw := TP.winU_len l a b k (by omega)
      refine (window1_any w.heap.size (w.heap.size + 1) (w.heap.size + 1 + 1) (w.heap.size + 5) (by omega) (by omega) (by omega) (TP.tAt l k) a b v _ ww k0 k1 k2 ho (by omega) (by rw [List.length_map]; omega)).mono ?_
      rintro e w' ⟨rfl, v', m2, mo, mb, mg⟩
      have hb' := mb _ _ hb (by omega) (by omega)
      have hsz := (mb ww.heap.size ww (Below.refl _ _))
      refine ⟨rfl, ⟨hb', (mg _ (by omega) (by omega)).trans k0, (mg _ (by omega) (by omega)).trans k1, ?_, v', m2, ?_⟩, ?_⟩
      · have h4 : w'.heap[w.heap.size + 4]? = ww.heap[w.heap.size + 4]? := mg _ (by omega) (by omega)
        have h5 : ww.heap[w.heap.size + 4]? ≠ none := by rw [Array.getElem?_eq_getElem (by omega)]; simp
        rw [← h4] at h5
        rcases Nat.lt_or_ge (w.heap.size + 4) w'.heap.size with h | h
        · omega
        · rw [Array.getElem?_eq_none h] at h5; exact absurd rfl h5
      · cases hi : QM.within (TP.tAt l k).time a b
        · rw [hi] at mo; rw [TP.winU_out hk hi]; exact mo
        · rw [hi] at mo; rw [TP.winU_in hk hi, List.map_append]; exact mo
      · rw [box4_size]; exact mg _ (by omega) (by omega)))
  rw [TP.winU_all] at C
  generalize (TP.win l a b).map tickV = rows at *
  clear hI eg
  go_enter Try.func20, Try.ntmps20
  go_wp2_with fail
  refine C.out.mono ?_
  rintro e w2 ⟨rfl, hb, k0, k1, hs, v, k2, ho⟩
  obtain ⟨p, m, c, rfl⟩ : ∃ p m c, v = .slice p m c := by
    rcases ho.form with ⟨rfl, _⟩ | ⟨g, cap, rfl, _⟩
    · exact ⟨_, _, _, rfl⟩
    · exact ⟨_, _, _, rfl⟩
  have c2 := k2.cell 0
  have r2 := k2.frozen 0
  simp only [List.getElem?_toArray, List.getElem?_cons_zero] at c2
  have HZ : Hid (CB (w2.setCell ⟨w.heap.size + 1 + 1, 0, none⟩ (.slice p m c)) (w.heap.size + 1 + 1) 22 #[.slice p m c]) := Lib.hid (by
    have := k2.set_ 0 (.slice p m c)
    simpa using this)
  have HO : Hid (OwnR (w2.setCell ⟨w.heap.size + 1 + 1, 0, none⟩ (.slice p m c)) w.heap.size 72 3 (.slice p m c) rows) :=
    Lib.hid ((ho.kept fun j hj _ => Below.heap_setCell w2 ⟨w.heap.size + 1 + 1, 0, none⟩ _ j (by show j ≠ w.heap.size + 1 + 1; omega)).lower (by omega))
  have HB := Lib.hid (hb.setCell (p := ⟨w.heap.size + 1 + 1, 0, none⟩) (by show w.heap.size ≤ w.heap.size + 1 + 1; omega) (.slice p m c))
  clear hb k0 k1 k2 ho hs
  go_wp2_with fail
  (try simp only [Exit.inBlock, Exit.then])
  exact bodyPost_ret (results_row17 rfl _ _ _ _ _ _ rfl HZ.out) rfl ⟨_, rfl, HO.out, HB.out⟩
end Go.Proofs.Ytaegapcccboinaa

/- Contracts of layer 1's small functions and of their references. -/
namespace Go.Proofs.Ytaegapcccboinaa
open Go.RowKit

theorem fits_any (n : Int) (w : World) :
    Calls Try.prog 71 #[.int .i64 n] w fun e w' => e = .returned (.bool (CM.fits n)) ∧ w = w' := by
  by_cases h1 : -1152921504606846976 ≤ n
  · by_cases h2 : n ≤ 1152921504606846976
    · have h : CM.fits n = true := CM.fits_true.2 ⟨h1, h2⟩
      rw [h]; clear h
      go_enter Try.func71, Try.ntmps71
      go_wp2
      go_ret
      exact ⟨rfl, rfl⟩
    · have h : CM.fits n = false := CM.fits_false.2 (by omega)
      rw [h]; clear h
      go_enter Try.func71, Try.ntmps71
      go_wp2
      go_ret
      exact ⟨rfl, rfl⟩
  · have h : CM.fits n = false := CM.fits_false.2 (by omega)
    rw [h]; clear h
    go_enter Try.func71, Try.ntmps71
    go_wp2
    go_ret
    exact ⟨rfl, rfl⟩

theorem rfits_any (n : Int) (w : World) :
    Calls Try.prog 76 #[.int .i64 n] w fun e w' => e = .returned (.bool (CM.fits n)) ∧ w = w' := by
  by_cases h1 : -1152921504606846976 ≤ n
  · by_cases h2 : n ≤ 1152921504606846976
    · have h : CM.fits n = true := CM.fits_true.2 ⟨h1, h2⟩
      rw [h]; clear h
      go_enter Try.func76, Try.ntmps76
      go_wp2
      go_ret
      exact ⟨rfl, rfl⟩
    · have h : CM.fits n = false := CM.fits_false.2 (by omega)
      rw [h]; clear h
      go_enter Try.func76, Try.ntmps76
      go_wp2
      go_ret
      exact ⟨rfl, rfl⟩
  · have h : CM.fits n = false := CM.fits_false.2 (by omega)
    rw [h]; clear h
    go_enter Try.func76, Try.ntmps76
    go_wp2
    go_ret
    exact ⟨rfl, rfl⟩

theorem fitting_any (n : Int) (w : World) :
    Calls Try.prog 75 #[.int .i64 n] w fun e w' => e = .returned (.tuple #[.int .i64 (CM.fitN n), .int .i64 (CM.fitE n)]) ∧ w = w' := by
  cases h : CM.fits n
  · have hn : CM.fitN n = 0 := by simp [CM.fitN, h]
    have he : CM.fitE n = 3 := by simp [CM.fitE, h]
    rw [hn, he]; clear hn he
    go_enter Try.func75, Try.ntmps75
    go_wp2_with (go_at_call 71; refine (fits_any _ _).mono ?_; rintro e w' ⟨rfl, rfl⟩)
    go_ret2
    exact ⟨rfl, rfl⟩
  · have hn : CM.fitN n = n := by simp [CM.fitN, h]
    have he : CM.fitE n = 0 := by simp [CM.fitE, h]
    rw [hn, he]; clear hn he
    go_enter Try.func75, Try.ntmps75
    go_wp2_with (go_at_call 71; refine (fits_any _ _).mono ?_; rintro e w' ⟨rfl, rfl⟩)
    go_ret2
    exact ⟨rfl, rfl⟩

theorem clamp_any (n low high : Int) (w : World) :
    Calls Try.prog 51 #[.int .i64 n, .int .i64 low, .int .i64 high] w fun e w' => e = .returned (.int .i64 (CM.clamp n low high)) ∧ w = w' := by
  by_cases h1 : n < low
  · have h : CM.clamp n low high = low := by simp [CM.clamp, h1]
    rw [h]; clear h
    go_enter Try.func51, Try.ntmps51
    go_wp2
    go_ret
    exact ⟨rfl, rfl⟩
  · by_cases h2 : high < low
    · have h : CM.clamp n low high = low := by simp [CM.clamp, h2]
      rw [h]; clear h
      go_enter Try.func51, Try.ntmps51
      go_wp2
      go_ret
      exact ⟨rfl, rfl⟩
    · by_cases h3 : high < n
      · have h : CM.clamp n low high = high := by simp [CM.clamp, h1, h2, h3]
        rw [h]; clear h
        go_enter Try.func51, Try.ntmps51
        go_wp2
        go_ret
        exact ⟨rfl, rfl⟩
      · have h : CM.clamp n low high = n := by simp [CM.clamp, h1, h2, h3]
        rw [h]; clear h
        go_enter Try.func51, Try.ntmps51
        go_wp2
        go_ret
        exact ⟨rfl, rfl⟩

theorem rclamp_any (n low high : Int) (w : World) :
    Calls Try.prog 53 #[.int .i64 n, .int .i64 low, .int .i64 high] w fun e w' => e = .returned (.int .i64 (CM.clamp n low high)) ∧ w = w' := by
  by_cases h2 : high < low
  · have h : CM.clamp n low high = low := by simp [CM.clamp, h2]
    rw [h]; clear h
    go_enter Try.func53, Try.ntmps53
    go_wp2
    go_ret
    exact ⟨rfl, rfl⟩
  · by_cases h1 : n < low
    · have h : CM.clamp n low high = low := by simp [CM.clamp, h1]
      rw [h]; clear h
      go_enter Try.func53, Try.ntmps53
      go_wp2
      go_ret
      exact ⟨rfl, rfl⟩
    · by_cases h3 : high < n
      · have h : CM.clamp n low high = high := by simp [CM.clamp, h1, h2, h3]
        rw [h]; clear h
        go_enter Try.func53, Try.ntmps53
        go_wp2
        go_ret
        exact ⟨rfl, rfl⟩
      · have h : CM.clamp n low high = n := by simp [CM.clamp, h1, h2, h3]
        rw [h]; clear h
        go_enter Try.func53, Try.ntmps53
        go_wp2
        go_ret
        exact ⟨rfl, rfl⟩

theorem size_any (n : Int) (w : World) (h1 : -1152921504606846976 ≤ n) (h2 : n ≤ 1152921504606846976) :
    Calls Try.prog 73 #[.int .i64 n] w fun e w' => e = .returned (.int .i64 (CM.size n)) ∧ w = w' := by
  by_cases h : n < 0
  · have hs : CM.size n = -n := by simp [CM.size, h]
    rw [hs]; clear hs
    go_enter Try.func73, Try.ntmps73
    go_wp2
    go_ret
    exact ⟨rfl, rfl⟩
  · have hs : CM.size n = n := by simp [CM.size, h]
    rw [hs]; clear hs
    go_enter Try.func73, Try.ntmps73
    go_wp2
    go_ret
    exact ⟨rfl, rfl⟩

theorem rsize_any (n : Int) (w : World) (h1 : -1152921504606846976 ≤ n) (h2 : n ≤ 1152921504606846976) :
    Calls Try.prog 78 #[.int .i64 n] w fun e w' => e = .returned (.int .i64 (CM.size n)) ∧ w = w' := by
  by_cases h : n < 0
  · have hs : CM.size n = -n := by simp [CM.size, h]
    rw [hs]; clear hs
    go_enter Try.func78, Try.ntmps78
    go_wp2
    go_ret
    exact ⟨rfl, rfl⟩
  · have hs : CM.size n = n := by simp [CM.size, h]
    rw [hs]; clear hs
    go_enter Try.func78, Try.ntmps78
    go_wp2
    go_ret
    exact ⟨rfl, rfl⟩
end Go.Proofs.Ytaegapcccboinaa

namespace Go.Proofs.Ytaegapcccboinaa
open Go.RowKit

theorem ofInt_i64 (a : Nat) (ha : a < 9223372036854775808) : (BitVec.ofInt 64 (a : Int)).toNat = a := by
  rw [BitVec.ofInt_natCast, BitVec.toNat_ofNat]; exact Nat.mod_eq_of_lt (by omega)
theorem i64_and_nat (a b : Nat) (ha : a < 9223372036854775808) (hb : b < 9223372036854775808) : bits .and .i64 (a : Int) (b : Int) = ((a &&& b : Nat) : Int) := by
  have hx : a &&& b < 2 ^ 63 := Nat.and_lt_two_pow _ (by omega)
  show IntKind.i64.wrap ((BitVec.ofInt 64 (a : Int) &&& BitVec.ofInt 64 (b : Int)).toNat : Int) = _
  rw [BitVec.toNat_and, ofInt_i64 a ha, ofInt_i64 b hb, IntKind.wrap_i64]
  omega

theorem div_pow_le (a j : Nat) : a / 2 ^ j ≤ a := Nat.div_le_self _ _

theorem bit_test (a k : Nat) (ha : a ≤ 1152921504606846976) :
    (bits BinOp.and IntKind.i64 ((a : Int) / 2 ^ (60 - k)) 1 == 1) = decide (CM.bitAt a k = 1) := by
  have e : ((a : Int) / 2 ^ (60 - k)) = ((a / 2 ^ (60 - k) : Nat) : Int) := by
    rw [Int.natCast_ediv, Int.natCast_pow]; rfl
  have hl := div_pow_le a (60 - k)
  have h := i64_and_nat (a / 2 ^ (60 - k)) 1 (by omega) (by omega)
  rw [e, show (1 : Int) = ((1 : Nat) : Int) from rfl, h, Nat.and_one_is_mod]
  unfold CM.bitAt
  generalize a / 2 ^ (60 - k) % 2 = t
  rw [Bool.eq_iff_iff]; simp; omega

theorem bit_test2 (a k : Nat) :
    ((((a : Int) / 2 ^ (60 - k)).tmod 2) == 1) = decide (CM.bitAt a k = 1) := by
  have e : ((a : Int) / 2 ^ (60 - k)) = ((a / 2 ^ (60 - k) : Nat) : Int) := by
    rw [Int.natCast_ediv, Int.natCast_pow]; rfl
  rw [e, Int.tmod_eq_emod_of_nonneg (Int.natCast_nonneg _)]
  unfold CM.bitAt
  generalize a / 2 ^ (60 - k) = t
  rw [Bool.eq_iff_iff]; simp; omega

set_option maxHeartbeats 400000 in
theorem divide_any (a b c : Nat) (w : World) (ha : a ≤ 1152921504606846976) (hb : b ≤ 1152921504606846976) (hc0 : 0 < c) (hc : c ≤ 1152921504606846976) :
    Calls Try.prog 72 #[.int .i64 a, .int .i64 b, .int .i64 c] w fun e w' => e = .returned (.tuple #[.int .i64 (CM.dq a b c), .int .i64 (CM.dr a b c), .bool (CM.dok a b c)]) ∧ ∃ n, w' = w.drewN n := by
  go_enter Try.func72, Try.ntmps72
  go_wp2
  go_loopw [6, 7, 10] (fun q r i wr => ∃ k : Nat, ∃ x y : Int, k ≤ 61 ∧ i = .int .i64 k ∧ q = .int .i64 x ∧ r = .int .i64 y ∧ CM.DInv a b c k x y ∧ ∃ n, wr = w.drewN n) (fun _ _ i _ => 61 - (intOf i).toNat)
  case atStart => exact ⟨0, 0, 0, by omega, rfl, rfl, rfl, CM.DInv.start a b c ha, 0, rfl⟩
  case round =>
    obtain ⟨k, x, y, hk, rfl, rfl, rfl, hD, n, rfl⟩ := hrel
    obtain ⟨hx0, hx1, hy0, hy1⟩ := hD.bounds hc0
    by_cases hlt : k < 61
    · have ht := bit_test a k ha
      rcases CM.bit_01 a k with h0 | h1
      · rw [show decide (CM.bitAt a k = 1) = false from by simp [h0]] at ht
        obtain ⟨s1, s2⟩ := hD.step0 hlt hc0 h0
        have S1 := Lib.hid s1; have S2 := Lib.hid s2
        clear h0 s1 s2
        obtain ⟨q0, q1⟩ := IntWalk.tdiv_le (2 * y) c (by omega) (by omega)
        have e1 : wrap64 (2 * x + 2 * y / (c : Int)) = 2 * x + 2 * y / (c : Int) := IntWalk.wrap64_in _ (by omega)
        have hlow : 0 ≤ 2 * x + 2 * y / (c : Int) := by omega
        cases hf : CM.fits (2 * x + 2 * y / (c : Int))
        · have HN : Hid (1152921504606846976 < a * b / c) := S2.out (by rcases CM.fits_false.1 hf with h | h <;> omega)
          go_wp2
          go_quiet (fail)
          go_wp2_with (go_at_call 71; refine (fits_any _ _).mono ?_; rintro e w' ⟨rfl, rfl⟩)
          go_ret3
          obtain ⟨n1, n2, n3⟩ := CM.dok_no HN.out
          exact ⟨by rw [n1, n2, n3]; rfl, _, rfl⟩
        · have HY := Lib.hid (S1.out (CM.fits_true.1 hf).2)
          go_wp2
          go_quiet (fail)
          go_wp2_with (go_at_call 71; refine (fits_any _ _).mono ?_; rintro e w' ⟨rfl, rfl⟩)
          go_roundw
          case rel => exact ⟨k + 1, _, _, by omega, by go_num, rfl, rfl, HY.out, _, rfl⟩
          case measure => simp [intOf]; omega
      · rw [show decide (CM.bitAt a k = 1) = true from by simp [h1]] at ht
        obtain ⟨s1, s2⟩ := hD.step1 hlt hc0 h1
        have S1 := Lib.hid s1; have S2 := Lib.hid s2
        clear h1 s1 s2
        obtain ⟨p0, p1⟩ := IntWalk.tdiv_le (b : Int) c (by omega) (by omega)
        have m0 : 0 ≤ (b : Int) % (c : Int) := Int.emod_nonneg _ (by omega)
        have m1 : (b : Int) % (c : Int) < c := Int.emod_lt_of_pos _ (by omega)
        have hy2 : 0 ≤ 2 * y + (b : Int) % (c : Int) := by omega
        obtain ⟨q0, q1⟩ := IntWalk.tdiv_le (2 * y + (b : Int) % (c : Int)) c (by omega) (by omega)
        have e0 : wrap64 ((b : Int) / (c : Int)) = (b : Int) / (c : Int) := IntWalk.wrap64_in _ (by omega)
        have e1 : wrap64 (2 * x + (b : Int) / (c : Int)) = 2 * x + (b : Int) / (c : Int) := IntWalk.wrap64_in _ (by omega)
        have e2 : wrap64 (2 * y + (b : Int) % (c : Int)) = 2 * y + (b : Int) % (c : Int) := IntWalk.wrap64_in _ (by omega)
        have hq3 : (2 * y + (b : Int) % (c : Int)) / (c : Int) ≤ 3 := by
          have : (2 * y + (b : Int) % (c : Int)) < 4 * (c : Int) := by omega
          have := Int.ediv_lt_of_lt_mul (by omega) this
          omega
        have e3 : wrap64 ((2 * y + (b : Int) % (c : Int)) / (c : Int)) = (2 * y + (b : Int) % (c : Int)) / (c : Int) := IntWalk.wrap64_in _ (by omega)
        have e4 : wrap64 (2 * x + (b : Int) / (c : Int) + (2 * y + (b : Int) % (c : Int)) / (c : Int)) = 2 * x + (b : Int) / (c : Int) + (2 * y + (b : Int) % (c : Int)) / (c : Int) := IntWalk.wrap64_in _ (by omega)
        have e5 : (2 * y + (b : Int) % (c : Int)).tdiv (c : Int) = (2 * y + (b : Int) % (c : Int)) / (c : Int) := Int.tdiv_eq_ediv_of_nonneg hy2
        have e6 : (2 * y + (b : Int) % (c : Int)).tmod (c : Int) = (2 * y + (b : Int) % (c : Int)) % (c : Int) := Int.tmod_eq_emod_of_nonneg hy2
        have hlow : 0 ≤ 2 * x + (b : Int) / (c : Int) + (2 * y + (b : Int) % (c : Int)) / (c : Int) := by omega
        cases hf : CM.fits (2 * x + (b : Int) / (c : Int) + (2 * y + (b : Int) % (c : Int)) / (c : Int))
        · have HN : Hid (1152921504606846976 < a * b / c) := S2.out (by rcases CM.fits_false.1 hf with h | h <;> omega)
          go_wp2
          go_quiet (fail)
          go_wp2
          go_quiet (fail)
          go_wp2_with (go_at_call 71; refine (fits_any _ _).mono ?_; rintro e w' ⟨rfl, rfl⟩)
          go_ret3
          obtain ⟨n1, n2, n3⟩ := CM.dok_no HN.out
          exact ⟨by rw [n1, n2, n3]; rfl, _, rfl⟩
        · have HY := Lib.hid (S1.out (CM.fits_true.1 hf).2)
          go_wp2
          go_quiet (fail)
          go_wp2
          go_quiet (fail)
          go_wp2_with (go_at_call 71; refine (fits_any _ _).mono ?_; rintro e w' ⟨rfl, rfl⟩)
          go_roundw
          case rel => exact ⟨k + 1, _, _, by omega, by go_num, rfl, rfl, (by simpa using HY.out), _, rfl⟩
          case measure => simp [intOf]; omega
    · obtain rfl : k = 61 := by omega
      obtain ⟨d1, d2, d3⟩ := hD.done
      have D1 := Lib.hid d1; have D2 := Lib.hid d2; have D3 := Lib.hid d3
      clear d1 d2 d3
      go_wp2
      go_ret3
      exact ⟨by rw [← D1.out, ← D2.out, D3.out]; rfl, _, rfl⟩

theorem divide_int (a b c : Int) (w : World) (a0 : 0 ≤ a) (ha : a ≤ 1152921504606846976) (b0 : 0 ≤ b) (hb : b ≤ 1152921504606846976) (hc0 : 0 < c) (hc : c ≤ 1152921504606846976) :
    Calls Try.prog 72 #[.int .i64 a, .int .i64 b, .int .i64 c] w fun e w' => e = .returned (.tuple #[.int .i64 (CM.dq a.toNat b.toNat c.toNat), .int .i64 (CM.dr a.toNat b.toNat c.toNat), .bool (CM.dok a.toNat b.toNat c.toNat)]) ∧ ∃ n, w' = w.drewN n := by
  obtain ⟨x, rfl⟩ := Int.eq_ofNat_of_zero_le a0
  obtain ⟨y, rfl⟩ := Int.eq_ofNat_of_zero_le b0
  obtain ⟨z, rfl⟩ := Int.eq_ofNat_of_zero_le (Int.le_of_lt hc0)
  rw [Int.toNat_natCast, Int.toNat_natCast, Int.toNat_natCast]
  exact divide_any x y z w (by omega) (by omega) (by omega) (by omega)

set_option maxHeartbeats 400000 in
theorem rquotient_nat (a b c : Nat) (w : World) (ha : a ≤ 1152921504606846976) (hb : b ≤ 1152921504606846976) (hc0 : 0 < c) (hc : c ≤ 1152921504606846976) :
    Calls Try.prog 77 #[.int .i64 a, .int .i64 b, .int .i64 c] w fun e w' => e = .returned (.tuple #[.int .i64 (CM.rq a b c), .int .i64 (CM.rr a b c)]) ∧ w = w' := by
  go_enter Try.func77, Try.ntmps77
  go_wp2
  go_loop [8, 9, 10] (fun q r i => ∃ k : Nat, ∃ x y : Int, k ≤ 61 ∧ i = .int .i64 (60 - (k : Int)) ∧ q = .int .i64 x ∧ r = .int .i64 y ∧ CM.RInv a b c k x y) (fun _ _ i => (intOf i + 1).toNat)
  case atStart => exact ⟨0, 0, 0, by omega, rfl, rfl, rfl, CM.RInv.start a b c ha⟩
  case round =>
    obtain ⟨k, x, y, hk, rfl, rfl, rfl, hD⟩ := hrel
    obtain ⟨hx0, hx1, hy0, hy1⟩ := hD.bounds hc0
    by_cases hlt : k < 61
    · have ht := bit_test2 a k
      rcases CM.bit_01 a k with h0 | h1
      · rw [show decide (CM.bitAt a k = 1) = false from by simp [h0]] at ht
        obtain ⟨s1, s2⟩ := hD.step hlt hc0 (2 * y) (by rw [h0]; omega)
        have S1 := Lib.hid s1; have S2 := Lib.hid s2
        clear h0 s1 s2
        obtain ⟨q0, q1⟩ := IntWalk.tdiv_le (2 * y) c (by omega) (by omega)
        have e1 : wrap64 (2 * x + 2 * y / (c : Int)) = 2 * x + 2 * y / (c : Int) := IntWalk.wrap64_in _ (by omega)
        by_cases hf : 2305843009213693952 < 2 * x + 2 * y / (c : Int)
        · have HN := Lib.hid (S2.out hf)
          go_wp2
          go_round
          case rel => exact ⟨k + 1, _, _, by omega, by go_num, rfl, rfl, HN.out⟩
          case measure => simp [intOf]; omega
        · have HN := Lib.hid (S1.out (by omega))
          go_wp2
          go_round
          case rel => exact ⟨k + 1, _, _, by omega, by go_num, rfl, rfl, HN.out⟩
          case measure => simp [intOf]; omega
      · rw [show decide (CM.bitAt a k = 1) = true from by simp [h1]] at ht
        obtain ⟨s1, s2⟩ := hD.step hlt hc0 (2 * y + b) (by rw [h1]; omega)
        have S1 := Lib.hid s1; have S2 := Lib.hid s2
        clear h1 s1 s2
        obtain ⟨q0, q1⟩ := IntWalk.tdiv_le (2 * y + b) c (by omega) (by omega)
        have e1 : wrap64 (2 * x + (2 * y + b) / (c : Int)) = 2 * x + (2 * y + b) / (c : Int) := IntWalk.wrap64_in _ (by omega)
        by_cases hf : 2305843009213693952 < 2 * x + (2 * y + b) / (c : Int)
        · have HN := Lib.hid (S2.out hf)
          go_wp2
          go_round
          case rel => exact ⟨k + 1, _, _, by omega, by go_num, rfl, rfl, HN.out⟩
          case measure => simp [intOf]; omega
        · have HN := Lib.hid (S1.out (by omega))
          go_wp2
          go_round
          case rel => exact ⟨k + 1, _, _, by omega, by go_num, rfl, rfl, HN.out⟩
          case measure => simp [intOf]; omega
    · obtain rfl : k = 61 := by omega
      obtain ⟨d1, d2⟩ := hD.done
      have D1 := Lib.hid d1; have D2 := Lib.hid d2
      clear d1 d2
      go_wp2
      go_ret2
      exact ⟨by rw [← D1.out, ← D2.out]; rfl, rfl⟩

theorem rquotient_any (a b c : Int) (w : World) (a0 : 0 ≤ a) (ha : a ≤ 1152921504606846976) (b0 : 0 ≤ b) (hb : b ≤ 1152921504606846976) (hc0 : 0 < c) (hc : c ≤ 1152921504606846976) :
    Calls Try.prog 77 #[.int .i64 a, .int .i64 b, .int .i64 c] w fun e w' => e = .returned (.tuple #[.int .i64 (CM.rq a.toNat b.toNat c.toNat), .int .i64 (CM.rr a.toNat b.toNat c.toNat)]) ∧ w = w' := by
  obtain ⟨x, rfl⟩ := Int.eq_ofNat_of_zero_le a0
  obtain ⟨y, rfl⟩ := Int.eq_ofNat_of_zero_le b0
  obtain ⟨z, rfl⟩ := Int.eq_ofNat_of_zero_le (Int.le_of_lt hc0)
  rw [Int.toNat_natCast, Int.toNat_natCast, Int.toNat_natCast]
  exact rquotient_nat x y z w (by omega) (by omega) (by omega) (by omega)
end Go.Proofs.Ytaegapcccboinaa
