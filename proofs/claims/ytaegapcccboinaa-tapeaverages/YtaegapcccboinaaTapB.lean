/- Contracts of layer 17: the closures of totals and Range; totals, Range. -/
import Derived.Test.YtaegapcccboinaaTapA
import Derived.Laws.EntriesVeiled
import Derived.Shelf.Abstract
namespace Go.Proofs.Ytaegapcccboinaa
open Go.RowKit Go.Recs
set_option linter.unusedVariables false
set_option linter.unusedSimpArgs false
/-- of what was there only the boxes g0 and g1 are written over -/
structure Twin (w w' : World) (g0 g1 : Nat) (v0 v1 : Value) : Prop where
  below : ∀ B w0, Below B w0 w → B ≤ g0 → B ≤ g1 → B ≤ w.heap.size → Below B w0 w'
  c0 : CB w' g0 3 #[v0]
  c1 : CB w' g1 3 #[v1]
  other : ∀ g, g ≠ g0 → g ≠ g1 → g < w.heap.size → w'.heap[g]? = w.heap[g]?
theorem Twin.of {w : World} {g0 g1 : Nat} {a b : Value} (c0 : CB w g0 3 #[a]) (c1 : CB w g1 3 #[b]) (hne : g0 ≠ g1) (o : Obj) (v0 v1 : Value) :
    Twin w (((w.alloc o).setCell ⟨g0, 0, none⟩ v0).setCell ⟨g1, 0, none⟩ v1) g0 g1 v0 v1 := by
  refine ⟨fun B w0 h h0 h1 hB => ((h.alloc hB o).setCell (p := ⟨g0, 0, none⟩) h0 _).setCell (p := ⟨g1, 0, none⟩) h1 _, ?_, ?_, fun g n0 n1 hg => ?_⟩
  · have := ((c0.alloc o).set_ 0 v0).far (p := ⟨g1, 0, none⟩) hne v1
    simpa using this
  · have := ((c1.alloc o).far (p := ⟨g0, 0, none⟩) (Ne.symm hne) v0).set_ 0 v1
    simpa using this
  · rw [Below.heap_setCell _ ⟨g1, 0, none⟩ _ g n1, Below.heap_setCell _ ⟨g0, 0, none⟩ _ g n0, Below.heap_alloc _ _ _ hg]
theorem Twin.drew {w w' : World} {g0 g1 : Nat} {v0 v1 : Value} (h : Twin w w' g0 g1 v0 v1) : Twin w w'.drew g0 g1 v0 v1 := ⟨fun B w0 a b c d => (h.below B w0 a b c d).drew, h.c0, h.c1, h.other⟩
theorem load_int (w : World) (g : Nat) (n : Int) (hb : CB w g 3 #[.int .i64 n]) : (loadVar 3 ⟨g, 0, none⟩).run Try.prog w = .ok (.int .i64 n) w := by
  have c := hb.cell 0
  simp only [List.getElem?_toArray, List.getElem?_cons_zero] at c
  have u3 := Try.underlying3
  have a3 := Try.isAgg3
  have z3 := Try.sizeOf3
  unfold loadVar
  go_simp
theorem results_ints2 {fn : Func} {p q : Tmp} (h : fn.results = #[.cell p 3, .cell q 3]) (tmps : Array Value) (w : World) (g j : Nat) (x y : Int)
    (hp : tmps.getD p undef = .pointer (some ⟨g, 0, none⟩)) (hq : tmps.getD q undef = .pointer (some ⟨j, 0, none⟩)) (hb : CB w g 3 #[.int .i64 x]) (hc : CB w j 3 #[.int .i64 y]) :
    (results fn tmps).run Try.prog w = .ok (.tuple #[.int .i64 x, .int .i64 y]) w := by
  rw [results_cell2 h, hp]
  simp only [asAddr, Sem.run_pure, Result.andThen_ok]
  rw [load_int w g x hb]
  simp only [Result.andThen_ok, hq, asAddr, Sem.run_pure]
  rw [load_int w j y hc]
  rfl
theorem results_cell2_tmp {fn : Func} {p q u : Tmp} {ty tz : TypeId} (h : fn.results = #[.cell p ty, .cell q tz, .tmp u]) (tmps : Array Value) (P : Program) (w : World) :
    (results fn tmps).run P w = ((asAddr (tmps.getD p undef)).run P w).andThen fun a w₁ => ((loadVar ty a).run P w₁).andThen fun v w₂ => ((asAddr (tmps.getD q undef)).run P w₂).andThen fun b w₃ => ((loadVar tz b).run P w₃).andThen fun z w₄ => .ok (.tuple #[v, z, tmps.getD u undef]) w₄ := by
  simp only [results, h]
  simp [Sem.run_bind, Result.andThen]
theorem results_ints3 {fn : Func} {p q u : Tmp} (h : fn.results = #[.cell p 3, .cell q 3, .tmp u]) (tmps : Array Value) (w : World) (g j : Nat) (x y : Int) (z : Value)
    (hp : tmps.getD p undef = .pointer (some ⟨g, 0, none⟩)) (hq : tmps.getD q undef = .pointer (some ⟨j, 0, none⟩)) (hu : tmps.getD u undef = z) (hb : CB w g 3 #[.int .i64 x]) (hc : CB w j 3 #[.int .i64 y]) :
    (results fn tmps).run Try.prog w = .ok (.tuple #[.int .i64 x, .int .i64 y, z]) w := by
  rw [results_cell2_tmp h, hp]
  simp only [asAddr, Sem.run_pure, Result.andThen_ok]
  rw [load_int w g x hb]
  simp only [Result.andThen_ok, hq, asAddr, Sem.run_pure]
  rw [load_int w j y hc]
  simp only [Result.andThen_ok, hu]
set_option maxRecDepth 100000 in
set_option maxHeartbeats 4000000 in
theorem totals1_any (g0 g1 : Nat) (hne : g0 ≠ g1) (t : TP.Tick) (a b : Int) (w : World) (h0 : CB w g0 3 #[.int .i64 a]) (h1 : CB w g1 3 #[.int .i64 b])
    (ha : -9223372036854775808 ≤ a + t.qty ∧ a + t.qty ≤ 9223372036854775807) (hm : -9223372036854775808 ≤ t.price * t.qty ∧ t.price * t.qty ≤ 9223372036854775807) (hb : -9223372036854775808 ≤ b + t.price * t.qty ∧ b + t.price * t.qty ≤ 9223372036854775807) :
    Calls Try.prog 70 #[tickA t, .pointer (some ⟨g0, 0, none⟩), .pointer (some ⟨g1, 0, none⟩)] w fun e w' => e = .returned (.tuple #[]) ∧ Twin w w' g0 g1 (.int .i64 (a + t.qty)) (.int .i64 (b + t.price * t.qty)) := by
  have HT := Lib.hid (Twin.of h0 h1 hne (.cells (tickC t) 72) (.int .i64 (a + t.qty)) (.int .i64 (b + t.price * t.qty)))
  have hX := CB.new w 72 (tickC t)
  have hY := h0.alloc (.cells (tickC t) 72)
  have hZ := h1.alloc (.cells (tickC t) 72)
  have f0 := hX.cell 0
  have f1 := hX.cell 1
  have f2 := hX.cell 2
  have c0 := hY.cell 0
  have c1 := hZ.cell 0
  have r0 := hY.frozen 0
  have r1 := hZ.frozen 0
  simp only [List.getElem?_toArray, List.getElem?_cons_zero, List.getElem?_cons_succ] at f0 f1 f2 c0 c1
  have n0 : ¬ g0 = w.heap.size := by have := h0.lt; omega
  have n1 : ¬ g1 = w.heap.size := by have := h1.lt; omega
  have n2 : ¬ w.heap.size = g0 := by have := h0.lt; omega
  have n3 : ¬ w.heap.size = g1 := by have := h1.lt; omega
  have n4 : ¬ g0 = g1 := hne
  have n5 : ¬ g1 = g0 := Ne.symm hne
  obtain ⟨wa, hwa⟩ : ∃ wa, w.alloc (.cells #[.int .i64 t.time, .int .i64 t.qty, .int .i64 t.price] 72) = wa := ⟨_, rfl⟩
  rw [hwa] at f0 f1 f2 c0 c1 r0 r1 HT
  obtain ⟨a1, a2⟩ := ha; obtain ⟨m1, m2⟩ := hm; obtain ⟨b1, b2⟩ := hb
  clear hX hY hZ h0 h1 hne
  go_enter Try.func70, Try.ntmps70
  go_wp2_with fail
  exact leave0 rfl rfl ⟨rfl, HT.out⟩
/-- two boxes and a query made -/
abbrev box3 (w : World) (a b : Int) (F : Nat) : World := ((w.alloc (.cells #[.int .i64 a] 3)).alloc (.cells #[.int .i64 b] 3)).alloc (.cells #[.func (.func F) #[] #[.pointer (some ⟨w.heap.size, 0, none⟩), .pointer (some ⟨w.heap.size + 1, 0, none⟩)]] 86)
theorem box3_size (w : World) (a b : Int) (F : Nat) : (box3 w a b F).heap.size = w.heap.size + 3 := by simp [box3]
theorem box3_below (w : World) (a b : Int) (F : Nat) : Below w.heap.size w (box3 w a b F) := below_al (below_al (below_al (Below.refl _ _) _) _) _
theorem box3_0 (w : World) (a b : Int) (F : Nat) : CB (box3 w a b F) w.heap.size 3 #[.int .i64 a] := ((CB.new _ _ _).alloc _).alloc _
theorem box3_1 (w : World) (a b : Int) (F : Nat) : CB (box3 w a b F) (w.heap.size + 1) 3 #[.int .i64 b] := (CB.new1 _ _ _ _).alloc _
theorem Twin.again {w : World} {g0 g1 : Nat} {a b : Value} (c0 : CB w g0 3 #[a]) (c1 : CB w g1 3 #[b]) (hne : g0 ≠ g1) {B : Nat} {w0 : World} (hb : Below B w0 w) (h0 : B ≤ g0) (h1 : B ≤ g1) (v0 v1 : Value) :
    Below B w0 ((w.setCell ⟨g0, 0, none⟩ v0).setCell ⟨g1, 0, none⟩ v1).drew ∧ CB ((w.setCell ⟨g0, 0, none⟩ v0).setCell ⟨g1, 0, none⟩ v1).drew g0 3 #[v0] ∧ CB ((w.setCell ⟨g0, 0, none⟩ v0).setCell ⟨g1, 0, none⟩ v1).drew g1 3 #[v1] := by
  refine ⟨((hb.setCell (p := ⟨g0, 0, none⟩) h0 _).setCell (p := ⟨g1, 0, none⟩) h1 _).drew, ?_, ?_⟩
  · have h : CB ((w.setCell ⟨g0, 0, none⟩ v0).setCell ⟨g1, 0, none⟩ v1) g0 3 #[v0] := by
      have := (c0.set_ 0 v0).far (p := ⟨g1, 0, none⟩) hne v1
      simpa using this
    exact h
  · have h : CB ((w.setCell ⟨g0, 0, none⟩ v0).setCell ⟨g1, 0, none⟩ v1) g1 3 #[v1] := by
      have := (c1.far (p := ⟨g0, 0, none⟩) (Ne.symm hne) v0).set_ 0 v1
      simpa using this
    exact h
set_option maxRecDepth 100000 in
set_option maxHeartbeats 4000000 in
theorem totals_any (A : Option Addr) (l : List TP.Tick) (n cap : Nat) (hn : n = l.length) (w : World) (hI : Ticks w A l) (hg : TP.Good l) :
    Calls Try.prog 38 #[.slice A n cap] w fun e w' => e = .returned (.tuple #[.int .i64 (TP.vol l), .int .i64 (TP.val l)]) ∧ Below w.heap.size w w' := by
  have hmf : ∀ (fn : Fn) (first cap : Array Value) (w : World), (Instr.makeFunc fn first cap).run Try.prog w = .ok (.func fn first cap) w := fun _ _ _ _ => rfl
  have eg : ∀ args w, (callFunc 70 args).run Try.prog w = .ok (.enter 70 args) w := enters_of Try.func70 (by kernel_rfl) rfl
  have C := Lib.hid (run17_any 70 eg #[.pointer (some ⟨w.heap.size, 0, none⟩), .pointer (some ⟨w.heap.size + 1, 0, none⟩)]
    (fun k ww => Below w.heap.size w ww ∧ CB ww w.heap.size 3 #[.int .i64 (TP.volU l k)] ∧ CB ww (w.heap.size + 1) 3 #[.int .i64 (TP.valU l k)]) A l n cap hn w (box3 w 0 0 70) hI
    (fun k ww h => h.1) (fun k ww o h => ⟨below_al h.1 o, h.2.1.alloc o, h.2.2.alloc o⟩) ⟨box3_below _ _ _ _, box3_0 _ _ _ _, box3_1 _ _ _ _⟩
    (fun k hk ww h hlt => by
      obtain ⟨hb, c0, c1⟩ := h
      rw [box3_size] at hlt
      have e1 := hg.each k hk
      have e2 := TP.mul_bound e1.2.2 e1.2.1
      have e3 := TP.vol_bounds hg k (by omega)
      have e4 := TP.val_bounds hg k (by omega)
      have hl := hg.len
      refine (totals1_any w.heap.size (w.heap.size + 1) (by omega) (TP.tAt l k) (TP.volU l k) (TP.valU l k) ww c0 c1 (by omega) (by omega) (by omega)).mono ?_
      rintro e w' ⟨rfl, T⟩
      refine ⟨rfl, ⟨T.below _ _ hb (Nat.le_refl _) (by omega) hb.size, ?_, ?_⟩, T.other _ (by rw [box3_size]; omega) (by rw [box3_size]; omega) (by rw [box3_size]; omega)⟩
      · rw [TP.volU_succ hk]; exact T.c0
      · rw [TP.valU_succ hk]; exact T.c1))
  rw [TP.volU_all, TP.valU_all] at C
  generalize TP.vol l = x at *
  generalize TP.val l = y at *
  subst hn
  have n0 : ¬ w.heap.size = w.heap.size + 1 := by omega
  have n1 : ¬ w.heap.size + 1 = w.heap.size := by omega
  clear hI hg eg
  go_enter Try.func38, Try.ntmps38
  go_wp2_with fail
  refine C.out.mono ?_
  rintro e w2 ⟨rfl, hb, h0, h1⟩
  have c0 := h0.cell 0
  have c1 := h1.cell 0
  have r0 := h0.frozen 0
  have r1 := h1.frozen 0
  simp only [List.getElem?_toArray, List.getElem?_cons_zero] at c0 c1
  have HZ := Lib.hid (Twin.again h0 h1 (by omega) hb (Nat.le_refl _) (by omega) (.int .i64 x) (.int .i64 y))
  clear hb h0 h1
  go_wp2_with fail
  go_region
  all_goals (
    go_wp2_with fail
    (try simp only [Exit.inBlock, Exit.then])
    exact bodyPost_ret (results_ints2 rfl _ _ _ _ _ _ rfl rfl HZ.out.2.1 HZ.out.2.2) rfl ⟨rfl, HZ.out.1⟩)
set_option maxRecDepth 100000 in
set_option maxHeartbeats 4000000 in
theorem range1_any (g0 g1 : Nat) (hne : g0 ≠ g1) (t : TP.Tick) (a b : Int) (w : World) (h0 : CB w g0 3 #[.int .i64 a]) (h1 : CB w g1 3 #[.int .i64 b]) :
    Calls Try.prog 47 #[tickA t, .pointer (some ⟨g0, 0, none⟩), .pointer (some ⟨g1, 0, none⟩)] w fun e w' => e = .returned (.tuple #[]) ∧ Twin w w' g0 g1 (.int .i64 (if t.price < a then t.price else a)) (.int .i64 (if b < t.price then t.price else b)) := by
  have HT := Lib.hid (fun v0 v1 => (Twin.of h0 h1 hne (.cells (tickC t) 72) v0 v1).drew)
  have hX := CB.new w 72 (tickC t)
  have hY := h0.alloc (.cells (tickC t) 72)
  have hZ := h1.alloc (.cells (tickC t) 72)
  have f0 := hX.cell 0
  have f1 := hX.cell 1
  have f2 := hX.cell 2
  have c0 := hY.cell 0
  have c1 := hZ.cell 0
  have r0 := hY.frozen 0
  have r1 := hZ.frozen 0
  simp only [List.getElem?_toArray, List.getElem?_cons_zero, List.getElem?_cons_succ] at f0 f1 f2 c0 c1
  have n0 : ¬ g0 = w.heap.size := by have := h0.lt; omega
  have n1 : ¬ g1 = w.heap.size := by have := h1.lt; omega
  have n2 : ¬ w.heap.size = g0 := by have := h0.lt; omega
  have n3 : ¬ w.heap.size = g1 := by have := h1.lt; omega
  have n4 : ¬ g0 = g1 := hne
  have n5 : ¬ g1 = g0 := Ne.symm hne
  obtain ⟨wa, hwa⟩ : ∃ wa, w.alloc (.cells #[.int .i64 t.time, .int .i64 t.qty, .int .i64 t.price] 72) = wa := ⟨_, rfl⟩
  rw [hwa] at f0 f1 f2 c0 c1 r0 r1 HT
  clear hX hY hZ h0 h1 hne
  by_cases ha : t.price < a
  · rw [if_pos ha]
    by_cases hb : b < t.price
    · rw [if_pos hb]
      go_enter Try.func47, Try.ntmps47
      go_wp2_with fail
      go_region
      all_goals (
        go_wp2_with fail
        exact leave0 rfl rfl ⟨rfl, HT.out _ _⟩)
    · rw [if_neg hb]
      have hb2 : t.price ≤ b := by omega
      go_enter Try.func47, Try.ntmps47
      go_wp2_with fail
      go_region
      all_goals (
        go_wp2_with fail
        exact leave0 rfl rfl ⟨rfl, HT.out _ _⟩)
  · rw [if_neg ha]
    have ha2 : a ≤ t.price := by omega
    by_cases hb : b < t.price
    · rw [if_pos hb]
      go_enter Try.func47, Try.ntmps47
      go_wp2_with fail
      go_region
      all_goals (
        go_wp2_with fail
        exact leave0 rfl rfl ⟨rfl, HT.out _ _⟩)
    · rw [if_neg hb]
      have hb2 : t.price ≤ b := by omega
      go_enter Try.func47, Try.ntmps47
      go_wp2_with fail
      go_region
      all_goals (
        go_wp2_with fail
        exact leave0 rfl rfl ⟨rfl, HT.out _ _⟩)
end Go.Proofs.Ytaegapcccboinaa
