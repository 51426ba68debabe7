import Derived.Test.YtagmknahmkniaabBun5
import Derived.Test.YtagmknahmkniaabBun7
import Derived.Test.YtagmknahmkniaabBun9
import Derived.Test.YtagmknahmkniaabBun12
import Derived.Test.YtagmknahmkniaabBun11
import Derived.Deep.RegionHeld3
namespace Go.Proofs.Ytagmknahmkniaab.topAverage
open Go.RowKit Go.Recs
set_option linter.unusedVariables false
set_option linter.unusedSimpArgs false
/-- 's = append(s, x, y)', the two new elements in a block of their own just made -/
theorem wpList_pair {ops : Array Oper} {rest : List Oper} {o : Oper} {a : Act} {Q : Exit → Act → World → Prop} (w : World) (n m : Int) (B : Nat) (zs : List Int) (s x : Operand)
    (hgd : o.guard = none) (ho : o.op = .call { callee := .builtin .append, args := #[s, x], argTypes := #[50, 50] })
    (v : Value) (hs : a.eval s = v) (hx : a.eval x = .slice (some ⟨w.heap.size, 0, none⟩) 2 2) (hown : Own w B v zs) (hl : zs.length < 1099511627776) (hB : B ≤ w.heap.size)
    (h : ∀ v' w', Own w' B v' (zs ++ [n, m]) → Below B w w' → wpList Try.prog ops Q rest (a.put o.dst v') w') :
    wpList Try.prog ops Q (o :: rest) a (w.alloc (.cells #[.int .i64 n, .int .i64 m] 3)) := by
  obtain ⟨i0, hi, hz0, hz1, hz2⟩ := info_parts info_int
  refine wpList_append_own (w.alloc (.cells #[.int .i64 n, .int .i64 m] 3)) hgd s x 50 ho B 3 i0 (.int .i64 0) 1 8 Try.underlying50 hi hz0 hz1 hz2 rfl (by decide) v zs.length (zs.map (Value.int .i64)) hs (Own.alloc hown _)
    ⟨w.heap.size, 0, none⟩ 2 2 [.int .i64 n, .int .i64 m] hx rfl ?_ ?_ (by unfold maxLen; omega) (by omega) (by simp; omega) ?_
  · intro j u hj
    match j, hj with
    | 0, hj => simp at hj; subst hj; simp [Addr.add]
    | 1, hj => simp at hj; subst hj; simp [Addr.add]
  · intro u hu; simp at hu; rcases hu with rfl | rfl <;> rfl
  · intro v' w' h1 h2 _
    have hg : w.grownBy w' v.ownBlock := (World.grownBy_alloc w _ v.ownBlock).trans h2
    exact h v' w' (by unfold Own; simpa using h1) ((Below.refl B w).grown hg hB (Own.block hown))
theorem fit_range {l : List Int} (h : CM.allFit l = true) : ∀ n ∈ l, -9223372036854775808 ≤ n ∧ n ≤ 9223372036854775807 := fun n hn => by
  have := CM.fits_true.1 (List.all_eq_true.1 h n hn)
  omega
theorem mul_cases {a b : Int} (ha : CM.fits a = true) (hb : CM.fits b = true) : (CM.mdN a b 1 1 = a * b ∧ CM.mdE a b 1 1 = 0 ∧ CM.fits (a * b) = true) ∨ (CM.mdN a b 1 1 = 0 ∧ CM.mdE a b 1 1 = 3) := by
  obtain ⟨h1, h2⟩ := CM.mul_spec ha hb
  rcases Int.lt_or_le 1152921504606846976 (CM.size a * CM.size b) with h | h
  · exact .inr (h2 h)
  · refine .inl ⟨(h1 h).1, (h1 h).2, ?_⟩
    rw [CM.size_mul] at h
    rw [CM.fits_true]
    unfold CM.size at h
    split at h <;> omega
theorem pbox_al {w : World} {g : Nat} {p : QM.Prod} (h : PBox w g p) (o : Obj) : PBox (w.alloc o) g p := h.below ((Below.refl w.heap.size w).alloc (Nat.le_refl _) o) h.lt
theorem evenL_range10 {l : List TM.Trd} {tick : Int} {p : List GM.Part} : ∀ n ∈ evenL l tick p, -9223372036854775808 ≤ n ∧ n ≤ 9223372036854775807 := by
  intro n hn
  unfold evenL at hn
  split at hn
  · rename_i he
    unfold evenE at he
    split at he
    · rename_i hp
      have hP := GM.pooled hp
      have hY := GM.even_pays hP he (pcost_any_bound hP.each hP.len.2)
      obtain ⟨k, hk, rfl⟩ := List.getElem_of_mem hn
      have := hY.all k (by rw [← hY.len]; exact hk)
      rw [List.getD_eq_getElem?_getD, List.getElem?_eq_getElem hk] at this
      simp at this
      omega
    · rename_i hp
      exact absurd he hp
  · simp at hn
/-- what a fair division of one price yields -/
structure Fair (p : QM.Prod) (l : List TM.Trd) (tick : Int) (ps : List GM.Part) (rs : List Int) (P : Int) : Prop where
  m : 1 ≤ p.mult ∧ p.mult ≤ 4096
  val : ∀ k, k < l.length → QM.valueE p (TM.tAt l k).price (TM.tAt l k).qty = 0 ∧ QM.valueN p (TM.tAt l k).price (TM.tAt l k).qty = (TM.tAt l k).price * p.mult * (TM.tAt l k).qty
  par : ∀ k, k < ps.length → QM.valueE p P (GM.pAt ps k).qty = 0 ∧ QM.valueN p P (GM.pAt ps k).qty = P * p.mult * (GM.pAt ps k).qty ∧ CM.fits (P * p.mult * (GM.pAt ps k).qty) = true
  cost : CM.allFit (GM.costL l p.mult) = true
  len : rs.length = ps.length
  rest : ∀ k, k < ps.length → CM.fits (rs.getD k 0) = true
  sum : LM.tot (GM.paidL ps rs P p.mult ps.length) = LM.tot (GM.costL l p.mult)
theorem value_ok {p : QM.Prod} {x q : Int} (hc : QM.checkE p = 0) (hx : -33554432 ≤ x ∧ x ≤ 33554432) (hq : -1048576 ≤ q ∧ q ≤ 1048576) : QM.valueE p x q = 0 ∧ QM.valueN p x q = x * p.mult * q := by
  have e : QM.valueE p x q = 0 := by unfold QM.valueE; rw [if_neg (by simp [hc]), if_neg (by rw [QM.within_true.2 hx]; simp), if_neg (by rw [QM.within_true.2 hq]; simp)]
  exact ⟨e, by unfold QM.valueN; rw [if_pos e]⟩
theorem fair {p : QM.Prod} {l : List TM.Trd} {tick : Int} {ps : List GM.Part} (hc : QM.checkE p = 0) (he : evenE l tick ps = 0) : Fair p l tick ps (evenL l tick ps) (evenP l tick ps) := by
  have hp : GM.poolE l tick = 0 := by
    unfold evenE at he
    split at he
    · assumption
    · rename_i h; exact absurd he h
  have hd : GM.partsE (GM.lots l) ps = 0 := by unfold evenE at he; rwa [if_pos hp] at he
  have hP := GM.pooled hp
  have hcb := pcost_any_bound hP.each hP.len.2
  have hY := GM.even_pays hP hd hcb
  have hA := GM.avg_range hP hcb
  obtain ⟨_, hq, _⟩ := GM.parts_inv hd
  have e1 : evenP l tick ps = GM.avgP l tick := by unfold evenP; rw [if_pos he]
  have e2 : evenL l tick ps = SM.splN (GM.avgR l tick) (ps.map (·.qty)) := by unfold evenL; rw [if_pos he]
  have hm := (QM.check_parts hc).2.2.1
  rw [e1, e2]
  generalize SM.splN (GM.avgR l tick) (ps.map (·.qty)) = rs at *
  have hpq : ∀ k, k < ps.length → 1 ≤ (GM.pAt ps k).qty ∧ (GM.pAt ps k).qty ≤ 1048576 := fun k hk => by rw [GM.pAt_get hk]; exact hq _ (List.getElem_mem hk)
  refine ⟨hm, fun k hk => ?_, fun k hk => ?_, GM.fit_costL hP.each hm, hY.len, fun k hk => ?_, ?_⟩
  · have h := hP.each (TM.tAt l k) (by simp [TM.tAt, List.getD, hk])
    exact value_ok hc (by omega) (by omega)
  · have h := hpq k hk
    have hv := value_ok (q := (GM.pAt ps k).qty) hc hA (by omega)
    exact ⟨hv.1, hv.2, GM.mul3_fits hA hm (by omega)⟩
  · have := hY.all k hk
    exact CM.fits_true.2 (by omega)
  · rw [GM.tot_paidL _ _ hY.len ps.length (Nat.le_refl _), hY.done, GM.tot_costL]
set_option maxHeartbeats 16000000 in
set_option maxRecDepth 100000 in
theorem walk (p : QM.Prod) (B : Option Addr) (ca : Nat) (l : List TM.Trd) (A : Option Addr) (cap : Nat) (q : GM.Avg) (w : World) (hp : prodQ p) (hL : Trds w B l ∧ l.length ≤ ca) (hq : Parts w A q.parts ∧ i64 q.tick) :
    Calls Try.prog 7 #[.agg #[.string p.name, .int .i64 p.cur, .int .i64 p.mult, .int .i64 p.tick, .int .i64 p.low, .int .i64 p.high, .bool p.phys], .slice B l.length ca, .agg #[.int .i64 q.tick, .slice A q.parts.length cap]] w fun e w' => e = .returned (.bool true) ∧ Below w.heap.size w w' := by
  have hlen := hL.1.len
  have hlenp := hq.1.len
  have CG := Lib.hid (fun ww => goes10_any ww)
  have HB0 := Lib.hid (below_al (below_al (Below.refl w.heap.size w) (.cells #[.string p.name, .int .i64 p.cur, .int .i64 p.mult, .int .i64 p.tick, .int .i64 p.low, .int .i64 p.high, .bool p.phys] 58)) (.cells #[.int .i64 q.tick, .slice A q.parts.length cap] 62))
  have HP0 : Hid (PBox ((w.alloc (.cells #[.string p.name, .int .i64 p.cur, .int .i64 p.mult, .int .i64 p.tick, .int .i64 p.low, .int .i64 p.high, .bool p.phys] 58)).alloc (.cells #[.int .i64 q.tick, .slice A q.parts.length cap] 62)) w.heap.size p) := Lib.hid (pbox_al (PBox.new w p) _)
  have HX0 := Lib.hid (CB.new1 w (.cells #[.string p.name, .int .i64 p.cur, .int .i64 p.mult, .int .i64 p.tick, .int .i64 p.low, .int .i64 p.high, .bool p.phys] 58) 62 #[.int .i64 q.tick, .slice A q.parts.length cap])
  have HL0 := Lib.hid (hL.1.below (((Below.refl _ w).alloc (Nat.le_refl _) (.cells #[.string p.name, .int .i64 p.cur, .int .i64 p.mult, .int .i64 p.tick, .int .i64 p.low, .int .i64 p.high, .bool p.phys] 58)).alloc (by simp) (.cells #[.int .i64 q.tick, .slice A q.parts.length cap] 62)))
  have HR0 := Lib.hid (hq.1.below (((Below.refl _ w).alloc (Nat.le_refl _) (.cells #[.string p.name, .int .i64 p.cur, .int .i64 p.mult, .int .i64 p.tick, .int .i64 p.low, .int .i64 p.high, .bool p.phys] 58)).alloc (by simp) (.cells #[.int .i64 q.tick, .slice A q.parts.length cap] 62)))
  obtain ⟨d0, d1, d2, d3, d4, d5, d6⟩ := HP0.out.cells
  have x0 := HX0.out.cell 0
  have x1 := HX0.out.cell 1
  simp only [List.getElem?_toArray, List.getElem?_cons_zero, List.getElem?_cons_succ] at x0 x1
  have hqt := hq.2
  clear hL hq
  by_cases h1 : 60 < l.length
  · have h2 : (60 : Int) < (l.length : Int) := by omega
    clear h1
    go_enter Try.func7, Try.ntmps7
    go_wp2_with fail
    refine (CG.out _).mono ?_
    rintro e w1 ⟨rfl, b1⟩
    have HB1 := Lib.hid (HB0.out.trans (b1.mono HB0.out.size))
    clear b1
    go_wp2_with fail
    go_ret
    exact ⟨rfl, HB1.out⟩
  have h2 : ¬ (60 : Int) < (l.length : Int) := by omega
  by_cases h3 : 60 < q.parts.length
  · have h4 : (60 : Int) < (q.parts.length : Int) := by omega
    clear h1 h3
    go_enter Try.func7, Try.ntmps7
    go_wp2_with fail
    refine (CG.out _).mono ?_
    rintro e w1 ⟨rfl, b1⟩
    have HB1 := Lib.hid (HB0.out.trans (b1.mono HB0.out.size))
    clear b1
    go_wp2_with fail
    go_ret
    exact ⟨rfl, HB1.out⟩
  have h4 : ¬ (60 : Int) < (q.parts.length : Int) := by omega
  have C1 := Lib.hid (fun ww h1 h2 => geven_any B l l.length ca q.tick rfl A q.parts q.parts.length cap rfl ww h1 h2 hqt)
  have C2 := Lib.hid (fun ww => qcheck_any p hp ww)
  by_cases he : evenE l q.tick q.parts = 0
  · by_cases hc : QM.checkE p = 0
    · have F := fair hc he
      rw [he] at C1
      rw [hc] at C2
      have CV := Lib.hid (fun x y ww => qvalue_any p x y hp ww)
      have CM' := Lib.hid (fun a b ww => mul_any a b ww)
      have CS := Lib.hid (fun A zs c ww h => sum_any A zs c ww h)
      generalize evenP l q.tick q.parts = P at *
      generalize evenL l q.tick q.parts = rs at *
      obtain ⟨fm, fv, fp, fc, fl, fr, fs⟩ := F
      have hfm : CM.fits p.mult = true := CM.fits_true.2 (by omega)
      have FV := Lib.hid fv; have FP := Lib.hid fp; have FC := Lib.hid fc; have FL := Lib.hid fl; have FR := Lib.hid fr; have FS := Lib.hid fs; have FM := Lib.hid hfm
      have HRS : Hid (∀ n ∈ rs, -9223372036854775808 ≤ n ∧ n ≤ 9223372036854775807) := Lib.hid (fun n hn => by
        obtain ⟨k, hk, rfl⟩ := List.getElem_of_mem hn
        have := CM.fits_true.1 (fr k (by omega))
        rw [List.getD_eq_getElem?_getD, List.getElem?_eq_getElem hk] at this
        simp at this
        omega)
      have KC := Lib.hid (fun k (hk : k < l.length) => GM.costL_succ (m := p.mult) hk)
      have KN := Lib.hid (fun k => GM.paidL_len q.parts rs P p.mult k)
      clear he hc fm fv fp fc fl fr fs hfm h1 h3
      go_enter Try.func7, Try.ntmps7
      go_wp2_with fail
      refine (C1.out _ HL0.out HR0.out).mono ?_
      rintro e w1 ⟨v1, rfl, o1, b1⟩
      have HB1 := Lib.hid (HB0.out.trans (b1.mono HB0.out.size))
      have HP1 := Lib.hid (HP0.out.below b1 HP0.out.lt)
      have HX1 := Lib.hid (HX0.out.below b1 HX0.out.lt)
      have HL1 := Lib.hid (HL0.out.below b1)
      have HR1 := Lib.hid (HR0.out.below b1)
      obtain ⟨A1, c1, rfl, hi1⟩ := o1.ints HRS.out
      have HI1 := Lib.hid hi1
      clear o1 hi1 b1 d0 d1 d2 d3 d4 d5 d6 x0 x1 HB0 HP0 HX0 HL0 HR0 C1
      obtain ⟨d0, d1, d2, d3, d4, d5, d6⟩ := HP1.out.cells
      have x0 := HX1.out.cell 0
      have x1 := HX1.out.cell 1
      simp only [List.getElem?_toArray, List.getElem?_cons_zero, List.getElem?_cons_succ] at x0 x1
      rw [FL.out]
      go_wp2_with fail
      refine (C2.out _).mono ?_
      rintro e w2 ⟨rfl, b2⟩
      have HB2 := Lib.hid (HB1.out.trans (b2.mono HB1.out.size))
      have HP2 := Lib.hid (HP1.out.below b2 HP1.out.lt)
      have HX2 := Lib.hid (HX1.out.below b2 HX1.out.lt)
      have HL2 := Lib.hid (HL1.out.below b2)
      have HR2 := Lib.hid (HR1.out.below b2)
      have HI2 := Lib.hid (HI1.out.below b2)
      clear b2 d0 d1 d2 d3 d4 d5 d6 x0 x1 HB1 HP1 HX1 HL1 HR1 HI1 C2
      have x1 := HX2.out.cell 1
      simp only [List.getElem?_toArray, List.getElem?_cons_zero, List.getElem?_cons_succ] at x1
      go_wp2_with fail
      go_loopw [10, 12, 13, 14] (fun v i _ _ wr => ∃ k : Nat, k ≤ l.length ∧ i = .int .i64 (k : Int) ∧ Hid (Own wr w2.heap.size v (GM.costL (l.take k) p.mult)) ∧ Hid (Below w2.heap.size w2 wr)) (fun _ i _ _ _ => l.length - (intOf i).toNat)
      case atStart => exact ⟨0, by omega, rfl, Lib.hid (Own.nil _ _), Lib.hid (Below.refl _ _)⟩
      case round =>
        obtain ⟨k, hk, rfl, HO, HB⟩ := hrel
        have HZ := Lib.hid HB.out.size
        by_cases hlt : k < l.length
        · obtain ⟨b, off, t, rfl, hb, HV, qt, t0, t1, t2, t3, t4, t5, t6, t7, t8, t9, t10, t11, t12⟩ := trds_get (HL2.out.below HB.out) hlt
          have hfv := FV.out k hlt
          have hkc := KC.out k hlt
          rw [HV.out] at hfv hkc
          have HC1 := fun ww => CV.out t.price t.qty ww
          rw [hfv.1, hfv.2] at HC1
          have HC1 := Lib.hid HC1
          have HKC := Lib.hid hkc
          have HSX : Hid (∀ ww, Below wr.heap.size wr ww → (ww.cell? ⟨w.heap.size, 0, none⟩ = some (.string p.name) ∧ ww.cell? ⟨w.heap.size, 1, none⟩ = some (.int .i64 p.cur) ∧ ww.cell? ⟨w.heap.size, 2, none⟩ = some (.int .i64 p.mult) ∧ ww.cell? ⟨w.heap.size, 3, none⟩ = some (.int .i64 p.tick) ∧ ww.cell? ⟨w.heap.size, 4, none⟩ = some (.int .i64 p.low) ∧ ww.cell? ⟨w.heap.size, 5, none⟩ = some (.int .i64 p.high) ∧ ww.cell? ⟨w.heap.size, 6, none⟩ = some (.bool p.phys)) ∧ ww.cell? ⟨b, off + k * 13 + 7, none⟩ = some (.int .i64 t.qty) ∧ ww.cell? ⟨b, off + k * 13 + 8, none⟩ = some (.int .i64 t.price)) := Lib.hid (fun ww h => ⟨((HP2.out.below HB.out HP2.out.lt).below h (Nat.lt_of_lt_of_le HP2.out.lt HZ.out)).cells, (h.cell (p := ⟨b, off + k * 13 + 7, none⟩) hb).trans t7, (h.cell (p := ⟨b, off + k * 13 + 8, none⟩) hb).trans t8⟩)
          have HBw : Hid (Below wr.heap.size wr wr.drew) := Lib.hid (Below.refl _ _).drew
          have HLK : Hid ((GM.costL (l.take k) p.mult).length < 1099511627776) := Lib.hid (by unfold GM.costL; rw [List.length_map, List.length_take]; omega)
          clear qt t0 t1 t2 t3 t4 t5 t6 t7 t8 t9 t10 t11 t12 hfv hkc
          generalize t.price * p.mult * t.qty = z at *
          go_wp2_with fail
          go_region_held3 (fun ww => (ww.cell? ⟨w.heap.size, 0, none⟩ = some (.string p.name) ∧ ww.cell? ⟨w.heap.size, 1, none⟩ = some (.int .i64 p.cur) ∧ ww.cell? ⟨w.heap.size, 2, none⟩ = some (.int .i64 p.mult) ∧ ww.cell? ⟨w.heap.size, 3, none⟩ = some (.int .i64 p.tick) ∧ ww.cell? ⟨w.heap.size, 4, none⟩ = some (.int .i64 p.low) ∧ ww.cell? ⟨w.heap.size, 5, none⟩ = some (.int .i64 p.high) ∧ ww.cell? ⟨w.heap.size, 6, none⟩ = some (.bool p.phys)) ∧ ww.cell? ⟨b, off + k * 13 + 7, none⟩ = some (.int .i64 t.qty) ∧ ww.cell? ⟨b, off + k * 13 + 8, none⟩ = some (.int .i64 t.price))
            (with_reducible exact HSX.out _ HBw.out)
            (first
              | (go_at_call 20; refine (HC1.out _).mono ?_; rintro e w6 ⟨rfl, b6⟩; replace HBw := Lib.hid (HBw.out.trans (b6.mono HBw.out.size)); clear b6))
          all_goals (
            have HO6 := Lib.hid (HO.out.below HBw.out)
            have HB6 := Lib.hid (HB.out.trans (HBw.out.mono HZ.out))
            clear HSX HBw HO HB
            go_wp2_with (at_builtin; refine wpList_push _ z w2.heap.size (GM.costL (l.take k) p.mult) _ _ rfl rfl _ rfl rfl HO6.out HLK.out HB6.out.size ?_)
            rintro v7 w7 o7 b7 s7 g7
            have HO7 : Hid (Own w7 w2.heap.size v7 (GM.costL (l.take (k + 1)) p.mult)) := Lib.hid (by rw [HKC.out]; exact o7)
            have HB7 := Lib.hid (HB6.out.trans b7)
            clear o7 b7 s7 g7 HO6 HB6
            go_wp2_with fail
            go_roundw
            case rel => exact ⟨k + 1, by omega, by go_num, HO7, HB7⟩
            case measure => simp [intOf]; omega)
        · obtain rfl : k = l.length := by omega
          rw [List.take_length] at HO
          have HBF := Lib.hid (HB2.out.trans (HB.out.mono HB2.out.size))
          have HP3 := Lib.hid (HP2.out.below HB.out HP2.out.lt)
          have HX3 := Lib.hid (HX2.out.below HB.out HX2.out.lt)
          have HR3 := Lib.hid (HR2.out.below HB.out)
          have HI3 := Lib.hid (HI2.out.below HB.out)
          obtain ⟨Ac, cc, rfl, hic⟩ := HO.out.ints (fit_range FC.out)
          have HC3 := Lib.hid hic
          clear HB HO HB2 HP2 HX2 HL2 HR2 HI2 hic HZ x1
          generalize wr = w4 at *
          have x1 := HX3.out.cell 1
          simp only [List.getElem?_toArray, List.getElem?_cons_zero, List.getElem?_cons_succ] at x1
          go_wp2_with fail
          go_loopw [6, 11, 15, 16, 17, 18, 19] (fun _ v i _ _ _ _ wr => ∃ k : Nat, k ≤ q.parts.length ∧ i = .int .i64 (k : Int) ∧ Hid (Own wr w4.heap.size v (GM.paidL q.parts rs P p.mult k)) ∧ Hid (CM.allFit (GM.paidL q.parts rs P p.mult k) = true) ∧ Hid (Below w4.heap.size w4 wr)) (fun _ _ i _ _ _ _ _ => q.parts.length - (intOf i).toNat)
          case atStart => exact ⟨0, by omega, rfl, Lib.hid (Own.nil _ _), Lib.hid rfl, Lib.hid (Below.refl _ _)⟩
          case round =>
            clear x1
            obtain ⟨k, hk, rfl, HO, HAF, HB⟩ := hrel
            have HZ := Lib.hid HB.out.size
            have HX5 := Lib.hid (HX3.out.below HB.out HX3.out.lt)
            have x1 := HX5.out.cell 1
            simp only [List.getElem?_toArray, List.getElem?_cons_zero, List.getElem?_cons_succ] at x1
            by_cases hlt : k < q.parts.length
            · obtain ⟨b, off, x, rfl, hb, HV, qx, y0, y1, y2⟩ := parts_get (HR3.out.below HB.out) hlt
              obtain ⟨b3, off3, r, rfl, hb3, z0, HVr, -, -⟩ := (HI3.out.below HB.out).get (k := k) (by rw [FL.out]; exact hlt)
              have hfp := FP.out k hlt
              have hfr := FR.out k hlt
              rw [HV.out] at hfp
              rw [HVr.out] at hfr
              have HPS : Hid (GM.paidL q.parts rs P p.mult (k + 1) = GM.paidL q.parts rs P p.mult k ++ [P * p.mult * x.qty, r * p.mult]) := Lib.hid (by rw [GM.paidL, HV.out, HVr.out])
              have HC1 := fun ww => CV.out P x.qty ww
              rw [hfp.1, hfp.2.1] at HC1
              have HC1 := Lib.hid HC1
              have HMC := Lib.hid (mul_cases hfr FM.out)
              have HC2 := Lib.hid (fun ww => CM'.out r p.mult ww)
              have HFZ := Lib.hid hfp.2.2
              have HSX : Hid (∀ ww, Below wr.heap.size wr ww → (ww.cell? ⟨w.heap.size, 0, none⟩ = some (.string p.name) ∧ ww.cell? ⟨w.heap.size, 1, none⟩ = some (.int .i64 p.cur) ∧ ww.cell? ⟨w.heap.size, 2, none⟩ = some (.int .i64 p.mult) ∧ ww.cell? ⟨w.heap.size, 3, none⟩ = some (.int .i64 p.tick) ∧ ww.cell? ⟨w.heap.size, 4, none⟩ = some (.int .i64 p.low) ∧ ww.cell? ⟨w.heap.size, 5, none⟩ = some (.int .i64 p.high) ∧ ww.cell? ⟨w.heap.size, 6, none⟩ = some (.bool p.phys)) ∧ ww.cell? ⟨w.heap.size + 1, 1, none⟩ = some (.slice (some ⟨b, off, none⟩) q.parts.length cap) ∧ ww.cell? ⟨b, off + k * 3 + 2, none⟩ = some (.int .i64 x.qty)) := Lib.hid (fun ww h => ⟨((HP3.out.below HB.out HP3.out.lt).below h (Nat.lt_of_lt_of_le HP3.out.lt HZ.out)).cells, (HX5.out.below h HX5.out.lt).cell 1, (h.cell (p := ⟨b, off + k * 3 + 2, none⟩) hb).trans y2⟩)
              have HSR : Hid (∀ ww, Below wr.heap.size wr ww → (ww.cell? ⟨w.heap.size, 0, none⟩ = some (.string p.name) ∧ ww.cell? ⟨w.heap.size, 1, none⟩ = some (.int .i64 p.cur) ∧ ww.cell? ⟨w.heap.size, 2, none⟩ = some (.int .i64 p.mult) ∧ ww.cell? ⟨w.heap.size, 3, none⟩ = some (.int .i64 p.tick) ∧ ww.cell? ⟨w.heap.size, 4, none⟩ = some (.int .i64 p.low) ∧ ww.cell? ⟨w.heap.size, 5, none⟩ = some (.int .i64 p.high) ∧ ww.cell? ⟨w.heap.size, 6, none⟩ = some (.bool p.phys)) ∧ ww.cell? ⟨b3, off3 + k, none⟩ = some (.int .i64 r)) := Lib.hid (fun ww h => ⟨((HP3.out.below HB.out HP3.out.lt).below h (Nat.lt_of_lt_of_le HP3.out.lt HZ.out)).cells, (h.cell (p := ⟨b3, off3 + k, none⟩) hb3).trans z0⟩)
              have HBw : Hid (Below wr.heap.size wr wr.drew) := Lib.hid (Below.refl _ _).drew
              have HLK : Hid ((GM.paidL q.parts rs P p.mult k).length < 1099511627776) := Lib.hid (by rw [KN.out]; omega)
              have hki : k < rs.length := by rw [FL.out]; exact hlt
              have HKI := Lib.hid hki
              clear qx y0 y1 y2 z0 hfp hfr hki
              rw [FL.out] at HKI
              generalize P * p.mult * x.qty = z at *
              rcases HMC.out with ⟨e1, e2, e3⟩ | ⟨e1, e2⟩
              · rw [e1, e2] at HC2
                have HFR := Lib.hid e3
                clear HMC e1 e2 e3
                generalize r * p.mult = rm at *
                go_wp2_with fail
                go_region_held3 (fun ww => (ww.cell? ⟨w.heap.size, 0, none⟩ = some (.string p.name) ∧ ww.cell? ⟨w.heap.size, 1, none⟩ = some (.int .i64 p.cur) ∧ ww.cell? ⟨w.heap.size, 2, none⟩ = some (.int .i64 p.mult) ∧ ww.cell? ⟨w.heap.size, 3, none⟩ = some (.int .i64 p.tick) ∧ ww.cell? ⟨w.heap.size, 4, none⟩ = some (.int .i64 p.low) ∧ ww.cell? ⟨w.heap.size, 5, none⟩ = some (.int .i64 p.high) ∧ ww.cell? ⟨w.heap.size, 6, none⟩ = some (.bool p.phys)) ∧ ww.cell? ⟨w.heap.size + 1, 1, none⟩ = some (.slice (some ⟨b, off, none⟩) q.parts.length cap) ∧ ww.cell? ⟨b, off + k * 3 + 2, none⟩ = some (.int .i64 x.qty))
                  (with_reducible exact HSX.out _ HBw.out)
                  (first
                    | (go_at_call 20; refine (HC1.out _).mono ?_; rintro e w6 ⟨rfl, b6⟩; replace HBw := Lib.hid (HBw.out.trans (b6.mono HBw.out.size)); clear b6))
                all_goals (
                  have HSY : Hid (∀ ww, Below w6.heap.size w6 ww → (ww.cell? ⟨w.heap.size, 0, none⟩ = some (.string p.name) ∧ ww.cell? ⟨w.heap.size, 1, none⟩ = some (.int .i64 p.cur) ∧ ww.cell? ⟨w.heap.size, 2, none⟩ = some (.int .i64 p.mult) ∧ ww.cell? ⟨w.heap.size, 3, none⟩ = some (.int .i64 p.tick) ∧ ww.cell? ⟨w.heap.size, 4, none⟩ = some (.int .i64 p.low) ∧ ww.cell? ⟨w.heap.size, 5, none⟩ = some (.int .i64 p.high) ∧ ww.cell? ⟨w.heap.size, 6, none⟩ = some (.bool p.phys)) ∧ ww.cell? ⟨b3, off3 + k, none⟩ = some (.int .i64 r)) := Lib.hid (fun ww h => HSR.out ww (HBw.out.trans (h.mono HBw.out.size)))
                  have HBv : Hid (Below w6.heap.size w6 w6.drew) := Lib.hid (Below.refl _ _).drew
                  go_wp2_with fail
                  go_region_held3 (fun ww => (ww.cell? ⟨w.heap.size, 0, none⟩ = some (.string p.name) ∧ ww.cell? ⟨w.heap.size, 1, none⟩ = some (.int .i64 p.cur) ∧ ww.cell? ⟨w.heap.size, 2, none⟩ = some (.int .i64 p.mult) ∧ ww.cell? ⟨w.heap.size, 3, none⟩ = some (.int .i64 p.tick) ∧ ww.cell? ⟨w.heap.size, 4, none⟩ = some (.int .i64 p.low) ∧ ww.cell? ⟨w.heap.size, 5, none⟩ = some (.int .i64 p.high) ∧ ww.cell? ⟨w.heap.size, 6, none⟩ = some (.bool p.phys)) ∧ ww.cell? ⟨b3, off3 + k, none⟩ = some (.int .i64 r))
                    (with_reducible exact HSY.out _ HBv.out)
                    (first
                      | (go_at_call 21; refine (HC2.out _).mono ?_; rintro e w8 ⟨rfl, b8⟩; replace HBv := Lib.hid (HBv.out.trans (b8.mono HBv.out.size)); clear b8))
                  all_goals (
                    have HB8 := Lib.hid (HBw.out.trans (HBv.out.mono HBw.out.size))
                    have HO8 := Lib.hid (HO.out.below HB8.out)
                    have HB9 := Lib.hid (HB.out.trans (HB8.out.mono HZ.out))
                    clear HSX HSR HSY HBw HBv HO HB HB8
                    go_wp2_with (at_builtin; refine wpList_pair _ z rm w4.heap.size (GM.paidL q.parts rs P p.mult k) _ _ rfl rfl _ rfl rfl HO8.out HLK.out HB9.out.size ?_)
                    rintro v9 w9 o9 b9
                    have HO9 : Hid (Own w9 w4.heap.size v9 (GM.paidL q.parts rs P p.mult (k + 1))) := Lib.hid (by rw [HPS.out]; exact o9)
                    have HF9 : Hid (CM.allFit (GM.paidL q.parts rs P p.mult (k + 1)) = true) := Lib.hid (by rw [HPS.out]; unfold CM.allFit; rw [List.all_append]; rw [show (GM.paidL q.parts rs P p.mult k).all CM.fits = true from HAF.out]; simp [HFZ.out, HFR.out])
                    have HBx := Lib.hid (HB9.out.trans b9)
                    clear o9 b9 HO8 HB9
                    go_wp2_with fail
                    go_roundw
                    case rel => exact ⟨k + 1, by omega, by go_num, HO9, HF9, HBx⟩
                    case measure => simp [intOf]; omega))
              · rw [e1, e2] at HC2
                clear HMC e1 e2
                go_wp2_with fail
                go_region_held3 (fun ww => (ww.cell? ⟨w.heap.size, 0, none⟩ = some (.string p.name) ∧ ww.cell? ⟨w.heap.size, 1, none⟩ = some (.int .i64 p.cur) ∧ ww.cell? ⟨w.heap.size, 2, none⟩ = some (.int .i64 p.mult) ∧ ww.cell? ⟨w.heap.size, 3, none⟩ = some (.int .i64 p.tick) ∧ ww.cell? ⟨w.heap.size, 4, none⟩ = some (.int .i64 p.low) ∧ ww.cell? ⟨w.heap.size, 5, none⟩ = some (.int .i64 p.high) ∧ ww.cell? ⟨w.heap.size, 6, none⟩ = some (.bool p.phys)) ∧ ww.cell? ⟨w.heap.size + 1, 1, none⟩ = some (.slice (some ⟨b, off, none⟩) q.parts.length cap) ∧ ww.cell? ⟨b, off + k * 3 + 2, none⟩ = some (.int .i64 x.qty))
                  (with_reducible exact HSX.out _ HBw.out)
                  (first
                    | (go_at_call 20; refine (HC1.out _).mono ?_; rintro e w6 ⟨rfl, b6⟩; replace HBw := Lib.hid (HBw.out.trans (b6.mono HBw.out.size)); clear b6))
                all_goals (
                  have HSY : Hid (∀ ww, Below w6.heap.size w6 ww → (ww.cell? ⟨w.heap.size, 0, none⟩ = some (.string p.name) ∧ ww.cell? ⟨w.heap.size, 1, none⟩ = some (.int .i64 p.cur) ∧ ww.cell? ⟨w.heap.size, 2, none⟩ = some (.int .i64 p.mult) ∧ ww.cell? ⟨w.heap.size, 3, none⟩ = some (.int .i64 p.tick) ∧ ww.cell? ⟨w.heap.size, 4, none⟩ = some (.int .i64 p.low) ∧ ww.cell? ⟨w.heap.size, 5, none⟩ = some (.int .i64 p.high) ∧ ww.cell? ⟨w.heap.size, 6, none⟩ = some (.bool p.phys)) ∧ ww.cell? ⟨b3, off3 + k, none⟩ = some (.int .i64 r)) := Lib.hid (fun ww h => HSR.out ww (HBw.out.trans (h.mono HBw.out.size)))
                  have HBv : Hid (Below w6.heap.size w6 w6.drew) := Lib.hid (Below.refl _ _).drew
                  go_wp2_with fail
                  go_region_held3 (fun ww => (ww.cell? ⟨w.heap.size, 0, none⟩ = some (.string p.name) ∧ ww.cell? ⟨w.heap.size, 1, none⟩ = some (.int .i64 p.cur) ∧ ww.cell? ⟨w.heap.size, 2, none⟩ = some (.int .i64 p.mult) ∧ ww.cell? ⟨w.heap.size, 3, none⟩ = some (.int .i64 p.tick) ∧ ww.cell? ⟨w.heap.size, 4, none⟩ = some (.int .i64 p.low) ∧ ww.cell? ⟨w.heap.size, 5, none⟩ = some (.int .i64 p.high) ∧ ww.cell? ⟨w.heap.size, 6, none⟩ = some (.bool p.phys)) ∧ ww.cell? ⟨b3, off3 + k, none⟩ = some (.int .i64 r))
                    (with_reducible exact HSY.out _ HBv.out)
                    (first
                      | (go_at_call 21; refine (HC2.out _).mono ?_; rintro e w8 ⟨rfl, b8⟩; replace HBv := Lib.hid (HBv.out.trans (b8.mono HBv.out.size)); clear b8))
                  all_goals (
                    have HB8 := Lib.hid (HBw.out.trans (HBv.out.mono HBw.out.size))
                    have HB9 := Lib.hid (HBF.out.trans ((HB.out.trans (HB8.out.mono HZ.out)).mono HBF.out.size))
                    clear HSX HSR HSY HBw HBv HO HB HB8
                    go_wp2_with fail
                    refine (CG.out _).mono ?_
                    rintro e w9 ⟨rfl, b9⟩
                    have HBx := Lib.hid (HB9.out.trans (b9.mono HB9.out.size))
                    clear b9
                    go_wp2_with fail
                    go_ret
                    exact ⟨rfl, HBx.out⟩))
            · obtain rfl : k = q.parts.length := by omega
              have HBG := Lib.hid (HBF.out.trans (HB.out.mono HBF.out.size))
              obtain ⟨Ap, cp, rfl, hip⟩ := HO.out.ints (fit_range HAF.out)
              have HIP := Lib.hid hip
              have HIC := Lib.hid (HC3.out.below HB.out)
              have V1 := Lib.hid (CS.out Ac _ cc wr HIC.out)
              have V2 := CS.out Ap _ cp wr HIP.out
              have hs := GM.sums_same HAF.out FC.out FS.out
              rw [hs.1, hs.2] at V2
              have V2 := Lib.hid V2
              clear hip HO HB hs
              generalize CM.sumN (GM.costL l p.mult) = sn at *
              generalize CM.sumE (GM.costL l p.mult) = se at *
              go_wp2_with fail
              refine V1.out.mono ?_
              rintro e w9 ⟨rfl, rfl⟩
              go_wp2_with fail
              refine V2.out.mono ?_
              rintro e w9 ⟨rfl, rfl⟩
              go_wp2_with fail
              refine (CG.out _).mono ?_
              rintro e w9 ⟨rfl, b9⟩
              have HBx := Lib.hid (HBG.out.trans (b9.mono HBG.out.size))
              clear b9
              go_wp2_with fail
              go_ret
              exact ⟨rfl, HBx.out⟩
    · have hd : (QM.checkE p != 0) = true := by simpa using hc
      have HRS : Hid (∀ n ∈ evenL l q.tick q.parts, -9223372036854775808 ≤ n ∧ n ≤ 9223372036854775807) := Lib.hid (evenL_range10)
      rw [he] at C1
      generalize QM.checkE p = ce at *
      generalize evenP l q.tick q.parts = P at *
      generalize evenL l q.tick q.parts = rs at *
      clear he hc h1 h3
      go_enter Try.func7, Try.ntmps7
      go_wp2_with fail
      refine (C1.out _ HL0.out HR0.out).mono ?_
      rintro e w1 ⟨v1, rfl, o1, b1⟩
      have HB1 := Lib.hid (HB0.out.trans (b1.mono HB0.out.size))
      have HP1 := Lib.hid (HP0.out.below b1 HP0.out.lt)
      have HX1 := Lib.hid (HX0.out.below b1 HX0.out.lt)
      obtain ⟨A1, c1, rfl, -⟩ := o1.ints HRS.out
      clear o1 b1 d0 d1 d2 d3 d4 d5 d6 x0 x1 HB0 HP0 HX0 HL0 HR0 C1
      obtain ⟨d0, d1, d2, d3, d4, d5, d6⟩ := HP1.out.cells
      go_wp2_with fail
      refine (C2.out _).mono ?_
      rintro e w2 ⟨rfl, b2⟩
      have HB2 := Lib.hid (HB1.out.trans (b2.mono HB1.out.size))
      have HP2 := Lib.hid (HP1.out.below b2 HP1.out.lt)
      clear b2 d0 d1 d2 d3 d4 d5 d6 HB1 HP1 HX1
      obtain ⟨d0, d1, d2, d3, d4, d5, d6⟩ := HP2.out.cells
      go_wp2_with fail
      refine (C2.out _).mono ?_
      rintro e w3 ⟨rfl, b3⟩
      have HB3 := Lib.hid (HB2.out.trans (b3.mono HB2.out.size))
      clear b3
      go_wp2_with fail
      refine (CG.out _).mono ?_
      rintro e w9 ⟨rfl, b9⟩
      have HBx := Lib.hid (HB3.out.trans (b9.mono HB3.out.size))
      clear b9
      go_wp2_with fail
      go_ret
      exact ⟨rfl, HBx.out⟩
  · have hd : (evenE l q.tick q.parts != 0) = true := by simpa using he
    generalize evenE l q.tick q.parts = ee at *
    generalize evenP l q.tick q.parts = P at *
    generalize evenL l q.tick q.parts = rs at *
    clear he h1 h3
    go_enter Try.func7, Try.ntmps7
    go_wp2_with fail
    refine (C1.out _ HL0.out HR0.out).mono ?_
    rintro e w1 ⟨v1, rfl, o1, b1⟩
    have HB1 := Lib.hid (HB0.out.trans (b1.mono HB0.out.size))
    clear o1 b1
    go_wp2_with fail
    refine (CG.out _).mono ?_
    rintro e w9 ⟨rfl, b9⟩
    have HBx := Lib.hid (HB1.out.trans (b9.mono HB1.out.size))
    clear b9
    go_wp2_with fail
    go_ret
    exact ⟨rfl, HBx.out⟩
end Go.Proofs.Ytagmknahmkniaab.topAverage
