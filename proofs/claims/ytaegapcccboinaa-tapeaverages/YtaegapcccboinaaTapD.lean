/- Contracts of layer 17: Window. -/
import Derived.Test.YtaegapcccboinaaTapC
namespace Go.Proofs.Ytaegapcccboinaa
open Go.RowKit Go.Recs
set_option linter.unusedVariables false
set_option linter.unusedSimpArgs false
theorem info_tick : (Try.prog.info? 72).map (fun i => (i.zero, i.size, i.bytes)) = some (some (tickA TP.zero), 3, 24) := by kernel_rfl
theorem tick_one (t : TP.Tick) : ∀ u ∈ tickV t, u.oneCell' = true := by
  intro u hu
  simp [tickV] at hu
  rcases hu with rfl | rfl | rfl <;> rfl
set_option maxRecDepth 100000 in
set_option maxHeartbeats 4000000 in
theorem window1_any (g0 g1 g2 B : Nat) (b0 : g0 < B) (b1 : g1 < B) (b2 : g2 < B) (t : TP.Tick) (a b : Int) (v : Value) (rows : List (List Value)) (w : World) (h0 : CB w g0 3 #[.int .i64 a]) (h1 : CB w g1 3 #[.int .i64 b])
    (h2 : CB w g2 22 #[v]) (ho : OwnR w B 72 3 v rows) (hB : B ≤ w.heap.size) (hl : rows.length ≤ 1048576) :
    Calls Try.prog 49 #[tickA t, .pointer (some ⟨g0, 0, none⟩), .pointer (some ⟨g1, 0, none⟩), .pointer (some ⟨g2, 0, none⟩)] w fun e w' => e = .returned (.tuple #[]) ∧
      ∃ v', CB w' g2 22 #[v'] ∧ OwnR w' B 72 3 v' (if QM.within t.time a b = true then rows ++ [tickV t] else rows) ∧ (∀ B0 w0, Below B0 w0 w → B0 ≤ g2 → B0 ≤ B → Below B0 w0 w') ∧ ∀ g, g ≠ g2 → g < B → w'.heap[g]? = w.heap[g]? := by
  have C1 := Lib.hid (fun ww => within17_any t.time a b ww)
  have hX := CB.new w 72 (tickC t)
  have hY := h0.alloc (.cells (tickC t) 72)
  have hZ := h1.alloc (.cells (tickC t) 72)
  have hV := h2.alloc (.cells (tickC t) 72)
  have f0 := hX.cell 0
  have f1 := hX.cell 1
  have f2 := hX.cell 2
  have c0 := hY.cell 0
  have c1 := hZ.cell 0
  have c2 := hV.cell 0
  simp only [List.getElem?_toArray, List.getElem?_cons_zero, List.getElem?_cons_succ] at f0 f1 f2 c0 c1 c2
  have HO := Lib.hid (ho.alloc (.cells (tickC t) 72))
  have HA := Lib.hid (fun B0 w0 (h : Below B0 w0 w) (hb : B0 ≤ w.heap.size) => h.alloc hb (.cells (tickC t) 72))
  have HG := Lib.hid (fun g (hg : g < w.heap.size) => Below.heap_alloc w (.cells (tickC t) 72) g hg)
  have hsz : w.heap.size ≤ (w.alloc (.cells (tickC t) 72)).heap.size := by simp
  obtain ⟨wa, hwa⟩ : ∃ wa, w.alloc (.cells #[.int .i64 t.time, .int .i64 t.qty, .int .i64 t.price] 72) = wa := ⟨_, rfl⟩
  rw [hwa] at f0 f1 f2 c0 c1 c2 HO HA HG hV hsz
  have HV := Lib.hid hV
  have HSZ := Lib.hid hsz
  have H2 := Lib.hid h2
  have HW := Lib.hid (Nat.le_trans hB hsz)
  have HBW := Lib.hid hB
  clear hX hY hZ hV h0 h1 h2 ho hsz
  generalize QM.within t.time a b = q at *
  go_enter Try.func49, Try.ntmps49
  go_wp2_with fail
  refine (C1.out wa).mono ?_
  rintro e w2 ⟨rfl, rfl⟩
  cases q
  · go_wp2_with fail
    exact leave0 rfl rfl ⟨rfl, v, HV.out, by first | exact HO.out | (rw [if_neg (by decide)]; exact HO.out), fun B0 w0 h h2 h3 => HA.out B0 w0 h (Nat.le_trans h3 HBW.out), fun g _ hg => HG.out g (Nat.lt_of_lt_of_le hg HBW.out)⟩
  · go_wp2_with (at_builtin; refine wpList_pushR _ [.int .i64 t.time, .int .i64 t.qty, .int .i64 t.price] (tick_one t) B rows _ _ 22 72 3 24 _ Try.underlying22 info_tick rfl (by decide) rfl rfl rfl _ rfl rfl HO.out ?c1 ?c2 ?c3 ?_)
    case c1 => omega
    case c2 => simp only [maxLen]; omega
    case c3 => exact HW.out
    intro v2 w2 o2 b2 _ _
    have hV2 := HV.out.below b2 (by assumption)
    have k2 := hV2.cell 0
    have r2 := hV2.frozen 0
    simp only [List.getElem?_toArray, List.getElem?_cons_zero] at k2
    obtain ⟨m, g, cap, rfl⟩ : ∃ m g cap, v2 = .slice (some ⟨g, 0, none⟩) m cap := by
      rcases o2.form with ⟨_, he⟩ | ⟨g, cap, rfl, _⟩
      · simp at he
      · exact ⟨_, g, cap, rfl⟩
    have HZ : Hid (CB (w2.setCell ⟨g2, 0, none⟩ (.slice (some ⟨g, 0, none⟩) m cap)) g2 22 #[.slice (some ⟨g, 0, none⟩) m cap]) := Lib.hid (by
      have := hV2.set_ 0 (.slice (some ⟨g, 0, none⟩) m cap)
      simpa using this)
    have HO2 : Hid (OwnR (w2.setCell ⟨g2, 0, none⟩ (.slice (some ⟨g, 0, none⟩) m cap)) B 72 3 (.slice (some ⟨g, 0, none⟩) m cap) (rows ++ [tickV t])) :=
      Lib.hid (o2.kept fun j hj _ => Below.heap_setCell w2 ⟨g2, 0, none⟩ _ j (by show j ≠ g2; omega))
    have HB2 : Hid (∀ B0 w0, Below B0 w0 w → B0 ≤ g2 → B0 ≤ B → Below B0 w0 (w2.setCell ⟨g2, 0, none⟩ (.slice (some ⟨g, 0, none⟩) m cap))) :=
      Lib.hid (fun B0 w0 h h2 h3 => ((HA.out B0 w0 h (Nat.le_trans h3 HBW.out)).trans (b2.mono h3)).setCell (p := ⟨g2, 0, none⟩) h2 _)
    have HG2 : Hid (∀ j, j ≠ g2 → j < B → (w2.setCell ⟨g2, 0, none⟩ (.slice (some ⟨g, 0, none⟩) m cap)).heap[j]? = w.heap[j]?) :=
      Lib.hid (fun j h1 h2 => by rw [Below.heap_setCell w2 ⟨g2, 0, none⟩ _ j h1, b2.block j h2, HG.out j (Nat.lt_of_lt_of_le h2 HBW.out)])
    clear o2 b2 hV2 HV
    go_wp2_with fail
    exact leave0 rfl rfl ⟨rfl, _, HZ.out, by first | exact HO2.out | (rw [if_pos rfl]; exact HO2.out), HB2.out, HG2.out⟩
theorem load_row17 (w : World) (g : Nat) (p : Option Addr) (n c : Nat) (hb : CB w g 22 #[.slice p n c]) : (loadVar 22 ⟨g, 0, none⟩).run Try.prog w = .ok (.slice p n c) w := by
  have c := hb.cell 0
  simp only [List.getElem?_toArray, List.getElem?_cons_zero] at c
  have u3 := Try.underlying22
  have a3 := Try.isAgg22
  have z3 := Try.sizeOf22
  unfold loadVar
  go_simp
theorem results_row17 {fn : Func} {p : Tmp} (h : fn.results = #[.cell p 22]) (tmps : Array Value) (w : World) (g : Nat) (q : Option Addr) (n c : Nat)
    (hp : tmps.getD p undef = .pointer (some ⟨g, 0, none⟩)) (hb : CB w g 22 #[.slice q n c]) : (results fn tmps).run Try.prog w = .ok (.slice q n c) w := by
  rw [results_cell1 h, hp]
  simp only [asAddr, Sem.run_pure, Result.andThen_ok]
  exact load_row17 w g q n c hb
/-- the boxes of a window, and its query -/
abbrev box4 (w : World) (a b : Int) : World := (((w.alloc (.cells #[.int .i64 a] 3)).alloc (.cells #[.int .i64 b] 3)).alloc (.cells #[.slice none 0 0] 22)).alloc (.cells #[.func (.func 49) #[] #[.pointer (some ⟨w.heap.size, 0, none⟩), .pointer (some ⟨w.heap.size + 1, 0, none⟩), .pointer (some ⟨w.heap.size + 1 + 1, 0, none⟩)]] 86)
theorem box4_size (w : World) (a b : Int) : (box4 w a b).heap.size = w.heap.size + 4 := by simp [box4]
theorem box4_below (w : World) (a b : Int) : Below w.heap.size w (box4 w a b) := below_al (below_al (below_al (below_al (Below.refl _ _) _) _) _) _
theorem box4_0 (w : World) (a b : Int) : CB (box4 w a b) w.heap.size 3 #[.int .i64 a] := (((CB.new _ _ _).alloc _).alloc _).alloc _
theorem box4_1 (w : World) (a b : Int) : CB (box4 w a b) (w.heap.size + 1) 3 #[.int .i64 b] := ((CB.new1 _ _ _ _).alloc _).alloc _
theorem box4_2 (w : World) (a b : Int) : CB (box4 w a b) (w.heap.size + 1 + 1) 22 #[.slice none 0 0] := (CB.new2 _ _ _ _ _).alloc _
set_option maxRecDepth 100000 in
set_option maxHeartbeats 4000000 in
theorem window_any (A : Option Addr) (l : List TP.Tick) (n cap : Nat) (a b : Int) (hn : n = l.length) (hl : l.length ≤ 1048576) (w : World) (hI : Ticks w A l) :
    Calls Try.prog 20 #[.slice A n cap, .int .i64 a, .int .i64 b] w fun e w' => ∃ v, e = .returned v ∧ OwnR w' w.heap.size 72 3 v ((TP.win l a b).map tickV) ∧ Below w.heap.size w w' := by
  subst hn
  have hlen := hI.len
  have hmf : ∀ (fn : Fn) (first cap : Array Value) (w : World), (Instr.makeFunc fn first cap).run Try.prog w = .ok (.func fn first cap) w := fun _ _ _ _ => rfl
  have eg : ∀ args w, (callFunc 49 args).run Try.prog w = .ok (.enter 49 args) w := enters_of Try.func49 (by kernel_rfl) rfl
  have C := Lib.hid (run17_any 49 eg #[.pointer (some ⟨w.heap.size, 0, none⟩), .pointer (some ⟨w.heap.size + 1, 0, none⟩), .pointer (some ⟨w.heap.size + 1 + 1, 0, none⟩)]
    (fun k ww => Below w.heap.size w ww ∧ CB ww w.heap.size 3 #[.int .i64 a] ∧ CB ww (w.heap.size + 1) 3 #[.int .i64 b] ∧ w.heap.size + 5 ≤ ww.heap.size + 1 ∧
      ∃ v, CB ww (w.heap.size + 1 + 1) 22 #[v] ∧ OwnR ww (w.heap.size + 5) 72 3 v ((TP.winU l a b k).map tickV)) A l l.length cap rfl w (box4 w a b) hI
    (fun k ww h => h.1) (fun k ww o h => ⟨below_al h.1 o, h.2.1.alloc o, h.2.2.1.alloc o, by have := h.2.2.2.1; simp; omega, by
      obtain ⟨v, h1, h2⟩ := h.2.2.2.2
      exact ⟨v, h1.alloc o, h2.alloc o⟩⟩)
    ⟨box4_below _ _ _, box4_0 _ _ _, box4_1 _ _ _, by rw [box4_size]; omega, _, box4_2 _ _ _, OwnR.nil _ _ _ _⟩
    (fun k hk ww h hlt => by
      obtain ⟨hb, k0, k1, hs, v, k2, ho⟩ := h
      rw [box4_size] at hlt
      have hw := TP.winU_len l a b k (by omega)
      refine (window1_any w.heap.size (w.heap.size + 1) (w.heap.size + 1 + 1) (w.heap.size + 5) (by omega) (by omega) (by omega) (TP.tAt l k) a b v _ ww k0 k1 k2 ho (by omega) (by rw [List.length_map]; omega)).mono ?_
      rintro e w' ⟨rfl, v', m2, mo, mb, mg⟩
      have hb' := mb _ _ hb (by omega) (by omega)
      have hsz := (mb ww.heap.size ww (Below.refl _ _))
      refine ⟨rfl, ⟨hb', (mg _ (by omega) (by omega)).trans k0, (mg _ (by omega) (by omega)).trans k1, ?_, v', m2, ?_⟩, ?_⟩
      · have h4 : w'.heap[w.heap.size + 4]? = ww.heap[w.heap.size + 4]? := mg _ (by omega) (by omega)
        have h5 : ww.heap[w.heap.size + 4]? ≠ none := by rw [Array.getElem?_eq_getElem (by omega)]; simp
        rw [← h4] at h5
        rcases Nat.lt_or_ge (w.heap.size + 4) w'.heap.size with h | h
        · omega
        · rw [Array.getElem?_eq_none h] at h5; exact absurd rfl h5
      · cases hi : QM.within (TP.tAt l k).time a b
        · rw [hi] at mo; rw [TP.winU_out hk hi]; exact mo
        · rw [hi] at mo; rw [TP.winU_in hk hi, List.map_append]; exact mo
      · rw [box4_size]; exact mg _ (by omega) (by omega)))
  rw [TP.winU_all] at C
  generalize (TP.win l a b).map tickV = rows at *
  clear hI eg
  go_enter Try.func20, Try.ntmps20
  go_wp2_with fail
  refine C.out.mono ?_
  rintro e w2 ⟨rfl, hb, k0, k1, hs, v, k2, ho⟩
  obtain ⟨p, m, c, rfl⟩ : ∃ p m c, v = .slice p m c := by
    rcases ho.form with ⟨rfl, _⟩ | ⟨g, cap, rfl, _⟩
    · exact ⟨_, _, _, rfl⟩
    · exact ⟨_, _, _, rfl⟩
  have c2 := k2.cell 0
  have r2 := k2.frozen 0
  simp only [List.getElem?_toArray, List.getElem?_cons_zero] at c2
  have HZ : Hid (CB (w2.setCell ⟨w.heap.size + 1 + 1, 0, none⟩ (.slice p m c)) (w.heap.size + 1 + 1) 22 #[.slice p m c]) := Lib.hid (by
    have := k2.set_ 0 (.slice p m c)
    simpa using this)
  have HO : Hid (OwnR (w2.setCell ⟨w.heap.size + 1 + 1, 0, none⟩ (.slice p m c)) w.heap.size 72 3 (.slice p m c) rows) :=
    Lib.hid ((ho.kept fun j hj _ => Below.heap_setCell w2 ⟨w.heap.size + 1 + 1, 0, none⟩ _ j (by show j ≠ w.heap.size + 1 + 1; omega)).lower (by omega))
  have HB := Lib.hid (hb.setCell (p := ⟨w.heap.size + 1 + 1, 0, none⟩) (by show w.heap.size ≤ w.heap.size + 1 + 1; omega) (.slice p m c))
  clear hb k0 k1 k2 ho hs
  go_wp2_with fail
  (try simp only [Exit.inBlock, Exit.then])
  exact bodyPost_ret (results_row17 rfl _ _ _ _ _ _ rfl HZ.out) rfl ⟨_, rfl, HO.out, HB.out⟩
end Go.Proofs.Ytaegapcccboinaa
