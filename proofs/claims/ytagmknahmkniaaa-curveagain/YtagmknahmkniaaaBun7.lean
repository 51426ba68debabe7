/- Put together: CurF, RecsCat, CurC, PtPut, CurG, CurH, CurI, RecsCut. -/
import Derived.Test.YtagmknahmkniaaaBun6
import Derived.Test.YtagmknahmkniaaaBun1
import Derived.Test.YtagmknahmkniaaaBun5
import Derived.Lib.SliceRun
import Derived.Test.YtagmknahmkniaaaBun3
import Derived.Deep.RegionLawGrows
/- Contracts of layer 19: checkTick, priceOf, At. -/
namespace Go.Proofs.Ytagmknahmkniaaa
open Go.RowKit Go.Recs
set_option linter.unusedVariables false
set_option linter.unusedSimpArgs false
set_option maxHeartbeats 4000000 in
theorem uchecktick_any (A : Option Addr) (l : List UM.Pt) (n cap : Nat) (hn : n = l.length) (tick : Int) (w : World) (hI : Pts w A l) :
    Calls Try.prog 26 #[.slice A n cap, .int .i64 tick] w fun e w' => e = .returned (.int .i64 (UM.tickE l tick)) ∧ Below w.heap.size w w' := by
  subst hn
  have C1 := Lib.hid (ucheck_any A l l.length cap rfl w hI)
  have C2 := Lib.hid (fun ww => uwithin_any tick 1 16777216 ww)
  by_cases h : UM.checkE l = 0
  · rw [h] at C1
    cases g : QM.within tick 1 16777216
    · have e : UM.tickE l tick = 16 := by unfold UM.tickE; rw [if_neg (by simp [h]), if_pos g]
      rw [g] at C2
      rw [e]; clear h e g hI
      go_enter Try.func26, Try.ntmps26
      go_wp2_with fail
      refine C1.out.mono ?_
      rintro e w1 ⟨rfl, b1⟩
      have HB := Lib.hid b1
      clear b1 C1
      go_wp2_with fail
      refine (C2.out _).mono ?_
      rintro e w2 ⟨rfl, rfl⟩
      go_wp2_with fail
      go_ret
      exact ⟨rfl, HB.out⟩
    · have e : UM.tickE l tick = 0 := by unfold UM.tickE; rw [if_neg (by simp [h]), if_neg (by simp [g])]
      rw [g] at C2
      rw [e]; clear h e g hI
      go_enter Try.func26, Try.ntmps26
      go_wp2_with fail
      refine C1.out.mono ?_
      rintro e w1 ⟨rfl, b1⟩
      have HB := Lib.hid b1
      clear b1 C1
      go_wp2_with fail
      refine (C2.out _).mono ?_
      rintro e w2 ⟨rfl, rfl⟩
      go_wp2_with fail
      go_ret
      exact ⟨rfl, HB.out⟩
  · have e : UM.tickE l tick = UM.checkE l := by unfold UM.tickE; rw [if_pos h]
    have hd : (UM.checkE l != 0) = true := by simpa using h
    rw [e]
    generalize UM.checkE l = y at *
    clear e h hI
    go_enter Try.func26, Try.ntmps26
    go_wp2_with fail
    refine C1.out.mono ?_
    rintro e w1 ⟨rfl, b1⟩
    have HB := Lib.hid b1
    clear b1 C1
    go_wp2_with fail
    go_ret
    exact ⟨rfl, HB.out⟩
set_option maxHeartbeats 4000000 in
theorem upriceof_any (A : Option Addr) (l : List UM.Pt) (n cap : Nat) (hn : n = l.length) (day tick : Int) (g : UM.Good l) (hd : 0 ≤ day ∧ day ≤ 73048) (ht : 1 ≤ tick ∧ tick ≤ 16777216) (w : World) (hI : Pts w A l) :
    Calls Try.prog 28 #[.slice A n cap, .int .i64 day, .int .i64 tick] w fun e w' => e = .returned (.tuple #[.int .i64 (UM.priceN l day tick), .int .i64 0]) ∧ Below w.heap.size w w' := by
  subst hn
  have gl := pt_guard
  obtain ⟨-, hc⟩ := UM.ar_cases g (tick := tick) hd ht
  have C1 := Lib.hid (uaround_any A l l.length cap rfl day w hI)
  rcases hc with e | ⟨e, hp⟩
  · rw [UM.price_same tick e]
    rw [← e] at C1
    have E1 : ∀ ww, (Op.equalIn 10000 44 (ptA (UM.arA l day)) (ptA (UM.arA l day))).run Try.prog ww = .ok true ww := fun ww => by rw [pt_in, pteq_is, decide_eq_true rfl]
    generalize UM.arA l day = a at *
    clear e hI g hd ht
    go_enter Try.func28, Try.ntmps28
    go_wp2_with fail
    refine C1.out.mono ?_
    rintro e w1 ⟨rfl, b1⟩
    have HB := Lib.hid (below_al (below_al b1 (.cells (ptC a) 44)) (.cells (ptC a) 44))
    have hA := (CB.new w1 44 (ptC a)).alloc (.cells (ptC a) 44)
    have hC := CB.new1 w1 (.cells (ptC a) 44) 44 (ptC a)
    have a0 := hA.cell 0
    have a1 := hA.cell 1
    have a2 := hA.cell 2
    have c0 := hC.cell 0
    have c1 := hC.cell 1
    have c2 := hC.cell 2
    simp only [List.getElem?_toArray, List.getElem?_cons_zero, List.getElem?_cons_succ] at a0 a1 a2 c0 c1 c2
    clear b1 hA hC C1
    go_wp2_with fail
    go_ret2
    exact ⟨rfl, HB.out⟩
  · rw [UM.price_tween tick e]
    have C2 := Lib.hid (fun ww => utween_any _ _ day tick hp ww)
    have E1 : ∀ ww, (Op.equalIn 10000 44 (ptA (UM.arA l day)) (ptA (UM.arB l day))).run Try.prog ww = .ok false ww := fun ww => by rw [pt_in, pteq_is, decide_eq_false e]
    generalize UM.tweenN (UM.arA l day) (UM.arB l day) day tick = z at *
    generalize UM.arA l day = a at *
    generalize UM.arB l day = b at *
    clear e hI g hd ht hp
    go_enter Try.func28, Try.ntmps28
    go_wp2_with fail
    refine C1.out.mono ?_
    rintro e w1 ⟨rfl, b1⟩
    have HB := Lib.hid (below_al (below_al b1 (.cells (ptC a) 44)) (.cells (ptC b) 44))
    have hA := (CB.new w1 44 (ptC a)).alloc (.cells (ptC b) 44)
    have hC := CB.new1 w1 (.cells (ptC a) 44) 44 (ptC b)
    have a0 := hA.cell 0
    have a1 := hA.cell 1
    have a2 := hA.cell 2
    have c0 := hC.cell 0
    have c1 := hC.cell 1
    have c2 := hC.cell 2
    simp only [List.getElem?_toArray, List.getElem?_cons_zero, List.getElem?_cons_succ] at a0 a1 a2 c0 c1 c2
    clear b1 hA hC C1
    go_wp2_with fail
    refine (C2.out _).mono ?_
    rintro e w2 ⟨rfl, b2⟩
    have HB2 := Lib.hid (HB.out.trans (b2.mono HB.out.size))
    clear b2
    go_wp2_with fail
    go_ret2
    exact ⟨rfl, HB2.out⟩
set_option maxHeartbeats 4000000 in
theorem uat_any (A : Option Addr) (l : List UM.Pt) (n cap : Nat) (hn : n = l.length) (day tick : Int) (w : World) (hI : Pts w A l) :
    Calls Try.prog 10 #[.slice A n cap, .int .i64 day, .int .i64 tick] w fun e w' => e = .returned (.tuple #[.int .i64 (UM.atN l day tick), .int .i64 (UM.atE l day tick)]) ∧ Below w.heap.size w w' := by
  subst hn
  have C1 := Lib.hid (uchecktick_any A l l.length cap rfl tick w hI)
  have C2 := Lib.hid (fun ww => uwithin_any day 0 73048 ww)
  by_cases h : UM.tickE l tick = 0
  · obtain ⟨g, ht⟩ := UM.tick_zero h
    rw [h] at C1
    cases gd : QM.within day 0 73048
    · have e : UM.atE l day tick = 15 := by unfold UM.atE; rw [if_neg (by simp [h]), if_pos gd]
      have e2 : UM.atN l day tick = 0 := by unfold UM.atN; rw [if_neg (by rw [e]; decide)]
      rw [gd] at C2
      rw [e, e2]; clear h e e2 g gd ht hI
      go_enter Try.func10, Try.ntmps10
      go_wp2_with fail
      refine C1.out.mono ?_
      rintro e w1 ⟨rfl, b1⟩
      have HB := Lib.hid b1
      clear b1 C1
      go_wp2_with fail
      refine (C2.out _).mono ?_
      rintro e w2 ⟨rfl, rfl⟩
      go_wp2_with fail
      go_ret2
      exact ⟨rfl, HB.out⟩
    · have hd := QM.within_true.1 gd
      obtain ⟨e, e2⟩ := UM.at_ok g ht hd
      have C3 := Lib.hid (fun ww h => upriceof_any A l l.length cap rfl day tick g hd ht ww h)
      rw [gd] at C2
      have HI := Lib.hid hI
      rw [e, e2]
      generalize UM.priceN l day tick = z at *
      clear h e e2 g gd hd ht hI
      go_enter Try.func10, Try.ntmps10
      go_wp2_with fail
      refine C1.out.mono ?_
      rintro e w1 ⟨rfl, b1⟩
      have HB := Lib.hid b1
      have HI1 := Lib.hid (HI.out.below b1)
      clear b1 C1
      go_wp2_with fail
      refine (C2.out _).mono ?_
      rintro e w2 ⟨rfl, rfl⟩
      go_wp2_with fail
      refine (C3.out _ HI1.out).mono ?_
      rintro e w2 ⟨rfl, b2⟩
      have HB2 := Lib.hid (HB.out.trans (b2.mono HB.out.size))
      clear b2
      go_wp2_with fail
      go_ret2
      exact ⟨rfl, HB2.out⟩
  · have e : UM.atE l day tick = UM.tickE l tick := by unfold UM.atE; rw [if_pos h]
    have e2 : UM.atN l day tick = 0 := by unfold UM.atN; rw [if_neg (by rw [e]; exact h)]
    have hd : (UM.tickE l tick != 0) = true := by simpa using h
    rw [e, e2]
    generalize UM.tickE l tick = y at *
    clear e e2 h hI
    go_enter Try.func10, Try.ntmps10
    go_wp2_with fail
    refine C1.out.mono ?_
    rintro e w1 ⟨rfl, b1⟩
    have HB := Lib.hid b1
    clear b1 C1
    go_wp2_with fail
    go_ret2
    exact ⟨rfl, HB.out⟩
end Go.Proofs.Ytagmknahmkniaaa

/- 's = append(s, l...)', l a slice of records. Over any program. -/
namespace Go.Recs
open Go.RowKit
set_option linter.unusedVariables false
set_option linter.unusedSimpArgs false

theorem run_catR {P : Program} (w : World) (B : Nat) (rows more : List (List Value)) (ts t ty : TypeId) (sz bytes : Nat) (z : Value)
    (hu : P.underlying ts = some (.slice t)) (hinfo : (P.info? t).map (fun i => (i.zero, i.size, i.bytes)) = some (some z, sz, bytes)) (hz : z.cells.size = sz) (h0 : 0 < sz)
    (v : Value) (hown : OwnR w B t sz v rows) (A : Option Addr) (c : Nat) (hm : Recs w A sz more) (h1 : ∀ r ∈ more, ∀ u ∈ r, u.oneCell' = true)
    (hl : (rows.length + more.length) * bytes ≤ 140737488355328) (hmx : rows.length + more.length ≤ maxLen) (hB : B ≤ w.heap.size) :
    ∃ v' w', (Builtin.append_ #[ts, ts] ty #[v, .slice A more.length c]).run P w = .ok v' w' ∧ OwnR w' B t sz v' (rows ++ more) ∧ w.grownBy w' v.ownBlock := by
  obtain ⟨i0, hi, hz0, hz1, hz2⟩ := info_parts hinfo
  have hrr : ∀ r ∈ rows ++ more, r.length = sz := by
    intro r hr
    rcases List.mem_append.1 hr with hr | hr
    · exact hown.1 r hr
    · exact hm.2.1 r hr
  have key : ∀ ad, A = some ad → ∃ v' w', (Builtin.append_ #[ts, ts] ty #[v, .slice A more.length c]).run P w = .ok v' w' ∧ OwnR w' B t sz v' (rows ++ more) ∧ w.grownBy w' v.ownBlock := by
    rintro ad rfl
    have hcells : ∀ j u, more.flatten[j]? = some u → w.cell? (ad.add j) = some u := by
      intro j u hj
      rcases hm.2.2 with e | ⟨b, off, e, hb, hcell⟩
      · subst e; simp at hj
      · injection e with e
        subst e
        have hlt : j < more.flatten.length := by
          rcases Nat.lt_or_ge j more.flatten.length with h | h
          · exact h
          · rw [List.getElem?_eq_none h] at hj; cases hj
        rw [flat_len hm.2.1] at hlt
        have hi' : j / sz < more.length := Nat.div_lt_of_lt_mul (by rw [Nat.mul_comm]; exact hlt)
        have hj' : j % sz < sz := Nat.mod_lt _ h0
        have ej : j / sz * sz + j % sz = j := by rw [Nat.mul_comm]; exact Nat.div_add_mod j sz
        have e := flat_at hm.2.1 (j / sz) (j % sz) hi' hj'
        have e2 := hcell (j / sz) (j % sz) hi' hj'
        rw [ej] at e e2
        rw [add_at, e2, ← e, hj]
    obtain ⟨v', w', hr, h2, h3, _, _⟩ := run_append_own_at (P := P) w B ts ty t i0 z sz bytes hu hi hz0 hz1 hz2 hz h0 v rows.length rows.flatten hown.2 ad more.length c more.flatten
      (flat_len hm.2.1) hcells (fun u hu => by obtain ⟨r, hr, hur⟩ := List.mem_flatten.1 hu; exact h1 r hr u hur) hmx hl hB
    refine ⟨v', w', hr, ⟨hrr, ?_⟩, h3⟩
    rw [List.length_append, List.flatten_append]
    exact h2
  cases A with
  | some ad => exact key ad rfl
  | none =>
    have : more = [] := by
      rcases hm.2.2 with h | ⟨b, off, e, _⟩
      · exact h
      · cases e
    subst this
    refine ⟨v, w, ?_, by simpa using hown, World.grownBy.refl w _⟩
    rcases hown.form with ⟨hv, _⟩ | ⟨g, cap, hv, _, _, hnc⟩ <;> rw [hv]
    · simp [Builtin.append_, run_underlying hu, sizeOf, typeInfo, hi, Builtin.lenOf, Builtin.firstCells]
    · simp [Builtin.append_, run_underlying hu, sizeOf, typeInfo, hi, Builtin.lenOf, Builtin.firstCells, storeCells]
      omega

theorem wpList_catR {P : Program} {ops : Array Oper} {rest : List Oper} {o : Oper} {a : Act} {Q : Exit → Act → World → Prop} (w : World) (B : Nat) (rows more : List (List Value)) (x y : Operand) (ts t : TypeId) (sz bytes : Nat) (z : Value)
    (hu : P.underlying ts = some (.slice t)) (hinfo : (P.info? t).map (fun i => (i.zero, i.size, i.bytes)) = some (some z, sz, bytes)) (hz : z.cells.size = sz) (h0 : 0 < sz)
    (hgd : o.guard = none) (ho : o.op = .call { callee := .builtin .append, args := #[x, y], argTypes := #[ts, ts] })
    (v : Value) (A : Option Addr) (n c : Nat) (hs : a.eval x = v) (hx : a.eval y = .slice A n c) (hn : n = more.length) (hown : OwnR w B t sz v rows) (hm : Recs w A sz more) (h1 : ∀ r ∈ more, ∀ u ∈ r, u.oneCell' = true)
    (hl : (rows.length + more.length) * bytes ≤ 140737488355328) (hmx : rows.length + more.length ≤ maxLen) (hB : B ≤ w.heap.size)
    (h : ∀ v' w', OwnR w' B t sz v' (rows ++ more) → Below B w w' → w.grownBy w' v.ownBlock → wpList P ops Q rest (a.put o.dst v') w') :
    wpList P ops Q (o :: rest) a w := by
  subst hn
  obtain ⟨v', w', hr, h2, h3⟩ := run_catR w B rows more ts t o.type sz bytes z hu hinfo hz h0 v hown A c hm h1 hl hmx hB
  refine wpList_plain hgd fun K hK => ?_
  unfold Oper.wp execOp
  simp only [ho, resolve, invoke, builtin, Sem.run_bind, Sem.run_pure, Result.andThen_ok, List.map_toArray, List.map_cons, List.map_nil, hs, hx, hr]
  exact hK _ _ (h v' w' h2 ((Below.refl B w).grown h3 hB (OwnR.block hown)) h3)
end Go.Recs

/- Contracts of layer 19: slices.Clone at points. -/
namespace Go.Proofs.Ytagmknahmkniaaa
open Go.RowKit Go.Recs
set_option linter.unusedVariables false
set_option linter.unusedSimpArgs false
set_option maxHeartbeats 2000000 in
theorem uclone_any (A : Option Addr) (rows : List (List Value)) (n cap : Nat) (w : World) (hn : n = rows.length) (h1 : ∀ r ∈ rows, ∀ u ∈ r, u.oneCell' = true) (hI : Recs w A 3 rows) (hl : rows.length * 24 ≤ 140737488355328) :
    Calls Try.prog 31 #[.slice A n cap] w fun e w' => ∃ v, e = .returned v ∧ OwnR w' w.heap.size 44 3 v rows ∧ Below w.heap.size w w' := by
  subst hn
  cases A with
  | none =>
    have : rows = [] := by
      rcases hI.2.2 with h | ⟨b, off, e, _⟩
      · exact h
      · cases e
    subst this
    have hq : ∀ (w : World), (binOp .eql 22 (.slice none 0 cap) (.slice none 0 0)).run Try.prog w = .ok (.bool true) w := fun w => Lib.run_eql_slice_nil w _ _ none 0 cap 0 0 Try.underlying22
    clear hI hl h1
    go_enter Try.func31, Try.ntmps31
    go_wp2_with fail
    go_ret
    exact ⟨_, rfl, OwnR.nil _ _ _ _, Below.refl _ _⟩
  | some ad =>
    have hq : ∀ (w : World) (n c n' c' : Nat), (binOp .eql 22 (.slice (some ad) n c) (.slice none n' c')).run Try.prog w = .ok (.bool false) w := fun w n c n' c' => Lib.run_eql_slice_nil w _ _ (some ad) n c n' c' Try.underlying22
    have hmx : rows.length ≤ maxLen := hI.1
    have HI := Lib.hid hI
    have HL := Lib.hid hl
    have HMX := Lib.hid hmx
    have HBE : Hid (Below w.heap.size w (w.alloc (.cells #[] 44))) := Lib.hid ((Below.refl _ _).alloc (Nat.le_refl _) _)
    clear hI hl hmx
    go_enter Try.func31, Try.ntmps31
    go_wp2_with (at_builtin; refine wpList_catR _ w.heap.size [] rows _ _ _ 44 3 24 _ Try.underlying22 info_pt rfl (by decide) rfl rfl _ _ _ _ rfl rfl ?c0 ?c1 ?c2 h1 ?c3 ?c4 ?c5 ?_)
    case c0 => rfl
    case c1 => exact OwnR.empty w w.heap.size 44 3 (Nat.le_refl _)
    case c2 => exact HI.out.below HBE.out
    case c3 => have := HL.out; simpa using this
    case c4 => have := HMX.out; simpa using this
    case c5 => simp
    rintro v1 w1 hO hb hg
    have HO : Hid (OwnR w1 w.heap.size 44 3 v1 rows) := Lib.hid (by simpa using hO)
    have HB1 := Lib.hid (HBE.out.trans hb)
    clear hO hb hg
    go_wp2_with fail
    go_ret
    exact ⟨_, rfl, HO.out, HB1.out⟩

end Go.Proofs.Ytagmknahmkniaaa

/- An own row of points: one point written over; a moved row. -/
namespace Go.Recs
open Go.RowKit
set_option linter.unusedVariables false
theorem OwnR.put3 {w : World} {B g n cap : Nat} {t : TypeId} {rows : List (List Value)} (h : OwnR w B t 3 (.slice (some ⟨g, 0, none⟩) n cap) rows) {i : Nat} (hi : i < rows.length) (a b c : Value) :
    OwnR (((w.setCell ⟨g, i * 3, none⟩ a).setCell ⟨g, i * 3 + 1, none⟩ b).setCell ⟨g, i * 3 + 2, none⟩ c) B t 3 (.slice (some ⟨g, 0, none⟩) n cap) (rows.set i [a, b, c]) := by
  have hr : (rows.getD i []).length = 3 := h.1 _ (by simp [List.getD, hi])
  obtain ⟨x, y, z, hxyz⟩ : ∃ x y z, rows.getD i [] = [x, y, z] := by
    match rows.getD i [], hr with
    | [x, y, z], _ => exact ⟨x, y, z, rfl⟩
  have h0 := h.set_ (by omega) hi (show 0 < 3 by omega) a
  have h1 := h0.set_ (by omega) (i := i) (by simpa using hi) (show 1 < 3 by omega) b
  have h2 := h1.set_ (by omega) (i := i) (by simpa using hi) (show 2 < 3 by omega) c
  rw [Nat.add_zero] at h2
  have e : ((rows.set i ((rows.getD i []).set 0 a)).set i (((rows.set i ((rows.getD i []).set 0 a)).getD i []).set 1 b)).set i ((((rows.set i ((rows.getD i []).set 0 a)).set i (((rows.set i ((rows.getD i []).set 0 a)).getD i []).set 1 b)).getD i []).set 2 c) = rows.set i [a, b, c] := by
    rw [hxyz]
    simp [List.getD, hi]
  rw [e] at h2
  exact h2
theorem OwnR.put1 {w : World} {B g n cap : Nat} {t : TypeId} {rows : List (List Value)} (h : OwnR w B t 3 (.slice (some ⟨g, 0, none⟩) n cap) rows) {i : Nat} (hi : i < rows.length) (b : Value) {x y z : Value} (hr : rows.getD i [] = [x, y, z]) :
    OwnR (w.setCell ⟨g, i * 3 + 1, none⟩ b) B t 3 (.slice (some ⟨g, 0, none⟩) n cap) (rows.set i [x, b, z]) := by
  have h1 := h.set_ (by omega) hi (show 1 < 3 by omega) b
  rw [hr] at h1
  exact h1
/-- the first k of the one, the rest of the other -/
def mixL (f : UM.Pt → UM.Pt) (l : List UM.Pt) (k : Nat) : List UM.Pt := (l.map f).take k ++ l.drop k
theorem mix_zero (f : UM.Pt → UM.Pt) (l : List UM.Pt) : mixL f l 0 = l := by simp [mixL]
theorem mix_end (f : UM.Pt → UM.Pt) (l : List UM.Pt) : mixL f l l.length = l.map f := by
  unfold mixL
  rw [List.drop_length, List.append_nil, List.take_of_length_le (by simp)]
theorem mix_len (f : UM.Pt → UM.Pt) (l : List UM.Pt) {k : Nat} (h : k ≤ l.length) : (mixL f l k).length = l.length := by
  unfold mixL; rw [List.length_append, List.length_take, List.length_drop, List.length_map]; omega
theorem mix_succ (f : UM.Pt → UM.Pt) (l : List UM.Pt) {k : Nat} (h : k < l.length) : mixL f l (k + 1) = (mixL f l k).set k (f (UM.pAt l k)) := by
  unfold mixL
  have e1 : ((l.map f).take k).length = k := by rw [List.length_take, List.length_map]; omega
  rw [List.set_append_right _ _ (by omega), e1, Nat.sub_self, List.take_succ_eq_append_getElem (by simpa using h), List.getElem_map, UM.pAt_get h, List.append_assoc]
  congr 1
  rw [List.drop_eq_getElem_cons h]; rfl
theorem mix_same (f : UM.Pt → UM.Pt) (l : List UM.Pt) {k : Nat} (h : k < l.length) (hf : f (UM.pAt l k) = UM.pAt l k) : mixL f l (k + 1) = mixL f l k := by
  rw [mix_succ f l h, hf]
  apply List.ext_getElem?
  intro i
  rw [List.getElem?_set]
  split
  · rename_i e
    subst e
    have e1 : ((l.map f).take k).length = k := by rw [List.length_take, List.length_map]; omega
    rw [if_pos (by rw [mix_len f l (by omega)]; exact h)]
    unfold mixL
    rw [List.getElem?_append_right (by omega), e1, Nat.sub_self, List.getElem?_drop, Nat.add_zero, List.getElem?_eq_getElem h, UM.pAt_get h]
  · rfl
theorem mix_at (f : UM.Pt → UM.Pt) (l : List UM.Pt) {k : Nat} (h : k < l.length) : ((mixL f l k).map ptV).getD k [] = ptV (UM.pAt l k) := by
  have e1 : ((l.map f).take k).length = k := by rw [List.length_take, List.length_map]; omega
  have e2 : (mixL f l k)[k]? = some (UM.pAt l k) := by
    unfold mixL
    rw [List.getElem?_append_right (by omega), e1, Nat.sub_self, List.getElem?_drop, Nat.add_zero, List.getElem?_eq_getElem h, UM.pAt_get h]
  simp [List.getD, e2]
theorem map_put (l : List UM.Pt) (k : Nat) (x : UM.Pt) : (l.set k x).map ptV = (l.map ptV).set k (ptV x) := by rw [List.map_set]
end Go.Recs

/- Contracts of layer 19: Fill, Shift. -/
namespace UM
def fillR (l : List Pt) (tick : Int) : List Pt := if tickE l tick = 0 then fillL l tick else []
def moveR (l : List Pt) (b lo hi : Int) : List Pt := if moveE l b lo hi = 0 then moveL l b lo hi else []
theorem pAt_mem {l : List Pt} {k : Nat} (h : k < l.length) : pAt l k ∈ l := by rw [pAt_get h]; exact List.getElem_mem _
theorem fill_no {l : List Pt} {tick : Int} (h : tickE l tick ≠ 0) : fillR l tick = [] := by unfold fillR; rw [if_neg h]
theorem fill_yes {l : List Pt} {tick : Int} (h : tickE l tick = 0) : fillR l tick = l.map (fillP l tick) := by unfold fillR; rw [if_pos h]; rfl
theorem move_no {l : List Pt} {b lo hi : Int} (h : moveE l b lo hi ≠ 0) : moveR l b lo hi = [] := by unfold moveR; rw [if_neg h]
theorem move_yes {l : List Pt} {b lo hi : Int} (h : moveE l b lo hi = 0) : moveR l b lo hi = l.map (moveP b lo hi) := by unfold moveR; rw [if_pos h]; rfl
end UM
namespace Go.Proofs.Ytagmknahmkniaaa
open Go.RowKit Go.Recs
set_option linter.unusedVariables false
set_option linter.unusedSimpArgs false
set_option maxHeartbeats 4000000 in
set_option maxRecDepth 100000 in
theorem ufill_any (A : Option Addr) (l : List UM.Pt) (n cap : Nat) (hn : n = l.length) (tick : Int) (w : World) (hI : Pts w A l) :
    Calls Try.prog 15 #[.slice A n cap, .int .i64 tick] w fun e w' => ∃ v, e = .returned (.tuple #[v, .int .i64 (UM.tickE l tick)]) ∧ OwnR w' w.heap.size 44 3 v ((UM.fillR l tick).map ptV) ∧ Below w.heap.size w w' := by
  subst hn
  have hlen := hI.len
  have C1 := Lib.hid (uchecktick_any A l l.length cap rfl tick w hI)
  by_cases h : UM.tickE l tick = 0
  · obtain ⟨g, ht⟩ := UM.tick_zero h
    rw [h] at C1
    rw [UM.fill_yes h, h]
    have hl2 := g.len
    have C2 := Lib.hid (fun ww h => uclone_any A (l.map ptV) l.length cap ww (by simp) (pts_one l) h (by rw [List.length_map]; omega))
    have C3 := Lib.hid (fun k (hk : k < l.length) ww h => upriceof_any A l l.length cap rfl (UM.pAt l k).exp tick g ⟨(g.ord.mem _ (UM.pAt_mem hk)).1, (g.ord.mem _ (UM.pAt_mem hk)).2.1⟩ ht ww h)
    have HI := Lib.hid hI
    have KF := Lib.hid (fun p (hp : p.known = false) => (show UM.fillP l tick p = ⟨p.exp, UM.priceN l p.exp tick, true⟩ by unfold UM.fillP; rw [if_neg (by simp [hp])]))
    have KT := Lib.hid (fun p (hp : p.known = true) => (show UM.fillP l tick p = p by unfold UM.fillP; rw [if_pos hp]))
    have MS := Lib.hid (fun k (hk : k < l.length) => mix_succ (UM.fillP l tick) l hk)
    have ME := Lib.hid (fun k (hk : k < l.length) => mix_same (UM.fillP l tick) l hk)
    have ML' := Lib.hid (fun k (hk : k ≤ l.length) => mix_len (UM.fillP l tick) l hk)
    have MA := Lib.hid (fun k (hk : k < l.length) => mix_at (UM.fillP l tick) l hk)
    have MZ := Lib.hid (mix_zero (UM.fillP l tick) l)
    have MX := Lib.hid (mix_end (UM.fillP l tick) l)
    generalize UM.fillP l tick = f at *
    clear hI h g ht hl2
    go_enter Try.func15, Try.ntmps15
    go_wp2_with fail
    refine C1.out.mono ?_
    rintro e w1 ⟨rfl, b1⟩
    have HB1 := Lib.hid b1
    have HI1 := Lib.hid (HI.out.below b1)
    clear b1 C1
    go_wp2_with fail
    refine (C2.out _ HI1.out.1).mono ?_
    rintro e w2 ⟨v, rfl, hO, b2⟩
    have HB2 := Lib.hid (HB1.out.trans (b2.mono HB1.out.size))
    have HO := Lib.hid (hO.lower HB1.out.size)
    have HI2 := Lib.hid (HI1.out.below b2)
    clear b2 hO HB1 HI1 C2
    go_wp2_with fail
    go_loopw [4, 5, 7, 8, 9, 10, 21] (fun o _ _ _ _ _ i wr => ∃ k : Nat, k ≤ l.length ∧ v = o ∧ i = .int .i64 (k : Int) ∧ Hid (OwnR wr w.heap.size 44 3 v ((mixL f l k).map ptV)) ∧ Hid (Below w.heap.size w wr)) (fun _ _ _ _ _ _ i _ => l.length - (intOf i).toNat)
    case atStart => exact ⟨0, by omega, rfl, rfl, by rw [MZ.out]; exact HO, HB2⟩
    case round =>
      clear HO HB2
      obtain ⟨k, hk, rfl, rfl, HO, HB⟩ := hrel
      by_cases hlt : k < l.length
      · obtain ⟨b, off, t, rfl, hb, HV, q, d0, d1, d2⟩ := pts_get (HI.out.below HB.out) hlt
        have HSU := Lib.hid (MS.out k hlt)
        have HSA := Lib.hid (ME.out k hlt)
        have HLN := Lib.hid (ML'.out k hk)
        have HMA := Lib.hid (MA.out k hlt)
        rw [HV.out] at HSU HSA HMA
        have C4 := Lib.hid (C3.out k hlt)
        rw [HV.out] at C4
        have KF1 := Lib.hid (KF.out t)
        have KT1 := Lib.hid (KT.out t)
        obtain ⟨te, tp, tk⟩ := t
        have HBx := Lib.hid (below_al HB.out (.cells #[.int .i64 te, .int .i64 tp, .bool tk] 44))
        have HOx := Lib.hid (HO.out.alloc (.cells #[.int .i64 te, .int .i64 tp, .bool tk] 44))
        have HT := CB.new wr 44 #[.int .i64 te, .int .i64 tp, .bool tk]
        have f0 := HT.cell 0
        have f1 := HT.cell 1
        have f2 := HT.cell 2
        simp only [List.getElem?_toArray, List.getElem?_cons_zero, List.getElem?_cons_succ] at f0 f1 f2 d0 d1 d2
        clear q
        cases tk
        · obtain ⟨gg, cc, rfl, hgB⟩ : ∃ gg cc, v = .slice (some ⟨gg, 0, none⟩) l.length cc ∧ w.heap.size ≤ gg := by
            rcases HO.out.form with ⟨_, e⟩ | ⟨gg, cc, e, h1, _, _⟩
            · have e1 := HLN.out
              have e2 : (mixL f l k).length = 0 := by simpa using congrArg List.length e
              omega
            · rw [List.length_map, HLN.out] at e
              exact ⟨gg, cc, e, h1⟩
          have HKL := Lib.hid (show k < ((mixL f l k).map ptV).length by rw [List.length_map, HLN.out]; exact hlt)
          have HSU2 : Hid (mixL f l (k + 1) = (mixL f l k).set k ⟨te, UM.priceN l te tick, true⟩) := Lib.hid (by rw [HSU.out, KF1.out rfl])
          have HTX := Lib.hid HT
          clear HSU HSA KF1 KT1 HV HT
          generalize UM.priceN l te tick = z at *
          go_wp2_with fail
          refine (C4.out _ (HI.out.below HBx.out)).mono ?_
          rintro e w5 ⟨rfl, b5⟩
          have HB5 := Lib.hid (HBx.out.trans (b5.mono HBx.out.size))
          have HO5 := Lib.hid (HOx.out.below b5)
          have hT5 := HTX.out.below b5 HTX.out.lt
          have g0 := hT5.cell 0
          simp only [List.getElem?_toArray, List.getElem?_cons_zero] at g0
          have fO := HO5.out.frozen
          have o0 := HO5.out.cell HKL.out (show 0 < 3 by omega)
          have o1 := HO5.out.cell HKL.out (show 1 < 3 by omega)
          have o2 := HO5.out.cell HKL.out (show 2 < 3 by omega)
          rw [HMA.out] at o0 o1 o2
          simp only [ptV, List.getElem?_cons_zero, List.getElem?_cons_succ, Nat.add_zero] at o0 o1 o2
          clear hT5 b5 HBx HOx HTX f0 f1 f2 d0 d1 d2
          have HO6 := Lib.hid (HO5.out.put3 (i := k) HKL.out (.int .i64 te) (.int .i64 z) (.bool true))
          have HB6 := Lib.hid (((HB5.out.setCell (p := ⟨gg, k * 3, none⟩) hgB (.int .i64 te)).setCell (p := ⟨gg, k * 3 + 1, none⟩) hgB (.int .i64 z)).setCell (p := ⟨gg, k * 3 + 2, none⟩) hgB (.bool true))
          go_wp2_with fail
          go_roundw
          case rel => exact ⟨k + 1, by omega, rfl, by go_num, by rw [HSU2.out, map_put]; exact HO6, HB6⟩
          case measure => simp [intOf]; omega
        · have HSA2 : Hid (mixL f l (k + 1) = mixL f l k) := Lib.hid (HSA.out (KT1.out rfl))
          clear HSU HSA KF1 KT1 HV
          go_wp2_with fail
          go_roundw
          case rel => exact ⟨k + 1, by omega, rfl, by go_num, by rw [HSA2.out]; exact HOx, HBx⟩
          case measure => simp [intOf]; omega
      · obtain rfl : k = l.length := by omega
        rw [MX.out] at HO
        go_wp2_with fail
        go_ret2
        exact ⟨v, rfl, HO.out, HB.out⟩
  · have hd : (UM.tickE l tick != 0) = true := by simpa using h
    rw [UM.fill_no h]
    generalize UM.tickE l tick = y at *
    clear h hI
    go_enter Try.func15, Try.ntmps15
    go_wp2_with fail
    refine C1.out.mono ?_
    rintro e w1 ⟨rfl, b1⟩
    have HB := Lib.hid b1
    clear b1 C1
    go_wp2_with fail
    go_ret2
    exact ⟨_, rfl, OwnR.nil _ _ _ _, HB.out⟩
end Go.Proofs.Ytagmknahmkniaaa

/- Contracts of layer 19: Shift. -/
namespace UM
theorem move_e8 {l : List Pt} {b lo hi : Int} (h : checkE l ≠ 0) : moveE l b lo hi = checkE l := by unfold moveE; rw [if_pos h]
theorem move_e17 {l : List Pt} {b lo hi : Int} (h : checkE l = 0) (hb : isP b = false) : moveE l b lo hi = 17 := by unfold moveE; rw [if_neg (by simp [h]), if_pos hb]
theorem move_e2 {l : List Pt} {b lo hi : Int} (h : checkE l = 0) (hb : isP b = true) (h2 : (isP lo && isP hi && decide (lo ≤ hi)) = false) : moveE l b lo hi = 2 := by unfold moveE; rw [if_neg (by simp [h]), if_neg (by simp [hb]), if_pos h2]
theorem move_e0 {l : List Pt} {b lo hi : Int} (h : checkE l = 0) (hb : isP b = true) (h2 : (isP lo && isP hi && decide (lo ≤ hi)) = true) : moveE l b lo hi = 0 := by unfold moveE; rw [if_neg (by simp [h]), if_neg (by simp [hb]), if_neg (by simp [h2])]
end UM
namespace Go.Proofs.Ytagmknahmkniaaa
open Go.RowKit Go.Recs
set_option linter.unusedVariables false
set_option linter.unusedSimpArgs false
set_option maxHeartbeats 4000000 in
set_option maxRecDepth 100000 in
theorem ushift_any (A : Option Addr) (l : List UM.Pt) (n cap : Nat) (hn : n = l.length) (b lo hi : Int) (w : World) (hI : Pts w A l) :
    Calls Try.prog 17 #[.slice A n cap, .int .i64 b, .int .i64 lo, .int .i64 hi] w fun e w' => ∃ v, e = .returned (.tuple #[v, .int .i64 (UM.moveE l b lo hi)]) ∧ OwnR w' w.heap.size 44 3 v ((UM.moveR l b lo hi).map ptV) ∧ Below w.heap.size w w' := by
  subst hn
  have hlen := hI.len
  have C1 := Lib.hid (ucheck_any A l l.length cap rfl w hI)
  have P1 := Lib.hid (fun ww => uisprice_any b ww)
  have P2 := Lib.hid (fun ww => uisprice_any lo ww)
  have P3 := Lib.hid (fun ww => uisprice_any hi ww)
  by_cases h : UM.checkE l = 0
  · rw [h] at C1
    cases hb : UM.isP b
    · rw [UM.move_no (by rw [UM.move_e17 h hb]; decide), UM.move_e17 h hb]
      rw [hb] at P1
      clear h hb hI
      go_enter Try.func17, Try.ntmps17
      go_wp2_with fail
      refine C1.out.mono ?_
      rintro e w1 ⟨rfl, b1⟩
      have HB := Lib.hid b1
      clear b1 C1
      go_wp2_with fail
      refine (P1.out _).mono ?_
      rintro e w2 ⟨rfl, rfl⟩
      go_wp2_with fail
      go_ret2
      exact ⟨_, rfl, OwnR.nil _ _ _ _, HB.out⟩
    cases h2 : (UM.isP lo && UM.isP hi && decide (lo ≤ hi))
    · rw [UM.move_no (by rw [UM.move_e2 h hb h2]; decide), UM.move_e2 h hb h2]
      rw [hb] at P1
      clear h hb hI
      cases g1 : UM.isP lo
      · rw [g1] at P2
        clear h2 g1
        go_enter Try.func17, Try.ntmps17
        go_wp2_with fail
        refine C1.out.mono ?_
        rintro e w1 ⟨rfl, b1⟩
        have HB := Lib.hid b1
        clear b1 C1
        go_wp2_with fail
        refine (P1.out _).mono ?_
        rintro e w2 ⟨rfl, rfl⟩
        go_wp2_with fail
        refine (P2.out _).mono ?_
        rintro e w2 ⟨rfl, rfl⟩
        go_wp2_with fail
        go_ret2
        exact ⟨_, rfl, OwnR.nil _ _ _ _, HB.out⟩
      cases g2 : UM.isP hi
      · rw [g1] at P2
        rw [g2] at P3
        clear h2 g1 g2
        go_enter Try.func17, Try.ntmps17
        go_wp2_with fail
        refine C1.out.mono ?_
        rintro e w1 ⟨rfl, b1⟩
        have HB := Lib.hid b1
        clear b1 C1
        go_wp2_with fail
        refine (P1.out _).mono ?_
        rintro e w2 ⟨rfl, rfl⟩
        go_wp2_with fail
        refine (P2.out _).mono ?_
        rintro e w2 ⟨rfl, rfl⟩
        go_wp2_with fail
        refine (P3.out _).mono ?_
        rintro e w2 ⟨rfl, rfl⟩
        go_wp2_with fail
        go_ret2
        exact ⟨_, rfl, OwnR.nil _ _ _ _, HB.out⟩
      rw [g1, g2] at h2
      have hlt : hi < lo := by
        have : ¬ lo ≤ hi := by simpa using h2
        omega
      rw [g1] at P2
      rw [g2] at P3
      clear h2 g1 g2
      go_enter Try.func17, Try.ntmps17
      go_wp2_with fail
      refine C1.out.mono ?_
      rintro e w1 ⟨rfl, b1⟩
      have HB := Lib.hid b1
      clear b1 C1
      go_wp2_with fail
      refine (P1.out _).mono ?_
      rintro e w2 ⟨rfl, rfl⟩
      go_wp2_with fail
      refine (P2.out _).mono ?_
      rintro e w2 ⟨rfl, rfl⟩
      go_wp2_with fail
      refine (P3.out _).mono ?_
      rintro e w2 ⟨rfl, rfl⟩
      go_wp2_with fail
      go_ret2
      exact ⟨_, rfl, OwnR.nil _ _ _ _, HB.out⟩
    rw [UM.move_yes (UM.move_e0 h hb h2), UM.move_e0 h hb h2]
    have g := UM.check_good.1 h
    simp only [Bool.and_eq_true, decide_eq_true_eq] at h2
    obtain ⟨⟨g1, g2⟩, g3⟩ := h2
    have hbb := UM.isP_true.1 hb
    have hl2 := g.len
    have hng : ¬ hi < lo := by omega
    rw [hb] at P1
    rw [g1] at P2
    rw [g2] at P3
    have C2 := Lib.hid (fun ww h => uclone_any A (l.map ptV) l.length cap ww (by simp) (pts_one l) h (by rw [List.length_map]; omega))
    have HI := Lib.hid hI
    have C3 := Lib.hid (fun p ww => clamp_any p lo hi ww)
    have KB := Lib.hid (fun k (hk : k < l.length) => (g.ord.mem _ (UM.pAt_mem hk)).2.2)
    have KF := Lib.hid (fun p (hp : p.known = false) => (show UM.moveP b lo hi p = p by unfold UM.moveP; rw [if_neg (by simp [hp])]))
    have KT := Lib.hid (fun p (hp : p.known = true) => (show UM.moveP b lo hi p = ⟨p.exp, CM.clamp (p.price + b) lo hi, true⟩ by unfold UM.moveP; rw [if_pos hp]))
    have MS := Lib.hid (fun k (hk : k < l.length) => mix_succ (UM.moveP b lo hi) l hk)
    have ME := Lib.hid (fun k (hk : k < l.length) => mix_same (UM.moveP b lo hi) l hk)
    have ML' := Lib.hid (fun k (hk : k ≤ l.length) => mix_len (UM.moveP b lo hi) l hk)
    have MA := Lib.hid (fun k (hk : k < l.length) => mix_at (UM.moveP b lo hi) l hk)
    have MZ := Lib.hid (mix_zero (UM.moveP b lo hi) l)
    have MX := Lib.hid (mix_end (UM.moveP b lo hi) l)
    generalize UM.moveP b lo hi = f at *
    clear hI h g hb g1 g2 g3
    go_enter Try.func17, Try.ntmps17
    go_wp2_with fail
    refine C1.out.mono ?_
    rintro e w1 ⟨rfl, b1⟩
    have HB1 := Lib.hid b1
    have HI1 := Lib.hid (HI.out.below b1)
    clear b1 C1
    go_wp2_with fail
    refine (P1.out _).mono ?_
    rintro e w2 ⟨rfl, rfl⟩
    go_wp2_with fail
    refine (P2.out _).mono ?_
    rintro e w2 ⟨rfl, rfl⟩
    go_wp2_with fail
    refine (P3.out _).mono ?_
    rintro e w2 ⟨rfl, rfl⟩
    go_wp2_with fail
    refine (C2.out _ HI1.out.1).mono ?_
    rintro e w2 ⟨v, rfl, hO, b2⟩
    have HB2 := Lib.hid (HB1.out.trans (b2.mono HB1.out.size))
    have HO := Lib.hid (hO.lower HB1.out.size)
    clear b2 HB1 HI1 C2
    obtain ⟨gg, cc, rfl, hgB⟩ : ∃ gg cc, v = .slice (some ⟨gg, 0, none⟩) l.length cc ∧ w.heap.size ≤ gg := by
      rcases HO.out.form with ⟨_, e⟩ | ⟨gg, cc, e, h1, _, _⟩
      · have e2 : l.length = 0 := by simpa using congrArg List.length e
        omega
      · rw [List.length_map] at e
        exact ⟨gg, cc, e, h1⟩
    clear hO
    go_wp2_with fail
    go_loopw [11, 12, 38] (fun _ _ i wr => ∃ k : Nat, k ≤ l.length ∧ i = .int .i64 (k : Int) ∧ Hid (OwnR wr w.heap.size 44 3 (.slice (some ⟨gg, 0, none⟩) l.length cc) ((mixL f l k).map ptV)) ∧ Hid (Below w.heap.size w wr)) (fun _ _ i _ => l.length - (intOf i).toNat)
    case atStart => exact ⟨0, by omega, rfl, by rw [MZ.out]; exact HO, HB2⟩
    case round =>
      clear HO HB2
      obtain ⟨k, hk, rfl, HO, HB⟩ := hrel
      by_cases hlt : k < l.length
      · have HSU := Lib.hid (MS.out k hlt)
        have HSA := Lib.hid (ME.out k hlt)
        have HLN := Lib.hid (ML'.out k hk)
        have HMA := Lib.hid (MA.out k hlt)
        have HKB := KB.out k hlt
        have HKL := Lib.hid (show k < ((mixL f l k).map ptV).length by rw [List.length_map, HLN.out]; exact hlt)
        have KF1 := Lib.hid (KF.out (UM.pAt l k))
        have KT1 := Lib.hid (KT.out (UM.pAt l k))
        generalize UM.pAt l k = t at *
        obtain ⟨te, tp, tk⟩ := t
        have o0 := HO.out.cell HKL.out (show 0 < 3 by omega)
        have o1 := HO.out.cell HKL.out (show 1 < 3 by omega)
        have o2 := HO.out.cell HKL.out (show 2 < 3 by omega)
        rw [HMA.out] at o0 o1 o2
        simp only [ptV, List.getElem?_cons_zero, List.getElem?_cons_succ, Nat.add_zero] at o0 o1 o2
        have hgl : gg < wr.heap.size := by
          rcases HO.out.form with ⟨e, _⟩ | ⟨g', c', e, _, h2, _⟩
          · cases e
          · injection e with e
            injection e with e
            injection e with e
            omega
        have HBx := Lib.hid (below_al HB.out (.cells #[.int .i64 te, .int .i64 tp, .bool tk] 44))
        have HOx := Lib.hid (HO.out.alloc (.cells #[.int .i64 te, .int .i64 tp, .bool tk] 44))
        have HT := CB.new wr 44 #[.int .i64 te, .int .i64 tp, .bool tk]
        have f0 := HT.cell 0
        have f1 := HT.cell 1
        have f2 := HT.cell 2
        have p1 := HOx.out.cell HKL.out (show 1 < 3 by omega)
        rw [HMA.out] at p1
        have fO := HOx.out.frozen
        simp only [ptV, List.getElem?_toArray, List.getElem?_cons_zero, List.getElem?_cons_succ, Nat.add_zero] at f0 f1 f2 p1
        clear HT
        cases tk
        · have HSA2 : Hid (mixL f l (k + 1) = mixL f l k) := Lib.hid (HSA.out (KF1.out rfl))
          clear HSU HSA KF1 KT1 HKB
          go_wp2_with fail
          go_roundw
          case rel => exact ⟨k + 1, by omega, by go_num, by rw [HSA2.out]; exact HOx, HBx⟩
          case measure => simp [intOf]; omega
        · have HSU2 : Hid (mixL f l (k + 1) = (mixL f l k).set k ⟨te, CM.clamp (tp + b) lo hi, true⟩) := Lib.hid (by rw [HSU.out, KT1.out rfl])
          have C4 := Lib.hid (fun ww => C3.out (tp + b) ww)
          have hbt : -16777216 ≤ tp ∧ tp ≤ 16777216 := HKB rfl
          have HMA2 : Hid (((mixL f l k).map ptV).getD k [] = [.int .i64 te, .int .i64 tp, .bool true]) := Lib.hid (by rw [HMA.out]; rfl)
          clear HSU HSA KF1 KT1 HKB
          generalize CM.clamp (tp + b) lo hi = z at *
          have HO6 := Lib.hid ((HO.out.put1 (i := k) HKL.out (.int .i64 z) HMA2.out).alloc (.cells #[.int .i64 te, .int .i64 tp, .bool true] 44))
          have HB6 := Lib.hid (below_al (HB.out.setCell (p := ⟨gg, k * 3 + 1, none⟩) hgB (.int .i64 z)) (.cells #[.int .i64 te, .int .i64 tp, .bool true] 44))
          go_wp2_with fail
          refine (C4.out _).mono ?_
          rintro e w5 ⟨rfl, rfl⟩
          go_wp2_with fail
          go_roundw
          case rel => exact ⟨k + 1, by omega, by go_num, by rw [HSU2.out, map_put]; exact HO6, HB6⟩
          case measure => simp [intOf]; omega
      · obtain rfl : k = l.length := by omega
        rw [MX.out] at HO
        go_wp2_with fail
        go_ret2
        exact ⟨_, rfl, HO.out, HB.out⟩
  · have hd : (UM.checkE l != 0) = true := by simpa using h
    rw [UM.move_no (by rw [UM.move_e8 h]; exact h), UM.move_e8 h]
    generalize UM.checkE l = y at *
    clear h hI
    go_enter Try.func17, Try.ntmps17
    go_wp2_with fail
    refine C1.out.mono ?_
    rintro e w1 ⟨rfl, b1⟩
    have HB := Lib.hid b1
    clear b1 C1
    go_wp2_with fail
    go_ret2
    exact ⟨_, rfl, OwnR.nil _ _ _ _, HB.out⟩
end Go.Proofs.Ytagmknahmkniaaa

/- Contracts of layer 19: two equal curves; the page's example. -/
namespace Go.Proofs.Ytagmknahmkniaaa
open Go.RowKit Go.Recs
set_option linter.unusedVariables false
set_option linter.unusedSimpArgs false
set_option maxHeartbeats 4000000 in
theorem usame_any (A B : Option Addr) (l : List UM.Pt) (n c m d : Nat) (hn : n = l.length) (hm : m = l.length) (w : World) (hI : Pts w A l) (hJ : Pts w B l) :
    Calls Try.prog 14 #[.slice A n c, .slice B m d] w fun e w' => e = .returned (.bool true) ∧ ∃ k, w' = w.drewN k := by
  subst hn hm
  have hlen := hI.len
  have gl := pt_guard
  go_enter Try.func14, Try.ntmps14
  go_wp2_with fail
  go_loopw [5] (fun i wr => ∃ k : Nat, k ≤ l.length ∧ i = .int .i64 (k : Int) ∧ ∃ nd, wr = w.drewN nd) (fun i _ => l.length - (intOf i).toNat)
  case atStart => exact ⟨0, by omega, rfl, 0, rfl⟩
  case round =>
    obtain ⟨k, hk, rfl, nd, rfl⟩ := hrel
    by_cases hlt : k < l.length
    · obtain ⟨b, off, x, rfl, hb, HV, q, d0, d1, d2⟩ := pts_get hI hlt
      obtain ⟨b', off', x', rfl, hb', HV', q', g0, g1, g2⟩ := pts_get hJ hlt
      obtain rfl : x = x' := HV.out.symm.trans HV'.out
      have HI := Lib.hid hI; have HJ := Lib.hid hJ
      have E1 : ∀ ww, (Op.equalIn 10000 44 (ptA x) (ptA x)).run Try.prog ww = .ok true ww := fun ww => by rw [pt_in, pteq_is, decide_eq_true rfl]
      clear q q' HV HV' hI hJ
      go_wp2_with fail
      go_quiet (fail)
      go_wp2_with fail
      go_roundw
      case rel => exact ⟨k + 1, by omega, by go_num, by first | exact ⟨nd, rfl⟩ | exact ⟨_, rfl⟩ | exact ⟨nd + 1, rfl⟩⟩
      case measure => simp [intOf]; omega
    · obtain rfl : k = l.length := by omega
      go_wp2_with fail
      go_ret
      exact ⟨rfl, nd, rfl⟩
/-- the page's points -/
def crvX : List UM.Pt := [⟨10, 100, true⟩, ⟨15, 0, false⟩, ⟨20, 121, true⟩]
def crvY : List UM.Pt := [⟨10, 100, true⟩, ⟨15, 110, true⟩, ⟨20, 121, true⟩]
theorem crv_a : UM.atN crvX 5 5 = 100 ∧ UM.atE crvX 5 5 = 0 := by decide
theorem crv_b : UM.atN crvX 15 5 = 110 ∧ UM.atE crvX 15 5 = 0 := by decide
theorem crv_c : UM.atN crvX 30 5 = 121 ∧ UM.atE crvX 30 5 = 0 := by decide
theorem crv_f : UM.fillR crvX 5 = crvY ∧ UM.tickE crvX 5 = 0 := by decide
theorem small_pt {a b : Int} {c : Bool} (h : (0 ≤ a ∧ a ≤ 1000) ∧ 0 ≤ b ∧ b ≤ 1000) : ptQ ⟨a, b, c⟩ := ⟨⟨by show _ ≤ a; omega, by show a ≤ _; omega⟩, ⟨by show _ ≤ b; omega, by show b ≤ _; omega⟩⟩
theorem crv_lit (W : World) : Pts (W.alloc (.cells #[.int .i64 10, .int .i64 100, .bool true, .int .i64 15, .int .i64 0, .bool false, .int .i64 20, .int .i64 121, .bool true] 44)) (some ⟨W.heap.size, 0, none⟩) crvX := by
  obtain ⟨A', cap, e, hr, _⟩ := OwnR.recs (OwnR.lit W W.heap.size 44 3 (crvX.map ptV) (by simp [crvX, ptV]) (Nat.le_refl _) (by simp [crvX, maxLen]))
  injection e with e
  subst e
  refine ⟨hr, ?_⟩
  intro x hx
  simp only [crvX, List.mem_cons, List.not_mem_nil, or_false] at hx
  rcases hx with rfl | rfl | rfl <;> exact small_pt (by decide)
set_option maxHeartbeats 8000000 in
set_option maxRecDepth 100000 in
theorem goes19_any (w : World) : Calls Try.prog 9 #[] w fun e w' => e = .returned (.bool true) ∧ Below w.heap.size w w' := by
  have gl := pt_guard
  have V1 := Lib.hid (fun ww h => uat_any (some ⟨w.heap.size, 0, none⟩) crvX 3 3 rfl 5 5 ww h)
  rw [crv_a.1, crv_a.2] at V1
  have V2 := Lib.hid (fun ww h => uat_any (some ⟨w.heap.size, 0, none⟩) crvX 3 3 rfl 15 5 ww h)
  rw [crv_b.1, crv_b.2] at V2
  have V3 := Lib.hid (fun ww h => uat_any (some ⟨w.heap.size, 0, none⟩) crvX 3 3 rfl 30 5 ww h)
  rw [crv_c.1, crv_c.2] at V3
  have F := Lib.hid (fun ww h => ufill_any (some ⟨w.heap.size, 0, none⟩) crvX 3 3 rfl 5 ww h)
  rw [crv_f.1, crv_f.2] at F
  have HT := Lib.hid (crv_lit w)
  have HB0 := Lib.hid (below_al (Below.refl w.heap.size w) (.cells #[.int .i64 10, .int .i64 100, .bool true, .int .i64 15, .int .i64 0, .bool false, .int .i64 20, .int .i64 121, .bool true] 44))
  have E1 : ∀ ww, (Op.equalIn 10000 44 (ptA ⟨15, 110, true⟩) (ptA ⟨15, 110, true⟩)).run Try.prog ww = .ok true ww := fun ww => by rw [pt_in, pteq_is, decide_eq_true rfl]
  generalize crvX = lx at *
  go_enter Try.func9, Try.ntmps9
  go_wp2_with fail
  refine (V1.out _ HT.out).mono ?_
  rintro e w1 ⟨rfl, b1⟩
  have HB1 := Lib.hid (HB0.out.trans (b1.mono HB0.out.size))
  have HT1 := Lib.hid (HT.out.below b1)
  clear b1
  go_wp2_with fail
  refine (V2.out _ HT1.out).mono ?_
  rintro e w2 ⟨rfl, b2⟩
  have HB2 := Lib.hid (HB1.out.trans (b2.mono HB1.out.size))
  have HT2 := Lib.hid (HT1.out.below b2)
  clear b2
  go_wp2_with fail
  refine (V3.out _ HT2.out).mono ?_
  rintro e w3 ⟨rfl, b3⟩
  have HB3 := Lib.hid (HB2.out.trans (b3.mono HB2.out.size))
  have HT3 := Lib.hid (HT2.out.below b3)
  clear b3
  go_wp2_with fail
  refine (F.out _ HT3.out).mono ?_
  rintro e w4 ⟨v, rfl, hO, b4⟩
  have HB4 := Lib.hid (HB3.out.trans (b4.mono HB3.out.size))
  obtain ⟨gg, cc, rfl⟩ : ∃ gg cc, v = .slice (some ⟨gg, 0, none⟩) 3 cc := by
    rcases hO.form with ⟨_, e⟩ | ⟨gg, cc, e, _⟩
    · cases e
    · exact ⟨gg, cc, e⟩
  have o0 := hO.cell (i := 1) (j := 0) (by decide) (by decide)
  have o1 := hO.cell (i := 1) (j := 1) (by decide) (by decide)
  have o2 := hO.cell (i := 1) (j := 2) (by decide) (by decide)
  simp only [crvY, List.map_cons, List.map_nil, ptV, List.getD_cons_succ, List.getD_cons_zero, List.getElem?_cons_zero, List.getElem?_cons_succ, Nat.one_mul, Nat.add_zero, Nat.reduceAdd] at o0 o1 o2
  clear b4 hO V1 V2 V3 F HT HT1 HT2 HT3 HB0 HB1 HB2 HB3
  go_wp2_with fail
  go_ret
  exact ⟨rfl, HB4.out⟩
end Go.Proofs.Ytagmknahmkniaaa

/- Parts of slices of records, and appends in regions that draw, over any program. -/
namespace Go.Recs
open Go.RowKit
set_option linter.unusedVariables false
set_option linter.unusedSimpArgs false
/-- where a part of a slice lies -/
def cutR (A : Option Addr) (m lo sz : Nat) : Option Addr := if m = lo then A else A.map (·.add (lo * sz))
theorem Recs.cut {w : World} {A : Option Addr} {sz : Nat} {rows : List (List Value)} (h : Recs w A sz rows) {m lo hi : Nat} (h1 : lo ≤ hi) (h2 : hi ≤ rows.length) (h3 : hi ≤ m) : Recs w (cutR A m lo sz) sz ((rows.take hi).drop lo) := by
  by_cases hz : lo = hi
  · have : (rows.take hi).drop lo = [] := by rw [List.drop_eq_nil_iff, List.length_take]; omega
    rw [this]; exact Recs.nil _ _ _
  · unfold cutR
    rw [if_neg (by omega)]
    have hl : ((rows.take hi).drop lo).length = hi - lo := by rw [List.length_drop, List.length_take]; omega
    refine ⟨by rw [hl]; have := h.1; omega, fun r hr => h.2.1 r (List.mem_of_mem_take (List.mem_of_mem_drop hr)), ?_⟩
    rcases h.2.2 with h | ⟨b, off, rfl, hb, hc⟩
    · subst h; simp at h2; omega
    · refine .inr ⟨b, off + lo * sz, by simp [add_at], hb, fun i j hi' hj => ?_⟩
      rw [hl] at hi'
      have := hc (lo + i) j (by omega) hj
      rw [Nat.add_mul] at this
      rw [show off + lo * sz + (i * sz + j) = off + (lo * sz + i * sz + j) by omega, this]
      have e : ((rows.take hi).drop lo).getD i [] = rows.getD (lo + i) [] := by
        have h1 : lo + i < rows.length := by omega
        have h2 : lo + i < hi := by omega
        simp [List.getD, h1, h2, List.getElem?_take]
      rw [e]
theorem run_fromR {P : Program} {ts t : TypeId} {sz bytes : Nat} {z : Value} (hu : P.underlying ts = some (.slice t)) (hinfo : (P.info? t).map (fun i => (i.zero, i.size, i.bytes)) = some (some z, sz, bytes)) {A : Option Addr} {n cap lo : Nat} (h : lo ≤ n) (w : World) :
    (Instr.slice ts (.slice A n cap) (some (.int .i64 (lo : Int))) none none).run P w = .ok (.slice (cutR A cap lo sz) (n - lo) (cap - lo)) w := by
  obtain ⟨i0, hi, hz0, hz1, hz2⟩ := info_parts hinfo
  have h0 : (0 : Int) ≤ (lo : Int) ∧ (lo : Int) ≤ (n : Int) := by omega
  simp [Instr.slice, Instr.sliceBounds, Instr.sliceBound, asIntOf, run_underlying hu, sizeOf, typeInfo, hi, hz1, h0, cutR]
  intro hc; omega
theorem run_full {P : Program} {ts t : TypeId} {sz bytes : Nat} {z : Value} (hu : P.underlying ts = some (.slice t)) (hinfo : (P.info? t).map (fun i => (i.zero, i.size, i.bytes)) = some (some z, sz, bytes)) {A : Option Addr} {n cap k : Nat} (h : k ≤ cap) (w : World) :
    (Instr.slice ts (.slice A n cap) none (some (.int .i64 (k : Int))) (some (.int .i64 (k : Int)))).run P w = .ok (.slice (cutR A k 0 sz) k k) w := by
  obtain ⟨i0, hi, hz0, hz1, hz2⟩ := info_parts hinfo
  have h0 : (0 : Int) ≤ (k : Int) ∧ (k : Int) ≤ (cap : Int) := by omega
  have h1 : (0 : Int) ≤ (k : Int) ∧ (k : Int) ≤ (k : Int) := by omega
  simp [Instr.slice, Instr.sliceBounds, Instr.sliceBound, asIntOf, run_underlying hu, sizeOf, typeInfo, hi, hz1, h0, h1, cutR]
  all_goals (try (intro hc; omega))
theorem run_toR {P : Program} {ts t : TypeId} {sz bytes : Nat} {z : Value} (hu : P.underlying ts = some (.slice t)) (hinfo : (P.info? t).map (fun i => (i.zero, i.size, i.bytes)) = some (some z, sz, bytes)) {A : Option Addr} {n cap k : Nat} (h : k ≤ cap) (w : World) :
    (Instr.slice ts (.slice A n cap) none (some (.int .i64 (k : Int))) none).run P w = .ok (.slice (cutR A cap 0 sz) k cap) w := by
  obtain ⟨i0, hi, hz0, hz1, hz2⟩ := info_parts hinfo
  have h0 : (0 : Int) ≤ (k : Int) ∧ (k : Int) ≤ (cap : Int) := by omega
  simp [Instr.slice, Instr.sliceBounds, Instr.sliceBound, asIntOf, run_underlying hu, sizeOf, typeInfo, hi, hz1, h0, cutR]
  all_goals (try (intro hc; omega))

theorem step_growR {P : Program} {ops : Array Oper} {o : Oper} {a : Act} {K : Act → World → Prop} {Q : Exit → Act → World → Prop} {E : Prop} (w : World) (x : List Value) (hx1 : ∀ u ∈ x, u.oneCell' = true) (rows : List (List Value)) (s y : Operand) (ts t : TypeId) (sz bytes : Nat) (z : Value)
    (hu : P.underlying ts = some (.slice t)) (hinfo : (P.info? t).map (fun i => (i.zero, i.size, i.bytes)) = some (some z, sz, bytes)) (hz : z.cells.size = sz) (h0 : 0 < sz) (hxl : x.length = sz)
    (hgd : o.guard = none) (ho : o.op = .call { callee := .builtin .append, args := #[s, y], argTypes := #[ts, ts] })
    (A : Option Addr) (n cap : Nat) (hs : a.eval s = .slice A n cap) (hx : a.eval y = .slice (some ⟨w.heap.size, 0, none⟩) 1 1) (hn : n = rows.length) (hcap : cap = n) (hA : Recs w A sz rows) (hl : (rows.length + 1) * bytes ≤ 140737488355328) (hm : rows.length + 1 ≤ maxLen)
    (h : ∀ v' w', OwnR w' w.heap.size t sz v' (rows ++ [x]) → Below w.heap.size w w' → K (a.put o.dst v') w') :
    if Region.wanted o (yielded ops a.tmps) = true then Oper.wp P o a (w.alloc (.cells x.toArray t)) K Q else E := by
  subst hn hcap
  obtain ⟨i0, hi, hz0, hz1, hz2⟩ := info_parts hinfo
  have hb0 : Below w.heap.size w (w.alloc (.cells x.toArray t)) := (Below.refl _ _).alloc (Nat.le_refl _) _
  have hA2 := hA.below hb0
  refine step_append_grows hgd s y ts ho t i0 z sz bytes hu hi hz0 hz1 hz2 hz h0 A rows.length rows.length rows.flatten hs ?_ (flat_len hA.2.1) ?_ ⟨w.heap.size, 0, none⟩ 1 1 x hx (by omega) ?_ hx1 (by omega) hm hl ?_
  · intro e
    rcases hA.2.2 with g | ⟨b, off, g, _⟩
    · rw [g]; simp
    · rw [e] at g; cases g
  · rintro b rfl j u hj
    rcases hA2.2.2 with e | ⟨b', off', e, hb, hcell⟩
    · subst e; simp at hj
    · injection e with e
      subst e
      have hlt : j < rows.flatten.length := by
        rcases Nat.lt_or_ge j rows.flatten.length with h | h
        · exact h
        · rw [List.getElem?_eq_none h] at hj; cases hj
      rw [flat_len hA.2.1] at hlt
      have hi' : j / sz < rows.length := Nat.div_lt_of_lt_mul (by rw [Nat.mul_comm]; exact hlt)
      have hj' : j % sz < sz := Nat.mod_lt _ h0
      have ej : j / sz * sz + j % sz = j := by rw [Nat.mul_comm]; exact Nat.div_add_mod j sz
      have e := flat_at hA.2.1 (j / sz) (j % sz) hi' hj'
      have e2 := hcell (j / sz) (j % sz) hi' hj'
      rw [ej] at e e2
      rw [add_at, e2, ← e, hj]
  · intro j u hj
    rw [add_at, Nat.zero_add]
    have hlt : j < x.length := by
      rcases Nat.lt_or_ge j x.length with g | g
      · exact g
      · rw [List.getElem?_eq_none g] at hj; cases hj
    have e : x.toArray[j]? = some u := by simpa using hj
    simp [e]
  · intro v' w' h1 h2
    have hr : ∀ r ∈ rows ++ [x], r.length = sz := by
      intro r hr
      rcases List.mem_append.1 hr with hr | hr
      · exact hA.2.1 r hr
      · rw [List.mem_singleton.1 hr]; exact hxl
    have ho : OwnR w' (w.heap.size + 1) t sz v' (rows ++ [x]) := ⟨hr, by simpa using h1⟩
    refine h v' w' (ho.lower (by omega)) (hb0.trans ((Below.refl _ _).grown h2 (by simp) (fun k hk => by cases hk)))

theorem step_catR {P : Program} {ops : Array Oper} {o : Oper} {a : Act} {K : Act → World → Prop} {Q : Exit → Act → World → Prop} {E : Prop} (w : World) (B : Nat) (rows more : List (List Value)) (x y : Operand) (ts t : TypeId) (sz bytes : Nat) (z : Value)
    (hu : P.underlying ts = some (.slice t)) (hinfo : (P.info? t).map (fun i => (i.zero, i.size, i.bytes)) = some (some z, sz, bytes)) (hz : z.cells.size = sz) (h0 : 0 < sz)
    (hgd : o.guard = none) (ho : o.op = .call { callee := .builtin .append, args := #[x, y], argTypes := #[ts, ts] })
    (v : Value) (A : Option Addr) (n c : Nat) (hs : a.eval x = v) (hx : a.eval y = .slice A n c) (hn : n = more.length) (hown : OwnR w B t sz v rows) (hm : Recs w A sz more) (h1 : ∀ r ∈ more, ∀ u ∈ r, u.oneCell' = true)
    (hl : (rows.length + more.length) * bytes ≤ 140737488355328) (hmx : rows.length + more.length ≤ maxLen) (hB : B ≤ w.heap.size)
    (h : ∀ v' w', OwnR w' B t sz v' (rows ++ more) → Below B w w' → K (a.put o.dst v') w') :
    if Region.wanted o (yielded ops a.tmps) = true then Oper.wp P o a w K Q else E := by
  subst hn
  have hw : Region.wanted o (yielded ops a.tmps) = true := by simp [Region.wanted, hgd]
  rw [if_pos hw]
  obtain ⟨v', w', hr, h2, h3⟩ := run_catR w B rows more ts t o.type sz bytes z hu hinfo hz h0 v hown A c hm h1 hl hmx hB
  unfold Oper.wp
  simp [execOp, ho, resolve, invoke, builtin, hs, hx, hr, Result.andThen]
  exact h v' w' h2 ((Below.refl B w).grown h3 hB (OwnR.block hown))

/-- the records are not in block g -/
def Apart {α : Type} (g : Nat) (A : Option Addr) (l : List α) : Prop := l = [] ∨ ∃ b off, A = some ⟨b, off, none⟩ ∧ b ≠ g
theorem TR.apart {α : Type} {f : α → List Value} {Q : α → Prop} {sz : Nat} {w : World} {A : Option Addr} {l : List α} (h : TR f Q sz w A l) {g : Nat} (hg : w.heap.size ≤ g) : Apart g A l := by
  rcases h.1.2.2 with e | ⟨b, off, rfl, hb, _⟩
  · exact .inl (by simpa using e)
  · exact .inr ⟨b, off, rfl, by omega⟩
theorem TR.set_ {α : Type} {f : α → List Value} {Q : α → Prop} {sz : Nat} {w : World} {A : Option Addr} {l : List α} (h : TR f Q sz w A l) {g i : Nat} (ha : Apart g A l) (u : Value) : TR f Q sz (w.setCell ⟨g, i, none⟩ u) A l := by
  rcases ha with rfl | ⟨b, off, rfl, hb⟩
  · exact TR.nil _ _
  · obtain ⟨⟨h1, h2, h3⟩, h4⟩ := h
    refine ⟨⟨h1, h2, ?_⟩, h4⟩
    rcases h3 with e | ⟨b', off', e, hb', hc⟩
    · exact .inl e
    · injection e with e
      injection e with e1 e2
      subst e1 e2
      refine .inr ⟨b, off, rfl, by simpa using hb', fun i' j hi hj => ?_⟩
      rw [← hc i' j hi hj]
      unfold World.cell?
      rw [Below.heap_setCell w ⟨g, i, none⟩ u b hb]

/-- a slice of members that the call itself made: its accounts lie elsewhere -/
def OwnM (t : TypeId) (w : World) (B : Nat) (v : Value) (rows : List MRow) : Prop := OwnR w B t 3 v (rows.map mrowV) ∧ ∀ r ∈ rows, mrowQ w r ∧ ∀ g, v.ownBlock = some g → Apart g r.A r.m.accs
section
variable {t : TypeId} {w w' : World} {B : Nat} {v : Value} {rows : List MRow}
theorem OwnM.below (h : OwnM t w B v rows) (hb : Below w.heap.size w w') : OwnM t w' B v rows := ⟨h.1.below hb, fun r hr => ⟨(h.2 r hr).1.below hb, (h.2 r hr).2⟩⟩
theorem OwnM.mems (h : OwnM t w B v rows) : ∃ A cap, v = .slice A (rows.map MRow.m).length cap ∧ Mems w A (rows.map MRow.m) ∧ (rows.map MRow.m).length ≤ cap := by
  obtain ⟨A, cap, rfl, hr, hc⟩ := h.1.recs
  refine ⟨A, cap, by simp, ⟨rows, rfl, hr, fun r hr => (h.2 r hr).1⟩, by simpa using hc⟩
theorem getD_rows {k : Nat} (hk : k < rows.length) : (rows.map mrowV).getD k [] = mrowV rows[k] := by simp [List.getD, hk]
/-- member k gets other accounts -/
theorem OwnM.setA {g n c : Nat} (h : OwnM t w B (.slice (some ⟨g, 0, none⟩) n c) rows) {k : Nat} (hk : k < rows.length) {A' : Option Addr} {al : List MM.Ac} {cap' : Nat} (hA : Accs w A' al) (hc : al.length ≤ cap') (ha : Apart g A' al) :
    OwnM t (w.setCell ⟨g, k * 3 + 2, none⟩ (.slice A' al.length cap')) B (.slice (some ⟨g, 0, none⟩) n c) (rows.set k ⟨{ rows[k].m with accs := al }, A', cap'⟩) := by
  refine ⟨?_, ?_⟩
  · have := h.1.set_ (by omega) (i := k) (j := 2) (by simpa using hk) (by omega) (.slice A' al.length cap')
    rw [getD_rows hk] at this
    rw [List.map_set]
    exact this
  · intro r hr
    rcases List.mem_or_eq_of_mem_set hr with hr | rfl
    · obtain ⟨⟨q1, q2, q3, q4⟩, q5⟩ := h.2 r hr
      exact ⟨⟨q1, q2, q3.set_ (q5 g rfl) _, q4⟩, q5⟩
    · obtain ⟨⟨q1, q2, q3, q4⟩, q5⟩ := h.2 rows[k] (List.getElem_mem hk)
      refine ⟨⟨q1, q2, hA.set_ ha _, hc⟩, fun g' hg' => ?_⟩
      have : g' = g := by simpa [Value.ownBlock] using hg'.symm
      subst this; exact ha
/-- member k gets another status -/
theorem OwnM.setS {g n c : Nat} (h : OwnM t w B (.slice (some ⟨g, 0, none⟩) n c) rows) {k : Nat} (hk : k < rows.length) {s : Int} (hs : i64 s) :
    OwnM t (w.setCell ⟨g, k * 3 + 1, none⟩ (.int .i64 s)) B (.slice (some ⟨g, 0, none⟩) n c) (rows.set k ⟨{ rows[k].m with status := s }, rows[k].A, rows[k].cap⟩) := by
  refine ⟨?_, ?_⟩
  · have := h.1.set_ (by omega) (i := k) (j := 1) (by simpa using hk) (by omega) (.int .i64 s)
    rw [getD_rows hk] at this
    rw [List.map_set]
    exact this
  · intro r hr
    rcases List.mem_or_eq_of_mem_set hr with hr | rfl
    · obtain ⟨⟨q1, q2, q3, q4⟩, q5⟩ := h.2 r hr
      exact ⟨⟨q1, q2, q3.set_ (q5 g rfl) _, q4⟩, q5⟩
    · obtain ⟨⟨q1, q2, q3, q4⟩, q5⟩ := h.2 rows[k] (List.getElem_mem hk)
      exact ⟨⟨q1, hs, q3.set_ (q5 g rfl) _, q4⟩, q5⟩
end
theorem mrowV_one (rows : List MRow) : ∀ r ∈ rows.map mrowV, ∀ u ∈ r, u.oneCell' = true := by
  intro r hr u hu
  obtain ⟨p, _, rfl⟩ := List.mem_map.1 hr
  simp only [mrowV, List.mem_cons, List.not_mem_nil, or_false] at hu
  rcases hu with rfl | rfl | rfl <;> rfl
theorem accV_one (l : List MM.Ac) : ∀ r ∈ l.map accV, ∀ u ∈ r, u.oneCell' = true := by
  intro r hr u hu
  obtain ⟨p, _, rfl⟩ := List.mem_map.1 hr
  simp only [accV, List.mem_cons, List.not_mem_nil, or_false] at hu
  rcases hu with rfl | rfl <;> rfl
end Go.Recs
