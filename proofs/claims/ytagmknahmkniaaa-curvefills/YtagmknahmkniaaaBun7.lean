/- Put together: CurF, RecsCat, CurC, PtPut, CurG, CurI, Vals, Txt. -/
import Derived.Test.YtagmknahmkniaaaBun6
import Derived.Test.YtagmknahmkniaaaBun1
import Derived.Test.YtagmknahmkniaaaBun5
import Derived.Lib.SliceRun
import Derived.Test.YtagmknahmkniaaaBun2
import Derived.Laws.IdiomStrings
import Derived.Laws.Concat
/- Contracts of layer 19: checkTick, priceOf, At. -/
namespace Go.Proofs.Ytagmknahmkniaaa
open Go.RowKit Go.Recs
set_option linter.unusedVariables false
set_option linter.unusedSimpArgs false
set_option maxHeartbeats 4000000 in
theorem uchecktick_any (A : Option Addr) (l : List UM.Pt) (n cap : Nat) (hn : n = l.length) (tick : Int) (w : World) (hI : Pts w A l) :
    Calls Try.prog 26 #[.slice A n cap, .int .i64 tick] w fun e w' => e = .returned (.int .i64 (UM.tickE l tick)) ∧ Below w.heap.size w w' := by
  subst hn
  have C1 := Lib.hid (ucheck_any A l l.length cap rfl w hI)
  have C2 := Lib.hid (fun ww => uwithin_any tick 1 16777216 ww)
  by_cases h : UM.checkE l = 0
  · rw [h] at C1
    cases g : QM.within tick 1 16777216
    · have e : UM.tickE l tick = 16 := by unfold UM.tickE; rw [if_neg (by simp [h]), if_pos g]
      rw [g] at C2
      rw [e]; clear h e g hI
      go_enter Try.func26, Try.ntmps26
      go_wp2_with fail
      refine C1.out.mono ?_
      rintro e w1 ⟨rfl, b1⟩
      have HB := Lib.hid b1
      clear b1 C1
      go_wp2_with fail
      refine (C2.out _).mono ?_
      rintro e w2 ⟨rfl, rfl⟩
      go_wp2_with fail
      go_ret
      exact ⟨rfl, HB.out⟩
    · have e : UM.tickE l tick = 0 := by unfold UM.tickE; rw [if_neg (by simp [h]), if_neg (by simp [g])]
      rw [g] at C2
      rw [e]; clear h e g hI
      go_enter Try.func26, Try.ntmps26
      go_wp2_with fail
      refine C1.out.mono ?_
      rintro e w1 ⟨rfl, b1⟩
      have HB := Lib.hid b1
      clear b1 C1
      go_wp2_with fail
      refine (C2.out _).mono ?_
      rintro e w2 ⟨rfl, rfl⟩
      go_wp2_with fail
      go_ret
      exact ⟨rfl, HB.out⟩
  · have e : UM.tickE l tick = UM.checkE l := by unfold UM.tickE; rw [if_pos h]
    have hd : (UM.checkE l != 0) = true := by simpa using h
    rw [e]
    generalize UM.checkE l = y at *
    clear e h hI
    go_enter Try.func26, Try.ntmps26
    go_wp2_with fail
    refine C1.out.mono ?_
    rintro e w1 ⟨rfl, b1⟩
    have HB := Lib.hid b1
    clear b1 C1
    go_wp2_with fail
    go_ret
    exact ⟨rfl, HB.out⟩
set_option maxHeartbeats 4000000 in
theorem upriceof_any (A : Option Addr) (l : List UM.Pt) (n cap : Nat) (hn : n = l.length) (day tick : Int) (g : UM.Good l) (hd : 0 ≤ day ∧ day ≤ 73048) (ht : 1 ≤ tick ∧ tick ≤ 16777216) (w : World) (hI : Pts w A l) :
    Calls Try.prog 28 #[.slice A n cap, .int .i64 day, .int .i64 tick] w fun e w' => e = .returned (.tuple #[.int .i64 (UM.priceN l day tick), .int .i64 0]) ∧ Below w.heap.size w w' := by
  subst hn
  have gl := pt_guard
  obtain ⟨-, hc⟩ := UM.ar_cases g (tick := tick) hd ht
  have C1 := Lib.hid (uaround_any A l l.length cap rfl day w hI)
  rcases hc with e | ⟨e, hp⟩
  · rw [UM.price_same tick e]
    rw [← e] at C1
    have E1 : ∀ ww, (Op.equalIn 10000 44 (ptA (UM.arA l day)) (ptA (UM.arA l day))).run Try.prog ww = .ok true ww := fun ww => by rw [pt_in, pteq_is, decide_eq_true rfl]
    generalize UM.arA l day = a at *
    clear e hI g hd ht
    go_enter Try.func28, Try.ntmps28
    go_wp2_with fail
    refine C1.out.mono ?_
    rintro e w1 ⟨rfl, b1⟩
    have HB := Lib.hid (below_al (below_al b1 (.cells (ptC a) 44)) (.cells (ptC a) 44))
    have hA := (CB.new w1 44 (ptC a)).alloc (.cells (ptC a) 44)
    have hC := CB.new1 w1 (.cells (ptC a) 44) 44 (ptC a)
    have a0 := hA.cell 0
    have a1 := hA.cell 1
    have a2 := hA.cell 2
    have c0 := hC.cell 0
    have c1 := hC.cell 1
    have c2 := hC.cell 2
    simp only [List.getElem?_toArray, List.getElem?_cons_zero, List.getElem?_cons_succ] at a0 a1 a2 c0 c1 c2
    clear b1 hA hC C1
    go_wp2_with fail
    go_ret2
    exact ⟨rfl, HB.out⟩
  · rw [UM.price_tween tick e]
    have C2 := Lib.hid (fun ww => utween_any _ _ day tick hp ww)
    have E1 : ∀ ww, (Op.equalIn 10000 44 (ptA (UM.arA l day)) (ptA (UM.arB l day))).run Try.prog ww = .ok false ww := fun ww => by rw [pt_in, pteq_is, decide_eq_false e]
    generalize UM.tweenN (UM.arA l day) (UM.arB l day) day tick = z at *
    generalize UM.arA l day = a at *
    generalize UM.arB l day = b at *
    clear e hI g hd ht hp
    go_enter Try.func28, Try.ntmps28
    go_wp2_with fail
    refine C1.out.mono ?_
    rintro e w1 ⟨rfl, b1⟩
    have HB := Lib.hid (below_al (below_al b1 (.cells (ptC a) 44)) (.cells (ptC b) 44))
    have hA := (CB.new w1 44 (ptC a)).alloc (.cells (ptC b) 44)
    have hC := CB.new1 w1 (.cells (ptC a) 44) 44 (ptC b)
    have a0 := hA.cell 0
    have a1 := hA.cell 1
    have a2 := hA.cell 2
    have c0 := hC.cell 0
    have c1 := hC.cell 1
    have c2 := hC.cell 2
    simp only [List.getElem?_toArray, List.getElem?_cons_zero, List.getElem?_cons_succ] at a0 a1 a2 c0 c1 c2
    clear b1 hA hC C1
    go_wp2_with fail
    refine (C2.out _).mono ?_
    rintro e w2 ⟨rfl, b2⟩
    have HB2 := Lib.hid (HB.out.trans (b2.mono HB.out.size))
    clear b2
    go_wp2_with fail
    go_ret2
    exact ⟨rfl, HB2.out⟩
set_option maxHeartbeats 4000000 in
theorem uat_any (A : Option Addr) (l : List UM.Pt) (n cap : Nat) (hn : n = l.length) (day tick : Int) (w : World) (hI : Pts w A l) :
    Calls Try.prog 10 #[.slice A n cap, .int .i64 day, .int .i64 tick] w fun e w' => e = .returned (.tuple #[.int .i64 (UM.atN l day tick), .int .i64 (UM.atE l day tick)]) ∧ Below w.heap.size w w' := by
  subst hn
  have C1 := Lib.hid (uchecktick_any A l l.length cap rfl tick w hI)
  have C2 := Lib.hid (fun ww => uwithin_any day 0 73048 ww)
  by_cases h : UM.tickE l tick = 0
  · obtain ⟨g, ht⟩ := UM.tick_zero h
    rw [h] at C1
    cases gd : QM.within day 0 73048
    · have e : UM.atE l day tick = 15 := by unfold UM.atE; rw [if_neg (by simp [h]), if_pos gd]
      have e2 : UM.atN l day tick = 0 := by unfold UM.atN; rw [if_neg (by rw [e]; decide)]
      rw [gd] at C2
      rw [e, e2]; clear h e e2 g gd ht hI
      go_enter Try.func10, Try.ntmps10
      go_wp2_with fail
      refine C1.out.mono ?_
      rintro e w1 ⟨rfl, b1⟩
      have HB := Lib.hid b1
      clear b1 C1
      go_wp2_with fail
      refine (C2.out _).mono ?_
      rintro e w2 ⟨rfl, rfl⟩
      go_wp2_with fail
      go_ret2
      exact ⟨rfl, HB.out⟩
    · have hd := QM.within_true.1 gd
      obtain ⟨e, e2⟩ := UM.at_ok g ht hd
      have C3 := Lib.hid (fun ww h => upriceof_any A l l.length cap rfl day tick g hd ht ww h)
      rw [gd] at C2
      have HI := Lib.hid hI
      rw [e, e2]
      generalize UM.priceN l day tick = z at *
      clear h e e2 g gd hd ht hI
      go_enter Try.func10, Try.ntmps10
      go_wp2_with fail
      refine C1.out.mono ?_
      rintro e w1 ⟨rfl, b1⟩
      have HB := Lib.hid b1
      have HI1 := Lib.hid (HI.out.below b1)
      clear b1 C1
      go_wp2_with fail
      refine (C2.out _).mono ?_
      rintro e w2 ⟨rfl, rfl⟩
      go_wp2_with fail
      refine (C3.out _ HI1.out).mono ?_
      rintro e w2 ⟨rfl, b2⟩
      have HB2 := Lib.hid (HB.out.trans (b2.mono HB.out.size))
      clear b2
      go_wp2_with fail
      go_ret2
      exact ⟨rfl, HB2.out⟩
  · have e : UM.atE l day tick = UM.tickE l tick := by unfold UM.atE; rw [if_pos h]
    have e2 : UM.atN l day tick = 0 := by unfold UM.atN; rw [if_neg (by rw [e]; exact h)]
    have hd : (UM.tickE l tick != 0) = true := by simpa using h
    rw [e, e2]
    generalize UM.tickE l tick = y at *
    clear e e2 h hI
    go_enter Try.func10, Try.ntmps10
    go_wp2_with fail
    refine C1.out.mono ?_
    rintro e w1 ⟨rfl, b1⟩
    have HB := Lib.hid b1
    clear b1 C1
    go_wp2_with fail
    go_ret2
    exact ⟨rfl, HB.out⟩
end Go.Proofs.Ytagmknahmkniaaa

/- 's = append(s, l...)', l a slice of records. Over any program. -/
namespace Go.Recs
open Go.RowKit
set_option linter.unusedVariables false
set_option linter.unusedSimpArgs false

theorem run_catR {P : Program} (w : World) (B : Nat) (rows more : List (List Value)) (ts t ty : TypeId) (sz bytes : Nat) (z : Value)
    (hu : P.underlying ts = some (.slice t)) (hinfo : (P.info? t).map (fun i => (i.zero, i.size, i.bytes)) = some (some z, sz, bytes)) (hz : z.cells.size = sz) (h0 : 0 < sz)
    (v : Value) (hown : OwnR w B t sz v rows) (A : Option Addr) (c : Nat) (hm : Recs w A sz more) (h1 : ∀ r ∈ more, ∀ u ∈ r, u.oneCell' = true)
    (hl : (rows.length + more.length) * bytes ≤ 140737488355328) (hmx : rows.length + more.length ≤ maxLen) (hB : B ≤ w.heap.size) :
    ∃ v' w', (Builtin.append_ #[ts, ts] ty #[v, .slice A more.length c]).run P w = .ok v' w' ∧ OwnR w' B t sz v' (rows ++ more) ∧ w.grownBy w' v.ownBlock := by
  obtain ⟨i0, hi, hz0, hz1, hz2⟩ := info_parts hinfo
  have hrr : ∀ r ∈ rows ++ more, r.length = sz := by
    intro r hr
    rcases List.mem_append.1 hr with hr | hr
    · exact hown.1 r hr
    · exact hm.2.1 r hr
  have key : ∀ ad, A = some ad → ∃ v' w', (Builtin.append_ #[ts, ts] ty #[v, .slice A more.length c]).run P w = .ok v' w' ∧ OwnR w' B t sz v' (rows ++ more) ∧ w.grownBy w' v.ownBlock := by
    rintro ad rfl
    have hcells : ∀ j u, more.flatten[j]? = some u → w.cell? (ad.add j) = some u := by
      intro j u hj
      rcases hm.2.2 with e | ⟨b, off, e, hb, hcell⟩
      · subst e; simp at hj
      · injection e with e
        subst e
        have hlt : j < more.flatten.length := by
          rcases Nat.lt_or_ge j more.flatten.length with h | h
          · exact h
          · rw [List.getElem?_eq_none h] at hj; cases hj
        rw [flat_len hm.2.1] at hlt
        have hi' : j / sz < more.length := Nat.div_lt_of_lt_mul (by rw [Nat.mul_comm]; exact hlt)
        have hj' : j % sz < sz := Nat.mod_lt _ h0
        have ej : j / sz * sz + j % sz = j := by rw [Nat.mul_comm]; exact Nat.div_add_mod j sz
        have e := flat_at hm.2.1 (j / sz) (j % sz) hi' hj'
        have e2 := hcell (j / sz) (j % sz) hi' hj'
        rw [ej] at e e2
        rw [add_at, e2, ← e, hj]
    obtain ⟨v', w', hr, h2, h3, _, _⟩ := run_append_own_at (P := P) w B ts ty t i0 z sz bytes hu hi hz0 hz1 hz2 hz h0 v rows.length rows.flatten hown.2 ad more.length c more.flatten
      (flat_len hm.2.1) hcells (fun u hu => by obtain ⟨r, hr, hur⟩ := List.mem_flatten.1 hu; exact h1 r hr u hur) hmx hl hB
    refine ⟨v', w', hr, ⟨hrr, ?_⟩, h3⟩
    rw [List.length_append, List.flatten_append]
    exact h2
  cases A with
  | some ad => exact key ad rfl
  | none =>
    have : more = [] := by
      rcases hm.2.2 with h | ⟨b, off, e, _⟩
      · exact h
      · cases e
    subst this
    refine ⟨v, w, ?_, by simpa using hown, World.grownBy.refl w _⟩
    rcases hown.form with ⟨hv, _⟩ | ⟨g, cap, hv, _, _, hnc⟩ <;> rw [hv]
    · simp [Builtin.append_, run_underlying hu, sizeOf, typeInfo, hi, Builtin.lenOf, Builtin.firstCells]
    · simp [Builtin.append_, run_underlying hu, sizeOf, typeInfo, hi, Builtin.lenOf, Builtin.firstCells, storeCells]
      omega

theorem wpList_catR {P : Program} {ops : Array Oper} {rest : List Oper} {o : Oper} {a : Act} {Q : Exit → Act → World → Prop} (w : World) (B : Nat) (rows more : List (List Value)) (x y : Operand) (ts t : TypeId) (sz bytes : Nat) (z : Value)
    (hu : P.underlying ts = some (.slice t)) (hinfo : (P.info? t).map (fun i => (i.zero, i.size, i.bytes)) = some (some z, sz, bytes)) (hz : z.cells.size = sz) (h0 : 0 < sz)
    (hgd : o.guard = none) (ho : o.op = .call { callee := .builtin .append, args := #[x, y], argTypes := #[ts, ts] })
    (v : Value) (A : Option Addr) (n c : Nat) (hs : a.eval x = v) (hx : a.eval y = .slice A n c) (hn : n = more.length) (hown : OwnR w B t sz v rows) (hm : Recs w A sz more) (h1 : ∀ r ∈ more, ∀ u ∈ r, u.oneCell' = true)
    (hl : (rows.length + more.length) * bytes ≤ 140737488355328) (hmx : rows.length + more.length ≤ maxLen) (hB : B ≤ w.heap.size)
    (h : ∀ v' w', OwnR w' B t sz v' (rows ++ more) → Below B w w' → w.grownBy w' v.ownBlock → wpList P ops Q rest (a.put o.dst v') w') :
    wpList P ops Q (o :: rest) a w := by
  subst hn
  obtain ⟨v', w', hr, h2, h3⟩ := run_catR w B rows more ts t o.type sz bytes z hu hinfo hz h0 v hown A c hm h1 hl hmx hB
  refine wpList_plain hgd fun K hK => ?_
  unfold Oper.wp execOp
  simp only [ho, resolve, invoke, builtin, Sem.run_bind, Sem.run_pure, Result.andThen_ok, List.map_toArray, List.map_cons, List.map_nil, hs, hx, hr]
  exact hK _ _ (h v' w' h2 ((Below.refl B w).grown h3 hB (OwnR.block hown)) h3)
end Go.Recs

/- Contracts of layer 19: slices.Clone at points. -/
namespace Go.Proofs.Ytagmknahmkniaaa
open Go.RowKit Go.Recs
set_option linter.unusedVariables false
set_option linter.unusedSimpArgs false
set_option maxHeartbeats 2000000 in
theorem uclone_any (A : Option Addr) (rows : List (List Value)) (n cap : Nat) (w : World) (hn : n = rows.length) (h1 : ∀ r ∈ rows, ∀ u ∈ r, u.oneCell' = true) (hI : Recs w A 3 rows) (hl : rows.length * 24 ≤ 140737488355328) :
    Calls Try.prog 31 #[.slice A n cap] w fun e w' => ∃ v, e = .returned v ∧ OwnR w' w.heap.size 44 3 v rows ∧ Below w.heap.size w w' := by
  subst hn
  cases A with
  | none =>
    have : rows = [] := by
      rcases hI.2.2 with h | ⟨b, off, e, _⟩
      · exact h
      · cases e
    subst this
    have hq : ∀ (w : World), (binOp .eql 22 (.slice none 0 cap) (.slice none 0 0)).run Try.prog w = .ok (.bool true) w := fun w => Lib.run_eql_slice_nil w _ _ none 0 cap 0 0 Try.underlying22
    clear hI hl h1
    go_enter Try.func31, Try.ntmps31
    go_wp2_with fail
    go_ret
    exact ⟨_, rfl, OwnR.nil _ _ _ _, Below.refl _ _⟩
  | some ad =>
    have hq : ∀ (w : World) (n c n' c' : Nat), (binOp .eql 22 (.slice (some ad) n c) (.slice none n' c')).run Try.prog w = .ok (.bool false) w := fun w n c n' c' => Lib.run_eql_slice_nil w _ _ (some ad) n c n' c' Try.underlying22
    have hmx : rows.length ≤ maxLen := hI.1
    have HI := Lib.hid hI
    have HL := Lib.hid hl
    have HMX := Lib.hid hmx
    have HBE : Hid (Below w.heap.size w (w.alloc (.cells #[] 44))) := Lib.hid ((Below.refl _ _).alloc (Nat.le_refl _) _)
    clear hI hl hmx
    go_enter Try.func31, Try.ntmps31
    go_wp2_with (at_builtin; refine wpList_catR _ w.heap.size [] rows _ _ _ 44 3 24 _ Try.underlying22 info_pt rfl (by decide) rfl rfl _ _ _ _ rfl rfl ?c0 ?c1 ?c2 h1 ?c3 ?c4 ?c5 ?_)
    case c0 => rfl
    case c1 => exact OwnR.empty w w.heap.size 44 3 (Nat.le_refl _)
    case c2 => exact HI.out.below HBE.out
    case c3 => have := HL.out; simpa using this
    case c4 => have := HMX.out; simpa using this
    case c5 => simp
    rintro v1 w1 hO hb hg
    have HO : Hid (OwnR w1 w.heap.size 44 3 v1 rows) := Lib.hid (by simpa using hO)
    have HB1 := Lib.hid (HBE.out.trans hb)
    clear hO hb hg
    go_wp2_with fail
    go_ret
    exact ⟨_, rfl, HO.out, HB1.out⟩

end Go.Proofs.Ytagmknahmkniaaa

/- An own row of points: one point written over; a moved row. -/
namespace Go.Recs
open Go.RowKit
set_option linter.unusedVariables false
theorem OwnR.put3 {w : World} {B g n cap : Nat} {t : TypeId} {rows : List (List Value)} (h : OwnR w B t 3 (.slice (some ⟨g, 0, none⟩) n cap) rows) {i : Nat} (hi : i < rows.length) (a b c : Value) :
    OwnR (((w.setCell ⟨g, i * 3, none⟩ a).setCell ⟨g, i * 3 + 1, none⟩ b).setCell ⟨g, i * 3 + 2, none⟩ c) B t 3 (.slice (some ⟨g, 0, none⟩) n cap) (rows.set i [a, b, c]) := by
  have hr : (rows.getD i []).length = 3 := h.1 _ (by simp [List.getD, hi])
  obtain ⟨x, y, z, hxyz⟩ : ∃ x y z, rows.getD i [] = [x, y, z] := by
    match rows.getD i [], hr with
    | [x, y, z], _ => exact ⟨x, y, z, rfl⟩
  have h0 := h.set_ (by omega) hi (show 0 < 3 by omega) a
  have h1 := h0.set_ (by omega) (i := i) (by simpa using hi) (show 1 < 3 by omega) b
  have h2 := h1.set_ (by omega) (i := i) (by simpa using hi) (show 2 < 3 by omega) c
  rw [Nat.add_zero] at h2
  have e : ((rows.set i ((rows.getD i []).set 0 a)).set i (((rows.set i ((rows.getD i []).set 0 a)).getD i []).set 1 b)).set i ((((rows.set i ((rows.getD i []).set 0 a)).set i (((rows.set i ((rows.getD i []).set 0 a)).getD i []).set 1 b)).getD i []).set 2 c) = rows.set i [a, b, c] := by
    rw [hxyz]
    simp [List.getD, hi]
  rw [e] at h2
  exact h2
theorem OwnR.put1 {w : World} {B g n cap : Nat} {t : TypeId} {rows : List (List Value)} (h : OwnR w B t 3 (.slice (some ⟨g, 0, none⟩) n cap) rows) {i : Nat} (hi : i < rows.length) (b : Value) {x y z : Value} (hr : rows.getD i [] = [x, y, z]) :
    OwnR (w.setCell ⟨g, i * 3 + 1, none⟩ b) B t 3 (.slice (some ⟨g, 0, none⟩) n cap) (rows.set i [x, b, z]) := by
  have h1 := h.set_ (by omega) hi (show 1 < 3 by omega) b
  rw [hr] at h1
  exact h1
/-- the first k of the one, the rest of the other -/
def mixL (f : UM.Pt → UM.Pt) (l : List UM.Pt) (k : Nat) : List UM.Pt := (l.map f).take k ++ l.drop k
theorem mix_zero (f : UM.Pt → UM.Pt) (l : List UM.Pt) : mixL f l 0 = l := by simp [mixL]
theorem mix_end (f : UM.Pt → UM.Pt) (l : List UM.Pt) : mixL f l l.length = l.map f := by
  unfold mixL
  rw [List.drop_length, List.append_nil, List.take_of_length_le (by simp)]
theorem mix_len (f : UM.Pt → UM.Pt) (l : List UM.Pt) {k : Nat} (h : k ≤ l.length) : (mixL f l k).length = l.length := by
  unfold mixL; rw [List.length_append, List.length_take, List.length_drop, List.length_map]; omega
theorem mix_succ (f : UM.Pt → UM.Pt) (l : List UM.Pt) {k : Nat} (h : k < l.length) : mixL f l (k + 1) = (mixL f l k).set k (f (UM.pAt l k)) := by
  unfold mixL
  have e1 : ((l.map f).take k).length = k := by rw [List.length_take, List.length_map]; omega
  rw [List.set_append_right _ _ (by omega), e1, Nat.sub_self, List.take_succ_eq_append_getElem (by simpa using h), List.getElem_map, UM.pAt_get h, List.append_assoc]
  congr 1
  rw [List.drop_eq_getElem_cons h]; rfl
theorem mix_same (f : UM.Pt → UM.Pt) (l : List UM.Pt) {k : Nat} (h : k < l.length) (hf : f (UM.pAt l k) = UM.pAt l k) : mixL f l (k + 1) = mixL f l k := by
  rw [mix_succ f l h, hf]
  apply List.ext_getElem?
  intro i
  rw [List.getElem?_set]
  split
  · rename_i e
    subst e
    have e1 : ((l.map f).take k).length = k := by rw [List.length_take, List.length_map]; omega
    rw [if_pos (by rw [mix_len f l (by omega)]; exact h)]
    unfold mixL
    rw [List.getElem?_append_right (by omega), e1, Nat.sub_self, List.getElem?_drop, Nat.add_zero, List.getElem?_eq_getElem h, UM.pAt_get h]
  · rfl
theorem mix_at (f : UM.Pt → UM.Pt) (l : List UM.Pt) {k : Nat} (h : k < l.length) : ((mixL f l k).map ptV).getD k [] = ptV (UM.pAt l k) := by
  have e1 : ((l.map f).take k).length = k := by rw [List.length_take, List.length_map]; omega
  have e2 : (mixL f l k)[k]? = some (UM.pAt l k) := by
    unfold mixL
    rw [List.getElem?_append_right (by omega), e1, Nat.sub_self, List.getElem?_drop, Nat.add_zero, List.getElem?_eq_getElem h, UM.pAt_get h]
  simp [List.getD, e2]
theorem map_put (l : List UM.Pt) (k : Nat) (x : UM.Pt) : (l.set k x).map ptV = (l.map ptV).set k (ptV x) := by rw [List.map_set]
end Go.Recs

/- Contracts of layer 19: Fill, Shift. -/
namespace UM
def fillR (l : List Pt) (tick : Int) : List Pt := if tickE l tick = 0 then fillL l tick else []
def moveR (l : List Pt) (b lo hi : Int) : List Pt := if moveE l b lo hi = 0 then moveL l b lo hi else []
theorem pAt_mem {l : List Pt} {k : Nat} (h : k < l.length) : pAt l k ∈ l := by rw [pAt_get h]; exact List.getElem_mem _
theorem fill_no {l : List Pt} {tick : Int} (h : tickE l tick ≠ 0) : fillR l tick = [] := by unfold fillR; rw [if_neg h]
theorem fill_yes {l : List Pt} {tick : Int} (h : tickE l tick = 0) : fillR l tick = l.map (fillP l tick) := by unfold fillR; rw [if_pos h]; rfl
theorem move_no {l : List Pt} {b lo hi : Int} (h : moveE l b lo hi ≠ 0) : moveR l b lo hi = [] := by unfold moveR; rw [if_neg h]
theorem move_yes {l : List Pt} {b lo hi : Int} (h : moveE l b lo hi = 0) : moveR l b lo hi = l.map (moveP b lo hi) := by unfold moveR; rw [if_pos h]; rfl
end UM
namespace Go.Proofs.Ytagmknahmkniaaa
open Go.RowKit Go.Recs
set_option linter.unusedVariables false
set_option linter.unusedSimpArgs false
set_option maxHeartbeats 4000000 in
set_option maxRecDepth 100000 in
theorem ufill_any (A : Option Addr) (l : List UM.Pt) (n cap : Nat) (hn : n = l.length) (tick : Int) (w : World) (hI : Pts w A l) :
    Calls Try.prog 15 #[.slice A n cap, .int .i64 tick] w fun e w' => ∃ v, e = .returned (.tuple #[v, .int .i64 (UM.tickE l tick)]) ∧ OwnR w' w.heap.size 44 3 v ((UM.fillR l tick).map ptV) ∧ Below w.heap.size w w' := by
  subst hn
  have hlen := hI.len
  have C1 := Lib.hid (uchecktick_any A l l.length cap rfl tick w hI)
  by_cases h : UM.tickE l tick = 0
  · obtain ⟨g, ht⟩ := UM.tick_zero h
    rw [h] at C1
    rw [UM.fill_yes h, h]
    have hl2 := g.len
    have C2 := Lib.hid (fun ww h => uclone_any A (l.map ptV) l.length cap ww (by simp) (pts_one l) h (by rw [List.length_map]; omega))
    have C3 := Lib.hid (fun k (hk : k < l.length) ww h => upriceof_any A l l.length cap rfl (UM.pAt l k).exp tick g ⟨(g.ord.mem _ (UM.pAt_mem hk)).1, (g.ord.mem _ (UM.pAt_mem hk)).2.1⟩ ht ww h)
    have HI := Lib.hid hI
    have KF := Lib.hid (fun p (hp : p.known = false) => (show UM.fillP l tick p = ⟨p.exp, UM.priceN l p.exp tick, true⟩ by unfold UM.fillP; rw [if_neg (by simp [hp])]))
    have KT := Lib.hid (fun p (hp : p.known = true) => (show UM.fillP l tick p = p by unfold UM.fillP; rw [if_pos hp]))
    have MS := Lib.hid (fun k (hk : k < l.length) => mix_succ (UM.fillP l tick) l hk)
    have ME := Lib.hid (fun k (hk : k < l.length) => mix_same (UM.fillP l tick) l hk)
    have ML' := Lib.hid (fun k (hk : k ≤ l.length) => mix_len (UM.fillP l tick) l hk)
    have MA := Lib.hid (fun k (hk : k < l.length) => mix_at (UM.fillP l tick) l hk)
    have MZ := Lib.hid (mix_zero (UM.fillP l tick) l)
    have MX := Lib.hid (mix_end (UM.fillP l tick) l)
    generalize UM.fillP l tick = f at *
    clear hI h g ht hl2
    go_enter Try.func15, Try.ntmps15
    go_wp2_with fail
    refine C1.out.mono ?_
    rintro e w1 ⟨rfl, b1⟩
    have HB1 := Lib.hid b1
    have HI1 := Lib.hid (HI.out.below b1)
    clear b1 C1
    go_wp2_with fail
    refine (C2.out _ HI1.out.1).mono ?_
    rintro e w2 ⟨v, rfl, hO, b2⟩
    have HB2 := Lib.hid (HB1.out.trans (b2.mono HB1.out.size))
    have HO := Lib.hid (hO.lower HB1.out.size)
    have HI2 := Lib.hid (HI1.out.below b2)
    clear b2 hO HB1 HI1 C2
    go_wp2_with fail
    go_loopw [4, 5, 7, 8, 9, 10, 21] (fun o _ _ _ _ _ i wr => ∃ k : Nat, k ≤ l.length ∧ v = o ∧ i = .int .i64 (k : Int) ∧ Hid (OwnR wr w.heap.size 44 3 v ((mixL f l k).map ptV)) ∧ Hid (Below w.heap.size w wr)) (fun _ _ _ _ _ _ i _ => l.length - (intOf i).toNat)
    case atStart => exact ⟨0, by omega, rfl, rfl, by rw [MZ.out]; exact HO, HB2⟩
    case round =>
      clear HO HB2
      obtain ⟨k, hk, rfl, rfl, HO, HB⟩ := hrel
      by_cases hlt : k < l.length
      · obtain ⟨b, off, t, rfl, hb, HV, q, d0, d1, d2⟩ := pts_get (HI.out.below HB.out) hlt
        have HSU := Lib.hid (MS.out k hlt)
        have HSA := Lib.hid (ME.out k hlt)
        have HLN := Lib.hid (ML'.out k hk)
        have HMA := Lib.hid (MA.out k hlt)
        rw [HV.out] at HSU HSA HMA
        have C4 := Lib.hid (C3.out k hlt)
        rw [HV.out] at C4
        have KF1 := Lib.hid (KF.out t)
        have KT1 := Lib.hid (KT.out t)
        obtain ⟨te, tp, tk⟩ := t
        have HBx := Lib.hid (below_al HB.out (.cells #[.int .i64 te, .int .i64 tp, .bool tk] 44))
        have HOx := Lib.hid (HO.out.alloc (.cells #[.int .i64 te, .int .i64 tp, .bool tk] 44))
        have HT := CB.new wr 44 #[.int .i64 te, .int .i64 tp, .bool tk]
        have f0 := HT.cell 0
        have f1 := HT.cell 1
        have f2 := HT.cell 2
        simp only [List.getElem?_toArray, List.getElem?_cons_zero, List.getElem?_cons_succ] at f0 f1 f2 d0 d1 d2
        clear q
        cases tk
        · obtain ⟨gg, cc, rfl, hgB⟩ : ∃ gg cc, v = .slice (some ⟨gg, 0, none⟩) l.length cc ∧ w.heap.size ≤ gg := by
            rcases HO.out.form with ⟨_, e⟩ | ⟨gg, cc, e, h1, _, _⟩
            · have e1 := HLN.out
              have e2 : (mixL f l k).length = 0 := by simpa using congrArg List.length e
              omega
            · rw [List.length_map, HLN.out] at e
              exact ⟨gg, cc, e, h1⟩
          have HKL := Lib.hid (show k < ((mixL f l k).map ptV).length by rw [List.length_map, HLN.out]; exact hlt)
          have HSU2 : Hid (mixL f l (k + 1) = (mixL f l k).set k ⟨te, UM.priceN l te tick, true⟩) := Lib.hid (by rw [HSU.out, KF1.out rfl])
          have HTX := Lib.hid HT
          clear HSU HSA KF1 KT1 HV HT
          generalize UM.priceN l te tick = z at *
          go_wp2_with fail
          refine (C4.out _ (HI.out.below HBx.out)).mono ?_
          rintro e w5 ⟨rfl, b5⟩
          have HB5 := Lib.hid (HBx.out.trans (b5.mono HBx.out.size))
          have HO5 := Lib.hid (HOx.out.below b5)
          have hT5 := HTX.out.below b5 HTX.out.lt
          have g0 := hT5.cell 0
          simp only [List.getElem?_toArray, List.getElem?_cons_zero] at g0
          have fO := HO5.out.frozen
          have o0 := HO5.out.cell HKL.out (show 0 < 3 by omega)
          have o1 := HO5.out.cell HKL.out (show 1 < 3 by omega)
          have o2 := HO5.out.cell HKL.out (show 2 < 3 by omega)
          rw [HMA.out] at o0 o1 o2
          simp only [ptV, List.getElem?_cons_zero, List.getElem?_cons_succ, Nat.add_zero] at o0 o1 o2
          clear hT5 b5 HBx HOx HTX f0 f1 f2 d0 d1 d2
          have HO6 := Lib.hid (HO5.out.put3 (i := k) HKL.out (.int .i64 te) (.int .i64 z) (.bool true))
          have HB6 := Lib.hid (((HB5.out.setCell (p := ⟨gg, k * 3, none⟩) hgB (.int .i64 te)).setCell (p := ⟨gg, k * 3 + 1, none⟩) hgB (.int .i64 z)).setCell (p := ⟨gg, k * 3 + 2, none⟩) hgB (.bool true))
          go_wp2_with fail
          go_roundw
          case rel => exact ⟨k + 1, by omega, rfl, by go_num, by rw [HSU2.out, map_put]; exact HO6, HB6⟩
          case measure => simp [intOf]; omega
        · have HSA2 : Hid (mixL f l (k + 1) = mixL f l k) := Lib.hid (HSA.out (KT1.out rfl))
          clear HSU HSA KF1 KT1 HV
          go_wp2_with fail
          go_roundw
          case rel => exact ⟨k + 1, by omega, rfl, by go_num, by rw [HSA2.out]; exact HOx, HBx⟩
          case measure => simp [intOf]; omega
      · obtain rfl : k = l.length := by omega
        rw [MX.out] at HO
        go_wp2_with fail
        go_ret2
        exact ⟨v, rfl, HO.out, HB.out⟩
  · have hd : (UM.tickE l tick != 0) = true := by simpa using h
    rw [UM.fill_no h]
    generalize UM.tickE l tick = y at *
    clear h hI
    go_enter Try.func15, Try.ntmps15
    go_wp2_with fail
    refine C1.out.mono ?_
    rintro e w1 ⟨rfl, b1⟩
    have HB := Lib.hid b1
    clear b1 C1
    go_wp2_with fail
    go_ret2
    exact ⟨_, rfl, OwnR.nil _ _ _ _, HB.out⟩
end Go.Proofs.Ytagmknahmkniaaa

/- Contracts of layer 19: two equal curves; the page's example. -/
namespace Go.Proofs.Ytagmknahmkniaaa
open Go.RowKit Go.Recs
set_option linter.unusedVariables false
set_option linter.unusedSimpArgs false
set_option maxHeartbeats 4000000 in
theorem usame_any (A B : Option Addr) (l : List UM.Pt) (n c m d : Nat) (hn : n = l.length) (hm : m = l.length) (w : World) (hI : Pts w A l) (hJ : Pts w B l) :
    Calls Try.prog 14 #[.slice A n c, .slice B m d] w fun e w' => e = .returned (.bool true) ∧ ∃ k, w' = w.drewN k := by
  subst hn hm
  have hlen := hI.len
  have gl := pt_guard
  go_enter Try.func14, Try.ntmps14
  go_wp2_with fail
  go_loopw [5] (fun i wr => ∃ k : Nat, k ≤ l.length ∧ i = .int .i64 (k : Int) ∧ ∃ nd, wr = w.drewN nd) (fun i _ => l.length - (intOf i).toNat)
  case atStart => exact ⟨0, by omega, rfl, 0, rfl⟩
  case round =>
    obtain ⟨k, hk, rfl, nd, rfl⟩ := hrel
    by_cases hlt : k < l.length
    · obtain ⟨b, off, x, rfl, hb, HV, q, d0, d1, d2⟩ := pts_get hI hlt
      obtain ⟨b', off', x', rfl, hb', HV', q', g0, g1, g2⟩ := pts_get hJ hlt
      obtain rfl : x = x' := HV.out.symm.trans HV'.out
      have HI := Lib.hid hI; have HJ := Lib.hid hJ
      have E1 : ∀ ww, (Op.equalIn 10000 44 (ptA x) (ptA x)).run Try.prog ww = .ok true ww := fun ww => by rw [pt_in, pteq_is, decide_eq_true rfl]
      clear q q' HV HV' hI hJ
      go_wp2_with fail
      go_quiet (fail)
      go_wp2_with fail
      go_roundw
      case rel => exact ⟨k + 1, by omega, by go_num, by first | exact ⟨nd, rfl⟩ | exact ⟨_, rfl⟩ | exact ⟨nd + 1, rfl⟩⟩
      case measure => simp [intOf]; omega
    · obtain rfl : k = l.length := by omega
      go_wp2_with fail
      go_ret
      exact ⟨rfl, nd, rfl⟩
/-- the page's points -/
def crvX : List UM.Pt := [⟨10, 100, true⟩, ⟨15, 0, false⟩, ⟨20, 121, true⟩]
def crvY : List UM.Pt := [⟨10, 100, true⟩, ⟨15, 110, true⟩, ⟨20, 121, true⟩]
theorem crv_a : UM.atN crvX 5 5 = 100 ∧ UM.atE crvX 5 5 = 0 := by decide
theorem crv_b : UM.atN crvX 15 5 = 110 ∧ UM.atE crvX 15 5 = 0 := by decide
theorem crv_c : UM.atN crvX 30 5 = 121 ∧ UM.atE crvX 30 5 = 0 := by decide
theorem crv_f : UM.fillR crvX 5 = crvY ∧ UM.tickE crvX 5 = 0 := by decide
theorem small_pt {a b : Int} {c : Bool} (h : (0 ≤ a ∧ a ≤ 1000) ∧ 0 ≤ b ∧ b ≤ 1000) : ptQ ⟨a, b, c⟩ := ⟨⟨by show _ ≤ a; omega, by show a ≤ _; omega⟩, ⟨by show _ ≤ b; omega, by show b ≤ _; omega⟩⟩
theorem crv_lit (W : World) : Pts (W.alloc (.cells #[.int .i64 10, .int .i64 100, .bool true, .int .i64 15, .int .i64 0, .bool false, .int .i64 20, .int .i64 121, .bool true] 44)) (some ⟨W.heap.size, 0, none⟩) crvX := by
  obtain ⟨A', cap, e, hr, _⟩ := OwnR.recs (OwnR.lit W W.heap.size 44 3 (crvX.map ptV) (by simp [crvX, ptV]) (Nat.le_refl _) (by simp [crvX, maxLen]))
  injection e with e
  subst e
  refine ⟨hr, ?_⟩
  intro x hx
  simp only [crvX, List.mem_cons, List.not_mem_nil, or_false] at hx
  rcases hx with rfl | rfl | rfl <;> exact small_pt (by decide)
set_option maxHeartbeats 8000000 in
set_option maxRecDepth 100000 in
theorem goes19_any (w : World) : Calls Try.prog 9 #[] w fun e w' => e = .returned (.bool true) ∧ Below w.heap.size w w' := by
  have gl := pt_guard
  have V1 := Lib.hid (fun ww h => uat_any (some ⟨w.heap.size, 0, none⟩) crvX 3 3 rfl 5 5 ww h)
  rw [crv_a.1, crv_a.2] at V1
  have V2 := Lib.hid (fun ww h => uat_any (some ⟨w.heap.size, 0, none⟩) crvX 3 3 rfl 15 5 ww h)
  rw [crv_b.1, crv_b.2] at V2
  have V3 := Lib.hid (fun ww h => uat_any (some ⟨w.heap.size, 0, none⟩) crvX 3 3 rfl 30 5 ww h)
  rw [crv_c.1, crv_c.2] at V3
  have F := Lib.hid (fun ww h => ufill_any (some ⟨w.heap.size, 0, none⟩) crvX 3 3 rfl 5 ww h)
  rw [crv_f.1, crv_f.2] at F
  have HT := Lib.hid (crv_lit w)
  have HB0 := Lib.hid (below_al (Below.refl w.heap.size w) (.cells #[.int .i64 10, .int .i64 100, .bool true, .int .i64 15, .int .i64 0, .bool false, .int .i64 20, .int .i64 121, .bool true] 44))
  have E1 : ∀ ww, (Op.equalIn 10000 44 (ptA ⟨15, 110, true⟩) (ptA ⟨15, 110, true⟩)).run Try.prog ww = .ok true ww := fun ww => by rw [pt_in, pteq_is, decide_eq_true rfl]
  generalize crvX = lx at *
  go_enter Try.func9, Try.ntmps9
  go_wp2_with fail
  refine (V1.out _ HT.out).mono ?_
  rintro e w1 ⟨rfl, b1⟩
  have HB1 := Lib.hid (HB0.out.trans (b1.mono HB0.out.size))
  have HT1 := Lib.hid (HT.out.below b1)
  clear b1
  go_wp2_with fail
  refine (V2.out _ HT1.out).mono ?_
  rintro e w2 ⟨rfl, b2⟩
  have HB2 := Lib.hid (HB1.out.trans (b2.mono HB1.out.size))
  have HT2 := Lib.hid (HT1.out.below b2)
  clear b2
  go_wp2_with fail
  refine (V3.out _ HT2.out).mono ?_
  rintro e w3 ⟨rfl, b3⟩
  have HB3 := Lib.hid (HB2.out.trans (b3.mono HB2.out.size))
  have HT3 := Lib.hid (HT2.out.below b3)
  clear b3
  go_wp2_with fail
  refine (F.out _ HT3.out).mono ?_
  rintro e w4 ⟨v, rfl, hO, b4⟩
  have HB4 := Lib.hid (HB3.out.trans (b4.mono HB3.out.size))
  obtain ⟨gg, cc, rfl⟩ : ∃ gg cc, v = .slice (some ⟨gg, 0, none⟩) 3 cc := by
    rcases hO.form with ⟨_, e⟩ | ⟨gg, cc, e, _⟩
    · cases e
    · exact ⟨gg, cc, e⟩
  have o0 := hO.cell (i := 1) (j := 0) (by decide) (by decide)
  have o1 := hO.cell (i := 1) (j := 1) (by decide) (by decide)
  have o2 := hO.cell (i := 1) (j := 2) (by decide) (by decide)
  simp only [crvY, List.map_cons, List.map_nil, ptV, List.getD_cons_succ, List.getD_cons_zero, List.getElem?_cons_zero, List.getElem?_cons_succ, Nat.one_mul, Nat.add_zero, Nat.reduceAdd] at o0 o1 o2
  clear b4 hO V1 V2 V3 F HT HT1 HT2 HT3 HB0 HB1 HB2 HB3
  go_wp2_with fail
  go_ret
  exact ⟨rfl, HB4.out⟩
end Go.Proofs.Ytagmknahmkniaaa

/- Slices of values of one cell each, of whatever type: what a slice holds, and slices that the call itself makes. -/
namespace Go.Proofs.Ytagmknahmkniaaa
open Go.RowKit

/-- a slice at A holds the values vs, in w -/
def Vals (w : World) (A : Option Addr) (vs : List Value) : Prop :=
  vs.length ≤ maxLen ∧ (vs = [] ∨ ∃ b off, A = some ⟨b, off, none⟩ ∧ b < w.heap.size ∧ ∀ i, i < vs.length → w.cell? ⟨b, off + i, none⟩ = vs[i]?)

section
variable {w w' : World} {A : Option Addr} {vs : List Value}
theorem Vals.get (h : Vals w A vs) {k : Nat} (hk : k < vs.length) : ∃ b off, A = some ⟨b, off, none⟩ ∧ b < w.heap.size ∧ w.cell? ⟨b, off + k, none⟩ = some vs[k] := by
  rcases h.2 with h0 | ⟨b, off, rfl, hb, hc⟩
  · subst h0; simp at hk
  · exact ⟨b, off, rfl, hb, by rw [hc k hk, List.getElem?_eq_getElem hk]⟩
theorem Vals.len (h : Vals w A vs) : vs.length ≤ 9223372036854775807 := h.1
theorem Vals.keep (h : Vals w A vs) (hz : w.heap.size ≤ w'.heap.size) (hk : ∀ b o, b < w.heap.size → w'.cell? ⟨b, o, none⟩ = w.cell? ⟨b, o, none⟩) : Vals w' A vs := by
  refine ⟨h.1, ?_⟩
  rcases h.2 with h | ⟨b, off, rfl, hb, hc⟩
  · exact .inl h
  · exact .inr ⟨b, off, rfl, by omega, fun i hi => by rw [hk _ _ hb]; exact hc i hi⟩
theorem Vals.below (h : Vals w A vs) (hb : Below w.heap.size w w') : Vals w' A vs := h.keep hb.size fun b o hlt => hb.cell (p := ⟨b, o, none⟩) hlt
theorem Vals.drewN (h : Vals w A vs) (n : Nat) : Vals (w.drewN n) A vs := h
theorem Vals.drew (h : Vals w A vs) : Vals w.drew A vs := h
theorem Vals.nil (w : World) (A : Option Addr) : Vals w A [] := ⟨by simp, .inl rfl⟩
theorem Vals.take_ (h : Vals w A vs) (n : Nat) : Vals w A (vs.take n) := by
  refine ⟨by rw [List.length_take]; have := h.1; omega, ?_⟩
  rcases h.2 with h | ⟨b, off, rfl, hb, hc⟩
  · exact .inl (by rw [h]; simp)
  · refine .inr ⟨b, off, rfl, hb, fun i hi => ?_⟩
    rw [List.length_take] at hi
    rw [hc i (by omega), List.getElem?_take_of_lt (by omega)]
theorem Vals.drop_ {b off : Nat} (h : Vals w (some ⟨b, off, none⟩) vs) (n : Nat) : Vals w (some ⟨b, off + n, none⟩) (vs.drop n) := by
  refine ⟨by rw [List.length_drop]; have := h.1; omega, ?_⟩
  rcases h.2 with h | ⟨b', off', e, hb, hc⟩
  · exact .inl (by rw [h]; simp)
  · injection e with e
    injection e with e1 e2
    subst e1 e2
    refine .inr ⟨_, _, rfl, hb, fun i hi => ?_⟩
    rw [List.length_drop] at hi
    rw [Nat.add_assoc, hc (n + i) (by omega), List.getElem?_drop]
theorem Vals.of_row {x : Addr} {len : Nat} {vs : List Value} (hm : vs.length ≤ maxLen) (hcell : ∀ i, i < vs.length → w.cell? (x.add i) = vs[i]?) : Vals w (some x) (vs.take len) := by
  refine Vals.take_ (⟨hm, ?_⟩ : Vals w (some x) vs) len
  rcases Nat.eq_zero_or_pos vs.length with h0 | h0
  · exact .inl (List.eq_nil_of_length_eq_zero h0)
  · obtain ⟨b, off, spot⟩ := x
    have hc := hcell 0 h0
    rw [List.getElem?_eq_getElem h0] at hc
    have hspot : spot = none := by simpa [Addr.add] using World.cell?_spot hc
    subst hspot
    refine .inr ⟨b, off, rfl, World.block_lt_of_cell? _ _ hc, fun i hi => ?_⟩
    have := hcell i hi
    have e : (⟨b, off, none⟩ : Addr).add i = ⟨b, off + i, none⟩ := by
      unfold Addr.add
      by_cases h0 : i = 0
      · subst h0; simp
      · simp [h0]
    rwa [e] at this
end

/-! bytes and texts -/
def byteV (c : UInt8) : Value := .int .u8 c.toNat
def Bytes (w : World) (A : Option Addr) (l : List UInt8) : Prop := Vals w A (l.map byteV)
def Strs (w : World) (A : Option Addr) (l : List ByteArray) : Prop := Vals w A (l.map Value.string) ∧ ∀ s ∈ l, s.size ≤ maxLen
section
variable {w w' : World} {A : Option Addr}
/-- byte k, under a name of its own -/
theorem Bytes.get {l : List UInt8} (h : Bytes w A l) {k : Nat} (hk : k < l.length) :
    ∃ b off, ∃ n : Int, A = some ⟨b, off, none⟩ ∧ b < w.heap.size ∧ w.cell? ⟨b, off + k, none⟩ = some (.int .u8 n) ∧ Hid ((l[k].toNat : Int) = n) ∧ 0 ≤ n ∧ n ≤ 255 := by
  obtain ⟨b, off, rfl, hb, hc⟩ := Vals.get h (k := k) (by rw [List.length_map]; exact hk)
  have := l[k].toNat_lt
  exact ⟨b, off, _, rfl, hb, by rw [hc, List.getElem_map]; rfl, rfl, by omega, by omega⟩
theorem Bytes.len {l : List UInt8} (h : Bytes w A l) : l.length ≤ 9223372036854775807 := by have := h.1; rw [List.length_map] at this; exact this
theorem Bytes.below {l : List UInt8} (h : Bytes w A l) (hb : Below w.heap.size w w') : Bytes w' A l := Vals.below h hb
theorem Bytes.drewN {l : List UInt8} (h : Bytes w A l) (n : Nat) : Bytes (w.drewN n) A l := h
theorem Bytes.nil (w : World) (A : Option Addr) : Bytes w A [] := Vals.nil w A
theorem Bytes.take_ {l : List UInt8} (h : Bytes w A l) (n : Nat) : Bytes w A (l.take n) := by unfold Bytes; rw [List.map_take]; exact Vals.take_ h n
theorem Bytes.drop_ {b off : Nat} {l : List UInt8} (h : Bytes w (some ⟨b, off, none⟩) l) (n : Nat) : Bytes w (some ⟨b, off + n, none⟩) (l.drop n) := by unfold Bytes; rw [List.map_drop]; exact Vals.drop_ h n
theorem Strs.get {l : List ByteArray} (h : Strs w A l) {k : Nat} (hk : k < l.length) :
    ∃ b off s, A = some ⟨b, off, none⟩ ∧ b < w.heap.size ∧ w.cell? ⟨b, off + k, none⟩ = some (.string s) ∧ Hid (l[k] = s) ∧ s.size ≤ 9223372036854775807 := by
  obtain ⟨b, off, rfl, hb, hc⟩ := Vals.get h.1 (k := k) (by rw [List.length_map]; exact hk)
  exact ⟨b, off, _, rfl, hb, by rw [hc, List.getElem_map], rfl, h.2 _ (List.getElem_mem hk)⟩
theorem Strs.len {l : List ByteArray} (h : Strs w A l) : l.length ≤ 9223372036854775807 := by have := h.1.1; rw [List.length_map] at this; exact this
theorem Strs.below {l : List ByteArray} (h : Strs w A l) (hb : Below w.heap.size w w') : Strs w' A l := ⟨h.1.below hb, h.2⟩
theorem Strs.drewN {l : List ByteArray} (h : Strs w A l) (n : Nat) : Strs (w.drewN n) A l := h
theorem Strs.nil (w : World) (A : Option Addr) : Strs w A [] := ⟨Vals.nil w A, by simp⟩
end

/-- the slice v, in memory from block B on, of elements of type t, holds the values vs -/
def OwnV (w : World) (B : Nat) (t : TypeId) (v : Value) (vs : List Value) : Prop := w.ownsRow B t 1 v vs.length vs
section
variable {w w' : World} {B : Nat} {t : TypeId} {v : Value} {vs : List Value}
theorem OwnV.nil (w : World) (B : Nat) (t : TypeId) : OwnV w B t (.slice none 0 0) [] := World.ownsRow_nil _ _ _ _
theorem OwnV.form (h : OwnV w B t v vs) : (v = .slice none 0 0 ∧ vs = []) ∨ ∃ g cap, v = .slice (some ⟨g, 0, none⟩) vs.length cap ∧ B ≤ g ∧ g < w.heap.size ∧ vs.length ≤ cap := by
  rcases h.2 with ⟨rfl, h0⟩ | ⟨g, cap, cur, rfl, hB, hh, hn, _⟩
  · exact .inl ⟨rfl, List.eq_nil_of_length_eq_zero h0⟩
  · refine .inr ⟨g, cap, rfl, hB, ?_, hn⟩
    rcases Nat.lt_or_ge g w.heap.size with hlt | hge
    · exact hlt
    · rw [Array.getElem?_eq_none hge] at hh; cases hh
theorem OwnV.len (h : OwnV w B t v vs) : vs.length ≤ maxLen := by
  rcases h.2 with ⟨_, h0⟩ | ⟨g, cap, cur, _, _, _, hn, hm, _⟩
  · rw [h0]; exact Nat.zero_le _
  · exact Nat.le_trans hn hm
theorem OwnV.vals (h : OwnV w B t v vs) : ∃ A cap, v = .slice A vs.length cap ∧ Vals w A vs := by
  have hl := h.len
  rcases h.2 with ⟨rfl, h0⟩ | ⟨g, cap, cur, rfl, hB, hh, hn, hm, hs, ht⟩
  · have := List.eq_nil_of_length_eq_zero h0
    subst this
    exact ⟨none, 0, rfl, Vals.nil _ _⟩
  · have hg : g < w.heap.size := by
      rcases Nat.lt_or_ge g w.heap.size with hlt | hge
      · exact hlt
      · rw [Array.getElem?_eq_none hge] at hh; cases hh
    refine ⟨_, cap, rfl, hl, .inr ⟨g, 0, rfl, hg, fun i hi => ?_⟩⟩
    rw [Nat.zero_add, World.ownsRow.cellAt h i (by omega), List.getElem?_eq_getElem hi]
theorem OwnV.kept (h : OwnV w B t v vs) (hb : ∀ g, B ≤ g → g < w.heap.size → w'.heap[g]? = w.heap[g]?) : OwnV w' B t v vs := by
  refine ⟨h.1, ?_⟩
  rcases h.2 with h0 | ⟨g, cap, cur, hv, hB, hh, r⟩
  · exact .inl h0
  · refine .inr ⟨g, cap, cur, hv, hB, ?_, r⟩
    rcases Nat.lt_or_ge g w.heap.size with hlt | hge
    · rw [hb g hB hlt]; exact hh
    · rw [Array.getElem?_eq_none hge] at hh; cases hh
theorem OwnV.below (h : OwnV w B t v vs) (hb : Below w.heap.size w w') : OwnV w' B t v vs := h.kept fun g _ hg => hb.block g hg
theorem OwnV.alloc (h : OwnV w B t v vs) (o : Obj) : OwnV (w.alloc o) B t v vs := World.ownsRow.alloc h o
theorem OwnV.drewN (h : OwnV w B t v vs) (n : Nat) : OwnV (w.drewN n) B t v vs := h
theorem OwnV.block (h : OwnV w B t v vs) : ∀ k, v.ownBlock = some k → B ≤ k := fun k hk => (World.ownsRow.lt h k hk).1
end

/-- 's = append(s, x)', the new element in a block of its own just made -/
theorem wpList_pushV {P : Program} {ops : Array Oper} {rest : List Oper} {o : Oper} {a : Act} {Q : Exit → Act → World → Prop} (w : World) (x : Value) (hx1 : x.oneCell' = true) (B : Nat) (vs : List Value) (s y : Operand) (ts t : TypeId) (bytes : Nat) (z : Value)
    (hu : P.underlying ts = some (.slice t)) (hinfo : (P.info? t).map (fun i => (i.zero, i.size, i.bytes)) = some (some z, 1, bytes)) (hz : z.cells.size = 1)
    (hgd : o.guard = none) (ho : o.op = .call { callee := .builtin .append, args := #[s, y], argTypes := #[ts, ts] })
    (v : Value) (hs : a.eval s = v) (hx : a.eval y = .slice (some ⟨w.heap.size, 0, none⟩) 1 1) (hown : OwnV w B t v vs) (hl : (vs.length + 1) * bytes ≤ 140737488355328) (hm : vs.length + 1 ≤ maxLen) (hB : B ≤ w.heap.size)
    (h : ∀ v' w', OwnV w' B t v' (vs ++ [x]) → Below B w w' → w.heap.size ≤ w'.heap.size → w.grownBy w' v.ownBlock → wpList P ops Q rest (a.put o.dst v') w') :
    wpList P ops Q (o :: rest) a (w.alloc (.cells #[x] t)) := by
  obtain ⟨i0, hi, hz0, hz1, hz2⟩ := info_parts hinfo
  refine wpList_append_own (w.alloc (.cells #[x] t)) hgd s y ts ho B t i0 z 1 bytes hu hi hz0 hz1 hz2 hz (by decide) v vs.length vs hs (OwnV.alloc hown _)
    ⟨w.heap.size, 0, none⟩ 1 1 [x] hx rfl ?_ ?_ hm hl (by simp; omega) ?_
  · intro j u hj
    match j, hj with
    | 0, hj => simp at hj; subst hj; simp [Addr.add]
  · intro u hu; simp at hu; subst hu; exact hx1
  · intro v' w' h1 h2 _
    have hg : w.grownBy w' v.ownBlock := (World.grownBy_alloc w _ v.ownBlock).trans h2
    refine h v' w' (by unfold OwnV; simpa using h1) ?_ hg.size hg
    exact (Below.refl B w).grown hg hB (OwnV.block hown)
end Go.Proofs.Ytagmknahmkniaaa

/- Strings and their bytes. -/
namespace Go.Proofs.Ytagmknahmkniaaa
open Go.RowKit

/-- a string's bytes -/
def L (s : ByteArray) : List UInt8 := s.data.toList
/-- the string of some bytes -/
def S (l : List UInt8) : ByteArray := ⟨l.toArray⟩
theorem L_S (l : List UInt8) : L (S l) = l := by simp [L, S]
theorem S_L (s : ByteArray) : S (L s) = s := by
  obtain ⟨d⟩ := s
  show ByteArray.mk d.toList.toArray = _
  rw [Array.toArray_toList]
theorem L_len (s : ByteArray) : (L s).length = s.size := Array.length_toList
theorem S_size (l : List UInt8) : (S l).size = l.length := List.size_toArray
theorem L_toList (s : ByteArray) : s.toList = L s := ByteArray.toList_eq s
theorem L_get (s : ByteArray) (k : Nat) (h : k < s.size) : (L s)[k]'(by rw [L_len]; exact h) = s[k] := by simp [L, ByteArray.getElem_eq_getElem_data]
theorem L_take_succ (s : ByteArray) (k : Nat) (h : k < s.size) : (L s).take (k + 1) = (L s).take k ++ [s[k]] := by
  rw [WM.take_snoc (L s) k (by rw [L_len]; exact h), L_get s k h]
theorem L_take_all (s : ByteArray) : (L s).take s.size = L s := List.take_of_length_le (by rw [L_len]; exact Nat.le_refl _)
theorem L_extract (s : ByteArray) (a b : Nat) : L (s.extract a b) = ((L s).take b).drop a := by
  simp [L, ByteArray.data_extract, List.drop_take]
theorem L_append (a b : ByteArray) : L (a ++ b) = L a ++ L b := by simp [L, ByteArray.data_append]
theorem L_inj {a b : ByteArray} (h : L a = L b) : a = b := by rw [← S_L a, ← S_L b, h]
theorem L_head (s : ByteArray) (h : 0 < s.size) : (L s).headD 0 = s[0] := by
  rw [← L_get s 0 h]
  have hl : 0 < (L s).length := by rw [L_len]; exact h
  rw [List.headD_eq_head?_getD, List.head?_eq_getElem?, List.getElem?_eq_getElem hl]
  rfl
theorem L_nil {s : ByteArray} (h : s.size = 0) : L s = [] := List.eq_nil_of_length_eq_zero (by rw [L_len]; exact h)
theorem isEmpty_false {s : ByteArray} (h : 0 < s.size) : s.toList.isEmpty = false := by
  rw [L_toList, List.isEmpty_eq_false_iff]
  intro e
  have := L_len s
  rw [e] at this; simp at this; omega
theorem isEmpty_true {s : ByteArray} (h : s.size = 0) : s.toList.isEmpty = true := by
  rw [L_toList, L_nil h]; rfl
theorem beq_t {a b : Int} (h : a = b) : (a == b) = true := by simpa using h
theorem beq_f {a b : Int} (h : ¬ a = b) : (a == b) = false := by simpa using h
end Go.Proofs.Ytagmknahmkniaaa
