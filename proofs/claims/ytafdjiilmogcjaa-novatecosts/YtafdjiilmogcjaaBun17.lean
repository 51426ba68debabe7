/- Put together: Bun7. -/
import Derived.Test.YtafdjiilmogcjaaBun16
import Derived.IntWalk
import Derived.Test.YtafdjiilmogcjaaBun11
import Derived.Laws.MakeOwn
import Derived.Test.YtafdjiilmogcjaaBun14
import Derived.Test.YtafdjiilmogcjaaBun13
import Derived.Test.YtafdjiilmogcjaaBun15
import Derived.Laws.StructEq
import Derived.Test.YtafdjiilmogcjaaBun12
/- Put together: NovD2, RecsCat, NovE, WordsA, WordsE, ProdA, ProdB, ProductMath3. -/
/- Contracts of layer 13: the legs of one trade, the program's. -/
namespace Go.Proofs.Ytafdjiilmogcjaa
open Go.RowKit Go.Recs
set_option linter.unusedVariables false
set_option linter.unusedSimpArgs false
theorem nleg_below (t : TM.Trd) (a b : ByteArray) (q : Int) (w : World) :
    Calls Try.prog 44 #[trdA t, kA a b, .int .i64 q] w fun e w' => e = .returned (legA ⟨a, b, t.ser, q, t.price, t.id⟩) ∧ Below w.heap.size w w' := by
  refine (nleg_any t a b q w).mono ?_
  rintro e w' ⟨rfl, rfl⟩
  exact ⟨rfl, below_al (below_al (below_al (Below.refl w.heap.size w) _) _) _⟩
theorem put9_below {a w : World} {B g : Nat} {c0 c1 c2 c3 c4 c5 c6 c7 c8 : Value} (h : Below B a w) (hg : B ≤ g) : Below B a (((((((((w.setCell ⟨g, 0, none⟩ c0).setCell ⟨g, 1, none⟩ c1).setCell ⟨g, 2, none⟩ c2).setCell ⟨g, 3, none⟩ c3).setCell ⟨g, 4, none⟩ c4).setCell ⟨g, 5, none⟩ c5).setCell ⟨g, 6, none⟩ c6).setCell ⟨g, 7, none⟩ c7).setCell ⟨g, 8, none⟩ c8) :=
  ((((((((h.setCell (p := ⟨g, 0, none⟩) hg _).setCell (p := ⟨g, 1, none⟩) hg _).setCell (p := ⟨g, 2, none⟩) hg _).setCell (p := ⟨g, 3, none⟩) hg _).setCell (p := ⟨g, 4, none⟩) hg _).setCell (p := ⟨g, 5, none⟩) hg _).setCell (p := ⟨g, 6, none⟩) hg _).setCell (p := ⟨g, 7, none⟩) hg _).setCell (p := ⟨g, 8, none⟩) hg _
theorem CB.put9 {w : World} {g : Nat} {ty : TypeId} {d0 d1 d2 d3 d4 d5 d6 d7 d8 c0 c1 c2 c3 c4 c5 c6 c7 c8 : Value} (h : CB w g ty #[d0, d1, d2, d3, d4, d5, d6, d7, d8]) : CB (((((((((w.setCell ⟨g, 0, none⟩ c0).setCell ⟨g, 1, none⟩ c1).setCell ⟨g, 2, none⟩ c2).setCell ⟨g, 3, none⟩ c3).setCell ⟨g, 4, none⟩ c4).setCell ⟨g, 5, none⟩ c5).setCell ⟨g, 6, none⟩ c6).setCell ⟨g, 7, none⟩ c7).setCell ⟨g, 8, none⟩ c8) g ty #[c0, c1, c2, c3, c4, c5, c6, c7, c8] := by
  have := ((((((((h.set_ 0 c0).set_ 1 c1).set_ 2 c2).set_ 3 c3).set_ 4 c4).set_ 5 c5).set_ 6 c6).set_ 7 c7).set_ 8 c8
  simpa using this
theorem CB.far9 {w : World} {g j : Nat} {ty : TypeId} {cs : Array Value} {c0 c1 c2 c3 c4 c5 c6 c7 c8 : Value} (h : CB w j ty cs) (hne : j ≠ g) : CB (((((((((w.setCell ⟨g, 0, none⟩ c0).setCell ⟨g, 1, none⟩ c1).setCell ⟨g, 2, none⟩ c2).setCell ⟨g, 3, none⟩ c3).setCell ⟨g, 4, none⟩ c4).setCell ⟨g, 5, none⟩ c5).setCell ⟨g, 6, none⟩ c6).setCell ⟨g, 7, none⟩ c7).setCell ⟨g, 8, none⟩ c8) j ty cs :=
  ((((((((h.far (p := ⟨g, 0, none⟩) hne _).far (p := ⟨g, 1, none⟩) hne _).far (p := ⟨g, 2, none⟩) hne _).far (p := ⟨g, 3, none⟩) hne _).far (p := ⟨g, 4, none⟩) hne _).far (p := ⟨g, 5, none⟩) hne _).far (p := ⟨g, 6, none⟩) hne _).far (p := ⟨g, 7, none⟩) hne _).far (p := ⟨g, 8, none⟩) hne _
theorem wrap_neg {q : Int} (h1 : -9223372036854775808 ≤ q) (h2 : q ≤ 9223372036854775807) : IntKind.i64.wrap (-q) = NM.neg64 q := by
  by_cases h : q = -9223372036854775808
  · subst h; kernel_rfl
  · rw [neg64_other h, IntWalk.i64_left]
    exact IntWalk.wrap64_in _ ⟨by omega, by omega⟩
theorem drewN_one (w : World) : w.drewN 1 = w.drew := rfl
theorem below_part {w a b : World} (h : Below w.heap.size w a) (hb : Below (w.heap.size + 1) a b) : Below w.heap.size w b := h.trans (hb.mono (Nat.le_succ _))
set_option maxHeartbeats 8000000 in
theorem nlegs_any (t : TM.Trd) (w : World) (hq : trdQ t) :
    Calls Try.prog 17 #[trdA t] w fun e w' => e = .returned (.tuple #[legA (NM.bought t), legA (NM.sold t)]) ∧ Below w.heap.size w w' := by
  obtain ⟨-, -, -, -, ⟨q1, q2⟩, -, -, -, -, -⟩ := hq
  have hmf : ∀ (fn : Fn) (first cap : Array Value) (w : World), (Instr.makeFunc fn first cap).run Try.prog w = .ok (.func fn first cap) w := fun _ _ _ _ => rfl
  have C := Lib.hid (fun a b q ww => nleg_below t a b q ww)
  have HT : Hid (CB (((w.alloc (.cells (trdC t) 45)).alloc (.cells #[.string ⟨#[]⟩, .string ⟨#[]⟩, .string ⟨#[]⟩, .int .i64 0, .int .i64 0, .int .i64 0, .int .i64 0, .int .i64 0, .int .i64 0] 47)).alloc (.cells #[.string ⟨#[]⟩, .string ⟨#[]⟩, .string ⟨#[]⟩, .int .i64 0, .int .i64 0, .int .i64 0, .int .i64 0, .int .i64 0, .int .i64 0] 47)) w.heap.size 45 (trdC t)) := Lib.hid (((CB.new w 45 (trdC t)).alloc _).alloc _)
  have H1 : Hid (CB (((w.alloc (.cells (trdC t) 45)).alloc (.cells #[.string ⟨#[]⟩, .string ⟨#[]⟩, .string ⟨#[]⟩, .int .i64 0, .int .i64 0, .int .i64 0, .int .i64 0, .int .i64 0, .int .i64 0] 47)).alloc (.cells #[.string ⟨#[]⟩, .string ⟨#[]⟩, .string ⟨#[]⟩, .int .i64 0, .int .i64 0, .int .i64 0, .int .i64 0, .int .i64 0, .int .i64 0] 47)) (w.heap.size + 1) 47 #[.string ⟨#[]⟩, .string ⟨#[]⟩, .string ⟨#[]⟩, .int .i64 0, .int .i64 0, .int .i64 0, .int .i64 0, .int .i64 0, .int .i64 0]) := Lib.hid ((CB.new1 w (.cells (trdC t) 45) 47 _).alloc _)
  have H2 : Hid (CB (((w.alloc (.cells (trdC t) 45)).alloc (.cells #[.string ⟨#[]⟩, .string ⟨#[]⟩, .string ⟨#[]⟩, .int .i64 0, .int .i64 0, .int .i64 0, .int .i64 0, .int .i64 0, .int .i64 0] 47)).alloc (.cells #[.string ⟨#[]⟩, .string ⟨#[]⟩, .string ⟨#[]⟩, .int .i64 0, .int .i64 0, .int .i64 0, .int .i64 0, .int .i64 0, .int .i64 0] 47)) (w.heap.size + 1 + 1) 47 #[.string ⟨#[]⟩, .string ⟨#[]⟩, .string ⟨#[]⟩, .int .i64 0, .int .i64 0, .int .i64 0, .int .i64 0, .int .i64 0, .int .i64 0]) := Lib.hid (CB.new2 w (.cells (trdC t) 45) _ 47 _)
  have HB3 : Hid (Below w.heap.size w (((w.alloc (.cells (trdC t) 45)).alloc (.cells #[.string ⟨#[]⟩, .string ⟨#[]⟩, .string ⟨#[]⟩, .int .i64 0, .int .i64 0, .int .i64 0, .int .i64 0, .int .i64 0, .int .i64 0] 47)).alloc (.cells #[.string ⟨#[]⟩, .string ⟨#[]⟩, .string ⟨#[]⟩, .int .i64 0, .int .i64 0, .int .i64 0, .int .i64 0, .int .i64 0, .int .i64 0] 47))) := Lib.hid (below_al (below_al (below_al (Below.refl w.heap.size w) _) _) _)
  have HSF : Hid (∀ ww, Below (w.heap.size + 1) (((w.alloc (.cells (trdC t) 45)).alloc (.cells #[.string ⟨#[]⟩, .string ⟨#[]⟩, .string ⟨#[]⟩, .int .i64 0, .int .i64 0, .int .i64 0, .int .i64 0, .int .i64 0, .int .i64 0] 47)).alloc (.cells #[.string ⟨#[]⟩, .string ⟨#[]⟩, .string ⟨#[]⟩, .int .i64 0, .int .i64 0, .int .i64 0, .int .i64 0, .int .i64 0, .int .i64 0] 47)) ww → ww.cell? ⟨w.heap.size, 7, none⟩ = some (.int .i64 t.qty) ∧ ww.cell? ⟨w.heap.size, 9, none⟩ = some (.string t.bm) ∧ ww.cell? ⟨w.heap.size, 10, none⟩ = some (.string t.bn) ∧ ww.cell? ⟨w.heap.size, 11, none⟩ = some (.string t.sm) ∧ ww.cell? ⟨w.heap.size, 12, none⟩ = some (.string t.sn)) := Lib.hid (fun ww h => by
    have hh := HT.out.below h (Nat.lt_succ_self _)
    exact ⟨hh.cell 7, hh.cell 9, hh.cell 10, hh.cell 11, hh.cell 12⟩)
  have HZ : Hid (w.heap.size + 1 ≤ (((w.alloc (.cells (trdC t) 45)).alloc (.cells #[.string ⟨#[]⟩, .string ⟨#[]⟩, .string ⟨#[]⟩, .int .i64 0, .int .i64 0, .int .i64 0, .int .i64 0, .int .i64 0, .int .i64 0] 47)).alloc (.cells #[.string ⟨#[]⟩, .string ⟨#[]⟩, .string ⟨#[]⟩, .int .i64 0, .int .i64 0, .int .i64 0, .int .i64 0, .int .i64 0, .int .i64 0] 47)).heap.size) := Lib.hid (by simp)
  clear HT
  have HG1 : Hid (w.heap.size + 1 ≤ w.heap.size + 1) := Lib.hid (Nat.le_refl _)
  have HG2 : Hid (w.heap.size + 1 ≤ w.heap.size + 1 + 1) := Lib.hid (Nat.le_succ _)
  have hw : IntKind.i64.wrap (-t.qty) = NM.neg64 t.qty := wrap_neg q1 q2
  have e1 : NM.sold t = ⟨t.sm, t.sn, t.ser, NM.neg64 t.qty, t.price, t.id⟩ := rfl
  rw [e1]
  generalize NM.neg64 t.qty = y at *
  clear e1 q1 q2
  unfold NM.bought
  go_enter Try.func17, Try.ntmps17
  go_wp2_with fail
  generalize ((w.alloc (.cells (trdC t) 45)).alloc (.cells #[.string ⟨#[]⟩, .string ⟨#[]⟩, .string ⟨#[]⟩, .int .i64 0, .int .i64 0, .int .i64 0, .int .i64 0, .int .i64 0, .int .i64 0] 47)).alloc (.cells #[.string ⟨#[]⟩, .string ⟨#[]⟩, .string ⟨#[]⟩, .int .i64 0, .int .i64 0, .int .i64 0, .int .i64 0, .int .i64 0, .int .i64 0] 47) = w3 at *
  have HBw : Hid (Below (w.heap.size + 1) w3 w3.drew) := Lib.hid (Below.refl _ _).drew
  replace H1 := Lib.hid ((H1.out).drewN 1)
  replace H2 := Lib.hid ((H2.out).drewN 1)
  rw [drewN_one] at H1 H2
  go_region_held3 (fun ww => ww.cell? ⟨w.heap.size, 7, none⟩ = some (.int .i64 t.qty) ∧ ww.cell? ⟨w.heap.size, 9, none⟩ = some (.string t.bm) ∧ ww.cell? ⟨w.heap.size, 10, none⟩ = some (.string t.bn) ∧ ww.cell? ⟨w.heap.size, 11, none⟩ = some (.string t.sm) ∧ ww.cell? ⟨w.heap.size, 12, none⟩ = some (.string t.sn))
    (first | (with_reducible exact HSF.out _ HBw.out) | (with_reducible exact HSF.out _ (put9_below HBw.out HG1.out)) | (with_reducible exact HSF.out _ (put9_below HBw.out HG2.out)) | (with_reducible exact HSF.out _ (put9_below (put9_below HBw.out HG1.out) HG2.out)) | (with_reducible exact HSF.out _ (put9_below (put9_below HBw.out HG2.out) HG1.out)))
    (first
      | (go_at_call 44; refine (C.out _ _ _ _).mono ?_; rintro e w5 ⟨rfl, b5⟩; replace HBw := Lib.hid (HBw.out.trans (b5.mono (Nat.le_trans HZ.out HBw.out.size))); replace H1 := Lib.hid (H1.out.below b5 H1.out.lt); replace H2 := Lib.hid (H2.out.below b5 H2.out.lt); clear b5; have ak : ∀ i, w5.cell? ⟨w.heap.size + 1, i, none⟩ = _ := fun i => H1.out.cell i; have af : ∀ i, w5.frozen? ⟨w.heap.size + 1, i, none⟩ = false := fun i => H1.out.frozen i; have bk : ∀ i, w5.cell? ⟨w.heap.size + 1 + 1, i, none⟩ = _ := fun i => H2.out.cell i; have bf : ∀ i, w5.frozen? ⟨w.heap.size + 1 + 1, i, none⟩ = false := fun i => H2.out.frozen i))
  all_goals (
    clear HSF C hmf
    have hn1 : w.heap.size + 1 ≠ w.heap.size + 1 + 1 := by omega
    have HQ1 := Lib.hid hn1
    have HBF := Lib.hid (below_part HB3.out HBw.out)
    clear hn1 HBw HB3 HZ ak af bk bf
    go_wp2_with fail
    (try simp only [Exit.inBlock, Exit.then])
    refine bodyPost_ret (results_legs (x := ⟨t.bm, t.bn, t.ser, t.qty, t.price, t.id⟩) (y := ⟨t.sm, t.sn, t.ser, y, t.price, t.id⟩) rfl _ _ _ _ rfl rfl ?b1 ?b2) rfl ⟨rfl, ?b3⟩
    case b1 => exact CB.far9 (CB.put9 H1.out) HQ1.out
    case b2 => exact CB.put9 (CB.far9 H2.out HQ1.out.symm)
    case b3 => exact put9_below (put9_below HBF.out (Nat.le_succ _)) (Nat.le_trans (Nat.le_succ _) (Nat.le_succ _)))
end Go.Proofs.Ytafdjiilmogcjaa

/- 's = append(s, l...)', l a slice of records. Over any program. -/
namespace Go.Recs
open Go.RowKit
set_option linter.unusedVariables false
set_option linter.unusedSimpArgs false

theorem run_catR {P : Program} (w : World) (B : Nat) (rows more : List (List Value)) (ts t ty : TypeId) (sz bytes : Nat) (z : Value)
    (hu : P.underlying ts = some (.slice t)) (hinfo : (P.info? t).map (fun i => (i.zero, i.size, i.bytes)) = some (some z, sz, bytes)) (hz : z.cells.size = sz) (h0 : 0 < sz)
    (v : Value) (hown : OwnR w B t sz v rows) (A : Option Addr) (c : Nat) (hm : Recs w A sz more) (h1 : ∀ r ∈ more, ∀ u ∈ r, u.oneCell' = true)
    (hl : (rows.length + more.length) * bytes ≤ 140737488355328) (hmx : rows.length + more.length ≤ maxLen) (hB : B ≤ w.heap.size) :
    ∃ v' w', (Builtin.append_ #[ts, ts] ty #[v, .slice A more.length c]).run P w = .ok v' w' ∧ OwnR w' B t sz v' (rows ++ more) ∧ w.grownBy w' v.ownBlock := by
  obtain ⟨i0, hi, hz0, hz1, hz2⟩ := info_parts hinfo
  have hrr : ∀ r ∈ rows ++ more, r.length = sz := by
    intro r hr
    rcases List.mem_append.1 hr with hr | hr
    · exact hown.1 r hr
    · exact hm.2.1 r hr
  have key : ∀ ad, A = some ad → ∃ v' w', (Builtin.append_ #[ts, ts] ty #[v, .slice A more.length c]).run P w = .ok v' w' ∧ OwnR w' B t sz v' (rows ++ more) ∧ w.grownBy w' v.ownBlock := by
    rintro ad rfl
    have hcells : ∀ j u, more.flatten[j]? = some u → w.cell? (ad.add j) = some u := by
      intro j u hj
      rcases hm.2.2 with e | ⟨b, off, e, hb, hcell⟩
      · subst e; simp at hj
      · injection e with e
        subst e
        have hlt : j < more.flatten.length := by
          rcases Nat.lt_or_ge j more.flatten.length with h | h
          · exact h
          · rw [List.getElem?_eq_none h] at hj; cases hj
        rw [flat_len hm.2.1] at hlt
        have hi' : j / sz < more.length := Nat.div_lt_of_lt_mul (by rw [Nat.mul_comm]; exact hlt)
        have hj' : j % sz < sz := Nat.mod_lt _ h0
        have ej : j / sz * sz + j % sz = j := by rw [Nat.mul_comm]; exact Nat.div_add_mod j sz
        have e := flat_at hm.2.1 (j / sz) (j % sz) hi' hj'
        have e2 := hcell (j / sz) (j % sz) hi' hj'
        rw [ej] at e e2
        rw [add_at, e2, ← e, hj]
    obtain ⟨v', w', hr, h2, h3, _, _⟩ := run_append_own_at (P := P) w B ts ty t i0 z sz bytes hu hi hz0 hz1 hz2 hz h0 v rows.length rows.flatten hown.2 ad more.length c more.flatten
      (flat_len hm.2.1) hcells (fun u hu => by obtain ⟨r, hr, hur⟩ := List.mem_flatten.1 hu; exact h1 r hr u hur) hmx hl hB
    refine ⟨v', w', hr, ⟨hrr, ?_⟩, h3⟩
    rw [List.length_append, List.flatten_append]
    exact h2
  cases A with
  | some ad => exact key ad rfl
  | none =>
    have : more = [] := by
      rcases hm.2.2 with h | ⟨b, off, e, _⟩
      · exact h
      · cases e
    subst this
    refine ⟨v, w, ?_, by simpa using hown, World.grownBy.refl w _⟩
    rcases hown.form with ⟨hv, _⟩ | ⟨g, cap, hv, _, _, hnc⟩ <;> rw [hv]
    · simp [Builtin.append_, run_underlying hu, sizeOf, typeInfo, hi, Builtin.lenOf, Builtin.firstCells]
    · simp [Builtin.append_, run_underlying hu, sizeOf, typeInfo, hi, Builtin.lenOf, Builtin.firstCells, storeCells]
      omega

theorem wpList_catR {P : Program} {ops : Array Oper} {rest : List Oper} {o : Oper} {a : Act} {Q : Exit → Act → World → Prop} (w : World) (B : Nat) (rows more : List (List Value)) (x y : Operand) (ts t : TypeId) (sz bytes : Nat) (z : Value)
    (hu : P.underlying ts = some (.slice t)) (hinfo : (P.info? t).map (fun i => (i.zero, i.size, i.bytes)) = some (some z, sz, bytes)) (hz : z.cells.size = sz) (h0 : 0 < sz)
    (hgd : o.guard = none) (ho : o.op = .call { callee := .builtin .append, args := #[x, y], argTypes := #[ts, ts] })
    (v : Value) (A : Option Addr) (n c : Nat) (hs : a.eval x = v) (hx : a.eval y = .slice A n c) (hn : n = more.length) (hown : OwnR w B t sz v rows) (hm : Recs w A sz more) (h1 : ∀ r ∈ more, ∀ u ∈ r, u.oneCell' = true)
    (hl : (rows.length + more.length) * bytes ≤ 140737488355328) (hmx : rows.length + more.length ≤ maxLen) (hB : B ≤ w.heap.size)
    (h : ∀ v' w', OwnR w' B t sz v' (rows ++ more) → Below B w w' → w.grownBy w' v.ownBlock → wpList P ops Q rest (a.put o.dst v') w') :
    wpList P ops Q (o :: rest) a w := by
  subst hn
  obtain ⟨v', w', hr, h2, h3⟩ := run_catR w B rows more ts t o.type sz bytes z hu hinfo hz h0 v hown A c hm h1 hl hmx hB
  refine wpList_plain hgd fun K hK => ?_
  unfold Oper.wp execOp
  simp only [ho, resolve, invoke, builtin, Sem.run_bind, Sem.run_pure, Result.andThen_ok, List.map_toArray, List.map_cons, List.map_nil, hs, hx, hr]
  exact hK _ _ (h v' w' h2 ((Below.refl B w).grown h3 hB (OwnR.block hown)) h3)
end Go.Recs

/- Contracts of layer 13: the legs of all trades. -/
namespace Go.Proofs.Ytafdjiilmogcjaa
open Go.RowKit Go.Recs
set_option linter.unusedVariables false
set_option linter.unusedSimpArgs false
def lzeros (n : Nat) : Array Value := madeCells (legC NM.zero) (n * 9)
theorem make_legs (n : Nat) (hn : n * 96 ≤ 140737488355328) (u : World) : (Instr.makeSlice 51 (.int .i64 0) (.int .i64 (n : Int))).run Try.prog u =
    .ok (.slice (some ⟨u.heap.size, 0, none⟩) 0 n) (u.alloc (.cells (lzeros n) 47)) := by
  obtain ⟨i0, hi, hz0, hz1, hz2⟩ := info_parts info_leg
  have h := run_make (P := Try.prog) u 51 47 i0 (legA NM.zero) Try.underlying51 hi hz0 .i64 .i64 (0 : Int) (n : Int) (by omega) (by omega) (by rw [hz2]; omega) (by omega)
  rw [Int.toNat_natCast] at h
  simpa [hz1, Value.cells, lzeros] using h
theorem lzeros_size (n : Nat) : (lzeros n).size = n * 9 := by
  unfold lzeros
  simp [madeCells]
theorem lit_legs (W : World) (x y : NM.Leg) : Recs (W.alloc (.cells (legC x ++ legC y) 47)) (some ⟨W.heap.size, 0, none⟩) 9 [legV x, legV y] := by
  obtain ⟨A', cap, e, hr, _⟩ := OwnR.recs (OwnR.lit W W.heap.size 47 9 [legV x, legV y] (by simp [legV]) (Nat.le_refl _) (by simp [maxLen]))
  injection e with e1
  subst e1
  exact hr
theorem two_one (x y : NM.Leg) : ∀ r ∈ [legV x, legV y], ∀ u ∈ r, u.oneCell' = true := legV_one [x, y]

set_option maxHeartbeats 4000000 in
set_option maxRecDepth 100000 in
theorem nall_any (A : Option Addr) (l : List TM.Trd) (n cap : Nat) (hn : n = l.length) (w : World) (hI : Trds w A l) (hz : l.length ≤ 100000) :
    Calls Try.prog 19 #[.slice A n cap] w fun e w' => ∃ v, e = .returned v ∧ OwnR w' w.heap.size 47 9 v ((NM.allL l).map legV) ∧ Below w.heap.size w w' := by
  subst hn
  have KN := Lib.hid (fun k (hk : k < l.length) => NM.allL_succ hk)
  have KE : Hid (NM.allL (l.take l.length) = NM.allL l) := Lib.hid (by rw [List.take_length])
  have KL : Hid (∀ k, k ≤ l.length → (NM.allL (l.take k)).length ≤ 200000) := Lib.hid (fun k hk => by rw [NM.allL_len, List.length_take]; omega)
  have K0 : Hid (NM.allL (l.take 0) = []) := Lib.hid rfl
  have HC := Lib.hid (fun (t : TM.Trd) ww h => nlegs_any t ww h)
  generalize NM.allL l = al at *
  have E1 : ∀ u : World, (Instr.makeSlice 51 (.int .i64 0) (.int .i64 (2 * (l.length : Int)))).run Try.prog u = .ok (.slice (some ⟨u.heap.size, 0, none⟩) 0 (2 * l.length)) (u.alloc (.cells (lzeros (2 * l.length)) 47)) := fun u => by
    have := make_legs (2 * l.length) (by omega) u
    rwa [show ((2 * l.length : Nat) : Int) = 2 * (l.length : Int) by omega] at this
  have HOWN : Hid (OwnR (w.alloc (.cells (lzeros (2 * l.length)) 47)) w.heap.size 47 9 (.slice (some ⟨w.heap.size, 0, none⟩) 0 (2 * l.length)) []) := Lib.hid ⟨by simp, World.ownsRow_made w _ _ (Nat.le_refl _) (by simp only [maxLen]; omega) (lzeros_size _)⟩
  have HI := Lib.hid hI
  clear hI
  go_enter Try.func19, Try.ntmps19
  go_wp2_with fail
  go_loopw [2, 4, 5, 6, 13] (fun v _ _ _ i wr => ∃ k : Nat, k ≤ l.length ∧ i = .int .i64 (k : Int) ∧ Hid (OwnR wr w.heap.size 47 9 v ((NM.allL (l.take k)).map legV)) ∧ Hid (Below w.heap.size w wr)) (fun _ _ _ _ i _ => l.length - (intOf i).toNat)
  case atStart => exact ⟨0, by omega, rfl, Lib.hid (by rw [K0.out]; exact HOWN.out), Lib.hid (below_al (Below.refl _ _) _)⟩
  case round =>
    obtain ⟨k, hk, rfl, HO, HB⟩ := hrel
    by_cases hlt : k < l.length
    · obtain ⟨b, off, t, rfl, hb, HV, q, d0, d1, d2, d3, d4, d5, d6, d7, d8, d9, d10, d11, d12⟩ := trds_get (HI.out.below HB.out) hlt
      have HN := Lib.hid (KN.out k hlt)
      rw [HV.out] at HN
      have HBx := Lib.hid (HB.out.alloc HB.out.size (.cells (trdC t) 45))
      have HOx := Lib.hid (HO.out.alloc (.cells (trdC t) 45))
      have C1 := Lib.hid (fun ww => HC.out t ww q)
      have hll := KL.out k hk
      generalize NM.bought t = x at *
      generalize NM.sold t = y at *
      clear q HV HC
      go_wp2_with fail
      refine (C1.out _).mono ?_
      rintro e w1 ⟨rfl, b1⟩
      have HB1 := Lib.hid (HBx.out.trans (b1.mono HBx.out.size))
      have HO1 := Lib.hid ((HOx.out.below b1).alloc (.cells (legC x) 47))
      have HO2 := Lib.hid ((HO1.out.alloc (.cells (legC y) 47)).alloc (.cells (legC x ++ legC y) 47))
      have HB2 := Lib.hid (below_al (below_al (below_al HB1.out (.cells (legC x) 47)) (.cells (legC y) 47)) (.cells (legC x ++ legC y) 47))
      have HR := Lib.hid (lit_legs ((w1.alloc (.cells (legC x) 47)).alloc (.cells (legC y) 47)) x y)
      rw [show ((w1.alloc (.cells (legC x) 47)).alloc (.cells (legC y) 47)).heap.size = w1.heap.size + 1 + 1 by simp] at HR
      have HZ1 : Hid ((((NM.allL (l.take k)).map legV).length + [legV x, legV y].length) * 96 ≤ 140737488355328 ∧ ((NM.allL (l.take k)).map legV).length + [legV x, legV y].length ≤ maxLen) := Lib.hid (by rw [List.length_map]; simp only [maxLen, List.length_cons, List.length_nil]; omega)
      clear b1 HO HO1
      go_wp2_with (at_builtin; refine wpList_catR _ w.heap.size ((NM.allL (l.take k)).map legV) [legV x, legV y] _ _ _ 47 9 96 _ Try.underlying51 info_leg rfl (by decide) rfl rfl _ _ _ _ rfl rfl ?c0 HO2.out HR.out (two_one x y) HZ1.out.1 HZ1.out.2 HB2.out.size ?_)
      case c0 => rfl
      rintro v3 w3 hO3 hb3 hg3
      have HO3 : Hid (OwnR w3 w.heap.size 47 9 v3 ((NM.allL (l.take (k + 1))).map legV)) := Lib.hid (by rw [HN.out, List.map_append]; exact hO3)
      have HB3 := Lib.hid (HB2.out.trans hb3)
      clear hO3 hb3 hg3 HO2 HB2
      go_wp2_with fail
      go_roundw
      case rel => exact ⟨k + 1, by omega, by go_num, HO3, HB3⟩
      case measure => simp [intOf]; omega
    · obtain rfl : k = l.length := by omega
      rw [KE.out] at HO
      go_wp2_with fail
      go_ret
      exact ⟨_, rfl, HO.out, HB.out⟩

set_option maxHeartbeats 4000000 in
set_option maxRecDepth 100000 in
theorem rall13_any (A : Option Addr) (l : List TM.Trd) (n cap : Nat) (hn : n = l.length) (w : World) (hI : Trds w A l) (hz : l.length ≤ 100000) :
    Calls Try.prog 23 #[.slice A n cap] w fun e w' => ∃ v, e = .returned v ∧ OwnR w' w.heap.size 47 9 v ((NM.allL l).map legV) ∧ Below w.heap.size w w' := by
  subst hn
  have KN := Lib.hid (fun k (hk : k < l.length) => NM.allL_succ hk)
  have KE : Hid (NM.allL (l.take l.length) = NM.allL l) := Lib.hid (by rw [List.take_length])
  have KL : Hid (∀ k, k ≤ l.length → (NM.allL (l.take k)).length ≤ 200000) := Lib.hid (fun k hk => by rw [NM.allL_len, List.length_take]; omega)
  have K0 : Hid (NM.allL (l.take 0) = []) := Lib.hid rfl
  have HC := Lib.hid (fun (t : TM.Trd) ww h => rlegs13_any t ww h)
  generalize NM.allL l = al at *

  have HI := Lib.hid hI
  clear hI
  go_enter Try.func23, Try.ntmps23
  go_wp2_with fail
  go_loopw [3, 4, 5, 6] (fun v i _ _ wr => ∃ k : Nat, k ≤ l.length ∧ i = .int .i64 (k : Int) ∧ Hid (OwnR wr w.heap.size 47 9 v ((NM.allL (l.take k)).map legV)) ∧ Hid (Below w.heap.size w wr)) (fun _ i _ _ _ => l.length - (intOf i).toNat)
  case atStart => exact ⟨0, by omega, rfl, Lib.hid (by rw [K0.out]; exact OwnR.empty w w.heap.size 47 9 (Nat.le_refl _)), Lib.hid (below_al (Below.refl _ _) _)⟩
  case round =>
    obtain ⟨k, hk, rfl, HO, HB⟩ := hrel
    by_cases hlt : k < l.length
    · obtain ⟨b, off, t, rfl, hb, HV, q, d0, d1, d2, d3, d4, d5, d6, d7, d8, d9, d10, d11, d12⟩ := trds_get (HI.out.below HB.out) hlt
      have HN := Lib.hid (KN.out k hlt)
      rw [HV.out] at HN

      have C1 := Lib.hid (fun ww => HC.out t ww q)
      have hll := KL.out k hk
      generalize NM.bought t = x at *
      generalize NM.sold t = y at *
      clear q HV HC
      go_wp2_with fail
      refine (C1.out _).mono ?_
      rintro e w1 ⟨rfl, b1⟩
      have HB1 := Lib.hid (HB.out.trans (b1.mono HB.out.size))
      have HO1 := Lib.hid ((HO.out.below b1).alloc (.cells (legC x) 47))
      have HO2 := Lib.hid ((HO1.out.alloc (.cells (legC y) 47)).alloc (.cells (legC x ++ legC y) 47))
      have HB2 := Lib.hid (below_al (below_al (below_al HB1.out (.cells (legC x) 47)) (.cells (legC y) 47)) (.cells (legC x ++ legC y) 47))
      have HR := Lib.hid (lit_legs ((w1.alloc (.cells (legC x) 47)).alloc (.cells (legC y) 47)) x y)
      rw [show ((w1.alloc (.cells (legC x) 47)).alloc (.cells (legC y) 47)).heap.size = w1.heap.size + 1 + 1 by simp] at HR
      have HZ1 : Hid ((((NM.allL (l.take k)).map legV).length + [legV x, legV y].length) * 96 ≤ 140737488355328 ∧ ((NM.allL (l.take k)).map legV).length + [legV x, legV y].length ≤ maxLen) := Lib.hid (by rw [List.length_map]; simp only [maxLen, List.length_cons, List.length_nil]; omega)
      clear b1 HO HO1
      go_wp2_with (at_builtin; refine wpList_catR _ w.heap.size ((NM.allL (l.take k)).map legV) [legV x, legV y] _ _ _ 47 9 96 _ Try.underlying51 info_leg rfl (by decide) rfl rfl _ _ _ _ rfl rfl ?c0 HO2.out HR.out (two_one x y) HZ1.out.1 HZ1.out.2 HB2.out.size ?_)
      case c0 => rfl
      rintro v3 w3 hO3 hb3 hg3
      have HO3 : Hid (OwnR w3 w.heap.size 47 9 v3 ((NM.allL (l.take (k + 1))).map legV)) := Lib.hid (by rw [HN.out, List.map_append]; exact hO3)
      have HB3 := Lib.hid (HB2.out.trans hb3)
      clear hO3 hb3 hg3 HO2 HB2
      go_wp2_with fail
      go_roundw
      case rel => exact ⟨k + 1, by omega, by go_num, HO3, HB3⟩
      case measure => simp [intOf]; omega
    · obtain rfl : k = l.length := by omega
      rw [KE.out] at HO
      go_wp2_with fail
      go_ret
      exact ⟨_, rfl, HO.out, HB.out⟩
end Go.Proofs.Ytafdjiilmogcjaa

/- Contracts of the small functions of layer 3 that look at bytes and digits. -/
namespace Go.Proofs.Ytafdjiilmogcjaa
open Go.RowKit

theorem isLetter_any (c : UInt8) (w : World) :
    Calls Try.prog 57 #[.int .u8 (c.toNat : Int)] w fun e w' => e = .returned (.bool (WM.letter c)) ∧ w = w' := by
  by_cases h1 : 97 ≤ (c.toNat : Int)
  · by_cases h2 : (c.toNat : Int) ≤ 122
    · rw [WM.letter_true.2 ⟨h1, h2⟩]
      go_enter Try.func57, Try.ntmps57
      go_wp2
      go_ret
      exact ⟨rfl, rfl⟩
    · rw [WM.letter_false.2 (by omega)]
      go_enter Try.func57, Try.ntmps57
      go_wp2
      go_ret
      exact ⟨rfl, rfl⟩
  · rw [WM.letter_false.2 (by omega)]
    go_enter Try.func57, Try.ntmps57
    go_wp2
    go_ret
    exact ⟨rfl, rfl⟩

theorem isDigit_any (c : UInt8) (w : World) :
    Calls Try.prog 58 #[.int .u8 (c.toNat : Int)] w fun e w' => e = .returned (.bool (WM.dig c)) ∧ w = w' := by
  by_cases h1 : 48 ≤ (c.toNat : Int)
  · by_cases h2 : (c.toNat : Int) ≤ 57
    · rw [WM.dig_true.2 ⟨h1, h2⟩]
      go_enter Try.func58, Try.ntmps58
      go_wp2
      go_ret
      exact ⟨rfl, rfl⟩
    · rw [WM.dig_false.2 (by omega)]
      go_enter Try.func58, Try.ntmps58
      go_wp2
      go_ret
      exact ⟨rfl, rfl⟩
  · rw [WM.dig_false.2 (by omega)]
    go_enter Try.func58, Try.ntmps58
    go_wp2
    go_ret
    exact ⟨rfl, rfl⟩

theorem all_step {p : UInt8 → Bool} {s : ByteArray} {k : Nat} (h : k < s.size) (ha : ((L s).take k).all p = true) (hk : p s[k] = true) : ((L s).take (k + 1)).all p = true := by
  rw [L_take_succ s k h, WM.all_snoc, ha, hk]; rfl
theorem all_not {p : UInt8 → Bool} {s : ByteArray} {k : Nat} (h : k < s.size) (hk : p s[k] = false) : (L s).all p = false :=
  WM.not_all k (by rw [L_len]; exact h) (by rw [L_get s k h]; exact hk)

end Go.Proofs.Ytafdjiilmogcjaa

/- Contracts: names. -/
namespace Go.Proofs.Ytafdjiilmogcjaa
open Go.RowKit
set_option linter.unusedVariables false

def lord (c : UInt8) : Bool := WM.letter c || WM.dig c
theorem name_eq (l : List UInt8) : WM.name l = (l.all lord && WM.letter (l.headD 0) && decide (l.length ≤ 12)) := rfl

set_option maxHeartbeats 1000000 in
theorem name_any (s : ByteArray) (w : World) (hs : s.size ≤ 9223372036854775807) :
    Calls Try.prog 34 #[.string s] w fun e w' => e = .returned (.bool (WM.name (L s))) ∧ w = w' := by
  have HQ := name_eq (L s)
  generalize hv : WM.name (L s) = v at *
  clear hv
  rw [L_len] at HQ
  by_cases h0 : s.size = 0
  · rw [L_nil h0] at HQ
    have HN : Hid (v = false) := Lib.hid (by rw [HQ]; rfl)
    clear HQ
    have c0 : ((s.size : Int) == 0) = true := beq_t (by omega)
    go_enter Try.func34, Try.ntmps34
    go_wp2
    go_ret
    exact ⟨by rw [HN.out]; rfl, rfl⟩
  · have hp : 0 < s.size := by omega
    rw [L_head s hp] at HQ
    have c0 : ((s.size : Int) == 0) = false := beq_f (by omega)
    clear h0
    by_cases h1 : 12 < s.size
    · have HN : Hid (v = false) := Lib.hid (by
        rw [HQ, show decide (s.size ≤ 12) = false by simp; omega]; simp)
      clear HQ
      go_enter Try.func34, Try.ntmps34
      go_wp2
      go_ret
      exact ⟨by rw [HN.out]; rfl, rfl⟩
    · have e1 : decide (s.size ≤ 12) = true := by simp; omega
      rw [e1] at HQ
      clear e1
      cases hl : WM.letter s[0]
      · have HN : Hid (v = false) := Lib.hid (by rw [HQ, hl]; simp)
        clear HQ
        go_enter Try.func34, Try.ntmps34
        go_wp2_with (go_at_call 57; refine (isLetter_any _ _).mono ?_; rintro e w' ⟨rfl, rfl⟩)
        go_ret
        exact ⟨by rw [HN.out]; rfl, rfl⟩
      · have HN : Hid (v = (L s).all lord) := Lib.hid (by rw [HQ, hl]; simp)
        clear HQ
        go_enter Try.func34, Try.ntmps34
        go_wp2_with (go_at_call 57; refine (isLetter_any _ _).mono ?_; rintro e w' ⟨rfl, rfl⟩)
        go_loop [20] (fun i => ∃ k : Nat, k ≤ s.size ∧ i = .int .i64 k ∧ Hid (((L s).take k).all lord = true)) (fun i => s.size - (intOf i).toNat)
        case atStart => exact ⟨0, by omega, rfl, Lib.hid rfl⟩
        case round =>
          clear hl
          obtain ⟨k, hk, rfl, HA⟩ := hrel
          by_cases hlt : k < s.size
          · cases hl : WM.letter s[k]
            · cases hd : WM.dig s[k]
              · have HF := Lib.hid (all_not (p := lord) hlt (by unfold lord; rw [hl, hd]; rfl))
                go_wp2_with (first
                  | (go_at_call 57; refine (isLetter_any _ _).mono ?_; rintro e w' ⟨rfl, rfl⟩)
                  | (go_at_call 58; refine (isDigit_any _ _).mono ?_; rintro e w' ⟨rfl, rfl⟩))
                go_ret
                exact ⟨by rw [HN.out, HF.out]; rfl, rfl⟩
              · have HF := Lib.hid (all_step (p := lord) hlt HA.out (by unfold lord; rw [hl, hd]; rfl))
                go_wp2_with (first
                  | (go_at_call 57; refine (isLetter_any _ _).mono ?_; rintro e w' ⟨rfl, rfl⟩)
                  | (go_at_call 58; refine (isDigit_any _ _).mono ?_; rintro e w' ⟨rfl, rfl⟩))
                go_round
                case rel => exact ⟨k + 1, by omega, by go_num, HF⟩
                case measure => simp [intOf]; omega
            · have HF := Lib.hid (all_step (p := lord) hlt HA.out (by unfold lord; rw [hl]; rfl))
              go_wp2_with (first
                | (go_at_call 57; refine (isLetter_any _ _).mono ?_; rintro e w' ⟨rfl, rfl⟩)
                | (go_at_call 58; refine (isDigit_any _ _).mono ?_; rintro e w' ⟨rfl, rfl⟩))
              go_round
              case rel => exact ⟨k + 1, by omega, by go_num, HF⟩
              case measure => simp [intOf]; omega
          · obtain rfl : k = s.size := by omega
            have HE := HA.out
            rw [L_take_all] at HE
            have HE := Lib.hid HE
            go_wp2
            go_ret
            exact ⟨by rw [HN.out, HE.out]; rfl, rfl⟩

set_option maxHeartbeats 1000000 in
theorem rname_any (s : ByteArray) (w : World) (hs : s.size ≤ 9223372036854775807) :
    Calls Try.prog 78 #[.string s] w fun e w' => e = .returned (.bool (WM.name (L s))) ∧ w = w' := by
  have HQ := name_eq (L s)
  generalize hv : WM.name (L s) = v at *
  clear hv
  rw [L_len] at HQ
  have HQ' := Lib.hid HQ
  clear HQ
  have HQ := HQ'
  clear HQ'
  go_enter Try.func78, Try.ntmps78
  go_wp2
  go_loop [3] (fun i => ∃ k : Nat, k ≤ s.size ∧ i = .int .i64 k ∧ Hid (((L s).take k).all lord = true) ∧ Hid (∀ h : 0 < s.size, 0 < k → WM.letter s[0] = true)) (fun i => s.size - (intOf i).toNat)
  case atStart => exact ⟨0, by omega, rfl, Lib.hid rfl, Lib.hid (fun _ h => by omega)⟩
  case round =>
    obtain ⟨k, hk, rfl, HA, HB⟩ := hrel
    by_cases hlt : k < s.size
    · have hp : 0 < s.size := by omega
      have H0 := Lib.hid (L_head s hp)
      cases hl : WM.letter s[k]
      · by_cases hk0 : k = 0
        · subst hk0
          have HN : Hid (v = false) := Lib.hid (by rw [HQ.out, H0.out, hl]; simp)
          rcases WM.letter_false.1 hl with h | h
          · clear hl
            go_wp2
            go_ret
            exact ⟨by rw [HN.out]; rfl, rfl⟩
          · clear hl
            have h2 : 97 ≤ (s[0].toNat : Int) := by omega
            have h3 : decide ((s[0].toNat : Int) ≤ 122) = false := decide_eq_false (by omega)
            go_wp2
            go_ret
            exact ⟨by rw [HN.out]; rfl, rfl⟩
        · have ck : ((k : Int) == 0) = false := by simp; omega
          have HL := Lib.hid (HB.out hp (by omega))
          cases hd : WM.dig s[k]
          · have HF := all_not (p := lord) hlt (by unfold lord; rw [hl, hd]; rfl)
            have HN : Hid (v = false) := Lib.hid (by rw [HQ.out, HF]; simp)
            clear HF
            rcases WM.letter_false.1 hl with h | h
            · rcases WM.dig_false.1 hd with h' | h'
              · clear hl hd
                go_wp2
                go_ret
                exact ⟨by rw [HN.out]; rfl, rfl⟩
              · clear hl hd
                have h4 : decide ((s[k].toNat : Int) < 48) = false := decide_eq_false (by omega)
                go_wp2
                go_ret
                exact ⟨by rw [HN.out]; rfl, rfl⟩
            · have h' : 57 < (s[k].toNat : Int) := by omega
              have h2 : 97 ≤ (s[k].toNat : Int) := by omega
              have h3 : decide ((s[k].toNat : Int) ≤ 122) = false := decide_eq_false (by omega)
              have h4 : decide ((s[k].toNat : Int) < 48) = false := decide_eq_false (by omega)
              clear hl hd
              go_wp2
              go_ret
              exact ⟨by rw [HN.out]; rfl, rfl⟩
          · have HF := Lib.hid (all_step (p := lord) hlt HA.out (by unfold lord; rw [hl, hd]; rfl))
            obtain ⟨d1, d2⟩ := WM.dig_true.1 hd
            have d3 : (s[k].toNat : Int) < 97 := by omega
            clear hl hd
            go_wp2
            go_round
            case rel => exact ⟨k + 1, by omega, by go_num, HF, Lib.hid (fun _ _ => HL.out)⟩
            case measure => simp [intOf]; omega
      · have HF := Lib.hid (all_step (p := lord) hlt HA.out (by unfold lord; rw [hl]; rfl))
        obtain ⟨d1, d2⟩ := WM.letter_true.1 hl
        have HL : Hid (WM.letter s[0] = true) := Lib.hid (by
          by_cases hk0 : k = 0
          · subst hk0; exact hl
          · exact HB.out hp (by omega))
        clear hl
        go_wp2
        go_round
        case rel => exact ⟨k + 1, by omega, by go_num, HF, Lib.hid (fun _ _ => HL.out)⟩
        case measure => simp [intOf]; omega
    · obtain rfl : k = s.size := by omega
      have HE := HA.out
      rw [L_take_all] at HE
      have HE := Lib.hid HE
      by_cases h0 : s.size = 0
      · have HN : Hid (v = false) := Lib.hid (by rw [HQ.out, L_nil h0]; rfl)
        have c0 : decide (0 < s.size) = false := decide_eq_false (by omega)
        go_wp2
        go_ret
        exact ⟨by rw [HN.out]; rfl, rfl⟩
      · have hp : 0 < s.size := by omega
        have HN : Hid (v = decide (s.size ≤ 12)) := Lib.hid (by rw [HQ.out, HE.out, L_head s hp, HB.out hp hp]; simp)
        by_cases h1 : s.size ≤ 12
        · have HM : Hid (v = true) := Lib.hid (by rw [HN.out]; simpa using h1)
          go_wp2
          go_ret
          exact ⟨by rw [HM.out]; first | rfl | (simp_all; omega), rfl⟩
        · have HM : Hid (v = false) := Lib.hid (by rw [HN.out]; simpa using h1)
          have c1 : decide (s.size ≤ 12) = false := by simpa using h1
          go_wp2
          go_ret
          exact ⟨by rw [HM.out]; first | rfl | (simp_all; omega), rfl⟩
end Go.Proofs.Ytafdjiilmogcjaa

/- Contracts of layer 9: products compared, the bounds, Check. -/
namespace Go.Proofs.Ytafdjiilmogcjaa
open Go.RowKit Go.Recs
set_option linter.unusedVariables false
abbrev prodA (p : QM.Prod) : Value := .agg #[.string p.name, .int .i64 p.cur, .int .i64 p.mult, .int .i64 p.tick, .int .i64 p.low, .int .i64 p.high, .bool p.phys]
def peq (x y : QM.Prod) : Bool := (x.name.toList == y.name.toList) && ((x.cur == y.cur) && ((x.mult == y.mult) && ((x.tick == y.tick) && ((x.low == y.low) && ((x.high == y.high) && (x.phys == y.phys))))))
theorem peq_iff {x y : QM.Prod} : peq x y = true ↔ x = y := by
  constructor
  · intro h
    unfold peq at h
    simp only [Bool.and_eq_true, beq_iff_eq] at h
    obtain ⟨h1, h2, h3, h4, h5, h6, h7⟩ := h
    cases x; cases y
    simp only at h1 h2 h3 h4 h5 h6 h7
    rw [EM.toList_inj h1, h2, h3, h4, h5, h6, h7]
  · rintro rfl
    simp [peq]
theorem peq_false {x y : QM.Prod} : peq x y = false ↔ x ≠ y := by rw [Bool.eq_false_iff, ne_eq, peq_iff]
theorem prod_in (x y : QM.Prod) (w : World) : (Op.equalIn 10000 65 (prodA x) (prodA y)).run Try.prog w = .ok (peq x y) w := by
  have u3 := Try.underlying3
  have u4 := Try.underlying4
  have u9 := Try.underlying9
  have a3 := Try.isAgg3
  have a4 := Try.isAgg4
  have a9 := Try.isAgg9
  have z3 := Try.sizeOf3
  have z4 := Try.sizeOf4
  have z9 := Try.sizeOf9
  have hS : Try.prog.underlying 65 = some (.struct (Try.prog.fieldsOf 65)) := by kernel_rfl
  have hp : Try.prog.stoodInHeld 65 = false := by kernel_rfl
  rw [show (10000 : Nat) = 9999 + 1 from rfl, run_equalIn_agg w 9999 65 _ _ hS hp]
  simp only [Program.fieldsOf, Try.underlying65]
  unfold peq
  go_simp
  by_cases h1 : x.name.toList = y.name.toList <;> by_cases h2 : x.cur = y.cur <;> by_cases h3 : x.mult = y.mult <;> by_cases h4 : x.tick = y.tick <;> by_cases h5 : x.low = y.low <;> by_cases h6 : x.high = y.high <;> by_cases h7 : x.phys = y.phys <;> simp [h1, h2, h3, h4, h5, h6, h7]
theorem prod_guard : Try.prog.eqGuardType Try.prog.depth 65 = false := by kernel_rfl

theorem qwithin_any (n a b : Int) (w : World) :
    Calls Try.prog 69 #[.int .i64 n, .int .i64 a, .int .i64 b] w fun e w' => e = .returned (.bool (QM.within n a b)) ∧ w = w' := by
  by_cases h1 : a ≤ n
  · by_cases h2 : n ≤ b
    · have e : QM.within n a b = true := QM.within_true.2 ⟨h1, h2⟩
      rw [e]; clear e
      go_enter Try.func69, Try.ntmps69
      go_wp2
      go_ret
      exact ⟨rfl, rfl⟩
    · have e : QM.within n a b = false := QM.within_false.2 (.inr (by omega))
      rw [e]; clear e
      go_enter Try.func69, Try.ntmps69
      go_wp2
      go_ret
      exact ⟨rfl, rfl⟩
  · have e : QM.within n a b = false := QM.within_false.2 (.inl (by omega))
    rw [e]; clear e
    go_enter Try.func69, Try.ntmps69
    go_wp2
    go_ret
    exact ⟨rfl, rfl⟩
theorem rqwithin_any (n a b : Int) (w : World) :
    Calls Try.prog 73 #[.int .i64 n, .int .i64 a, .int .i64 b] w fun e w' => e = .returned (.bool (QM.within n a b)) ∧ w = w' := by
  by_cases h1 : a ≤ n
  · by_cases h2 : n ≤ b
    · have e : QM.within n a b = true := QM.within_true.2 ⟨h1, h2⟩
      rw [e]; clear e
      go_enter Try.func73, Try.ntmps73
      go_wp2
      go_ret
      exact ⟨rfl, rfl⟩
    · have e : QM.within n a b = false := QM.within_false.2 (.inr (by omega))
      rw [e]; clear e
      go_enter Try.func73, Try.ntmps73
      go_wp2
      go_ret
      exact ⟨rfl, rfl⟩
  · have e : QM.within n a b = false := QM.within_false.2 (.inl (by omega))
    rw [e]; clear e
    go_enter Try.func73, Try.ntmps73
    go_wp2
    go_ret
    exact ⟨rfl, rfl⟩
theorem qmul_any (n t : Int) (ht : t ≠ 0) (w : World) :
    Calls Try.prog 77 #[.int .i64 n, .int .i64 t] w fun e w' => e = .returned (.bool (n.tmod t == 0)) ∧ w = w' := by
  have h0 : ¬ t = 0 := ht
  go_enter Try.func77, Try.ntmps77
  go_wp2
  go_ret
  exact ⟨rfl, rfl⟩
end Go.Proofs.Ytafdjiilmogcjaa

/- Contracts of layer 9: Check, the program's and the reference's. -/
namespace Go.Proofs.Ytafdjiilmogcjaa
open Go.RowKit Go.Recs
set_option linter.unusedVariables false

theorem ck1 {p : QM.Prod} (h : WM.name (L p.name) = false) : QM.checkE p = 10 := by unfold QM.checkE; rw [if_pos (show QM.nameOk p = false from h)]
theorem ck2 {p : QM.Prod} (h : WM.name (L p.name) = true) (h2 : QM.within p.cur 0 7 = false) : QM.checkE p = 25 := by
  unfold QM.checkE; rw [if_neg (show ¬ QM.nameOk p = false by rw [show QM.nameOk p = true from h]; decide), if_pos h2]
theorem ck3 {p : QM.Prod} (h : WM.name (L p.name) = true) (h2 : QM.within p.cur 0 7 = true) (h3 : QM.within p.mult 1 4096 = false) : QM.checkE p = 2 := by
  unfold QM.checkE; rw [if_neg (show ¬ QM.nameOk p = false by rw [show QM.nameOk p = true from h]; decide), if_neg (by rw [h2]; decide), if_pos h3]
theorem ck4 {p : QM.Prod} (h : WM.name (L p.name) = true) (h2 : QM.within p.cur 0 7 = true) (h3 : QM.within p.mult 1 4096 = true) (h4 : QM.within p.tick 1 16777216 = false) : QM.checkE p = 16 := by
  unfold QM.checkE; rw [if_neg (show ¬ QM.nameOk p = false by rw [show QM.nameOk p = true from h]; decide), if_neg (by rw [h2]; decide), if_neg (by rw [h3]; decide), if_pos h4]
theorem ck5 {p : QM.Prod} (h : WM.name (L p.name) = true) (h2 : QM.within p.cur 0 7 = true) (h3 : QM.within p.mult 1 4096 = true) (h4 : QM.within p.tick 1 16777216 = true) :
    QM.checkE p = if QM.rangeOk p = false then 17 else 0 := by
  unfold QM.checkE; rw [if_neg (show ¬ QM.nameOk p = false by rw [show QM.nameOk p = true from h]; decide), if_neg (by rw [h2]; decide), if_neg (by rw [h3]; decide), if_neg (by rw [h4]; decide)]
theorem rg (p : QM.Prod) : QM.rangeOk p = (QM.within p.low (-16777216) 16777216 && QM.within p.high (-16777216) 16777216 && decide (p.low ≤ p.high) && (p.low.tmod p.tick == 0) && (p.high.tmod p.tick == 0)) := rfl

set_option maxHeartbeats 2000000 in
theorem qcheck_any (p : QM.Prod) (hq : prodQ p) (w : World) :
    Calls Try.prog 68 #[prodA p] w fun e w' => e = .returned (.int .i64 (QM.checkE p)) ∧ Below w.heap.size w w' := by
  obtain ⟨hn, _, _, _, _, _⟩ := hq
  have hn2 : p.name.size ≤ 9223372036854775807 := hn
  have C0 := Lib.hid (fun ww => name_any p.name ww hn2)
  have C1 := Lib.hid (fun ww => qwithin_any p.cur 0 7 ww)
  have C2 := Lib.hid (fun ww => qwithin_any p.mult 1 4096 ww)
  have C3 := Lib.hid (fun ww => qwithin_any p.tick 1 16777216 ww)
  have C4 := Lib.hid (fun ww => qwithin_any p.low (-16777216) 16777216 ww)
  have C5 := Lib.hid (fun ww => qwithin_any p.high (-16777216) 16777216 ww)
  have HT : Hid (QM.within p.tick 1 16777216 = true → p.tick ≠ 0) := Lib.hid (fun h => by have := QM.within_true.1 h; omega)
  have C6 := Lib.hid (fun (h : p.tick ≠ 0) ww => qmul_any p.low p.tick h ww)
  have C7 := Lib.hid (fun (h : p.tick ≠ 0) ww => qmul_any p.high p.tick h ww)
  have K1 := Lib.hid (@ck1 p); have K2 := Lib.hid (@ck2 p); have K3 := Lib.hid (@ck3 p); have K4 := Lib.hid (@ck4 p); have K5 := Lib.hid (@ck5 p)
  rw [rg] at K5
  have HB := Lib.hid (fun o => (Below.refl w.heap.size w).alloc (Nat.le_refl _) o)
  generalize QM.checkE p = x at *
  generalize WM.name (L p.name) = b0 at *
  generalize QM.within p.cur 0 7 = b1 at *
  generalize QM.within p.mult 1 4096 = b2 at *
  generalize QM.within p.tick 1 16777216 = b3 at *
  generalize QM.within p.low (-16777216) 16777216 = b4 at *
  generalize QM.within p.high (-16777216) 16777216 = b5 at *
  generalize (p.low.tmod p.tick == 0) = b6 at *
  generalize (p.high.tmod p.tick == 0) = b7 at *
  clear hn hn2
  go_enter Try.func68, Try.ntmps68
  go_wp2_with fail
  refine (C0.out _).mono ?_
  rintro e w1 ⟨rfl, rfl⟩
  cases b0
  · have HX := Lib.hid (K1.out (by trivial))
    go_wp2_with fail
    go_ret
    exact ⟨by rw [HX.out]; rfl, HB.out _⟩
  go_wp2_with fail
  refine (C1.out _).mono ?_
  rintro e w1 ⟨rfl, rfl⟩
  cases b1
  · have HX := Lib.hid (K2.out (by trivial) (by trivial))
    go_wp2_with fail
    go_ret
    exact ⟨by rw [HX.out]; rfl, HB.out _⟩
  go_wp2_with fail
  refine (C2.out _).mono ?_
  rintro e w1 ⟨rfl, rfl⟩
  cases b2
  · have HX := Lib.hid (K3.out (by trivial) (by trivial) (by trivial))
    go_wp2_with fail
    go_ret
    exact ⟨by rw [HX.out]; rfl, HB.out _⟩
  go_wp2_with fail
  refine (C3.out _).mono ?_
  rintro e w1 ⟨rfl, rfl⟩
  cases b3
  · have HX := Lib.hid (K4.out (by trivial) (by trivial) (by trivial) (by trivial))
    go_wp2_with fail
    go_ret
    exact ⟨by rw [HX.out]; rfl, HB.out _⟩
  have HX := Lib.hid (K5.out (by trivial) (by trivial) (by trivial) (by trivial))
  have HT2 := Lib.hid (HT.out (by trivial))
  clear K1 K2 K3 K4 K5 HT
  go_wp2_with fail
  refine (C4.out _).mono ?_
  rintro e w1 ⟨rfl, rfl⟩
  cases b4
  · go_wp2_with fail
    go_ret
    exact ⟨by rw [HX.out]; simp, HB.out _⟩
  go_wp2_with fail
  refine (C5.out _).mono ?_
  rintro e w1 ⟨rfl, rfl⟩
  cases b5
  · go_wp2_with fail
    go_ret
    exact ⟨by rw [HX.out]; simp, HB.out _⟩
  by_cases hlh : p.high < p.low
  · have hd : decide (p.low ≤ p.high) = false := by simp; omega
    rw [hd] at HX; clear hd
    go_wp2_with fail
    go_ret
    exact ⟨by rw [HX.out]; simp, HB.out _⟩
  have hd : decide (p.low ≤ p.high) = true := by simp; omega
  rw [hd] at HX; clear hd
  go_wp2_with fail
  refine (C6.out HT2.out _).mono ?_
  rintro e w1 ⟨rfl, rfl⟩
  cases b6
  · go_wp2_with fail
    go_ret
    exact ⟨by rw [HX.out]; simp, HB.out _⟩
  go_wp2_with fail
  refine (C7.out HT2.out _).mono ?_
  rintro e w1 ⟨rfl, rfl⟩
  cases b7
  · go_wp2_with fail
    go_ret
    exact ⟨by rw [HX.out]; simp, HB.out _⟩
  go_wp2_with fail
  go_ret
  exact ⟨by rw [HX.out]; simp, HB.out _⟩

set_option maxHeartbeats 2000000 in
theorem rqcheck_any (p : QM.Prod) (hq : prodQ p) (w : World) :
    Calls Try.prog 72 #[prodA p] w fun e w' => e = .returned (.int .i64 (QM.checkE p)) ∧ Below w.heap.size w w' := by
  obtain ⟨hn, _, _, _, _, _⟩ := hq
  have hn2 : p.name.size ≤ 9223372036854775807 := hn
  have C0 := Lib.hid (fun ww => rname_any p.name ww hn2)
  have C1 := Lib.hid (fun ww => rqwithin_any p.cur 0 7 ww)
  have C2 := Lib.hid (fun ww => rqwithin_any p.mult 1 4096 ww)
  have C3 := Lib.hid (fun ww => rqwithin_any p.tick 1 16777216 ww)
  have C4 := Lib.hid (fun ww => rqwithin_any p.low (-16777216) 16777216 ww)
  have C5 := Lib.hid (fun ww => rqwithin_any p.high (-16777216) 16777216 ww)
  have HT : Hid (QM.within p.tick 1 16777216 = true → p.tick ≠ 0) := Lib.hid (fun h => by have := QM.within_true.1 h; omega)
  have K1 := Lib.hid (@ck1 p); have K2 := Lib.hid (@ck2 p); have K3 := Lib.hid (@ck3 p); have K4 := Lib.hid (@ck4 p); have K5 := Lib.hid (@ck5 p)
  rw [rg] at K5
  have HB := Lib.hid (fun o => (Below.refl w.heap.size w).alloc (Nat.le_refl _) o)
  generalize QM.checkE p = x at *
  generalize WM.name (L p.name) = b0 at *
  generalize QM.within p.cur 0 7 = b1 at *
  generalize QM.within p.mult 1 4096 = b2 at *
  generalize QM.within p.tick 1 16777216 = b3 at *
  generalize QM.within p.low (-16777216) 16777216 = b4 at *
  generalize QM.within p.high (-16777216) 16777216 = b5 at *
  clear hn hn2
  go_enter Try.func72, Try.ntmps72
  go_wp2_with fail
  refine (C0.out _).mono ?_
  rintro e w1 ⟨rfl, rfl⟩
  cases b0
  · have HX := Lib.hid (K1.out (by trivial))
    go_wp2_with fail
    go_ret
    exact ⟨by rw [HX.out]; rfl, HB.out _⟩
  go_wp2_with fail
  refine (C1.out _).mono ?_
  rintro e w1 ⟨rfl, rfl⟩
  cases b1
  · have HX := Lib.hid (K2.out (by trivial) (by trivial))
    go_wp2_with fail
    go_ret
    exact ⟨by rw [HX.out]; rfl, HB.out _⟩
  go_wp2_with fail
  refine (C2.out _).mono ?_
  rintro e w1 ⟨rfl, rfl⟩
  cases b2
  · have HX := Lib.hid (K3.out (by trivial) (by trivial) (by trivial))
    go_wp2_with fail
    go_ret
    exact ⟨by rw [HX.out]; rfl, HB.out _⟩
  go_wp2_with fail
  refine (C3.out _).mono ?_
  rintro e w1 ⟨rfl, rfl⟩
  cases b3
  · have HX := Lib.hid (K4.out (by trivial) (by trivial) (by trivial) (by trivial))
    go_wp2_with fail
    go_ret
    exact ⟨by rw [HX.out]; rfl, HB.out _⟩
  have HX := Lib.hid (K5.out (by trivial) (by trivial) (by trivial) (by trivial))
  have HT2 : ¬ p.tick = 0 := HT.out (by trivial)
  clear K1 K2 K3 K4 K5 HT
  go_wp2_with fail
  refine (C4.out _).mono ?_
  rintro e w1 ⟨rfl, rfl⟩
  cases b4
  · go_wp2_with fail
    go_ret
    exact ⟨by rw [HX.out]; simp, HB.out _⟩
  go_wp2_with fail
  refine (C5.out _).mono ?_
  rintro e w1 ⟨rfl, rfl⟩
  cases b5
  · go_wp2_with fail
    go_ret
    exact ⟨by rw [HX.out]; simp, HB.out _⟩
  by_cases hlh : p.high < p.low
  · have hd : decide (p.low ≤ p.high) = false := by simp; omega
    rw [hd] at HX; clear hd
    go_wp2_with fail
    go_ret
    exact ⟨by rw [HX.out]; simp, HB.out _⟩
  have hd : decide (p.low ≤ p.high) = true := by simp; omega
  rw [hd] at HX; clear hd
  cases h6 : (p.low.tmod p.tick == 0)
  · rw [h6] at HX
    have h6' : ¬ p.low.tmod p.tick = 0 := by simpa using h6
    have h6b : (p.low.tmod p.tick != 0) = true := by rw [bne, h6]; rfl
    go_wp2_with fail
    go_ret
    exact ⟨by rw [HX.out]; simp, HB.out _⟩
  rw [h6] at HX
  have h6' : p.low.tmod p.tick = 0 := by simpa using h6
  have h6b : (p.low.tmod p.tick != 0) = false := by rw [bne, h6]; rfl
  cases h7 : (p.high.tmod p.tick == 0)
  · rw [h7] at HX
    have h7' : ¬ p.high.tmod p.tick = 0 := by simpa using h7
    have h7b : (p.high.tmod p.tick != 0) = true := by rw [bne, h7]; rfl
    go_wp2_with fail
    go_ret
    exact ⟨by rw [HX.out]; simp, HB.out _⟩
  rw [h7] at HX
  have h7' : p.high.tmod p.tick = 0 := by simpa using h7
  have h7b : (p.high.tmod p.tick != 0) = false := by rw [bne, h7]; rfl
  go_wp2_with fail
  go_ret
  exact ⟨by rw [HX.out]; simp, HB.out _⟩
end Go.Proofs.Ytafdjiilmogcjaa

/- Layer 9's mathematics: roundings and values, case by case. -/
namespace QM
open CM
theorem md_bad {a b c mode : Int} (h : within mode 1 5 = false) : mdE a b c mode = 2 ∧ mdN a b c mode = 0 := by
  have hA : mdA a b c mode = false := by
    rw [within_false] at h
    unfold mdA
    rcases h with h | h
    · simp [show ¬ 1 ≤ mode by omega]
    · simp [show ¬ mode ≤ 5 by omega]
  simp [mdE, mdN, hA]
theorem md_small {x t mode : Int} (x1 : -16777216 ≤ x) (x2 : x ≤ 16777216) (t1 : 1 ≤ t) (t2 : t ≤ 16777216) (h : within mode 1 5 = true) :
    mdE x 1 t mode = 0 ∧ -16777217 ≤ mdN x 1 t mode ∧ mdN x 1 t mode ≤ 16777217 := by
  obtain ⟨m1, m5⟩ := within_true.1 h
  have hA : mdA x 1 t mode = true := by
    have f1 : fits x = true := fits_of (by omega) (by omega)
    have f2 : fits 1 = true := by decide
    have f3 : fits t = true := fits_of (by omega) (by omega)
    simp [mdA, f1, f2, f3, m1, m5]
  have hq : (mdQ x 1 t : Int) ≤ 16777216 := by
    unfold mdQ
    have hs : size x ≤ 16777216 := by unfold size; split <;> omega
    have hs0 := size_nonneg x
    have : (size x).toNat * (size 1).toNat / (size t).toNat ≤ (size x).toNat * (size 1).toNat := Nat.div_le_self _ _
    have e1 : (size 1).toNat = 1 := by decide
    rw [e1, Nat.mul_one] at this ⊢
    omega
  have hg : 0 ≤ mdG x 1 t mode ∧ mdG x 1 t mode ≤ 16777217 := by
    unfold mdG
    split <;> omega
  have h0 : t ≠ 0 := by omega
  have hle : mdG x 1 t mode ≤ 1152921504606846976 := by omega
  have e : mdN x 1 t mode = if neg x 1 t = true then -mdG x 1 t mode else mdG x 1 t mode := by simp [mdN, hA, h0, hle]
  refine ⟨by simp [mdE, hA, h0, hle], ?_⟩
  rw [e]
  split <;> omega
theorem mul_small {n t : Int} (n1 : -16777217 ≤ n) (n2 : n ≤ 16777217) (t1 : 1 ≤ t) (t2 : t ≤ 16777216) : -281474993487872 ≤ n * t ∧ n * t ≤ 281474993487872 := by
  have a1 : n * t ≤ 16777217 * t := Int.mul_le_mul_of_nonneg_right n2 (by omega)
  have a2 : -16777217 * t ≤ n * t := Int.mul_le_mul_of_nonneg_right n1 (by omega)
  omega

section
variable {p : Prod} {x mode q : Int}
theorem pk_bad (h : checkE p ≠ 0) : priceE p x = checkE p := by unfold priceE; rw [if_pos h]
theorem pk_out (h : checkE p = 0) (h2 : within x p.low p.high = false) : priceE p x = 17 := by unfold priceE; rw [if_neg (by simp [h]), if_pos h2]
theorem pk_tick (h : checkE p = 0) (h2 : within x p.low p.high = true) (h3 : (x.tmod p.tick == 0) = false) : priceE p x = 16 := by
  unfold priceE; rw [if_neg (by simp [h]), if_neg (by simp [h2]), if_pos (by simpa using h3)]
theorem pk_ok (h : checkE p = 0) (h2 : within x p.low p.high = true) (h3 : (x.tmod p.tick == 0) = true) : priceE p x = 0 := by
  unfold priceE; rw [if_neg (by simp [h]), if_neg (by simp [h2]), if_neg (by simpa using h3)]
theorem tick_pos (h : checkE p = 0) : p.tick ≠ 0 := by have := (check_parts h).2.2.2.1; omega
theorem rd_bad (h : checkE p ≠ 0) : roundE p x mode = checkE p ∧ roundN p x mode = 0 := by
  have e : roundE p x mode = checkE p := by unfold roundE; rw [if_pos h]
  exact ⟨e, by unfold roundN; rw [e, if_neg h]⟩
theorem rd_out (h : checkE p = 0) (h2 : within x (-16777216) 16777216 = false) : roundE p x mode = 17 ∧ roundN p x mode = 0 := by
  have e : roundE p x mode = 17 := by unfold roundE; rw [if_neg (by simp [h]), if_pos h2]
  exact ⟨e, by unfold roundN; rw [e, if_neg (by decide)]⟩
theorem rd_mode (h : checkE p = 0) (h2 : within x (-16777216) 16777216 = true) (h3 : within mode 1 5 = false) : roundE p x mode = 2 ∧ roundN p x mode = 0 := by
  have e : roundE p x mode = 2 := by unfold roundE; rw [if_neg (by simp [h]), if_neg (by simp [h2]), if_pos h3]
  exact ⟨e, by unfold roundN; rw [e, if_neg (by decide)]⟩
theorem rd_ok (h : checkE p = 0) (h2 : within x (-16777216) 16777216 = true) (h3 : within mode 1 5 = true) :
    (roundE p x mode = 0 ∧ roundN p x mode = clamp (mdN x 1 p.tick mode * p.tick) p.low p.high) ∧ mdE x 1 p.tick mode = 0 ∧ -281474993487872 ≤ mdN x 1 p.tick mode * p.tick ∧ mdN x 1 p.tick mode * p.tick ≤ 281474993487872 := by
  have e : roundE p x mode = 0 := by unfold roundE; rw [if_neg (by simp [h]), if_neg (by simp [h2]), if_neg (by simp [h3])]
  have ht := (check_parts h).2.2.2.1
  have hx := within_true.1 h2
  obtain ⟨m0, m1, m2⟩ := md_small hx.1 hx.2 ht.1 ht.2 h3
  exact ⟨⟨e, by unfold roundN; rw [if_pos e]⟩, m0, mul_small m1 m2 ht.1 ht.2⟩
theorem vl_bad (h : checkE p ≠ 0) : valueE p x q = checkE p ∧ valueN p x q = 0 := by
  have e : valueE p x q = checkE p := by unfold valueE; rw [if_pos h]
  exact ⟨e, by unfold valueN; rw [e, if_neg h]⟩
theorem vl_out (h : checkE p = 0) (h2 : within x (-33554432) 33554432 = false) : valueE p x q = 17 ∧ valueN p x q = 0 := by
  have e : valueE p x q = 17 := by unfold valueE; rw [if_neg (by simp [h]), if_pos h2]
  exact ⟨e, by unfold valueN; rw [e, if_neg (by decide)]⟩
theorem vl_qty (h : checkE p = 0) (h2 : within x (-33554432) 33554432 = true) (h3 : within q (-1048576) 1048576 = false) : valueE p x q = 18 ∧ valueN p x q = 0 := by
  have e : valueE p x q = 18 := by unfold valueE; rw [if_neg (by simp [h]), if_neg (by simp [h2]), if_pos h3]
  exact ⟨e, by unfold valueN; rw [e, if_neg (by decide)]⟩
theorem vl_ok (h : checkE p = 0) (h2 : within x (-33554432) 33554432 = true) (h3 : within q (-1048576) 1048576 = true) : valueE p x q = 0 ∧ valueN p x q = x * p.mult * q := by
  have e : valueE p x q = 0 := by unfold valueE; rw [if_neg (by simp [h]), if_neg (by simp [h2]), if_neg (by simp [h3])]
  exact ⟨e, by unfold valueN; rw [if_pos e]⟩
end
end QM
