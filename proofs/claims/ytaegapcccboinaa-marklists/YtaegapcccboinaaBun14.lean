/- Put together: RecsCat, MrkM, MrkN, RecsCut, MrkO, MrkP, ProdD. -/
import Derived.Test.YtaegapcccboinaaBun1
import Derived.Test.YtaegapcccboinaaBun13
import Derived.Lib.AppendZerosOnto
import Derived.Lib.Walk
import Derived.Lib.SliceRun
import Derived.Test.YtaegapcccboinaaBun12
import Derived.Deep.RegionLawGrows
import Derived.Deep.RegionWith
import Derived.Test.YtaegapcccboinaaBun6
import Derived.Laws.ResultCell
import Derived.Laws.Rows
/- 's = append(s, l...)', l a slice of records. Over any program. -/
namespace Go.Recs
open Go.RowKit
set_option linter.unusedVariables false
set_option linter.unusedSimpArgs false

theorem run_catR {P : Program} (w : World) (B : Nat) (rows more : List (List Value)) (ts t ty : TypeId) (sz bytes : Nat) (z : Value)
    (hu : P.underlying ts = some (.slice t)) (hinfo : (P.info? t).map (fun i => (i.zero, i.size, i.bytes)) = some (some z, sz, bytes)) (hz : z.cells.size = sz) (h0 : 0 < sz)
    (v : Value) (hown : OwnR w B t sz v rows) (A : Option Addr) (c : Nat) (hm : Recs w A sz more) (h1 : ∀ r ∈ more, ∀ u ∈ r, u.oneCell' = true)
    (hl : (rows.length + more.length) * bytes ≤ 140737488355328) (hmx : rows.length + more.length ≤ maxLen) (hB : B ≤ w.heap.size) :
    ∃ v' w', (Builtin.append_ #[ts, ts] ty #[v, .slice A more.length c]).run P w = .ok v' w' ∧ OwnR w' B t sz v' (rows ++ more) ∧ w.grownBy w' v.ownBlock := by
  obtain ⟨i0, hi, hz0, hz1, hz2⟩ := info_parts hinfo
  have hrr : ∀ r ∈ rows ++ more, r.length = sz := by
    intro r hr
    rcases List.mem_append.1 hr with hr | hr
    · exact hown.1 r hr
    · exact hm.2.1 r hr
  have key : ∀ ad, A = some ad → ∃ v' w', (Builtin.append_ #[ts, ts] ty #[v, .slice A more.length c]).run P w = .ok v' w' ∧ OwnR w' B t sz v' (rows ++ more) ∧ w.grownBy w' v.ownBlock := by
    rintro ad rfl
    have hcells : ∀ j u, more.flatten[j]? = some u → w.cell? (ad.add j) = some u := by
      intro j u hj
      rcases hm.2.2 with e | ⟨b, off, e, hb, hcell⟩
      · subst e; simp at hj
      · injection e with e
        subst e
        have hlt : j < more.flatten.length := by
          rcases Nat.lt_or_ge j more.flatten.length with h | h
          · exact h
          · rw [List.getElem?_eq_none h] at hj; cases hj
        rw [flat_len hm.2.1] at hlt
        have hi' : j / sz < more.length := Nat.div_lt_of_lt_mul (by rw [Nat.mul_comm]; exact hlt)
        have hj' : j % sz < sz := Nat.mod_lt _ h0
        have ej : j / sz * sz + j % sz = j := by rw [Nat.mul_comm]; exact Nat.div_add_mod j sz
        have e := flat_at hm.2.1 (j / sz) (j % sz) hi' hj'
        have e2 := hcell (j / sz) (j % sz) hi' hj'
        rw [ej] at e e2
        rw [add_at, e2, ← e, hj]
    obtain ⟨v', w', hr, h2, h3, _, _⟩ := run_append_own_at (P := P) w B ts ty t i0 z sz bytes hu hi hz0 hz1 hz2 hz h0 v rows.length rows.flatten hown.2 ad more.length c more.flatten
      (flat_len hm.2.1) hcells (fun u hu => by obtain ⟨r, hr, hur⟩ := List.mem_flatten.1 hu; exact h1 r hr u hur) hmx hl hB
    refine ⟨v', w', hr, ⟨hrr, ?_⟩, h3⟩
    rw [List.length_append, List.flatten_append]
    exact h2
  cases A with
  | some ad => exact key ad rfl
  | none =>
    have : more = [] := by
      rcases hm.2.2 with h | ⟨b, off, e, _⟩
      · exact h
      · cases e
    subst this
    refine ⟨v, w, ?_, by simpa using hown, World.grownBy.refl w _⟩
    rcases hown.form with ⟨hv, _⟩ | ⟨g, cap, hv, _, _, hnc⟩ <;> rw [hv]
    · simp [Builtin.append_, run_underlying hu, sizeOf, typeInfo, hi, Builtin.lenOf, Builtin.firstCells]
    · simp [Builtin.append_, run_underlying hu, sizeOf, typeInfo, hi, Builtin.lenOf, Builtin.firstCells, storeCells]
      omega

theorem wpList_catR {P : Program} {ops : Array Oper} {rest : List Oper} {o : Oper} {a : Act} {Q : Exit → Act → World → Prop} (w : World) (B : Nat) (rows more : List (List Value)) (x y : Operand) (ts t : TypeId) (sz bytes : Nat) (z : Value)
    (hu : P.underlying ts = some (.slice t)) (hinfo : (P.info? t).map (fun i => (i.zero, i.size, i.bytes)) = some (some z, sz, bytes)) (hz : z.cells.size = sz) (h0 : 0 < sz)
    (hgd : o.guard = none) (ho : o.op = .call { callee := .builtin .append, args := #[x, y], argTypes := #[ts, ts] })
    (v : Value) (A : Option Addr) (n c : Nat) (hs : a.eval x = v) (hx : a.eval y = .slice A n c) (hn : n = more.length) (hown : OwnR w B t sz v rows) (hm : Recs w A sz more) (h1 : ∀ r ∈ more, ∀ u ∈ r, u.oneCell' = true)
    (hl : (rows.length + more.length) * bytes ≤ 140737488355328) (hmx : rows.length + more.length ≤ maxLen) (hB : B ≤ w.heap.size)
    (h : ∀ v' w', OwnR w' B t sz v' (rows ++ more) → Below B w w' → w.grownBy w' v.ownBlock → wpList P ops Q rest (a.put o.dst v') w') :
    wpList P ops Q (o :: rest) a w := by
  subst hn
  obtain ⟨v', w', hr, h2, h3⟩ := run_catR w B rows more ts t o.type sz bytes z hu hinfo hz h0 v hown A c hm h1 hl hmx hB
  refine wpList_plain hgd fun K hK => ?_
  unfold Oper.wp execOp
  simp only [ho, resolve, invoke, builtin, Sem.run_bind, Sem.run_pure, Result.andThen_ok, List.map_toArray, List.map_cons, List.map_nil, hs, hx, hr]
  exact hK _ _ (h v' w' h2 ((Below.refl B w).grown h3 hB (OwnR.block hown)) h3)
end Go.Recs

/- Contracts of layer 18: Grow at marks. -/
namespace Go.Proofs.Ytaegapcccboinaa
open Go.RowKit Go.Recs
set_option linter.unusedVariables false
set_option linter.unusedSimpArgs false
theorem info_mark : (Try.prog.info? 59).map (fun i => (i.zero, i.size, i.bytes)) = some (some (mkA MR.zero), 5, 48) := by kernel_rfl
theorem mzeros (n : Nat) (h0 : 0 < n) (hn : n ≤ 1000) (w : World) (ty : TypeId) :
    ∃ G w', (Builtin.append_ #[55, 3] ty #[.slice none 0 0, .int .i64 (n : Int)]).run Try.prog w = .ok (.slice (some ⟨w.heap.size, 0, none⟩) n G) w' ∧ n ≤ G ∧ G ≤ 9223372036854775807 ∧ OwnR w' w.heap.size 59 5 (.slice (some ⟨w.heap.size, 0, none⟩) 0 G) [] ∧ Below w.heap.size w w' := by
  obtain ⟨i0, hi, hz0, hz1, hz2⟩ := info_parts info_mark
  have h := Lib.run_append_nil_zeros (P := Try.prog) w 55 3 ty 59 i0 _ .i64 .i64 Try.underlying55 Try.underlying3 hi hz0 n h0 (by omega) (by omega) (by rw [hz2]; omega)
  have hg := grownCap_ge w n 0 59
  have hm := grownCap_le_maxLen w n 0 59 (by unfold maxLen; omega)
  refine ⟨_, _, h, hg, ?_, ⟨by simp, ?_⟩, below_al (Below.refl _ _).drew _⟩
  · unfold maxLen at hm; omega
  · refine World.ownsRow_made (base := w.heap.size) (e := 59) (size := 5) w.drew _ (grownCap w n 0 59) (Nat.le_refl _) hm ?_
    rw [Array.size_append, size_zeroCells, size_zeroCells]
    simp [Value.cells]
    omega
set_option maxHeartbeats 4000000 in
theorem mgrow_any (n : Nat) (h0 : 0 < n) (hn : n ≤ 1000) (w : World) :
    Calls Try.prog 103 #[.slice none 0 0, .int .i64 (n : Int)] w fun e w' => (∃ v, e = .returned v ∧ OwnR w' w.heap.size 59 5 v []) ∧ Below w.heap.size w w' := by
  have h1 : ¬ ((n : Int) < 0) := by omega
  have h4 : (0 : Int) < (n : Int) := by omega
  obtain ⟨G, w2, hr, g1, g2, HO, HB⟩ := mzeros n h0 hn w 55
  have HO := Lib.hid HO
  have HB := Lib.hid HB
  go_enter Try.func103, Try.ntmps103
  go_wp2_with (at_builtin; refine Lib.wpList_append_run _ rfl _ _ _ _ rfl _ _ rfl rfl _ _ hr ?_)
  go_ret
  exact ⟨⟨_, rfl, HO.out⟩, HB.out⟩
end Go.Proofs.Ytaegapcccboinaa

/- Contracts of layer 18: Concat at marks. -/
namespace MR
structure Part where
  A : Option Go.Addr
  l : List Mk
  cap : Nat
def nil : Part := ⟨none, [], 0⟩
def pAt (ps : List Part) (k : Nat) : Part := ps.getD k nil
def sumL (ps : List Part) : Nat := (ps.map fun p => p.l.length).sum
def catL (ps : List Part) : List Mk := ps.flatMap fun p => p.l
theorem pAt_get {ps : List Part} {k : Nat} (h : k < ps.length) : pAt ps k = ps[k] := by simp [pAt, List.getD, h]
theorem sum_succ {ps : List Part} {k : Nat} (h : k < ps.length) : sumL (ps.take (k + 1)) = sumL (ps.take k) + (pAt ps k).l.length := by
  unfold sumL; rw [List.take_succ_eq_append_getElem h, pAt_get h, List.map_append, List.sum_append]; rfl
theorem cat_succ {ps : List Part} {k : Nat} (h : k < ps.length) : catL (ps.take (k + 1)) = catL (ps.take k) ++ (pAt ps k).l := by
  unfold catL; rw [List.take_succ_eq_append_getElem h, pAt_get h, List.flatMap_append]; simp only [List.flatMap_cons, List.flatMap_nil, List.append_nil]
theorem cat_len (ps : List Part) : (catL ps).length = sumL ps := by unfold catL sumL; rw [List.length_flatMap]
theorem sum_le (ps : List Part) (k : Nat) : sumL (ps.take k) ≤ sumL ps := by
  conv => rhs; rw [← List.take_append_drop k ps]
  unfold sumL; rw [List.map_append, List.sum_append]; omega
end MR
namespace Go.Proofs.Ytaegapcccboinaa
open Go.RowKit Go.Recs
set_option linter.unusedVariables false
set_option linter.unusedSimpArgs false
theorem marks_one (l : List MR.Mk) : ∀ r ∈ l.map markV, ∀ u ∈ r, u.oneCell' = true := by
  intro r hr
  obtain ⟨x, _, rfl⟩ := List.mem_map.1 hr
  exact markV_one x
set_option maxHeartbeats 4000000 in
set_option maxRecDepth 100000 in
theorem mcat_any (g : Nat) (ps : List MR.Part) (n cap : Nat) (hn : n = ps.length) (w : World) (hg : g < w.heap.size) (hp : ps.length ≤ 10) (h0 : 0 < MR.sumL ps) (h1 : MR.sumL ps ≤ 1000)
    (hc : ∀ k, k < ps.length → w.cell? ⟨g, k, none⟩ = some (.slice (MR.pAt ps k).A (MR.pAt ps k).l.length (MR.pAt ps k).cap)) (hI : ∀ k, k < ps.length → Marks w (MR.pAt ps k).A (MR.pAt ps k).l) :
    Calls Try.prog 66 #[.slice (some ⟨g, 0, none⟩) n cap] w fun e w' => (∃ v, e = .returned v ∧ OwnR w' w.heap.size 59 5 v ((MR.catL ps).map markV)) ∧ Below w.heap.size w w' := by
  subst hn
  have HC := Lib.hid hc; have HI := Lib.hid hI; have HG := Lib.hid hg
  have KS := Lib.hid (fun k (hk : k < ps.length) => MR.sum_succ hk)
  have KC := Lib.hid (fun k (hk : k < ps.length) => MR.cat_succ hk)
  have KL := Lib.hid (fun k => MR.cat_len (ps.take k))
  have KB := Lib.hid (fun k => MR.sum_le ps k)
  have HE : Hid (MR.sumL (ps.take ps.length) = MR.sumL ps) := Lib.hid (by rw [List.take_length])
  have HF : Hid (MR.catL (ps.take ps.length) = MR.catL ps) := Lib.hid (by rw [List.take_length])
  have CG := Lib.hid (fun ww => mgrow_any (MR.sumL ps) h0 h1 ww)
  clear hc hI
  generalize MR.catL ps = al at *
  generalize MR.sumL ps = sl at *
  go_enter Try.func66, Try.ntmps66
  go_wp2_with fail
  go_loop [3, 5, 11] (fun a _ i => ∃ k : Nat, k ≤ ps.length ∧ i = .int .i64 (k : Int) ∧ a = .int .i64 (MR.sumL (ps.take k) : Int)) (fun _ _ i => ps.length - (intOf i).toNat)
  case atStart => exact ⟨0, by omega, rfl, rfl⟩
  case round =>
    obtain ⟨k, hk, rfl, rfl⟩ := hrel
    by_cases hlt : k < ps.length
    · have c0 := HC.out k hlt
      have hs := KS.out k hlt
      have hb := KB.out (k + 1)
      generalize MR.pAt ps k = p at *
      generalize MR.sumL (ps.take k) = x at *
      have hx : (x : Int) + (p.l.length : Int) = (MR.sumL (ps.take (k + 1)) : Int) := by rw [hs]; omega
      have hx1 : ¬ ((MR.sumL (ps.take (k + 1)) : Nat) : Int) < 0 := by omega
      have hx2 : ((MR.sumL (ps.take (k + 1)) : Nat) : Int) ≤ 1000 := by omega
      clear hs hb
      obtain ⟨y, hy⟩ : ∃ y : Int, y = (MR.sumL (ps.take (k + 1)) : Int) := ⟨_, rfl⟩
      rw [← hy] at hx hx1 hx2
      have HY := Lib.hid hy
      clear hy
      go_wp2_with fail
      go_round
      case rel => exact ⟨k + 1, by omega, by go_num, by rw [HY.out]⟩
      case measure => simp [intOf]; omega
    · obtain rfl : k = ps.length := by omega
      rw [HE.out]
      go_wp2_with fail
      refine (CG.out _).mono ?_
      rintro e w1 ⟨⟨v, rfl, hO⟩, hB⟩
      have HO := Lib.hid hO; have HB := Lib.hid hB
      clear hO hB
      go_wp2_with fail
      go_loopw [6, 8, 27] (fun v _ i wr => ∃ k : Nat, k ≤ ps.length ∧ i = .int .i64 (k : Int) ∧ Hid (OwnR wr w.heap.size 59 5 v ((MR.catL (ps.take k)).map markV)) ∧ Hid (Below w.heap.size w wr)) (fun _ _ i _ => ps.length - (intOf i).toNat)
      case atStart => exact ⟨0, by omega, rfl, HO, HB⟩
      case round =>
        clear HO HB
        obtain ⟨k, hk, rfl, HO, HB⟩ := hrel
        by_cases hlt : k < ps.length
        · have c0 := (HB.out.cell (p := ⟨g, k, none⟩) HG.out).trans (HC.out k hlt)
          have HR := Lib.hid ((HI.out k hlt).1.keep HB.out.size (fun b o hb => HB.out.cell (p := ⟨b, o, none⟩) hb))
          have HN := Lib.hid (KC.out k hlt)
          have HZ : Hid ((((MR.catL (ps.take k)).map markV).length + ((MR.pAt ps k).l.map markV).length) * 48 ≤ 140737488355328 ∧ ((MR.catL (ps.take k)).map markV).length + ((MR.pAt ps k).l.map markV).length ≤ maxLen) := Lib.hid (by
            have e1 := KL.out (k + 1)
            have e2 := KB.out (k + 1)
            rw [KC.out k hlt, List.length_append] at e1
            rw [List.length_map, List.length_map]
            simp only [maxLen]; omega)
          generalize MR.pAt ps k = p at *
          go_wp2_with (at_builtin; refine wpList_catR _ w.heap.size ((MR.catL (ps.take k)).map markV) (p.l.map markV) _ _ _ 59 5 48 _ Try.underlying55 info_mark rfl (by decide) rfl rfl _ _ _ _ rfl rfl ?c0 HO.out HR.out (marks_one p.l) HZ.out.1 HZ.out.2 HB.out.size ?_)
          case c0 => rw [List.length_map]
          rintro v3 w3 hO3 hb3 hg3
          have HO3 : Hid (OwnR w3 w.heap.size 59 5 v3 ((MR.catL (ps.take (k + 1))).map markV)) := Lib.hid (by rw [HN.out, List.map_append]; exact hO3)
          have HB3 := Lib.hid (HB.out.trans hb3)
          clear hO3 hb3 hg3 HO HB
          go_wp2_with fail
          go_roundw
          case rel => exact ⟨k + 1, by omega, by go_num, HO3, HB3⟩
          case measure => simp [intOf]; omega
        · obtain rfl : k = ps.length := by omega
          rw [HF.out] at HO
          go_wp2_with fail
          go_ret
          exact ⟨⟨_, rfl, HO.out⟩, HB.out⟩
end Go.Proofs.Ytaegapcccboinaa

/- Parts of slices of records, and appends in regions that draw, over any program. -/
namespace Go.Recs
open Go.RowKit
set_option linter.unusedVariables false
set_option linter.unusedSimpArgs false
/-- where a part of a slice lies -/
def cutR (A : Option Addr) (m lo sz : Nat) : Option Addr := if m = lo then A else A.map (·.add (lo * sz))
theorem Recs.cut {w : World} {A : Option Addr} {sz : Nat} {rows : List (List Value)} (h : Recs w A sz rows) {m lo hi : Nat} (h1 : lo ≤ hi) (h2 : hi ≤ rows.length) (h3 : hi ≤ m) : Recs w (cutR A m lo sz) sz ((rows.take hi).drop lo) := by
  by_cases hz : lo = hi
  · have : (rows.take hi).drop lo = [] := by rw [List.drop_eq_nil_iff, List.length_take]; omega
    rw [this]; exact Recs.nil _ _ _
  · unfold cutR
    rw [if_neg (by omega)]
    have hl : ((rows.take hi).drop lo).length = hi - lo := by rw [List.length_drop, List.length_take]; omega
    refine ⟨by rw [hl]; have := h.1; omega, fun r hr => h.2.1 r (List.mem_of_mem_take (List.mem_of_mem_drop hr)), ?_⟩
    rcases h.2.2 with h | ⟨b, off, rfl, hb, hc⟩
    · subst h; simp at h2; omega
    · refine .inr ⟨b, off + lo * sz, by simp [add_at], hb, fun i j hi' hj => ?_⟩
      rw [hl] at hi'
      have := hc (lo + i) j (by omega) hj
      rw [Nat.add_mul] at this
      rw [show off + lo * sz + (i * sz + j) = off + (lo * sz + i * sz + j) by omega, this]
      have e : ((rows.take hi).drop lo).getD i [] = rows.getD (lo + i) [] := by
        have h1 : lo + i < rows.length := by omega
        have h2 : lo + i < hi := by omega
        simp [List.getD, h1, h2, List.getElem?_take]
      rw [e]
theorem run_fromR {P : Program} {ts t : TypeId} {sz bytes : Nat} {z : Value} (hu : P.underlying ts = some (.slice t)) (hinfo : (P.info? t).map (fun i => (i.zero, i.size, i.bytes)) = some (some z, sz, bytes)) {A : Option Addr} {n cap lo : Nat} (h : lo ≤ n) (w : World) :
    (Instr.slice ts (.slice A n cap) (some (.int .i64 (lo : Int))) none none).run P w = .ok (.slice (cutR A cap lo sz) (n - lo) (cap - lo)) w := by
  obtain ⟨i0, hi, hz0, hz1, hz2⟩ := info_parts hinfo
  have h0 : (0 : Int) ≤ (lo : Int) ∧ (lo : Int) ≤ (n : Int) := by omega
  simp [Instr.slice, Instr.sliceBounds, Instr.sliceBound, asIntOf, run_underlying hu, sizeOf, typeInfo, hi, hz1, h0, cutR]
  intro hc; omega
theorem run_full {P : Program} {ts t : TypeId} {sz bytes : Nat} {z : Value} (hu : P.underlying ts = some (.slice t)) (hinfo : (P.info? t).map (fun i => (i.zero, i.size, i.bytes)) = some (some z, sz, bytes)) {A : Option Addr} {n cap k : Nat} (h : k ≤ cap) (w : World) :
    (Instr.slice ts (.slice A n cap) none (some (.int .i64 (k : Int))) (some (.int .i64 (k : Int)))).run P w = .ok (.slice (cutR A k 0 sz) k k) w := by
  obtain ⟨i0, hi, hz0, hz1, hz2⟩ := info_parts hinfo
  have h0 : (0 : Int) ≤ (k : Int) ∧ (k : Int) ≤ (cap : Int) := by omega
  have h1 : (0 : Int) ≤ (k : Int) ∧ (k : Int) ≤ (k : Int) := by omega
  simp [Instr.slice, Instr.sliceBounds, Instr.sliceBound, asIntOf, run_underlying hu, sizeOf, typeInfo, hi, hz1, h0, h1, cutR]
  all_goals (try (intro hc; omega))
theorem run_toR {P : Program} {ts t : TypeId} {sz bytes : Nat} {z : Value} (hu : P.underlying ts = some (.slice t)) (hinfo : (P.info? t).map (fun i => (i.zero, i.size, i.bytes)) = some (some z, sz, bytes)) {A : Option Addr} {n cap k : Nat} (h : k ≤ cap) (w : World) :
    (Instr.slice ts (.slice A n cap) none (some (.int .i64 (k : Int))) none).run P w = .ok (.slice (cutR A cap 0 sz) k cap) w := by
  obtain ⟨i0, hi, hz0, hz1, hz2⟩ := info_parts hinfo
  have h0 : (0 : Int) ≤ (k : Int) ∧ (k : Int) ≤ (cap : Int) := by omega
  simp [Instr.slice, Instr.sliceBounds, Instr.sliceBound, asIntOf, run_underlying hu, sizeOf, typeInfo, hi, hz1, h0, cutR]
  all_goals (try (intro hc; omega))

theorem step_growR {P : Program} {ops : Array Oper} {o : Oper} {a : Act} {K : Act → World → Prop} {Q : Exit → Act → World → Prop} {E : Prop} (w : World) (x : List Value) (hx1 : ∀ u ∈ x, u.oneCell' = true) (rows : List (List Value)) (s y : Operand) (ts t : TypeId) (sz bytes : Nat) (z : Value)
    (hu : P.underlying ts = some (.slice t)) (hinfo : (P.info? t).map (fun i => (i.zero, i.size, i.bytes)) = some (some z, sz, bytes)) (hz : z.cells.size = sz) (h0 : 0 < sz) (hxl : x.length = sz)
    (hgd : o.guard = none) (ho : o.op = .call { callee := .builtin .append, args := #[s, y], argTypes := #[ts, ts] })
    (A : Option Addr) (n cap : Nat) (hs : a.eval s = .slice A n cap) (hx : a.eval y = .slice (some ⟨w.heap.size, 0, none⟩) 1 1) (hn : n = rows.length) (hcap : cap = n) (hA : Recs w A sz rows) (hl : (rows.length + 1) * bytes ≤ 140737488355328) (hm : rows.length + 1 ≤ maxLen)
    (h : ∀ v' w', OwnR w' w.heap.size t sz v' (rows ++ [x]) → Below w.heap.size w w' → K (a.put o.dst v') w') :
    if Region.wanted o (yielded ops a.tmps) = true then Oper.wp P o a (w.alloc (.cells x.toArray t)) K Q else E := by
  subst hn hcap
  obtain ⟨i0, hi, hz0, hz1, hz2⟩ := info_parts hinfo
  have hb0 : Below w.heap.size w (w.alloc (.cells x.toArray t)) := (Below.refl _ _).alloc (Nat.le_refl _) _
  have hA2 := hA.below hb0
  refine step_append_grows hgd s y ts ho t i0 z sz bytes hu hi hz0 hz1 hz2 hz h0 A rows.length rows.length rows.flatten hs ?_ (flat_len hA.2.1) ?_ ⟨w.heap.size, 0, none⟩ 1 1 x hx (by omega) ?_ hx1 (by omega) hm hl ?_
  · intro e
    rcases hA.2.2 with g | ⟨b, off, g, _⟩
    · rw [g]; simp
    · rw [e] at g; cases g
  · rintro b rfl j u hj
    rcases hA2.2.2 with e | ⟨b', off', e, hb, hcell⟩
    · subst e; simp at hj
    · injection e with e
      subst e
      have hlt : j < rows.flatten.length := by
        rcases Nat.lt_or_ge j rows.flatten.length with h | h
        · exact h
        · rw [List.getElem?_eq_none h] at hj; cases hj
      rw [flat_len hA.2.1] at hlt
      have hi' : j / sz < rows.length := Nat.div_lt_of_lt_mul (by rw [Nat.mul_comm]; exact hlt)
      have hj' : j % sz < sz := Nat.mod_lt _ h0
      have ej : j / sz * sz + j % sz = j := by rw [Nat.mul_comm]; exact Nat.div_add_mod j sz
      have e := flat_at hA.2.1 (j / sz) (j % sz) hi' hj'
      have e2 := hcell (j / sz) (j % sz) hi' hj'
      rw [ej] at e e2
      rw [add_at, e2, ← e, hj]
  · intro j u hj
    rw [add_at, Nat.zero_add]
    have hlt : j < x.length := by
      rcases Nat.lt_or_ge j x.length with g | g
      · exact g
      · rw [List.getElem?_eq_none g] at hj; cases hj
    have e : x.toArray[j]? = some u := by simpa using hj
    simp [e]
  · intro v' w' h1 h2
    have hr : ∀ r ∈ rows ++ [x], r.length = sz := by
      intro r hr
      rcases List.mem_append.1 hr with hr | hr
      · exact hA.2.1 r hr
      · rw [List.mem_singleton.1 hr]; exact hxl
    have ho : OwnR w' (w.heap.size + 1) t sz v' (rows ++ [x]) := ⟨hr, by simpa using h1⟩
    refine h v' w' (ho.lower (by omega)) (hb0.trans ((Below.refl _ _).grown h2 (by simp) (fun k hk => by cases hk)))

theorem step_catR {P : Program} {ops : Array Oper} {o : Oper} {a : Act} {K : Act → World → Prop} {Q : Exit → Act → World → Prop} {E : Prop} (w : World) (B : Nat) (rows more : List (List Value)) (x y : Operand) (ts t : TypeId) (sz bytes : Nat) (z : Value)
    (hu : P.underlying ts = some (.slice t)) (hinfo : (P.info? t).map (fun i => (i.zero, i.size, i.bytes)) = some (some z, sz, bytes)) (hz : z.cells.size = sz) (h0 : 0 < sz)
    (hgd : o.guard = none) (ho : o.op = .call { callee := .builtin .append, args := #[x, y], argTypes := #[ts, ts] })
    (v : Value) (A : Option Addr) (n c : Nat) (hs : a.eval x = v) (hx : a.eval y = .slice A n c) (hn : n = more.length) (hown : OwnR w B t sz v rows) (hm : Recs w A sz more) (h1 : ∀ r ∈ more, ∀ u ∈ r, u.oneCell' = true)
    (hl : (rows.length + more.length) * bytes ≤ 140737488355328) (hmx : rows.length + more.length ≤ maxLen) (hB : B ≤ w.heap.size)
    (h : ∀ v' w', OwnR w' B t sz v' (rows ++ more) → Below B w w' → K (a.put o.dst v') w') :
    if Region.wanted o (yielded ops a.tmps) = true then Oper.wp P o a w K Q else E := by
  subst hn
  have hw : Region.wanted o (yielded ops a.tmps) = true := by simp [Region.wanted, hgd]
  rw [if_pos hw]
  obtain ⟨v', w', hr, h2, h3⟩ := run_catR w B rows more ts t o.type sz bytes z hu hinfo hz h0 v hown A c hm h1 hl hmx hB
  unfold Oper.wp
  simp [execOp, ho, resolve, invoke, builtin, hs, hx, hr, Result.andThen]
  exact h v' w' h2 ((Below.refl B w).grown h3 hB (OwnR.block hown))

/-- the records are not in block g -/
def Apart {α : Type} (g : Nat) (A : Option Addr) (l : List α) : Prop := l = [] ∨ ∃ b off, A = some ⟨b, off, none⟩ ∧ b ≠ g
theorem TR.apart {α : Type} {f : α → List Value} {Q : α → Prop} {sz : Nat} {w : World} {A : Option Addr} {l : List α} (h : TR f Q sz w A l) {g : Nat} (hg : w.heap.size ≤ g) : Apart g A l := by
  rcases h.1.2.2 with e | ⟨b, off, rfl, hb, _⟩
  · exact .inl (by simpa using e)
  · exact .inr ⟨b, off, rfl, by omega⟩
theorem TR.set_ {α : Type} {f : α → List Value} {Q : α → Prop} {sz : Nat} {w : World} {A : Option Addr} {l : List α} (h : TR f Q sz w A l) {g i : Nat} (ha : Apart g A l) (u : Value) : TR f Q sz (w.setCell ⟨g, i, none⟩ u) A l := by
  rcases ha with rfl | ⟨b, off, rfl, hb⟩
  · exact TR.nil _ _
  · obtain ⟨⟨h1, h2, h3⟩, h4⟩ := h
    refine ⟨⟨h1, h2, ?_⟩, h4⟩
    rcases h3 with e | ⟨b', off', e, hb', hc⟩
    · exact .inl e
    · injection e with e
      injection e with e1 e2
      subst e1 e2
      refine .inr ⟨b, off, rfl, by simpa using hb', fun i' j hi hj => ?_⟩
      rw [← hc i' j hi hj]
      unfold World.cell?
      rw [Below.heap_setCell w ⟨g, i, none⟩ u b hb]

/-- a slice of members that the call itself made: its accounts lie elsewhere -/
def OwnM (t : TypeId) (w : World) (B : Nat) (v : Value) (rows : List MRow) : Prop := OwnR w B t 3 v (rows.map mrowV) ∧ ∀ r ∈ rows, mrowQ w r ∧ ∀ g, v.ownBlock = some g → Apart g r.A r.m.accs
section
variable {t : TypeId} {w w' : World} {B : Nat} {v : Value} {rows : List MRow}
theorem OwnM.below (h : OwnM t w B v rows) (hb : Below w.heap.size w w') : OwnM t w' B v rows := ⟨h.1.below hb, fun r hr => ⟨(h.2 r hr).1.below hb, (h.2 r hr).2⟩⟩
theorem OwnM.mems (h : OwnM t w B v rows) : ∃ A cap, v = .slice A (rows.map MRow.m).length cap ∧ Mems w A (rows.map MRow.m) ∧ (rows.map MRow.m).length ≤ cap := by
  obtain ⟨A, cap, rfl, hr, hc⟩ := h.1.recs
  refine ⟨A, cap, by simp, ⟨rows, rfl, hr, fun r hr => (h.2 r hr).1⟩, by simpa using hc⟩
theorem getD_rows {k : Nat} (hk : k < rows.length) : (rows.map mrowV).getD k [] = mrowV rows[k] := by simp [List.getD, hk]
/-- member k gets other accounts -/
theorem OwnM.setA {g n c : Nat} (h : OwnM t w B (.slice (some ⟨g, 0, none⟩) n c) rows) {k : Nat} (hk : k < rows.length) {A' : Option Addr} {al : List MM.Ac} {cap' : Nat} (hA : Accs w A' al) (hc : al.length ≤ cap') (ha : Apart g A' al) :
    OwnM t (w.setCell ⟨g, k * 3 + 2, none⟩ (.slice A' al.length cap')) B (.slice (some ⟨g, 0, none⟩) n c) (rows.set k ⟨{ rows[k].m with accs := al }, A', cap'⟩) := by
  refine ⟨?_, ?_⟩
  · have := h.1.set_ (by omega) (i := k) (j := 2) (by simpa using hk) (by omega) (.slice A' al.length cap')
    rw [getD_rows hk] at this
    rw [List.map_set]
    exact this
  · intro r hr
    rcases List.mem_or_eq_of_mem_set hr with hr | rfl
    · obtain ⟨⟨q1, q2, q3, q4⟩, q5⟩ := h.2 r hr
      exact ⟨⟨q1, q2, q3.set_ (q5 g rfl) _, q4⟩, q5⟩
    · obtain ⟨⟨q1, q2, q3, q4⟩, q5⟩ := h.2 rows[k] (List.getElem_mem hk)
      refine ⟨⟨q1, q2, hA.set_ ha _, hc⟩, fun g' hg' => ?_⟩
      have : g' = g := by simpa [Value.ownBlock] using hg'.symm
      subst this; exact ha
/-- member k gets another status -/
theorem OwnM.setS {g n c : Nat} (h : OwnM t w B (.slice (some ⟨g, 0, none⟩) n c) rows) {k : Nat} (hk : k < rows.length) {s : Int} (hs : i64 s) :
    OwnM t (w.setCell ⟨g, k * 3 + 1, none⟩ (.int .i64 s)) B (.slice (some ⟨g, 0, none⟩) n c) (rows.set k ⟨{ rows[k].m with status := s }, rows[k].A, rows[k].cap⟩) := by
  refine ⟨?_, ?_⟩
  · have := h.1.set_ (by omega) (i := k) (j := 1) (by simpa using hk) (by omega) (.int .i64 s)
    rw [getD_rows hk] at this
    rw [List.map_set]
    exact this
  · intro r hr
    rcases List.mem_or_eq_of_mem_set hr with hr | rfl
    · obtain ⟨⟨q1, q2, q3, q4⟩, q5⟩ := h.2 r hr
      exact ⟨⟨q1, q2, q3.set_ (q5 g rfl) _, q4⟩, q5⟩
    · obtain ⟨⟨q1, q2, q3, q4⟩, q5⟩ := h.2 rows[k] (List.getElem_mem hk)
      exact ⟨⟨q1, hs, q3.set_ (q5 g rfl) _, q4⟩, q5⟩
end
theorem mrowV_one (rows : List MRow) : ∀ r ∈ rows.map mrowV, ∀ u ∈ r, u.oneCell' = true := by
  intro r hr u hu
  obtain ⟨p, _, rfl⟩ := List.mem_map.1 hr
  simp only [mrowV, List.mem_cons, List.not_mem_nil, or_false] at hu
  rcases hu with rfl | rfl | rfl <;> rfl
theorem accV_one (l : List MM.Ac) : ∀ r ∈ l.map accV, ∀ u ∈ r, u.oneCell' = true := by
  intro r hr u hu
  obtain ⟨p, _, rfl⟩ := List.mem_map.1 hr
  simp only [accV, List.mem_cons, List.not_mem_nil, or_false] at hu
  rcases hu with rfl | rfl <;> rfl
end Go.Recs

/- Contracts of layer 18: Put. -/
namespace MR
def putE (l : List Mk) (m : Mk) : Int := if checkE l ≠ 0 then checkE l else if MK.isP m.price = false then 17 else if 128 < (putM l m).length then 8 else 0
def putL (l : List Mk) (m : Mk) : List Mk := if putE l m = 0 then putM l m else []
theorem put_bad {l : List Mk} {m : Mk} (h : checkE l ≠ 0) : putE l m = checkE l ∧ putL l m = [] := by
  have e : putE l m = checkE l := by unfold putE; rw [if_pos h]
  exact ⟨e, by unfold putL; rw [if_neg (by rw [e]; exact h)]⟩
theorem put_price {l : List Mk} {m : Mk} (h : checkE l = 0) (hp : MK.isP m.price = false) : putE l m = 17 ∧ putL l m = [] := by
  have e : putE l m = 17 := by unfold putE; rw [if_neg (by simp [h]), if_pos hp]
  exact ⟨e, by unfold putL; rw [if_neg (by rw [e]; decide)]⟩
theorem put_long {l : List Mk} {m : Mk} (h : checkE l = 0) (hp : MK.isP m.price = true) (hl : 128 < (putM l m).length) : putE l m = 8 ∧ putL l m = [] := by
  have e : putE l m = 8 := by unfold putE; rw [if_neg (by simp [h]), if_neg (by simp [hp]), if_pos hl]
  exact ⟨e, by unfold putL; rw [if_neg (by rw [e]; decide)]⟩
theorem put_ok {l : List Mk} {m : Mk} (h : checkE l = 0) (hp : MK.isP m.price = true) (hl : ¬ 128 < (putM l m).length) : putE l m = 0 ∧ putL l m = putM l m := by
  have e : putE l m = 0 := by unfold putE; rw [if_neg (by simp [h]), if_neg (by simp [hp]), if_neg hl]
  exact ⟨e, by unfold putL; rw [if_pos e]⟩
end MR
namespace Go.Proofs.Ytaegapcccboinaa
open Go.RowKit Go.Recs
set_option linter.unusedVariables false
set_option linter.unusedSimpArgs false
theorem marks_cut {w : World} {A : Option Addr} {l : List MR.Mk} (h : Marks w A l) {m lo hi : Nat} (h1 : lo ≤ hi) (h2 : hi ≤ l.length) (h3 : hi ≤ m) : Marks w (cutR A m lo 5) ((l.take hi).drop lo) := by
  refine ⟨?_, fun a ha => h.2 a (List.mem_of_mem_take (List.mem_of_mem_drop ha))⟩
  rw [List.map_drop, List.map_take]
  exact h.1.cut h1 (by rw [List.length_map]; exact h2) h3
theorem lit_mark (W : World) (x : MR.Mk) (hq : markQ x) : Marks (W.alloc (.cells (mkC x) 59)) (some ⟨W.heap.size, 0, none⟩) [x] := by
  obtain ⟨A', cap, e, hr, _⟩ := OwnR.recs (OwnR.lit W W.heap.size 59 5 [markV x] (by simp [markV]) (Nat.le_refl _) (by simp [maxLen]))
  injection e with e1
  subst e1
  exact ⟨hr, by simpa using hq⟩
theorem mcat3_any (A1 A2 A3 : Option Addr) (l1 l2 l3 : List MR.Mk) (n1 n2 n3 c1 c2 c3 : Nat) (hn1 : n1 = l1.length) (hn2 : n2 = l2.length) (hn3 : n3 = l3.length) (W : World) (h1 : Marks W A1 l1) (h2 : Marks W A2 l2) (h3 : Marks W A3 l3)
    (h0 : 0 < l1.length + (l2.length + l3.length)) (hl : l1.length + (l2.length + l3.length) ≤ 1000) :
    Calls Try.prog 66 #[.slice (some ⟨W.heap.size, 0, none⟩) 3 3] (W.alloc (.cells #[.slice A1 n1 c1, .slice A2 n2 c2, .slice A3 n3 c3] 55)) fun e w' =>
      (∃ v, e = .returned v ∧ OwnR w' (W.heap.size + 1) 59 5 v ((l1 ++ (l2 ++ l3)).map markV)) ∧ Below W.heap.size W w' := by
  subst hn1 hn2 hn3
  have hB : Below W.heap.size W (W.alloc (.cells #[.slice A1 l1.length c1, .slice A2 l2.length c2, .slice A3 l3.length c3] 55)) := below_al (Below.refl _ _) _
  have hC := CB.new W 55 #[.slice A1 l1.length c1, .slice A2 l2.length c2, .slice A3 l3.length c3]
  have hS : MR.sumL [⟨A1, l1, c1⟩, ⟨A2, l2, c2⟩, ⟨A3, l3, c3⟩] = l1.length + (l2.length + l3.length) := by simp [MR.sumL]
  have hT : MR.catL [⟨A1, l1, c1⟩, ⟨A2, l2, c2⟩, ⟨A3, l3, c3⟩] = l1 ++ (l2 ++ l3) := by simp [MR.catL]
  refine (mcat_any W.heap.size [⟨A1, l1, c1⟩, ⟨A2, l2, c2⟩, ⟨A3, l3, c3⟩] 3 3 rfl _ hC.lt (by simp) (by rw [hS]; exact h0) (by rw [hS]; exact hl) ?_ ?_).mono ?_
  · intro k hk
    have : k = 0 ∨ k = 1 ∨ k = 2 := by simp at hk; omega
    rcases this with rfl | rfl | rfl
    · exact hC.cell 0
    · exact hC.cell 1
    · exact hC.cell 2
  · intro k hk
    have : k = 0 ∨ k = 1 ∨ k = 2 := by simp at hk; omega
    rcases this with rfl | rfl | rfl
    · exact h1.below hB
    · exact h2.below hB
    · exact h3.below hB
  · rintro e w' ⟨⟨v, rfl, hO⟩, hb⟩
    rw [hT] at hO
    refine ⟨⟨v, rfl, ?_⟩, hB.trans (hb.mono (by simp))⟩
    simpa using hO
end Go.Proofs.Ytaegapcccboinaa

/- Contracts of layer 18: Put. -/
namespace Go.Proofs.Ytaegapcccboinaa
open Go.RowKit Go.Recs
set_option linter.unusedVariables false
set_option linter.unusedSimpArgs false
set_option maxHeartbeats 8000000 in
set_option maxRecDepth 100000 in
theorem mput_any (A : Option Addr) (l : List MR.Mk) (n cap : Nat) (hn : n = l.length) (hcap : l.length ≤ cap) (x : MR.Mk) (w : World) (hI : Marks w A l) (hq : markQ x) :
    Calls Try.prog 28 #[.slice A n cap, mkA x] w fun e w' => (∃ v, e = .returned (.tuple #[v, .int .i64 (MR.putE l x)]) ∧ OwnR w' w.heap.size 59 5 v ((MR.putL l x).map markV)) ∧ Below w.heap.size w w' := by
  subst hn
  have hlen := hI.len
  have HB0 := Lib.hid ((Below.refl w.heap.size w).alloc (Nat.le_refl _) (.cells (mkC x) 59))
  have HX := Lib.hid (CB.new w 59 (mkC x))
  have HI := Lib.hid (hI.below HB0.out)
  have C1 := Lib.hid (fun ww h => mcheckall_any A l l.length cap rfl ww h)
  have C2 := Lib.hid (fun ww => isprice18_any x.price ww)
  by_cases h1 : MR.checkE l = 0
  · by_cases h2 : MK.isP x.price = true
    · rw [h1] at C1
      rw [h2] at C2
      obtain ⟨g1, g2, g3⟩ := MR.check_good h1
      have C3 := Lib.hid (fun ww h => mbs_any A l l.length cap rfl x.ser ww h g2 g1)
      have KP := Lib.hid (fun (i : Nat) (h : MR.Edge l x.ser i) => MR.edge_put g2 h)
      have KO := Lib.hid (@MR.put_ok l x h1 h2); have KL := Lib.hid (@MR.put_long l x h1 h2)
      generalize MR.putE l x = pe at *
      generalize MR.putL l x = pl at *
      generalize MR.putM l x = pm at *
      clear hI h1 h2 g2 g3
      have hx0 := HX.out.lt
      go_enter Try.func28, Try.ntmps28
      go_wp2_with fail
      generalize w.alloc (.cells #[.string x.ser.prod, .int .i64 x.ser.kind, .int .i64 x.ser.expiry, .int .i64 x.ser.strike, .int .i64 x.price] 59) = w0 at *
      refine (C1.out _ HI.out).mono ?_
      rintro e w1 ⟨rfl, b1⟩
      have HB1 := Lib.hid (HB0.out.trans (b1.mono HB0.out.size))
      have HX1 := Lib.hid (HX.out.below b1 hx0)
      have HI1 := Lib.hid (HI.out.below b1)
      have hx1 := HX1.out.lt
      clear b1 HX HI hx0 C1
      have c0 := HX1.out.cell 0; have c1 := HX1.out.cell 1; have c2 := HX1.out.cell 2; have c3 := HX1.out.cell 3; have c4 := HX1.out.cell 4
      simp only [List.getElem?_toArray, List.getElem?_cons_zero, List.getElem?_cons_succ] at c0 c1 c2 c3 c4
      go_wp2_with fail
      refine (C2.out _).mono ?_
      rintro e w2 ⟨rfl, rfl⟩
      go_wp2_with fail
      refine (C3.out _ HI1.out).mono ?_
      rintro e w3 ⟨⟨i, hE, rfl⟩, b3⟩
      have HB2 := Lib.hid (HB1.out.trans (b3.mono HB1.out.size))
      have HX2 := Lib.hid (HX1.out.below b3 hx1)
      have HI2 := Lib.hid (HI1.out.below b3)
      have hil : i ≤ l.length := hE.out.1
      have HPM := Lib.hid (KP.out i hE.out)
      clear b3 HX1 HI1 HB1 c0 c1 c2 c3 c4 C3 C2 hx1 KP
      have HP : Hid (decide (i < l.length ∧ EM.cmp (MR.mAt l i).ser x.ser = 0) = true → i < l.length ∧ EM.cmp (MR.mAt l i).ser x.ser = 0) := Lib.hid (fun h => of_decide_eq_true h)
      have HQ : Hid (decide (i < l.length ∧ EM.cmp (MR.mAt l i).ser x.ser = 0) = false → ¬ (i < l.length ∧ EM.cmp (MR.mAt l i).ser x.ser = 0)) := Lib.hid (fun h => of_decide_eq_false h)
      generalize decide (i < l.length ∧ EM.cmp (MR.mAt l i).ser x.ser = 0) = fd at *
      have E1 : ∀ w, (Instr.slice 55 (.slice A l.length cap) (some (.int .i64 (i : Int))) none none).run Try.prog w = .ok (.slice (cutR A cap i 5) (l.length - i) (cap - i)) w := fun w => run_fromR Try.underlying55 info_mark hil w
      have E2 : ∀ w, (Instr.slice 55 (.slice A l.length cap) none (some (.int .i64 (i : Int))) none).run Try.prog w = .ok (.slice (cutR A cap 0 5) i cap) w := fun w => run_toR Try.underlying55 info_mark (by omega) w
      cases fd
      · have HPM2 : Hid (pm = l.take i ++ ([x] ++ l.drop i)) := Lib.hid (by rw [HPM.out, if_neg (HQ.out rfl)]; rfl)
        have HM3 : Hid (Marks w3 (cutR A cap i 5) (l.drop i)) := Lib.hid (by
          have h1 := marks_cut HI2.out (m := cap) (lo := i) (hi := l.length) hil (Nat.le_refl _) hcap
          rw [List.take_length] at h1
          exact h1)
        have HN3 : Hid (l.length - i = (l.drop i).length) := Lib.hid (by rw [List.length_drop])
        have HM1 : Hid (Marks w3 (cutR A cap 0 5) (l.take i)) := Lib.hid (by
          have h1 := marks_cut HI2.out (m := cap) (lo := 0) (hi := i) (Nat.zero_le _) hil (by omega)
          rw [List.drop_zero] at h1
          exact h1)
        have HN1 : Hid (i = (l.take i).length) := Lib.hid (by rw [List.length_take]; omega)
        have HBw : Hid (Below w3.heap.size w3 (w3.drew.alloc (.cells (mkC x) 59))) := Lib.hid (below_al (Below.refl _ _).drew _)
        have C5 := Lib.hid (mcat3_any (cutR A cap 0 5) (some ⟨w3.heap.size, 0, none⟩) (cutR A cap i 5) (l.take i) [x] (l.drop i) i 1 (l.length - i) cap 1 (cap - i) HN1.out rfl HN3.out (w3.drew.alloc (.cells (mkC x) 59)) (HM1.out.below HBw.out) (lit_mark w3.drew x hq) (HM3.out.below HBw.out) (by simp; omega) (by rw [← HN1.out, ← HN3.out]; simp; omega))
        rw [← HPM2.out] at C5
        rw [show (w3.drew.alloc (.cells (mkC x) 59)).heap.size = w3.heap.size + 1 by simp] at C5
        have c0 := HX2.out.cell 0; have c1 := HX2.out.cell 1; have c2 := HX2.out.cell 2; have c3 := HX2.out.cell 3; have c4 := HX2.out.cell 4
        simp only [List.getElem?_toArray, List.getElem?_cons_zero, List.getElem?_cons_succ] at c0 c1 c2 c3 c4
        have HQ2 := Lib.hid hq
        clear HP HQ HPM HI2 HX2 hq
        go_wp2_with fail
        go_region_with (go_at_call 66; refine C5.out.mono ?_; rintro e w4 ⟨⟨v4, rfl, hO4⟩, b4⟩)
        all_goals (
          have HO4 := Lib.hid (hO4.lower (B' := w.heap.size) (by have := HB2.out.size; omega))
          have HB4 := Lib.hid (HB2.out.trans ((HBw.out.trans (b4.mono (Nat.le_succ _))).mono HB2.out.size))
          clear hO4 b4 HB2 HBw C5 HM1 HM3 HN1 HN3 HPM2 c0 c1 c2 c3 c4
          obtain ⟨A5, cap5, rfl, -, hc5⟩ := OwnR.recs HO4.out
          rw [List.length_map] at HO4 hc5
          have HO5 := HO4
          rw [List.length_map]
          by_cases hl : 128 < pm.length
          · have HK1 := Lib.hid (KL.out hl).1
            have HK2 := Lib.hid (KL.out hl).2
            have hl' : (128 : Int) < (pm.length : Int) := by omega
            go_wp2_with fail
            go_ret2
            exact ⟨⟨_, by rw [HK1.out] <;> rfl, by rw [HK2.out]; exact OwnR.nil _ _ _ _⟩, HB4.out⟩
          · have HK1 := Lib.hid (KO.out hl).1
            have HK2 := Lib.hid (KO.out hl).2
            have hl' : ¬ (128 : Int) < (pm.length : Int) := by omega
            go_wp2_with fail
            go_ret2
            exact ⟨⟨_, by rw [HK1.out] <;> rfl, by rw [HK2.out]; exact HO5.out⟩, HB4.out⟩)
      · have hF := HP.out rfl
        have hin : i < l.length := hF.1
        have HPM2 : Hid (pm = l.take i ++ ([x] ++ l.drop (i + 1))) := Lib.hid (by rw [HPM.out, if_pos hF]; rfl)
        have E3 : ∀ w, (Instr.slice 55 (.slice (cutR A cap i 5) (l.length - i) (cap - i)) (some (.int .i64 1)) none none).run Try.prog w = .ok (.slice (cutR (cutR A cap i 5) (cap - i) 1 5) (l.length - i - 1) (cap - i - 1)) w := fun w => by
          have := run_fromR (lo := 1) (P := Try.prog) Try.underlying55 info_mark (A := cutR A cap i 5) (n := l.length - i) (cap := cap - i) (by omega) w
          simpa using this
        have HM3 : Hid (Marks w3 (cutR (cutR A cap i 5) (cap - i) 1 5) (l.drop (i + 1))) := Lib.hid (by
          have h1 := marks_cut HI2.out (m := cap) (lo := i) (hi := l.length) hil (Nat.le_refl _) hcap
          rw [List.take_length] at h1
          have h2 := marks_cut h1 (m := cap - i) (lo := 1) (hi := (l.drop i).length) (by rw [List.length_drop]; omega) (Nat.le_refl _) (by rw [List.length_drop]; omega)
          rw [List.take_length, List.drop_drop] at h2
          exact h2)
        have HN3 : Hid (l.length - i - 1 = (l.drop (i + 1)).length) := Lib.hid (by rw [List.length_drop]; omega)
        have HM1 : Hid (Marks w3 (cutR A cap 0 5) (l.take i)) := Lib.hid (by
          have h1 := marks_cut HI2.out (m := cap) (lo := 0) (hi := i) (Nat.zero_le _) hil (by omega)
          rw [List.drop_zero] at h1
          exact h1)
        have HN1 : Hid (i = (l.take i).length) := Lib.hid (by rw [List.length_take]; omega)
        have HBw : Hid (Below w3.heap.size w3 (w3.drew.alloc (.cells (mkC x) 59))) := Lib.hid (below_al (Below.refl _ _).drew _)
        have C5 := Lib.hid (mcat3_any (cutR A cap 0 5) (some ⟨w3.heap.size, 0, none⟩) (cutR (cutR A cap i 5) (cap - i) 1 5) (l.take i) [x] (l.drop (i + 1)) i 1 (l.length - i - 1) cap 1 (cap - i - 1) HN1.out rfl HN3.out (w3.drew.alloc (.cells (mkC x) 59)) (HM1.out.below HBw.out) (lit_mark w3.drew x hq) (HM3.out.below HBw.out) (by simp; omega) (by rw [← HN1.out, ← HN3.out]; simp; omega))
        rw [← HPM2.out] at C5
        rw [show (w3.drew.alloc (.cells (mkC x) 59)).heap.size = w3.heap.size + 1 by simp] at C5
        have c0 := HX2.out.cell 0; have c1 := HX2.out.cell 1; have c2 := HX2.out.cell 2; have c3 := HX2.out.cell 3; have c4 := HX2.out.cell 4
        simp only [List.getElem?_toArray, List.getElem?_cons_zero, List.getElem?_cons_succ] at c0 c1 c2 c3 c4
        have HQ2 := Lib.hid hq
        clear HP HQ HPM HI2 HX2 hq
        go_wp2_with fail
        go_region_with (go_at_call 66; refine C5.out.mono ?_; rintro e w4 ⟨⟨v4, rfl, hO4⟩, b4⟩)
        all_goals (
          have HO4 := Lib.hid (hO4.lower (B' := w.heap.size) (by have := HB2.out.size; omega))
          have HB4 := Lib.hid (HB2.out.trans ((HBw.out.trans (b4.mono (Nat.le_succ _))).mono HB2.out.size))
          clear hO4 b4 HB2 HBw C5 HM1 HM3 HN1 HN3 HPM2 c0 c1 c2 c3 c4
          obtain ⟨A5, cap5, rfl, -, hc5⟩ := OwnR.recs HO4.out
          rw [List.length_map] at HO4 hc5
          have HO5 := HO4
          rw [List.length_map]
          by_cases hl : 128 < pm.length
          · have HK1 := Lib.hid (KL.out hl).1
            have HK2 := Lib.hid (KL.out hl).2
            have hl' : (128 : Int) < (pm.length : Int) := by omega
            go_wp2_with fail
            go_ret2
            exact ⟨⟨_, by rw [HK1.out] <;> rfl, by rw [HK2.out]; exact OwnR.nil _ _ _ _⟩, HB4.out⟩
          · have HK1 := Lib.hid (KO.out hl).1
            have HK2 := Lib.hid (KO.out hl).2
            have hl' : ¬ (128 : Int) < (pm.length : Int) := by omega
            go_wp2_with fail
            go_ret2
            exact ⟨⟨_, by rw [HK1.out] <;> rfl, by rw [HK2.out]; exact HO5.out⟩, HB4.out⟩)
    · have h2 : MK.isP x.price = false := by simpa using h2
      rw [h1] at C1
      rw [h2] at C2
      rw [(MR.put_price h1 h2).1, (MR.put_price h1 h2).2]
      clear hI h1 h2
      have hx0 := HX.out.lt
      go_enter Try.func28, Try.ntmps28
      go_wp2_with fail
      generalize w.alloc (.cells #[.string x.ser.prod, .int .i64 x.ser.kind, .int .i64 x.ser.expiry, .int .i64 x.ser.strike, .int .i64 x.price] 59) = w0 at *
      refine (C1.out _ HI.out).mono ?_
      rintro e w1 ⟨rfl, b1⟩
      have HB1 := Lib.hid (HB0.out.trans (b1.mono HB0.out.size))
      have HX1 := Lib.hid (HX.out.below b1 hx0)
      clear b1 HX HI
      have c4 := HX1.out.cell 4
      simp only [List.getElem?_toArray, List.getElem?_cons_zero, List.getElem?_cons_succ] at c4
      go_wp2_with fail
      refine (C2.out _).mono ?_
      rintro e w2 ⟨rfl, rfl⟩
      go_wp2_with fail
      go_ret2
      exact ⟨⟨_, rfl, OwnR.nil _ _ _ _⟩, HB1.out⟩
  · rw [(MR.put_bad h1).1, (MR.put_bad h1).2]
    have hne : (MR.checkE l != 0) = true := by simpa using h1
    clear hI h1
    generalize MR.checkE l = r at *
    go_enter Try.func28, Try.ntmps28
    go_wp2_with fail
    refine (C1.out _ HI.out).mono ?_
    rintro e w1 ⟨rfl, b1⟩
    have HB1 := Lib.hid (HB0.out.trans (b1.mono HB0.out.size))
    clear b1 HX HI
    go_wp2_with fail
    go_ret2
    exact ⟨⟨_, rfl, OwnR.nil _ _ _ _⟩, HB1.out⟩
end Go.Proofs.Ytaegapcccboinaa

/- Contracts of layer 9: Find. -/
namespace Go.Proofs.Ytaegapcccboinaa
open Go.RowKit Go.Recs
set_option linter.unusedVariables false

theorem prod_under : Try.prog.underlying 42 = some (.struct (Try.prog.fieldsOf 42)) := by kernel_rfl
theorem prod_size : (Try.prog.info? 42).map (·.size) = some 7 := by kernel_rfl
theorem results_prod {fn : Func} {p u : Tmp} (h : fn.results = #[.cell p 42, .tmp u]) (tmps : Array Value) (w : World) (g : Nat) (x : QM.Prod)
    (hp : tmps.getD p undef = .pointer (some ⟨g, 0, none⟩)) (hb : PBox w g x) : (results fn tmps).run Try.prog w = .ok (.tuple #[prodA x, tmps.getD u undef]) w := by
  rw [results_cell_tmp h, hp]
  simp only [asAddr, Sem.run_pure, Result.andThen_ok]
  rw [run_loadVar_row w g 42 42 _ (0, 0) _ hb prod_under rfl prod_size]
  rfl
section
variable {w w' : World} {g : Nat} {p : QM.Prod}
theorem PBox.drewN (h : PBox w g p) (n : Nat) : PBox (w.drewN n) g p := h
theorem PBox.drew (h : PBox w g p) : PBox w.drew g p := h
theorem PBox.alloc (h : PBox w g p) (o : Obj) : PBox (w.alloc o) g p := (Below.heap_alloc w o g h.lt).trans h
theorem PBox.frozen (h : PBox w g p) (i : Nat) : w.frozen? ⟨g, i, none⟩ = false := by unfold PBox at h; simp [World.frozen?, h]
theorem PBox.put (h : PBox w g p) (x : QM.Prod) : PBox (((((((w.setCell ⟨g, 0, none⟩ (.string x.name)).setCell ⟨g, 1, none⟩ (.int .i64 x.cur)).setCell ⟨g, 2, none⟩ (.int .i64 x.mult)).setCell ⟨g, 3, none⟩ (.int .i64 x.tick)).setCell ⟨g, 4, none⟩ (.int .i64 x.low)).setCell ⟨g, 5, none⟩ (.int .i64 x.high)).setCell ⟨g, 6, none⟩ (.bool x.phys)) g x := by
  unfold PBox at h ⊢
  simp [World.setCell, Array.getElem?_modify, h]
theorem PBox.put_below {B : Nat} {a : World} (h : Below B a w) (hB : B ≤ g) (x : QM.Prod) : Below B a (((((((w.setCell ⟨g, 0, none⟩ (.string x.name)).setCell ⟨g, 1, none⟩ (.int .i64 x.cur)).setCell ⟨g, 2, none⟩ (.int .i64 x.mult)).setCell ⟨g, 3, none⟩ (.int .i64 x.tick)).setCell ⟨g, 4, none⟩ (.int .i64 x.low)).setCell ⟨g, 5, none⟩ (.int .i64 x.high)).setCell ⟨g, 6, none⟩ (.bool x.phys)) :=
  ((((((h.setCell hB _).setCell hB _).setCell hB _).setCell hB _).setCell hB _).setCell hB _).setCell hB _
end

def firstP (l : List QM.Prod) (s : ByteArray) : QM.Prod × Bool := match l.find? (fun p => p.name.toList == s.toList) with | some p => (p, true) | none => (QM.zero, false)
theorem first_yes {l : List QM.Prod} {s : ByteArray} {k : Nat} (hk : k < l.length) (h : ∀ j, j < k → ((QM.pAt l j).name.toList == s.toList) = false) (h2 : ((QM.pAt l k).name.toList == s.toList) = true) : firstP l s = (QM.pAt l k, true) := by
  have e : l.find? (fun p => p.name.toList == s.toList) = some (QM.pAt l k) := by
    rw [List.find?_eq_some_iff_getElem]
    refine ⟨h2, k, hk, by simp [QM.pAt, List.getD, hk], fun j hj => ?_⟩
    have := h j hj
    have hjl : j < l.length := by omega
    simp only [QM.pAt, List.getD, List.getElem?_eq_getElem hjl, Option.getD_some] at this
    rw [this]; rfl
  unfold firstP; rw [e]
theorem first_no {l : List QM.Prod} {s : ByteArray} (h : ∀ j, j < l.length → ((QM.pAt l j).name.toList == s.toList) = false) : firstP l s = (QM.zero, false) := by
  have e : l.find? (fun p => p.name.toList == s.toList) = none := by
    rw [List.find?_eq_none]
    intro a ha
    obtain ⟨j, hj, rfl⟩ := List.getElem_of_mem ha
    have := h j hj
    simp only [QM.pAt, List.getD, List.getElem?_eq_getElem hj, Option.getD_some] at this
    simp [this]
  unfold firstP; rw [e]

end Go.Proofs.Ytaegapcccboinaa
