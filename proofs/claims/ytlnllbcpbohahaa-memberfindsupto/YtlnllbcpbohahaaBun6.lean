/- Put together: RecsCut, MemF, MemG, MemH, MemI, MemJ. -/
import Derived.Test.YtlnllbcpbohahaaBun5
import Derived.Test.YtlnllbcpbohahaaBun3
import Derived.Deep.RegionLawGrows
import Derived.Lib.SliceRun
import Derived.Deep.RegionWith
/- Parts of slices of records, and appends in regions that draw, over any program. -/
namespace Go.Recs
open Go.RowKit
set_option linter.unusedVariables false
set_option linter.unusedSimpArgs false
/-- where a part of a slice lies -/
def cutR (A : Option Addr) (m lo sz : Nat) : Option Addr := if m = lo then A else A.map (·.add (lo * sz))
theorem Recs.cut {w : World} {A : Option Addr} {sz : Nat} {rows : List (List Value)} (h : Recs w A sz rows) {m lo hi : Nat} (h1 : lo ≤ hi) (h2 : hi ≤ rows.length) (h3 : hi ≤ m) : Recs w (cutR A m lo sz) sz ((rows.take hi).drop lo) := by
  by_cases hz : lo = hi
  · have : (rows.take hi).drop lo = [] := by rw [List.drop_eq_nil_iff, List.length_take]; omega
    rw [this]; exact Recs.nil _ _ _
  · unfold cutR
    rw [if_neg (by omega)]
    have hl : ((rows.take hi).drop lo).length = hi - lo := by rw [List.length_drop, List.length_take]; omega
    refine ⟨by rw [hl]; have := h.1; omega, fun r hr => h.2.1 r (List.mem_of_mem_take (List.mem_of_mem_drop hr)), ?_⟩
    rcases h.2.2 with h | ⟨b, off, rfl, hb, hc⟩
    · subst h; simp at h2; omega
    · refine .inr ⟨b, off + lo * sz, by simp [add_at], hb, fun i j hi' hj => ?_⟩
      rw [hl] at hi'
      have := hc (lo + i) j (by omega) hj
      rw [Nat.add_mul] at this
      rw [show off + lo * sz + (i * sz + j) = off + (lo * sz + i * sz + j) by omega, this]
      have e : ((rows.take hi).drop lo).getD i [] = rows.getD (lo + i) [] := by
        have h1 : lo + i < rows.length := by omega
        have h2 : lo + i < hi := by omega
        simp [List.getD, h1, h2, List.getElem?_take]
      rw [e]
theorem run_fromR {P : Program} {ts t : TypeId} {sz bytes : Nat} {z : Value} (hu : P.underlying ts = some (.slice t)) (hinfo : (P.info? t).map (fun i => (i.zero, i.size, i.bytes)) = some (some z, sz, bytes)) {A : Option Addr} {n cap lo : Nat} (h : lo ≤ n) (w : World) :
    (Instr.slice ts (.slice A n cap) (some (.int .i64 (lo : Int))) none none).run P w = .ok (.slice (cutR A cap lo sz) (n - lo) (cap - lo)) w := by
  obtain ⟨i0, hi, hz0, hz1, hz2⟩ := info_parts hinfo
  have h0 : (0 : Int) ≤ (lo : Int) ∧ (lo : Int) ≤ (n : Int) := by omega
  simp [Instr.slice, Instr.sliceBounds, Instr.sliceBound, asIntOf, run_underlying hu, sizeOf, typeInfo, hi, hz1, h0, cutR]
  intro hc; omega
theorem run_full {P : Program} {ts t : TypeId} {sz bytes : Nat} {z : Value} (hu : P.underlying ts = some (.slice t)) (hinfo : (P.info? t).map (fun i => (i.zero, i.size, i.bytes)) = some (some z, sz, bytes)) {A : Option Addr} {n cap k : Nat} (h : k ≤ cap) (w : World) :
    (Instr.slice ts (.slice A n cap) none (some (.int .i64 (k : Int))) (some (.int .i64 (k : Int)))).run P w = .ok (.slice (cutR A k 0 sz) k k) w := by
  obtain ⟨i0, hi, hz0, hz1, hz2⟩ := info_parts hinfo
  have h0 : (0 : Int) ≤ (k : Int) ∧ (k : Int) ≤ (cap : Int) := by omega
  have h1 : (0 : Int) ≤ (k : Int) ∧ (k : Int) ≤ (k : Int) := by omega
  simp [Instr.slice, Instr.sliceBounds, Instr.sliceBound, asIntOf, run_underlying hu, sizeOf, typeInfo, hi, hz1, h0, h1, cutR]
  all_goals (try (intro hc; omega))
theorem run_toR {P : Program} {ts t : TypeId} {sz bytes : Nat} {z : Value} (hu : P.underlying ts = some (.slice t)) (hinfo : (P.info? t).map (fun i => (i.zero, i.size, i.bytes)) = some (some z, sz, bytes)) {A : Option Addr} {n cap k : Nat} (h : k ≤ cap) (w : World) :
    (Instr.slice ts (.slice A n cap) none (some (.int .i64 (k : Int))) none).run P w = .ok (.slice (cutR A cap 0 sz) k cap) w := by
  obtain ⟨i0, hi, hz0, hz1, hz2⟩ := info_parts hinfo
  have h0 : (0 : Int) ≤ (k : Int) ∧ (k : Int) ≤ (cap : Int) := by omega
  simp [Instr.slice, Instr.sliceBounds, Instr.sliceBound, asIntOf, run_underlying hu, sizeOf, typeInfo, hi, hz1, h0, cutR]
  all_goals (try (intro hc; omega))

theorem step_growR {P : Program} {ops : Array Oper} {o : Oper} {a : Act} {K : Act → World → Prop} {Q : Exit → Act → World → Prop} {E : Prop} (w : World) (x : List Value) (hx1 : ∀ u ∈ x, u.oneCell' = true) (rows : List (List Value)) (s y : Operand) (ts t : TypeId) (sz bytes : Nat) (z : Value)
    (hu : P.underlying ts = some (.slice t)) (hinfo : (P.info? t).map (fun i => (i.zero, i.size, i.bytes)) = some (some z, sz, bytes)) (hz : z.cells.size = sz) (h0 : 0 < sz) (hxl : x.length = sz)
    (hgd : o.guard = none) (ho : o.op = .call { callee := .builtin .append, args := #[s, y], argTypes := #[ts, ts] })
    (A : Option Addr) (n cap : Nat) (hs : a.eval s = .slice A n cap) (hx : a.eval y = .slice (some ⟨w.heap.size, 0, none⟩) 1 1) (hn : n = rows.length) (hcap : cap = n) (hA : Recs w A sz rows) (hl : (rows.length + 1) * bytes ≤ 140737488355328) (hm : rows.length + 1 ≤ maxLen)
    (h : ∀ v' w', OwnR w' w.heap.size t sz v' (rows ++ [x]) → Below w.heap.size w w' → K (a.put o.dst v') w') :
    if Region.wanted o (yielded ops a.tmps) = true then Oper.wp P o a (w.alloc (.cells x.toArray t)) K Q else E := by
  subst hn hcap
  obtain ⟨i0, hi, hz0, hz1, hz2⟩ := info_parts hinfo
  have hb0 : Below w.heap.size w (w.alloc (.cells x.toArray t)) := (Below.refl _ _).alloc (Nat.le_refl _) _
  have hA2 := hA.below hb0
  refine step_append_grows hgd s y ts ho t i0 z sz bytes hu hi hz0 hz1 hz2 hz h0 A rows.length rows.length rows.flatten hs ?_ (flat_len hA.2.1) ?_ ⟨w.heap.size, 0, none⟩ 1 1 x hx (by omega) ?_ hx1 (by omega) hm hl ?_
  · intro e
    rcases hA.2.2 with g | ⟨b, off, g, _⟩
    · rw [g]; simp
    · rw [e] at g; cases g
  · rintro b rfl j u hj
    rcases hA2.2.2 with e | ⟨b', off', e, hb, hcell⟩
    · subst e; simp at hj
    · injection e with e
      subst e
      have hlt : j < rows.flatten.length := by
        rcases Nat.lt_or_ge j rows.flatten.length with h | h
        · exact h
        · rw [List.getElem?_eq_none h] at hj; cases hj
      rw [flat_len hA.2.1] at hlt
      have hi' : j / sz < rows.length := Nat.div_lt_of_lt_mul (by rw [Nat.mul_comm]; exact hlt)
      have hj' : j % sz < sz := Nat.mod_lt _ h0
      have ej : j / sz * sz + j % sz = j := by rw [Nat.mul_comm]; exact Nat.div_add_mod j sz
      have e := flat_at hA.2.1 (j / sz) (j % sz) hi' hj'
      have e2 := hcell (j / sz) (j % sz) hi' hj'
      rw [ej] at e e2
      rw [add_at, e2, ← e, hj]
  · intro j u hj
    rw [add_at, Nat.zero_add]
    have hlt : j < x.length := by
      rcases Nat.lt_or_ge j x.length with g | g
      · exact g
      · rw [List.getElem?_eq_none g] at hj; cases hj
    have e : x.toArray[j]? = some u := by simpa using hj
    simp [e]
  · intro v' w' h1 h2
    have hr : ∀ r ∈ rows ++ [x], r.length = sz := by
      intro r hr
      rcases List.mem_append.1 hr with hr | hr
      · exact hA.2.1 r hr
      · rw [List.mem_singleton.1 hr]; exact hxl
    have ho : OwnR w' (w.heap.size + 1) t sz v' (rows ++ [x]) := ⟨hr, by simpa using h1⟩
    refine h v' w' (ho.lower (by omega)) (hb0.trans ((Below.refl _ _).grown h2 (by simp) (fun k hk => by cases hk)))

theorem step_catR {P : Program} {ops : Array Oper} {o : Oper} {a : Act} {K : Act → World → Prop} {Q : Exit → Act → World → Prop} {E : Prop} (w : World) (B : Nat) (rows more : List (List Value)) (x y : Operand) (ts t : TypeId) (sz bytes : Nat) (z : Value)
    (hu : P.underlying ts = some (.slice t)) (hinfo : (P.info? t).map (fun i => (i.zero, i.size, i.bytes)) = some (some z, sz, bytes)) (hz : z.cells.size = sz) (h0 : 0 < sz)
    (hgd : o.guard = none) (ho : o.op = .call { callee := .builtin .append, args := #[x, y], argTypes := #[ts, ts] })
    (v : Value) (A : Option Addr) (n c : Nat) (hs : a.eval x = v) (hx : a.eval y = .slice A n c) (hn : n = more.length) (hown : OwnR w B t sz v rows) (hm : Recs w A sz more) (h1 : ∀ r ∈ more, ∀ u ∈ r, u.oneCell' = true)
    (hl : (rows.length + more.length) * bytes ≤ 140737488355328) (hmx : rows.length + more.length ≤ maxLen) (hB : B ≤ w.heap.size)
    (h : ∀ v' w', OwnR w' B t sz v' (rows ++ more) → Below B w w' → K (a.put o.dst v') w') :
    if Region.wanted o (yielded ops a.tmps) = true then Oper.wp P o a w K Q else E := by
  subst hn
  have hw : Region.wanted o (yielded ops a.tmps) = true := by simp [Region.wanted, hgd]
  rw [if_pos hw]
  obtain ⟨v', w', hr, h2, h3⟩ := run_catR w B rows more ts t o.type sz bytes z hu hinfo hz h0 v hown A c hm h1 hl hmx hB
  unfold Oper.wp
  simp [execOp, ho, resolve, invoke, builtin, hs, hx, hr, Result.andThen]
  exact h v' w' h2 ((Below.refl B w).grown h3 hB (OwnR.block hown))

/-- the records are not in block g -/
def Apart {α : Type} (g : Nat) (A : Option Addr) (l : List α) : Prop := l = [] ∨ ∃ b off, A = some ⟨b, off, none⟩ ∧ b ≠ g
theorem TR.apart {α : Type} {f : α → List Value} {Q : α → Prop} {sz : Nat} {w : World} {A : Option Addr} {l : List α} (h : TR f Q sz w A l) {g : Nat} (hg : w.heap.size ≤ g) : Apart g A l := by
  rcases h.1.2.2 with e | ⟨b, off, rfl, hb, _⟩
  · exact .inl (by simpa using e)
  · exact .inr ⟨b, off, rfl, by omega⟩
theorem TR.set_ {α : Type} {f : α → List Value} {Q : α → Prop} {sz : Nat} {w : World} {A : Option Addr} {l : List α} (h : TR f Q sz w A l) {g i : Nat} (ha : Apart g A l) (u : Value) : TR f Q sz (w.setCell ⟨g, i, none⟩ u) A l := by
  rcases ha with rfl | ⟨b, off, rfl, hb⟩
  · exact TR.nil _ _
  · obtain ⟨⟨h1, h2, h3⟩, h4⟩ := h
    refine ⟨⟨h1, h2, ?_⟩, h4⟩
    rcases h3 with e | ⟨b', off', e, hb', hc⟩
    · exact .inl e
    · injection e with e
      injection e with e1 e2
      subst e1 e2
      refine .inr ⟨b, off, rfl, by simpa using hb', fun i' j hi hj => ?_⟩
      rw [← hc i' j hi hj]
      unfold World.cell?
      rw [Below.heap_setCell w ⟨g, i, none⟩ u b hb]

/-- a slice of members that the call itself made: its accounts lie elsewhere -/
def OwnM (t : TypeId) (w : World) (B : Nat) (v : Value) (rows : List MRow) : Prop := OwnR w B t 3 v (rows.map mrowV) ∧ ∀ r ∈ rows, mrowQ w r ∧ ∀ g, v.ownBlock = some g → Apart g r.A r.m.accs
section
variable {t : TypeId} {w w' : World} {B : Nat} {v : Value} {rows : List MRow}
theorem OwnM.below (h : OwnM t w B v rows) (hb : Below w.heap.size w w') : OwnM t w' B v rows := ⟨h.1.below hb, fun r hr => ⟨(h.2 r hr).1.below hb, (h.2 r hr).2⟩⟩
theorem OwnM.mems (h : OwnM t w B v rows) : ∃ A cap, v = .slice A (rows.map MRow.m).length cap ∧ Mems w A (rows.map MRow.m) ∧ (rows.map MRow.m).length ≤ cap := by
  obtain ⟨A, cap, rfl, hr, hc⟩ := h.1.recs
  refine ⟨A, cap, by simp, ⟨rows, rfl, hr, fun r hr => (h.2 r hr).1⟩, by simpa using hc⟩
theorem getD_rows {k : Nat} (hk : k < rows.length) : (rows.map mrowV).getD k [] = mrowV rows[k] := by simp [List.getD, hk]
/-- member k gets other accounts -/
theorem OwnM.setA {g n c : Nat} (h : OwnM t w B (.slice (some ⟨g, 0, none⟩) n c) rows) {k : Nat} (hk : k < rows.length) {A' : Option Addr} {al : List MM.Ac} {cap' : Nat} (hA : Accs w A' al) (hc : al.length ≤ cap') (ha : Apart g A' al) :
    OwnM t (w.setCell ⟨g, k * 3 + 2, none⟩ (.slice A' al.length cap')) B (.slice (some ⟨g, 0, none⟩) n c) (rows.set k ⟨{ rows[k].m with accs := al }, A', cap'⟩) := by
  refine ⟨?_, ?_⟩
  · have := h.1.set_ (by omega) (i := k) (j := 2) (by simpa using hk) (by omega) (.slice A' al.length cap')
    rw [getD_rows hk] at this
    rw [List.map_set]
    exact this
  · intro r hr
    rcases List.mem_or_eq_of_mem_set hr with hr | rfl
    · obtain ⟨⟨q1, q2, q3, q4⟩, q5⟩ := h.2 r hr
      exact ⟨⟨q1, q2, q3.set_ (q5 g rfl) _, q4⟩, q5⟩
    · obtain ⟨⟨q1, q2, q3, q4⟩, q5⟩ := h.2 rows[k] (List.getElem_mem hk)
      refine ⟨⟨q1, q2, hA.set_ ha _, hc⟩, fun g' hg' => ?_⟩
      have : g' = g := by simpa [Value.ownBlock] using hg'.symm
      subst this; exact ha
/-- member k gets another status -/
theorem OwnM.setS {g n c : Nat} (h : OwnM t w B (.slice (some ⟨g, 0, none⟩) n c) rows) {k : Nat} (hk : k < rows.length) {s : Int} (hs : i64 s) :
    OwnM t (w.setCell ⟨g, k * 3 + 1, none⟩ (.int .i64 s)) B (.slice (some ⟨g, 0, none⟩) n c) (rows.set k ⟨{ rows[k].m with status := s }, rows[k].A, rows[k].cap⟩) := by
  refine ⟨?_, ?_⟩
  · have := h.1.set_ (by omega) (i := k) (j := 1) (by simpa using hk) (by omega) (.int .i64 s)
    rw [getD_rows hk] at this
    rw [List.map_set]
    exact this
  · intro r hr
    rcases List.mem_or_eq_of_mem_set hr with hr | rfl
    · obtain ⟨⟨q1, q2, q3, q4⟩, q5⟩ := h.2 r hr
      exact ⟨⟨q1, q2, q3.set_ (q5 g rfl) _, q4⟩, q5⟩
    · obtain ⟨⟨q1, q2, q3, q4⟩, q5⟩ := h.2 rows[k] (List.getElem_mem hk)
      exact ⟨⟨q1, hs, q3.set_ (q5 g rfl) _, q4⟩, q5⟩
end
theorem mrowV_one (rows : List MRow) : ∀ r ∈ rows.map mrowV, ∀ u ∈ r, u.oneCell' = true := by
  intro r hr u hu
  obtain ⟨p, _, rfl⟩ := List.mem_map.1 hr
  simp only [mrowV, List.mem_cons, List.not_mem_nil, or_false] at hu
  rcases hu with rfl | rfl | rfl <;> rfl
theorem accV_one (l : List MM.Ac) : ∀ r ∈ l.map accV, ∀ u ∈ r, u.oneCell' = true := by
  intro r hr u hu
  obtain ⟨p, _, rfl⟩ := List.mem_map.1 hr
  simp only [accV, List.mem_cons, List.not_mem_nil, or_false] at hu
  rcases hu with rfl | rfl <;> rfl
end Go.Recs

/- Contracts of layer 11: lists with one more, and with accounts of their own. -/
namespace Go.Proofs.Ytlnllbcpbohahaa
open Go.RowKit Go.Recs
set_option linter.unusedVariables false
set_option linter.unusedSimpArgs false
theorem info_mem : (Try.prog.info? 32).map (fun i => (i.zero, i.size, i.bytes)) = some (some (.agg #[.string ⟨#[]⟩, .int .i64 0, .slice none 0 0]), 3, 48) := by kernel_rfl
theorem info_acc : (Try.prog.info? 36).map (fun i => (i.zero, i.size, i.bytes)) = some (some (.agg #[.string ⟨#[]⟩, .int .i64 0]), 2, 24) := by kernel_rfl

set_option maxHeartbeats 2000000 in
theorem aclone_any (A : Option Addr) (rows : List (List Value)) (n cap : Nat) (w : World) (hn : n = rows.length) (h1 : ∀ r ∈ rows, ∀ u ∈ r, u.oneCell' = true) (hI : Recs w A 2 rows) (hl : rows.length * 24 ≤ 140737488355328) :
    Calls Try.prog 31 #[.slice A n cap] w fun e w' => ∃ v, e = .returned v ∧ OwnR w' w.heap.size 36 2 v rows ∧ Below w.heap.size w w' := by
  subst hn
  cases A with
  | none =>
    have : rows = [] := by
      rcases hI.2.2 with h | ⟨b, off, e, _⟩
      · exact h
      · cases e
    subst this
    have hq : ∀ (w : World), (binOp .eql 30 (.slice none 0 cap) (.slice none 0 0)).run Try.prog w = .ok (.bool true) w := fun w => Lib.run_eql_slice_nil w _ _ none 0 cap 0 0 Try.underlying30
    clear hI hl h1
    go_enter Try.func31, Try.ntmps31
    go_wp2_with fail
    go_ret
    exact ⟨_, rfl, OwnR.nil _ _ _ _, Below.refl _ _⟩
  | some ad =>
    have hq : ∀ (w : World) (n c n' c' : Nat), (binOp .eql 30 (.slice (some ad) n c) (.slice none n' c')).run Try.prog w = .ok (.bool false) w := fun w n c n' c' => Lib.run_eql_slice_nil w _ _ (some ad) n c n' c' Try.underlying30
    have hmx : rows.length ≤ maxLen := hI.1
    have HI := Lib.hid hI
    have HL := Lib.hid hl
    have HMX := Lib.hid hmx
    have HBE : Hid (Below w.heap.size w (w.alloc (.cells #[] 36))) := Lib.hid ((Below.refl _ _).alloc (Nat.le_refl _) _)
    clear hI hl hmx
    go_enter Try.func31, Try.ntmps31
    go_wp2_with (at_builtin; refine wpList_catR _ w.heap.size [] rows _ _ _ 36 2 24 _ Try.underlying30 info_acc rfl (by decide) rfl rfl _ _ _ _ rfl rfl ?c0 ?c1 ?c2 h1 ?c3 ?c4 ?c5 ?_)
    case c0 => rfl
    case c1 => exact OwnR.empty w w.heap.size 36 2 (Nat.le_refl _)
    case c2 => exact HI.out.below HBE.out
    case c3 => have := HL.out; simpa using this
    case c4 => have := HMX.out; simpa using this
    case c5 => simp
    rintro v1 w1 hO hb hg
    have HO : Hid (OwnR w1 w.heap.size 36 2 v1 rows) := Lib.hid (by simpa using hO)
    have HB1 := Lib.hid (HBE.out.trans hb)
    clear hO hb hg
    go_wp2_with fail
    go_ret
    exact ⟨_, rfl, HO.out, HB1.out⟩

set_option maxHeartbeats 2000000 in
theorem mclone_any (A : Option Addr) (rows : List (List Value)) (n cap : Nat) (w : World) (hn : n = rows.length) (h1 : ∀ r ∈ rows, ∀ u ∈ r, u.oneCell' = true) (hI : Recs w A 3 rows) (hl : rows.length * 48 ≤ 140737488355328) :
    Calls Try.prog 52 #[.slice A n cap] w fun e w' => ∃ v, e = .returned v ∧ OwnR w' w.heap.size 32 3 v rows ∧ Below w.heap.size w w' := by
  subst hn
  cases A with
  | none =>
    have : rows = [] := by
      rcases hI.2.2 with h | ⟨b, off, e, _⟩
      · exact h
      · cases e
    subst this
    have hq : ∀ (w : World), (binOp .eql 22 (.slice none 0 cap) (.slice none 0 0)).run Try.prog w = .ok (.bool true) w := fun w => Lib.run_eql_slice_nil w _ _ none 0 cap 0 0 Try.underlying22
    clear hI hl h1
    go_enter Try.func52, Try.ntmps52
    go_wp2_with fail
    go_ret
    exact ⟨_, rfl, OwnR.nil _ _ _ _, Below.refl _ _⟩
  | some ad =>
    have hq : ∀ (w : World) (n c n' c' : Nat), (binOp .eql 22 (.slice (some ad) n c) (.slice none n' c')).run Try.prog w = .ok (.bool false) w := fun w n c n' c' => Lib.run_eql_slice_nil w _ _ (some ad) n c n' c' Try.underlying22
    have hmx : rows.length ≤ maxLen := hI.1
    have HI := Lib.hid hI
    have HL := Lib.hid hl
    have HMX := Lib.hid hmx
    have HBE : Hid (Below w.heap.size w (w.alloc (.cells #[] 32))) := Lib.hid ((Below.refl _ _).alloc (Nat.le_refl _) _)
    clear hI hl hmx
    go_enter Try.func52, Try.ntmps52
    go_wp2_with (at_builtin; refine wpList_catR _ w.heap.size [] rows _ _ _ 32 3 48 _ Try.underlying22 info_mem rfl (by decide) rfl rfl _ _ _ _ rfl rfl ?c0 ?c1 ?c2 h1 ?c3 ?c4 ?c5 ?_)
    case c0 => rfl
    case c1 => exact OwnR.empty w w.heap.size 32 3 (Nat.le_refl _)
    case c2 => exact HI.out.below HBE.out
    case c3 => have := HL.out; simpa using this
    case c4 => have := HMX.out; simpa using this
    case c5 => simp
    rintro v1 w1 hO hb hg
    have HO : Hid (OwnR w1 w.heap.size 32 3 v1 rows) := Lib.hid (by simpa using hO)
    have HB1 := Lib.hid (HBE.out.trans hb)
    clear hO hb hg
    go_wp2_with fail
    go_ret
    exact ⟨_, rfl, HO.out, HB1.out⟩
end Go.Proofs.Ytlnllbcpbohahaa

/- Contracts of layer 11: lists with one more. -/
namespace Go.Proofs.Ytlnllbcpbohahaa
open Go.RowKit Go.Recs
set_option linter.unusedVariables false
set_option linter.unusedSimpArgs false

set_option maxHeartbeats 4000000 in
theorem ains_any (A : Option Addr) (rows : List (List Value)) (n cap k : Nat) (c : MM.Ac) (w : World) (hn : n = rows.length) (hk : k ≤ rows.length) (hc : rows.length ≤ cap) (h1 : ∀ r ∈ rows, ∀ u ∈ r, u.oneCell' = true) (hI : Recs w A 2 rows) (hl : rows.length ≤ 1000) :
    Calls Try.prog 55 #[.slice A n cap, .int .i64 (k : Int), .agg (accC c)] w fun e w' => ∃ v, e = .returned v ∧ OwnR w' w.heap.size 36 2 v (rows.take k ++ (accC c).toList :: rows.drop k) ∧ Below w.heap.size w w' := by
  subst hn
  have HB0 := Lib.hid ((Below.refl w.heap.size w).alloc (Nat.le_refl _) (.cells (accC c) 36))
  have HM := Lib.hid (CB.new w 36 (accC c))
  have E1 : ∀ w, (Instr.slice 30 (.slice A rows.length cap) none (some (.int .i64 (k : Int))) (some (.int .i64 (k : Int)))).run Try.prog w = .ok (.slice (cutR A k 0 2) k k) w := fun w => run_full Try.underlying30 info_acc (by omega) w
  have E2 : ∀ w, (Instr.slice 30 (.slice A rows.length cap) (some (.int .i64 (k : Int))) none none).run Try.prog w = .ok (.slice (cutR A cap k 2) (rows.length - k) (cap - k)) w := fun w => run_fromR Try.underlying30 info_acc hk w
  have HA1 := Lib.hid (Recs.cut (hI.below HB0.out) (m := k) (lo := 0) (hi := k) (Nat.zero_le _) hk (Nat.le_refl _))
  have HA2 : Hid (Recs (w.alloc (.cells (accC c) 36)) (cutR A cap k 2) 2 (rows.drop k)) := Lib.hid (by
    have := Recs.cut (hI.below HB0.out) (m := cap) (lo := k) (hi := rows.length) hk (Nat.le_refl _) hc
    rwa [List.take_length] at this)
  rw [List.drop_zero] at HA1
  have HT : Hid ((rows.take k).length = k) := Lib.hid (by rw [List.length_take]; omega)
  have HD : Hid ((rows.drop k).length = rows.length - k) := Lib.hid (List.length_drop ..)
  have H1d : Hid (∀ r ∈ rows.drop k, ∀ u ∈ r, u.oneCell' = true) := Lib.hid (fun r hr => h1 r (List.mem_of_mem_drop hr))
  have HX1 : Hid (∀ u ∈ (accC c).toList, u.oneCell' = true) := Lib.hid (fun u hu => by
    simp only [List.mem_cons, List.not_mem_nil, or_false] at hu
    rcases hu with rfl | rfl <;> rfl)
  have HK := Lib.hid hk; have HL := Lib.hid hl
  have HE : Hid (rows.take k ++ [(accC c).toList] ++ rows.drop k = rows.take k ++ (accC c).toList :: rows.drop k) := Lib.hid (by simp)
  have S1 : Hid (((rows.take k).length + 1) * 24 ≤ 140737488355328 ∧ (rows.take k).length + 1 ≤ maxLen) := Lib.hid (by rw [HT.out]; simp only [maxLen]; omega)
  have S2 : Hid (((rows.take k ++ [(accC c).toList]).length + (rows.drop k).length) * 24 ≤ 140737488355328 ∧ (rows.take k ++ [(accC c).toList]).length + (rows.drop k).length ≤ maxLen) := Lib.hid (by rw [HD.out, List.length_append, HT.out]; simp only [maxLen, List.length_singleton]; omega)
  clear hI h1 hc
  go_enter Try.func55, Try.ntmps55
  go_wp2_with fail
  generalize w.alloc (.cells (accC c) 36) = w0 at *
  have hlt : w.heap.size < w0.heap.size := HM.out.lt
  have HBD : Hid (Below w0.heap.size w0 w0.drew) := Lib.hid (Below.refl _ _).drew
  have c0 := HM.out.cell 0; have c1 := HM.out.cell 1
  simp at c0 c1
  go_region_law (first
    | (refine step_growR w0.drew (accC c).toList HX1.out (rows.take k) _ _ _ 36 2 24 _ Try.underlying30 info_acc rfl (by decide) rfl rfl rfl (cutR A k 0 2) k k (by simp [Act.eval, Act.put]) (by simp [Act.eval, Act.put]) HT.out.symm rfl HA1.out S1.out.1 S1.out.2 ?_; intro v1 w1 hO1 hB1)
    | (refine step_catR _ w0.heap.size (rows.take k ++ [(accC c).toList]) (rows.drop k) _ _ _ 36 2 24 _ Try.underlying30 info_acc rfl (by decide) rfl rfl _ (cutR A cap k 2) (rows.length - k) (cap - k) (by simp [Act.eval, Act.put]) (by simp [Act.eval, Act.put]) HD.out.symm hO1 (HA2.out.below (HBD.out.trans hB1)) H1d.out S2.out.1 S2.out.2 hB1.size ?_; intro v2 w2 hO2 hB2))
  all_goals (
    have HO2 : Hid (OwnR w2 w.heap.size 36 2 v2 (rows.take k ++ (accC c).toList :: rows.drop k)) := Lib.hid (by rw [← HE.out]; exact hO2.lower (by omega))
    have HB3 : Hid (Below w.heap.size w w2) := Lib.hid (HB0.out.trans ((HBD.out.trans (hB1.trans hB2)).mono (by omega)))
    clear hO1 hB1 hO2 hB2
    go_wp2_with fail
    go_ret
    exact ⟨_, rfl, HO2.out, HB3.out⟩)

set_option maxHeartbeats 4000000 in
theorem mins_any (A : Option Addr) (rows : List (List Value)) (n cap k : Nat) (c : MM.Mem) (A9 : Option Addr) (cap9 : Nat) (w : World) (hn : n = rows.length) (hk : k ≤ rows.length) (hc : rows.length ≤ cap) (h1 : ∀ r ∈ rows, ∀ u ∈ r, u.oneCell' = true) (hI : Recs w A 3 rows) (hl : rows.length ≤ 1000) :
    Calls Try.prog 39 #[.slice A n cap, .int .i64 (k : Int), .agg (memC c A9 cap9)] w fun e w' => ∃ v, e = .returned v ∧ OwnR w' w.heap.size 32 3 v (rows.take k ++ (memC c A9 cap9).toList :: rows.drop k) ∧ Below w.heap.size w w' := by
  subst hn
  have HB0 := Lib.hid ((Below.refl w.heap.size w).alloc (Nat.le_refl _) (.cells (memC c A9 cap9) 32))
  have HM := Lib.hid (CB.new w 32 (memC c A9 cap9))
  have E1 : ∀ w, (Instr.slice 22 (.slice A rows.length cap) none (some (.int .i64 (k : Int))) (some (.int .i64 (k : Int)))).run Try.prog w = .ok (.slice (cutR A k 0 3) k k) w := fun w => run_full Try.underlying22 info_mem (by omega) w
  have E2 : ∀ w, (Instr.slice 22 (.slice A rows.length cap) (some (.int .i64 (k : Int))) none none).run Try.prog w = .ok (.slice (cutR A cap k 3) (rows.length - k) (cap - k)) w := fun w => run_fromR Try.underlying22 info_mem hk w
  have HA1 := Lib.hid (Recs.cut (hI.below HB0.out) (m := k) (lo := 0) (hi := k) (Nat.zero_le _) hk (Nat.le_refl _))
  have HA2 : Hid (Recs (w.alloc (.cells (memC c A9 cap9) 32)) (cutR A cap k 3) 3 (rows.drop k)) := Lib.hid (by
    have := Recs.cut (hI.below HB0.out) (m := cap) (lo := k) (hi := rows.length) hk (Nat.le_refl _) hc
    rwa [List.take_length] at this)
  rw [List.drop_zero] at HA1
  have HT : Hid ((rows.take k).length = k) := Lib.hid (by rw [List.length_take]; omega)
  have HD : Hid ((rows.drop k).length = rows.length - k) := Lib.hid (List.length_drop ..)
  have H1d : Hid (∀ r ∈ rows.drop k, ∀ u ∈ r, u.oneCell' = true) := Lib.hid (fun r hr => h1 r (List.mem_of_mem_drop hr))
  have HX1 : Hid (∀ u ∈ (memC c A9 cap9).toList, u.oneCell' = true) := Lib.hid (fun u hu => by
    simp only [List.mem_cons, List.not_mem_nil, or_false] at hu
    rcases hu with rfl | rfl | rfl <;> rfl)
  have HK := Lib.hid hk; have HL := Lib.hid hl
  have HE : Hid (rows.take k ++ [(memC c A9 cap9).toList] ++ rows.drop k = rows.take k ++ (memC c A9 cap9).toList :: rows.drop k) := Lib.hid (by simp)
  have S1 : Hid (((rows.take k).length + 1) * 48 ≤ 140737488355328 ∧ (rows.take k).length + 1 ≤ maxLen) := Lib.hid (by rw [HT.out]; simp only [maxLen]; omega)
  have S2 : Hid (((rows.take k ++ [(memC c A9 cap9).toList]).length + (rows.drop k).length) * 48 ≤ 140737488355328 ∧ (rows.take k ++ [(memC c A9 cap9).toList]).length + (rows.drop k).length ≤ maxLen) := Lib.hid (by rw [HD.out, List.length_append, HT.out]; simp only [maxLen, List.length_singleton]; omega)
  clear hI h1 hc
  go_enter Try.func39, Try.ntmps39
  go_wp2_with fail
  generalize w.alloc (.cells (memC c A9 cap9) 32) = w0 at *
  have hlt : w.heap.size < w0.heap.size := HM.out.lt
  have HBD : Hid (Below w0.heap.size w0 w0.drew) := Lib.hid (Below.refl _ _).drew
  have c0 := HM.out.cell 0; have c1 := HM.out.cell 1; have c2 := HM.out.cell 2
  simp at c0 c1 c2
  go_region_law (first
    | (refine step_growR w0.drew (memC c A9 cap9).toList HX1.out (rows.take k) _ _ _ 32 3 48 _ Try.underlying22 info_mem rfl (by decide) rfl rfl rfl (cutR A k 0 3) k k (by simp [Act.eval, Act.put]) (by simp [Act.eval, Act.put]) HT.out.symm rfl HA1.out S1.out.1 S1.out.2 ?_; intro v1 w1 hO1 hB1)
    | (refine step_catR _ w0.heap.size (rows.take k ++ [(memC c A9 cap9).toList]) (rows.drop k) _ _ _ 32 3 48 _ Try.underlying22 info_mem rfl (by decide) rfl rfl _ (cutR A cap k 3) (rows.length - k) (cap - k) (by simp [Act.eval, Act.put]) (by simp [Act.eval, Act.put]) HD.out.symm hO1 (HA2.out.below (HBD.out.trans hB1)) H1d.out S2.out.1 S2.out.2 hB1.size ?_; intro v2 w2 hO2 hB2))
  all_goals (
    have HO2 : Hid (OwnR w2 w.heap.size 32 3 v2 (rows.take k ++ (memC c A9 cap9).toList :: rows.drop k)) := Lib.hid (by rw [← HE.out]; exact hO2.lower (by omega))
    have HB3 : Hid (Below w.heap.size w w2) := Lib.hid (HB0.out.trans ((HBD.out.trans (hB1.trans hB2)).mono (by omega)))
    clear hO1 hB1 hO2 hB2
    go_wp2_with fail
    go_ret
    exact ⟨_, rfl, HO2.out, HB3.out⟩)
end Go.Proofs.Ytlnllbcpbohahaa

/- Contracts of layer 11: a list whose accounts are its own. -/
namespace Go.Proofs.Ytlnllbcpbohahaa
open Go.RowKit Go.Recs
set_option linter.unusedVariables false
set_option linter.unusedSimpArgs false

theorem OwnR.apart {α : Type} {f : α → List Value} {w : World} {B : Nat} {t : TypeId} {sz n c : Nat} {A : Option Addr} {l : List α} (h : OwnR w B t sz (.slice A n c) (l.map f)) {g : Nat} (hg : g < B) : Apart g A l := by
  rcases h.form with ⟨e, e2⟩ | ⟨g', cap, e, hB, _⟩
  · exact .inl (by simpa using e2)
  · injection e with e
    exact .inr ⟨g', 0, e, by omega⟩

set_option maxHeartbeats 8000000 in
theorem mown_any (A : Option Addr) (rows : List MRow) (n cap : Nat) (w : World) (hn : n = rows.length) (hI : MRows w A rows) (hl : rows.length ≤ 1000) (hla : ∀ r ∈ rows, r.m.accs.length ≤ 1000) :
    Calls Try.prog 38 #[.slice A n cap] w fun e w' => ∃ v rows', e = .returned v ∧ rows'.map MRow.m = rows.map MRow.m ∧ OwnM 32 w' w.heap.size v rows' ∧ Below w.heap.size w w' := by
  subst hn
  have C0 := Lib.hid (mclone_any A (rows.map mrowV) rows.length cap w (by simp) (mrowV_one rows) hI.1 (by rw [List.length_map]; omega))
  have C1 := Lib.hid (fun A' (l : List MM.Ac) cap' ww (h : Accs ww A' l) (hl : l.length ≤ 1000) => aclone_any A' (l.map accV) l.length cap' ww (by simp) (accV_one l) h.1 (by rw [List.length_map]; omega))
  have HI := Lib.hid hI
  have HLA := Lib.hid hla
  clear hI hla
  go_enter Try.func38, Try.ntmps38
  go_wp2_with fail
  refine C0.out.mono ?_
  rintro e w1 ⟨v, rfl, hO, b1⟩
  have hq : ∀ r ∈ rows, mrowQ w1 r := fun r hr => (HI.out.2 r hr).below b1
  have HB1 := Lib.hid b1
  rcases hO.form with ⟨rfl, e0⟩ | ⟨g, c, rfl, hB, hg, hc⟩
  · have e1 : rows = [] := by simpa using e0
    subst e1
    have HO : Hid (OwnM 32 w1 w.heap.size (.slice none 0 0) []) := Lib.hid ⟨hO, by simp⟩
    clear hO hq b1 e0
    go_wp2_with fail
    go_loopw [9, 4] (fun i _ wr => i = .int .i64 0 ∧ wr = w1) (fun _ _ _ => 0)
    case atStart => exact ⟨rfl, rfl⟩
    case round =>
      obtain ⟨rfl, rfl⟩ := hrel
      go_wp2_with fail
      go_ret
      exact ⟨_, [], rfl, rfl, HO.out, HB1.out⟩
  · have hlm : (rows.map mrowV).length = rows.length := by simp
    rw [hlm] at hO hc ⊢
    have HM : Hid (OwnM 32 w1 w.heap.size (.slice (some ⟨g, 0, none⟩) rows.length c) rows) := Lib.hid ⟨hO, fun r hr => ⟨hq r hr, fun g' hg' => by
      have : g' = g := by simpa [Value.ownBlock] using hg'.symm
      subst this
      exact (HI.out.2 r hr).2.2.1.apart hB⟩⟩
    clear hO hq b1 hlm
    go_wp2_with fail
    go_loopw [9, 4] (fun i _ wr => ∃ k : Nat, ∃ rs : List MRow, k ≤ rows.length ∧ i = .int .i64 k ∧ Hid (rs.map MRow.m = rows.map MRow.m) ∧ Hid (OwnM 32 wr w.heap.size (.slice (some ⟨g, 0, none⟩) rows.length c) rs) ∧ Hid (Below w.heap.size w wr) ∧ g < wr.heap.size) (fun i _ _ => rows.length - (intOf i).toNat)
    case atStart => exact ⟨0, rows, by omega, rfl, Lib.hid rfl, HM, HB1, hg⟩
    case round =>
      obtain ⟨k, rs, hk, rfl, HR, HO, HB, hgr⟩ := hrel
      have hlen : rs.length = rows.length := by have := congrArg List.length HR.out; simpa using this
      by_cases hlt : k < rows.length
      · have hlt' : k < rs.length := by omega
        have hcell := HO.out.1.cell (i := k) (j := 2) (by simpa using hlt') (by omega)
        rw [getD_rows hlt'] at hcell
        have hfr := HO.out.1.frozen (k * 3 + 2)
        obtain ⟨⟨q1, q2, q3, q4⟩, q5⟩ := HO.out.2 rs[k] (List.getElem_mem hlt')
        have hmem : rs[k].m ∈ rows.map MRow.m := by rw [← HR.out]; exact List.mem_map.2 ⟨_, List.getElem_mem hlt', rfl⟩
        obtain ⟨r0, hr0, er0⟩ := List.mem_map.1 hmem
        have hsm : rs[k].m.accs.length ≤ 1000 := by rw [← er0]; exact HLA.out r0 hr0
        have d2 : wr.cell? ⟨g, k * 3 + 2, none⟩ = some (.slice rs[k].A rs[k].m.accs.length rs[k].cap) := hcell
        have C2 := Lib.hid (C1.out rs[k].A rs[k].m.accs rs[k].cap wr q3 hsm)
        have HMM : Hid (∀ (A' : Option Addr) cap', (rs.set k ⟨{ rs[k].m with accs := rs[k].m.accs }, A', cap'⟩).map MRow.m = rows.map MRow.m) := Lib.hid (fun A' cap' => by
          rw [← HR.out, List.map_set]
          apply List.ext_getElem
          · simp
          · intro i h1 h2
            rw [List.getElem_set]
            split
            · next h => subst h; simp
            · rfl)
        have hset := fun (ww : World) (hb : Below wr.heap.size wr ww) (A' : Option Addr) (cap' : Nat) (hA : Accs ww A' rs[k].m.accs) (hcc : rs[k].m.accs.length ≤ cap') (ha : Apart g A' rs[k].m.accs) => (HO.out.below hb).setA hlt' (A' := A') (al := rs[k].m.accs) (cap' := cap') hA hcc ha
        have HSET := Lib.hid hset
        have HQ := Lib.hid q3.2
        have HFR : Hid (∀ ww, Below wr.heap.size wr ww → ww.frozen? ⟨g, k * 3 + 2, none⟩ = false) := Lib.hid (fun ww hb => (HO.out.1.below hb).frozen _)
        clear hset hcell q1 q2 q3 q4 q5 hmem hsm C1 HLA HI HM
        generalize rs[k] = r at *
        go_wp2_with fail
        refine C2.out.mono ?_
        rintro e w2 ⟨v2, rfl, hO2, b2⟩
        obtain ⟨A2, c2, rfl, hR2, hc2⟩ := hO2.recs
        rw [List.length_map] at hO2 hc2 ⊢
        have hap : Apart g A2 r.m.accs := OwnR.apart (f := accV) hO2 hgr
        have hO3 := HSET.out w2 b2 A2 c2 ⟨hR2, HQ.out⟩ hc2 hap
        have HO3 := Lib.hid hO3
        have HB3 := Lib.hid (((HB.out.trans (b2.mono HB.out.size)).setCell (p := ⟨g, k * 3 + 2, none⟩) hB (.slice A2 r.m.accs.length c2)))
        have e2 : w2.cell? ⟨g, k * 3 + 2, none⟩ = some (.slice r.A r.m.accs.length r.cap) := (b2.cell (p := ⟨g, k * 3 + 2, none⟩) hgr).trans d2
        have f2 : w2.frozen? ⟨g, k * 3 + 2, none⟩ = false := HFR.out w2 b2
        have hg2 : g < (w2.setCell ⟨g, k * 3 + 2, none⟩ (.slice A2 r.m.accs.length c2)).heap.size := by simp; have := b2.size; omega
        have HM2 := Lib.hid (HMM.out A2 c2)
        clear hO2 hR2 hc2 hap hO3 d2 HSET HMM b2 hfr
        go_wp2_with fail
        go_roundw
        case rel => exact ⟨k + 1, _, by omega, by go_num, HM2, HO3, HB3, hg2⟩
        case measure => simp [intOf]; omega
      · obtain rfl : k = rows.length := by omega
        go_wp2_with fail
        go_ret
        exact ⟨_, rs, rfl, HR.out, HO.out, HB.out⟩
end Go.Proofs.Ytlnllbcpbohahaa

/- Contracts of layer 11: Add, Status, Open, May. -/
namespace Go.Proofs.Ytlnllbcpbohahaa
open Go.RowKit Go.Recs
set_option linter.unusedVariables false
set_option linter.unusedSimpArgs false

/-- the slice v holds the members l -/
def MemR (w : World) (v : Value) (l : List MM.Mem) : Prop := ∃ A cap, v = .slice A l.length cap ∧ Mems w A l ∧ l.length ≤ cap
theorem MemR.nil (w : World) : MemR w (.slice none 0 0) [] := ⟨none, 0, rfl, Mems.nil _ _, Nat.le_refl _⟩
theorem MemR.below {w w' : World} {v : Value} {l : List MM.Mem} (h : MemR w v l) (hb : Below w.heap.size w w') : MemR w' v l := by
  obtain ⟨A, cap, e, hM, hc⟩ := h
  exact ⟨A, cap, e, hM.below hb, hc⟩
theorem own_memr {t : TypeId} {w : World} {B : Nat} {v : Value} {rows : List MRow} {l : List MM.Mem} (h : OwnM t w B v rows) (e : rows.map MRow.m = l) : MemR w v l := by
  obtain ⟨A, cap, e1, h1, h2⟩ := h.mems
  rw [e] at e1 h1 h2
  exact ⟨A, cap, e1, h1, h2⟩
theorem ad_bad {l : List MM.Mem} {n : ByteArray} (h : MM.checkE l ≠ 0) : MM.addE l n = MM.checkE l ∧ MM.addL l n = [] := by
  have e : MM.addE l n = MM.checkE l := by unfold MM.addE; rw [if_pos h]
  exact ⟨e, by unfold MM.addL; rw [e, if_neg h]⟩
theorem ad_name {l : List MM.Mem} {n : ByteArray} (h : MM.checkE l = 0) (h2 : MM.okN n = false) : MM.addE l n = 10 ∧ MM.addL l n = [] := by
  have e : MM.addE l n = 10 := by unfold MM.addE; rw [if_neg (by simp [h]), if_pos h2]
  exact ⟨e, by unfold MM.addL; rw [e, if_neg (by decide)]⟩
theorem ad_there {l : List MM.Mem} {n : ByteArray} (h : MM.checkE l = 0) (h2 : MM.okN n = true) (h3 : (MM.pl l n).isSome = true) : MM.addE l n = 12 ∧ MM.addL l n = [] := by
  have e : MM.addE l n = 12 := by unfold MM.addE; rw [if_neg (by simp [h]), if_neg (by simp [h2]), if_pos h3]
  exact ⟨e, by unfold MM.addL; rw [e, if_neg (by decide)]⟩
theorem ad_long {l : List MM.Mem} {n : ByteArray} (h : MM.checkE l = 0) (h2 : MM.okN n = true) (h3 : (MM.pl l n).isSome = false) (h4 : 32 ≤ l.length) : MM.addE l n = 8 ∧ MM.addL l n = [] := by
  have e : MM.addE l n = 8 := by unfold MM.addE; rw [if_neg (by simp [h]), if_neg (by simp [h2]), if_neg (by simp [h3]), if_pos h4]
  exact ⟨e, by unfold MM.addL; rw [e, if_neg (by decide)]⟩
theorem ad_ok {l : List MM.Mem} {n : ByteArray} (h : MM.checkE l = 0) (h2 : MM.okN n = true) (h3 : (MM.pl l n).isSome = false) (h4 : ¬ 32 ≤ l.length) : MM.addE l n = 0 ∧ MM.addL l n = MM.insM n l := by
  have e : MM.addE l n = 0 := by unfold MM.addE; rw [if_neg (by simp [h]), if_neg (by simp [h2]), if_neg (by simp [h3]), if_neg h4]
  exact ⟨e, by unfold MM.addL; rw [if_pos e]⟩

theorem small_rows {l : List MM.Mem} (h : MM.checkE l = 0) : l.length ≤ 32 ∧ ∀ m ∈ l, m.accs.length ≤ 16 := by
  obtain ⟨h1, h2⟩ := MM.check_mem h
  refine ⟨h1, fun m hm => ?_⟩
  obtain ⟨i, hi, rfl⟩ := List.mem_iff_getElem.1 hm
  have := (MM.mem_at hi h2).2.2.1
  omega

set_option maxHeartbeats 8000000 in
theorem padd_any (A : Option Addr) (l : List MM.Mem) (cap : Nat) (n : ByteArray) (w : World) (hI : Mems w A l) (hcap : l.length ≤ cap) (hn : n.size ≤ maxLen) :
    Calls Try.prog 20 #[.slice A l.length cap, .string n] w fun e w' => ∃ v, e = .returned (.tuple #[v, .int .i64 (MM.addE l n)]) ∧ MemR w' v (MM.addL l n) ∧ Below w.heap.size w w' := by
  have hmf : ∀ (fn : Fn) (first cap : Array Value) (w : World), (Instr.makeFunc fn first cap).run Try.prog w = .ok (.func fn first cap) w := fun _ _ _ _ => rfl
  have hlen := hI.len
  have HB0 := Lib.hid ((Below.refl w.heap.size w).alloc (Nat.le_refl _) (.cells #[.string n] 9))
  have HG0 := Lib.hid (CB.new w 9 #[.string n])
  have HI := Lib.hid hI
  have C0 := Lib.hid (fun ww h => mcheck_any A l cap ww h)
  have C1 := Lib.hid (fun ww => name_any n ww hn)
  have C2 := Lib.hid (fun ww h => mpl_any A l cap n ww h)
  clear hI
  by_cases hc : MM.checkE l = 0
  · have K1 := Lib.hid (@ad_name l n hc); have K2 := Lib.hid (@ad_there l n hc); have K3 := Lib.hid (@ad_long l n hc); have K4 := Lib.hid (@ad_ok l n hc)
    obtain ⟨hs1, hs2⟩ := small_rows hc
    have HS2 := Lib.hid hs2
    have C3 := Lib.hid (fun g ww h hg => mplace2_any A l cap g n ww h hg)
    have C4 := Lib.hid (fun (rows : List (List Value)) (k : Nat) ww h1 h2 h3 h4 h5 h6 => mins_any A rows l.length cap k ⟨n, 1, []⟩ none 0 ww h1 h2 h3 h4 h5 h6)
    have C5 := Lib.hid (fun A' rows' n' cap' ww h1 h2 h3 h4 => mown_any A' rows' n' cap' ww h1 h2 h3 h4)
    have KI : Hid (MM.insM n l = l.take (MM.at_ (fun m => MM.lt n m.name) l) ++ ⟨n, 1, []⟩ :: l.drop (MM.at_ (fun m => MM.lt n m.name) l) ∧ MM.at_ (fun m => MM.lt n m.name) l ≤ l.length) := Lib.hid ⟨MM.ins_at _ _ _, MM.at_le _ _⟩
    rw [hc] at C0
    have eN : MM.okN n = WM.name (L n) := rfl
    rw [eN] at K1 K2 K3 K4
    clear hc eN hs2
    generalize MM.addE l n = r at *
    generalize MM.addL l n = out at *
    generalize MM.insM n l = il at *
    generalize MM.at_ (fun m => MM.lt n m.name) l = k at *
    generalize (l.findIdx? (fun m => MM.lt n m.name)).isSome = y2 at *
    generalize (MM.pl l n).isSome = y at *
    generalize plN (MM.pl l n) l.length = x at *
    generalize WM.name (L n) = b0 at *
    go_enter Try.func20, Try.ntmps20
    go_wp2_with fail
    generalize w.alloc (.cells #[.string n] 9) = w0 at *
    refine (C0.out _ (HI.out.below HB0.out)).mono ?_
    rintro e w1 ⟨rfl, b1⟩
    have HB1 := Lib.hid (HB0.out.trans (b1.mono HB0.out.size))
    have HG1 := Lib.hid (HG0.out.below b1 HG0.out.lt)
    clear b1 HB0 HG0 C0
    have c0 : w1.cell? ⟨w.heap.size, 0, none⟩ = some (.string n) := HG1.out.cell 0
    go_wp2_with fail
    refine (C1.out _).mono ?_
    rintro e w2 ⟨rfl, rfl⟩
    cases b0
    · have HX := Lib.hid (K1.out (by trivial))
      go_wp2_with fail
      go_ret2
      exact ⟨_, by rw [HX.out.1] <;> rfl, by rw [HX.out.2]; exact MemR.nil _, HB1.out⟩
    go_wp2_with fail
    refine (C2.out _ (HI.out.below HB1.out)).mono ?_
    rintro e w2 ⟨rfl, b2⟩
    have HB2 := Lib.hid (HB1.out.trans (b2.mono HB1.out.size))
    have HG2 := Lib.hid (HG1.out.below b2 HG1.out.lt)
    clear b2 HB1 HG1 C2 c0
    cases y
    rotate_left
    · have HX := Lib.hid (K2.out (by trivial) (by trivial))
      go_wp2_with fail
      go_ret2
      exact ⟨_, by rw [HX.out.1] <;> rfl, by rw [HX.out.2]; exact MemR.nil _, HB2.out⟩
    by_cases h32 : l.length = 32
    · have HX := Lib.hid (K3.out (by trivial) (by trivial) (by omega))
      have h32' : ((l.length : Int) == 32) = true := by simp; omega
      go_wp2_with fail
      go_ret2
      exact ⟨_, by rw [HX.out.1] <;> rfl, by rw [HX.out.2]; exact MemR.nil _, HB2.out⟩
    have HX := Lib.hid (K4.out (by trivial) (by trivial) (by omega))
    have h32' : ((l.length : Int) == 32) = false := by simp; omega
    have c0 : w2.cell? ⟨w.heap.size, 0, none⟩ = some (.string n) := HG2.out.cell 0
    clear K1 K2 K3 K4
    go_wp2_with fail
    refine (C3.out _ _ (HI.out.below HB2.out) HG2.out).mono ?_
    rintro e w3 ⟨rfl, b3⟩
    have HB3 := Lib.hid (HB2.out.trans (b3.mono HB2.out.size))
    have HG3 := Lib.hid (HG2.out.below b3 HG2.out.lt)
    clear b3 HB2 HG2 C3 c0
    have c0 : w3.cell? ⟨w.heap.size, 0, none⟩ = some (.string n) := HG3.out.cell 0
    obtain ⟨rows, he, hM⟩ := HI.out.below HB3.out
    have hrl : rows.length = l.length := by rw [← he]; simp
    have C6 := Lib.hid (C4.out (rows.map mrowV) k w3 (by simp [hrl]) (by simpa [hrl] using KI.out.2) (by simpa [hrl] using hcap) (mrowV_one rows) hM.1 (by simp [hrl]; omega))
    have HM := Lib.hid hM
    have HE := Lib.hid he
    clear he hM C4
    go_wp2_with fail
    refine C6.out.mono ?_
    rintro e w4 ⟨v4, rfl, hO4, b4⟩
    have HB4 := Lib.hid (HB3.out.trans (b4.mono HB3.out.size))
    have er : (rows.map mrowV).take k ++ (memC ⟨n, 1, []⟩ none 0).toList :: (rows.map mrowV).drop k = (rows.take k ++ ⟨⟨n, 1, []⟩, none, 0⟩ :: rows.drop k).map mrowV := by simp [mrowV, List.map_take, List.map_drop]
    rw [er] at hO4
    obtain ⟨A4, c4, rfl, hR4, hc4⟩ := hO4.recs
    have hq4 : ∀ r ∈ rows.take k ++ ⟨⟨n, 1, []⟩, none, 0⟩ :: rows.drop k, mrowQ w4 r ∧ r.m.accs.length ≤ 1000 := by
      intro r hr
      have old : ∀ r ∈ rows, mrowQ w4 r ∧ r.m.accs.length ≤ 1000 := fun r hr => ⟨(HM.out.2 r hr).below b4, by
        have := HS2.out r.m (by rw [← HE.out]; exact List.mem_map.2 ⟨r, hr, rfl⟩)
        omega⟩
      rcases List.mem_append.1 hr with hr | hr
      · exact old r (List.mem_of_mem_take hr)
      · rcases List.mem_cons.1 hr with rfl | hr
        · exact ⟨⟨hn, (show i64 1 from ⟨by decide, by decide⟩), TR.nil _ _, Nat.le_refl _⟩, by simp⟩
        · exact old r (List.mem_of_mem_drop hr)
    have hl4 : (rows.take k ++ ⟨⟨n, 1, []⟩, none, 0⟩ :: rows.drop k).length ≤ 1000 := by simp; omega
    have em : (rows.take k ++ (⟨⟨n, 1, []⟩, none, 0⟩ : MRow) :: rows.drop k).map MRow.m = il := by
      rw [KI.out.1, ← HE.out]; simp [List.map_take, List.map_drop]
    have C7 := Lib.hid (C5.out A4 _ ((rows.take k ++ (⟨⟨n, 1, []⟩, none, 0⟩ : MRow) :: rows.drop k).map mrowV).length c4 w4 (by simp) ⟨hR4, fun r hr => (hq4 r hr).1⟩ hl4 (fun r hr => (hq4 r hr).2))
    rw [em] at C7
    generalize (List.map mrowV (rows.take k ++ (⟨⟨n, 1, []⟩, none, 0⟩ : MRow) :: rows.drop k)).length = n4 at *
    clear hO4 hR4 hc4 hq4 hl4 em er b4 HM HE c0
    go_wp2_with fail
    refine C7.out.mono ?_
    rintro e w5 ⟨v5, rows5, rfl, e5, hO5, b5⟩
    have HB5 := Lib.hid (HB4.out.trans (b5.mono HB4.out.size))
    have HR5 := Lib.hid (own_memr hO5 e5)
    clear b5 hO5 e5
    go_wp2_with fail
    go_ret2
    exact ⟨_, by rw [HX.out.1] <;> rfl, by rw [HX.out.2]; exact HR5.out, HB5.out⟩
  · obtain ⟨e1, e2⟩ := @ad_bad l n hc
    rw [e1, e2]
    have hd : (MM.checkE l != 0) = true := by simpa using hc
    generalize MM.checkE l = y at *
    clear C1 C2 e1 e2 hc HG0
    go_enter Try.func20, Try.ntmps20
    go_wp2_with fail
    refine (C0.out _ (HI.out.below HB0.out)).mono ?_
    rintro e w1 ⟨rfl, b1⟩
    have HB1 := Lib.hid (HB0.out.trans (b1.mono HB0.out.size))
    clear b1 HB0 HI
    go_wp2_with fail
    go_ret2
    exact ⟨_, rfl, MemR.nil _, HB1.out⟩
end Go.Proofs.Ytlnllbcpbohahaa

/- Contracts of layer 11: Status, May. -/
namespace Go.Proofs.Ytlnllbcpbohahaa
open Go.RowKit Go.Recs
set_option linter.unusedVariables false
set_option linter.unusedSimpArgs false

theorem st_bad {l : List MM.Mem} {n : ByteArray} {s : Int} (h : MM.checkE l ≠ 0) : MM.statE l n s = MM.checkE l ∧ MM.statL l n s = [] := by
  have e : MM.statE l n s = MM.checkE l := by unfold MM.statE; rw [if_pos h]
  exact ⟨e, by unfold MM.statL; rw [e, if_neg h]⟩
theorem st_none {l : List MM.Mem} {n : ByteArray} {s : Int} (h : MM.checkE l = 0) (h2 : MM.pl l n = none) : MM.statE l n s = 20 ∧ MM.statL l n s = [] := by
  have e : MM.statE l n s = 20 := by unfold MM.statE; rw [if_neg (by simp [h]), h2]
  exact ⟨e, by unfold MM.statL; rw [e, if_neg (by decide)]⟩
theorem st_no {l : List MM.Mem} {n : ByteArray} {s : Int} {i : Nat} (h : MM.checkE l = 0) (h2 : MM.pl l n = some i) (h3 : MM.leads (MM.mAt l i).status s = false) : MM.statE l n s = 13 ∧ MM.statL l n s = [] := by
  have e : MM.statE l n s = 13 := by unfold MM.statE; rw [if_neg (by simp [h]), h2]; simp [h3]
  exact ⟨e, by unfold MM.statL; rw [e, if_neg (by decide)]⟩
theorem st_yes {l : List MM.Mem} {n : ByteArray} {s : Int} {i : Nat} (h : MM.checkE l = 0) (h2 : MM.pl l n = some i) (h3 : MM.leads (MM.mAt l i).status s = true) : MM.statE l n s = 0 ∧ MM.statL l n s = l.set i { MM.mAt l i with status := s } := by
  have e : MM.statE l n s = 0 := by unfold MM.statE; rw [if_neg (by simp [h]), h2]; simp [h3]
  exact ⟨e, MM.stat_list e h2⟩

/-- the rows of a list of members, one turned -/
theorem rows_get {rows : List MRow} {l : List MM.Mem} (h : rows.map MRow.m = l) {i : Nat} (hi : i < rows.length) : rows[i].m = MM.mAt l i := by
  subst h
  rw [MM.mAt_get (by simpa using hi)]; simp

set_option maxHeartbeats 8000000 in
theorem pstat_any (A : Option Addr) (l : List MM.Mem) (cap : Nat) (n : ByteArray) (s : Int) (w : World) (hI : Mems w A l) (hs : i64 s) :
    Calls Try.prog 24 #[.slice A l.length cap, .string n, .int .i64 s] w fun e w' => ∃ v, e = .returned (.tuple #[v, .int .i64 (MM.statE l n s)]) ∧ MemR w' v (MM.statL l n s) ∧ Below w.heap.size w w' := by
  have hlen := hI.len
  have HI := Lib.hid hI
  have C0 := Lib.hid (fun ww h => mcheck_any A l cap ww h)
  have C2 := Lib.hid (fun ww h => mpl_any A l cap n ww h)
  clear hI
  by_cases hc : MM.checkE l = 0
  · obtain ⟨hs1, hs2⟩ := small_rows hc
    have HS2 := Lib.hid hs2
    have C5 := Lib.hid (fun A' rows' n' cap' ww h1 h2 h3 h4 => mown_any A' rows' n' cap' ww h1 h2 h3 h4)
    rw [hc] at C0
    cases hp : MM.pl l n with
    | none =>
      obtain ⟨e1, e2⟩ := @st_none l n s hc hp
      rw [e1, e2]
      rw [hp] at C2
      clear e1 e2 hp hc C5
      have ex : plN none l.length = (l.length : Int) := rfl
      rw [ex] at C2
      go_enter Try.func24, Try.ntmps24
      go_wp2_with fail
      refine (C0.out _ HI.out).mono ?_
      rintro e w1 ⟨rfl, b1⟩
      have HB1 := Lib.hid b1
      clear b1
      go_wp2_with fail
      refine (C2.out _ (HI.out.below HB1.out)).mono ?_
      rintro e w2 ⟨rfl, b2⟩
      have HB2 := Lib.hid (HB1.out.trans (b2.mono HB1.out.size))
      clear b2
      go_wp2_with fail
      go_ret2
      exact ⟨_, rfl, MemR.nil _, HB2.out⟩
    | some i =>
      obtain ⟨hi, -⟩ := MM.pl_some hp
      have K1 := Lib.hid (@st_no l n s i hc hp); have K2 := Lib.hid (@st_yes l n s i hc hp)
      have C3 := Lib.hid (fun ww => leads_any (MM.mAt l i).status s ww)
      rw [hp] at C2
      have ex : plN (some i) l.length = (i : Int) := rfl
      rw [ex] at C2
      clear hp hc ex
      generalize MM.statE l n s = r at *
      generalize MM.statL l n s = out at *
      go_enter Try.func24, Try.ntmps24
      go_wp2_with fail
      refine (C0.out _ HI.out).mono ?_
      rintro e w1 ⟨rfl, b1⟩
      have HB1 := Lib.hid b1
      clear b1
      go_wp2_with fail
      refine (C2.out _ (HI.out.below HB1.out)).mono ?_
      rintro e w2 ⟨rfl, b2⟩
      have HB2 := Lib.hid (HB1.out.trans (b2.mono HB1.out.size))
      clear b2 HB1 C0 C2
      have HI2 := Lib.hid (HI.out.below HB2.out)
      obtain ⟨b, off, A', cap', m, eA, hb, HV, q1, q2, q3, q4, d0, d1, d2⟩ := HI2.out.get hi
      have hA2 : A = some ⟨b, off, none⟩ := eA
      subst hA2
      rw [HV.out] at C3 K1 K2
      generalize MM.leads m.status s = lb at *
      clear q1 q2 q3 q4 eA
      go_wp2_with fail
      refine (C3.out _).mono ?_
      rintro e w3 ⟨rfl, rfl⟩
      cases lb
      · have HX := Lib.hid (K1.out (by trivial))
        go_wp2_with fail
        go_ret2
        exact ⟨_, by rw [HX.out.1] <;> rfl, by rw [HX.out.2]; exact MemR.nil _, HB2.out⟩
      have HX := Lib.hid (K2.out (by trivial))
      obtain ⟨rows, he, hM⟩ := HI2.out
      have hrl : rows.length = l.length := by rw [← he]; simp
      have C7 := Lib.hid (C5.out (some ⟨b, off, none⟩) rows l.length cap w2 hrl.symm hM (by omega) (fun r hr => by
        have := HS2.out r.m (by rw [← he]; exact List.mem_map.2 ⟨r, hr, rfl⟩)
        omega))
      rw [he] at C7
      clear he hM hrl K1 K2 C5 rows d0 d1 d2
      go_wp2_with fail
      refine C7.out.mono ?_
      rintro e w5 ⟨v5, rows5, rfl, e5, hO5, b5⟩
      have HB5 := Lib.hid (HB2.out.trans (b5.mono HB2.out.size))
      have h5l : rows5.length = l.length := by rw [← e5]; simp
      rcases hO5.1.form with ⟨-, e0⟩ | ⟨g, c, rfl, hB, hg, hcc⟩
      · have : rows5.length = 0 := by simpa using congrArg List.length e0
        omega
      rw [List.length_map, h5l] at hO5 ⊢
      have hi5 : i < rows5.length := by omega
      have d1 : w5.cell? ⟨g, i * 3 + 1, none⟩ = some (.int .i64 rows5[i].m.status) := by
        have := hO5.1.cell (i := i) (j := 1) (by simpa using hi5) (by omega)
        rw [getD_rows hi5] at this
        exact this
      have f1 := hO5.1.frozen (i * 3 + 1)
      have hset := hO5.setS hi5 hs
      have emm : (rows5.set i ⟨{ rows5[i].m with status := s }, rows5[i].A, rows5[i].cap⟩).map MRow.m = l.set i { m with status := s } := by
        rw [List.map_set, e5]
        show l.set i { rows5[i].m with status := s } = _
        rw [rows_get e5 hi5, HV.out]
      have HR := Lib.hid (own_memr hset emm)
      have HB6 := Lib.hid (HB5.out.setCell (p := ⟨g, i * 3 + 1, none⟩) (show w.heap.size ≤ g by have := HB2.out.size; omega) (.int .i64 s))
      generalize rows5[i].m.status = s5 at *
      clear hset emm hO5 b5 e5 hcc C7
      go_wp2_with fail
      go_ret2
      exact ⟨_, by rw [HX.out.1] <;> rfl, by rw [HX.out.2]; exact HR.out, HB6.out⟩
  · obtain ⟨e1, e2⟩ := @st_bad l n s hc
    rw [e1, e2]
    have hd : (MM.checkE l != 0) = true := by simpa using hc
    generalize MM.checkE l = y at *
    clear C2 e1 e2 hc
    go_enter Try.func24, Try.ntmps24
    go_wp2_with fail
    refine (C0.out _ HI.out).mono ?_
    rintro e w1 ⟨rfl, b1⟩
    have HB1 := Lib.hid b1
    clear b1 HI
    go_wp2_with fail
    go_ret2
    exact ⟨_, rfl, MemR.nil _, HB1.out⟩
end Go.Proofs.Ytlnllbcpbohahaa
