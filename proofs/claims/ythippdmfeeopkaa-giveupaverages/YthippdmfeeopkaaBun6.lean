/- Put together: TrdBox, RecsCat, MemCells, RecsCut, GivA, PartCells, GivB, MapEnt. -/
import Derived.Test.YthippdmfeeopkaaBun5
import Derived.Test.YthippdmfeeopkaaBun4
import Derived.Test.YthippdmfeeopkaaBun1
import Derived.ArgAppend
import Derived.Deep.RegionLawGrows
import Derived.Test.YthippdmfeeopkaaBun3
import Derived.BigQuiet
import Derived.WalkMore
import Derived.Maps.OwnOps
import Derived.Maps.RangeWalk
import Derived.DeepKeys4
import Derived.WideKeyEntry
/- A trade in a box and in slices. -/
namespace Go.Proofs.Ythippdmfeeopkaa
open Go.RowKit Go.Recs
set_option linter.unusedVariables false
set_option linter.unusedSimpArgs false
abbrev trdA (t : TM.Trd) : Value := .agg #[.int .i64 t.id, .int .i64 t.day, .int .i64 t.time, .string t.ser.prod, .int .i64 t.ser.kind, .int .i64 t.ser.expiry, .int .i64 t.ser.strike, .int .i64 t.qty, .int .i64 t.price, .string t.bm, .string t.bn, .string t.sm, .string t.sn]
abbrev trdC (t : TM.Trd) : Array Value := #[.int .i64 t.id, .int .i64 t.day, .int .i64 t.time, .string t.ser.prod, .int .i64 t.ser.kind, .int .i64 t.ser.expiry, .int .i64 t.ser.strike, .int .i64 t.qty, .int .i64 t.price, .string t.bm, .string t.bn, .string t.sm, .string t.sn]
theorem info_trd : (Try.prog.info? 45).map (fun i => (i.zero, i.size, i.bytes)) = some (some (trdA TM.zero), 13, 144) := by kernel_rfl
end Go.Proofs.Ythippdmfeeopkaa

/- 's = append(s, l...)', l a slice of records. Over any program. -/
namespace Go.Recs
open Go.RowKit
set_option linter.unusedVariables false
set_option linter.unusedSimpArgs false

theorem run_catR {P : Program} (w : World) (B : Nat) (rows more : List (List Value)) (ts t ty : TypeId) (sz bytes : Nat) (z : Value)
    (hu : P.underlying ts = some (.slice t)) (hinfo : (P.info? t).map (fun i => (i.zero, i.size, i.bytes)) = some (some z, sz, bytes)) (hz : z.cells.size = sz) (h0 : 0 < sz)
    (v : Value) (hown : OwnR w B t sz v rows) (A : Option Addr) (c : Nat) (hm : Recs w A sz more) (h1 : ∀ r ∈ more, ∀ u ∈ r, u.oneCell' = true)
    (hl : (rows.length + more.length) * bytes ≤ 140737488355328) (hmx : rows.length + more.length ≤ maxLen) (hB : B ≤ w.heap.size) :
    ∃ v' w', (Builtin.append_ #[ts, ts] ty #[v, .slice A more.length c]).run P w = .ok v' w' ∧ OwnR w' B t sz v' (rows ++ more) ∧ w.grownBy w' v.ownBlock := by
  obtain ⟨i0, hi, hz0, hz1, hz2⟩ := info_parts hinfo
  have hrr : ∀ r ∈ rows ++ more, r.length = sz := by
    intro r hr
    rcases List.mem_append.1 hr with hr | hr
    · exact hown.1 r hr
    · exact hm.2.1 r hr
  have key : ∀ ad, A = some ad → ∃ v' w', (Builtin.append_ #[ts, ts] ty #[v, .slice A more.length c]).run P w = .ok v' w' ∧ OwnR w' B t sz v' (rows ++ more) ∧ w.grownBy w' v.ownBlock := by
    rintro ad rfl
    have hcells : ∀ j u, more.flatten[j]? = some u → w.cell? (ad.add j) = some u := by
      intro j u hj
      rcases hm.2.2 with e | ⟨b, off, e, hb, hcell⟩
      · subst e; simp at hj
      · injection e with e
        subst e
        have hlt : j < more.flatten.length := by
          rcases Nat.lt_or_ge j more.flatten.length with h | h
          · exact h
          · rw [List.getElem?_eq_none h] at hj; cases hj
        rw [flat_len hm.2.1] at hlt
        have hi' : j / sz < more.length := Nat.div_lt_of_lt_mul (by rw [Nat.mul_comm]; exact hlt)
        have hj' : j % sz < sz := Nat.mod_lt _ h0
        have ej : j / sz * sz + j % sz = j := by rw [Nat.mul_comm]; exact Nat.div_add_mod j sz
        have e := flat_at hm.2.1 (j / sz) (j % sz) hi' hj'
        have e2 := hcell (j / sz) (j % sz) hi' hj'
        rw [ej] at e e2
        rw [add_at, e2, ← e, hj]
    obtain ⟨v', w', hr, h2, h3, _, _⟩ := run_append_own_at (P := P) w B ts ty t i0 z sz bytes hu hi hz0 hz1 hz2 hz h0 v rows.length rows.flatten hown.2 ad more.length c more.flatten
      (flat_len hm.2.1) hcells (fun u hu => by obtain ⟨r, hr, hur⟩ := List.mem_flatten.1 hu; exact h1 r hr u hur) hmx hl hB
    refine ⟨v', w', hr, ⟨hrr, ?_⟩, h3⟩
    rw [List.length_append, List.flatten_append]
    exact h2
  cases A with
  | some ad => exact key ad rfl
  | none =>
    have : more = [] := by
      rcases hm.2.2 with h | ⟨b, off, e, _⟩
      · exact h
      · cases e
    subst this
    refine ⟨v, w, ?_, by simpa using hown, World.grownBy.refl w _⟩
    rcases hown.form with ⟨hv, _⟩ | ⟨g, cap, hv, _, _, hnc⟩ <;> rw [hv]
    · simp [Builtin.append_, run_underlying hu, sizeOf, typeInfo, hi, Builtin.lenOf, Builtin.firstCells]
    · simp [Builtin.append_, run_underlying hu, sizeOf, typeInfo, hi, Builtin.lenOf, Builtin.firstCells, storeCells]
      omega

theorem wpList_catR {P : Program} {ops : Array Oper} {rest : List Oper} {o : Oper} {a : Act} {Q : Exit → Act → World → Prop} (w : World) (B : Nat) (rows more : List (List Value)) (x y : Operand) (ts t : TypeId) (sz bytes : Nat) (z : Value)
    (hu : P.underlying ts = some (.slice t)) (hinfo : (P.info? t).map (fun i => (i.zero, i.size, i.bytes)) = some (some z, sz, bytes)) (hz : z.cells.size = sz) (h0 : 0 < sz)
    (hgd : o.guard = none) (ho : o.op = .call { callee := .builtin .append, args := #[x, y], argTypes := #[ts, ts] })
    (v : Value) (A : Option Addr) (n c : Nat) (hs : a.eval x = v) (hx : a.eval y = .slice A n c) (hn : n = more.length) (hown : OwnR w B t sz v rows) (hm : Recs w A sz more) (h1 : ∀ r ∈ more, ∀ u ∈ r, u.oneCell' = true)
    (hl : (rows.length + more.length) * bytes ≤ 140737488355328) (hmx : rows.length + more.length ≤ maxLen) (hB : B ≤ w.heap.size)
    (h : ∀ v' w', OwnR w' B t sz v' (rows ++ more) → Below B w w' → w.grownBy w' v.ownBlock → wpList P ops Q rest (a.put o.dst v') w') :
    wpList P ops Q (o :: rest) a w := by
  subst hn
  obtain ⟨v', w', hr, h2, h3⟩ := run_catR w B rows more ts t o.type sz bytes z hu hinfo hz h0 v hown A c hm h1 hl hmx hB
  refine wpList_plain hgd fun K hK => ?_
  unfold Oper.wp execOp
  simp only [ho, resolve, invoke, builtin, Sem.run_bind, Sem.run_pure, Result.andThen_ok, List.map_toArray, List.map_cons, List.map_nil, hs, hx, hr]
  exact hK _ _ (h v' w' h2 ((Below.refl B w).grown h3 hB (OwnR.block hown)) h3)
end Go.Recs

/- Members and their accounts in memory, over any program; rows of records with slices inside. -/
namespace Go.Recs
open Go.ChangeShapes Go.WideShapes Go.RowKit Go.Deep
set_option linter.unusedVariables false
section
variable {H : Type} {enc : TypeId × Value → H} {P : Program} {w : World} {base : Nat} {spare : Nat → Bool} {held : Bool}
/-- a slice whose records are read by R -/
theorem open_rows {t e : TypeId} {sz : Nat} {R : List Value → DataW H → Prop} {fuel : Nat} {cs : List Value} {x : DataW H × List MemPlace} (ht : P.underlying t = some (.slice e)) (hsz : P.cellsOf e = sz) (h0 : 0 < sz)
    (hR : ∀ k cs y, cs.length = sz → DataW.trod enc P w base spare held k e cs = some y → R cs y.1)
    (hf : DataW.trod enc P w base spare held fuel t cs = some x) :
    ∃ A cap rows, cs = [.slice A (List.length rows) cap] ∧ Recs w A sz rows ∧ rows.length ≤ cap ∧ ∃ ds sp, (x.1 = .nil ∧ rows = [] ∨ x.1 = .slice ds sp) ∧ ds.length = rows.length ∧ ∀ i, i < rows.length → R (rows.getD i []) (ds.getD i .nil) := by
  rcases open_slice ht hf with ⟨rfl, rfl⟩ | ⟨a, len, cap, m, k, D, Pl, rfl, hb, hl, hm, hmm, rfl, hrow⟩
  · exact ⟨none, 0, [], rfl, Recs.nil _ _ _, by simp, [], [], .inl ⟨rfl, rfl⟩, rfl, fun i hi => by simp at hi⟩
  · have hlm : len ≤ m := by rw [hmm]; split <;> omega
    rw [hsz] at hrow
    obtain ⟨Q, hQ⟩ := choose_lt (α := List Value) (n := len) (p := fun i cs => w.cells? base (a.add (i * sz)) sz = some cs ∧ R cs (D i)) (fun i hi => by
      obtain ⟨cs', h1, h2⟩ := hrow i (by omega)
      obtain ⟨_, hlen, _⟩ := World.cells?_some h1
      exact ⟨cs', h1, hR k cs' _ (by omega) h2⟩)
    have hlen : ((List.range len).map Q).length = len := by simp
    refine ⟨some a, cap, (List.range len).map Q, by rw [hlen], ?_, by rw [hlen]; exact hl, _, _, .inr rfl, by simp, ?_⟩
    · refine ⟨by rw [hlen]; omega, ?_, ?_⟩
      · intro q hq
        obtain ⟨i, hi, rfl⟩ := List.mem_map.1 hq
        obtain ⟨_, hli, _⟩ := World.cells?_some (hQ i (List.mem_range.1 hi)).1
        exact hli
      · rcases Nat.eq_zero_or_pos len with hz | hz
        · subst hz; exact .inl (by simp)
        · obtain ⟨b, off, spot⟩ := a
          obtain ⟨_, hl0, hc0⟩ := World.cells?_some (hQ 0 hz).1
          have hcc := hc0 0 (by omega)
          rw [List.getElem?_eq_getElem (show 0 < (Q 0).length by omega)] at hcc
          have hspot : spot = none := by simpa [Addr.add] using World.cell?_spot hcc
          subst hspot
          rw [Deep.add_add, add_at] at hcc
          refine .inr ⟨b, off, rfl, World.block_lt_of_cell? _ _ hcc, fun i j hi hj => ?_⟩
          have hi' : i < len := by rw [hlen] at hi; exact hi
          obtain ⟨_, hli, hci⟩ := World.cells?_some (hQ i hi').1
          have := hci j (by omega)
          rw [Deep.add_add, add_at] at this
          rw [this]
          simp [List.getD, hi']
    · intro i hi
      rw [hlen] at hi
      simpa [List.getD, hi] using (hQ i hi).2
end

def accV (a : MM.Ac) : List Value := [.string a.name, .int .i64 a.kind]
def accQ (a : MM.Ac) : Prop := a.name.size ≤ maxLen ∧ i64 a.kind
def accL : List Leaf := [.str, .int .i64]
theorem acc_row (r : List Value) (h : okAll accL r) : ∃ a : MM.Ac, r = accV a ∧ accQ a := by
  obtain ⟨c0, r0, rfl, ⟨s, rfl, hs⟩, g0⟩ := okAll_cons h
  obtain ⟨c1, r1, rfl, ⟨n1, rfl, h1⟩, g1⟩ := okAll_cons g0
  rw [okAll_nil g1]
  exact ⟨⟨s, n1⟩, rfl, hs, bounds_i64 h1⟩
abbrev Accs := TR accV accQ 2
def aAt (l : List MM.Ac) (k : Nat) : MM.Ac := l.getD k ⟨MM.nil, 0⟩
theorem aAt_get {l : List MM.Ac} {k : Nat} (h : k < l.length) : aAt l k = l[k] := by simp [aAt, List.getD, h]
theorem accs_get {w : World} {A : Option Addr} {l : List MM.Ac} (h : Accs w A l) {k : Nat} (hk : k < l.length) :
    ∃ b off, ∃ a : MM.Ac, A = some ⟨b, off, none⟩ ∧ b < w.heap.size ∧ Hid (aAt l k = a) ∧ accQ a ∧ w.cell? ⟨b, off + k * 2, none⟩ = some (.string a.name) ∧ w.cell? ⟨b, off + k * 2 + 1, none⟩ = some (.int .i64 a.kind) := by
  obtain ⟨b, off, rfl, hb, hq, hc⟩ := h.at_ hk
  exact ⟨b, off, l[k], rfl, hb, Lib.hid (aAt_get hk), hq, hc 0 (by omega), hc 1 (by omega)⟩

/-- a member's cells: where its accounts lie -/
structure MRow where
  m : MM.Mem
  A : Option Addr
  cap : Nat
def mrowV (r : MRow) : List Value := [.string r.m.name, .int .i64 r.m.status, .slice r.A r.m.accs.length r.cap]
def mrowQ (w : World) (r : MRow) : Prop := r.m.name.size ≤ maxLen ∧ i64 r.m.status ∧ Accs w r.A r.m.accs ∧ r.m.accs.length ≤ r.cap
theorem mrowQ.below {w w' : World} {r : MRow} (h : mrowQ w r) (hb : Below w.heap.size w w') : mrowQ w' r := ⟨h.1, h.2.1, h.2.2.1.below hb, h.2.2.2⟩
def MRows (w : World) (A : Option Addr) (rows : List MRow) : Prop := Recs w A 3 (rows.map mrowV) ∧ ∀ r ∈ rows, mrowQ w r
theorem MRows.below {w w' : World} {A : Option Addr} {rows : List MRow} (h : MRows w A rows) (hb : Below w.heap.size w w') : MRows w' A rows := ⟨h.1.below hb, fun r hr => (h.2 r hr).below hb⟩
/-- the slice at A holds the members l -/
def Mems (w : World) (A : Option Addr) (l : List MM.Mem) : Prop := ∃ rows : List MRow, rows.map MRow.m = l ∧ MRows w A rows
section
variable {w w' : World} {A : Option Addr} {l : List MM.Mem}
theorem Mems.below (h : Mems w A l) (hb : Below w.heap.size w w') : Mems w' A l := by
  obtain ⟨rows, e, hr⟩ := h
  exact ⟨rows, e, hr.below hb⟩
theorem Mems.nil (w : World) (A : Option Addr) : Mems w A [] := ⟨[], rfl, Recs.nil _ _ _, by simp⟩
theorem Mems.drewN (h : Mems w A l) (n : Nat) : Mems (w.drewN n) A l := h
theorem Mems.len (h : Mems w A l) : l.length ≤ 9223372036854775807 := by
  obtain ⟨rows, rfl, hr, _⟩ := h
  have := hr.len
  rw [List.length_map] at this ⊢
  exact this
/-- member k: where it lies, and its cells -/
theorem Mems.get (h : Mems w A l) {k : Nat} (hk : k < l.length) :
    ∃ b off A' cap', ∃ m : MM.Mem, A = some ⟨b, off, none⟩ ∧ b < w.heap.size ∧ Hid (MM.mAt l k = m) ∧ m.name.size ≤ maxLen ∧ i64 m.status ∧ Accs w A' m.accs ∧ m.accs.length ≤ cap' ∧
      w.cell? ⟨b, off + k * 3, none⟩ = some (.string m.name) ∧ w.cell? ⟨b, off + k * 3 + 1, none⟩ = some (.int .i64 m.status) ∧ w.cell? ⟨b, off + k * 3 + 2, none⟩ = some (.slice A' m.accs.length cap') := by
  obtain ⟨rows, rfl, hr, hq⟩ := h
  rw [List.length_map] at hk
  obtain ⟨b, off, rfl, hb, hc⟩ := hr.get (k := k) (by simpa using hk)
  have e : (rows.map mrowV).getD k [] = mrowV rows[k] := by simp [List.getD, hk]
  rw [e] at hc
  obtain ⟨q1, q2, q3, q4⟩ := hq rows[k] (List.getElem_mem hk)
  have e2 : MM.mAt (rows.map MRow.m) k = rows[k].m := by rw [MM.mAt_get (by simpa using hk)]; simp
  refine ⟨b, off, rows[k].A, rows[k].cap, rows[k].m, rfl, hb, Lib.hid e2, q1, q2, q3, q4, hc 0 (by omega), ?_, ?_⟩
  · rw [Nat.add_assoc]; exact hc 1 (by omega)
  · rw [Nat.add_assoc]; exact hc 2 (by omega)
end

/-- 's = append(l[:i:i], x)': the row is full, so a new one is made -/
theorem wpList_growR {P : Program} {ops : Array Oper} {rest : List Oper} {o : Oper} {a : Act} {Q : Exit → Act → World → Prop} (w : World) (x : List Value) (hx1 : ∀ u ∈ x, u.oneCell' = true) (rows : List (List Value)) (s y : Operand) (ts t : TypeId) (sz bytes : Nat) (z : Value)
    (hu : P.underlying ts = some (.slice t)) (hinfo : (P.info? t).map (fun i => (i.zero, i.size, i.bytes)) = some (some z, sz, bytes)) (hz : z.cells.size = sz) (h0 : 0 < sz) (hxl : x.length = sz)
    (hgd : o.guard = none) (ho : o.op = .call { callee := .builtin .append, args := #[s, y], argTypes := #[ts, ts] })
    (A : Option Addr) (n cap : Nat) (hn : n = rows.length) (hcap : cap = n) (hs : a.eval s = .slice A n cap) (hA : Recs w A sz rows) (hx : a.eval y = .slice (some ⟨w.heap.size, 0, none⟩) 1 1) (hl : (rows.length + 1) * bytes ≤ 140737488355328) (hm : rows.length + 1 ≤ maxLen)
    (h : ∀ v' w', OwnR w' w.heap.size t sz v' (rows ++ [x]) → Below w.heap.size w w' → wpList P ops Q rest (a.put o.dst v') w') :
    wpList P ops Q (o :: rest) a (w.alloc (.cells x.toArray t)) := by
  subst hn hcap
  obtain ⟨i0, hi, hz0, hz1, hz2⟩ := info_parts hinfo
  have hb0 : Below w.heap.size w (w.alloc (.cells x.toArray t)) := (Below.refl _ _).alloc (Nat.le_refl _) _
  have hA2 := hA.below hb0
  refine wpList_append_grows (w.alloc (.cells x.toArray t)) hgd s y ts ho t i0 z sz bytes hu hi hz0 hz1 hz2 hz h0 A rows.length rows.length rows.flatten hs ?_ (flat_len hA.2.1) ?_ ⟨w.heap.size, 0, none⟩ 1 1 x hx (by omega) ?_ hx1 (by omega) hm hl ?_
  · intro e
    rcases hA.2.2 with g | ⟨b, off, g, _⟩
    · rw [g]; simp
    · rw [e] at g; cases g
  · rintro b rfl j u hj
    rcases hA2.2.2 with e | ⟨b', off', e, hb, hcell⟩
    · subst e; simp at hj
    · injection e with e
      subst e
      have hlt : j < rows.flatten.length := by
        rcases Nat.lt_or_ge j rows.flatten.length with h | h
        · exact h
        · rw [List.getElem?_eq_none h] at hj; cases hj
      rw [flat_len hA.2.1] at hlt
      have hi' : j / sz < rows.length := Nat.div_lt_of_lt_mul (by rw [Nat.mul_comm]; exact hlt)
      have hj' : j % sz < sz := Nat.mod_lt _ h0
      have ej : j / sz * sz + j % sz = j := by rw [Nat.mul_comm]; exact Nat.div_add_mod j sz
      have e := flat_at hA.2.1 (j / sz) (j % sz) hi' hj'
      have e2 := hcell (j / sz) (j % sz) hi' hj'
      rw [ej] at e e2
      rw [add_at, e2, ← e, hj]
  · intro j u hj
    rw [add_at, Nat.zero_add]
    have hlt : j < x.length := by
      rcases Nat.lt_or_ge j x.length with g | g
      · exact g
      · rw [List.getElem?_eq_none g] at hj; cases hj
    have e : x.toArray[j]? = some u := by simpa using hj
    simp [e]
  · intro v' w' h1 h2
    have hr : ∀ r ∈ rows ++ [x], r.length = sz := by
      intro r hr
      rcases List.mem_append.1 hr with hr | hr
      · exact hA.2.1 r hr
      · rw [List.mem_singleton.1 hr]; exact hxl
    have ho : OwnR w' (w.heap.size + 1) t sz v' (rows ++ [x]) := ⟨hr, by simpa using h1⟩
    refine h v' w' (ho.lower (by omega)) (hb0.trans ((Below.refl _ _).grown h2 (by simp) (fun k hk => by cases hk)))

/-- an own row of records: one cell of one record written -/
theorem flat_set {sz : Nat} (h0 : 0 < sz) : ∀ {rows : List (List Value)} (i j : Nat) (u : Value), (∀ r ∈ rows, r.length = sz) → i < rows.length → j < sz → rows.flatten.set (i * sz + j) u = (rows.set i ((rows.getD i []).set j u)).flatten := by
  intro rows
  induction rows with
  | nil => intro i j u _ hi; simp at hi
  | cons r rows ih =>
    intro i j u hr hi hj
    have hl := hr r (by simp)
    cases i with
    | zero =>
      rw [Nat.zero_mul, Nat.zero_add, List.flatten_cons, List.set_append_left _ _ (by omega)]
      simp [List.getD]
    | succ i =>
      rw [Nat.succ_mul, List.flatten_cons, List.set_append_right _ _ (by omega), show i * sz + sz + j - r.length = i * sz + j by omega,
        ih i j u (fun q hq => hr q (by simp [hq])) (by simpa using hi) hj]
      simp [List.getD]
theorem OwnR.set_ {w : World} {B g n cap : Nat} {t : TypeId} {sz : Nat} {rows : List (List Value)} (h : OwnR w B t sz (.slice (some ⟨g, 0, none⟩) n cap) rows) (h0 : 0 < sz) {i j : Nat} (hi : i < rows.length) (hj : j < sz) (u : Value) :
    OwnR (w.setCell ⟨g, i * sz + j, none⟩ u) B t sz (.slice (some ⟨g, 0, none⟩) n cap) (rows.set i ((rows.getD i []).set j u)) := by
  have hn : n = rows.length := by
    rcases h.2.2 with ⟨h0, _⟩ | ⟨g', cap', cur, h0, _⟩
    · cases h0
    · injection h0
  subst hn
  have := (World.ownsRow.stored h.2 (i * sz + j) u).1
  refine ⟨?_, ?_⟩
  · intro r hr
    rcases List.mem_or_eq_of_mem_set hr with hr | rfl
    · exact h.1 r hr
    · rw [List.length_set]
      have : rows.getD i [] ∈ rows := by simp [List.getD, hi]
      exact h.1 _ this
  · rw [List.length_set, ← flat_set h0 i j u h.1 hi hj]
    exact this
theorem OwnR.frozen {w : World} {B g n cap : Nat} {t : TypeId} {sz : Nat} {rows : List (List Value)} (h : OwnR w B t sz (.slice (some ⟨g, 0, none⟩) n cap) rows) (i : Nat) : w.frozen? ⟨g, i, none⟩ = false := by
  have hn : n = rows.length := by
    rcases h.2.2 with ⟨h0, _⟩ | ⟨g', cap', cur, h0, _⟩
    · cases h0
    · injection h0
  subst hn
  exact World.ownsRow.frozenAt h.2 i
theorem OwnR.far {w : World} {B g n cap : Nat} {t : TypeId} {sz : Nat} {rows : List (List Value)} (h : OwnR w B t sz (.slice (some ⟨g, 0, none⟩) n cap) rows) {p : Addr} (hp : g ≠ p.block) (u : Value) :
    OwnR (w.setCell p u) B t sz (.slice (some ⟨g, 0, none⟩) n cap) rows := by
  refine ⟨h.1, h.2.1, ?_⟩
  rcases h.2.2 with ⟨h0, _⟩ | ⟨g', cap', cur, h0, hB, hh, r⟩
  · cases h0
  · refine .inr ⟨g', cap', cur, h0, hB, ?_, r⟩
    have : g' = g := by injection h0 with h1; injection h1 with h1; injection h1 with h1; exact h1.symm
    subst this
    rw [Below.heap_setCell w p u _ hp]; exact hh
end Go.Recs

/- Parts of slices of records, and appends in regions that draw, over any program. -/
namespace Go.Recs
open Go.RowKit
set_option linter.unusedVariables false
set_option linter.unusedSimpArgs false
/-- where a part of a slice lies -/
def cutR (A : Option Addr) (m lo sz : Nat) : Option Addr := if m = lo then A else A.map (·.add (lo * sz))
theorem Recs.cut {w : World} {A : Option Addr} {sz : Nat} {rows : List (List Value)} (h : Recs w A sz rows) {m lo hi : Nat} (h1 : lo ≤ hi) (h2 : hi ≤ rows.length) (h3 : hi ≤ m) : Recs w (cutR A m lo sz) sz ((rows.take hi).drop lo) := by
  by_cases hz : lo = hi
  · have : (rows.take hi).drop lo = [] := by rw [List.drop_eq_nil_iff, List.length_take]; omega
    rw [this]; exact Recs.nil _ _ _
  · unfold cutR
    rw [if_neg (by omega)]
    have hl : ((rows.take hi).drop lo).length = hi - lo := by rw [List.length_drop, List.length_take]; omega
    refine ⟨by rw [hl]; have := h.1; omega, fun r hr => h.2.1 r (List.mem_of_mem_take (List.mem_of_mem_drop hr)), ?_⟩
    rcases h.2.2 with h | ⟨b, off, rfl, hb, hc⟩
    · subst h; simp at h2; omega
    · refine .inr ⟨b, off + lo * sz, by simp [add_at], hb, fun i j hi' hj => ?_⟩
      rw [hl] at hi'
      have := hc (lo + i) j (by omega) hj
      rw [Nat.add_mul] at this
      rw [show off + lo * sz + (i * sz + j) = off + (lo * sz + i * sz + j) by omega, this]
      have e : ((rows.take hi).drop lo).getD i [] = rows.getD (lo + i) [] := by
        have h1 : lo + i < rows.length := by omega
        have h2 : lo + i < hi := by omega
        simp [List.getD, h1, h2, List.getElem?_take]
      rw [e]
theorem run_fromR {P : Program} {ts t : TypeId} {sz bytes : Nat} {z : Value} (hu : P.underlying ts = some (.slice t)) (hinfo : (P.info? t).map (fun i => (i.zero, i.size, i.bytes)) = some (some z, sz, bytes)) {A : Option Addr} {n cap lo : Nat} (h : lo ≤ n) (w : World) :
    (Instr.slice ts (.slice A n cap) (some (.int .i64 (lo : Int))) none none).run P w = .ok (.slice (cutR A cap lo sz) (n - lo) (cap - lo)) w := by
  obtain ⟨i0, hi, hz0, hz1, hz2⟩ := info_parts hinfo
  have h0 : (0 : Int) ≤ (lo : Int) ∧ (lo : Int) ≤ (n : Int) := by omega
  simp [Instr.slice, Instr.sliceBounds, Instr.sliceBound, asIntOf, run_underlying hu, sizeOf, typeInfo, hi, hz1, h0, cutR]
  intro hc; omega
theorem run_full {P : Program} {ts t : TypeId} {sz bytes : Nat} {z : Value} (hu : P.underlying ts = some (.slice t)) (hinfo : (P.info? t).map (fun i => (i.zero, i.size, i.bytes)) = some (some z, sz, bytes)) {A : Option Addr} {n cap k : Nat} (h : k ≤ cap) (w : World) :
    (Instr.slice ts (.slice A n cap) none (some (.int .i64 (k : Int))) (some (.int .i64 (k : Int)))).run P w = .ok (.slice (cutR A k 0 sz) k k) w := by
  obtain ⟨i0, hi, hz0, hz1, hz2⟩ := info_parts hinfo
  have h0 : (0 : Int) ≤ (k : Int) ∧ (k : Int) ≤ (cap : Int) := by omega
  have h1 : (0 : Int) ≤ (k : Int) ∧ (k : Int) ≤ (k : Int) := by omega
  simp [Instr.slice, Instr.sliceBounds, Instr.sliceBound, asIntOf, run_underlying hu, sizeOf, typeInfo, hi, hz1, h0, h1, cutR]
  all_goals (try (intro hc; omega))
theorem run_toR {P : Program} {ts t : TypeId} {sz bytes : Nat} {z : Value} (hu : P.underlying ts = some (.slice t)) (hinfo : (P.info? t).map (fun i => (i.zero, i.size, i.bytes)) = some (some z, sz, bytes)) {A : Option Addr} {n cap k : Nat} (h : k ≤ cap) (w : World) :
    (Instr.slice ts (.slice A n cap) none (some (.int .i64 (k : Int))) none).run P w = .ok (.slice (cutR A cap 0 sz) k cap) w := by
  obtain ⟨i0, hi, hz0, hz1, hz2⟩ := info_parts hinfo
  have h0 : (0 : Int) ≤ (k : Int) ∧ (k : Int) ≤ (cap : Int) := by omega
  simp [Instr.slice, Instr.sliceBounds, Instr.sliceBound, asIntOf, run_underlying hu, sizeOf, typeInfo, hi, hz1, h0, cutR]
  all_goals (try (intro hc; omega))

theorem step_growR {P : Program} {ops : Array Oper} {o : Oper} {a : Act} {K : Act → World → Prop} {Q : Exit → Act → World → Prop} {E : Prop} (w : World) (x : List Value) (hx1 : ∀ u ∈ x, u.oneCell' = true) (rows : List (List Value)) (s y : Operand) (ts t : TypeId) (sz bytes : Nat) (z : Value)
    (hu : P.underlying ts = some (.slice t)) (hinfo : (P.info? t).map (fun i => (i.zero, i.size, i.bytes)) = some (some z, sz, bytes)) (hz : z.cells.size = sz) (h0 : 0 < sz) (hxl : x.length = sz)
    (hgd : o.guard = none) (ho : o.op = .call { callee := .builtin .append, args := #[s, y], argTypes := #[ts, ts] })
    (A : Option Addr) (n cap : Nat) (hs : a.eval s = .slice A n cap) (hx : a.eval y = .slice (some ⟨w.heap.size, 0, none⟩) 1 1) (hn : n = rows.length) (hcap : cap = n) (hA : Recs w A sz rows) (hl : (rows.length + 1) * bytes ≤ 140737488355328) (hm : rows.length + 1 ≤ maxLen)
    (h : ∀ v' w', OwnR w' w.heap.size t sz v' (rows ++ [x]) → Below w.heap.size w w' → K (a.put o.dst v') w') :
    if Region.wanted o (yielded ops a.tmps) = true then Oper.wp P o a (w.alloc (.cells x.toArray t)) K Q else E := by
  subst hn hcap
  obtain ⟨i0, hi, hz0, hz1, hz2⟩ := info_parts hinfo
  have hb0 : Below w.heap.size w (w.alloc (.cells x.toArray t)) := (Below.refl _ _).alloc (Nat.le_refl _) _
  have hA2 := hA.below hb0
  refine step_append_grows hgd s y ts ho t i0 z sz bytes hu hi hz0 hz1 hz2 hz h0 A rows.length rows.length rows.flatten hs ?_ (flat_len hA.2.1) ?_ ⟨w.heap.size, 0, none⟩ 1 1 x hx (by omega) ?_ hx1 (by omega) hm hl ?_
  · intro e
    rcases hA.2.2 with g | ⟨b, off, g, _⟩
    · rw [g]; simp
    · rw [e] at g; cases g
  · rintro b rfl j u hj
    rcases hA2.2.2 with e | ⟨b', off', e, hb, hcell⟩
    · subst e; simp at hj
    · injection e with e
      subst e
      have hlt : j < rows.flatten.length := by
        rcases Nat.lt_or_ge j rows.flatten.length with h | h
        · exact h
        · rw [List.getElem?_eq_none h] at hj; cases hj
      rw [flat_len hA.2.1] at hlt
      have hi' : j / sz < rows.length := Nat.div_lt_of_lt_mul (by rw [Nat.mul_comm]; exact hlt)
      have hj' : j % sz < sz := Nat.mod_lt _ h0
      have ej : j / sz * sz + j % sz = j := by rw [Nat.mul_comm]; exact Nat.div_add_mod j sz
      have e := flat_at hA.2.1 (j / sz) (j % sz) hi' hj'
      have e2 := hcell (j / sz) (j % sz) hi' hj'
      rw [ej] at e e2
      rw [add_at, e2, ← e, hj]
  · intro j u hj
    rw [add_at, Nat.zero_add]
    have hlt : j < x.length := by
      rcases Nat.lt_or_ge j x.length with g | g
      · exact g
      · rw [List.getElem?_eq_none g] at hj; cases hj
    have e : x.toArray[j]? = some u := by simpa using hj
    simp [e]
  · intro v' w' h1 h2
    have hr : ∀ r ∈ rows ++ [x], r.length = sz := by
      intro r hr
      rcases List.mem_append.1 hr with hr | hr
      · exact hA.2.1 r hr
      · rw [List.mem_singleton.1 hr]; exact hxl
    have ho : OwnR w' (w.heap.size + 1) t sz v' (rows ++ [x]) := ⟨hr, by simpa using h1⟩
    refine h v' w' (ho.lower (by omega)) (hb0.trans ((Below.refl _ _).grown h2 (by simp) (fun k hk => by cases hk)))

theorem step_catR {P : Program} {ops : Array Oper} {o : Oper} {a : Act} {K : Act → World → Prop} {Q : Exit → Act → World → Prop} {E : Prop} (w : World) (B : Nat) (rows more : List (List Value)) (x y : Operand) (ts t : TypeId) (sz bytes : Nat) (z : Value)
    (hu : P.underlying ts = some (.slice t)) (hinfo : (P.info? t).map (fun i => (i.zero, i.size, i.bytes)) = some (some z, sz, bytes)) (hz : z.cells.size = sz) (h0 : 0 < sz)
    (hgd : o.guard = none) (ho : o.op = .call { callee := .builtin .append, args := #[x, y], argTypes := #[ts, ts] })
    (v : Value) (A : Option Addr) (n c : Nat) (hs : a.eval x = v) (hx : a.eval y = .slice A n c) (hn : n = more.length) (hown : OwnR w B t sz v rows) (hm : Recs w A sz more) (h1 : ∀ r ∈ more, ∀ u ∈ r, u.oneCell' = true)
    (hl : (rows.length + more.length) * bytes ≤ 140737488355328) (hmx : rows.length + more.length ≤ maxLen) (hB : B ≤ w.heap.size)
    (h : ∀ v' w', OwnR w' B t sz v' (rows ++ more) → Below B w w' → K (a.put o.dst v') w') :
    if Region.wanted o (yielded ops a.tmps) = true then Oper.wp P o a w K Q else E := by
  subst hn
  have hw : Region.wanted o (yielded ops a.tmps) = true := by simp [Region.wanted, hgd]
  rw [if_pos hw]
  obtain ⟨v', w', hr, h2, h3⟩ := run_catR w B rows more ts t o.type sz bytes z hu hinfo hz h0 v hown A c hm h1 hl hmx hB
  unfold Oper.wp
  simp [execOp, ho, resolve, invoke, builtin, hs, hx, hr, Result.andThen]
  exact h v' w' h2 ((Below.refl B w).grown h3 hB (OwnR.block hown))

/-- the records are not in block g -/
def Apart {α : Type} (g : Nat) (A : Option Addr) (l : List α) : Prop := l = [] ∨ ∃ b off, A = some ⟨b, off, none⟩ ∧ b ≠ g
theorem TR.apart {α : Type} {f : α → List Value} {Q : α → Prop} {sz : Nat} {w : World} {A : Option Addr} {l : List α} (h : TR f Q sz w A l) {g : Nat} (hg : w.heap.size ≤ g) : Apart g A l := by
  rcases h.1.2.2 with e | ⟨b, off, rfl, hb, _⟩
  · exact .inl (by simpa using e)
  · exact .inr ⟨b, off, rfl, by omega⟩
theorem TR.set_ {α : Type} {f : α → List Value} {Q : α → Prop} {sz : Nat} {w : World} {A : Option Addr} {l : List α} (h : TR f Q sz w A l) {g i : Nat} (ha : Apart g A l) (u : Value) : TR f Q sz (w.setCell ⟨g, i, none⟩ u) A l := by
  rcases ha with rfl | ⟨b, off, rfl, hb⟩
  · exact TR.nil _ _
  · obtain ⟨⟨h1, h2, h3⟩, h4⟩ := h
    refine ⟨⟨h1, h2, ?_⟩, h4⟩
    rcases h3 with e | ⟨b', off', e, hb', hc⟩
    · exact .inl e
    · injection e with e
      injection e with e1 e2
      subst e1 e2
      refine .inr ⟨b, off, rfl, by simpa using hb', fun i' j hi hj => ?_⟩
      rw [← hc i' j hi hj]
      unfold World.cell?
      rw [Below.heap_setCell w ⟨g, i, none⟩ u b hb]

/-- a slice of members that the call itself made: its accounts lie elsewhere -/
def OwnM (t : TypeId) (w : World) (B : Nat) (v : Value) (rows : List MRow) : Prop := OwnR w B t 3 v (rows.map mrowV) ∧ ∀ r ∈ rows, mrowQ w r ∧ ∀ g, v.ownBlock = some g → Apart g r.A r.m.accs
section
variable {t : TypeId} {w w' : World} {B : Nat} {v : Value} {rows : List MRow}
theorem OwnM.below (h : OwnM t w B v rows) (hb : Below w.heap.size w w') : OwnM t w' B v rows := ⟨h.1.below hb, fun r hr => ⟨(h.2 r hr).1.below hb, (h.2 r hr).2⟩⟩
theorem OwnM.mems (h : OwnM t w B v rows) : ∃ A cap, v = .slice A (rows.map MRow.m).length cap ∧ Mems w A (rows.map MRow.m) ∧ (rows.map MRow.m).length ≤ cap := by
  obtain ⟨A, cap, rfl, hr, hc⟩ := h.1.recs
  refine ⟨A, cap, by simp, ⟨rows, rfl, hr, fun r hr => (h.2 r hr).1⟩, by simpa using hc⟩
theorem getD_rows {k : Nat} (hk : k < rows.length) : (rows.map mrowV).getD k [] = mrowV rows[k] := by simp [List.getD, hk]
/-- member k gets other accounts -/
theorem OwnM.setA {g n c : Nat} (h : OwnM t w B (.slice (some ⟨g, 0, none⟩) n c) rows) {k : Nat} (hk : k < rows.length) {A' : Option Addr} {al : List MM.Ac} {cap' : Nat} (hA : Accs w A' al) (hc : al.length ≤ cap') (ha : Apart g A' al) :
    OwnM t (w.setCell ⟨g, k * 3 + 2, none⟩ (.slice A' al.length cap')) B (.slice (some ⟨g, 0, none⟩) n c) (rows.set k ⟨{ rows[k].m with accs := al }, A', cap'⟩) := by
  refine ⟨?_, ?_⟩
  · have := h.1.set_ (by omega) (i := k) (j := 2) (by simpa using hk) (by omega) (.slice A' al.length cap')
    rw [getD_rows hk] at this
    rw [List.map_set]
    exact this
  · intro r hr
    rcases List.mem_or_eq_of_mem_set hr with hr | rfl
    · obtain ⟨⟨q1, q2, q3, q4⟩, q5⟩ := h.2 r hr
      exact ⟨⟨q1, q2, q3.set_ (q5 g rfl) _, q4⟩, q5⟩
    · obtain ⟨⟨q1, q2, q3, q4⟩, q5⟩ := h.2 rows[k] (List.getElem_mem hk)
      refine ⟨⟨q1, q2, hA.set_ ha _, hc⟩, fun g' hg' => ?_⟩
      have : g' = g := by simpa [Value.ownBlock] using hg'.symm
      subst this; exact ha
/-- member k gets another status -/
theorem OwnM.setS {g n c : Nat} (h : OwnM t w B (.slice (some ⟨g, 0, none⟩) n c) rows) {k : Nat} (hk : k < rows.length) {s : Int} (hs : i64 s) :
    OwnM t (w.setCell ⟨g, k * 3 + 1, none⟩ (.int .i64 s)) B (.slice (some ⟨g, 0, none⟩) n c) (rows.set k ⟨{ rows[k].m with status := s }, rows[k].A, rows[k].cap⟩) := by
  refine ⟨?_, ?_⟩
  · have := h.1.set_ (by omega) (i := k) (j := 1) (by simpa using hk) (by omega) (.int .i64 s)
    rw [getD_rows hk] at this
    rw [List.map_set]
    exact this
  · intro r hr
    rcases List.mem_or_eq_of_mem_set hr with hr | rfl
    · obtain ⟨⟨q1, q2, q3, q4⟩, q5⟩ := h.2 r hr
      exact ⟨⟨q1, q2, q3.set_ (q5 g rfl) _, q4⟩, q5⟩
    · obtain ⟨⟨q1, q2, q3, q4⟩, q5⟩ := h.2 rows[k] (List.getElem_mem hk)
      exact ⟨⟨q1, hs, q3.set_ (q5 g rfl) _, q4⟩, q5⟩
end
theorem mrowV_one (rows : List MRow) : ∀ r ∈ rows.map mrowV, ∀ u ∈ r, u.oneCell' = true := by
  intro r hr u hu
  obtain ⟨p, _, rfl⟩ := List.mem_map.1 hr
  simp only [mrowV, List.mem_cons, List.not_mem_nil, or_false] at hu
  rcases hu with rfl | rfl | rfl <;> rfl
theorem accV_one (l : List MM.Ac) : ∀ r ∈ l.map accV, ∀ u ∈ r, u.oneCell' = true := by
  intro r hr u hu
  obtain ⟨p, _, rfl⟩ := List.mem_map.1 hr
  simp only [accV, List.mem_cons, List.not_mem_nil, or_false] at hu
  rcases hu with rfl | rfl <;> rfl
end Go.Recs

/- Contracts of layer 14: what is within bounds; the lots that an account bought and sold. -/
namespace Go.Proofs.Ythippdmfeeopkaa
open Go.RowKit Go.Recs
set_option linter.unusedVariables false
set_option linter.unusedSimpArgs false
theorem gwithin_any (n a b : Int) (w : World) :
    Calls Try.prog 56 #[.int .i64 n, .int .i64 a, .int .i64 b] w fun e w' => e = .returned (.bool (decide (a ≤ n) && decide (n ≤ b))) ∧ w = w' := by
  rcases Int.lt_or_le n a with h1 | h1
  · have e : (decide (a ≤ n) && decide (n ≤ b)) = false := by simp; omega
    rw [e]
    go_enter Try.func56, Try.ntmps56
    go_wp2
    go_ret
    exact ⟨rfl, rfl⟩
  · rcases Int.lt_or_le b n with h2 | h2
    · have e : (decide (a ≤ n) && decide (n ≤ b)) = false := by simp; omega
      rw [e]
      have h3 : ¬ n ≤ b := by omega
      go_enter Try.func56, Try.ntmps56
      go_wp2
      go_ret
      exact ⟨rfl, rfl⟩
    · have e : (decide (a ≤ n) && decide (n ≤ b)) = true := by simp; omega
      rw [e]
      go_enter Try.func56, Try.ntmps56
      go_wp2
      go_ret
      exact ⟨rfl, rfl⟩
theorem gqty_any (n : Int) (w : World) :
    Calls Try.prog 139 #[.int .i64 n] w fun e w' => e = .returned (.bool (GM.okQ n)) ∧ w = w' := by
  have C := gwithin_any n 1 1048576 w
  have hq : GM.okQ n = (decide ((1 : Int) ≤ n) && decide (n ≤ 1048576)) := rfl
  rw [← hq] at C
  have HC := Lib.hid C
  generalize GM.okQ n = b at *
  clear C hq
  go_enter Try.func139, Try.ntmps139
  go_wp2_with fail
  refine HC.out.mono ?_
  rintro e w' ⟨rfl, rfl⟩
  go_wp2_with fail
  go_ret
  exact ⟨rfl, rfl⟩
theorem gcount_any (n : Nat) (w : World) :
    Calls Try.prog 138 #[.int .i64 (n : Int)] w fun e w' => e = .returned (.int .i64 (GM.countE n)) ∧ w = w' := by
  have HC := Lib.hid (gwithin_any (n : Int) 1 1024 w)
  by_cases h : 1 ≤ n ∧ n ≤ 1024
  · have e : (decide ((1 : Int) ≤ (n : Int)) && decide ((n : Int) ≤ 1024)) = true := by simp; omega
    have e2 : GM.countE n = 0 := by unfold GM.countE; rw [if_pos h]
    rw [e] at HC
    rw [e2]
    clear e e2 h
    go_enter Try.func138, Try.ntmps138
    go_wp2_with fail
    refine HC.out.mono ?_
    rintro e w' ⟨rfl, rfl⟩
    go_wp2_with fail
    go_ret
    exact ⟨rfl, rfl⟩
  · have e : (decide ((1 : Int) ≤ (n : Int)) && decide ((n : Int) ≤ 1024)) = false := by simp; omega
    have e2 : GM.countE n = 8 := by unfold GM.countE; rw [if_neg h]
    rw [e] at HC
    rw [e2]
    clear e e2 h
    go_enter Try.func138, Try.ntmps138
    go_wp2_with fail
    refine HC.out.mono ?_
    rintro e w' ⟨rfl, rfl⟩
    go_wp2_with fail
    go_ret
    exact ⟨rfl, rfl⟩

/-- the ways of one trade -/
theorem side_ways (am an : ByteArray) (s : EM.Ser) (t : TM.Trd) :
    (NM.seqB t.ser s = false ∧ GM.sideOf am an s GM.buyer t = 0 ∧ GM.sideOf am an s GM.seller t = 0) ∨
    (NM.seqB t.ser s = true ∧ GM.okQ t.qty = false ∧ GM.sideOf am an s GM.buyer t = 0 ∧ GM.sideOf am an s GM.seller t = 0) ∨
    (NM.seqB t.ser s = true ∧ GM.okQ t.qty = true ∧ GM.sideOf am an s GM.buyer t = (if NM.aeq t.bm t.bn am an = true then t.qty else 0) ∧ GM.sideOf am an s GM.seller t = (if NM.aeq t.sm t.sn am an = true then t.qty else 0)) := by
  unfold GM.sideOf GM.buyer GM.seller
  cases NM.seqB t.ser s
  · exact .inl ⟨rfl, by simp, by simp⟩
  · cases GM.okQ t.qty
    · exact .inr (.inl ⟨rfl, rfl, by simp, by simp⟩)
    · exact .inr (.inr ⟨rfl, rfl, by simp, by simp⟩)
def sidesN (am an : ByteArray) (s : EM.Ser) (b : TM.Trd → ByteArray × ByteArray) (l : List TM.Trd) : Int := GM.sides am an s b l (min l.length 1024)

end Go.Proofs.Ythippdmfeeopkaa

/- Parts of a trade in memory, over any program. -/
namespace Go.Recs
open Go.RowKit
set_option linter.unusedVariables false
def partV (x : GM.Part) : List Value := [.string x.am, .string x.an, .int .i64 x.qty]
def partQ (x : GM.Part) : Prop := x.am.size ≤ maxLen ∧ x.an.size ≤ maxLen ∧ i64 x.qty
def partL : List Leaf := [.str, .str, .int .i64]
theorem part_row (r : List Value) (h : okAll partL r) : ∃ x : GM.Part, r = partV x ∧ partQ x := by
  obtain ⟨c0, r0, rfl, ⟨s0, rfl, h0⟩, g0⟩ := okAll_cons h
  obtain ⟨c1, r1, rfl, ⟨s1, rfl, h1⟩, g1⟩ := okAll_cons g0
  obtain ⟨c2, r2, rfl, ⟨n2, rfl, h2⟩, g2⟩ := okAll_cons g1
  rw [okAll_nil g2]
  exact ⟨⟨s0, s1, n2⟩, rfl, h0, h1, bounds_i64 h2⟩
abbrev Parts := TR partV partQ 3
theorem parts_get {w : World} {A : Option Addr} {l : List GM.Part} (h : Parts w A l) {k : Nat} (hk : k < l.length) :
    ∃ b off, ∃ x : GM.Part, A = some ⟨b, off, none⟩ ∧ b < w.heap.size ∧ Hid (GM.pAt l k = x) ∧ partQ x ∧ w.cell? ⟨b, off + k * 3, none⟩ = some (.string x.am) ∧ w.cell? ⟨b, off + k * 3 + 1, none⟩ = some (.string x.an) ∧ w.cell? ⟨b, off + k * 3 + 2, none⟩ = some (.int .i64 x.qty) := by
  obtain ⟨b, off, rfl, hb, hq, hc⟩ := h.at_ hk
  exact ⟨b, off, l[k], rfl, hb, Lib.hid (GM.pAt_get hk), hq, hc 0 (by omega), hc 1 (by omega), hc 2 (by omega)⟩
end Go.Recs

/- Contracts of layer 14: a division checked, but for its accounts. -/
namespace Go.Proofs.Ythippdmfeeopkaa
open Go.RowKit Go.Recs
set_option linter.unusedVariables false
set_option linter.unusedSimpArgs false
abbrev partC (x : GM.Part) : Array Value := #[.string x.am, .string x.an, .int .i64 x.qty]
abbrev divC (all : Int) (A : Option Addr) (n cap : Nat) : Array Value := #[.int .i64 all, .slice A n cap]
theorem info_part : (Try.prog.info? 113).map (fun i => (i.zero, i.size, i.bytes)) = some (some (.agg #[.string ⟨#[]⟩, .string ⟨#[]⟩, .int .i64 0]), 3, 40) := by kernel_rfl
set_option maxHeartbeats 1000000 in
theorem dcount_any (all : Int) (A : Option Addr) (l : List GM.Part) (n cap : Nat) (hn : n = l.length) (w : World) :
    Calls Try.prog 104 #[.agg #[.int .i64 all, .slice A n cap]] w fun e w' => e = .returned (.int .i64 (GM.countE l.length)) ∧ Below w.heap.size w w' := by
  subst hn
  have HC := Lib.hid (fun ww => gcount_any l.length ww)
  have HB0 := Lib.hid (below_al (Below.refl w.heap.size w) (.cells (divC all A l.length cap) 117))
  generalize GM.countE l.length = r at *
  go_enter Try.func104, Try.ntmps104
  go_wp2_with fail
  refine (HC.out _).mono ?_
  rintro e w' ⟨rfl, rfl⟩
  go_wp2_with fail
  go_ret
  exact ⟨rfl, HB0.out⟩
set_option maxHeartbeats 1000000 in
theorem dsizes_any (all : Int) (A : Option Addr) (l : List GM.Part) (n cap : Nat) (hn : n = l.length) (w : World) (hI : Parts w A l) :
    Calls Try.prog 105 #[.agg #[.int .i64 all, .slice A n cap]] w fun e w' => e = .returned (.int .i64 (GM.sizesE l)) ∧ Below w.heap.size w w' := by
  subst hn
  have hlen := hI.len
  have HC := Lib.hid (fun q ww => gqty_any q ww)
  have HB0 := Lib.hid (below_al (Below.refl w.heap.size w) (.cells (divC all A l.length cap) 117))
  have HI := Lib.hid (hI.below HB0.out)
  have KB := Lib.hid (fun k => @GM.sizes_bad l k); have KO := Lib.hid (@GM.sizes_ok l)
  generalize GM.sizesE l = r at *
  clear hI
  go_enter Try.func105, Try.ntmps105
  go_wp2_with fail
  generalize w.alloc (.cells #[.int .i64 all, .slice A l.length cap] 117) = w0 at *
  go_loopw [4, 8] (fun _ i wr => ∃ k : Nat, k ≤ l.length ∧ i = .int .i64 (k : Int) ∧ Hid (∀ j, j < k → GM.okQ (GM.pAt l j).qty = true) ∧ Hid (Below w0.heap.size w0 wr)) (fun _ i _ => l.length - (intOf i).toNat)
  case atStart => exact ⟨0, by omega, rfl, Lib.hid (fun j h => by omega), Lib.hid (Below.refl _ _)⟩
  case round =>
    obtain ⟨k, hk, rfl, HE, HB⟩ := hrel
    by_cases hlt : k < l.length
    · obtain ⟨b, off, x, rfl, hb, HV, q, d0, d1, d2⟩ := parts_get (HI.out.below HB.out) hlt
      have HB2 := Lib.hid (fun o => HB.out.alloc HB.out.size o)
      have C1 := Lib.hid (fun ww => HC.out x.qty ww)
      clear q
      cases hq : GM.okQ x.qty
      · have HR := Lib.hid (KB.out k hlt (by rw [HV.out]; exact hq))
        rw [hq] at C1
        have HBF := Lib.hid (fun o => HB0.out.trans ((HB2.out o).mono HB0.out.size))
        clear hq
        go_wp2_with fail
        refine (C1.out _).mono ?_
        rintro e w' ⟨rfl, rfl⟩
        go_wp2_with fail
        go_ret
        exact ⟨by rw [HR.out] <;> rfl, HBF.out _⟩
      · rw [hq] at C1
        have HE2 : Hid (∀ j, j < k + 1 → GM.okQ (GM.pAt l j).qty = true) := Lib.hid (fun j hj => by
          rcases Nat.lt_or_ge j k with g | g
          · exact HE.out j g
          · obtain rfl : j = k := by omega
            rw [HV.out]; exact hq)
        clear hq
        go_wp2_with fail
        refine (C1.out _).mono ?_
        rintro e w' ⟨rfl, rfl⟩
        go_wp2_with fail
        go_roundw
        case rel => exact ⟨k + 1, by omega, by go_num, HE2, Lib.hid (HB2.out _)⟩
        case measure => simp [intOf]; omega
    · obtain rfl : k = l.length := by omega
      have HR := Lib.hid (KO.out HE.out)
      have HBF := Lib.hid (HB0.out.trans (HB.out.mono HB0.out.size))
      go_wp2_with fail
      go_ret
      exact ⟨by rw [HR.out] <;> rfl, HBF.out⟩
set_option maxHeartbeats 1000000 in
theorem dsum_any (all : Int) (A : Option Addr) (l : List GM.Part) (n cap : Nat) (hn : n = l.length) (w : World) (hI : Parts w A l) (hq : ∀ x ∈ l, 1 ≤ x.qty ∧ x.qty ≤ 1048576) (hl : l.length ≤ 1024) :
    Calls Try.prog 106 #[.agg #[.int .i64 all, .slice A n cap]] w fun e w' => e = .returned (.int .i64 (GM.sumE all l)) ∧ Below w.heap.size w w' := by
  subst hn
  have hlen := hI.len
  have HB0 := Lib.hid (below_al (Below.refl w.heap.size w) (.cells (divC all A l.length cap) 117))
  have HX0 := Lib.hid (CB.new w 117 (divC all A l.length cap))
  have HI := Lib.hid (hI.below HB0.out)
  have KS := Lib.hid (fun k => @GM.psum_succ l k)
  have KB : Hid (∀ k, k ≤ l.length → 0 ≤ GM.psum (l.take k) ∧ GM.psum (l.take k) ≤ 1073741824) := Lib.hid (fun k hk => by
    have := GM.psum_bound (l := l.take k) (fun x hx => hq x (List.mem_of_mem_take hx))
    rw [List.length_take] at this
    omega)
  have KE : Hid (GM.psum (l.take l.length) = GM.psum l) := Lib.hid (by rw [List.take_length])
  have KR : Hid ((GM.psum l = all → GM.sumE all l = 0) ∧ (¬ GM.psum l = all → GM.sumE all l = 18)) := Lib.hid ⟨fun h => by unfold GM.sumE; rw [if_pos h], fun h => by unfold GM.sumE; rw [if_neg h]⟩
  generalize GM.sumE all l = r at *
  clear hI hq hl
  go_enter Try.func106, Try.ntmps106
  go_wp2_with fail
  generalize w.alloc (.cells #[.int .i64 all, .slice A l.length cap] 117) = w0 at *
  go_loopw [3, 5, 9] (fun v _ i wr => ∃ (k : Nat) (y : Int), k ≤ l.length ∧ i = .int .i64 (k : Int) ∧ v = .int .i64 y ∧ 0 ≤ y ∧ y ≤ 1073741824 ∧ Hid (y = GM.psum (l.take k)) ∧ Hid (Below w0.heap.size w0 wr)) (fun _ _ i _ => l.length - (intOf i).toNat)
  case atStart => exact ⟨0, 0, by omega, rfl, rfl, by omega, by omega, Lib.hid rfl, Lib.hid (Below.refl _ _)⟩
  case round =>
    obtain ⟨k, y, hk, rfl, rfl, y1, y2, HE, HB⟩ := hrel
    by_cases hlt : k < l.length
    · obtain ⟨b, off, x, rfl, hb, HV, q, d0, d1, d2⟩ := parts_get (HI.out.below HB.out) hlt
      have HB2 := Lib.hid (fun o => HB.out.alloc HB.out.size o)
      have HN : Hid (y + x.qty = GM.psum (l.take (k + 1))) := Lib.hid (by rw [KS.out k hlt, HV.out, HE.out])
      have hb1 : 0 ≤ y + x.qty ∧ y + x.qty ≤ 1073741824 := by rw [HN.out]; exact KB.out (k + 1) (by omega)
      have hb2 := hb1.1; have hb3 := hb1.2
      clear q hb1
      go_wp2_with fail
      go_roundw
      case rel => exact ⟨k + 1, y + x.qty, by omega, by go_num, by go_num, hb2, hb3, HN, Lib.hid (HB2.out _)⟩
      case measure => simp [intOf]; omega
    · obtain rfl : k = l.length := by omega
      have hy : y = GM.psum l := HE.out.trans KE.out
      have HBF := Lib.hid (HB0.out.trans (HB.out.mono HB0.out.size))
      have HX := Lib.hid (HX0.out.below HB.out HX0.out.lt)
      have c0 : wr.cell? ⟨w.heap.size, 0, none⟩ = some (.int .i64 all) := HX.out.cell 0
      by_cases hya : y = all
      · have HR := Lib.hid (KR.out.1 (hy ▸ hya))
        subst hya
        clear hy
        go_wp2_with fail
        go_ret
        exact ⟨by rw [HR.out] <;> rfl, HBF.out⟩
      · have HR := Lib.hid (KR.out.2 (fun h => hya (hy.trans h)))
        have hne : (y != all) = true := by simpa using hya
        clear hy hya
        go_wp2_with fail
        go_ret
        exact ⟨by rw [HR.out] <;> rfl, HBF.out⟩
end Go.Proofs.Ythippdmfeeopkaa

/- Maps keyed by records: what 'm[k] += v' does, a look-up of a bool; over any program. -/
namespace Go.Recs
open Go.Maps Go.MapKept
open Go.ChangeMaps (setBlock heap_setBlock_same heap_setBlock_other)
open Go.WideElems (Fit)
set_option linter.unusedVariables false
section
variable {H : Type} {P : Program} {w : World} {t k e : TypeId} {q : IntKind} {b n : Nat} {D : DataW H}
/-- a look-up among entries of which one has the key -/
theorem look_hit (K : WideMaps.KeyLaw P k) (ht : P.underlying t = some (.map k e)) {es : Array MapEntry} {clock : Nat} (hb : w.heap[b]? = some (.map es clock)) (hk : ∀ x ∈ es.toList, ∃ l, keyOf P k x.key = some l)
    {key : Value} {kl : Lit} (hkey : keyOf P k key = some kl) {v : Value} (hv : ∀ x ∈ es.toList, x.key = key → x.val = v) (hx : ∃ x ∈ es.toList, x.key = key) :
    (Instr.lookup t (.map (some b)) key false).run P w = .ok v w := by
  rcases K.find w hkey es.toList hk with ⟨_, h2⟩ | ⟨j, e0, h1, h2, h3⟩
  · obtain ⟨x, hx1, hx2⟩ := hx
    exact absurd hx2 (h2 x hx1)
  · have := hv e0 (List.mem_of_getElem? h2) h3
    simp [Instr.lookup, run_underlying ht, MapKept.run_getObj_map hb, K.check w _ hkey, h1, Result.andThen, this]

theorem set_twice (w : World) (b : Nat) (o o' : Obj) : setBlock (setBlock w b o) b o' = setBlock w b o' := by simp [setBlock]

/-- 'm[k] += ..': the entry is laid or found, read before or after, and the sum stored -/
theorem ownsMap_entry (K : WideMaps.KeyLaw P k) (ht : P.underlying t = some (.map k e)) (he : P.underlying e = some (.int q)) (hz : ∀ u : World, (zeroValue e).run P u = .ok (.int q 0) u)
    (h : w.ownsMap P k (plainElem P e) b n D) (hn : n < maxLen) {key : Value} {kl : Lit} (hkey : keyOf P k key = some kl) :
    ∃ (c : Int) (st : Nat) (w1 : World), D.atKey kl (.lit (.int q 0)) = .lit (.int q c) ∧ (Lit.int q c).wf = true ∧
      (Instr.lookup t (.map (some b)) key false).run P w = .ok (.int q c) w ∧ (Instr.lookup t (.map (some b)) key false).run P w1 = .ok (.int q c) w1 ∧
      (Instr.mapEntry t (.map (some b)) key).run P w = .ok (.tuple #[.int q c, .int .i64 st]) w1 ∧ w.grownBy w1 (some b) ∧
      ∀ x : Int, (Lit.int q x).wf = true → ∃ w2, (Instr.entryStore t (.map (some b)) (.int .i64 st) (.int q x)).run P w1 = .ok () w2 ∧ w2.ownsMap P k (plainElem P e) b (n + 1) (D.put kl (.lit (.int q x))) ∧ w.grownBy w2 (some b) := by
  obtain ⟨c, hrun, hat, hwc⟩ := h.lookup_int (Keyed.of_law K) ht he (hz w) hkey
  have hup : ∀ x : Int, (Lit.int q x).wf = true → ∃ w', (Instr.mapUpdate t (.map (some b)) key (.int q x)).run P w = .ok () w' ∧ w'.ownsMap P k (plainElem P e) b (n + 1) (D.put kl (.lit (.int q x))) ∧ w.grownBy w' (some b) :=
    fun x hx => h.update (Keyed.of_law K) ht hn hkey (plainElem_int he hx)
  obtain ⟨es, clock, hb, F, hs, rfl⟩ := h
  obtain ⟨v0, st, es1, clock1, hE, hv0, hS⟩ := Go.WideElems.entry_then_store K ht hz hb F hkey
  have hb1 := heap_setBlock_same hb (.map es1 clock1)
  have hshape : v0 = .int q c ∧ (∀ x ∈ es1.toList, ∃ l, keyOf P k x.key = some l) ∧ (∀ x ∈ es1.toList, x.key = key → x.val = .int q c) ∧ ∃ x ∈ es1.toList, x.key = key := by
    rcases K.find w hkey es.toList F.keys with ⟨h1, h2⟩ | ⟨j, e0, h1, h2, h3⟩
    · have hl : (Instr.lookup t (.map (some b)) key false).run P w = .ok (.int q 0) w := by
        simp [Instr.lookup, run_underlying ht, MapKept.run_getObj_map hb, K.check w _ hkey, h1, hz, Result.andThen]
      have hc : c = 0 := by
        rw [hrun] at hl
        injection hl with e1 _
        injection e1
      subst hc
      have hE2 : (Instr.mapEntry t (.map (some b)) key).run P w = .ok (.tuple #[.int q 0, goInt clock]) (setBlock w b (.map (es.push ⟨key, .int q 0, clock⟩) (clock + 1))) := by
        simp [Instr.mapEntry, run_underlying ht, MapKept.run_getObj_map hb, K.check w false hkey, h1, hz, MapKept.run_setObj_map _ hb, Result.andThen, setBlock]
      rw [hE] at hE2
      injection hE2 with e1 e2
      have e3 : es1 = es.push ⟨key, .int q 0, clock⟩ := by
        have h4 := heap_setBlock_same hb (.map (es.push ⟨key, .int q 0, clock⟩) (clock + 1))
        rw [← e2, hb1] at h4
        injection h4 with h5
        injection h5
      have e4 : v0 = .int q 0 := by
        injection e1 with e5
        have := congrArg (fun a : Array Value => a[0]?) e5
        simpa using this
      subst e3
      refine ⟨e4, ?_, ?_, ⟨_, by simp; exact .inr rfl, rfl⟩⟩
      · intro x hx
        simp only [Array.toList_push, List.mem_append, List.mem_singleton] at hx
        rcases hx with hx | rfl
        · exact F.keys x hx
        · exact ⟨kl, hkey⟩
      · intro x hx hxk
        simp only [Array.toList_push, List.mem_append, List.mem_singleton] at hx
        rcases hx with hx | rfl
        · exact absurd hxk (h2 x hx)
        · rfl
    · have hj : es[j]? = some e0 := by simpa using h2
      have hl : (Instr.lookup t (.map (some b)) key false).run P w = .ok e0.val w := by
        simp [Instr.lookup, run_underlying ht, MapKept.run_getObj_map hb, K.check w _ hkey, h1, Result.andThen]
      have hc : e0.val = .int q c := by
        rw [hrun] at hl
        injection hl with e1 _
        exact e1.symm
      have hE2 : (Instr.mapEntry t (.map (some b)) key).run P w = .ok (.tuple #[e0.val, goInt e0.born]) (setBlock w b (.map (es.modify j fun e' => { e' with key := key }) clock)) := by
        simp [Instr.mapEntry, run_underlying ht, MapKept.run_getObj_map hb, K.check w false hkey, h1, hj, h3, K.stays w hkey, MapKept.run_setObj_map _ hb, Result.andThen, setBlock]
      rw [hE] at hE2
      injection hE2 with e1 e2
      have e3 : es1 = es.modify j fun e' => { e' with key := key } := by
        have h4 := heap_setBlock_same hb (.map (es.modify j fun e' => { e' with key := key }) clock)
        rw [← e2, hb1] at h4
        injection h4 with h5
        injection h5
      have hsame : es1 = es := by
        rw [e3]
        apply Array.ext'
        rw [Array.toList_modify]
        have : ∀ (l : List MapEntry) (i : Nat), l[i]? = some e0 → l.modify i (fun e' => { e' with key := key }) = l := by
          intro l
          induction l with
          | nil => intro i hi; simp at hi
          | cons a l ih =>
            intro i hi
            cases i with
            | zero =>
              simp at hi
              subst hi
              simp [← h3]
            | succ i => simp at hi; simp [ih i hi]
        exact this es.toList j h2
      have e4 : v0 = .int q c := by
        injection e1 with e5
        have := congrArg (fun a : Array Value => a[0]?) e5
        simp at this
        rw [this, hc]
      subst hsame
      have hm0 : e0 ∈ es1.toList := List.mem_of_getElem? h2
      refine ⟨e4, F.keys, ?_, ⟨e0, hm0, h3⟩⟩
      intro x hx hxk
      have hn := ((stamped_iff es1 clock).1 F.stamped).2.2
      have hxe : x = e0 := Go.entry_eq_of_key hn hx hm0 (hxk.trans h3.symm)
      rw [hxe, hc]
  obtain ⟨rfl, hk1, hv1, hx1⟩ := hshape
  refine ⟨c, st, setBlock w b (.map es1 clock1), hat, hwc, hrun, look_hit K ht hb1 hk1 hkey hv1 hx1, hE, ⟨rfl, rfl, rfl, by simp [setBlock], fun i _ hi => heap_setBlock_other hb _ (fun e => hi (by rw [e]))⟩, fun x hx => ?_⟩
  obtain ⟨es', clock', hst, hmu⟩ := hS (setBlock w b (.map es1 clock1)) (.int q x) hb1
  obtain ⟨w2, hu, hown, hg⟩ := hup x hx
  rw [hmu] at hu
  injection hu with _ hw2
  subst hw2
  rw [set_twice] at hst
  exact ⟨_, hst, hown, hg⟩
end
/-! what a record reads as, as a map's key -/
section
variable {P : Program} {t k : TypeId} {fs : Array Field}
theorem klits_str (h : P.underlying t = some .string) (d : Nat) (s : ByteArray) (hs : s.size ≤ maxLen) : P.keyLits (d + 1) t [.string s] = some [.string s.data.toList] := by simp [Program.keyLits, h, hs]
theorem klits_int {q : IntKind} (h : P.underlying t = some (.int q)) (d : Nat) (n : Int) (hn : (Lit.int q n).wf = true) : P.keyLits (d + 1) t [.int q n] = some [.int q n] := by simp [Program.keyLits, h, hn]
theorem klits_struct (h : P.underlying t = some (.struct fs)) (d : Nat) (cs : List Value) (hc : cs.length = P.cellsOf t ∧ fs.all (·.name != "_") = true) : P.keyLits (d + 1) t cs = (fs.toList.mapM fun f => P.keyLits d f.type ((cs.drop f.offset).take (P.cellsOf f.type))).map List.flatten := by
  conv => lhs; unfold Program.keyLits
  simp only [h]
  split
  · rfl
  · exact absurd hc (by assumption)
theorem kof_struct (h : P.underlying k = some (.struct fs)) (kt : P.keyType k = true) {xs : Array Value} (hx : xs.size = P.cellsOf k) {d : Nat} (hd : P.types.size + 1 = d) {ls : List Lit} (hl : P.keyLits d k xs.toList = some ls) :
    keyOf P k (.agg xs) = some (.string (keyBytes ls)) := by
  subst hd
  simp [keyOf, h, kt, Value.formed, hx, Value.cells, hl]
end
end Go.Recs
