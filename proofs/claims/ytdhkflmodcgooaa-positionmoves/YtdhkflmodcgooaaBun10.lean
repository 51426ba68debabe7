/- Put together: MemCells, WordsA, WordsE, MemA, PosO, PosP, PosQ, PosR. -/
import Derived.Test.YtdhkflmodcgooaaBun3
import Derived.Test.YtdhkflmodcgooaaBun5
import Derived.ArgAppend
import Derived.Test.YtdhkflmodcgooaaBun4
import Derived.Laws.StructEq
import Derived.Laws.ResultCell
import Derived.Laws.Rows
import Derived.Test.YtdhkflmodcgooaaBun9
import Derived.Test.YtdhkflmodcgooaaBun6
import Derived.Test.YtdhkflmodcgooaaBun7
/- Members and their accounts in memory, over any program; rows of records with slices inside. -/
namespace Go.Recs
open Go.ChangeShapes Go.WideShapes Go.RowKit Go.Deep
set_option linter.unusedVariables false
section
variable {H : Type} {enc : TypeId × Value → H} {P : Program} {w : World} {base : Nat} {spare : Nat → Bool} {held : Bool}
/-- a slice whose records are read by R -/
theorem open_rows {t e : TypeId} {sz : Nat} {R : List Value → DataW H → Prop} {fuel : Nat} {cs : List Value} {x : DataW H × List MemPlace} (ht : P.underlying t = some (.slice e)) (hsz : P.cellsOf e = sz) (h0 : 0 < sz)
    (hR : ∀ k cs y, cs.length = sz → DataW.trod enc P w base spare held k e cs = some y → R cs y.1)
    (hf : DataW.trod enc P w base spare held fuel t cs = some x) :
    ∃ A cap rows, cs = [.slice A (List.length rows) cap] ∧ Recs w A sz rows ∧ rows.length ≤ cap ∧ ∃ ds sp, (x.1 = .nil ∧ rows = [] ∨ x.1 = .slice ds sp) ∧ ds.length = rows.length ∧ ∀ i, i < rows.length → R (rows.getD i []) (ds.getD i .nil) := by
  rcases open_slice ht hf with ⟨rfl, rfl⟩ | ⟨a, len, cap, m, k, D, Pl, rfl, hb, hl, hm, hmm, rfl, hrow⟩
  · exact ⟨none, 0, [], rfl, Recs.nil _ _ _, by simp, [], [], .inl ⟨rfl, rfl⟩, rfl, fun i hi => by simp at hi⟩
  · have hlm : len ≤ m := by rw [hmm]; split <;> omega
    rw [hsz] at hrow
    obtain ⟨Q, hQ⟩ := choose_lt (α := List Value) (n := len) (p := fun i cs => w.cells? base (a.add (i * sz)) sz = some cs ∧ R cs (D i)) (fun i hi => by
      obtain ⟨cs', h1, h2⟩ := hrow i (by omega)
      obtain ⟨_, hlen, _⟩ := World.cells?_some h1
      exact ⟨cs', h1, hR k cs' _ (by omega) h2⟩)
    have hlen : ((List.range len).map Q).length = len := by simp
    refine ⟨some a, cap, (List.range len).map Q, by rw [hlen], ?_, by rw [hlen]; exact hl, _, _, .inr rfl, by simp, ?_⟩
    · refine ⟨by rw [hlen]; omega, ?_, ?_⟩
      · intro q hq
        obtain ⟨i, hi, rfl⟩ := List.mem_map.1 hq
        obtain ⟨_, hli, _⟩ := World.cells?_some (hQ i (List.mem_range.1 hi)).1
        exact hli
      · rcases Nat.eq_zero_or_pos len with hz | hz
        · subst hz; exact .inl (by simp)
        · obtain ⟨b, off, spot⟩ := a
          obtain ⟨_, hl0, hc0⟩ := World.cells?_some (hQ 0 hz).1
          have hcc := hc0 0 (by omega)
          rw [List.getElem?_eq_getElem (show 0 < (Q 0).length by omega)] at hcc
          have hspot : spot = none := by simpa [Addr.add] using World.cell?_spot hcc
          subst hspot
          rw [Deep.add_add, add_at] at hcc
          refine .inr ⟨b, off, rfl, World.block_lt_of_cell? _ _ hcc, fun i j hi hj => ?_⟩
          have hi' : i < len := by rw [hlen] at hi; exact hi
          obtain ⟨_, hli, hci⟩ := World.cells?_some (hQ i hi').1
          have := hci j (by omega)
          rw [Deep.add_add, add_at] at this
          rw [this]
          simp [List.getD, hi']
    · intro i hi
      rw [hlen] at hi
      simpa [List.getD, hi] using (hQ i hi).2
end

def accV (a : MM.Ac) : List Value := [.string a.name, .int .i64 a.kind]
def accQ (a : MM.Ac) : Prop := a.name.size ≤ maxLen ∧ i64 a.kind
def accL : List Leaf := [.str, .int .i64]
theorem acc_row (r : List Value) (h : okAll accL r) : ∃ a : MM.Ac, r = accV a ∧ accQ a := by
  obtain ⟨c0, r0, rfl, ⟨s, rfl, hs⟩, g0⟩ := okAll_cons h
  obtain ⟨c1, r1, rfl, ⟨n1, rfl, h1⟩, g1⟩ := okAll_cons g0
  rw [okAll_nil g1]
  exact ⟨⟨s, n1⟩, rfl, hs, bounds_i64 h1⟩
abbrev Accs := TR accV accQ 2
def aAt (l : List MM.Ac) (k : Nat) : MM.Ac := l.getD k ⟨MM.nil, 0⟩
theorem aAt_get {l : List MM.Ac} {k : Nat} (h : k < l.length) : aAt l k = l[k] := by simp [aAt, List.getD, h]
theorem accs_get {w : World} {A : Option Addr} {l : List MM.Ac} (h : Accs w A l) {k : Nat} (hk : k < l.length) :
    ∃ b off, ∃ a : MM.Ac, A = some ⟨b, off, none⟩ ∧ b < w.heap.size ∧ Hid (aAt l k = a) ∧ accQ a ∧ w.cell? ⟨b, off + k * 2, none⟩ = some (.string a.name) ∧ w.cell? ⟨b, off + k * 2 + 1, none⟩ = some (.int .i64 a.kind) := by
  obtain ⟨b, off, rfl, hb, hq, hc⟩ := h.at_ hk
  exact ⟨b, off, l[k], rfl, hb, Lib.hid (aAt_get hk), hq, hc 0 (by omega), hc 1 (by omega)⟩

/-- a member's cells: where its accounts lie -/
structure MRow where
  m : MM.Mem
  A : Option Addr
  cap : Nat
def mrowV (r : MRow) : List Value := [.string r.m.name, .int .i64 r.m.status, .slice r.A r.m.accs.length r.cap]
def mrowQ (w : World) (r : MRow) : Prop := r.m.name.size ≤ maxLen ∧ i64 r.m.status ∧ Accs w r.A r.m.accs ∧ r.m.accs.length ≤ r.cap
theorem mrowQ.below {w w' : World} {r : MRow} (h : mrowQ w r) (hb : Below w.heap.size w w') : mrowQ w' r := ⟨h.1, h.2.1, h.2.2.1.below hb, h.2.2.2⟩
def MRows (w : World) (A : Option Addr) (rows : List MRow) : Prop := Recs w A 3 (rows.map mrowV) ∧ ∀ r ∈ rows, mrowQ w r
theorem MRows.below {w w' : World} {A : Option Addr} {rows : List MRow} (h : MRows w A rows) (hb : Below w.heap.size w w') : MRows w' A rows := ⟨h.1.below hb, fun r hr => (h.2 r hr).below hb⟩
/-- the slice at A holds the members l -/
def Mems (w : World) (A : Option Addr) (l : List MM.Mem) : Prop := ∃ rows : List MRow, rows.map MRow.m = l ∧ MRows w A rows
section
variable {w w' : World} {A : Option Addr} {l : List MM.Mem}
theorem Mems.below (h : Mems w A l) (hb : Below w.heap.size w w') : Mems w' A l := by
  obtain ⟨rows, e, hr⟩ := h
  exact ⟨rows, e, hr.below hb⟩
theorem Mems.nil (w : World) (A : Option Addr) : Mems w A [] := ⟨[], rfl, Recs.nil _ _ _, by simp⟩
theorem Mems.drewN (h : Mems w A l) (n : Nat) : Mems (w.drewN n) A l := h
theorem Mems.len (h : Mems w A l) : l.length ≤ 9223372036854775807 := by
  obtain ⟨rows, rfl, hr, _⟩ := h
  have := hr.len
  rw [List.length_map] at this ⊢
  exact this
/-- member k: where it lies, and its cells -/
theorem Mems.get (h : Mems w A l) {k : Nat} (hk : k < l.length) :
    ∃ b off A' cap', ∃ m : MM.Mem, A = some ⟨b, off, none⟩ ∧ b < w.heap.size ∧ Hid (MM.mAt l k = m) ∧ m.name.size ≤ maxLen ∧ i64 m.status ∧ Accs w A' m.accs ∧ m.accs.length ≤ cap' ∧
      w.cell? ⟨b, off + k * 3, none⟩ = some (.string m.name) ∧ w.cell? ⟨b, off + k * 3 + 1, none⟩ = some (.int .i64 m.status) ∧ w.cell? ⟨b, off + k * 3 + 2, none⟩ = some (.slice A' m.accs.length cap') := by
  obtain ⟨rows, rfl, hr, hq⟩ := h
  rw [List.length_map] at hk
  obtain ⟨b, off, rfl, hb, hc⟩ := hr.get (k := k) (by simpa using hk)
  have e : (rows.map mrowV).getD k [] = mrowV rows[k] := by simp [List.getD, hk]
  rw [e] at hc
  obtain ⟨q1, q2, q3, q4⟩ := hq rows[k] (List.getElem_mem hk)
  have e2 : MM.mAt (rows.map MRow.m) k = rows[k].m := by rw [MM.mAt_get (by simpa using hk)]; simp
  refine ⟨b, off, rows[k].A, rows[k].cap, rows[k].m, rfl, hb, Lib.hid e2, q1, q2, q3, q4, hc 0 (by omega), ?_, ?_⟩
  · rw [Nat.add_assoc]; exact hc 1 (by omega)
  · rw [Nat.add_assoc]; exact hc 2 (by omega)
end

/-- 's = append(l[:i:i], x)': the row is full, so a new one is made -/
theorem wpList_growR {P : Program} {ops : Array Oper} {rest : List Oper} {o : Oper} {a : Act} {Q : Exit → Act → World → Prop} (w : World) (x : List Value) (hx1 : ∀ u ∈ x, u.oneCell' = true) (rows : List (List Value)) (s y : Operand) (ts t : TypeId) (sz bytes : Nat) (z : Value)
    (hu : P.underlying ts = some (.slice t)) (hinfo : (P.info? t).map (fun i => (i.zero, i.size, i.bytes)) = some (some z, sz, bytes)) (hz : z.cells.size = sz) (h0 : 0 < sz) (hxl : x.length = sz)
    (hgd : o.guard = none) (ho : o.op = .call { callee := .builtin .append, args := #[s, y], argTypes := #[ts, ts] })
    (A : Option Addr) (n cap : Nat) (hn : n = rows.length) (hcap : cap = n) (hs : a.eval s = .slice A n cap) (hA : Recs w A sz rows) (hx : a.eval y = .slice (some ⟨w.heap.size, 0, none⟩) 1 1) (hl : (rows.length + 1) * bytes ≤ 140737488355328) (hm : rows.length + 1 ≤ maxLen)
    (h : ∀ v' w', OwnR w' w.heap.size t sz v' (rows ++ [x]) → Below w.heap.size w w' → wpList P ops Q rest (a.put o.dst v') w') :
    wpList P ops Q (o :: rest) a (w.alloc (.cells x.toArray t)) := by
  subst hn hcap
  obtain ⟨i0, hi, hz0, hz1, hz2⟩ := info_parts hinfo
  have hb0 : Below w.heap.size w (w.alloc (.cells x.toArray t)) := (Below.refl _ _).alloc (Nat.le_refl _) _
  have hA2 := hA.below hb0
  refine wpList_append_grows (w.alloc (.cells x.toArray t)) hgd s y ts ho t i0 z sz bytes hu hi hz0 hz1 hz2 hz h0 A rows.length rows.length rows.flatten hs ?_ (flat_len hA.2.1) ?_ ⟨w.heap.size, 0, none⟩ 1 1 x hx (by omega) ?_ hx1 (by omega) hm hl ?_
  · intro e
    rcases hA.2.2 with g | ⟨b, off, g, _⟩
    · rw [g]; simp
    · rw [e] at g; cases g
  · rintro b rfl j u hj
    rcases hA2.2.2 with e | ⟨b', off', e, hb, hcell⟩
    · subst e; simp at hj
    · injection e with e
      subst e
      have hlt : j < rows.flatten.length := by
        rcases Nat.lt_or_ge j rows.flatten.length with h | h
        · exact h
        · rw [List.getElem?_eq_none h] at hj; cases hj
      rw [flat_len hA.2.1] at hlt
      have hi' : j / sz < rows.length := Nat.div_lt_of_lt_mul (by rw [Nat.mul_comm]; exact hlt)
      have hj' : j % sz < sz := Nat.mod_lt _ h0
      have ej : j / sz * sz + j % sz = j := by rw [Nat.mul_comm]; exact Nat.div_add_mod j sz
      have e := flat_at hA.2.1 (j / sz) (j % sz) hi' hj'
      have e2 := hcell (j / sz) (j % sz) hi' hj'
      rw [ej] at e e2
      rw [add_at, e2, ← e, hj]
  · intro j u hj
    rw [add_at, Nat.zero_add]
    have hlt : j < x.length := by
      rcases Nat.lt_or_ge j x.length with g | g
      · exact g
      · rw [List.getElem?_eq_none g] at hj; cases hj
    have e : x.toArray[j]? = some u := by simpa using hj
    simp [e]
  · intro v' w' h1 h2
    have hr : ∀ r ∈ rows ++ [x], r.length = sz := by
      intro r hr
      rcases List.mem_append.1 hr with hr | hr
      · exact hA.2.1 r hr
      · rw [List.mem_singleton.1 hr]; exact hxl
    have ho : OwnR w' (w.heap.size + 1) t sz v' (rows ++ [x]) := ⟨hr, by simpa using h1⟩
    refine h v' w' (ho.lower (by omega)) (hb0.trans ((Below.refl _ _).grown h2 (by simp) (fun k hk => by cases hk)))

/-- an own row of records: one cell of one record written -/
theorem flat_set {sz : Nat} (h0 : 0 < sz) : ∀ {rows : List (List Value)} (i j : Nat) (u : Value), (∀ r ∈ rows, r.length = sz) → i < rows.length → j < sz → rows.flatten.set (i * sz + j) u = (rows.set i ((rows.getD i []).set j u)).flatten := by
  intro rows
  induction rows with
  | nil => intro i j u _ hi; simp at hi
  | cons r rows ih =>
    intro i j u hr hi hj
    have hl := hr r (by simp)
    cases i with
    | zero =>
      rw [Nat.zero_mul, Nat.zero_add, List.flatten_cons, List.set_append_left _ _ (by omega)]
      simp [List.getD]
    | succ i =>
      rw [Nat.succ_mul, List.flatten_cons, List.set_append_right _ _ (by omega), show i * sz + sz + j - r.length = i * sz + j by omega,
        ih i j u (fun q hq => hr q (by simp [hq])) (by simpa using hi) hj]
      simp [List.getD]
theorem OwnR.set_ {w : World} {B g n cap : Nat} {t : TypeId} {sz : Nat} {rows : List (List Value)} (h : OwnR w B t sz (.slice (some ⟨g, 0, none⟩) n cap) rows) (h0 : 0 < sz) {i j : Nat} (hi : i < rows.length) (hj : j < sz) (u : Value) :
    OwnR (w.setCell ⟨g, i * sz + j, none⟩ u) B t sz (.slice (some ⟨g, 0, none⟩) n cap) (rows.set i ((rows.getD i []).set j u)) := by
  have hn : n = rows.length := by
    rcases h.2.2 with ⟨h0, _⟩ | ⟨g', cap', cur, h0, _⟩
    · cases h0
    · injection h0
  subst hn
  have := (World.ownsRow.stored h.2 (i * sz + j) u).1
  refine ⟨?_, ?_⟩
  · intro r hr
    rcases List.mem_or_eq_of_mem_set hr with hr | rfl
    · exact h.1 r hr
    · rw [List.length_set]
      have : rows.getD i [] ∈ rows := by simp [List.getD, hi]
      exact h.1 _ this
  · rw [List.length_set, ← flat_set h0 i j u h.1 hi hj]
    exact this
theorem OwnR.frozen {w : World} {B g n cap : Nat} {t : TypeId} {sz : Nat} {rows : List (List Value)} (h : OwnR w B t sz (.slice (some ⟨g, 0, none⟩) n cap) rows) (i : Nat) : w.frozen? ⟨g, i, none⟩ = false := by
  have hn : n = rows.length := by
    rcases h.2.2 with ⟨h0, _⟩ | ⟨g', cap', cur, h0, _⟩
    · cases h0
    · injection h0
  subst hn
  exact World.ownsRow.frozenAt h.2 i
theorem OwnR.far {w : World} {B g n cap : Nat} {t : TypeId} {sz : Nat} {rows : List (List Value)} (h : OwnR w B t sz (.slice (some ⟨g, 0, none⟩) n cap) rows) {p : Addr} (hp : g ≠ p.block) (u : Value) :
    OwnR (w.setCell p u) B t sz (.slice (some ⟨g, 0, none⟩) n cap) rows := by
  refine ⟨h.1, h.2.1, ?_⟩
  rcases h.2.2 with ⟨h0, _⟩ | ⟨g', cap', cur, h0, hB, hh, r⟩
  · cases h0
  · refine .inr ⟨g', cap', cur, h0, hB, ?_, r⟩
    have : g' = g := by injection h0 with h1; injection h1 with h1; injection h1 with h1; exact h1.symm
    subst this
    rw [Below.heap_setCell w p u _ hp]; exact hh
end Go.Recs

/- Contracts of the small functions of layer 3 that look at bytes and digits. -/
namespace Go.Proofs.Ytdhkflmodcgooaa
open Go.RowKit

theorem isLetter_any (c : UInt8) (w : World) :
    Calls Try.prog 68 #[.int .u8 (c.toNat : Int)] w fun e w' => e = .returned (.bool (WM.letter c)) ∧ w = w' := by
  by_cases h1 : 97 ≤ (c.toNat : Int)
  · by_cases h2 : (c.toNat : Int) ≤ 122
    · rw [WM.letter_true.2 ⟨h1, h2⟩]
      go_enter Try.func68, Try.ntmps68
      go_wp2
      go_ret
      exact ⟨rfl, rfl⟩
    · rw [WM.letter_false.2 (by omega)]
      go_enter Try.func68, Try.ntmps68
      go_wp2
      go_ret
      exact ⟨rfl, rfl⟩
  · rw [WM.letter_false.2 (by omega)]
    go_enter Try.func68, Try.ntmps68
    go_wp2
    go_ret
    exact ⟨rfl, rfl⟩

theorem isDigit_any (c : UInt8) (w : World) :
    Calls Try.prog 69 #[.int .u8 (c.toNat : Int)] w fun e w' => e = .returned (.bool (WM.dig c)) ∧ w = w' := by
  by_cases h1 : 48 ≤ (c.toNat : Int)
  · by_cases h2 : (c.toNat : Int) ≤ 57
    · rw [WM.dig_true.2 ⟨h1, h2⟩]
      go_enter Try.func69, Try.ntmps69
      go_wp2
      go_ret
      exact ⟨rfl, rfl⟩
    · rw [WM.dig_false.2 (by omega)]
      go_enter Try.func69, Try.ntmps69
      go_wp2
      go_ret
      exact ⟨rfl, rfl⟩
  · rw [WM.dig_false.2 (by omega)]
    go_enter Try.func69, Try.ntmps69
    go_wp2
    go_ret
    exact ⟨rfl, rfl⟩

theorem all_step {p : UInt8 → Bool} {s : ByteArray} {k : Nat} (h : k < s.size) (ha : ((L s).take k).all p = true) (hk : p s[k] = true) : ((L s).take (k + 1)).all p = true := by
  rw [L_take_succ s k h, WM.all_snoc, ha, hk]; rfl
theorem all_not {p : UInt8 → Bool} {s : ByteArray} {k : Nat} (h : k < s.size) (hk : p s[k] = false) : (L s).all p = false :=
  WM.not_all k (by rw [L_len]; exact h) (by rw [L_get s k h]; exact hk)

end Go.Proofs.Ytdhkflmodcgooaa

/- Contracts: names. -/
namespace Go.Proofs.Ytdhkflmodcgooaa
open Go.RowKit
set_option linter.unusedVariables false

def lord (c : UInt8) : Bool := WM.letter c || WM.dig c
theorem name_eq (l : List UInt8) : WM.name l = (l.all lord && WM.letter (l.headD 0) && decide (l.length ≤ 12)) := rfl

set_option maxHeartbeats 1000000 in
theorem name_any (s : ByteArray) (w : World) (hs : s.size ≤ 9223372036854775807) :
    Calls Try.prog 34 #[.string s] w fun e w' => e = .returned (.bool (WM.name (L s))) ∧ w = w' := by
  have HQ := name_eq (L s)
  generalize hv : WM.name (L s) = v at *
  clear hv
  rw [L_len] at HQ
  by_cases h0 : s.size = 0
  · rw [L_nil h0] at HQ
    have HN : Hid (v = false) := Lib.hid (by rw [HQ]; rfl)
    clear HQ
    have c0 : ((s.size : Int) == 0) = true := beq_t (by omega)
    go_enter Try.func34, Try.ntmps34
    go_wp2
    go_ret
    exact ⟨by rw [HN.out]; rfl, rfl⟩
  · have hp : 0 < s.size := by omega
    rw [L_head s hp] at HQ
    have c0 : ((s.size : Int) == 0) = false := beq_f (by omega)
    clear h0
    by_cases h1 : 12 < s.size
    · have HN : Hid (v = false) := Lib.hid (by
        rw [HQ, show decide (s.size ≤ 12) = false by simp; omega]; simp)
      clear HQ
      go_enter Try.func34, Try.ntmps34
      go_wp2
      go_ret
      exact ⟨by rw [HN.out]; rfl, rfl⟩
    · have e1 : decide (s.size ≤ 12) = true := by simp; omega
      rw [e1] at HQ
      clear e1
      cases hl : WM.letter s[0]
      · have HN : Hid (v = false) := Lib.hid (by rw [HQ, hl]; simp)
        clear HQ
        go_enter Try.func34, Try.ntmps34
        go_wp2_with (go_at_call 68; refine (isLetter_any _ _).mono ?_; rintro e w' ⟨rfl, rfl⟩)
        go_ret
        exact ⟨by rw [HN.out]; rfl, rfl⟩
      · have HN : Hid (v = (L s).all lord) := Lib.hid (by rw [HQ, hl]; simp)
        clear HQ
        go_enter Try.func34, Try.ntmps34
        go_wp2_with (go_at_call 68; refine (isLetter_any _ _).mono ?_; rintro e w' ⟨rfl, rfl⟩)
        go_loop [20] (fun i => ∃ k : Nat, k ≤ s.size ∧ i = .int .i64 k ∧ Hid (((L s).take k).all lord = true)) (fun i => s.size - (intOf i).toNat)
        case atStart => exact ⟨0, by omega, rfl, Lib.hid rfl⟩
        case round =>
          clear hl
          obtain ⟨k, hk, rfl, HA⟩ := hrel
          by_cases hlt : k < s.size
          · cases hl : WM.letter s[k]
            · cases hd : WM.dig s[k]
              · have HF := Lib.hid (all_not (p := lord) hlt (by unfold lord; rw [hl, hd]; rfl))
                go_wp2_with (first
                  | (go_at_call 68; refine (isLetter_any _ _).mono ?_; rintro e w' ⟨rfl, rfl⟩)
                  | (go_at_call 69; refine (isDigit_any _ _).mono ?_; rintro e w' ⟨rfl, rfl⟩))
                go_ret
                exact ⟨by rw [HN.out, HF.out]; rfl, rfl⟩
              · have HF := Lib.hid (all_step (p := lord) hlt HA.out (by unfold lord; rw [hl, hd]; rfl))
                go_wp2_with (first
                  | (go_at_call 68; refine (isLetter_any _ _).mono ?_; rintro e w' ⟨rfl, rfl⟩)
                  | (go_at_call 69; refine (isDigit_any _ _).mono ?_; rintro e w' ⟨rfl, rfl⟩))
                go_round
                case rel => exact ⟨k + 1, by omega, by go_num, HF⟩
                case measure => simp [intOf]; omega
            · have HF := Lib.hid (all_step (p := lord) hlt HA.out (by unfold lord; rw [hl]; rfl))
              go_wp2_with (first
                | (go_at_call 68; refine (isLetter_any _ _).mono ?_; rintro e w' ⟨rfl, rfl⟩)
                | (go_at_call 69; refine (isDigit_any _ _).mono ?_; rintro e w' ⟨rfl, rfl⟩))
              go_round
              case rel => exact ⟨k + 1, by omega, by go_num, HF⟩
              case measure => simp [intOf]; omega
          · obtain rfl : k = s.size := by omega
            have HE := HA.out
            rw [L_take_all] at HE
            have HE := Lib.hid HE
            go_wp2
            go_ret
            exact ⟨by rw [HN.out, HE.out]; rfl, rfl⟩

end Go.Proofs.Ytdhkflmodcgooaa

/- Contracts of layer 11: boxes, states and kinds, the closures. -/
namespace Go.Proofs.Ytdhkflmodcgooaa
open Go.RowKit Go.Recs
set_option linter.unusedVariables false
set_option linter.unusedSimpArgs false

abbrev accA (a : MM.Ac) : Value := .agg #[.string a.name, .int .i64 a.kind]
abbrev memA (m : MM.Mem) (A : Option Addr) (cap : Nat) : Value := .agg #[.string m.name, .int .i64 m.status, .slice A m.accs.length cap]
abbrev keyA (n a : ByteArray) : Value := .agg #[.string n, .string a]
abbrev accC (a : MM.Ac) : Array Value := #[.string a.name, .int .i64 a.kind]
abbrev memC (m : MM.Mem) (A : Option Addr) (cap : Nat) : Array Value := #[.string m.name, .int .i64 m.status, .slice A m.accs.length cap]
abbrev keyC (n a : ByteArray) : Array Value := #[.string n, .string a]

theorem isStatus_any (n : Int) (w : World) :
    Calls Try.prog 76 #[.int .i64 n] w fun e w' => e = .returned (.bool (MM.statOk n)) ∧ w = w' := by
  have hc : n = 1 ∨ n = 2 ∨ n = 3 ∨ n = 4 ∨ (¬ n = 1 ∧ ¬ n = 2 ∧ ¬ n = 3 ∧ ¬ n = 4) := by omega
  rcases hc with rfl | rfl | rfl | rfl | ⟨h1, h2, h3, h4⟩
  · go_enter Try.func76, Try.ntmps76
    go_wp2
    go_ret
    exact ⟨rfl, rfl⟩
  · go_enter Try.func76, Try.ntmps76
    go_wp2
    go_ret
    exact ⟨rfl, rfl⟩
  · go_enter Try.func76, Try.ntmps76
    go_wp2
    go_ret
    exact ⟨rfl, rfl⟩
  · go_enter Try.func76, Try.ntmps76
    go_wp2
    go_ret
    exact ⟨rfl, rfl⟩
  · have e : MM.statOk n = false := by unfold MM.statOk; rw [Bool.and_eq_false_iff]; simp only [decide_eq_false_iff_not]; omega
    rw [e]; clear e
    go_enter Try.func76, Try.ntmps76
    go_wp2
    go_ret
    exact ⟨rfl, rfl⟩

theorem isKind_any (n : Int) (w : World) :
    Calls Try.prog 72 #[.int .i64 n] w fun e w' => e = .returned (.bool (MM.kindOk n)) ∧ w = w' := by
  have hc : n = 1 ∨ n = 2 ∨ n = 3 ∨ (¬ n = 1 ∧ ¬ n = 2 ∧ ¬ n = 3) := by omega
  rcases hc with rfl | rfl | rfl | ⟨h1, h2, h3⟩
  · go_enter Try.func72, Try.ntmps72
    go_wp2
    go_ret
    exact ⟨rfl, rfl⟩
  · go_enter Try.func72, Try.ntmps72
    go_wp2
    go_ret
    exact ⟨rfl, rfl⟩
  · go_enter Try.func72, Try.ntmps72
    go_wp2
    go_ret
    exact ⟨rfl, rfl⟩
  · have e : MM.kindOk n = false := by unfold MM.kindOk; rw [Bool.and_eq_false_iff]; simp only [decide_eq_false_iff_not]; omega
    rw [e]; clear e
    go_enter Try.func72, Try.ntmps72
    go_wp2
    go_ret
    exact ⟨rfl, rfl⟩

theorem isWind_any (n : Int) (w : World) :
    Calls Try.prog 91 #[.int .i64 n] w fun e w' => e = .returned (.bool (decide (4 ≤ n) && decide (n ≤ 8))) ∧ w = w' := by
  have hc : n = 4 ∨ n = 5 ∨ n = 6 ∨ n = 7 ∨ n = 8 ∨ (¬ n = 4 ∧ ¬ n = 5 ∧ ¬ n = 6 ∧ ¬ n = 7 ∧ ¬ n = 8) := by omega
  rcases hc with rfl | rfl | rfl | rfl | rfl | ⟨h1, h2, h3, h4, h5⟩
  · go_enter Try.func91, Try.ntmps91
    go_wp2
    go_ret
    exact ⟨rfl, rfl⟩
  · go_enter Try.func91, Try.ntmps91
    go_wp2
    go_ret
    exact ⟨rfl, rfl⟩
  · go_enter Try.func91, Try.ntmps91
    go_wp2
    go_ret
    exact ⟨rfl, rfl⟩
  · go_enter Try.func91, Try.ntmps91
    go_wp2
    go_ret
    exact ⟨rfl, rfl⟩
  · go_enter Try.func91, Try.ntmps91
    go_wp2
    go_ret
    exact ⟨rfl, rfl⟩
  · have e : (decide (4 ≤ n) && decide (n ≤ 8)) = false := by rw [Bool.and_eq_false_iff]; simp only [decide_eq_false_iff_not]; omega
    rw [e]; clear e
    go_enter Try.func91, Try.ntmps91
    go_wp2
    go_ret
    exact ⟨rfl, rfl⟩

theorem allows_any (s act : Int) (w : World) :
    Calls Try.prog 67 #[.int .i64 s, .int .i64 act] w fun e w' => e = .returned (.bool (MM.allows s act)) ∧ w = w' := by
  have C := Lib.hid (fun ww => isWind_any act ww)
  have hc : s = 1 ∨ s = 2 ∨ s = 3 ∨ (¬ s = 1 ∧ ¬ s = 2 ∧ ¬ s = 3) := by omega
  rcases hc with rfl | rfl | rfl | ⟨h1, h2, h3⟩
  · rw [show MM.allows 1 act = true from rfl]
    go_enter Try.func67, Try.ntmps67
    go_wp2
    go_ret
    exact ⟨rfl, rfl⟩
  · have hd : act = 1 ∨ act = 3 ∨ (¬ act = 1 ∧ ¬ act = 3) := by omega
    rcases hd with rfl | rfl | ⟨g1, g2⟩
    · go_enter Try.func67, Try.ntmps67
      go_wp2
      go_ret
      exact ⟨rfl, rfl⟩
    · go_enter Try.func67, Try.ntmps67
      go_wp2
      go_ret
      exact ⟨rfl, rfl⟩
    · rw [show MM.allows 2 act = (act != 1 && act != 3) from rfl]
      go_enter Try.func67, Try.ntmps67
      go_wp2
      go_ret
      exact ⟨rfl, rfl⟩
  · have e : MM.allows 3 act = (decide (4 ≤ act) && decide (act ≤ 8)) := rfl
    rw [e]; clear e
    generalize (decide (4 ≤ act) && decide (act ≤ 8)) = b at *
    go_enter Try.func67, Try.ntmps67
    go_wp2_with fail
    refine (C.out _).mono ?_
    rintro e w1 ⟨rfl, rfl⟩
    go_wp2_with fail
    go_ret
    exact ⟨rfl, rfl⟩
  · have e : MM.allows s act = false := by unfold MM.allows; simp [h1, h2, h3]
    rw [e]; clear e
    go_enter Try.func67, Try.ntmps67
    go_wp2
    go_ret
    exact ⟨rfl, rfl⟩

theorem leads_any (f t : Int) (w : World) :
    Calls Try.prog 41 #[.int .i64 f, .int .i64 t] w fun e w' => e = .returned (.bool (MM.leads f t)) ∧ w = w' := by
  have hc : f = 1 ∨ f = 2 ∨ (¬ f = 1 ∧ ¬ f = 2) := by omega
  rcases hc with rfl | rfl | ⟨h1, h2⟩
  · have hd : t = 2 ∨ t = 3 ∨ t = 4 ∨ (¬ t = 2 ∧ ¬ t = 3 ∧ ¬ t = 4) := by omega
    rcases hd with rfl | rfl | rfl | ⟨g0, g1, g2⟩
    · go_enter Try.func41, Try.ntmps41
      go_wp2
      go_ret
      exact ⟨rfl, rfl⟩
    · go_enter Try.func41, Try.ntmps41
      go_wp2
      go_ret
      exact ⟨rfl, rfl⟩
    · go_enter Try.func41, Try.ntmps41
      go_wp2
      go_ret
      exact ⟨rfl, rfl⟩
    · rw [show MM.leads 1 t = (t == 2 || t == 3 || t == 4) from rfl]
      go_enter Try.func41, Try.ntmps41
      go_wp2
      go_ret
      exact ⟨rfl, rfl⟩
  · have hd : t = 1 ∨ t = 3 ∨ (¬ t = 1 ∧ ¬ t = 3) := by omega
    rcases hd with rfl | rfl | ⟨g0, g1⟩
    · go_enter Try.func41, Try.ntmps41
      go_wp2
      go_ret
      exact ⟨rfl, rfl⟩
    · go_enter Try.func41, Try.ntmps41
      go_wp2
      go_ret
      exact ⟨rfl, rfl⟩
    · rw [show MM.leads 2 t = (t == 1 || t == 3) from rfl]
      go_enter Try.func41, Try.ntmps41
      go_wp2
      go_ret
      exact ⟨rfl, rfl⟩
  · have e : MM.leads f t = false := by unfold MM.leads; simp [h1, h2]
    rw [e]; clear e
    go_enter Try.func41, Try.ntmps41
    go_wp2
    go_ret
    exact ⟨rfl, rfl⟩

/-! the closures -/
theorem mname_any (m : MM.Mem) (A : Option Addr) (cap g : Nat) (n : ByteArray) (w : World) (hb : CB w g 9 #[.string n]) :
    Calls Try.prog 70 #[memA m A cap, .pointer (some ⟨g, 0, none⟩)] w fun e w' => e = .returned (.bool (MM.eq m.name n)) ∧ Below w.heap.size w w' := by
  have HB0 := Lib.hid ((Below.refl w.heap.size w).alloc (Nat.le_refl _) (.cells (memC m A cap) 37))
  have c0 : (w.alloc (.cells (memC m A cap) 37)).cell? ⟨g, 0, none⟩ = some (.string n) := (hb.alloc _).cell 0
  have E : MM.eq m.name n = (m.name.toList == n.toList) := rfl
  rw [E]
  clear E hb
  go_enter Try.func70, Try.ntmps70
  go_wp2_with fail
  go_ret
  exact ⟨rfl, HB0.out⟩
theorem madd_any (m : MM.Mem) (A : Option Addr) (cap g : Nat) (n : ByteArray) (w : World) (hb : CB w g 9 #[.string n]) :
    Calls Try.prog 37 #[memA m A cap, .pointer (some ⟨g, 0, none⟩)] w fun e w' => e = .returned (.bool (MM.lt n m.name)) ∧ Below w.heap.size w w' := by
  have HB0 := Lib.hid ((Below.refl w.heap.size w).alloc (Nat.le_refl _) (.cells (memC m A cap) 37))
  have c0 : (w.alloc (.cells (memC m A cap) 37)).cell? ⟨g, 0, none⟩ = some (.string n) := (hb.alloc _).cell 0
  rw [← MM.gt_eq]
  clear hb
  go_enter Try.func37, Try.ntmps37
  go_wp2_with fail
  go_ret
  exact ⟨rfl, HB0.out⟩
theorem aname_any (a : MM.Ac) (g : Nat) (n : ByteArray) (w : World) (hb : CB w g 9 #[.string n]) :
    Calls Try.prog 90 #[accA a, .pointer (some ⟨g, 0, none⟩)] w fun e w' => e = .returned (.bool (MM.eq a.name n)) ∧ Below w.heap.size w w' := by
  have HB0 := Lib.hid ((Below.refl w.heap.size w).alloc (Nat.le_refl _) (.cells (accC a) 84))
  have c0 : (w.alloc (.cells (accC a) 84)).cell? ⟨g, 0, none⟩ = some (.string n) := (hb.alloc _).cell 0
  have E : MM.eq a.name n = (a.name.toList == n.toList) := rfl
  rw [E]
  clear E hb
  go_enter Try.func90, Try.ntmps90
  go_wp2_with fail
  go_ret
  exact ⟨rfl, HB0.out⟩
theorem aopen_any (a b : MM.Ac) (g : Nat) (w : World) (hb : CB w g 84 (accC a)) :
    Calls Try.prog 74 #[accA b, .pointer (some ⟨g, 0, none⟩)] w fun e w' => e = .returned (.bool (MM.lt a.name b.name)) ∧ Below w.heap.size w w' := by
  have HB0 := Lib.hid ((Below.refl w.heap.size w).alloc (Nat.le_refl _) (.cells (accC b) 84))
  have c0 : (w.alloc (.cells (accC b) 84)).cell? ⟨g, 0, none⟩ = some (.string a.name) := (hb.alloc _).cell 0
  have c1 : (w.alloc (.cells (accC b) 84)).cell? ⟨g, 1, none⟩ = some (.int .i64 a.kind) := (hb.alloc _).cell 1
  rw [← MM.gt_eq]
  clear hb
  go_enter Try.func74, Try.ntmps74
  go_wp2_with fail
  go_ret
  exact ⟨rfl, HB0.out⟩
end Go.Proofs.Ytdhkflmodcgooaa

/- Contracts of layer 15: the place of a series, Find, Net. -/
namespace Go.Proofs.Ytdhkflmodcgooaa
open Go.RowKit Go.Recs
set_option linter.unusedVariables false
set_option linter.unusedSimpArgs false
abbrev serC (s : EM.Ser) : Array Value := #[.string s.prod, .int .i64 s.kind, .int .i64 s.expiry, .int .i64 s.strike]
theorem seq_B (x y : EM.Ser) : seq x y = NM.seqB x y := rfl
theorem pis_any (x : PO.Pos) (g : Nat) (s : EM.Ser) (w : World) (hb : CB w g 44 (serC s)) :
    Calls Try.prog 79 #[posA x, .pointer (some ⟨g, 0, none⟩)] w fun e w' => e = .returned (.bool (NM.seqB x.ser s)) ∧ Below w.heap.size w w' := by
  have HB0 := Lib.hid ((Below.refl w.heap.size w).alloc (Nat.le_refl _) (.cells (posC x) 46))
  have HG := Lib.hid (hb.alloc (.cells (posC x) 46))
  have c0 := HG.out.cell 0; have c1 := HG.out.cell 1; have c2 := HG.out.cell 2; have c3 := HG.out.cell 3
  simp only [List.getElem?_toArray, List.getElem?_cons_zero, List.getElem?_cons_succ] at c0 c1 c2 c3
  have E1 : ∀ ww, (Op.equalIn 10000 44 (.agg #[.string x.ser.prod, .int .i64 x.ser.kind, .int .i64 x.ser.expiry, .int .i64 x.ser.strike]) (.agg #[.string s.prod, .int .i64 s.kind, .int .i64 s.expiry, .int .i64 s.strike])).run Try.prog ww = .ok (NM.seqB x.ser s) ww := fun ww => ser_in x.ser s ww
  have E2 := ser_guard
  clear hb
  generalize NM.seqB x.ser s = r at *
  go_enter Try.func79, Try.ntmps79
  go_wp2_with fail
  go_ret
  exact ⟨rfl, HB0.out⟩
def ixP : Option Nat → Int
  | some k => k
  | none => -1
set_option maxHeartbeats 4000000 in
theorem pindex_any (A : Option Addr) (l : List PO.Pos) (cap g : Nat) (s : EM.Ser) (w : World) (hI : Poss w A l) (hg : CB w g 44 (serC s)) :
    Calls Try.prog 78 #[.slice A l.length cap, .func (.func 79) #[] #[.pointer (some ⟨g, 0, none⟩)]] w fun e w' => e = .returned (.int .i64 (ixP (PO.fidx l s))) ∧ Below w.heap.size w w' := by
  have hlen : l.length ≤ 9223372036854775807 := hI.len
  have KY := Lib.hid (fun k => @PO.fidx_some l s k); have KN := Lib.hid (@PO.fidx_none l s)
  have HC := Lib.hid (fun (t : PO.Pos) ww h => pis_any t g s ww h)
  generalize PO.fidx l s = o at *
  have HI := Lib.hid hI; have HG := Lib.hid hg
  have hgl : g < w.heap.size := hg.lt
  clear hI hg
  go_enter Try.func78, Try.ntmps78
  go_wp2
  go_loopw [8, 5] (fun i _ wr => ∃ k : Nat, k ≤ l.length ∧ i = .int .i64 (k : Int) ∧ Hid (∀ j, j < k → NM.seqB (PO.pAt l j).ser s = false) ∧ Hid (Below w.heap.size w wr)) (fun i _ _ => l.length - (intOf i).toNat)
  case atStart => exact ⟨0, by omega, rfl, Lib.hid (fun j h => by omega), Lib.hid (Below.refl _ _)⟩
  case round =>
    obtain ⟨k, hk, rfl, HE, HB⟩ := hrel
    by_cases hlt : k < l.length
    · obtain ⟨b, off, t, rfl, hb, HV, q, d0, d1, d2, d3, d4, d5⟩ := poss_get (HI.out.below HB.out) hlt
      have C1 := Lib.hid (fun ww h => HC.out t ww h)
      have HV2 : Hid (NM.seqB (PO.pAt l k).ser s = NM.seqB t.ser s) := Lib.hid (by rw [HV.out])
      have HG2 := Lib.hid (HG.out.below HB.out hgl)
      clear q HC
      cases hp : NM.seqB t.ser s
      · rw [hp] at C1 HV2
        have HE2 : Hid (∀ j, j < k + 1 → NM.seqB (PO.pAt l j).ser s = false) := Lib.hid (fun j hj => by
          rcases Nat.lt_or_ge j k with gg | gg
          · exact HE.out j gg
          · obtain rfl : j = k := by omega
            exact HV2.out)
        clear hp
        go_wp2_with fail
        refine (C1.out _ HG2.out).mono ?_
        rintro e w1 ⟨rfl, b1⟩
        have HB3 := Lib.hid (HB.out.trans (b1.mono HB.out.size))
        clear b1
        go_wp2_with fail
        go_roundw
        case rel => exact ⟨k + 1, by omega, by go_num, HE2, HB3⟩
        case measure => simp [intOf]; omega
      · rw [hp] at C1
        have HX := Lib.hid (KY.out k hlt HE.out (HV2.out.trans hp))
        clear hp
        go_wp2_with fail
        refine (C1.out _ HG2.out).mono ?_
        rintro e w1 ⟨rfl, b1⟩
        have HB3 := Lib.hid (HB.out.trans (b1.mono HB.out.size))
        clear b1
        go_wp2_with fail
        go_ret
        exact ⟨by rw [HX.out] <;> rfl, HB3.out⟩
    · obtain rfl : k = l.length := by omega
      have HX := Lib.hid (KN.out HE.out)
      go_wp2_with fail
      go_ret
      exact ⟨by rw [HX.out] <;> rfl, HB.out⟩
set_option maxHeartbeats 2000000 in
theorem pplace_any (A : Option Addr) (l : List PO.Pos) (cap : Nat) (s : EM.Ser) (w : World) (hI : Poss w A l) :
    Calls Try.prog 44 #[.slice A l.length cap, serA s] w fun e w' => e = .returned (.tuple #[.int .i64 (ixP (PO.fidx l s)), .bool (PO.fidx l s).isSome]) ∧ Below w.heap.size w w' := by
  have hmf : ∀ (fn : Fn) (first cap : Array Value) (w : World), (Instr.makeFunc fn first cap).run Try.prog w = .ok (.func fn first cap) w := fun _ _ _ _ => rfl
  have HB0 := Lib.hid ((Below.refl w.heap.size w).alloc (Nat.le_refl _) (.cells (serC s) 44))
  have C := Lib.hid (pindex_any A l cap w.heap.size s _ (hI.below HB0.out) (CB.new w 44 (serC s)))
  have hx : ((PO.fidx l s).isSome = true ∧ 0 ≤ ixP (PO.fidx l s)) ∨ ((PO.fidx l s).isSome = false ∧ ixP (PO.fidx l s) = -1) := by
    cases PO.fidx l s with
    | none => exact .inr ⟨rfl, rfl⟩
    | some i => exact .inl ⟨rfl, by simp [ixP]⟩
  generalize ixP (PO.fidx l s) = x at *
  generalize (PO.fidx l s).isSome = y at *
  clear hI
  rcases hx with ⟨rfl, hx⟩ | ⟨rfl, rfl⟩
  all_goals (
    go_enter Try.func44, Try.ntmps44
    go_wp2_with fail
    refine C.out.mono ?_
    rintro e w1 ⟨rfl, b1⟩
    have HB1 := Lib.hid (HB0.out.trans (b1.mono HB0.out.size))
    clear b1
    go_wp2_with fail
    go_ret2
    exact ⟨rfl, HB1.out⟩)
theorem pnet_any (x : PO.Pos) (n : Int) (hn : IntKind.i64.wrap (x.lo - x.sh) = n) (w : World) :
    Calls Try.prog 26 #[posA x] w fun e w' => e = .returned (.int .i64 n) ∧ Below w.heap.size w w' := by
  have HB0 := Lib.hid ((Below.refl w.heap.size w).alloc (Nat.le_refl _) (.cells (posC x) 46))
  go_enter Try.func26, Try.ntmps26
  go_wp2_with fail
  go_ret
  exact ⟨rfl, HB0.out⟩
end Go.Proofs.Ytdhkflmodcgooaa

/- Contracts of layer 15: Find. -/
namespace Go.Proofs.Ytdhkflmodcgooaa
open Go.RowKit Go.Recs
set_option linter.unusedVariables false
set_option linter.unusedSimpArgs false
set_option maxHeartbeats 4000000 in
set_option maxRecDepth 100000 in
theorem pfindl_any (A : Option Addr) (l : List PO.Pos) (cap : Nat) (s : EM.Ser) (w : World) (hI : Poss w A l) :
    Calls Try.prog 19 #[.slice A l.length cap, serA s] w fun e w' => e = .returned (posA (PO.findP l s)) ∧ Below w.heap.size w w' := by
  have hlen := hI.len
  have HBa := Lib.hid ((Below.refl w.heap.size w).alloc (Nat.le_refl _) (.cells (serC s) 44))
  have HG0 := Lib.hid (CB.new w 44 (serC s))
  have HB0 := Lib.hid (below_al HBa.out (.cells (posC PO.zero) 46))
  have HG := Lib.hid (HG0.out.alloc (.cells (posC PO.zero) 46))
  have HT0 := Lib.hid (CB.new1 w (.cells (serC s) 44) 46 (posC PO.zero))
  have HI := Lib.hid (hI.below HB0.out)
  have C1 := Lib.hid (fun ww h => pplace_any A l cap s ww h)
  clear hI HBa HG0
  cases hp : PO.fidx l s with
  | none =>
    have ef : PO.findP l s = ⟨s, 0, 0⟩ := by unfold PO.findP; rw [hp]
    rw [ef]
    rw [hp, show ixP none = -1 from rfl] at C1
    clear hp ef
    go_enter Try.func19, Try.ntmps19
    go_wp2_with fail
    refine (C1.out _ HI.out).mono ?_
    rintro e w1 ⟨rfl, b1⟩
    have HB1 := Lib.hid (HB0.out.trans (b1.mono HB0.out.size))
    have HT1 := Lib.hid (HT0.out.below b1 HT0.out.lt)
    have HG1 := Lib.hid (HG.out.below b1 HG.out.lt)
    clear b1
    have s0 := HG1.out.cell 0; have s1 := HG1.out.cell 1; have s2 := HG1.out.cell 2; have s3 := HG1.out.cell 3
    have k0 := HT1.out.cell 0; have k1 := HT1.out.cell 1; have k2 := HT1.out.cell 2; have k3 := HT1.out.cell 3; have k4 := HT1.out.cell 4; have k5 := HT1.out.cell 5
    simp only [List.getElem?_toArray, List.getElem?_cons_zero, List.getElem?_cons_succ] at s0 s1 s2 s3 k0 k1 k2 k3 k4 k5
    have f0 := HT1.out.frozen 0; have f1 := HT1.out.frozen 1; have f2 := HT1.out.frozen 2; have f3 := HT1.out.frozen 3; have f4 := HT1.out.frozen 4; have f5 := HT1.out.frozen 5
    have hzl := HT1.out.lt
    go_wp2_with fail
    (try simp only [Exit.inBlock, Exit.then])
    exact bodyPost_ret (results_pos (x := ⟨s, 0, 0⟩) rfl _ _ _ rfl (HT1.out.putP ⟨s, 0, 0⟩)) rfl ⟨rfl, putP_below HB1.out (Nat.le_succ _) ⟨s, 0, 0⟩⟩
  | some i =>
    obtain ⟨hi, -⟩ := List.findIdx?_eq_some_iff_getElem.1 hp
    have ef : PO.findP l s = PO.pAt l i := by unfold PO.findP; rw [hp]
    rw [ef]
    rw [hp, show ixP (some i) = (i : Int) from rfl] at C1
    clear hp ef
    generalize hx : PO.pAt l i = x at *
    have HXX := Lib.hid hx
    clear hx
    go_enter Try.func19, Try.ntmps19
    go_wp2_with fail
    refine (C1.out _ HI.out).mono ?_
    rintro e w1 ⟨rfl, b1⟩
    have HB1 := Lib.hid (HB0.out.trans (b1.mono HB0.out.size))
    have HT1 := Lib.hid (HT0.out.below b1 HT0.out.lt)
    have HG1 := Lib.hid (HG.out.below b1 HG.out.lt)
    obtain ⟨b, off, t, rfl, hb, HV, q, d0, d1, d2, d3, d4, d5⟩ := poss_get (HI.out.below b1) hi
    obtain rfl : x = t := HXX.out.symm.trans HV.out
    clear b1 q HV HXX
    have s0 := HG1.out.cell 0; have s1 := HG1.out.cell 1; have s2 := HG1.out.cell 2; have s3 := HG1.out.cell 3
    have k0 := HT1.out.cell 0; have k1 := HT1.out.cell 1; have k2 := HT1.out.cell 2; have k3 := HT1.out.cell 3; have k4 := HT1.out.cell 4; have k5 := HT1.out.cell 5
    simp only [List.getElem?_toArray, List.getElem?_cons_zero, List.getElem?_cons_succ] at s0 s1 s2 s3 k0 k1 k2 k3 k4 k5
    have f0 := HT1.out.frozen 0; have f1 := HT1.out.frozen 1; have f2 := HT1.out.frozen 2; have f3 := HT1.out.frozen 3; have f4 := HT1.out.frozen 4; have f5 := HT1.out.frozen 5
    have hzl := HT1.out.lt
    go_wp2_with fail
    (try simp only [Exit.inBlock, Exit.then])
    exact bodyPost_ret (results_pos (x := x) rfl _ _ _ rfl (HT1.out.putP x)) rfl ⟨rfl, putP_below HB1.out (Nat.le_succ _) x⟩
end Go.Proofs.Ytdhkflmodcgooaa

/- Contracts of layer 15's reference: kinds, lots, sizes, Same, Find. -/
namespace Go.Proofs.Ytdhkflmodcgooaa
open Go.RowKit Go.Recs
set_option linter.unusedVariables false
set_option linter.unusedSimpArgs false
theorem pos_guard : Try.prog.eqGuardType Try.prog.depth 46 = false := by kernel_rfl
theorem pos_in (x y : PO.Pos) (w : World) : (Op.equalIn 10000 46 (posA x) (posA y)).run Try.prog w = .ok (NM.seqB x.ser y.ser && ((x.lo == y.lo) && (x.sh == y.sh))) w := by
  have u3 := Try.underlying3
  have a3 := Try.isAgg3
  have z3 := Try.sizeOf3
  have aS := Try.isAgg44
  have zS := Try.sizeOf44
  have hS : Try.prog.underlying 46 = some (.struct (Try.prog.fieldsOf 46)) := by kernel_rfl
  have hp : Try.prog.stoodInHeld 46 = false := by kernel_rfl
  have e2 := ser_in_at 9997 x.ser y.ser
  rw [show (10000 : Nat) = 9999 + 1 from rfl, run_equalIn_agg w 9999 46 _ _ hS hp]
  simp only [Program.fieldsOf, Try.underlying46]
  generalize NM.seqB x.ser y.ser = q at *
  go_simp
  cases q <;> by_cases h1 : x.lo = y.lo <;> by_cases h2 : x.sh = y.sh <;> simp [h1, h2]
theorem rkind15_any (k : Int) (w : World) : Calls Try.prog 60 #[.int .i64 k] w fun e w' => e = .returned (.bool (decide (1 ≤ k) && decide (k ≤ 3))) ∧ w' = w := by
  by_cases h1 : 1 ≤ k <;> by_cases h2 : k ≤ 3 <;> simp only [h1, h2, decide_true, decide_false, Bool.and_true, Bool.and_false]
  all_goals (
    go_enter Try.func60, Try.ntmps60
    go_wp2_with fail
    go_ret
    exact ⟨rfl, rfl⟩)
theorem rlots15_any (k : Int) (w : World) : Calls Try.prog 50 #[.int .i64 k] w fun e w' => e = .returned (.bool (PO.okL k)) ∧ w' = w := by
  unfold PO.okL
  by_cases h1 : 0 ≤ k <;> by_cases h2 : k ≤ 1048576 <;> simp only [h1, h2, decide_true, decide_false, Bool.and_true, Bool.and_false]
  all_goals (
    go_enter Try.func50, Try.ntmps50
    go_wp2_with fail
    go_ret
    exact ⟨rfl, rfl⟩)
theorem rsize15_any (k : Int) (h : -1048576 ≤ k ∧ k ≤ 1048576) (w : World) : Calls Try.prog 61 #[.int .i64 k] w fun e w' => e = .returned (.int .i64 (PO.absI k)) ∧ w' = w := by
  unfold PO.absI
  by_cases h1 : k < 0 <;> simp only [h1, if_true, if_false]
  all_goals (
    go_enter Try.func61, Try.ntmps61
    go_wp2_with fail
    go_ret
    exact ⟨rfl, rfl⟩)
theorem rsame15_any (A B : Option Addr) (l : List PO.Pos) (n c m d : Nat) (hn : n = l.length) (hm : m = l.length) (w : World) (hI : Poss w A l) (hJ : Poss w B l) :
    Calls Try.prog 21 #[.slice A n c, .slice B m d] w fun e w' => e = .returned (.bool true) ∧ ∃ k, w' = w.drewN k := by
  subst hn hm
  have hlen := hI.len
  have gl := pos_guard
  go_enter Try.func21, Try.ntmps21
  go_wp2_with fail
  go_loopw [5] (fun i wr => ∃ k : Nat, k ≤ l.length ∧ i = .int .i64 (k : Int) ∧ ∃ nd, wr = w.drewN nd) (fun i _ => l.length - (intOf i).toNat)
  case atStart => exact ⟨0, by omega, rfl, 0, rfl⟩
  case round =>
    obtain ⟨k, hk, rfl, nd, rfl⟩ := hrel
    by_cases hlt : k < l.length
    · obtain ⟨b, off, x, rfl, hb, HV, q, d0, d1, d2, d3, d4, d5⟩ := poss_get hI hlt
      obtain ⟨b', off', x', rfl, hb', HV', q', g0, g1, g2, g3, g4, g5⟩ := poss_get hJ hlt
      obtain rfl : x = x' := HV.out.symm.trans HV'.out
      have HI := Lib.hid hI; have HJ := Lib.hid hJ
      have E1 : ∀ ww, (Op.equalIn 10000 46 (posA x) (posA x)).run Try.prog ww = .ok true ww := fun ww => by rw [pos_in, NM.seqB_iff.2 rfl]; simp
      clear q q' HV HV' hI hJ
      go_wp2_with fail
      go_quiet (fail)
      go_wp2_with fail
      go_roundw
      case rel => exact ⟨k + 1, by omega, by go_num, by first | exact ⟨nd, rfl⟩ | exact ⟨_, rfl⟩ | exact ⟨nd + 1, rfl⟩⟩
      case measure => simp [intOf]; omega
    · obtain rfl : k = l.length := by omega
      go_wp2_with fail
      go_ret
      exact ⟨rfl, nd, rfl⟩
end Go.Proofs.Ytdhkflmodcgooaa

/- Contracts of layer 10's reference: two series compared. -/
namespace Go.Proofs.Ytdhkflmodcgooaa
open Go.RowKit Go.Recs
set_option linter.unusedVariables false
set_option linter.unusedSimpArgs false
theorem rorder10_any (a b : Int) (w : World) : Calls Try.prog 84 #[.int .i64 a, .int .i64 b] w fun e w' => e = .returned (.int .i64 (EM.ord a b)) ∧ w' = w := by
  unfold EM.ord
  by_cases h1 : a < b
  · rw [if_pos h1]
    go_enter Try.func84, Try.ntmps84
    go_wp2_with fail
    go_ret
    exact ⟨rfl, rfl⟩
  · rw [if_neg h1]
    by_cases h2 : b < a
    · rw [if_pos h2]
      go_enter Try.func84, Try.ntmps84
      go_wp2_with fail
      go_ret
      exact ⟨rfl, rfl⟩
    · rw [if_neg h2]
      go_enter Try.func84, Try.ntmps84
      go_wp2_with fail
      go_ret
      exact ⟨rfl, rfl⟩
theorem rcmp10_any (a b : EM.Ser) (w : World) : Calls Try.prog 49 #[serA a, serA b] w fun e w' => e = .returned (.int .i64 (EM.cmp a b)) ∧ Below w.heap.size w w' := by
  have HB0 := Lib.hid (below_al (below_al (Below.refl w.heap.size w) (.cells (serC a) 44)) (.cells (serC b) 44))
  have C1 := Lib.hid (fun x y ww => rorder10_any x y ww)
  unfold EM.cmp EM.less
  cases p1 : Op.bytesLess a.prod.toList b.prod.toList
  · cases p2 : Op.bytesLess b.prod.toList a.prod.toList
    · have p4 : (!a.prod.toList == b.prod.toList) = false := by rw [EM.same_prod p1 p2]; simp
      simp only [Bool.false_eq_true, if_false]
      by_cases h1 : a.expiry = b.expiry
      · rw [if_neg (by simpa using h1)]
        have e1 : (a.expiry != b.expiry) = false := by simp [h1]
        clear h1
        by_cases h2 : a.kind = b.kind
        · rw [if_neg (by simpa using h2)]
          have e2 : (a.kind != b.kind) = false := by simp [h2]
          clear h2
          go_enter Try.func49, Try.ntmps49
          go_wp2_with fail
          refine (C1.out _ _ _).mono ?_
          rintro e w1 ⟨rfl, rfl⟩
          go_wp2_with fail
          go_ret
          exact ⟨rfl, HB0.out⟩
        · rw [if_pos h2]
          go_enter Try.func49, Try.ntmps49
          go_wp2_with fail
          refine (C1.out _ _ _).mono ?_
          rintro e w1 ⟨rfl, rfl⟩
          go_wp2_with fail
          go_ret
          exact ⟨rfl, HB0.out⟩
      · rw [if_pos h1]
        go_enter Try.func49, Try.ntmps49
        go_wp2_with fail
        refine (C1.out _ _ _).mono ?_
        rintro e w1 ⟨rfl, rfl⟩
        go_wp2_with fail
        go_ret
        exact ⟨rfl, HB0.out⟩
    · have p5 : ¬ a.prod.toList = b.prod.toList := fun e => by rw [e, OM.bl_irrefl] at p2; cases p2
      have p4 : (!a.prod.toList == b.prod.toList) = true := by simpa using p5
      simp only [Bool.false_eq_true, if_false, if_true]
      go_enter Try.func49, Try.ntmps49
      go_wp2_with fail
      go_ret
      exact ⟨rfl, HB0.out⟩
  · simp only [if_true]
    go_enter Try.func49, Try.ntmps49
    go_wp2_with fail
    go_ret
    exact ⟨rfl, HB0.out⟩
set_option maxHeartbeats 4000000 in
set_option maxRecDepth 100000 in
theorem rfind15_any (A : Option Addr) (l : List PO.Pos) (n cap : Nat) (hn : n = l.length) (s : EM.Ser) (w : World) (hI : Poss w A l) :
    Calls Try.prog 20 #[.slice A n cap, serA s] w fun e w' => e = .returned (posA (PO.findP l s)) ∧ Below w.heap.size w w' := by
  subst hn
  have hlen := hI.len
  have HBa := Lib.hid ((Below.refl w.heap.size w).alloc (Nat.le_refl _) (.cells #[.string s.prod, .int .i64 s.kind, .int .i64 s.expiry, .int .i64 s.strike] 44))
  have HG0 := Lib.hid (CB.new w 44 #[.string s.prod, .int .i64 s.kind, .int .i64 s.expiry, .int .i64 s.strike])
  have HB0 := Lib.hid (below_al HBa.out (.cells #[.string ⟨#[]⟩, .int .i64 0, .int .i64 0, .int .i64 0, .int .i64 0, .int .i64 0] 46))
  have HG := Lib.hid (HG0.out.alloc (.cells #[.string ⟨#[]⟩, .int .i64 0, .int .i64 0, .int .i64 0, .int .i64 0, .int .i64 0] 46))
  have HT0 := Lib.hid (CB.new1 w (.cells #[.string s.prod, .int .i64 s.kind, .int .i64 s.expiry, .int .i64 s.strike] 44) 46 #[.string ⟨#[]⟩, .int .i64 0, .int .i64 0, .int .i64 0, .int .i64 0, .int .i64 0])
  have HI := Lib.hid (hI.below HB0.out)
  have KY : Hid (∀ k, k < l.length → (∀ j, j < k → NM.seqB (PO.pAt l j).ser s = false) → NM.seqB (PO.pAt l k).ser s = true → PO.findP l s = PO.pAt l k) := Lib.hid (fun k hk hj h => by unfold PO.findP; rw [PO.fidx_some hk hj h])
  have KN : Hid ((∀ j, j < l.length → NM.seqB (PO.pAt l j).ser s = false) → PO.findP l s = ⟨s, 0, 0⟩) := Lib.hid (fun h => by unfold PO.findP; rw [PO.fidx_none h])
  generalize PO.findP l s = r at *
  clear hI HBa HG0
  have E2 := ser_guard
  go_enter Try.func20, Try.ntmps20
  go_wp2_with fail
  generalize (w.alloc (.cells #[.string s.prod, .int .i64 s.kind, .int .i64 s.expiry, .int .i64 s.strike] 44)).alloc (.cells #[.string ⟨#[]⟩, .int .i64 0, .int .i64 0, .int .i64 0, .int .i64 0, .int .i64 0] 46) = w0 at *
  have HGl := Lib.hid HG.out.lt
  have HTl := Lib.hid HT0.out.lt
  go_loopw [5] (fun i wr => ∃ k : Nat, k ≤ l.length ∧ i = .int .i64 (k : Int) ∧ Hid (∀ j, j < k → NM.seqB (PO.pAt l j).ser s = false) ∧ Hid (Below w0.heap.size w0 wr)) (fun i _ => l.length - (intOf i).toNat)
  case atStart => exact ⟨0, by omega, rfl, Lib.hid (fun j h => by omega), Lib.hid (Below.refl _ _)⟩
  case round =>
    obtain ⟨k, hk, rfl, HE, HN⟩ := hrel
    have HB1 := Lib.hid (HB0.out.trans (HN.out.mono HB0.out.size))
    have HT1 := Lib.hid (HT0.out.below HN.out HTl.out)
    have HG1 := Lib.hid (HG.out.below HN.out HGl.out)
    have s0 : wr.cell? ⟨w.heap.size, 0, none⟩ = some (.string s.prod) := HG1.out.cell 0
    have s1 : wr.cell? ⟨w.heap.size, 1, none⟩ = some (.int .i64 s.kind) := HG1.out.cell 1
    have s2 : wr.cell? ⟨w.heap.size, 2, none⟩ = some (.int .i64 s.expiry) := HG1.out.cell 2
    have s3 : wr.cell? ⟨w.heap.size, 3, none⟩ = some (.int .i64 s.strike) := HG1.out.cell 3
    have f0 := HT1.out.frozen 0; have f1 := HT1.out.frozen 1; have f2 := HT1.out.frozen 2; have f3 := HT1.out.frozen 3; have f4 := HT1.out.frozen 4; have f5 := HT1.out.frozen 5
    have k0 := HT1.out.cell 0; have k1 := HT1.out.cell 1; have k2 := HT1.out.cell 2; have k3 := HT1.out.cell 3; have k4 := HT1.out.cell 4; have k5 := HT1.out.cell 5
    simp only [List.getElem?_toArray, List.getElem?_cons_zero, List.getElem?_cons_succ] at k0 k1 k2 k3 k4 k5
    have hzl := HT1.out.lt
    by_cases hlt : k < l.length
    · obtain ⟨b, off, x, rfl, hb, HV, q, d0, d1, d2, d3, d4, d5⟩ := poss_get (HI.out.below HN.out) hlt
      have E1 : ∀ ww, (Op.equalIn 10000 44 (.agg #[.string x.ser.prod, .int .i64 x.ser.kind, .int .i64 x.ser.expiry, .int .i64 x.ser.strike]) (.agg #[.string s.prod, .int .i64 s.kind, .int .i64 s.expiry, .int .i64 s.strike])).run Try.prog ww = .ok (NM.seqB x.ser s) ww := fun ww => ser_in x.ser s ww
      have HV2 : Hid (NM.seqB (PO.pAt l k).ser s = NM.seqB x.ser s) := Lib.hid (by rw [HV.out])
      clear q
      cases hp : NM.seqB x.ser s
      · rw [hp] at E1 HV2
        have HE2 : Hid (∀ j, j < k + 1 → NM.seqB (PO.pAt l j).ser s = false) := Lib.hid (fun j hj => by
          rcases Nat.lt_or_ge j k with gg | gg
          · exact HE.out j gg
          · obtain rfl : j = k := by omega
            exact HV2.out)
        clear hp
        go_wp2_with fail
        go_quiet (fail)
        go_wp2_with fail
        go_roundw
        case rel => exact ⟨k + 1, by omega, by go_num, HE2, Lib.hid (by first | exact below_drewN HN.out _ | exact HN.out.drew | exact HN.out)⟩
        case measure => simp [intOf]; omega
      · rw [hp] at E1
        have HX : Hid (r = x) := Lib.hid ((KY.out k hlt HE.out (HV2.out.trans hp)).trans HV.out)
        clear hp
        go_wp2_with fail
        go_quiet (fail)
        go_wp2_with fail
        (try simp only [Exit.inBlock, Exit.then])
        exact bodyPost_ret (results_pos (x := x) rfl _ _ _ rfl (CB.putP (w := wr.drewN _) (y := PO.zero) (by exact HT1.out) x)) rfl ⟨by rw [HX.out] <;> rfl, putP_below (below_drewN HB1.out _) (Nat.le_succ _) x⟩
    · obtain rfl : k = l.length := by omega
      have HX := Lib.hid (KN.out HE.out)
      go_wp2_with fail
      (try simp only [Exit.inBlock, Exit.then])
      exact bodyPost_ret (results_pos (x := ⟨s, 0, 0⟩) rfl _ _ _ rfl (CB.putP (y := PO.zero) HT1.out ⟨s, 0, 0⟩)) rfl ⟨by rw [HX.out] <;> rfl, putP_below HB1.out (Nat.le_succ _) ⟨s, 0, 0⟩⟩
end Go.Proofs.Ytdhkflmodcgooaa
