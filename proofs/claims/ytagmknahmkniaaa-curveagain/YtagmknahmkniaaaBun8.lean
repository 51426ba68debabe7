/- Put together: Vals, Txt, CurJ, WCurveMoves, WCurveAgain, SizedRec, OpenArr. -/
import Derived.Test.YtagmknahmkniaaaBun5
import Derived.Test.YtagmknahmkniaaaBun2
import Derived.Laws.IdiomStrings
import Derived.Laws.Concat
import Derived.Test.YtagmknahmkniaaaBun7
import Derived.StillTailTactics
import Derived.Test.YtagmknahmkniaaaBun1
import Derived.SizedLaws
import Derived.ProofKit
import Derived.OpenShut
import Derived.ShutString
import Derived.ChangeOld
import Derived.Laws.IdiomArrays
import Derived.Lib.SmallJoins
/- Slices of values of one cell each, of whatever type: what a slice holds, and slices that the call itself makes. -/
namespace Go.Proofs.Ytagmknahmkniaaa
open Go.RowKit

/-- a slice at A holds the values vs, in w -/
def Vals (w : World) (A : Option Addr) (vs : List Value) : Prop :=
  vs.length ≤ maxLen ∧ (vs = [] ∨ ∃ b off, A = some ⟨b, off, none⟩ ∧ b < w.heap.size ∧ ∀ i, i < vs.length → w.cell? ⟨b, off + i, none⟩ = vs[i]?)

section
variable {w w' : World} {A : Option Addr} {vs : List Value}
theorem Vals.get (h : Vals w A vs) {k : Nat} (hk : k < vs.length) : ∃ b off, A = some ⟨b, off, none⟩ ∧ b < w.heap.size ∧ w.cell? ⟨b, off + k, none⟩ = some vs[k] := by
  rcases h.2 with h0 | ⟨b, off, rfl, hb, hc⟩
  · subst h0; simp at hk
  · exact ⟨b, off, rfl, hb, by rw [hc k hk, List.getElem?_eq_getElem hk]⟩
theorem Vals.len (h : Vals w A vs) : vs.length ≤ 9223372036854775807 := h.1
theorem Vals.keep (h : Vals w A vs) (hz : w.heap.size ≤ w'.heap.size) (hk : ∀ b o, b < w.heap.size → w'.cell? ⟨b, o, none⟩ = w.cell? ⟨b, o, none⟩) : Vals w' A vs := by
  refine ⟨h.1, ?_⟩
  rcases h.2 with h | ⟨b, off, rfl, hb, hc⟩
  · exact .inl h
  · exact .inr ⟨b, off, rfl, by omega, fun i hi => by rw [hk _ _ hb]; exact hc i hi⟩
theorem Vals.below (h : Vals w A vs) (hb : Below w.heap.size w w') : Vals w' A vs := h.keep hb.size fun b o hlt => hb.cell (p := ⟨b, o, none⟩) hlt
theorem Vals.drewN (h : Vals w A vs) (n : Nat) : Vals (w.drewN n) A vs := h
theorem Vals.drew (h : Vals w A vs) : Vals w.drew A vs := h
theorem Vals.nil (w : World) (A : Option Addr) : Vals w A [] := ⟨by simp, .inl rfl⟩
theorem Vals.take_ (h : Vals w A vs) (n : Nat) : Vals w A (vs.take n) := by
  refine ⟨by rw [List.length_take]; have := h.1; omega, ?_⟩
  rcases h.2 with h | ⟨b, off, rfl, hb, hc⟩
  · exact .inl (by rw [h]; simp)
  · refine .inr ⟨b, off, rfl, hb, fun i hi => ?_⟩
    rw [List.length_take] at hi
    rw [hc i (by omega), List.getElem?_take_of_lt (by omega)]
theorem Vals.drop_ {b off : Nat} (h : Vals w (some ⟨b, off, none⟩) vs) (n : Nat) : Vals w (some ⟨b, off + n, none⟩) (vs.drop n) := by
  refine ⟨by rw [List.length_drop]; have := h.1; omega, ?_⟩
  rcases h.2 with h | ⟨b', off', e, hb, hc⟩
  · exact .inl (by rw [h]; simp)
  · injection e with e
    injection e with e1 e2
    subst e1 e2
    refine .inr ⟨_, _, rfl, hb, fun i hi => ?_⟩
    rw [List.length_drop] at hi
    rw [Nat.add_assoc, hc (n + i) (by omega), List.getElem?_drop]
theorem Vals.of_row {x : Addr} {len : Nat} {vs : List Value} (hm : vs.length ≤ maxLen) (hcell : ∀ i, i < vs.length → w.cell? (x.add i) = vs[i]?) : Vals w (some x) (vs.take len) := by
  refine Vals.take_ (⟨hm, ?_⟩ : Vals w (some x) vs) len
  rcases Nat.eq_zero_or_pos vs.length with h0 | h0
  · exact .inl (List.eq_nil_of_length_eq_zero h0)
  · obtain ⟨b, off, spot⟩ := x
    have hc := hcell 0 h0
    rw [List.getElem?_eq_getElem h0] at hc
    have hspot : spot = none := by simpa [Addr.add] using World.cell?_spot hc
    subst hspot
    refine .inr ⟨b, off, rfl, World.block_lt_of_cell? _ _ hc, fun i hi => ?_⟩
    have := hcell i hi
    have e : (⟨b, off, none⟩ : Addr).add i = ⟨b, off + i, none⟩ := by
      unfold Addr.add
      by_cases h0 : i = 0
      · subst h0; simp
      · simp [h0]
    rwa [e] at this
end

/-! bytes and texts -/
def byteV (c : UInt8) : Value := .int .u8 c.toNat
def Bytes (w : World) (A : Option Addr) (l : List UInt8) : Prop := Vals w A (l.map byteV)
def Strs (w : World) (A : Option Addr) (l : List ByteArray) : Prop := Vals w A (l.map Value.string) ∧ ∀ s ∈ l, s.size ≤ maxLen
section
variable {w w' : World} {A : Option Addr}
/-- byte k, under a name of its own -/
theorem Bytes.get {l : List UInt8} (h : Bytes w A l) {k : Nat} (hk : k < l.length) :
    ∃ b off, ∃ n : Int, A = some ⟨b, off, none⟩ ∧ b < w.heap.size ∧ w.cell? ⟨b, off + k, none⟩ = some (.int .u8 n) ∧ Hid ((l[k].toNat : Int) = n) ∧ 0 ≤ n ∧ n ≤ 255 := by
  obtain ⟨b, off, rfl, hb, hc⟩ := Vals.get h (k := k) (by rw [List.length_map]; exact hk)
  have := l[k].toNat_lt
  exact ⟨b, off, _, rfl, hb, by rw [hc, List.getElem_map]; rfl, rfl, by omega, by omega⟩
theorem Bytes.len {l : List UInt8} (h : Bytes w A l) : l.length ≤ 9223372036854775807 := by have := h.1; rw [List.length_map] at this; exact this
theorem Bytes.below {l : List UInt8} (h : Bytes w A l) (hb : Below w.heap.size w w') : Bytes w' A l := Vals.below h hb
theorem Bytes.drewN {l : List UInt8} (h : Bytes w A l) (n : Nat) : Bytes (w.drewN n) A l := h
theorem Bytes.nil (w : World) (A : Option Addr) : Bytes w A [] := Vals.nil w A
theorem Bytes.take_ {l : List UInt8} (h : Bytes w A l) (n : Nat) : Bytes w A (l.take n) := by unfold Bytes; rw [List.map_take]; exact Vals.take_ h n
theorem Bytes.drop_ {b off : Nat} {l : List UInt8} (h : Bytes w (some ⟨b, off, none⟩) l) (n : Nat) : Bytes w (some ⟨b, off + n, none⟩) (l.drop n) := by unfold Bytes; rw [List.map_drop]; exact Vals.drop_ h n
theorem Strs.get {l : List ByteArray} (h : Strs w A l) {k : Nat} (hk : k < l.length) :
    ∃ b off s, A = some ⟨b, off, none⟩ ∧ b < w.heap.size ∧ w.cell? ⟨b, off + k, none⟩ = some (.string s) ∧ Hid (l[k] = s) ∧ s.size ≤ 9223372036854775807 := by
  obtain ⟨b, off, rfl, hb, hc⟩ := Vals.get h.1 (k := k) (by rw [List.length_map]; exact hk)
  exact ⟨b, off, _, rfl, hb, by rw [hc, List.getElem_map], rfl, h.2 _ (List.getElem_mem hk)⟩
theorem Strs.len {l : List ByteArray} (h : Strs w A l) : l.length ≤ 9223372036854775807 := by have := h.1.1; rw [List.length_map] at this; exact this
theorem Strs.below {l : List ByteArray} (h : Strs w A l) (hb : Below w.heap.size w w') : Strs w' A l := ⟨h.1.below hb, h.2⟩
theorem Strs.drewN {l : List ByteArray} (h : Strs w A l) (n : Nat) : Strs (w.drewN n) A l := h
theorem Strs.nil (w : World) (A : Option Addr) : Strs w A [] := ⟨Vals.nil w A, by simp⟩
end

/-- the slice v, in memory from block B on, of elements of type t, holds the values vs -/
def OwnV (w : World) (B : Nat) (t : TypeId) (v : Value) (vs : List Value) : Prop := w.ownsRow B t 1 v vs.length vs
section
variable {w w' : World} {B : Nat} {t : TypeId} {v : Value} {vs : List Value}
theorem OwnV.nil (w : World) (B : Nat) (t : TypeId) : OwnV w B t (.slice none 0 0) [] := World.ownsRow_nil _ _ _ _
theorem OwnV.form (h : OwnV w B t v vs) : (v = .slice none 0 0 ∧ vs = []) ∨ ∃ g cap, v = .slice (some ⟨g, 0, none⟩) vs.length cap ∧ B ≤ g ∧ g < w.heap.size ∧ vs.length ≤ cap := by
  rcases h.2 with ⟨rfl, h0⟩ | ⟨g, cap, cur, rfl, hB, hh, hn, _⟩
  · exact .inl ⟨rfl, List.eq_nil_of_length_eq_zero h0⟩
  · refine .inr ⟨g, cap, rfl, hB, ?_, hn⟩
    rcases Nat.lt_or_ge g w.heap.size with hlt | hge
    · exact hlt
    · rw [Array.getElem?_eq_none hge] at hh; cases hh
theorem OwnV.len (h : OwnV w B t v vs) : vs.length ≤ maxLen := by
  rcases h.2 with ⟨_, h0⟩ | ⟨g, cap, cur, _, _, _, hn, hm, _⟩
  · rw [h0]; exact Nat.zero_le _
  · exact Nat.le_trans hn hm
theorem OwnV.vals (h : OwnV w B t v vs) : ∃ A cap, v = .slice A vs.length cap ∧ Vals w A vs := by
  have hl := h.len
  rcases h.2 with ⟨rfl, h0⟩ | ⟨g, cap, cur, rfl, hB, hh, hn, hm, hs, ht⟩
  · have := List.eq_nil_of_length_eq_zero h0
    subst this
    exact ⟨none, 0, rfl, Vals.nil _ _⟩
  · have hg : g < w.heap.size := by
      rcases Nat.lt_or_ge g w.heap.size with hlt | hge
      · exact hlt
      · rw [Array.getElem?_eq_none hge] at hh; cases hh
    refine ⟨_, cap, rfl, hl, .inr ⟨g, 0, rfl, hg, fun i hi => ?_⟩⟩
    rw [Nat.zero_add, World.ownsRow.cellAt h i (by omega), List.getElem?_eq_getElem hi]
theorem OwnV.kept (h : OwnV w B t v vs) (hb : ∀ g, B ≤ g → g < w.heap.size → w'.heap[g]? = w.heap[g]?) : OwnV w' B t v vs := by
  refine ⟨h.1, ?_⟩
  rcases h.2 with h0 | ⟨g, cap, cur, hv, hB, hh, r⟩
  · exact .inl h0
  · refine .inr ⟨g, cap, cur, hv, hB, ?_, r⟩
    rcases Nat.lt_or_ge g w.heap.size with hlt | hge
    · rw [hb g hB hlt]; exact hh
    · rw [Array.getElem?_eq_none hge] at hh; cases hh
theorem OwnV.below (h : OwnV w B t v vs) (hb : Below w.heap.size w w') : OwnV w' B t v vs := h.kept fun g _ hg => hb.block g hg
theorem OwnV.alloc (h : OwnV w B t v vs) (o : Obj) : OwnV (w.alloc o) B t v vs := World.ownsRow.alloc h o
theorem OwnV.drewN (h : OwnV w B t v vs) (n : Nat) : OwnV (w.drewN n) B t v vs := h
theorem OwnV.block (h : OwnV w B t v vs) : ∀ k, v.ownBlock = some k → B ≤ k := fun k hk => (World.ownsRow.lt h k hk).1
end

/-- 's = append(s, x)', the new element in a block of its own just made -/
theorem wpList_pushV {P : Program} {ops : Array Oper} {rest : List Oper} {o : Oper} {a : Act} {Q : Exit → Act → World → Prop} (w : World) (x : Value) (hx1 : x.oneCell' = true) (B : Nat) (vs : List Value) (s y : Operand) (ts t : TypeId) (bytes : Nat) (z : Value)
    (hu : P.underlying ts = some (.slice t)) (hinfo : (P.info? t).map (fun i => (i.zero, i.size, i.bytes)) = some (some z, 1, bytes)) (hz : z.cells.size = 1)
    (hgd : o.guard = none) (ho : o.op = .call { callee := .builtin .append, args := #[s, y], argTypes := #[ts, ts] })
    (v : Value) (hs : a.eval s = v) (hx : a.eval y = .slice (some ⟨w.heap.size, 0, none⟩) 1 1) (hown : OwnV w B t v vs) (hl : (vs.length + 1) * bytes ≤ 140737488355328) (hm : vs.length + 1 ≤ maxLen) (hB : B ≤ w.heap.size)
    (h : ∀ v' w', OwnV w' B t v' (vs ++ [x]) → Below B w w' → w.heap.size ≤ w'.heap.size → w.grownBy w' v.ownBlock → wpList P ops Q rest (a.put o.dst v') w') :
    wpList P ops Q (o :: rest) a (w.alloc (.cells #[x] t)) := by
  obtain ⟨i0, hi, hz0, hz1, hz2⟩ := info_parts hinfo
  refine wpList_append_own (w.alloc (.cells #[x] t)) hgd s y ts ho B t i0 z 1 bytes hu hi hz0 hz1 hz2 hz (by decide) v vs.length vs hs (OwnV.alloc hown _)
    ⟨w.heap.size, 0, none⟩ 1 1 [x] hx rfl ?_ ?_ hm hl (by simp; omega) ?_
  · intro j u hj
    match j, hj with
    | 0, hj => simp at hj; subst hj; simp [Addr.add]
  · intro u hu; simp at hu; subst hu; exact hx1
  · intro v' w' h1 h2 _
    have hg : w.grownBy w' v.ownBlock := (World.grownBy_alloc w _ v.ownBlock).trans h2
    refine h v' w' (by unfold OwnV; simpa using h1) ?_ hg.size hg
    exact (Below.refl B w).grown hg hB (OwnV.block hown)
end Go.Proofs.Ytagmknahmkniaaa

/- Strings and their bytes. -/
namespace Go.Proofs.Ytagmknahmkniaaa
open Go.RowKit

/-- a string's bytes -/
def L (s : ByteArray) : List UInt8 := s.data.toList
/-- the string of some bytes -/
def S (l : List UInt8) : ByteArray := ⟨l.toArray⟩
theorem L_S (l : List UInt8) : L (S l) = l := by simp [L, S]
theorem S_L (s : ByteArray) : S (L s) = s := by
  obtain ⟨d⟩ := s
  show ByteArray.mk d.toList.toArray = _
  rw [Array.toArray_toList]
theorem L_len (s : ByteArray) : (L s).length = s.size := Array.length_toList
theorem S_size (l : List UInt8) : (S l).size = l.length := List.size_toArray
theorem L_toList (s : ByteArray) : s.toList = L s := ByteArray.toList_eq s
theorem L_get (s : ByteArray) (k : Nat) (h : k < s.size) : (L s)[k]'(by rw [L_len]; exact h) = s[k] := by simp [L, ByteArray.getElem_eq_getElem_data]
theorem L_take_succ (s : ByteArray) (k : Nat) (h : k < s.size) : (L s).take (k + 1) = (L s).take k ++ [s[k]] := by
  rw [WM.take_snoc (L s) k (by rw [L_len]; exact h), L_get s k h]
theorem L_take_all (s : ByteArray) : (L s).take s.size = L s := List.take_of_length_le (by rw [L_len]; exact Nat.le_refl _)
theorem L_extract (s : ByteArray) (a b : Nat) : L (s.extract a b) = ((L s).take b).drop a := by
  simp [L, ByteArray.data_extract, List.drop_take]
theorem L_append (a b : ByteArray) : L (a ++ b) = L a ++ L b := by simp [L, ByteArray.data_append]
theorem L_inj {a b : ByteArray} (h : L a = L b) : a = b := by rw [← S_L a, ← S_L b, h]
theorem L_head (s : ByteArray) (h : 0 < s.size) : (L s).headD 0 = s[0] := by
  rw [← L_get s 0 h]
  have hl : 0 < (L s).length := by rw [L_len]; exact h
  rw [List.headD_eq_head?_getD, List.head?_eq_getElem?, List.getElem?_eq_getElem hl]
  rfl
theorem L_nil {s : ByteArray} (h : s.size = 0) : L s = [] := List.eq_nil_of_length_eq_zero (by rw [L_len]; exact h)
theorem isEmpty_false {s : ByteArray} (h : 0 < s.size) : s.toList.isEmpty = false := by
  rw [L_toList, List.isEmpty_eq_false_iff]
  intro e
  have := L_len s
  rw [e] at this; simp at this; omega
theorem isEmpty_true {s : ByteArray} (h : s.size = 0) : s.toList.isEmpty = true := by
  rw [L_toList, L_nil h]; rfl
theorem beq_t {a b : Int} (h : a = b) : (a == b) = true := by simpa using h
theorem beq_f {a b : Int} (h : ¬ a = b) : (a == b) = false := by simpa using h
end Go.Proofs.Ytagmknahmkniaaa

/- Contracts of layer 19's laws: a fitted curve. -/
namespace UM
theorem ord_snoc {ls : List Pt} {p : Pt} : ∀ {e : Int}, Ord ls e → (∀ q ∈ ls, q.exp < p.exp) → e ≤ p.exp → p.exp ≤ 73048 → (p.known = true → isP p.price = true) → Ord (ls ++ [p]) e := by
  induction ls with
  | nil => intro e _ _ h1 h2 h3; exact ⟨h1, h2, h3, trivial⟩
  | cons q t ih =>
    rintro e ⟨a, b, c, d⟩ h h1 h2 h3
    exact ⟨a, b, c, ih d (fun x hx => h x (List.mem_cons_of_mem _ hx)) (by have := h q List.mem_cons_self; omega) h2 h3⟩
structure Fits (ls : List Pt) (d : Int) : Prop where
  ord : Ord ls 0
  mem : ∀ p ∈ ls, p.exp ≤ d ∧ -500000 ≤ p.price ∧ p.price ≤ 500000
  some : ls = [] ∨ ∃ p ∈ ls, p.known = true
theorem Fits.nil : Fits [] 0 := ⟨trivial, by simp, .inl rfl⟩
theorem Fits.snoc {ls : List Pt} {d : Int} (h : Fits ls d) {p : Pt} (hd : d < p.exp) (h0 : 0 ≤ p.exp ∧ p.exp ≤ 73048) (hp : -500000 ≤ p.price ∧ p.price ≤ 500000) (hk : ls = [] → p.known = true) : Fits (ls ++ [p]) p.exp := by
  refine ⟨ord_snoc h.ord (fun q hq => by have := (h.mem q hq).1; omega) h0.1 h0.2 (fun _ => isP_true.2 (by omega)), ?_, ?_⟩
  · intro q hq
    rcases List.mem_append.1 hq with hq | hq
    · have := h.mem q hq; omega
    · rw [List.mem_singleton] at hq; subst hq; omega
  · refine .inr ?_
    rcases h.some with e | ⟨q, hq, hqk⟩
    · exact ⟨p, by simp, hk e⟩
    · exact ⟨q, List.mem_append_left _ hq, hqk⟩
theorem Fits.good {ls : List Pt} {d : Int} (h : Fits ls d) (h1 : 1 ≤ ls.length ∧ ls.length ≤ 128) : Good ls := by
  refine ⟨h1, h.ord, ?_⟩
  rcases h.some with e | e
  · rw [e] at h1; simp at h1
  · exact e
theorem umod (x m : Int) (h1 : 1 ≤ m) : ∃ r, (Go.IntKind.u64.wrap x).tmod m = r ∧ 0 ≤ r ∧ r < m := by
  have h0 : 0 ≤ Go.IntKind.u64.wrap x := by rw [Go.IntKind.wrap_u64]; omega
  refine ⟨_, rfl, ?_, ?_⟩
  · rw [Int.tmod_eq_emod_of_nonneg h0]; exact Int.emod_nonneg _ (by omega)
  · rw [Int.tmod_eq_emod_of_nonneg h0]; exact Int.emod_lt_of_pos _ (by omega)
end UM
namespace Go.Proofs.Ytagmknahmkniaaa
open Go.RowKit Go.Recs
set_option linter.unusedVariables false
set_option linter.unusedSimpArgs false
theorem lit_pt (W : World) (x : UM.Pt) : Recs (W.alloc (.cells #[.int .i64 x.exp, .int .i64 x.price, .bool x.known] 44)) (some ⟨W.heap.size, 0, none⟩) 3 [ptV x] := by
  obtain ⟨A', cap, e, hr, _⟩ := OwnR.recs (OwnR.lit W W.heap.size 44 3 [ptV x] (by simp [ptV]) (Nat.le_refl _) (by simp [maxLen]))
  injection e with e
  subst e
  exact hr
theorem one_pt (x : UM.Pt) : ∀ r ∈ [ptV x], ∀ u ∈ r, u.oneCell' = true := fun r hr => by rw [List.mem_singleton.1 hr]; exact ptV_one x
set_option maxHeartbeats 8000000 in
set_option maxRecDepth 100000 in
theorem ufit_any (A : Option Addr) (l : List UM.Pt) (n cap : Nat) (hn : n = l.length) (tick b_ : Int) (w : World) (hI : Pts w A l) :
    Calls Try.prog 20 #[.slice A n cap, .int .i64 tick, .int .i64 b_] w fun e w' => ∃ (v : Value) (ls : List UM.Pt) (t m : Int), e = .returned (.tuple #[v, .int .i64 t, .int .i64 (2 * t * m)]) ∧ OwnR w' w.heap.size 44 3 v (ls.map ptV) ∧ UM.Good ls ∧ (∀ p ∈ ls, -500000 ≤ p.price ∧ p.price ≤ 500000) ∧ (1 ≤ t ∧ t ≤ 1000) ∧ (-500 ≤ m ∧ m ≤ 500) ∧ Below w.heap.size w w' := by
  subst hn
  have hlen := hI.len
  have HI := Lib.hid hI
  obtain ⟨r1, e1, g1, g2⟩ := UM.umod tick 1000 (by omega)
  obtain ⟨r2, e2, g3, g4⟩ := UM.umod b_ 1000 (by omega)
  have hby := UM.mul_in (a := r2 - 500) (b := 1 + r1) (M := 500) (N := 1000) ⟨by omega, by omega⟩ ⟨by omega, by omega⟩ (by omega)
  have hby2 : -1000000 ≤ 2 * (1 + r1) * (r2 - 500) ∧ 2 * (1 + r1) * (r2 - 500) ≤ 1000000 := by
    rw [Int.mul_assoc, Int.mul_comm (1 + r1)]; omega
  clear hI hby
  go_enter Try.func20, Try.ntmps20
  go_wp2_with fail
  go_loopw [9, 10, 11] (fun sv dv i wr => ∃ (k : Nat) (ls : List UM.Pt) (d : Int) (v : Value), v = sv ∧ k ≤ l.length ∧ k ≤ 60 ∧ i = .int .i64 (k : Int) ∧ dv = .int .i64 d ∧ ls.length = k ∧ (0 ≤ d ∧ d ≤ 500 * (k : Int)) ∧ Hid (UM.Fits ls d) ∧ Hid (OwnR wr w.heap.size 44 3 v (ls.map ptV)) ∧ Hid (Below w.heap.size w wr)) (fun _ _ i _ => l.length - (intOf i).toNat)
  case atStart => exact ⟨0, [], 0, _, rfl, by omega, by omega, rfl, rfl, rfl, by omega, Lib.hid UM.Fits.nil, Lib.hid (OwnR.empty w w.heap.size 44 3 (Nat.le_refl _)), Lib.hid (below_al (Below.refl _ _) _)⟩
  case round =>
    obtain ⟨k, ls, d, v, rfl, hk, h60, rfl, rfl, rfl, ⟨hd0, hd1⟩, HF, HO, HB⟩ := hrel
    have HSZ := Lib.hid HB.out.size
    by_cases hlt : ls.length < l.length
    · by_cases hc : ls.length < 60
      · obtain ⟨b, off, t, rfl, hb, HV, q, d0, d1, d2⟩ := pts_get (HI.out.below HB.out) hlt
        obtain ⟨te, tp, tk⟩ := t
        obtain ⟨r3, e3, g5, g6⟩ := UM.umod te 500 (by omega)
        obtain ⟨r4, e4, g7, g8⟩ := UM.umod tp 1000000 (by omega)
        have wr4 : IntKind.i64.wrap r4 = r4 := IntWalk.i64_in _ (by omega)
        have wr5 : IntKind.i64.wrap (r4 - 500000) = r4 - 500000 := IntWalk.i64_in _ (by omega)
        have HZ1 : Hid (((ls.map ptV).length + 1) * 24 ≤ 140737488355328 ∧ (ls.map ptV).length + 1 ≤ maxLen) := Lib.hid (by rw [List.length_map]; simp only [maxLen]; omega)
        simp only [] at d0 d1 d2
        clear q HV
        have hc' : ((ls.length : Nat) : Int) < 60 := by omega
        cases tk
        · rcases Nat.eq_zero_or_pos ls.length with h0 | h0
          · obtain rfl := List.eq_nil_of_length_eq_zero h0
            simp only [List.length_nil, Nat.zero_mul, Nat.add_zero, Nat.zero_add] at d0 d1 d2 hd1
            clear h0
            have HX := Lib.hid (HF.out.snoc (p := ⟨d + 1 + r3, r4 - 500000, true⟩) (by show d < d + 1 + r3; omega) ⟨by show 0 ≤ d + 1 + r3; omega, by show d + 1 + r3 ≤ _; omega⟩ ⟨by show _ ≤ r4 - 500000; omega, by show r4 - 500000 ≤ _; omega⟩ (fun _ => rfl))
            have HRK : Hid (Recs ((wr.alloc (.cells #[.int .i64 (d + 1 + r3), .int .i64 (r4 - 500000), .bool true] 44)).drew) (some ⟨wr.heap.size, 0, none⟩) 3 [ptV ⟨d + 1 + r3, r4 - 500000, true⟩]) := Lib.hid (lit_pt wr ⟨d + 1 + r3, r4 - 500000, true⟩)
            have HOd : Hid (OwnR ((wr.alloc (.cells #[.int .i64 (d + 1 + r3), .int .i64 (r4 - 500000), .bool true] 44)).drew) w.heap.size 44 3 v (([] : List UM.Pt).map ptV)) := Lib.hid (HO.out.alloc _)
            have HBd : Hid (Below w.heap.size w ((wr.alloc (.cells #[.int .i64 (d + 1 + r3), .int .i64 (r4 - 500000), .bool true] 44)).drew)) := Lib.hid (below_al HB.out _).drew
            go_wp2_with fail
            first
            | go_region_law (refine step_catR _ w.heap.size (([] : List UM.Pt).map ptV) [ptV ⟨d + 1 + r3, r4 - 500000, true⟩] _ _ _ 44 3 24 _ Try.underlying22 info_pt rfl (by decide) rfl rfl v (some ⟨wr.heap.size, 0, none⟩) 1 1 (by simp [Act.eval, Act.put]) (by simp [Act.eval, Act.put]) rfl HOd.out HRK.out (one_pt _) HZ1.out.1 HZ1.out.2 (by have := HSZ.out; simp; omega) ?_; intro v2 w2 o2 b2)
            | fail
            all_goals (
              have HO2 : Hid (OwnR w2 w.heap.size 44 3 v2 ((([] : List UM.Pt) ++ [(⟨d + 1 + r3, r4 - 500000, true⟩ : UM.Pt)]).map ptV)) := Lib.hid (by rw [List.map_append]; exact o2)
              have HB2 := Lib.hid (HBd.out.trans b2)
              clear o2 b2 HB HO HBd HOd HRK d0 d1 d2
              go_wp2_with fail
              go_roundw
              case rel => exact ⟨0 + 1, ([] : List UM.Pt) ++ [⟨d + 1 + r3, r4 - 500000, true⟩], d + 1 + r3, _, rfl, by omega, by omega, by go_num, rfl, by simp, by omega, HX, HO2, HB2⟩
              case measure => simp [intOf]; omega)
          · have hz : ((ls.length : Int) == 0) = false := beq_f (by omega)
            have hz2 : ¬ (ls.length : Int) = 0 := by omega
            have HX := Lib.hid (HF.out.snoc (p := ⟨d + 1 + r3, r4 - 500000, false⟩) (by show d < d + 1 + r3; omega) ⟨by show 0 ≤ d + 1 + r3; omega, by show d + 1 + r3 ≤ _; omega⟩ ⟨by show _ ≤ r4 - 500000; omega, by show r4 - 500000 ≤ _; omega⟩ (fun e => by rw [e] at h0; simp at h0))
            have HRK : Hid (Recs ((wr.alloc (.cells #[.int .i64 (d + 1 + r3), .int .i64 (r4 - 500000), .bool false] 44)).drew) (some ⟨wr.heap.size, 0, none⟩) 3 [ptV ⟨d + 1 + r3, r4 - 500000, false⟩]) := Lib.hid (lit_pt wr ⟨d + 1 + r3, r4 - 500000, false⟩)
            have HOd : Hid (OwnR ((wr.alloc (.cells #[.int .i64 (d + 1 + r3), .int .i64 (r4 - 500000), .bool false] 44)).drew) w.heap.size 44 3 v (ls.map ptV)) := Lib.hid (HO.out.alloc _)
            have HBd : Hid (Below w.heap.size w ((wr.alloc (.cells #[.int .i64 (d + 1 + r3), .int .i64 (r4 - 500000), .bool false] 44)).drew)) := Lib.hid (below_al HB.out _).drew
            go_wp2_with fail
            first
            | go_region_law (refine step_catR _ w.heap.size (ls.map ptV) [ptV ⟨d + 1 + r3, r4 - 500000, false⟩] _ _ _ 44 3 24 _ Try.underlying22 info_pt rfl (by decide) rfl rfl v (some ⟨wr.heap.size, 0, none⟩) 1 1 (by simp [Act.eval, Act.put]) (by simp [Act.eval, Act.put]) rfl HOd.out HRK.out (one_pt _) HZ1.out.1 HZ1.out.2 (by have := HSZ.out; simp; omega) ?_; intro v2 w2 o2 b2)
            | fail
            all_goals (
              have HO2 : Hid (OwnR w2 w.heap.size 44 3 v2 ((ls ++ [(⟨d + 1 + r3, r4 - 500000, false⟩ : UM.Pt)]).map ptV)) := Lib.hid (by rw [List.map_append]; exact o2)
              have HB2 := Lib.hid (HBd.out.trans b2)
              clear o2 b2 HB HO HBd HOd HRK d0 d1 d2
              go_wp2_with fail
              go_roundw
              case rel => exact ⟨ls.length + 1, ls ++ [⟨d + 1 + r3, r4 - 500000, false⟩], d + 1 + r3, _, rfl, by omega, by omega, by go_num, rfl, by simp, by omega, HX, HO2, HB2⟩
              case measure => simp [intOf]; omega)
        · have hz : True := trivial
          · have hy : True := trivial
            have HX := Lib.hid (HF.out.snoc (p := ⟨d + 1 + r3, r4 - 500000, true⟩) (by show d < d + 1 + r3; omega) ⟨by show 0 ≤ d + 1 + r3; omega, by show d + 1 + r3 ≤ _; omega⟩ ⟨by show _ ≤ r4 - 500000; omega, by show r4 - 500000 ≤ _; omega⟩ (fun _ => rfl))
            have HRK : Hid (Recs ((wr.alloc (.cells #[.int .i64 (d + 1 + r3), .int .i64 (r4 - 500000), .bool true] 44)).drew) (some ⟨wr.heap.size, 0, none⟩) 3 [ptV ⟨d + 1 + r3, r4 - 500000, true⟩]) := Lib.hid (lit_pt wr ⟨d + 1 + r3, r4 - 500000, true⟩)
            have HOd : Hid (OwnR ((wr.alloc (.cells #[.int .i64 (d + 1 + r3), .int .i64 (r4 - 500000), .bool true] 44)).drew) w.heap.size 44 3 v (ls.map ptV)) := Lib.hid (HO.out.alloc _)
            have HBd : Hid (Below w.heap.size w ((wr.alloc (.cells #[.int .i64 (d + 1 + r3), .int .i64 (r4 - 500000), .bool true] 44)).drew)) := Lib.hid (below_al HB.out _).drew
            go_wp2_with fail
            first
            | go_region_law (refine step_catR _ w.heap.size (ls.map ptV) [ptV ⟨d + 1 + r3, r4 - 500000, true⟩] _ _ _ 44 3 24 _ Try.underlying22 info_pt rfl (by decide) rfl rfl v (some ⟨wr.heap.size, 0, none⟩) 1 1 (by simp [Act.eval, Act.put]) (by simp [Act.eval, Act.put]) rfl HOd.out HRK.out (one_pt _) HZ1.out.1 HZ1.out.2 (by have := HSZ.out; simp; omega) ?_; intro v2 w2 o2 b2)
            | fail
            all_goals (
              have HO2 : Hid (OwnR w2 w.heap.size 44 3 v2 ((ls ++ [(⟨d + 1 + r3, r4 - 500000, true⟩ : UM.Pt)]).map ptV)) := Lib.hid (by rw [List.map_append]; exact o2)
              have HB2 := Lib.hid (HBd.out.trans b2)
              clear o2 b2 HB HO HBd HOd HRK d0 d1 d2
              go_wp2_with fail
              go_roundw
              case rel => exact ⟨ls.length + 1, ls ++ [⟨d + 1 + r3, r4 - 500000, true⟩], d + 1 + r3, _, rfl, by omega, by omega, by go_num, rfl, by simp, by omega, HX, HO2, HB2⟩
              case measure => simp [intOf]; omega)
      · have hc' : ¬ ((ls.length : Nat) : Int) < 60 := by omega
        have HLV := Lib.hid True.intro
        rcases Nat.eq_zero_or_pos ls.length with h0 | h0
        · exfalso; omega
        · have hln : ((ls.length : Int) == 0) = false := beq_f (by omega)
          have HGD := Lib.hid (HF.out.good ⟨h0, by omega⟩)
          have HME := Lib.hid (fun p hp => (HF.out.mem p hp).2)
          obtain ⟨gg, cc, rfl⟩ : ∃ gg cc, v = .slice (some ⟨gg, 0, none⟩) ls.length cc := by
            rcases HO.out.form with ⟨_, e⟩ | ⟨gg, cc, e, _⟩
            · have e2 : ls.length = 0 := by simpa using congrArg List.length e
              omega
            · rw [List.length_map] at e
              exact ⟨gg, cc, e⟩
          go_wp2_with fail
          go_ret3
          exact ⟨_, ls, 1 + r1, r2 - 500, rfl, HO.out, HGD.out, HME.out, ⟨by omega, by omega⟩, ⟨by omega, by omega⟩, HB.out⟩
    · have hc' : ¬ ((ls.length : Nat) : Int) < (l.length : Int) := by omega
      have HLV := Lib.hid True.intro
      rcases Nat.eq_zero_or_pos ls.length with h0 | h0
      · obtain rfl := List.eq_nil_of_length_eq_zero h0
        obtain ⟨va, vc, rfl, -, -⟩ := HO.out.recs
        have HX := Lib.hid (UM.Fits.nil.snoc (p := ⟨3, 7, true⟩) (by decide) (by decide) (by decide) (fun _ => rfl))
        have HRK : Hid (∀ W : World, Recs (W.alloc (.cells #[.int .i64 3, .int .i64 7, .bool true] 44)) (some ⟨W.heap.size, 0, none⟩) 3 [ptV ⟨3, 7, true⟩]) := Lib.hid (fun W => lit_pt W ⟨3, 7, true⟩)
        have hlv := HLV.out
        go_wp2_with (at_builtin; refine wpList_pushR wr (ptV ⟨3, 7, true⟩) (ptV_one _) w.heap.size [] _ _ _ 44 3 24 _ Try.underlying22 info_pt rfl (by decide) rfl rfl rfl _ (by rfl) (by rfl) HO.out (by decide) (by decide) HSZ.out ?_)
        rintro v3 w3 hO3 hb3 hs3 hg3
        have HO3 := Lib.hid hO3
        have HB3 := Lib.hid (HB.out.trans hb3)
        clear hO3 hb3 hs3 hg3
        go_wp2_with fail
        go_ret3
        exact ⟨_, [⟨3, 7, true⟩], 1 + r1, r2 - 500, rfl, HO3.out, HX.out.good (by decide), (fun p hp => (HX.out.mem p hp).2), ⟨by omega, by omega⟩, ⟨by omega, by omega⟩, HB3.out⟩
      · have hln : ((ls.length : Int) == 0) = false := beq_f (by omega)
        have HGD := Lib.hid (HF.out.good ⟨h0, by omega⟩)
        have HME := Lib.hid (fun p hp => (HF.out.mem p hp).2)
        obtain ⟨gg, cc, rfl⟩ : ∃ gg cc, v = .slice (some ⟨gg, 0, none⟩) ls.length cc := by
          rcases HO.out.form with ⟨_, e⟩ | ⟨gg, cc, e, _⟩
          · have e2 : ls.length = 0 := by simpa using congrArg List.length e
            omega
          · rw [List.length_map] at e
            exact ⟨gg, cc, e⟩
        go_wp2_with fail
        go_ret3
        exact ⟨_, ls, 1 + r1, r2 - 500, rfl, HO.out, HGD.out, HME.out, ⟨by omega, by omega⟩, ⟨by omega, by omega⟩, HB.out⟩
end Go.Proofs.Ytagmknahmkniaaa

namespace Go.Proofs.Ytagmknahmkniaaa.curveMoves
open Go.RowKit Go.Recs
set_option linter.unusedVariables false
set_option linter.unusedSimpArgs false
theorem pts_of {w : World} {B : Nat} {v : Value} {ls : List UM.Pt} (h : OwnR w B 44 3 v (ls.map ptV)) (hq : ∀ p ∈ ls, ptQ p) : ∃ A c, v = .slice A ls.length c ∧ Pts w A ls := by
  obtain ⟨A, c, e, hr, _⟩ := h.recs
  rw [List.length_map] at e
  exact ⟨A, c, e, hr, hq⟩
theorem good_q {ls : List UM.Pt} (g : UM.Good ls) (hp : ∀ p ∈ ls, -33554432 ≤ p.price ∧ p.price ≤ 33554432) : ∀ p ∈ ls, ptQ p := fun p h => by
  have := g.ord.mem p h
  have := hp p h
  exact ⟨⟨by omega, by omega⟩, ⟨by omega, by omega⟩⟩
theorem move_prices {ls : List UM.Pt} {b : Int} (hb : -1000000 ≤ b ∧ b ≤ 1000000) (hp : ∀ p ∈ ls, -500000 ≤ p.price ∧ p.price ≤ 500000) : ∀ p ∈ UM.moveL ls b (-16777216) 16777216, -33554432 ≤ p.price ∧ p.price ≤ 33554432 := by
  intro p h
  obtain ⟨q, hq, rfl⟩ := List.mem_map.1 h
  have := hp q hq
  by_cases hk : q.known = true
  · rw [UM.move_far hk (by omega) (by omega)]
    show -33554432 ≤ q.price + b ∧ q.price + b ≤ 33554432
    omega
  · have e : UM.moveP b (-16777216) 16777216 q = q := by unfold UM.moveP; rw [if_neg hk]
    rw [e]; omega
theorem move_e {ls : List UM.Pt} (g : UM.Good ls) {b : Int} (hb : -1000000 ≤ b ∧ b ≤ 1000000) : UM.moveE ls b (-16777216) 16777216 = 0 :=
  UM.move_e0 (UM.check_good.2 g) (UM.isP_true.2 (by omega)) (by decide)
/-- what the four calls of a fitted curve yield -/
structure Moved (ls mv : List UM.Pt) (t r bb a : Int) : Prop where
  a1 : UM.atE ls r t = 0 ∧ UM.atN ls r t = a
  s1 : UM.moveE ls bb (-16777216) 16777216 = 0 ∧ UM.moveR ls bb (-16777216) 16777216 = mv
  a2 : UM.atE mv r t = 0 ∧ UM.atN mv r t = a + bb
  s2 : UM.moveE mv (-bb) (-16777216) 16777216 = 0 ∧ UM.moveR mv (-bb) (-16777216) 16777216 = ls
  q1 : ∀ p ∈ ls, ptQ p
  q2 : ∀ p ∈ mv, ptQ p
  ba : -33554432 ≤ a ∧ a ≤ 33554432
  bb : -1000000 ≤ bb ∧ bb ≤ 1000000
theorem moved {ls : List UM.Pt} {t m r : Int} (g : UM.Good ls) (hp : ∀ p ∈ ls, -500000 ≤ p.price ∧ p.price ≤ 500000) (ht : 1 ≤ t ∧ t ≤ 1000) (hm : -500 ≤ m ∧ m ≤ 500) (hr : 0 ≤ r ∧ r ≤ 73048) :
    ∃ mv a, Moved ls mv t r (2 * t * m) a := by
  have hbb : -1000000 ≤ 2 * t * m ∧ 2 * t * m ≤ 1000000 := by
    have := UM.mul_in (a := m) (b := t) (M := 500) (N := 1000) hm ⟨by omega, by omega⟩ (by omega)
    have e : 2 * t * m = 2 * (m * t) := by rw [Int.mul_assoc, Int.mul_comm t]
    omega
  have hk : ∀ p ∈ ls, p.known = true → -500000 ≤ p.price ∧ p.price ≤ 500000 := fun p h _ => hp p h
  have g2 : UM.Good (UM.moveL ls (2 * t * m) (-16777216) 16777216) := UM.move_good g (by omega) (by omega) (by omega)
  have A1 := UM.at_ok g (tick := t) (day := r) ⟨ht.1, by omega⟩ hr
  have A2 := UM.at_ok g2 (tick := t) (day := r) ⟨ht.1, by omega⟩ hr
  have M := UM.move_price g (day := r) (tick := t) (m := m) hr ht hm hk
  have E1 := move_e g hbb
  have E2 := move_e g2 (b := -(2 * t * m)) ⟨by omega, by omega⟩
  have BK := UM.move_back (l := ls) hbb hk
  refine ⟨UM.moveL ls (2 * t * m) (-16777216) 16777216, UM.priceN ls r t, A1, ⟨E1, by unfold UM.moveR; rw [if_pos E1]⟩, ⟨A2.1, by rw [A2.2, M]⟩, ⟨E2, by unfold UM.moveR; rw [if_pos E2]; exact BK⟩, good_q g fun p h => by have := hp p h; omega, good_q g2 (move_prices hbb hp), UM.price_in g hr ⟨ht.1, by omega⟩, hbb⟩
set_option maxHeartbeats 8000000 in
set_option maxRecDepth 100000 in
theorem walk (A : Option Addr) (cap : Nat) (l : List UM.Pt) (day x y : Int) (w : World) (hI : Pts w A l ∧ l.length ≤ cap) (hd : -9223372036854775808 ≤ day ∧ day ≤ 9223372036854775807) (hxy : (-9223372036854775808 ≤ x ∧ x ≤ 9223372036854775807) ∧ -9223372036854775808 ≤ y ∧ y ≤ 9223372036854775807) :
    Calls Try.prog 6 #[.slice A l.length cap, .int .i64 day, .agg #[.int .i64 x, .int .i64 y]] w fun e w' => e = .returned (.bool true) ∧ Below w.heap.size w w' := by
  obtain ⟨hI, _⟩ := hI
  obtain ⟨r, er, hr0, hr1⟩ := UM.umod day 73048 (by omega)
  have CG := Lib.hid (fun ww => goes19_any ww)
  have HB0 := Lib.hid (below_al (Below.refl w.heap.size w) (.cells #[.int .i64 x, .int .i64 y] 45))
  have HI := Lib.hid (hI.below ((Below.refl _ w).alloc (Nat.le_refl _) (.cells #[.int .i64 x, .int .i64 y] 45)))
  have hA := CB.new w 45 #[.int .i64 x, .int .i64 y]
  have c0 := hA.cell 0
  have c1 := hA.cell 1
  simp only [List.getElem?_toArray, List.getElem?_cons_zero, List.getElem?_cons_succ] at c0 c1
  have CF := Lib.hid (fun ww h => ufit_any A l l.length cap rfl x y ww h)
  have CA := Lib.hid (fun A ls n c day tick ww hn h => uat_any A ls n c hn day tick ww h)
  have CS := Lib.hid (fun A ls n c b lo hi ww hn h => ushift_any A ls n c hn b lo hi ww h)
  have CE := Lib.hid (fun A B l n c m d ww hn hm h1 h2 => usame_any A B l n c m d hn hm ww h1 h2)
  clear hA hI
  go_enter Try.func6, Try.ntmps6
  go_wp2_with fail
  refine (CF.out _ HI.out).mono ?_
  rintro e w1 ⟨v, ls, t, m, rfl, hO, g, hp, ht, hm, b1⟩
  have HB1 := Lib.hid (HB0.out.trans (b1.mono HB0.out.size))
  obtain ⟨mv, a, M⟩ := moved (r := r) g hp ht hm ⟨hr0, by omega⟩
  obtain ⟨A1, k1, rfl, hI1⟩ := pts_of hO M.q1
  have HI1 := Lib.hid hI1
  obtain ⟨⟨m1, m2⟩, ⟨m3, m4⟩, ⟨m5, m6⟩, ⟨m7, m8⟩, q1, q2, ba, bb⟩ := M
  obtain ⟨z, hz⟩ : ∃ z, 2 * t * m = z := ⟨_, rfl⟩
  rw [hz] at m3 m4 m6 m7 m8 bb ⊢
  have V1 := Lib.hid (CA.out A1 ls ls.length k1 r t w1 rfl hI1)
  rw [m1, m2] at V1
  have V2 := Lib.hid (fun ww h => CS.out A1 ls ls.length k1 z (-16777216) 16777216 ww rfl h)
  rw [m3, m4] at V2
  have V3 := Lib.hid (fun A c ww h => CA.out A mv mv.length c r t ww rfl h)
  rw [m5, m6] at V3
  have V4 := Lib.hid (fun A c ww h => CS.out A mv mv.length c (-z) (-16777216) 16777216 ww rfl h)
  rw [m7, m8] at V4
  have Q1 := Lib.hid q1; have Q2 := Lib.hid q2
  clear b1 hO g hp hI1 m1 m2 m3 m4 m5 m6 m7 m8 q1 q2 hz CA CS CF c0 c1 HI HB0 hm
  go_wp2_with fail
  refine V1.out.mono ?_
  rintro e w2 ⟨rfl, b2⟩
  have HB2 := Lib.hid (HB1.out.trans (b2.mono HB1.out.size))
  have HI2 := Lib.hid (HI1.out.below b2)
  clear b2 V1 HB1 HI1
  go_wp2_with fail
  refine (V2.out _ HI2.out).mono ?_
  rintro e w3 ⟨v3, rfl, hO3, b3⟩
  have HB3 := Lib.hid (HB2.out.trans (b3.mono HB2.out.size))
  have HI3 := Lib.hid (HI2.out.below b3)
  obtain ⟨A3, k3, rfl, hM3⟩ := pts_of hO3 Q2.out
  have HM3 := Lib.hid hM3
  clear b3 V2 HB2 HI2 hO3 hM3
  go_wp2_with fail
  refine (V3.out _ _ _ HM3.out).mono ?_
  rintro e w4 ⟨rfl, b4⟩
  have HB4 := Lib.hid (HB3.out.trans (b4.mono HB3.out.size))
  have HI4 := Lib.hid (HI3.out.below b4)
  have HM4 := Lib.hid (HM3.out.below b4)
  clear b4 V3 HB3 HI3 HM3
  go_wp2_with fail
  refine (V4.out _ _ _ HM4.out).mono ?_
  rintro e w5 ⟨v5, rfl, hO5, b5⟩
  have HB5 := Lib.hid (HB4.out.trans (b5.mono HB4.out.size))
  have HI5 := Lib.hid (HI4.out.below b5)
  obtain ⟨A5, k5, rfl, hM5⟩ := pts_of hO5 Q1.out
  have HM5 := Lib.hid hM5
  clear b5 V4 HB4 HI4 hO5 hM5 HM4
  go_wp2_with fail
  refine (CE.out _ _ ls _ _ _ _ _ rfl rfl HM5.out HI5.out).mono ?_
  rintro e w6 ⟨rfl, nq1, rfl⟩
  have HB6 := Lib.hid (below_drewN HB5.out nq1)
  go_wp2_with fail
  refine (CG.out _).mono ?_
  rintro e w7 ⟨rfl, b7⟩
  have HB7 := Lib.hid (HB6.out.trans (b7.mono HB6.out.size))
  clear b7
  go_wp2_with fail
  go_ret
  exact ⟨rfl, HB7.out⟩
end Go.Proofs.Ytagmknahmkniaaa.curveMoves

namespace Go.Proofs.Ytagmknahmkniaaa.curveAgain
open Go.RowKit Go.Recs
open Go.Proofs.Ytagmknahmkniaaa.curveMoves
set_option linter.unusedVariables false
set_option linter.unusedSimpArgs false
theorem pts_ofn {w : World} {B : Nat} {v : Value} {ls : List UM.Pt} {n : Nat} (h : OwnR w B 44 3 v (ls.map ptV)) (hq : ∀ p ∈ ls, ptQ p) (hn : ls.length = n) : ∃ A c, v = .slice A n c ∧ Pts w A ls := by
  subst hn; exact pts_of h hq
/-- what filling a fitted curve yields -/
structure Filled (ls fl : List UM.Pt) (t : Int) : Prop where
  f1 : UM.tickE ls t = 0 ∧ UM.fillR ls t = fl
  f2 : UM.tickE fl t = 0 ∧ UM.fillR fl t = fl
  len : fl.length = ls.length
  at_ : ∀ k, k < ls.length → UM.atE ls (UM.pAt ls k).exp t = 0 ∧ UM.pAt fl k = ⟨(UM.pAt ls k).exp, UM.atN ls (UM.pAt ls k).exp t, true⟩ ∧ ((UM.pAt ls k).known = true → (UM.pAt ls k).price = UM.atN ls (UM.pAt ls k).exp t)
  q1 : ∀ p ∈ ls, ptQ p
  q2 : ∀ p ∈ fl, ptQ p
theorem filled {ls : List UM.Pt} {t : Int} (g : UM.Good ls) (hp : ∀ p ∈ ls, -500000 ≤ p.price ∧ p.price ≤ 500000) (ht : 1 ≤ t ∧ t ≤ 1000) : ∃ fl, Filled ls fl t := by
  have ht2 : 1 ≤ t ∧ t ≤ 16777216 := ⟨ht.1, by omega⟩
  have hk : ∀ p ∈ ls, p.known = true → -500000 ≤ p.price ∧ p.price ≤ 500000 := fun p h _ => hp p h
  have g2 : UM.Good (UM.fillL ls t) := UM.fill_good g ht hk
  have E1 := UM.tick_ok g ht2
  have E2 := UM.tick_ok g2 ht2
  refine ⟨UM.fillL ls t, ⟨E1, by unfold UM.fillR; rw [if_pos E1]⟩, ⟨E2, by unfold UM.fillR; rw [if_pos E2]; exact UM.fill_again ls t t⟩, by unfold UM.fillL; rw [List.length_map], ?_, good_q g fun p h => by have := hp p h; omega, ?_⟩
  · intro k hk'
    have hm := UM.pAt_mem hk'
    have hd := g.ord.mem _ hm
    have A := UM.at_ok g ht2 (day := (UM.pAt ls k).exp) ⟨hd.1, hd.2.1⟩
    refine ⟨A.1, ?_, fun h => by rw [A.2]; exact (UM.price_known g t hm h rfl).symm⟩
    have e : UM.pAt (UM.fillL ls t) k = UM.fillP ls t (UM.pAt ls k) := by
      rw [UM.pAt_get (by unfold UM.fillL; rw [List.length_map]; exact hk'), UM.pAt_get hk']
      unfold UM.fillL; rw [List.getElem_map]
    rw [e, A.2]
    have e1 := UM.fillP_exp ls t (UM.pAt ls k)
    have e2 := UM.fillP_known ls t (UM.pAt ls k)
    have e3 := UM.fillP_price g t hm
    generalize UM.fillP ls t (UM.pAt ls k) = f at *
    obtain ⟨a, b, c⟩ := f
    simp only at e1 e2 e3
    rw [e1, e2, e3]
  · refine good_q g2 fun p h => ?_
    obtain ⟨q, hq, rfl⟩ := List.mem_map.1 h
    have hd := g.ord.mem _ hq
    rw [UM.fillP_price g t hq]
    exact UM.price_in g ⟨hd.1, hd.2.1⟩ ht2
set_option maxHeartbeats 16000000 in
set_option maxRecDepth 100000 in
theorem walk (A : Option Addr) (cap : Nat) (l : List UM.Pt) (tick : Int) (w : World) (hI : Pts w A l ∧ l.length ≤ cap) (hd : -9223372036854775808 ≤ tick ∧ tick ≤ 9223372036854775807) :
    Calls Try.prog 7 #[.slice A l.length cap, .int .i64 tick] w fun e w' => e = .returned (.bool true) ∧ Below w.heap.size w w' := by
  obtain ⟨hI, _⟩ := hI
  have gl := pt_guard
  have CG := Lib.hid (fun ww => goes19_any ww)
  have CF := Lib.hid (ufit_any A l l.length cap rfl tick 0 w hI)
  have CA := Lib.hid (fun A ls n c day tick ww hn h => uat_any A ls n c hn day tick ww h)
  have CL := Lib.hid (fun A ls n c t ww hn h => ufill_any A ls n c hn t ww h)
  have CE := Lib.hid (fun A B l n c m d ww hn hm h1 h2 => usame_any A B l n c m d hn hm ww h1 h2)
  clear hI
  go_enter Try.func7, Try.ntmps7
  go_wp2_with fail
  refine CF.out.mono ?_
  rintro e w1 ⟨v, ls, t, m, rfl, hO, g, hp, ht, hm, b1⟩
  obtain ⟨fl, M⟩ := filled g hp ht
  obtain ⟨A1, k1, rfl, hI1⟩ := pts_of hO M.q1
  have HI1 := Lib.hid hI1
  have HB1 := Lib.hid b1
  obtain ⟨⟨m1, m2⟩, ⟨m3, m4⟩, hln, hat, q1, q2⟩ := M
  have V1 := Lib.hid (CL.out A1 ls ls.length k1 t w1 rfl hI1)
  rw [m1, m2] at V1
  have V2 := Lib.hid (fun A c ww h => CL.out A fl ls.length c t ww hln.symm h)
  rw [m3, m4] at V2
  have V3 := Lib.hid (fun k (hk : k < ls.length) ww h => CA.out A1 ls ls.length k1 (UM.pAt ls k).exp t ww rfl h)
  have HAT := Lib.hid hat
  have HLN := Lib.hid hln
  have hlen := hI1.len
  have Q2 := Lib.hid q2
  generalize 2 * t * m = z at *
  clear b1 hO g hp hI1 m1 m2 m3 m4 q1 q2 CA CL CF hm hat hln
  go_wp2_with fail
  refine V1.out.mono ?_
  rintro e w2 ⟨v2, rfl, hO2, b2⟩
  have HB2 := Lib.hid (HB1.out.trans (b2.mono HB1.out.size))
  have HI2 := Lib.hid (HI1.out.below b2)
  obtain ⟨A2, k2, rfl, hM2⟩ := pts_ofn hO2 Q2.out HLN.out
  have HM2 := Lib.hid hM2
  clear b2 V1 HB1 HI1 hO2 hM2
  go_wp2_with fail
  refine (V2.out _ _ _ HM2.out).mono ?_
  rintro e w3 ⟨v3, rfl, hO3, b3⟩
  have HB3 := Lib.hid (HB2.out.trans (b3.mono HB2.out.size))
  have HI3 := Lib.hid (HI2.out.below b3)
  have HM3 := Lib.hid (HM2.out.below b3)
  obtain ⟨A3, k3, rfl, hN3⟩ := pts_ofn hO3 Q2.out HLN.out
  have HN3 := Lib.hid hN3
  clear b3 V2 HB2 HI2 HM2 hO3 hN3
  go_wp2_with fail
  refine (CE.out _ _ fl _ _ _ _ _ HLN.out.symm HLN.out.symm HM3.out HN3.out).mono ?_
  rintro e w4 ⟨rfl, nq1, rfl⟩
  have HB4 := Lib.hid (below_drewN HB3.out nq1)
  have HI4 : Hid (Pts (w3.drewN nq1) A1 ls) := Lib.hid HI3.out
  have HM4 : Hid (Pts (w3.drewN nq1) A2 fl) := Lib.hid HM3.out
  generalize w3.drewN nq1 = w4 at *
  clear HB3 HI3 HM3 HN3
  go_wp2_with fail
  go_loopw [9, 10, 11, 52] (fun _ _ _ i wr => ∃ k : Nat, k ≤ ls.length ∧ i = .int .i64 (k : Int) ∧ Hid (Below w4.heap.size w4 wr)) (fun _ _ _ i _ => ls.length - (intOf i).toNat)
  case atStart => exact ⟨0, by omega, rfl, Lib.hid (Below.refl _ _)⟩
  case round =>
    obtain ⟨k, hk, rfl, HB⟩ := hrel
    by_cases hlt : k < ls.length
    · have hat := HAT.out k hlt
      obtain ⟨b, off, x, rfl, hb, HV, q, d0, d1, d2⟩ := pts_get (HI4.out.below HB.out) hlt
      obtain ⟨b', off', y, rfl, hb', HW, q', e0, e1, e2⟩ := pts_get (HM4.out.below HB.out) (k := k) (by rw [HLN.out]; exact hlt)
      have HC := V3.out k hlt
      rw [HV.out] at hat HC
      rw [HW.out] at hat
      obtain ⟨h1, h2, h3⟩ := hat
      rw [h1] at HC
      have HC := Lib.hid HC
      generalize UM.atN ls x.exp t = nn at *
      subst h2
      obtain ⟨xe, xp, xk⟩ := x
      simp only [] at d0 d1 d2 e0 e1 e2
      clear q q' HV HW h1 V3 HAT
      cases xk
      · clear h3
        go_wp2_with fail
        refine (HC.out _ (HI4.out.below HB.out)).mono ?_
        rintro e w6 ⟨rfl, b6⟩
        have HB6 := Lib.hid (HB.out.trans (b6.mono HB.out.size))
        have d0 := (b6.cell (p := ⟨b, off + k * 3, none⟩) hb).trans d0
        have d1 := (b6.cell (p := ⟨b, off + k * 3 + 1, none⟩) hb).trans d1
        have d2 := (b6.cell (p := ⟨b, off + k * 3 + 2, none⟩) hb).trans d2
        have e0 := (b6.cell (p := ⟨b', off' + k * 3, none⟩) hb').trans e0
        have e1 := (b6.cell (p := ⟨b', off' + k * 3 + 1, none⟩) hb').trans e1
        have e2 := (b6.cell (p := ⟨b', off' + k * 3 + 2, none⟩) hb').trans e2
        clear b6 HB
        go_wp2_with fail
        go_quiet (fail)
        go_wp2_with fail
        go_roundw
        case rel => exact ⟨k + 1, by omega, by go_num, Lib.hid (by first | exact below_drewN HB6.out _ | exact HB6.out)⟩
        case measure => simp [intOf]; omega
      · obtain rfl : xp = nn := h3 rfl
        have E1 : ∀ ww, (Op.equalIn 10000 44 (ptA ⟨xe, xp, true⟩) (ptA ⟨xe, xp, true⟩)).run Try.prog ww = .ok true ww := fun ww => by rw [pt_in, pteq_is, decide_eq_true rfl]
        clear h3
        go_wp2_with fail
        refine (HC.out _ (HI4.out.below HB.out)).mono ?_
        rintro e w6 ⟨rfl, b6⟩
        have HB6 := Lib.hid (HB.out.trans (b6.mono HB.out.size))
        have d0 := (b6.cell (p := ⟨b, off + k * 3, none⟩) hb).trans d0
        have d1 := (b6.cell (p := ⟨b, off + k * 3 + 1, none⟩) hb).trans d1
        have d2 := (b6.cell (p := ⟨b, off + k * 3 + 2, none⟩) hb).trans d2
        have e0 := (b6.cell (p := ⟨b', off' + k * 3, none⟩) hb').trans e0
        have e1 := (b6.cell (p := ⟨b', off' + k * 3 + 1, none⟩) hb').trans e1
        have e2 := (b6.cell (p := ⟨b', off' + k * 3 + 2, none⟩) hb').trans e2
        clear b6 HB
        go_wp2_with fail
        go_quiet (fail)
        go_wp2_with fail
        go_roundw
        case rel => exact ⟨k + 1, by omega, by go_num, Lib.hid (by first | exact below_drewN HB6.out _ | exact HB6.out)⟩
        case measure => simp [intOf]; omega
    · obtain rfl : k = ls.length := by omega
      have HBF := Lib.hid (HB4.out.trans (HB.out.mono HB4.out.size))
      go_wp2_with fail
      refine (CG.out _).mono ?_
      rintro e w7 ⟨rfl, b7⟩
      have HB7 := Lib.hid (HBF.out.trans (b7.mono HBF.out.size))
      clear b7
      go_wp2_with fail
      go_ret
      exact ⟨rfl, HB7.out⟩
end Go.Proofs.Ytagmknahmkniaaa.curveAgain

/- What the reach says of a text that opens a record, over any program. -/
namespace Go.Recs
open Go.ChangeShapes Go.WideShapes Go.RowKit Go.Deep
set_option linter.unusedVariables false
theorem first_sized {H : Type} {enc : TypeId × Value → H} {P : Program} {W : World} {base : Nat} {spare : Nat → Bool} {held : Bool} {T : TypeId} {cs : Array Value} {d : DataW H} {p : List MemPlace} {fs : Array Field} {f : Field} {s : ByteArray}
    {ts : List TypeId} {ds : List (DataW H)} {j : Nat}
    (h : (DataW.weightsEach P ts ds).all (· ≤ reachBytes) = true) (ht : ts[j]? = some T) (hd : ds[j]? = some d)
    (hT : DataW.Trod enc P W base spare held T (.agg cs) d p) (hu : P.underlying T = some (.struct fs)) (hf : fs[0]? = some f) (ho : f.offset = 0) (hs : P.underlying f.type = some .string) (hc : P.cellsOf f.type = 1) (hcs : cs[0]? = some (.string s)) :
    s.size ≤ 140737488351232 := by
  obtain ⟨fuel, hx⟩ := hT
  obtain ⟨xs, n, _, hxd, _, hxl, hfl⟩ := DataW.trod_struct hu hx
  have h0 := hfl 0 f hf
  have hpos : 0 < xs.length := by
    rw [hxl]
    rcases Nat.eq_zero_or_pos fs.size with e | e
    · rw [Array.getElem?_eq_none (by omega)] at hf; cases hf
    · exact e
  rw [List.getElem?_eq_getElem hpos] at h0
  obtain ⟨t, ht0, hx0, _⟩ := DataW.trod_string hs h0
  rw [ho, hc, List.drop_zero] at ht0
  have ets : t = s := by
    have e1 : (Value.agg cs).cells.toList.take 1 = [Value.string t] := ht0
    have e2 : (Value.agg cs).cells.toList[0]? = some (Value.string s) := by simpa [Value.cells] using hcs
    cases hl : (Value.agg cs).cells.toList with
    | nil => rw [hl] at e2; cases e2
    | cons a r => rw [hl] at e1 e2; simp at e1 e2; rw [e1] at e2; injection e2
  subst ets
  injection hxd with hd1 _
  have hw : t.data.toList.length ∈ d.weights P T := by
    rw [hd1]
    simp only [DataW.weights, hu]
    have hm := DataW.weights_mem_each (P := P) (ts := fs.toList.map (·.type)) (ds := xs.map (·.1)) (j := 0) (t := f.type) (d := xs[0].1) (by rw [List.getElem?_map, Array.getElem?_toList, hf]; rfl) (by rw [List.getElem?_map, List.getElem?_eq_getElem hpos]; rfl) t.data.toList.length
    apply hm
    rw [hx0]
    simp [DataW.weights]
  have := List.all_eq_true.1 h _ (DataW.weights_mem_each ht hd _ hw)
  have e : t.data.toList.length = t.size := Array.length_toList
  rw [e] at this
  have hr : reachBytes = 140737488351232 := by decide
  rw [← hr]
  simpa using this
end Go.Recs

/- A law's arguments: arrays of two and of three ints. -/
namespace Go.Proofs.Ytagmknahmkniaaa
open Go.ChangeShapes Go.WideShapes Go.ChangeAt Go.RowKit
set_option linter.unusedVariables false
set_option maxRecDepth 100000

theorem array_two {T : Array Value} (h : T.size = 2) : ∃ a b, T = #[a, b] := by
  obtain ⟨l⟩ := T
  match l, h with
  | [a, b], _ => exact ⟨a, b, rfl⟩
theorem trod_two {H : Type} {enc : TypeId × Value → H} {P : Program} {w : World} {base : Nat} {spare : Nat → Bool} {held : Bool} {t e : TypeId} {fuel : Nat} {c0 c1 : Value} {x : DataW H × List MemPlace}
    (ht : P.underlying t = some (.array 2 e)) (hce : P.cellsOf e = 1) (h : DataW.trod enc P w base spare held fuel t [c0, c1] = some x) :
    ∃ y0 y1 n, DataW.trod enc P w base spare held n e [c0] = some y0 ∧ DataW.trod enc P w base spare held n e [c1] = some y1 := by
  cases fuel with
  | zero => simp [DataW.trod] at h
  | succ n =>
    unfold DataW.trod at h
    rw [ht] at h
    have r2 : List.range 2 = [0, 1] := rfl
    simp [r2, hce] at h
    obtain ⟨_, h⟩ := h
    cases h0 : DataW.trod enc P w base spare held n e [c0] with
    | none => simp [h0] at h
    | some y0 =>
      cases h1 : DataW.trod enc P w base spare held n e [c1] with
      | none => simp [h0, h1] at h
      | some y1 => exact ⟨y0, y1, n, h0, h1⟩
theorem open_arr2 {H : Type} {enc : TypeId × Value → H} {W : World} {base b0 : Nat} {spare : Nat → Bool} {held : Bool} {r : Reach} {v : Value} {d : DataW H} {p : List MemPlace}
    (hv : Value.okWide Try.prog W r b0 45 v) (h : DataW.Trod enc Try.prog W base spare held 45 v d p) :
    ∃ x y : Int, v = .agg #[.int .i64 x, .int .i64 y] ∧ (-9223372036854775808 ≤ x ∧ x ≤ 9223372036854775807) ∧ (-9223372036854775808 ≤ y ∧ y ≤ 9223372036854775807) := by
  obtain ⟨cs, rfl, hsz, _⟩ : ∃ cs, v = .agg cs ∧ cs.size = Try.prog.cellsOf 45 ∧ Row.okWide Try.prog W r b0 45 cs := by
    simpa [Value.okWide, Try.underlying45] using hv
  rw [show Try.prog.cellsOf 45 = 2 from by kernel_rfl] at hsz
  obtain ⟨c0, c1, rfl⟩ := array_two hsz
  obtain ⟨fuel, hf⟩ := h
  obtain ⟨y0, y1, m, hy0, hy1⟩ := trod_two Try.underlying45 (by kernel_rfl) hf
  obtain ⟨x0, e0, rfl, w0⟩ := DataW.trod_int Try.underlying3 hy0
  obtain ⟨x1, e1, rfl, w1⟩ := DataW.trod_int Try.underlying3 hy1
  simp at e0 e1
  subst e0 e1
  exact ⟨x0, x1, rfl, bounds_i64 w0, bounds_i64 w1⟩

theorem open_arr3 {H : Type} {enc : TypeId × Value → H} {W : World} {base b0 : Nat} {spare : Nat → Bool} {held : Bool} {r : Reach} {v : Value} {d : DataW H} {p : List MemPlace}
    (hv : Value.okWide Try.prog W r b0 59 v) (h : DataW.Trod enc Try.prog W base spare held 59 v d p) :
    ∃ x y z : Int, v = .agg #[.int .i64 x, .int .i64 y, .int .i64 z] ∧ (-9223372036854775808 ≤ x ∧ x ≤ 9223372036854775807) ∧ (-9223372036854775808 ≤ y ∧ y ≤ 9223372036854775807) ∧ (-9223372036854775808 ≤ z ∧ z ≤ 9223372036854775807) := by
  obtain ⟨cs, rfl, hsz, _⟩ : ∃ cs, v = .agg cs ∧ cs.size = Try.prog.cellsOf 59 ∧ Row.okWide Try.prog W r b0 59 cs := by
    simpa [Value.okWide, Try.underlying59] using hv
  rw [show Try.prog.cellsOf 59 = 3 from by kernel_rfl] at hsz
  obtain ⟨c0, c1, c2, rfl⟩ := Go.Joins.array3 hsz
  obtain ⟨fuel, hf⟩ := h
  obtain ⟨y0, y1, y2, m, hx, hy0, hy1, hy2⟩ := trod_array3 Try.underlying59 (by kernel_rfl) hf
  obtain ⟨x0, e0, rfl, w0⟩ := DataW.trod_int Try.underlying3 hy0
  obtain ⟨x1, e1, rfl, w1⟩ := DataW.trod_int Try.underlying3 hy1
  obtain ⟨x2, e2, rfl, w2⟩ := DataW.trod_int Try.underlying3 hy2
  simp at e0 e1 e2
  subst e0 e1 e2
  exact ⟨x0, x1, x2, rfl, bounds_i64 w0, bounds_i64 w1, bounds_i64 w2⟩
end Go.Proofs.Ytagmknahmkniaaa
