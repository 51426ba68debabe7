/- Put together: SerB, MapEnt, KeyBase, NovG0, MapG, PosBox, MemMath, TradeMath. -/
import Derived.Test.YtaegapcccboinaaBun3
import Derived.Test.YtaegapcccboinaaBun6
import Derived.Test.YtaegapcccboinaaBun7
import Derived.Laws.StructEq
import Derived.Laws.ResultCell
import Derived.Laws.Rows
import Derived.Maps.OwnOps
import Derived.Maps.RangeWalk
import Derived.DeepKeys4
import Derived.WideKeyEntry
import Derived.WalkArith
import Derived.Maps.Ext
import Derived.Maps.OwnSet
import Derived.Test.YtaegapcccboinaaBun4
import Derived.Test.YtaegapcccboinaaBun2
/- Layer 10: series compared and in boxes. -/
namespace Go.Proofs.Ytaegapcccboinaa
open Go.RowKit Go.Recs
set_option linter.unusedVariables false
abbrev serA (s : EM.Ser) : Value := .agg #[.string s.prod, .int .i64 s.kind, .int .i64 s.expiry, .int .i64 s.strike]
def seq (x y : EM.Ser) : Bool := (x.prod.toList == y.prod.toList) && ((x.kind == y.kind) && ((x.expiry == y.expiry) && (x.strike == y.strike)))
theorem seq_iff {x y : EM.Ser} : seq x y = true ↔ x = y := by
  constructor
  · intro h
    unfold seq at h
    simp only [Bool.and_eq_true, beq_iff_eq] at h
    obtain ⟨h1, h2, h3, h4⟩ := h
    cases x; cases y
    simp only at h1 h2 h3 h4
    rw [EM.toList_inj h1, h2, h3, h4]
  · rintro rfl
    simp [seq]
theorem seq_false {x y : EM.Ser} : seq x y = false ↔ x ≠ y := by rw [Bool.eq_false_iff, ne_eq, seq_iff]
theorem ser_in (x y : EM.Ser) (w : World) : (Op.equalIn 10000 57 (serA x) (serA y)).run Try.prog w = .ok (seq x y) w := by
  have u3 := Try.underlying3
  have u9 := Try.underlying9
  have a3 := Try.isAgg3
  have a9 := Try.isAgg9
  have z3 := Try.sizeOf3
  have z9 := Try.sizeOf9
  have hS : Try.prog.underlying 57 = some (.struct (Try.prog.fieldsOf 57)) := by kernel_rfl
  have hp : Try.prog.stoodInHeld 57 = false := by kernel_rfl
  rw [show (10000 : Nat) = 9999 + 1 from rfl, run_equalIn_agg w 9999 57 _ _ hS hp]
  simp only [Program.fieldsOf, Try.underlying57]
  unfold seq
  go_simp
  by_cases h1 : x.prod.toList = y.prod.toList <;> by_cases h2 : x.kind = y.kind <;> by_cases h3 : x.expiry = y.expiry <;> by_cases h4 : x.strike = y.strike <;> simp [h1, h2, h3, h4]
theorem ser_guard : Try.prog.eqGuardType Try.prog.depth 57 = false := by kernel_rfl
/-- block g is one series -/
def SBox (w : World) (g : Nat) (p : EM.Ser) : Prop := w.heap[g]? = some (.cells #[.string p.prod, .int .i64 p.kind, .int .i64 p.expiry, .int .i64 p.strike] 57 (0, 0))
section
variable {w w' : World} {g B : Nat} {p : EM.Ser}
theorem SBox.new (w : World) (p : EM.Ser) : SBox (w.alloc (.cells #[.string p.prod, .int .i64 p.kind, .int .i64 p.expiry, .int .i64 p.strike] 57)) w.heap.size p := heap_alloc_new w _
theorem SBox.below (h : SBox w g p) (hb : Below B w w') (hg : g < B) : SBox w' g p := (hb.block g hg).trans h
theorem SBox.lt (h : SBox w g p) : g < w.heap.size := lt_of_block h
theorem SBox.cells (h : SBox w g p) :
    w.cell? ⟨g, 0, none⟩ = some (.string p.prod) ∧ w.cell? ⟨g, 1, none⟩ = some (.int .i64 p.kind) ∧ w.cell? ⟨g, 2, none⟩ = some (.int .i64 p.expiry) ∧ w.cell? ⟨g, 3, none⟩ = some (.int .i64 p.strike) := by
  unfold SBox at h
  simp [World.cell?, h]
theorem SBox.drewN (h : SBox w g p) (n : Nat) : SBox (w.drewN n) g p := h
theorem SBox.drew (h : SBox w g p) : SBox w.drew g p := h
theorem SBox.alloc (h : SBox w g p) (o : Obj) : SBox (w.alloc o) g p := (Below.heap_alloc w o g h.lt).trans h
theorem SBox.frozen (h : SBox w g p) (i : Nat) : w.frozen? ⟨g, i, none⟩ = false := by unfold SBox at h; simp [World.frozen?, h]
theorem SBox.put (h : SBox w g p) (x : EM.Ser) : SBox ((((w.setCell ⟨g, 0, none⟩ (.string x.prod)).setCell ⟨g, 1, none⟩ (.int .i64 x.kind)).setCell ⟨g, 2, none⟩ (.int .i64 x.expiry)).setCell ⟨g, 3, none⟩ (.int .i64 x.strike)) g x := by
  unfold SBox at h ⊢
  simp [World.setCell, Array.getElem?_modify, h]
theorem SBox.put_below {a : World} (h : Below B a w) (hB : B ≤ g) (x : EM.Ser) : Below B a ((((w.setCell ⟨g, 0, none⟩ (.string x.prod)).setCell ⟨g, 1, none⟩ (.int .i64 x.kind)).setCell ⟨g, 2, none⟩ (.int .i64 x.expiry)).setCell ⟨g, 3, none⟩ (.int .i64 x.strike)) :=
  (((h.setCell hB _).setCell hB _).setCell hB _).setCell hB _
theorem SBox.strike (h : SBox w g p) (n : Int) : SBox (w.setCell ⟨g, 3, none⟩ (.int .i64 n)) g { p with strike := n } := by
  unfold SBox at h ⊢
  simp [World.setCell, Array.getElem?_modify, h]
end
theorem ser_under : Try.prog.underlying 57 = some (.struct (Try.prog.fieldsOf 57)) := by kernel_rfl
theorem ser_size : (Try.prog.info? 57).map (·.size) = some 4 := by kernel_rfl
theorem results_ser {fn : Func} {p u : Tmp} (h : fn.results = #[.cell p 57, .tmp u]) (tmps : Array Value) (w : World) (g : Nat) (x : EM.Ser)
    (hp : tmps.getD p undef = .pointer (some ⟨g, 0, none⟩)) (hb : SBox w g x) : (results fn tmps).run Try.prog w = .ok (.tuple #[serA x, tmps.getD u undef]) w := by
  rw [results_cell_tmp h, hp]
  simp only [asAddr, Sem.run_pure, Result.andThen_ok]
  rw [run_loadVar_row w g 57 57 _ (0, 0) _ hb ser_under rfl ser_size]
  rfl
end Go.Proofs.Ytaegapcccboinaa

/- Maps keyed by records: what 'm[k] += v' does, a look-up of a bool; over any program. -/
namespace Go.Recs
open Go.Maps Go.MapKept
open Go.ChangeMaps (setBlock heap_setBlock_same heap_setBlock_other)
open Go.WideElems (Fit)
set_option linter.unusedVariables false
section
variable {H : Type} {P : Program} {w : World} {t k e : TypeId} {q : IntKind} {b n : Nat} {D : DataW H}
/-- a look-up among entries of which one has the key -/
theorem look_hit (K : WideMaps.KeyLaw P k) (ht : P.underlying t = some (.map k e)) {es : Array MapEntry} {clock : Nat} (hb : w.heap[b]? = some (.map es clock)) (hk : ∀ x ∈ es.toList, ∃ l, keyOf P k x.key = some l)
    {key : Value} {kl : Lit} (hkey : keyOf P k key = some kl) {v : Value} (hv : ∀ x ∈ es.toList, x.key = key → x.val = v) (hx : ∃ x ∈ es.toList, x.key = key) :
    (Instr.lookup t (.map (some b)) key false).run P w = .ok v w := by
  rcases K.find w hkey es.toList hk with ⟨_, h2⟩ | ⟨j, e0, h1, h2, h3⟩
  · obtain ⟨x, hx1, hx2⟩ := hx
    exact absurd hx2 (h2 x hx1)
  · have := hv e0 (List.mem_of_getElem? h2) h3
    simp [Instr.lookup, run_underlying ht, MapKept.run_getObj_map hb, K.check w _ hkey, h1, Result.andThen, this]

theorem set_twice (w : World) (b : Nat) (o o' : Obj) : setBlock (setBlock w b o) b o' = setBlock w b o' := by simp [setBlock]

/-- 'm[k] += ..': the entry is laid or found, read before or after, and the sum stored -/
theorem ownsMap_entry (K : WideMaps.KeyLaw P k) (ht : P.underlying t = some (.map k e)) (he : P.underlying e = some (.int q)) (hz : ∀ u : World, (zeroValue e).run P u = .ok (.int q 0) u)
    (h : w.ownsMap P k (plainElem P e) b n D) (hn : n < maxLen) {key : Value} {kl : Lit} (hkey : keyOf P k key = some kl) :
    ∃ (c : Int) (st : Nat) (w1 : World), D.atKey kl (.lit (.int q 0)) = .lit (.int q c) ∧ (Lit.int q c).wf = true ∧
      (Instr.lookup t (.map (some b)) key false).run P w = .ok (.int q c) w ∧ (Instr.lookup t (.map (some b)) key false).run P w1 = .ok (.int q c) w1 ∧
      (Instr.mapEntry t (.map (some b)) key).run P w = .ok (.tuple #[.int q c, .int .i64 st]) w1 ∧ w.grownBy w1 (some b) ∧
      ∀ x : Int, (Lit.int q x).wf = true → ∃ w2, (Instr.entryStore t (.map (some b)) (.int .i64 st) (.int q x)).run P w1 = .ok () w2 ∧ w2.ownsMap P k (plainElem P e) b (n + 1) (D.put kl (.lit (.int q x))) ∧ w.grownBy w2 (some b) := by
  obtain ⟨c, hrun, hat, hwc⟩ := h.lookup_int (Keyed.of_law K) ht he (hz w) hkey
  have hup : ∀ x : Int, (Lit.int q x).wf = true → ∃ w', (Instr.mapUpdate t (.map (some b)) key (.int q x)).run P w = .ok () w' ∧ w'.ownsMap P k (plainElem P e) b (n + 1) (D.put kl (.lit (.int q x))) ∧ w.grownBy w' (some b) :=
    fun x hx => h.update (Keyed.of_law K) ht hn hkey (plainElem_int he hx)
  obtain ⟨es, clock, hb, F, hs, rfl⟩ := h
  obtain ⟨v0, st, es1, clock1, hE, hv0, hS⟩ := Go.WideElems.entry_then_store K ht hz hb F hkey
  have hb1 := heap_setBlock_same hb (.map es1 clock1)
  have hshape : v0 = .int q c ∧ (∀ x ∈ es1.toList, ∃ l, keyOf P k x.key = some l) ∧ (∀ x ∈ es1.toList, x.key = key → x.val = .int q c) ∧ ∃ x ∈ es1.toList, x.key = key := by
    rcases K.find w hkey es.toList F.keys with ⟨h1, h2⟩ | ⟨j, e0, h1, h2, h3⟩
    · have hl : (Instr.lookup t (.map (some b)) key false).run P w = .ok (.int q 0) w := by
        simp [Instr.lookup, run_underlying ht, MapKept.run_getObj_map hb, K.check w _ hkey, h1, hz, Result.andThen]
      have hc : c = 0 := by
        rw [hrun] at hl
        injection hl with e1 _
        injection e1
      subst hc
      have hE2 : (Instr.mapEntry t (.map (some b)) key).run P w = .ok (.tuple #[.int q 0, goInt clock]) (setBlock w b (.map (es.push ⟨key, .int q 0, clock⟩) (clock + 1))) := by
        simp [Instr.mapEntry, run_underlying ht, MapKept.run_getObj_map hb, K.check w false hkey, h1, hz, MapKept.run_setObj_map _ hb, Result.andThen, setBlock]
      rw [hE] at hE2
      injection hE2 with e1 e2
      have e3 : es1 = es.push ⟨key, .int q 0, clock⟩ := by
        have h4 := heap_setBlock_same hb (.map (es.push ⟨key, .int q 0, clock⟩) (clock + 1))
        rw [← e2, hb1] at h4
        injection h4 with h5
        injection h5
      have e4 : v0 = .int q 0 := by
        injection e1 with e5
        have := congrArg (fun a : Array Value => a[0]?) e5
        simpa using this
      subst e3
      refine ⟨e4, ?_, ?_, ⟨_, by simp; exact .inr rfl, rfl⟩⟩
      · intro x hx
        simp only [Array.toList_push, List.mem_append, List.mem_singleton] at hx
        rcases hx with hx | rfl
        · exact F.keys x hx
        · exact ⟨kl, hkey⟩
      · intro x hx hxk
        simp only [Array.toList_push, List.mem_append, List.mem_singleton] at hx
        rcases hx with hx | rfl
        · exact absurd hxk (h2 x hx)
        · rfl
    · have hj : es[j]? = some e0 := by simpa using h2
      have hl : (Instr.lookup t (.map (some b)) key false).run P w = .ok e0.val w := by
        simp [Instr.lookup, run_underlying ht, MapKept.run_getObj_map hb, K.check w _ hkey, h1, Result.andThen]
      have hc : e0.val = .int q c := by
        rw [hrun] at hl
        injection hl with e1 _
        exact e1.symm
      have hE2 : (Instr.mapEntry t (.map (some b)) key).run P w = .ok (.tuple #[e0.val, goInt e0.born]) (setBlock w b (.map (es.modify j fun e' => { e' with key := key }) clock)) := by
        simp [Instr.mapEntry, run_underlying ht, MapKept.run_getObj_map hb, K.check w false hkey, h1, hj, h3, K.stays w hkey, MapKept.run_setObj_map _ hb, Result.andThen, setBlock]
      rw [hE] at hE2
      injection hE2 with e1 e2
      have e3 : es1 = es.modify j fun e' => { e' with key := key } := by
        have h4 := heap_setBlock_same hb (.map (es.modify j fun e' => { e' with key := key }) clock)
        rw [← e2, hb1] at h4
        injection h4 with h5
        injection h5
      have hsame : es1 = es := by
        rw [e3]
        apply Array.ext'
        rw [Array.toList_modify]
        have : ∀ (l : List MapEntry) (i : Nat), l[i]? = some e0 → l.modify i (fun e' => { e' with key := key }) = l := by
          intro l
          induction l with
          | nil => intro i hi; simp at hi
          | cons a l ih =>
            intro i hi
            cases i with
            | zero =>
              simp at hi
              subst hi
              simp [← h3]
            | succ i => simp at hi; simp [ih i hi]
        exact this es.toList j h2
      have e4 : v0 = .int q c := by
        injection e1 with e5
        have := congrArg (fun a : Array Value => a[0]?) e5
        simp at this
        rw [this, hc]
      subst hsame
      have hm0 : e0 ∈ es1.toList := List.mem_of_getElem? h2
      refine ⟨e4, F.keys, ?_, ⟨e0, hm0, h3⟩⟩
      intro x hx hxk
      have hn := ((stamped_iff es1 clock).1 F.stamped).2.2
      have hxe : x = e0 := Go.entry_eq_of_key hn hx hm0 (hxk.trans h3.symm)
      rw [hxe, hc]
  obtain ⟨rfl, hk1, hv1, hx1⟩ := hshape
  refine ⟨c, st, setBlock w b (.map es1 clock1), hat, hwc, hrun, look_hit K ht hb1 hk1 hkey hv1 hx1, hE, ⟨rfl, rfl, rfl, by simp [setBlock], fun i _ hi => heap_setBlock_other hb _ (fun e => hi (by rw [e]))⟩, fun x hx => ?_⟩
  obtain ⟨es', clock', hst, hmu⟩ := hS (setBlock w b (.map es1 clock1)) (.int q x) hb1
  obtain ⟨w2, hu, hown, hg⟩ := hup x hx
  rw [hmu] at hu
  injection hu with _ hw2
  subst hw2
  rw [set_twice] at hst
  exact ⟨_, hst, hown, hg⟩
end
/-! what a record reads as, as a map's key -/
section
variable {P : Program} {t k : TypeId} {fs : Array Field}
theorem klits_str (h : P.underlying t = some .string) (d : Nat) (s : ByteArray) (hs : s.size ≤ maxLen) : P.keyLits (d + 1) t [.string s] = some [.string s.data.toList] := by simp [Program.keyLits, h, hs]
theorem klits_int {q : IntKind} (h : P.underlying t = some (.int q)) (d : Nat) (n : Int) (hn : (Lit.int q n).wf = true) : P.keyLits (d + 1) t [.int q n] = some [.int q n] := by simp [Program.keyLits, h, hn]
theorem klits_struct (h : P.underlying t = some (.struct fs)) (d : Nat) (cs : List Value) (hc : cs.length = P.cellsOf t ∧ fs.all (·.name != "_") = true) : P.keyLits (d + 1) t cs = (fs.toList.mapM fun f => P.keyLits d f.type ((cs.drop f.offset).take (P.cellsOf f.type))).map List.flatten := by
  conv => lhs; unfold Program.keyLits
  simp only [h]
  split
  · rfl
  · exact absurd hc (by assumption)
theorem kof_struct (h : P.underlying k = some (.struct fs)) (kt : P.keyType k = true) {xs : Array Value} (hx : xs.size = P.cellsOf k) {d : Nat} (hd : P.types.size + 1 = d) {ls : List Lit} (hl : P.keyLits d k xs.toList = some ls) :
    keyOf P k (.agg xs) = some (.string (keyBytes ls)) := by
  subst hd
  simp [keyOf, h, kt, Value.formed, hx, Value.cells, hl]
end
end Go.Recs

/- A record as a map's key: what every such key stands on. -/
namespace Go.Proofs.Ytaegapcccboinaa
open Go.RowKit Go.Recs Go.Maps
set_option linter.unusedVariables false
theorem laid_ok : laidOutB Try.prog = true := by kernel_rfl
theorem str_cells : Try.prog.cellsOf 9 = 1 := by kernel_rfl
theorem int_cells : Try.prog.cellsOf 3 = 1 := by kernel_rfl
theorem types_two : ∃ m, Try.prog.types.size + 1 = m + 1 + 1 := by
  have h : 0 < Try.prog.types.size := of_decide_eq_true (by kernel_rfl)
  generalize Try.prog.types.size = n at *
  exact ⟨n - 1, by omega⟩
end Go.Proofs.Ytaegapcccboinaa

/- A series as a map's key. -/
namespace Go.Proofs.Ytaegapcccboinaa
open Go.RowKit Go.Recs Go.Maps
set_option linter.unusedVariables false
set_option linter.unusedSimpArgs false
theorem ser_row_lt : (57 : TypeId) < Try.prog.types.size := of_decide_eq_true (by kernel_rfl)
theorem ser_keyTy : Try.prog.keyTypeAt 2 57 = true := by kernel_rfl
theorem ser_law : WideMaps.KeyLaw Try.prog 57 := deep_law_laid laid_ok (m := 2) (by omega) ser_row_lt ser_keyTy (by rw [Try.underlying57])
theorem ser_keyType : Try.prog.keyType 57 = true := by kernel_rfl
theorem ser_cells : 4 = Try.prog.cellsOf 57 := by kernel_rfl
theorem ser_key (s : EM.Ser) (h : serQ s) : ∃ kl, keyOf Try.prog 57 (serA s) = some kl := by
  obtain ⟨m, hm⟩ := types_two
  obtain ⟨h1, ⟨k1, k2⟩, ⟨e1, e2⟩, x1, x2⟩ := h
  have q0 := klits_str Try.underlying9 m s.prod h1
  have q1 := klits_int Try.underlying3 m s.kind (WalkArith.wf_i64 ⟨k1, k2⟩)
  have q2 := klits_int Try.underlying3 m s.expiry (WalkArith.wf_i64 ⟨e1, e2⟩)
  have q3 := klits_int Try.underlying3 m s.strike (WalkArith.wf_i64 ⟨x1, x2⟩)
  have c9 := str_cells
  have c3 := int_cells
  have hl := klits_struct Try.underlying57 (m + 1) [.string s.prod, .int .i64 s.kind, .int .i64 s.expiry, .int .i64 s.strike] ⟨ser_cells, by kernel_rfl⟩
  have hk := fun ls => kof_struct (ls := ls) (xs := #[.string s.prod, .int .i64 s.kind, .int .i64 s.expiry, .int .i64 s.strike]) Try.underlying57 ser_keyType ser_cells hm
  generalize Try.prog = P at *
  have e := hk [.string s.prod.data.toList, .int .i64 s.kind, .int .i64 s.expiry, .int .i64 s.strike] (by
    rw [hl]
    simp [c9, c3, q0, q1, q2, q3])
  exact ⟨_, e⟩
/-- what a series reads as -/
noncomputable def skey (s : EM.Ser) : Lit := (keyOf Try.prog 57 (serA s)).getD (.bool false)
theorem skey_is {s : EM.Ser} (h : serQ s) : keyOf Try.prog 57 (serA s) = some (skey s) := by
  obtain ⟨kl, e⟩ := ser_key s h
  unfold skey; rw [e]; rfl
set_option maxRecDepth 100000 in
theorem skey_lit {s : EM.Ser} (h : serQ s) : WideAt.IsKeyLit (skey s) := by
  obtain ⟨s', e⟩ := ser_law.str (skey_is h)
  rw [e]
  trivial
theorem serA_inj {a b : EM.Ser} (h : serA a = serA b) : a = b := by
  obtain ⟨p, x, y, z⟩ := a
  obtain ⟨p', x', y', z'⟩ := b
  simp at h
  simp [h]
theorem skey_inj {a b : EM.Ser} (ha : serQ a) (hb : serQ b) (h : skey a = skey b) : a = b := by
  have h1 := skey_is ha
  rw [h] at h1
  exact serA_inj (ser_law.inj h1 (skey_is hb))
end Go.Proofs.Ytaegapcccboinaa

/- Maps by what they hold: the datum of a map, and a list of its elements, in no order; over any program. -/
namespace MG
open Go Go.Maps
set_option linter.unusedVariables false
variable {α : Type} {κ : α → Lit} {δ : α → DataW Unit}
/-- the datum D holds just the elements l, each at its key -/
structure Says (κ : α → Lit) (δ : α → DataW Unit) (D : DataW Unit) (l : List α) : Prop where
  apart : l.Pairwise (fun a b => κ a ≠ κ b)
  keys : ∀ a ∈ l, WideAt.IsKeyLit (κ a)
  has_ : ∀ kl, has D kl = true ↔ ∃ a ∈ l, κ a = kl
  at_ : ∀ a ∈ l, ∀ z, D.atKey (κ a) z = δ a
theorem has_nil (kl : Lit) : has (.map [] : DataW Unit) kl = false := rfl
theorem Says.nil : Says κ δ (.map []) [] := ⟨List.Pairwise.nil, by simp, fun kl => by rw [has_nil]; simp, by simp⟩
theorem Says.not_ {D : DataW Unit} {l : List α} (h : Says κ δ D l) {kl : Lit} (hn : ∀ a ∈ l, κ a ≠ kl) : has D kl = false := by
  cases e : has D kl
  · rfl
  · obtain ⟨a, ha, e2⟩ := (h.has_ kl).1 e
    exact absurd e2 (hn a ha)
theorem Says.miss {D : DataW Unit} {l : List α} (h : Says κ δ D l) {kl : Lit} (hn : ∀ a ∈ l, κ a ≠ kl) (z : DataW Unit) : D.atKey kl z = z := atKey_of_not_has (h.not_ hn) z
theorem Says.perm {D : DataW Unit} {l m : List α} (h : Says κ δ D l) (p : l.Perm m) : Says κ δ D m :=
  ⟨(p.pairwise_iff (fun {_ _} hne => Ne.symm hne)).1 h.apart, fun a ha => h.keys a (p.mem_iff.2 ha), fun kl => by
    rw [h.has_ kl]
    exact ⟨fun ⟨a, ha, e⟩ => ⟨a, p.mem_iff.1 ha, e⟩, fun ⟨a, ha, e⟩ => ⟨a, p.mem_iff.2 ha, e⟩⟩, fun a ha => h.at_ a (p.mem_iff.2 ha)⟩
theorem Says.del {D : DataW Unit} {l : List α} (h : Says κ δ D l) {kl : Lit} {f : α → Bool} (hf : ∀ x ∈ l, f x = true ↔ κ x ≠ kl) : Says κ δ (D.del kl) (l.filter f) := by
  refine ⟨h.apart.filter _, fun a ha => h.keys a (List.mem_filter.1 ha).1, fun k2 => ?_, fun a ha z => ?_⟩
  · by_cases e : k2 = kl
    · subst e
      rw [has_del_same]
      constructor
      · intro h0; cases h0
      · rintro ⟨a, ha, e2⟩
        obtain ⟨h1, h2⟩ := List.mem_filter.1 ha
        exact absurd e2 ((hf a h1).1 h2)
    · rw [has_del_other e, h.has_ k2]
      constructor
      · rintro ⟨a, ha, rfl⟩
        exact ⟨a, List.mem_filter.2 ⟨ha, (hf a ha).2 e⟩, rfl⟩
      · rintro ⟨a, ha, e2⟩
        exact ⟨a, (List.mem_filter.1 ha).1, e2⟩
  · obtain ⟨h1, h2⟩ := List.mem_filter.1 ha
    rw [atKey_del_other ((hf a h1).1 h2)]
    exact h.at_ a h1 z
theorem Says.put {D : DataW Unit} {l : List α} (h : Says κ δ D l) (hD : IsMap D) {a : α} (hk : WideAt.IsKeyLit (κ a)) {f : α → Bool} (hf : ∀ x ∈ l, f x = true ↔ κ x ≠ κ a) : Says κ δ (D.put (κ a) (δ a)) (a :: l.filter f) := by
  refine ⟨List.pairwise_cons.2 ⟨fun b hb => ?_, h.apart.filter _⟩, ?_, fun k2 => ?_, ?_⟩
  · obtain ⟨h1, h2⟩ := List.mem_filter.1 hb
    exact fun e => (hf b h1).1 h2 e.symm
  · intro b hb
    rcases List.mem_cons.1 hb with rfl | hb
    · exact hk
    · exact h.keys b (List.mem_filter.1 hb).1
  · by_cases e : k2 = κ a
    · subst e
      rw [has_put_same hD hk]
      exact ⟨fun _ => ⟨a, by simp, rfl⟩, fun _ => rfl⟩
    · rw [has_put_other e, h.has_ k2]
      constructor
      · rintro ⟨b, hb, rfl⟩
        exact ⟨b, List.mem_cons_of_mem _ (List.mem_filter.2 ⟨hb, (hf b hb).2 e⟩), rfl⟩
      · rintro ⟨b, hb, e2⟩
        rcases List.mem_cons.1 hb with rfl | hb
        · exact absurd e2.symm e
        · exact ⟨b, (List.mem_filter.1 hb).1, e2⟩
  · intro b hb z
    rcases List.mem_cons.1 hb with rfl | hb
    · exact atKey_put_same hD hk _ _
    · obtain ⟨h1, h2⟩ := List.mem_filter.1 hb
      rw [atKey_put_other ((hf b h1).1 h2)]
      exact h.at_ b h1 z
theorem Says.size_ {D : DataW Unit} {l : List α} (h : Says κ δ D l) (hc : Canon D) : size D = l.length := by
  obtain ⟨es, rfl, hr, hk⟩ := hc
  have hap := apart_of_rising hr
  rw [size_eq]
  have n1 : (es.map (·.1)).Nodup := List.pairwise_map.2 (hap.imp (fun h => h))
  have n2 : (l.map κ).Nodup := List.pairwise_map.2 (h.apart.imp (fun h => h))
  have hp : (es.map (·.1)).Perm (l.map κ) := (List.perm_ext_iff_of_nodup n1 n2).2 fun kl => by
    rw [List.mem_map, List.mem_map, ← h.has_ kl, has_eq, List.any_eq_true]
    constructor
    · rintro ⟨p, hp, rfl⟩
      exact ⟨p, hp, WideAt.sameKey_self (hk p hp)⟩
    · rintro ⟨p, hp, e⟩
      exact ⟨p, hp, WideAt.sameKey_eq e⟩
  have := hp.length_eq
  simpa using this
/-- a range under way: pre has come, the rest is left -/
def Part (κ : α → Lit) (l : List α) (left : Lit → Bool) (pre : List α) : Prop := ∃ rest, (pre ++ rest).Perm l ∧ ∀ kl, left kl = true ↔ ∃ a ∈ rest, κ a = kl
theorem Says.start {D : DataW Unit} {l : List α} (h : Says κ δ D l) : Part κ l (has D) [] := ⟨l, List.Perm.refl _, h.has_⟩
theorem Says.step {D : DataW Unit} {l : List α} (h : Says κ δ D l) {left : Lit → Bool} {pre : List α} (hP : Part κ l left pre) {kl : Lit} (hl : left kl = true) {y : DataW Unit} (hat : ∀ z, D.atKey kl z = y) :
    ∃ a ∈ l, κ a = kl ∧ y = δ a ∧ Part κ l (fun z => left z && !z.sameKey kl) (pre ++ [a]) ∧ (pre ++ [a]).length ≤ l.length := by
  obtain ⟨rest, hp, hr⟩ := hP
  obtain ⟨a, ha, rfl⟩ := (hr kl).1 hl
  have hal : a ∈ l := hp.mem_iff.1 (List.mem_append_right _ ha)
  obtain ⟨r1, r2, rfl⟩ := List.append_of_mem ha
  have hap : (pre ++ (r1 ++ a :: r2)).Pairwise (fun a b => κ a ≠ κ b) := (hp.pairwise_iff (fun {_ _} hne => Ne.symm hne)).2 h.apart
  have hrp := (List.pairwise_append.1 hap).2.1
  have hmid : (a :: (r1 ++ r2)).Pairwise (fun a b => κ a ≠ κ b) := (List.perm_middle.pairwise_iff (fun {_ _} hne => Ne.symm hne)).1 hrp
  obtain ⟨hne, _⟩ := List.pairwise_cons.1 hmid
  have hp2 : ((pre ++ [a]) ++ (r1 ++ r2)).Perm l := by
    refine List.Perm.trans ?_ hp
    rw [List.append_assoc]
    have e : (a :: (r1 ++ r2)).Perm (r1 ++ a :: r2) := List.perm_middle.symm
    exact List.Perm.append_left _ e
  refine ⟨a, hal, rfl, by rw [← hat (.nil), h.at_ a hal], ⟨r1 ++ r2, hp2, fun k2 => ?_⟩, ?_⟩
  · rw [Bool.and_eq_true, hr k2]
    constructor
    · rintro ⟨⟨b, hb, rfl⟩, hs⟩
      rcases List.mem_append.1 hb with hb | hb
      · exact ⟨b, List.mem_append_left _ hb, rfl⟩
      · rcases List.mem_cons.1 hb with rfl | hb
        · rw [WideAt.sameKey_self (h.keys b hal)] at hs; cases hs
        · exact ⟨b, List.mem_append_right _ hb, rfl⟩
    · rintro ⟨b, hb, rfl⟩
      refine ⟨⟨b, ?_, rfl⟩, ?_⟩
      · rcases List.mem_append.1 hb with hb | hb
        · exact List.mem_append_left _ hb
        · exact List.mem_append_right _ (List.mem_cons_of_mem _ hb)
      · rw [sameKey_ne (fun e => hne b hb e.symm)]; rfl
  · have := hp2.length_eq
    rw [List.length_append] at this
    omega
theorem Part.done {l : List α} {left : Lit → Bool} {pre : List α} (h : Part κ l left pre) (hl : ∀ kl, left kl = false) : pre.Perm l := by
  obtain ⟨rest, hp, hr⟩ := h
  have : rest = [] := by
    cases rest with
    | nil => rfl
    | cons a r => exact absurd ((hr (κ a)).2 ⟨a, by simp, rfl⟩) (by rw [hl]; simp)
  rw [this, List.append_nil] at hp
  exact hp
end MG

/- A position in a box; positions compared; positions in a map. -/
namespace Go.Proofs.Ytaegapcccboinaa
open Go.RowKit Go.Recs Go.Maps
set_option linter.unusedVariables false
set_option linter.unusedSimpArgs false
abbrev posA (x : PO.Pos) : Value := .agg #[.string x.ser.prod, .int .i64 x.ser.kind, .int .i64 x.ser.expiry, .int .i64 x.ser.strike, .int .i64 x.lo, .int .i64 x.sh]
abbrev posC (x : PO.Pos) : Array Value := #[.string x.ser.prod, .int .i64 x.ser.kind, .int .i64 x.ser.expiry, .int .i64 x.ser.strike, .int .i64 x.lo, .int .i64 x.sh]
/-- how a position reads in a map -/
def posD (x : PO.Pos) : DataW Unit := .agg [.lit (.string x.ser.prod.data.toList), .lit (.int .i64 x.ser.kind), .lit (.int .i64 x.ser.expiry), .lit (.int .i64 x.ser.strike), .lit (.int .i64 x.lo), .lit (.int .i64 x.sh)]
def posElem : Value → Option (DataW Unit × List MemPlace)
  | .agg ⟨[.string a, .int .i64 k, .int .i64 e, .int .i64 s, .int .i64 lo, .int .i64 sh]⟩ => some (posD ⟨⟨a, k, e, s⟩, lo, sh⟩, [])
  | _ => none
theorem posElem_is (x : PO.Pos) : posElem (posA x) = some (posD x, []) := rfl
theorem posD_inj {x y : PO.Pos} (h : posD x = posD y) : x = y := by
  obtain ⟨⟨a, k, e, s⟩, lo, sh⟩ := x
  obtain ⟨⟨a', k', e', s'⟩, lo', sh'⟩ := y
  simp [posD] at h
  obtain ⟨h1, h2, h3, h4, h5, h6⟩ := h
  have : a = a' := by
    cases a; cases a'
    simp at h1
    rw [h1]
  rw [this, h2, h3, h4, h5, h6]
theorem posElem_inv {v : Value} {y : DataW Unit × List MemPlace} (h : posElem v = some y) : ∃ x : PO.Pos, v = posA x ∧ y = (posD x, []) := by
  unfold posElem at h
  split at h
  · rename_i a k e s lo sh
    exact ⟨⟨⟨a, k, e, s⟩, lo, sh⟩, rfl, by injection h with h; exact h.symm⟩
  · cases h
noncomputable def pkey (x : PO.Pos) : Lit := skey x.ser
abbrev PSays (D : DataW Unit) (l : List PO.Pos) : Prop := MG.Says pkey posD D l
end Go.Proofs.Ytaegapcccboinaa

/- Layer 11's mathematics: members and their accounts. -/
namespace MM
open Go
set_option linter.unusedSimpArgs false
structure Ac where
  name : ByteArray
  kind : Int
structure Mem where
  name : ByteArray
  status : Int
  accs : List Ac
def nil : ByteArray := ⟨#[]⟩
def okN (s : ByteArray) : Bool := WM.name s.data.toList
def lt (s t : ByteArray) : Bool := Op.bytesLess s.toList t.toList
def eq (s t : ByteArray) : Bool := s.toList == t.toList
def le (s t : ByteArray) : Bool := lt s t || eq s t
theorem eq_iff {s t : ByteArray} : eq s t = true ↔ s = t := by
  unfold eq
  constructor
  · intro h; exact EM.toList_inj (by simpa using h)
  · rintro rfl; simp
theorem eq_false {s t : ByteArray} : eq s t = false ↔ s ≠ t := by rw [Bool.eq_false_iff, ne_eq, eq_iff]
theorem lt_tri (s t : ByteArray) : lt s t = true ∨ s = t ∨ lt t s = true := by
  rcases OM.bl_tri s.toList t.toList with h | h | h
  · exact .inl h
  · exact .inr (.inl (EM.toList_inj h))
  · exact .inr (.inr h)
theorem lt_irrefl (s : ByteArray) : lt s s = false := OM.bl_irrefl _
theorem lt_trans {s t u : ByteArray} (h1 : lt s t = true) (h2 : lt t u = true) : lt s u = true := OM.bl_trans _ _ _ h1 h2
theorem lt_asymm {s t : ByteArray} (h : lt s t = true) : lt t s = false := OM.bl_asymm h
theorem lt_of_le {s t : ByteArray} (h : le s t = false) : lt t s = true := by
  unfold le at h
  rw [Bool.or_eq_false_iff] at h
  rcases lt_tri s t with g | g | g
  · rw [h.1] at g; cases g
  · rw [eq_iff.2 g] at h; cases h.2
  · exact g
theorem le_of_lt {s t : ByteArray} (h : lt t s = true) : le s t = false := by
  unfold le
  rw [lt_asymm h]
  have : eq s t = false := eq_false.2 (by rintro rfl; rw [lt_irrefl] at h; cases h)
  rw [this]; rfl
theorem gt_eq (s t : ByteArray) : (!Op.bytesLess s.toList t.toList && !(s.toList == t.toList)) = lt t s := by
  have e : (!Op.bytesLess s.toList t.toList && !(s.toList == t.toList)) = !(le s t) := by unfold le lt eq; rw [Bool.not_or]
  rw [e]
  cases h : le s t
  · rw [lt_of_le h]; rfl
  · cases g : lt t s
    · rfl
    · rw [le_of_lt g] at h; cases h
theorem lt_ne {s t : ByteArray} (h : lt s t = true) : eq s t = false ∧ eq t s = false := by
  refine ⟨eq_false.2 ?_, eq_false.2 ?_⟩ <;> (rintro rfl; rw [lt_irrefl] at h; cases h)
theorem ok_le {s : ByteArray} (h : okN s = true) : le s nil = false := by
  apply le_of_lt
  rcases lt_tri nil s with g | g | g
  · exact g
  · subst g; revert h; decide
  · unfold lt at g
    rw [Go.ByteArray.toList_eq nil] at g
    cases e : s.toList <;> simp [nil, e, Op.bytesLess] at g

def kindOk (k : Int) : Bool := decide (1 ≤ k) && decide (k ≤ 3)
def statOk (k : Int) : Bool := decide (1 ≤ k) && decide (k ≤ 4)
def accE : ByteArray → List Ac → Int
  | _, [] => 0
  | p, a :: r => if okN a.name = false then 10 else if le a.name p = true then 12 else if kindOk a.kind = false then 21 else accE a.name r
def memE : ByteArray → List Mem → Int
  | _, [] => 0
  | p, m :: r => if okN m.name = false then 10 else if le m.name p = true then 12 else if statOk m.status = false then 13 else if 16 < m.accs.length then 8 else if accE nil m.accs ≠ 0 then accE nil m.accs else memE m.name r
def checkE (l : List Mem) : Int := if 32 < l.length then 8 else memE nil l
theorem acc_name {p : ByteArray} {a : Ac} {r : List Ac} (h : okN a.name = false) : accE p (a :: r) = 10 := by simp [accE, h]
theorem acc_le {p : ByteArray} {a : Ac} {r : List Ac} (h : okN a.name = true) (h2 : le a.name p = true) : accE p (a :: r) = 12 := by simp [accE, h, h2]
theorem acc_kind {p : ByteArray} {a : Ac} {r : List Ac} (h : okN a.name = true) (h2 : le a.name p = false) (h3 : kindOk a.kind = false) : accE p (a :: r) = 21 := by simp [accE, h, h2, h3]
theorem acc_next {p : ByteArray} {a : Ac} {r : List Ac} (h : okN a.name = true) (h2 : le a.name p = false) (h3 : kindOk a.kind = true) : accE p (a :: r) = accE a.name r := by simp [accE, h, h2, h3]
theorem mem_name {p : ByteArray} {m : Mem} {r : List Mem} (h : okN m.name = false) : memE p (m :: r) = 10 := by simp [memE, h]
theorem mem_le {p : ByteArray} {m : Mem} {r : List Mem} (h : okN m.name = true) (h2 : le m.name p = true) : memE p (m :: r) = 12 := by simp [memE, h, h2]
theorem mem_stat {p : ByteArray} {m : Mem} {r : List Mem} (h : okN m.name = true) (h2 : le m.name p = false) (h3 : statOk m.status = false) : memE p (m :: r) = 13 := by simp [memE, h, h2, h3]
theorem mem_long {p : ByteArray} {m : Mem} {r : List Mem} (h : okN m.name = true) (h2 : le m.name p = false) (h3 : statOk m.status = true) (h4 : 16 < m.accs.length) : memE p (m :: r) = 8 := by simp [memE, h, h2, h3, h4]
theorem mem_accs {p : ByteArray} {m : Mem} {r : List Mem} (h : okN m.name = true) (h2 : le m.name p = false) (h3 : statOk m.status = true) (h4 : ¬ 16 < m.accs.length) (h5 : accE nil m.accs ≠ 0) : memE p (m :: r) = accE nil m.accs := by simp [memE, h, h2, h3, h4, h5]
theorem mem_next {p : ByteArray} {m : Mem} {r : List Mem} (h : okN m.name = true) (h2 : le m.name p = false) (h3 : statOk m.status = true) (h4 : ¬ 16 < m.accs.length) (h5 : accE nil m.accs = 0) : memE p (m :: r) = memE m.name r := by simp [memE, h, h2, h3, h4, h5]
theorem acc_ok {p : ByteArray} {a : Ac} {r : List Ac} (h : accE p (a :: r) = 0) : okN a.name = true ∧ le a.name p = false ∧ kindOk a.kind = true ∧ accE a.name r = 0 := by
  unfold accE at h
  split at h
  · omega
  split at h
  · omega
  split at h
  · omega
  · simp_all
theorem mem_ok {p : ByteArray} {m : Mem} {r : List Mem} (h : memE p (m :: r) = 0) : okN m.name = true ∧ le m.name p = false ∧ statOk m.status = true ∧ ¬ 16 < m.accs.length ∧ accE nil m.accs = 0 ∧ memE m.name r = 0 := by
  unfold memE at h
  split at h
  · omega
  split at h
  · omega
  split at h
  · omega
  split at h
  · omega
  split at h
  · omega
  · simp_all

/-- x ahead of the first that p says yes to, at the end if there is none -/
def ins {α : Type} (p : α → Bool) (x : α) : List α → List α
  | [] => [x]
  | a :: r => if p a = true then x :: a :: r else a :: ins p x r
theorem ins_len {α : Type} (p : α → Bool) (x : α) (l : List α) : (ins p x l).length = l.length + 1 := by
  induction l with
  | nil => rfl
  | cons a r ih => unfold ins; split <;> simp [ih]
theorem ins_mem {α : Type} (p : α → Bool) (x y : α) (l : List α) : y ∈ ins p x l ↔ y = x ∨ y ∈ l := by
  induction l with
  | nil => simp [ins]
  | cons a r ih =>
    unfold ins
    split
    · simp
    · simp only [List.mem_cons, ih]
      constructor
      · rintro (h | h | h)
        · exact .inr (.inl h)
        · exact .inl h
        · exact .inr (.inr h)
      · rintro (h | h | h)
        · exact .inr (.inl h)
        · exact .inl h
        · exact .inr (.inr h)
/-- where: the first that p says yes to, else the end -/
def at_ {α : Type} (p : α → Bool) (l : List α) : Nat := (l.findIdx? p).getD l.length
theorem at_le {α : Type} (p : α → Bool) (l : List α) : at_ p l ≤ l.length := by
  unfold at_
  cases h : l.findIdx? p with
  | none => simp
  | some i =>
    have := (List.findIdx?_eq_some_iff_getElem.1 h).1
    simp; omega
theorem ins_at {α : Type} (p : α → Bool) (x : α) (l : List α) : ins p x l = l.take (at_ p l) ++ x :: l.drop (at_ p l) := by
  induction l with
  | nil => simp [ins, at_]
  | cons a r ih =>
    unfold ins
    cases h : p a
    · have e : at_ p (a :: r) = at_ p r + 1 := by
        unfold at_
        rw [List.findIdx?_cons, h]
        cases r.findIdx? p <;> simp
      rw [e]
      simp [ih]
    · have e : at_ p (a :: r) = 0 := by
        unfold at_
        rw [List.findIdx?_cons, h]
        simp
      rw [e]
      simp
theorem find_some {α : Type} {p : α → Bool} {l : List α} {k : Nat} (hk : k < l.length) (hj : ∀ j (h : j < l.length), j < k → p l[j] = false) (h : p l[k] = true) : l.findIdx? p = some k := by
  rw [List.findIdx?_eq_some_iff_getElem]
  refine ⟨hk, h, fun j hji => ?_⟩
  rw [hj j (by omega) hji]; decide
theorem find_none {α : Type} {p : α → Bool} {l : List α} (h : ∀ j (h : j < l.length), p l[j] = false) : l.findIdx? p = none := by
  rw [List.findIdx?_eq_none_iff]
  intro x hx
  obtain ⟨j, hj, rfl⟩ := List.mem_iff_getElem.1 hx
  exact h j hj

def pl (l : List Mem) (n : ByteArray) : Option Nat := l.findIdx? (fun m => eq m.name n)
def pa (l : List Ac) (n : ByteArray) : Option Nat := l.findIdx? (fun a => eq a.name n)
theorem pl_some {l : List Mem} {n : ByteArray} {i : Nat} (h : pl l n = some i) : ∃ hi : i < l.length, l[i].name = n := by
  obtain ⟨h1, h2, _⟩ := List.findIdx?_eq_some_iff_getElem.1 h
  exact ⟨h1, eq_iff.1 h2⟩
theorem pa_some {l : List Ac} {n : ByteArray} {i : Nat} (h : pa l n = some i) : ∃ hi : i < l.length, l[i].name = n := by
  obtain ⟨h1, h2, _⟩ := List.findIdx?_eq_some_iff_getElem.1 h
  exact ⟨h1, eq_iff.1 h2⟩
theorem pl_none {l : List Mem} {n : ByteArray} (h : pl l n = none) : ∀ m ∈ l, eq m.name n = false := List.findIdx?_eq_none_iff.1 h
theorem pa_none {l : List Ac} {n : ByteArray} (h : pa l n = none) : ∀ a ∈ l, eq a.name n = false := List.findIdx?_eq_none_iff.1 h

def insM (n : ByteArray) (l : List Mem) : List Mem := ins (fun m => lt n m.name) ⟨n, 1, []⟩ l
def insA (a : Ac) (l : List Ac) : List Ac := ins (fun b => lt a.name b.name) a l
def addE (l : List Mem) (n : ByteArray) : Int :=
  if checkE l ≠ 0 then checkE l else if okN n = false then 10 else if (pl l n).isSome = true then 12 else if 32 ≤ l.length then 8 else 0
def addL (l : List Mem) (n : ByteArray) : List Mem := if addE l n = 0 then insM n l else []
def mAt (l : List Mem) (i : Nat) : Mem := l.getD i ⟨nil, 0, []⟩
theorem mAt_get {l : List Mem} {i : Nat} (h : i < l.length) : mAt l i = l[i] := by simp [mAt, List.getD, h]
/-- the error of one more account among a member's -/
def opE (l : List Ac) (n : ByteArray) (kind : Int) : Int :=
  if okN n = false then 10 else if kindOk kind = false then 21 else if (pa l n).isSome = true then 12 else if 16 ≤ l.length then 8 else 0
def openE (l : List Mem) (n a : ByteArray) (kind : Int) : Int :=
  if checkE l ≠ 0 then checkE l else match pl l n with
    | none => 20
    | some i => if (mAt l i).status ≠ 1 then 20 else opE (mAt l i).accs a kind
def openL (l : List Mem) (n a : ByteArray) (kind : Int) : List Mem :=
  if openE l n a kind = 0 then match pl l n with
    | none => []
    | some i => l.set i { mAt l i with accs := insA ⟨a, kind⟩ (mAt l i).accs }
  else []
def leads (f t : Int) : Bool := if f = 1 then (t == 2 || t == 3 || t == 4) else if f = 2 then (t == 1 || t == 3) else false
def statE (l : List Mem) (n : ByteArray) (s : Int) : Int :=
  if checkE l ≠ 0 then checkE l else match pl l n with
    | none => 20
    | some i => if leads (mAt l i).status s = true then 0 else 13
def statL (l : List Mem) (n : ByteArray) (s : Int) : List Mem :=
  if statE l n s = 0 then match pl l n with
    | none => []
    | some i => l.set i { mAt l i with status := s }
  else []
def allows (s act : Int) : Bool := if s = 1 then true else if s = 2 then (act != 1 && act != 3) else if s = 3 then (decide (4 ≤ act) && decide (act ≤ 8)) else false
def mayE (l : List Mem) (n a : ByteArray) (act : Int) : Int :=
  match pl l n with
    | none => 20
    | some i => match pa (mAt l i).accs a with
      | none => 21
      | some _ => if allows (mAt l i).status act = true then 0 else 13
def accsL (l : List Mem) : List (ByteArray × ByteArray) := l.flatMap fun m => m.accs.map fun a => (m.name, a.name)

theorem acc_asc : ∀ {p : ByteArray} {l : List Ac}, accE p l = 0 → (∀ a ∈ l, lt p a.name = true) ∧ l.Pairwise (fun a b => lt a.name b.name = true) := by
  intro p l
  induction l generalizing p with
  | nil => intro _; simp
  | cons a r ih =>
    intro h
    obtain ⟨_, h2, _, h4⟩ := acc_ok h
    obtain ⟨g1, g2⟩ := ih h4
    have hp := lt_of_le h2
    refine ⟨?_, List.pairwise_cons.2 ⟨g1, g2⟩⟩
    intro b hb
    rcases List.mem_cons.1 hb with rfl | hb
    · exact hp
    · exact lt_trans hp (g1 b hb)
theorem mem_asc : ∀ {p : ByteArray} {l : List Mem}, memE p l = 0 → (∀ a ∈ l, lt p a.name = true) ∧ l.Pairwise (fun a b => lt a.name b.name = true) := by
  intro p l
  induction l generalizing p with
  | nil => intro _; simp
  | cons a r ih =>
    intro h
    obtain ⟨_, h2, _, _, _, h4⟩ := mem_ok h
    obtain ⟨g1, g2⟩ := ih h4
    have hp := lt_of_le h2
    refine ⟨?_, List.pairwise_cons.2 ⟨g1, g2⟩⟩
    intro b hb
    rcases List.mem_cons.1 hb with rfl | hb
    · exact hp
    · exact lt_trans hp (g1 b hb)
/-- in a list that may be, a member is found by its name -/
theorem find_mem {p : ByteArray} {l : List Mem} (h : memE p l = 0) {m : Mem} (hm : m ∈ l) : ∃ i, pl l m.name = some i ∧ ∃ hi : i < l.length, l[i] = m := by
  obtain ⟨i, hi, rfl⟩ := List.mem_iff_getElem.1 hm
  refine ⟨i, find_some hi ?_ (eq_iff.2 rfl), hi, rfl⟩
  intro j hj hji
  exact (lt_ne (List.pairwise_iff_getElem.1 (mem_asc h).2 j i hj hi hji)).1
theorem acc_ins {a : Ac} : ∀ {p : ByteArray} {l : List Ac}, accE p l = 0 → okN a.name = true → le a.name p = false → kindOk a.kind = true → (∀ b ∈ l, eq b.name a.name = false) → accE p (insA a l) = 0 := by
  intro p l
  induction l generalizing p with
  | nil => intro _ h1 h2 h3 _; exact acc_next h1 h2 h3
  | cons b r ih =>
    intro h h1 h2 h3 h4
    obtain ⟨g1, g2, g3, g4⟩ := acc_ok h
    unfold insA ins
    cases e : lt a.name b.name
    · rw [if_neg (by simp), acc_next g1 g2 g3]
      refine ih g4 h1 ?_ h3 (fun c hc => h4 c (List.mem_cons_of_mem _ hc))
      apply le_of_lt
      rcases lt_tri a.name b.name with g | g | g
      · rw [e] at g; cases g
      · have := h4 b (by simp)
        rw [← g] at this
        exact absurd rfl (eq_false.1 this)
      · exact g
    · rw [if_pos rfl, acc_next h1 h2 h3, acc_next g1 (le_of_lt e) g3]
      exact g4
theorem mem_ins {n : ByteArray} : ∀ {p : ByteArray} {l : List Mem}, memE p l = 0 → okN n = true → le n p = false → (∀ b ∈ l, eq b.name n = false) → memE p (insM n l) = 0 := by
  intro p l
  induction l generalizing p with
  | nil => intro _ h1 h2 _; exact mem_next (m := ⟨n, 1, []⟩) h1 h2 rfl (by simp) rfl
  | cons b r ih =>
    intro h h1 h2 h4
    obtain ⟨g1, g2, g3, g4, g5, g6⟩ := mem_ok h
    unfold insM ins
    cases e : lt n b.name
    · rw [if_neg (by simp), mem_next g1 g2 g3 g4 g5]
      refine ih g6 h1 ?_ (fun c hc => h4 c (List.mem_cons_of_mem _ hc))
      apply le_of_lt
      rcases lt_tri n b.name with g | g | g
      · rw [e] at g; cases g
      · have := h4 b (by simp)
        rw [← g] at this
        exact absurd rfl (eq_false.1 this)
      · exact g
    · rw [if_pos rfl, mem_next (m := ⟨n, 1, []⟩) h1 h2 rfl (by simp) rfl, mem_next g1 (le_of_lt e) g3 g4 g5]
      exact g6
theorem mem_set {m' : Mem} : ∀ {p : ByteArray} {l : List Mem} {i : Nat} (hi : i < l.length), memE p l = 0 → m'.name = l[i].name → statOk m'.status = true → ¬ 16 < m'.accs.length → accE nil m'.accs = 0 → memE p (l.set i m') = 0 := by
  intro p l
  induction l generalizing p with
  | nil => intro i hi; simp at hi
  | cons b r ih =>
    intro i hi h hn h1 h2 h3
    obtain ⟨g1, g2, g3, g4, g5, g6⟩ := mem_ok h
    cases i with
    | zero =>
      simp only [List.getElem_cons_zero] at hn
      rw [List.set_cons_zero, mem_next (by rw [hn]; exact g1) (by rw [hn]; exact g2) h1 h2 h3, hn]
      exact g6
    | succ i =>
      rw [List.set_cons_succ, mem_next g1 g2 g3 g4 g5]
      exact ih (i := i) (by simpa using hi) g6 (by simpa using hn) h1 h2 h3
theorem mem_at : ∀ {p : ByteArray} {l : List Mem} {i : Nat} (hi : i < l.length), memE p l = 0 → okN l[i].name = true ∧ statOk l[i].status = true ∧ ¬ 16 < l[i].accs.length ∧ accE nil l[i].accs = 0 := by
  intro p l
  induction l generalizing p with
  | nil => intro i hi; simp at hi
  | cons b r ih =>
    intro i hi h
    obtain ⟨g1, g2, g3, g4, g5, g6⟩ := mem_ok h
    cases i with
    | zero => exact ⟨g1, g3, g4, g5⟩
    | succ i => exact ih (i := i) (by simpa using hi) g6
theorem check_mem {l : List Mem} (h : checkE l = 0) : l.length ≤ 32 ∧ memE nil l = 0 := by
  unfold checkE at h
  split at h
  · omega
  · exact ⟨by omega, h⟩
theorem mem_check {l : List Mem} (h1 : l.length ≤ 32) (h : memE nil l = 0) : checkE l = 0 := by
  unfold checkE
  rw [if_neg (by omega)]; exact h
theorem add_ok {l : List Mem} {n : ByteArray} (h : addE l n = 0) : checkE l = 0 ∧ okN n = true ∧ pl l n = none ∧ l.length < 32 := by
  unfold addE at h
  split at h
  · omega
  split at h
  · omega
  split at h
  · omega
  split at h
  · omega
  · simp_all
theorem add_check {l : List Mem} {n : ByteArray} (h : addE l n = 0) : checkE (addL l n) = 0 := by
  obtain ⟨h1, h2, h3, h4⟩ := add_ok h
  unfold addL
  rw [if_pos h]
  refine mem_check (by unfold insM; rw [ins_len]; omega) (mem_ins (check_mem h1).2 h2 (ok_le h2) (pl_none h3))
theorem op_ok {l : List Ac} {n : ByteArray} {k : Int} (h : opE l n k = 0) : okN n = true ∧ kindOk k = true ∧ pa l n = none ∧ l.length < 16 := by
  unfold opE at h
  split at h
  · omega
  split at h
  · omega
  split at h
  · omega
  split at h
  · omega
  · simp_all
theorem open_ok {l : List Mem} {n a : ByteArray} {k : Int} (h : openE l n a k = 0) : checkE l = 0 ∧ ∃ i, pl l n = some i ∧ i < l.length ∧ (mAt l i).status = 1 ∧ opE (mAt l i).accs a k = 0 := by
  unfold openE at h
  split at h
  · omega
  rename_i hc
  split at h
  · omega
  rename_i i hi
  split at h
  · omega
  · exact ⟨by simpa using hc, i, hi, (pl_some hi).1, by simp_all, h⟩
theorem open_list {l : List Mem} {n a : ByteArray} {k : Int} {i : Nat} (h : openE l n a k = 0) (hi : pl l n = some i) : openL l n a k = l.set i { mAt l i with accs := insA ⟨a, k⟩ (mAt l i).accs } := by
  unfold openL
  rw [if_pos h, hi]
theorem open_check {l : List Mem} {n a : ByteArray} {k : Int} (h : openE l n a k = 0) : checkE (openL l n a k) = 0 := by
  obtain ⟨h1, i, h2, h3, h4, h5⟩ := open_ok h
  obtain ⟨h6, h7, h8, h9⟩ := op_ok h5
  obtain ⟨c1, c2⟩ := check_mem h1
  obtain ⟨m1, m2, m3, m4⟩ := mem_at h3 c2
  rw [open_list h h2]
  rw [mAt_get h3] at *
  exact mem_check (by simpa using c1) (mem_set h3 c2 rfl m2 (by show ¬ 16 < (insA _ _).length; unfold insA; rw [ins_len]; omega) (acc_ins m4 h6 (ok_le h6) h7 (pa_none h8)))
theorem stat_ok {l : List Mem} {n : ByteArray} {s : Int} (h : statE l n s = 0) : checkE l = 0 ∧ ∃ i, pl l n = some i ∧ i < l.length ∧ leads (mAt l i).status s = true := by
  unfold statE at h
  split at h
  · omega
  rename_i hc
  split at h
  · omega
  rename_i i hi
  split at h
  · rename_i hl
    exact ⟨by simpa using hc, i, hi, (pl_some hi).1, hl⟩
  · omega
theorem stat_list {l : List Mem} {n : ByteArray} {s : Int} {i : Nat} (h : statE l n s = 0) (hi : pl l n = some i) : statL l n s = l.set i { mAt l i with status := s } := by
  unfold statL
  rw [if_pos h, hi]
theorem leads_ok {f t : Int} (h : leads f t = true) : statOk t = true ∧ f < 3 := by
  unfold leads at h
  split at h
  · simp only [Bool.or_eq_true, beq_iff_eq] at h
    unfold statOk
    simp only [Bool.and_eq_true, decide_eq_true_eq]
    omega
  split at h
  · simp only [Bool.or_eq_true, beq_iff_eq] at h
    unfold statOk
    simp only [Bool.and_eq_true, decide_eq_true_eq]
    omega
  · cases h
theorem stat_check {l : List Mem} {n : ByteArray} {s : Int} (h : statE l n s = 0) : checkE (statL l n s) = 0 := by
  obtain ⟨h1, i, h2, h3, h4⟩ := stat_ok h
  obtain ⟨c1, c2⟩ := check_mem h1
  obtain ⟨m1, m2, m3, m4⟩ := mem_at h3 c2
  rw [stat_list h h2]
  rw [mAt_get h3] at *
  exact mem_check (by simpa using c1) (mem_set h3 c2 rfl (leads_ok h4).1 m3 m4)
/-- what a turn makes of a list, and what stays -/
def Kept (l l' : List Mem) (n : ByteArray) : Prop := checkE l' = 0 ∧ ∀ k (hk : k < l.length), ∃ i, pl l' l[k].name = some i ∧ ∃ hi : i < l'.length, (l'[i] = l[k] ∨ (l[k].name = n ∧ (3 ≤ l[k].status → l'[i].status = l[k].status) ∧ l[k].accs.length ≤ l'[i].accs.length))
theorem kept_add {l : List Mem} {n : ByteArray} (h : addE l n = 0) : Kept l (addL l n) n := by
  have hc := add_check h
  refine ⟨hc, fun k hk => ?_⟩
  have hm : l[k] ∈ addL l n := by
    unfold addL; rw [if_pos h]
    exact (ins_mem _ _ _ _).2 (.inr (List.getElem_mem hk))
  obtain ⟨i, h1, hi, h2⟩ := find_mem (check_mem hc).2 hm
  exact ⟨i, h1, hi, .inl h2⟩
theorem kept_set {l : List Mem} {n : ByteArray} {i : Nat} {m' : Mem} (hi : i < l.length) (hp : pl l n = some i) (hn : m'.name = l[i].name) (hs : 3 ≤ l[i].status → m'.status = l[i].status) (ha : l[i].accs.length ≤ m'.accs.length) (hc : checkE (l.set i m') = 0) : Kept l (l.set i m') n := by
  refine ⟨hc, fun k hk => ?_⟩
  by_cases e : k = i
  · subst e
    have hm : m' ∈ l.set k m' := List.mem_iff_getElem.2 ⟨k, by simpa using hk, by simp⟩
    obtain ⟨i', h1, hi', h2⟩ := find_mem (check_mem hc).2 hm
    rw [hn] at h1
    exact ⟨i', h1, hi', .inr ⟨(pl_some hp).2, by rw [h2]; exact hs, by rw [h2]; exact ha⟩⟩
  · have hm : l[k] ∈ l.set i m' := List.mem_iff_getElem.2 ⟨k, by simpa using hk, by rw [List.getElem_set]; rw [if_neg (fun h => e h.symm)]⟩
    obtain ⟨i', h1, hi', h2⟩ := find_mem (check_mem hc).2 hm
    exact ⟨i', h1, hi', .inl h2⟩
theorem kept_open {l : List Mem} {n a : ByteArray} {k : Int} (h : openE l n a k = 0) : Kept l (openL l n a k) n := by
  have hc := open_check h
  obtain ⟨h1, i, h2, h3, h4, h5⟩ := open_ok h
  rw [open_list h h2] at hc ⊢
  rw [mAt_get h3] at *
  exact kept_set h3 h2 rfl (fun _ => rfl) (by show _ ≤ (insA _ _).length; unfold insA; rw [ins_len]; omega) hc
theorem kept_stat {l : List Mem} {n : ByteArray} {s : Int} (h : statE l n s = 0) : Kept l (statL l n s) n := by
  have hc := stat_check h
  obtain ⟨h1, i, h2, h3, h4⟩ := stat_ok h
  rw [stat_list h h2] at hc ⊢
  rw [mAt_get h3] at *
  exact kept_set h3 h2 rfl (fun g => by have := (leads_ok h4).2; omega) (Nat.le_refl _) hc
end MM
namespace MM
theorem mem_one (p : ByteArray) (m : Mem) (r : List Mem) : memE p (m :: r) = if memE p [m] ≠ 0 then memE p [m] else memE m.name r := by
  by_cases h1 : okN m.name = false
  · rw [mem_name h1, mem_name h1]; rfl
  have h1' : okN m.name = true := by simpa using h1
  by_cases h2 : le m.name p = true
  · rw [mem_le h1' h2, mem_le h1' h2]; rfl
  have h2' : le m.name p = false := by simpa using h2
  by_cases h3 : statOk m.status = false
  · rw [mem_stat h1' h2' h3, mem_stat h1' h2' h3]; rfl
  have h3' : statOk m.status = true := by simpa using h3
  by_cases h4 : 16 < m.accs.length
  · rw [mem_long h1' h2' h3' h4, mem_long h1' h2' h3' h4]; rfl
  by_cases h5 : accE nil m.accs = 0
  · rw [mem_next h1' h2' h3' h4 h5, mem_next h1' h2' h3' h4 h5]; rfl
  · rw [mem_accs h1' h2' h3' h4 h5, mem_accs h1' h2' h3' h4 h5, if_pos h5]
theorem one_accs {p : ByteArray} {m : Mem} (h : okN m.name = true) (h2 : le m.name p = false) (h3 : statOk m.status = true) (h4 : ¬ 16 < m.accs.length) : memE p [m] = accE nil m.accs := by
  by_cases h5 : accE nil m.accs = 0
  · rw [mem_next h h2 h3 h4 h5, h5]; rfl
  · rw [mem_accs h h2 h3 h4 h5]
end MM

/- Layer 12's mathematics: lists of trades. -/
namespace TM
structure Trd where
  id : Int
  day : Int
  time : Int
  ser : EM.Ser
  qty : Int
  price : Int
  bm : ByteArray
  bn : ByteArray
  sm : ByteArray
  sn : ByteArray
def zero : Trd := ⟨0, 0, 0, EM.zero, 0, 0, MM.nil, MM.nil, MM.nil, MM.nil⟩
def tAt (l : List Trd) (k : Nat) : Trd := l.getD k zero
theorem tAt_get {l : List Trd} {k : Nat} (h : k < l.length) : tAt l k = l[k] := by simp [tAt, List.getD, h]
def pt (l : List Trd) (id : Int) : Option Nat := l.findIdx? (fun t => t.id == id)
theorem pt_some {l : List Trd} {id : Int} {i : Nat} (h : pt l id = some i) : ∃ hi : i < l.length, l[i].id = id := by
  obtain ⟨h1, h2, _⟩ := List.findIdx?_eq_some_iff_getElem.1 h
  exact ⟨h1, by simpa using h2⟩
theorem pt_none {l : List Trd} {id : Int} (h : pt l id = none) : ∀ t ∈ l, (t.id == id) = false := List.findIdx?_eq_none_iff.1 h
def insT (t : Trd) (l : List Trd) : List Trd := MM.ins (fun o => decide (t.id < o.id)) t l
def addE (l : List Trd) (t : Trd) : Int := if 1024 ≤ l.length then 8 else if (pt l t.id).isSome = true then 12 else 0
def addL (l : List Trd) (t : Trd) : List Trd := if addE l t = 0 then insT t l else []
def bustE (l : List Trd) (id : Int) : Int := if (pt l id).isSome = true then 0 else 22
def bustL (l : List Trd) (id : Int) : List Trd := match pt l id with
  | none => []
  | some i => l.take i ++ l.drop (i + 1)
def findT (l : List Trd) (id : Int) : Trd := match pt l id with
  | none => zero
  | some i => tAt l i
theorem add_ok {l : List Trd} {t : Trd} (h : addE l t = 0) : l.length < 1024 ∧ pt l t.id = none := by
  unfold addE at h
  split at h
  · omega
  split at h
  · omega
  · simp_all
/-- where a trade was put it is found, and busting it gives the list back -/
theorem add_back {l : List Trd} {t : Trd} (h : addE l t = 0) : findT (addL l t) t.id = t ∧ (pt (addL l t) t.id).isSome = true ∧ bustL (addL l t) t.id = l ∧ (addL l t).length = l.length + 1 := by
  obtain ⟨_, h2⟩ := add_ok h
  have e : addL l t = insT t l := by unfold addL; rw [if_pos h]
  have hat := MM.at_le (fun o : Trd => decide (t.id < o.id)) l
  have ei : insT t l = l.take (MM.at_ (fun o => decide (t.id < o.id)) l) ++ t :: l.drop (MM.at_ (fun o => decide (t.id < o.id)) l) := MM.ins_at _ _ _
  have hlen : (insT t l).length = l.length + 1 := MM.ins_len _ _ _
  rw [e]
  generalize MM.at_ (fun o : Trd => decide (t.id < o.id)) l = i at *
  have ht : (l.take i).length = i := by rw [List.length_take]; omega
  have hg : ∀ hi : i < (insT t l).length, (insT t l)[i] = t := by
    intro hi
    simp only [ei]
    rw [List.getElem_append_right (by omega)]
    simp [ht]
  have hp : pt (insT t l) t.id = some i := by
    refine MM.find_some (by omega) ?_ (by rw [hg]; simp)
    intro j hj hji
    have : (insT t l)[j] = l[j]'(by omega) := by
      simp only [ei]
      rw [List.getElem_append_left (by omega)]
      simp
    rw [this]
    exact pt_none h2 _ (List.getElem_mem _)
  refine ⟨?_, by rw [hp]; rfl, ?_, hlen⟩
  · unfold findT
    rw [hp]
    show tAt _ i = t
    rw [tAt_get (by omega)]
    exact hg _
  · unfold bustL
    rw [hp]
    show (insT t l).take i ++ (insT t l).drop (i + 1) = l
    rw [ei, List.take_append, List.drop_append, ht]
    simp [List.take_take, List.drop_eq_nil_of_le, ht]
def isAcc (m n : ByteArray) (t : Trd) : Bool := (MM.eq t.bm m && MM.eq t.bn n) || (MM.eq t.sm m && MM.eq t.sn n)
def ofL (l : List Trd) (m n : ByteArray) : List Trd := l.filter (isAcc m n)
def sameS (x y : EM.Ser) : Bool := (x.prod.toList == y.prod.toList) && ((x.kind == y.kind) && ((x.expiry == y.expiry) && (x.strike == y.strike)))
def lotOf (s : EM.Ser) (t : Trd) : Int := if (sameS t.ser s && (decide (1 ≤ t.qty) && decide (t.qty ≤ 1048576))) = true then t.qty else 0
def vol (s : EM.Ser) : List Trd → Int
  | [] => 0
  | t :: r => lotOf s t + vol s r
def volume (l : List Trd) (s : EM.Ser) : Int := vol s (l.take 1024)
theorem lot_range (s : EM.Ser) (t : Trd) : 0 ≤ lotOf s t ∧ lotOf s t ≤ 1048576 := by
  unfold lotOf
  split
  · next h =>
    simp only [Bool.and_eq_true, decide_eq_true_eq] at h
    omega
  · omega
theorem vol_range (s : EM.Ser) (l : List Trd) : 0 ≤ vol s l ∧ vol s l ≤ 1048576 * l.length := by
  induction l with
  | nil => simp [vol]
  | cons t r ih =>
    have := lot_range s t
    unfold vol
    rw [List.length_cons]
    omega
theorem vol_snoc (s : EM.Ser) (l : List Trd) (t : Trd) : vol s (l ++ [t]) = vol s l + lotOf s t := by
  induction l with
  | nil => simp [vol]
  | cons a r ih => simp only [List.cons_append, vol, ih]; omega
end TM
