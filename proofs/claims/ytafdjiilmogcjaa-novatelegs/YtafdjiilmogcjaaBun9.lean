/- Put together: MapEnt, NovG0, NovG, NovH, WNovateLegs, SizedRec. -/
import Derived.Maps.OwnOps
import Derived.Maps.RangeWalk
import Derived.DeepKeys4
import Derived.WideKeyEntry
import Derived.Test.YtafdjiilmogcjaaBun5
import Derived.WalkArith
import Derived.Deep.RegionHeld3
import Derived.IntWalk
import Derived.Test.YtafdjiilmogcjaaBun6
import Derived.Test.YtafdjiilmogcjaaBun8
import Derived.Test.YtafdjiilmogcjaaBun1
import Derived.SizedLaws
import Derived.ProofKit
/- Maps keyed by records: what 'm[k] += v' does, a look-up of a bool; over any program. -/
namespace Go.Recs
open Go.Maps Go.MapKept
open Go.ChangeMaps (setBlock heap_setBlock_same heap_setBlock_other)
open Go.WideElems (Fit)
set_option linter.unusedVariables false
section
variable {H : Type} {P : Program} {w : World} {t k e : TypeId} {q : IntKind} {b n : Nat} {D : DataW H}
/-- a look-up among entries of which one has the key -/
theorem look_hit (K : WideMaps.KeyLaw P k) (ht : P.underlying t = some (.map k e)) {es : Array MapEntry} {clock : Nat} (hb : w.heap[b]? = some (.map es clock)) (hk : ∀ x ∈ es.toList, ∃ l, keyOf P k x.key = some l)
    {key : Value} {kl : Lit} (hkey : keyOf P k key = some kl) {v : Value} (hv : ∀ x ∈ es.toList, x.key = key → x.val = v) (hx : ∃ x ∈ es.toList, x.key = key) :
    (Instr.lookup t (.map (some b)) key false).run P w = .ok v w := by
  rcases K.find w hkey es.toList hk with ⟨_, h2⟩ | ⟨j, e0, h1, h2, h3⟩
  · obtain ⟨x, hx1, hx2⟩ := hx
    exact absurd hx2 (h2 x hx1)
  · have := hv e0 (List.mem_of_getElem? h2) h3
    simp [Instr.lookup, run_underlying ht, MapKept.run_getObj_map hb, K.check w _ hkey, h1, Result.andThen, this]

theorem set_twice (w : World) (b : Nat) (o o' : Obj) : setBlock (setBlock w b o) b o' = setBlock w b o' := by simp [setBlock]

/-- 'm[k] += ..': the entry is laid or found, read before or after, and the sum stored -/
theorem ownsMap_entry (K : WideMaps.KeyLaw P k) (ht : P.underlying t = some (.map k e)) (he : P.underlying e = some (.int q)) (hz : ∀ u : World, (zeroValue e).run P u = .ok (.int q 0) u)
    (h : w.ownsMap P k (plainElem P e) b n D) (hn : n < maxLen) {key : Value} {kl : Lit} (hkey : keyOf P k key = some kl) :
    ∃ (c : Int) (st : Nat) (w1 : World), D.atKey kl (.lit (.int q 0)) = .lit (.int q c) ∧ (Lit.int q c).wf = true ∧
      (Instr.lookup t (.map (some b)) key false).run P w = .ok (.int q c) w ∧ (Instr.lookup t (.map (some b)) key false).run P w1 = .ok (.int q c) w1 ∧
      (Instr.mapEntry t (.map (some b)) key).run P w = .ok (.tuple #[.int q c, .int .i64 st]) w1 ∧ w.grownBy w1 (some b) ∧
      ∀ x : Int, (Lit.int q x).wf = true → ∃ w2, (Instr.entryStore t (.map (some b)) (.int .i64 st) (.int q x)).run P w1 = .ok () w2 ∧ w2.ownsMap P k (plainElem P e) b (n + 1) (D.put kl (.lit (.int q x))) ∧ w.grownBy w2 (some b) := by
  obtain ⟨c, hrun, hat, hwc⟩ := h.lookup_int (Keyed.of_law K) ht he (hz w) hkey
  have hup : ∀ x : Int, (Lit.int q x).wf = true → ∃ w', (Instr.mapUpdate t (.map (some b)) key (.int q x)).run P w = .ok () w' ∧ w'.ownsMap P k (plainElem P e) b (n + 1) (D.put kl (.lit (.int q x))) ∧ w.grownBy w' (some b) :=
    fun x hx => h.update (Keyed.of_law K) ht hn hkey (plainElem_int he hx)
  obtain ⟨es, clock, hb, F, hs, rfl⟩ := h
  obtain ⟨v0, st, es1, clock1, hE, hv0, hS⟩ := Go.WideElems.entry_then_store K ht hz hb F hkey
  have hb1 := heap_setBlock_same hb (.map es1 clock1)
  have hshape : v0 = .int q c ∧ (∀ x ∈ es1.toList, ∃ l, keyOf P k x.key = some l) ∧ (∀ x ∈ es1.toList, x.key = key → x.val = .int q c) ∧ ∃ x ∈ es1.toList, x.key = key := by
    rcases K.find w hkey es.toList F.keys with ⟨h1, h2⟩ | ⟨j, e0, h1, h2, h3⟩
    · have hl : (Instr.lookup t (.map (some b)) key false).run P w = .ok (.int q 0) w := by
        simp [Instr.lookup, run_underlying ht, MapKept.run_getObj_map hb, K.check w _ hkey, h1, hz, Result.andThen]
      have hc : c = 0 := by
        rw [hrun] at hl
        injection hl with e1 _
        injection e1
      subst hc
      have hE2 : (Instr.mapEntry t (.map (some b)) key).run P w = .ok (.tuple #[.int q 0, goInt clock]) (setBlock w b (.map (es.push ⟨key, .int q 0, clock⟩) (clock + 1))) := by
        simp [Instr.mapEntry, run_underlying ht, MapKept.run_getObj_map hb, K.check w false hkey, h1, hz, MapKept.run_setObj_map _ hb, Result.andThen, setBlock]
      rw [hE] at hE2
      injection hE2 with e1 e2
      have e3 : es1 = es.push ⟨key, .int q 0, clock⟩ := by
        have h4 := heap_setBlock_same hb (.map (es.push ⟨key, .int q 0, clock⟩) (clock + 1))
        rw [← e2, hb1] at h4
        injection h4 with h5
        injection h5
      have e4 : v0 = .int q 0 := by
        injection e1 with e5
        have := congrArg (fun a : Array Value => a[0]?) e5
        simpa using this
      subst e3
      refine ⟨e4, ?_, ?_, ⟨_, by simp; exact .inr rfl, rfl⟩⟩
      · intro x hx
        simp only [Array.toList_push, List.mem_append, List.mem_singleton] at hx
        rcases hx with hx | rfl
        · exact F.keys x hx
        · exact ⟨kl, hkey⟩
      · intro x hx hxk
        simp only [Array.toList_push, List.mem_append, List.mem_singleton] at hx
        rcases hx with hx | rfl
        · exact absurd hxk (h2 x hx)
        · rfl
    · have hj : es[j]? = some e0 := by simpa using h2
      have hl : (Instr.lookup t (.map (some b)) key false).run P w = .ok e0.val w := by
        simp [Instr.lookup, run_underlying ht, MapKept.run_getObj_map hb, K.check w _ hkey, h1, Result.andThen]
      have hc : e0.val = .int q c := by
        rw [hrun] at hl
        injection hl with e1 _
        exact e1.symm
      have hE2 : (Instr.mapEntry t (.map (some b)) key).run P w = .ok (.tuple #[e0.val, goInt e0.born]) (setBlock w b (.map (es.modify j fun e' => { e' with key := key }) clock)) := by
        simp [Instr.mapEntry, run_underlying ht, MapKept.run_getObj_map hb, K.check w false hkey, h1, hj, h3, K.stays w hkey, MapKept.run_setObj_map _ hb, Result.andThen, setBlock]
      rw [hE] at hE2
      injection hE2 with e1 e2
      have e3 : es1 = es.modify j fun e' => { e' with key := key } := by
        have h4 := heap_setBlock_same hb (.map (es.modify j fun e' => { e' with key := key }) clock)
        rw [← e2, hb1] at h4
        injection h4 with h5
        injection h5
      have hsame : es1 = es := by
        rw [e3]
        apply Array.ext'
        rw [Array.toList_modify]
        have : ∀ (l : List MapEntry) (i : Nat), l[i]? = some e0 → l.modify i (fun e' => { e' with key := key }) = l := by
          intro l
          induction l with
          | nil => intro i hi; simp at hi
          | cons a l ih =>
            intro i hi
            cases i with
            | zero =>
              simp at hi
              subst hi
              simp [← h3]
            | succ i => simp at hi; simp [ih i hi]
        exact this es.toList j h2
      have e4 : v0 = .int q c := by
        injection e1 with e5
        have := congrArg (fun a : Array Value => a[0]?) e5
        simp at this
        rw [this, hc]
      subst hsame
      have hm0 : e0 ∈ es1.toList := List.mem_of_getElem? h2
      refine ⟨e4, F.keys, ?_, ⟨e0, hm0, h3⟩⟩
      intro x hx hxk
      have hn := ((stamped_iff es1 clock).1 F.stamped).2.2
      have hxe : x = e0 := Go.entry_eq_of_key hn hx hm0 (hxk.trans h3.symm)
      rw [hxe, hc]
  obtain ⟨rfl, hk1, hv1, hx1⟩ := hshape
  refine ⟨c, st, setBlock w b (.map es1 clock1), hat, hwc, hrun, look_hit K ht hb1 hk1 hkey hv1 hx1, hE, ⟨rfl, rfl, rfl, by simp [setBlock], fun i _ hi => heap_setBlock_other hb _ (fun e => hi (by rw [e]))⟩, fun x hx => ?_⟩
  obtain ⟨es', clock', hst, hmu⟩ := hS (setBlock w b (.map es1 clock1)) (.int q x) hb1
  obtain ⟨w2, hu, hown, hg⟩ := hup x hx
  rw [hmu] at hu
  injection hu with _ hw2
  subst hw2
  rw [set_twice] at hst
  exact ⟨_, hst, hown, hg⟩
end
/-! what a record reads as, as a map's key -/
section
variable {P : Program} {t k : TypeId} {fs : Array Field}
theorem klits_str (h : P.underlying t = some .string) (d : Nat) (s : ByteArray) (hs : s.size ≤ maxLen) : P.keyLits (d + 1) t [.string s] = some [.string s.data.toList] := by simp [Program.keyLits, h, hs]
theorem klits_int {q : IntKind} (h : P.underlying t = some (.int q)) (d : Nat) (n : Int) (hn : (Lit.int q n).wf = true) : P.keyLits (d + 1) t [.int q n] = some [.int q n] := by simp [Program.keyLits, h, hn]
theorem klits_struct (h : P.underlying t = some (.struct fs)) (d : Nat) (cs : List Value) (hc : cs.length = P.cellsOf t ∧ fs.all (·.name != "_") = true) : P.keyLits (d + 1) t cs = (fs.toList.mapM fun f => P.keyLits d f.type ((cs.drop f.offset).take (P.cellsOf f.type))).map List.flatten := by
  conv => lhs; unfold Program.keyLits
  simp only [h]
  split
  · rfl
  · exact absurd hc (by assumption)
theorem kof_struct (h : P.underlying k = some (.struct fs)) (kt : P.keyType k = true) {xs : Array Value} (hx : xs.size = P.cellsOf k) {d : Nat} (hd : P.types.size + 1 = d) {ls : List Lit} (hl : P.keyLits d k xs.toList = some ls) :
    keyOf P k (.agg xs) = some (.string (keyBytes ls)) := by
  subst hd
  simp [keyOf, h, kt, Value.formed, hx, Value.cells, hl]
end
end Go.Recs

/- A series as a map's key. -/
namespace Go.Proofs.Ytafdjiilmogcjaa
open Go.RowKit Go.Recs Go.Maps
set_option linter.unusedVariables false
set_option linter.unusedSimpArgs false
theorem laid_ok : laidOutB Try.prog = true := by kernel_rfl
theorem ser_row_lt : (43 : TypeId) < Try.prog.types.size := of_decide_eq_true (by kernel_rfl)
theorem ser_keyTy : Try.prog.keyTypeAt 2 43 = true := by kernel_rfl
theorem ser_law : WideMaps.KeyLaw Try.prog 43 := deep_law_laid laid_ok (m := 2) (by omega) ser_row_lt ser_keyTy (by rw [Try.underlying43])
theorem ser_keyType : Try.prog.keyType 43 = true := by kernel_rfl
theorem ser_cells : 4 = Try.prog.cellsOf 43 := by kernel_rfl
theorem str_cells : Try.prog.cellsOf 9 = 1 := by kernel_rfl
theorem int_cells : Try.prog.cellsOf 3 = 1 := by kernel_rfl
theorem types_two : ∃ m, Try.prog.types.size + 1 = m + 1 + 1 := by
  have h : 0 < Try.prog.types.size := of_decide_eq_true (by kernel_rfl)
  generalize Try.prog.types.size = n at *
  exact ⟨n - 1, by omega⟩
theorem ser_key (s : EM.Ser) (h : serQ s) : ∃ kl, keyOf Try.prog 43 (serA s) = some kl := by
  obtain ⟨m, hm⟩ := types_two
  obtain ⟨h1, ⟨k1, k2⟩, ⟨e1, e2⟩, x1, x2⟩ := h
  have q0 := klits_str Try.underlying9 m s.prod h1
  have q1 := klits_int Try.underlying3 m s.kind (WalkArith.wf_i64 ⟨k1, k2⟩)
  have q2 := klits_int Try.underlying3 m s.expiry (WalkArith.wf_i64 ⟨e1, e2⟩)
  have q3 := klits_int Try.underlying3 m s.strike (WalkArith.wf_i64 ⟨x1, x2⟩)
  have c9 := str_cells
  have c3 := int_cells
  have hl := klits_struct Try.underlying43 (m + 1) [.string s.prod, .int .i64 s.kind, .int .i64 s.expiry, .int .i64 s.strike] ⟨ser_cells, by kernel_rfl⟩
  have hk := fun ls => kof_struct (ls := ls) (xs := #[.string s.prod, .int .i64 s.kind, .int .i64 s.expiry, .int .i64 s.strike]) Try.underlying43 ser_keyType ser_cells hm
  generalize Try.prog = P at *
  have e := hk [.string s.prod.data.toList, .int .i64 s.kind, .int .i64 s.expiry, .int .i64 s.strike] (by
    rw [hl]
    simp [c9, c3, q0, q1, q2, q3])
  exact ⟨_, e⟩
/-- what a series reads as -/
noncomputable def skey (s : EM.Ser) : Lit := (keyOf Try.prog 43 (serA s)).getD (.bool false)
theorem skey_is {s : EM.Ser} (h : serQ s) : keyOf Try.prog 43 (serA s) = some (skey s) := by
  obtain ⟨kl, e⟩ := ser_key s h
  unfold skey; rw [e]; rfl
set_option maxRecDepth 100000 in
theorem skey_lit {s : EM.Ser} (h : serQ s) : WideAt.IsKeyLit (skey s) := by
  obtain ⟨s', e⟩ := ser_law.str (skey_is h)
  rw [e]
  trivial
theorem serA_inj {a b : EM.Ser} (h : serA a = serA b) : a = b := by
  obtain ⟨p, x, y, z⟩ := a
  obtain ⟨p', x', y', z'⟩ := b
  simp at h
  simp [h]
theorem skey_inj {a b : EM.Ser} (ha : serQ a) (hb : serQ b) (h : skey a = skey b) : a = b := by
  have h1 := skey_is ha
  rw [h] at h1
  exact serA_inj (ser_law.inj h1 (skey_is hb))
end Go.Proofs.Ytafdjiilmogcjaa

/- Contracts of layer 13: is the house flat? The program's, by a map. -/
namespace Go.Proofs.Ytafdjiilmogcjaa
open Go.RowKit Go.Recs Go.Maps
set_option linter.unusedVariables false
set_option linter.unusedSimpArgs false
abbrev iL (n : Int) : DataW Unit := .lit (.int .i64 n)
/-- what the map holds behind k legs -/
structure Held (l : List NM.Leg) (k : Nat) (D : DataW Unit) : Prop where
  at_ : ∀ s, serQ s → D.atKey (skey s) (iL 0) = iL (NM.fsum (NM.ofS s) l k)
  has_ : ∀ j, j < k → j < l.length → has D (skey (NM.lAt l j).ser) = true
  only : ∀ kl, has D kl = true → ∃ j, j < k ∧ j < l.length ∧ kl = skey (NM.lAt l j).ser
theorem Held.start (l : List NM.Leg) : Held l 0 (.map []) := ⟨fun s _ => by rw [NM.fsum_zero]; rfl, fun j h => by omega, fun kl h => by cases h⟩
theorem ofS_self (x : NM.Leg) : NM.ofS x.ser x = true := NM.seqB_iff.2 rfl
theorem ofS_other {s : EM.Ser} {x : NM.Leg} (h : s ≠ x.ser) : NM.ofS s x = false := by
  cases e : NM.ofS s x
  · rfl
  · exact absurd (NM.seqB_iff.1 e).symm h
set_option maxRecDepth 100000 in
theorem Held.step {l : List NM.Leg} {k : Nat} {D : DataW Unit} (h : Held l k D) (hD : IsMap D) (hk : k < l.length) (hq : serQ (NM.lAt l k).ser) :
    Held l (k + 1) (D.put (skey (NM.lAt l k).ser) (iL (NM.fsum (NM.ofS (NM.lAt l k).ser) l k + (NM.lAt l k).qty))) := by
  have hK := @skey_lit (NM.lAt l k).ser hq
  refine ⟨fun s hs => ?_, fun j hj hl => ?_, fun kl hkl => ?_⟩
  · by_cases e : s = (NM.lAt l k).ser
    · subst e
      rw [atKey_put_same hD hK, NM.fsum_hit hk (ofS_self _)]
    · rw [atKey_put_other (fun e2 => e (skey_inj hs hq e2)), h.at_ s hs, NM.fsum_miss hk (ofS_other e)]
  · by_cases e : skey (NM.lAt l j).ser = skey (NM.lAt l k).ser
    · rw [e]; exact has_put_same hD hK _
    · rw [has_put_other e]
      refine h.has_ j ?_ hl
      rcases Nat.lt_or_ge j k with g | g
      · exact g
      · obtain rfl : j = k := by omega
        exact absurd rfl e
  · by_cases e : kl = skey (NM.lAt l k).ser
    · exact ⟨k, by omega, hk, e⟩
    · rw [has_put_other e] at hkl
      obtain ⟨j, h1, h2, h3⟩ := h.only kl hkl
      exact ⟨j, by omega, h2, h3⟩
theorem owns_isMap {P : Program} {w : World} {k : TypeId} {R : Value → Option (DataW Unit × List MemPlace)} {b n : Nat} {D : DataW Unit} (h : w.ownsMap P k R b n D) : IsMap D := by
  obtain ⟨es, clock, _, _, _, rfl⟩ := h
  exact ⟨_, rfl⟩
theorem int_zero (u : World) : (zeroValue 3).run Try.prog u = .ok (.int .i64 0) u := by kernel_rfl
theorem map_under : Try.prog.underlying 97 = some (.map 43 3) := Try.underlying97

set_option maxHeartbeats 8000000 in
set_option maxRecDepth 100000 in
theorem nflat_any (A : Option Addr) (l : List NM.Leg) (n cap : Nat) (hn : n = l.length) (w : World) (hI : Legs w A l) :
    Calls Try.prog 28 #[.slice A n cap] w fun e w' => e = .returned (.bool (NM.flatB l)) ∧ Below w.heap.size w w' := by
  subst hn
  have hlen := hI.len
  have C1 := Lib.hid (ncheck_any A l l.length cap rfl w hI)
  have HI := Lib.hid hI
  clear hI
  by_cases hc : NM.checkE l = 0
  · have HQ : Hid (∀ k, k < l.length → serQ (NM.lAt l k).ser) := Lib.hid (fun k hk => by rw [NM.lAt_get hk]; exact (HI.out.2 _ (List.getElem_mem hk)).2.2.1)
    have KB := Lib.hid (fun s k => NM.fsum_bound (p := NM.ofS s) hc k)
    have hmx := (NM.check_inv hc).1
    have KQ := Lib.hid (fun k (hk : k < l.length) => NM.qty_bound hc hk)
    have KBAD : Hid (∀ j, j < l.length → ¬ NM.fsum (NM.ofS (NM.lAt l j).ser) l l.length = 0 → NM.flatB l = false) := Lib.hid (fun j hj h => NM.flat_bad hj (by rw [NM.house_ok hc, ← NM.fsum_end]; omega))
    have KYES : Hid ((∀ j, j < l.length → NM.fsum (NM.ofS (NM.lAt l j).ser) l l.length = 0) → NM.flatB l = true) := Lib.hid (fun h => NM.flat_yes hc fun j hj => by rw [NM.house_ok hc, ← NM.fsum_end, h j hj]; rfl)
    rw [hc] at C1
    generalize NM.flatB l = r at *
    have hmm := @run_makeMap Try.prog
    clear hc
    go_enter Try.func28, Try.ntmps28
    go_wp2_with fail
    refine C1.out.mono ?_
    rintro e w1 ⟨rfl, b1⟩
    have HB1 := Lib.hid b1
    have HI1 := Lib.hid (HI.out.below b1)
    have HOM : Hid ((w1.alloc (.map #[] 0)).ownsMap Try.prog 43 (plainElem (H := Unit) Try.prog 3) w1.heap.size 0 (.map [])) := Lib.hid (World.ownsMap_made _ _ _ _)
    clear b1 HI C1
    go_wp2_with fail
    go_loopw [5, 14] (fun _ i wr => ∃ (k : Nat) (D : DataW Unit), k ≤ l.length ∧ i = .int .i64 (k : Int) ∧ Hid (wr.ownsMap Try.prog 43 (plainElem Try.prog 3) w1.heap.size k D) ∧ Hid (Held l k D) ∧ Hid (Below w1.heap.size w1 wr)) (fun _ i _ => l.length - (intOf i).toNat)
    case atStart => exact ⟨0, .map [], by omega, rfl, HOM, Lib.hid (Held.start l), Lib.hid (below_al (Below.refl _ _) _)⟩
    case round =>
      obtain ⟨k, D, hk, rfl, HM, HH, HB⟩ := hrel
      by_cases hlt : k < l.length
      · obtain ⟨b, off, x, rfl, hb, HV, q, d0, d1, d2, d3, d4, d5, d6, d7, d8⟩ := legs_get (HI1.out.below HB.out) hlt
        have HX := Lib.hid (CB.new wr 47 (legC x))
        have HBx := Lib.hid (HB.out.alloc HB.out.size (.cells (legC x) 47))
        have HMx := Lib.hid (HM.out.alloc (.cells (legC x) 47))
        have hmb := HM.out.lt
        have HST := Lib.hid (HH.out.step (owns_isMap HM.out) hlt (HQ.out k hlt))
        have hat := HH.out.at_ x.ser q.2.2.1
        have hbd := KB.out x.ser k
        obtain ⟨c, st, w2, hat2, hwc, L0, L1, EN, gr1, ST⟩ := ownsMap_entry (w := (wr.alloc (.cells (legC x) 47)).drew) ser_law map_under Try.underlying3 int_zero HMx.out.drew (by unfold maxLen; omega) (skey_is q.2.2.1)
        obtain rfl : c = NM.fsum (NM.ofS x.ser) l k := by
          rw [hat] at hat2
          injection hat2 with e1
          injection e1 with e2 e3
          exact e3.symm
        rw [HV.out] at HST
        generalize hcc : NM.fsum (NM.ofS x.ser) l k = c at *
        clear hcc hat hat2
        have hqb := (KQ.out k hlt)
        rw [HV.out] at hqb
        have hwr : IntKind.i64.wrap (c + x.qty) = c + x.qty := by rw [IntWalk.i64_left]; exact IntWalk.wrap64_in _ ⟨by omega, by omega⟩
        obtain ⟨w3, SE, hown3, gr3⟩ := ST (c + x.qty) (WalkArith.wf_i64 ⟨by omega, by omega⟩)
        have HM3 := Lib.hid hown3
        have hne : wr.heap.size ≠ w1.heap.size := by omega
        have HSA : Hid ((fun ww : World => ww.cell? ⟨wr.heap.size, 2, none⟩ = some (.string x.ser.prod) ∧ ww.cell? ⟨wr.heap.size, 3, none⟩ = some (.int .i64 x.ser.kind) ∧ ww.cell? ⟨wr.heap.size, 4, none⟩ = some (.int .i64 x.ser.expiry) ∧ ww.cell? ⟨wr.heap.size, 5, none⟩ = some (.int .i64 x.ser.strike) ∧ ww.cell? ⟨wr.heap.size, 6, none⟩ = some (.int .i64 x.qty)) (wr.alloc (.cells (legC x) 47)).drew) := Lib.hid ⟨HX.out.cell 2, HX.out.cell 3, HX.out.cell 4, HX.out.cell 5, HX.out.cell 6⟩
        have hxl : wr.heap.size < (wr.alloc (.cells (legC x) 47)).drew.heap.size := HX.out.lt
        have hx2 : CB w2 wr.heap.size 47 (legC x) := (gr1.block _ hxl (by simpa using hne)).trans HX.out
        have hx3 : CB w3 wr.heap.size 47 (legC x) := (gr3.block _ hxl (by simpa using hne)).trans HX.out
        have HSB : Hid ((fun ww : World => ww.cell? ⟨wr.heap.size, 2, none⟩ = some (.string x.ser.prod) ∧ ww.cell? ⟨wr.heap.size, 3, none⟩ = some (.int .i64 x.ser.kind) ∧ ww.cell? ⟨wr.heap.size, 4, none⟩ = some (.int .i64 x.ser.expiry) ∧ ww.cell? ⟨wr.heap.size, 5, none⟩ = some (.int .i64 x.ser.strike) ∧ ww.cell? ⟨wr.heap.size, 6, none⟩ = some (.int .i64 x.qty)) w2) := Lib.hid ⟨hx2.cell 2, hx2.cell 3, hx2.cell 4, hx2.cell 5, hx2.cell 6⟩
        have HSC : Hid ((fun ww : World => ww.cell? ⟨wr.heap.size, 2, none⟩ = some (.string x.ser.prod) ∧ ww.cell? ⟨wr.heap.size, 3, none⟩ = some (.int .i64 x.ser.kind) ∧ ww.cell? ⟨wr.heap.size, 4, none⟩ = some (.int .i64 x.ser.expiry) ∧ ww.cell? ⟨wr.heap.size, 5, none⟩ = some (.int .i64 x.ser.strike) ∧ ww.cell? ⟨wr.heap.size, 6, none⟩ = some (.int .i64 x.qty)) w3) := Lib.hid ⟨hx3.cell 2, hx3.cell 3, hx3.cell 4, hx3.cell 5, hx3.cell 6⟩
        have HB3 : Hid (Below w1.heap.size w1 w3) := Lib.hid (HBx.out.drew.grown gr3 HBx.out.drew.size (fun j hj => by injection hj with hj; omega))
        clear q HX HBx HMx hown3 gr1 gr3 ST hx2 hx3 hxl hwc hbd hqb HM HH HB HV
        go_wp2_with fail
        go_region_held3 (fun ww => ww.cell? ⟨wr.heap.size, 2, none⟩ = some (.string x.ser.prod) ∧ ww.cell? ⟨wr.heap.size, 3, none⟩ = some (.int .i64 x.ser.kind) ∧ ww.cell? ⟨wr.heap.size, 4, none⟩ = some (.int .i64 x.ser.expiry) ∧ ww.cell? ⟨wr.heap.size, 5, none⟩ = some (.int .i64 x.ser.strike) ∧ ww.cell? ⟨wr.heap.size, 6, none⟩ = some (.int .i64 x.qty))
          (first | (with_reducible exact HSA.out) | (with_reducible exact HSB.out) | (with_reducible exact HSC.out))
          (fail)
        all_goals (
          clear HSA HSB HSC SE L0 L1 EN hwr
          go_wp2_with fail
          go_roundw
          case rel => exact ⟨k + 1, _, by omega, by go_num, HM3, HST, HB3⟩
          case measure => simp [intOf]; omega)
      · obtain rfl : k = l.length := by omega
        have hgs := HB.out.size
        have hwl : w1.heap.size ≠ wr.heap.size := Nat.ne_of_lt HM.out.lt
        clear hk hlt
        have HBS0 := Lib.hid (fun (u : World) (g : wr.grownBy u none) => HB.out.grown g hgs (fun j hj => by cases hj))
        go_wp2_with (at_range; refine wpList_range_own _ rfl _ 97 rfl 43 3 (Keyed.of_law ser_law) map_under _ w1.heap.size _ _ rfl HM.out ?_; intro w0 hrg0 hg0 hs0)
        go_frame
        have HBS := Lib.hid (HBS0.out _ hg0)
        clear hg0 hs0
        generalize wr.heap.size = gi at *
        go_loopw [7] (fun _ wq => ∃ (left : Lit → Bool) (cnt : Nat), wq.ranges Try.prog 43 (plainElem Try.prog 3) w1.heap.size gi l.length D left cnt ∧ Hid (∀ kl, left kl = true → has D kl = true) ∧ Hid (∀ kl, has D kl = true → left kl = false → D.atKey kl (iL 0) = iL 0) ∧ Hid (Below w1.heap.size w1 wq)) (fun _ wq => wq.rangeLeft w1.heap.size gi)
        case atStart => exact ⟨_, _, hrg0, Lib.hid (fun kl h => h), Lib.hid (fun kl h1 h2 => by rw [h1] at h2; cases h2), HBS⟩
        case round =>
          obtain ⟨left, cnt, hrg, HL1, HL2, HBq⟩ := hrel
          go_wp2_with (at_next; refine wpList_next_ranges _ rfl _ rfl 43 (Keyed.of_law ser_law) _ (fun v : Value => v) (Value.int .i64) (fun key kl _ => ⟨key, rfl⟩) (fun v y hv => by obtain ⟨c, rfl, _⟩ := plainElem_int_inv Try.underlying3 hv; exact ⟨c, rfl⟩) w1.heap.size gi l.length D left cnt rfl hrg ?_ ?_)
          · intro hc0 hl0
            have HR := Lib.hid (KYES.out (fun j hj => by
              have h1 := HL2.out _ (HH.out.has_ j hj hj) (hl0 _)
              rw [HH.out.at_ _ (HQ.out j hj)] at h1
              injection h1 with e1
              injection e1))
            have HBF := Lib.hid (HB1.out.trans (HBq.out.mono HB1.out.size))
            clear hl0 hc0
            go_wp2_with fail
            go_ret
            exact ⟨by rw [HR.out] <;> rfl, HBF.out⟩
          · intro x c kl y1 y2 wq2 cnt2 hkey hlk hv hat hrg1 hlt1 hg1 hs1 hen
            have hat0 : D.atKey kl (iL 0) = iL c := by
              obtain ⟨c', e1, e3, _⟩ := plainElem_int_inv Try.underlying3 hv
              injection e1 with _ e2
              injection e3 with e4 _
              rw [hat (iL 0), e4, e2]
            have HB2 := Lib.hid (HBq.out.grown hg1 HBq.out.size (fun j hj => by injection hj with hj; omega))
            have HRG := Lib.hid hrg1
            by_cases hc0 : c = 0
            · subst hc0
              have HL3 : Hid (∀ z, (left z && !z.sameKey kl) = true → has D z = true) := Lib.hid (fun z hz => HL1.out z (by rw [Bool.and_eq_true] at hz; exact hz.1))
              have HL4 : Hid (∀ z, has D z = true → (left z && !z.sameKey kl) = false → D.atKey z (iL 0) = iL 0) := Lib.hid (fun z hz h => by
                rcases Bool.and_eq_false_iff.1 h with h | h
                · exact HL2.out z hz h
                · have : z = kl := WideAt.sameKey_eq (by simpa using h)
                  rw [this]; exact hat0)
              have HMS : Hid (wq2.rangeLeft w1.heap.size gi < cnt) := Lib.hid (by rw [hrg1.left_eq]; exact hlt1)
              have HMR : Hid (cnt = wr.rangeLeft w1.heap.size gi ∨ True) := Lib.hid (.inr trivial)
              clear hv hat hlk hkey hat0 hrg1 hg1 hs1 hlt1 HMR
              go_wp2_with fail
              go_roundw
              case rel => exact ⟨_, _, HRG.out, HL3, HL4, HB2⟩
              case measure => rw [hrg.left_eq]; exact HMS.out
            · obtain ⟨j, hj1, hj2, ek⟩ := HH.out.only kl (HL1.out kl hlk)
              have HR := Lib.hid (KBAD.out j hj2 (fun h0 => hc0 (by
                rw [ek, HH.out.at_ _ (HQ.out j hj2), h0] at hat0
                injection hat0 with e1
                injection e1 with _ e2
                exact e2.symm)))
              have hne : (c != 0) = true := by simpa using hc0
              have HBF := Lib.hid (HB1.out.trans (HB2.out.mono HB1.out.size))
              clear hv hat hlk hkey hat0 hrg1 hg1 hs1 hlt1 hc0 ek hj1 hj2
              go_wp2_with fail
              go_ret
              exact ⟨by rw [HR.out] <;> rfl, HBF.out⟩
  · have e1 := NM.flat_no hc
    rw [e1]
    have hne : (NM.checkE l != 0) = true := by simpa using hc
    generalize NM.checkE l = r at *
    clear e1
    go_enter Try.func28, Try.ntmps28
    go_wp2_with fail
    refine C1.out.mono ?_
    rintro e w1 ⟨rfl, b1⟩
    have HB1 := Lib.hid b1
    clear b1
    go_wp2_with fail
    go_ret
    exact ⟨rfl, HB1.out⟩
end Go.Proofs.Ytafdjiilmogcjaa

/- Layer 13: the page's example. -/
namespace Go.Proofs.Ytafdjiilmogcjaa
open Go.RowKit Go.Recs
set_option linter.unusedVariables false
set_option linter.unusedSimpArgs false
abbrev oilS : ByteArray := ⟨#[111, 105, 108]⟩
abbrev sA : ByteArray := ⟨#[97]⟩
abbrev sB : ByteArray := ⟨#[98]⟩
abbrev sX : ByteArray := ⟨#[120]⟩
abbrev oilPr : QM.Prod := ⟨⟨#[111, 105, 108]⟩, 0, 10, 5, 0, 100, false⟩
abbrev oilSer : EM.Ser := ⟨⟨#[111, 105, 108]⟩, 1, 9576, 0⟩
abbrev trd7 : TM.Trd := ⟨7, 0, 0, ⟨⟨#[111, 105, 108]⟩, 1, 9576, 0⟩, 3, 50, ⟨#[97]⟩, ⟨#[120]⟩, ⟨#[98]⟩, ⟨#[120]⟩⟩
abbrev bgt : NM.Leg := ⟨⟨#[97]⟩, ⟨#[120]⟩, ⟨⟨#[111, 105, 108]⟩, 1, 9576, 0⟩, 3, 50, 7⟩
abbrev sld : NM.Leg := ⟨⟨#[98]⟩, ⟨#[120]⟩, ⟨⟨#[111, 105, 108]⟩, 1, 9576, 0⟩, -3, 50, 7⟩
theorem ab_ne : (⟨#[97]⟩ : ByteArray) ≠ ⟨#[98]⟩ := by
  intro h
  injection h with h
  exact absurd h (by decide)
theorem oil_q13 : prodQ oilPr := ⟨by decide, ⟨by decide, by decide⟩, ⟨by decide, by decide⟩, ⟨by decide, by decide⟩, ⟨by decide, by decide⟩, ⟨by decide, by decide⟩⟩
theorem trd7_q : trdQ trd7 := ⟨⟨by decide, by decide⟩, ⟨by decide, by decide⟩, ⟨by decide, by decide⟩, ⟨by decide, ⟨by decide, by decide⟩, ⟨by decide, by decide⟩, ⟨by decide, by decide⟩⟩, ⟨by decide, by decide⟩, ⟨by decide, by decide⟩, by decide, by decide, by decide, by decide⟩
theorem all7 : NM.allL [trd7] = [bgt, sld] := rfl
theorem chk7 : NM.checkE [bgt, sld] = 0 := by decide
theorem mine_aa : NM.mine ⟨#[97]⟩ ⟨#[120]⟩ oilSer bgt = true := by unfold NM.mine; rw [NM.aeq_iff.2 ⟨rfl, rfl⟩, NM.seqB_iff.2 rfl]; rfl
theorem mine_ab : NM.mine ⟨#[97]⟩ ⟨#[120]⟩ oilSer sld = false := by
  unfold NM.mine
  have : NM.aeq sld.am sld.an ⟨#[97]⟩ ⟨#[120]⟩ = false := by
    cases e : NM.aeq sld.am sld.an ⟨#[97]⟩ ⟨#[120]⟩
    · rfl
    · exact absurd (NM.aeq_iff.1 e).1 ab_ne.symm
  rw [this]; rfl
theorem mine_ba : NM.mine ⟨#[98]⟩ ⟨#[120]⟩ oilSer bgt = false := by
  unfold NM.mine
  have : NM.aeq bgt.am bgt.an ⟨#[98]⟩ ⟨#[120]⟩ = false := by
    cases e : NM.aeq bgt.am bgt.an ⟨#[98]⟩ ⟨#[120]⟩
    · rfl
    · exact absurd (NM.aeq_iff.1 e).1 ab_ne
  rw [this]; rfl
theorem mine_bb : NM.mine ⟨#[98]⟩ ⟨#[120]⟩ oilSer sld = true := by unfold NM.mine; rw [NM.aeq_iff.2 ⟨rfl, rfl⟩, NM.seqB_iff.2 rfl]; rfl
theorem filt_a : [bgt, sld].filter (NM.mine ⟨#[97]⟩ ⟨#[120]⟩ oilSer) = [bgt] := by simp only [List.filter, mine_aa, mine_ab]
theorem filt_b : [bgt, sld].filter (NM.mine ⟨#[98]⟩ ⟨#[120]⟩ oilSer) = [sld] := by simp only [List.filter, mine_ba, mine_bb]
theorem val_a : QM.valueE oilPr 50 3 = 0 ∧ QM.valueN oilPr 50 3 = 1500 ∧ QM.valueE oilPr 50 (-3) = 0 ∧ QM.valueN oilPr 50 (-3) = -1500 := by decide
theorem cost_a : NM.costN [bgt, sld] ⟨#[97]⟩ ⟨#[120]⟩ oilPr oilSer = 1500 ∧ NM.costE [bgt, sld] ⟨#[97]⟩ ⟨#[120]⟩ oilPr oilSer = 0 := by
  have h1 : NM.firstE oilPr ([bgt, sld].filter (NM.mine ⟨#[97]⟩ ⟨#[120]⟩ oilSer)) = 0 := by rw [filt_a]; unfold NM.firstE; rw [if_pos val_a.1]; rfl
  obtain ⟨e1, e2⟩ := cost_ok (am := ⟨#[97]⟩) (an := ⟨#[120]⟩) (p := oilPr) (s := oilSer) chk7 h1
  rw [e1, e2, filt_a]
  have : NM.worth oilPr [bgt] = [1500] := by unfold NM.worth; simp only [List.map_cons, List.map_nil, val_a.2.1]
  rw [this]
  decide
theorem cost_b : NM.costN [bgt, sld] ⟨#[98]⟩ ⟨#[120]⟩ oilPr oilSer = -1500 ∧ NM.costE [bgt, sld] ⟨#[98]⟩ ⟨#[120]⟩ oilPr oilSer = 0 := by
  have h1 : NM.firstE oilPr ([bgt, sld].filter (NM.mine ⟨#[98]⟩ ⟨#[120]⟩ oilSer)) = 0 := by rw [filt_b]; unfold NM.firstE; rw [if_pos val_a.2.2.1]; rfl
  obtain ⟨e1, e2⟩ := cost_ok (am := ⟨#[98]⟩) (an := ⟨#[120]⟩) (p := oilPr) (s := oilSer) chk7 h1
  rw [e1, e2, filt_b]
  have : NM.worth oilPr [sld] = [-1500] := by unfold NM.worth; simp only [List.map_cons, List.map_nil, val_a.2.2.2]
  rw [this]
  decide
theorem flat7 : NM.flatB [bgt, sld] = true := by
  have hf : ∀ x ∈ [bgt, sld], [bgt, sld].filter (NM.ofS x.ser) = [bgt, sld] := by
    intro x hx
    have hs : x.ser = oilSer := by
      simp only [List.mem_cons, List.not_mem_nil, or_false] at hx
      rcases hx with rfl | rfl <;> rfl
    rw [hs]
    have h1 : NM.ofS oilSer bgt = true := NM.seqB_iff.2 rfl
    have h2 : NM.ofS oilSer sld = true := NM.seqB_iff.2 rfl
    simp only [List.filter, h1, h2]
  refine NM.flat_yes chk7 fun j hj => ?_
  rw [NM.lAt_get hj, NM.house_ok chk7, hf _ (List.getElem_mem hj)]
  rfl
theorem lit_trd (W : World) (t : TM.Trd) (hq : trdQ t) : Trds (W.alloc (.cells (trdC t) 45)) (some ⟨W.heap.size, 0, none⟩) [t] := by
  obtain ⟨A', cap, e, hr, _⟩ := OwnR.recs (OwnR.lit W W.heap.size 45 13 [trdV t] (by simp [trdV]) (Nat.le_refl _) (by simp [maxLen]))
  injection e with e1
  subst e1
  exact ⟨hr, fun a ha => by rw [List.mem_singleton.1 ha]; exact hq⟩
theorem bs_q : ∀ x ∈ [bgt, sld], legQ x := by
  intro x hx
  simp only [List.mem_cons, List.not_mem_nil, or_false] at hx
  rcases hx with rfl | rfl
  · exact ⟨by decide, by decide, trd7_q.2.2.2.1, ⟨by decide, by decide⟩, ⟨by decide, by decide⟩, ⟨by decide, by decide⟩⟩
  · exact ⟨by decide, by decide, trd7_q.2.2.2.1, ⟨by decide, by decide⟩, ⟨by decide, by decide⟩, ⟨by decide, by decide⟩⟩

set_option maxHeartbeats 4000000 in
set_option maxRecDepth 100000 in
theorem goes13_any (w : World) : Calls Try.prog 16 #[] w fun e w' => e = .returned (.bool true) ∧ Below w.heap.size w w' := by
  have HB0 := Lib.hid (fun a b c => below_al (below_al (below_al (Below.refl w.heap.size w) a) b) c)
  have C1 := nall_any _ [trd7] 1 1 rfl _ (lit_trd ((w.alloc (.cells #[.string ⟨#[111, 105, 108]⟩, .int .i64 0, .int .i64 10, .int .i64 5, .int .i64 0, .int .i64 100, .bool false] 65)).alloc (.cells (trdC trd7) 45)) trd7 trd7_q) (by decide)
  have HP := Lib.hid (PBox.new w oilPr)
  have HT : Hid (CB ((w.alloc (.cells #[.string ⟨#[111, 105, 108]⟩, .int .i64 0, .int .i64 10, .int .i64 5, .int .i64 0, .int .i64 100, .bool false] 65)).alloc (.cells (trdC trd7) 45)) (w.heap.size + 1) 45 (trdC trd7)) := Lib.hid (CB.new1 _ _ _ _)
  rw [show ((w.alloc (.cells #[.string ⟨#[111, 105, 108]⟩, .int .i64 0, .int .i64 10, .int .i64 5, .int .i64 0, .int .i64 100, .bool false] 65)).alloc (.cells (trdC trd7) 45)).heap.size = w.heap.size + 1 + 1 by simp, all7] at C1
  have HP3 := Lib.hid ((HP.out.alloc (.cells (trdC trd7) 45)).alloc (.cells (trdC trd7) 45))
  have HT3 := Lib.hid (HT.out.alloc (.cells (trdC trd7) 45))
  have HB3 := Lib.hid (HB0.out (.cells #[.string ⟨#[111, 105, 108]⟩, .int .i64 0, .int .i64 10, .int .i64 5, .int .i64 0, .int .i64 100, .bool false] 65) (.cells (trdC trd7) 45) (.cells (trdC trd7) 45))
  have HC1 := Lib.hid C1
  have C2 := Lib.hid (fun A c ww h => ncost_any A [bgt, sld] 2 c rfl ⟨#[97]⟩ ⟨#[120]⟩ oilPr oilSer ww h oil_q13)
  have C3 := Lib.hid (fun A c ww h => ncost_any A [bgt, sld] 2 c rfl ⟨#[98]⟩ ⟨#[120]⟩ oilPr oilSer ww h oil_q13)
  have C4 := Lib.hid (fun A c ww h => nflat_any A [bgt, sld] 2 c rfl ww h)
  rw [cost_a.1, cost_a.2] at C2
  rw [cost_b.1, cost_b.2] at C3
  rw [flat7] at C4
  clear C1 HP HT HB0
  go_enter Try.func16, Try.ntmps16
  go_wp2_with fail
  refine HC1.out.mono ?_
  rintro e w1 ⟨v, rfl, o1, b1⟩
  obtain ⟨A1, c1, rfl, hr1, hc1⟩ := o1.recs
  have HL1 : Hid (Legs w1 A1 [bgt, sld]) := Lib.hid ⟨hr1, bs_q⟩
  have hsz : ((w.alloc (.cells #[.string ⟨#[111, 105, 108]⟩, .int .i64 0, .int .i64 10, .int .i64 5, .int .i64 0, .int .i64 100, .bool false] 65)).alloc (.cells (trdC trd7) 45)).heap.size = w.heap.size + 1 + 1 := by simp
  have HB1 := Lib.hid (HB3.out.trans (b1.mono HB3.out.size))
  have HP1 := Lib.hid (HP3.out.below b1 HP3.out.lt)
  have HT1 := Lib.hid (HT3.out.below b1 HT3.out.lt)
  obtain ⟨p0, p1, p2, p3, p4, p5, p6⟩ := HP1.out.cells
  have t3 : w1.cell? ⟨w.heap.size + 1, 3, none⟩ = some (.string ⟨#[111, 105, 108]⟩) := HT1.out.cell 3
  have t4 : w1.cell? ⟨w.heap.size + 1, 4, none⟩ = some (.int .i64 1) := HT1.out.cell 4
  have t5 : w1.cell? ⟨w.heap.size + 1, 5, none⟩ = some (.int .i64 9576) := HT1.out.cell 5
  have t6 : w1.cell? ⟨w.heap.size + 1, 6, none⟩ = some (.int .i64 0) := HT1.out.cell 6
  have t9 : w1.cell? ⟨w.heap.size + 1, 9, none⟩ = some (.string ⟨#[97]⟩) := HT1.out.cell 9
  have t10 : w1.cell? ⟨w.heap.size + 1, 10, none⟩ = some (.string ⟨#[120]⟩) := HT1.out.cell 10
  rw [show ([bgt, sld].map legV).length = 2 from rfl] at *
  clear hr1 hc1 o1 b1 HC1 HP3 HT3 HB3 hsz
  go_wp2_with fail
  refine (C2.out _ _ _ HL1.out).mono ?_
  clear p0 p1 p2 p3 p4 p5 p6 t3 t4 t5 t6 t9 t10
  rintro e w2 ⟨rfl, b2⟩
  have HB2 := Lib.hid (HB1.out.trans (b2.mono HB1.out.size))
  have HL2 := Lib.hid (HL1.out.below b2)
  have HP2 := Lib.hid (HP1.out.below b2 HP1.out.lt)
  have HT2 := Lib.hid (HT1.out.below b2 HT1.out.lt)
  obtain ⟨p0, p1, p2, p3, p4, p5, p6⟩ := HP2.out.cells
  have t3 : w2.cell? ⟨w.heap.size + 1, 3, none⟩ = some (.string ⟨#[111, 105, 108]⟩) := HT2.out.cell 3
  have t4 : w2.cell? ⟨w.heap.size + 1, 4, none⟩ = some (.int .i64 1) := HT2.out.cell 4
  have t5 : w2.cell? ⟨w.heap.size + 1, 5, none⟩ = some (.int .i64 9576) := HT2.out.cell 5
  have t6 : w2.cell? ⟨w.heap.size + 1, 6, none⟩ = some (.int .i64 0) := HT2.out.cell 6
  have t11 : w2.cell? ⟨w.heap.size + 1, 11, none⟩ = some (.string ⟨#[98]⟩) := HT2.out.cell 11
  have t12 : w2.cell? ⟨w.heap.size + 1, 12, none⟩ = some (.string ⟨#[120]⟩) := HT2.out.cell 12
  clear b2 HL1 HP1 HT1 HB1 C2
  go_wp2_with fail
  refine (C3.out _ _ _ HL2.out).mono ?_
  clear p0 p1 p2 p3 p4 p5 p6 t3 t4 t5 t6 t11 t12
  rintro e w3 ⟨rfl, b3⟩
  have HB3 := Lib.hid (HB2.out.trans (b3.mono HB2.out.size))
  have HL3 := Lib.hid (HL2.out.below b3)
  obtain ⟨b, off, x, rfl, hb, HV, q, d0, d1, d2, d3, d4, d5, d6, d7, d8⟩ := legs_get HL3.out (k := 0) (by decide)
  obtain ⟨b', off', x', he, hb', HV', q', g0, g1, g2, g3, g4, g5, g6, g7, g8⟩ := legs_get HL3.out (k := 1) (by decide)
  injection he with he
  injection he with e1 e2
  subst e1 e2
  have y0 : x = bgt := HV.out.symm
  have y1 : x' = sld := HV'.out.symm
  subst y0 y1
  have k6 : w3.cell? ⟨b, off + 6, none⟩ = some (.int .i64 3) := by simpa using d6
  have k15 : w3.cell? ⟨b, off + 9 + 6, none⟩ = some (.int .i64 (-3)) := by simpa using g6
  clear b3 HL2 HP2 HT2 HB2 C3 d0 d1 d2 d3 d4 d5 d6 d7 d8 g0 g1 g2 g3 g4 g5 g6 g7 g8 q q' HV HV' hb'
  go_wp2_with fail
  refine (C4.out _ _ _ HL3.out).mono ?_
  rintro e w4 ⟨rfl, b4⟩
  have HB4 := Lib.hid (HB3.out.trans (b4.mono HB3.out.size))
  clear b4
  go_wp2_with fail
  go_ret
  exact ⟨rfl, HB4.out⟩
end Go.Proofs.Ytafdjiilmogcjaa

namespace Go.Proofs.Ytafdjiilmogcjaa.novateLegs
open Go.RowKit Go.Recs
set_option linter.unusedVariables false
theorem all_q {l : List TM.Trd} (h : ∀ t ∈ l, trdQ t) : ∀ x ∈ NM.allL l, legQ x := by
  intro x hx
  obtain ⟨t, ht, hx⟩ := List.mem_flatMap.1 hx
  obtain ⟨h1, h2, h3, h4, h5, h6, h7, h8, h9, h10⟩ := h t ht
  simp only [List.mem_cons, List.not_mem_nil, or_false] at hx
  rcases hx with rfl | rfl
  · exact ⟨h7, h8, h4, h5, h6, h1⟩
  · exact ⟨h9, h10, h4, neg64_i64 h5, h6, h1⟩
set_option maxHeartbeats 16000000 in
set_option maxRecDepth 100000 in
theorem walk (t : TM.Trd) (x : NM.Leg) (A : Option Addr) (cap : Nat) (l : List TM.Trd) (w : World) (ht : trdQ t) (hx : legQ x) (hI : Trds w A l ∧ l.length ≤ cap) :
    Calls Try.prog 4 #[trdA t, legA x, .slice A l.length cap] w fun e w' => e = .returned (.bool true) ∧ Below w.heap.size w w' := by
  have hlen := hI.1.len
  have CG := Lib.hid (fun ww => goes13_any ww)
  have HB0 := Lib.hid (below_al (below_al (Below.refl w.heap.size w) (.cells (trdC t) 45)) (.cells (legC x) 47))
  have HI := Lib.hid (hI.1.below HB0.out)
  have HTQ := Lib.hid hI.1.2
  clear hI
  by_cases h5 : 500 < l.length
  · have h5' : (500 : Int) < (l.length : Int) := by omega
    clear h5 ht hx
    go_enter Try.func4, Try.ntmps4
    go_wp2_with fail
    refine (CG.out _).mono ?_
    rintro e w1 ⟨rfl, b1⟩
    have HB1 := Lib.hid (HB0.out.trans (b1.mono HB0.out.size))
    clear b1
    go_wp2_with fail
    go_ret
    exact ⟨rfl, HB1.out⟩
  have h5' : ¬ (500 : Int) < (l.length : Int) := by omega
  have HLN := Lib.hid h5
  have HT0 : Hid (CB ((w.alloc (.cells (trdC t) 45)).alloc (.cells (legC x) 47)) w.heap.size 45 (trdC t)) := Lib.hid ((CB.new w 45 (trdC t)).alloc _)
  have HX0 : Hid (CB ((w.alloc (.cells (trdC t) 45)).alloc (.cells (legC x) 47)) (w.heap.size + 1) 47 (legC x)) := Lib.hid (CB.new1 _ _ _ _)
  have C1 := Lib.hid (fun ww => nlegs_any t ww ht)
  have C2 := Lib.hid (fun ww => rlegs13_any t ww ht)
  have C3 := Lib.hid (fun A n c e ww h => nall_any A l n c e ww h (by omega))
  have C4 := Lib.hid (fun ww h => rall13_any A l l.length cap rfl ww h (by omega))
  have C5 := Lib.hid (fun ww => nundo_any x ww hx)
  have C6 := Lib.hid (fun ww => rundo13_any x ww hx)
  have HAQ := Lib.hid (all_q HTQ.out)
  have C7 := Lib.hid (fun A B n c m d e f ww h1 h2 => rsame13_any A B (NM.allL l) n c m d e f ww h1 h2)
  generalize NM.bought t = bb at *
  generalize NM.sold t = ss at *
  generalize NM.undo x = uu at *
  generalize NM.allL l = al at *
  have gl := leg_guard
  have E1 : ∀ ww, (Op.equalIn 10000 47 (legA bb) (legA bb)).run Try.prog ww = .ok true ww := fun ww => by rw [leg_in, NM.leq_iff.2 rfl]
  have E2 : ∀ ww, (Op.equalIn 10000 47 (legA ss) (legA ss)).run Try.prog ww = .ok true ww := fun ww => by rw [leg_in, NM.leq_iff.2 rfl]
  have E3 : ∀ ww, (Op.equalIn 10000 47 (legA uu) (legA uu)).run Try.prog ww = .ok true ww := fun ww => by rw [leg_in, NM.leq_iff.2 rfl]
  clear h5 ht hx
  go_enter Try.func4, Try.ntmps4
  go_wp2_with fail
  refine (C1.out _).mono ?_
  rintro e w1 ⟨rfl, b1⟩
  have HB1 := Lib.hid (below_al (below_al (HB0.out.trans (b1.mono HB0.out.size)) (.cells (legC bb) 47)) (.cells (legC ss) 47))
  have HX1 := Lib.hid (((HX0.out.below b1 HX0.out.lt).alloc (.cells (legC bb) 47)).alloc (.cells (legC ss) 47))
  have HT1 := Lib.hid (((HT0.out.below b1 HT0.out.lt).alloc (.cells (legC bb) 47)).alloc (.cells (legC ss) 47))
  have H7 : Hid (CB ((w1.alloc (.cells (legC bb) 47)).alloc (.cells (legC ss) 47)) w1.heap.size 47 (legC bb)) := Lib.hid ((CB.new w1 47 (legC bb)).alloc _)
  have H8 : Hid (CB ((w1.alloc (.cells (legC bb) 47)).alloc (.cells (legC ss) 47)) (w1.heap.size + 1) 47 (legC ss)) := Lib.hid (CB.new1 _ _ _ _)
  have HI1 := Lib.hid (HI.out.below (below_al (below_al b1 (.cells (legC bb) 47)) (.cells (legC ss) 47)))
  clear b1 HB0 HX0 HT0 HI C1
  have k := HT1.out.cell
  go_wp2_with fail
  generalize (w1.alloc (.cells #[.string bb.am, .string bb.an, .string bb.ser.prod, .int .i64 bb.ser.kind, .int .i64 bb.ser.expiry, .int .i64 bb.ser.strike, .int .i64 bb.qty, .int .i64 bb.price, .int .i64 bb.trade] 47)).alloc (.cells #[.string ss.am, .string ss.an, .string ss.ser.prod, .int .i64 ss.ser.kind, .int .i64 ss.ser.expiry, .int .i64 ss.ser.strike, .int .i64 ss.qty, .int .i64 ss.price, .int .i64 ss.trade] 47) = u1 at *
  refine (C2.out _).mono ?_
  clear k
  rintro e w2 ⟨rfl, b2⟩
  have HB2 := Lib.hid (below_al (below_al (HB1.out.trans (b2.mono HB1.out.size)) (.cells (legC bb) 47)) (.cells (legC ss) 47))
  have HX2 := Lib.hid (((HX1.out.below b2 HX1.out.lt).alloc (.cells (legC bb) 47)).alloc (.cells (legC ss) 47))
  have H7b := Lib.hid (((H7.out.below b2 H7.out.lt).alloc (.cells (legC bb) 47)).alloc (.cells (legC ss) 47))
  have H8b := Lib.hid (((H8.out.below b2 H8.out.lt).alloc (.cells (legC bb) 47)).alloc (.cells (legC ss) 47))
  have H9 : Hid (CB ((w2.alloc (.cells (legC bb) 47)).alloc (.cells (legC ss) 47)) w2.heap.size 47 (legC bb)) := Lib.hid ((CB.new w2 47 (legC bb)).alloc _)
  have H10 : Hid (CB ((w2.alloc (.cells (legC bb) 47)).alloc (.cells (legC ss) 47)) (w2.heap.size + 1) 47 (legC ss)) := Lib.hid (CB.new1 _ _ _ _)
  have HI2 := Lib.hid (HI1.out.below (below_al (below_al b2 (.cells (legC bb) 47)) (.cells (legC ss) 47)))
  clear b2 HB1 HX1 HT1 HI1 C2 H7 H8
  generalize hu2 : (w2.alloc (.cells (legC bb) 47)).alloc (.cells (legC ss) 47) = u2 at *
  have HU2 : Hid (u2.heap.size = w2.heap.size + 1 + 1) := Lib.hid (by rw [← hu2]; simp)
  have HSF : Hid (∀ ww, Below u2.heap.size u2 ww → ww.cell? ⟨w.heap.size + 1, 0, none⟩ = some (.string x.am) ∧ ww.cell? ⟨w.heap.size + 1, 1, none⟩ = some (.string x.an) ∧ ww.cell? ⟨w.heap.size + 1, 2, none⟩ = some (.string x.ser.prod) ∧ ww.cell? ⟨w.heap.size + 1, 3, none⟩ = some (.int .i64 x.ser.kind) ∧ ww.cell? ⟨w.heap.size + 1, 4, none⟩ = some (.int .i64 x.ser.expiry) ∧ ww.cell? ⟨w.heap.size + 1, 5, none⟩ = some (.int .i64 x.ser.strike) ∧ ww.cell? ⟨w.heap.size + 1, 6, none⟩ = some (.int .i64 x.qty) ∧ ww.cell? ⟨w.heap.size + 1, 7, none⟩ = some (.int .i64 x.price) ∧ ww.cell? ⟨w.heap.size + 1, 8, none⟩ = some (.int .i64 x.trade) ∧ ww.cell? ⟨w1.heap.size, 0, none⟩ = some (.string bb.am) ∧ ww.cell? ⟨w1.heap.size, 1, none⟩ = some (.string bb.an) ∧ ww.cell? ⟨w1.heap.size, 2, none⟩ = some (.string bb.ser.prod) ∧ ww.cell? ⟨w1.heap.size, 3, none⟩ = some (.int .i64 bb.ser.kind) ∧ ww.cell? ⟨w1.heap.size, 4, none⟩ = some (.int .i64 bb.ser.expiry) ∧ ww.cell? ⟨w1.heap.size, 5, none⟩ = some (.int .i64 bb.ser.strike) ∧ ww.cell? ⟨w1.heap.size, 6, none⟩ = some (.int .i64 bb.qty) ∧ ww.cell? ⟨w1.heap.size, 7, none⟩ = some (.int .i64 bb.price) ∧ ww.cell? ⟨w1.heap.size, 8, none⟩ = some (.int .i64 bb.trade) ∧ ww.cell? ⟨w1.heap.size + 1, 0, none⟩ = some (.string ss.am) ∧ ww.cell? ⟨w1.heap.size + 1, 1, none⟩ = some (.string ss.an) ∧ ww.cell? ⟨w1.heap.size + 1, 2, none⟩ = some (.string ss.ser.prod) ∧ ww.cell? ⟨w1.heap.size + 1, 3, none⟩ = some (.int .i64 ss.ser.kind) ∧ ww.cell? ⟨w1.heap.size + 1, 4, none⟩ = some (.int .i64 ss.ser.expiry) ∧ ww.cell? ⟨w1.heap.size + 1, 5, none⟩ = some (.int .i64 ss.ser.strike) ∧ ww.cell? ⟨w1.heap.size + 1, 6, none⟩ = some (.int .i64 ss.qty) ∧ ww.cell? ⟨w1.heap.size + 1, 7, none⟩ = some (.int .i64 ss.price) ∧ ww.cell? ⟨w1.heap.size + 1, 8, none⟩ = some (.int .i64 ss.trade) ∧ ww.cell? ⟨w2.heap.size, 0, none⟩ = some (.string bb.am) ∧ ww.cell? ⟨w2.heap.size, 1, none⟩ = some (.string bb.an) ∧ ww.cell? ⟨w2.heap.size, 2, none⟩ = some (.string bb.ser.prod) ∧ ww.cell? ⟨w2.heap.size, 3, none⟩ = some (.int .i64 bb.ser.kind) ∧ ww.cell? ⟨w2.heap.size, 4, none⟩ = some (.int .i64 bb.ser.expiry) ∧ ww.cell? ⟨w2.heap.size, 5, none⟩ = some (.int .i64 bb.ser.strike) ∧ ww.cell? ⟨w2.heap.size, 6, none⟩ = some (.int .i64 bb.qty) ∧ ww.cell? ⟨w2.heap.size, 7, none⟩ = some (.int .i64 bb.price) ∧ ww.cell? ⟨w2.heap.size, 8, none⟩ = some (.int .i64 bb.trade) ∧ ww.cell? ⟨w2.heap.size + 1, 0, none⟩ = some (.string ss.am) ∧ ww.cell? ⟨w2.heap.size + 1, 1, none⟩ = some (.string ss.an) ∧ ww.cell? ⟨w2.heap.size + 1, 2, none⟩ = some (.string ss.ser.prod) ∧ ww.cell? ⟨w2.heap.size + 1, 3, none⟩ = some (.int .i64 ss.ser.kind) ∧ ww.cell? ⟨w2.heap.size + 1, 4, none⟩ = some (.int .i64 ss.ser.expiry) ∧ ww.cell? ⟨w2.heap.size + 1, 5, none⟩ = some (.int .i64 ss.ser.strike) ∧ ww.cell? ⟨w2.heap.size + 1, 6, none⟩ = some (.int .i64 ss.qty) ∧ ww.cell? ⟨w2.heap.size + 1, 7, none⟩ = some (.int .i64 ss.price) ∧ ww.cell? ⟨w2.heap.size + 1, 8, none⟩ = some (.int .i64 ss.trade)) := Lib.hid (fun ww h => by
    have h1 := HX2.out.below h HX2.out.lt
    have h2 := H7b.out.below h H7b.out.lt
    have h3 := H8b.out.below h H8b.out.lt
    have h4 := H9.out.below h H9.out.lt
    have h5 := H10.out.below h H10.out.lt
    exact ⟨h1.cell 0, h1.cell 1, h1.cell 2, h1.cell 3, h1.cell 4, h1.cell 5, h1.cell 6, h1.cell 7, h1.cell 8, h2.cell 0, h2.cell 1, h2.cell 2, h2.cell 3, h2.cell 4, h2.cell 5, h2.cell 6, h2.cell 7, h2.cell 8, h3.cell 0, h3.cell 1, h3.cell 2, h3.cell 3, h3.cell 4, h3.cell 5, h3.cell 6, h3.cell 7, h3.cell 8, h4.cell 0, h4.cell 1, h4.cell 2, h4.cell 3, h4.cell 4, h4.cell 5, h4.cell 6, h4.cell 7, h4.cell 8, h5.cell 0, h5.cell 1, h5.cell 2, h5.cell 3, h5.cell 4, h5.cell 5, h5.cell 6, h5.cell 7, h5.cell 8⟩)
  have HBE := Lib.hid (below_al (Below.refl u2.heap.size u2) (.cells #[] 45))
  have HOE : Hid (OwnR (u2.alloc (.cells #[] 45)) u2.heap.size 45 13 (.slice (some ⟨u2.heap.size, 0, none⟩) 0 0) []) := Lib.hid (OwnR.empty u2 u2.heap.size 45 13 (Nat.le_refl _))
  rw [HU2.out] at HOE HBE
  have HRL := Lib.hid (HI2.out.below (below_al (Below.refl u2.heap.size u2) (.cells #[] 45))).1
  have HES : Hid (w2.heap.size + 1 + 1 ≤ (u2.alloc (.cells #[] 45)).heap.size) := Lib.hid (by have := HBE.out.size; have := HU2.out; omega)
  rw [← hu2] at HOE HRL HES
  have hu3 := Lib.hid hu2
  clear hu2 HX2 H7b H8b H9 H10
  go_wp2_with (at_builtin; refine wpList_catR _ (w2.heap.size + 1 + 1) [] (l.map trdV) _ _ _ 45 13 144 _ Try.underlying48 info_trd rfl (by decide) rfl rfl _ _ _ _ rfl rfl ?c0 HOE.out HRL.out (trdV_one l) ?c3 ?c4 HES.out ?_)
  case c0 => simp
  case c3 => have := HLN.out; simp; omega
  case c4 => have := HLN.out; simp [maxLen]; omega
  rintro v3 w3 hO hb hg
  rw [hu3.out] at hb
  obtain ⟨A3, c3, rfl, hR, hc3⟩ := hO.recs
  have HL3 : Hid (Trds w3 A3 l) := Lib.hid ⟨by simpa using hR, HTQ.out⟩
  have HB23 : Hid (Below u2.heap.size u2 w3) := Lib.hid ((below_al (Below.refl u2.heap.size u2) (.cells #[] 45)).trans (by rw [HU2.out]; exact hb))
  have HI3 := Lib.hid (HI2.out.below HB23.out)
  have HB3 := Lib.hid (HB2.out.trans (HB23.out.mono HB2.out.size))
  clear hO hb hg hR hc3 HOE HRL HES HBE HI2 hu3
  go_wp2_with fail
  refine (C3.out _ _ _ (by simp) _ HL3.out).mono ?_
  rintro e w4 ⟨v, rfl, o4, b4⟩
  obtain ⟨A4, c4, rfl, hR4, hc4⟩ := o4.recs
  have HL4 : Hid (Legs w4 A4 al) := Lib.hid ⟨hR4, HAQ.out⟩
  have HB24 := Lib.hid (HB23.out.trans (b4.mono HB23.out.size))
  have HI4 := Lib.hid (HI3.out.below b4)
  have HB4 := Lib.hid (HB3.out.trans (b4.mono HB3.out.size))
  have HSG : Hid (∀ ww, Below w4.heap.size w4 ww → ww.cell? ⟨w.heap.size + 1, 0, none⟩ = some (.string x.am) ∧ ww.cell? ⟨w.heap.size + 1, 1, none⟩ = some (.string x.an) ∧ ww.cell? ⟨w.heap.size + 1, 2, none⟩ = some (.string x.ser.prod) ∧ ww.cell? ⟨w.heap.size + 1, 3, none⟩ = some (.int .i64 x.ser.kind) ∧ ww.cell? ⟨w.heap.size + 1, 4, none⟩ = some (.int .i64 x.ser.expiry) ∧ ww.cell? ⟨w.heap.size + 1, 5, none⟩ = some (.int .i64 x.ser.strike) ∧ ww.cell? ⟨w.heap.size + 1, 6, none⟩ = some (.int .i64 x.qty) ∧ ww.cell? ⟨w.heap.size + 1, 7, none⟩ = some (.int .i64 x.price) ∧ ww.cell? ⟨w.heap.size + 1, 8, none⟩ = some (.int .i64 x.trade) ∧ ww.cell? ⟨w1.heap.size, 0, none⟩ = some (.string bb.am) ∧ ww.cell? ⟨w1.heap.size, 1, none⟩ = some (.string bb.an) ∧ ww.cell? ⟨w1.heap.size, 2, none⟩ = some (.string bb.ser.prod) ∧ ww.cell? ⟨w1.heap.size, 3, none⟩ = some (.int .i64 bb.ser.kind) ∧ ww.cell? ⟨w1.heap.size, 4, none⟩ = some (.int .i64 bb.ser.expiry) ∧ ww.cell? ⟨w1.heap.size, 5, none⟩ = some (.int .i64 bb.ser.strike) ∧ ww.cell? ⟨w1.heap.size, 6, none⟩ = some (.int .i64 bb.qty) ∧ ww.cell? ⟨w1.heap.size, 7, none⟩ = some (.int .i64 bb.price) ∧ ww.cell? ⟨w1.heap.size, 8, none⟩ = some (.int .i64 bb.trade) ∧ ww.cell? ⟨w1.heap.size + 1, 0, none⟩ = some (.string ss.am) ∧ ww.cell? ⟨w1.heap.size + 1, 1, none⟩ = some (.string ss.an) ∧ ww.cell? ⟨w1.heap.size + 1, 2, none⟩ = some (.string ss.ser.prod) ∧ ww.cell? ⟨w1.heap.size + 1, 3, none⟩ = some (.int .i64 ss.ser.kind) ∧ ww.cell? ⟨w1.heap.size + 1, 4, none⟩ = some (.int .i64 ss.ser.expiry) ∧ ww.cell? ⟨w1.heap.size + 1, 5, none⟩ = some (.int .i64 ss.ser.strike) ∧ ww.cell? ⟨w1.heap.size + 1, 6, none⟩ = some (.int .i64 ss.qty) ∧ ww.cell? ⟨w1.heap.size + 1, 7, none⟩ = some (.int .i64 ss.price) ∧ ww.cell? ⟨w1.heap.size + 1, 8, none⟩ = some (.int .i64 ss.trade) ∧ ww.cell? ⟨w2.heap.size, 0, none⟩ = some (.string bb.am) ∧ ww.cell? ⟨w2.heap.size, 1, none⟩ = some (.string bb.an) ∧ ww.cell? ⟨w2.heap.size, 2, none⟩ = some (.string bb.ser.prod) ∧ ww.cell? ⟨w2.heap.size, 3, none⟩ = some (.int .i64 bb.ser.kind) ∧ ww.cell? ⟨w2.heap.size, 4, none⟩ = some (.int .i64 bb.ser.expiry) ∧ ww.cell? ⟨w2.heap.size, 5, none⟩ = some (.int .i64 bb.ser.strike) ∧ ww.cell? ⟨w2.heap.size, 6, none⟩ = some (.int .i64 bb.qty) ∧ ww.cell? ⟨w2.heap.size, 7, none⟩ = some (.int .i64 bb.price) ∧ ww.cell? ⟨w2.heap.size, 8, none⟩ = some (.int .i64 bb.trade) ∧ ww.cell? ⟨w2.heap.size + 1, 0, none⟩ = some (.string ss.am) ∧ ww.cell? ⟨w2.heap.size + 1, 1, none⟩ = some (.string ss.an) ∧ ww.cell? ⟨w2.heap.size + 1, 2, none⟩ = some (.string ss.ser.prod) ∧ ww.cell? ⟨w2.heap.size + 1, 3, none⟩ = some (.int .i64 ss.ser.kind) ∧ ww.cell? ⟨w2.heap.size + 1, 4, none⟩ = some (.int .i64 ss.ser.expiry) ∧ ww.cell? ⟨w2.heap.size + 1, 5, none⟩ = some (.int .i64 ss.ser.strike) ∧ ww.cell? ⟨w2.heap.size + 1, 6, none⟩ = some (.int .i64 ss.qty) ∧ ww.cell? ⟨w2.heap.size + 1, 7, none⟩ = some (.int .i64 ss.price) ∧ ww.cell? ⟨w2.heap.size + 1, 8, none⟩ = some (.int .i64 ss.trade)) := Lib.hid (fun ww h => HSF.out ww (HB24.out.trans (h.mono HB24.out.size)))
  have HBw : Hid (Below w4.heap.size w4 w4.drew) := Lib.hid (Below.refl _ _).drew
  clear o4 b4 hR4 hc4 HSF HB24 HB23 HB3 HI3 HL3 HB2 HU2 C3
  go_wp2_with fail
  go_region_held3 (fun ww => ww.cell? ⟨w.heap.size + 1, 0, none⟩ = some (.string x.am) ∧ ww.cell? ⟨w.heap.size + 1, 1, none⟩ = some (.string x.an) ∧ ww.cell? ⟨w.heap.size + 1, 2, none⟩ = some (.string x.ser.prod) ∧ ww.cell? ⟨w.heap.size + 1, 3, none⟩ = some (.int .i64 x.ser.kind) ∧ ww.cell? ⟨w.heap.size + 1, 4, none⟩ = some (.int .i64 x.ser.expiry) ∧ ww.cell? ⟨w.heap.size + 1, 5, none⟩ = some (.int .i64 x.ser.strike) ∧ ww.cell? ⟨w.heap.size + 1, 6, none⟩ = some (.int .i64 x.qty) ∧ ww.cell? ⟨w.heap.size + 1, 7, none⟩ = some (.int .i64 x.price) ∧ ww.cell? ⟨w.heap.size + 1, 8, none⟩ = some (.int .i64 x.trade) ∧ ww.cell? ⟨w1.heap.size, 0, none⟩ = some (.string bb.am) ∧ ww.cell? ⟨w1.heap.size, 1, none⟩ = some (.string bb.an) ∧ ww.cell? ⟨w1.heap.size, 2, none⟩ = some (.string bb.ser.prod) ∧ ww.cell? ⟨w1.heap.size, 3, none⟩ = some (.int .i64 bb.ser.kind) ∧ ww.cell? ⟨w1.heap.size, 4, none⟩ = some (.int .i64 bb.ser.expiry) ∧ ww.cell? ⟨w1.heap.size, 5, none⟩ = some (.int .i64 bb.ser.strike) ∧ ww.cell? ⟨w1.heap.size, 6, none⟩ = some (.int .i64 bb.qty) ∧ ww.cell? ⟨w1.heap.size, 7, none⟩ = some (.int .i64 bb.price) ∧ ww.cell? ⟨w1.heap.size, 8, none⟩ = some (.int .i64 bb.trade) ∧ ww.cell? ⟨w1.heap.size + 1, 0, none⟩ = some (.string ss.am) ∧ ww.cell? ⟨w1.heap.size + 1, 1, none⟩ = some (.string ss.an) ∧ ww.cell? ⟨w1.heap.size + 1, 2, none⟩ = some (.string ss.ser.prod) ∧ ww.cell? ⟨w1.heap.size + 1, 3, none⟩ = some (.int .i64 ss.ser.kind) ∧ ww.cell? ⟨w1.heap.size + 1, 4, none⟩ = some (.int .i64 ss.ser.expiry) ∧ ww.cell? ⟨w1.heap.size + 1, 5, none⟩ = some (.int .i64 ss.ser.strike) ∧ ww.cell? ⟨w1.heap.size + 1, 6, none⟩ = some (.int .i64 ss.qty) ∧ ww.cell? ⟨w1.heap.size + 1, 7, none⟩ = some (.int .i64 ss.price) ∧ ww.cell? ⟨w1.heap.size + 1, 8, none⟩ = some (.int .i64 ss.trade) ∧ ww.cell? ⟨w2.heap.size, 0, none⟩ = some (.string bb.am) ∧ ww.cell? ⟨w2.heap.size, 1, none⟩ = some (.string bb.an) ∧ ww.cell? ⟨w2.heap.size, 2, none⟩ = some (.string bb.ser.prod) ∧ ww.cell? ⟨w2.heap.size, 3, none⟩ = some (.int .i64 bb.ser.kind) ∧ ww.cell? ⟨w2.heap.size, 4, none⟩ = some (.int .i64 bb.ser.expiry) ∧ ww.cell? ⟨w2.heap.size, 5, none⟩ = some (.int .i64 bb.ser.strike) ∧ ww.cell? ⟨w2.heap.size, 6, none⟩ = some (.int .i64 bb.qty) ∧ ww.cell? ⟨w2.heap.size, 7, none⟩ = some (.int .i64 bb.price) ∧ ww.cell? ⟨w2.heap.size, 8, none⟩ = some (.int .i64 bb.trade) ∧ ww.cell? ⟨w2.heap.size + 1, 0, none⟩ = some (.string ss.am) ∧ ww.cell? ⟨w2.heap.size + 1, 1, none⟩ = some (.string ss.an) ∧ ww.cell? ⟨w2.heap.size + 1, 2, none⟩ = some (.string ss.ser.prod) ∧ ww.cell? ⟨w2.heap.size + 1, 3, none⟩ = some (.int .i64 ss.ser.kind) ∧ ww.cell? ⟨w2.heap.size + 1, 4, none⟩ = some (.int .i64 ss.ser.expiry) ∧ ww.cell? ⟨w2.heap.size + 1, 5, none⟩ = some (.int .i64 ss.ser.strike) ∧ ww.cell? ⟨w2.heap.size + 1, 6, none⟩ = some (.int .i64 ss.qty) ∧ ww.cell? ⟨w2.heap.size + 1, 7, none⟩ = some (.int .i64 ss.price) ∧ ww.cell? ⟨w2.heap.size + 1, 8, none⟩ = some (.int .i64 ss.trade))
    (with_reducible exact HSG.out _ HBw.out)
    (first
      | (go_at_call 20; refine (C5.out _).mono ?_; rintro e w5 ⟨rfl, b5⟩; replace HBw := Lib.hid (HBw.out.trans (b5.mono HBw.out.size)); clear b5)
      | (go_at_call 21; refine (C6.out _).mono ?_; rintro e w5 ⟨rfl, b5⟩; replace HBw := Lib.hid (HBw.out.trans (b5.mono HBw.out.size)); clear b5)
      | (go_at_call 23; refine (C4.out _ (HI4.out.below HBw.out)).mono ?_; rintro e w5 ⟨v5, rfl, o5, b5⟩; obtain ⟨A5, c5, rfl, hR5, hc5⟩ := o5.recs; have HL5 : Hid (Legs w5 A5 al) := Lib.hid ⟨hR5, HAQ.out⟩; replace HBw := Lib.hid (HBw.out.trans (b5.mono HBw.out.size)); have HL6 := Lib.hid (HL4.out.below HBw.out); clear o5 b5 hR5 hc5)
      | (go_at_call 22; refine (C7.out _ _ _ _ _ _ (by simp) (by simp) _ HL6.out HL5.out).mono ?_; rintro e w6 ⟨rfl, nd, rfl⟩; replace HBw := Lib.hid (below_drewN HBw.out nd))
      | (go_at_call 16; refine (CG.out _).mono ?_; rintro e w7 ⟨rfl, b7⟩; replace HBw := Lib.hid (HBw.out.trans (b7.mono HBw.out.size)); clear b7))
  all_goals (
    have HBF := Lib.hid (HB4.out.trans (HBw.out.mono HB4.out.size))
    clear HSG HBw
    go_wp2_with fail
    go_ret
    exact ⟨rfl, HBF.out⟩)
end Go.Proofs.Ytafdjiilmogcjaa.novateLegs

/- What the reach says of a text that opens a record, over any program. -/
namespace Go.Recs
open Go.ChangeShapes Go.WideShapes Go.RowKit Go.Deep
set_option linter.unusedVariables false
theorem first_sized {H : Type} {enc : TypeId × Value → H} {P : Program} {W : World} {base : Nat} {spare : Nat → Bool} {held : Bool} {T : TypeId} {cs : Array Value} {d : DataW H} {p : List MemPlace} {fs : Array Field} {f : Field} {s : ByteArray}
    {ts : List TypeId} {ds : List (DataW H)} {j : Nat}
    (h : (DataW.weightsEach P ts ds).all (· ≤ reachBytes) = true) (ht : ts[j]? = some T) (hd : ds[j]? = some d)
    (hT : DataW.Trod enc P W base spare held T (.agg cs) d p) (hu : P.underlying T = some (.struct fs)) (hf : fs[0]? = some f) (ho : f.offset = 0) (hs : P.underlying f.type = some .string) (hc : P.cellsOf f.type = 1) (hcs : cs[0]? = some (.string s)) :
    s.size ≤ 140737488351232 := by
  obtain ⟨fuel, hx⟩ := hT
  obtain ⟨xs, n, _, hxd, _, hxl, hfl⟩ := DataW.trod_struct hu hx
  have h0 := hfl 0 f hf
  have hpos : 0 < xs.length := by
    rw [hxl]
    rcases Nat.eq_zero_or_pos fs.size with e | e
    · rw [Array.getElem?_eq_none (by omega)] at hf; cases hf
    · exact e
  rw [List.getElem?_eq_getElem hpos] at h0
  obtain ⟨t, ht0, hx0, _⟩ := DataW.trod_string hs h0
  rw [ho, hc, List.drop_zero] at ht0
  have ets : t = s := by
    have e1 : (Value.agg cs).cells.toList.take 1 = [Value.string t] := ht0
    have e2 : (Value.agg cs).cells.toList[0]? = some (Value.string s) := by simpa [Value.cells] using hcs
    cases hl : (Value.agg cs).cells.toList with
    | nil => rw [hl] at e2; cases e2
    | cons a r => rw [hl] at e1 e2; simp at e1 e2; rw [e1] at e2; injection e2
  subst ets
  injection hxd with hd1 _
  have hw : t.data.toList.length ∈ d.weights P T := by
    rw [hd1]
    simp only [DataW.weights, hu]
    have hm := DataW.weights_mem_each (P := P) (ts := fs.toList.map (·.type)) (ds := xs.map (·.1)) (j := 0) (t := f.type) (d := xs[0].1) (by rw [List.getElem?_map, Array.getElem?_toList, hf]; rfl) (by rw [List.getElem?_map, List.getElem?_eq_getElem hpos]; rfl) t.data.toList.length
    apply hm
    rw [hx0]
    simp [DataW.weights]
  have := List.all_eq_true.1 h _ (DataW.weights_mem_each ht hd _ hw)
  have e : t.data.toList.length = t.size := Array.length_toList
  rw [e] at this
  have hr : reachBytes = 140737488351232 := by decide
  rw [← hr]
  simpa using this
end Go.Recs
