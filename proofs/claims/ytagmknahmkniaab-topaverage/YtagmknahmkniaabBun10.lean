/- Put together: GivA, GivB, MapEnt, KeyBase, GivC0, GivC, GivD. -/
import Derived.Test.YtagmknahmkniaabBun6
import Derived.Test.YtagmknahmkniaabBun9
import Derived.BigQuiet
import Derived.Test.YtagmknahmkniaabBun8
import Derived.WalkMore
import Derived.Maps.OwnOps
import Derived.Maps.RangeWalk
import Derived.DeepKeys4
import Derived.WideKeyEntry
import Derived.Test.YtagmknahmkniaabBun3
import Derived.WalkArith
/- Contracts of layer 14: what is within bounds; the lots that an account bought and sold. -/
namespace Go.Proofs.Ytagmknahmkniaab
open Go.RowKit Go.Recs
set_option linter.unusedVariables false
set_option linter.unusedSimpArgs false
theorem gwithin_any (n a b : Int) (w : World) :
    Calls Try.prog 126 #[.int .i64 n, .int .i64 a, .int .i64 b] w fun e w' => e = .returned (.bool (decide (a ≤ n) && decide (n ≤ b))) ∧ w = w' := by
  rcases Int.lt_or_le n a with h1 | h1
  · have e : (decide (a ≤ n) && decide (n ≤ b)) = false := by simp; omega
    rw [e]
    go_enter Try.func126, Try.ntmps126
    go_wp2
    go_ret
    exact ⟨rfl, rfl⟩
  · rcases Int.lt_or_le b n with h2 | h2
    · have e : (decide (a ≤ n) && decide (n ≤ b)) = false := by simp; omega
      rw [e]
      have h3 : ¬ n ≤ b := by omega
      go_enter Try.func126, Try.ntmps126
      go_wp2
      go_ret
      exact ⟨rfl, rfl⟩
    · have e : (decide (a ≤ n) && decide (n ≤ b)) = true := by simp; omega
      rw [e]
      go_enter Try.func126, Try.ntmps126
      go_wp2
      go_ret
      exact ⟨rfl, rfl⟩
theorem gqty_any (n : Int) (w : World) :
    Calls Try.prog 110 #[.int .i64 n] w fun e w' => e = .returned (.bool (GM.okQ n)) ∧ w = w' := by
  have C := gwithin_any n 1 1048576 w
  have hq : GM.okQ n = (decide ((1 : Int) ≤ n) && decide (n ≤ 1048576)) := rfl
  rw [← hq] at C
  have HC := Lib.hid C
  generalize GM.okQ n = b at *
  clear C hq
  go_enter Try.func110, Try.ntmps110
  go_wp2_with fail
  refine HC.out.mono ?_
  rintro e w' ⟨rfl, rfl⟩
  go_wp2_with fail
  go_ret
  exact ⟨rfl, rfl⟩
theorem gcount_any (n : Nat) (w : World) :
    Calls Try.prog 109 #[.int .i64 (n : Int)] w fun e w' => e = .returned (.int .i64 (GM.countE n)) ∧ w = w' := by
  have HC := Lib.hid (gwithin_any (n : Int) 1 1024 w)
  by_cases h : 1 ≤ n ∧ n ≤ 1024
  · have e : (decide ((1 : Int) ≤ (n : Int)) && decide ((n : Int) ≤ 1024)) = true := by simp; omega
    have e2 : GM.countE n = 0 := by unfold GM.countE; rw [if_pos h]
    rw [e] at HC
    rw [e2]
    clear e e2 h
    go_enter Try.func109, Try.ntmps109
    go_wp2_with fail
    refine HC.out.mono ?_
    rintro e w' ⟨rfl, rfl⟩
    go_wp2_with fail
    go_ret
    exact ⟨rfl, rfl⟩
  · have e : (decide ((1 : Int) ≤ (n : Int)) && decide ((n : Int) ≤ 1024)) = false := by simp; omega
    have e2 : GM.countE n = 8 := by unfold GM.countE; rw [if_neg h]
    rw [e] at HC
    rw [e2]
    clear e e2 h
    go_enter Try.func109, Try.ntmps109
    go_wp2_with fail
    refine HC.out.mono ?_
    rintro e w' ⟨rfl, rfl⟩
    go_wp2_with fail
    go_ret
    exact ⟨rfl, rfl⟩

/-- the ways of one trade -/
theorem side_ways (am an : ByteArray) (s : EM.Ser) (t : TM.Trd) :
    (NM.seqB t.ser s = false ∧ GM.sideOf am an s GM.buyer t = 0 ∧ GM.sideOf am an s GM.seller t = 0) ∨
    (NM.seqB t.ser s = true ∧ GM.okQ t.qty = false ∧ GM.sideOf am an s GM.buyer t = 0 ∧ GM.sideOf am an s GM.seller t = 0) ∨
    (NM.seqB t.ser s = true ∧ GM.okQ t.qty = true ∧ GM.sideOf am an s GM.buyer t = (if NM.aeq t.bm t.bn am an = true then t.qty else 0) ∧ GM.sideOf am an s GM.seller t = (if NM.aeq t.sm t.sn am an = true then t.qty else 0)) := by
  unfold GM.sideOf GM.buyer GM.seller
  cases NM.seqB t.ser s
  · exact .inl ⟨rfl, by simp, by simp⟩
  · cases GM.okQ t.qty
    · exact .inr (.inl ⟨rfl, rfl, by simp, by simp⟩)
    · exact .inr (.inr ⟨rfl, rfl, by simp, by simp⟩)
def sidesN (am an : ByteArray) (s : EM.Ser) (b : TM.Trd → ByteArray × ByteArray) (l : List TM.Trd) : Int := GM.sides am an s b l (min l.length 1024)

end Go.Proofs.Ytagmknahmkniaab

/- Contracts of layer 14: a division checked, but for its accounts. -/
namespace Go.Proofs.Ytagmknahmkniaab
open Go.RowKit Go.Recs
set_option linter.unusedVariables false
set_option linter.unusedSimpArgs false
abbrev partC (x : GM.Part) : Array Value := #[.string x.am, .string x.an, .int .i64 x.qty]
abbrev divC (all : Int) (A : Option Addr) (n cap : Nat) : Array Value := #[.int .i64 all, .slice A n cap]
theorem info_part : (Try.prog.info? 71).map (fun i => (i.zero, i.size, i.bytes)) = some (some (.agg #[.string ⟨#[]⟩, .string ⟨#[]⟩, .int .i64 0]), 3, 40) := by kernel_rfl
set_option maxHeartbeats 1000000 in
theorem dcount_any (all : Int) (A : Option Addr) (l : List GM.Part) (n cap : Nat) (hn : n = l.length) (w : World) :
    Calls Try.prog 73 #[.agg #[.int .i64 all, .slice A n cap]] w fun e w' => e = .returned (.int .i64 (GM.countE l.length)) ∧ Below w.heap.size w w' := by
  subst hn
  have HC := Lib.hid (fun ww => gcount_any l.length ww)
  have HB0 := Lib.hid (below_al (Below.refl w.heap.size w) (.cells (divC all A l.length cap) 115))
  generalize GM.countE l.length = r at *
  go_enter Try.func73, Try.ntmps73
  go_wp2_with fail
  refine (HC.out _).mono ?_
  rintro e w' ⟨rfl, rfl⟩
  go_wp2_with fail
  go_ret
  exact ⟨rfl, HB0.out⟩
set_option maxHeartbeats 1000000 in
theorem dsizes_any (all : Int) (A : Option Addr) (l : List GM.Part) (n cap : Nat) (hn : n = l.length) (w : World) (hI : Parts w A l) :
    Calls Try.prog 74 #[.agg #[.int .i64 all, .slice A n cap]] w fun e w' => e = .returned (.int .i64 (GM.sizesE l)) ∧ Below w.heap.size w w' := by
  subst hn
  have hlen := hI.len
  have HC := Lib.hid (fun q ww => gqty_any q ww)
  have HB0 := Lib.hid (below_al (Below.refl w.heap.size w) (.cells (divC all A l.length cap) 115))
  have HI := Lib.hid (hI.below HB0.out)
  have KB := Lib.hid (fun k => @GM.sizes_bad l k); have KO := Lib.hid (@GM.sizes_ok l)
  generalize GM.sizesE l = r at *
  clear hI
  go_enter Try.func74, Try.ntmps74
  go_wp2_with fail
  generalize w.alloc (.cells #[.int .i64 all, .slice A l.length cap] 115) = w0 at *
  go_loopw [4, 8] (fun _ i wr => ∃ k : Nat, k ≤ l.length ∧ i = .int .i64 (k : Int) ∧ Hid (∀ j, j < k → GM.okQ (GM.pAt l j).qty = true) ∧ Hid (Below w0.heap.size w0 wr)) (fun _ i _ => l.length - (intOf i).toNat)
  case atStart => exact ⟨0, by omega, rfl, Lib.hid (fun j h => by omega), Lib.hid (Below.refl _ _)⟩
  case round =>
    obtain ⟨k, hk, rfl, HE, HB⟩ := hrel
    by_cases hlt : k < l.length
    · obtain ⟨b, off, x, rfl, hb, HV, q, d0, d1, d2⟩ := parts_get (HI.out.below HB.out) hlt
      have HB2 := Lib.hid (fun o => HB.out.alloc HB.out.size o)
      have C1 := Lib.hid (fun ww => HC.out x.qty ww)
      clear q
      cases hq : GM.okQ x.qty
      · have HR := Lib.hid (KB.out k hlt (by rw [HV.out]; exact hq))
        rw [hq] at C1
        have HBF := Lib.hid (fun o => HB0.out.trans ((HB2.out o).mono HB0.out.size))
        clear hq
        go_wp2_with fail
        refine (C1.out _).mono ?_
        rintro e w' ⟨rfl, rfl⟩
        go_wp2_with fail
        go_ret
        exact ⟨by rw [HR.out] <;> rfl, HBF.out _⟩
      · rw [hq] at C1
        have HE2 : Hid (∀ j, j < k + 1 → GM.okQ (GM.pAt l j).qty = true) := Lib.hid (fun j hj => by
          rcases Nat.lt_or_ge j k with g | g
          · exact HE.out j g
          · obtain rfl : j = k := by omega
            rw [HV.out]; exact hq)
        clear hq
        go_wp2_with fail
        refine (C1.out _).mono ?_
        rintro e w' ⟨rfl, rfl⟩
        go_wp2_with fail
        go_roundw
        case rel => exact ⟨k + 1, by omega, by go_num, HE2, Lib.hid (HB2.out _)⟩
        case measure => simp [intOf]; omega
    · obtain rfl : k = l.length := by omega
      have HR := Lib.hid (KO.out HE.out)
      have HBF := Lib.hid (HB0.out.trans (HB.out.mono HB0.out.size))
      go_wp2_with fail
      go_ret
      exact ⟨by rw [HR.out] <;> rfl, HBF.out⟩
set_option maxHeartbeats 1000000 in
theorem dsum_any (all : Int) (A : Option Addr) (l : List GM.Part) (n cap : Nat) (hn : n = l.length) (w : World) (hI : Parts w A l) (hq : ∀ x ∈ l, 1 ≤ x.qty ∧ x.qty ≤ 1048576) (hl : l.length ≤ 1024) :
    Calls Try.prog 75 #[.agg #[.int .i64 all, .slice A n cap]] w fun e w' => e = .returned (.int .i64 (GM.sumE all l)) ∧ Below w.heap.size w w' := by
  subst hn
  have hlen := hI.len
  have HB0 := Lib.hid (below_al (Below.refl w.heap.size w) (.cells (divC all A l.length cap) 115))
  have HX0 := Lib.hid (CB.new w 115 (divC all A l.length cap))
  have HI := Lib.hid (hI.below HB0.out)
  have KS := Lib.hid (fun k => @GM.psum_succ l k)
  have KB : Hid (∀ k, k ≤ l.length → 0 ≤ GM.psum (l.take k) ∧ GM.psum (l.take k) ≤ 1073741824) := Lib.hid (fun k hk => by
    have := GM.psum_bound (l := l.take k) (fun x hx => hq x (List.mem_of_mem_take hx))
    rw [List.length_take] at this
    omega)
  have KE : Hid (GM.psum (l.take l.length) = GM.psum l) := Lib.hid (by rw [List.take_length])
  have KR : Hid ((GM.psum l = all → GM.sumE all l = 0) ∧ (¬ GM.psum l = all → GM.sumE all l = 18)) := Lib.hid ⟨fun h => by unfold GM.sumE; rw [if_pos h], fun h => by unfold GM.sumE; rw [if_neg h]⟩
  generalize GM.sumE all l = r at *
  clear hI hq hl
  go_enter Try.func75, Try.ntmps75
  go_wp2_with fail
  generalize w.alloc (.cells #[.int .i64 all, .slice A l.length cap] 115) = w0 at *
  go_loopw [3, 5, 9] (fun v _ i wr => ∃ (k : Nat) (y : Int), k ≤ l.length ∧ i = .int .i64 (k : Int) ∧ v = .int .i64 y ∧ 0 ≤ y ∧ y ≤ 1073741824 ∧ Hid (y = GM.psum (l.take k)) ∧ Hid (Below w0.heap.size w0 wr)) (fun _ _ i _ => l.length - (intOf i).toNat)
  case atStart => exact ⟨0, 0, by omega, rfl, rfl, by omega, by omega, Lib.hid rfl, Lib.hid (Below.refl _ _)⟩
  case round =>
    obtain ⟨k, y, hk, rfl, rfl, y1, y2, HE, HB⟩ := hrel
    by_cases hlt : k < l.length
    · obtain ⟨b, off, x, rfl, hb, HV, q, d0, d1, d2⟩ := parts_get (HI.out.below HB.out) hlt
      have HB2 := Lib.hid (fun o => HB.out.alloc HB.out.size o)
      have HN : Hid (y + x.qty = GM.psum (l.take (k + 1))) := Lib.hid (by rw [KS.out k hlt, HV.out, HE.out])
      have hb1 : 0 ≤ y + x.qty ∧ y + x.qty ≤ 1073741824 := by rw [HN.out]; exact KB.out (k + 1) (by omega)
      have hb2 := hb1.1; have hb3 := hb1.2
      clear q hb1
      go_wp2_with fail
      go_roundw
      case rel => exact ⟨k + 1, y + x.qty, by omega, by go_num, by go_num, hb2, hb3, HN, Lib.hid (HB2.out _)⟩
      case measure => simp [intOf]; omega
    · obtain rfl : k = l.length := by omega
      have hy : y = GM.psum l := HE.out.trans KE.out
      have HBF := Lib.hid (HB0.out.trans (HB.out.mono HB0.out.size))
      have HX := Lib.hid (HX0.out.below HB.out HX0.out.lt)
      have c0 : wr.cell? ⟨w.heap.size, 0, none⟩ = some (.int .i64 all) := HX.out.cell 0
      by_cases hya : y = all
      · have HR := Lib.hid (KR.out.1 (hy ▸ hya))
        subst hya
        clear hy
        go_wp2_with fail
        go_ret
        exact ⟨by rw [HR.out] <;> rfl, HBF.out⟩
      · have HR := Lib.hid (KR.out.2 (fun h => hya (hy.trans h)))
        have hne : (y != all) = true := by simpa using hya
        clear hy hya
        go_wp2_with fail
        go_ret
        exact ⟨by rw [HR.out] <;> rfl, HBF.out⟩
end Go.Proofs.Ytagmknahmkniaab

/- Maps keyed by records: what 'm[k] += v' does, a look-up of a bool; over any program. -/
namespace Go.Recs
open Go.Maps Go.MapKept
open Go.ChangeMaps (setBlock heap_setBlock_same heap_setBlock_other)
open Go.WideElems (Fit)
set_option linter.unusedVariables false
section
variable {H : Type} {P : Program} {w : World} {t k e : TypeId} {q : IntKind} {b n : Nat} {D : DataW H}
/-- a look-up among entries of which one has the key -/
theorem look_hit (K : WideMaps.KeyLaw P k) (ht : P.underlying t = some (.map k e)) {es : Array MapEntry} {clock : Nat} (hb : w.heap[b]? = some (.map es clock)) (hk : ∀ x ∈ es.toList, ∃ l, keyOf P k x.key = some l)
    {key : Value} {kl : Lit} (hkey : keyOf P k key = some kl) {v : Value} (hv : ∀ x ∈ es.toList, x.key = key → x.val = v) (hx : ∃ x ∈ es.toList, x.key = key) :
    (Instr.lookup t (.map (some b)) key false).run P w = .ok v w := by
  rcases K.find w hkey es.toList hk with ⟨_, h2⟩ | ⟨j, e0, h1, h2, h3⟩
  · obtain ⟨x, hx1, hx2⟩ := hx
    exact absurd hx2 (h2 x hx1)
  · have := hv e0 (List.mem_of_getElem? h2) h3
    simp [Instr.lookup, run_underlying ht, MapKept.run_getObj_map hb, K.check w _ hkey, h1, Result.andThen, this]

theorem set_twice (w : World) (b : Nat) (o o' : Obj) : setBlock (setBlock w b o) b o' = setBlock w b o' := by simp [setBlock]

/-- 'm[k] += ..': the entry is laid or found, read before or after, and the sum stored -/
theorem ownsMap_entry (K : WideMaps.KeyLaw P k) (ht : P.underlying t = some (.map k e)) (he : P.underlying e = some (.int q)) (hz : ∀ u : World, (zeroValue e).run P u = .ok (.int q 0) u)
    (h : w.ownsMap P k (plainElem P e) b n D) (hn : n < maxLen) {key : Value} {kl : Lit} (hkey : keyOf P k key = some kl) :
    ∃ (c : Int) (st : Nat) (w1 : World), D.atKey kl (.lit (.int q 0)) = .lit (.int q c) ∧ (Lit.int q c).wf = true ∧
      (Instr.lookup t (.map (some b)) key false).run P w = .ok (.int q c) w ∧ (Instr.lookup t (.map (some b)) key false).run P w1 = .ok (.int q c) w1 ∧
      (Instr.mapEntry t (.map (some b)) key).run P w = .ok (.tuple #[.int q c, .int .i64 st]) w1 ∧ w.grownBy w1 (some b) ∧
      ∀ x : Int, (Lit.int q x).wf = true → ∃ w2, (Instr.entryStore t (.map (some b)) (.int .i64 st) (.int q x)).run P w1 = .ok () w2 ∧ w2.ownsMap P k (plainElem P e) b (n + 1) (D.put kl (.lit (.int q x))) ∧ w.grownBy w2 (some b) := by
  obtain ⟨c, hrun, hat, hwc⟩ := h.lookup_int (Keyed.of_law K) ht he (hz w) hkey
  have hup : ∀ x : Int, (Lit.int q x).wf = true → ∃ w', (Instr.mapUpdate t (.map (some b)) key (.int q x)).run P w = .ok () w' ∧ w'.ownsMap P k (plainElem P e) b (n + 1) (D.put kl (.lit (.int q x))) ∧ w.grownBy w' (some b) :=
    fun x hx => h.update (Keyed.of_law K) ht hn hkey (plainElem_int he hx)
  obtain ⟨es, clock, hb, F, hs, rfl⟩ := h
  obtain ⟨v0, st, es1, clock1, hE, hv0, hS⟩ := Go.WideElems.entry_then_store K ht hz hb F hkey
  have hb1 := heap_setBlock_same hb (.map es1 clock1)
  have hshape : v0 = .int q c ∧ (∀ x ∈ es1.toList, ∃ l, keyOf P k x.key = some l) ∧ (∀ x ∈ es1.toList, x.key = key → x.val = .int q c) ∧ ∃ x ∈ es1.toList, x.key = key := by
    rcases K.find w hkey es.toList F.keys with ⟨h1, h2⟩ | ⟨j, e0, h1, h2, h3⟩
    · have hl : (Instr.lookup t (.map (some b)) key false).run P w = .ok (.int q 0) w := by
        simp [Instr.lookup, run_underlying ht, MapKept.run_getObj_map hb, K.check w _ hkey, h1, hz, Result.andThen]
      have hc : c = 0 := by
        rw [hrun] at hl
        injection hl with e1 _
        injection e1
      subst hc
      have hE2 : (Instr.mapEntry t (.map (some b)) key).run P w = .ok (.tuple #[.int q 0, goInt clock]) (setBlock w b (.map (es.push ⟨key, .int q 0, clock⟩) (clock + 1))) := by
        simp [Instr.mapEntry, run_underlying ht, MapKept.run_getObj_map hb, K.check w false hkey, h1, hz, MapKept.run_setObj_map _ hb, Result.andThen, setBlock]
      rw [hE] at hE2
      injection hE2 with e1 e2
      have e3 : es1 = es.push ⟨key, .int q 0, clock⟩ := by
        have h4 := heap_setBlock_same hb (.map (es.push ⟨key, .int q 0, clock⟩) (clock + 1))
        rw [← e2, hb1] at h4
        injection h4 with h5
        injection h5
      have e4 : v0 = .int q 0 := by
        injection e1 with e5
        have := congrArg (fun a : Array Value => a[0]?) e5
        simpa using this
      subst e3
      refine ⟨e4, ?_, ?_, ⟨_, by simp; exact .inr rfl, rfl⟩⟩
      · intro x hx
        simp only [Array.toList_push, List.mem_append, List.mem_singleton] at hx
        rcases hx with hx | rfl
        · exact F.keys x hx
        · exact ⟨kl, hkey⟩
      · intro x hx hxk
        simp only [Array.toList_push, List.mem_append, List.mem_singleton] at hx
        rcases hx with hx | rfl
        · exact absurd hxk (h2 x hx)
        · rfl
    · have hj : es[j]? = some e0 := by simpa using h2
      have hl : (Instr.lookup t (.map (some b)) key false).run P w = .ok e0.val w := by
        simp [Instr.lookup, run_underlying ht, MapKept.run_getObj_map hb, K.check w _ hkey, h1, Result.andThen]
      have hc : e0.val = .int q c := by
        rw [hrun] at hl
        injection hl with e1 _
        exact e1.symm
      have hE2 : (Instr.mapEntry t (.map (some b)) key).run P w = .ok (.tuple #[e0.val, goInt e0.born]) (setBlock w b (.map (es.modify j fun e' => { e' with key := key }) clock)) := by
        simp [Instr.mapEntry, run_underlying ht, MapKept.run_getObj_map hb, K.check w false hkey, h1, hj, h3, K.stays w hkey, MapKept.run_setObj_map _ hb, Result.andThen, setBlock]
      rw [hE] at hE2
      injection hE2 with e1 e2
      have e3 : es1 = es.modify j fun e' => { e' with key := key } := by
        have h4 := heap_setBlock_same hb (.map (es.modify j fun e' => { e' with key := key }) clock)
        rw [← e2, hb1] at h4
        injection h4 with h5
        injection h5
      have hsame : es1 = es := by
        rw [e3]
        apply Array.ext'
        rw [Array.toList_modify]
        have : ∀ (l : List MapEntry) (i : Nat), l[i]? = some e0 → l.modify i (fun e' => { e' with key := key }) = l := by
          intro l
          induction l with
          | nil => intro i hi; simp at hi
          | cons a l ih =>
            intro i hi
            cases i with
            | zero =>
              simp at hi
              subst hi
              simp [← h3]
            | succ i => simp at hi; simp [ih i hi]
        exact this es.toList j h2
      have e4 : v0 = .int q c := by
        injection e1 with e5
        have := congrArg (fun a : Array Value => a[0]?) e5
        simp at this
        rw [this, hc]
      subst hsame
      have hm0 : e0 ∈ es1.toList := List.mem_of_getElem? h2
      refine ⟨e4, F.keys, ?_, ⟨e0, hm0, h3⟩⟩
      intro x hx hxk
      have hn := ((stamped_iff es1 clock).1 F.stamped).2.2
      have hxe : x = e0 := Go.entry_eq_of_key hn hx hm0 (hxk.trans h3.symm)
      rw [hxe, hc]
  obtain ⟨rfl, hk1, hv1, hx1⟩ := hshape
  refine ⟨c, st, setBlock w b (.map es1 clock1), hat, hwc, hrun, look_hit K ht hb1 hk1 hkey hv1 hx1, hE, ⟨rfl, rfl, rfl, by simp [setBlock], fun i _ hi => heap_setBlock_other hb _ (fun e => hi (by rw [e]))⟩, fun x hx => ?_⟩
  obtain ⟨es', clock', hst, hmu⟩ := hS (setBlock w b (.map es1 clock1)) (.int q x) hb1
  obtain ⟨w2, hu, hown, hg⟩ := hup x hx
  rw [hmu] at hu
  injection hu with _ hw2
  subst hw2
  rw [set_twice] at hst
  exact ⟨_, hst, hown, hg⟩
end
/-! what a record reads as, as a map's key -/
section
variable {P : Program} {t k : TypeId} {fs : Array Field}
theorem klits_str (h : P.underlying t = some .string) (d : Nat) (s : ByteArray) (hs : s.size ≤ maxLen) : P.keyLits (d + 1) t [.string s] = some [.string s.data.toList] := by simp [Program.keyLits, h, hs]
theorem klits_int {q : IntKind} (h : P.underlying t = some (.int q)) (d : Nat) (n : Int) (hn : (Lit.int q n).wf = true) : P.keyLits (d + 1) t [.int q n] = some [.int q n] := by simp [Program.keyLits, h, hn]
theorem klits_struct (h : P.underlying t = some (.struct fs)) (d : Nat) (cs : List Value) (hc : cs.length = P.cellsOf t ∧ fs.all (·.name != "_") = true) : P.keyLits (d + 1) t cs = (fs.toList.mapM fun f => P.keyLits d f.type ((cs.drop f.offset).take (P.cellsOf f.type))).map List.flatten := by
  conv => lhs; unfold Program.keyLits
  simp only [h]
  split
  · rfl
  · exact absurd hc (by assumption)
theorem kof_struct (h : P.underlying k = some (.struct fs)) (kt : P.keyType k = true) {xs : Array Value} (hx : xs.size = P.cellsOf k) {d : Nat} (hd : P.types.size + 1 = d) {ls : List Lit} (hl : P.keyLits d k xs.toList = some ls) :
    keyOf P k (.agg xs) = some (.string (keyBytes ls)) := by
  subst hd
  simp [keyOf, h, kt, Value.formed, hx, Value.cells, hl]
end
end Go.Recs

/- A record as a map's key: what every such key stands on. -/
namespace Go.Proofs.Ytagmknahmkniaab
open Go.RowKit Go.Recs Go.Maps
set_option linter.unusedVariables false
theorem laid_ok : laidOutB Try.prog = true := by kernel_rfl
theorem str_cells : Try.prog.cellsOf 9 = 1 := by kernel_rfl
theorem int_cells : Try.prog.cellsOf 3 = 1 := by kernel_rfl
theorem types_two : ∃ m, Try.prog.types.size + 1 = m + 1 + 1 := by
  have h : 0 < Try.prog.types.size := of_decide_eq_true (by kernel_rfl)
  generalize Try.prog.types.size = n at *
  exact ⟨n - 1, by omega⟩
end Go.Proofs.Ytagmknahmkniaab

/- An account's name as a map's key; a look-up of a bool. -/
namespace Go.Recs
open Go.Maps
/-- 'm[k]' at bools -/
theorem wpList_lookB {H : Type} {P : Program} (w : World) {ops : Array Oper} {rest : List Oper} {o : Oper} {a : Act} {Q : Exit → Act → World → Prop}
    (hg : o.guard = none) (m x : Operand) (t : TypeId) (hop : o.op = Op.lookup t m x false)
    (k e : TypeId) (K : Keyed P k) (ht : P.underlying t = some (.map k e)) (he : P.underlying e = some .bool) (hz : (zeroValue e).run P w = .ok (.bool false) w) (b n : Nat) (D : DataW H)
    (hm : a.eval m = .map (some b)) (hown : w.ownsMap P k (plainElem P e) b n D) (key : Value) (kl : Lit) (hx : a.eval x = key) (hkey : keyOf P k key = some kl)
    (hK : ∀ c : Bool, D.atKey kl (.lit (.bool false)) = .lit (.bool c) → wpList P ops Q rest (a.put o.dst (.bool c)) w) :
    wpList P ops Q (o :: rest) a w := by
  refine wpList_plain hg fun K' hK' => ?_
  obtain ⟨v, ps, hrun, hv⟩ := hown.lookup K ht hz (plainElem_bool he false) hkey
  have hc : ∃ c : Bool, v = .bool c ∧ D.atKey kl (.lit (.bool false)) = .lit (.bool c) := by
    unfold plainElem at hv
    rw [he] at hv
    cases v <;> simp at hv
    exact ⟨_, rfl, hv.1.symm⟩
  obtain ⟨c, rfl, hat⟩ := hc
  unfold Oper.wp
  simp [execOp, hop, hm, hx, hrun, Result.andThen]
  exact hK' _ _ (hK c hat)
end Go.Recs
namespace Go.Proofs.Ytagmknahmkniaab
open Go.RowKit Go.Recs Go.Maps
set_option linter.unusedVariables false
set_option linter.unusedSimpArgs false
theorem acc_row_lt : (32 : TypeId) < Try.prog.types.size := of_decide_eq_true (by kernel_rfl)
theorem acc_keyTy : Try.prog.keyTypeAt 2 32 = true := by kernel_rfl
theorem acc_law : WideMaps.KeyLaw Try.prog 32 := deep_law_laid laid_ok (m := 2) (by omega) acc_row_lt acc_keyTy (by rw [Try.underlying32])
theorem acc_keyType : Try.prog.keyType 32 = true := by kernel_rfl
theorem acc_cells : 2 = Try.prog.cellsOf 32 := by kernel_rfl
theorem acc_key (a b : ByteArray) (h1 : a.size ≤ maxLen) (h2 : b.size ≤ maxLen) : ∃ kl, keyOf Try.prog 32 (kA a b) = some kl := by
  obtain ⟨m, hm⟩ := types_two
  have q0 := klits_str Try.underlying9 m a h1
  have q1 := klits_str Try.underlying9 m b h2
  have c9 := str_cells
  have hl := klits_struct Try.underlying32 (m + 1) [.string a, .string b] ⟨acc_cells, by kernel_rfl⟩
  have hk := fun ls => kof_struct (ls := ls) (xs := #[.string a, .string b]) Try.underlying32 acc_keyType acc_cells hm
  generalize Try.prog = P at *
  have e := hk [.string a.data.toList, .string b.data.toList] (by
    rw [hl]
    simp [c9, q0, q1])
  exact ⟨_, e⟩
/-- what an account's name reads as -/
noncomputable def akey (a b : ByteArray) : Lit := (keyOf Try.prog 32 (kA a b)).getD (.bool false)
theorem akey_is {a b : ByteArray} (h1 : a.size ≤ maxLen) (h2 : b.size ≤ maxLen) : keyOf Try.prog 32 (kA a b) = some (akey a b) := by
  obtain ⟨kl, e⟩ := acc_key a b h1 h2
  unfold akey; rw [e]; rfl
set_option maxRecDepth 100000 in
theorem akey_lit {a b : ByteArray} (h1 : a.size ≤ maxLen) (h2 : b.size ≤ maxLen) : WideAt.IsKeyLit (akey a b) := by
  obtain ⟨s', e⟩ := acc_law.str (akey_is h1 h2)
  rw [e]
  trivial
theorem akey_inj {a b c d : ByteArray} (h1 : a.size ≤ maxLen) (h2 : b.size ≤ maxLen) (h3 : c.size ≤ maxLen) (h4 : d.size ≤ maxLen) (h : akey a b = akey c d) : a = c ∧ b = d := by
  have e1 := akey_is h1 h2
  rw [h] at e1
  have e2 := acc_law.inj e1 (akey_is h3 h4)
  simpa using e2
end Go.Proofs.Ytagmknahmkniaab

/- Contracts of layer 14: no account twice, by a map. -/
namespace Go.Proofs.Ytagmknahmkniaab
open Go.RowKit Go.Recs Go.Maps
set_option linter.unusedVariables false
set_option linter.unusedSimpArgs false
abbrev bL (b : Bool) : DataW Unit := .lit (.bool b)
def Asked (l : List GM.Part) (k : Nat) (D : DataW Unit) : Prop := ∀ x : GM.Part, x.am.size ≤ maxLen → x.an.size ≤ maxLen → D.atKey (akey x.am x.an) (bL false) = bL (GM.pseen l k x)
theorem Asked.start (l : List GM.Part) : Asked l 0 (.map []) := fun x _ _ => by rw [GM.pseen_zero]; rfl
set_option maxRecDepth 100000 in
theorem Asked.step {l : List GM.Part} {k : Nat} {D : DataW Unit} (h : Asked l k D) (hD : IsMap D) (hk : k < l.length) {y : GM.Part} (hy : GM.pAt l k = y) (h1 : y.am.size ≤ maxLen) (h2 : y.an.size ≤ maxLen) :
    Asked l (k + 1) (D.put (akey y.am y.an) (bL true)) := by
  intro x x1 x2
  have hK := @akey_lit y.am y.an h1 h2
  rw [GM.pseen_succ hk, hy]
  cases e : NM.aeq y.am y.an x.am x.an
  · have hne : akey x.am x.an ≠ akey y.am y.an := fun e2 => by
      obtain ⟨a1, a2⟩ := akey_inj x1 x2 h1 h2 e2
      rw [NM.aeq_iff.2 ⟨a1.symm, a2.symm⟩] at e
      cases e
    rw [atKey_put_other hne, h x x1 x2, Bool.or_false]
  · obtain ⟨a1, a2⟩ := NM.aeq_iff.1 e
    rw [← a1, ← a2, atKey_put_same hD hK, Bool.or_true]
theorem bool_zero (u : World) : (zeroValue 4).run Try.prog u = .ok (.bool false) u := by kernel_rfl
theorem mapB_under : Try.prog.underlying 170 = some (.map 32 4) := Try.underlying170
theorem ownsB_isMap {P : Program} {w : World} {k : TypeId} {R : Value → Option (DataW Unit × List MemPlace)} {b n : Nat} {D : DataW Unit} (h : w.ownsMap P k R b n D) : IsMap D := by
  obtain ⟨es, clock, _, _, _, rfl⟩ := h
  exact ⟨_, rfl⟩

set_option maxHeartbeats 8000000 in
set_option maxRecDepth 100000 in
theorem daccounts_any (all : Int) (A : Option Addr) (l : List GM.Part) (n cap : Nat) (hn : n = l.length) (w : World) (hI : Parts w A l) (hl : l.length ≤ 1024) :
    Calls Try.prog 76 #[.agg #[.int .i64 all, .slice A n cap]] w fun e w' => e = .returned (.int .i64 (GM.accE l)) ∧ Below w.heap.size w w' := by
  subst hn
  have hlen := hI.len
  have HB0 := Lib.hid (below_al (Below.refl w.heap.size w) (.cells (divC all A l.length cap) 115))
  have HX0 := Lib.hid (CB.new w 115 (divC all A l.length cap))
  have HI := Lib.hid (hI.below HB0.out)
  have KB := Lib.hid (fun k => @GM.acc_bad l k); have KO := Lib.hid (@GM.acc_ok l)
  generalize GM.accE l = r at *
  have hmm := @run_makeMap Try.prog
  clear hI
  go_enter Try.func76, Try.ntmps76
  go_wp2_with fail
  have HOM : Hid (((w.alloc (.cells #[.int .i64 all, .slice A l.length cap] 115)).alloc (.map #[] 0)).ownsMap Try.prog 32 (plainElem (H := Unit) Try.prog 4) (w.heap.size + 1) 0 (.map [])) := Lib.hid (by
    have h := World.ownsMap_made (H := Unit) (w.alloc (.cells #[.int .i64 all, .slice A l.length cap] 115)) Try.prog 32 (plainElem Try.prog 4)
    rwa [show (w.alloc (.cells #[.int .i64 all, .slice A l.length cap] 115)).heap.size = w.heap.size + 1 by simp] at h)
  have HI1 := Lib.hid (HI.out.below (below_al (Below.refl _ (w.alloc (.cells #[.int .i64 all, .slice A l.length cap] 115))) (.map #[] 0)))
  have HB1 := Lib.hid (below_al HB0.out (.map #[] 0))
  have HWS : Hid ((w.alloc (.cells #[.int .i64 all, .slice A l.length cap] 115)).heap.size = w.heap.size + 1) := Lib.hid (by simp)
  generalize w.alloc (.cells #[.int .i64 all, .slice A l.length cap] 115) = w0 at *
  go_loopw [5, 10] (fun _ i wr => ∃ (k : Nat) (D : DataW Unit), k ≤ l.length ∧ i = .int .i64 (k : Int) ∧ Hid (wr.ownsMap Try.prog 32 (plainElem Try.prog 4) (w.heap.size + 1) k D) ∧ Hid (Asked l k D) ∧ Hid (∀ j, j < k → GM.pseen l j (GM.pAt l j) = false) ∧ Hid (Below (w.heap.size + 1) w0 wr)) (fun _ i _ => l.length - (intOf i).toNat)
  case atStart => exact ⟨0, .map [], by omega, rfl, HOM, Lib.hid (Asked.start l), Lib.hid (fun j h => by omega), Lib.hid ((Below.refl _ _).alloc (by rw [HWS.out]; exact Nat.le_refl _) _)⟩
  case round =>
    obtain ⟨k, D, hk, rfl, HM, HA, HE, HB⟩ := hrel
    by_cases hlt : k < l.length
    · have HBB : Hid (Below w0.heap.size w0 wr) := Lib.hid (by rw [HWS.out]; exact HB.out)
      obtain ⟨b, off, x, rfl, hb, HV, ⟨q1, q2, q3⟩, d0, d1, d2⟩ := parts_get (HI.out.below HBB.out) hlt
      have hat := HA.out x q1 q2
      have HMx := Lib.hid (HM.out.alloc (.cells (partC x) 71))
      have HBx := Lib.hid (HB.out.alloc (by have := HM.out.lt; omega) (.cells (partC x) 71))
      have HS := Lib.hid (HA.out.step (ownsB_isMap HM.out) hlt HV.out q1 q2)
      have HK := Lib.hid (akey_is q1 q2)
      have HBF := Lib.hid (fun (u : World) (h : Below (w.heap.size + 1) w0 u) => HB0.out.trans (h.mono (Nat.le_succ _)))
      have HSZ : Hid (w.heap.size + 1 ≤ (wr.alloc (.cells (partC x) 71)).heap.size) := Lib.hid (Nat.le_of_lt HMx.out.lt)
      clear q3
      cases hs : GM.pseen l k x
      · have HE2 : Hid (∀ j, j < k + 1 → GM.pseen l j (GM.pAt l j) = false) := Lib.hid (fun j hj => by
          rcases Nat.lt_or_ge j k with g | g
          · exact HE.out j g
          · obtain rfl : j = k := by omega
            rw [HV.out]; exact hs)
        rw [hs] at hat
        have HAT := Lib.hid hat
        clear hs hat q1 q2 HV
        go_wp2_with (first
          | (at_lookup; refine wpList_lookB _ rfl _ _ 170 rfl 32 4 (Keyed.of_law acc_law) mapB_under Try.underlying4 (bool_zero _) (w.heap.size + 1) k _ rfl HMx.out _ _ rfl HK.out ?_; intro c hc; obtain rfl : c = false := (by rw [HAT.out] at hc; injection hc with e1; injection e1 with e2; exact e2.symm); clear hc)
          | (at_mapUpdate; refine wpList_mapUpdate_own _ rfl _ _ _ 170 rfl 32 4 (Keyed.of_law acc_law) mapB_under _ (w.heap.size + 1) k _ rfl HMx.out (by unfold maxLen; omega) _ _ _ rfl rfl HK.out _ [] (plainElem_bool Try.underlying4 true) ?_; intro w3 hown3 gr3; go_frame))
        have HM3 := Lib.hid hown3
        have HB3 := Lib.hid (HBx.out.grown gr3 HSZ.out (fun j hj => by injection hj with hj; omega))
        clear hown3 gr3
        go_wp2_with fail
        go_roundw
        case rel => exact ⟨k + 1, _, by omega, by go_num, HM3, HS, HE2, HB3⟩
        case measure => simp [intOf]; omega
      · have HR := Lib.hid (KB.out k hlt (by rw [HV.out]; exact hs))
        rw [hs] at hat
        have HAT := Lib.hid hat
        clear hs hat q1 q2 HV
        go_wp2_with (at_lookup; refine wpList_lookB _ rfl _ _ 170 rfl 32 4 (Keyed.of_law acc_law) mapB_under Try.underlying4 (bool_zero _) (w.heap.size + 1) k _ rfl HMx.out _ _ rfl HK.out ?_; intro c hc; obtain rfl : c = true := (by rw [HAT.out] at hc; injection hc with e1; injection e1 with e2; exact e2.symm))
        clear hc
        go_wp2_with fail
        go_ret
        exact ⟨by rw [HR.out] <;> rfl, HBF.out _ HBx.out⟩
    · obtain rfl : k = l.length := by omega
      have HR := Lib.hid (KO.out HE.out)
      have HBF := Lib.hid (HB0.out.trans (HB.out.mono (Nat.le_succ _)))
      go_wp2_with fail
      go_ret
      exact ⟨by rw [HR.out] <;> rfl, HBF.out⟩
end Go.Proofs.Ytagmknahmkniaab

/- Contracts of layer 14: Check. -/
namespace Go.Proofs.Ytagmknahmkniaab
open Go.RowKit Go.Recs
set_option linter.unusedVariables false
set_option linter.unusedSimpArgs false
theorem or0 {e : Int} {r : List Int} (h : ¬ e = 0) : GM.orE (e :: r) = e := by unfold GM.orE; rw [if_neg h]
theorem orS {e : Int} {r : List Int} (h : e = 0) : GM.orE (e :: r) = GM.orE r := by
  show (if e = 0 then GM.orE r else e) = _
  rw [if_pos h]
theorem count_inv {n : Nat} (h : GM.countE n = 0) : 1 ≤ n ∧ n ≤ 1024 := by
  unfold GM.countE at h
  split at h
  · assumption
  · cases h
set_option maxHeartbeats 8000000 in
set_option maxRecDepth 100000 in
theorem dfirst_any (all : Int) (A : Option Addr) (l : List GM.Part) (cap g : Nat) (w : World) (hI : Parts w A l) (hg : CB w g 116 #[.func (.func 73) #[.agg #[.int .i64 all, .slice A l.length cap]] #[], .func (.func 74) #[.agg #[.int .i64 all, .slice A l.length cap]] #[], .func (.func 75) #[.agg #[.int .i64 all, .slice A l.length cap]] #[], .func (.func 76) #[.agg #[.int .i64 all, .slice A l.length cap]] #[]]) :
    Calls Try.prog 72 #[.slice (some ⟨g, 0, none⟩) 4 4] w fun e w' => e = .returned (.int .i64 (GM.partsE all l)) ∧ Below w.heap.size w w' := by
  have HI := Lib.hid hI
  have HG := Lib.hid hg
  have hgl := hg.lt
  have C0 := Lib.hid (fun ww => dcount_any all A l l.length cap rfl ww)
  have C1 := Lib.hid (fun ww h => dsizes_any all A l l.length cap rfl ww h)
  have C2 : Hid (GM.countE l.length = 0 → GM.sizesE l = 0 → ∀ ww, Parts ww A l → Calls Try.prog 75 #[.agg #[.int .i64 all, .slice A l.length cap]] ww fun e w' => e = .returned (.int .i64 (GM.sumE all l)) ∧ Below ww.heap.size ww w') := Lib.hid (fun h1 h2 ww h => dsum_any all A l l.length cap rfl ww h (GM.sizes_inv h2) (count_inv h1).2)
  have C3 : Hid (GM.countE l.length = 0 → ∀ ww, Parts ww A l → Calls Try.prog 76 #[.agg #[.int .i64 all, .slice A l.length cap]] ww fun e w' => e = .returned (.int .i64 (GM.accE l)) ∧ Below ww.heap.size ww w') := Lib.hid (fun h1 ww h => daccounts_any all A l l.length cap rfl ww h (count_inv h1).2)
  have KR : Hid (GM.partsE all l = GM.orE [GM.countE l.length, GM.sizesE l, GM.sumE all l, GM.accE l]) := Lib.hid rfl
  generalize GM.partsE all l = r at *
  generalize GM.countE l.length = e0 at *
  generalize GM.sizesE l = e1 at *
  generalize GM.sumE all l = e2 at *
  generalize GM.accE l = e3 at *
  clear hI hg
  go_enter Try.func72, Try.ntmps72
  go_wp2_with fail
  go_loopw [4, 5, 8] (fun _ _ i wr => Hid (Below w.heap.size w wr) ∧ (i = .int .i64 0 ∨ (i = .int .i64 1 ∧ Hid (e0 = 0)) ∨ (i = .int .i64 2 ∧ Hid (e0 = 0 ∧ e1 = 0)) ∨ (i = .int .i64 3 ∧ Hid (e0 = 0 ∧ e1 = 0 ∧ e2 = 0)) ∨ (i = .int .i64 4 ∧ Hid (e0 = 0 ∧ e1 = 0 ∧ e2 = 0 ∧ e3 = 0)))) (fun _ _ i _ => 4 - (intOf i).toNat)
  case atStart => exact ⟨Lib.hid (Below.refl _ _), .inl rfl⟩
  case round =>
    obtain ⟨HB, hr⟩ := hrel
    have HGr := Lib.hid (HG.out.below HB.out hgl)
    have HIr := Lib.hid (HI.out.below HB.out)
    rcases hr with rfl | ⟨rfl, hz⟩ | ⟨rfl, hz⟩ | ⟨rfl, hz⟩ | ⟨rfl, hz⟩
    · have c0 : wr.cell? ⟨g, 0, none⟩ = some (.func (.func 73) #[.agg #[.int .i64 all, .slice A l.length cap]] #[]) := HGr.out.cell 0
      by_cases h0 : e0 = 0
      · have HE0 := Lib.hid h0
        have C4 := Lib.hid (C0.out wr)
        rw [h0] at C4
        have HZ : Hid (e0 = 0) := HE0
        clear h0
        go_wp2_with fail
        refine C4.out.mono ?_
        rintro e w1 ⟨rfl, b1⟩
        have HB1 := Lib.hid (HB.out.trans (b1.mono HB.out.size))
        clear b1
        go_wp2_with fail
        go_roundw
        case rel => exact ⟨HB1, .inr (.inl ⟨by go_num, HZ⟩)⟩
        case measure => simp [intOf]
      · have HR : Hid (r = e0) := Lib.hid (by rw [KR.out, or0 h0])
        have C4 := Lib.hid (C0.out wr)
        have hne : (e0 != 0) = true := by simpa using h0
        clear h0
        go_wp2_with fail
        refine C4.out.mono ?_
        rintro e w1 ⟨rfl, b1⟩
        have HB1 := Lib.hid (HB.out.trans (b1.mono HB.out.size))
        clear b1
        go_wp2_with fail
        go_ret
        exact ⟨by rw [HR.out] <;> rfl, HB1.out⟩
    · have c0 : wr.cell? ⟨g, 1, none⟩ = some (.func (.func 74) #[.agg #[.int .i64 all, .slice A l.length cap]] #[]) := HGr.out.cell 1
      by_cases h0 : e1 = 0
      · have HE0 := Lib.hid h0
        have C4 := Lib.hid (C1.out wr HIr.out)
        rw [h0] at C4
        have HZ : Hid (e0 = 0 ∧ e1 = 0) := Lib.hid ⟨hz.out, HE0.out⟩
        clear h0
        go_wp2_with fail
        refine C4.out.mono ?_
        rintro e w1 ⟨rfl, b1⟩
        have HB1 := Lib.hid (HB.out.trans (b1.mono HB.out.size))
        clear b1
        go_wp2_with fail
        go_roundw
        case rel => exact ⟨HB1, .inr (.inr (.inl ⟨by go_num, HZ⟩))⟩
        case measure => simp [intOf]
      · have HR : Hid (r = e1) := Lib.hid (by rw [KR.out, orS hz.out, or0 h0])
        have C4 := Lib.hid (C1.out wr HIr.out)
        have hne : (e1 != 0) = true := by simpa using h0
        clear h0
        go_wp2_with fail
        refine C4.out.mono ?_
        rintro e w1 ⟨rfl, b1⟩
        have HB1 := Lib.hid (HB.out.trans (b1.mono HB.out.size))
        clear b1
        go_wp2_with fail
        go_ret
        exact ⟨by rw [HR.out] <;> rfl, HB1.out⟩
    · have c0 : wr.cell? ⟨g, 2, none⟩ = some (.func (.func 75) #[.agg #[.int .i64 all, .slice A l.length cap]] #[]) := HGr.out.cell 2
      by_cases h0 : e2 = 0
      · have HE0 := Lib.hid h0
        have C4 := Lib.hid (C2.out hz.out.1 hz.out.2 wr HIr.out)
        rw [h0] at C4
        have HZ : Hid (e0 = 0 ∧ e1 = 0 ∧ e2 = 0) := Lib.hid ⟨hz.out.1, hz.out.2, HE0.out⟩
        clear h0
        go_wp2_with fail
        refine C4.out.mono ?_
        rintro e w1 ⟨rfl, b1⟩
        have HB1 := Lib.hid (HB.out.trans (b1.mono HB.out.size))
        clear b1
        go_wp2_with fail
        go_roundw
        case rel => exact ⟨HB1, .inr (.inr (.inr (.inl ⟨by go_num, HZ⟩)))⟩
        case measure => simp [intOf]
      · have HR : Hid (r = e2) := Lib.hid (by rw [KR.out, orS hz.out.1, orS hz.out.2, or0 h0])
        have C4 := Lib.hid (C2.out hz.out.1 hz.out.2 wr HIr.out)
        have hne : (e2 != 0) = true := by simpa using h0
        clear h0
        go_wp2_with fail
        refine C4.out.mono ?_
        rintro e w1 ⟨rfl, b1⟩
        have HB1 := Lib.hid (HB.out.trans (b1.mono HB.out.size))
        clear b1
        go_wp2_with fail
        go_ret
        exact ⟨by rw [HR.out] <;> rfl, HB1.out⟩
    · have c0 : wr.cell? ⟨g, 3, none⟩ = some (.func (.func 76) #[.agg #[.int .i64 all, .slice A l.length cap]] #[]) := HGr.out.cell 3
      by_cases h0 : e3 = 0
      · have HE0 := Lib.hid h0
        have C4 := Lib.hid (C3.out hz.out.1 wr HIr.out)
        rw [h0] at C4
        have HZ : Hid (e0 = 0 ∧ e1 = 0 ∧ e2 = 0 ∧ e3 = 0) := Lib.hid ⟨hz.out.1, hz.out.2.1, hz.out.2.2, HE0.out⟩
        clear h0
        go_wp2_with fail
        refine C4.out.mono ?_
        rintro e w1 ⟨rfl, b1⟩
        have HB1 := Lib.hid (HB.out.trans (b1.mono HB.out.size))
        clear b1
        go_wp2_with fail
        go_roundw
        case rel => exact ⟨HB1, .inr (.inr (.inr (.inr ⟨by go_num, HZ⟩)))⟩
        case measure => simp [intOf]
      · have HR : Hid (r = e3) := Lib.hid (by rw [KR.out, orS hz.out.1, orS hz.out.2.1, orS hz.out.2.2, or0 h0])
        have C4 := Lib.hid (C3.out hz.out.1 wr HIr.out)
        have hne : (e3 != 0) = true := by simpa using h0
        clear h0
        go_wp2_with fail
        refine C4.out.mono ?_
        rintro e w1 ⟨rfl, b1⟩
        have HB1 := Lib.hid (HB.out.trans (b1.mono HB.out.size))
        clear b1
        go_wp2_with fail
        go_ret
        exact ⟨by rw [HR.out] <;> rfl, HB1.out⟩
    · have HR : Hid (r = 0) := Lib.hid (by rw [KR.out, orS hz.out.1, orS hz.out.2.1, orS hz.out.2.2.1, orS hz.out.2.2.2]; rfl)
      go_wp2_with fail
      go_ret
      exact ⟨by rw [HR.out] <;> rfl, HB.out⟩

set_option maxHeartbeats 4000000 in
set_option maxRecDepth 100000 in
theorem dcheck_any (all : Int) (A : Option Addr) (l : List GM.Part) (n cap : Nat) (hn : n = l.length) (w : World) (hI : Parts w A l) :
    Calls Try.prog 40 #[.agg #[.int .i64 all, .slice A n cap]] w fun e w' => e = .returned (.int .i64 (GM.partsE all l)) ∧ Below w.heap.size w w' := by
  subst hn
  have hmf : ∀ (fn : Fn) (first cap : Array Value) (w : World), (Instr.makeFunc fn first cap).run Try.prog w = .ok (.func fn first cap) w := fun _ _ _ _ => rfl
  have HB0 := Lib.hid (below_al (below_al (Below.refl w.heap.size w) (.cells (divC all A l.length cap) 115)) (.cells #[.func (.func 73) #[.agg #[.int .i64 all, .slice A l.length cap]] #[], .func (.func 74) #[.agg #[.int .i64 all, .slice A l.length cap]] #[], .func (.func 75) #[.agg #[.int .i64 all, .slice A l.length cap]] #[], .func (.func 76) #[.agg #[.int .i64 all, .slice A l.length cap]] #[]] 116))
  have HG : Hid (CB ((w.alloc (.cells (divC all A l.length cap) 115)).alloc (.cells #[.func (.func 73) #[.agg #[.int .i64 all, .slice A l.length cap]] #[], .func (.func 74) #[.agg #[.int .i64 all, .slice A l.length cap]] #[], .func (.func 75) #[.agg #[.int .i64 all, .slice A l.length cap]] #[], .func (.func 76) #[.agg #[.int .i64 all, .slice A l.length cap]] #[]] 116)) (w.heap.size + 1) 116 #[.func (.func 73) #[.agg #[.int .i64 all, .slice A l.length cap]] #[], .func (.func 74) #[.agg #[.int .i64 all, .slice A l.length cap]] #[], .func (.func 75) #[.agg #[.int .i64 all, .slice A l.length cap]] #[], .func (.func 76) #[.agg #[.int .i64 all, .slice A l.length cap]] #[]]) := Lib.hid (CB.new1 _ _ _ _)
  have C := Lib.hid (dfirst_any all A l cap (w.heap.size + 1) _ (hI.below HB0.out) HG.out)
  generalize GM.partsE all l = r at *
  clear hI HG
  go_enter Try.func40, Try.ntmps40
  go_wp2_with fail
  refine C.out.mono ?_
  rintro e w1 ⟨rfl, b1⟩
  have HB1 := Lib.hid (HB0.out.trans (b1.mono HB0.out.size))
  clear b1
  go_wp2_with fail
  go_ret
  exact ⟨rfl, HB1.out⟩
end Go.Proofs.Ytagmknahmkniaab
