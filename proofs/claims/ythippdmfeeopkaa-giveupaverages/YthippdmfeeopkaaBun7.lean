/- Put together: KeyBase, GivC0, GivC, GivD, GivE, CentsA, CentsB. -/
import Derived.Test.YthippdmfeeopkaaBun4
import Derived.Test.YthippdmfeeopkaaBun6
import Derived.WalkArith
import Derived.Test.YthippdmfeeopkaaBun5
import Derived.BigQuiet
import Derived.Test.YthippdmfeeopkaaRows
import Derived.Test.YthippdmfeeopkaaBun1
import Derived.WalkKit
import Derived.WalkSpells
import Derived.WalkLawsBesides
import Derived.IntWalk
import Derived.Lib.Hide
import Derived.Test.YthippdmfeeopkaaBun2
import Derived.Deep.QuietTactic
import Derived.Laws.BitsAllLaws
import Derived.Laws.BitsLemmas
/- A record as a map's key: what every such key stands on. -/
namespace Go.Proofs.Ythippdmfeeopkaa
open Go.RowKit Go.Recs Go.Maps
set_option linter.unusedVariables false
theorem laid_ok : laidOutB Try.prog = true := by kernel_rfl
theorem str_cells : Try.prog.cellsOf 9 = 1 := by kernel_rfl
theorem int_cells : Try.prog.cellsOf 3 = 1 := by kernel_rfl
theorem types_two : ∃ m, Try.prog.types.size + 1 = m + 1 + 1 := by
  have h : 0 < Try.prog.types.size := of_decide_eq_true (by kernel_rfl)
  generalize Try.prog.types.size = n at *
  exact ⟨n - 1, by omega⟩
end Go.Proofs.Ythippdmfeeopkaa

/- An account's name as a map's key; a look-up of a bool. -/
namespace Go.Recs
open Go.Maps
/-- 'm[k]' at bools -/
theorem wpList_lookB {H : Type} {P : Program} (w : World) {ops : Array Oper} {rest : List Oper} {o : Oper} {a : Act} {Q : Exit → Act → World → Prop}
    (hg : o.guard = none) (m x : Operand) (t : TypeId) (hop : o.op = Op.lookup t m x false)
    (k e : TypeId) (K : Keyed P k) (ht : P.underlying t = some (.map k e)) (he : P.underlying e = some .bool) (hz : (zeroValue e).run P w = .ok (.bool false) w) (b n : Nat) (D : DataW H)
    (hm : a.eval m = .map (some b)) (hown : w.ownsMap P k (plainElem P e) b n D) (key : Value) (kl : Lit) (hx : a.eval x = key) (hkey : keyOf P k key = some kl)
    (hK : ∀ c : Bool, D.atKey kl (.lit (.bool false)) = .lit (.bool c) → wpList P ops Q rest (a.put o.dst (.bool c)) w) :
    wpList P ops Q (o :: rest) a w := by
  refine wpList_plain hg fun K' hK' => ?_
  obtain ⟨v, ps, hrun, hv⟩ := hown.lookup K ht hz (plainElem_bool he false) hkey
  have hc : ∃ c : Bool, v = .bool c ∧ D.atKey kl (.lit (.bool false)) = .lit (.bool c) := by
    unfold plainElem at hv
    rw [he] at hv
    cases v <;> simp at hv
    exact ⟨_, rfl, hv.1.symm⟩
  obtain ⟨c, rfl, hat⟩ := hc
  unfold Oper.wp
  simp [execOp, hop, hm, hx, hrun, Result.andThen]
  exact hK' _ _ (hK c hat)
end Go.Recs
namespace Go.Proofs.Ythippdmfeeopkaa
open Go.RowKit Go.Recs Go.Maps
set_option linter.unusedVariables false
set_option linter.unusedSimpArgs false
theorem acc_row_lt : (26 : TypeId) < Try.prog.types.size := of_decide_eq_true (by kernel_rfl)
theorem acc_keyTy : Try.prog.keyTypeAt 2 26 = true := by kernel_rfl
theorem acc_law : WideMaps.KeyLaw Try.prog 26 := deep_law_laid laid_ok (m := 2) (by omega) acc_row_lt acc_keyTy (by rw [Try.underlying26])
theorem acc_keyType : Try.prog.keyType 26 = true := by kernel_rfl
theorem acc_cells : 2 = Try.prog.cellsOf 26 := by kernel_rfl
theorem acc_key (a b : ByteArray) (h1 : a.size ≤ maxLen) (h2 : b.size ≤ maxLen) : ∃ kl, keyOf Try.prog 26 (kA a b) = some kl := by
  obtain ⟨m, hm⟩ := types_two
  have q0 := klits_str Try.underlying9 m a h1
  have q1 := klits_str Try.underlying9 m b h2
  have c9 := str_cells
  have hl := klits_struct Try.underlying26 (m + 1) [.string a, .string b] ⟨acc_cells, by kernel_rfl⟩
  have hk := fun ls => kof_struct (ls := ls) (xs := #[.string a, .string b]) Try.underlying26 acc_keyType acc_cells hm
  generalize Try.prog = P at *
  have e := hk [.string a.data.toList, .string b.data.toList] (by
    rw [hl]
    simp [c9, q0, q1])
  exact ⟨_, e⟩
/-- what an account's name reads as -/
noncomputable def akey (a b : ByteArray) : Lit := (keyOf Try.prog 26 (kA a b)).getD (.bool false)
theorem akey_is {a b : ByteArray} (h1 : a.size ≤ maxLen) (h2 : b.size ≤ maxLen) : keyOf Try.prog 26 (kA a b) = some (akey a b) := by
  obtain ⟨kl, e⟩ := acc_key a b h1 h2
  unfold akey; rw [e]; rfl
set_option maxRecDepth 100000 in
theorem akey_lit {a b : ByteArray} (h1 : a.size ≤ maxLen) (h2 : b.size ≤ maxLen) : WideAt.IsKeyLit (akey a b) := by
  obtain ⟨s', e⟩ := acc_law.str (akey_is h1 h2)
  rw [e]
  trivial
theorem akey_inj {a b c d : ByteArray} (h1 : a.size ≤ maxLen) (h2 : b.size ≤ maxLen) (h3 : c.size ≤ maxLen) (h4 : d.size ≤ maxLen) (h : akey a b = akey c d) : a = c ∧ b = d := by
  have e1 := akey_is h1 h2
  rw [h] at e1
  have e2 := acc_law.inj e1 (akey_is h3 h4)
  simpa using e2
end Go.Proofs.Ythippdmfeeopkaa

/- Contracts of layer 14: no account twice, by a map. -/
namespace Go.Proofs.Ythippdmfeeopkaa
open Go.RowKit Go.Recs Go.Maps
set_option linter.unusedVariables false
set_option linter.unusedSimpArgs false
abbrev bL (b : Bool) : DataW Unit := .lit (.bool b)
def Asked (l : List GM.Part) (k : Nat) (D : DataW Unit) : Prop := ∀ x : GM.Part, x.am.size ≤ maxLen → x.an.size ≤ maxLen → D.atKey (akey x.am x.an) (bL false) = bL (GM.pseen l k x)
theorem Asked.start (l : List GM.Part) : Asked l 0 (.map []) := fun x _ _ => by rw [GM.pseen_zero]; rfl
set_option maxRecDepth 100000 in
theorem Asked.step {l : List GM.Part} {k : Nat} {D : DataW Unit} (h : Asked l k D) (hD : IsMap D) (hk : k < l.length) {y : GM.Part} (hy : GM.pAt l k = y) (h1 : y.am.size ≤ maxLen) (h2 : y.an.size ≤ maxLen) :
    Asked l (k + 1) (D.put (akey y.am y.an) (bL true)) := by
  intro x x1 x2
  have hK := @akey_lit y.am y.an h1 h2
  rw [GM.pseen_succ hk, hy]
  cases e : NM.aeq y.am y.an x.am x.an
  · have hne : akey x.am x.an ≠ akey y.am y.an := fun e2 => by
      obtain ⟨a1, a2⟩ := akey_inj x1 x2 h1 h2 e2
      rw [NM.aeq_iff.2 ⟨a1.symm, a2.symm⟩] at e
      cases e
    rw [atKey_put_other hne, h x x1 x2, Bool.or_false]
  · obtain ⟨a1, a2⟩ := NM.aeq_iff.1 e
    rw [← a1, ← a2, atKey_put_same hD hK, Bool.or_true]
theorem bool_zero (u : World) : (zeroValue 4).run Try.prog u = .ok (.bool false) u := by kernel_rfl
theorem mapB_under : Try.prog.underlying 183 = some (.map 26 4) := Try.underlying183
theorem ownsB_isMap {P : Program} {w : World} {k : TypeId} {R : Value → Option (DataW Unit × List MemPlace)} {b n : Nat} {D : DataW Unit} (h : w.ownsMap P k R b n D) : IsMap D := by
  obtain ⟨es, clock, _, _, _, rfl⟩ := h
  exact ⟨_, rfl⟩

set_option maxHeartbeats 8000000 in
set_option maxRecDepth 100000 in
theorem daccounts_any (all : Int) (A : Option Addr) (l : List GM.Part) (n cap : Nat) (hn : n = l.length) (w : World) (hI : Parts w A l) (hl : l.length ≤ 1024) :
    Calls Try.prog 107 #[.agg #[.int .i64 all, .slice A n cap]] w fun e w' => e = .returned (.int .i64 (GM.accE l)) ∧ Below w.heap.size w w' := by
  subst hn
  have hlen := hI.len
  have HB0 := Lib.hid (below_al (Below.refl w.heap.size w) (.cells (divC all A l.length cap) 117))
  have HX0 := Lib.hid (CB.new w 117 (divC all A l.length cap))
  have HI := Lib.hid (hI.below HB0.out)
  have KB := Lib.hid (fun k => @GM.acc_bad l k); have KO := Lib.hid (@GM.acc_ok l)
  generalize GM.accE l = r at *
  have hmm := @run_makeMap Try.prog
  clear hI
  go_enter Try.func107, Try.ntmps107
  go_wp2_with fail
  have HOM : Hid (((w.alloc (.cells #[.int .i64 all, .slice A l.length cap] 117)).alloc (.map #[] 0)).ownsMap Try.prog 26 (plainElem (H := Unit) Try.prog 4) (w.heap.size + 1) 0 (.map [])) := Lib.hid (by
    have h := World.ownsMap_made (H := Unit) (w.alloc (.cells #[.int .i64 all, .slice A l.length cap] 117)) Try.prog 26 (plainElem Try.prog 4)
    rwa [show (w.alloc (.cells #[.int .i64 all, .slice A l.length cap] 117)).heap.size = w.heap.size + 1 by simp] at h)
  have HI1 := Lib.hid (HI.out.below (below_al (Below.refl _ (w.alloc (.cells #[.int .i64 all, .slice A l.length cap] 117))) (.map #[] 0)))
  have HB1 := Lib.hid (below_al HB0.out (.map #[] 0))
  have HWS : Hid ((w.alloc (.cells #[.int .i64 all, .slice A l.length cap] 117)).heap.size = w.heap.size + 1) := Lib.hid (by simp)
  generalize w.alloc (.cells #[.int .i64 all, .slice A l.length cap] 117) = w0 at *
  go_loopw [5, 10] (fun _ i wr => ∃ (k : Nat) (D : DataW Unit), k ≤ l.length ∧ i = .int .i64 (k : Int) ∧ Hid (wr.ownsMap Try.prog 26 (plainElem Try.prog 4) (w.heap.size + 1) k D) ∧ Hid (Asked l k D) ∧ Hid (∀ j, j < k → GM.pseen l j (GM.pAt l j) = false) ∧ Hid (Below (w.heap.size + 1) w0 wr)) (fun _ i _ => l.length - (intOf i).toNat)
  case atStart => exact ⟨0, .map [], by omega, rfl, HOM, Lib.hid (Asked.start l), Lib.hid (fun j h => by omega), Lib.hid ((Below.refl _ _).alloc (by rw [HWS.out]; exact Nat.le_refl _) _)⟩
  case round =>
    obtain ⟨k, D, hk, rfl, HM, HA, HE, HB⟩ := hrel
    by_cases hlt : k < l.length
    · have HBB : Hid (Below w0.heap.size w0 wr) := Lib.hid (by rw [HWS.out]; exact HB.out)
      obtain ⟨b, off, x, rfl, hb, HV, ⟨q1, q2, q3⟩, d0, d1, d2⟩ := parts_get (HI.out.below HBB.out) hlt
      have hat := HA.out x q1 q2
      have HMx := Lib.hid (HM.out.alloc (.cells (partC x) 113))
      have HBx := Lib.hid (HB.out.alloc (by have := HM.out.lt; omega) (.cells (partC x) 113))
      have HS := Lib.hid (HA.out.step (ownsB_isMap HM.out) hlt HV.out q1 q2)
      have HK := Lib.hid (akey_is q1 q2)
      have HBF := Lib.hid (fun (u : World) (h : Below (w.heap.size + 1) w0 u) => HB0.out.trans (h.mono (Nat.le_succ _)))
      have HSZ : Hid (w.heap.size + 1 ≤ (wr.alloc (.cells (partC x) 113)).heap.size) := Lib.hid (Nat.le_of_lt HMx.out.lt)
      clear q3
      cases hs : GM.pseen l k x
      · have HE2 : Hid (∀ j, j < k + 1 → GM.pseen l j (GM.pAt l j) = false) := Lib.hid (fun j hj => by
          rcases Nat.lt_or_ge j k with g | g
          · exact HE.out j g
          · obtain rfl : j = k := by omega
            rw [HV.out]; exact hs)
        rw [hs] at hat
        have HAT := Lib.hid hat
        clear hs hat q1 q2 HV
        go_wp2_with (first
          | (at_lookup; refine wpList_lookB _ rfl _ _ 183 rfl 26 4 (Keyed.of_law acc_law) mapB_under Try.underlying4 (bool_zero _) (w.heap.size + 1) k _ rfl HMx.out _ _ rfl HK.out ?_; intro c hc; obtain rfl : c = false := (by rw [HAT.out] at hc; injection hc with e1; injection e1 with e2; exact e2.symm); clear hc)
          | (at_mapUpdate; refine wpList_mapUpdate_own _ rfl _ _ _ 183 rfl 26 4 (Keyed.of_law acc_law) mapB_under _ (w.heap.size + 1) k _ rfl HMx.out (by unfold maxLen; omega) _ _ _ rfl rfl HK.out _ [] (plainElem_bool Try.underlying4 true) ?_; intro w3 hown3 gr3; go_frame))
        have HM3 := Lib.hid hown3
        have HB3 := Lib.hid (HBx.out.grown gr3 HSZ.out (fun j hj => by injection hj with hj; omega))
        clear hown3 gr3
        go_wp2_with fail
        go_roundw
        case rel => exact ⟨k + 1, _, by omega, by go_num, HM3, HS, HE2, HB3⟩
        case measure => simp [intOf]; omega
      · have HR := Lib.hid (KB.out k hlt (by rw [HV.out]; exact hs))
        rw [hs] at hat
        have HAT := Lib.hid hat
        clear hs hat q1 q2 HV
        go_wp2_with (at_lookup; refine wpList_lookB _ rfl _ _ 183 rfl 26 4 (Keyed.of_law acc_law) mapB_under Try.underlying4 (bool_zero _) (w.heap.size + 1) k _ rfl HMx.out _ _ rfl HK.out ?_; intro c hc; obtain rfl : c = true := (by rw [HAT.out] at hc; injection hc with e1; injection e1 with e2; exact e2.symm))
        clear hc
        go_wp2_with fail
        go_ret
        exact ⟨by rw [HR.out] <;> rfl, HBF.out _ HBx.out⟩
    · obtain rfl : k = l.length := by omega
      have HR := Lib.hid (KO.out HE.out)
      have HBF := Lib.hid (HB0.out.trans (HB.out.mono (Nat.le_succ _)))
      go_wp2_with fail
      go_ret
      exact ⟨by rw [HR.out] <;> rfl, HBF.out⟩
end Go.Proofs.Ythippdmfeeopkaa

/- Contracts of layer 14: Check. -/
namespace Go.Proofs.Ythippdmfeeopkaa
open Go.RowKit Go.Recs
set_option linter.unusedVariables false
set_option linter.unusedSimpArgs false
theorem or0 {e : Int} {r : List Int} (h : ¬ e = 0) : GM.orE (e :: r) = e := by unfold GM.orE; rw [if_neg h]
theorem orS {e : Int} {r : List Int} (h : e = 0) : GM.orE (e :: r) = GM.orE r := by
  show (if e = 0 then GM.orE r else e) = _
  rw [if_pos h]
theorem count_inv {n : Nat} (h : GM.countE n = 0) : 1 ≤ n ∧ n ≤ 1024 := by
  unfold GM.countE at h
  split at h
  · assumption
  · cases h
set_option maxHeartbeats 8000000 in
set_option maxRecDepth 100000 in
theorem dfirst_any (all : Int) (A : Option Addr) (l : List GM.Part) (cap g : Nat) (w : World) (hI : Parts w A l) (hg : CB w g 118 #[.func (.func 104) #[.agg #[.int .i64 all, .slice A l.length cap]] #[], .func (.func 105) #[.agg #[.int .i64 all, .slice A l.length cap]] #[], .func (.func 106) #[.agg #[.int .i64 all, .slice A l.length cap]] #[], .func (.func 107) #[.agg #[.int .i64 all, .slice A l.length cap]] #[]]) :
    Calls Try.prog 103 #[.slice (some ⟨g, 0, none⟩) 4 4] w fun e w' => e = .returned (.int .i64 (GM.partsE all l)) ∧ Below w.heap.size w w' := by
  have HI := Lib.hid hI
  have HG := Lib.hid hg
  have hgl := hg.lt
  have C0 := Lib.hid (fun ww => dcount_any all A l l.length cap rfl ww)
  have C1 := Lib.hid (fun ww h => dsizes_any all A l l.length cap rfl ww h)
  have C2 : Hid (GM.countE l.length = 0 → GM.sizesE l = 0 → ∀ ww, Parts ww A l → Calls Try.prog 106 #[.agg #[.int .i64 all, .slice A l.length cap]] ww fun e w' => e = .returned (.int .i64 (GM.sumE all l)) ∧ Below ww.heap.size ww w') := Lib.hid (fun h1 h2 ww h => dsum_any all A l l.length cap rfl ww h (GM.sizes_inv h2) (count_inv h1).2)
  have C3 : Hid (GM.countE l.length = 0 → ∀ ww, Parts ww A l → Calls Try.prog 107 #[.agg #[.int .i64 all, .slice A l.length cap]] ww fun e w' => e = .returned (.int .i64 (GM.accE l)) ∧ Below ww.heap.size ww w') := Lib.hid (fun h1 ww h => daccounts_any all A l l.length cap rfl ww h (count_inv h1).2)
  have KR : Hid (GM.partsE all l = GM.orE [GM.countE l.length, GM.sizesE l, GM.sumE all l, GM.accE l]) := Lib.hid rfl
  generalize GM.partsE all l = r at *
  generalize GM.countE l.length = e0 at *
  generalize GM.sizesE l = e1 at *
  generalize GM.sumE all l = e2 at *
  generalize GM.accE l = e3 at *
  clear hI hg
  go_enter Try.func103, Try.ntmps103
  go_wp2_with fail
  go_loopw [4, 5, 8] (fun _ _ i wr => Hid (Below w.heap.size w wr) ∧ (i = .int .i64 0 ∨ (i = .int .i64 1 ∧ Hid (e0 = 0)) ∨ (i = .int .i64 2 ∧ Hid (e0 = 0 ∧ e1 = 0)) ∨ (i = .int .i64 3 ∧ Hid (e0 = 0 ∧ e1 = 0 ∧ e2 = 0)) ∨ (i = .int .i64 4 ∧ Hid (e0 = 0 ∧ e1 = 0 ∧ e2 = 0 ∧ e3 = 0)))) (fun _ _ i _ => 4 - (intOf i).toNat)
  case atStart => exact ⟨Lib.hid (Below.refl _ _), .inl rfl⟩
  case round =>
    obtain ⟨HB, hr⟩ := hrel
    have HGr := Lib.hid (HG.out.below HB.out hgl)
    have HIr := Lib.hid (HI.out.below HB.out)
    rcases hr with rfl | ⟨rfl, hz⟩ | ⟨rfl, hz⟩ | ⟨rfl, hz⟩ | ⟨rfl, hz⟩
    · have c0 : wr.cell? ⟨g, 0, none⟩ = some (.func (.func 104) #[.agg #[.int .i64 all, .slice A l.length cap]] #[]) := HGr.out.cell 0
      by_cases h0 : e0 = 0
      · have HE0 := Lib.hid h0
        have C4 := Lib.hid (C0.out wr)
        rw [h0] at C4
        have HZ : Hid (e0 = 0) := HE0
        clear h0
        go_wp2_with fail
        refine C4.out.mono ?_
        rintro e w1 ⟨rfl, b1⟩
        have HB1 := Lib.hid (HB.out.trans (b1.mono HB.out.size))
        clear b1
        go_wp2_with fail
        go_roundw
        case rel => exact ⟨HB1, .inr (.inl ⟨by go_num, HZ⟩)⟩
        case measure => simp [intOf]
      · have HR : Hid (r = e0) := Lib.hid (by rw [KR.out, or0 h0])
        have C4 := Lib.hid (C0.out wr)
        have hne : (e0 != 0) = true := by simpa using h0
        clear h0
        go_wp2_with fail
        refine C4.out.mono ?_
        rintro e w1 ⟨rfl, b1⟩
        have HB1 := Lib.hid (HB.out.trans (b1.mono HB.out.size))
        clear b1
        go_wp2_with fail
        go_ret
        exact ⟨by rw [HR.out] <;> rfl, HB1.out⟩
    · have c0 : wr.cell? ⟨g, 1, none⟩ = some (.func (.func 105) #[.agg #[.int .i64 all, .slice A l.length cap]] #[]) := HGr.out.cell 1
      by_cases h0 : e1 = 0
      · have HE0 := Lib.hid h0
        have C4 := Lib.hid (C1.out wr HIr.out)
        rw [h0] at C4
        have HZ : Hid (e0 = 0 ∧ e1 = 0) := Lib.hid ⟨hz.out, HE0.out⟩
        clear h0
        go_wp2_with fail
        refine C4.out.mono ?_
        rintro e w1 ⟨rfl, b1⟩
        have HB1 := Lib.hid (HB.out.trans (b1.mono HB.out.size))
        clear b1
        go_wp2_with fail
        go_roundw
        case rel => exact ⟨HB1, .inr (.inr (.inl ⟨by go_num, HZ⟩))⟩
        case measure => simp [intOf]
      · have HR : Hid (r = e1) := Lib.hid (by rw [KR.out, orS hz.out, or0 h0])
        have C4 := Lib.hid (C1.out wr HIr.out)
        have hne : (e1 != 0) = true := by simpa using h0
        clear h0
        go_wp2_with fail
        refine C4.out.mono ?_
        rintro e w1 ⟨rfl, b1⟩
        have HB1 := Lib.hid (HB.out.trans (b1.mono HB.out.size))
        clear b1
        go_wp2_with fail
        go_ret
        exact ⟨by rw [HR.out] <;> rfl, HB1.out⟩
    · have c0 : wr.cell? ⟨g, 2, none⟩ = some (.func (.func 106) #[.agg #[.int .i64 all, .slice A l.length cap]] #[]) := HGr.out.cell 2
      by_cases h0 : e2 = 0
      · have HE0 := Lib.hid h0
        have C4 := Lib.hid (C2.out hz.out.1 hz.out.2 wr HIr.out)
        rw [h0] at C4
        have HZ : Hid (e0 = 0 ∧ e1 = 0 ∧ e2 = 0) := Lib.hid ⟨hz.out.1, hz.out.2, HE0.out⟩
        clear h0
        go_wp2_with fail
        refine C4.out.mono ?_
        rintro e w1 ⟨rfl, b1⟩
        have HB1 := Lib.hid (HB.out.trans (b1.mono HB.out.size))
        clear b1
        go_wp2_with fail
        go_roundw
        case rel => exact ⟨HB1, .inr (.inr (.inr (.inl ⟨by go_num, HZ⟩)))⟩
        case measure => simp [intOf]
      · have HR : Hid (r = e2) := Lib.hid (by rw [KR.out, orS hz.out.1, orS hz.out.2, or0 h0])
        have C4 := Lib.hid (C2.out hz.out.1 hz.out.2 wr HIr.out)
        have hne : (e2 != 0) = true := by simpa using h0
        clear h0
        go_wp2_with fail
        refine C4.out.mono ?_
        rintro e w1 ⟨rfl, b1⟩
        have HB1 := Lib.hid (HB.out.trans (b1.mono HB.out.size))
        clear b1
        go_wp2_with fail
        go_ret
        exact ⟨by rw [HR.out] <;> rfl, HB1.out⟩
    · have c0 : wr.cell? ⟨g, 3, none⟩ = some (.func (.func 107) #[.agg #[.int .i64 all, .slice A l.length cap]] #[]) := HGr.out.cell 3
      by_cases h0 : e3 = 0
      · have HE0 := Lib.hid h0
        have C4 := Lib.hid (C3.out hz.out.1 wr HIr.out)
        rw [h0] at C4
        have HZ : Hid (e0 = 0 ∧ e1 = 0 ∧ e2 = 0 ∧ e3 = 0) := Lib.hid ⟨hz.out.1, hz.out.2.1, hz.out.2.2, HE0.out⟩
        clear h0
        go_wp2_with fail
        refine C4.out.mono ?_
        rintro e w1 ⟨rfl, b1⟩
        have HB1 := Lib.hid (HB.out.trans (b1.mono HB.out.size))
        clear b1
        go_wp2_with fail
        go_roundw
        case rel => exact ⟨HB1, .inr (.inr (.inr (.inr ⟨by go_num, HZ⟩)))⟩
        case measure => simp [intOf]
      · have HR : Hid (r = e3) := Lib.hid (by rw [KR.out, orS hz.out.1, orS hz.out.2.1, orS hz.out.2.2, or0 h0])
        have C4 := Lib.hid (C3.out hz.out.1 wr HIr.out)
        have hne : (e3 != 0) = true := by simpa using h0
        clear h0
        go_wp2_with fail
        refine C4.out.mono ?_
        rintro e w1 ⟨rfl, b1⟩
        have HB1 := Lib.hid (HB.out.trans (b1.mono HB.out.size))
        clear b1
        go_wp2_with fail
        go_ret
        exact ⟨by rw [HR.out] <;> rfl, HB1.out⟩
    · have HR : Hid (r = 0) := Lib.hid (by rw [KR.out, orS hz.out.1, orS hz.out.2.1, orS hz.out.2.2.1, orS hz.out.2.2.2]; rfl)
      go_wp2_with fail
      go_ret
      exact ⟨by rw [HR.out] <;> rfl, HB.out⟩

set_option maxHeartbeats 4000000 in
set_option maxRecDepth 100000 in
theorem dcheck_any (all : Int) (A : Option Addr) (l : List GM.Part) (n cap : Nat) (hn : n = l.length) (w : World) (hI : Parts w A l) :
    Calls Try.prog 58 #[.agg #[.int .i64 all, .slice A n cap]] w fun e w' => e = .returned (.int .i64 (GM.partsE all l)) ∧ Below w.heap.size w w' := by
  subst hn
  have hmf : ∀ (fn : Fn) (first cap : Array Value) (w : World), (Instr.makeFunc fn first cap).run Try.prog w = .ok (.func fn first cap) w := fun _ _ _ _ => rfl
  have HB0 := Lib.hid (below_al (below_al (Below.refl w.heap.size w) (.cells (divC all A l.length cap) 117)) (.cells #[.func (.func 104) #[.agg #[.int .i64 all, .slice A l.length cap]] #[], .func (.func 105) #[.agg #[.int .i64 all, .slice A l.length cap]] #[], .func (.func 106) #[.agg #[.int .i64 all, .slice A l.length cap]] #[], .func (.func 107) #[.agg #[.int .i64 all, .slice A l.length cap]] #[]] 118))
  have HG : Hid (CB ((w.alloc (.cells (divC all A l.length cap) 117)).alloc (.cells #[.func (.func 104) #[.agg #[.int .i64 all, .slice A l.length cap]] #[], .func (.func 105) #[.agg #[.int .i64 all, .slice A l.length cap]] #[], .func (.func 106) #[.agg #[.int .i64 all, .slice A l.length cap]] #[], .func (.func 107) #[.agg #[.int .i64 all, .slice A l.length cap]] #[]] 118)) (w.heap.size + 1) 118 #[.func (.func 104) #[.agg #[.int .i64 all, .slice A l.length cap]] #[], .func (.func 105) #[.agg #[.int .i64 all, .slice A l.length cap]] #[], .func (.func 106) #[.agg #[.int .i64 all, .slice A l.length cap]] #[], .func (.func 107) #[.agg #[.int .i64 all, .slice A l.length cap]] #[]]) := Lib.hid (CB.new1 _ _ _ _)
  have C := Lib.hid (dfirst_any all A l cap (w.heap.size + 1) _ (hI.below HB0.out) HG.out)
  generalize GM.partsE all l = r at *
  clear hI HG
  go_enter Try.func58, Try.ntmps58
  go_wp2_with fail
  refine C.out.mono ?_
  rintro e w1 ⟨rfl, b1⟩
  have HB1 := Lib.hid (HB0.out.trans (b1.mono HB0.out.size))
  clear b1
  go_wp2_with fail
  go_ret
  exact ⟨rfl, HB1.out⟩
set_option maxHeartbeats 4000000 in
theorem gcheck_any (t : TM.Trd) (A : Option Addr) (l : List GM.Part) (n cap : Nat) (hn : n = l.length) (w : World) (hI : Parts w A l) :
    Calls Try.prog 20 #[trdA t, .slice A n cap] w fun e w' => e = .returned (.int .i64 (GM.partsE t.qty l)) ∧ Below w.heap.size w w' := by
  subst hn
  have HB0 := Lib.hid (below_al (Below.refl w.heap.size w) (.cells (trdC t) 45))
  have C := Lib.hid (fun ww h => dcheck_any t.qty A l l.length cap rfl ww h)
  have HI := Lib.hid (hI.below HB0.out)
  generalize GM.partsE t.qty l = r at *
  clear hI
  go_enter Try.func20, Try.ntmps20
  go_wp2_with fail
  refine (C.out _ HI.out).mono ?_
  rintro e w1 ⟨rfl, b1⟩
  have HB1 := Lib.hid (HB0.out.trans (b1.mono HB0.out.size))
  clear b1
  go_wp2_with fail
  go_ret
  exact ⟨rfl, HB1.out⟩
end Go.Proofs.Ythippdmfeeopkaa

/- Contracts of layer 14: a pool of trades. -/
namespace Go.Proofs.Ythippdmfeeopkaa
open Go.RowKit Go.Recs
set_option linter.unusedVariables false
set_option linter.unusedSimpArgs false
theorem okq_id {n : Int} {b : Bool} (h : GM.okQ n = b) : GM.okQ n = b := h
theorem okp_of {n : Int} {b : Bool} (h : GM.okP n = b) : (decide (-16777216 ≤ n) && decide (n ≤ 16777216)) = b := h
theorem lots_succ {l : List TM.Trd} {k : Nat} (h : k < l.length) : GM.lots (l.take (k + 1)) = GM.lots (l.take k) + (TM.tAt l k).qty := by
  rw [NM.take_succ h, TM.tAt_get h]
  unfold GM.lots
  rw [List.map_append, LM.tot_append]
  simp [LM.tot]
theorem cost_succ {l : List TM.Trd} {k : Nat} (h : k < l.length) : GM.cost (l.take (k + 1)) = GM.cost (l.take k) + (TM.tAt l k).price * (TM.tAt l k).qty := by
  rw [NM.take_succ h, TM.tAt_get h]
  unfold GM.cost
  rw [List.map_append, LM.tot_append]
  simp [LM.tot]
theorem pq_bound {p q : Int} (h : (1 ≤ q ∧ q ≤ 1048576) ∧ -16777216 ≤ p ∧ p ≤ 16777216) : -17592186044416 ≤ p * q ∧ p * q ≤ 17592186044416 := by
  obtain ⟨⟨h1, h2⟩, h3, h4⟩ := h
  constructor
  · have a : (-16777216) * q ≤ p * q := Int.mul_le_mul_of_nonneg_right h3 (by omega)
    omega
  · have a : p * q ≤ 16777216 * q := Int.mul_le_mul_of_nonneg_right h4 (by omega)
    omega
theorem plots_any_bound {l : List TM.Trd} (h : ∀ t ∈ l, (1 ≤ t.qty ∧ t.qty ≤ 1048576) ∧ -16777216 ≤ t.price ∧ t.price ≤ 16777216) (hl : l.length ≤ 1024) : 0 ≤ GM.lots l ∧ GM.lots l ≤ 1073741824 := by
  have key : 0 ≤ GM.lots l ∧ GM.lots l ≤ l.length * 1048576 := by
    clear hl
    induction l with
    | nil => simp [GM.lots, LM.tot]
    | cons t l ih =>
      have h1 := h t (by simp)
      have h2 := ih fun y hy => h y (by simp [hy])
      have e : GM.lots (t :: l) = t.qty + GM.lots l := by simp [GM.lots, LM.tot]
      rw [e, List.length_cons]
      omega
  omega
theorem pcost_any_bound {l : List TM.Trd} (h : ∀ t ∈ l, (1 ≤ t.qty ∧ t.qty ≤ 1048576) ∧ -16777216 ≤ t.price ∧ t.price ≤ 16777216) (hl : l.length ≤ 1024) : -18014398509481984 ≤ GM.cost l ∧ GM.cost l ≤ 18014398509481984 := by
  have key : -(l.length * 17592186044416 : Int) ≤ GM.cost l ∧ GM.cost l ≤ l.length * 17592186044416 := by
    clear hl
    induction l with
    | nil => simp [GM.cost, LM.tot]
    | cons t l ih =>
      have h1 := pq_bound (h t (by simp))
      have h2 := ih fun y hy => h y (by simp [hy])
      have e : GM.cost (t :: l) = t.price * t.qty + GM.cost l := by simp [GM.cost, LM.tot]
      rw [e, List.length_cons]
      omega
  omega
set_option maxHeartbeats 1000000 in
theorem pticks_any (A : Option Addr) (l : List TM.Trd) (n cap : Nat) (tick : Int) (hn : n = l.length) (w : World) :
    Calls Try.prog 108 #[.agg #[.slice A n cap, .int .i64 tick]] w fun e w' => e = .returned (.int .i64 (GM.tickE tick)) ∧ Below w.heap.size w w' := by
  subst hn
  have HC := Lib.hid (fun ww => gwithin_any tick 1 16777216 ww)
  have HB0 := Lib.hid (below_al (Below.refl w.heap.size w) (.cells #[.slice A l.length cap, .int .i64 tick] 121))
  by_cases h : 1 ≤ tick ∧ tick ≤ 16777216
  · have e : (decide ((1 : Int) ≤ tick) && decide (tick ≤ 16777216)) = true := by simp; omega
    have e2 : GM.tickE tick = 0 := by unfold GM.tickE; rw [if_pos h]
    rw [e] at HC
    rw [e2]
    clear e e2 h
    go_enter Try.func108, Try.ntmps108
    go_wp2_with fail
    refine (HC.out _).mono ?_
    rintro e w' ⟨rfl, rfl⟩
    go_wp2_with fail
    go_ret
    exact ⟨rfl, HB0.out⟩
  · have e : (decide ((1 : Int) ≤ tick) && decide (tick ≤ 16777216)) = false := by simp; omega
    have e2 : GM.tickE tick = 16 := by unfold GM.tickE; rw [if_neg h]
    rw [e] at HC
    rw [e2]
    clear e e2 h
    go_enter Try.func108, Try.ntmps108
    go_wp2_with fail
    refine (HC.out _).mono ?_
    rintro e w' ⟨rfl, rfl⟩
    go_wp2_with fail
    go_ret
    exact ⟨rfl, HB0.out⟩
set_option maxHeartbeats 1000000 in
theorem pcount_any (A : Option Addr) (l : List TM.Trd) (n cap : Nat) (tick : Int) (hn : n = l.length) (w : World) :
    Calls Try.prog 109 #[.agg #[.slice A n cap, .int .i64 tick]] w fun e w' => e = .returned (.int .i64 (GM.countE l.length)) ∧ Below w.heap.size w w' := by
  subst hn
  have HC := Lib.hid (fun ww => gcount_any l.length ww)
  have HB0 := Lib.hid (below_al (Below.refl w.heap.size w) (.cells #[.slice A l.length cap, .int .i64 tick] 121))
  generalize GM.countE l.length = r at *
  go_enter Try.func109, Try.ntmps109
  go_wp2_with fail
  refine (HC.out _).mono ?_
  rintro e w' ⟨rfl, rfl⟩
  go_wp2_with fail
  go_ret
  exact ⟨rfl, HB0.out⟩
set_option maxHeartbeats 4000000 in
theorem pone_any (A : Option Addr) (l : List TM.Trd) (n cap : Nat) (tick : Int) (hn : n = l.length) (w : World) (hI : Trds w A l) :
    Calls Try.prog 110 #[.agg #[.slice A n cap, .int .i64 tick]] w fun e w' => e = .returned (.int .i64 (GM.oneE l)) ∧ Below w.heap.size w w' := by
  subst hn
  have hlen := hI.len
  have HB0 := Lib.hid (below_al (Below.refl w.heap.size w) (.cells #[.slice A l.length cap, .int .i64 tick] 121))
  have HX0 := Lib.hid (CB.new w 121 #[.slice A l.length cap, .int .i64 tick])
  have HI := Lib.hid (hI.below HB0.out)
  have KB : Hid (∀ k, k < l.length → NM.seqB (TM.tAt l k).ser (TM.tAt l 0).ser = false → GM.oneE l = 19) := Lib.hid (fun k hk h => by unfold GM.oneE; rw [GM.all_bad (p := fun t => NM.seqB t.ser (TM.tAt l 0).ser) hk h]; rfl)
  have KO : Hid ((∀ j, j < l.length → NM.seqB (TM.tAt l j).ser (TM.tAt l 0).ser = true) → GM.oneE l = 0) := Lib.hid (fun h => by unfold GM.oneE; rw [GM.all_ok (p := fun t => NM.seqB t.ser (TM.tAt l 0).ser) h]; rfl)
  generalize GM.oneE l = r at *
  have gs := ser_guard
  clear hI
  go_enter Try.func110, Try.ntmps110
  go_wp2_with fail
  generalize w.alloc (.cells #[.slice A l.length cap, .int .i64 tick] 121) = w0 at *
  go_loopw [4, 8] (fun _ i wr => ∃ k : Nat, k ≤ l.length ∧ i = .int .i64 (k : Int) ∧ Hid (∀ j, j < k → NM.seqB (TM.tAt l j).ser (TM.tAt l 0).ser = true) ∧ Hid (Below w0.heap.size w0 wr)) (fun _ i _ => l.length - (intOf i).toNat)
  case atStart => exact ⟨0, by omega, rfl, Lib.hid (fun j h => by omega), Lib.hid (Below.refl _ _)⟩
  case round =>
    obtain ⟨k, hk, rfl, HE, HB⟩ := hrel
    by_cases hlt : k < l.length
    · obtain ⟨b, off, t, rfl, hb, HV, q, d0, d1, d2, d3, d4, d5, d6, d7, d8, d9, d10, d11, d12⟩ := trds_get (HI.out.below HB.out) hlt
      obtain ⟨b', off', z, he, hb', HVz, qz, g0, g1, g2, g3, g4, g5, g6, g7, g8, g9, g10, g11, g12⟩ := trds_get (HI.out.below HB.out) (k := 0) (by omega)
      injection he with he
      injection he with e1 e2
      subst e1 e2
      have z3 : wr.cell? ⟨b, off + 3, none⟩ = some (.string z.ser.prod) := by simpa using g3
      have z4 : wr.cell? ⟨b, off + 4, none⟩ = some (.int .i64 z.ser.kind) := by simpa using g4
      have z5 : wr.cell? ⟨b, off + 5, none⟩ = some (.int .i64 z.ser.expiry) := by simpa using g5
      have z6 : wr.cell? ⟨b, off + 6, none⟩ = some (.int .i64 z.ser.strike) := by simpa using g6
      have HXr := Lib.hid (HX0.out.below HB.out HX0.out.lt)
      have x0 : wr.cell? ⟨w.heap.size, 0, none⟩ = some (.slice (some ⟨b, off, none⟩) l.length cap) := HXr.out.cell 0
      have x1 : wr.cell? ⟨w.heap.size, 1, none⟩ = some (.int .i64 tick) := HXr.out.cell 1
      have hxl := HXr.out.lt
      have E1 : ∀ ww, (Op.equalIn 10000 43 (serA t.ser) (serA z.ser)).run Try.prog ww = .ok (NM.seqB t.ser z.ser) ww := fun ww => serB_in t.ser z.ser ww
      have HB2 := Lib.hid (fun o => HB.out.alloc HB.out.size o)
      have h0l : (0 : Int) < (l.length : Int) := by omega
      clear q qz g0 g1 g2 g3 g4 g5 g6 g7 g8 g9 g10 g11 g12 hb'
      cases hq : NM.seqB t.ser z.ser
      · have HR := Lib.hid (KB.out k hlt (by rw [HV.out, HVz.out]; exact hq))
        rw [hq] at E1
        have HBF := Lib.hid (fun o => HB0.out.trans ((HB2.out o).mono HB0.out.size))
        clear hq HV HVz
        go_wp2_with fail
        go_quiet (fail)
        go_wp2_with fail
        go_ret
        exact ⟨by rw [HR.out] <;> rfl, by first | exact HBF.out _ | exact below_drewN (HBF.out _) _⟩
      · rw [hq] at E1
        have HE2 : Hid (∀ j, j < k + 1 → NM.seqB (TM.tAt l j).ser (TM.tAt l 0).ser = true) := Lib.hid (fun j hj => by
          rcases Nat.lt_or_ge j k with g | g
          · exact HE.out j g
          · obtain rfl : j = k := by omega
            rw [HV.out, HVz.out]; exact hq)
        clear hq HV HVz
        go_wp2_with fail
        go_quiet (fail)
        go_wp2_with fail
        go_roundw
        case rel => exact ⟨k + 1, by omega, by go_num, HE2, Lib.hid (by first | exact HB2.out _ | exact below_drewN (HB2.out _) _)⟩
        case measure => simp [intOf]; omega
    · obtain rfl : k = l.length := by omega
      have HR := Lib.hid (KO.out HE.out)
      have HBF := Lib.hid (HB0.out.trans (HB.out.mono HB0.out.size))
      go_wp2_with fail
      go_ret
      exact ⟨by rw [HR.out] <;> rfl, HBF.out⟩

set_option maxHeartbeats 2000000 in
theorem psizes_any (A : Option Addr) (l : List TM.Trd) (n cap : Nat) (tick : Int) (hn : n = l.length) (w : World) (hI : Trds w A l) :
    Calls Try.prog 111 #[.agg #[.slice A n cap, .int .i64 tick]] w fun e w' => e = .returned (.int .i64 (GM.lotsE l)) ∧ Below w.heap.size w w' := by
  subst hn
  have hlen := hI.len
  have HC := Lib.hid (fun q ww => gqty_any q ww)
  have HB0 := Lib.hid (below_al (Below.refl w.heap.size w) (.cells #[.slice A l.length cap, .int .i64 tick] 121))
  have HI := Lib.hid (hI.below HB0.out)
  have KB : Hid (∀ k, k < l.length → GM.okQ (TM.tAt l k).qty = false → GM.lotsE l = 18) := Lib.hid (fun k hk h => by unfold GM.lotsE; rw [GM.all_bad (p := fun t => GM.okQ t.qty) hk h]; rfl)
  have KO : Hid ((∀ j, j < l.length → GM.okQ (TM.tAt l j).qty = true) → GM.lotsE l = 0) := Lib.hid (fun h => by unfold GM.lotsE; rw [GM.all_ok (p := fun t => GM.okQ t.qty) h]; rfl)
  generalize GM.lotsE l = r at *
  clear hI
  go_enter Try.func111, Try.ntmps111
  go_wp2_with fail
  generalize w.alloc (.cells #[.slice A l.length cap, .int .i64 tick] 121) = w0 at *
  go_loopw [4, 8] (fun _ i wr => ∃ k : Nat, k ≤ l.length ∧ i = .int .i64 (k : Int) ∧ Hid (∀ j, j < k → GM.okQ (TM.tAt l j).qty = true) ∧ Hid (Below w0.heap.size w0 wr)) (fun _ i _ => l.length - (intOf i).toNat)
  case atStart => exact ⟨0, by omega, rfl, Lib.hid (fun j h => by omega), Lib.hid (Below.refl _ _)⟩
  case round =>
    obtain ⟨k, hk, rfl, HE, HB⟩ := hrel
    by_cases hlt : k < l.length
    · obtain ⟨b, off, t, rfl, hb, HV, q, d0, d1, d2, d3, d4, d5, d6, d7, d8, d9, d10, d11, d12⟩ := trds_get (HI.out.below HB.out) hlt
      have HB2 := Lib.hid (fun o => HB.out.alloc HB.out.size o)
      have C1 := Lib.hid (fun ww => HC.out t.qty ww)
      clear q
      cases hq : GM.okQ t.qty
      · have HR := Lib.hid (KB.out k hlt (by rw [HV.out]; exact hq))
        rw [okq_id hq] at C1
        have HBF := Lib.hid (fun o => HB0.out.trans ((HB2.out o).mono HB0.out.size))
        clear hq
        go_wp2_with fail
        refine (C1.out _).mono ?_
        rintro e w' ⟨rfl, rfl⟩
        go_wp2_with fail
        go_ret
        exact ⟨by rw [HR.out] <;> rfl, HBF.out _⟩
      · rw [okq_id hq] at C1
        have HE2 : Hid (∀ j, j < k + 1 → GM.okQ (TM.tAt l j).qty = true) := Lib.hid (fun j hj => by
          rcases Nat.lt_or_ge j k with g | g
          · exact HE.out j g
          · obtain rfl : j = k := by omega
            rw [HV.out]; exact hq)
        clear hq
        go_wp2_with fail
        refine (C1.out _).mono ?_
        rintro e w' ⟨rfl, rfl⟩
        go_wp2_with fail
        go_roundw
        case rel => exact ⟨k + 1, by omega, by go_num, HE2, Lib.hid (HB2.out _)⟩
        case measure => simp [intOf]; omega
    · obtain rfl : k = l.length := by omega
      have HR := Lib.hid (KO.out HE.out)
      have HBF := Lib.hid (HB0.out.trans (HB.out.mono HB0.out.size))
      go_wp2_with fail
      go_ret
      exact ⟨by rw [HR.out] <;> rfl, HBF.out⟩

set_option maxHeartbeats 2000000 in
theorem pprices_any (A : Option Addr) (l : List TM.Trd) (n cap : Nat) (tick : Int) (hn : n = l.length) (w : World) (hI : Trds w A l) :
    Calls Try.prog 112 #[.agg #[.slice A n cap, .int .i64 tick]] w fun e w' => e = .returned (.int .i64 (GM.priceE l)) ∧ Below w.heap.size w w' := by
  subst hn
  have hlen := hI.len
  have HC := Lib.hid (fun q ww => gwithin_any q (-16777216) 16777216 ww)
  have HB0 := Lib.hid (below_al (Below.refl w.heap.size w) (.cells #[.slice A l.length cap, .int .i64 tick] 121))
  have HI := Lib.hid (hI.below HB0.out)
  have KB : Hid (∀ k, k < l.length → GM.okP (TM.tAt l k).price = false → GM.priceE l = 17) := Lib.hid (fun k hk h => by unfold GM.priceE; rw [GM.all_bad (p := fun t => GM.okP t.price) hk h]; rfl)
  have KO : Hid ((∀ j, j < l.length → GM.okP (TM.tAt l j).price = true) → GM.priceE l = 0) := Lib.hid (fun h => by unfold GM.priceE; rw [GM.all_ok (p := fun t => GM.okP t.price) h]; rfl)
  generalize GM.priceE l = r at *
  clear hI
  go_enter Try.func112, Try.ntmps112
  go_wp2_with fail
  generalize w.alloc (.cells #[.slice A l.length cap, .int .i64 tick] 121) = w0 at *
  go_loopw [4, 8] (fun _ i wr => ∃ k : Nat, k ≤ l.length ∧ i = .int .i64 (k : Int) ∧ Hid (∀ j, j < k → GM.okP (TM.tAt l j).price = true) ∧ Hid (Below w0.heap.size w0 wr)) (fun _ i _ => l.length - (intOf i).toNat)
  case atStart => exact ⟨0, by omega, rfl, Lib.hid (fun j h => by omega), Lib.hid (Below.refl _ _)⟩
  case round =>
    obtain ⟨k, hk, rfl, HE, HB⟩ := hrel
    by_cases hlt : k < l.length
    · obtain ⟨b, off, t, rfl, hb, HV, q, d0, d1, d2, d3, d4, d5, d6, d7, d8, d9, d10, d11, d12⟩ := trds_get (HI.out.below HB.out) hlt
      have HB2 := Lib.hid (fun o => HB.out.alloc HB.out.size o)
      have C1 := Lib.hid (fun ww => HC.out t.price ww)
      clear q
      cases hq : GM.okP t.price
      · have HR := Lib.hid (KB.out k hlt (by rw [HV.out]; exact hq))
        rw [okp_of hq] at C1
        have HBF := Lib.hid (fun o => HB0.out.trans ((HB2.out o).mono HB0.out.size))
        clear hq
        go_wp2_with fail
        refine (C1.out _).mono ?_
        rintro e w' ⟨rfl, rfl⟩
        go_wp2_with fail
        go_ret
        exact ⟨by rw [HR.out] <;> rfl, HBF.out _⟩
      · rw [okp_of hq] at C1
        have HE2 : Hid (∀ j, j < k + 1 → GM.okP (TM.tAt l j).price = true) := Lib.hid (fun j hj => by
          rcases Nat.lt_or_ge j k with g | g
          · exact HE.out j g
          · obtain rfl : j = k := by omega
            rw [HV.out]; exact hq)
        clear hq
        go_wp2_with fail
        refine (C1.out _).mono ?_
        rintro e w' ⟨rfl, rfl⟩
        go_wp2_with fail
        go_roundw
        case rel => exact ⟨k + 1, by omega, by go_num, HE2, Lib.hid (HB2.out _)⟩
        case measure => simp [intOf]; omega
    · obtain rfl : k = l.length := by omega
      have HR := Lib.hid (KO.out HE.out)
      have HBF := Lib.hid (HB0.out.trans (HB.out.mono HB0.out.size))
      go_wp2_with fail
      go_ret
      exact ⟨by rw [HR.out] <;> rfl, HBF.out⟩

set_option maxHeartbeats 2000000 in
theorem plots_any (A : Option Addr) (l : List TM.Trd) (n cap : Nat) (tick : Int) (hn : n = l.length) (w : World) (hI : Trds w A l) (hq : ∀ t ∈ l, (1 ≤ t.qty ∧ t.qty ≤ 1048576) ∧ -16777216 ≤ t.price ∧ t.price ≤ 16777216) (hl : l.length ≤ 1024) :
    Calls Try.prog 61 #[.agg #[.slice A n cap, .int .i64 tick]] w fun e w' => e = .returned (.int .i64 (GM.lots l)) ∧ Below w.heap.size w w' := by
  subst hn
  have hlen := hI.len
  have HB0 := Lib.hid (below_al (Below.refl w.heap.size w) (.cells #[.slice A l.length cap, .int .i64 tick] 121))
  have HI := Lib.hid (hI.below HB0.out)
  have KS := Lib.hid (fun k => @lots_succ l k)
  have KB : Hid (∀ k, k ≤ l.length → 0 ≤ GM.lots (l.take k) ∧ GM.lots (l.take k) ≤ 1073741824) := Lib.hid (fun k hk => plots_any_bound (fun t ht => hq t (List.mem_of_mem_take ht)) (by rw [List.length_take]; omega))
  have KQ : Hid (∀ k, k < l.length → (1 ≤ (TM.tAt l k).qty ∧ (TM.tAt l k).qty ≤ 1048576) ∧ -16777216 ≤ (TM.tAt l k).price ∧ (TM.tAt l k).price ≤ 16777216) := Lib.hid (fun k hk => by rw [TM.tAt_get hk]; exact hq _ (List.getElem_mem hk))
  have KE : Hid (GM.lots (l.take l.length) = GM.lots l) := Lib.hid (by rw [List.take_length])
  have K0 : Hid (0 = GM.lots (l.take 0)) := Lib.hid rfl
  generalize GM.lots l = r at *
  clear hI hq hl
  go_enter Try.func61, Try.ntmps61
  go_wp2_with fail
  generalize w.alloc (.cells #[.slice A l.length cap, .int .i64 tick] 121) = w0 at *
  go_loopw [2, 4, 8] (fun v _ i wr => ∃ (k : Nat) (y : Int), k ≤ l.length ∧ i = .int .i64 (k : Int) ∧ v = .int .i64 y ∧ 0 ≤ y ∧ y ≤ 1073741824 ∧ Hid (y = GM.lots (l.take k)) ∧ Hid (Below w0.heap.size w0 wr)) (fun _ _ i _ => l.length - (intOf i).toNat)
  case atStart => exact ⟨0, 0, by omega, rfl, rfl, by omega, by omega, K0, Lib.hid (Below.refl _ _)⟩
  case round =>
    obtain ⟨k, y, hk, rfl, rfl, y1, y2, HE, HB⟩ := hrel
    by_cases hlt : k < l.length
    · obtain ⟨b, off, t, rfl, hb, HV, q, d0, d1, d2, d3, d4, d5, d6, d7, d8, d9, d10, d11, d12⟩ := trds_get (HI.out.below HB.out) hlt
      have HB2 := Lib.hid (fun o => HB.out.alloc HB.out.size o)
      have HN : Hid (y + t.qty = GM.lots (l.take (k + 1))) := Lib.hid (by rw [KS.out k hlt, HV.out, HE.out])
      have hb1 : 0 ≤ y + t.qty ∧ y + t.qty ≤ 1073741824 := by rw [HN.out]; exact KB.out (k + 1) (by omega)
      have hqq := KQ.out k hlt
      rw [HV.out] at hqq
      have hb2 := hb1.1; have hb3 := hb1.2
      have a1 := hqq.1.1; have a2 := hqq.1.2; have a3 := hqq.2.1; have a4 := hqq.2.2

      clear q hb1 hqq
      go_wp2_with fail
      go_roundw
      case rel => exact ⟨k + 1, y + t.qty, by omega, by go_num, by go_num, hb2, hb3, HN, Lib.hid (HB2.out _)⟩
      case measure => simp [intOf]; omega
    · obtain rfl : k = l.length := by omega
      have HR := Lib.hid (HE.out.trans KE.out)
      have HBF := Lib.hid (HB0.out.trans (HB.out.mono HB0.out.size))
      go_wp2_with fail
      go_ret
      exact ⟨by rw [HR.out] <;> rfl, HBF.out⟩

set_option maxHeartbeats 2000000 in
theorem pcost_any (A : Option Addr) (l : List TM.Trd) (n cap : Nat) (tick : Int) (hn : n = l.length) (w : World) (hI : Trds w A l) (hq : ∀ t ∈ l, (1 ≤ t.qty ∧ t.qty ≤ 1048576) ∧ -16777216 ≤ t.price ∧ t.price ≤ 16777216) (hl : l.length ≤ 1024) :
    Calls Try.prog 62 #[.agg #[.slice A n cap, .int .i64 tick]] w fun e w' => e = .returned (.int .i64 (GM.cost l)) ∧ Below w.heap.size w w' := by
  subst hn
  have hlen := hI.len
  have HB0 := Lib.hid (below_al (Below.refl w.heap.size w) (.cells #[.slice A l.length cap, .int .i64 tick] 121))
  have HI := Lib.hid (hI.below HB0.out)
  have KS := Lib.hid (fun k => @cost_succ l k)
  have KB : Hid (∀ k, k ≤ l.length → -18014398509481984 ≤ GM.cost (l.take k) ∧ GM.cost (l.take k) ≤ 18014398509481984) := Lib.hid (fun k hk => pcost_any_bound (fun t ht => hq t (List.mem_of_mem_take ht)) (by rw [List.length_take]; omega))
  have KQ : Hid (∀ k, k < l.length → (1 ≤ (TM.tAt l k).qty ∧ (TM.tAt l k).qty ≤ 1048576) ∧ -16777216 ≤ (TM.tAt l k).price ∧ (TM.tAt l k).price ≤ 16777216) := Lib.hid (fun k hk => by rw [TM.tAt_get hk]; exact hq _ (List.getElem_mem hk))
  have KE : Hid (GM.cost (l.take l.length) = GM.cost l) := Lib.hid (by rw [List.take_length])
  have K0 : Hid (0 = GM.cost (l.take 0)) := Lib.hid rfl
  generalize GM.cost l = r at *
  clear hI hq hl
  go_enter Try.func62, Try.ntmps62
  go_wp2_with fail
  generalize w.alloc (.cells #[.slice A l.length cap, .int .i64 tick] 121) = w0 at *
  go_loopw [2, 4, 8] (fun v _ i wr => ∃ (k : Nat) (y : Int), k ≤ l.length ∧ i = .int .i64 (k : Int) ∧ v = .int .i64 y ∧ -18014398509481984 ≤ y ∧ y ≤ 18014398509481984 ∧ Hid (y = GM.cost (l.take k)) ∧ Hid (Below w0.heap.size w0 wr)) (fun _ _ i _ => l.length - (intOf i).toNat)
  case atStart => exact ⟨0, 0, by omega, rfl, rfl, by omega, by omega, K0, Lib.hid (Below.refl _ _)⟩
  case round =>
    obtain ⟨k, y, hk, rfl, rfl, y1, y2, HE, HB⟩ := hrel
    by_cases hlt : k < l.length
    · obtain ⟨b, off, t, rfl, hb, HV, q, d0, d1, d2, d3, d4, d5, d6, d7, d8, d9, d10, d11, d12⟩ := trds_get (HI.out.below HB.out) hlt
      have HB2 := Lib.hid (fun o => HB.out.alloc HB.out.size o)
      have HN : Hid (y + t.price * t.qty = GM.cost (l.take (k + 1))) := Lib.hid (by rw [KS.out k hlt, HV.out, HE.out])
      have hb1 : -18014398509481984 ≤ y + t.price * t.qty ∧ y + t.price * t.qty ≤ 18014398509481984 := by rw [HN.out]; exact KB.out (k + 1) (by omega)
      have hqq := KQ.out k hlt
      rw [HV.out] at hqq
      have hb2 := hb1.1; have hb3 := hb1.2
      have a1 := hqq.1.1; have a2 := hqq.1.2; have a3 := hqq.2.1; have a4 := hqq.2.2
      have hpq := pq_bound ⟨⟨a1, a2⟩, a3, a4⟩
      have hp1 := hpq.1; have hp2 := hpq.2
      clear hpq
      clear q hb1 hqq
      go_wp2_with fail
      go_roundw
      case rel => exact ⟨k + 1, y + t.price * t.qty, by omega, by go_num, by go_num, hb2, hb3, HN, Lib.hid (HB2.out _)⟩
      case measure => simp [intOf]; omega
    · obtain rfl : k = l.length := by omega
      have HR := Lib.hid (HE.out.trans KE.out)
      have HBF := Lib.hid (HB0.out.trans (HB.out.mono HB0.out.size))
      go_wp2_with fail
      go_ret
      exact ⟨by rw [HR.out] <;> rfl, HBF.out⟩
end Go.Proofs.Ythippdmfeeopkaa

/- Contracts of layer 1's small functions and of their references. -/
namespace Go.Proofs.Ythippdmfeeopkaa
open Go.RowKit

theorem fits_any (n : Int) (w : World) :
    Calls Try.prog 113 #[.int .i64 n] w fun e w' => e = .returned (.bool (CM.fits n)) ∧ w = w' := by
  by_cases h1 : -1152921504606846976 ≤ n
  · by_cases h2 : n ≤ 1152921504606846976
    · have h : CM.fits n = true := CM.fits_true.2 ⟨h1, h2⟩
      rw [h]; clear h
      go_enter Try.func113, Try.ntmps113
      go_wp2
      go_ret
      exact ⟨rfl, rfl⟩
    · have h : CM.fits n = false := CM.fits_false.2 (by omega)
      rw [h]; clear h
      go_enter Try.func113, Try.ntmps113
      go_wp2
      go_ret
      exact ⟨rfl, rfl⟩
  · have h : CM.fits n = false := CM.fits_false.2 (by omega)
    rw [h]; clear h
    go_enter Try.func113, Try.ntmps113
    go_wp2
    go_ret
    exact ⟨rfl, rfl⟩

theorem fitting_any (n : Int) (w : World) :
    Calls Try.prog 117 #[.int .i64 n] w fun e w' => e = .returned (.tuple #[.int .i64 (CM.fitN n), .int .i64 (CM.fitE n)]) ∧ w = w' := by
  cases h : CM.fits n
  · have hn : CM.fitN n = 0 := by simp [CM.fitN, h]
    have he : CM.fitE n = 3 := by simp [CM.fitE, h]
    rw [hn, he]; clear hn he
    go_enter Try.func117, Try.ntmps117
    go_wp2_with (go_at_call 113; refine (fits_any _ _).mono ?_; rintro e w' ⟨rfl, rfl⟩)
    go_ret2
    exact ⟨rfl, rfl⟩
  · have hn : CM.fitN n = n := by simp [CM.fitN, h]
    have he : CM.fitE n = 0 := by simp [CM.fitE, h]
    rw [hn, he]; clear hn he
    go_enter Try.func117, Try.ntmps117
    go_wp2_with (go_at_call 113; refine (fits_any _ _).mono ?_; rintro e w' ⟨rfl, rfl⟩)
    go_ret2
    exact ⟨rfl, rfl⟩

theorem size_any (n : Int) (w : World) (h1 : -1152921504606846976 ≤ n) (h2 : n ≤ 1152921504606846976) :
    Calls Try.prog 115 #[.int .i64 n] w fun e w' => e = .returned (.int .i64 (CM.size n)) ∧ w = w' := by
  by_cases h : n < 0
  · have hs : CM.size n = -n := by simp [CM.size, h]
    rw [hs]; clear hs
    go_enter Try.func115, Try.ntmps115
    go_wp2
    go_ret
    exact ⟨rfl, rfl⟩
  · have hs : CM.size n = n := by simp [CM.size, h]
    rw [hs]; clear hs
    go_enter Try.func115, Try.ntmps115
    go_wp2
    go_ret
    exact ⟨rfl, rfl⟩

end Go.Proofs.Ythippdmfeeopkaa

namespace Go.Proofs.Ythippdmfeeopkaa
open Go.RowKit

theorem ofInt_i64 (a : Nat) (ha : a < 9223372036854775808) : (BitVec.ofInt 64 (a : Int)).toNat = a := by
  rw [BitVec.ofInt_natCast, BitVec.toNat_ofNat]; exact Nat.mod_eq_of_lt (by omega)
theorem i64_and_nat (a b : Nat) (ha : a < 9223372036854775808) (hb : b < 9223372036854775808) : bits .and .i64 (a : Int) (b : Int) = ((a &&& b : Nat) : Int) := by
  have hx : a &&& b < 2 ^ 63 := Nat.and_lt_two_pow _ (by omega)
  show IntKind.i64.wrap ((BitVec.ofInt 64 (a : Int) &&& BitVec.ofInt 64 (b : Int)).toNat : Int) = _
  rw [BitVec.toNat_and, ofInt_i64 a ha, ofInt_i64 b hb, IntKind.wrap_i64]
  omega

theorem div_pow_le (a j : Nat) : a / 2 ^ j ≤ a := Nat.div_le_self _ _

theorem bit_test (a k : Nat) (ha : a ≤ 1152921504606846976) :
    (bits BinOp.and IntKind.i64 ((a : Int) / 2 ^ (60 - k)) 1 == 1) = decide (CM.bitAt a k = 1) := by
  have e : ((a : Int) / 2 ^ (60 - k)) = ((a / 2 ^ (60 - k) : Nat) : Int) := by
    rw [Int.natCast_ediv, Int.natCast_pow]; rfl
  have hl := div_pow_le a (60 - k)
  have h := i64_and_nat (a / 2 ^ (60 - k)) 1 (by omega) (by omega)
  rw [e, show (1 : Int) = ((1 : Nat) : Int) from rfl, h, Nat.and_one_is_mod]
  unfold CM.bitAt
  generalize a / 2 ^ (60 - k) % 2 = t
  rw [Bool.eq_iff_iff]; simp; omega

theorem bit_test2 (a k : Nat) :
    ((((a : Int) / 2 ^ (60 - k)).tmod 2) == 1) = decide (CM.bitAt a k = 1) := by
  have e : ((a : Int) / 2 ^ (60 - k)) = ((a / 2 ^ (60 - k) : Nat) : Int) := by
    rw [Int.natCast_ediv, Int.natCast_pow]; rfl
  rw [e, Int.tmod_eq_emod_of_nonneg (Int.natCast_nonneg _)]
  unfold CM.bitAt
  generalize a / 2 ^ (60 - k) = t
  rw [Bool.eq_iff_iff]; simp; omega

set_option maxHeartbeats 400000 in
theorem divide_any (a b c : Nat) (w : World) (ha : a ≤ 1152921504606846976) (hb : b ≤ 1152921504606846976) (hc0 : 0 < c) (hc : c ≤ 1152921504606846976) :
    Calls Try.prog 114 #[.int .i64 a, .int .i64 b, .int .i64 c] w fun e w' => e = .returned (.tuple #[.int .i64 (CM.dq a b c), .int .i64 (CM.dr a b c), .bool (CM.dok a b c)]) ∧ ∃ n, w' = w.drewN n := by
  go_enter Try.func114, Try.ntmps114
  go_wp2
  go_loopw [6, 7, 10] (fun q r i wr => ∃ k : Nat, ∃ x y : Int, k ≤ 61 ∧ i = .int .i64 k ∧ q = .int .i64 x ∧ r = .int .i64 y ∧ CM.DInv a b c k x y ∧ ∃ n, wr = w.drewN n) (fun _ _ i _ => 61 - (intOf i).toNat)
  case atStart => exact ⟨0, 0, 0, by omega, rfl, rfl, rfl, CM.DInv.start a b c ha, 0, rfl⟩
  case round =>
    obtain ⟨k, x, y, hk, rfl, rfl, rfl, hD, n, rfl⟩ := hrel
    obtain ⟨hx0, hx1, hy0, hy1⟩ := hD.bounds hc0
    by_cases hlt : k < 61
    · have ht := bit_test a k ha
      rcases CM.bit_01 a k with h0 | h1
      · rw [show decide (CM.bitAt a k = 1) = false from by simp [h0]] at ht
        obtain ⟨s1, s2⟩ := hD.step0 hlt hc0 h0
        have S1 := Lib.hid s1; have S2 := Lib.hid s2
        clear h0 s1 s2
        obtain ⟨q0, q1⟩ := IntWalk.tdiv_le (2 * y) c (by omega) (by omega)
        have e1 : wrap64 (2 * x + 2 * y / (c : Int)) = 2 * x + 2 * y / (c : Int) := IntWalk.wrap64_in _ (by omega)
        have hlow : 0 ≤ 2 * x + 2 * y / (c : Int) := by omega
        cases hf : CM.fits (2 * x + 2 * y / (c : Int))
        · have HN : Hid (1152921504606846976 < a * b / c) := S2.out (by rcases CM.fits_false.1 hf with h | h <;> omega)
          go_wp2
          go_quiet (fail)
          go_wp2_with (go_at_call 113; refine (fits_any _ _).mono ?_; rintro e w' ⟨rfl, rfl⟩)
          go_ret3
          obtain ⟨n1, n2, n3⟩ := CM.dok_no HN.out
          exact ⟨by rw [n1, n2, n3]; rfl, _, rfl⟩
        · have HY := Lib.hid (S1.out (CM.fits_true.1 hf).2)
          go_wp2
          go_quiet (fail)
          go_wp2_with (go_at_call 113; refine (fits_any _ _).mono ?_; rintro e w' ⟨rfl, rfl⟩)
          go_roundw
          case rel => exact ⟨k + 1, _, _, by omega, by go_num, rfl, rfl, HY.out, _, rfl⟩
          case measure => simp [intOf]; omega
      · rw [show decide (CM.bitAt a k = 1) = true from by simp [h1]] at ht
        obtain ⟨s1, s2⟩ := hD.step1 hlt hc0 h1
        have S1 := Lib.hid s1; have S2 := Lib.hid s2
        clear h1 s1 s2
        obtain ⟨p0, p1⟩ := IntWalk.tdiv_le (b : Int) c (by omega) (by omega)
        have m0 : 0 ≤ (b : Int) % (c : Int) := Int.emod_nonneg _ (by omega)
        have m1 : (b : Int) % (c : Int) < c := Int.emod_lt_of_pos _ (by omega)
        have hy2 : 0 ≤ 2 * y + (b : Int) % (c : Int) := by omega
        obtain ⟨q0, q1⟩ := IntWalk.tdiv_le (2 * y + (b : Int) % (c : Int)) c (by omega) (by omega)
        have e0 : wrap64 ((b : Int) / (c : Int)) = (b : Int) / (c : Int) := IntWalk.wrap64_in _ (by omega)
        have e1 : wrap64 (2 * x + (b : Int) / (c : Int)) = 2 * x + (b : Int) / (c : Int) := IntWalk.wrap64_in _ (by omega)
        have e2 : wrap64 (2 * y + (b : Int) % (c : Int)) = 2 * y + (b : Int) % (c : Int) := IntWalk.wrap64_in _ (by omega)
        have hq3 : (2 * y + (b : Int) % (c : Int)) / (c : Int) ≤ 3 := by
          have : (2 * y + (b : Int) % (c : Int)) < 4 * (c : Int) := by omega
          have := Int.ediv_lt_of_lt_mul (by omega) this
          omega
        have e3 : wrap64 ((2 * y + (b : Int) % (c : Int)) / (c : Int)) = (2 * y + (b : Int) % (c : Int)) / (c : Int) := IntWalk.wrap64_in _ (by omega)
        have e4 : wrap64 (2 * x + (b : Int) / (c : Int) + (2 * y + (b : Int) % (c : Int)) / (c : Int)) = 2 * x + (b : Int) / (c : Int) + (2 * y + (b : Int) % (c : Int)) / (c : Int) := IntWalk.wrap64_in _ (by omega)
        have e5 : (2 * y + (b : Int) % (c : Int)).tdiv (c : Int) = (2 * y + (b : Int) % (c : Int)) / (c : Int) := Int.tdiv_eq_ediv_of_nonneg hy2
        have e6 : (2 * y + (b : Int) % (c : Int)).tmod (c : Int) = (2 * y + (b : Int) % (c : Int)) % (c : Int) := Int.tmod_eq_emod_of_nonneg hy2
        have hlow : 0 ≤ 2 * x + (b : Int) / (c : Int) + (2 * y + (b : Int) % (c : Int)) / (c : Int) := by omega
        cases hf : CM.fits (2 * x + (b : Int) / (c : Int) + (2 * y + (b : Int) % (c : Int)) / (c : Int))
        · have HN : Hid (1152921504606846976 < a * b / c) := S2.out (by rcases CM.fits_false.1 hf with h | h <;> omega)
          go_wp2
          go_quiet (fail)
          go_wp2
          go_quiet (fail)
          go_wp2_with (go_at_call 113; refine (fits_any _ _).mono ?_; rintro e w' ⟨rfl, rfl⟩)
          go_ret3
          obtain ⟨n1, n2, n3⟩ := CM.dok_no HN.out
          exact ⟨by rw [n1, n2, n3]; rfl, _, rfl⟩
        · have HY := Lib.hid (S1.out (CM.fits_true.1 hf).2)
          go_wp2
          go_quiet (fail)
          go_wp2
          go_quiet (fail)
          go_wp2_with (go_at_call 113; refine (fits_any _ _).mono ?_; rintro e w' ⟨rfl, rfl⟩)
          go_roundw
          case rel => exact ⟨k + 1, _, _, by omega, by go_num, rfl, rfl, (by simpa using HY.out), _, rfl⟩
          case measure => simp [intOf]; omega
    · obtain rfl : k = 61 := by omega
      obtain ⟨d1, d2, d3⟩ := hD.done
      have D1 := Lib.hid d1; have D2 := Lib.hid d2; have D3 := Lib.hid d3
      clear d1 d2 d3
      go_wp2
      go_ret3
      exact ⟨by rw [← D1.out, ← D2.out, D3.out]; rfl, _, rfl⟩

theorem divide_int (a b c : Int) (w : World) (a0 : 0 ≤ a) (ha : a ≤ 1152921504606846976) (b0 : 0 ≤ b) (hb : b ≤ 1152921504606846976) (hc0 : 0 < c) (hc : c ≤ 1152921504606846976) :
    Calls Try.prog 114 #[.int .i64 a, .int .i64 b, .int .i64 c] w fun e w' => e = .returned (.tuple #[.int .i64 (CM.dq a.toNat b.toNat c.toNat), .int .i64 (CM.dr a.toNat b.toNat c.toNat), .bool (CM.dok a.toNat b.toNat c.toNat)]) ∧ ∃ n, w' = w.drewN n := by
  obtain ⟨x, rfl⟩ := Int.eq_ofNat_of_zero_le a0
  obtain ⟨y, rfl⟩ := Int.eq_ofNat_of_zero_le b0
  obtain ⟨z, rfl⟩ := Int.eq_ofNat_of_zero_le (Int.le_of_lt hc0)
  rw [Int.toNat_natCast, Int.toNat_natCast, Int.toNat_natCast]
  exact divide_any x y z w (by omega) (by omega) (by omega) (by omega)

end Go.Proofs.Ythippdmfeeopkaa
