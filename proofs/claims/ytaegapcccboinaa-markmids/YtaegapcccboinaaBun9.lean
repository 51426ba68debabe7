/- Put together: MrkG, WMarkMids, SizedRec, OpenArr. -/
import Derived.Test.YtaegapcccboinaaBun8
import Derived.Test.YtaegapcccboinaaBun1
import Derived.SizedLaws
import Derived.ProofKit
import Derived.Test.YtaegapcccboinaaBun3
import Derived.OpenShut
import Derived.ShutString
import Derived.ChangeOld
import Derived.Laws.IdiomArrays
import Derived.Lib.SmallJoins
/- Contracts of layer 18's reference: within, Mid. -/
namespace Go.Proofs.Ytaegapcccboinaa
open Go.RowKit Go.Recs
set_option linter.unusedVariables false
set_option linter.unusedSimpArgs false
theorem rwithin18_any (n a b : Int) (w : World) :
    Calls Try.prog 60 #[.int .i64 n, .int .i64 a, .int .i64 b] w fun e w' => e = .returned (.bool (QM.within n a b)) ∧ w = w' := by
  by_cases h1 : a ≤ n
  · by_cases h2 : n ≤ b
    · have e : QM.within n a b = true := QM.within_true.2 ⟨h1, h2⟩
      rw [e]; clear e
      go_enter Try.func60, Try.ntmps60
      go_wp2
      go_ret
      exact ⟨rfl, rfl⟩
    · have e : QM.within n a b = false := QM.within_false.2 (.inr (by omega))
      rw [e]; clear e
      go_enter Try.func60, Try.ntmps60
      go_wp2
      go_ret
      exact ⟨rfl, rfl⟩
  · have e : QM.within n a b = false := QM.within_false.2 (.inl (by omega))
    rw [e]; clear e
    go_enter Try.func60, Try.ntmps60
    go_wp2
    go_ret
    exact ⟨rfl, rfl⟩
theorem rwithin18p_any (n : Int) (w : World) : Calls Try.prog 60 #[.int .i64 n, .int .i64 (-16777216), .int .i64 16777216] w fun e w' => e = .returned (.bool (MK.isP n)) ∧ w = w' := rwithin18_any n (-16777216) 16777216 w
set_option maxHeartbeats 4000000 in
theorem rmid18_any (b a t : Int) (w : World) : Calls Try.prog 27 #[.int .i64 b, .int .i64 a, .int .i64 t] w fun e w' => e = .returned (.tuple #[.int .i64 (MK.midN b a t), .int .i64 (MK.midE b a t)]) ∧ Below w.heap.size w w' := by
  have C1 := Lib.hid (fun ww => rwithin18_any t 1 16777216 ww)
  have CP := Lib.hid (fun n ww => rwithin18p_any n ww)
  cases g1 : QM.within t 1 16777216
  · rw [(MK.mid_tick g1).1, (MK.mid_tick g1).2]
    rw [g1] at C1
    clear g1
    go_enter Try.func27, Try.ntmps27
    go_wp2_with fail
    refine (C1.out _).mono ?_
    rintro e w1 ⟨rfl, rfl⟩
    go_wp2_with fail
    go_ret2
    exact ⟨rfl, Below.refl _ _⟩
  · have ht := QM.within_true.1 g1
    cases g2 : MK.midB b a
    · have K := MK.midB_false.1 g2
      obtain ⟨k1, ⟨n1, n2⟩, p1, p2⟩ := MK.mid_bounds ht K.1 K.2.1
      rw [(MK.mid_ok g1 g2).1, (MK.mid_ok g1 g2).2]
      have C2 := fun ww => rmuldiv_any (b + a) 1 (2 * t) 5 ww
      have e : MK.midK b a t = CM.mdN (b + a) 1 (2 * t) 5 := rfl
      rw [k1, ← e] at C2
      have C2 := Lib.hid C2
      have i1 : MK.isP b = true := MK.isP_true.2 K.1
      have i2 : MK.isP a = true := MK.isP_true.2 K.2.1
      have CB1 := Lib.hid (fun ww => CP.out b ww)
      have CA1 := Lib.hid (fun ww => CP.out a ww)
      rw [i1] at CB1
      rw [i2] at CA1
      rw [g1] at C1
      obtain ⟨⟨b1, b2⟩, ⟨a1, a2⟩, hle⟩ := K
      obtain ⟨t1, t2⟩ := ht
      have hnl : ¬ a < b := by omega
      generalize MK.midK b a t = k at *
      clear g1 g2 i1 i2 e CP
      go_enter Try.func27, Try.ntmps27
      go_wp2_with fail
      refine (C1.out _).mono ?_
      rintro e w1 ⟨rfl, rfl⟩
      go_wp2_with fail
      refine (CB1.out _).mono ?_
      rintro e w1 ⟨rfl, rfl⟩
      go_wp2_with fail
      refine (CA1.out _).mono ?_
      rintro e w1 ⟨rfl, rfl⟩
      go_wp2_with fail
      refine (C2.out _).mono ?_
      rintro e w1 ⟨rfl, rfl⟩
      go_wp2_with fail
      go_ret2
      exact ⟨rfl, Below.refl _ _⟩
    · rw [(MK.mid_price g1 g2).1, (MK.mid_price g1 g2).2]
      rw [g1] at C1
      unfold MK.midB at g2
      have CB1 := Lib.hid (fun ww => CP.out b ww)
      have CA1 := Lib.hid (fun ww => CP.out a ww)
      clear g1 CP
      cases i1 : MK.isP b
      · rw [i1] at CB1
        clear g2 i1
        go_enter Try.func27, Try.ntmps27
        go_wp2_with fail
        refine (C1.out _).mono ?_
        rintro e w1 ⟨rfl, rfl⟩
        go_wp2_with fail
        refine (CB1.out _).mono ?_
        rintro e w1 ⟨rfl, rfl⟩
        go_wp2_with fail
        go_ret2
        exact ⟨rfl, Below.refl _ _⟩
      · rw [i1] at CB1
        cases i2 : MK.isP a
        · rw [i2] at CA1
          clear g2 i1 i2
          go_enter Try.func27, Try.ntmps27
          go_wp2_with fail
          refine (C1.out _).mono ?_
          rintro e w1 ⟨rfl, rfl⟩
          go_wp2_with fail
          refine (CB1.out _).mono ?_
          rintro e w1 ⟨rfl, rfl⟩
          go_wp2_with fail
          refine (CA1.out _).mono ?_
          rintro e w1 ⟨rfl, rfl⟩
          go_wp2_with fail
          go_ret2
          exact ⟨rfl, Below.refl _ _⟩
        · rw [i2] at CA1
          rw [i1, i2] at g2
          have hlt : a < b := by simpa using g2
          clear g2 i1 i2
          go_enter Try.func27, Try.ntmps27
          go_wp2_with fail
          refine (C1.out _).mono ?_
          rintro e w1 ⟨rfl, rfl⟩
          go_wp2_with fail
          refine (CB1.out _).mono ?_
          rintro e w1 ⟨rfl, rfl⟩
          go_wp2_with fail
          refine (CA1.out _).mono ?_
          rintro e w1 ⟨rfl, rfl⟩
          go_wp2_with fail
          go_ret2
          exact ⟨rfl, Below.refl _ _⟩
end Go.Proofs.Ytaegapcccboinaa

namespace Go.Proofs.Ytaegapcccboinaa.markMids
open Go.RowKit Go.Recs
set_option linter.unusedVariables false
set_option maxHeartbeats 4000000 in
set_option maxRecDepth 100000 in
theorem walk (b a t : Int) (w : World) (hb : -9223372036854775808 ≤ b ∧ b ≤ 9223372036854775807) (ha : -9223372036854775808 ≤ a ∧ a ≤ 9223372036854775807) (ht : -9223372036854775808 ≤ t ∧ t ≤ 9223372036854775807) :
    Calls Try.prog 8 #[.int .i64 b, .int .i64 a, .int .i64 t] w fun e w' => e = .returned (.bool true) ∧ Below w.heap.size w w' := by
  have C1 := Lib.hid (mid_any b a t w)
  have C2 := Lib.hid (fun ww => rmid18_any b a t ww)
  have CG := Lib.hid (fun ww => goes18_any ww)
  have KZ := @MK.mid_zero b a t
  have KB := @MK.mid_between b a t
  generalize MK.midE b a t = y at *
  generalize MK.midN b a t = x at *
  by_cases hy : y = 0
  · subst hy
    obtain ⟨⟨t1, t2⟩, _, _, _⟩ := KZ rfl
    have ht0 : ¬ t = 0 := by omega
    have KB := KB rfl
    clear KZ hb ha ht t1 t2
    by_cases m1 : b.tmod t = 0
    · have e1 : (b.tmod t != 0) = false := by simp [m1]
      by_cases m2 : a.tmod t = 0
      · have e2 : (a.tmod t != 0) = false := by simp [m2]
        obtain ⟨k1, k2⟩ := KB m1 m2
        clear KB m1 m2
        go_enter Try.func8, Try.ntmps8
        go_wp2_with fail
        refine C1.out.mono ?_
        rintro e w1 ⟨rfl, b1⟩
        have HB1 := Lib.hid b1
        clear b1
        go_wp2_with fail
        refine (C2.out _).mono ?_
        rintro e w2 ⟨rfl, b2⟩
        have HB2 := Lib.hid (HB1.out.trans (b2.mono HB1.out.size))
        clear b2
        go_wp2_with fail
        refine (CG.out _).mono ?_
        rintro e w3 ⟨rfl, b3⟩
        have HB3 := Lib.hid (HB2.out.trans (b3.mono HB2.out.size))
        clear b3
        go_wp2_with fail
        go_ret
        exact ⟨rfl, HB3.out⟩
      · have e2 : (a.tmod t != 0) = true := by simpa using m2
        clear KB m1 m2
        go_enter Try.func8, Try.ntmps8
        go_wp2_with fail
        refine C1.out.mono ?_
        rintro e w1 ⟨rfl, b1⟩
        have HB1 := Lib.hid b1
        clear b1
        go_wp2_with fail
        refine (C2.out _).mono ?_
        rintro e w2 ⟨rfl, b2⟩
        have HB2 := Lib.hid (HB1.out.trans (b2.mono HB1.out.size))
        clear b2
        go_wp2_with fail
        refine (CG.out _).mono ?_
        rintro e w3 ⟨rfl, b3⟩
        have HB3 := Lib.hid (HB2.out.trans (b3.mono HB2.out.size))
        clear b3
        go_wp2_with fail
        go_ret
        exact ⟨rfl, HB3.out⟩
    · have e1 : (b.tmod t != 0) = true := by simpa using m1
      clear KB m1
      go_enter Try.func8, Try.ntmps8
      go_wp2_with fail
      refine C1.out.mono ?_
      rintro e w1 ⟨rfl, b1⟩
      have HB1 := Lib.hid b1
      clear b1
      go_wp2_with fail
      refine (C2.out _).mono ?_
      rintro e w2 ⟨rfl, b2⟩
      have HB2 := Lib.hid (HB1.out.trans (b2.mono HB1.out.size))
      clear b2
      go_wp2_with fail
      refine (CG.out _).mono ?_
      rintro e w3 ⟨rfl, b3⟩
      have HB3 := Lib.hid (HB2.out.trans (b3.mono HB2.out.size))
      clear b3
      go_wp2_with fail
      go_ret
      exact ⟨rfl, HB3.out⟩
  · have e1 : (y != 0) = true := by simpa using hy
    clear KZ KB hb ha ht
    go_enter Try.func8, Try.ntmps8
    go_wp2_with fail
    refine C1.out.mono ?_
    rintro e w1 ⟨rfl, b1⟩
    have HB1 := Lib.hid b1
    clear b1
    go_wp2_with fail
    refine (C2.out _).mono ?_
    rintro e w2 ⟨rfl, b2⟩
    have HB2 := Lib.hid (HB1.out.trans (b2.mono HB1.out.size))
    clear b2
    go_wp2_with fail
    refine (CG.out _).mono ?_
    rintro e w3 ⟨rfl, b3⟩
    have HB3 := Lib.hid (HB2.out.trans (b3.mono HB2.out.size))
    clear b3
    go_wp2_with fail
    go_ret
    exact ⟨rfl, HB3.out⟩
end Go.Proofs.Ytaegapcccboinaa.markMids

/- What the reach says of a text that opens a record, over any program. -/
namespace Go.Recs
open Go.ChangeShapes Go.WideShapes Go.RowKit Go.Deep
set_option linter.unusedVariables false
theorem first_sized {H : Type} {enc : TypeId × Value → H} {P : Program} {W : World} {base : Nat} {spare : Nat → Bool} {held : Bool} {T : TypeId} {cs : Array Value} {d : DataW H} {p : List MemPlace} {fs : Array Field} {f : Field} {s : ByteArray}
    {ts : List TypeId} {ds : List (DataW H)} {j : Nat}
    (h : (DataW.weightsEach P ts ds).all (· ≤ reachBytes) = true) (ht : ts[j]? = some T) (hd : ds[j]? = some d)
    (hT : DataW.Trod enc P W base spare held T (.agg cs) d p) (hu : P.underlying T = some (.struct fs)) (hf : fs[0]? = some f) (ho : f.offset = 0) (hs : P.underlying f.type = some .string) (hc : P.cellsOf f.type = 1) (hcs : cs[0]? = some (.string s)) :
    s.size ≤ 140737488351232 := by
  obtain ⟨fuel, hx⟩ := hT
  obtain ⟨xs, n, _, hxd, _, hxl, hfl⟩ := DataW.trod_struct hu hx
  have h0 := hfl 0 f hf
  have hpos : 0 < xs.length := by
    rw [hxl]
    rcases Nat.eq_zero_or_pos fs.size with e | e
    · rw [Array.getElem?_eq_none (by omega)] at hf; cases hf
    · exact e
  rw [List.getElem?_eq_getElem hpos] at h0
  obtain ⟨t, ht0, hx0, _⟩ := DataW.trod_string hs h0
  rw [ho, hc, List.drop_zero] at ht0
  have ets : t = s := by
    have e1 : (Value.agg cs).cells.toList.take 1 = [Value.string t] := ht0
    have e2 : (Value.agg cs).cells.toList[0]? = some (Value.string s) := by simpa [Value.cells] using hcs
    cases hl : (Value.agg cs).cells.toList with
    | nil => rw [hl] at e2; cases e2
    | cons a r => rw [hl] at e1 e2; simp at e1 e2; rw [e1] at e2; injection e2
  subst ets
  injection hxd with hd1 _
  have hw : t.data.toList.length ∈ d.weights P T := by
    rw [hd1]
    simp only [DataW.weights, hu]
    have hm := DataW.weights_mem_each (P := P) (ts := fs.toList.map (·.type)) (ds := xs.map (·.1)) (j := 0) (t := f.type) (d := xs[0].1) (by rw [List.getElem?_map, Array.getElem?_toList, hf]; rfl) (by rw [List.getElem?_map, List.getElem?_eq_getElem hpos]; rfl) t.data.toList.length
    apply hm
    rw [hx0]
    simp [DataW.weights]
  have := List.all_eq_true.1 h _ (DataW.weights_mem_each ht hd _ hw)
  have e : t.data.toList.length = t.size := Array.length_toList
  rw [e] at this
  have hr : reachBytes = 140737488351232 := by decide
  rw [← hr]
  simpa using this
end Go.Recs

/- A law's arguments: arrays of two and of three ints. -/
namespace Go.Proofs.Ytaegapcccboinaa
open Go.ChangeShapes Go.WideShapes Go.ChangeAt Go.RowKit
set_option linter.unusedVariables false
set_option maxRecDepth 100000

theorem array_two {T : Array Value} (h : T.size = 2) : ∃ a b, T = #[a, b] := by
  obtain ⟨l⟩ := T
  match l, h with
  | [a, b], _ => exact ⟨a, b, rfl⟩
theorem trod_two {H : Type} {enc : TypeId × Value → H} {P : Program} {w : World} {base : Nat} {spare : Nat → Bool} {held : Bool} {t e : TypeId} {fuel : Nat} {c0 c1 : Value} {x : DataW H × List MemPlace}
    (ht : P.underlying t = some (.array 2 e)) (hce : P.cellsOf e = 1) (h : DataW.trod enc P w base spare held fuel t [c0, c1] = some x) :
    ∃ y0 y1 n, DataW.trod enc P w base spare held n e [c0] = some y0 ∧ DataW.trod enc P w base spare held n e [c1] = some y1 := by
  cases fuel with
  | zero => simp [DataW.trod] at h
  | succ n =>
    unfold DataW.trod at h
    rw [ht] at h
    have r2 : List.range 2 = [0, 1] := rfl
    simp [r2, hce] at h
    obtain ⟨_, h⟩ := h
    cases h0 : DataW.trod enc P w base spare held n e [c0] with
    | none => simp [h0] at h
    | some y0 =>
      cases h1 : DataW.trod enc P w base spare held n e [c1] with
      | none => simp [h0, h1] at h
      | some y1 => exact ⟨y0, y1, n, h0, h1⟩
end Go.Proofs.Ytaegapcccboinaa
