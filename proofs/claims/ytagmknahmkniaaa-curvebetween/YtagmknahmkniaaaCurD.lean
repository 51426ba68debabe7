/- slices.Backward at points. -/
import Derived.Test.YtagmknahmkniaaaCurA
import Derived.RangeFuncNested
import Derived.RangeFuncBound
import Derived.RangeFuncCalls
import Derived.RangeFuncLeaves
import Derived.Shelf.Abstract
import Derived.Sort.MapsRangeIn
import Derived.WalkKit
import Derived.OwnWalkIn
import Derived.TacticsInMore
import Derived.RegionIn
import Derived.LoopNIn
import Derived.LoopIn
import Derived.RangeFuncBox
import Derived.Maps.AppendAt
namespace Go.Proofs.Ytagmknahmkniaaa
open Go.RowKit Go.Recs Go.Maps Go.Shelf
set_option linter.unusedVariables false
set_option linter.unusedSimpArgs false
attribute [local go_sem] Oper.semAt_some
/-- two blocks stay as they are -/
def KeepsTwo (b1 b2 : Nat) (W W' : World) : Prop := W'.heap[b1]? = W.heap[b1]? ∧ W'.heap[b2]? = W.heap[b2]? ∧ W.heap.size ≤ W'.heap.size
theorem ktwo_t {b1 b2 : Nat} {A B C : World} (h : KeepsTwo b1 b2 A B) (g : KeepsTwo b1 b2 B C) : KeepsTwo b1 b2 A C := ⟨g.1.trans h.1, g.2.1.trans h.2.1, Nat.le_trans h.2.2 g.2.2⟩
theorem ktwo_b {b1 b2 n : Nat} (h1 : b1 < n) (h2 : b2 < n) (W : World) (l : Nat) (o o' : Obj) (hl : n ≤ l) : KeepsTwo b1 b2 W (W.putObj l o') := by
  refine ⟨?_, ?_, by simp [World.putObj]⟩
  · simp only [World.putObj]; rw [Array.getElem?_setIfInBounds_ne (by omega)]
  · simp only [World.putObj]; rw [Array.getElem?_setIfInBounds_ne (by omega)]
theorem KeepsTwo.cell {b1 b2 : Nat} {W W' : World} (h : KeepsTwo b1 b2 W W') (i : Nat) : W'.cell? ⟨b2, i, none⟩ = W.cell? ⟨b2, i, none⟩ := by
  simp [World.cell?, h.2.1]
theorem KeepsTwo.pts {b1 b2 : Nat} {W W' : World} (h : KeepsTwo b1 b2 W W') {A : Option Addr} {l : List UM.Pt} (hA : l = [] ∨ ∀ b off, A = some ⟨b, off, none⟩ → b = b1) (hI : Pts W A l) : Pts W' A l := by
  refine ⟨?_, hI.2⟩
  obtain ⟨g1, g2, g3⟩ := hI.1
  refine ⟨g1, g2, ?_⟩
  rcases hA with rfl | hA
  · exact .inl rfl
  rcases g3 with g3 | ⟨b, off, e, hb, hc⟩
  · exact .inl g3
  · refine .inr ⟨b, off, e, by have := h.2.2; omega, fun i j hi hj => ?_⟩
    rw [← hc i j hi hj]
    have := hA b off e
    subst this
    simp [World.cell?, h.1]
theorem ktwo_al {b1 b2 : Nat} {W : World} (h1 : b1 < W.heap.size) (h2 : b2 < W.heap.size) (o : Obj) : KeepsTwo b1 b2 W (W.alloc o) := ⟨Below.heap_alloc W o b1 h1, Below.heap_alloc W o b2 h2, by simp⟩
/-- the block where the points lie -/
theorem pts_block {w : World} {A : Option Addr} {l : List UM.Pt} (hI : Pts w A l) {k m : Nat} (hk : w.heap.size ≤ k) (hm : w.heap.size ≤ m) (hne : k ≠ m) : ∃ b1, b1 ≤ k ∧ b1 ≠ m ∧ (l = [] ∨ ∀ b off, A = some ⟨b, off, none⟩ → b = b1) := by
  rcases hI.1.2.2 with h | ⟨b, off, e, hb, _⟩
  · exact ⟨k, Nat.le_refl _, hne, .inl (by simpa using h)⟩
  · refine ⟨b, by omega, by omega, .inr fun b' off' e' => ?_⟩
    rw [e] at e'
    injection e' with e'
    injection e' with e1
    exact e1.symm
theorem rev_step {l : List UM.Pt} {j : Nat} (h : j < l.length) : (l.drop j).reverse = (l.drop (j + 1)).reverse ++ [UM.pAt l j] := by
  rw [List.drop_eq_getElem_cons h, List.reverse_cons, UM.pAt_get h]
set_option maxHeartbeats 4000000 in
theorem uback1_in (F : Fence) (n : Nat) (hf : F.fn 66) (hro : F.round = none) (hn : 1 ≤ n) (lid b1 Bm : Nat) (A : Option Addr) (l : List UM.Pt) (cap : Nat) (hA : l = [] ∨ ∀ b off, A = some ⟨b, off, none⟩ → b = b1) (J Jx : List (Int × UM.Pt) → World → Prop)
    (hY : ∀ pre x W, J pre W → pre.length < l.length → YieldAt F (n - 1) Try.prog lid #[.int .i64 x.1, ptA x.2] W fun e W' =>
      (e = .returned (.bool true) ∧ J (pre ++ [x]) W' ∧ KeepsTwo b1 Bm W W') ∨ (e = .returned (.bool false) ∧ Jx (pre ++ [x]) W'))
    (W : World) (hm : W.cell? ⟨Bm, 0, none⟩ = some (.slice A l.length cap)) (hI : Pts W A l) (h0 : J [] W) :
    CallsIn F n Try.prog 66 #[.func (.yield lid) #[] #[], .pointer (some ⟨Bm, 0, none⟩)] W fun e W' => (∃ v, e = .returned v) ∧
      ((∃ xs, (xs.map (·.2) = l.reverse) ∧ J xs W') ∨ (∃ pre, True ∧ Jx pre W')) := by
  have hlen := hI.len
  have HI := Lib.hid hI
  have HA := Lib.hid hA
  have H0 := Lib.hid h0
  have HY := Lib.hid hY
  clear hI hA h0 hY
  refine callsIn_of_wp Try.func66 rfl hf ?_ hro
  simp only [Try.ntmps66, List.size_toArray, List.length_cons, List.length_nil, Nat.reduceAdd, Nat.reduceSub, Array.replicate_succ, Array.replicate_zero, List.push_toArray, List.append_toArray, List.nil_append, List.cons_append]
  gi_wp2
  gi_loopw [3] (fun i wr => ∃ (k : Nat) (pre : List (Int × UM.Pt)), k ≤ l.length ∧ i = .int .i64 ((k : Int) - 1) ∧ pre.length + k = l.length ∧ Hid (pre.map (·.2) = (l.drop k).reverse) ∧ Hid (J pre wr) ∧ wr.cell? ⟨Bm, 0, none⟩ = some (.slice A l.length cap) ∧ Hid (Pts wr A l))
    (fun i _ => (intOf i + 1).toNat)
  case atStart => exact ⟨l.length, [], Nat.le_refl _, rfl, by simp, Lib.hid (by rw [List.drop_length]; rfl), H0, hm, HI⟩
  case round =>
    clear hm
    obtain ⟨k, pre, hk, rfl, hp, HP, HJ, hm, HI⟩ := hrel
    cases k with
    | zero =>
      have e : (((0 : Nat) : Int) - 1) = -1 := rfl
      rw [e]
      gi_wp2
      go_end0
      exact ⟨⟨_, rfl⟩, .inl ⟨pre, by rw [HP.out, List.drop_zero], HJ.out⟩⟩
    | succ j =>
      have e : (((j + 1 : Nat) : Int) - 1) = (j : Int) := by omega
      rw [e]; clear e
      have hlt : j < l.length := by omega
      obtain ⟨b, off, t, rfl, hb, HV, q, d0, d1, d2⟩ := pts_get HI.out hlt
      have HP2 : Hid ((pre ++ [((j : Int), t)]).map (·.2) = (l.drop j).reverse) := Lib.hid (by rw [List.map_append, HP.out, rev_step hlt, HV.out]; rfl)
      obtain ⟨fn, tmps, assign, body, hy, hR⟩ := HY.out pre ((j : Int), t) _ HJ.out (by omega)
      dsimp only at hy
      clear q
      gi_wp2
      refine hR.mono ?_
      rintro e W3 (⟨rfl, hJ4, hk4⟩ | ⟨rfl, hJx4⟩)
      · have hm3 := (hk4.cell 0).trans hm
        have HI3 := Lib.hid (hk4.pts HA.out HI.out)
        have HJ4 := Lib.hid hJ4
        clear hJ4 hk4 hm d0 d1 d2 HI HJ
        gi_wp2
        go_roundw
        case rel => exact ⟨j, _, by omega, by go_num, by rw [List.length_append, List.length_singleton]; omega, HP2, HJ4, hm3, HI3⟩
        case measure => simp [intOf]
      · gi_wp2
        refine bodyPost_ret (results_none rfl _ _ _) rfl ?_
        exact ⟨⟨_, rfl⟩, .inr ⟨_, trivial, hJx4⟩⟩
theorem uback_stops (F : Fence) (n : Nat) (hf : F.fn 66) (hro : F.round = none) (hn : 1 ≤ n) (b1 Bm : Nat) (A : Option Addr) (l : List UM.Pt) (cap : Nat) (hA : l = [] ∨ ∀ b off, A = some ⟨b, off, none⟩ → b = b1) (w : World) (hm : w.cell? ⟨Bm, 0, none⟩ = some (.slice A l.length cap)) (hBm : Bm < w.heap.size) (hI : Pts w A l) :
    SeqStopsK F n Try.prog 66 #[.pointer (some ⟨Bm, 0, none⟩)] (fun (x : Int × UM.Pt) => #[.int .i64 x.1, ptA x.2]) (KeepsTwo b1 Bm) (fun xs => xs.map (·.2) = l.reverse) (fun _ => True) l.length w := fun lid J Jx W hW hJ hJx hY h0 =>
  uback1_in F n hf hro hn lid b1 Bm A l cap hA J Jx hY W ((hW.cell (p := ⟨Bm, 0, none⟩) hBm).trans hm) (hI.below hW) h0
set_option maxHeartbeats 1000000 in
theorem uback_any (A : Option Addr) (n cap : Nat) (w : World) : Calls Try.prog 54 #[.slice A n cap] w fun e w' => e = .returned (.func (.func 66) #[] #[.pointer (some ⟨w.heap.size, 0, none⟩)]) ∧ w.alloc (.cells #[.slice A n cap] 22) = w' := by
  have hmf : ∀ (xs : Array Value), xs.map id = xs := by simp
  go_enter Try.func54, Try.ntmps54
  go_wp2_with fail
  go_ret
  exact ⟨rfl, rfl⟩
end Go.Proofs.Ytagmknahmkniaaa
