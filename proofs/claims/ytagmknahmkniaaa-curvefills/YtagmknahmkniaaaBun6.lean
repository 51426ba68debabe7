/- Put together: CurD, CurE, CentsA, CentsB, CentsC, CurB. -/
import Derived.Test.YtagmknahmkniaaaBun5
import Derived.RangeFuncNested
import Derived.RangeFuncBound
import Derived.RangeFuncCalls
import Derived.RangeFuncLeaves
import Derived.Shelf.Abstract
import Derived.Sort.MapsRangeIn
import Derived.WalkKit
import Derived.OwnWalkIn
import Derived.TacticsInMore
import Derived.RegionIn
import Derived.LoopNIn
import Derived.LoopIn
import Derived.RangeFuncBox
import Derived.Maps.AppendAt
import Derived.Test.YtagmknahmkniaaaRows
import Derived.Test.YtagmknahmkniaaaBun1
import Derived.WalkSpells
import Derived.WalkLawsBesides
import Derived.IntWalk
import Derived.Lib.Hide
import Derived.Deep.QuietTactic
import Derived.BigQuiet
import Derived.Laws.BitsAllLaws
import Derived.Laws.BitsLemmas
/- slices.Backward at points. -/
namespace Go.Proofs.Ytagmknahmkniaaa
open Go.RowKit Go.Recs Go.Maps Go.Shelf
set_option linter.unusedVariables false
set_option linter.unusedSimpArgs false
attribute [local go_sem] Oper.semAt_some
/-- two blocks stay as they are -/
def KeepsTwo (b1 b2 : Nat) (W W' : World) : Prop := W'.heap[b1]? = W.heap[b1]? ∧ W'.heap[b2]? = W.heap[b2]? ∧ W.heap.size ≤ W'.heap.size
theorem ktwo_t {b1 b2 : Nat} {A B C : World} (h : KeepsTwo b1 b2 A B) (g : KeepsTwo b1 b2 B C) : KeepsTwo b1 b2 A C := ⟨g.1.trans h.1, g.2.1.trans h.2.1, Nat.le_trans h.2.2 g.2.2⟩
theorem ktwo_b {b1 b2 n : Nat} (h1 : b1 < n) (h2 : b2 < n) (W : World) (l : Nat) (o o' : Obj) (hl : n ≤ l) : KeepsTwo b1 b2 W (W.putObj l o') := by
  refine ⟨?_, ?_, by simp [World.putObj]⟩
  · simp only [World.putObj]; rw [Array.getElem?_setIfInBounds_ne (by omega)]
  · simp only [World.putObj]; rw [Array.getElem?_setIfInBounds_ne (by omega)]
theorem KeepsTwo.cell {b1 b2 : Nat} {W W' : World} (h : KeepsTwo b1 b2 W W') (i : Nat) : W'.cell? ⟨b2, i, none⟩ = W.cell? ⟨b2, i, none⟩ := by
  simp [World.cell?, h.2.1]
theorem KeepsTwo.pts {b1 b2 : Nat} {W W' : World} (h : KeepsTwo b1 b2 W W') {A : Option Addr} {l : List UM.Pt} (hA : l = [] ∨ ∀ b off, A = some ⟨b, off, none⟩ → b = b1) (hI : Pts W A l) : Pts W' A l := by
  refine ⟨?_, hI.2⟩
  obtain ⟨g1, g2, g3⟩ := hI.1
  refine ⟨g1, g2, ?_⟩
  rcases hA with rfl | hA
  · exact .inl rfl
  rcases g3 with g3 | ⟨b, off, e, hb, hc⟩
  · exact .inl g3
  · refine .inr ⟨b, off, e, by have := h.2.2; omega, fun i j hi hj => ?_⟩
    rw [← hc i j hi hj]
    have := hA b off e
    subst this
    simp [World.cell?, h.1]
theorem ktwo_al {b1 b2 : Nat} {W : World} (h1 : b1 < W.heap.size) (h2 : b2 < W.heap.size) (o : Obj) : KeepsTwo b1 b2 W (W.alloc o) := ⟨Below.heap_alloc W o b1 h1, Below.heap_alloc W o b2 h2, by simp⟩
/-- the block where the points lie -/
theorem pts_block {w : World} {A : Option Addr} {l : List UM.Pt} (hI : Pts w A l) {k m : Nat} (hk : w.heap.size ≤ k) (hm : w.heap.size ≤ m) (hne : k ≠ m) : ∃ b1, b1 ≤ k ∧ b1 ≠ m ∧ (l = [] ∨ ∀ b off, A = some ⟨b, off, none⟩ → b = b1) := by
  rcases hI.1.2.2 with h | ⟨b, off, e, hb, _⟩
  · exact ⟨k, Nat.le_refl _, hne, .inl (by simpa using h)⟩
  · refine ⟨b, by omega, by omega, .inr fun b' off' e' => ?_⟩
    rw [e] at e'
    injection e' with e'
    injection e' with e1
    exact e1.symm
theorem rev_step {l : List UM.Pt} {j : Nat} (h : j < l.length) : (l.drop j).reverse = (l.drop (j + 1)).reverse ++ [UM.pAt l j] := by
  rw [List.drop_eq_getElem_cons h, List.reverse_cons, UM.pAt_get h]
set_option maxHeartbeats 4000000 in
theorem uback1_in (F : Fence) (n : Nat) (hf : F.fn 66) (hro : F.round = none) (hn : 1 ≤ n) (lid b1 Bm : Nat) (A : Option Addr) (l : List UM.Pt) (cap : Nat) (hA : l = [] ∨ ∀ b off, A = some ⟨b, off, none⟩ → b = b1) (J Jx : List (Int × UM.Pt) → World → Prop)
    (hY : ∀ pre x W, J pre W → pre.length < l.length → YieldAt F (n - 1) Try.prog lid #[.int .i64 x.1, ptA x.2] W fun e W' =>
      (e = .returned (.bool true) ∧ J (pre ++ [x]) W' ∧ KeepsTwo b1 Bm W W') ∨ (e = .returned (.bool false) ∧ Jx (pre ++ [x]) W'))
    (W : World) (hm : W.cell? ⟨Bm, 0, none⟩ = some (.slice A l.length cap)) (hI : Pts W A l) (h0 : J [] W) :
    CallsIn F n Try.prog 66 #[.func (.yield lid) #[] #[], .pointer (some ⟨Bm, 0, none⟩)] W fun e W' => (∃ v, e = .returned v) ∧
      ((∃ xs, (xs.map (·.2) = l.reverse) ∧ J xs W') ∨ (∃ pre, True ∧ Jx pre W')) := by
  have hlen := hI.len
  have HI := Lib.hid hI
  have HA := Lib.hid hA
  have H0 := Lib.hid h0
  have HY := Lib.hid hY
  clear hI hA h0 hY
  refine callsIn_of_wp Try.func66 rfl hf ?_ hro
  simp only [Try.ntmps66, List.size_toArray, List.length_cons, List.length_nil, Nat.reduceAdd, Nat.reduceSub, Array.replicate_succ, Array.replicate_zero, List.push_toArray, List.append_toArray, List.nil_append, List.cons_append]
  gi_wp2
  gi_loopw [3] (fun i wr => ∃ (k : Nat) (pre : List (Int × UM.Pt)), k ≤ l.length ∧ i = .int .i64 ((k : Int) - 1) ∧ pre.length + k = l.length ∧ Hid (pre.map (·.2) = (l.drop k).reverse) ∧ Hid (J pre wr) ∧ wr.cell? ⟨Bm, 0, none⟩ = some (.slice A l.length cap) ∧ Hid (Pts wr A l))
    (fun i _ => (intOf i + 1).toNat)
  case atStart => exact ⟨l.length, [], Nat.le_refl _, rfl, by simp, Lib.hid (by rw [List.drop_length]; rfl), H0, hm, HI⟩
  case round =>
    clear hm
    obtain ⟨k, pre, hk, rfl, hp, HP, HJ, hm, HI⟩ := hrel
    cases k with
    | zero =>
      have e : (((0 : Nat) : Int) - 1) = -1 := rfl
      rw [e]
      gi_wp2
      go_end0
      exact ⟨⟨_, rfl⟩, .inl ⟨pre, by rw [HP.out, List.drop_zero], HJ.out⟩⟩
    | succ j =>
      have e : (((j + 1 : Nat) : Int) - 1) = (j : Int) := by omega
      rw [e]; clear e
      have hlt : j < l.length := by omega
      obtain ⟨b, off, t, rfl, hb, HV, q, d0, d1, d2⟩ := pts_get HI.out hlt
      have HP2 : Hid ((pre ++ [((j : Int), t)]).map (·.2) = (l.drop j).reverse) := Lib.hid (by rw [List.map_append, HP.out, rev_step hlt, HV.out]; rfl)
      obtain ⟨fn, tmps, assign, body, hy, hR⟩ := HY.out pre ((j : Int), t) _ HJ.out (by omega)
      dsimp only at hy
      clear q
      gi_wp2
      refine hR.mono ?_
      rintro e W3 (⟨rfl, hJ4, hk4⟩ | ⟨rfl, hJx4⟩)
      · have hm3 := (hk4.cell 0).trans hm
        have HI3 := Lib.hid (hk4.pts HA.out HI.out)
        have HJ4 := Lib.hid hJ4
        clear hJ4 hk4 hm d0 d1 d2 HI HJ
        gi_wp2
        go_roundw
        case rel => exact ⟨j, _, by omega, by go_num, by rw [List.length_append, List.length_singleton]; omega, HP2, HJ4, hm3, HI3⟩
        case measure => simp [intOf]
      · gi_wp2
        refine bodyPost_ret (results_none rfl _ _ _) rfl ?_
        exact ⟨⟨_, rfl⟩, .inr ⟨_, trivial, hJx4⟩⟩
theorem uback_stops (F : Fence) (n : Nat) (hf : F.fn 66) (hro : F.round = none) (hn : 1 ≤ n) (b1 Bm : Nat) (A : Option Addr) (l : List UM.Pt) (cap : Nat) (hA : l = [] ∨ ∀ b off, A = some ⟨b, off, none⟩ → b = b1) (w : World) (hm : w.cell? ⟨Bm, 0, none⟩ = some (.slice A l.length cap)) (hBm : Bm < w.heap.size) (hI : Pts w A l) :
    SeqStopsK F n Try.prog 66 #[.pointer (some ⟨Bm, 0, none⟩)] (fun (x : Int × UM.Pt) => #[.int .i64 x.1, ptA x.2]) (KeepsTwo b1 Bm) (fun xs => xs.map (·.2) = l.reverse) (fun _ => True) l.length w := fun lid J Jx W hW hJ hJx hY h0 =>
  uback1_in F n hf hro hn lid b1 Bm A l cap hA J Jx hY W ((hW.cell (p := ⟨Bm, 0, none⟩) hBm).trans hm) (hI.below hW) h0
set_option maxHeartbeats 1000000 in
theorem uback_any (A : Option Addr) (n cap : Nat) (w : World) : Calls Try.prog 54 #[.slice A n cap] w fun e w' => e = .returned (.func (.func 66) #[] #[.pointer (some ⟨w.heap.size, 0, none⟩)]) ∧ w.alloc (.cells #[.slice A n cap] 22) = w' := by
  have hmf : ∀ (xs : Array Value), xs.map id = xs := by simp
  go_enter Try.func54, Try.ntmps54
  go_wp2_with fail
  go_ret
  exact ⟨rfl, rfl⟩
end Go.Proofs.Ytagmknahmkniaaa

/- Contracts of layer 19: the known points about a day. -/
namespace Go.Proofs.Ytagmknahmkniaaa
open Go.RowKit Go.Recs Go.Maps Go.Shelf
set_option linter.unusedVariables false
set_option linter.unusedSimpArgs false
attribute [local go_sem] Oper.semAt_some
/-- a point written into box g -/
abbrev putU (w : World) (g : Nat) (x : UM.Pt) : World := ((w.setCell ⟨g, 0, none⟩ (.int .i64 x.exp)).setCell ⟨g, 1, none⟩ (.int .i64 x.price)).setCell ⟨g, 2, none⟩ (.bool x.known)
theorem putU_own {w : World} {g : Nat} {x : UM.Pt} (h : CB w g 44 (ptC x)) (y : UM.Pt) : CB (putU w g y) g 44 (ptC y) := ((h.set_ 0 (.int .i64 y.exp)).set_ 1 (.int .i64 y.price)).set_ 2 (.bool y.known)
theorem putU_far {w : World} {g k : Nat} {t : TypeId} {cs : Array Value} (h : CB w g t cs) (hk : g ≠ k) (y : UM.Pt) : CB (putU w k y) g t cs := ((h.far (p := ⟨k, 0, none⟩) hk _).far (p := ⟨k, 1, none⟩) hk _).far (p := ⟨k, 2, none⟩) hk _
theorem putU_below {w w' : World} {B g : Nat} (h : Below B w w') (hg : B ≤ g) (y : UM.Pt) : Below B w (putU w' g y) := ((h.setCell (p := ⟨g, 0, none⟩) hg _).setCell (p := ⟨g, 1, none⟩) hg _).setCell (p := ⟨g, 2, none⟩) hg _
theorem putU_heap (w : World) (g k : Nat) (y : UM.Pt) (h : k ≠ g) : (putU w g y).heap[k]? = w.heap[k]? := ((Below.heap_setCell _ ⟨g, 2, none⟩ _ k h).trans (Below.heap_setCell _ ⟨g, 1, none⟩ _ k h)).trans (Below.heap_setCell _ ⟨g, 0, none⟩ _ k h)
theorem putU_size (w : World) (g : Nat) (y : UM.Pt) : (putU w g y).heap.size = w.heap.size := by simp [World.setCell]
theorem cb_ownF {β : Type} (Bx : Nat) (t : TypeId) (f : β → Array Value) : Go.Own (fun (s : β) W => CB W Bx t (f s)) := fun s X Y row hs hg hrow =>
  (hg.block Bx (CB.lt hs) (fun e' => by
    obtain ⟨o, ho, hc⟩ := hrow Bx e'.symm
    rw [show X.heap[Bx]? = _ from hs] at ho; cases ho; cases hc)).trans hs
theorem cb_own (Bx : Nat) (t : TypeId) (cs : Array Value) : Go.Own (fun (_ : Unit) W => CB W Bx t cs) := cb_ownF Bx t (fun _ => cs)
theorem putU_others (w : World) (g : Nat) (y : UM.Pt) : KeepsOthers w (putU w g y) := ((KeepsOthers.setCell _ _ _).trans (KeepsOthers.setCell _ _ _)).trans (KeepsOthers.setCell _ _ _)
theorem cb_drew {W : World} {g : Nat} {t : TypeId} {cs : Array Value} (h : CB W g t cs) : CB W.drew g t cs := h
theorem put2_K {W : World} {D a b : Nat} {x y : UM.Pt} (hK : W.heap[D]? = some (.deferred (some []))) : (putU (putU W a x) b y).heap[D]? = some (.deferred (some [])) := ((putU_others W a x).trans (putU_others (putU W a x) b y)).same D _ hK rfl
theorem heap_drew {W : World} {D : Nat} {o : Option Obj} (h : W.heap[D]? = o) : W.drew.heap[D]? = o := h
theorem put2_A {W : World} {a b : Nat} {x0 x y : UM.Pt} (h : CB W a 44 (ptC x0)) (hab : a ≠ b) : CB (putU (putU W a x) b y) a 44 (ptC x) := putU_far (putU_own h x) hab y
theorem put2_C {W : World} {a b : Nat} {x y0 y : UM.Pt} (h : CB W b 44 (ptC y0)) (hab : b ≠ a) : CB (putU (putU W a x) b y) b 44 (ptC y) := putU_own (putU_far h hab x) y
theorem cb_put {W : World} {g D : Nat} {t : TypeId} {cs : Array Value} {o : Obj} (h : CB W g t cs) (hK : W.heap[D]? = some (.deferred (some []))) : CB (W.putObj D o) g t cs := by
  have hne : D ≠ g := by
    rintro rfl
    rw [show W.heap[D]? = _ from h] at hK; cases hK
  unfold CB at h ⊢
  simp only [World.putObj]
  rw [Array.getElem?_setIfInBounds_ne hne]; exact h
/-- the first known one from the day on, coming from behind -/
def foldB (day : Int) (pre : List (Int × UM.Pt)) : UM.Pt := (pre.map (·.2)).foldl (fun b p => if p.known && decide (day ≤ p.exp) then p else b) UM.zero
theorem foldB_nil (day : Int) : foldB day [] = UM.zero := rfl
theorem foldB_snoc (day : Int) (pre : List (Int × UM.Pt)) (x : Int × UM.Pt) : foldB day (pre ++ [x]) = if x.2.known && decide (day ≤ x.2.exp) then x.2 else foldB day pre := by
  unfold foldB; rw [List.map_append, List.foldl_append]; rfl
theorem foldB_all (day : Int) (l : List UM.Pt) (xs : List (Int × UM.Pt)) (h : xs.map (·.2) = l.reverse) : foldB day xs = UM.highK l day := by
  unfold foldB UM.highK; rw [h, List.foldl_reverse]
set_option maxRecDepth 100000 in
set_option maxHeartbeats 8000000 in
theorem uaround_any (A : Option Addr) (l : List UM.Pt) (n cap : Nat) (hn : n = l.length) (day : Int) (w : World) (hI : Pts w A l) :
    Calls Try.prog 41 #[.slice A n cap, .int .i64 day] w fun e w' => e = .returned (.tuple #[ptA (UM.arA l day), ptA (UM.arB l day)]) ∧ Below w.heap.size w w' := by
  subst hn
  have hlen := hI.len
  have HI := Lib.hid hI
  have KL := Lib.hid (fun k (h : k < l.length) => UM.low_step h day)
  have KA : Hid (UM.lowK (l.take l.length) day = UM.lowK l day) := Lib.hid (by rw [List.take_length])
  have EA : Hid (UM.arA l day = if (UM.lowK l day).known = true then UM.lowK l day else UM.highK l day) := Lib.hid rfl
  have EB : Hid (UM.arB l day = if (UM.lowK l day).known = true ∧ (UM.highK l day).known = false then UM.lowK l day else UM.highK l day) := Lib.hid rfl
  have KB := Lib.hid (fun xs h => foldB_all day l xs h)
  have CBk := Lib.hid (fun A n cap ww => uback_any A n cap ww)
  generalize UM.arA l day = ra at *
  generalize UM.arB l day = rb at *
  generalize UM.highK l day = hk at *
  generalize UM.lowK l day = lk at *
  have HB0 := Lib.hid (below_al (below_al (below_al (Below.refl w.heap.size w) (.cells #[.int .i64 day] 3)) (.cells (ptC UM.zero) 44)) (.cells (ptC UM.zero) 44))
  have HD0 := Lib.hid (((CB.new w 3 #[.int .i64 day]).alloc (.cells (ptC UM.zero) 44)).alloc (.cells (ptC UM.zero) 44))
  have HA0 := Lib.hid ((CB.new1 w (.cells #[.int .i64 day] 3) 44 (ptC UM.zero)).alloc (.cells (ptC UM.zero) 44))
  have HC0 := Lib.hid (CB.new2 w (.cells #[.int .i64 day] 3) (.cells (ptC UM.zero) 44) 44 (ptC UM.zero))
  clear hI
  refine (callsIn_wide (n := 6)).1 ?_
  refine callsIn_of_wp_marks Try.func41 rfl trivial ?_ rfl
  simp only [Try.ntmps41, List.size_toArray, List.length_cons, List.length_nil, Nat.reduceAdd, Nat.reduceSub, Array.replicate_succ, Array.replicate_zero, List.push_toArray, List.append_toArray, List.nil_append, List.cons_append]
  gi_wp2
  gi_loopw [7, 12] (fun _ i wr => ∃ k : Nat, k ≤ l.length ∧ i = .int .i64 (k : Int) ∧ Hid (CB wr w.heap.size 3 #[.int .i64 day]) ∧ Hid (CB wr (w.heap.size + 1) 44 (ptC (UM.lowK (l.take k) day))) ∧ Hid (CB wr (w.heap.size + 2) 44 (ptC UM.zero)) ∧ Hid (Below w.heap.size w wr)) (fun _ i _ => l.length - (intOf i).toNat)
  case atStart => exact ⟨0, by omega, rfl, HD0, HA0, HC0, HB0⟩
  case round =>
    clear HD0 HA0 HC0 HB0
    obtain ⟨k, hk', rfl, HD, HA, HC, HB⟩ := hrel
    by_cases hlt : k < l.length
    · obtain ⟨b, off, t, rfl, hb, HV, q, d0, d1, d2⟩ := pts_get (HI.out.below HB.out) hlt
      have HS := Lib.hid (KL.out k hlt)
      rw [HV.out] at HS
      have hsz := HC.out.lt
      obtain ⟨te, tp, tk⟩ := t
      have HDx := Lib.hid (HD.out.alloc (.cells #[.int .i64 te, .int .i64 tp, .bool tk] 44))
      have HAx := Lib.hid (HA.out.alloc (.cells #[.int .i64 te, .int .i64 tp, .bool tk] 44))
      have HCx := Lib.hid (HC.out.alloc (.cells #[.int .i64 te, .int .i64 tp, .bool tk] 44))
      have HBx := Lib.hid (below_al HB.out (.cells #[.int .i64 te, .int .i64 tp, .bool tk] 44))
      have HT := CB.new wr 44 #[.int .i64 te, .int .i64 tp, .bool tk]
      have f0 := HT.cell 0
      have f1 := HT.cell 1
      have f2 := HT.cell 2
      have e0 := HDx.out.cell 0
      have a0 := HAx.out.cell 0
      have a1 := HAx.out.cell 1
      have a2 := HAx.out.cell 2
      have fA := HAx.out.frozen
      simp only [List.getElem?_toArray, List.getElem?_cons_zero, List.getElem?_cons_succ] at f0 f1 f2 e0 a0 a1 a2 d0 d1 d2
      generalize UM.lowK (l.take k) day = lo at *
      clear q HT HV
      cases tk
      · have HS2 : Hid (UM.lowK (l.take (k + 1)) day = lo) := Lib.hid (by rw [HS.out]; rfl)
        gi_wp2
        go_roundw
        case rel => exact ⟨k + 1, by omega, by go_num, HDx, by rw [HS2.out]; exact HAx, HCx, HBx⟩
        case measure => simp [intOf]; omega
      · by_cases g2 : te ≤ day
        · have HS2 : Hid (UM.lowK (l.take (k + 1)) day = ⟨te, tp, true⟩) := Lib.hid (by rw [HS.out]; simp [g2])
          gi_wp2
          go_roundw
          case rel => exact ⟨k + 1, by omega, by go_num, Lib.hid (putU_far HDx.out (by omega) ⟨te, tp, true⟩), by rw [HS2.out]; exact Lib.hid (putU_own HAx.out ⟨te, tp, true⟩), Lib.hid (putU_far HCx.out (by omega) ⟨te, tp, true⟩), Lib.hid (putU_below HBx.out (by omega) ⟨te, tp, true⟩)⟩
          case measure => simp [intOf]; omega
        · have HS2 : Hid (UM.lowK (l.take (k + 1)) day = lo) := Lib.hid (by rw [HS.out]; simp [g2])
          gi_wp2
          go_roundw
          case rel => exact ⟨k + 1, by omega, by go_num, HDx, by rw [HS2.out]; exact HAx, HCx, HBx⟩
          case measure => simp [intOf]; omega
    · obtain rfl : k = l.length := by omega
      rw [KA.out] at HA
      have hsz := HC.out.lt
      gi_wp2_with (refine ⟨trivial, ?_⟩; gi_at_call 54; refine ((callsIn_wide (n := _)).2 (CBk.out _ _ _ _)).mono ?_; rintro e w1 ⟨rfl, rfl⟩)
      have HI1 := Lib.hid (HI.out.below HB.out)
      have HD1 := Lib.hid (HD.out.alloc (.cells #[.slice A l.length cap] 22))
      have HA1 := Lib.hid (HA.out.alloc (.cells #[.slice A l.length cap] 22))
      have HC1 := Lib.hid (HC.out.alloc (.cells #[.slice A l.length cap] 22))
      have HB1 := Lib.hid (below_al HB.out (.cells #[.slice A l.length cap] 22))
      have HM1 := Lib.hid (CB.new wr 22 #[.slice A l.length cap])
      have HI2 := Lib.hid (HI1.out.below ((Below.refl _ _).alloc (Nat.le_refl _) (.cells #[.slice A l.length cap] 22)))
      obtain ⟨w1, hw1⟩ : ∃ w1, wr.alloc (.cells #[.slice A l.length cap] 22) = w1 := ⟨_, rfl⟩
      rw [hw1] at HD1 HA1 HC1 HB1 HM1 HI2 ⊢
      have hs1 : w1.heap.size = wr.heap.size + 1 := by rw [← hw1]; simp
      clear hw1 HD HA HC HB
      obtain ⟨b1, hb1, hb2, hbA⟩ := pts_block HI.out (k := wr.heap.size) (m := w.heap.size + 2) (by omega) (by omega) (by omega)
      have HBA := Lib.hid hbA
      have hmc := HM1.out.cell 0
      simp only [List.getElem?_toArray, List.getElem?_cons_zero] at hmc
      clear hbA
      gi_wp2
      refine wpIn_rangeFunc_ownH rfl (by omega) (gf := 66) (lb := #[.pointer (some ⟨wr.heap.size, 0, none⟩)]) rfl trivial (enters_of Try.func66 (by kernel_rfl) rfl)
        (uback_stops Fence.wide 5 trivial rfl (by omega) b1 wr.heap.size A l cap HBA.out w1 hmc (by omega) HI2.out) ktwo_t (fun W x o o' hx _ _ _ => ktwo_b (n := w1.heap.size) (by omega) (by omega) W x o o' hx) (Below.refl _ _) (fun _ => rfl)
        (fun pre W => ((CB W w.heap.size 3 #[.int .i64 day] ∧ CB W (w.heap.size + 1) 44 (ptC lk)) ∧ CB W (w.heap.size + 2) 44 (ptC (foldB day pre)) ∧ CB W wr.heap.size 22 #[.slice A l.length cap]) ∧ Below w.heap.size w W)
        (fun _ _ _ => False)
        (OwnFrom.and (Go.Own.from (fun s X Y row hs hg hr => ⟨⟨cb_ownF _ _ (fun _ => #[.int .i64 day]) s X Y row hs.1.1 hg hr, cb_ownF _ _ (fun _ => ptC lk) s X Y row hs.1.2 hg hr⟩, cb_ownF _ _ (fun pre => ptC (foldB day pre)) s X Y row hs.2.1 hg hr, cb_ownF _ _ (fun _ => #[.slice A l.length cap]) s X Y row hs.2.2 hg hr⟩) _) (ownFrom_below (Nat.le_refl _) (by omega)))
        (fun _ _ _ _ _ hs _ _ => hs)
        ⟨⟨⟨HD1.out, HA1.out⟩, HC1.out, HM1.out⟩, HB1.out⟩
        (fun x a' W => ∃ Bx, wr.heap.size < Bx ∧ CB W Bx 44 (ptC x.2) ∧ a' = { tmps := #[.slice A l.length cap, .int .i64 day, undef, .pointer (some ⟨w.heap.size, 0, none⟩), .pointer (some ⟨w.heap.size + 1, 0, none⟩), .pointer (some ⟨w.heap.size + 1 + 1, 0, none⟩), undef, u7, undef, .pointer (some ⟨Bx, 0, none⟩), .slice A l.length cap, .int .i64 (l.length : Int), .int .i64 (l.length : Int), .bool false, u14, u15, u16, u17, u18, u19, u20, u21, u22, u23, u24, u25, .slice A l.length cap, .func (.func 66) #[] #[.pointer (some ⟨wr.heap.size, 0, none⟩)], .int .i64 x.1, ptA x.2, undef, undef, undef, undef, undef, undef, undef, undef, undef, undef, undef, undef, undef, undef, undef, undef, undef, undef, undef, undef, undef], defers := [] })
        (fun x a' _ X Y row hs hg hr => by obtain ⟨Bx, h1, h2, h3⟩ := hs; exact ⟨Bx, h1, cb_own Bx 44 (ptC x.2) () X Y row h2 hg (fun r e => (hr r e).2), h3⟩)
        ?assign ?body ?done ?stop
      case assign =>
        rintro lid pre x W K ⟨⟨⟨hD, hA⟩, hC, hM⟩, hB⟩ hK
        have hs := hM.lt
        gi_wp2
        exact hK _ _ ((KeepsOthers.alloc _ _).from _) (ktwo_al (by omega) (by omega) _) ⟨⟨⟨hD.alloc _, hA.alloc _⟩, hC.alloc _, hM.alloc _⟩, hB.alloc hB.size _⟩ ⟨W.heap.size, by omega, CB.new W _ _, rfl⟩
      case body =>
        rintro lid pre x a' W hlid ⟨r, hr⟩ ⟨⟨⟨hD, hA⟩, hC, hM⟩, hB⟩ ⟨Bx, hBx, hX, rfl⟩ hlt
        obtain ⟨xi, te, tp, tk⟩ := x
        have f0 := hX.cell 0
        have f1 := hX.cell 1
        have f2 := hX.cell 2
        have e0 := hD.cell 0
        have a0 := hC.cell 0
        have a1 := hC.cell 1
        have a2 := hC.cell 2
        have fC := hC.frozen
        simp only [List.getElem?_toArray, List.getElem?_cons_zero, List.getElem?_cons_succ] at f0 f1 f2 e0 a0 a1 a2
        have HS := Lib.hid (foldB_snoc day pre (xi, ⟨te, tp, tk⟩))
        have HD := Lib.hid hD; have HA := Lib.hid hA; have HC := Lib.hid hC; have HM := Lib.hid hM; have HB := Lib.hid hB
        generalize foldB day pre = fb at *
        clear hX hD hA hC hM hB hr
        cases tk
        · have HS2 : Hid (foldB day (pre ++ [(xi, ⟨te, tp, false⟩)]) = fb) := Lib.hid (by rw [HS.out]; rfl)
          gi_wp2
          exact ⟨(KeepsOthers.refl _).from _, ⟨rfl, rfl, Nat.le_refl _⟩, ⟨⟨HD.out, HA.out⟩, by rw [HS2.out]; exact HC.out, HM.out⟩, HB.out⟩
        · by_cases g2 : day ≤ te
          · have HS2 : Hid (foldB day (pre ++ [(xi, ⟨te, tp, true⟩)]) = ⟨te, tp, true⟩) := Lib.hid (by rw [HS.out]; simp [g2])
            gi_wp2
            exact ⟨(((KeepsOthers.setCell _ _ _).trans (KeepsOthers.setCell _ _ _)).trans (KeepsOthers.setCell _ _ _)).from _, ⟨putU_heap W _ _ ⟨te, tp, true⟩ (by omega), putU_heap W _ _ ⟨te, tp, true⟩ (by omega), by rw [putU_size W _ ⟨te, tp, true⟩]; exact Nat.le_refl _⟩,
              ⟨⟨putU_far HD.out (by omega) ⟨te, tp, true⟩, putU_far HA.out (by omega) ⟨te, tp, true⟩⟩, by rw [HS2.out]; exact putU_own HC.out ⟨te, tp, true⟩, putU_far HM.out (by omega) ⟨te, tp, true⟩⟩, putU_below HB.out (by omega) ⟨te, tp, true⟩⟩
          · have HS2 : Hid (foldB day (pre ++ [(xi, ⟨te, tp, true⟩)]) = fb) := Lib.hid (by rw [HS.out]; simp [g2])
            gi_wp2
            exact ⟨(KeepsOthers.refl _).from _, ⟨rfl, rfl, Nat.le_refl _⟩, ⟨⟨HD.out, HA.out⟩, by rw [HS2.out]; exact HC.out, HM.out⟩, HB.out⟩
      case done =>
        rintro D xs W hDD hS ⟨⟨⟨hD, hA⟩, hC, hM⟩, hB⟩ hK
        rw [KB.out xs hS] at hC
        obtain ⟨le, lp, lkn⟩ := lk
        obtain ⟨he, hp, hkn⟩ := hk
        have a0 := hA.cell 0
        have a1 := hA.cell 1
        have a2 := hA.cell 2
        have fA := hA.frozen
        have c0 := hC.cell 0
        have c1 := hC.cell 1
        have c2 := hC.cell 2
        have fC := hC.frozen
        simp only [List.getElem?_toArray, List.getElem?_cons_zero, List.getElem?_cons_succ] at a0 a1 a2 c0 c1 c2
        cases lkn
        · gi_wp2
          gi_region
          gi_wp2
          have hKx : (putU (putU W (w.heap.size + 1) (⟨he, hp, hkn⟩ : UM.Pt)) (w.heap.size + 2) (⟨he, hp, hkn⟩ : UM.Pt)).drew.heap[D]? = some (.deferred (some [])) := heap_drew (put2_K hK)
          have hBx : Below w.heap.size w (putU (putU W (w.heap.size + 1) (⟨he, hp, hkn⟩ : UM.Pt)) (w.heap.size + 2) (⟨he, hp, hkn⟩ : UM.Pt)).drew := (putU_below (putU_below hB (by omega) (⟨he, hp, hkn⟩ : UM.Pt)) (by omega) (⟨he, hp, hkn⟩ : UM.Pt)).drew
          have hAx : CB (putU (putU W (w.heap.size + 1) (⟨he, hp, hkn⟩ : UM.Pt)) (w.heap.size + 2) (⟨he, hp, hkn⟩ : UM.Pt)).drew (w.heap.size + 1) 44 (ptC (⟨he, hp, hkn⟩ : UM.Pt)) := cb_drew (put2_A hA (by omega))
          have hCx : CB (putU (putU W (w.heap.size + 1) (⟨he, hp, hkn⟩ : UM.Pt)) (w.heap.size + 2) (⟨he, hp, hkn⟩ : UM.Pt)).drew (w.heap.size + 2) 44 (ptC (⟨he, hp, hkn⟩ : UM.Pt)) := cb_drew (put2_C hC (by omega))
          have e1 : ra = (⟨he, hp, hkn⟩ : UM.Pt) := by rw [EA.out]; rfl
          have e2 : rb = (⟨he, hp, hkn⟩ : UM.Pt) := by rw [EB.out]; simp
          refine ⟨by simp, .inl ⟨_, _, rfl, run_takeDeferred hKx, ?_⟩⟩
          exact ⟨_, results_ptpt rfl _ _ (w.heap.size + 1) (w.heap.size + 2) (⟨he, hp, hkn⟩ : UM.Pt) (⟨he, hp, hkn⟩ : UM.Pt) rfl rfl (cb_put hAx hKx) (cb_put hCx hKx), by rw [e1, e2], hBx.trans (belowK_b (w := w) (Nat.le_refl _) _ D _ _ (by omega) hKx rfl rfl)⟩
        cases hkn
        · gi_wp2
          have hKx : (putU (putU W (w.heap.size + 1) (⟨le, lp, true⟩ : UM.Pt)) (w.heap.size + 2) (⟨le, lp, true⟩ : UM.Pt)).heap[D]? = some (.deferred (some [])) := put2_K hK
          have hBx : Below w.heap.size w (putU (putU W (w.heap.size + 1) (⟨le, lp, true⟩ : UM.Pt)) (w.heap.size + 2) (⟨le, lp, true⟩ : UM.Pt)) := (putU_below (putU_below hB (by omega) (⟨le, lp, true⟩ : UM.Pt)) (by omega) (⟨le, lp, true⟩ : UM.Pt))
          have hAx : CB (putU (putU W (w.heap.size + 1) (⟨le, lp, true⟩ : UM.Pt)) (w.heap.size + 2) (⟨le, lp, true⟩ : UM.Pt)) (w.heap.size + 1) 44 (ptC (⟨le, lp, true⟩ : UM.Pt)) := put2_A hA (by omega)
          have hCx : CB (putU (putU W (w.heap.size + 1) (⟨le, lp, true⟩ : UM.Pt)) (w.heap.size + 2) (⟨le, lp, true⟩ : UM.Pt)) (w.heap.size + 2) 44 (ptC (⟨le, lp, true⟩ : UM.Pt)) := put2_C hC (by omega)
          have e1 : ra = (⟨le, lp, true⟩ : UM.Pt) := by rw [EA.out]; rfl
          have e2 : rb = (⟨le, lp, true⟩ : UM.Pt) := by rw [EB.out]; rfl
          refine ⟨by simp, .inl ⟨_, _, rfl, run_takeDeferred hKx, ?_⟩⟩
          exact ⟨_, results_ptpt rfl _ _ (w.heap.size + 1) (w.heap.size + 2) (⟨le, lp, true⟩ : UM.Pt) (⟨le, lp, true⟩ : UM.Pt) rfl rfl (cb_put hAx hKx) (cb_put hCx hKx), by rw [e1, e2], hBx.trans (belowK_b (w := w) (Nat.le_refl _) _ D _ _ (by omega) hKx rfl rfl)⟩
        · gi_wp2
          gi_region
          gi_wp2
          have hKx : (putU (putU W (w.heap.size + 1) (⟨le, lp, true⟩ : UM.Pt)) (w.heap.size + 2) (⟨he, hp, true⟩ : UM.Pt)).drew.heap[D]? = some (.deferred (some [])) := heap_drew (put2_K hK)
          have hBx : Below w.heap.size w (putU (putU W (w.heap.size + 1) (⟨le, lp, true⟩ : UM.Pt)) (w.heap.size + 2) (⟨he, hp, true⟩ : UM.Pt)).drew := (putU_below (putU_below hB (by omega) (⟨le, lp, true⟩ : UM.Pt)) (by omega) (⟨he, hp, true⟩ : UM.Pt)).drew
          have hAx : CB (putU (putU W (w.heap.size + 1) (⟨le, lp, true⟩ : UM.Pt)) (w.heap.size + 2) (⟨he, hp, true⟩ : UM.Pt)).drew (w.heap.size + 1) 44 (ptC (⟨le, lp, true⟩ : UM.Pt)) := cb_drew (put2_A hA (by omega))
          have hCx : CB (putU (putU W (w.heap.size + 1) (⟨le, lp, true⟩ : UM.Pt)) (w.heap.size + 2) (⟨he, hp, true⟩ : UM.Pt)).drew (w.heap.size + 2) 44 (ptC (⟨he, hp, true⟩ : UM.Pt)) := cb_drew (put2_C hC (by omega))
          have e1 : ra = (⟨le, lp, true⟩ : UM.Pt) := by rw [EA.out]; rfl
          have e2 : rb = (⟨he, hp, true⟩ : UM.Pt) := by rw [EB.out]; simp
          refine ⟨by simp, .inl ⟨_, _, rfl, run_takeDeferred hKx, ?_⟩⟩
          exact ⟨_, results_ptpt rfl _ _ (w.heap.size + 1) (w.heap.size + 2) (⟨le, lp, true⟩ : UM.Pt) (⟨he, hp, true⟩ : UM.Pt) rfl rfl (cb_put hAx hKx) (cb_put hCx hKx), by rw [e1, e2], hBx.trans (belowK_b (w := w) (Nat.le_refl _) _ D _ _ (by omega) hKx rfl rfl)⟩
      case stop =>
        rintro D c pre W hDD _ h _
        exact h.elim
end Go.Proofs.Ytagmknahmkniaaa

/- Contracts of layer 1's small functions and of their references. -/
namespace Go.Proofs.Ytagmknahmkniaaa
open Go.RowKit

theorem fits_any (n : Int) (w : World) :
    Calls Try.prog 67 #[.int .i64 n] w fun e w' => e = .returned (.bool (CM.fits n)) ∧ w = w' := by
  by_cases h1 : -1152921504606846976 ≤ n
  · by_cases h2 : n ≤ 1152921504606846976
    · have h : CM.fits n = true := CM.fits_true.2 ⟨h1, h2⟩
      rw [h]; clear h
      go_enter Try.func67, Try.ntmps67
      go_wp2
      go_ret
      exact ⟨rfl, rfl⟩
    · have h : CM.fits n = false := CM.fits_false.2 (by omega)
      rw [h]; clear h
      go_enter Try.func67, Try.ntmps67
      go_wp2
      go_ret
      exact ⟨rfl, rfl⟩
  · have h : CM.fits n = false := CM.fits_false.2 (by omega)
    rw [h]; clear h
    go_enter Try.func67, Try.ntmps67
    go_wp2
    go_ret
    exact ⟨rfl, rfl⟩

theorem fitting_any (n : Int) (w : World) :
    Calls Try.prog 71 #[.int .i64 n] w fun e w' => e = .returned (.tuple #[.int .i64 (CM.fitN n), .int .i64 (CM.fitE n)]) ∧ w = w' := by
  cases h : CM.fits n
  · have hn : CM.fitN n = 0 := by simp [CM.fitN, h]
    have he : CM.fitE n = 3 := by simp [CM.fitE, h]
    rw [hn, he]; clear hn he
    go_enter Try.func71, Try.ntmps71
    go_wp2_with (go_at_call 67; refine (fits_any _ _).mono ?_; rintro e w' ⟨rfl, rfl⟩)
    go_ret2
    exact ⟨rfl, rfl⟩
  · have hn : CM.fitN n = n := by simp [CM.fitN, h]
    have he : CM.fitE n = 0 := by simp [CM.fitE, h]
    rw [hn, he]; clear hn he
    go_enter Try.func71, Try.ntmps71
    go_wp2_with (go_at_call 67; refine (fits_any _ _).mono ?_; rintro e w' ⟨rfl, rfl⟩)
    go_ret2
    exact ⟨rfl, rfl⟩

theorem clamp_any (n low high : Int) (w : World) :
    Calls Try.prog 32 #[.int .i64 n, .int .i64 low, .int .i64 high] w fun e w' => e = .returned (.int .i64 (CM.clamp n low high)) ∧ w = w' := by
  by_cases h1 : n < low
  · have h : CM.clamp n low high = low := by simp [CM.clamp, h1]
    rw [h]; clear h
    go_enter Try.func32, Try.ntmps32
    go_wp2
    go_ret
    exact ⟨rfl, rfl⟩
  · by_cases h2 : high < low
    · have h : CM.clamp n low high = low := by simp [CM.clamp, h2]
      rw [h]; clear h
      go_enter Try.func32, Try.ntmps32
      go_wp2
      go_ret
      exact ⟨rfl, rfl⟩
    · by_cases h3 : high < n
      · have h : CM.clamp n low high = high := by simp [CM.clamp, h1, h2, h3]
        rw [h]; clear h
        go_enter Try.func32, Try.ntmps32
        go_wp2
        go_ret
        exact ⟨rfl, rfl⟩
      · have h : CM.clamp n low high = n := by simp [CM.clamp, h1, h2, h3]
        rw [h]; clear h
        go_enter Try.func32, Try.ntmps32
        go_wp2
        go_ret
        exact ⟨rfl, rfl⟩

theorem size_any (n : Int) (w : World) (h1 : -1152921504606846976 ≤ n) (h2 : n ≤ 1152921504606846976) :
    Calls Try.prog 69 #[.int .i64 n] w fun e w' => e = .returned (.int .i64 (CM.size n)) ∧ w = w' := by
  by_cases h : n < 0
  · have hs : CM.size n = -n := by simp [CM.size, h]
    rw [hs]; clear hs
    go_enter Try.func69, Try.ntmps69
    go_wp2
    go_ret
    exact ⟨rfl, rfl⟩
  · have hs : CM.size n = n := by simp [CM.size, h]
    rw [hs]; clear hs
    go_enter Try.func69, Try.ntmps69
    go_wp2
    go_ret
    exact ⟨rfl, rfl⟩

end Go.Proofs.Ytagmknahmkniaaa

namespace Go.Proofs.Ytagmknahmkniaaa
open Go.RowKit

theorem ofInt_i64 (a : Nat) (ha : a < 9223372036854775808) : (BitVec.ofInt 64 (a : Int)).toNat = a := by
  rw [BitVec.ofInt_natCast, BitVec.toNat_ofNat]; exact Nat.mod_eq_of_lt (by omega)
theorem i64_and_nat (a b : Nat) (ha : a < 9223372036854775808) (hb : b < 9223372036854775808) : bits .and .i64 (a : Int) (b : Int) = ((a &&& b : Nat) : Int) := by
  have hx : a &&& b < 2 ^ 63 := Nat.and_lt_two_pow _ (by omega)
  show IntKind.i64.wrap ((BitVec.ofInt 64 (a : Int) &&& BitVec.ofInt 64 (b : Int)).toNat : Int) = _
  rw [BitVec.toNat_and, ofInt_i64 a ha, ofInt_i64 b hb, IntKind.wrap_i64]
  omega

theorem div_pow_le (a j : Nat) : a / 2 ^ j ≤ a := Nat.div_le_self _ _

theorem bit_test (a k : Nat) (ha : a ≤ 1152921504606846976) :
    (bits BinOp.and IntKind.i64 ((a : Int) / 2 ^ (60 - k)) 1 == 1) = decide (CM.bitAt a k = 1) := by
  have e : ((a : Int) / 2 ^ (60 - k)) = ((a / 2 ^ (60 - k) : Nat) : Int) := by
    rw [Int.natCast_ediv, Int.natCast_pow]; rfl
  have hl := div_pow_le a (60 - k)
  have h := i64_and_nat (a / 2 ^ (60 - k)) 1 (by omega) (by omega)
  rw [e, show (1 : Int) = ((1 : Nat) : Int) from rfl, h, Nat.and_one_is_mod]
  unfold CM.bitAt
  generalize a / 2 ^ (60 - k) % 2 = t
  rw [Bool.eq_iff_iff]; simp; omega

theorem bit_test2 (a k : Nat) :
    ((((a : Int) / 2 ^ (60 - k)).tmod 2) == 1) = decide (CM.bitAt a k = 1) := by
  have e : ((a : Int) / 2 ^ (60 - k)) = ((a / 2 ^ (60 - k) : Nat) : Int) := by
    rw [Int.natCast_ediv, Int.natCast_pow]; rfl
  rw [e, Int.tmod_eq_emod_of_nonneg (Int.natCast_nonneg _)]
  unfold CM.bitAt
  generalize a / 2 ^ (60 - k) = t
  rw [Bool.eq_iff_iff]; simp; omega

set_option maxHeartbeats 400000 in
theorem divide_any (a b c : Nat) (w : World) (ha : a ≤ 1152921504606846976) (hb : b ≤ 1152921504606846976) (hc0 : 0 < c) (hc : c ≤ 1152921504606846976) :
    Calls Try.prog 68 #[.int .i64 a, .int .i64 b, .int .i64 c] w fun e w' => e = .returned (.tuple #[.int .i64 (CM.dq a b c), .int .i64 (CM.dr a b c), .bool (CM.dok a b c)]) ∧ ∃ n, w' = w.drewN n := by
  go_enter Try.func68, Try.ntmps68
  go_wp2
  go_loopw [6, 7, 10] (fun q r i wr => ∃ k : Nat, ∃ x y : Int, k ≤ 61 ∧ i = .int .i64 k ∧ q = .int .i64 x ∧ r = .int .i64 y ∧ CM.DInv a b c k x y ∧ ∃ n, wr = w.drewN n) (fun _ _ i _ => 61 - (intOf i).toNat)
  case atStart => exact ⟨0, 0, 0, by omega, rfl, rfl, rfl, CM.DInv.start a b c ha, 0, rfl⟩
  case round =>
    obtain ⟨k, x, y, hk, rfl, rfl, rfl, hD, n, rfl⟩ := hrel
    obtain ⟨hx0, hx1, hy0, hy1⟩ := hD.bounds hc0
    by_cases hlt : k < 61
    · have ht := bit_test a k ha
      rcases CM.bit_01 a k with h0 | h1
      · rw [show decide (CM.bitAt a k = 1) = false from by simp [h0]] at ht
        obtain ⟨s1, s2⟩ := hD.step0 hlt hc0 h0
        have S1 := Lib.hid s1; have S2 := Lib.hid s2
        clear h0 s1 s2
        obtain ⟨q0, q1⟩ := IntWalk.tdiv_le (2 * y) c (by omega) (by omega)
        have e1 : wrap64 (2 * x + 2 * y / (c : Int)) = 2 * x + 2 * y / (c : Int) := IntWalk.wrap64_in _ (by omega)
        have hlow : 0 ≤ 2 * x + 2 * y / (c : Int) := by omega
        cases hf : CM.fits (2 * x + 2 * y / (c : Int))
        · have HN : Hid (1152921504606846976 < a * b / c) := S2.out (by rcases CM.fits_false.1 hf with h | h <;> omega)
          go_wp2
          go_quiet (fail)
          go_wp2_with (go_at_call 67; refine (fits_any _ _).mono ?_; rintro e w' ⟨rfl, rfl⟩)
          go_ret3
          obtain ⟨n1, n2, n3⟩ := CM.dok_no HN.out
          exact ⟨by rw [n1, n2, n3]; rfl, _, rfl⟩
        · have HY := Lib.hid (S1.out (CM.fits_true.1 hf).2)
          go_wp2
          go_quiet (fail)
          go_wp2_with (go_at_call 67; refine (fits_any _ _).mono ?_; rintro e w' ⟨rfl, rfl⟩)
          go_roundw
          case rel => exact ⟨k + 1, _, _, by omega, by go_num, rfl, rfl, HY.out, _, rfl⟩
          case measure => simp [intOf]; omega
      · rw [show decide (CM.bitAt a k = 1) = true from by simp [h1]] at ht
        obtain ⟨s1, s2⟩ := hD.step1 hlt hc0 h1
        have S1 := Lib.hid s1; have S2 := Lib.hid s2
        clear h1 s1 s2
        obtain ⟨p0, p1⟩ := IntWalk.tdiv_le (b : Int) c (by omega) (by omega)
        have m0 : 0 ≤ (b : Int) % (c : Int) := Int.emod_nonneg _ (by omega)
        have m1 : (b : Int) % (c : Int) < c := Int.emod_lt_of_pos _ (by omega)
        have hy2 : 0 ≤ 2 * y + (b : Int) % (c : Int) := by omega
        obtain ⟨q0, q1⟩ := IntWalk.tdiv_le (2 * y + (b : Int) % (c : Int)) c (by omega) (by omega)
        have e0 : wrap64 ((b : Int) / (c : Int)) = (b : Int) / (c : Int) := IntWalk.wrap64_in _ (by omega)
        have e1 : wrap64 (2 * x + (b : Int) / (c : Int)) = 2 * x + (b : Int) / (c : Int) := IntWalk.wrap64_in _ (by omega)
        have e2 : wrap64 (2 * y + (b : Int) % (c : Int)) = 2 * y + (b : Int) % (c : Int) := IntWalk.wrap64_in _ (by omega)
        have hq3 : (2 * y + (b : Int) % (c : Int)) / (c : Int) ≤ 3 := by
          have : (2 * y + (b : Int) % (c : Int)) < 4 * (c : Int) := by omega
          have := Int.ediv_lt_of_lt_mul (by omega) this
          omega
        have e3 : wrap64 ((2 * y + (b : Int) % (c : Int)) / (c : Int)) = (2 * y + (b : Int) % (c : Int)) / (c : Int) := IntWalk.wrap64_in _ (by omega)
        have e4 : wrap64 (2 * x + (b : Int) / (c : Int) + (2 * y + (b : Int) % (c : Int)) / (c : Int)) = 2 * x + (b : Int) / (c : Int) + (2 * y + (b : Int) % (c : Int)) / (c : Int) := IntWalk.wrap64_in _ (by omega)
        have e5 : (2 * y + (b : Int) % (c : Int)).tdiv (c : Int) = (2 * y + (b : Int) % (c : Int)) / (c : Int) := Int.tdiv_eq_ediv_of_nonneg hy2
        have e6 : (2 * y + (b : Int) % (c : Int)).tmod (c : Int) = (2 * y + (b : Int) % (c : Int)) % (c : Int) := Int.tmod_eq_emod_of_nonneg hy2
        have hlow : 0 ≤ 2 * x + (b : Int) / (c : Int) + (2 * y + (b : Int) % (c : Int)) / (c : Int) := by omega
        cases hf : CM.fits (2 * x + (b : Int) / (c : Int) + (2 * y + (b : Int) % (c : Int)) / (c : Int))
        · have HN : Hid (1152921504606846976 < a * b / c) := S2.out (by rcases CM.fits_false.1 hf with h | h <;> omega)
          go_wp2
          go_quiet (fail)
          go_wp2
          go_quiet (fail)
          go_wp2_with (go_at_call 67; refine (fits_any _ _).mono ?_; rintro e w' ⟨rfl, rfl⟩)
          go_ret3
          obtain ⟨n1, n2, n3⟩ := CM.dok_no HN.out
          exact ⟨by rw [n1, n2, n3]; rfl, _, rfl⟩
        · have HY := Lib.hid (S1.out (CM.fits_true.1 hf).2)
          go_wp2
          go_quiet (fail)
          go_wp2
          go_quiet (fail)
          go_wp2_with (go_at_call 67; refine (fits_any _ _).mono ?_; rintro e w' ⟨rfl, rfl⟩)
          go_roundw
          case rel => exact ⟨k + 1, _, _, by omega, by go_num, rfl, rfl, (by simpa using HY.out), _, rfl⟩
          case measure => simp [intOf]; omega
    · obtain rfl : k = 61 := by omega
      obtain ⟨d1, d2, d3⟩ := hD.done
      have D1 := Lib.hid d1; have D2 := Lib.hid d2; have D3 := Lib.hid d3
      clear d1 d2 d3
      go_wp2
      go_ret3
      exact ⟨by rw [← D1.out, ← D2.out, D3.out]; rfl, _, rfl⟩

theorem divide_int (a b c : Int) (w : World) (a0 : 0 ≤ a) (ha : a ≤ 1152921504606846976) (b0 : 0 ≤ b) (hb : b ≤ 1152921504606846976) (hc0 : 0 < c) (hc : c ≤ 1152921504606846976) :
    Calls Try.prog 68 #[.int .i64 a, .int .i64 b, .int .i64 c] w fun e w' => e = .returned (.tuple #[.int .i64 (CM.dq a.toNat b.toNat c.toNat), .int .i64 (CM.dr a.toNat b.toNat c.toNat), .bool (CM.dok a.toNat b.toNat c.toNat)]) ∧ ∃ n, w' = w.drewN n := by
  obtain ⟨x, rfl⟩ := Int.eq_ofNat_of_zero_le a0
  obtain ⟨y, rfl⟩ := Int.eq_ofNat_of_zero_le b0
  obtain ⟨z, rfl⟩ := Int.eq_ofNat_of_zero_le (Int.le_of_lt hc0)
  rw [Int.toNat_natCast, Int.toNat_natCast, Int.toNat_natCast]
  exact divide_any x y z w (by omega) (by omega) (by omega) (by omega)

end Go.Proofs.Ytagmknahmkniaaa

namespace Go.Proofs.Ytagmknahmkniaaa
open Go.RowKit
set_option maxHeartbeats 400000 in
theorem rounding_any (q r d : Int) (n : Bool) (w : World) :
    Calls Try.prog 70 #[.int .i64 q, .int .i64 r, .int .i64 d, .bool n] w fun e w' =>
      e = .returned (.func (.func 79) #[] #[.pointer (some ⟨w.heap.size + 1, 0, none⟩), .pointer (some ⟨w.heap.size + 1 + 1 + 1, 0, none⟩), .pointer (some ⟨w.heap.size + 1 + 1, 0, none⟩), .pointer (some ⟨w.heap.size, 0, none⟩)]) ∧
      w' = (((w.alloc (.cells #[.int .i64 q] 3)).alloc (.cells #[.int .i64 r] 3)).alloc (.cells #[.int .i64 d] 3)).alloc (.cells #[.bool n] 4) := by
  go_enter Try.func70, Try.ntmps70
  go_wp2
  go_ret
  exact ⟨rfl, rfl⟩

set_option maxHeartbeats 1000000 in
theorem grow_any (mode q r d : Int) (n : Bool) (p1 p2 p3 p4 : Addr) (w : World) (hm1 : 1 ≤ mode) (hm5 : mode ≤ 5)
    (h1 : w.cell? p1 = some (.int .i64 r)) (h2 : w.cell? p2 = some (.bool n)) (h3 : w.cell? p3 = some (.int .i64 d)) (h4 : w.cell? p4 = some (.int .i64 q))
    (hr0 : 0 ≤ r) (hr : r < d) (hd : d ≤ 1152921504606846976) (hq : 0 ≤ q) (hq1 : q ≤ 1152921504606846976) :
    Calls Try.prog 79 #[.int .i64 mode, .pointer (some p1), .pointer (some p2), .pointer (some p3), .pointer (some p4)] w fun e w' =>
      e = .returned (.bool (CM.grow q r d mode n)) ∧ w = w' := by
  by_cases hz : r = 0
  · subst hz
    have hg : CM.grow q 0 d mode n = false := by simp [CM.grow]
    rw [hg]; clear hg
    go_enter Try.func79, Try.ntmps79
    go_wp2
    go_ret
    exact ⟨rfl, rfl⟩
  · have hz' : (r == 0) = false := by simpa using hz
    have hm : mode = 1 ∨ mode = 2 ∨ mode = 3 ∨ mode = 4 ∨ mode = 5 := by omega
    rcases hm with rfl | rfl | rfl | rfl | rfl
    · have hg : CM.grow q r d 1 n = false := by simp [CM.grow]
      rw [hg]; clear hg hz
      go_enter Try.func79, Try.ntmps79
      go_wp2
      go_ret
      exact ⟨rfl, rfl⟩
    · have hg : CM.grow q r d 2 n = true := by simp [CM.grow, hz]
      rw [hg]; clear hg hz
      go_enter Try.func79, Try.ntmps79
      go_wp2
      go_ret
      exact ⟨rfl, rfl⟩
    · have hg : CM.grow q r d 3 n = n := by simp [CM.grow, hz]
      rw [hg]; clear hg hz
      go_enter Try.func79, Try.ntmps79
      go_wp2
      go_ret
      exact ⟨rfl, rfl⟩
    · have hg : CM.grow q r d 4 n = !n := by simp [CM.grow, hz]
      rw [hg]; clear hg hz
      go_enter Try.func79, Try.ntmps79
      go_wp2
      go_ret
      exact ⟨rfl, rfl⟩
    · by_cases g1 : d < 2 * r
      · have hg : CM.grow q r d 5 n = true := by simp [CM.grow, hz, g1]
        rw [hg]; clear hg hz
        go_enter Try.func79, Try.ntmps79
        go_wp2
        go_ret
        exact ⟨rfl, rfl⟩
      · by_cases g2 : 2 * r = d
        · subst g2
          cases g3 : decide (q % 2 = 1)
          · have hg : CM.grow q r (2 * r) 5 n = false := by simpa [CM.grow, hz] using g3
            rw [hg]; clear hg hz
            have g3' : (q % 2 == 1) = false := by simpa using g3
            clear g3
            go_enter Try.func79, Try.ntmps79
            go_wp2
            go_ret
            exact ⟨rfl, rfl⟩
          · have hg : CM.grow q r (2 * r) 5 n = true := by simpa [CM.grow, hz] using g3
            rw [hg]; clear hg hz
            have g3' : (q % 2 == 1) = true := by simpa using g3
            clear g3
            go_enter Try.func79, Try.ntmps79
            go_wp2
            go_ret
            exact ⟨rfl, rfl⟩
        · have hg : CM.grow q r d 5 n = false := by simp [CM.grow, hz, g1, g2]
          rw [hg]; clear hg hz
          have g2' : (2 * r == d) = false := by simpa using g2
          clear g2
          go_enter Try.func79, Try.ntmps79
          go_wp2
          go_ret
          exact ⟨rfl, rfl⟩

theorem cell_fresh (v : World) (q : Int) : (v.alloc (.cells #[.int .i64 q] 3)).cell? ⟨v.heap.size, 0, none⟩ = some (.int .i64 q) := by go_simp

theorem grow_new (mode q r d : Int) (n : Bool) (w : World) (k : Nat) (hm1 : 1 ≤ mode) (hm5 : mode ≤ 5)
    (hr0 : 0 ≤ r) (hr : r < d) (hd : d ≤ 1152921504606846976) (hq : 0 ≤ q) (hq1 : q ≤ 1152921504606846976) :
    Calls Try.prog 79 #[.int .i64 mode, .pointer (some ⟨w.heap.size + 1, 0, none⟩), .pointer (some ⟨w.heap.size + 1 + 1 + 1, 0, none⟩), .pointer (some ⟨w.heap.size + 1 + 1, 0, none⟩), .pointer (some ⟨w.heap.size, 0, none⟩)]
      (((((w.drewN k).alloc (.cells #[.int .i64 q] 3)).alloc (.cells #[.int .i64 r] 3)).alloc (.cells #[.int .i64 d] 3)).alloc (.cells #[.bool n] 4)) fun e w' =>
      e = .returned (.bool (CM.grow q r d mode n)) ∧ ((((w.drewN k).alloc (.cells #[.int .i64 q] 3)).alloc (.cells #[.int .i64 r] 3)).alloc (.cells #[.int .i64 d] 3)).alloc (.cells #[.bool n] 4) = w' :=
  grow_any mode q r d n _ _ _ _ _ hm1 hm5 (by go_simp) (by go_simp) (by go_simp) (by go_simp; exact cell_fresh (w.drewN k) q) hr0 hr hd hq hq1

theorem muldiv_arg (a b c mode : Int) (w : World) (h : CM.mdA a b c mode = false) :
    Calls Try.prog 55 #[.int .i64 a, .int .i64 b, .int .i64 c, .int .i64 mode] w fun e w' => e = .returned (.tuple #[.int .i64 0, .int .i64 2]) ∧ w = w' := by
  cases ha : CM.fits a
  · clear h
    go_enter Try.func55, Try.ntmps55
    go_wp2_with (go_at_call 67; refine (fits_any _ _).mono ?_; rintro e w' ⟨rfl, rfl⟩)
    go_ret2
    exact ⟨rfl, rfl⟩
  · cases hb : CM.fits b
    · clear h
      go_enter Try.func55, Try.ntmps55
      go_wp2_with (go_at_call 67; refine (fits_any _ _).mono ?_; rintro e w' ⟨rfl, rfl⟩)
      go_ret2
      exact ⟨rfl, rfl⟩
    · cases hc : CM.fits c
      · clear h
        go_enter Try.func55, Try.ntmps55
        go_wp2_with (go_at_call 67; refine (fits_any _ _).mono ?_; rintro e w' ⟨rfl, rfl⟩)
        go_ret2
        exact ⟨rfl, rfl⟩
      · simp [CM.mdA, ha, hb, hc] at h
        by_cases hm : mode < 1
        · clear h
          go_enter Try.func55, Try.ntmps55
          go_wp2_with (go_at_call 67; refine (fits_any _ _).mono ?_; rintro e w' ⟨rfl, rfl⟩)
          go_ret2
          exact ⟨rfl, rfl⟩
        · have hm5 : 5 < mode := by omega
          clear h
          go_enter Try.func55, Try.ntmps55
          go_wp2_with (go_at_call 67; refine (fits_any _ _).mono ?_; rintro e w' ⟨rfl, rfl⟩)
          go_ret2
          exact ⟨rfl, rfl⟩

theorem mdA_parts {a b c mode : Int} (h : CM.mdA a b c mode = true) : CM.fits a = true ∧ CM.fits b = true ∧ CM.fits c = true ∧ 1 ≤ mode ∧ mode ≤ 5 := by
  simp [CM.mdA] at h
  obtain ⟨⟨⟨⟨h1, h2⟩, h3⟩, h4⟩, h5⟩ := h
  exact ⟨h1, h2, h3, h4, h5⟩

theorem muldiv_zero (a b mode : Int) (w : World) (h : CM.mdA a b 0 mode = true) :
    Calls Try.prog 55 #[.int .i64 a, .int .i64 b, .int .i64 0, .int .i64 mode] w fun e w' => e = .returned (.tuple #[.int .i64 0, .int .i64 4]) ∧ w = w' := by
  obtain ⟨ha, hb, hc, h1, h5⟩ := mdA_parts h
  clear h
  go_enter Try.func55, Try.ntmps55
  go_wp2_with (go_at_call 67; refine (fits_any _ _).mono ?_; rintro e w' ⟨rfl, rfl⟩)
  go_ret2
  exact ⟨rfl, rfl⟩

set_option maxHeartbeats 400000 in
theorem muldiv_over (a b c mode : Int) (w : World) (h : CM.mdA a b c mode = true) (hc0 : (c == 0) = false)
    (hk : CM.dok (CM.size a).toNat (CM.size b).toNat (CM.size c).toNat = false) :
    Calls Try.prog 55 #[.int .i64 a, .int .i64 b, .int .i64 c, .int .i64 mode] w fun e w' => e = .returned (.tuple #[.int .i64 0, .int .i64 3]) ∧ ∃ n, w' = w.drewN n := by
  obtain ⟨ha, hb, hc, hm1, hm5⟩ := mdA_parts h
  clear h
  obtain ⟨a1, a2⟩ := CM.fits_true.1 ha
  obtain ⟨b1, b2⟩ := CM.fits_true.1 hb
  obtain ⟨c1, c2⟩ := CM.fits_true.1 hc
  have sa0 := CM.size_nonneg a
  have sa1 := CM.size_le a1 a2
  have sb0 := CM.size_nonneg b
  have sb1 := CM.size_le b1 b2
  have sc0 : 0 < CM.size c := CM.size_pos (by simpa using hc0)
  have sc1 := CM.size_le c1 c2
  go_enter Try.func55, Try.ntmps55
  go_wp2_with (first
    | (go_at_call 67; refine (fits_any _ _).mono ?_; rintro e w' ⟨rfl, rfl⟩)
    | (go_at_call 69; refine (size_any _ _ (by assumption) (by assumption)).mono ?_; rintro e w' ⟨rfl, rfl⟩)
    | (go_at_call 68; refine (divide_int _ _ _ _ (by assumption) (by assumption) (by assumption) (by assumption) (by assumption) (by assumption)).mono ?_; rintro e w' ⟨rfl, n, rfl⟩))
  go_ret2
  exact ⟨rfl, _, rfl⟩

set_option maxHeartbeats 1000000 in
theorem muldiv_in (a b c mode : Int) (w : World) (h : CM.mdA a b c mode = true) (hc0 : (c == 0) = false)
    (hk : CM.dok (CM.size a).toNat (CM.size b).toNat (CM.size c).toNat = true) :
    Calls Try.prog 55 #[.int .i64 a, .int .i64 b, .int .i64 c, .int .i64 mode] w fun e w' => e = .returned (.tuple #[.int .i64 (CM.mdN a b c mode), .int .i64 (CM.mdE a b c mode)]) ∧ Below w.heap.size w w' := by
  have hcn : c ≠ 0 := by simpa using hc0
  have HF := Lib.hid (fun g => @CM.md_fit a b c mode g h hcn)
  obtain ⟨ha, hb, hc, hm1, hm5⟩ := mdA_parts h
  clear h
  obtain ⟨a1, a2⟩ := CM.fits_true.1 ha
  obtain ⟨b1, b2⟩ := CM.fits_true.1 hb
  obtain ⟨c1, c2⟩ := CM.fits_true.1 hc
  have sa0 := CM.size_nonneg a
  have sa1 := CM.size_le a1 a2
  have sb0 := CM.size_nonneg b
  have sb1 := CM.size_le b1 b2
  have sc0 : 0 < CM.size c := CM.size_pos hcn
  have sc1 := CM.size_le c1 c2
  obtain ⟨e1, e2⟩ := CM.dq_eq hk
  have r1 := CM.mdR_lt a b hcn
  have r0 : (0 : Int) ≤ CM.mdR a b c := Int.natCast_nonneg _
  have q0 := CM.mdQ_nonneg a b c
  have q1 := CM.dok_iff.1 hk
  clear hcn
  have hneg : (!((!(decide (a < 0) == decide (b < 0))) == decide (c < 0))) = CM.neg a b c := rfl
  cases hg : CM.grow (CM.mdQ a b c) (CM.mdR a b c) (CM.size c) mode (CM.neg a b c)
  all_goals
    cases hn : CM.neg a b c
    all_goals
      rw [hn] at hg
      have HG : Hid (CM.mdG a b c mode = _) := Lib.hid (show CM.mdG a b c mode = CM.mdQ a b c + _ from by unfold CM.mdG; rw [hn, hg])
      simp only [if_true, if_false, Bool.false_eq_true] at HG
      have HN := Lib.hid hn
      rw [hn] at hneg
      clear hn
      go_enter Try.func55, Try.ntmps55
      go_wp2_with (first
        | (go_at_call 67; refine (fits_any _ _).mono ?_; rintro e w' ⟨rfl, rfl⟩)
        | (go_at_call 69; refine (size_any _ _ (by assumption) (by assumption)).mono ?_; rintro e w' ⟨rfl, rfl⟩)
        | (go_at_call 68; refine (divide_int _ _ _ _ (by assumption) (by assumption) (by assumption) (by assumption) (by assumption) (by assumption)).mono ?_; rintro e w' ⟨rfl, n, rfl⟩)
        | (go_at_call 70; refine (rounding_any _ _ _ _ _).mono ?_; rintro e w' ⟨rfl, rfl⟩)
        | (go_at_call 79; refine (grow_new _ _ _ _ _ _ _ (by assumption) (by assumption) (by assumption) (by assumption) (by assumption) (by assumption) (by assumption)).mono ?_; rintro e w' ⟨rfl, rfl⟩)
        | (go_at_call 71; refine (fitting_any _ _).mono ?_; rintro e w' ⟨rfl, rfl⟩))
      go_ret2
      refine ⟨?_, ?_⟩
      · obtain ⟨f1, f2⟩ := HF.out _ rfl
        rw [HN.out, HG.out] at f1 f2
        simp only [if_true, if_false, Bool.false_eq_true, Int.add_zero] at f1 f2
        rw [← f1, ← f2]; rfl
      · exact ((((below_drewN (Below.refl _ _) n).alloc (Nat.le_refl _) _).alloc (by simp) _).alloc (by simp <;> omega) _).alloc (by simp <;> omega) _

theorem muldiv_any (a b c mode : Int) (w : World) :
    Calls Try.prog 55 #[.int .i64 a, .int .i64 b, .int .i64 c, .int .i64 mode] w fun e w' => e = .returned (.tuple #[.int .i64 (CM.mdN a b c mode), .int .i64 (CM.mdE a b c mode)]) ∧ Below w.heap.size w w' := by
  cases h : CM.mdA a b c mode
  · have e1 : CM.mdN a b c mode = 0 := by simp [CM.mdN, h]
    have e2 : CM.mdE a b c mode = 2 := by simp [CM.mdE, h]
    rw [e1, e2]
    exact (muldiv_arg a b c mode w h).mono fun _ _ ⟨he, hw⟩ => ⟨he, by subst hw; exact Below.refl _ _⟩
  · by_cases hc : c = 0
    · subst hc
      have e1 : CM.mdN a b 0 mode = 0 := by simp [CM.mdN]
      have e2 : CM.mdE a b 0 mode = 4 := by simp [CM.mdE, h]
      rw [e1, e2]
      exact (muldiv_zero a b mode w h).mono fun _ _ ⟨he, hw⟩ => ⟨he, by subst hw; exact Below.refl _ _⟩
    · cases hk : CM.dok (CM.size a).toNat (CM.size b).toNat (CM.size c).toNat
      · obtain ⟨e1, e2⟩ := CM.md_over h hc (by
          have := (not_congr (@CM.dok_iff a b c)).1 (by rw [hk]; simp)
          omega)
        rw [e1, e2]
        exact (muldiv_over a b c mode w h (by simpa using hc) hk).mono fun _ _ ⟨he, n, hw⟩ => ⟨he, by subst hw; exact below_drewN (Below.refl _ _) n⟩
      · exact muldiv_in a b c mode w h (by simpa using hc) hk
end Go.Proofs.Ytagmknahmkniaaa

/- Contracts of layer 19: between. -/
namespace Go.Proofs.Ytagmknahmkniaaa
open Go.RowKit Go.Recs
set_option linter.unusedVariables false
set_option linter.unusedSimpArgs false
set_option maxHeartbeats 4000000 in
theorem utween_any (a b : UM.Pt) (day tick : Int) (h : UM.Pair a b day tick) (w : World) :
    Calls Try.prog 42 #[ptA a, ptA b, .int .i64 day, .int .i64 tick] w fun e w' => e = .returned (.tuple #[.int .i64 (UM.tweenN a b day tick), .int .i64 0]) ∧ Below w.heap.size w w' := by
  obtain ⟨x, y, c⟩ := h.lined
  obtain ⟨e, k, n⟩ := h.bounds
  obtain ⟨da, db, lt, pa, pb, tk⟩ := h
  have C1 := fun ww => muldiv_any (a.price * (b.exp - a.exp) + (b.price - a.price) * (day - a.exp)) 1 ((b.exp - a.exp) * tick) 5 ww
  have eK : CM.mdN (a.price * (b.exp - a.exp) + (b.price - a.price) * (day - a.exp)) 1 ((b.exp - a.exp) * tick) 5 = UM.tweenK a b day tick := rfl
  have eE : CM.mdE (a.price * (b.exp - a.exp) + (b.price - a.price) * (day - a.exp)) 1 ((b.exp - a.exp) * tick) 5 = 0 := e
  rw [eK, eE] at C1
  have C1 := Lib.hid C1
  have eN : UM.tweenN a b day tick = UM.tweenK a b day tick * tick := rfl
  rw [eN] at n ⊢
  have HB := Lib.hid (below_al (below_al (Below.refl w.heap.size w) (.cells (ptC a) 44)) (.cells (ptC b) 44))
  have HA := (CB.new w 44 (ptC a)).alloc (.cells (ptC b) 44)
  have HC := CB.new1 w (.cells (ptC a) 44) 44 (ptC b)
  have f0 := HA.cell 0
  have f1 := HA.cell 1
  have g0 := HC.cell 0
  have g1 := HC.cell 1
  simp only [List.getElem?_toArray, List.getElem?_cons_zero, List.getElem?_cons_succ] at f0 f1 g0 g1
  clear HA HC eK eE e eN
  generalize UM.tweenK a b day tick = z at *
  go_enter Try.func42, Try.ntmps42
  go_wp2_with fail
  refine (C1.out _).mono ?_
  rintro e w1 ⟨rfl, b1⟩
  have HB1 := Lib.hid (HB.out.trans (b1.mono HB.out.size))
  clear b1
  go_wp2_with fail
  go_ret2
  exact ⟨rfl, HB1.out⟩
end Go.Proofs.Ytagmknahmkniaaa
