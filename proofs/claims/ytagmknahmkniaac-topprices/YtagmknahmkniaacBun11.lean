/- Put together: PtBox, CurA, CurD, CurE, CurB, CurF, MrkD. -/
import Derived.Test.YtagmknahmkniaacBun5
import Derived.Test.YtagmknahmkniaacBun6
import Derived.Laws.StructEq
import Derived.RangeFuncNested
import Derived.RangeFuncBound
import Derived.RangeFuncCalls
import Derived.RangeFuncLeaves
import Derived.Shelf.Abstract
import Derived.Sort.MapsRangeIn
import Derived.WalkKit
import Derived.OwnWalkIn
import Derived.TacticsInMore
import Derived.RegionIn
import Derived.LoopNIn
import Derived.LoopIn
import Derived.RangeFuncBox
import Derived.Maps.AppendAt
import Derived.Test.YtagmknahmkniaacBun7
import Derived.Test.YtagmknahmkniaacBun10
import Derived.Test.YtagmknahmkniaacBun9
import Derived.Deep.RegionHeld3
/- A point in a box; points compared. -/
namespace Go.Proofs.Ytagmknahmkniaac
open Go.RowKit Go.Recs
set_option linter.unusedVariables false
set_option linter.unusedSimpArgs false
abbrev ptA (x : UM.Pt) : Value := .agg #[.int .i64 x.exp, .int .i64 x.price, .bool x.known]
abbrev ptC (x : UM.Pt) : Array Value := #[.int .i64 x.exp, .int .i64 x.price, .bool x.known]
theorem info_pt : (Try.prog.info? 36).map (fun i => (i.zero, i.size, i.bytes)) = some (some (ptA UM.zero), 3, 24) := by kernel_rfl
theorem pt_under : Try.prog.underlying 36 = some (.struct (Try.prog.fieldsOf 36)) := by kernel_rfl
theorem pt_size : (Try.prog.info? 36).map (·.size) = some 3 := by kernel_rfl
theorem load_pt (w : World) (g : Nat) (x : UM.Pt) (hb : CB w g 36 (ptC x)) : (loadVar 36 ⟨g, 0, none⟩).run Try.prog w = .ok (ptA x) w := by
  rw [run_loadVar_row w g 36 36 _ (0, 0) _ hb pt_under rfl pt_size]
theorem results_ptpt {fn : Func} {p q : Tmp} (h : fn.results = #[.cell p 36, .cell q 36]) (tmps : Array Value) (w : World) (g k : Nat) (x y : UM.Pt)
    (hp : tmps.getD p undef = .pointer (some ⟨g, 0, none⟩)) (hq : tmps.getD q undef = .pointer (some ⟨k, 0, none⟩)) (hb : CB w g 36 (ptC x)) (hk : CB w k 36 (ptC y)) : (results fn tmps).run Try.prog w = .ok (.tuple #[ptA x, ptA y]) w := by
  rw [results_cell2 h, hp, hq]
  simp only [asAddr, Sem.run_pure, Result.andThen_ok]
  rw [load_pt w g x hb]
  simp only [Sem.run_pure, Result.andThen_ok]
  rw [load_pt w k y hk]
  rfl
def pteq (x y : UM.Pt) : Bool := (x.exp == y.exp) && ((x.price == y.price) && (x.known == y.known))
theorem pteq_is (x y : UM.Pt) : pteq x y = decide (x = y) := by
  obtain ⟨a, b, c⟩ := x
  obtain ⟨a', b', c'⟩ := y
  by_cases h1 : a = a' <;> by_cases h2 : b = b' <;> by_cases h3 : c = c' <;> simp [pteq, h1, h2, h3]
theorem pt_in (x y : UM.Pt) (w : World) : (Op.equalIn 10000 36 (ptA x) (ptA y)).run Try.prog w = .ok (pteq x y) w := by
  have u3 := Try.underlying3
  have u4 := Try.underlying4
  have a3 := Try.isAgg3
  have a4 := Try.isAgg4
  have z3 := Try.sizeOf3
  have z4 := Try.sizeOf4
  have hp : Try.prog.stoodInHeld 36 = false := by kernel_rfl
  rw [show (10000 : Nat) = 9999 + 1 from rfl, run_equalIn_agg w 9999 36 _ _ pt_under hp]
  simp only [Program.fieldsOf, Try.underlying36]
  unfold pteq
  go_simp
  by_cases h1 : x.exp = y.exp <;> by_cases h2 : x.price = y.price <;> by_cases h3 : x.known = y.known <;> simp [h1, h2, h3]
theorem pt_guard : Try.prog.eqGuardType Try.prog.depth 36 = false := by kernel_rfl
end Go.Proofs.Ytagmknahmkniaac

/- Contracts of layer 19: within, isPrice, Check. -/
namespace Go.Proofs.Ytagmknahmkniaac
open Go.RowKit Go.Recs
set_option linter.unusedVariables false
set_option linter.unusedSimpArgs false
theorem uwithin_any (n a b : Int) (w : World) :
    Calls Try.prog 21 #[.int .i64 n, .int .i64 a, .int .i64 b] w fun e w' => e = .returned (.bool (QM.within n a b)) ∧ w = w' := by
  by_cases h1 : a ≤ n
  · by_cases h2 : n ≤ b
    · have e : QM.within n a b = true := QM.within_true.2 ⟨h1, h2⟩
      rw [e]; clear e
      go_enter Try.func21, Try.ntmps21
      go_wp2
      go_ret
      exact ⟨rfl, rfl⟩
    · have e : QM.within n a b = false := QM.within_false.2 (.inr (by omega))
      rw [e]; clear e
      go_enter Try.func21, Try.ntmps21
      go_wp2
      go_ret
      exact ⟨rfl, rfl⟩
  · have e : QM.within n a b = false := QM.within_false.2 (.inl (by omega))
    rw [e]; clear e
    go_enter Try.func21, Try.ntmps21
    go_wp2
    go_ret
    exact ⟨rfl, rfl⟩
theorem uisprice_any (n : Int) (w : World) :
    Calls Try.prog 86 #[.int .i64 n] w fun e w' => e = .returned (.bool (UM.isP n)) ∧ w = w' := by
  have C1 := Lib.hid (fun ww => uwithin_any n (-16777216) 16777216 ww)
  have e : UM.isP n = QM.within n (-16777216) 16777216 := rfl
  rw [e]; clear e
  generalize QM.within n (-16777216) 16777216 = b at *
  go_enter Try.func86, Try.ntmps86
  go_wp2_with fail
  refine (C1.out _).mono ?_
  rintro e w1 ⟨rfl, rfl⟩
  go_wp2_with fail
  go_ret
  exact ⟨rfl, rfl⟩
set_option maxRecDepth 100000 in
set_option maxHeartbeats 4000000 in
theorem ucheck_any (A : Option Addr) (l : List UM.Pt) (n cap : Nat) (hn : n = l.length) (w : World) (hI : Pts w A l) :
    Calls Try.prog 59 #[.slice A n cap] w fun e w' => e = .returned (.int .i64 (UM.checkE l)) ∧ Below w.heap.size w w' := by
  subst hn
  have hlen := hI.len
  have C0 := Lib.hid (fun ww => uwithin_any (l.length : Int) 1 128 ww)
  have C1 := Lib.hid (fun n a b ww => uwithin_any n a b ww)
  have C2 := Lib.hid (fun n ww => uisprice_any n ww)
  cases h32 : QM.within l.length 1 128
  · have e : UM.checkE l = 8 := by unfold UM.checkE; rw [if_pos h32]
    rw [h32] at C0
    rw [e]; clear e hI h32 C1 C2
    go_enter Try.func59, Try.ntmps59
    go_wp2_with fail
    refine (C0.out _).mono ?_
    rintro e w1 ⟨rfl, rfl⟩
    go_wp2_with fail
    go_ret
    exact ⟨rfl, Below.refl _ _⟩
  have KA := Lib.hid (fun j (h : j < l.length) e k => UM.rest_at h e k)
  have KE := Lib.hid (fun e k => UM.rest_end l e k)
  have K0 : Hid (UM.checkE l = UM.restE (l.drop 0) 0 false) := Lib.hid (by unfold UM.checkE; rw [if_neg (by simp [h32]), List.drop_zero])
  rw [h32] at C0
  generalize UM.checkE l = x at *
  have HI := Lib.hid hI
  clear hI h32
  go_enter Try.func59, Try.ntmps59
  go_wp2_with fail
  refine (C0.out _).mono ?_
  rintro e w1 ⟨rfl, rfl⟩
  go_wp2_with fail
  go_loopw [3, 4, 6, 13] (fun ev kv _ i wr => ∃ j : Nat, j ≤ l.length ∧ i = .int .i64 (j : Int) ∧ ∃ (ea : Int) (kn : Bool), ev = .int .i64 ea ∧ kv = .bool kn ∧ 0 ≤ ea ∧ ea ≤ 73049 ∧ Hid (x = UM.restE (l.drop j) ea kn) ∧ Hid (Below w.heap.size w wr)) (fun _ _ _ i _ => l.length - (intOf i).toNat)
  case atStart => exact ⟨0, by omega, rfl, 0, false, rfl, rfl, by omega, by omega, K0, Lib.hid (Below.refl _ _)⟩
  case round =>
    obtain ⟨j, hj, rfl, ea, kn, rfl, rfl, he0, he1, HE, HW⟩ := hrel
    by_cases hlt : j < l.length
    · obtain ⟨b, off, t, rfl, hb, HV, ⟨q0, q1⟩, d0, d1, d2⟩ := pts_get (HI.out.below HW.out) hlt
      have HWA := Lib.hid (HW.out.alloc HW.out.size (.cells (ptC t) 36))
      have HC := CB.new wr 36 (ptC t)
      have f0 := HC.cell 0
      have f1 := HC.cell 1
      have f2 := HC.cell 2
      simp only [List.getElem?_toArray, List.getElem?_cons_zero, List.getElem?_cons_succ] at f0 f1 f2
      have HR : Hid (x = if QM.within t.exp ea 73048 = false then 15 else if t.known = true ∧ UM.isP t.price = false then 17 else UM.restE (l.drop (j + 1)) (t.exp + 1) (kn || t.known)) := Lib.hid (by rw [HE.out, KA.out j hlt, HV.out])
      obtain ⟨wa, hwa⟩ : ∃ wa, wr.alloc (.cells #[.int .i64 t.exp, .int .i64 t.price, .bool t.known] 36) = wa := ⟨_, rfl⟩
      rw [hwa] at f0 f1 f2
      have HWA := Lib.hid (hwa ▸ HWA.out : Below w.heap.size w wa)
      clear HC HE q0 q1
      go_wp2_with fail
      refine (C1.out _ _ _ _).mono ?_
      rintro e w2 ⟨rfl, rfl⟩
      cases g1 : QM.within t.exp ea 73048
      · have HX : Hid (x = 15) := Lib.hid (by rw [HR.out, if_pos g1])
        go_wp2_with fail
        go_ret
        exact ⟨by rw [HX.out] <;> rfl, HWA.out⟩
      have hg := QM.within_true.1 g1
      have hw1 : ¬ 73048 < t.exp := by omega
      cases g2 : t.known
      · have HX : Hid (x = UM.restE (l.drop (j + 1)) (t.exp + 1) kn) := Lib.hid (by rw [HR.out, if_neg (by simp [g1]), if_neg (by simp [g2]), g2, Bool.or_false])
        rw [g2] at f2
        have hlo : 0 ≤ t.exp + 1 ∧ t.exp + 1 ≤ 73049 := ⟨by omega, by omega⟩
        clear HR g1 g2
        cases kn
        all_goals (
          go_wp2_with fail
          go_quiet (fail)
          go_wp2_with fail
          go_roundw
          case rel => exact ⟨j + 1, by omega, by go_num, _, _, rfl, rfl, hlo.1, hlo.2, HX, Lib.hid (by first | exact below_drewN HWA.out _ | exact HWA.out)⟩
          case measure => simp [intOf]; omega)
      · rw [g2] at f2
        go_wp2_with fail
        refine (C2.out _ _).mono ?_
        rintro e w2 ⟨rfl, rfl⟩
        cases g3 : UM.isP t.price
        · have HX : Hid (x = 17) := Lib.hid (by rw [HR.out, if_neg (by simp [g1]), if_pos ⟨g2, g3⟩])
          go_wp2_with fail
          go_ret
          exact ⟨by rw [HX.out] <;> rfl, HWA.out⟩
        have HX : Hid (x = UM.restE (l.drop (j + 1)) (t.exp + 1) true) := Lib.hid (by rw [HR.out, if_neg (by simp [g1]), if_neg (by simp [g3]), g2, Bool.or_true])
        have hlo : 0 ≤ t.exp + 1 ∧ t.exp + 1 ≤ 73049 := ⟨by omega, by omega⟩
        clear HR g1 g2 g3
        cases kn
        all_goals (
          go_wp2_with fail
          go_quiet (fail)
          go_wp2_with fail
          go_roundw
          case rel => exact ⟨j + 1, by omega, by go_num, _, _, rfl, rfl, hlo.1, hlo.2, HX, Lib.hid (by first | exact below_drewN HWA.out _ | exact HWA.out)⟩
          case measure => simp [intOf]; omega)
    · obtain rfl : j = l.length := by omega
      cases kn
      · have HX : Hid (x = 11) := Lib.hid (by rw [HE.out, KE.out]; rfl)
        go_wp2_with fail
        go_ret
        exact ⟨by rw [HX.out] <;> rfl, HW.out⟩
      · have HX : Hid (x = 0) := Lib.hid (by rw [HE.out, KE.out]; rfl)
        go_wp2_with fail
        go_ret
        exact ⟨by rw [HX.out] <;> rfl, HW.out⟩
end Go.Proofs.Ytagmknahmkniaac

/- slices.Backward at points. -/
namespace Go.Proofs.Ytagmknahmkniaac
open Go.RowKit Go.Recs Go.Maps Go.Shelf
set_option linter.unusedVariables false
set_option linter.unusedSimpArgs false
attribute [local go_sem] Oper.semAt_some
/-- two blocks stay as they are -/
def KeepsTwo (b1 b2 : Nat) (W W' : World) : Prop := W'.heap[b1]? = W.heap[b1]? ∧ W'.heap[b2]? = W.heap[b2]? ∧ W.heap.size ≤ W'.heap.size
theorem ktwo_t {b1 b2 : Nat} {A B C : World} (h : KeepsTwo b1 b2 A B) (g : KeepsTwo b1 b2 B C) : KeepsTwo b1 b2 A C := ⟨g.1.trans h.1, g.2.1.trans h.2.1, Nat.le_trans h.2.2 g.2.2⟩
theorem ktwo_b {b1 b2 n : Nat} (h1 : b1 < n) (h2 : b2 < n) (W : World) (l : Nat) (o o' : Obj) (hl : n ≤ l) : KeepsTwo b1 b2 W (W.putObj l o') := by
  refine ⟨?_, ?_, by simp [World.putObj]⟩
  · simp only [World.putObj]; rw [Array.getElem?_setIfInBounds_ne (by omega)]
  · simp only [World.putObj]; rw [Array.getElem?_setIfInBounds_ne (by omega)]
theorem KeepsTwo.cell {b1 b2 : Nat} {W W' : World} (h : KeepsTwo b1 b2 W W') (i : Nat) : W'.cell? ⟨b2, i, none⟩ = W.cell? ⟨b2, i, none⟩ := by
  simp [World.cell?, h.2.1]
theorem KeepsTwo.pts {b1 b2 : Nat} {W W' : World} (h : KeepsTwo b1 b2 W W') {A : Option Addr} {l : List UM.Pt} (hA : l = [] ∨ ∀ b off, A = some ⟨b, off, none⟩ → b = b1) (hI : Pts W A l) : Pts W' A l := by
  refine ⟨?_, hI.2⟩
  obtain ⟨g1, g2, g3⟩ := hI.1
  refine ⟨g1, g2, ?_⟩
  rcases hA with rfl | hA
  · exact .inl rfl
  rcases g3 with g3 | ⟨b, off, e, hb, hc⟩
  · exact .inl g3
  · refine .inr ⟨b, off, e, by have := h.2.2; omega, fun i j hi hj => ?_⟩
    rw [← hc i j hi hj]
    have := hA b off e
    subst this
    simp [World.cell?, h.1]
theorem ktwo_al {b1 b2 : Nat} {W : World} (h1 : b1 < W.heap.size) (h2 : b2 < W.heap.size) (o : Obj) : KeepsTwo b1 b2 W (W.alloc o) := ⟨Below.heap_alloc W o b1 h1, Below.heap_alloc W o b2 h2, by simp⟩
/-- the block where the points lie -/
theorem pts_block {w : World} {A : Option Addr} {l : List UM.Pt} (hI : Pts w A l) {k m : Nat} (hk : w.heap.size ≤ k) (hm : w.heap.size ≤ m) (hne : k ≠ m) : ∃ b1, b1 ≤ k ∧ b1 ≠ m ∧ (l = [] ∨ ∀ b off, A = some ⟨b, off, none⟩ → b = b1) := by
  rcases hI.1.2.2 with h | ⟨b, off, e, hb, _⟩
  · exact ⟨k, Nat.le_refl _, hne, .inl (by simpa using h)⟩
  · refine ⟨b, by omega, by omega, .inr fun b' off' e' => ?_⟩
    rw [e] at e'
    injection e' with e'
    injection e' with e1
    exact e1.symm
theorem rev_step {l : List UM.Pt} {j : Nat} (h : j < l.length) : (l.drop j).reverse = (l.drop (j + 1)).reverse ++ [UM.pAt l j] := by
  rw [List.drop_eq_getElem_cons h, List.reverse_cons, UM.pAt_get h]
set_option maxHeartbeats 4000000 in
theorem uback1_in (F : Fence) (n : Nat) (hf : F.fn 103) (hro : F.round = none) (hn : 1 ≤ n) (lid b1 Bm : Nat) (A : Option Addr) (l : List UM.Pt) (cap : Nat) (hA : l = [] ∨ ∀ b off, A = some ⟨b, off, none⟩ → b = b1) (J Jx : List (Int × UM.Pt) → World → Prop)
    (hY : ∀ pre x W, J pre W → pre.length < l.length → YieldAt F (n - 1) Try.prog lid #[.int .i64 x.1, ptA x.2] W fun e W' =>
      (e = .returned (.bool true) ∧ J (pre ++ [x]) W' ∧ KeepsTwo b1 Bm W W') ∨ (e = .returned (.bool false) ∧ Jx (pre ++ [x]) W'))
    (W : World) (hm : W.cell? ⟨Bm, 0, none⟩ = some (.slice A l.length cap)) (hI : Pts W A l) (h0 : J [] W) :
    CallsIn F n Try.prog 103 #[.func (.yield lid) #[] #[], .pointer (some ⟨Bm, 0, none⟩)] W fun e W' => (∃ v, e = .returned v) ∧
      ((∃ xs, (xs.map (·.2) = l.reverse) ∧ J xs W') ∨ (∃ pre, True ∧ Jx pre W')) := by
  have hlen := hI.len
  have HI := Lib.hid hI
  have HA := Lib.hid hA
  have H0 := Lib.hid h0
  have HY := Lib.hid hY
  clear hI hA h0 hY
  refine callsIn_of_wp Try.func103 rfl hf ?_ hro
  simp only [Try.ntmps103, List.size_toArray, List.length_cons, List.length_nil, Nat.reduceAdd, Nat.reduceSub, Array.replicate_succ, Array.replicate_zero, List.push_toArray, List.append_toArray, List.nil_append, List.cons_append]
  gi_wp2
  gi_loopw [3] (fun i wr => ∃ (k : Nat) (pre : List (Int × UM.Pt)), k ≤ l.length ∧ i = .int .i64 ((k : Int) - 1) ∧ pre.length + k = l.length ∧ Hid (pre.map (·.2) = (l.drop k).reverse) ∧ Hid (J pre wr) ∧ wr.cell? ⟨Bm, 0, none⟩ = some (.slice A l.length cap) ∧ Hid (Pts wr A l))
    (fun i _ => (intOf i + 1).toNat)
  case atStart => exact ⟨l.length, [], Nat.le_refl _, rfl, by simp, Lib.hid (by rw [List.drop_length]; rfl), H0, hm, HI⟩
  case round =>
    clear hm
    obtain ⟨k, pre, hk, rfl, hp, HP, HJ, hm, HI⟩ := hrel
    cases k with
    | zero =>
      have e : (((0 : Nat) : Int) - 1) = -1 := rfl
      rw [e]
      gi_wp2
      go_end0
      exact ⟨⟨_, rfl⟩, .inl ⟨pre, by rw [HP.out, List.drop_zero], HJ.out⟩⟩
    | succ j =>
      have e : (((j + 1 : Nat) : Int) - 1) = (j : Int) := by omega
      rw [e]; clear e
      have hlt : j < l.length := by omega
      obtain ⟨b, off, t, rfl, hb, HV, q, d0, d1, d2⟩ := pts_get HI.out hlt
      have HP2 : Hid ((pre ++ [((j : Int), t)]).map (·.2) = (l.drop j).reverse) := Lib.hid (by rw [List.map_append, HP.out, rev_step hlt, HV.out]; rfl)
      obtain ⟨fn, tmps, assign, body, hy, hR⟩ := HY.out pre ((j : Int), t) _ HJ.out (by omega)
      dsimp only at hy
      clear q
      gi_wp2
      refine hR.mono ?_
      rintro e W3 (⟨rfl, hJ4, hk4⟩ | ⟨rfl, hJx4⟩)
      · have hm3 := (hk4.cell 0).trans hm
        have HI3 := Lib.hid (hk4.pts HA.out HI.out)
        have HJ4 := Lib.hid hJ4
        clear hJ4 hk4 hm d0 d1 d2 HI HJ
        gi_wp2
        go_roundw
        case rel => exact ⟨j, _, by omega, by go_num, by rw [List.length_append, List.length_singleton]; omega, HP2, HJ4, hm3, HI3⟩
        case measure => simp [intOf]
      · gi_wp2
        refine bodyPost_ret (results_none rfl _ _ _) rfl ?_
        exact ⟨⟨_, rfl⟩, .inr ⟨_, trivial, hJx4⟩⟩
theorem uback_stops (F : Fence) (n : Nat) (hf : F.fn 103) (hro : F.round = none) (hn : 1 ≤ n) (b1 Bm : Nat) (A : Option Addr) (l : List UM.Pt) (cap : Nat) (hA : l = [] ∨ ∀ b off, A = some ⟨b, off, none⟩ → b = b1) (w : World) (hm : w.cell? ⟨Bm, 0, none⟩ = some (.slice A l.length cap)) (hBm : Bm < w.heap.size) (hI : Pts w A l) :
    SeqStopsK F n Try.prog 103 #[.pointer (some ⟨Bm, 0, none⟩)] (fun (x : Int × UM.Pt) => #[.int .i64 x.1, ptA x.2]) (KeepsTwo b1 Bm) (fun xs => xs.map (·.2) = l.reverse) (fun _ => True) l.length w := fun lid J Jx W hW hJ hJx hY h0 =>
  uback1_in F n hf hro hn lid b1 Bm A l cap hA J Jx hY W ((hW.cell (p := ⟨Bm, 0, none⟩) hBm).trans hm) (hI.below hW) h0
set_option maxHeartbeats 1000000 in
theorem uback_any (A : Option Addr) (n cap : Nat) (w : World) : Calls Try.prog 87 #[.slice A n cap] w fun e w' => e = .returned (.func (.func 103) #[] #[.pointer (some ⟨w.heap.size, 0, none⟩)]) ∧ w.alloc (.cells #[.slice A n cap] 27) = w' := by
  have hmf : ∀ (xs : Array Value), xs.map id = xs := by simp
  go_enter Try.func87, Try.ntmps87
  go_wp2_with fail
  go_ret
  exact ⟨rfl, rfl⟩
end Go.Proofs.Ytagmknahmkniaac

/- Contracts of layer 19: the known points about a day. -/
namespace Go.Proofs.Ytagmknahmkniaac
open Go.RowKit Go.Recs Go.Maps Go.Shelf
set_option linter.unusedVariables false
set_option linter.unusedSimpArgs false
attribute [local go_sem] Oper.semAt_some
/-- a point written into box g -/
abbrev putU (w : World) (g : Nat) (x : UM.Pt) : World := ((w.setCell ⟨g, 0, none⟩ (.int .i64 x.exp)).setCell ⟨g, 1, none⟩ (.int .i64 x.price)).setCell ⟨g, 2, none⟩ (.bool x.known)
theorem putU_own {w : World} {g : Nat} {x : UM.Pt} (h : CB w g 36 (ptC x)) (y : UM.Pt) : CB (putU w g y) g 36 (ptC y) := ((h.set_ 0 (.int .i64 y.exp)).set_ 1 (.int .i64 y.price)).set_ 2 (.bool y.known)
theorem putU_far {w : World} {g k : Nat} {t : TypeId} {cs : Array Value} (h : CB w g t cs) (hk : g ≠ k) (y : UM.Pt) : CB (putU w k y) g t cs := ((h.far (p := ⟨k, 0, none⟩) hk _).far (p := ⟨k, 1, none⟩) hk _).far (p := ⟨k, 2, none⟩) hk _
theorem putU_below {w w' : World} {B g : Nat} (h : Below B w w') (hg : B ≤ g) (y : UM.Pt) : Below B w (putU w' g y) := ((h.setCell (p := ⟨g, 0, none⟩) hg _).setCell (p := ⟨g, 1, none⟩) hg _).setCell (p := ⟨g, 2, none⟩) hg _
theorem putU_heap (w : World) (g k : Nat) (y : UM.Pt) (h : k ≠ g) : (putU w g y).heap[k]? = w.heap[k]? := ((Below.heap_setCell _ ⟨g, 2, none⟩ _ k h).trans (Below.heap_setCell _ ⟨g, 1, none⟩ _ k h)).trans (Below.heap_setCell _ ⟨g, 0, none⟩ _ k h)
theorem putU_size (w : World) (g : Nat) (y : UM.Pt) : (putU w g y).heap.size = w.heap.size := by simp [World.setCell]
theorem cb_ownF {β : Type} (Bx : Nat) (t : TypeId) (f : β → Array Value) : Go.Own (fun (s : β) W => CB W Bx t (f s)) := fun s X Y row hs hg hrow =>
  (hg.block Bx (CB.lt hs) (fun e' => by
    obtain ⟨o, ho, hc⟩ := hrow Bx e'.symm
    rw [show X.heap[Bx]? = _ from hs] at ho; cases ho; cases hc)).trans hs
theorem cb_own (Bx : Nat) (t : TypeId) (cs : Array Value) : Go.Own (fun (_ : Unit) W => CB W Bx t cs) := cb_ownF Bx t (fun _ => cs)
theorem putU_others (w : World) (g : Nat) (y : UM.Pt) : KeepsOthers w (putU w g y) := ((KeepsOthers.setCell _ _ _).trans (KeepsOthers.setCell _ _ _)).trans (KeepsOthers.setCell _ _ _)
theorem cb_drew {W : World} {g : Nat} {t : TypeId} {cs : Array Value} (h : CB W g t cs) : CB W.drew g t cs := h
theorem put2_K {W : World} {D a b : Nat} {x y : UM.Pt} (hK : W.heap[D]? = some (.deferred (some []))) : (putU (putU W a x) b y).heap[D]? = some (.deferred (some [])) := ((putU_others W a x).trans (putU_others (putU W a x) b y)).same D _ hK rfl
theorem heap_drew {W : World} {D : Nat} {o : Option Obj} (h : W.heap[D]? = o) : W.drew.heap[D]? = o := h
theorem put2_A {W : World} {a b : Nat} {x0 x y : UM.Pt} (h : CB W a 36 (ptC x0)) (hab : a ≠ b) : CB (putU (putU W a x) b y) a 36 (ptC x) := putU_far (putU_own h x) hab y
theorem put2_C {W : World} {a b : Nat} {x y0 y : UM.Pt} (h : CB W b 36 (ptC y0)) (hab : b ≠ a) : CB (putU (putU W a x) b y) b 36 (ptC y) := putU_own (putU_far h hab x) y
theorem cb_put {W : World} {g D : Nat} {t : TypeId} {cs : Array Value} {o : Obj} (h : CB W g t cs) (hK : W.heap[D]? = some (.deferred (some []))) : CB (W.putObj D o) g t cs := by
  have hne : D ≠ g := by
    rintro rfl
    rw [show W.heap[D]? = _ from h] at hK; cases hK
  unfold CB at h ⊢
  simp only [World.putObj]
  rw [Array.getElem?_setIfInBounds_ne hne]; exact h
/-- the first known one from the day on, coming from behind -/
def foldB (day : Int) (pre : List (Int × UM.Pt)) : UM.Pt := (pre.map (·.2)).foldl (fun b p => if p.known && decide (day ≤ p.exp) then p else b) UM.zero
theorem foldB_nil (day : Int) : foldB day [] = UM.zero := rfl
theorem foldB_snoc (day : Int) (pre : List (Int × UM.Pt)) (x : Int × UM.Pt) : foldB day (pre ++ [x]) = if x.2.known && decide (day ≤ x.2.exp) then x.2 else foldB day pre := by
  unfold foldB; rw [List.map_append, List.foldl_append]; rfl
theorem foldB_all (day : Int) (l : List UM.Pt) (xs : List (Int × UM.Pt)) (h : xs.map (·.2) = l.reverse) : foldB day xs = UM.highK l day := by
  unfold foldB UM.highK; rw [h, List.foldl_reverse]
set_option maxRecDepth 100000 in
set_option maxHeartbeats 8000000 in
theorem uaround_any (A : Option Addr) (l : List UM.Pt) (n cap : Nat) (hn : n = l.length) (day : Int) (w : World) (hI : Pts w A l) :
    Calls Try.prog 60 #[.slice A n cap, .int .i64 day] w fun e w' => e = .returned (.tuple #[ptA (UM.arA l day), ptA (UM.arB l day)]) ∧ Below w.heap.size w w' := by
  subst hn
  have hlen := hI.len
  have HI := Lib.hid hI
  have KL := Lib.hid (fun k (h : k < l.length) => UM.low_step h day)
  have KA : Hid (UM.lowK (l.take l.length) day = UM.lowK l day) := Lib.hid (by rw [List.take_length])
  have EA : Hid (UM.arA l day = if (UM.lowK l day).known = true then UM.lowK l day else UM.highK l day) := Lib.hid rfl
  have EB : Hid (UM.arB l day = if (UM.lowK l day).known = true ∧ (UM.highK l day).known = false then UM.lowK l day else UM.highK l day) := Lib.hid rfl
  have KB := Lib.hid (fun xs h => foldB_all day l xs h)
  have CBk := Lib.hid (fun A n cap ww => uback_any A n cap ww)
  generalize UM.arA l day = ra at *
  generalize UM.arB l day = rb at *
  generalize UM.highK l day = hk at *
  generalize UM.lowK l day = lk at *
  have HB0 := Lib.hid (below_al (below_al (below_al (Below.refl w.heap.size w) (.cells #[.int .i64 day] 3)) (.cells (ptC UM.zero) 36)) (.cells (ptC UM.zero) 36))
  have HD0 := Lib.hid (((CB.new w 3 #[.int .i64 day]).alloc (.cells (ptC UM.zero) 36)).alloc (.cells (ptC UM.zero) 36))
  have HA0 := Lib.hid ((CB.new1 w (.cells #[.int .i64 day] 3) 36 (ptC UM.zero)).alloc (.cells (ptC UM.zero) 36))
  have HC0 := Lib.hid (CB.new2 w (.cells #[.int .i64 day] 3) (.cells (ptC UM.zero) 36) 36 (ptC UM.zero))
  clear hI
  refine (callsIn_wide (n := 6)).1 ?_
  refine callsIn_of_wp_marks Try.func60 rfl trivial ?_ rfl
  simp only [Try.ntmps60, List.size_toArray, List.length_cons, List.length_nil, Nat.reduceAdd, Nat.reduceSub, Array.replicate_succ, Array.replicate_zero, List.push_toArray, List.append_toArray, List.nil_append, List.cons_append]
  gi_wp2
  gi_loopw [7, 12] (fun _ i wr => ∃ k : Nat, k ≤ l.length ∧ i = .int .i64 (k : Int) ∧ Hid (CB wr w.heap.size 3 #[.int .i64 day]) ∧ Hid (CB wr (w.heap.size + 1) 36 (ptC (UM.lowK (l.take k) day))) ∧ Hid (CB wr (w.heap.size + 2) 36 (ptC UM.zero)) ∧ Hid (Below w.heap.size w wr)) (fun _ i _ => l.length - (intOf i).toNat)
  case atStart => exact ⟨0, by omega, rfl, HD0, HA0, HC0, HB0⟩
  case round =>
    clear HD0 HA0 HC0 HB0
    obtain ⟨k, hk', rfl, HD, HA, HC, HB⟩ := hrel
    by_cases hlt : k < l.length
    · obtain ⟨b, off, t, rfl, hb, HV, q, d0, d1, d2⟩ := pts_get (HI.out.below HB.out) hlt
      have HS := Lib.hid (KL.out k hlt)
      rw [HV.out] at HS
      have hsz := HC.out.lt
      obtain ⟨te, tp, tk⟩ := t
      have HDx := Lib.hid (HD.out.alloc (.cells #[.int .i64 te, .int .i64 tp, .bool tk] 36))
      have HAx := Lib.hid (HA.out.alloc (.cells #[.int .i64 te, .int .i64 tp, .bool tk] 36))
      have HCx := Lib.hid (HC.out.alloc (.cells #[.int .i64 te, .int .i64 tp, .bool tk] 36))
      have HBx := Lib.hid (below_al HB.out (.cells #[.int .i64 te, .int .i64 tp, .bool tk] 36))
      have HT := CB.new wr 36 #[.int .i64 te, .int .i64 tp, .bool tk]
      have f0 := HT.cell 0
      have f1 := HT.cell 1
      have f2 := HT.cell 2
      have e0 := HDx.out.cell 0
      have a0 := HAx.out.cell 0
      have a1 := HAx.out.cell 1
      have a2 := HAx.out.cell 2
      have fA := HAx.out.frozen
      simp only [List.getElem?_toArray, List.getElem?_cons_zero, List.getElem?_cons_succ] at f0 f1 f2 e0 a0 a1 a2 d0 d1 d2
      generalize UM.lowK (l.take k) day = lo at *
      clear q HT HV
      cases tk
      · have HS2 : Hid (UM.lowK (l.take (k + 1)) day = lo) := Lib.hid (by rw [HS.out]; rfl)
        gi_wp2
        go_roundw
        case rel => exact ⟨k + 1, by omega, by go_num, HDx, by rw [HS2.out]; exact HAx, HCx, HBx⟩
        case measure => simp [intOf]; omega
      · by_cases g2 : te ≤ day
        · have HS2 : Hid (UM.lowK (l.take (k + 1)) day = ⟨te, tp, true⟩) := Lib.hid (by rw [HS.out]; simp [g2])
          gi_wp2
          go_roundw
          case rel => exact ⟨k + 1, by omega, by go_num, Lib.hid (putU_far HDx.out (by omega) ⟨te, tp, true⟩), by rw [HS2.out]; exact Lib.hid (putU_own HAx.out ⟨te, tp, true⟩), Lib.hid (putU_far HCx.out (by omega) ⟨te, tp, true⟩), Lib.hid (putU_below HBx.out (by omega) ⟨te, tp, true⟩)⟩
          case measure => simp [intOf]; omega
        · have HS2 : Hid (UM.lowK (l.take (k + 1)) day = lo) := Lib.hid (by rw [HS.out]; simp [g2])
          gi_wp2
          go_roundw
          case rel => exact ⟨k + 1, by omega, by go_num, HDx, by rw [HS2.out]; exact HAx, HCx, HBx⟩
          case measure => simp [intOf]; omega
    · obtain rfl : k = l.length := by omega
      rw [KA.out] at HA
      have hsz := HC.out.lt
      gi_wp2_with (refine ⟨trivial, ?_⟩; gi_at_call 87; refine ((callsIn_wide (n := _)).2 (CBk.out _ _ _ _)).mono ?_; rintro e w1 ⟨rfl, rfl⟩)
      have HI1 := Lib.hid (HI.out.below HB.out)
      have HD1 := Lib.hid (HD.out.alloc (.cells #[.slice A l.length cap] 27))
      have HA1 := Lib.hid (HA.out.alloc (.cells #[.slice A l.length cap] 27))
      have HC1 := Lib.hid (HC.out.alloc (.cells #[.slice A l.length cap] 27))
      have HB1 := Lib.hid (below_al HB.out (.cells #[.slice A l.length cap] 27))
      have HM1 := Lib.hid (CB.new wr 27 #[.slice A l.length cap])
      have HI2 := Lib.hid (HI1.out.below ((Below.refl _ _).alloc (Nat.le_refl _) (.cells #[.slice A l.length cap] 27)))
      obtain ⟨w1, hw1⟩ : ∃ w1, wr.alloc (.cells #[.slice A l.length cap] 27) = w1 := ⟨_, rfl⟩
      rw [hw1] at HD1 HA1 HC1 HB1 HM1 HI2 ⊢
      have hs1 : w1.heap.size = wr.heap.size + 1 := by rw [← hw1]; simp
      clear hw1 HD HA HC HB
      obtain ⟨b1, hb1, hb2, hbA⟩ := pts_block HI.out (k := wr.heap.size) (m := w.heap.size + 2) (by omega) (by omega) (by omega)
      have HBA := Lib.hid hbA
      have hmc := HM1.out.cell 0
      simp only [List.getElem?_toArray, List.getElem?_cons_zero] at hmc
      clear hbA
      gi_wp2
      refine wpIn_rangeFunc_ownH rfl (by omega) (gf := 103) (lb := #[.pointer (some ⟨wr.heap.size, 0, none⟩)]) rfl trivial (enters_of Try.func103 (by kernel_rfl) rfl)
        (uback_stops Fence.wide 5 trivial rfl (by omega) b1 wr.heap.size A l cap HBA.out w1 hmc (by omega) HI2.out) ktwo_t (fun W x o o' hx _ _ _ => ktwo_b (n := w1.heap.size) (by omega) (by omega) W x o o' hx) (Below.refl _ _) (fun _ => rfl)
        (fun pre W => ((CB W w.heap.size 3 #[.int .i64 day] ∧ CB W (w.heap.size + 1) 36 (ptC lk)) ∧ CB W (w.heap.size + 2) 36 (ptC (foldB day pre)) ∧ CB W wr.heap.size 27 #[.slice A l.length cap]) ∧ Below w.heap.size w W)
        (fun _ _ _ => False)
        (OwnFrom.and (Go.Own.from (fun s X Y row hs hg hr => ⟨⟨cb_ownF _ _ (fun _ => #[.int .i64 day]) s X Y row hs.1.1 hg hr, cb_ownF _ _ (fun _ => ptC lk) s X Y row hs.1.2 hg hr⟩, cb_ownF _ _ (fun pre => ptC (foldB day pre)) s X Y row hs.2.1 hg hr, cb_ownF _ _ (fun _ => #[.slice A l.length cap]) s X Y row hs.2.2 hg hr⟩) _) (ownFrom_below (Nat.le_refl _) (by omega)))
        (fun _ _ _ _ _ hs _ _ => hs)
        ⟨⟨⟨HD1.out, HA1.out⟩, HC1.out, HM1.out⟩, HB1.out⟩
        (fun x a' W => ∃ Bx, wr.heap.size < Bx ∧ CB W Bx 36 (ptC x.2) ∧ a' = { tmps := #[.slice A l.length cap, .int .i64 day, undef, .pointer (some ⟨w.heap.size, 0, none⟩), .pointer (some ⟨w.heap.size + 1, 0, none⟩), .pointer (some ⟨w.heap.size + 1 + 1, 0, none⟩), undef, u7, undef, .pointer (some ⟨Bx, 0, none⟩), .slice A l.length cap, .int .i64 (l.length : Int), .int .i64 (l.length : Int), .bool false, u14, u15, u16, u17, u18, u19, u20, u21, u22, u23, u24, u25, .slice A l.length cap, .func (.func 103) #[] #[.pointer (some ⟨wr.heap.size, 0, none⟩)], .int .i64 x.1, ptA x.2, undef, undef, undef, undef, undef, undef, undef, undef, undef, undef, undef, undef, undef, undef, undef, undef, undef, undef, undef, undef, undef], defers := [] })
        (fun x a' _ X Y row hs hg hr => by obtain ⟨Bx, h1, h2, h3⟩ := hs; exact ⟨Bx, h1, cb_own Bx 36 (ptC x.2) () X Y row h2 hg (fun r e => (hr r e).2), h3⟩)
        ?assign ?body ?done ?stop
      case assign =>
        rintro lid pre x W K ⟨⟨⟨hD, hA⟩, hC, hM⟩, hB⟩ hK
        have hs := hM.lt
        gi_wp2
        exact hK _ _ ((KeepsOthers.alloc _ _).from _) (ktwo_al (by omega) (by omega) _) ⟨⟨⟨hD.alloc _, hA.alloc _⟩, hC.alloc _, hM.alloc _⟩, hB.alloc hB.size _⟩ ⟨W.heap.size, by omega, CB.new W _ _, rfl⟩
      case body =>
        rintro lid pre x a' W hlid ⟨r, hr⟩ ⟨⟨⟨hD, hA⟩, hC, hM⟩, hB⟩ ⟨Bx, hBx, hX, rfl⟩ hlt
        obtain ⟨xi, te, tp, tk⟩ := x
        have f0 := hX.cell 0
        have f1 := hX.cell 1
        have f2 := hX.cell 2
        have e0 := hD.cell 0
        have a0 := hC.cell 0
        have a1 := hC.cell 1
        have a2 := hC.cell 2
        have fC := hC.frozen
        simp only [List.getElem?_toArray, List.getElem?_cons_zero, List.getElem?_cons_succ] at f0 f1 f2 e0 a0 a1 a2
        have HS := Lib.hid (foldB_snoc day pre (xi, ⟨te, tp, tk⟩))
        have HD := Lib.hid hD; have HA := Lib.hid hA; have HC := Lib.hid hC; have HM := Lib.hid hM; have HB := Lib.hid hB
        generalize foldB day pre = fb at *
        clear hX hD hA hC hM hB hr
        cases tk
        · have HS2 : Hid (foldB day (pre ++ [(xi, ⟨te, tp, false⟩)]) = fb) := Lib.hid (by rw [HS.out]; rfl)
          gi_wp2
          exact ⟨(KeepsOthers.refl _).from _, ⟨rfl, rfl, Nat.le_refl _⟩, ⟨⟨HD.out, HA.out⟩, by rw [HS2.out]; exact HC.out, HM.out⟩, HB.out⟩
        · by_cases g2 : day ≤ te
          · have HS2 : Hid (foldB day (pre ++ [(xi, ⟨te, tp, true⟩)]) = ⟨te, tp, true⟩) := Lib.hid (by rw [HS.out]; simp [g2])
            gi_wp2
            exact ⟨(((KeepsOthers.setCell _ _ _).trans (KeepsOthers.setCell _ _ _)).trans (KeepsOthers.setCell _ _ _)).from _, ⟨putU_heap W _ _ ⟨te, tp, true⟩ (by omega), putU_heap W _ _ ⟨te, tp, true⟩ (by omega), by rw [putU_size W _ ⟨te, tp, true⟩]; exact Nat.le_refl _⟩,
              ⟨⟨putU_far HD.out (by omega) ⟨te, tp, true⟩, putU_far HA.out (by omega) ⟨te, tp, true⟩⟩, by rw [HS2.out]; exact putU_own HC.out ⟨te, tp, true⟩, putU_far HM.out (by omega) ⟨te, tp, true⟩⟩, putU_below HB.out (by omega) ⟨te, tp, true⟩⟩
          · have HS2 : Hid (foldB day (pre ++ [(xi, ⟨te, tp, true⟩)]) = fb) := Lib.hid (by rw [HS.out]; simp [g2])
            gi_wp2
            exact ⟨(KeepsOthers.refl _).from _, ⟨rfl, rfl, Nat.le_refl _⟩, ⟨⟨HD.out, HA.out⟩, by rw [HS2.out]; exact HC.out, HM.out⟩, HB.out⟩
      case done =>
        rintro D xs W hDD hS ⟨⟨⟨hD, hA⟩, hC, hM⟩, hB⟩ hK
        rw [KB.out xs hS] at hC
        obtain ⟨le, lp, lkn⟩ := lk
        obtain ⟨he, hp, hkn⟩ := hk
        have a0 := hA.cell 0
        have a1 := hA.cell 1
        have a2 := hA.cell 2
        have fA := hA.frozen
        have c0 := hC.cell 0
        have c1 := hC.cell 1
        have c2 := hC.cell 2
        have fC := hC.frozen
        simp only [List.getElem?_toArray, List.getElem?_cons_zero, List.getElem?_cons_succ] at a0 a1 a2 c0 c1 c2
        cases lkn
        · gi_wp2
          gi_region
          gi_wp2
          have hKx : (putU (putU W (w.heap.size + 1) (⟨he, hp, hkn⟩ : UM.Pt)) (w.heap.size + 2) (⟨he, hp, hkn⟩ : UM.Pt)).drew.heap[D]? = some (.deferred (some [])) := heap_drew (put2_K hK)
          have hBx : Below w.heap.size w (putU (putU W (w.heap.size + 1) (⟨he, hp, hkn⟩ : UM.Pt)) (w.heap.size + 2) (⟨he, hp, hkn⟩ : UM.Pt)).drew := (putU_below (putU_below hB (by omega) (⟨he, hp, hkn⟩ : UM.Pt)) (by omega) (⟨he, hp, hkn⟩ : UM.Pt)).drew
          have hAx : CB (putU (putU W (w.heap.size + 1) (⟨he, hp, hkn⟩ : UM.Pt)) (w.heap.size + 2) (⟨he, hp, hkn⟩ : UM.Pt)).drew (w.heap.size + 1) 36 (ptC (⟨he, hp, hkn⟩ : UM.Pt)) := cb_drew (put2_A hA (by omega))
          have hCx : CB (putU (putU W (w.heap.size + 1) (⟨he, hp, hkn⟩ : UM.Pt)) (w.heap.size + 2) (⟨he, hp, hkn⟩ : UM.Pt)).drew (w.heap.size + 2) 36 (ptC (⟨he, hp, hkn⟩ : UM.Pt)) := cb_drew (put2_C hC (by omega))
          have e1 : ra = (⟨he, hp, hkn⟩ : UM.Pt) := by rw [EA.out]; rfl
          have e2 : rb = (⟨he, hp, hkn⟩ : UM.Pt) := by rw [EB.out]; simp
          refine ⟨by simp, .inl ⟨_, _, rfl, run_takeDeferred hKx, ?_⟩⟩
          exact ⟨_, results_ptpt rfl _ _ (w.heap.size + 1) (w.heap.size + 2) (⟨he, hp, hkn⟩ : UM.Pt) (⟨he, hp, hkn⟩ : UM.Pt) rfl rfl (cb_put hAx hKx) (cb_put hCx hKx), by rw [e1, e2], hBx.trans (belowK_b (w := w) (Nat.le_refl _) _ D _ _ (by omega) hKx rfl rfl)⟩
        cases hkn
        · gi_wp2
          have hKx : (putU (putU W (w.heap.size + 1) (⟨le, lp, true⟩ : UM.Pt)) (w.heap.size + 2) (⟨le, lp, true⟩ : UM.Pt)).heap[D]? = some (.deferred (some [])) := put2_K hK
          have hBx : Below w.heap.size w (putU (putU W (w.heap.size + 1) (⟨le, lp, true⟩ : UM.Pt)) (w.heap.size + 2) (⟨le, lp, true⟩ : UM.Pt)) := (putU_below (putU_below hB (by omega) (⟨le, lp, true⟩ : UM.Pt)) (by omega) (⟨le, lp, true⟩ : UM.Pt))
          have hAx : CB (putU (putU W (w.heap.size + 1) (⟨le, lp, true⟩ : UM.Pt)) (w.heap.size + 2) (⟨le, lp, true⟩ : UM.Pt)) (w.heap.size + 1) 36 (ptC (⟨le, lp, true⟩ : UM.Pt)) := put2_A hA (by omega)
          have hCx : CB (putU (putU W (w.heap.size + 1) (⟨le, lp, true⟩ : UM.Pt)) (w.heap.size + 2) (⟨le, lp, true⟩ : UM.Pt)) (w.heap.size + 2) 36 (ptC (⟨le, lp, true⟩ : UM.Pt)) := put2_C hC (by omega)
          have e1 : ra = (⟨le, lp, true⟩ : UM.Pt) := by rw [EA.out]; rfl
          have e2 : rb = (⟨le, lp, true⟩ : UM.Pt) := by rw [EB.out]; rfl
          refine ⟨by simp, .inl ⟨_, _, rfl, run_takeDeferred hKx, ?_⟩⟩
          exact ⟨_, results_ptpt rfl _ _ (w.heap.size + 1) (w.heap.size + 2) (⟨le, lp, true⟩ : UM.Pt) (⟨le, lp, true⟩ : UM.Pt) rfl rfl (cb_put hAx hKx) (cb_put hCx hKx), by rw [e1, e2], hBx.trans (belowK_b (w := w) (Nat.le_refl _) _ D _ _ (by omega) hKx rfl rfl)⟩
        · gi_wp2
          gi_region
          gi_wp2
          have hKx : (putU (putU W (w.heap.size + 1) (⟨le, lp, true⟩ : UM.Pt)) (w.heap.size + 2) (⟨he, hp, true⟩ : UM.Pt)).drew.heap[D]? = some (.deferred (some [])) := heap_drew (put2_K hK)
          have hBx : Below w.heap.size w (putU (putU W (w.heap.size + 1) (⟨le, lp, true⟩ : UM.Pt)) (w.heap.size + 2) (⟨he, hp, true⟩ : UM.Pt)).drew := (putU_below (putU_below hB (by omega) (⟨le, lp, true⟩ : UM.Pt)) (by omega) (⟨he, hp, true⟩ : UM.Pt)).drew
          have hAx : CB (putU (putU W (w.heap.size + 1) (⟨le, lp, true⟩ : UM.Pt)) (w.heap.size + 2) (⟨he, hp, true⟩ : UM.Pt)).drew (w.heap.size + 1) 36 (ptC (⟨le, lp, true⟩ : UM.Pt)) := cb_drew (put2_A hA (by omega))
          have hCx : CB (putU (putU W (w.heap.size + 1) (⟨le, lp, true⟩ : UM.Pt)) (w.heap.size + 2) (⟨he, hp, true⟩ : UM.Pt)).drew (w.heap.size + 2) 36 (ptC (⟨he, hp, true⟩ : UM.Pt)) := cb_drew (put2_C hC (by omega))
          have e1 : ra = (⟨le, lp, true⟩ : UM.Pt) := by rw [EA.out]; rfl
          have e2 : rb = (⟨he, hp, true⟩ : UM.Pt) := by rw [EB.out]; simp
          refine ⟨by simp, .inl ⟨_, _, rfl, run_takeDeferred hKx, ?_⟩⟩
          exact ⟨_, results_ptpt rfl _ _ (w.heap.size + 1) (w.heap.size + 2) (⟨le, lp, true⟩ : UM.Pt) (⟨he, hp, true⟩ : UM.Pt) rfl rfl (cb_put hAx hKx) (cb_put hCx hKx), by rw [e1, e2], hBx.trans (belowK_b (w := w) (Nat.le_refl _) _ D _ _ (by omega) hKx rfl rfl)⟩
      case stop =>
        rintro D c pre W hDD _ h _
        exact h.elim
end Go.Proofs.Ytagmknahmkniaac

/- Contracts of layer 19: between. -/
namespace Go.Proofs.Ytagmknahmkniaac
open Go.RowKit Go.Recs
set_option linter.unusedVariables false
set_option linter.unusedSimpArgs false
set_option maxHeartbeats 4000000 in
theorem utween_any (a b : UM.Pt) (day tick : Int) (h : UM.Pair a b day tick) (w : World) :
    Calls Try.prog 61 #[ptA a, ptA b, .int .i64 day, .int .i64 tick] w fun e w' => e = .returned (.tuple #[.int .i64 (UM.tweenN a b day tick), .int .i64 0]) ∧ Below w.heap.size w w' := by
  obtain ⟨x, y, c⟩ := h.lined
  obtain ⟨e, k, n⟩ := h.bounds
  obtain ⟨da, db, lt, pa, pb, tk⟩ := h
  have C1 := fun ww => muldiv_any (a.price * (b.exp - a.exp) + (b.price - a.price) * (day - a.exp)) 1 ((b.exp - a.exp) * tick) 5 ww
  have eK : CM.mdN (a.price * (b.exp - a.exp) + (b.price - a.price) * (day - a.exp)) 1 ((b.exp - a.exp) * tick) 5 = UM.tweenK a b day tick := rfl
  have eE : CM.mdE (a.price * (b.exp - a.exp) + (b.price - a.price) * (day - a.exp)) 1 ((b.exp - a.exp) * tick) 5 = 0 := e
  rw [eK, eE] at C1
  have C1 := Lib.hid C1
  have eN : UM.tweenN a b day tick = UM.tweenK a b day tick * tick := rfl
  rw [eN] at n ⊢
  have HB := Lib.hid (below_al (below_al (Below.refl w.heap.size w) (.cells (ptC a) 36)) (.cells (ptC b) 36))
  have HA := (CB.new w 36 (ptC a)).alloc (.cells (ptC b) 36)
  have HC := CB.new1 w (.cells (ptC a) 36) 36 (ptC b)
  have f0 := HA.cell 0
  have f1 := HA.cell 1
  have g0 := HC.cell 0
  have g1 := HC.cell 1
  simp only [List.getElem?_toArray, List.getElem?_cons_zero, List.getElem?_cons_succ] at f0 f1 g0 g1
  clear HA HC eK eE e eN
  generalize UM.tweenK a b day tick = z at *
  go_enter Try.func61, Try.ntmps61
  go_wp2_with fail
  refine (C1.out _).mono ?_
  rintro e w1 ⟨rfl, b1⟩
  have HB1 := Lib.hid (HB.out.trans (b1.mono HB.out.size))
  clear b1
  go_wp2_with fail
  go_ret2
  exact ⟨rfl, HB1.out⟩
end Go.Proofs.Ytagmknahmkniaac

/- Contracts of layer 19: checkTick, priceOf, At. -/
namespace Go.Proofs.Ytagmknahmkniaac
open Go.RowKit Go.Recs
set_option linter.unusedVariables false
set_option linter.unusedSimpArgs false
set_option maxHeartbeats 4000000 in
theorem uchecktick_any (A : Option Addr) (l : List UM.Pt) (n cap : Nat) (hn : n = l.length) (tick : Int) (w : World) (hI : Pts w A l) :
    Calls Try.prog 20 #[.slice A n cap, .int .i64 tick] w fun e w' => e = .returned (.int .i64 (UM.tickE l tick)) ∧ Below w.heap.size w w' := by
  subst hn
  have C1 := Lib.hid (ucheck_any A l l.length cap rfl w hI)
  have C2 := Lib.hid (fun ww => uwithin_any tick 1 16777216 ww)
  by_cases h : UM.checkE l = 0
  · rw [h] at C1
    cases g : QM.within tick 1 16777216
    · have e : UM.tickE l tick = 16 := by unfold UM.tickE; rw [if_neg (by simp [h]), if_pos g]
      rw [g] at C2
      rw [e]; clear h e g hI
      go_enter Try.func20, Try.ntmps20
      go_wp2_with fail
      refine C1.out.mono ?_
      rintro e w1 ⟨rfl, b1⟩
      have HB := Lib.hid b1
      clear b1 C1
      go_wp2_with fail
      refine (C2.out _).mono ?_
      rintro e w2 ⟨rfl, rfl⟩
      go_wp2_with fail
      go_ret
      exact ⟨rfl, HB.out⟩
    · have e : UM.tickE l tick = 0 := by unfold UM.tickE; rw [if_neg (by simp [h]), if_neg (by simp [g])]
      rw [g] at C2
      rw [e]; clear h e g hI
      go_enter Try.func20, Try.ntmps20
      go_wp2_with fail
      refine C1.out.mono ?_
      rintro e w1 ⟨rfl, b1⟩
      have HB := Lib.hid b1
      clear b1 C1
      go_wp2_with fail
      refine (C2.out _).mono ?_
      rintro e w2 ⟨rfl, rfl⟩
      go_wp2_with fail
      go_ret
      exact ⟨rfl, HB.out⟩
  · have e : UM.tickE l tick = UM.checkE l := by unfold UM.tickE; rw [if_pos h]
    have hd : (UM.checkE l != 0) = true := by simpa using h
    rw [e]
    generalize UM.checkE l = y at *
    clear e h hI
    go_enter Try.func20, Try.ntmps20
    go_wp2_with fail
    refine C1.out.mono ?_
    rintro e w1 ⟨rfl, b1⟩
    have HB := Lib.hid b1
    clear b1 C1
    go_wp2_with fail
    go_ret
    exact ⟨rfl, HB.out⟩
set_option maxHeartbeats 4000000 in
theorem upriceof_any (A : Option Addr) (l : List UM.Pt) (n cap : Nat) (hn : n = l.length) (day tick : Int) (g : UM.Good l) (hd : 0 ≤ day ∧ day ≤ 73048) (ht : 1 ≤ tick ∧ tick ≤ 16777216) (w : World) (hI : Pts w A l) :
    Calls Try.prog 22 #[.slice A n cap, .int .i64 day, .int .i64 tick] w fun e w' => e = .returned (.tuple #[.int .i64 (UM.priceN l day tick), .int .i64 0]) ∧ Below w.heap.size w w' := by
  subst hn
  have gl := pt_guard
  obtain ⟨-, hc⟩ := UM.ar_cases g (tick := tick) hd ht
  have C1 := Lib.hid (uaround_any A l l.length cap rfl day w hI)
  rcases hc with e | ⟨e, hp⟩
  · rw [UM.price_same tick e]
    rw [← e] at C1
    have E1 : ∀ ww, (Op.equalIn 10000 36 (ptA (UM.arA l day)) (ptA (UM.arA l day))).run Try.prog ww = .ok true ww := fun ww => by rw [pt_in, pteq_is, decide_eq_true rfl]
    generalize UM.arA l day = a at *
    clear e hI g hd ht
    go_enter Try.func22, Try.ntmps22
    go_wp2_with fail
    refine C1.out.mono ?_
    rintro e w1 ⟨rfl, b1⟩
    have HB := Lib.hid (below_al (below_al b1 (.cells (ptC a) 36)) (.cells (ptC a) 36))
    have hA := (CB.new w1 36 (ptC a)).alloc (.cells (ptC a) 36)
    have hC := CB.new1 w1 (.cells (ptC a) 36) 36 (ptC a)
    have a0 := hA.cell 0
    have a1 := hA.cell 1
    have a2 := hA.cell 2
    have c0 := hC.cell 0
    have c1 := hC.cell 1
    have c2 := hC.cell 2
    simp only [List.getElem?_toArray, List.getElem?_cons_zero, List.getElem?_cons_succ] at a0 a1 a2 c0 c1 c2
    clear b1 hA hC C1
    go_wp2_with fail
    go_ret2
    exact ⟨rfl, HB.out⟩
  · rw [UM.price_tween tick e]
    have C2 := Lib.hid (fun ww => utween_any _ _ day tick hp ww)
    have E1 : ∀ ww, (Op.equalIn 10000 36 (ptA (UM.arA l day)) (ptA (UM.arB l day))).run Try.prog ww = .ok false ww := fun ww => by rw [pt_in, pteq_is, decide_eq_false e]
    generalize UM.tweenN (UM.arA l day) (UM.arB l day) day tick = z at *
    generalize UM.arA l day = a at *
    generalize UM.arB l day = b at *
    clear e hI g hd ht hp
    go_enter Try.func22, Try.ntmps22
    go_wp2_with fail
    refine C1.out.mono ?_
    rintro e w1 ⟨rfl, b1⟩
    have HB := Lib.hid (below_al (below_al b1 (.cells (ptC a) 36)) (.cells (ptC b) 36))
    have hA := (CB.new w1 36 (ptC a)).alloc (.cells (ptC b) 36)
    have hC := CB.new1 w1 (.cells (ptC a) 36) 36 (ptC b)
    have a0 := hA.cell 0
    have a1 := hA.cell 1
    have a2 := hA.cell 2
    have c0 := hC.cell 0
    have c1 := hC.cell 1
    have c2 := hC.cell 2
    simp only [List.getElem?_toArray, List.getElem?_cons_zero, List.getElem?_cons_succ] at a0 a1 a2 c0 c1 c2
    clear b1 hA hC C1
    go_wp2_with fail
    refine (C2.out _).mono ?_
    rintro e w2 ⟨rfl, b2⟩
    have HB2 := Lib.hid (HB.out.trans (b2.mono HB.out.size))
    clear b2
    go_wp2_with fail
    go_ret2
    exact ⟨rfl, HB2.out⟩
set_option maxHeartbeats 4000000 in
theorem uat_any (A : Option Addr) (l : List UM.Pt) (n cap : Nat) (hn : n = l.length) (day tick : Int) (w : World) (hI : Pts w A l) :
    Calls Try.prog 8 #[.slice A n cap, .int .i64 day, .int .i64 tick] w fun e w' => e = .returned (.tuple #[.int .i64 (UM.atN l day tick), .int .i64 (UM.atE l day tick)]) ∧ Below w.heap.size w w' := by
  subst hn
  have C1 := Lib.hid (uchecktick_any A l l.length cap rfl tick w hI)
  have C2 := Lib.hid (fun ww => uwithin_any day 0 73048 ww)
  by_cases h : UM.tickE l tick = 0
  · obtain ⟨g, ht⟩ := UM.tick_zero h
    rw [h] at C1
    cases gd : QM.within day 0 73048
    · have e : UM.atE l day tick = 15 := by unfold UM.atE; rw [if_neg (by simp [h]), if_pos gd]
      have e2 : UM.atN l day tick = 0 := by unfold UM.atN; rw [if_neg (by rw [e]; decide)]
      rw [gd] at C2
      rw [e, e2]; clear h e e2 g gd ht hI
      go_enter Try.func8, Try.ntmps8
      go_wp2_with fail
      refine C1.out.mono ?_
      rintro e w1 ⟨rfl, b1⟩
      have HB := Lib.hid b1
      clear b1 C1
      go_wp2_with fail
      refine (C2.out _).mono ?_
      rintro e w2 ⟨rfl, rfl⟩
      go_wp2_with fail
      go_ret2
      exact ⟨rfl, HB.out⟩
    · have hd := QM.within_true.1 gd
      obtain ⟨e, e2⟩ := UM.at_ok g ht hd
      have C3 := Lib.hid (fun ww h => upriceof_any A l l.length cap rfl day tick g hd ht ww h)
      rw [gd] at C2
      have HI := Lib.hid hI
      rw [e, e2]
      generalize UM.priceN l day tick = z at *
      clear h e e2 g gd hd ht hI
      go_enter Try.func8, Try.ntmps8
      go_wp2_with fail
      refine C1.out.mono ?_
      rintro e w1 ⟨rfl, b1⟩
      have HB := Lib.hid b1
      have HI1 := Lib.hid (HI.out.below b1)
      clear b1 C1
      go_wp2_with fail
      refine (C2.out _).mono ?_
      rintro e w2 ⟨rfl, rfl⟩
      go_wp2_with fail
      refine (C3.out _ HI1.out).mono ?_
      rintro e w2 ⟨rfl, b2⟩
      have HB2 := Lib.hid (HB.out.trans (b2.mono HB.out.size))
      clear b2
      go_wp2_with fail
      go_ret2
      exact ⟨rfl, HB2.out⟩
  · have e : UM.atE l day tick = UM.tickE l tick := by unfold UM.atE; rw [if_pos h]
    have e2 : UM.atN l day tick = 0 := by unfold UM.atN; rw [if_neg (by rw [e]; exact h)]
    have hd : (UM.tickE l tick != 0) = true := by simpa using h
    rw [e, e2]
    generalize UM.tickE l tick = y at *
    clear e e2 h hI
    go_enter Try.func8, Try.ntmps8
    go_wp2_with fail
    refine C1.out.mono ?_
    rintro e w1 ⟨rfl, b1⟩
    have HB := Lib.hid b1
    clear b1 C1
    go_wp2_with fail
    go_ret2
    exact ⟨rfl, HB.out⟩
end Go.Proofs.Ytagmknahmkniaac

/- Contracts of layer 18: the rules of a quote. -/
namespace Go.Proofs.Ytagmknahmkniaac
open Go.RowKit Go.Recs
set_option linter.unusedVariables false
set_option linter.unusedSimpArgs false
/-- what the rules captured: the product, the quote, the window, the last tick, whether there is one -/
structure RBox (w : World) (p : QM.Prod) (A : Option Addr) (cap : Nat) (q : MK.Quote) (gp gq gw gl gt : Nat) : Prop where
  hp : PBox w gp p
  hq : CB w gq 26 (qC A cap q)
  hw : ∃ B k, CB w gw 24 #[.slice B (MK.winQ q).length k] ∧ Ticks w B (MK.winQ q)
  hl : CB w gl 102 (tickC (TP.lastT q.ticks))
  ht : CB w gt 4 #[.bool (decide (0 < q.ticks.length))]
theorem RBox.below {w w' : World} {p : QM.Prod} {A : Option Addr} {cap : Nat} {q : MK.Quote} {gp gq gw gl gt : Nat} (h : RBox w p A cap q gp gq gw gl gt) (hb : Below w.heap.size w w') : RBox w' p A cap q gp gq gw gl gt := by
  obtain ⟨B, k, h1, h2⟩ := h.hw
  exact ⟨h.hp.below hb h.hp.lt, h.hq.below hb h.hq.lt, ⟨B, k, h1.below hb h1.lt, h2.below hb⟩, h.hl.below hb h.hl.lt, h.ht.below hb h.ht.lt⟩
section
variable {p : QM.Prod} {A : Option Addr} {cap : Nat} {q : MK.Quote} {gp gq gw gl gt : Nat} {w : World}
theorem rule1a_any (h : RBox w p A cap q gp gq gw gl gt) (hk : MK.Ok p q) :
    Calls Try.prog 44 #[.pointer (some ⟨gw, 0, none⟩), .pointer (some ⟨gq, 0, none⟩)] w fun e w' => e = .returned (.bool (decide (q.least ≤ TP.volN (MK.winQ q)))) ∧ Below w.heap.size w w' := by
  obtain ⟨B, k, h1, h2⟩ := h.hw
  have C := Lib.hid (haslots_any B (MK.winQ q) _ k q.least rfl w h2 (MK.win_ok hk))
  obtain ⟨c0, c1, c2, c3, c4, c5, c6, c7⟩ := quote_cells h.hq
  have k0 := h1.cell 0
  simp only [List.getElem?_toArray, List.getElem?_cons_zero] at k0
  generalize decide (q.least ≤ TP.volN (MK.winQ q)) = x at *
  generalize (MK.winQ q).length = n at *
  clear h h1 h2 hk
  go_enter Try.func44, Try.ntmps44
  go_wp2_with fail
  refine C.out.mono ?_
  rintro e w1 ⟨rfl, b1⟩
  have HB1 := Lib.hid b1
  clear b1
  go_wp2_with fail
  go_ret
  exact ⟨rfl, HB1.out⟩
theorem rule1b_any (h : RBox w p A cap q gp gq gw gl gt) (hk : MK.Ok p q) (hr : q.least ≤ TP.volN (MK.winQ q)) :
    Calls Try.prog 46 #[.pointer (some ⟨gw, 0, none⟩), .pointer (some ⟨gp, 0, none⟩)] w fun e w' => e = .returned (.tuple #[.int .i64 (MK.rawN p q), .int .i64 0]) ∧ Below w.heap.size w w' := by
  obtain ⟨B, k, h1, h2⟩ := h.hw
  have C := Lib.hid (vwap_any B (MK.winQ q) _ k p.tick 5 rfl w h2)
  rw [(MK.win_vw hk hr).1] at C
  have e : MK.rawN p q = TP.vwN (MK.winQ q) p.tick 5 := by unfold MK.rawN; rw [if_pos hr]
  rw [e]
  obtain ⟨c0, c1, c2, c3, c4, c5, c6⟩ := h.hp.cells
  have k0 := h1.cell 0
  simp only [List.getElem?_toArray, List.getElem?_cons_zero] at k0
  generalize TP.vwN (MK.winQ q) p.tick 5 = x at *
  generalize (MK.winQ q).length = n at *
  clear h h1 h2 hk hr e
  go_enter Try.func46, Try.ntmps46
  go_wp2_with fail
  refine C.out.mono ?_
  rintro e w1 ⟨rfl, b1⟩
  have HB1 := Lib.hid b1
  clear b1
  go_wp2_with fail
  go_ret2
  exact ⟨rfl, HB1.out⟩
theorem rule2a_any (h : RBox w p A cap q gp gq gw gl gt) :
    Calls Try.prog 48 #[.pointer (some ⟨gq, 0, none⟩)] w fun e w' => e = .returned (.bool (MK.both q)) ∧ Below w.heap.size w w' := by
  have C := Lib.hid (hasboth_any A cap q w)
  obtain ⟨c0, c1, c2, c3, c4, c5, c6, c7⟩ := quote_cells h.hq
  generalize MK.both q = x at *
  clear h
  go_enter Try.func48, Try.ntmps48
  go_wp2_with fail
  refine C.out.mono ?_
  rintro e w1 ⟨rfl, b1⟩
  have HB1 := Lib.hid b1
  clear b1
  go_wp2_with fail
  go_ret
  exact ⟨rfl, HB1.out⟩
theorem rule2b_any (h : RBox w p A cap q gp gq gw gl gt) (hk : MK.Ok p q) (hr : ¬ q.least ≤ TP.volN (MK.winQ q)) (hb : MK.both q = true) :
    Calls Try.prog 49 #[.pointer (some ⟨gq, 0, none⟩), .pointer (some ⟨gp, 0, none⟩)] w fun e w' => e = .returned (.tuple #[.int .i64 (MK.rawN p q), .int .i64 0]) ∧ Below w.heap.size w w' := by
  have C := Lib.hid (mid_any q.bid q.ask p.tick w)
  rw [MK.mid_fine hk hb] at C
  have e : MK.rawN p q = MK.midN q.bid q.ask p.tick := by unfold MK.rawN; rw [if_neg hr, if_pos hb]
  rw [e]
  obtain ⟨c0, c1, c2, c3, c4, c5, c6⟩ := h.hp.cells
  obtain ⟨d0, d1, d2, d3, d4, d5, d6, d7⟩ := quote_cells h.hq
  generalize MK.midN q.bid q.ask p.tick = x at *
  clear h hk hr e hb
  go_enter Try.func49, Try.ntmps49
  go_wp2_with fail
  refine C.out.mono ?_
  rintro e w1 ⟨rfl, b1⟩
  have HB1 := Lib.hid b1
  clear b1
  go_wp2_with fail
  go_ret2
  exact ⟨rfl, HB1.out⟩
theorem rule3a_any (h : RBox w p A cap q gp gq gw gl gt) :
    Calls Try.prog 51 #[.pointer (some ⟨gt, 0, none⟩)] w fun e w' => e = .returned (.bool (decide (0 < q.ticks.length))) ∧ Below w.heap.size w w' := by
  have k0 := h.ht.cell 0
  simp only [List.getElem?_toArray, List.getElem?_cons_zero] at k0
  generalize decide (0 < q.ticks.length) = x at *
  clear h
  go_enter Try.func51, Try.ntmps51
  go_wp2_with fail
  go_ret
  exact ⟨rfl, Below.refl _ _⟩
theorem rule3b_any (h : RBox w p A cap q gp gq gw gl gt) (hr : ¬ q.least ≤ TP.volN (MK.winQ q)) (hb : ¬ MK.both q = true) (h0 : 0 < q.ticks.length) :
    Calls Try.prog 52 #[.pointer (some ⟨gl, 0, none⟩), .pointer (some ⟨gq, 0, none⟩)] w fun e w' => e = .returned (.tuple #[.int .i64 (MK.rawN p q), .int .i64 0]) ∧ Below w.heap.size w w' := by
  have e : MK.rawN p q = MK.held (TP.lastT q.ticks).price q := by unfold MK.rawN; rw [if_neg hr, if_neg hb, if_pos h0]
  rw [e]
  have hl := h.hl
  generalize TP.lastT q.ticks = t at *
  have C := Lib.hid (held_any t.price A cap q w)
  obtain ⟨d0, d1, d2, d3, d4, d5, d6, d7⟩ := quote_cells h.hq
  have k0 := hl.cell 0
  have k1 := hl.cell 1
  have k2 := hl.cell 2
  simp only [List.getElem?_toArray, List.getElem?_cons_zero, List.getElem?_cons_succ] at k0 k1 k2
  generalize MK.held t.price q = x at *
  clear h hl hr e hb h0
  go_enter Try.func52, Try.ntmps52
  go_wp2_with fail
  refine C.out.mono ?_
  rintro e w1 ⟨rfl, b1⟩
  have HB1 := Lib.hid b1
  clear b1
  go_wp2_with fail
  go_ret2
  exact ⟨rfl, HB1.out⟩
theorem rule4a_any : Calls Try.prog 54 #[] w fun e w' => e = .returned (.bool true) ∧ Below w.heap.size w w' := by
  go_enter Try.func54, Try.ntmps54
  go_wp2_with fail
  go_ret
  exact ⟨rfl, Below.refl _ _⟩
set_option maxHeartbeats 4000000 in
theorem rule4b_any (h : RBox w p A cap q gp gq gw gl gt) (hpq : prodQ p) (hk : MK.Ok p q) (hr : ¬ q.least ≤ TP.volN (MK.winQ q)) (hb : ¬ MK.both q = true) (h0 : ¬ 0 < q.ticks.length) :
    Calls Try.prog 55 #[.pointer (some ⟨gp, 0, none⟩), .pointer (some ⟨gq, 0, none⟩)] w fun e w' => e = .returned (.tuple #[.int .i64 (MK.rawN p q), .int .i64 0]) ∧ Below w.heap.size w w' := by
  have e : MK.rawN p q = QM.roundN p (MK.moved q) 5 := by unfold MK.rawN; rw [if_neg hr, if_neg hb, if_neg h0]
  rw [e]
  have C1 := Lib.hid (fun ww => moved_any A cap q (MK.price_in hk.before) hk.move ww)
  have C2 := Lib.hid (fun ww => qround_any p (MK.moved q) 5 hpq ww)
  rw [MK.round_fine hk] at C2
  have HP : Hid (∀ ww, Below w.heap.size w ww → (ww.cell? ⟨gp, 0, none⟩ = some (.string p.name) ∧ ww.cell? ⟨gp, 1, none⟩ = some (.int .i64 p.cur) ∧ ww.cell? ⟨gp, 2, none⟩ = some (.int .i64 p.mult) ∧ ww.cell? ⟨gp, 3, none⟩ = some (.int .i64 p.tick) ∧ ww.cell? ⟨gp, 4, none⟩ = some (.int .i64 p.low) ∧
      ww.cell? ⟨gp, 5, none⟩ = some (.int .i64 p.high) ∧ ww.cell? ⟨gp, 6, none⟩ = some (.bool p.phys)) ∧ (ww.cell? ⟨gq, 0, none⟩ = some (.slice A q.ticks.length cap) ∧ ww.cell? ⟨gq, 1, none⟩ = some (.int .i64 q.from_) ∧ ww.cell? ⟨gq, 2, none⟩ = some (.int .i64 q.to_) ∧ ww.cell? ⟨gq, 3, none⟩ = some (.int .i64 q.least) ∧
      ww.cell? ⟨gq, 4, none⟩ = some (.int .i64 q.bid) ∧ ww.cell? ⟨gq, 5, none⟩ = some (.int .i64 q.ask) ∧ ww.cell? ⟨gq, 6, none⟩ = some (.int .i64 q.before) ∧ ww.cell? ⟨gq, 7, none⟩ = some (.int .i64 q.move))) :=
    Lib.hid (fun ww hb => ⟨(h.hp.below hb h.hp.lt).cells, quote_cells (h.hq.below hb h.hq.lt)⟩)
  have HBw : Hid (Below w.heap.size w w.drew) := Lib.hid (Below.refl _ _).drew
  generalize QM.roundN p (MK.moved q) 5 = x at *
  generalize MK.moved q = y at *
  clear h hk hr hb h0 e hpq
  go_enter Try.func55, Try.ntmps55
  go_wp2_with fail
  go_region_held3 (fun ww => (ww.cell? ⟨gp, 0, none⟩ = some (.string p.name) ∧ ww.cell? ⟨gp, 1, none⟩ = some (.int .i64 p.cur) ∧ ww.cell? ⟨gp, 2, none⟩ = some (.int .i64 p.mult) ∧ ww.cell? ⟨gp, 3, none⟩ = some (.int .i64 p.tick) ∧ ww.cell? ⟨gp, 4, none⟩ = some (.int .i64 p.low) ∧
      ww.cell? ⟨gp, 5, none⟩ = some (.int .i64 p.high) ∧ ww.cell? ⟨gp, 6, none⟩ = some (.bool p.phys)) ∧ (ww.cell? ⟨gq, 0, none⟩ = some (.slice A q.ticks.length cap) ∧ ww.cell? ⟨gq, 1, none⟩ = some (.int .i64 q.from_) ∧ ww.cell? ⟨gq, 2, none⟩ = some (.int .i64 q.to_) ∧ ww.cell? ⟨gq, 3, none⟩ = some (.int .i64 q.least) ∧
      ww.cell? ⟨gq, 4, none⟩ = some (.int .i64 q.bid) ∧ ww.cell? ⟨gq, 5, none⟩ = some (.int .i64 q.ask) ∧ ww.cell? ⟨gq, 6, none⟩ = some (.int .i64 q.before) ∧ ww.cell? ⟨gq, 7, none⟩ = some (.int .i64 q.move)))
    (exact HP.out _ HBw.out)
    (first
      | (go_at_call 57; refine (C1.out _).mono ?_; rintro e w6 ⟨rfl, b6⟩; replace HBw := Lib.hid (HBw.out.trans (b6.mono HBw.out.size)); clear b6)
      | (go_at_call 56; refine (C2.out _).mono ?_; rintro e w6 ⟨rfl, b6⟩; replace HBw := Lib.hid (HBw.out.trans (b6.mono HBw.out.size)); clear b6))
  all_goals (
    have HBF := Lib.hid HBw.out
    clear HP HBw C1 C2
    go_wp2_with fail
    go_ret2
    exact ⟨rfl, HBF.out⟩)
end
end Go.Proofs.Ytagmknahmkniaac
