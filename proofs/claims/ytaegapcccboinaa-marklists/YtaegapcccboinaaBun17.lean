/- Put together: MrkR, MarkMath3, MarkMath4, MrkS, WMarkLists, SizedRec, OpenArr, OpenProd. -/
import Derived.Test.YtaegapcccboinaaBun16
import Derived.Test.YtaegapcccboinaaBun14
import Derived.Deep.RegionHeld3
import Derived.Test.YtaegapcccboinaaBun1
import Derived.SizedLaws
import Derived.ProofKit
import Derived.Test.YtaegapcccboinaaBun3
import Derived.OpenShut
import Derived.ShutString
import Derived.ChangeOld
import Derived.Laws.IdiomArrays
import Derived.Lib.SmallJoins
/- Contracts of layer 18's reference: CheckAll. -/
namespace Go.Proofs.Ytaegapcccboinaa
open Go.RowKit Go.Recs
set_option linter.unusedVariables false
set_option linter.unusedSimpArgs false
set_option maxHeartbeats 8000000 in
set_option maxRecDepth 100000 in
theorem rcheckall18_any (A : Option Addr) (l : List MR.Mk) (n cap : Nat) (hn : n = l.length) (w : World) (hI : Marks w A l) :
    Calls Try.prog 33 #[.slice A n cap] w fun e w' => e = .returned (.int .i64 (MR.checkE l)) ∧ Below w.heap.size w w' := by
  subst hn
  have hlen := hI.len
  have HI := Lib.hid hI
  have KL := Lib.hid (@MR.check_long l); have KO := Lib.hid (@MR.check_ok l); have KA := Lib.hid (fun h k => @MR.check_at l h k)
  have C1 := Lib.hid (fun a b ww => rcmpm_any a b ww); have C2 := Lib.hid (fun a ww => rwithin18p_any a ww)
  generalize MR.checkE l = r at *
  clear hI
  by_cases hl : 128 < l.length
  · have HR := Lib.hid (KL.out hl)
    have hl' : (128 : Int) < (l.length : Int) := by omega
    clear hl
    go_enter Try.func33, Try.ntmps33
    go_wp2_with fail
    go_ret
    exact ⟨by rw [HR.out] <;> rfl, Below.refl _ _⟩
  have HL := Lib.hid hl
  have hl' : ¬ (128 : Int) < (l.length : Int) := by omega
  have hl2 : l.length ≤ 128 := by omega
  clear hl
  go_enter Try.func33, Try.ntmps33
  go_wp2_with fail
  go_loopw [3] (fun i wr => ∃ k : Nat, k ≤ l.length ∧ i = .int .i64 (k : Int) ∧ Hid (∀ j, j < k → MR.eAt l j = 0) ∧ Hid (Below w.heap.size w wr)) (fun i _ => l.length - (intOf i).toNat)
  case atStart => exact ⟨0, by omega, rfl, Lib.hid (fun j h => by omega), Lib.hid (Below.refl _ _)⟩
  case round =>
    obtain ⟨k, hk, rfl, HE, HB⟩ := hrel
    by_cases hlt : k < l.length
    · obtain ⟨b, off, x, rfl, hb, HV, q, d0, d1, d2, d3, d4⟩ := marks_get (HI.out.below HB.out) hlt
      have C3 := Lib.hid (fun ww => C2.out x.price ww)
      clear q
      rcases Nat.eq_zero_or_pos k with h0 | h0
      · have hk1 : decide (0 < k) = false := by simp [h0]
        have hk2 : ¬ (0 : Int) < (k : Int) := by omega
        have HEL : Hid (MR.eAt l k = if MK.isP x.price = true then 0 else 17) := Lib.hid (by rw [mAt_ok (fun h => by omega), HV.out])
        clear h0
        generalize MK.isP x.price = bl at *
        cases bl
        · have HR := Lib.hid (KA.out HL.out k hlt HE.out (by rw [HEL.out]; simp))
          have HR2 : Hid (r = 17) := Lib.hid (by rw [HR.out, HEL.out]; rfl)
          go_wp2_with fail
          go_quiet (fail)
          go_wp2_with fail
          refine (C3.out _).mono ?_
          rintro e w2 ⟨rfl, rfl⟩
          go_wp2_with fail
          go_ret
          exact ⟨by rw [HR2.out] <;> rfl, by first | exact below_drewN HB.out _ | exact HB.out⟩
        · have HE2 : Hid (∀ j, j < k + 1 → MR.eAt l j = 0) := Lib.hid (fun j hj => by
            rcases Nat.lt_or_ge j k with g | g
            · exact HE.out j g
            · obtain rfl : j = k := by omega
              rw [HEL.out]; rfl)
          go_wp2_with fail
          go_quiet (fail)
          go_wp2_with fail
          refine (C3.out _).mono ?_
          rintro e w2 ⟨rfl, rfl⟩
          go_wp2_with fail
          go_roundw
          case rel => exact ⟨k + 1, by omega, by go_num, HE2, Lib.hid (by first | exact below_drewN HB.out _ | exact HB.out)⟩
          case measure => simp [intOf]; omega
      · obtain ⟨j, rfl⟩ : ∃ j, k = j + 1 := ⟨k - 1, by omega⟩
        obtain ⟨b', off', y, he, hb', HVy, qy, g0, g1, g2, g3, g4⟩ := marks_get (HI.out.below HB.out) (k := j) (by omega)
        injection he with he
        injection he with e1 e2
        subst e1 e2
        have C4 := Lib.hid (fun ww => C1.out y.ser x.ser ww)
        have HSF : Hid (∀ ww, Below wr.heap.size wr ww → ((ww.cell? ⟨b, off + j * 5, none⟩ = some (.string y.ser.prod) ∧ ww.cell? ⟨b, off + j * 5 + 1, none⟩ = some (.int .i64 y.ser.kind) ∧ ww.cell? ⟨b, off + j * 5 + 2, none⟩ = some (.int .i64 y.ser.expiry) ∧ ww.cell? ⟨b, off + j * 5 + 3, none⟩ = some (.int .i64 y.ser.strike)) ∧
            (ww.cell? ⟨b, off + (j + 1) * 5, none⟩ = some (.string x.ser.prod) ∧ ww.cell? ⟨b, off + (j + 1) * 5 + 1, none⟩ = some (.int .i64 x.ser.kind) ∧ ww.cell? ⟨b, off + (j + 1) * 5 + 2, none⟩ = some (.int .i64 x.ser.expiry) ∧ ww.cell? ⟨b, off + (j + 1) * 5 + 3, none⟩ = some (.int .i64 x.ser.strike)) ∧ (ww.cell? ⟨b, off + (j + 1) * 5 + 4, none⟩ = some (.int .i64 x.price)))) := Lib.hid (fun ww h => by
          have hd := fun o => h.cell (p := ⟨b, o, none⟩) hb
          exact ⟨⟨(hd _).trans g0, (hd _).trans g1, (hd _).trans g2, (hd _).trans g3⟩, ⟨(hd _).trans d0, (hd _).trans d1, (hd _).trans d2, (hd _).trans d3⟩, (hd _).trans d4⟩)
        have hwj : IntKind.i64.wrap ((j : Int) + 1 - 1) = (j : Int) := by rw [show (j : Int) + 1 - 1 = (j : Int) by omega]; exact IntWalk.i64_in _ (by omega)
        have hwj2 : (0 : Int) < (j : Int) + 1 := by omega
        have hjl : j < l.length := by omega
        have hwj3 : IntKind.i64.wrap (j : Int) = (j : Int) := IntWalk.i64_in _ (by omega)
        have hj0 : (0 : Int) ≤ (j : Int) := by omega
        have hj1 : (j : Int) < (l.length : Int) := by omega
        have hj2 : (j : Int) ≤ (l.length : Int) := by omega
        have hj3 : (0 : Int) ≤ (j : Int) + 1 := by omega
        have hj4 : (j : Int) + 1 < (l.length : Int) := by omega
        have hj5 : (j : Int) + 1 ≤ (l.length : Int) := by omega
        have hjn : ((j : Int) + 1).toNat = j + 1 := by omega
        have HBw : Hid (Below wr.heap.size wr wr.drew) := Lib.hid (Below.refl _ _).drew
        clear qy h0 hb'
        by_cases hc : EM.cmp y.ser x.ser < 0
        · have HEL : Hid (MR.eAt l (j + 1) = if MK.isP x.price = true then 0 else 17) := Lib.hid (by rw [mAt_ok (fun _ => by rw [show j + 1 - 1 = j from rfl, HVy.out, HV.out]; exact hc), HV.out])
          have hcm : ¬ 0 ≤ EM.cmp y.ser x.ser := by omega
          generalize MK.isP x.price = bl at *
          generalize EM.cmp y.ser x.ser = cm at *
          go_wp2_with fail
          go_region_held3 (fun ww => ((ww.cell? ⟨b, off + j * 5, none⟩ = some (.string y.ser.prod) ∧ ww.cell? ⟨b, off + j * 5 + 1, none⟩ = some (.int .i64 y.ser.kind) ∧ ww.cell? ⟨b, off + j * 5 + 2, none⟩ = some (.int .i64 y.ser.expiry) ∧ ww.cell? ⟨b, off + j * 5 + 3, none⟩ = some (.int .i64 y.ser.strike)) ∧
            (ww.cell? ⟨b, off + (j + 1) * 5, none⟩ = some (.string x.ser.prod) ∧ ww.cell? ⟨b, off + (j + 1) * 5 + 1, none⟩ = some (.int .i64 x.ser.kind) ∧ ww.cell? ⟨b, off + (j + 1) * 5 + 2, none⟩ = some (.int .i64 x.ser.expiry) ∧ ww.cell? ⟨b, off + (j + 1) * 5 + 3, none⟩ = some (.int .i64 x.ser.strike)) ∧ (ww.cell? ⟨b, off + (j + 1) * 5 + 4, none⟩ = some (.int .i64 x.price))))
            (with_reducible exact HSF.out _ HBw.out)
            ((go_at_call 67; refine (C4.out _).mono ?_; rintro e w5 ⟨rfl, b5⟩; replace HBw := Lib.hid (HBw.out.trans (b5.mono HBw.out.size)); clear b5))
          all_goals (
            have HB2 := Lib.hid (HB.out.trans (HBw.out.mono HB.out.size))
            obtain ⟨_, _, x4⟩ := HSF.out _ HBw.out
            clear HSF HBw d0 d1 d2 d3 d4 g0 g1 g2 g3 g4
            cases bl
            · have HR := Lib.hid (KA.out HL.out (j + 1) hlt HE.out (by rw [HEL.out]; simp))
              have HR2 : Hid (r = 17) := Lib.hid (by rw [HR.out, HEL.out]; rfl)
              go_wp2_with fail
              refine (C3.out _).mono ?_
              rintro e w6 ⟨rfl, rfl⟩
              go_wp2_with fail
              go_ret
              exact ⟨by rw [HR2.out] <;> rfl, HB2.out⟩
            · have HE2 : Hid (∀ i, i < j + 1 + 1 → MR.eAt l i = 0) := Lib.hid (fun i hi => by
                rcases Nat.lt_or_ge i (j + 1) with g | g
                · exact HE.out i g
                · obtain rfl : i = j + 1 := by omega
                  rw [HEL.out]; rfl)
              go_wp2_with fail
              refine (C3.out _).mono ?_
              rintro e w6 ⟨rfl, rfl⟩
              go_wp2_with fail
              go_roundw
              case rel => exact ⟨j + 1 + 1, by omega, by go_num, HE2, HB2⟩
              case measure => simp [intOf]; omega)
        · have HR2 : Hid (r = 19) := Lib.hid (by rw [KA.out HL.out (j + 1) hlt HE.out (by rw [mAt_bad (by omega) (by rw [show j + 1 - 1 = j from rfl, HVy.out, HV.out]; exact hc)]; simp), mAt_bad (by omega) (by rw [show j + 1 - 1 = j from rfl, HVy.out, HV.out]; exact hc)])
          have hcm : 0 ≤ EM.cmp y.ser x.ser := by omega
          generalize EM.cmp y.ser x.ser = cm at *
          go_wp2_with fail
          go_region_held3 (fun ww => ((ww.cell? ⟨b, off + j * 5, none⟩ = some (.string y.ser.prod) ∧ ww.cell? ⟨b, off + j * 5 + 1, none⟩ = some (.int .i64 y.ser.kind) ∧ ww.cell? ⟨b, off + j * 5 + 2, none⟩ = some (.int .i64 y.ser.expiry) ∧ ww.cell? ⟨b, off + j * 5 + 3, none⟩ = some (.int .i64 y.ser.strike)) ∧
            (ww.cell? ⟨b, off + (j + 1) * 5, none⟩ = some (.string x.ser.prod) ∧ ww.cell? ⟨b, off + (j + 1) * 5 + 1, none⟩ = some (.int .i64 x.ser.kind) ∧ ww.cell? ⟨b, off + (j + 1) * 5 + 2, none⟩ = some (.int .i64 x.ser.expiry) ∧ ww.cell? ⟨b, off + (j + 1) * 5 + 3, none⟩ = some (.int .i64 x.ser.strike)) ∧ (ww.cell? ⟨b, off + (j + 1) * 5 + 4, none⟩ = some (.int .i64 x.price))))
            (with_reducible exact HSF.out _ HBw.out)
            ((go_at_call 67; refine (C4.out _).mono ?_; rintro e w5 ⟨rfl, b5⟩; replace HBw := Lib.hid (HBw.out.trans (b5.mono HBw.out.size)); clear b5))
          all_goals (
            have HB2 := Lib.hid (HB.out.trans (HBw.out.mono HB.out.size))
            clear HSF HBw d0 d1 d2 d3 d4 g0 g1 g2 g3 g4
            go_wp2_with fail
            go_ret
            exact ⟨by rw [HR2.out] <;> rfl, HB2.out⟩)
    · obtain rfl : k = l.length := by omega
      have HR := Lib.hid (KO.out HL.out HE.out)
      go_wp2_with fail
      go_ret
      exact ⟨by rw [HR.out] <;> rfl, HB.out⟩
end Go.Proofs.Ytaegapcccboinaa

/- Layer 18's mathematics: what a Put keeps. -/
namespace MR
theorem put_inv {l : List Mk} {m : Mk} (h : putE l m = 0) : checkE l = 0 ∧ MK.isP m.price = true ∧ (putM l m).length ≤ 128 ∧ putL l m = putM l m := by
  by_cases h1 : checkE l = 0
  · cases h2 : MK.isP m.price
    · rw [(put_price h1 h2).1] at h; cases h
    · by_cases h3 : 128 < (putM l m).length
      · rw [(put_long h1 h2 h3).1] at h; cases h
      · exact ⟨h1, rfl, by omega, (put_ok h1 h2 h3).2⟩
  · rw [(put_bad h1).1] at h; exact absurd h h1
theorem put_none {l : List Mk} {m : Mk} (h : putE l m ≠ 0) : putL l m = [] := by unfold putL; rw [if_neg h]
theorem put_check {l : List Mk} {m : Mk} (h : putE l m = 0) : checkE (putM l m) = 0 := by
  obtain ⟨h1, h2, h3, _⟩ := put_inv h
  obtain ⟨_, g2, g3⟩ := check_good h1
  refine check_of h3 (put_asc g2 m) fun p hp => ?_
  rcases put_mem hp with rfl | hp
  · exact h2
  · exact g3 p hp
end MR

/- Layer 18's mathematics: a Put by one walk along the list. -/
namespace MR
set_option linter.unusedVariables false
def stepM (m : Mk) (r : List Mk × Bool) (x : Mk) : List Mk × Bool :=
  (if NM.seqB x.ser m.ser = true then (if r.2 = false ∧ 0 ≤ EM.cmp x.ser m.ser then r.1 ++ [m] else r.1) else (if r.2 = false ∧ 0 ≤ EM.cmp x.ser m.ser then r.1 ++ [m] else r.1) ++ [x], r.2 || decide (0 ≤ EM.cmp x.ser m.ser))
def foldM (l : List Mk) (m : Mk) (k : Nat) : List Mk × Bool := (l.take k).foldl (stepM m) ([], false)
theorem fold_step {l : List Mk} {m : Mk} {k : Nat} (hk : k < l.length) : foldM l m (k + 1) = stepM m (foldM l m k) (mAt l k) := by
  unfold foldM
  rw [List.take_add_one, List.getElem?_eq_getElem hk, List.foldl_append, mAt_get hk]
  rfl
theorem fold_len (l : List Mk) (m : Mk) : ∀ k, k ≤ l.length → (foldM l m k).1.length ≤ 2 * k := by
  intro k
  induction k with
  | zero => intro _; simp [foldM]
  | succ k ih =>
    intro hk
    have := ih (by omega)
    rw [fold_step (by omega)]
    unfold stepM
    split <;> split <;> simp <;> omega
theorem gt_of {a b : EM.Ser} (h : EM.lt a b) : 0 < EM.cmp b a := by
  rcases EM.cmp_cases b a with ⟨_, g⟩ | ⟨_, g⟩ | ⟨g, _⟩
  · exact absurd (EM.lt_trans h g) (EM.lt_irrefl _)
  · rw [g] at h; exact absurd h (EM.lt_irrefl _)
  · omega
theorem seq_ne {a b : EM.Ser} (h : EM.cmp a b ≠ 0) : NM.seqB a b = false := by
  cases hs : NM.seqB a b
  · rfl
  · exact absurd (EM.cmp_zero.2 (NM.seqB_iff.1 hs)) h
theorem seq_zero {a b : EM.Ser} (h : NM.seqB a b = true) : EM.cmp a b = 0 := EM.cmp_zero.2 (NM.seqB_iff.1 h)
theorem putM_gt {l : List Mk} {m : Mk} (h : ∀ y ∈ l, 0 < EM.cmp y.ser m.ser) : putM l m = m :: l := by
  unfold putM
  rw [List.filter_eq_nil_iff.2 (fun y hy => by have := h y hy; simp; omega), List.filter_eq_self.2 (fun y hy => by have := h y hy; simpa using this)]
  rfl
theorem fold_true (m : Mk) : ∀ (l pre : List Mk), (∀ y ∈ l, 0 < EM.cmp y.ser m.ser) → l.foldl (stepM m) (pre, true) = (pre ++ l, true) := by
  intro l
  induction l with
  | nil => intro pre _; simp
  | cons x l ih =>
    intro pre h
    have hx := h x (by simp)
    have e : stepM m (pre, true) x = (pre ++ [x], true) := by
      unfold stepM
      rw [seq_ne (by omega)]
      simp
    rw [List.foldl_cons, e, ih _ (fun y hy => h y (by simp [hy]))]
    simp
theorem fold_false (m : Mk) : ∀ (l : List Mk), asc l → ∀ pre, (if (l.foldl (stepM m) (pre, false)).2 = true then (l.foldl (stepM m) (pre, false)).1 else (l.foldl (stepM m) (pre, false)).1 ++ [m]) = pre ++ putM l m := by
  intro l
  induction l with
  | nil => intro _ pre; simp [putM]
  | cons x l ih =>
    intro ha pre
    have hx := List.pairwise_cons.1 ha
    rcases EM.cmp_cases x.ser m.ser with ⟨e, g⟩ | ⟨e, g⟩ | ⟨e, g⟩
    · have es : stepM m (pre, false) x = (pre ++ [x], false) := by
        unfold stepM
        rw [seq_ne (by omega), e]
        simp
      have ep : putM (x :: l) m = x :: putM l m := by
        unfold putM
        rw [List.filter_cons_of_pos (by simp; omega), List.filter_cons_of_neg (by simp; omega)]
        rfl
      rw [List.foldl_cons, es, ih hx.2, ep]
      simp
    · have es : stepM m (pre, false) x = (pre ++ [m], true) := by
        unfold stepM
        rw [NM.seqB_iff.2 g, e]
        simp
      have hl : ∀ y ∈ l, 0 < EM.cmp y.ser m.ser := fun y hy => gt_of (by rw [← g]; exact hx.1 y hy)
      have ep : putM (x :: l) m = m :: l := by
        rw [← putM_gt hl]
        unfold putM
        rw [List.filter_cons_of_neg (by simp; omega), List.filter_cons_of_neg (by simp; omega)]
      rw [List.foldl_cons, es, fold_true m l _ hl, ep]
      simp
    · have es : stepM m (pre, false) x = (pre ++ [m] ++ [x], true) := by
        unfold stepM
        rw [seq_ne (by omega), e]
        simp
      have hl : ∀ y ∈ l, 0 < EM.cmp y.ser m.ser := fun y hy => gt_of (EM.lt_trans g (hx.1 y hy))
      have ep : putM (x :: l) m = m :: x :: l := putM_gt (fun y hy => by
        rcases List.mem_cons.1 hy with rfl | hy
        · omega
        · exact hl y hy)
      rw [List.foldl_cons, es, fold_true m l _ hl, ep]
      simp
theorem fold_done {l : List Mk} (ha : asc l) (m : Mk) : (if (foldM l m l.length).2 = true then (foldM l m l.length).1 else (foldM l m l.length).1 ++ [m]) = putM l m := by
  unfold foldM
  rw [List.take_length, fold_false m l ha []]
  rfl
end MR

/- Contracts of layer 18's reference: Put. -/
namespace Go.Proofs.Ytaegapcccboinaa
open Go.RowKit Go.Recs
set_option linter.unusedVariables false
set_option linter.unusedSimpArgs false
set_option maxHeartbeats 16000000 in
set_option maxRecDepth 100000 in
theorem rput18_any (A : Option Addr) (l : List MR.Mk) (n cap : Nat) (hn : n = l.length) (m : MR.Mk) (w : World) (hI : Marks w A l) :
    Calls Try.prog 29 #[.slice A n cap, mkA m] w fun e w' => (∃ v, e = .returned (.tuple #[v, .int .i64 (MR.putE l m)]) ∧ OwnR w' w.heap.size 59 5 v ((MR.putL l m).map markV)) ∧ Below w.heap.size w w' := by
  subst hn
  have hlen := hI.len
  have HB0 := Lib.hid ((Below.refl w.heap.size w).alloc (Nat.le_refl _) (.cells (mkC m) 59))
  have HP0 := Lib.hid (CB.new w 59 (mkC m))
  have HI := Lib.hid (hI.below HB0.out)
  have C1 := Lib.hid (fun ww h => rcheckall18_any A l l.length cap rfl ww h)
  have C2 := Lib.hid (fun ww => rwithin18p_any m.price ww)
  have hx0 := HP0.out.lt
  by_cases h1 : MR.checkE l = 0
  · by_cases h2 : MK.isP m.price = true
    · rw [h1] at C1
      rw [h2] at C2
      obtain ⟨g1, g2, g3⟩ := MR.check_good h1
      have KO := Lib.hid (@MR.put_ok l m h1 h2); have KL := Lib.hid (@MR.put_long l m h1 h2)
      have KF := Lib.hid (fun k => @MR.fold_step l m k)
      have KN := Lib.hid (MR.fold_len l m)
      have KD := Lib.hid (MR.fold_done g2 m)
      have KZ : Hid (MR.foldM l m 0 = ([], false)) := Lib.hid rfl
      have CC := Lib.hid (fun a ww => rcmpm_any a m.ser ww)
      have E2 := ser_guard
      generalize MR.putE l m = pe at *
      generalize MR.putL l m = pl at *
      generalize MR.putM l m = pm at *
      clear hI h1 h2 g2 g3
      go_enter Try.func29, Try.ntmps29
      go_wp2_with fail
      generalize w.alloc (.cells #[.string m.ser.prod, .int .i64 m.ser.kind, .int .i64 m.ser.expiry, .int .i64 m.ser.strike, .int .i64 m.price] 59) = wa at *
      refine (C1.out _ HI.out).mono ?_
      rintro e w0 ⟨rfl, b1⟩
      have HB1 := Lib.hid (HB0.out.trans (b1.mono HB0.out.size))
      have HX1 := Lib.hid (HP0.out.below b1 hx0)
      have HI1 := Lib.hid (HI.out.below b1)
      have hx1 := HX1.out.lt
      clear b1 HP0 HI hx0 C1 HB0
      have c0 := HX1.out.cell 0; have c1 := HX1.out.cell 1; have c2 := HX1.out.cell 2; have c3 := HX1.out.cell 3; have c4 := HX1.out.cell 4
      simp only [List.getElem?_toArray, List.getElem?_cons_zero, List.getElem?_cons_succ] at c0 c1 c2 c3 c4
      go_wp2_with fail
      refine (C2.out _).mono ?_
      rintro e w2 ⟨rfl, rfl⟩
      go_wp2_with fail
      go_loopw [7, 8, 9] (fun v d i wr => ∃ k : Nat, k ≤ l.length ∧ i = .int .i64 (k : Int) ∧ (∃ (rows : List MR.Mk) (dn : Bool), d = .bool dn ∧ Hid (MR.foldM l m k = (rows, dn)) ∧ Hid (OwnR wr w0.heap.size 59 5 v (rows.map markV))) ∧ Hid (Below w0.heap.size w0 wr)) (fun _ _ i _ => l.length - (intOf i).toNat)
      case atStart => exact ⟨0, by omega, rfl, ⟨[], false, rfl, KZ, Lib.hid (OwnR.nil _ _ _ _)⟩, Lib.hid (Below.refl _ _)⟩
      case round =>
        clear c0 c1 c2 c3 c4
        obtain ⟨k, hk, rfl, ⟨rows, dn, rfl, HF, HO⟩, HB⟩ := hrel
        have hrl : (rows.map markV).length ≤ 2 * k := by have := KN.out k hk; rw [HF.out] at this; rw [List.length_map]; exact this
        by_cases hlt : k < l.length
        · obtain ⟨b, off, x, rfl, hb, HV, qx, d0, d1, d2, d3, d4⟩ := marks_get HI1.out hlt
          have HFS : Hid (MR.foldM l m (k + 1) = MR.stepM m (rows, dn) x) := Lib.hid (by rw [KF.out k hlt, HF.out, HV.out])
          have HSW : Hid (∀ ww, Below w0.heap.size w0 ww → (ww.cell? ⟨b, off + k * 5, none⟩ = some (.string x.ser.prod) ∧ ww.cell? ⟨b, off + k * 5 + 1, none⟩ = some (.int .i64 x.ser.kind) ∧ ww.cell? ⟨b, off + k * 5 + 2, none⟩ = some (.int .i64 x.ser.expiry) ∧ ww.cell? ⟨b, off + k * 5 + 3, none⟩ = some (.int .i64 x.ser.strike) ∧ ww.cell? ⟨b, off + k * 5 + 4, none⟩ = some (.int .i64 x.price)) ∧ (ww.cell? ⟨w.heap.size, 0, none⟩ = some (.string m.ser.prod) ∧ ww.cell? ⟨w.heap.size, 1, none⟩ = some (.int .i64 m.ser.kind) ∧ ww.cell? ⟨w.heap.size, 2, none⟩ = some (.int .i64 m.ser.expiry) ∧ ww.cell? ⟨w.heap.size, 3, none⟩ = some (.int .i64 m.ser.strike) ∧ ww.cell? ⟨w.heap.size, 4, none⟩ = some (.int .i64 m.price))) := Lib.hid (fun ww h => by
            have hd := fun o => h.cell (p := ⟨b, o, none⟩) hb
            have hq := HX1.out.below h hx1
            exact ⟨⟨(hd _).trans d0, (hd _).trans d1, (hd _).trans d2, (hd _).trans d3, (hd _).trans d4⟩, hq.cell 0, hq.cell 1, hq.cell 2, hq.cell 3, hq.cell 4⟩)
          have HSX : Hid (∀ ww, Below wr.heap.size wr ww → (ww.cell? ⟨b, off + k * 5, none⟩ = some (.string x.ser.prod) ∧ ww.cell? ⟨b, off + k * 5 + 1, none⟩ = some (.int .i64 x.ser.kind) ∧ ww.cell? ⟨b, off + k * 5 + 2, none⟩ = some (.int .i64 x.ser.expiry) ∧ ww.cell? ⟨b, off + k * 5 + 3, none⟩ = some (.int .i64 x.ser.strike) ∧ ww.cell? ⟨b, off + k * 5 + 4, none⟩ = some (.int .i64 x.price)) ∧ (ww.cell? ⟨w.heap.size, 0, none⟩ = some (.string m.ser.prod) ∧ ww.cell? ⟨w.heap.size, 1, none⟩ = some (.int .i64 m.ser.kind) ∧ ww.cell? ⟨w.heap.size, 2, none⟩ = some (.int .i64 m.ser.expiry) ∧ ww.cell? ⟨w.heap.size, 3, none⟩ = some (.int .i64 m.ser.strike) ∧ ww.cell? ⟨w.heap.size, 4, none⟩ = some (.int .i64 m.price))) := Lib.hid (fun ww h => HSW.out ww (HB.out.trans (h.mono HB.out.size)))
          have E1 : ∀ ww, (Op.equalIn 10000 57 (.agg #[.string x.ser.prod, .int .i64 x.ser.kind, .int .i64 x.ser.expiry, .int .i64 x.ser.strike]) (.agg #[.string m.ser.prod, .int .i64 m.ser.kind, .int .i64 m.ser.expiry, .int .i64 m.ser.strike])).run Try.prog ww = .ok (NM.seqB x.ser m.ser) ww := fun ww => ser_in x.ser m.ser ww
          obtain ⟨⟨x0, x1, x2, x3, x4⟩, p0, p1, p2, p3, p4⟩ := HSX.out _ (Below.refl _ _)
          clear d0 d1 d2 d3 d4 HV qx
          cases hs : NM.seqB x.ser m.ser
          · rw [hs] at E1
            cases dn
            · have CM := Lib.hid (fun ww => CC.out x.ser ww)
              by_cases hc : 0 ≤ EM.cmp x.ser m.ser
              · have hcd : decide (0 ≤ EM.cmp x.ser m.ser) = true := decide_eq_true hc
                have HFX : Hid (MR.foldM l m (k + 1) = (rows ++ [m] ++ [x], true)) := Lib.hid (by rw [HFS.out]; unfold MR.stepM; simp [hs, hc])
                generalize EM.cmp x.ser m.ser = cm at *
                clear hs HFS
                go_wp2_with fail
                have HBw : Hid (Below wr.heap.size wr wr.drew) := Lib.hid (Below.refl _ _).drew
                go_region_held3 (fun ww => (ww.cell? ⟨b, off + k * 5, none⟩ = some (.string x.ser.prod) ∧ ww.cell? ⟨b, off + k * 5 + 1, none⟩ = some (.int .i64 x.ser.kind) ∧ ww.cell? ⟨b, off + k * 5 + 2, none⟩ = some (.int .i64 x.ser.expiry) ∧ ww.cell? ⟨b, off + k * 5 + 3, none⟩ = some (.int .i64 x.ser.strike) ∧ ww.cell? ⟨b, off + k * 5 + 4, none⟩ = some (.int .i64 x.price)) ∧ (ww.cell? ⟨w.heap.size, 0, none⟩ = some (.string m.ser.prod) ∧ ww.cell? ⟨w.heap.size, 1, none⟩ = some (.int .i64 m.ser.kind) ∧ ww.cell? ⟨w.heap.size, 2, none⟩ = some (.int .i64 m.ser.expiry) ∧ ww.cell? ⟨w.heap.size, 3, none⟩ = some (.int .i64 m.ser.strike) ∧ ww.cell? ⟨w.heap.size, 4, none⟩ = some (.int .i64 m.price)))
                  (with_reducible exact HSX.out _ HBw.out)
                  ((go_at_call 67; refine (CM.out _).mono ?_; rintro e w3 ⟨rfl, b3⟩; replace HBw := Lib.hid (HBw.out.trans (b3.mono HBw.out.size)); clear b3))
                all_goals (
                  have HBx := Lib.hid (HB.out.trans (HBw.out.mono HB.out.size))
                  have HOx := Lib.hid (HO.out.below HBw.out)
                  obtain ⟨⟨x0, x1, x2, x3, x4⟩, p0, p1, p2, p3, p4⟩ := HSX.out _ HBw.out
                  clear HO HB
                  generalize hrw : rows.map markV = rv at *
                  have HRV := Lib.hid hrw
                  clear hrw
                  go_wp2_with (at_builtin; refine wpList_pushR _ [.string m.ser.prod, .int .i64 m.ser.kind, .int .i64 m.ser.expiry, .int .i64 m.ser.strike, .int .i64 m.price] (marks_one [m] _ (by simp [markV])) w0.heap.size (rv) _ _ 55 59 5 48 _ Try.underlying55 info_mark rfl (by decide) rfl rfl rfl _ (by first | rfl | trivial) (by first | rfl | trivial) (HOx.out) ?ga ?gb (HBx.out).size ?_)
                  case ga => first | omega | (simp; omega)
                  case gb => first | (simp only [maxLen]; omega) | (simp [maxLen]; omega)
                  intro v4 w4 o4 b4 _ _
                  have HB4 := Lib.hid (HBx.out.trans b4)
                  have HO4 := Lib.hid o4
                  clear o4 b4 HOx HBx x0 x1 x2 x3 x4 p0 p1 p2 p3 p4 HBw
                  obtain ⟨⟨y0, y1, y2, y3, y4⟩, q0, q1, q2, q3, q4⟩ := HSW.out _ HB4.out
                  clear HSX HSW
                  go_wp2_with fail
                  go_quiet (fail)
                  go_wp2_with (at_builtin; refine wpList_pushR _ [.string x.ser.prod, .int .i64 x.ser.kind, .int .i64 x.ser.expiry, .int .i64 x.ser.strike, .int .i64 x.price] (marks_one [x] _ (by simp [markV])) w0.heap.size (rv ++ [[.string m.ser.prod, .int .i64 m.ser.kind, .int .i64 m.ser.expiry, .int .i64 m.ser.strike, .int .i64 m.price]]) _ _ 55 59 5 48 _ Try.underlying55 info_mark rfl (by decide) rfl rfl rfl _ (by first | rfl | trivial) (by first | rfl | trivial) (HO4.out.drewN _) ?ga ?gb (below_drewN HB4.out _).size ?_)
                  case ga => first | omega | (simp; omega)
                  case gb => first | (simp only [maxLen]; omega) | (simp [maxLen]; omega)
                  intro v5 w5 o5 b5 _ _
                  have HBZ := Lib.hid ((below_drewN HB4.out _).trans b5)
                  have HOZ : Hid (OwnR w5 w0.heap.size 59 5 v5 ((rows ++ [m] ++ [x]).map markV)) := Lib.hid (by rw [List.map_append, List.map_append, HRV.out]; simpa [markV] using o5)
                  clear o5 b5 HO4 HB4 y0 y1 y2 y3 y4 q0 q1 q2 q3 q4
                  go_wp2_with fail
                  go_roundw
                  case rel => exact ⟨k + 1, by omega, by go_num, ⟨_, _, rfl, HFX, HOZ⟩, HBZ⟩
                  case measure => simp [intOf]; omega)
              · have hcd : decide (0 ≤ EM.cmp x.ser m.ser) = false := decide_eq_false hc
                have HFX : Hid (MR.foldM l m (k + 1) = (rows ++ [x], false)) := Lib.hid (by rw [HFS.out]; unfold MR.stepM; simp [hs, hc])
                generalize EM.cmp x.ser m.ser = cm at *
                clear hs HFS
                go_wp2_with fail
                have HBw : Hid (Below wr.heap.size wr wr.drew) := Lib.hid (Below.refl _ _).drew
                go_region_held3 (fun ww => (ww.cell? ⟨b, off + k * 5, none⟩ = some (.string x.ser.prod) ∧ ww.cell? ⟨b, off + k * 5 + 1, none⟩ = some (.int .i64 x.ser.kind) ∧ ww.cell? ⟨b, off + k * 5 + 2, none⟩ = some (.int .i64 x.ser.expiry) ∧ ww.cell? ⟨b, off + k * 5 + 3, none⟩ = some (.int .i64 x.ser.strike) ∧ ww.cell? ⟨b, off + k * 5 + 4, none⟩ = some (.int .i64 x.price)) ∧ (ww.cell? ⟨w.heap.size, 0, none⟩ = some (.string m.ser.prod) ∧ ww.cell? ⟨w.heap.size, 1, none⟩ = some (.int .i64 m.ser.kind) ∧ ww.cell? ⟨w.heap.size, 2, none⟩ = some (.int .i64 m.ser.expiry) ∧ ww.cell? ⟨w.heap.size, 3, none⟩ = some (.int .i64 m.ser.strike) ∧ ww.cell? ⟨w.heap.size, 4, none⟩ = some (.int .i64 m.price)))
                  (with_reducible exact HSX.out _ HBw.out)
                  ((go_at_call 67; refine (CM.out _).mono ?_; rintro e w3 ⟨rfl, b3⟩; replace HBw := Lib.hid (HBw.out.trans (b3.mono HBw.out.size)); clear b3))
                all_goals (
                  have HBx := Lib.hid (HB.out.trans (HBw.out.mono HB.out.size))
                  have HOx := Lib.hid (HO.out.below HBw.out)
                  obtain ⟨⟨x0, x1, x2, x3, x4⟩, p0, p1, p2, p3, p4⟩ := HSX.out _ HBw.out
                  clear HO HB HSX HSW
                  generalize hrw : rows.map markV = rv at *
                  have HRV := Lib.hid hrw
                  clear hrw
                  clear HBw
                  go_wp2_with fail
                  go_quiet (fail)
                  go_wp2_with (at_builtin; refine wpList_pushR _ [.string x.ser.prod, .int .i64 x.ser.kind, .int .i64 x.ser.expiry, .int .i64 x.ser.strike, .int .i64 x.price] (marks_one [x] _ (by simp [markV])) w0.heap.size (rv) _ _ 55 59 5 48 _ Try.underlying55 info_mark rfl (by decide) rfl rfl rfl _ (by first | rfl | trivial) (by first | rfl | trivial) (HOx.out.drewN _) ?ga ?gb (below_drewN HBx.out _).size ?_)
                  case ga => first | omega | (simp; omega)
                  case gb => first | (simp only [maxLen]; omega) | (simp [maxLen]; omega)
                  intro v5 w5 o5 b5 _ _
                  have HBZ := Lib.hid ((below_drewN HBx.out _).trans b5)
                  have HOZ : Hid (OwnR w5 w0.heap.size 59 5 v5 ((rows ++ [x]).map markV)) := Lib.hid (by rw [List.map_append, HRV.out]; simpa [markV] using o5)
                  clear o5 b5 HOx HBx x0 x1 x2 x3 x4 p0 p1 p2 p3 p4
                  go_wp2_with fail
                  go_roundw
                  case rel => exact ⟨k + 1, by omega, by go_num, ⟨_, _, rfl, HFX, HOZ⟩, HBZ⟩
                  case measure => simp [intOf]; omega)
            · have HFX : Hid (MR.foldM l m (k + 1) = (rows ++ [x], true)) := Lib.hid (by rw [HFS.out]; unfold MR.stepM; simp [hs])
              clear hs HFS
              generalize hrw : rows.map markV = rv at *
              have HRV := Lib.hid hrw
              clear hrw
              have HBw : Hid (Below wr.heap.size wr wr) := Lib.hid (Below.refl _ _)
              obtain ⟨⟨x0, x1, x2, x3, x4⟩, p0, p1, p2, p3, p4⟩ := HSX.out _ HBw.out
              clear HSX HSW HBw
              go_wp2_with fail
              go_quiet (fail)
              go_wp2_with fail
              go_quiet (fail)
              go_wp2_with (at_builtin; refine wpList_pushR _ [.string x.ser.prod, .int .i64 x.ser.kind, .int .i64 x.ser.expiry, .int .i64 x.ser.strike, .int .i64 x.price] (marks_one [x] _ (by simp [markV])) w0.heap.size (rv) _ _ 55 59 5 48 _ Try.underlying55 info_mark rfl (by decide) rfl rfl rfl _ (by first | rfl | trivial) (by first | rfl | trivial) (HO.out.drewN _) ?ga ?gb (below_drewN HB.out _).size ?_)
              case ga => first | omega | (simp; omega)
              case gb => first | (simp only [maxLen]; omega) | (simp [maxLen]; omega)
              intro v5 w5 o5 b5 _ _
              have HBZ := Lib.hid ((below_drewN HB.out _).trans b5)
              have HOZ : Hid (OwnR w5 w0.heap.size 59 5 v5 ((rows ++ [x]).map markV)) := Lib.hid (by rw [List.map_append, HRV.out]; simpa [markV] using o5)
              clear o5 b5 HO HB x0 x1 x2 x3 x4 p0 p1 p2 p3 p4
              go_wp2_with fail
              go_roundw
              case rel => exact ⟨k + 1, by omega, by go_num, ⟨_, _, rfl, HFX, HOZ⟩, HBZ⟩
              case measure => simp [intOf]; omega
          · rw [hs] at E1
            cases dn
            · have CM := Lib.hid (fun ww => CC.out x.ser ww)
              have hc : 0 ≤ EM.cmp x.ser m.ser := by rw [MR.seq_zero hs]; decide
              have hcd : decide (0 ≤ EM.cmp x.ser m.ser) = true := decide_eq_true hc
              have HFX : Hid (MR.foldM l m (k + 1) = (rows ++ [m], true)) := Lib.hid (by rw [HFS.out]; unfold MR.stepM; simp [hs, hc])
              generalize EM.cmp x.ser m.ser = cm at *
              clear hs HFS
              go_wp2_with fail
              have HBw : Hid (Below wr.heap.size wr wr.drew) := Lib.hid (Below.refl _ _).drew
              go_region_held3 (fun ww => (ww.cell? ⟨b, off + k * 5, none⟩ = some (.string x.ser.prod) ∧ ww.cell? ⟨b, off + k * 5 + 1, none⟩ = some (.int .i64 x.ser.kind) ∧ ww.cell? ⟨b, off + k * 5 + 2, none⟩ = some (.int .i64 x.ser.expiry) ∧ ww.cell? ⟨b, off + k * 5 + 3, none⟩ = some (.int .i64 x.ser.strike) ∧ ww.cell? ⟨b, off + k * 5 + 4, none⟩ = some (.int .i64 x.price)) ∧ (ww.cell? ⟨w.heap.size, 0, none⟩ = some (.string m.ser.prod) ∧ ww.cell? ⟨w.heap.size, 1, none⟩ = some (.int .i64 m.ser.kind) ∧ ww.cell? ⟨w.heap.size, 2, none⟩ = some (.int .i64 m.ser.expiry) ∧ ww.cell? ⟨w.heap.size, 3, none⟩ = some (.int .i64 m.ser.strike) ∧ ww.cell? ⟨w.heap.size, 4, none⟩ = some (.int .i64 m.price)))
                (with_reducible exact HSX.out _ HBw.out)
                ((go_at_call 67; refine (CM.out _).mono ?_; rintro e w3 ⟨rfl, b3⟩; replace HBw := Lib.hid (HBw.out.trans (b3.mono HBw.out.size)); clear b3))
              all_goals (
                have HBx := Lib.hid (HB.out.trans (HBw.out.mono HB.out.size))
                have HOx := Lib.hid (HO.out.below HBw.out)
                obtain ⟨⟨x0, x1, x2, x3, x4⟩, p0, p1, p2, p3, p4⟩ := HSX.out _ HBw.out
                clear HO HB
                generalize hrw : rows.map markV = rv at *
                have HRV := Lib.hid hrw
                clear hrw
                go_wp2_with (at_builtin; refine wpList_pushR _ [.string m.ser.prod, .int .i64 m.ser.kind, .int .i64 m.ser.expiry, .int .i64 m.ser.strike, .int .i64 m.price] (marks_one [m] _ (by simp [markV])) w0.heap.size (rv) _ _ 55 59 5 48 _ Try.underlying55 info_mark rfl (by decide) rfl rfl rfl _ (by first | rfl | trivial) (by first | rfl | trivial) (HOx.out) ?ga ?gb (HBx.out).size ?_)
                case ga => first | omega | (simp; omega)
                case gb => first | (simp only [maxLen]; omega) | (simp [maxLen]; omega)
                intro v4 w4 o4 b4 _ _
                have HB4 := Lib.hid (HBx.out.trans b4)
                have HO4 : Hid (OwnR w4 w0.heap.size 59 5 v4 ((rows ++ [m]).map markV)) := Lib.hid (by rw [List.map_append, HRV.out]; simpa [markV] using o4)
                clear o4 b4 HOx HBx x0 x1 x2 x3 x4 p0 p1 p2 p3 p4 HBw
                obtain ⟨⟨y0, y1, y2, y3, y4⟩, q0, q1, q2, q3, q4⟩ := HSW.out _ HB4.out
                clear HSX HSW
                go_wp2_with fail
                go_quiet (fail)
                have HBZ := Lib.hid (below_drewN HB4.out nq)
                have HOZ := Lib.hid (HO4.out.drewN nq)
                clear HB4 HO4
                go_wp2_with fail
                go_roundw
                case rel => exact ⟨k + 1, by omega, by go_num, ⟨_, _, rfl, HFX, HOZ⟩, HBZ⟩
                case measure => simp [intOf]; omega)
            · have HFX : Hid (MR.foldM l m (k + 1) = (rows, true)) := Lib.hid (by rw [HFS.out]; unfold MR.stepM; simp [hs])
              clear hs HFS
              have HBw : Hid (Below wr.heap.size wr wr) := Lib.hid (Below.refl _ _)
              obtain ⟨⟨x0, x1, x2, x3, x4⟩, p0, p1, p2, p3, p4⟩ := HSX.out _ HBw.out
              clear HSX HSW HBw
              go_wp2_with fail
              go_quiet (fail)
              go_wp2_with fail
              go_quiet (fail)
              go_wp2_with fail
              go_roundw
              case rel => exact ⟨k + 1, by omega, by go_num, ⟨_, _, rfl, HFX, Lib.hid (by first | exact HO.out.drewN _ | exact HO.out)⟩, Lib.hid (by first | exact below_drewN HB.out _ | exact HB.out)⟩
              case measure => simp [intOf]; omega
        · obtain rfl : k = l.length := by omega
          have HKD := Lib.hid (KD.out)
          rw [HF.out] at HKD
          have HX2 := HX1.out.below HB.out hx1
          have p0 := HX2.cell 0; have p1 := HX2.cell 1; have p2 := HX2.cell 2; have p3 := HX2.cell 3; have p4 := HX2.cell 4
          simp only [List.getElem?_toArray, List.getElem?_cons_zero, List.getElem?_cons_succ] at p0 p1 p2 p3 p4
          clear HX2
          cases dn
          · have HPM : Hid (rows ++ [m] = pm) := Lib.hid (by have := HKD.out; simpa using this)
            generalize hrw : rows.map markV = rv at *
            have HRV := Lib.hid hrw
            clear hrw
            go_wp2_with (at_builtin; refine wpList_pushR _ [.string m.ser.prod, .int .i64 m.ser.kind, .int .i64 m.ser.expiry, .int .i64 m.ser.strike, .int .i64 m.price] (marks_one [m] _ (by simp [markV])) w0.heap.size (rv) _ _ 55 59 5 48 _ Try.underlying55 info_mark rfl (by decide) rfl rfl rfl _ (by first | rfl | trivial) (by first | rfl | trivial) (HO.out) ?ga ?gb (HB.out).size ?_)
            case ga => first | omega | (simp; omega)
            case gb => first | (simp only [maxLen]; omega) | (simp [maxLen]; omega)
            intro v4 w4 o4 b4 _ _
            have HB4 := Lib.hid (HB1.out.trans ((HB.out.trans b4).mono HB1.out.size))
            have HO4 : Hid (OwnR w4 w.heap.size 59 5 v4 (pm.map markV)) := Lib.hid (by
              rw [← HPM.out, List.map_append, HRV.out]
              have := o4.lower (B' := w.heap.size) HB1.out.size
              simpa [markV] using this)
            clear o4 b4 HB HO p0 p1 p2 p3 p4 HF HKD HPM HRV
            obtain ⟨A5, cap5, rfl, -, hc5⟩ := OwnR.recs HO4.out
            rw [List.length_map] at HO4 hc5
            have HO5 := HO4
            rw [List.length_map]
            by_cases hl : 128 < pm.length
            · have HK1 := Lib.hid (KL.out hl).1
              have HK2 := Lib.hid (KL.out hl).2
              have hl' : (128 : Int) < (pm.length : Int) := by omega
              go_wp2_with fail
              go_ret2
              exact ⟨⟨_, by rw [HK1.out] <;> rfl, by rw [HK2.out]; exact OwnR.nil _ _ _ _⟩, HB4.out⟩
            · have HK1 := Lib.hid (KO.out hl).1
              have HK2 := Lib.hid (KO.out hl).2
              have hl' : ¬ (128 : Int) < (pm.length : Int) := by omega
              go_wp2_with fail
              go_ret2
              exact ⟨⟨_, by rw [HK1.out] <;> rfl, by rw [HK2.out]; exact HO5.out⟩, HB4.out⟩
          · have HPM : Hid (rows = pm) := Lib.hid (by have := HKD.out; simpa using this)
            have HB4 := Lib.hid (HB1.out.trans (HB.out.mono HB1.out.size))
            have HO4 : Hid (OwnR wr w.heap.size 59 5 _ (pm.map markV)) := Lib.hid (by
              rw [← HPM.out]
              exact HO.out.lower (B' := w.heap.size) HB1.out.size)
            clear HB HO p0 p1 p2 p3 p4 HF HKD HPM hrl
            obtain ⟨A5, cap5, rfl, -, hc5⟩ := OwnR.recs HO4.out
            rw [List.length_map] at HO4 hc5
            have HO5 := HO4
            rw [List.length_map]
            by_cases hl : 128 < pm.length
            · have HK1 := Lib.hid (KL.out hl).1
              have HK2 := Lib.hid (KL.out hl).2
              have hl' : (128 : Int) < (pm.length : Int) := by omega
              go_wp2_with fail
              go_ret2
              exact ⟨⟨_, by rw [HK1.out] <;> rfl, by rw [HK2.out]; exact OwnR.nil _ _ _ _⟩, HB4.out⟩
            · have HK1 := Lib.hid (KO.out hl).1
              have HK2 := Lib.hid (KO.out hl).2
              have hl' : ¬ (128 : Int) < (pm.length : Int) := by omega
              go_wp2_with fail
              go_ret2
              exact ⟨⟨_, by rw [HK1.out] <;> rfl, by rw [HK2.out]; exact HO5.out⟩, HB4.out⟩
    · have h2 : MK.isP m.price = false := by simpa using h2
      rw [h1] at C1
      rw [h2] at C2
      rw [(MR.put_price h1 h2).1, (MR.put_price h1 h2).2]
      clear hI h1 h2
      go_enter Try.func29, Try.ntmps29
      go_wp2_with fail
      generalize w.alloc (.cells #[.string m.ser.prod, .int .i64 m.ser.kind, .int .i64 m.ser.expiry, .int .i64 m.ser.strike, .int .i64 m.price] 59) = w0 at *
      refine (C1.out _ HI.out).mono ?_
      rintro e w1 ⟨rfl, b1⟩
      have HB1 := Lib.hid (HB0.out.trans (b1.mono HB0.out.size))
      have HX1 := Lib.hid (HP0.out.below b1 hx0)
      clear b1 HP0 HI
      have c4 := HX1.out.cell 4
      simp only [List.getElem?_toArray, List.getElem?_cons_zero, List.getElem?_cons_succ] at c4
      go_wp2_with fail
      refine (C2.out _).mono ?_
      rintro e w2 ⟨rfl, rfl⟩
      go_wp2_with fail
      go_ret2
      exact ⟨⟨_, rfl, OwnR.nil _ _ _ _⟩, HB1.out⟩
  · rw [(MR.put_bad h1).1, (MR.put_bad h1).2]
    have hne : (MR.checkE l != 0) = true := by simpa using h1
    clear hI h1
    generalize MR.checkE l = r at *
    go_enter Try.func29, Try.ntmps29
    go_wp2_with fail
    refine (C1.out _ HI.out).mono ?_
    rintro e w1 ⟨rfl, b1⟩
    have HB1 := Lib.hid (HB0.out.trans (b1.mono HB0.out.size))
    clear b1 HP0 HI
    go_wp2_with fail
    go_ret2
    exact ⟨⟨_, rfl, OwnR.nil _ _ _ _⟩, HB1.out⟩
end Go.Proofs.Ytaegapcccboinaa

namespace Go.Proofs.Ytaegapcccboinaa.markLists
open Go.RowKit Go.Recs
set_option linter.unusedVariables false
set_option linter.unusedSimpArgs false
set_option maxHeartbeats 8000000 in
set_option maxRecDepth 100000 in
theorem walk (A : Option Addr) (cap : Nat) (l : List MR.Mk) (m : MR.Mk) (w : World) (hI : Marks w A l ∧ l.length ≤ cap) (hm : markQ m) :
    Calls Try.prog 9 #[.slice A l.length cap, mkA m] w fun e w' => e = .returned (.bool true) ∧ Below w.heap.size w w' := by
  obtain ⟨hI, hcap⟩ := hI
  have hlen := hI.len
  have HB0 := Lib.hid ((Below.refl w.heap.size w).alloc (Nat.le_refl _) (.cells (mkC m) 59))
  have HM := Lib.hid (CB.new w 59 (mkC m))
  have HI := Lib.hid (hI.below HB0.out)
  have C1 := Lib.hid (fun ww h => mput_any A l l.length cap rfl hcap m ww h hm)
  have C2 := Lib.hid (fun ww h => rput18_any A l l.length cap rfl m ww h)
  have C3 := Lib.hid (fun ww h => mfind_any A l l.length cap rfl m.ser ww h)
  have C4 := Lib.hid (fun ww h => rfind18_any A l l.length cap rfl m.ser ww h)
  have C5 := Lib.hid (fun ww h => mcheckall_any A l l.length cap rfl ww h)
  have C6 := Lib.hid (fun ww h => rcheckall18_any A l l.length cap rfl ww h)
  have C7 := Lib.hid (fun (A5 A6 : Option Addr) (cap5 cap6 : Nat) ww h h' => rsame18_any A5 A6 (MR.putL l m) (MR.putL l m).length cap5 (MR.putL l m).length cap6 rfl rfl ww h h')
  have CG := Lib.hid (fun ww => goes18_any ww)
  have HQ : Hid (∀ x ∈ MR.putL l m, markQ x) := Lib.hid (fun x hx => by
    unfold MR.putL at hx
    split at hx
    · rcases MR.put_mem hx with rfl | hx
      · exact hm
      · exact hI.2 x hx
    · cases hx)
  generalize MR.putE l m = pe at *
  generalize MR.putL l m = pl at *
  generalize MR.findN l m.ser = fn at *
  generalize MR.findB l m.ser = fb at *
  generalize MR.checkE l = r at *
  have hm0 := HM.out.lt
  clear hI hm hcap
  go_enter Try.func9, Try.ntmps9
  go_wp2_with fail
  generalize w.alloc (.cells #[.string m.ser.prod, .int .i64 m.ser.kind, .int .i64 m.ser.expiry, .int .i64 m.ser.strike, .int .i64 m.price] 59) = w0 at *
  have c0 := HM.out.cell 0; have c1 := HM.out.cell 1; have c2 := HM.out.cell 2; have c3 := HM.out.cell 3; have c4 := HM.out.cell 4
  simp only [List.getElem?_toArray, List.getElem?_cons_zero, List.getElem?_cons_succ] at c0 c1 c2 c3 c4
  go_wp2_with fail
  refine (C1.out _ HI.out).mono ?_
  rintro e w1 ⟨⟨v, rfl, hO⟩, b1⟩
  have HB1 := Lib.hid (HB0.out.trans (b1.mono HB0.out.size))
  have HM1 := Lib.hid (HM.out.below b1 hm0)
  have hm1 := HM1.out.lt
  have HI1 := Lib.hid (HI.out.below b1)
  obtain ⟨A5, cap5, rfl, hR, -⟩ := OwnR.recs hO
  have HA1 : Hid (Marks w1 A5 pl) := Lib.hid ⟨hR, HQ.out⟩
  rw [List.length_map]
  clear b1 hO hR c0 c1 c2 c3 c4 C1
  have c0 := HM1.out.cell 0; have c1 := HM1.out.cell 1; have c2 := HM1.out.cell 2; have c3 := HM1.out.cell 3; have c4 := HM1.out.cell 4
  simp only [List.getElem?_toArray, List.getElem?_cons_zero, List.getElem?_cons_succ] at c0 c1 c2 c3 c4
  go_wp2_with fail
  refine (C2.out _ HI1.out).mono ?_
  rintro e w2 ⟨⟨v, rfl, hO⟩, b2⟩
  have HB2 := Lib.hid (HB1.out.trans (b2.mono HB1.out.size))
  have HM2 := Lib.hid (HM1.out.below b2 hm1)
  have hm2 := HM2.out.lt
  have HI2 := Lib.hid (HI1.out.below b2)
  have HA2 := Lib.hid (HA1.out.below b2)
  obtain ⟨A6, cap6, rfl, hR, -⟩ := OwnR.recs hO
  have HC2 : Hid (Marks w2 A6 pl) := Lib.hid ⟨hR, HQ.out⟩
  rw [List.length_map]
  clear b2 hO hR c0 c1 c2 c3 c4 C2
  have c0 := HM2.out.cell 0; have c1 := HM2.out.cell 1; have c2 := HM2.out.cell 2; have c3 := HM2.out.cell 3; have c4 := HM2.out.cell 4
  simp only [List.getElem?_toArray, List.getElem?_cons_zero, List.getElem?_cons_succ] at c0 c1 c2 c3 c4
  go_wp2_with fail
  refine (C3.out _ HI2.out).mono ?_
  rintro e w3 ⟨rfl, b3⟩
  have HB3 := Lib.hid (HB2.out.trans (b3.mono HB2.out.size))
  have HM3 := Lib.hid (HM2.out.below b3 hm2)
  have HI3 := Lib.hid (HI2.out.below b3)
  have HA3 := Lib.hid (HA2.out.below b3)
  have HC3 := Lib.hid (HC2.out.below b3)
  clear b3 c0 c1 c2 c3 c4 C3
  have c0 := HM3.out.cell 0; have c1 := HM3.out.cell 1; have c2 := HM3.out.cell 2; have c3 := HM3.out.cell 3; have c4 := HM3.out.cell 4
  simp only [List.getElem?_toArray, List.getElem?_cons_zero, List.getElem?_cons_succ] at c0 c1 c2 c3 c4
  go_wp2_with fail
  refine (C4.out _ HI3.out).mono ?_
  rintro e w4 ⟨rfl, b4⟩
  have HB4 := Lib.hid (HB3.out.trans (b4.mono HB3.out.size))
  have HI4 := Lib.hid (HI3.out.below b4)
  have HA4 := Lib.hid (HA3.out.below b4)
  have HC4 := Lib.hid (HC3.out.below b4)
  clear b4 c0 c1 c2 c3 c4 C4
  go_wp2_with fail
  refine (C5.out _ HI4.out).mono ?_
  rintro e w5 ⟨rfl, b5⟩
  have HB5 := Lib.hid (HB4.out.trans (b5.mono HB4.out.size))
  have HI5 := Lib.hid (HI4.out.below b5)
  have HA5 := Lib.hid (HA4.out.below b5)
  have HC5 := Lib.hid (HC4.out.below b5)
  clear b5 C5
  go_wp2_with fail
  refine (C6.out _ HI5.out).mono ?_
  rintro e w6 ⟨rfl, b6⟩
  have HB6 := Lib.hid (HB5.out.trans (b6.mono HB5.out.size))
  have HA6 := Lib.hid (HA5.out.below b6)
  have HC6 := Lib.hid (HC5.out.below b6)
  clear b6 C6
  go_wp2_with fail
  refine (C7.out A5 A6 cap5 cap6 _ HA6.out HC6.out).mono ?_
  rintro e w7 ⟨rfl, n7, rfl⟩
  have HB7 := Lib.hid (below_drewN HB6.out n7)
  clear C7
  go_wp2_with fail
  refine (CG.out _).mono ?_
  rintro e w8 ⟨rfl, b8⟩
  have HB8 := Lib.hid (HB7.out.trans (b8.mono HB7.out.size))
  go_wp2_with fail
  go_ret
  exact ⟨rfl, HB8.out⟩
end Go.Proofs.Ytaegapcccboinaa.markLists

/- What the reach says of a text that opens a record, over any program. -/
namespace Go.Recs
open Go.ChangeShapes Go.WideShapes Go.RowKit Go.Deep
set_option linter.unusedVariables false
theorem first_sized {H : Type} {enc : TypeId × Value → H} {P : Program} {W : World} {base : Nat} {spare : Nat → Bool} {held : Bool} {T : TypeId} {cs : Array Value} {d : DataW H} {p : List MemPlace} {fs : Array Field} {f : Field} {s : ByteArray}
    {ts : List TypeId} {ds : List (DataW H)} {j : Nat}
    (h : (DataW.weightsEach P ts ds).all (· ≤ reachBytes) = true) (ht : ts[j]? = some T) (hd : ds[j]? = some d)
    (hT : DataW.Trod enc P W base spare held T (.agg cs) d p) (hu : P.underlying T = some (.struct fs)) (hf : fs[0]? = some f) (ho : f.offset = 0) (hs : P.underlying f.type = some .string) (hc : P.cellsOf f.type = 1) (hcs : cs[0]? = some (.string s)) :
    s.size ≤ 140737488351232 := by
  obtain ⟨fuel, hx⟩ := hT
  obtain ⟨xs, n, _, hxd, _, hxl, hfl⟩ := DataW.trod_struct hu hx
  have h0 := hfl 0 f hf
  have hpos : 0 < xs.length := by
    rw [hxl]
    rcases Nat.eq_zero_or_pos fs.size with e | e
    · rw [Array.getElem?_eq_none (by omega)] at hf; cases hf
    · exact e
  rw [List.getElem?_eq_getElem hpos] at h0
  obtain ⟨t, ht0, hx0, _⟩ := DataW.trod_string hs h0
  rw [ho, hc, List.drop_zero] at ht0
  have ets : t = s := by
    have e1 : (Value.agg cs).cells.toList.take 1 = [Value.string t] := ht0
    have e2 : (Value.agg cs).cells.toList[0]? = some (Value.string s) := by simpa [Value.cells] using hcs
    cases hl : (Value.agg cs).cells.toList with
    | nil => rw [hl] at e2; cases e2
    | cons a r => rw [hl] at e1 e2; simp at e1 e2; rw [e1] at e2; injection e2
  subst ets
  injection hxd with hd1 _
  have hw : t.data.toList.length ∈ d.weights P T := by
    rw [hd1]
    simp only [DataW.weights, hu]
    have hm := DataW.weights_mem_each (P := P) (ts := fs.toList.map (·.type)) (ds := xs.map (·.1)) (j := 0) (t := f.type) (d := xs[0].1) (by rw [List.getElem?_map, Array.getElem?_toList, hf]; rfl) (by rw [List.getElem?_map, List.getElem?_eq_getElem hpos]; rfl) t.data.toList.length
    apply hm
    rw [hx0]
    simp [DataW.weights]
  have := List.all_eq_true.1 h _ (DataW.weights_mem_each ht hd _ hw)
  have e : t.data.toList.length = t.size := Array.length_toList
  rw [e] at this
  have hr : reachBytes = 140737488351232 := by decide
  rw [← hr]
  simpa using this
end Go.Recs

/- A law's arguments: arrays of two and of three ints. -/
namespace Go.Proofs.Ytaegapcccboinaa
open Go.ChangeShapes Go.WideShapes Go.ChangeAt Go.RowKit
set_option linter.unusedVariables false
set_option maxRecDepth 100000

theorem array_two {T : Array Value} (h : T.size = 2) : ∃ a b, T = #[a, b] := by
  obtain ⟨l⟩ := T
  match l, h with
  | [a, b], _ => exact ⟨a, b, rfl⟩
theorem trod_two {H : Type} {enc : TypeId × Value → H} {P : Program} {w : World} {base : Nat} {spare : Nat → Bool} {held : Bool} {t e : TypeId} {fuel : Nat} {c0 c1 : Value} {x : DataW H × List MemPlace}
    (ht : P.underlying t = some (.array 2 e)) (hce : P.cellsOf e = 1) (h : DataW.trod enc P w base spare held fuel t [c0, c1] = some x) :
    ∃ y0 y1 n, DataW.trod enc P w base spare held n e [c0] = some y0 ∧ DataW.trod enc P w base spare held n e [c1] = some y1 := by
  cases fuel with
  | zero => simp [DataW.trod] at h
  | succ n =>
    unfold DataW.trod at h
    rw [ht] at h
    have r2 : List.range 2 = [0, 1] := rfl
    simp [r2, hce] at h
    obtain ⟨_, h⟩ := h
    cases h0 : DataW.trod enc P w base spare held n e [c0] with
    | none => simp [h0] at h
    | some y0 =>
      cases h1 : DataW.trod enc P w base spare held n e [c1] with
      | none => simp [h0, h1] at h
      | some y1 => exact ⟨y0, y1, n, h0, h1⟩
end Go.Proofs.Ytaegapcccboinaa

/- A law's arguments: products and series, by value and in slices. -/
namespace Go.Proofs.Ytaegapcccboinaa
open Go.ChangeShapes Go.WideShapes Go.ChangeAt Go.RowKit Go.Recs
set_option linter.unusedVariables false
set_option maxRecDepth 100000

theorem prod_leafs : leafs Try.prog 2 42 = some prodL := by kernel_rfl
theorem ser_leafs : leafs Try.prog 2 57 = some serL := by kernel_rfl
theorem open_prodV {H : Type} {enc : TypeId × Value → H} {W : World} {base b0 : Nat} {spare : Nat → Bool} {held : Bool} {r : Reach} {v : Value} {d : DataW H} {p : List MemPlace}
    (hv : Value.okWide Try.prog W r b0 42 v) (h : DataW.Trod enc Try.prog W base spare held 42 v d p) :
    ∃ x : QM.Prod, v = .agg #[.string x.name, .int .i64 x.cur, .int .i64 x.mult, .int .i64 x.tick, .int .i64 x.low, .int .i64 x.high, .bool x.phys] ∧ prodQ x := by
  obtain ⟨cs, rfl, hk⟩ := open_rec (n := 2) Try.underlying42 prod_leafs (by kernel_rfl) hv h
  obtain ⟨x, rfl, hq⟩ := prod_row cs hk
  exact ⟨x, rfl, hq⟩
theorem open_serV {H : Type} {enc : TypeId × Value → H} {W : World} {base b0 : Nat} {spare : Nat → Bool} {held : Bool} {r : Reach} {v : Value} {d : DataW H} {p : List MemPlace}
    (hv : Value.okWide Try.prog W r b0 57 v) (h : DataW.Trod enc Try.prog W base spare held 57 v d p) :
    ∃ x : EM.Ser, v = .agg #[.string x.prod, .int .i64 x.kind, .int .i64 x.expiry, .int .i64 x.strike] ∧ serQ x := by
  obtain ⟨cs, rfl, hk⟩ := open_rec (n := 2) Try.underlying57 ser_leafs (by kernel_rfl) hv h
  obtain ⟨x, rfl, hq⟩ := ser_row cs hk
  exact ⟨x, rfl, hq⟩
theorem prod_sized {H : Type} {enc : TypeId × Value → H} {W : World} {base : Nat} {spare : Nat → Bool} {held : Bool} {x : QM.Prod} {d : DataW H} {p : List MemPlace} {ts : List TypeId} {ds : List (DataW H)} {j : Nat}
    (h : (DataW.weightsEach Try.prog ts ds).all (· ≤ reachBytes) = true) (ht : ts[j]? = some 42) (hd : ds[j]? = some d)
    (hT : DataW.Trod enc Try.prog W base spare held 42 (.agg #[.string x.name, .int .i64 x.cur, .int .i64 x.mult, .int .i64 x.tick, .int .i64 x.low, .int .i64 x.high, .bool x.phys]) d p) : x.name.size ≤ 140737488351232 :=
  first_sized (cs := #[.string x.name, .int .i64 x.cur, .int .i64 x.mult, .int .i64 x.tick, .int .i64 x.low, .int .i64 x.high, .bool x.phys]) h ht hd hT Try.underlying42 rfl rfl Try.underlying9 (by kernel_rfl) rfl
theorem ser_sized {H : Type} {enc : TypeId × Value → H} {W : World} {base : Nat} {spare : Nat → Bool} {held : Bool} {x : EM.Ser} {d : DataW H} {p : List MemPlace} {ts : List TypeId} {ds : List (DataW H)} {j : Nat}
    (h : (DataW.weightsEach Try.prog ts ds).all (· ≤ reachBytes) = true) (ht : ts[j]? = some 57) (hd : ds[j]? = some d)
    (hT : DataW.Trod enc Try.prog W base spare held 57 (.agg #[.string x.prod, .int .i64 x.kind, .int .i64 x.expiry, .int .i64 x.strike]) d p) : x.prod.size ≤ 140737488351232 :=
  first_sized (cs := #[.string x.prod, .int .i64 x.kind, .int .i64 x.expiry, .int .i64 x.strike]) h ht hd hT Try.underlying57 rfl rfl Try.underlying9 (by kernel_rfl) rfl
end Go.Proofs.Ytaegapcccboinaa
