/- Contracts: a frame at a place, the program's. -/
import Derived.Test.YtegipokbbmnahaaWireG
import Derived.Deep.RegionWith
import Derived.Deep.DrawnRows
namespace Go.Proofs.Ytegipokbbmnahaa
open Go.RowKit
set_option linter.unusedVariables false
attribute [local go_sem ↓] Go.wp_at_zero Go.wp_at_succ

theorem frame_cases (m : List UInt8) : (XM.textE m ≠ 0 ∧ XM.frameE m = XM.textE m ∧ XM.frameN m = []) ∨ (XM.textE m = 0 ∧ (m.length : Int) - XM.textK m < 4 ∧ XM.frameE m = 6 ∧ XM.frameN m = []) ∨
    (XM.textE m = 0 ∧ 4 ≤ (m.length : Int) - XM.textK m ∧ (m.drop (XM.textK m)).take 4 ≠ XM.four (XM.sum (XM.textN m)) ∧ XM.frameE m = 9 ∧ XM.frameN m = []) ∨
    (XM.textE m = 0 ∧ 4 ≤ (m.length : Int) - XM.textK m ∧ (m.drop (XM.textK m)).take 4 = XM.four (XM.sum (XM.textN m)) ∧ XM.frameE m = 0 ∧ XM.frameN m = XM.textN m ∧ XM.frameK m = XM.textK m + 4) := by
  by_cases h0 : XM.textE m = 0
  · right
    by_cases h1 : (m.length : Int) - XM.textK m < 4
    · left
      have e : XM.frameE m = 6 := by unfold XM.frameE; rw [if_neg (by omega), if_pos h1]
      exact ⟨h0, h1, e, by unfold XM.frameN; rw [e]; simp⟩
    · right
      by_cases h2 : (m.drop (XM.textK m)).take 4 = XM.four (XM.sum (XM.textN m))
      · right
        have e : XM.frameE m = 0 := by unfold XM.frameE; rw [if_neg (by omega), if_neg h1, if_pos h2]
        exact ⟨h0, by omega, h2, e, by unfold XM.frameN; rw [if_pos e], by unfold XM.frameK; rw [if_pos e]⟩
      · left
        have e : XM.frameE m = 9 := by unfold XM.frameE; rw [if_neg (by omega), if_neg h1, if_neg h2]
        exact ⟨h0, by omega, h2, e, by unfold XM.frameN; rw [e]; simp⟩
  · left
    have e : XM.frameE m = XM.textE m := by unfold XM.frameE; rw [if_pos h0]
    exact ⟨h0, e, by unfold XM.frameN; rw [if_neg (by rw [e]; exact h0)]⟩

theorem sum_part (l : List UInt8) (p k : Nat) : (l.take (p + k + 4)).drop (p + k) = ((l.drop p).drop k).take 4 := by
  rw [List.drop_drop, List.drop_take]
  congr 1; omega
theorem S_eq (x y : List UInt8) : ((S x).toList == (S y).toList) = decide (x = y) := by
  rw [L_toList, L_toList, L_S, L_S]
  rw [Bool.eq_iff_iff]; simp

set_option maxHeartbeats 4000000 in
theorem frame_any (A : Option Addr) (n cap : Nat) (l : List UInt8) (p : Nat) (w : World) (hn : n = l.length) (hc : l.length ≤ cap) (hA : Bytes w A l) (hl : l.length ≤ 1000000) (hp : p ≤ l.length) :
    Calls Try.prog 45 #[.slice A n cap, .int .i64 (p : Int)] w fun e w' => (∃ v, e = .returned (.tuple #[v, .int .i64 (offOr (XM.frameE (l.drop p)) ((p : Int) + XM.frameK (l.drop p))), .int .i64 (XM.frameE (l.drop p))]) ∧ OB w' w.heap.size v (XM.frameN (l.drop p))) ∧ Below w.heap.size w w' := by
  subst hn
  have CB := bounds_any A l.length cap l p w rfl hc hA hl hp
  have hcs := frame_cases (l.drop p)
  rw [List.length_drop] at hcs
  rcases hcs with ⟨c0, e1, e2⟩ | ⟨c0, c1, e1, e2⟩ | ⟨c0, c1, c2, e1, e2⟩ | ⟨c0, c1, c2, e1, e2, e3⟩
  · rw [offOr_no c0, offOr_no c0] at CB
    rw [e1, e2, offOr_no c0]
    generalize XM.textE (l.drop p) = tE at *
    have d0 : (tE != 0) = true := by simpa using c0
    have HCB := Lib.hid CB
    clear CB c0 e1 e2 hA
    go_enter Try.func45, Try.ntmps45
    go_wp2_with fail
    (with_reducible refine HCB.out.mono ?_)
    rintro e w' ⟨rfl, rfl⟩
    go_wp2
    go_ret3
    exact ⟨⟨_, rfl, OB.nil _ _⟩, Below.refl _ _⟩
  · obtain ⟨f1, f2, f3⟩ := text_part hp c0
    rw [c0, offOr_ok rfl, offOr_ok rfl] at CB
    rw [e1, e2, offOr_no (by omega)]
    have q2 : ((p : Int) + XM.textK (l.drop p)) = ((p + XM.textK (l.drop p) : Nat) : Int) := by omega
    rw [q2] at CB
    have d1 : (l.length : Int) - ((p + XM.textK (l.drop p) : Nat) : Int) < 4 := by omega
    generalize p + XM.textK (l.drop p) = b at *
    have HCB := Lib.hid CB
    clear CB c0 e1 e2 hA f1 f2 q2 c1
    go_enter Try.func45, Try.ntmps45
    go_wp2_with fail
    (with_reducible refine HCB.out.mono ?_)
    rintro e w' ⟨rfl, rfl⟩
    go_wp2
    go_ret3
    exact ⟨⟨_, rfl, OB.nil _ _⟩, Below.refl _ _⟩
  · obtain ⟨f1, f2, f3⟩ := text_part hp c0
    rw [c0, offOr_ok rfl, offOr_ok rfl] at CB
    rw [e1, e2, offOr_no (by omega)]
    have q1 : ((p : Int) + XM.intK (l.drop p)) = ((p + XM.intK (l.drop p) : Nat) : Int) := by omega
    have q2 : ((p : Int) + XM.textK (l.drop p)) = ((p + XM.textK (l.drop p) : Nat) : Int) := by omega
    have sp := sum_part l p (XM.textK (l.drop p))
    rw [← sp] at c2
    rw [q1, q2] at CB
    have b4 : p + XM.textK (l.drop p) + 4 ≤ l.length := by omega
    generalize XM.textN (l.drop p) = tN at *
    generalize p + XM.intK (l.drop p) = a at *
    generalize p + XM.textK (l.drop p) = b at *
    have hbN := hA.cut f2 f3 hc
    rw [f1] at hbN
    have hbS := hA.cut (lo := b) (hi := b + 4) (by omega) b4 hc
    have hlN : b - a = tN.length := by rw [← f1, List.length_drop, List.length_take]; omega
    have hlS : ((l.take (b + 4)).drop b).length = 4 := by rw [List.length_drop, List.length_take]; omega
    generalize (l.take (b + 4)).drop b = sN at *
    have CS := fun (ww : World) (h : Below w.heap.size w ww) => sumOf_any (cutA A cap a) (b - a) (cap - a) tN ww hlN (hbN.below h)
    have hsl1 := fun (ww : World) => run_part (A := A) (n := l.length) (cap := cap) (lo := b) (hi := b + 4) (by omega) (by omega) ww
    have hsl2 := fun (ww : World) => run_part (A := A) (n := l.length) (cap := cap) (lo := a) (hi := b) f2 (by omega) ww
    have e4 : ((b + 4 : Nat) : Int) = (b : Int) + 4 := by omega
    have e44 : b + 4 - b = 4 := by omega
    rw [e4, e44] at hsl1
    have HCV : Hid (∀ ww : World, Below w.heap.size w ww → (convert 40 9 (.slice (cutA A cap b) 4 (cap - b))).run Try.prog ww = .ok (.string (S sN)) ww) := Lib.hid (fun ww h => by
      have := str_of (hbS.below h) (cap - b)
      rw [hlS] at this
      exact this)
    have d1 : ¬ (l.length : Int) - (b : Int) < 4 := by omega
    generalize hfo : XM.four (XM.sum tN) = fo at *
    have hcmp := S_eq sN fo
    have hd : decide (sN = fo) = false := decide_eq_false c2
    rw [hd] at hcmp
    clear hd c2
    have HCB := Lib.hid CB; have HCS := Lib.hid CS; have HS2 := Lib.hid hsl2; have HBN := Lib.hid hbN; have HLN := Lib.hid hlN
    have hw0 : Below w.heap.size w w.drew := (Below.refl _ _).drew
    have HW0 := Lib.hid hw0
    have hcv0 := HCV.out _ hw0
    have i1 : (0 : Int) ≤ (b : Int) := by omega
    have i2 : (b : Int) ≤ (b : Int) + 4 := by omega
    have i3 : (b : Int) + 4 ≤ (cap : Int) := by omega
    have i4 : (0 : Int) ≤ (a : Int) := by omega
    have i5 : (a : Int) ≤ (b : Int) := by omega
    have i6 : (b : Int) ≤ (cap : Int) := by omega
    generalize cutA A cap b = AS at *
    generalize cutA A cap a = AN at *
    clear CB CS hA hbN hbS hlS f1 f3 q1 q2 e4 e44 sp hw0 hfo hlN
    go_enter Try.func45, Try.ntmps45
    go_wp2_with fail
    (with_reducible refine HCB.out.mono ?_)
    rintro e w' ⟨rfl, rfl⟩
    go_wp2_with fail
    go_region_with (go_at_call 72; refine (HCS.out _ HW0.out).mono ?_; rintro e w2 ⟨⟨v2, rfl, o2⟩, b2⟩; obtain ⟨A3, c3, rfl, hb3⟩ := o2.bytes; have hcv2 := str_of hb3 c3; have HB2 := Lib.hid (HW0.out.trans (b2.mono HW0.out.size)); have hcv1 := HCV.out _ HB2.out; clear o2 b2 hb3)
    all_goals (
      go_wp2_with fail
      go_ret3
      exact ⟨⟨_, rfl, OB.nil _ _⟩, HB2.out⟩)
  · obtain ⟨f1, f2, f3⟩ := text_part hp c0
    rw [c0, offOr_ok rfl, offOr_ok rfl] at CB
    rw [e1, e2, offOr_ok rfl, e3]
    have q3 : ((p : Int) + ((XM.textK (l.drop p) + 4 : Nat) : Int)) = ((p + XM.textK (l.drop p) : Nat) : Int) + 4 := by omega
    rw [q3]
    have q1 : ((p : Int) + XM.intK (l.drop p)) = ((p + XM.intK (l.drop p) : Nat) : Int) := by omega
    have q2 : ((p : Int) + XM.textK (l.drop p)) = ((p + XM.textK (l.drop p) : Nat) : Int) := by omega
    have sp := sum_part l p (XM.textK (l.drop p))
    rw [← sp] at c2
    rw [q1, q2] at CB
    have b4 : p + XM.textK (l.drop p) + 4 ≤ l.length := by omega
    generalize XM.textN (l.drop p) = tN at *
    generalize p + XM.intK (l.drop p) = a at *
    generalize p + XM.textK (l.drop p) = b at *
    have hbN := hA.cut f2 f3 hc
    rw [f1] at hbN
    have hbS := hA.cut (lo := b) (hi := b + 4) (by omega) b4 hc
    have hlN : b - a = tN.length := by rw [← f1, List.length_drop, List.length_take]; omega
    have hlS : ((l.take (b + 4)).drop b).length = 4 := by rw [List.length_drop, List.length_take]; omega
    generalize (l.take (b + 4)).drop b = sN at *
    have CS := fun (ww : World) (h : Below w.heap.size w ww) => sumOf_any (cutA A cap a) (b - a) (cap - a) tN ww hlN (hbN.below h)
    have hsl1 := fun (ww : World) => run_part (A := A) (n := l.length) (cap := cap) (lo := b) (hi := b + 4) (by omega) (by omega) ww
    have hsl2 := fun (ww : World) => run_part (A := A) (n := l.length) (cap := cap) (lo := a) (hi := b) f2 (by omega) ww
    have e4 : ((b + 4 : Nat) : Int) = (b : Int) + 4 := by omega
    have e44 : b + 4 - b = 4 := by omega
    rw [e4, e44] at hsl1
    have HCV : Hid (∀ ww : World, Below w.heap.size w ww → (convert 40 9 (.slice (cutA A cap b) 4 (cap - b))).run Try.prog ww = .ok (.string (S sN)) ww) := Lib.hid (fun ww h => by
      have := str_of (hbS.below h) (cap - b)
      rw [hlS] at this
      exact this)
    have d1 : ¬ (l.length : Int) - (b : Int) < 4 := by omega
    generalize hfo : XM.four (XM.sum tN) = fo at *
    have hcmp := S_eq sN fo
    have hd : decide (sN = fo) = true := decide_eq_true c2
    rw [hd] at hcmp
    clear hd c2
    have HCB := Lib.hid CB; have HCS := Lib.hid CS; have HS2 := Lib.hid hsl2; have HBN := Lib.hid hbN; have HLN := Lib.hid hlN
    have hw0 : Below w.heap.size w w.drew := (Below.refl _ _).drew
    have HW0 := Lib.hid hw0
    have hcv0 := HCV.out _ hw0
    have i1 : (0 : Int) ≤ (b : Int) := by omega
    have i2 : (b : Int) ≤ (b : Int) + 4 := by omega
    have i3 : (b : Int) + 4 ≤ (cap : Int) := by omega
    have i4 : (0 : Int) ≤ (a : Int) := by omega
    have i5 : (a : Int) ≤ (b : Int) := by omega
    have i6 : (b : Int) ≤ (cap : Int) := by omega
    generalize cutA A cap b = AS at *
    generalize cutA A cap a = AN at *
    clear CB CS hA hbN hbS hlS f1 f3 q1 q2 e4 e44 sp hw0 hfo hlN q3 e3 e2 e1
    go_enter Try.func45, Try.ntmps45
    go_wp2_with fail
    (with_reducible refine HCB.out.mono ?_)
    rintro e w' ⟨rfl, rfl⟩
    go_wp2_with fail
    go_region_with (go_at_call 72; refine (HCS.out _ HW0.out).mono ?_; rintro e w2 ⟨⟨v2, rfl, o2⟩, b2⟩; obtain ⟨A3, c3, rfl, hb3⟩ := o2.bytes; have hcv2 := str_of hb3 c3; have HB2 := Lib.hid (HW0.out.trans (b2.mono HW0.out.size)); have hcv1 := HCV.out _ HB2.out; clear o2 b2 hb3)
    all_goals (
      clear hcv1
      have hsl3 := HS2.out w2
      have hp := Pcs.made w2 [⟨AN, tN, cap - a⟩] (by
        intro q hq
        simp at hq
        rw [hq]
        exact HBN.out.below HB2.out) (by simp [maxLen])
      unfold Pc.val at hp
      simp only [List.map_cons, List.map_nil, ← HLN.out] at hp
      have HP := Lib.hid hp
      clear hp
      go_wp2_with fail
      refine (joined_any _ 1 1 _ _ rfl HP.out (by unfold lenP flatP; simp; have := HLN.out; omega)).mono ?_
      rintro e w3 ⟨⟨v3, rfl, o3⟩, b3⟩
      have HO3 : Hid (OB w3 w.heap.size v3 tN) := Lib.hid (OB.base (by simpa [flatP] using o3) (by have := HB2.out.size; simp; omega))
      have HB3 : Hid (Below w.heap.size w w3) := Lib.hid ((HB2.out.alloc HB2.out.size _).trans (b3.mono (by have := HB2.out.size; simp; omega)))
      clear o3 b3
      go_wp2
      go_ret3
      exact ⟨⟨_, rfl, HO3.out⟩, HB3.out⟩)
end Go.Proofs.Ytegipokbbmnahaa
