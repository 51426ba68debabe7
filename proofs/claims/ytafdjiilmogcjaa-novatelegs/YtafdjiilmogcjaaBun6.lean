/- Put together: TrdCells, TrdBox, NovD, NovD2, RecsCat, NovE, NovB. -/
import Derived.Test.YtafdjiilmogcjaaBun3
import Derived.Test.YtafdjiilmogcjaaBun4
import Derived.Test.YtafdjiilmogcjaaBun5
import Derived.WalkMore
import Derived.BigQuiet
import Derived.Deep.RegionHeld3
import Derived.IntWalk
import Derived.Test.YtafdjiilmogcjaaBun1
import Derived.Laws.MakeOwn
/- Trades in memory, over any program. -/
namespace Go.Recs
open Go.RowKit
set_option linter.unusedVariables false
def trdV (t : TM.Trd) : List Value := [.int .i64 t.id, .int .i64 t.day, .int .i64 t.time, .string t.ser.prod, .int .i64 t.ser.kind, .int .i64 t.ser.expiry, .int .i64 t.ser.strike, .int .i64 t.qty, .int .i64 t.price, .string t.bm, .string t.bn, .string t.sm, .string t.sn]
def trdQ (t : TM.Trd) : Prop := i64 t.id ∧ i64 t.day ∧ i64 t.time ∧ serQ t.ser ∧ i64 t.qty ∧ i64 t.price ∧ t.bm.size ≤ maxLen ∧ t.bn.size ≤ maxLen ∧ t.sm.size ≤ maxLen ∧ t.sn.size ≤ maxLen
def trdL : List Leaf := [.int .i64, .int .i64, .int .i64, .str, .int .i64, .int .i64, .int .i64, .int .i64, .int .i64, .str, .str, .str, .str]
theorem trd_row (r : List Value) (h : okAll trdL r) : ∃ t : TM.Trd, r = trdV t ∧ trdQ t := by
  obtain ⟨c0, r0, rfl, ⟨n0, rfl, h0⟩, g0⟩ := okAll_cons h
  obtain ⟨c1, r1, rfl, ⟨n1, rfl, h1⟩, g1⟩ := okAll_cons g0
  obtain ⟨c2, r2, rfl, ⟨n2, rfl, h2⟩, g2⟩ := okAll_cons g1
  obtain ⟨c3, r3, rfl, ⟨s3, rfl, h3⟩, g3⟩ := okAll_cons g2
  obtain ⟨c4, r4, rfl, ⟨n4, rfl, h4⟩, g4⟩ := okAll_cons g3
  obtain ⟨c5, r5, rfl, ⟨n5, rfl, h5⟩, g5⟩ := okAll_cons g4
  obtain ⟨c6, r6, rfl, ⟨n6, rfl, h6⟩, g6⟩ := okAll_cons g5
  obtain ⟨c7, r7, rfl, ⟨n7, rfl, h7⟩, g7⟩ := okAll_cons g6
  obtain ⟨c8, r8, rfl, ⟨n8, rfl, h8⟩, g8⟩ := okAll_cons g7
  obtain ⟨c9, r9, rfl, ⟨s9, rfl, h9⟩, g9⟩ := okAll_cons g8
  obtain ⟨c10, r10, rfl, ⟨s10, rfl, h10⟩, g10⟩ := okAll_cons g9
  obtain ⟨c11, r11, rfl, ⟨s11, rfl, h11⟩, g11⟩ := okAll_cons g10
  obtain ⟨c12, r12, rfl, ⟨s12, rfl, h12⟩, g12⟩ := okAll_cons g11
  rw [okAll_nil g12]
  exact ⟨⟨n0, n1, n2, ⟨s3, n4, n5, n6⟩, n7, n8, s9, s10, s11, s12⟩, rfl, bounds_i64 h0, bounds_i64 h1, bounds_i64 h2, ⟨h3, bounds_i64 h4, bounds_i64 h5, bounds_i64 h6⟩, bounds_i64 h7, bounds_i64 h8, h9, h10, h11, h12⟩
abbrev Trds := TR trdV trdQ 13
theorem trds_get {w : World} {A : Option Addr} {l : List TM.Trd} (h : Trds w A l) {k : Nat} (hk : k < l.length) :
    ∃ b off, ∃ t : TM.Trd, A = some ⟨b, off, none⟩ ∧ b < w.heap.size ∧ Hid (TM.tAt l k = t) ∧ trdQ t ∧ w.cell? ⟨b, off + k * 13, none⟩ = some (.int .i64 t.id) ∧ w.cell? ⟨b, off + k * 13 + 1, none⟩ = some (.int .i64 t.day) ∧
      w.cell? ⟨b, off + k * 13 + 2, none⟩ = some (.int .i64 t.time) ∧ w.cell? ⟨b, off + k * 13 + 3, none⟩ = some (.string t.ser.prod) ∧ w.cell? ⟨b, off + k * 13 + 4, none⟩ = some (.int .i64 t.ser.kind) ∧
      w.cell? ⟨b, off + k * 13 + 5, none⟩ = some (.int .i64 t.ser.expiry) ∧ w.cell? ⟨b, off + k * 13 + 6, none⟩ = some (.int .i64 t.ser.strike) ∧ w.cell? ⟨b, off + k * 13 + 7, none⟩ = some (.int .i64 t.qty) ∧
      w.cell? ⟨b, off + k * 13 + 8, none⟩ = some (.int .i64 t.price) ∧ w.cell? ⟨b, off + k * 13 + 9, none⟩ = some (.string t.bm) ∧ w.cell? ⟨b, off + k * 13 + 10, none⟩ = some (.string t.bn) ∧
      w.cell? ⟨b, off + k * 13 + 11, none⟩ = some (.string t.sm) ∧ w.cell? ⟨b, off + k * 13 + 12, none⟩ = some (.string t.sn) := by
  obtain ⟨b, off, rfl, hb, hq, hc⟩ := h.at_ hk
  exact ⟨b, off, l[k], rfl, hb, Lib.hid (TM.tAt_get hk), hq, hc 0 (by omega), hc 1 (by omega), hc 2 (by omega), hc 3 (by omega), hc 4 (by omega), hc 5 (by omega), hc 6 (by omega), hc 7 (by omega), hc 8 (by omega), hc 9 (by omega), hc 10 (by omega), hc 11 (by omega), hc 12 (by omega)⟩
/-- all cells of record k at once -/
def TCell (w : World) (b o : Nat) (t : TM.Trd) : Prop := w.cell? ⟨b, o, none⟩ = some (.int .i64 t.id) ∧ w.cell? ⟨b, o + 1, none⟩ = some (.int .i64 t.day) ∧
      w.cell? ⟨b, o + 2, none⟩ = some (.int .i64 t.time) ∧ w.cell? ⟨b, o + 3, none⟩ = some (.string t.ser.prod) ∧ w.cell? ⟨b, o + 4, none⟩ = some (.int .i64 t.ser.kind) ∧
      w.cell? ⟨b, o + 5, none⟩ = some (.int .i64 t.ser.expiry) ∧ w.cell? ⟨b, o + 6, none⟩ = some (.int .i64 t.ser.strike) ∧ w.cell? ⟨b, o + 7, none⟩ = some (.int .i64 t.qty) ∧
      w.cell? ⟨b, o + 8, none⟩ = some (.int .i64 t.price) ∧ w.cell? ⟨b, o + 9, none⟩ = some (.string t.bm) ∧ w.cell? ⟨b, o + 10, none⟩ = some (.string t.bn) ∧
      w.cell? ⟨b, o + 11, none⟩ = some (.string t.sm) ∧ w.cell? ⟨b, o + 12, none⟩ = some (.string t.sn)
theorem trdV_one (l : List TM.Trd) : ∀ r ∈ l.map trdV, ∀ u ∈ r, u.oneCell' = true := by
  intro r hr
  obtain ⟨t, _, rfl⟩ := List.mem_map.1 hr
  intro u hu
  simp only [trdV, List.mem_cons, List.not_mem_nil, or_false] at hu
  rcases hu with rfl | rfl | rfl | rfl | rfl | rfl | rfl | rfl | rfl | rfl | rfl | rfl | rfl <;> rfl
end Go.Recs

/- A trade in a box and in slices. -/
namespace Go.Proofs.Ytafdjiilmogcjaa
open Go.RowKit Go.Recs
set_option linter.unusedVariables false
set_option linter.unusedSimpArgs false
abbrev trdA (t : TM.Trd) : Value := .agg #[.int .i64 t.id, .int .i64 t.day, .int .i64 t.time, .string t.ser.prod, .int .i64 t.ser.kind, .int .i64 t.ser.expiry, .int .i64 t.ser.strike, .int .i64 t.qty, .int .i64 t.price, .string t.bm, .string t.bn, .string t.sm, .string t.sn]
abbrev trdC (t : TM.Trd) : Array Value := #[.int .i64 t.id, .int .i64 t.day, .int .i64 t.time, .string t.ser.prod, .int .i64 t.ser.kind, .int .i64 t.ser.expiry, .int .i64 t.ser.strike, .int .i64 t.qty, .int .i64 t.price, .string t.bm, .string t.bn, .string t.sm, .string t.sn]
theorem info_trd : (Try.prog.info? 45).map (fun i => (i.zero, i.size, i.bytes)) = some (some (trdA TM.zero), 13, 144) := by kernel_rfl
end Go.Proofs.Ytafdjiilmogcjaa

/- Contracts of layer 13: the legs of one trade, and what takes one back. -/
namespace Go.Proofs.Ytafdjiilmogcjaa
open Go.RowKit Go.Recs
set_option linter.unusedVariables false
set_option linter.unusedSimpArgs false
theorem wrap_min : wrap64 9223372036854775808 = -9223372036854775808 := by kernel_rfl
theorem neg64_min : NM.neg64 (-9223372036854775808) = -9223372036854775808 := rfl
theorem neg64_other {x : Int} (h : ¬ x = -9223372036854775808) : NM.neg64 x = -x := by unfold NM.neg64; rw [if_neg h]
theorem neg64_i64 {x : Int} (h : i64 x) : i64 (NM.neg64 x) := by
  unfold NM.neg64 i64 at *
  split <;> omega
set_option maxHeartbeats 1000000 in
theorem nundo_any (x : NM.Leg) (w : World) (hq : legQ x) :
    Calls Try.prog 20 #[legA x] w fun e w' => e = .returned (legA (NM.undo x)) ∧ Below w.heap.size w w' := by
  obtain ⟨am, an, s, q, p, t⟩ := x
  obtain ⟨-, -, -, ⟨q1, q2⟩, -, -⟩ := hq
  simp only at q1 q2
  have HB0 := Lib.hid (fun (a b : Array Value) => ((Below.refl w.heap.size w).alloc (Nat.le_refl _) (.cells a 47)).alloc (by simp) (.cells b 47))
  unfold NM.undo
  simp only
  by_cases h : q = -9223372036854775808
  · subst h
    rw [neg64_min]
    have hw := wrap_min
    go_enter Try.func20, Try.ntmps20
    go_wp2_with fail
    (try simp only [Exit.inBlock, Exit.then])
    exact bodyPost_ret (results_leg (x := ⟨am, an, s, -9223372036854775808, p, t⟩) rfl _ _ _ rfl (CB.new1 _ _ _ _)) rfl ⟨rfl, HB0.out _ _⟩
  · rw [neg64_other h]
    have h1 : -9223372036854775807 ≤ q := by omega
    clear h q1
    go_enter Try.func20, Try.ntmps20
    go_wp2_with fail
    (try simp only [Exit.inBlock, Exit.then])
    exact bodyPost_ret (results_leg (x := ⟨am, an, s, -q, p, t⟩) rfl _ _ _ rfl (CB.new1 _ _ _ _)) rfl ⟨rfl, HB0.out _ _⟩
set_option maxHeartbeats 1000000 in
theorem rundo13_any (x : NM.Leg) (w : World) (hq : legQ x) :
    Calls Try.prog 21 #[legA x] w fun e w' => e = .returned (legA (NM.undo x)) ∧ Below w.heap.size w w' := by
  obtain ⟨am, an, s, q, p, t⟩ := x
  obtain ⟨-, -, -, ⟨q1, q2⟩, -, -⟩ := hq
  simp only at q1 q2
  have HB0 := Lib.hid (fun (a b : Array Value) => ((Below.refl w.heap.size w).alloc (Nat.le_refl _) (.cells a 47)).alloc (by simp) (.cells b 47))
  unfold NM.undo
  simp only
  by_cases h : q = -9223372036854775808
  · subst h
    rw [neg64_min]
    have hw := wrap_min
    go_enter Try.func21, Try.ntmps21
    go_wp2_with fail
    (try simp only [Exit.inBlock, Exit.then])
    exact bodyPost_ret (results_leg (x := ⟨am, an, s, -9223372036854775808, p, t⟩) rfl _ _ _ rfl (CB.new1 _ _ _ _)) rfl ⟨rfl, HB0.out _ _⟩
  · rw [neg64_other h]
    have h1 : -9223372036854775807 ≤ q := by omega
    clear h q1
    go_enter Try.func21, Try.ntmps21
    go_wp2_with fail
    (try simp only [Exit.inBlock, Exit.then])
    exact bodyPost_ret (results_leg (x := ⟨am, an, s, -q, p, t⟩) rfl _ _ _ rfl (CB.new1 _ _ _ _)) rfl ⟨rfl, HB0.out _ _⟩

abbrev legW (w : World) (t : TM.Trd) (a b : ByteArray) (q : Int) : World := ((w.alloc (.cells (trdC t) 90)).alloc (.cells (kC a b) 26)).alloc (.cells (legC ⟨a, b, t.ser, q, t.price, t.id⟩) 47)
set_option maxHeartbeats 1000000 in
theorem nleg_any (t : TM.Trd) (a b : ByteArray) (q : Int) (w : World) :
    Calls Try.prog 44 #[trdA t, kA a b, .int .i64 q] w fun e w' => e = .returned (legA ⟨a, b, t.ser, q, t.price, t.id⟩) ∧ w' = legW w t a b q := by
  go_enter Try.func44, Try.ntmps44
  go_wp2_with fail
  (try simp only [Exit.inBlock, Exit.then])
  exact bodyPost_ret (results_leg (x := ⟨a, b, t.ser, q, t.price, t.id⟩) rfl _ _ _ rfl (CB.new2 _ _ _ _ _)) rfl ⟨rfl, rfl⟩

set_option maxHeartbeats 2000000 in
theorem rlegs13_any (t : TM.Trd) (w : World) (hq : trdQ t) :
    Calls Try.prog 18 #[trdA t] w fun e w' => e = .returned (.tuple #[legA (NM.bought t), legA (NM.sold t)]) ∧ Below w.heap.size w w' := by
  obtain ⟨-, -, -, -, ⟨q1, q2⟩, -, -, -, -, -⟩ := hq
  have HB0 := Lib.hid (fun a b c d e => below_al (below_al (below_al (below_al (below_al (Below.refl w.heap.size w) a) b) c) d) e)
  by_cases h : t.qty = -9223372036854775808
  · have e1 : NM.sold t = ⟨t.sm, t.sn, t.ser, -9223372036854775808, t.price, t.id⟩ := by unfold NM.sold; rw [h]; rfl
    obtain ⟨id, day, time, s, q, p, bm, bn, sm, sn⟩ := t
    simp only at h
    subst h
    rw [e1]
    have hw := wrap_min
    clear e1 q1 q2
    unfold NM.bought
    go_enter Try.func18, Try.ntmps18
    go_wp2_with fail
    go_region
    all_goals (
      go_wp2_with fail
      (try simp only [Exit.inBlock, Exit.then])
      exact bodyPost_ret (results_legs (x := ⟨bm, bn, s, -9223372036854775808, p, id⟩) (y := ⟨sm, sn, s, -9223372036854775808, p, id⟩) rfl _ _ _ _ rfl rfl ((((CB.new1 _ _ _ _).alloc _).alloc _).alloc _) (((CB.new2 _ _ _ _ _).alloc _).alloc _)) rfl ⟨rfl, (HB0.out _ _ _ _ _).drew⟩)
  · have e1 : NM.sold t = ⟨t.sm, t.sn, t.ser, -t.qty, t.price, t.id⟩ := by unfold NM.sold; rw [neg64_other h]
    have h1 : -9223372036854775807 ≤ t.qty := by omega
    rw [e1]
    clear e1 h q1
    unfold NM.bought
    go_enter Try.func18, Try.ntmps18
    go_wp2_with fail
    go_region
    all_goals (
      go_wp2_with fail
      (try simp only [Exit.inBlock, Exit.then])
      exact bodyPost_ret (results_legs (x := ⟨t.bm, t.bn, t.ser, t.qty, t.price, t.id⟩) (y := ⟨t.sm, t.sn, t.ser, -t.qty, t.price, t.id⟩) rfl _ _ _ _ rfl rfl ((((CB.new1 _ _ _ _).alloc _).alloc _).alloc _) (((CB.new2 _ _ _ _ _).alloc _).alloc _)) rfl ⟨rfl, (HB0.out _ _ _ _ _).drew⟩)

end Go.Proofs.Ytafdjiilmogcjaa

/- Contracts of layer 13: the legs of one trade, the program's. -/
namespace Go.Proofs.Ytafdjiilmogcjaa
open Go.RowKit Go.Recs
set_option linter.unusedVariables false
set_option linter.unusedSimpArgs false
theorem nleg_below (t : TM.Trd) (a b : ByteArray) (q : Int) (w : World) :
    Calls Try.prog 44 #[trdA t, kA a b, .int .i64 q] w fun e w' => e = .returned (legA ⟨a, b, t.ser, q, t.price, t.id⟩) ∧ Below w.heap.size w w' := by
  refine (nleg_any t a b q w).mono ?_
  rintro e w' ⟨rfl, rfl⟩
  exact ⟨rfl, below_al (below_al (below_al (Below.refl w.heap.size w) _) _) _⟩
theorem put9_below {a w : World} {B g : Nat} {c0 c1 c2 c3 c4 c5 c6 c7 c8 : Value} (h : Below B a w) (hg : B ≤ g) : Below B a (((((((((w.setCell ⟨g, 0, none⟩ c0).setCell ⟨g, 1, none⟩ c1).setCell ⟨g, 2, none⟩ c2).setCell ⟨g, 3, none⟩ c3).setCell ⟨g, 4, none⟩ c4).setCell ⟨g, 5, none⟩ c5).setCell ⟨g, 6, none⟩ c6).setCell ⟨g, 7, none⟩ c7).setCell ⟨g, 8, none⟩ c8) :=
  ((((((((h.setCell (p := ⟨g, 0, none⟩) hg _).setCell (p := ⟨g, 1, none⟩) hg _).setCell (p := ⟨g, 2, none⟩) hg _).setCell (p := ⟨g, 3, none⟩) hg _).setCell (p := ⟨g, 4, none⟩) hg _).setCell (p := ⟨g, 5, none⟩) hg _).setCell (p := ⟨g, 6, none⟩) hg _).setCell (p := ⟨g, 7, none⟩) hg _).setCell (p := ⟨g, 8, none⟩) hg _
theorem CB.put9 {w : World} {g : Nat} {ty : TypeId} {d0 d1 d2 d3 d4 d5 d6 d7 d8 c0 c1 c2 c3 c4 c5 c6 c7 c8 : Value} (h : CB w g ty #[d0, d1, d2, d3, d4, d5, d6, d7, d8]) : CB (((((((((w.setCell ⟨g, 0, none⟩ c0).setCell ⟨g, 1, none⟩ c1).setCell ⟨g, 2, none⟩ c2).setCell ⟨g, 3, none⟩ c3).setCell ⟨g, 4, none⟩ c4).setCell ⟨g, 5, none⟩ c5).setCell ⟨g, 6, none⟩ c6).setCell ⟨g, 7, none⟩ c7).setCell ⟨g, 8, none⟩ c8) g ty #[c0, c1, c2, c3, c4, c5, c6, c7, c8] := by
  have := ((((((((h.set_ 0 c0).set_ 1 c1).set_ 2 c2).set_ 3 c3).set_ 4 c4).set_ 5 c5).set_ 6 c6).set_ 7 c7).set_ 8 c8
  simpa using this
theorem CB.far9 {w : World} {g j : Nat} {ty : TypeId} {cs : Array Value} {c0 c1 c2 c3 c4 c5 c6 c7 c8 : Value} (h : CB w j ty cs) (hne : j ≠ g) : CB (((((((((w.setCell ⟨g, 0, none⟩ c0).setCell ⟨g, 1, none⟩ c1).setCell ⟨g, 2, none⟩ c2).setCell ⟨g, 3, none⟩ c3).setCell ⟨g, 4, none⟩ c4).setCell ⟨g, 5, none⟩ c5).setCell ⟨g, 6, none⟩ c6).setCell ⟨g, 7, none⟩ c7).setCell ⟨g, 8, none⟩ c8) j ty cs :=
  ((((((((h.far (p := ⟨g, 0, none⟩) hne _).far (p := ⟨g, 1, none⟩) hne _).far (p := ⟨g, 2, none⟩) hne _).far (p := ⟨g, 3, none⟩) hne _).far (p := ⟨g, 4, none⟩) hne _).far (p := ⟨g, 5, none⟩) hne _).far (p := ⟨g, 6, none⟩) hne _).far (p := ⟨g, 7, none⟩) hne _).far (p := ⟨g, 8, none⟩) hne _
theorem wrap_neg {q : Int} (h1 : -9223372036854775808 ≤ q) (h2 : q ≤ 9223372036854775807) : IntKind.i64.wrap (-q) = NM.neg64 q := by
  by_cases h : q = -9223372036854775808
  · subst h; kernel_rfl
  · rw [neg64_other h, IntWalk.i64_left]
    exact IntWalk.wrap64_in _ ⟨by omega, by omega⟩
theorem drewN_one (w : World) : w.drewN 1 = w.drew := rfl
theorem below_part {w a b : World} (h : Below w.heap.size w a) (hb : Below (w.heap.size + 1) a b) : Below w.heap.size w b := h.trans (hb.mono (Nat.le_succ _))
set_option maxHeartbeats 8000000 in
theorem nlegs_any (t : TM.Trd) (w : World) (hq : trdQ t) :
    Calls Try.prog 17 #[trdA t] w fun e w' => e = .returned (.tuple #[legA (NM.bought t), legA (NM.sold t)]) ∧ Below w.heap.size w w' := by
  obtain ⟨-, -, -, -, ⟨q1, q2⟩, -, -, -, -, -⟩ := hq
  have hmf : ∀ (fn : Fn) (first cap : Array Value) (w : World), (Instr.makeFunc fn first cap).run Try.prog w = .ok (.func fn first cap) w := fun _ _ _ _ => rfl
  have C := Lib.hid (fun a b q ww => nleg_below t a b q ww)
  have HT : Hid (CB (((w.alloc (.cells (trdC t) 45)).alloc (.cells #[.string ⟨#[]⟩, .string ⟨#[]⟩, .string ⟨#[]⟩, .int .i64 0, .int .i64 0, .int .i64 0, .int .i64 0, .int .i64 0, .int .i64 0] 47)).alloc (.cells #[.string ⟨#[]⟩, .string ⟨#[]⟩, .string ⟨#[]⟩, .int .i64 0, .int .i64 0, .int .i64 0, .int .i64 0, .int .i64 0, .int .i64 0] 47)) w.heap.size 45 (trdC t)) := Lib.hid (((CB.new w 45 (trdC t)).alloc _).alloc _)
  have H1 : Hid (CB (((w.alloc (.cells (trdC t) 45)).alloc (.cells #[.string ⟨#[]⟩, .string ⟨#[]⟩, .string ⟨#[]⟩, .int .i64 0, .int .i64 0, .int .i64 0, .int .i64 0, .int .i64 0, .int .i64 0] 47)).alloc (.cells #[.string ⟨#[]⟩, .string ⟨#[]⟩, .string ⟨#[]⟩, .int .i64 0, .int .i64 0, .int .i64 0, .int .i64 0, .int .i64 0, .int .i64 0] 47)) (w.heap.size + 1) 47 #[.string ⟨#[]⟩, .string ⟨#[]⟩, .string ⟨#[]⟩, .int .i64 0, .int .i64 0, .int .i64 0, .int .i64 0, .int .i64 0, .int .i64 0]) := Lib.hid ((CB.new1 w (.cells (trdC t) 45) 47 _).alloc _)
  have H2 : Hid (CB (((w.alloc (.cells (trdC t) 45)).alloc (.cells #[.string ⟨#[]⟩, .string ⟨#[]⟩, .string ⟨#[]⟩, .int .i64 0, .int .i64 0, .int .i64 0, .int .i64 0, .int .i64 0, .int .i64 0] 47)).alloc (.cells #[.string ⟨#[]⟩, .string ⟨#[]⟩, .string ⟨#[]⟩, .int .i64 0, .int .i64 0, .int .i64 0, .int .i64 0, .int .i64 0, .int .i64 0] 47)) (w.heap.size + 1 + 1) 47 #[.string ⟨#[]⟩, .string ⟨#[]⟩, .string ⟨#[]⟩, .int .i64 0, .int .i64 0, .int .i64 0, .int .i64 0, .int .i64 0, .int .i64 0]) := Lib.hid (CB.new2 w (.cells (trdC t) 45) _ 47 _)
  have HB3 : Hid (Below w.heap.size w (((w.alloc (.cells (trdC t) 45)).alloc (.cells #[.string ⟨#[]⟩, .string ⟨#[]⟩, .string ⟨#[]⟩, .int .i64 0, .int .i64 0, .int .i64 0, .int .i64 0, .int .i64 0, .int .i64 0] 47)).alloc (.cells #[.string ⟨#[]⟩, .string ⟨#[]⟩, .string ⟨#[]⟩, .int .i64 0, .int .i64 0, .int .i64 0, .int .i64 0, .int .i64 0, .int .i64 0] 47))) := Lib.hid (below_al (below_al (below_al (Below.refl w.heap.size w) _) _) _)
  have HSF : Hid (∀ ww, Below (w.heap.size + 1) (((w.alloc (.cells (trdC t) 45)).alloc (.cells #[.string ⟨#[]⟩, .string ⟨#[]⟩, .string ⟨#[]⟩, .int .i64 0, .int .i64 0, .int .i64 0, .int .i64 0, .int .i64 0, .int .i64 0] 47)).alloc (.cells #[.string ⟨#[]⟩, .string ⟨#[]⟩, .string ⟨#[]⟩, .int .i64 0, .int .i64 0, .int .i64 0, .int .i64 0, .int .i64 0, .int .i64 0] 47)) ww → ww.cell? ⟨w.heap.size, 7, none⟩ = some (.int .i64 t.qty) ∧ ww.cell? ⟨w.heap.size, 9, none⟩ = some (.string t.bm) ∧ ww.cell? ⟨w.heap.size, 10, none⟩ = some (.string t.bn) ∧ ww.cell? ⟨w.heap.size, 11, none⟩ = some (.string t.sm) ∧ ww.cell? ⟨w.heap.size, 12, none⟩ = some (.string t.sn)) := Lib.hid (fun ww h => by
    have hh := HT.out.below h (Nat.lt_succ_self _)
    exact ⟨hh.cell 7, hh.cell 9, hh.cell 10, hh.cell 11, hh.cell 12⟩)
  have HZ : Hid (w.heap.size + 1 ≤ (((w.alloc (.cells (trdC t) 45)).alloc (.cells #[.string ⟨#[]⟩, .string ⟨#[]⟩, .string ⟨#[]⟩, .int .i64 0, .int .i64 0, .int .i64 0, .int .i64 0, .int .i64 0, .int .i64 0] 47)).alloc (.cells #[.string ⟨#[]⟩, .string ⟨#[]⟩, .string ⟨#[]⟩, .int .i64 0, .int .i64 0, .int .i64 0, .int .i64 0, .int .i64 0, .int .i64 0] 47)).heap.size) := Lib.hid (by simp)
  clear HT
  have HG1 : Hid (w.heap.size + 1 ≤ w.heap.size + 1) := Lib.hid (Nat.le_refl _)
  have HG2 : Hid (w.heap.size + 1 ≤ w.heap.size + 1 + 1) := Lib.hid (Nat.le_succ _)
  have hw : IntKind.i64.wrap (-t.qty) = NM.neg64 t.qty := wrap_neg q1 q2
  have e1 : NM.sold t = ⟨t.sm, t.sn, t.ser, NM.neg64 t.qty, t.price, t.id⟩ := rfl
  rw [e1]
  generalize NM.neg64 t.qty = y at *
  clear e1 q1 q2
  unfold NM.bought
  go_enter Try.func17, Try.ntmps17
  go_wp2_with fail
  generalize ((w.alloc (.cells (trdC t) 45)).alloc (.cells #[.string ⟨#[]⟩, .string ⟨#[]⟩, .string ⟨#[]⟩, .int .i64 0, .int .i64 0, .int .i64 0, .int .i64 0, .int .i64 0, .int .i64 0] 47)).alloc (.cells #[.string ⟨#[]⟩, .string ⟨#[]⟩, .string ⟨#[]⟩, .int .i64 0, .int .i64 0, .int .i64 0, .int .i64 0, .int .i64 0, .int .i64 0] 47) = w3 at *
  have HBw : Hid (Below (w.heap.size + 1) w3 w3.drew) := Lib.hid (Below.refl _ _).drew
  replace H1 := Lib.hid ((H1.out).drewN 1)
  replace H2 := Lib.hid ((H2.out).drewN 1)
  rw [drewN_one] at H1 H2
  go_region_held3 (fun ww => ww.cell? ⟨w.heap.size, 7, none⟩ = some (.int .i64 t.qty) ∧ ww.cell? ⟨w.heap.size, 9, none⟩ = some (.string t.bm) ∧ ww.cell? ⟨w.heap.size, 10, none⟩ = some (.string t.bn) ∧ ww.cell? ⟨w.heap.size, 11, none⟩ = some (.string t.sm) ∧ ww.cell? ⟨w.heap.size, 12, none⟩ = some (.string t.sn))
    (first | (with_reducible exact HSF.out _ HBw.out) | (with_reducible exact HSF.out _ (put9_below HBw.out HG1.out)) | (with_reducible exact HSF.out _ (put9_below HBw.out HG2.out)) | (with_reducible exact HSF.out _ (put9_below (put9_below HBw.out HG1.out) HG2.out)) | (with_reducible exact HSF.out _ (put9_below (put9_below HBw.out HG2.out) HG1.out)))
    (first
      | (go_at_call 44; refine (C.out _ _ _ _).mono ?_; rintro e w5 ⟨rfl, b5⟩; replace HBw := Lib.hid (HBw.out.trans (b5.mono (Nat.le_trans HZ.out HBw.out.size))); replace H1 := Lib.hid (H1.out.below b5 H1.out.lt); replace H2 := Lib.hid (H2.out.below b5 H2.out.lt); clear b5; have ak : ∀ i, w5.cell? ⟨w.heap.size + 1, i, none⟩ = _ := fun i => H1.out.cell i; have af : ∀ i, w5.frozen? ⟨w.heap.size + 1, i, none⟩ = false := fun i => H1.out.frozen i; have bk : ∀ i, w5.cell? ⟨w.heap.size + 1 + 1, i, none⟩ = _ := fun i => H2.out.cell i; have bf : ∀ i, w5.frozen? ⟨w.heap.size + 1 + 1, i, none⟩ = false := fun i => H2.out.frozen i))
  all_goals (
    clear HSF C hmf
    have hn1 : w.heap.size + 1 ≠ w.heap.size + 1 + 1 := by omega
    have HQ1 := Lib.hid hn1
    have HBF := Lib.hid (below_part HB3.out HBw.out)
    clear hn1 HBw HB3 HZ ak af bk bf
    go_wp2_with fail
    (try simp only [Exit.inBlock, Exit.then])
    refine bodyPost_ret (results_legs (x := ⟨t.bm, t.bn, t.ser, t.qty, t.price, t.id⟩) (y := ⟨t.sm, t.sn, t.ser, y, t.price, t.id⟩) rfl _ _ _ _ rfl rfl ?b1 ?b2) rfl ⟨rfl, ?b3⟩
    case b1 => exact CB.far9 (CB.put9 H1.out) HQ1.out
    case b2 => exact CB.put9 (CB.far9 H2.out HQ1.out.symm)
    case b3 => exact put9_below (put9_below HBF.out (Nat.le_succ _)) (Nat.le_trans (Nat.le_succ _) (Nat.le_succ _)))
end Go.Proofs.Ytafdjiilmogcjaa

/- 's = append(s, l...)', l a slice of records. Over any program. -/
namespace Go.Recs
open Go.RowKit
set_option linter.unusedVariables false
set_option linter.unusedSimpArgs false

theorem run_catR {P : Program} (w : World) (B : Nat) (rows more : List (List Value)) (ts t ty : TypeId) (sz bytes : Nat) (z : Value)
    (hu : P.underlying ts = some (.slice t)) (hinfo : (P.info? t).map (fun i => (i.zero, i.size, i.bytes)) = some (some z, sz, bytes)) (hz : z.cells.size = sz) (h0 : 0 < sz)
    (v : Value) (hown : OwnR w B t sz v rows) (A : Option Addr) (c : Nat) (hm : Recs w A sz more) (h1 : ∀ r ∈ more, ∀ u ∈ r, u.oneCell' = true)
    (hl : (rows.length + more.length) * bytes ≤ 140737488355328) (hmx : rows.length + more.length ≤ maxLen) (hB : B ≤ w.heap.size) :
    ∃ v' w', (Builtin.append_ #[ts, ts] ty #[v, .slice A more.length c]).run P w = .ok v' w' ∧ OwnR w' B t sz v' (rows ++ more) ∧ w.grownBy w' v.ownBlock := by
  obtain ⟨i0, hi, hz0, hz1, hz2⟩ := info_parts hinfo
  have hrr : ∀ r ∈ rows ++ more, r.length = sz := by
    intro r hr
    rcases List.mem_append.1 hr with hr | hr
    · exact hown.1 r hr
    · exact hm.2.1 r hr
  have key : ∀ ad, A = some ad → ∃ v' w', (Builtin.append_ #[ts, ts] ty #[v, .slice A more.length c]).run P w = .ok v' w' ∧ OwnR w' B t sz v' (rows ++ more) ∧ w.grownBy w' v.ownBlock := by
    rintro ad rfl
    have hcells : ∀ j u, more.flatten[j]? = some u → w.cell? (ad.add j) = some u := by
      intro j u hj
      rcases hm.2.2 with e | ⟨b, off, e, hb, hcell⟩
      · subst e; simp at hj
      · injection e with e
        subst e
        have hlt : j < more.flatten.length := by
          rcases Nat.lt_or_ge j more.flatten.length with h | h
          · exact h
          · rw [List.getElem?_eq_none h] at hj; cases hj
        rw [flat_len hm.2.1] at hlt
        have hi' : j / sz < more.length := Nat.div_lt_of_lt_mul (by rw [Nat.mul_comm]; exact hlt)
        have hj' : j % sz < sz := Nat.mod_lt _ h0
        have ej : j / sz * sz + j % sz = j := by rw [Nat.mul_comm]; exact Nat.div_add_mod j sz
        have e := flat_at hm.2.1 (j / sz) (j % sz) hi' hj'
        have e2 := hcell (j / sz) (j % sz) hi' hj'
        rw [ej] at e e2
        rw [add_at, e2, ← e, hj]
    obtain ⟨v', w', hr, h2, h3, _, _⟩ := run_append_own_at (P := P) w B ts ty t i0 z sz bytes hu hi hz0 hz1 hz2 hz h0 v rows.length rows.flatten hown.2 ad more.length c more.flatten
      (flat_len hm.2.1) hcells (fun u hu => by obtain ⟨r, hr, hur⟩ := List.mem_flatten.1 hu; exact h1 r hr u hur) hmx hl hB
    refine ⟨v', w', hr, ⟨hrr, ?_⟩, h3⟩
    rw [List.length_append, List.flatten_append]
    exact h2
  cases A with
  | some ad => exact key ad rfl
  | none =>
    have : more = [] := by
      rcases hm.2.2 with h | ⟨b, off, e, _⟩
      · exact h
      · cases e
    subst this
    refine ⟨v, w, ?_, by simpa using hown, World.grownBy.refl w _⟩
    rcases hown.form with ⟨hv, _⟩ | ⟨g, cap, hv, _, _, hnc⟩ <;> rw [hv]
    · simp [Builtin.append_, run_underlying hu, sizeOf, typeInfo, hi, Builtin.lenOf, Builtin.firstCells]
    · simp [Builtin.append_, run_underlying hu, sizeOf, typeInfo, hi, Builtin.lenOf, Builtin.firstCells, storeCells]
      omega

theorem wpList_catR {P : Program} {ops : Array Oper} {rest : List Oper} {o : Oper} {a : Act} {Q : Exit → Act → World → Prop} (w : World) (B : Nat) (rows more : List (List Value)) (x y : Operand) (ts t : TypeId) (sz bytes : Nat) (z : Value)
    (hu : P.underlying ts = some (.slice t)) (hinfo : (P.info? t).map (fun i => (i.zero, i.size, i.bytes)) = some (some z, sz, bytes)) (hz : z.cells.size = sz) (h0 : 0 < sz)
    (hgd : o.guard = none) (ho : o.op = .call { callee := .builtin .append, args := #[x, y], argTypes := #[ts, ts] })
    (v : Value) (A : Option Addr) (n c : Nat) (hs : a.eval x = v) (hx : a.eval y = .slice A n c) (hn : n = more.length) (hown : OwnR w B t sz v rows) (hm : Recs w A sz more) (h1 : ∀ r ∈ more, ∀ u ∈ r, u.oneCell' = true)
    (hl : (rows.length + more.length) * bytes ≤ 140737488355328) (hmx : rows.length + more.length ≤ maxLen) (hB : B ≤ w.heap.size)
    (h : ∀ v' w', OwnR w' B t sz v' (rows ++ more) → Below B w w' → w.grownBy w' v.ownBlock → wpList P ops Q rest (a.put o.dst v') w') :
    wpList P ops Q (o :: rest) a w := by
  subst hn
  obtain ⟨v', w', hr, h2, h3⟩ := run_catR w B rows more ts t o.type sz bytes z hu hinfo hz h0 v hown A c hm h1 hl hmx hB
  refine wpList_plain hgd fun K hK => ?_
  unfold Oper.wp execOp
  simp only [ho, resolve, invoke, builtin, Sem.run_bind, Sem.run_pure, Result.andThen_ok, List.map_toArray, List.map_cons, List.map_nil, hs, hx, hr]
  exact hK _ _ (h v' w' h2 ((Below.refl B w).grown h3 hB (OwnR.block hown)) h3)
end Go.Recs

/- Contracts of layer 13: the legs of all trades. -/
namespace Go.Proofs.Ytafdjiilmogcjaa
open Go.RowKit Go.Recs
set_option linter.unusedVariables false
set_option linter.unusedSimpArgs false
def lzeros (n : Nat) : Array Value := madeCells (legC NM.zero) (n * 9)
theorem make_legs (n : Nat) (hn : n * 96 ≤ 140737488355328) (u : World) : (Instr.makeSlice 51 (.int .i64 0) (.int .i64 (n : Int))).run Try.prog u =
    .ok (.slice (some ⟨u.heap.size, 0, none⟩) 0 n) (u.alloc (.cells (lzeros n) 47)) := by
  obtain ⟨i0, hi, hz0, hz1, hz2⟩ := info_parts info_leg
  have h := run_make (P := Try.prog) u 51 47 i0 (legA NM.zero) Try.underlying51 hi hz0 .i64 .i64 (0 : Int) (n : Int) (by omega) (by omega) (by rw [hz2]; omega) (by omega)
  rw [Int.toNat_natCast] at h
  simpa [hz1, Value.cells, lzeros] using h
theorem lzeros_size (n : Nat) : (lzeros n).size = n * 9 := by
  unfold lzeros
  simp [madeCells]
theorem lit_legs (W : World) (x y : NM.Leg) : Recs (W.alloc (.cells (legC x ++ legC y) 47)) (some ⟨W.heap.size, 0, none⟩) 9 [legV x, legV y] := by
  obtain ⟨A', cap, e, hr, _⟩ := OwnR.recs (OwnR.lit W W.heap.size 47 9 [legV x, legV y] (by simp [legV]) (Nat.le_refl _) (by simp [maxLen]))
  injection e with e1
  subst e1
  exact hr
theorem two_one (x y : NM.Leg) : ∀ r ∈ [legV x, legV y], ∀ u ∈ r, u.oneCell' = true := legV_one [x, y]

set_option maxHeartbeats 4000000 in
set_option maxRecDepth 100000 in
theorem nall_any (A : Option Addr) (l : List TM.Trd) (n cap : Nat) (hn : n = l.length) (w : World) (hI : Trds w A l) (hz : l.length ≤ 100000) :
    Calls Try.prog 19 #[.slice A n cap] w fun e w' => ∃ v, e = .returned v ∧ OwnR w' w.heap.size 47 9 v ((NM.allL l).map legV) ∧ Below w.heap.size w w' := by
  subst hn
  have KN := Lib.hid (fun k (hk : k < l.length) => NM.allL_succ hk)
  have KE : Hid (NM.allL (l.take l.length) = NM.allL l) := Lib.hid (by rw [List.take_length])
  have KL : Hid (∀ k, k ≤ l.length → (NM.allL (l.take k)).length ≤ 200000) := Lib.hid (fun k hk => by rw [NM.allL_len, List.length_take]; omega)
  have K0 : Hid (NM.allL (l.take 0) = []) := Lib.hid rfl
  have HC := Lib.hid (fun (t : TM.Trd) ww h => nlegs_any t ww h)
  generalize NM.allL l = al at *
  have E1 : ∀ u : World, (Instr.makeSlice 51 (.int .i64 0) (.int .i64 (2 * (l.length : Int)))).run Try.prog u = .ok (.slice (some ⟨u.heap.size, 0, none⟩) 0 (2 * l.length)) (u.alloc (.cells (lzeros (2 * l.length)) 47)) := fun u => by
    have := make_legs (2 * l.length) (by omega) u
    rwa [show ((2 * l.length : Nat) : Int) = 2 * (l.length : Int) by omega] at this
  have HOWN : Hid (OwnR (w.alloc (.cells (lzeros (2 * l.length)) 47)) w.heap.size 47 9 (.slice (some ⟨w.heap.size, 0, none⟩) 0 (2 * l.length)) []) := Lib.hid ⟨by simp, World.ownsRow_made w _ _ (Nat.le_refl _) (by simp only [maxLen]; omega) (lzeros_size _)⟩
  have HI := Lib.hid hI
  clear hI
  go_enter Try.func19, Try.ntmps19
  go_wp2_with fail
  go_loopw [2, 4, 5, 6, 13] (fun v _ _ _ i wr => ∃ k : Nat, k ≤ l.length ∧ i = .int .i64 (k : Int) ∧ Hid (OwnR wr w.heap.size 47 9 v ((NM.allL (l.take k)).map legV)) ∧ Hid (Below w.heap.size w wr)) (fun _ _ _ _ i _ => l.length - (intOf i).toNat)
  case atStart => exact ⟨0, by omega, rfl, Lib.hid (by rw [K0.out]; exact HOWN.out), Lib.hid (below_al (Below.refl _ _) _)⟩
  case round =>
    obtain ⟨k, hk, rfl, HO, HB⟩ := hrel
    by_cases hlt : k < l.length
    · obtain ⟨b, off, t, rfl, hb, HV, q, d0, d1, d2, d3, d4, d5, d6, d7, d8, d9, d10, d11, d12⟩ := trds_get (HI.out.below HB.out) hlt
      have HN := Lib.hid (KN.out k hlt)
      rw [HV.out] at HN
      have HBx := Lib.hid (HB.out.alloc HB.out.size (.cells (trdC t) 45))
      have HOx := Lib.hid (HO.out.alloc (.cells (trdC t) 45))
      have C1 := Lib.hid (fun ww => HC.out t ww q)
      have hll := KL.out k hk
      generalize NM.bought t = x at *
      generalize NM.sold t = y at *
      clear q HV HC
      go_wp2_with fail
      refine (C1.out _).mono ?_
      rintro e w1 ⟨rfl, b1⟩
      have HB1 := Lib.hid (HBx.out.trans (b1.mono HBx.out.size))
      have HO1 := Lib.hid ((HOx.out.below b1).alloc (.cells (legC x) 47))
      have HO2 := Lib.hid ((HO1.out.alloc (.cells (legC y) 47)).alloc (.cells (legC x ++ legC y) 47))
      have HB2 := Lib.hid (below_al (below_al (below_al HB1.out (.cells (legC x) 47)) (.cells (legC y) 47)) (.cells (legC x ++ legC y) 47))
      have HR := Lib.hid (lit_legs ((w1.alloc (.cells (legC x) 47)).alloc (.cells (legC y) 47)) x y)
      rw [show ((w1.alloc (.cells (legC x) 47)).alloc (.cells (legC y) 47)).heap.size = w1.heap.size + 1 + 1 by simp] at HR
      have HZ1 : Hid ((((NM.allL (l.take k)).map legV).length + [legV x, legV y].length) * 96 ≤ 140737488355328 ∧ ((NM.allL (l.take k)).map legV).length + [legV x, legV y].length ≤ maxLen) := Lib.hid (by rw [List.length_map]; simp only [maxLen, List.length_cons, List.length_nil]; omega)
      clear b1 HO HO1
      go_wp2_with (at_builtin; refine wpList_catR _ w.heap.size ((NM.allL (l.take k)).map legV) [legV x, legV y] _ _ _ 47 9 96 _ Try.underlying51 info_leg rfl (by decide) rfl rfl _ _ _ _ rfl rfl ?c0 HO2.out HR.out (two_one x y) HZ1.out.1 HZ1.out.2 HB2.out.size ?_)
      case c0 => rfl
      rintro v3 w3 hO3 hb3 hg3
      have HO3 : Hid (OwnR w3 w.heap.size 47 9 v3 ((NM.allL (l.take (k + 1))).map legV)) := Lib.hid (by rw [HN.out, List.map_append]; exact hO3)
      have HB3 := Lib.hid (HB2.out.trans hb3)
      clear hO3 hb3 hg3 HO2 HB2
      go_wp2_with fail
      go_roundw
      case rel => exact ⟨k + 1, by omega, by go_num, HO3, HB3⟩
      case measure => simp [intOf]; omega
    · obtain rfl : k = l.length := by omega
      rw [KE.out] at HO
      go_wp2_with fail
      go_ret
      exact ⟨_, rfl, HO.out, HB.out⟩

set_option maxHeartbeats 4000000 in
set_option maxRecDepth 100000 in
theorem rall13_any (A : Option Addr) (l : List TM.Trd) (n cap : Nat) (hn : n = l.length) (w : World) (hI : Trds w A l) (hz : l.length ≤ 100000) :
    Calls Try.prog 23 #[.slice A n cap] w fun e w' => ∃ v, e = .returned v ∧ OwnR w' w.heap.size 47 9 v ((NM.allL l).map legV) ∧ Below w.heap.size w w' := by
  subst hn
  have KN := Lib.hid (fun k (hk : k < l.length) => NM.allL_succ hk)
  have KE : Hid (NM.allL (l.take l.length) = NM.allL l) := Lib.hid (by rw [List.take_length])
  have KL : Hid (∀ k, k ≤ l.length → (NM.allL (l.take k)).length ≤ 200000) := Lib.hid (fun k hk => by rw [NM.allL_len, List.length_take]; omega)
  have K0 : Hid (NM.allL (l.take 0) = []) := Lib.hid rfl
  have HC := Lib.hid (fun (t : TM.Trd) ww h => rlegs13_any t ww h)
  generalize NM.allL l = al at *

  have HI := Lib.hid hI
  clear hI
  go_enter Try.func23, Try.ntmps23
  go_wp2_with fail
  go_loopw [3, 4, 5, 6] (fun v i _ _ wr => ∃ k : Nat, k ≤ l.length ∧ i = .int .i64 (k : Int) ∧ Hid (OwnR wr w.heap.size 47 9 v ((NM.allL (l.take k)).map legV)) ∧ Hid (Below w.heap.size w wr)) (fun _ i _ _ _ => l.length - (intOf i).toNat)
  case atStart => exact ⟨0, by omega, rfl, Lib.hid (by rw [K0.out]; exact OwnR.empty w w.heap.size 47 9 (Nat.le_refl _)), Lib.hid (below_al (Below.refl _ _) _)⟩
  case round =>
    obtain ⟨k, hk, rfl, HO, HB⟩ := hrel
    by_cases hlt : k < l.length
    · obtain ⟨b, off, t, rfl, hb, HV, q, d0, d1, d2, d3, d4, d5, d6, d7, d8, d9, d10, d11, d12⟩ := trds_get (HI.out.below HB.out) hlt
      have HN := Lib.hid (KN.out k hlt)
      rw [HV.out] at HN

      have C1 := Lib.hid (fun ww => HC.out t ww q)
      have hll := KL.out k hk
      generalize NM.bought t = x at *
      generalize NM.sold t = y at *
      clear q HV HC
      go_wp2_with fail
      refine (C1.out _).mono ?_
      rintro e w1 ⟨rfl, b1⟩
      have HB1 := Lib.hid (HB.out.trans (b1.mono HB.out.size))
      have HO1 := Lib.hid ((HO.out.below b1).alloc (.cells (legC x) 47))
      have HO2 := Lib.hid ((HO1.out.alloc (.cells (legC y) 47)).alloc (.cells (legC x ++ legC y) 47))
      have HB2 := Lib.hid (below_al (below_al (below_al HB1.out (.cells (legC x) 47)) (.cells (legC y) 47)) (.cells (legC x ++ legC y) 47))
      have HR := Lib.hid (lit_legs ((w1.alloc (.cells (legC x) 47)).alloc (.cells (legC y) 47)) x y)
      rw [show ((w1.alloc (.cells (legC x) 47)).alloc (.cells (legC y) 47)).heap.size = w1.heap.size + 1 + 1 by simp] at HR
      have HZ1 : Hid ((((NM.allL (l.take k)).map legV).length + [legV x, legV y].length) * 96 ≤ 140737488355328 ∧ ((NM.allL (l.take k)).map legV).length + [legV x, legV y].length ≤ maxLen) := Lib.hid (by rw [List.length_map]; simp only [maxLen, List.length_cons, List.length_nil]; omega)
      clear b1 HO HO1
      go_wp2_with (at_builtin; refine wpList_catR _ w.heap.size ((NM.allL (l.take k)).map legV) [legV x, legV y] _ _ _ 47 9 96 _ Try.underlying51 info_leg rfl (by decide) rfl rfl _ _ _ _ rfl rfl ?c0 HO2.out HR.out (two_one x y) HZ1.out.1 HZ1.out.2 HB2.out.size ?_)
      case c0 => rfl
      rintro v3 w3 hO3 hb3 hg3
      have HO3 : Hid (OwnR w3 w.heap.size 47 9 v3 ((NM.allL (l.take (k + 1))).map legV)) := Lib.hid (by rw [HN.out, List.map_append]; exact hO3)
      have HB3 := Lib.hid (HB2.out.trans hb3)
      clear hO3 hb3 hg3 HO2 HB2
      go_wp2_with fail
      go_roundw
      case rel => exact ⟨k + 1, by omega, by go_num, HO3, HB3⟩
      case measure => simp [intOf]; omega
    · obtain rfl : k = l.length := by omega
      rw [KE.out] at HO
      go_wp2_with fail
      go_ret
      exact ⟨_, rfl, HO.out, HB.out⟩
end Go.Proofs.Ytafdjiilmogcjaa

/- Contracts of layer 13: the legs that match. -/
namespace Go.Proofs.Ytafdjiilmogcjaa
open Go.RowKit Go.Recs
set_option linter.unusedVariables false
set_option linter.unusedSimpArgs false
theorem leg_one (x : NM.Leg) : ∀ u ∈ [Value.string x.am, .string x.an, .string x.ser.prod, .int .i64 x.ser.kind, .int .i64 x.ser.expiry, .int .i64 x.ser.strike, .int .i64 x.qty, .int .i64 x.price, .int .i64 x.trade], u.oneCell' = true := legV_one [x] (legV x) (by simp)

set_option maxHeartbeats 4000000 in
theorem nmatch_mine (A : Option Addr) (l : List NM.Leg) (n cap : Nat) (hn : n = l.length) (am an : ByteArray) (s : EM.Ser) (g j : Nat) (w : World) (hI : Legs w A l) (hz : l.length * 96 ≤ 140737488355328) (hg : CB w g 26 (kC am an)) (hj : SBox w j s) :
    Calls Try.prog 49 #[.slice A n cap, .func (.func 67) #[] #[.pointer (some ⟨g, 0, none⟩), .pointer (some ⟨j, 0, none⟩)]] w fun e w' => ∃ v, e = .returned v ∧ OwnR w' w.heap.size 47 9 v ((l.filter (NM.mine am an s)).map legV) ∧ Below w.heap.size w w' := by
  subst hn
  have hlen := hI.len
  have KN := Lib.hid (fun k (hk : k < l.length) => NM.filter_succ hk (NM.mine am an s))
  have KE : Hid ((l.take l.length).filter (NM.mine am an s) = l.filter (NM.mine am an s)) := Lib.hid (by rw [List.take_length])
  have KL : Hid (∀ k, k ≤ l.length → ((l.take k).filter (NM.mine am an s)).length ≤ k) := Lib.hid (fun k hk => by
    have := List.length_filter_le (NM.mine am an s) (l.take k)
    rw [List.length_take] at this
    omega)
  have K0 : Hid ((l.take 0).filter (NM.mine am an s) = []) := Lib.hid (by simp)
  have HC := Lib.hid (fun (x : NM.Leg) ww h1 h2 => nmine_any x am an s g j ww h1 h2)
  generalize l.filter (NM.mine am an s) = fl at *
  have HI := Lib.hid hI
  have HG := Lib.hid hg; have HJ := Lib.hid hj
  have hgl := hg.lt; have hjl := hj.lt
  clear hg hj
  clear hI
  go_enter Try.func49, Try.ntmps49
  go_wp2_with fail
  go_loopw [4, 6, 9] (fun v _ i wr => ∃ k : Nat, k ≤ l.length ∧ i = .int .i64 (k : Int) ∧ Hid (OwnR wr w.heap.size 47 9 v (((l.take k).filter (NM.mine am an s)).map legV)) ∧ Hid (Below w.heap.size w wr)) (fun _ _ i _ => l.length - (intOf i).toNat)
  case atStart => exact ⟨0, by omega, rfl, Lib.hid (by rw [K0.out]; exact OwnR.nil _ _ _ _), Lib.hid (Below.refl _ _)⟩
  case round =>
    obtain ⟨k, hk, rfl, HO, HB⟩ := hrel
    by_cases hlt : k < l.length
    · obtain ⟨b, off, x, rfl, hb, HV, q, d0, d1, d2, d3, d4, d5, d6, d7, d8⟩ := legs_get (HI.out.below HB.out) hlt
      have HN := Lib.hid (KN.out k hlt)
      rw [← NM.lAt_get hlt, HV.out] at HN
      have HBx := Lib.hid (HB.out.alloc HB.out.size (.cells (legC x) 47))
      have HOx := Lib.hid (HO.out.alloc (.cells (legC x) 47))
      have HX := Lib.hid (CB.new wr 47 (legC x))
      have HG0 := Lib.hid (HG.out.below HBx.out hgl); have HJ0 := Lib.hid (HJ.out.below HBx.out hjl)
      have hll := KL.out k hk
      clear q HV
      cases hp : (NM.mine am an s) x
      · have C1 := Lib.hid (fun ww h1 h2 => HC.out x ww h1 h2)
        simp only [hp] at C1
        rw [hp] at HN
        clear hp
        go_wp2_with fail
        generalize wr.alloc (.cells #[.string x.am, .string x.an, .string x.ser.prod, .int .i64 x.ser.kind, .int .i64 x.ser.expiry, .int .i64 x.ser.strike, .int .i64 x.qty, .int .i64 x.price, .int .i64 x.trade] 47) = w0 at *
        refine (C1.out _ HG0.out HJ0.out).mono ?_
        rintro e w1 ⟨rfl, b1⟩
        have HB1 := Lib.hid (HBx.out.trans (b1.mono HBx.out.size))
        have HO1 := Lib.hid (HOx.out.below b1)
        have HN2 : Hid ((l.take (k + 1)).filter (NM.mine am an s) = (l.take k).filter (NM.mine am an s)) := Lib.hid (by rw [HN.out]; simp)
        have HO2 := HO1
        rw [← HN2.out] at HO2
        clear b1 HN HO HO1 HOx
        go_wp2_with fail
        go_roundw
        case rel => exact ⟨k + 1, by omega, by go_num, HO2, HB1⟩
        case measure => simp [intOf]; omega
      · have C1 := Lib.hid (fun ww h1 h2 => HC.out x ww h1 h2)
        simp only [hp] at C1
        rw [hp] at HN
        clear hp
        have hxl := HX.out.lt
        go_wp2_with fail
        generalize wr.alloc (.cells #[.string x.am, .string x.an, .string x.ser.prod, .int .i64 x.ser.kind, .int .i64 x.ser.expiry, .int .i64 x.ser.strike, .int .i64 x.qty, .int .i64 x.price, .int .i64 x.trade] 47) = w0 at *
        refine (C1.out _ HG0.out HJ0.out).mono ?_
        rintro e w1 ⟨rfl, b1⟩
        have HB1 := Lib.hid (HBx.out.trans (b1.mono HBx.out.size))
        have HO1 := Lib.hid (HOx.out.below b1)
        have HX1 := Lib.hid (HX.out.below b1 hxl)
        have x0 : w1.cell? ⟨wr.heap.size, 0, none⟩ = some (.string x.am) := HX1.out.cell 0
        have x1 : w1.cell? ⟨wr.heap.size, 1, none⟩ = some (.string x.an) := HX1.out.cell 1
        have x2 : w1.cell? ⟨wr.heap.size, 2, none⟩ = some (.string x.ser.prod) := HX1.out.cell 2
        have x3 : w1.cell? ⟨wr.heap.size, 3, none⟩ = some (.int .i64 x.ser.kind) := HX1.out.cell 3
        have x4 : w1.cell? ⟨wr.heap.size, 4, none⟩ = some (.int .i64 x.ser.expiry) := HX1.out.cell 4
        have x5 : w1.cell? ⟨wr.heap.size, 5, none⟩ = some (.int .i64 x.ser.strike) := HX1.out.cell 5
        have x6 : w1.cell? ⟨wr.heap.size, 6, none⟩ = some (.int .i64 x.qty) := HX1.out.cell 6
        have x7 : w1.cell? ⟨wr.heap.size, 7, none⟩ = some (.int .i64 x.price) := HX1.out.cell 7
        have x8 : w1.cell? ⟨wr.heap.size, 8, none⟩ = some (.int .i64 x.trade) := HX1.out.cell 8
        have HN2 : Hid (((l.take (k + 1)).filter (NM.mine am an s)).map legV = ((l.take k).filter (NM.mine am an s)).map legV ++ [legV x]) := Lib.hid (by rw [HN.out]; simp)
        clear b1 HN HO HOx
        go_wp2_with (at_builtin; refine wpList_pushR _ [.string x.am, .string x.an, .string x.ser.prod, .int .i64 x.ser.kind, .int .i64 x.ser.expiry, .int .i64 x.ser.strike, .int .i64 x.qty, .int .i64 x.price, .int .i64 x.trade] (leg_one x) w.heap.size (((l.take k).filter (NM.mine am an s)).map legV) _ _ 51 47 9 96 _ Try.underlying51 info_leg rfl (by decide) rfl rfl rfl _ rfl rfl HO1.out ?c1 ?c2 ?c3 ?_)
        case c1 => rw [List.length_map]; omega
        case c2 => rw [List.length_map]; simp only [maxLen]; omega
        case c3 => exact HB1.out.size
        intro v2 w2 o2 b2 _ _
        have HO2 : Hid (OwnR w2 w.heap.size 47 9 v2 (((l.take (k + 1)).filter (NM.mine am an s)).map legV)) := Lib.hid (by rw [HN2.out]; exact o2)
        have HB2 := Lib.hid (HB1.out.trans b2)
        clear o2 b2 HO1 x0 x1 x2 x3 x4 x5 x6 x7 x8
        go_wp2_with fail
        go_roundw
        case rel => exact ⟨k + 1, by omega, by go_num, HO2, HB2⟩
        case measure => simp [intOf]; omega
    · obtain rfl : k = l.length := by omega
      rw [KE.out] at HO
      go_wp2_with fail
      go_ret
      exact ⟨_, rfl, HO.out, HB.out⟩

set_option maxHeartbeats 4000000 in
theorem nmatch_ofs (A : Option Addr) (l : List NM.Leg) (n cap : Nat) (hn : n = l.length) (s : EM.Ser) (j : Nat) (w : World) (hI : Legs w A l) (hz : l.length * 96 ≤ 140737488355328) (hj : SBox w j s) :
    Calls Try.prog 49 #[.slice A n cap, .func (.func 50) #[] #[.pointer (some ⟨j, 0, none⟩)]] w fun e w' => ∃ v, e = .returned v ∧ OwnR w' w.heap.size 47 9 v ((l.filter (NM.ofS s)).map legV) ∧ Below w.heap.size w w' := by
  subst hn
  have hlen := hI.len
  have KN := Lib.hid (fun k (hk : k < l.length) => NM.filter_succ hk (NM.ofS s))
  have KE : Hid ((l.take l.length).filter (NM.ofS s) = l.filter (NM.ofS s)) := Lib.hid (by rw [List.take_length])
  have KL : Hid (∀ k, k ≤ l.length → ((l.take k).filter (NM.ofS s)).length ≤ k) := Lib.hid (fun k hk => by
    have := List.length_filter_le (NM.ofS s) (l.take k)
    rw [List.length_take] at this
    omega)
  have K0 : Hid ((l.take 0).filter (NM.ofS s) = []) := Lib.hid (by simp)
  have HC := Lib.hid (fun (x : NM.Leg) ww h1 => nofs_any x s j ww h1)
  generalize l.filter (NM.ofS s) = fl at *
  have HI := Lib.hid hI
  have HJ := Lib.hid hj
  have hjl := hj.lt
  clear hj
  clear hI
  go_enter Try.func49, Try.ntmps49
  go_wp2_with fail
  go_loopw [4, 6, 9] (fun v _ i wr => ∃ k : Nat, k ≤ l.length ∧ i = .int .i64 (k : Int) ∧ Hid (OwnR wr w.heap.size 47 9 v (((l.take k).filter (NM.ofS s)).map legV)) ∧ Hid (Below w.heap.size w wr)) (fun _ _ i _ => l.length - (intOf i).toNat)
  case atStart => exact ⟨0, by omega, rfl, Lib.hid (by rw [K0.out]; exact OwnR.nil _ _ _ _), Lib.hid (Below.refl _ _)⟩
  case round =>
    obtain ⟨k, hk, rfl, HO, HB⟩ := hrel
    by_cases hlt : k < l.length
    · obtain ⟨b, off, x, rfl, hb, HV, q, d0, d1, d2, d3, d4, d5, d6, d7, d8⟩ := legs_get (HI.out.below HB.out) hlt
      have HN := Lib.hid (KN.out k hlt)
      rw [← NM.lAt_get hlt, HV.out] at HN
      have HBx := Lib.hid (HB.out.alloc HB.out.size (.cells (legC x) 47))
      have HOx := Lib.hid (HO.out.alloc (.cells (legC x) 47))
      have HX := Lib.hid (CB.new wr 47 (legC x))
      have HJ0 := Lib.hid (HJ.out.below HBx.out hjl)
      have hll := KL.out k hk
      clear q HV
      cases hp : (NM.ofS s) x
      · have C1 := Lib.hid (fun ww h1 => HC.out x ww h1)
        simp only [hp] at C1
        rw [hp] at HN
        clear hp
        go_wp2_with fail
        generalize wr.alloc (.cells #[.string x.am, .string x.an, .string x.ser.prod, .int .i64 x.ser.kind, .int .i64 x.ser.expiry, .int .i64 x.ser.strike, .int .i64 x.qty, .int .i64 x.price, .int .i64 x.trade] 47) = w0 at *
        refine (C1.out _ HJ0.out).mono ?_
        rintro e w1 ⟨rfl, b1⟩
        have HB1 := Lib.hid (HBx.out.trans (b1.mono HBx.out.size))
        have HO1 := Lib.hid (HOx.out.below b1)
        have HN2 : Hid ((l.take (k + 1)).filter (NM.ofS s) = (l.take k).filter (NM.ofS s)) := Lib.hid (by rw [HN.out]; simp)
        have HO2 := HO1
        rw [← HN2.out] at HO2
        clear b1 HN HO HO1 HOx
        go_wp2_with fail
        go_roundw
        case rel => exact ⟨k + 1, by omega, by go_num, HO2, HB1⟩
        case measure => simp [intOf]; omega
      · have C1 := Lib.hid (fun ww h1 => HC.out x ww h1)
        simp only [hp] at C1
        rw [hp] at HN
        clear hp
        have hxl := HX.out.lt
        go_wp2_with fail
        generalize wr.alloc (.cells #[.string x.am, .string x.an, .string x.ser.prod, .int .i64 x.ser.kind, .int .i64 x.ser.expiry, .int .i64 x.ser.strike, .int .i64 x.qty, .int .i64 x.price, .int .i64 x.trade] 47) = w0 at *
        refine (C1.out _ HJ0.out).mono ?_
        rintro e w1 ⟨rfl, b1⟩
        have HB1 := Lib.hid (HBx.out.trans (b1.mono HBx.out.size))
        have HO1 := Lib.hid (HOx.out.below b1)
        have HX1 := Lib.hid (HX.out.below b1 hxl)
        have x0 : w1.cell? ⟨wr.heap.size, 0, none⟩ = some (.string x.am) := HX1.out.cell 0
        have x1 : w1.cell? ⟨wr.heap.size, 1, none⟩ = some (.string x.an) := HX1.out.cell 1
        have x2 : w1.cell? ⟨wr.heap.size, 2, none⟩ = some (.string x.ser.prod) := HX1.out.cell 2
        have x3 : w1.cell? ⟨wr.heap.size, 3, none⟩ = some (.int .i64 x.ser.kind) := HX1.out.cell 3
        have x4 : w1.cell? ⟨wr.heap.size, 4, none⟩ = some (.int .i64 x.ser.expiry) := HX1.out.cell 4
        have x5 : w1.cell? ⟨wr.heap.size, 5, none⟩ = some (.int .i64 x.ser.strike) := HX1.out.cell 5
        have x6 : w1.cell? ⟨wr.heap.size, 6, none⟩ = some (.int .i64 x.qty) := HX1.out.cell 6
        have x7 : w1.cell? ⟨wr.heap.size, 7, none⟩ = some (.int .i64 x.price) := HX1.out.cell 7
        have x8 : w1.cell? ⟨wr.heap.size, 8, none⟩ = some (.int .i64 x.trade) := HX1.out.cell 8
        have HN2 : Hid (((l.take (k + 1)).filter (NM.ofS s)).map legV = ((l.take k).filter (NM.ofS s)).map legV ++ [legV x]) := Lib.hid (by rw [HN.out]; simp)
        clear b1 HN HO HOx
        go_wp2_with (at_builtin; refine wpList_pushR _ [.string x.am, .string x.an, .string x.ser.prod, .int .i64 x.ser.kind, .int .i64 x.ser.expiry, .int .i64 x.ser.strike, .int .i64 x.qty, .int .i64 x.price, .int .i64 x.trade] (leg_one x) w.heap.size (((l.take k).filter (NM.ofS s)).map legV) _ _ 51 47 9 96 _ Try.underlying51 info_leg rfl (by decide) rfl rfl rfl _ rfl rfl HO1.out ?c1 ?c2 ?c3 ?_)
        case c1 => rw [List.length_map]; omega
        case c2 => rw [List.length_map]; simp only [maxLen]; omega
        case c3 => exact HB1.out.size
        intro v2 w2 o2 b2 _ _
        have HO2 : Hid (OwnR w2 w.heap.size 47 9 v2 (((l.take (k + 1)).filter (NM.ofS s)).map legV)) := Lib.hid (by rw [HN2.out]; exact o2)
        have HB2 := Lib.hid (HB1.out.trans b2)
        clear o2 b2 HO1 x0 x1 x2 x3 x4 x5 x6 x7 x8
        go_wp2_with fail
        go_roundw
        case rel => exact ⟨k + 1, by omega, by go_num, HO2, HB2⟩
        case measure => simp [intOf]; omega
    · obtain rfl : k = l.length := by omega
      rw [KE.out] at HO
      go_wp2_with fail
      go_ret
      exact ⟨_, rfl, HO.out, HB.out⟩

theorem filt_legs {w : World} {B : Nat} {v : Value} {l : List NM.Leg} {p : NM.Leg → Bool} (h : OwnR w B 47 9 v ((l.filter p).map legV)) (hq : ∀ x ∈ l, legQ x) : ∃ A cap, v = .slice A (l.filter p).length cap ∧ Legs w A (l.filter p) ∧ (l.filter p).length ≤ cap := by
  obtain ⟨A, cap, rfl, hr, hc⟩ := h.recs
  rw [List.length_map] at hc ⊢
  exact ⟨A, cap, rfl, ⟨hr, fun x hx => hq x (List.mem_filter.1 hx).1⟩, hc⟩
theorem filt_small {l : List NM.Leg} (h : NM.checkE l = 0) (p : NM.Leg → Bool) : (∀ x ∈ l.filter p, -1048576 ≤ x.qty ∧ x.qty ≤ 1048576) ∧ (l.filter p).length ≤ 2048 := by
  obtain ⟨h1, h2⟩ := NM.check_inv h
  exact ⟨fun x hx => h2 x (List.mem_filter.1 hx).1, Nat.le_trans (List.length_filter_le _ _) h1⟩

set_option maxHeartbeats 2000000 in
theorem nheld_any (A : Option Addr) (l : List NM.Leg) (n cap : Nat) (hn : n = l.length) (am an : ByteArray) (s : EM.Ser) (w : World) (hI : Legs w A l) (hz : l.length * 96 ≤ 140737488355328) :
    Calls Try.prog 47 #[.slice A n cap, kA am an, serA s] w fun e w' => ∃ v, e = .returned v ∧ OwnR w' w.heap.size 47 9 v ((l.filter (NM.mine am an s)).map legV) ∧ Below w.heap.size w w' := by
  have hmf : ∀ (fn : Fn) (first cap : Array Value) (w : World), (Instr.makeFunc fn first cap).run Try.prog w = .ok (.func fn first cap) w := fun _ _ _ _ => rfl
  have HB0 := Lib.hid (((Below.refl w.heap.size w).alloc (Nat.le_refl _) (.cells (kC am an) 26)).alloc (by simp) (.cells #[.string s.prod, .int .i64 s.kind, .int .i64 s.expiry, .int .i64 s.strike] 43))
  have HG0 := Lib.hid ((CB.new w 26 (kC am an)).alloc (.cells #[.string s.prod, .int .i64 s.kind, .int .i64 s.expiry, .int .i64 s.strike] 43))
  have HJ0 := Lib.hid (SBox.new (w.alloc (.cells (kC am an) 26)) s)
  have e1 : (w.alloc (.cells (kC am an) 26)).heap.size = w.heap.size + 1 := by simp
  have e2 : ((w.alloc (.cells (kC am an) 26)).alloc (.cells #[.string s.prod, .int .i64 s.kind, .int .i64 s.expiry, .int .i64 s.strike] 43)).heap.size = w.heap.size + 2 := by simp
  rw [e1] at HJ0
  subst hn
  have C1 := Lib.hid (nmatch_mine A l l.length cap rfl am an s w.heap.size (w.heap.size + 1) _ (hI.below HB0.out) hz HG0.out HJ0.out)
  rw [e2] at C1
  clear hI hz HG0 HJ0 e1 e2
  go_enter Try.func47, Try.ntmps47
  go_wp2_with fail
  refine C1.out.mono ?_
  rintro e w1 ⟨v, rfl, o1, b1⟩
  have HB1 := Lib.hid (HB0.out.trans (b1.mono (by omega)))
  have HO1 := Lib.hid (o1.lower (B' := w.heap.size) (by omega))
  clear o1 b1
  go_wp2_with fail
  go_ret
  exact ⟨_, rfl, HO1.out, HB1.out⟩

set_option maxHeartbeats 2000000 in
theorem nnet_any (A : Option Addr) (l : List NM.Leg) (n cap : Nat) (hn : n = l.length) (am an : ByteArray) (s : EM.Ser) (w : World) (hI : Legs w A l) :
    Calls Try.prog 24 #[.slice A n cap, kA am an, serA s] w fun e w' => e = .returned (.tuple #[.int .i64 (NM.netN l am an s), .int .i64 (NM.checkE l)]) ∧ Below w.heap.size w w' := by
  have HB0 := Lib.hid (((Below.refl w.heap.size w).alloc (Nat.le_refl _) (.cells (kC am an) 26)).alloc (by simp) (.cells #[.string s.prod, .int .i64 s.kind, .int .i64 s.expiry, .int .i64 s.strike] 43))
  have HG0 := Lib.hid ((CB.new w 26 (kC am an)).alloc (.cells #[.string s.prod, .int .i64 s.kind, .int .i64 s.expiry, .int .i64 s.strike] 43))
  have HJ0 := Lib.hid (SBox.new (w.alloc (.cells (kC am an) 26)) s)
  have e1 : (w.alloc (.cells (kC am an) 26)).heap.size = w.heap.size + 1 := by simp
  have e2 : ((w.alloc (.cells (kC am an) 26)).alloc (.cells #[.string s.prod, .int .i64 s.kind, .int .i64 s.expiry, .int .i64 s.strike] 43)).heap.size = w.heap.size + 2 := by simp
  rw [e1] at HJ0
  have HG1 : Hid (w.heap.size < w.heap.size + 2 ∧ w.heap.size + 1 < w.heap.size + 2) := Lib.hid ⟨by omega, by omega⟩
  have C1 := Lib.hid (ncheck_any A l n cap hn _ (hI.below HB0.out))
  have HI := Lib.hid (hI.below HB0.out)
  have HS := Lib.hid e2
  rw [e2] at C1
  have HQ := Lib.hid hI.2
  have hxn := hn
  clear hI e1 e2
  by_cases hc : NM.checkE l = 0
  · have HF := Lib.hid (filt_small hc (NM.mine am an s))
    have HZ : Hid (l.length * 96 ≤ 140737488355328) := Lib.hid (by have := (NM.check_inv hc).1; omega)
    rw [NM.net_ok hc]
    rw [hc] at C1 ⊢
    have C2 := Lib.hid (fun ww h => nheld_any A l n cap hn am an s ww h HZ.out)
    have C3 := Lib.hid (fun A' n' cap' e ww h => ntotal_any A' (l.filter (NM.mine am an s)) n' cap' e ww h HF.out.1 HF.out.2)
    clear hc hn hxn
    go_enter Try.func24, Try.ntmps24
    go_wp2_with fail
    refine C1.out.mono ?_
    rintro e w1 ⟨rfl, b1⟩
    rw [← HS.out] at b1
    have HB1 := Lib.hid (HB0.out.trans (b1.mono HB0.out.size))
    have HI1 := Lib.hid (HI.out.below b1)
    have HG2 := Lib.hid (HG0.out.below b1 (by rw [HS.out]; omega))
    have HJ2 := Lib.hid (HJ0.out.below b1 (by rw [HS.out]; omega))
    have g0 : w1.cell? ⟨w.heap.size, 0, none⟩ = some (.string am) := HG2.out.cell 0
    have g1 : w1.cell? ⟨w.heap.size, 1, none⟩ = some (.string an) := HG2.out.cell 1
    obtain ⟨s0, s1, s2, s3⟩ := HJ2.out.cells
    clear b1 HG0 HJ0 HG2 HJ2
    go_wp2_with fail
    refine (C2.out _ HI1.out).mono ?_
    rintro e w2 ⟨v, rfl, o2, b2⟩
    obtain ⟨A2, c2, rfl, hL, hc2⟩ := filt_legs o2 HQ.out
    have HB2 := Lib.hid (HB1.out.trans (b2.mono HB1.out.size))
    have HL := Lib.hid hL
    clear o2 b2 hL g0 g1 s0 s1 s2 s3
    go_wp2_with fail
    refine (C3.out _ _ _ rfl _ HL.out).mono ?_
    rintro e w3 ⟨rfl, b3⟩
    have HB3 := Lib.hid (HB2.out.trans (b3.mono HB2.out.size))
    clear b3
    go_wp2_with fail
    go_ret2
    exact ⟨rfl, HB3.out⟩
  · rw [NM.net_no hc]
    have hne : (NM.checkE l != 0) = true := by simpa using hc
    generalize NM.checkE l = r at *
    clear hn hxn
    go_enter Try.func24, Try.ntmps24
    go_wp2_with fail
    refine C1.out.mono ?_
    rintro e w1 ⟨rfl, b1⟩
    rw [← HS.out] at b1
    have HB1 := Lib.hid (HB0.out.trans (b1.mono HB0.out.size))
    clear b1
    go_wp2_with fail
    go_ret2
    exact ⟨rfl, HB1.out⟩

set_option maxHeartbeats 2000000 in
theorem nhouse_any (A : Option Addr) (l : List NM.Leg) (n cap : Nat) (hn : n = l.length) (s : EM.Ser) (w : World) (hI : Legs w A l) :
    Calls Try.prog 26 #[.slice A n cap, serA s] w fun e w' => e = .returned (.tuple #[.int .i64 (NM.houseN l s), .int .i64 (NM.checkE l)]) ∧ Below w.heap.size w w' := by
  have hmf : ∀ (fn : Fn) (first cap : Array Value) (w : World), (Instr.makeFunc fn first cap).run Try.prog w = .ok (.func fn first cap) w := fun _ _ _ _ => rfl
  have HB0 := Lib.hid ((Below.refl w.heap.size w).alloc (Nat.le_refl _) (.cells #[.string s.prod, .int .i64 s.kind, .int .i64 s.expiry, .int .i64 s.strike] 43))
  have HJ0 := Lib.hid (SBox.new w s)
  have e2 : (w.alloc (.cells #[.string s.prod, .int .i64 s.kind, .int .i64 s.expiry, .int .i64 s.strike] 43)).heap.size = w.heap.size + 1 := by simp
  have C1 := Lib.hid (ncheck_any A l n cap hn _ (hI.below HB0.out))
  have HI := Lib.hid (hI.below HB0.out)
  have HS := Lib.hid e2
  rw [e2] at C1
  have HQ := Lib.hid hI.2
  clear hI e2
  by_cases hc : NM.checkE l = 0
  · have HF := Lib.hid (filt_small hc (NM.ofS s))
    have HZ : Hid (l.length * 96 ≤ 140737488355328) := Lib.hid (by have := (NM.check_inv hc).1; omega)
    rw [NM.house_ok hc]
    have hbd := NM.filter_bound hc (NM.ofS s)
    rw [hc] at C1 ⊢
    have C2 := Lib.hid (fun ww h hj => nmatch_ofs A l n cap hn s w.heap.size ww h HZ.out hj)
    have C3 := Lib.hid (fun A' n' cap' e ww h => ntotal_any A' (l.filter (NM.ofS s)) n' cap' e ww h HF.out.1 HF.out.2)
    generalize NM.qsum (l.filter (NM.ofS s)) = y at *
    have hb1 := hbd.1; have hb2 := hbd.2
    clear hc hn hbd
    go_enter Try.func26, Try.ntmps26
    go_wp2_with fail
    refine C1.out.mono ?_
    rintro e w1 ⟨rfl, b1⟩
    rw [← HS.out] at b1
    have HB1 := Lib.hid (HB0.out.trans (b1.mono HB0.out.size))
    have HI1 := Lib.hid (HI.out.below b1)
    have HJ2 := Lib.hid (HJ0.out.below b1 (by rw [HS.out]; omega))
    clear b1 HJ0
    go_wp2_with fail
    refine (C2.out _ HI1.out HJ2.out).mono ?_
    rintro e w2 ⟨v, rfl, o2, b2⟩
    obtain ⟨A2, c2, rfl, hL, hc2⟩ := filt_legs o2 HQ.out
    have HB2 := Lib.hid (HB1.out.trans (b2.mono HB1.out.size))
    have HL := Lib.hid hL
    clear o2 b2 hL
    go_wp2_with fail
    refine (C3.out _ _ _ rfl _ HL.out).mono ?_
    rintro e w3 ⟨rfl, b3⟩
    have HB3 := Lib.hid (HB2.out.trans (b3.mono HB2.out.size))
    clear b3
    go_wp2_with fail
    go_ret2
    exact ⟨rfl, HB3.out⟩
  · rw [NM.house_no hc]
    have hne : (NM.checkE l != 0) = true := by simpa using hc
    generalize NM.checkE l = r at *
    clear hn
    go_enter Try.func26, Try.ntmps26
    go_wp2_with fail
    refine C1.out.mono ?_
    rintro e w1 ⟨rfl, b1⟩
    rw [← HS.out] at b1
    have HB1 := Lib.hid (HB0.out.trans (b1.mono HB0.out.size))
    clear b1
    go_wp2_with fail
    go_ret2
    exact ⟨rfl, HB1.out⟩
end Go.Proofs.Ytafdjiilmogcjaa
