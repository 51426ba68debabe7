/- Put together: GivE, GivF, GivG, CentsE, CentsF, SumMath2, CentsG, GivH. -/
import Derived.Test.YtagmknahmkniaabBun10
import Derived.BigQuiet
import Derived.Test.YtagmknahmkniaabBun5
import Derived.Deep.RegionHeld3
import Derived.Test.YtagmknahmkniaabBun6
import Derived.Test.YtagmknahmkniaabBun1
import Derived.Test.YtagmknahmkniaabBun3
/- Contracts of layer 14: a pool of trades. -/
namespace Go.Proofs.Ytagmknahmkniaab
open Go.RowKit Go.Recs
set_option linter.unusedVariables false
set_option linter.unusedSimpArgs false
theorem okq_id {n : Int} {b : Bool} (h : GM.okQ n = b) : GM.okQ n = b := h
theorem okp_of {n : Int} {b : Bool} (h : GM.okP n = b) : (decide (-16777216 ≤ n) && decide (n ≤ 16777216)) = b := h
theorem lots_succ {l : List TM.Trd} {k : Nat} (h : k < l.length) : GM.lots (l.take (k + 1)) = GM.lots (l.take k) + (TM.tAt l k).qty := by
  rw [NM.take_succ h, TM.tAt_get h]
  unfold GM.lots
  rw [List.map_append, LM.tot_append]
  simp [LM.tot]
theorem cost_succ {l : List TM.Trd} {k : Nat} (h : k < l.length) : GM.cost (l.take (k + 1)) = GM.cost (l.take k) + (TM.tAt l k).price * (TM.tAt l k).qty := by
  rw [NM.take_succ h, TM.tAt_get h]
  unfold GM.cost
  rw [List.map_append, LM.tot_append]
  simp [LM.tot]
theorem pq_bound {p q : Int} (h : (1 ≤ q ∧ q ≤ 1048576) ∧ -16777216 ≤ p ∧ p ≤ 16777216) : -17592186044416 ≤ p * q ∧ p * q ≤ 17592186044416 := by
  obtain ⟨⟨h1, h2⟩, h3, h4⟩ := h
  constructor
  · have a : (-16777216) * q ≤ p * q := Int.mul_le_mul_of_nonneg_right h3 (by omega)
    omega
  · have a : p * q ≤ 16777216 * q := Int.mul_le_mul_of_nonneg_right h4 (by omega)
    omega
theorem plots_any_bound {l : List TM.Trd} (h : ∀ t ∈ l, (1 ≤ t.qty ∧ t.qty ≤ 1048576) ∧ -16777216 ≤ t.price ∧ t.price ≤ 16777216) (hl : l.length ≤ 1024) : 0 ≤ GM.lots l ∧ GM.lots l ≤ 1073741824 := by
  have key : 0 ≤ GM.lots l ∧ GM.lots l ≤ l.length * 1048576 := by
    clear hl
    induction l with
    | nil => simp [GM.lots, LM.tot]
    | cons t l ih =>
      have h1 := h t (by simp)
      have h2 := ih fun y hy => h y (by simp [hy])
      have e : GM.lots (t :: l) = t.qty + GM.lots l := by simp [GM.lots, LM.tot]
      rw [e, List.length_cons]
      omega
  omega
theorem pcost_any_bound {l : List TM.Trd} (h : ∀ t ∈ l, (1 ≤ t.qty ∧ t.qty ≤ 1048576) ∧ -16777216 ≤ t.price ∧ t.price ≤ 16777216) (hl : l.length ≤ 1024) : -18014398509481984 ≤ GM.cost l ∧ GM.cost l ≤ 18014398509481984 := by
  have key : -(l.length * 17592186044416 : Int) ≤ GM.cost l ∧ GM.cost l ≤ l.length * 17592186044416 := by
    clear hl
    induction l with
    | nil => simp [GM.cost, LM.tot]
    | cons t l ih =>
      have h1 := pq_bound (h t (by simp))
      have h2 := ih fun y hy => h y (by simp [hy])
      have e : GM.cost (t :: l) = t.price * t.qty + GM.cost l := by simp [GM.cost, LM.tot]
      rw [e, List.length_cons]
      omega
  omega
set_option maxHeartbeats 1000000 in
theorem pticks_any (A : Option Addr) (l : List TM.Trd) (n cap : Nat) (tick : Int) (hn : n = l.length) (w : World) :
    Calls Try.prog 104 #[.agg #[.slice A n cap, .int .i64 tick]] w fun e w' => e = .returned (.int .i64 (GM.tickE tick)) ∧ Below w.heap.size w w' := by
  subst hn
  have HC := Lib.hid (fun ww => gwithin_any tick 1 16777216 ww)
  have HB0 := Lib.hid (below_al (Below.refl w.heap.size w) (.cells #[.slice A l.length cap, .int .i64 tick] 112))
  by_cases h : 1 ≤ tick ∧ tick ≤ 16777216
  · have e : (decide ((1 : Int) ≤ tick) && decide (tick ≤ 16777216)) = true := by simp; omega
    have e2 : GM.tickE tick = 0 := by unfold GM.tickE; rw [if_pos h]
    rw [e] at HC
    rw [e2]
    clear e e2 h
    go_enter Try.func104, Try.ntmps104
    go_wp2_with fail
    refine (HC.out _).mono ?_
    rintro e w' ⟨rfl, rfl⟩
    go_wp2_with fail
    go_ret
    exact ⟨rfl, HB0.out⟩
  · have e : (decide ((1 : Int) ≤ tick) && decide (tick ≤ 16777216)) = false := by simp; omega
    have e2 : GM.tickE tick = 16 := by unfold GM.tickE; rw [if_neg h]
    rw [e] at HC
    rw [e2]
    clear e e2 h
    go_enter Try.func104, Try.ntmps104
    go_wp2_with fail
    refine (HC.out _).mono ?_
    rintro e w' ⟨rfl, rfl⟩
    go_wp2_with fail
    go_ret
    exact ⟨rfl, HB0.out⟩
set_option maxHeartbeats 1000000 in
theorem pcount_any (A : Option Addr) (l : List TM.Trd) (n cap : Nat) (tick : Int) (hn : n = l.length) (w : World) :
    Calls Try.prog 105 #[.agg #[.slice A n cap, .int .i64 tick]] w fun e w' => e = .returned (.int .i64 (GM.countE l.length)) ∧ Below w.heap.size w w' := by
  subst hn
  have HC := Lib.hid (fun ww => gcount_any l.length ww)
  have HB0 := Lib.hid (below_al (Below.refl w.heap.size w) (.cells #[.slice A l.length cap, .int .i64 tick] 112))
  generalize GM.countE l.length = r at *
  go_enter Try.func105, Try.ntmps105
  go_wp2_with fail
  refine (HC.out _).mono ?_
  rintro e w' ⟨rfl, rfl⟩
  go_wp2_with fail
  go_ret
  exact ⟨rfl, HB0.out⟩
set_option maxHeartbeats 4000000 in
theorem pone_any (A : Option Addr) (l : List TM.Trd) (n cap : Nat) (tick : Int) (hn : n = l.length) (w : World) (hI : Trds w A l) :
    Calls Try.prog 106 #[.agg #[.slice A n cap, .int .i64 tick]] w fun e w' => e = .returned (.int .i64 (GM.oneE l)) ∧ Below w.heap.size w w' := by
  subst hn
  have hlen := hI.len
  have HB0 := Lib.hid (below_al (Below.refl w.heap.size w) (.cells #[.slice A l.length cap, .int .i64 tick] 112))
  have HX0 := Lib.hid (CB.new w 112 #[.slice A l.length cap, .int .i64 tick])
  have HI := Lib.hid (hI.below HB0.out)
  have KB : Hid (∀ k, k < l.length → NM.seqB (TM.tAt l k).ser (TM.tAt l 0).ser = false → GM.oneE l = 19) := Lib.hid (fun k hk h => by unfold GM.oneE; rw [GM.all_bad (p := fun t => NM.seqB t.ser (TM.tAt l 0).ser) hk h]; rfl)
  have KO : Hid ((∀ j, j < l.length → NM.seqB (TM.tAt l j).ser (TM.tAt l 0).ser = true) → GM.oneE l = 0) := Lib.hid (fun h => by unfold GM.oneE; rw [GM.all_ok (p := fun t => NM.seqB t.ser (TM.tAt l 0).ser) h]; rfl)
  generalize GM.oneE l = r at *
  have gs := ser_guard
  clear hI
  go_enter Try.func106, Try.ntmps106
  go_wp2_with fail
  generalize w.alloc (.cells #[.slice A l.length cap, .int .i64 tick] 112) = w0 at *
  go_loopw [4, 8] (fun _ i wr => ∃ k : Nat, k ≤ l.length ∧ i = .int .i64 (k : Int) ∧ Hid (∀ j, j < k → NM.seqB (TM.tAt l j).ser (TM.tAt l 0).ser = true) ∧ Hid (Below w0.heap.size w0 wr)) (fun _ i _ => l.length - (intOf i).toNat)
  case atStart => exact ⟨0, by omega, rfl, Lib.hid (fun j h => by omega), Lib.hid (Below.refl _ _)⟩
  case round =>
    obtain ⟨k, hk, rfl, HE, HB⟩ := hrel
    by_cases hlt : k < l.length
    · obtain ⟨b, off, t, rfl, hb, HV, q, d0, d1, d2, d3, d4, d5, d6, d7, d8, d9, d10, d11, d12⟩ := trds_get (HI.out.below HB.out) hlt
      obtain ⟨b', off', z, he, hb', HVz, qz, g0, g1, g2, g3, g4, g5, g6, g7, g8, g9, g10, g11, g12⟩ := trds_get (HI.out.below HB.out) (k := 0) (by omega)
      injection he with he
      injection he with e1 e2
      subst e1 e2
      have z3 : wr.cell? ⟨b, off + 3, none⟩ = some (.string z.ser.prod) := by simpa using g3
      have z4 : wr.cell? ⟨b, off + 4, none⟩ = some (.int .i64 z.ser.kind) := by simpa using g4
      have z5 : wr.cell? ⟨b, off + 5, none⟩ = some (.int .i64 z.ser.expiry) := by simpa using g5
      have z6 : wr.cell? ⟨b, off + 6, none⟩ = some (.int .i64 z.ser.strike) := by simpa using g6
      have HXr := Lib.hid (HX0.out.below HB.out HX0.out.lt)
      have x0 : wr.cell? ⟨w.heap.size, 0, none⟩ = some (.slice (some ⟨b, off, none⟩) l.length cap) := HXr.out.cell 0
      have x1 : wr.cell? ⟨w.heap.size, 1, none⟩ = some (.int .i64 tick) := HXr.out.cell 1
      have hxl := HXr.out.lt
      have E1 : ∀ ww, (Op.equalIn 10000 35 (serA t.ser) (serA z.ser)).run Try.prog ww = .ok (NM.seqB t.ser z.ser) ww := fun ww => serB_in t.ser z.ser ww
      have HB2 := Lib.hid (fun o => HB.out.alloc HB.out.size o)
      have h0l : (0 : Int) < (l.length : Int) := by omega
      clear q qz g0 g1 g2 g3 g4 g5 g6 g7 g8 g9 g10 g11 g12 hb'
      cases hq : NM.seqB t.ser z.ser
      · have HR := Lib.hid (KB.out k hlt (by rw [HV.out, HVz.out]; exact hq))
        rw [hq] at E1
        have HBF := Lib.hid (fun o => HB0.out.trans ((HB2.out o).mono HB0.out.size))
        clear hq HV HVz
        go_wp2_with fail
        go_quiet (fail)
        go_wp2_with fail
        go_ret
        exact ⟨by rw [HR.out] <;> rfl, by first | exact HBF.out _ | exact below_drewN (HBF.out _) _⟩
      · rw [hq] at E1
        have HE2 : Hid (∀ j, j < k + 1 → NM.seqB (TM.tAt l j).ser (TM.tAt l 0).ser = true) := Lib.hid (fun j hj => by
          rcases Nat.lt_or_ge j k with g | g
          · exact HE.out j g
          · obtain rfl : j = k := by omega
            rw [HV.out, HVz.out]; exact hq)
        clear hq HV HVz
        go_wp2_with fail
        go_quiet (fail)
        go_wp2_with fail
        go_roundw
        case rel => exact ⟨k + 1, by omega, by go_num, HE2, Lib.hid (by first | exact HB2.out _ | exact below_drewN (HB2.out _) _)⟩
        case measure => simp [intOf]; omega
    · obtain rfl : k = l.length := by omega
      have HR := Lib.hid (KO.out HE.out)
      have HBF := Lib.hid (HB0.out.trans (HB.out.mono HB0.out.size))
      go_wp2_with fail
      go_ret
      exact ⟨by rw [HR.out] <;> rfl, HBF.out⟩

set_option maxHeartbeats 2000000 in
theorem psizes_any (A : Option Addr) (l : List TM.Trd) (n cap : Nat) (tick : Int) (hn : n = l.length) (w : World) (hI : Trds w A l) :
    Calls Try.prog 107 #[.agg #[.slice A n cap, .int .i64 tick]] w fun e w' => e = .returned (.int .i64 (GM.lotsE l)) ∧ Below w.heap.size w w' := by
  subst hn
  have hlen := hI.len
  have HC := Lib.hid (fun q ww => gqty_any q ww)
  have HB0 := Lib.hid (below_al (Below.refl w.heap.size w) (.cells #[.slice A l.length cap, .int .i64 tick] 112))
  have HI := Lib.hid (hI.below HB0.out)
  have KB : Hid (∀ k, k < l.length → GM.okQ (TM.tAt l k).qty = false → GM.lotsE l = 18) := Lib.hid (fun k hk h => by unfold GM.lotsE; rw [GM.all_bad (p := fun t => GM.okQ t.qty) hk h]; rfl)
  have KO : Hid ((∀ j, j < l.length → GM.okQ (TM.tAt l j).qty = true) → GM.lotsE l = 0) := Lib.hid (fun h => by unfold GM.lotsE; rw [GM.all_ok (p := fun t => GM.okQ t.qty) h]; rfl)
  generalize GM.lotsE l = r at *
  clear hI
  go_enter Try.func107, Try.ntmps107
  go_wp2_with fail
  generalize w.alloc (.cells #[.slice A l.length cap, .int .i64 tick] 112) = w0 at *
  go_loopw [4, 8] (fun _ i wr => ∃ k : Nat, k ≤ l.length ∧ i = .int .i64 (k : Int) ∧ Hid (∀ j, j < k → GM.okQ (TM.tAt l j).qty = true) ∧ Hid (Below w0.heap.size w0 wr)) (fun _ i _ => l.length - (intOf i).toNat)
  case atStart => exact ⟨0, by omega, rfl, Lib.hid (fun j h => by omega), Lib.hid (Below.refl _ _)⟩
  case round =>
    obtain ⟨k, hk, rfl, HE, HB⟩ := hrel
    by_cases hlt : k < l.length
    · obtain ⟨b, off, t, rfl, hb, HV, q, d0, d1, d2, d3, d4, d5, d6, d7, d8, d9, d10, d11, d12⟩ := trds_get (HI.out.below HB.out) hlt
      have HB2 := Lib.hid (fun o => HB.out.alloc HB.out.size o)
      have C1 := Lib.hid (fun ww => HC.out t.qty ww)
      clear q
      cases hq : GM.okQ t.qty
      · have HR := Lib.hid (KB.out k hlt (by rw [HV.out]; exact hq))
        rw [okq_id hq] at C1
        have HBF := Lib.hid (fun o => HB0.out.trans ((HB2.out o).mono HB0.out.size))
        clear hq
        go_wp2_with fail
        refine (C1.out _).mono ?_
        rintro e w' ⟨rfl, rfl⟩
        go_wp2_with fail
        go_ret
        exact ⟨by rw [HR.out] <;> rfl, HBF.out _⟩
      · rw [okq_id hq] at C1
        have HE2 : Hid (∀ j, j < k + 1 → GM.okQ (TM.tAt l j).qty = true) := Lib.hid (fun j hj => by
          rcases Nat.lt_or_ge j k with g | g
          · exact HE.out j g
          · obtain rfl : j = k := by omega
            rw [HV.out]; exact hq)
        clear hq
        go_wp2_with fail
        refine (C1.out _).mono ?_
        rintro e w' ⟨rfl, rfl⟩
        go_wp2_with fail
        go_roundw
        case rel => exact ⟨k + 1, by omega, by go_num, HE2, Lib.hid (HB2.out _)⟩
        case measure => simp [intOf]; omega
    · obtain rfl : k = l.length := by omega
      have HR := Lib.hid (KO.out HE.out)
      have HBF := Lib.hid (HB0.out.trans (HB.out.mono HB0.out.size))
      go_wp2_with fail
      go_ret
      exact ⟨by rw [HR.out] <;> rfl, HBF.out⟩

set_option maxHeartbeats 2000000 in
theorem pprices_any (A : Option Addr) (l : List TM.Trd) (n cap : Nat) (tick : Int) (hn : n = l.length) (w : World) (hI : Trds w A l) :
    Calls Try.prog 108 #[.agg #[.slice A n cap, .int .i64 tick]] w fun e w' => e = .returned (.int .i64 (GM.priceE l)) ∧ Below w.heap.size w w' := by
  subst hn
  have hlen := hI.len
  have HC := Lib.hid (fun q ww => gwithin_any q (-16777216) 16777216 ww)
  have HB0 := Lib.hid (below_al (Below.refl w.heap.size w) (.cells #[.slice A l.length cap, .int .i64 tick] 112))
  have HI := Lib.hid (hI.below HB0.out)
  have KB : Hid (∀ k, k < l.length → GM.okP (TM.tAt l k).price = false → GM.priceE l = 17) := Lib.hid (fun k hk h => by unfold GM.priceE; rw [GM.all_bad (p := fun t => GM.okP t.price) hk h]; rfl)
  have KO : Hid ((∀ j, j < l.length → GM.okP (TM.tAt l j).price = true) → GM.priceE l = 0) := Lib.hid (fun h => by unfold GM.priceE; rw [GM.all_ok (p := fun t => GM.okP t.price) h]; rfl)
  generalize GM.priceE l = r at *
  clear hI
  go_enter Try.func108, Try.ntmps108
  go_wp2_with fail
  generalize w.alloc (.cells #[.slice A l.length cap, .int .i64 tick] 112) = w0 at *
  go_loopw [4, 8] (fun _ i wr => ∃ k : Nat, k ≤ l.length ∧ i = .int .i64 (k : Int) ∧ Hid (∀ j, j < k → GM.okP (TM.tAt l j).price = true) ∧ Hid (Below w0.heap.size w0 wr)) (fun _ i _ => l.length - (intOf i).toNat)
  case atStart => exact ⟨0, by omega, rfl, Lib.hid (fun j h => by omega), Lib.hid (Below.refl _ _)⟩
  case round =>
    obtain ⟨k, hk, rfl, HE, HB⟩ := hrel
    by_cases hlt : k < l.length
    · obtain ⟨b, off, t, rfl, hb, HV, q, d0, d1, d2, d3, d4, d5, d6, d7, d8, d9, d10, d11, d12⟩ := trds_get (HI.out.below HB.out) hlt
      have HB2 := Lib.hid (fun o => HB.out.alloc HB.out.size o)
      have C1 := Lib.hid (fun ww => HC.out t.price ww)
      clear q
      cases hq : GM.okP t.price
      · have HR := Lib.hid (KB.out k hlt (by rw [HV.out]; exact hq))
        rw [okp_of hq] at C1
        have HBF := Lib.hid (fun o => HB0.out.trans ((HB2.out o).mono HB0.out.size))
        clear hq
        go_wp2_with fail
        refine (C1.out _).mono ?_
        rintro e w' ⟨rfl, rfl⟩
        go_wp2_with fail
        go_ret
        exact ⟨by rw [HR.out] <;> rfl, HBF.out _⟩
      · rw [okp_of hq] at C1
        have HE2 : Hid (∀ j, j < k + 1 → GM.okP (TM.tAt l j).price = true) := Lib.hid (fun j hj => by
          rcases Nat.lt_or_ge j k with g | g
          · exact HE.out j g
          · obtain rfl : j = k := by omega
            rw [HV.out]; exact hq)
        clear hq
        go_wp2_with fail
        refine (C1.out _).mono ?_
        rintro e w' ⟨rfl, rfl⟩
        go_wp2_with fail
        go_roundw
        case rel => exact ⟨k + 1, by omega, by go_num, HE2, Lib.hid (HB2.out _)⟩
        case measure => simp [intOf]; omega
    · obtain rfl : k = l.length := by omega
      have HR := Lib.hid (KO.out HE.out)
      have HBF := Lib.hid (HB0.out.trans (HB.out.mono HB0.out.size))
      go_wp2_with fail
      go_ret
      exact ⟨by rw [HR.out] <;> rfl, HBF.out⟩

set_option maxHeartbeats 2000000 in
theorem plots_any (A : Option Addr) (l : List TM.Trd) (n cap : Nat) (tick : Int) (hn : n = l.length) (w : World) (hI : Trds w A l) (hq : ∀ t ∈ l, (1 ≤ t.qty ∧ t.qty ≤ 1048576) ∧ -16777216 ≤ t.price ∧ t.price ≤ 16777216) (hl : l.length ≤ 1024) :
    Calls Try.prog 39 #[.agg #[.slice A n cap, .int .i64 tick]] w fun e w' => e = .returned (.int .i64 (GM.lots l)) ∧ Below w.heap.size w w' := by
  subst hn
  have hlen := hI.len
  have HB0 := Lib.hid (below_al (Below.refl w.heap.size w) (.cells #[.slice A l.length cap, .int .i64 tick] 112))
  have HI := Lib.hid (hI.below HB0.out)
  have KS := Lib.hid (fun k => @lots_succ l k)
  have KB : Hid (∀ k, k ≤ l.length → 0 ≤ GM.lots (l.take k) ∧ GM.lots (l.take k) ≤ 1073741824) := Lib.hid (fun k hk => plots_any_bound (fun t ht => hq t (List.mem_of_mem_take ht)) (by rw [List.length_take]; omega))
  have KQ : Hid (∀ k, k < l.length → (1 ≤ (TM.tAt l k).qty ∧ (TM.tAt l k).qty ≤ 1048576) ∧ -16777216 ≤ (TM.tAt l k).price ∧ (TM.tAt l k).price ≤ 16777216) := Lib.hid (fun k hk => by rw [TM.tAt_get hk]; exact hq _ (List.getElem_mem hk))
  have KE : Hid (GM.lots (l.take l.length) = GM.lots l) := Lib.hid (by rw [List.take_length])
  have K0 : Hid (0 = GM.lots (l.take 0)) := Lib.hid rfl
  generalize GM.lots l = r at *
  clear hI hq hl
  go_enter Try.func39, Try.ntmps39
  go_wp2_with fail
  generalize w.alloc (.cells #[.slice A l.length cap, .int .i64 tick] 112) = w0 at *
  go_loopw [2, 4, 8] (fun v _ i wr => ∃ (k : Nat) (y : Int), k ≤ l.length ∧ i = .int .i64 (k : Int) ∧ v = .int .i64 y ∧ 0 ≤ y ∧ y ≤ 1073741824 ∧ Hid (y = GM.lots (l.take k)) ∧ Hid (Below w0.heap.size w0 wr)) (fun _ _ i _ => l.length - (intOf i).toNat)
  case atStart => exact ⟨0, 0, by omega, rfl, rfl, by omega, by omega, K0, Lib.hid (Below.refl _ _)⟩
  case round =>
    obtain ⟨k, y, hk, rfl, rfl, y1, y2, HE, HB⟩ := hrel
    by_cases hlt : k < l.length
    · obtain ⟨b, off, t, rfl, hb, HV, q, d0, d1, d2, d3, d4, d5, d6, d7, d8, d9, d10, d11, d12⟩ := trds_get (HI.out.below HB.out) hlt
      have HB2 := Lib.hid (fun o => HB.out.alloc HB.out.size o)
      have HN : Hid (y + t.qty = GM.lots (l.take (k + 1))) := Lib.hid (by rw [KS.out k hlt, HV.out, HE.out])
      have hb1 : 0 ≤ y + t.qty ∧ y + t.qty ≤ 1073741824 := by rw [HN.out]; exact KB.out (k + 1) (by omega)
      have hqq := KQ.out k hlt
      rw [HV.out] at hqq
      have hb2 := hb1.1; have hb3 := hb1.2
      have a1 := hqq.1.1; have a2 := hqq.1.2; have a3 := hqq.2.1; have a4 := hqq.2.2

      clear q hb1 hqq
      go_wp2_with fail
      go_roundw
      case rel => exact ⟨k + 1, y + t.qty, by omega, by go_num, by go_num, hb2, hb3, HN, Lib.hid (HB2.out _)⟩
      case measure => simp [intOf]; omega
    · obtain rfl : k = l.length := by omega
      have HR := Lib.hid (HE.out.trans KE.out)
      have HBF := Lib.hid (HB0.out.trans (HB.out.mono HB0.out.size))
      go_wp2_with fail
      go_ret
      exact ⟨by rw [HR.out] <;> rfl, HBF.out⟩

set_option maxHeartbeats 2000000 in
theorem pcost_any (A : Option Addr) (l : List TM.Trd) (n cap : Nat) (tick : Int) (hn : n = l.length) (w : World) (hI : Trds w A l) (hq : ∀ t ∈ l, (1 ≤ t.qty ∧ t.qty ≤ 1048576) ∧ -16777216 ≤ t.price ∧ t.price ≤ 16777216) (hl : l.length ≤ 1024) :
    Calls Try.prog 71 #[.agg #[.slice A n cap, .int .i64 tick]] w fun e w' => e = .returned (.int .i64 (GM.cost l)) ∧ Below w.heap.size w w' := by
  subst hn
  have hlen := hI.len
  have HB0 := Lib.hid (below_al (Below.refl w.heap.size w) (.cells #[.slice A l.length cap, .int .i64 tick] 112))
  have HI := Lib.hid (hI.below HB0.out)
  have KS := Lib.hid (fun k => @cost_succ l k)
  have KB : Hid (∀ k, k ≤ l.length → -18014398509481984 ≤ GM.cost (l.take k) ∧ GM.cost (l.take k) ≤ 18014398509481984) := Lib.hid (fun k hk => pcost_any_bound (fun t ht => hq t (List.mem_of_mem_take ht)) (by rw [List.length_take]; omega))
  have KQ : Hid (∀ k, k < l.length → (1 ≤ (TM.tAt l k).qty ∧ (TM.tAt l k).qty ≤ 1048576) ∧ -16777216 ≤ (TM.tAt l k).price ∧ (TM.tAt l k).price ≤ 16777216) := Lib.hid (fun k hk => by rw [TM.tAt_get hk]; exact hq _ (List.getElem_mem hk))
  have KE : Hid (GM.cost (l.take l.length) = GM.cost l) := Lib.hid (by rw [List.take_length])
  have K0 : Hid (0 = GM.cost (l.take 0)) := Lib.hid rfl
  generalize GM.cost l = r at *
  clear hI hq hl
  go_enter Try.func71, Try.ntmps71
  go_wp2_with fail
  generalize w.alloc (.cells #[.slice A l.length cap, .int .i64 tick] 112) = w0 at *
  go_loopw [2, 4, 8] (fun v _ i wr => ∃ (k : Nat) (y : Int), k ≤ l.length ∧ i = .int .i64 (k : Int) ∧ v = .int .i64 y ∧ -18014398509481984 ≤ y ∧ y ≤ 18014398509481984 ∧ Hid (y = GM.cost (l.take k)) ∧ Hid (Below w0.heap.size w0 wr)) (fun _ _ i _ => l.length - (intOf i).toNat)
  case atStart => exact ⟨0, 0, by omega, rfl, rfl, by omega, by omega, K0, Lib.hid (Below.refl _ _)⟩
  case round =>
    obtain ⟨k, y, hk, rfl, rfl, y1, y2, HE, HB⟩ := hrel
    by_cases hlt : k < l.length
    · obtain ⟨b, off, t, rfl, hb, HV, q, d0, d1, d2, d3, d4, d5, d6, d7, d8, d9, d10, d11, d12⟩ := trds_get (HI.out.below HB.out) hlt
      have HB2 := Lib.hid (fun o => HB.out.alloc HB.out.size o)
      have HN : Hid (y + t.price * t.qty = GM.cost (l.take (k + 1))) := Lib.hid (by rw [KS.out k hlt, HV.out, HE.out])
      have hb1 : -18014398509481984 ≤ y + t.price * t.qty ∧ y + t.price * t.qty ≤ 18014398509481984 := by rw [HN.out]; exact KB.out (k + 1) (by omega)
      have hqq := KQ.out k hlt
      rw [HV.out] at hqq
      have hb2 := hb1.1; have hb3 := hb1.2
      have a1 := hqq.1.1; have a2 := hqq.1.2; have a3 := hqq.2.1; have a4 := hqq.2.2
      have hpq := pq_bound ⟨⟨a1, a2⟩, a3, a4⟩
      have hp1 := hpq.1; have hp2 := hpq.2
      clear hpq
      clear q hb1 hqq
      go_wp2_with fail
      go_roundw
      case rel => exact ⟨k + 1, y + t.price * t.qty, by omega, by go_num, by go_num, hb2, hb3, HN, Lib.hid (HB2.out _)⟩
      case measure => simp [intOf]; omega
    · obtain rfl : k = l.length := by omega
      have HR := Lib.hid (HE.out.trans KE.out)
      have HBF := Lib.hid (HB0.out.trans (HB.out.mono HB0.out.size))
      go_wp2_with fail
      go_ret
      exact ⟨by rw [HR.out] <;> rfl, HBF.out⟩
end Go.Proofs.Ytagmknahmkniaab

/- Contracts of layer 14: Average. -/
namespace Go.Proofs.Ytagmknahmkniaab
open Go.RowKit Go.Recs
set_option linter.unusedVariables false
set_option linter.unusedSimpArgs false
set_option maxHeartbeats 8000000 in
set_option maxRecDepth 100000 in
theorem pfirst_any (A : Option Addr) (l : List TM.Trd) (cap g : Nat) (tick : Int) (w : World) (hI : Trds w A l) (hg : CB w g 116 #[.func (.func 104) #[.agg #[.slice A l.length cap, .int .i64 tick]] #[], .func (.func 105) #[.agg #[.slice A l.length cap, .int .i64 tick]] #[], .func (.func 106) #[.agg #[.slice A l.length cap, .int .i64 tick]] #[], .func (.func 107) #[.agg #[.slice A l.length cap, .int .i64 tick]] #[], .func (.func 108) #[.agg #[.slice A l.length cap, .int .i64 tick]] #[]]) :
    Calls Try.prog 72 #[.slice (some ⟨g, 0, none⟩) 5 5] w fun e w' => e = .returned (.int .i64 (GM.poolE l tick)) ∧ Below w.heap.size w w' := by
  have HI := Lib.hid hI
  have HG := Lib.hid hg
  have hgl := hg.lt
  have C0 := Lib.hid (fun ww => pticks_any A l l.length cap tick rfl ww)
  have C1 := Lib.hid (fun ww => pcount_any A l l.length cap tick rfl ww)
  have C2 := Lib.hid (fun ww h => pone_any A l l.length cap tick rfl ww h)
  have C3 := Lib.hid (fun ww h => psizes_any A l l.length cap tick rfl ww h)
  have C4 := Lib.hid (fun ww h => pprices_any A l l.length cap tick rfl ww h)
  have KR : Hid (GM.poolE l tick = GM.orE [GM.tickE tick, GM.countE l.length, GM.oneE l, GM.lotsE l, GM.priceE l]) := Lib.hid rfl
  generalize GM.poolE l tick = r at *
  generalize GM.tickE tick = e0 at *
  generalize GM.countE l.length = e1 at *
  generalize GM.oneE l = e2 at *
  generalize GM.lotsE l = e3 at *
  generalize GM.priceE l = e4 at *
  clear hI hg
  go_enter Try.func72, Try.ntmps72
  go_wp2_with fail
  go_loopw [4, 5, 8] (fun _ _ i wr => Hid (Below w.heap.size w wr) ∧ (i = .int .i64 0 ∨ (i = .int .i64 1 ∧ Hid (e0 = 0)) ∨ (i = .int .i64 2 ∧ Hid (e0 = 0 ∧ e1 = 0)) ∨ (i = .int .i64 3 ∧ Hid (e0 = 0 ∧ e1 = 0 ∧ e2 = 0)) ∨ (i = .int .i64 4 ∧ Hid (e0 = 0 ∧ e1 = 0 ∧ e2 = 0 ∧ e3 = 0)) ∨ (i = .int .i64 5 ∧ Hid (e0 = 0 ∧ e1 = 0 ∧ e2 = 0 ∧ e3 = 0 ∧ e4 = 0)))) (fun _ _ i _ => 5 - (intOf i).toNat)
  case atStart => exact ⟨Lib.hid (Below.refl _ _), .inl rfl⟩
  case round =>
    obtain ⟨HB, hr⟩ := hrel
    have HGr := Lib.hid (HG.out.below HB.out hgl)
    have HIr := Lib.hid (HI.out.below HB.out)
    rcases hr with rfl | ⟨rfl, hz⟩ | ⟨rfl, hz⟩ | ⟨rfl, hz⟩ | ⟨rfl, hz⟩ | ⟨rfl, hz⟩
    · have c0 : wr.cell? ⟨g, 0, none⟩ = some (.func (.func 104) #[.agg #[.slice A l.length cap, .int .i64 tick]] #[]) := HGr.out.cell 0
      by_cases h0 : e0 = 0
      · have HE0 := Lib.hid h0
        have C9 := Lib.hid (C0.out wr)
        rw [h0] at C9
        have HZ : Hid (e0 = 0) := HE0
        clear h0
        go_wp2_with fail
        refine C9.out.mono ?_
        rintro e w1 ⟨rfl, b1⟩
        have HB1 := Lib.hid (HB.out.trans (b1.mono HB.out.size))
        clear b1
        go_wp2_with fail
        go_roundw
        case rel => exact ⟨HB1, .inr (.inl ⟨by go_num, HZ⟩)⟩
        case measure => simp [intOf]
      · have HR : Hid (r = e0) := Lib.hid (by rw [KR.out, or0 h0])
        have C9 := Lib.hid (C0.out wr)
        have hne : (e0 != 0) = true := by simpa using h0
        clear h0
        go_wp2_with fail
        refine C9.out.mono ?_
        rintro e w1 ⟨rfl, b1⟩
        have HB1 := Lib.hid (HB.out.trans (b1.mono HB.out.size))
        clear b1
        go_wp2_with fail
        go_ret
        exact ⟨by rw [HR.out] <;> rfl, HB1.out⟩
    · have c0 : wr.cell? ⟨g, 1, none⟩ = some (.func (.func 105) #[.agg #[.slice A l.length cap, .int .i64 tick]] #[]) := HGr.out.cell 1
      by_cases h0 : e1 = 0
      · have HE0 := Lib.hid h0
        have C9 := Lib.hid (C1.out wr)
        rw [h0] at C9
        have HZ : Hid (e0 = 0 ∧ e1 = 0) := Lib.hid ⟨hz.out, HE0.out⟩
        clear h0
        go_wp2_with fail
        refine C9.out.mono ?_
        rintro e w1 ⟨rfl, b1⟩
        have HB1 := Lib.hid (HB.out.trans (b1.mono HB.out.size))
        clear b1
        go_wp2_with fail
        go_roundw
        case rel => exact ⟨HB1, .inr (.inr (.inl ⟨by go_num, HZ⟩))⟩
        case measure => simp [intOf]
      · have HR : Hid (r = e1) := Lib.hid (by rw [KR.out, orS hz.out, or0 h0])
        have C9 := Lib.hid (C1.out wr)
        have hne : (e1 != 0) = true := by simpa using h0
        clear h0
        go_wp2_with fail
        refine C9.out.mono ?_
        rintro e w1 ⟨rfl, b1⟩
        have HB1 := Lib.hid (HB.out.trans (b1.mono HB.out.size))
        clear b1
        go_wp2_with fail
        go_ret
        exact ⟨by rw [HR.out] <;> rfl, HB1.out⟩
    · have c0 : wr.cell? ⟨g, 2, none⟩ = some (.func (.func 106) #[.agg #[.slice A l.length cap, .int .i64 tick]] #[]) := HGr.out.cell 2
      by_cases h0 : e2 = 0
      · have HE0 := Lib.hid h0
        have C9 := Lib.hid (C2.out wr HIr.out)
        rw [h0] at C9
        have HZ : Hid (e0 = 0 ∧ e1 = 0 ∧ e2 = 0) := Lib.hid ⟨hz.out.1, hz.out.2, HE0.out⟩
        clear h0
        go_wp2_with fail
        refine C9.out.mono ?_
        rintro e w1 ⟨rfl, b1⟩
        have HB1 := Lib.hid (HB.out.trans (b1.mono HB.out.size))
        clear b1
        go_wp2_with fail
        go_roundw
        case rel => exact ⟨HB1, .inr (.inr (.inr (.inl ⟨by go_num, HZ⟩)))⟩
        case measure => simp [intOf]
      · have HR : Hid (r = e2) := Lib.hid (by rw [KR.out, orS hz.out.1, orS hz.out.2, or0 h0])
        have C9 := Lib.hid (C2.out wr HIr.out)
        have hne : (e2 != 0) = true := by simpa using h0
        clear h0
        go_wp2_with fail
        refine C9.out.mono ?_
        rintro e w1 ⟨rfl, b1⟩
        have HB1 := Lib.hid (HB.out.trans (b1.mono HB.out.size))
        clear b1
        go_wp2_with fail
        go_ret
        exact ⟨by rw [HR.out] <;> rfl, HB1.out⟩
    · have c0 : wr.cell? ⟨g, 3, none⟩ = some (.func (.func 107) #[.agg #[.slice A l.length cap, .int .i64 tick]] #[]) := HGr.out.cell 3
      by_cases h0 : e3 = 0
      · have HE0 := Lib.hid h0
        have C9 := Lib.hid (C3.out wr HIr.out)
        rw [h0] at C9
        have HZ : Hid (e0 = 0 ∧ e1 = 0 ∧ e2 = 0 ∧ e3 = 0) := Lib.hid ⟨hz.out.1, hz.out.2.1, hz.out.2.2, HE0.out⟩
        clear h0
        go_wp2_with fail
        refine C9.out.mono ?_
        rintro e w1 ⟨rfl, b1⟩
        have HB1 := Lib.hid (HB.out.trans (b1.mono HB.out.size))
        clear b1
        go_wp2_with fail
        go_roundw
        case rel => exact ⟨HB1, .inr (.inr (.inr (.inr (.inl ⟨by go_num, HZ⟩))))⟩
        case measure => simp [intOf]
      · have HR : Hid (r = e3) := Lib.hid (by rw [KR.out, orS hz.out.1, orS hz.out.2.1, orS hz.out.2.2, or0 h0])
        have C9 := Lib.hid (C3.out wr HIr.out)
        have hne : (e3 != 0) = true := by simpa using h0
        clear h0
        go_wp2_with fail
        refine C9.out.mono ?_
        rintro e w1 ⟨rfl, b1⟩
        have HB1 := Lib.hid (HB.out.trans (b1.mono HB.out.size))
        clear b1
        go_wp2_with fail
        go_ret
        exact ⟨by rw [HR.out] <;> rfl, HB1.out⟩
    · have c0 : wr.cell? ⟨g, 4, none⟩ = some (.func (.func 108) #[.agg #[.slice A l.length cap, .int .i64 tick]] #[]) := HGr.out.cell 4
      by_cases h0 : e4 = 0
      · have HE0 := Lib.hid h0
        have C9 := Lib.hid (C4.out wr HIr.out)
        rw [h0] at C9
        have HZ : Hid (e0 = 0 ∧ e1 = 0 ∧ e2 = 0 ∧ e3 = 0 ∧ e4 = 0) := Lib.hid ⟨hz.out.1, hz.out.2.1, hz.out.2.2.1, hz.out.2.2.2, HE0.out⟩
        clear h0
        go_wp2_with fail
        refine C9.out.mono ?_
        rintro e w1 ⟨rfl, b1⟩
        have HB1 := Lib.hid (HB.out.trans (b1.mono HB.out.size))
        clear b1
        go_wp2_with fail
        go_roundw
        case rel => exact ⟨HB1, .inr (.inr (.inr (.inr (.inr (⟨by go_num, HZ⟩)))))⟩
        case measure => simp [intOf]
      · have HR : Hid (r = e4) := Lib.hid (by rw [KR.out, orS hz.out.1, orS hz.out.2.1, orS hz.out.2.2.1, orS hz.out.2.2.2, or0 h0])
        have C9 := Lib.hid (C4.out wr HIr.out)
        have hne : (e4 != 0) = true := by simpa using h0
        clear h0
        go_wp2_with fail
        refine C9.out.mono ?_
        rintro e w1 ⟨rfl, b1⟩
        have HB1 := Lib.hid (HB.out.trans (b1.mono HB.out.size))
        clear b1
        go_wp2_with fail
        go_ret
        exact ⟨by rw [HR.out] <;> rfl, HB1.out⟩
    · have HR : Hid (r = 0) := Lib.hid (by rw [KR.out, orS hz.out.1, orS hz.out.2.1, orS hz.out.2.2.1, orS hz.out.2.2.2.1, orS hz.out.2.2.2.2]; rfl)
      go_wp2_with fail
      go_ret
      exact ⟨by rw [HR.out] <;> rfl, HB.out⟩

set_option maxHeartbeats 4000000 in
set_option maxRecDepth 100000 in
theorem pcheck_any (A : Option Addr) (l : List TM.Trd) (n cap : Nat) (tick : Int) (hn : n = l.length) (w : World) (hI : Trds w A l) :
    Calls Try.prog 70 #[.agg #[.slice A n cap, .int .i64 tick]] w fun e w' => e = .returned (.int .i64 (GM.poolE l tick)) ∧ Below w.heap.size w w' := by
  subst hn
  have hmf : ∀ (fn : Fn) (first cap : Array Value) (w : World), (Instr.makeFunc fn first cap).run Try.prog w = .ok (.func fn first cap) w := fun _ _ _ _ => rfl
  have HB0 := Lib.hid (below_al (below_al (Below.refl w.heap.size w) (.cells #[.slice A l.length cap, .int .i64 tick] 112)) (.cells #[.func (.func 104) #[.agg #[.slice A l.length cap, .int .i64 tick]] #[], .func (.func 105) #[.agg #[.slice A l.length cap, .int .i64 tick]] #[], .func (.func 106) #[.agg #[.slice A l.length cap, .int .i64 tick]] #[], .func (.func 107) #[.agg #[.slice A l.length cap, .int .i64 tick]] #[], .func (.func 108) #[.agg #[.slice A l.length cap, .int .i64 tick]] #[]] 116))
  have HG : Hid (CB ((w.alloc (.cells #[.slice A l.length cap, .int .i64 tick] 112)).alloc (.cells #[.func (.func 104) #[.agg #[.slice A l.length cap, .int .i64 tick]] #[], .func (.func 105) #[.agg #[.slice A l.length cap, .int .i64 tick]] #[], .func (.func 106) #[.agg #[.slice A l.length cap, .int .i64 tick]] #[], .func (.func 107) #[.agg #[.slice A l.length cap, .int .i64 tick]] #[], .func (.func 108) #[.agg #[.slice A l.length cap, .int .i64 tick]] #[]] 116)) (w.heap.size + 1) 116 #[.func (.func 104) #[.agg #[.slice A l.length cap, .int .i64 tick]] #[], .func (.func 105) #[.agg #[.slice A l.length cap, .int .i64 tick]] #[], .func (.func 106) #[.agg #[.slice A l.length cap, .int .i64 tick]] #[], .func (.func 107) #[.agg #[.slice A l.length cap, .int .i64 tick]] #[], .func (.func 108) #[.agg #[.slice A l.length cap, .int .i64 tick]] #[]]) := Lib.hid (CB.new1 _ _ _ _)
  have C := Lib.hid (pfirst_any A l cap (w.heap.size + 1) tick _ (hI.below HB0.out) HG.out)
  generalize GM.poolE l tick = r at *
  clear hI HG
  go_enter Try.func70, Try.ntmps70
  go_wp2_with fail
  refine C.out.mono ?_
  rintro e w1 ⟨rfl, b1⟩
  have HB1 := Lib.hid (HB0.out.trans (b1.mono HB0.out.size))
  clear b1
  go_wp2_with fail
  go_ret
  exact ⟨rfl, HB1.out⟩
end Go.Proofs.Ytagmknahmkniaab

/- Contracts of layer 14: Average. -/
namespace Go.Proofs.Ytagmknahmkniaab
open Go.RowKit Go.Recs
set_option linter.unusedVariables false
set_option linter.unusedSimpArgs false
def aveP (l : List TM.Trd) (tick : Int) : Int := if GM.poolE l tick = 0 then GM.avgP l tick else 0
def aveR (l : List TM.Trd) (tick : Int) : Int := if GM.poolE l tick = 0 then GM.avgR l tick else 0
theorem results_ttt {fn : Func} {a b c : Tmp} (h : fn.results = #[.tmp a, .tmp b, .tmp c]) (tmps : Array Value) (P : Program) (w : World) : (results fn tmps).run P w = .ok (.tuple #[tmps.getD a undef, tmps.getD b undef, tmps.getD c undef]) w := by
  simp only [results, h]
  simp [Sem.run_bind, Result.andThen]
set_option maxHeartbeats 8000000 in
set_option maxRecDepth 100000 in
theorem gaverage_any (A : Option Addr) (l : List TM.Trd) (n cap : Nat) (tick : Int) (hn : n = l.length) (w : World) (hI : Trds w A l) (hi : i64 tick) :
    Calls Try.prog 38 #[.slice A n cap, .int .i64 tick] w fun e w' => e = .returned (.tuple #[.int .i64 (aveP l tick), .int .i64 (aveR l tick), .int .i64 (GM.poolE l tick)]) ∧ Below w.heap.size w w' := by
  subst hn
  have hlen := hI.len
  have HB0 := Lib.hid (below_al (Below.refl w.heap.size w) (.cells #[.slice A l.length cap, .int .i64 tick] 112))
  have HX0 := Lib.hid (CB.new w 112 #[.slice A l.length cap, .int .i64 tick])
  have HI := Lib.hid (hI.below HB0.out)
  have C1 := Lib.hid (fun ww h => pcheck_any A l l.length cap tick rfl ww h)
  clear hI
  by_cases hp : GM.poolE l tick = 0
  · have hP := GM.pooled hp
    have hcb := pcost_any_bound hP.each hP.len.2
    have C2 := Lib.hid (fun ww h => plots_any A l l.length cap tick rfl ww h hP.each hP.len.2)
    have C3 := Lib.hid (fun ww h => pcost_any A l l.length cap tick rfl ww h hP.each hP.len.2)
    obtain ⟨⟨q1, q2⟩, ⟨s1, s2⟩, ⟨k1, k2⟩, ⟨p1, p2⟩, ⟨m1, m2⟩, r1, r2⟩ := GM.avg_bounds hP hcb
    have hmd : CM.mdN (GM.cost l) 1 (GM.lots l * tick) 3 = GM.avgK l tick := GM.md_floor hcb ⟨s1, s2⟩
    have C4 := Lib.hid (fun ww => muldiv_any (GM.cost l) 1 (GM.lots l * tick) 3 ww)
    rw [hmd] at C4
    have e1 : aveP l tick = GM.avgK l tick * tick := by unfold aveP; rw [if_pos hp]; rfl
    have e2 : aveR l tick = GM.cost l - GM.lots l * (GM.avgK l tick * tick) := by unfold aveR; rw [if_pos hp]; rfl
    have ep : GM.avgP l tick = GM.avgK l tick * tick := rfl
    rw [ep] at p1 p2 m1 m2
    rw [e1, e2]
    rw [hp] at C1 ⊢
    obtain ⟨c1, c2⟩ := hcb
    have t1 := hP.tk.1; have t2 := hP.tk.2
    clear hp hP e1 e2 ep hmd r1 r2 hi
    generalize GM.cost l = c at *
    generalize GM.lots l = q at *
    generalize GM.avgK l tick = k at *
    generalize CM.mdE c 1 (q * tick) 3 = me at *
    go_enter Try.func38, Try.ntmps38
    go_wp2_with fail
    generalize w.alloc (.cells #[.slice A l.length cap, .int .i64 tick] 112) = w0 at *
    refine (C1.out _ HI.out).mono ?_
    rintro e w1 ⟨rfl, b1⟩
    have HB1 := Lib.hid (HB0.out.trans (b1.mono HB0.out.size))
    have HI1 := Lib.hid (HI.out.below b1)
    have HX1 := Lib.hid (HX0.out.below b1 HX0.out.lt)
    have hxl := HX1.out.lt
    have HSF : Hid (∀ ww, Below w1.heap.size w1 ww → ww.cell? ⟨w.heap.size, 0, none⟩ = some (.slice A l.length cap) ∧ ww.cell? ⟨w.heap.size, 1, none⟩ = some (.int .i64 tick)) := Lib.hid (fun ww h => ⟨(HX1.out.below h hxl).cell 0, (HX1.out.below h hxl).cell 1⟩)
    have HBw : Hid (Below w1.heap.size w1 w1.drew) := Lib.hid (Below.refl _ _).drew
    clear b1 HB0 HX0 HI C1
    go_wp2_with fail
    go_region_held3 (fun ww => ww.cell? ⟨w.heap.size, 0, none⟩ = some (.slice A l.length cap) ∧ ww.cell? ⟨w.heap.size, 1, none⟩ = some (.int .i64 tick))
      (with_reducible exact HSF.out _ HBw.out)
      (first
        | (go_at_call 39; refine (C2.out _ (HI1.out.below HBw.out)).mono ?_; rintro e w5 ⟨rfl, b5⟩; replace HBw := Lib.hid (HBw.out.trans (b5.mono HBw.out.size)); clear b5)
        | (go_at_call 71; refine (C3.out _ (HI1.out.below HBw.out)).mono ?_; rintro e w5 ⟨rfl, b5⟩; replace HBw := Lib.hid (HBw.out.trans (b5.mono HBw.out.size)); clear b5))
    all_goals (
      have HB5 := Lib.hid (HB1.out.trans (HBw.out.mono HB1.out.size))
      clear HSF HBw HX1
      go_wp2_with fail
      refine (C4.out _).mono ?_
      rintro e w6 ⟨rfl, b6⟩
      have HB6 := Lib.hid (HB5.out.trans (b6.mono HB5.out.size))
      clear b6
      go_wp2_with fail
      (try simp only [Exit.inBlock, Exit.then])
      first | (go_ret3; exact ⟨rfl, HB6.out⟩) | exact bodyPost_ret (results_ttt rfl _ _ _) rfl ⟨rfl, HB6.out⟩)
  · have e1 : aveP l tick = 0 := by unfold aveP; rw [if_neg hp]
    have e2 : aveR l tick = 0 := by unfold aveR; rw [if_neg hp]
    rw [e1, e2]
    have hne : (GM.poolE l tick != 0) = true := by simpa using hp
    generalize GM.poolE l tick = r at *
    clear hp e1 e2
    go_enter Try.func38, Try.ntmps38
    go_wp2_with fail
    refine (C1.out _ HI.out).mono ?_
    rintro e w1 ⟨rfl, b1⟩
    have HB1 := Lib.hid (HB0.out.trans (b1.mono HB0.out.size))
    clear b1
    go_wp2_with fail
    (try simp only [Exit.inBlock, Exit.then])
    first | (go_ret3; exact ⟨rfl, HB1.out⟩) | exact bodyPost_ret (results_ttt rfl _ _ _) rfl ⟨rfl, HB1.out⟩
end Go.Proofs.Ytagmknahmkniaab

namespace Go.Proofs.Ytagmknahmkniaab
open Go.RowKit

theorem mul_any (a b : Int) (w : World) :
    Calls Try.prog 21 #[.int .i64 a, .int .i64 b] w fun e w' => e = .returned (.tuple #[.int .i64 (CM.mdN a b 1 1), .int .i64 (CM.mdE a b 1 1)]) ∧ Below w.heap.size w w' := by
  go_enter Try.func21, Try.ntmps21
  go_wp2_with (go_at_call 46; refine (muldiv_any _ _ _ _ _).mono ?_; rintro e w' ⟨rfl, hb⟩)
  go_ret2
  exact ⟨rfl, hb⟩

end Go.Proofs.Ytagmknahmkniaab

namespace Go.Proofs.Ytagmknahmkniaab
open Go.RowKit

set_option maxHeartbeats 1000000 in
theorem sum_any (A : Option Addr) (zs : List Int) (cap : Nat) (w : World) (hI : Ints w A zs) :
    Calls Try.prog 22 #[.slice A zs.length cap] w fun e w' => e = .returned (.tuple #[.int .i64 (CM.sumN zs), .int .i64 (CM.sumE zs)]) ∧ w = w' := by
  have hlen := hI.len
  go_enter Try.func22, Try.ntmps22
  go_wp2
  go_loop [4, 5, 10] (fun f p i => ∃ k : Nat, ∃ x y : Int, k ≤ zs.length ∧ i = .int .i64 k ∧ f = .int .i64 x ∧ p = .int .i64 y ∧ CM.SInv zs k x y) (fun _ _ i => zs.length - (intOf i).toNat)
  case atStart => exact ⟨0, 0, 0, by omega, rfl, rfl, rfl, CM.SInv.start zs⟩
  case round =>
    obtain ⟨k, x, y, hk, rfl, rfl, rfl, hS⟩ := hrel
    obtain ⟨p1, p2, f1, f2⟩ := hS.bounds
    by_cases hlt : k < zs.length
    · obtain ⟨b, off, v, rfl, hb, hcell, HV, v1, v2⟩ := hI.get hlt
      have HI := Lib.hid hI
      clear hI
      cases hf : CM.fits v
      · have HE := Lib.hid (CM.allFit_no hlt (by rw [HV.out]; exact hf))
        go_wp2_with (go_at_call 47; refine (fits_any _ _).mono ?_; rintro e w' ⟨rfl, rfl⟩)
        go_ret2
        exact ⟨by rw [HE.out.1, HE.out.2]; rfl, rfl⟩
      · obtain ⟨g1, g2⟩ := CM.fits_true.1 hf
        have HS := Lib.hid (fun f' p' => @CM.SInv.step zs k x y f' p' hS hlt (by rw [HV.out]; exact hf))
        rw [HV.out] at HS
        by_cases c1 : 1152921504606846976 ≤ y + v
        · go_wp2_with (go_at_call 47; refine (fits_any _ _).mono ?_; rintro e w' ⟨rfl, rfl⟩)
          go_round
          case rel => exact ⟨k + 1, _, _, by omega, by go_num, rfl, rfl, HS.out _ _ (by omega) (by omega) (by omega) (by omega) (by omega)⟩
          case measure => simp [intOf]; omega
        · by_cases c2 : y + v ≤ -1152921504606846976
          · go_wp2_with (go_at_call 47; refine (fits_any _ _).mono ?_; rintro e w' ⟨rfl, rfl⟩)
            go_round
            case rel => exact ⟨k + 1, _, _, by omega, by go_num, rfl, rfl, HS.out _ _ (by omega) (by omega) (by omega) (by omega) (by omega)⟩
            case measure => simp [intOf]; omega
          · go_wp2_with (go_at_call 47; refine (fits_any _ _).mono ?_; rintro e w' ⟨rfl, rfl⟩)
            go_round
            case rel => exact ⟨k + 1, _, _, by omega, by go_num, rfl, rfl, HS.out _ _ (by omega) (by omega) (by omega) (by omega) (by omega)⟩
            case measure => simp [intOf]; omega
    · obtain rfl : k = zs.length := by omega
      obtain ⟨d1, d2⟩ := hS.done
      have D1 := Lib.hid d1; have D2 := Lib.hid d2
      clear d1 d2
      by_cases c1 : 1 < x
      · have HE := Lib.hid (D1.out (.inl c1))
        go_wp2
        go_ret2
        exact ⟨by rw [HE.out.1, HE.out.2]; rfl, rfl⟩
      · by_cases c2 : x < -1
        · have HE := Lib.hid (D1.out (.inr c2))
          go_wp2
          go_ret2
          exact ⟨by rw [HE.out.1, HE.out.2]; rfl, rfl⟩
        · go_wp2_with (go_at_call 48; refine (fitting_any _ _).mono ?_; rintro e w' ⟨rfl, rfl⟩)
          go_ret2
          exact ⟨by rw [D2.out.1, D2.out.2]; rfl, rfl⟩

theorem ints_three (x y z : Int) (w : World) (hx : -9223372036854775808 ≤ x ∧ x ≤ 9223372036854775807) (hy : -9223372036854775808 ≤ y ∧ y ≤ 9223372036854775807) (hz : -9223372036854775808 ≤ z ∧ z ≤ 9223372036854775807) :
    Ints (w.alloc (.cells #[.int .i64 x, .int .i64 y, .int .i64 z] 3)) (some ⟨w.heap.size, 0, none⟩) [x, y, z] := by
  refine ⟨by unfold maxLen; simp, by simp; omega, .inr ⟨_, _, rfl, by simp, fun i hi => ?_⟩⟩
  rw [Nat.zero_add]
  have : i = 0 ∨ i = 1 ∨ i = 2 := by simp at hi; omega
  rcases this with rfl | rfl | rfl <;> simp

end Go.Proofs.Ytagmknahmkniaab

namespace CM
open LM

/-- what the reference's Sum holds after k rounds -/
def RSInv (l : List Int) (k : Nat) (high low : Int) : Prop :=
  allFit (l.take k) = true ∧ high * 1073741824 + low = tot (l.take k) ∧ -(k * 1073741824 : Int) ≤ high ∧ high ≤ k * 1073741824 ∧ -(k * 1073741824 : Int) ≤ low ∧ low ≤ k * 1073741824

theorem RSInv.start (l : List Int) : RSInv l 0 0 0 := ⟨rfl, rfl, by omega, by omega, by omega, by omega⟩
theorem RSInv.bounds {l : List Int} {k : Nat} {high low : Int} (h : RSInv l k high low) :
    -(k * 1073741824 : Int) ≤ high ∧ high ≤ k * 1073741824 ∧ -(k * 1073741824 : Int) ≤ low ∧ low ≤ k * 1073741824 := h.2.2

theorem tparts (v : Int) (h1 : -1152921504606846976 ≤ v) (h2 : v ≤ 1152921504606846976) :
    -1073741824 ≤ v.tdiv 1073741824 ∧ v.tdiv 1073741824 ≤ 1073741824 ∧ -1073741824 < v.tmod 1073741824 ∧ v.tmod 1073741824 < 1073741824 ∧ v.tdiv 1073741824 * 1073741824 + v.tmod 1073741824 = v := by
  have e := Int.mul_tdiv_add_tmod v 1073741824
  by_cases h0 : 0 ≤ v
  · have a := Int.tdiv_eq_ediv_of_nonneg (b := 1073741824) h0
    have b := Int.tmod_eq_emod_of_nonneg (b := 1073741824) h0
    rw [a, b] at *
    omega
  · have a : v.tdiv 1073741824 = -((-v) / 1073741824) := by
      rw [← Int.tdiv_eq_ediv_of_nonneg (by omega), Int.neg_tdiv]; omega
    have b : v.tmod 1073741824 = -((-v) % 1073741824) := by
      rw [← Int.tmod_eq_emod_of_nonneg (by omega), Int.neg_tmod]; omega
    rw [a, b] at *
    omega

theorem RSInv.step {l : List Int} {k : Nat} {high low : Int} (h : RSInv l k high low) (hk : k < l.length) (hf : fits (l.getD k 0) = true) :
    RSInv l (k + 1) (high + (l.getD k 0).tdiv 1073741824) (low + (l.getD k 0).tmod 1073741824) := by
  obtain ⟨a1, a2, a3, a4, a5, a6⟩ := h
  obtain ⟨f1, f2⟩ := fits_true.1 hf
  obtain ⟨t1, t2, t3, t4, t5⟩ := tparts _ f1 f2
  refine ⟨by rw [allFit_take_succ l k hk, a1, hf]; rfl, by rw [tot_take_succ l k hk, ← a2]; omega, ?_, ?_, ?_, ?_⟩ <;> (push_cast; omega)

/-- what is told at the end -/
theorem RSInv.done {l : List Int} {high low h' l' : Int} (h : RSInv l l.length high low) (hl : l.length ≤ 4294967296)
    (eh : h' = high + low.tdiv 1073741824) (el : l' = low.tmod 1073741824) :
    (h' < -1073741825 ∨ 1073741825 < h' → sumN l = 0 ∧ sumE l = 3) ∧ sumN l = fitN (h' * 1073741824 + l') ∧ sumE l = fitE (h' * 1073741824 + l') ∧
      -1073741824 < l' ∧ l' < 1073741824 ∧ -9223372036854775808 ≤ h' ∧ h' ≤ 9223372036854775807 := by
  obtain ⟨a1, a2, a3, a4, a5, a6⟩ := h
  rw [List.take_length] at a1 a2
  obtain ⟨s1, s2⟩ := sum_yes a1
  have hlow : -9223372036854775808 ≤ low ∧ low ≤ 9223372036854775807 := by omega
  have hb : -8589934592 ≤ low.tdiv 1073741824 ∧ low.tdiv 1073741824 ≤ 8589934592 ∧ -1073741824 < low.tmod 1073741824 ∧ low.tmod 1073741824 < 1073741824 ∧ low.tdiv 1073741824 * 1073741824 + low.tmod 1073741824 = low := by
    have e := Int.mul_tdiv_add_tmod low 1073741824
    by_cases h0 : 0 ≤ low
    · have a := Int.tdiv_eq_ediv_of_nonneg (b := 1073741824) h0
      have b := Int.tmod_eq_emod_of_nonneg (b := 1073741824) h0
      rw [a, b] at *
      omega
    · have a : low.tdiv 1073741824 = -((-low) / 1073741824) := by
        rw [← Int.tdiv_eq_ediv_of_nonneg (by omega), Int.neg_tdiv]; omega
      have b : low.tmod 1073741824 = -((-low) % 1073741824) := by
        rw [← Int.tmod_eq_emod_of_nonneg (by omega), Int.neg_tmod]; omega
      rw [a, b] at *
      omega
  obtain ⟨b1, b2, b3, b4, b5⟩ := hb
  have e : h' * 1073741824 + l' = tot l := by rw [← a2, eh, el]; omega
  rw [s1, s2, e]
  refine ⟨fun hc => ?_, rfl, rfl, by omega, by omega, by omega, by omega⟩
  have : fits (tot l) = false := by rw [fits_false, ← e]; omega
  simp [fitN, fitE, this]
end CM

namespace Go.Proofs.Ytagmknahmkniaab
open Go.RowKit

set_option maxHeartbeats 1000000 in
theorem rsum_any (A : Option Addr) (zs : List Int) (cap : Nat) (w : World) (hI : Ints w A zs) (hlen : zs.length ≤ 4294967296) :
    Calls Try.prog 37 #[.slice A zs.length cap] w fun e w' => e = .returned (.tuple #[.int .i64 (CM.sumN zs), .int .i64 (CM.sumE zs)]) ∧ w = w' := by
  go_enter Try.func37, Try.ntmps37
  go_wp2
  go_loop [4, 5, 6] (fun f p i => ∃ k : Nat, ∃ x y : Int, k ≤ zs.length ∧ i = .int .i64 k ∧ f = .int .i64 x ∧ p = .int .i64 y ∧ CM.RSInv zs k x y) (fun _ _ i => zs.length - (intOf i).toNat)
  case atStart => exact ⟨0, 0, 0, by omega, rfl, rfl, rfl, CM.RSInv.start zs⟩
  case round =>
    obtain ⟨k, x, y, hk, rfl, rfl, rfl, hS⟩ := hrel
    obtain ⟨p1, p2, f1, f2⟩ := hS.bounds
    by_cases hlt : k < zs.length
    · obtain ⟨b, off, v, rfl, hb, hcell, HV, v1, v2⟩ := hI.get hlt
      have HI := Lib.hid hI
      clear hI
      cases hf : CM.fits v
      · have HE := Lib.hid (CM.allFit_no hlt (by rw [HV.out]; exact hf))
        go_wp2_with (go_at_call 69; refine (rfits_any _ _).mono ?_; rintro e w' ⟨rfl, rfl⟩)
        go_ret2
        exact ⟨by rw [HE.out.1, HE.out.2]; rfl, rfl⟩
      · obtain ⟨g1, g2⟩ := CM.fits_true.1 hf
        obtain ⟨t1, t2, t3, t4, t5⟩ := CM.tparts v g1 g2
        clear t5
        have HS := Lib.hid (hS.step hlt (by rw [HV.out]; exact hf))
        rw [HV.out] at HS
        go_wp2_with (go_at_call 69; refine (rfits_any _ _).mono ?_; rintro e w' ⟨rfl, rfl⟩)
        go_round
        case rel => exact ⟨k + 1, _, _, by omega, by go_num, rfl, rfl, HS.out⟩
        case measure => simp [intOf]; omega
    · obtain rfl : k = zs.length := by omega
      obtain ⟨d1, d2, d3, d4, d5, d6, d7⟩ := hS.done hlen rfl rfl
      have D1 := Lib.hid d1; have D2 := Lib.hid d2; have D3 := Lib.hid d3
      clear d1 d2 d3
      by_cases c1 : x + y.tdiv 1073741824 < -1073741825
      · have HE := Lib.hid (D1.out (.inl c1))
        go_wp2
        go_ret2
        exact ⟨by rw [HE.out.1, HE.out.2]; rfl, rfl⟩
      · by_cases c2 : 1073741825 < x + y.tdiv 1073741824
        · have HE := Lib.hid (D1.out (.inr c2))
          go_wp2
          go_ret2
          exact ⟨by rw [HE.out.1, HE.out.2]; rfl, rfl⟩
        · cases hf : CM.fits ((x + y.tdiv 1073741824) * 1073741824 + y.tmod 1073741824)
          · have E1 : Hid (CM.sumN zs = 0) := by rw [D2.out]; simp [CM.fitN, hf, Hid]
            have E2 : Hid (CM.sumE zs = 3) := by rw [D3.out]; simp [CM.fitE, hf, Hid]
            go_wp2_with (go_at_call 69; refine (rfits_any _ _).mono ?_; rintro e w' ⟨rfl, rfl⟩)
            go_ret2
            exact ⟨by rw [E1.out, E2.out]; rfl, rfl⟩
          · have E1 : Hid (CM.sumN zs = (x + y.tdiv 1073741824) * 1073741824 + y.tmod 1073741824) := by rw [D2.out]; simp [CM.fitN, hf, Hid]
            have E2 : Hid (CM.sumE zs = 0) := by rw [D3.out]; simp [CM.fitE, hf, Hid]
            go_wp2_with (go_at_call 69; refine (rfits_any _ _).mono ?_; rintro e w' ⟨rfl, rfl⟩)
            go_ret2
            exact ⟨by rw [E1.out, E2.out]; rfl, rfl⟩
end Go.Proofs.Ytagmknahmkniaab

/- Contracts of layer 14: the lots of parts; numbers compared. -/
namespace Go.Proofs.Ytagmknahmkniaab
open Go.RowKit Go.Recs
set_option linter.unusedVariables false
set_option linter.unusedSimpArgs false
theorem qtys_succ {l : List GM.Part} {k : Nat} (h : k < l.length) : (l.take (k + 1)).map (·.qty) = (l.take k).map (·.qty) ++ [(GM.pAt l k).qty] := by
  rw [List.take_add_one, GM.pAt_get h, List.getElem?_eq_getElem h, List.map_append]
  rfl
set_option maxHeartbeats 2000000 in
set_option maxRecDepth 100000 in
theorem dquant_any (all : Int) (A : Option Addr) (l : List GM.Part) (n cap : Nat) (hn : n = l.length) (w : World) (hI : Parts w A l) (hl : l.length ≤ 1024) :
    Calls Try.prog 42 #[.agg #[.int .i64 all, .slice A n cap]] w fun e w' => ∃ v, e = .returned v ∧ Own w' w.heap.size v (l.map (·.qty)) ∧ Below w.heap.size w w' := by
  subst hn
  have hlen := hI.len
  have HB0 := Lib.hid (below_al (Below.refl w.heap.size w) (.cells (divC all A l.length cap) 115))
  have HI := Lib.hid hI
  have KE : Hid ((l.take l.length).map (·.qty) = l.map (·.qty)) := Lib.hid (by rw [List.take_length])
  have KS := Lib.hid (fun k => @qtys_succ l k)
  clear hI
  go_enter Try.func42, Try.ntmps42
  go_wp2_with fail
  generalize w.alloc (.cells #[.int .i64 all, .slice A l.length cap] 115) = w0 at *
  go_loopw [2, 4, 8] (fun v _ i wr => ∃ k : Nat, k ≤ l.length ∧ i = .int .i64 (k : Int) ∧ Hid (Own wr w.heap.size v ((l.take k).map (·.qty))) ∧ Hid (Below w.heap.size w wr)) (fun _ _ i _ => l.length - (intOf i).toNat)
  case atStart => exact ⟨0, by omega, rfl, Lib.hid (Own.nil _ _), HB0⟩
  case round =>
    obtain ⟨k, hk, rfl, HO, HB⟩ := hrel
    by_cases hlt : k < l.length
    · obtain ⟨b, off, x, rfl, hb, HV, q, d0, d1, d2⟩ := parts_get (HI.out.below HB.out) hlt
      have HBx := Lib.hid (below_al HB.out (.cells (partC x) 71))
      have HOx := Lib.hid (HO.out.alloc (.cells (partC x) 71))
      have HW : Hid ((l.take (k + 1)).map (·.qty) = (l.take k).map (·.qty) ++ [x.qty]) := Lib.hid (by rw [KS.out k hlt, HV.out])
      have hwl : ((l.take k).map (·.qty)).length ≤ 1024 := by rw [List.length_map, List.length_take]; omega
      have hsz : (wr.alloc (.cells (partC x) 71)).heap.size = wr.heap.size + 1 := by simp
      clear q HV HO
      go_wp2_with (at_builtin; go_loud (refine wpList_push _ x.qty w.heap.size ((l.take k).map (·.qty)) _ _ rfl rfl _ (by first | rfl | exact (congrArg (fun z => Value.slice (some ⟨z, 0, none⟩) 1 1) hsz.symm)) (by first | rfl | exact (congrArg (fun z => Value.slice (some ⟨z, 0, none⟩) 1 1) hsz.symm)) HOx.out ?c1 HBx.out.size ?_))
      case c1 => omega
      intro v4 w4 o4 b4 _ _
      have HO4 : Hid (Own w4 w.heap.size v4 ((l.take (k + 1)).map (·.qty))) := Lib.hid (by rw [HW.out]; simpa using o4)
      have HB4 := Lib.hid (HBx.out.trans b4)
      clear o4 b4 HOx hsz
      go_wp2_with fail
      go_roundw
      case rel => exact ⟨k + 1, by omega, by go_num, HO4, HB4⟩
      case measure => simp [intOf]; omega
    · obtain rfl : k = l.length := by omega
      rw [KE.out] at HO
      go_wp2_with fail
      go_ret
      exact ⟨_, rfl, HO.out, HB.out⟩
end Go.Proofs.Ytagmknahmkniaab
