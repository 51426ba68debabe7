/- Put together: GivO, ShareE, GivP, GivQ, WGiveupAverages, SizedRec, OpenProd, OpenNov. -/
import Derived.Test.YthippdmfeeopkaaBun11
import Derived.Test.YthippdmfeeopkaaBun7
import Derived.Test.YthippdmfeeopkaaBun10
import Derived.Test.YthippdmfeeopkaaBun3
import Derived.SizedLaws
import Derived.ProofKit
import Derived.Test.YthippdmfeeopkaaBun4
import Derived.OpenShut
import Derived.ShutString
import Derived.ChangeOld
import Derived.Test.YthippdmfeeopkaaBun5
/- Contracts of layer 14: the reference's average. -/
namespace Go.Proofs.Ythippdmfeeopkaa
open Go.RowKit Go.Recs
set_option linter.unusedVariables false
set_option linter.unusedSimpArgs false
theorem okp_low {n : Int} (h : n < -16777216) : GM.okP n = false := by unfold GM.okP; simp; omega
theorem okp_high {n : Int} (h : 16777216 < n) : GM.okP n = false := by unfold GM.okP; simp; omega
theorem okp_yes {n : Int} (h1 : ¬ n < -16777216) (h2 : ¬ 16777216 < n) : GM.okP n = true := by unfold GM.okP; simp; omega
set_option maxHeartbeats 8000000 in
set_option maxRecDepth 100000 in
theorem rpool14_any (A : Option Addr) (l : List TM.Trd) (n cap : Nat) (tick : Int) (hn : n = l.length) (w : World) (hI : Trds w A l) :
    Calls Try.prog 64 #[.slice A n cap, .int .i64 tick] w fun e w' => e = .returned (.int .i64 (GM.poolE l tick)) ∧ Below w.heap.size w w' := by
  subst hn
  have hlen := hI.len
  have K16 := Lib.hid (@GM.pool_tick l tick); have K8 := Lib.hid (@GM.pool_count l tick); have K19 := Lib.hid (fun h hc k => @GM.pool_one l tick h hc k)
  have K18 := Lib.hid (fun h hc h1 k => @GM.pool_lots l tick h hc h1 k); have K17 := Lib.hid (fun h hc h1 h2 k => @GM.pool_price l tick h hc h1 h2 k); have KO := Lib.hid (@GM.pool_ok l tick)
  generalize GM.poolE l tick = r at *
  have HI := Lib.hid hI
  clear hI
  by_cases ht1 : tick < 1
  · have HR := Lib.hid (K16.out (by omega))
    go_enter Try.func64, Try.ntmps64
    go_wp2_with fail
    go_ret
    exact ⟨by rw [HR.out] <;> rfl, Below.refl _ _⟩
  by_cases ht2 : 16777216 < tick
  · have HR := Lib.hid (K16.out (by omega))
    go_enter Try.func64, Try.ntmps64
    go_wp2_with fail
    go_ret
    exact ⟨by rw [HR.out] <;> rfl, Below.refl _ _⟩
  have HT : Hid (1 ≤ tick ∧ tick ≤ 16777216) := Lib.hid (by omega)
  by_cases hz : l.length = 0
  · have HR := Lib.hid (K8.out HT.out (by omega))
    have c0 : ((l.length : Int) == 0) = true := beq_t (by omega)
    clear hz
    go_enter Try.func64, Try.ntmps64
    go_wp2_with fail
    go_ret
    exact ⟨by rw [HR.out] <;> rfl, Below.refl _ _⟩
  have c0 : ((l.length : Int) == 0) = false := beq_f (by omega)
  by_cases hg : 1024 < l.length
  · have HR := Lib.hid (K8.out HT.out (by omega))
    clear hz
    go_enter Try.func64, Try.ntmps64
    go_wp2_with fail
    go_ret
    exact ⟨by rw [HR.out] <;> rfl, Below.refl _ _⟩
  have HC : Hid (1 ≤ l.length ∧ l.length ≤ 1024) := Lib.hid (by omega)
  have hg2 : l.length ≤ 1024 := by omega
  have h0l : 0 < l.length := by omega
  have gs := ser_guard
  clear hz hg
  go_enter Try.func64, Try.ntmps64
  go_wp2_with fail
  go_loopw [5] (fun i wr => ∃ k : Nat, k ≤ l.length ∧ i = .int .i64 (k : Int) ∧ Hid (∀ j, j < k → NM.seqB (TM.tAt l j).ser (TM.tAt l 0).ser = true) ∧ Hid (Below w.heap.size w wr)) (fun i _ => l.length - (intOf i).toNat)
  case atStart => exact ⟨0, by omega, rfl, Lib.hid (fun j h => by omega), Lib.hid (Below.refl _ _)⟩
  case round =>
    obtain ⟨k, hk, rfl, HE, HB⟩ := hrel
    by_cases hlt : k < l.length
    · obtain ⟨b, off, t, rfl, hb, HV, q, d0, d1, d2, d3, d4, d5, d6, d7, d8, d9, d10, d11, d12⟩ := trds_get (HI.out.below HB.out) hlt
      obtain ⟨b', off', z, he, hb', HVz, qz, g0, g1, g2, g3, g4, g5, g6, g7, g8, g9, g10, g11, g12⟩ := trds_get (HI.out.below HB.out) h0l
      injection he with he
      injection he with e1 e2
      subst e1 e2
      have z3 : wr.cell? ⟨b, off + 3, none⟩ = some (.string z.ser.prod) := by simpa using g3
      have z4 : wr.cell? ⟨b, off + 4, none⟩ = some (.int .i64 z.ser.kind) := by simpa using g4
      have z5 : wr.cell? ⟨b, off + 5, none⟩ = some (.int .i64 z.ser.expiry) := by simpa using g5
      have z6 : wr.cell? ⟨b, off + 6, none⟩ = some (.int .i64 z.ser.strike) := by simpa using g6
      have E1 : ∀ ww, (Op.equalIn 10000 43 (serA t.ser) (serA z.ser)).run Try.prog ww = .ok (NM.seqB t.ser z.ser) ww := fun ww => serB_in t.ser z.ser ww
      clear q qz g0 g1 g2 g3 g4 g5 g6 g7 g8 g9 g10 g11 g12 hb' d0 d1 d2 d7 d8 d9 d10 d11 d12
      cases hq : NM.seqB t.ser z.ser
      · have HR := Lib.hid (K19.out HT.out HC.out k hlt (by rw [HV.out, HVz.out]; exact hq))
        rw [hq] at E1
        clear hq HV HVz
        go_wp2_with fail
        go_quiet (fail)
        go_wp2_with fail
        go_ret
        exact ⟨by rw [HR.out] <;> rfl, by first | exact HB.out | exact below_drewN HB.out _⟩
      · rw [hq] at E1
        have HE2 : Hid (∀ j, j < k + 1 → NM.seqB (TM.tAt l j).ser (TM.tAt l 0).ser = true) := Lib.hid (fun j hj => by
          rcases Nat.lt_or_ge j k with g | g
          · exact HE.out j g
          · obtain rfl : j = k := by omega
            rw [HV.out, HVz.out]; exact hq)
        clear hq HV HVz
        go_wp2_with fail
        go_quiet (fail)
        go_wp2_with fail
        go_roundw
        case rel => exact ⟨k + 1, by omega, by go_num, HE2, Lib.hid (by first | exact HB.out | exact below_drewN HB.out _)⟩
        case measure => simp [intOf]; omega
    · obtain rfl : k = l.length := by omega
      have HI1 := Lib.hid (HI.out.below HB.out)
      clear HI
      go_wp2_with fail
      go_loop [6] (fun i => ∃ k : Nat, k ≤ l.length ∧ i = .int .i64 (k : Int) ∧ Hid (∀ j, j < k → GM.okQ (TM.tAt l j).qty = true)) (fun i => l.length - (intOf i).toNat)
      case atStart => exact ⟨0, by omega, rfl, Lib.hid (fun j h => by omega)⟩
      case round =>
        obtain ⟨k, hk, rfl, HQ⟩ := hrel
        by_cases hlt : k < l.length
        · obtain ⟨b, off, t, rfl, hb, HV, q, d0, d1, d2, d3, d4, d5, d6, d7, d8, d9, d10, d11, d12⟩ := trds_get HI1.out hlt
          clear q d0 d1 d2 d3 d4 d5 d6 d8 d9 d10 d11 d12
          by_cases h1 : t.qty < 1
          · have HR := Lib.hid (K18.out HT.out HC.out HE.out k hlt (by rw [HV.out]; exact okq_low h1))
            go_wp2_with fail
            go_ret
            exact ⟨by rw [HR.out] <;> rfl, HB.out⟩
          · by_cases h2 : 1048576 < t.qty
            · have HR := Lib.hid (K18.out HT.out HC.out HE.out k hlt (by rw [HV.out]; exact okq_high h2))
              go_wp2_with fail
              go_ret
              exact ⟨by rw [HR.out] <;> rfl, HB.out⟩
            · have HQ2 : Hid (∀ j, j < k + 1 → GM.okQ (TM.tAt l j).qty = true) := Lib.hid (fun j hj => by
                rcases Nat.lt_or_ge j k with g | g
                · exact HQ.out j g
                · obtain rfl : j = k := by omega
                  rw [HV.out]; exact okq_yes h1 h2)
              go_wp2_with fail
              go_round
              case rel => exact ⟨k + 1, by omega, by go_num, HQ2⟩
              case measure => simp [intOf]; omega
        · obtain rfl : k = l.length := by omega
          go_wp2_with fail
          go_loop [7] (fun i => ∃ k : Nat, k ≤ l.length ∧ i = .int .i64 (k : Int) ∧ Hid (∀ j, j < k → GM.okP (TM.tAt l j).price = true)) (fun i => l.length - (intOf i).toNat)
          case atStart => exact ⟨0, by omega, rfl, Lib.hid (fun j h => by omega)⟩
          case round =>
            obtain ⟨k, hk, rfl, HP⟩ := hrel
            by_cases hlt : k < l.length
            · obtain ⟨b, off, t, rfl, hb, HV, q, d0, d1, d2, d3, d4, d5, d6, d7, d8, d9, d10, d11, d12⟩ := trds_get HI1.out hlt
              clear q d0 d1 d2 d3 d4 d5 d6 d7 d9 d10 d11 d12
              by_cases h1 : t.price < -16777216
              · have HR := Lib.hid (K17.out HT.out HC.out HE.out HQ.out k hlt (by rw [HV.out]; exact okp_low h1))
                go_wp2_with fail
                go_ret
                exact ⟨by rw [HR.out] <;> rfl, HB.out⟩
              · by_cases h2 : 16777216 < t.price
                · have HR := Lib.hid (K17.out HT.out HC.out HE.out HQ.out k hlt (by rw [HV.out]; exact okp_high h2))
                  go_wp2_with fail
                  go_ret
                  exact ⟨by rw [HR.out] <;> rfl, HB.out⟩
                · have HP2 : Hid (∀ j, j < k + 1 → GM.okP (TM.tAt l j).price = true) := Lib.hid (fun j hj => by
                    rcases Nat.lt_or_ge j k with g | g
                    · exact HP.out j g
                    · obtain rfl : j = k := by omega
                      rw [HV.out]; exact okp_yes h1 h2)
                  go_wp2_with fail
                  go_round
                  case rel => exact ⟨k + 1, by omega, by go_num, HP2⟩
                  case measure => simp [intOf]; omega
            · obtain rfl : k = l.length := by omega
              have HR := Lib.hid (KO.out HT.out HC.out HE.out HQ.out HP.out)
              go_wp2_with fail
              go_ret
              exact ⟨by rw [HR.out] <;> rfl, HB.out⟩
set_option maxHeartbeats 2000000 in
theorem rqty14_any (A : Option Addr) (l : List TM.Trd) (n cap : Nat) (hn : n = l.length) (w : World) (hI : Trds w A l) (hq : ∀ t ∈ l, (1 ≤ t.qty ∧ t.qty ≤ 1048576) ∧ -16777216 ≤ t.price ∧ t.price ≤ 16777216) (hl : l.length ≤ 1024) :
    Calls Try.prog 65 #[.slice A n cap] w fun e w' => e = .returned (.int .i64 (GM.lots l)) ∧ w = w' := by
  subst hn
  have hlen := hI.len
  have HI := Lib.hid hI
  have KS := Lib.hid (fun k => @lots_succ l k)
  have KB : Hid (∀ k, k ≤ l.length → 0 ≤ GM.lots (l.take k) ∧ GM.lots (l.take k) ≤ 1073741824) := Lib.hid (fun k hk => plots_any_bound (fun t ht => hq t (List.mem_of_mem_take ht)) (by rw [List.length_take]; omega))
  have KE : Hid (GM.lots (l.take l.length) = GM.lots l) := Lib.hid (by rw [List.take_length])
  have K0 : Hid (0 = GM.lots (l.take 0)) := Lib.hid rfl
  generalize GM.lots l = r at *
  clear hI hq hl
  go_enter Try.func65, Try.ntmps65
  go_wp2_with fail
  go_loop [3, 4] (fun v i => ∃ (k : Nat) (y : Int), k ≤ l.length ∧ i = .int .i64 (k : Int) ∧ v = .int .i64 y ∧ 0 ≤ y ∧ y ≤ 1073741824 ∧ Hid (y = GM.lots (l.take k))) (fun _ i => l.length - (intOf i).toNat)
  case atStart => exact ⟨0, 0, by omega, rfl, rfl, by omega, by omega, K0⟩
  case round =>
    obtain ⟨k, y, hk, rfl, rfl, y1, y2, HE⟩ := hrel
    by_cases hlt : k < l.length
    · obtain ⟨b, off, t, rfl, hb, HV, q, d0, d1, d2, d3, d4, d5, d6, d7, d8, d9, d10, d11, d12⟩ := trds_get HI.out hlt
      have HN : Hid (y + t.qty = GM.lots (l.take (k + 1))) := Lib.hid (by rw [KS.out k hlt, HV.out, HE.out])
      have hb1 : 0 ≤ y + t.qty ∧ y + t.qty ≤ 1073741824 := by rw [HN.out]; exact KB.out (k + 1) (by omega)
      have hb2 := hb1.1; have hb3 := hb1.2
      clear q hb1 d0 d1 d2 d3 d4 d5 d6 d8 d9 d10 d11 d12
      go_wp2_with fail
      go_round
      case rel => exact ⟨k + 1, y + t.qty, by omega, by go_num, by go_num, hb2, hb3, HN⟩
      case measure => simp [intOf]; omega
    · obtain rfl : k = l.length := by omega
      have HR := Lib.hid (HE.out.trans KE.out)
      go_wp2_with fail
      go_ret
      exact ⟨by rw [HR.out] <;> rfl, rfl⟩
end Go.Proofs.Ythippdmfeeopkaa

namespace Go.Proofs.Ythippdmfeeopkaa
open Go.RowKit

theorem amaxK_one (r : List Int) : SM.amaxK r 1 = 0 := by simp [SM.amaxK]

/-- one round's stores into the two rows -/
theorem rsplit_round {w wr : World} {B g1 g2 n c1 c2 i : Nat} {ps rs : List Int} (x : Int) (m : Nat)
    (h1 : Own wr B (.slice (some ⟨g1, 0, none⟩) n c1) ps) (h2 : Own wr B (.slice (some ⟨g2, 0, none⟩) n c2) rs) (hne : g1 ≠ g2) (hB : Below B w wr) :
    let W := ((wr.drewN m).setCell ⟨g1, i, none⟩ (.int .i64 x)).setCell ⟨g2, i, none⟩ (.int .i64 (-1))
    Own W B (.slice (some ⟨g1, 0, none⟩) n c1) (ps.set i x) ∧ Own W B (.slice (some ⟨g2, 0, none⟩) n c2) (rs.set i (-1)) ∧ Below B w W :=
  ⟨((h1.drewN m).set_ i x).far (p := ⟨g2, i, none⟩) hne _, ((h2.drewN m).far (p := ⟨g1, i, none⟩) hne.symm _).set_ i (-1),
    ((below_drewN hB m).setCell (p := ⟨g1, i, none⟩) h1.ge.1 _).setCell (p := ⟨g2, i, none⟩) h2.ge.1 _⟩

theorem rsplit_memory (w : World) :
    let W := (w.alloc (.cells #[] 3)).alloc (.cells #[] 3)
    Two W w.heap.size (.slice (some ⟨w.heap.size, 0, none⟩) 0 0) [] (.slice (some ⟨w.heap.size + 1, 0, none⟩) 0 0) [] ∧ Below w.heap.size w W := by
  have h2 := Own.empty (w.alloc (.cells #[] 3)) w.heap.size (by simp)
  simp only [World.size_alloc] at h2
  refine ⟨⟨(Own.empty w w.heap.size (Nat.le_refl _)).alloc _, h2, w.heap.size, w.heap.size + 1, rfl, rfl, by omega, by simp <;> omega, by simp⟩, ?_⟩
  exact ((Below.refl _ _).alloc (Nat.le_refl _) _).alloc (by simp) _

set_option maxHeartbeats 4000000 in
theorem rsplit_ok (total : Int) (A : Option Addr) (zs : List Int) (cap : Nat) (w : World) (hI : Ints w A zs) (hl : ¬ 1024 < zs.length) (hin : SM.inR total = true) (hw : SM.wOk zs = true) (h0 : LM.tot zs ≠ 0) :
    Calls Try.prog 68 #[.int .i64 total, .slice A zs.length cap] w fun e w' =>
      ∃ v, e = .returned (.tuple #[v, .int .i64 0]) ∧ Own w' w.heap.size v (SM.parts total (LM.tot zs) zs) ∧ Below w.heap.size w w' := by
  obtain ⟨hr, ht1⟩ := SM.wOk_parts hw
  have ht0 := SM.tot_nonneg hr
  have hpos : 0 < LM.tot zs := by omega
  obtain ⟨t0, t1⟩ := SM.inR_true.1 hin
  obtain ⟨w1, w2⟩ := SM.w_yes hw
  have hz : (LM.tot zs == 0) = false := by simpa using h0
  obtain ⟨f0, f1⟩ := SM.left_range total (LM.tot zs) zs rfl hpos
  obtain ⟨L, hL⟩ := Int.eq_ofNat_of_zero_le f0
  have HP := Lib.hid (SM.parts_ref hw h0 L hL)
  have HZ := Lib.hid hr
  have HQ := Lib.hid (fun k => SM.qs_take (total := total) (all := LM.tot zs) (w := zs) t0 hr hpos rfl k)
  have HEL := Lib.hid (fun (k : Nat) (hk : k < zs.length) => SM.elem_le hr hk)
  have HLL : Hid (total - LM.tot ((SM.qs total (LM.tot zs) zs).take zs.length) = (L : Int)) := by
    show _ = _
    rw [← hL]; unfold SM.leftOf; rw [List.take_of_length_le (by rw [SM.qs_len]; exact Nat.le_refl _)]
  have hL2 : L < zs.length := by omega
  clear hr hw h0 f0 f1 hL
  generalize hall : LM.tot zs = all at *
  clear hall
  go_enter Try.func68, Try.ntmps68
  go_wp2_with (first
    | (go_at_call 121; refine (smoney_any _ _).mono ?_; rintro e w' ⟨rfl, rfl⟩)
    | (go_at_call 122; refine (rweights_any _ _ _ _ hI).mono ?_; rintro e w' ⟨rfl, rfl⟩))
  go_loopw [8, 9, 10, 11] (fun v u l i wr => ∃ k : Nat, k ≤ zs.length ∧ i = .int .i64 k ∧ l = .int .i64 (total - LM.tot ((SM.qs total all zs).take k)) ∧
      Two wr w.heap.size v ((SM.qs total all zs).take k) u ((SM.rs total all zs).take k) ∧ Below w.heap.size w wr)
    (fun _ _ _ i _ => zs.length - (intOf i).toNat)
  case atStart =>
    obtain ⟨m1, m2⟩ := rsplit_memory w
    exact ⟨0, by omega, rfl, by simp [LM.tot], by simpa using m1, m2⟩
  case round =>
    obtain ⟨k, hk, rfl, rfl, hT, hB⟩ := hrel
    by_cases hlt : k < zs.length
    · have hI2 := hI.below hB
      obtain ⟨b, off, x, rfl, hb, hcell, HV, v1, v2⟩ := hI2.get hlt
      obtain ⟨x0, x1⟩ := SM.allR_get HZ.out hlt
      have x2 := HEL.out k hlt
      rw [HV.out] at x0 x1 x2
      obtain ⟨s0, s1⟩ := HQ.out k
      have p0 := SM.pq_nonneg t0 x0 hpos
      have p1 := SM.pq_le t0 x2 hpos
      have HS : Hid (LM.tot ((SM.qs total all zs).take (k + 1)) = LM.tot ((SM.qs total all zs).take k) + SM.pq total x all) := by
        show _ = _
        rw [LM.tot_take_succ _ _ (by rw [SM.qs_len]; exact hlt), SM.qs_get _ _ _ _ hlt, HV.out]
      have HT1 : Hid ((SM.qs total all zs).take (k + 1) = (SM.qs total all zs).take k ++ [SM.pq total x all]) := by
        show _ = _
        rw [LM.take_snoc _ _ (by rw [SM.qs_len]; exact hlt), SM.qs_get _ _ _ _ hlt, HV.out]
      have HT2 : Hid ((SM.rs total all zs).take (k + 1) = (SM.rs total all zs).take k ++ [SM.pr total x all]) := by
        show _ = _
        rw [LM.take_snoc _ _ (by rw [SM.rs_len]; exact hlt), SM.rs_get _ _ _ _ hlt, HV.out]
      have HI := Lib.hid hI
      clear hI hI2
      generalize LM.tot ((SM.qs total all zs).take k) = T at *
      go_wp2_with (first
        | (go_at_call 123; refine (rdiv_any _ _ _ _ t0 t1 x0 x2 hpos ht1).mono ?_; rintro e w' ⟨rfl, rfl⟩)
        | (at_builtin; refine wpList_push2 _ _ w.heap.size _ _ _ _ rfl rfl _ _ rfl rfl hT ?c1 ?c2 ?_))
      case c1 => simp; omega
      case c2 => exact hB.size
      intro v' w2 hT2 hB2
      have hB3 := hB.trans hB2
      clear hcell
      go_wp2_with (at_builtin; refine wpList_push2 _ _ w.heap.size _ _ _ _ rfl rfl _ _ rfl rfl hT2.swap ?c3 ?c4 ?_)
      case c3 => simp; omega
      case c4 => exact hB3.size
      intro v'' w3 hT3 hB4
      go_wp2
      go_roundw
      case rel => exact ⟨k + 1, by omega, by go_num, by rw [HS.out]; go_num, by rw [HT1.out, HT2.out]; exact hT3.swap, hB3.trans hB4⟩
      case measure => simp [intOf]; omega
    · obtain rfl : k = zs.length := by omega
      rw [HLL.out]
      have e1 : (SM.qs total all zs).take zs.length = SM.qs total all zs := List.take_of_length_le (by rw [SM.qs_len]; exact Nat.le_refl _)
      have e2 : (SM.rs total all zs).take zs.length = SM.rs total all zs := List.take_of_length_le (by rw [SM.rs_len]; exact Nat.le_refl _)
      rw [e1, e2] at hT
      obtain ⟨hO1, hO2, g, h, eg, eh, hne, _, _⟩ := hT
      obtain ⟨c1, hv1⟩ : ∃ c, u8 = .slice (some ⟨g, 0, none⟩) zs.length c := by
        rcases hO1.form with ⟨r, _⟩ | ⟨g', c, r, _⟩
        · rw [r] at eg; cases eg
        · rw [r] at eg; injection eg with eg; simp only [] at eg; subst eg; exact ⟨c, by rw [r, SM.qs_len]⟩
      obtain ⟨c2, hv2⟩ : ∃ c, u9 = .slice (some ⟨h, 0, none⟩) zs.length c := by
        rcases hO2.form with ⟨r, _⟩ | ⟨g', c, r, _⟩
        · rw [r] at eh; cases eh
        · rw [r] at eh; injection eh with eh; simp only [] at eh; subst eh; exact ⟨c, by rw [r, SM.rs_len]⟩
      subst hv1 hv2
      clear e1 e2 eg eh
      go_wp2
      go_loopw [14] (fun i wr => ∃ t : Nat, t ≤ L ∧ i = .int .i64 t ∧ Own wr w.heap.size (.slice (some ⟨g, 0, none⟩) zs.length c1) (SM.diter (-1) t (SM.qs total all zs, SM.rs total all zs)).1 ∧
          Own wr w.heap.size (.slice (some ⟨h, 0, none⟩) zs.length c2) (SM.diter (-1) t (SM.qs total all zs, SM.rs total all zs)).2 ∧ Below w.heap.size w wr)
        (fun i _ => L - (intOf i).toNat)
      case atStart => exact ⟨0, by omega, rfl, hO1, hO2, hB⟩
      case round =>
        clear hO1 hO2 hB
        obtain ⟨t, ht, rfl, hO1, hO2, hB⟩ := hrel
        by_cases hlt2 : t < L
        · have n1 : (SM.diter (-1) t (SM.qs total all zs, SM.rs total all zs)).1.length = zs.length := by rw [(SM.diter_len _ _ _).1]; exact SM.qs_len _ _ _
          have n2 : (SM.diter (-1) t (SM.qs total all zs, SM.rs total all zs)).2.length = zs.length := by rw [(SM.diter_len _ _ _).2]; exact SM.rs_len _ _ _
          have HBD := Lib.hid (fun j (hj : j < zs.length) => SM.diter_bound (-1) t (SM.qs total all zs, SM.rs total all zs) (by simp only [SM.qs_len, SM.rs_len]) j)
          have HQ0 := Lib.hid (fun j (hj : j < zs.length) => SM.qs_nonneg (total := total) (all := all) t0 HZ.out hpos j hj)
          have HQ1 : Hid (∀ j, j < zs.length → (SM.qs total all zs).getD j 0 ≤ total) := fun j hj => by rw [SM.qs_get _ _ _ _ hj]; exact SM.pq_le t0 (HEL.out j hj) hpos
          have HD : Hid (SM.diter (-1) (t + 1) (SM.qs total all zs, SM.rs total all zs) = SM.dstep (-1) (SM.diter (-1) t (SM.qs total all zs, SM.rs total all zs))) := rfl
          unfold SM.dstep SM.inc at HD
          unfold SM.amax at HD
          rw [n2] at HD
          generalize (SM.diter (-1) t (SM.qs total all zs, SM.rs total all zs)).2 = rem at *
          generalize (SM.diter (-1) t (SM.qs total all zs, SM.rs total all zs)).1 = par at *
          obtain ⟨wo, rfl⟩ : ∃ wo : World, wo = wr := ⟨_, rfl⟩
          have N1 := Lib.hid n1
          have N2 := Lib.hid n2
          clear n1 n2
          go_wp2
          go_loopw [15, 16] (fun b i wi => ∃ k : Nat, 1 ≤ k ∧ k ≤ zs.length ∧ i = .int .i64 k ∧ b = .int .i64 (SM.amaxK rem k) ∧ ∃ m, wi = wo.drewN m) (fun _ i _ => zs.length - (intOf i).toNat)
          case atStart => exact ⟨1, by omega, by omega, rfl, by rw [amaxK_one]; rfl, 0, rfl⟩
          case round =>
            obtain ⟨k, hk1, hk, rfl, rfl, m, rfl⟩ := hrel
            have hm : SM.amaxK rem k < zs.length := by have := SM.amaxK_lt rem k (by omega); omega
            by_cases hlt3 : k < zs.length
            · obtain ⟨v, hv⟩ : ∃ v, rem.getD k 0 = v := ⟨_, rfl⟩
              obtain ⟨u, hu⟩ : ∃ u, rem.getD (SM.amaxK rem k) 0 = u := ⟨_, rfl⟩
              have hc1 := hO2.cell k (by rw [N2.out]; exact hlt3)
              have hc2 := hO2.cell (SM.amaxK rem k) (by rw [N2.out]; exact hm)
              rw [hv] at hc1
              rw [hu] at hc2
              have HS : Hid (SM.amaxK rem (k + 1) = if u < v then k else SM.amaxK rem k) := by
                show SM.amaxK rem (k + 1) = _
                rw [SM.amaxK, hv, hu]
              clear hv hu
              generalize SM.amaxK rem k = j at *
              by_cases hc : u < v
              · rw [if_pos hc] at HS
                go_wp2
                go_quiet (fail)
                go_wp2
                go_roundw
                case rel => exact ⟨k + 1, by omega, by omega, by go_num, by rw [HS.out], _, rfl⟩
                case measure => simp [intOf]; omega
              · rw [if_neg hc] at HS
                go_wp2
                go_quiet (fail)
                go_wp2
                go_roundw
                case rel => exact ⟨k + 1, by omega, by omega, by go_num, by rw [HS.out], _, rfl⟩
                case measure => simp [intOf]; omega
            · obtain rfl : k = zs.length := by omega
              have hc1 := hO1.cell (SM.amaxK rem zs.length) (by rw [N1.out]; exact hm)
              have hc2 := hO2.cell (SM.amaxK rem zs.length) (by rw [N2.out]; exact hm)
              have hf1 := hO1.frozen (SM.amaxK rem zs.length)
              have hf2 := hO2.frozen (SM.amaxK rem zs.length)
              obtain ⟨b1, b2⟩ := HBD.out _ hm
              have b3 := HQ0.out _ hm
              have b4 := HQ1.out _ hm
              have HR := Lib.hid (fun x => rsplit_round (i := SM.amaxK rem zs.length) x m hO1 hO2 hne hB)
              generalize SM.amaxK rem zs.length = im at *
              generalize rem.getD im 0 = r0 at *
              generalize par.getD im 0 = p0 at *
              go_wp2
              go_roundw
              case rel =>
                obtain ⟨q1, q2, q3⟩ := HR.out (p0 + 1)
                exact ⟨t + 1, by omega, by go_num, by rw [HD.out]; exact q1, by rw [HD.out]; exact q2, q3⟩
              case measure => simp [intOf]; omega
        · obtain rfl : t = L := by omega
          go_wp2
          go_ret2
          exact ⟨_, rfl, by rw [← HP.out]; exact hO1, hB⟩

set_option maxHeartbeats 1000000 in
theorem rssplit_any (total : Int) (A : Option Addr) (zs : List Int) (cap : Nat) (w : World) (hI : Ints w A zs) :
    Calls Try.prog 68 #[.int .i64 total, .slice A zs.length cap] w fun e w' =>
      ∃ v, e = .returned (.tuple #[v, .int .i64 (SM.splE total zs)]) ∧ Own w' w.heap.size v (SM.splN total zs) ∧ Below w.heap.size w w' := by
  have hlen := hI.len
  cases h1 : SM.inR total
  · obtain ⟨e1, e2⟩ := @SM.spl_arg total zs h1
    rw [e1, e2]; clear e1 e2
    go_enter Try.func68, Try.ntmps68
    go_wp2_with (go_at_call 121; refine (smoney_any _ _).mono ?_; rintro e w' ⟨rfl, rfl⟩)
    go_ret2
    exact ⟨_, rfl, Own.nil _ _, Below.refl _ _⟩
  · by_cases hlong : 1024 < zs.length
    · obtain ⟨e1, e2⟩ := @SM.spl_long total zs h1 hlong
      rw [e1, e2]; clear e1 e2
      go_enter Try.func68, Try.ntmps68
      go_wp2_with (go_at_call 121; refine (smoney_any _ _).mono ?_; rintro e w' ⟨rfl, rfl⟩)
      go_ret2
      exact ⟨_, rfl, Own.nil _ _, Below.refl _ _⟩
    · cases hw : SM.wOk zs
      · obtain ⟨e1, e2⟩ := @SM.spl_weight total zs h1 hlong (.inl hw)
        obtain ⟨e3, e4⟩ := SM.w_no hw
        rw [e1, e2]; clear e1 e2
        go_enter Try.func68, Try.ntmps68
        go_wp2_with (first
          | (go_at_call 121; refine (smoney_any _ _).mono ?_; rintro e w' ⟨rfl, rfl⟩)
          | (go_at_call 122; refine (rweights_any _ _ _ _ hI).mono ?_; rintro e w' ⟨rfl, rfl⟩))
        go_ret2
        exact ⟨_, rfl, Own.nil _ _, Below.refl _ _⟩
      · by_cases h0 : LM.tot zs = 0
        · obtain ⟨e1, e2⟩ := @SM.spl_weight total zs h1 hlong (.inr h0)
          obtain ⟨e3, e4⟩ := SM.w_yes hw
          rw [h0] at e3
          rw [e1, e2]; clear e1 e2
          go_enter Try.func68, Try.ntmps68
          go_wp2_with (first
            | (go_at_call 121; refine (smoney_any _ _).mono ?_; rintro e w' ⟨rfl, rfl⟩)
            | (go_at_call 122; refine (rweights_any _ _ _ _ hI).mono ?_; rintro e w' ⟨rfl, rfl⟩))
          go_ret2
          exact ⟨_, rfl, Own.nil _ _, Below.refl _ _⟩
        · obtain ⟨e1, e2⟩ := @SM.spl_ok total zs h1 hlong hw h0
          rw [e1, e2]
          exact rsplit_ok total A zs cap w hI hlong h1 hw h0
end Go.Proofs.Ythippdmfeeopkaa

/- Contracts of layer 14: the reference's average and its Even. -/
namespace Go.Proofs.Ythippdmfeeopkaa
open Go.RowKit Go.Recs
set_option linter.unusedVariables false
set_option linter.unusedSimpArgs false
set_option maxHeartbeats 8000000 in
set_option maxRecDepth 100000 in
theorem raverage14_any (A : Option Addr) (l : List TM.Trd) (n cap : Nat) (tick : Int) (hn : n = l.length) (w : World) (hI : Trds w A l) :
    Calls Try.prog 23 #[.slice A n cap, .int .i64 tick] w fun e w' => e = .returned (.tuple #[.int .i64 (aveP l tick), .int .i64 (aveR l tick), .int .i64 (GM.poolE l tick)]) ∧ Below w.heap.size w w' := by
  subst hn
  have hlen := hI.len
  have C1 := Lib.hid (rpool14_any A l l.length cap tick rfl w hI)
  have HI := Lib.hid hI
  clear hI
  by_cases hp : GM.poolE l tick = 0
  · have hP := GM.pooled hp
    have hcb := pcost_any_bound hP.each hP.len.2
    have C2 := Lib.hid (fun ww h => rqty14_any A l l.length cap rfl ww h hP.each hP.len.2)
    obtain ⟨⟨q1, q2⟩, ⟨s1, s2⟩, ⟨k1, k2⟩, ⟨p1, p2⟩, ⟨m1, m2⟩, r1, r2⟩ := GM.avg_bounds hP hcb
    have hcf := GM.cut_floor (a := GM.cost l) s1
    have ek : GM.avgK l tick = GM.cost l / (GM.lots l * tick) := rfl
    rw [← ek] at hcf
    have e1 : aveP l tick = GM.avgK l tick * tick := by unfold aveP; rw [if_pos hp]; rfl
    have e2 : aveR l tick = GM.cost l - GM.avgK l tick * (GM.lots l * tick) := by unfold aveR; rw [if_pos hp, GM.rest_same]
    have er := GM.rest_same l tick
    have ep : GM.avgP l tick = GM.avgK l tick * tick := rfl
    rw [ep] at p1 p2
    rw [← er] at r1 r2
    rw [e1, e2]
    rw [hp] at C1 ⊢
    have KS := Lib.hid (fun k => @cost_succ l k)
    have KB : Hid (∀ k, k ≤ l.length → -18014398509481984 ≤ GM.cost (l.take k) ∧ GM.cost (l.take k) ≤ 18014398509481984) := Lib.hid (fun k hk => pcost_any_bound (fun t ht => hP.each t (List.mem_of_mem_take ht)) (by rw [List.length_take]; have := hP.len.2; omega))
    have KQ : Hid (∀ k, k < l.length → (1 ≤ (TM.tAt l k).qty ∧ (TM.tAt l k).qty ≤ 1048576) ∧ -16777216 ≤ (TM.tAt l k).price ∧ (TM.tAt l k).price ≤ 16777216) := Lib.hid (fun k hk => by rw [TM.tAt_get hk]; exact hP.each _ (List.getElem_mem hk))
    have KE : Hid (GM.cost (l.take l.length) = GM.cost l) := Lib.hid (by rw [List.take_length])
    have K0 : Hid (0 = GM.cost (l.take 0)) := Lib.hid rfl
    obtain ⟨c1, c2⟩ := hcb
    have t1 := hP.tk.1; have t2 := hP.tk.2
    clear hp hP e1 e2 ep er ek m1 m2
    generalize GM.lots l = q at *
    generalize GM.avgK l tick = k at *
    -- the quotient's own bounds
    have hst : (q * tick == 0) = false := by simp; omega
    have hs0 : ¬ q * tick = 0 := by omega
    generalize hC : GM.cost l = c at *
    have HK := Lib.hid hcf
    have HCE := Lib.hid hC
    clear hcf hC
    have hd1 : -18014398509481984 ≤ c.tdiv (q * tick) ∧ c.tdiv (q * tick) ≤ 18014398509481985 := by
      by_cases h : c < c.tdiv (q * tick) * (q * tick)
      · have := HK.out.1 h; omega
      · have := HK.out.2 h; omega
    obtain ⟨d1, d2⟩ := hd1
    have hd3 : -54043195528445952 ≤ c.tdiv (q * tick) * (q * tick) ∧ c.tdiv (q * tick) * (q * tick) ≤ 54043195528445952 := by
      by_cases h : c < c.tdiv (q * tick) * (q * tick)
      · have := HK.out.1 h
        rw [← this, Int.sub_mul, Int.one_mul] at r1 r2
        omega
      · have := HK.out.2 h
        rw [this]
        omega
    obtain ⟨d3, d4⟩ := hd3
    go_enter Try.func23, Try.ntmps23
    go_wp2_with fail
    refine C1.out.mono ?_
    rintro e w1 ⟨rfl, b1⟩
    have HI1 := Lib.hid (HI.out.below b1)
    have HB1 := Lib.hid b1
    clear b1 C1 HI
    go_wp2_with fail
    go_loopw [8, 9] (fun v i wr => ∃ (k : Nat) (y : Int), k ≤ l.length ∧ i = .int .i64 (k : Int) ∧ v = .int .i64 y ∧ -18014398509481984 ≤ y ∧ y ≤ 18014398509481984 ∧ Hid (y = GM.cost (l.take k)) ∧ Hid (Below w1.heap.size w1 wr)) (fun _ i _ => l.length - (intOf i).toNat)
    case atStart => exact ⟨0, 0, by omega, rfl, rfl, by omega, by omega, K0, Lib.hid (Below.refl _ _)⟩
    case round =>
      obtain ⟨j, y, hk, rfl, rfl, y1, y2, HE, HB⟩ := hrel
      by_cases hlt : j < l.length
      · obtain ⟨b, off, t, rfl, hb, HV, u, f0, f1, f2, f3, f4, f5, f6, f7, f8, f9, f10, f11, f12⟩ := trds_get (HI1.out.below HB.out) hlt
        have HN : Hid (y + t.qty * t.price = GM.cost (l.take (j + 1))) := Lib.hid (by rw [KS.out j hlt, HV.out, HE.out, Int.mul_comm])
        have hb1 : -18014398509481984 ≤ y + t.qty * t.price ∧ y + t.qty * t.price ≤ 18014398509481984 := by rw [HN.out]; exact KB.out (j + 1) (by omega)
        have hqq := KQ.out j hlt
        rw [HV.out] at hqq
        have hpq := pq_bound hqq
        rw [Int.mul_comm] at hpq
        have hb2 := hb1.1; have hb3 := hb1.2
        have hp1 := hpq.1; have hp2 := hpq.2
        have g1 : IntKind.i64.wrap (t.qty * t.price) = t.qty * t.price := IntWalk.i64_in _ (by omega)
        have g2 : IntKind.i64.wrap (y + t.qty * t.price) = y + t.qty * t.price := IntWalk.i64_in _ (by omega)
        clear u hb1 hqq hpq f0 f1 f2 f3 f4 f5 f6 f9 f10 f11 f12 HV
        go_wp2_with fail
        go_quiet (fail)
        go_wp2_with fail
        go_roundw
        case rel => exact ⟨j + 1, y + t.qty * t.price, by omega, by go_num, by go_num, hb2, hb3, HN, Lib.hid (by first | exact HB.out | exact below_drewN HB.out _)⟩
        case measure => simp [intOf]; omega
      · obtain rfl : j = l.length := by omega
        obtain rfl : y = c := by rw [HE.out, KE.out]
        have HI2 := Lib.hid (HI1.out.below HB.out)
        have HB2 := Lib.hid (HB1.out.trans (HB.out.mono HB1.out.size))
        clear HE HCE KS KB KQ KE K0 HI1 hlt
        by_cases hgt : y < y.tdiv (q * tick) * (q * tick)
        · have hk2 : y.tdiv (q * tick) - 1 = k := HK.out.1 (by omega)
          have HK2 := Lib.hid hk2
          have n1 : -36028797018963968 ≤ (y.tdiv (q * tick) - 1) * tick := by rw [hk2]; exact p1
          have n2 : (y.tdiv (q * tick) - 1) * tick ≤ 36028797018963968 := by rw [hk2]; exact p2
          have n3 : 0 ≤ y - (y.tdiv (q * tick) - 1) * (q * tick) := by rw [hk2]; exact r1
          have n4 : y - (y.tdiv (q * tick) - 1) * (q * tick) < q * tick := by rw [hk2]; exact r2
          have n5 : -54043195528445952 ≤ (y.tdiv (q * tick) - 1) * (q * tick) := by omega
          have n6 : (y.tdiv (q * tick) - 1) * (q * tick) ≤ 54043195528445952 := by omega
          clear hk2 p1 p2 r1 r2 HK
          go_wp2_with fail
          refine (C2.out _ HI2.out).mono ?_
          rintro e w3 ⟨rfl, rfl⟩
          go_wp2_with fail
          (try simp only [Exit.inBlock, Exit.then])
          first | (go_ret3; exact ⟨by rw [HK2.out] <;> rfl, HB2.out⟩) | exact bodyPost_ret (results_ttt rfl _ _ _) rfl ⟨by rw [← HK2.out] <;> rfl, HB2.out⟩
        · have hk2 : y.tdiv (q * tick) = k := HK.out.2 (by omega)
          have HK2 := Lib.hid hk2
          have n1 : -36028797018963968 ≤ y.tdiv (q * tick) * tick := by rw [hk2]; exact p1
          have n2 : y.tdiv (q * tick) * tick ≤ 36028797018963968 := by rw [hk2]; exact p2
          have n3 : 0 ≤ y - y.tdiv (q * tick) * (q * tick) := by rw [hk2]; exact r1
          have n4 : y - y.tdiv (q * tick) * (q * tick) < q * tick := by rw [hk2]; exact r2
          clear hk2 p1 p2 r1 r2 HK
          go_wp2_with fail
          refine (C2.out _ HI2.out).mono ?_
          rintro e w3 ⟨rfl, rfl⟩
          go_wp2_with fail
          (try simp only [Exit.inBlock, Exit.then])
          first | (go_ret3; exact ⟨by rw [HK2.out] <;> rfl, HB2.out⟩) | exact bodyPost_ret (results_ttt rfl _ _ _) rfl ⟨by rw [← HK2.out] <;> rfl, HB2.out⟩
  · have e1 : aveP l tick = 0 := by unfold aveP; rw [if_neg hp]
    have e2 : aveR l tick = 0 := by unfold aveR; rw [if_neg hp]
    rw [e1, e2]
    have hne : (GM.poolE l tick != 0) = true := by simpa using hp
    generalize GM.poolE l tick = r at *
    clear hp e1 e2
    go_enter Try.func23, Try.ntmps23
    go_wp2_with fail
    refine C1.out.mono ?_
    rintro e w1 ⟨rfl, b1⟩
    have HB1 := Lib.hid b1
    clear b1
    go_wp2_with fail
    (try simp only [Exit.inBlock, Exit.then])
    first | (go_ret3; exact ⟨rfl, HB1.out⟩) | exact bodyPost_ret (results_ttt rfl _ _ _) rfl ⟨rfl, HB1.out⟩
end Go.Proofs.Ythippdmfeeopkaa

/- Contracts of layer 14: the reference's Even. -/
namespace GM
open LM
theorem even_split {l : List TM.Trd} {tick : Int} {p : List Part} (hp : Pooled l tick) (hd : partsE (lots l) p = 0) (hc : -18014398509481984 ≤ cost l ∧ cost l ≤ 18014398509481984) :
    SM.splE (avgR l tick) (p.map (·.qty)) = 0 := by
  obtain ⟨⟨n1, n2⟩, hq, hs⟩ := parts_inv hd
  obtain ⟨⟨q1, q2⟩, ⟨s1, s2⟩, _, _, ⟨m1, m2⟩, r1, r2⟩ := avg_bounds hp hc
  have htot : tot (p.map (·.qty)) = lots l := hs
  have hw : SM.wOk (p.map (·.qty)) = true := by unfold SM.wOk; rw [qtys_ok hq, htot]; simp; omega
  have h0 : tot (p.map (·.qty)) ≠ 0 := by rw [htot]; omega
  have hin : SM.inR (avgR l tick) = true := SM.inR_true.2 ⟨r1, by omega⟩
  exact (SM.spl_ok hin (by rw [List.length_map]; omega) hw h0).1
end GM
namespace Go.Proofs.Ythippdmfeeopkaa
open Go.RowKit Go.Recs
set_option linter.unusedVariables false
set_option linter.unusedSimpArgs false
set_option maxHeartbeats 2000000 in
set_option maxRecDepth 100000 in
theorem reven14_any (A : Option Addr) (l : List TM.Trd) (n cap : Nat) (tick : Int) (hn : n = l.length) (B : Option Addr) (p : List GM.Part) (m cp : Nat) (hm : m = p.length) (w : World) (hI : Trds w A l) (hP : Parts w B p) :
    Calls Try.prog 25 #[.slice A n cap, .int .i64 tick, .slice B m cp] w fun e w' => ∃ v, e = .returned (.tuple #[.int .i64 (evenP l tick p), v, .int .i64 (evenE l tick p)]) ∧ Own w' w.heap.size v (evenL l tick p) ∧ Below w.heap.size w w' := by
  subst hn hm
  have hlenp := hP.len
  have C1 := Lib.hid (raverage14_any A l l.length cap tick rfl w hI)
  have HI := Lib.hid hI; have HP := Lib.hid hP
  clear hI hP
  by_cases hp : GM.poolE l tick = 0
  · have hPo := GM.pooled hp
    have C2 := Lib.hid (fun ww h => rqty14_any A l l.length cap rfl ww h hPo.each hPo.len.2)
    have ea : aveP l tick = GM.avgP l tick := by unfold aveP; rw [if_pos hp]
    have eb : aveR l tick = GM.avgR l tick := by unfold aveR; rw [if_pos hp]
    have ec : evenE l tick p = GM.partsE (GM.lots l) p := by unfold evenE; rw [if_pos hp]
    have C3 := Lib.hid (fun ww h => rlots14_any (GM.lots l) B p p.length cp rfl ww h)
    rw [ea, eb, hp] at C1
    by_cases hd : GM.partsE (GM.lots l) p = 0
    · have e1 : evenP l tick p = GM.avgP l tick := by unfold evenP; rw [if_pos (ec.trans hd)]
      have e2 : evenL l tick p = SM.splN (GM.avgR l tick) (p.map (·.qty)) := by unfold evenL; rw [if_pos (ec.trans hd)]
      have hes := GM.even_split hPo hd (pcost_any_bound hPo.each hPo.len.2)
      have C5 := Lib.hid (fun A c ww h => rssplit_any (GM.avgR l tick) A (p.map (·.qty)) c ww h)
      rw [hes] at C5
      have HQR := Lib.hid (qtys_range HP.out.2)
      have hpl := parts_len hd
      have KE : Hid ((p.take p.length).map (·.qty) = p.map (·.qty)) := Lib.hid (by rw [List.take_length])
      have KS := Lib.hid (fun k => @qtys_succ p k)
      rw [e1, e2, ec, hd]
      rw [hd] at C3
      clear e1 e2 ec ea eb hp hPo hd hes
      generalize GM.lots l = q at *
      generalize GM.avgP l tick = ap at *
      generalize GM.avgR l tick = ar at *
      generalize SM.splN ar (p.map (·.qty)) = sn at *
      go_enter Try.func25, Try.ntmps25
      go_wp2_with fail
      refine C1.out.mono ?_
      rintro e w1 ⟨rfl, b1⟩
      have HI1 := Lib.hid (HI.out.below b1); have HP1 := Lib.hid (HP.out.below b1)
      have HB1 := Lib.hid b1
      clear b1 HI HP C1
      go_wp2_with fail
      refine (C2.out _ HI1.out).mono ?_
      rintro e w2 ⟨rfl, rfl⟩
      clear HI1 C2
      go_wp2_with fail
      refine (C3.out _ HP1.out).mono ?_
      rintro e w3 ⟨rfl, b3⟩
      have HB3 := Lib.hid (HB1.out.trans (b3.mono HB1.out.size))
      have HP3 := Lib.hid (HP1.out.below b3)
      clear b3 HB1 HP1 C3
      go_wp2_with fail
      go_loopw [12, 13] (fun v i wr => ∃ k : Nat, k ≤ p.length ∧ i = .int .i64 (k : Int) ∧ Hid (Own wr w3.heap.size v ((p.take k).map (·.qty))) ∧ Hid (Below w3.heap.size w3 wr)) (fun _ i _ => p.length - (intOf i).toNat)
      case atStart => exact ⟨0, by omega, rfl, Lib.hid (Own.nil _ _), Lib.hid (Below.refl _ _)⟩
      case round =>
        obtain ⟨k, hk, rfl, HO, HB⟩ := hrel
        by_cases hlt : k < p.length
        · obtain ⟨b, off, x, rfl, hb, HV, u, d0, d1, d2⟩ := parts_get (HP3.out.below HB.out) hlt
          have HW : Hid ((p.take (k + 1)).map (·.qty) = (p.take k).map (·.qty) ++ [x.qty]) := Lib.hid (by rw [KS.out k hlt, HV.out])
          have hwl : ((p.take k).map (·.qty)).length ≤ 1024 := by rw [List.length_map, List.length_take]; omega
          clear u HV
          go_wp2_with (at_builtin; go_loud (refine wpList_push _ x.qty w3.heap.size ((p.take k).map (·.qty)) _ _ rfl rfl _ (by rfl) (by rfl) HO.out ?c1 HB.out.size ?_))
          case c1 => omega
          intro v4 w4 o4 b4 z4 g4
          have HO4 : Hid (Own w4 w3.heap.size v4 ((p.take (k + 1)).map (·.qty))) := Lib.hid (by rw [HW.out]; simpa using o4)
          have HB4 := Lib.hid (HB.out.trans b4)
          clear o4 b4
          go_wp2_with fail
          go_roundw
          case rel => exact ⟨k + 1, by omega, by go_num, HO4, HB4⟩
          case measure => simp [intOf]; omega
        · obtain rfl : k = p.length := by omega
          rw [KE.out] at HO
          clear KE KS
          generalize hqs : p.map (·.qty) = qs at *
          clear hqs
          obtain ⟨A4, c4, rfl, hi4⟩ := HO.out.ints HQR.out
          have HI4 := Lib.hid hi4
          clear hi4 HO
          go_wp2_with fail
          have C6 := Lib.hid (C5.out A4 c4 wr HI4.out)
          go_wp2_with fail
          refine (C6.out).mono ?_
          rintro e w5 ⟨v5, rfl, o5, b5⟩
          have HBF := Lib.hid (HB3.out.trans (HB.out.mono HB3.out.size))
          have HB5 := Lib.hid (HBF.out.trans (b5.mono HBF.out.size))
          have HO5 := Lib.hid (own_lower o5 HBF.out.size)
          clear b5 o5
          go_wp2_with fail
          (try simp only [Exit.inBlock, Exit.then])
          first | (go_ret3; exact ⟨_, rfl, HO5.out, HB5.out⟩) | exact bodyPost_ret (results_ttt rfl _ _ _) rfl ⟨_, rfl, HO5.out, HB5.out⟩
    · have e1 : evenP l tick p = 0 := by unfold evenP; rw [ec, if_neg hd]
      have e2 : evenL l tick p = [] := by unfold evenL; rw [ec, if_neg hd]
      have hne : (GM.partsE (GM.lots l) p != 0) = true := by simpa using hd
      rw [e1, e2, ec]
      clear e1 e2 ec ea eb hp hPo hd
      generalize GM.partsE (GM.lots l) p = r at *
      generalize GM.lots l = q at *
      generalize GM.avgP l tick = ap at *
      generalize GM.avgR l tick = ar at *
      go_enter Try.func25, Try.ntmps25
      go_wp2_with fail
      refine C1.out.mono ?_
      rintro e w1 ⟨rfl, b1⟩
      have HI1 := Lib.hid (HI.out.below b1); have HP1 := Lib.hid (HP.out.below b1)
      have HB1 := Lib.hid b1
      clear b1 HI HP C1
      go_wp2_with fail
      refine (C2.out _ HI1.out).mono ?_
      rintro e w2 ⟨rfl, rfl⟩
      clear HI1 C2
      go_wp2_with fail
      refine (C3.out _ HP1.out).mono ?_
      rintro e w3 ⟨rfl, b3⟩
      have HB3 := Lib.hid (HB1.out.trans (b3.mono HB1.out.size))
      clear b3 HB1 HP1 C3
      go_wp2_with fail
      (try simp only [Exit.inBlock, Exit.then])
      first | (go_ret3; exact ⟨_, rfl, Own.nil _ _, HB3.out⟩) | exact bodyPost_ret (results_ttt rfl _ _ _) rfl ⟨_, rfl, Own.nil _ _, HB3.out⟩
  · have ec : evenE l tick p = GM.poolE l tick := by unfold evenE; rw [if_neg hp]
    have e1 : evenP l tick p = 0 := by unfold evenP; rw [ec, if_neg hp]
    have e2 : evenL l tick p = [] := by unfold evenL; rw [ec, if_neg hp]
    have ea : aveP l tick = 0 := by unfold aveP; rw [if_neg hp]
    have eb : aveR l tick = 0 := by unfold aveR; rw [if_neg hp]
    have hne : (GM.poolE l tick != 0) = true := by simpa using hp
    rw [e1, e2, ec]
    rw [ea, eb] at C1
    clear e1 e2 ec ea eb hp
    generalize GM.poolE l tick = r at *
    go_enter Try.func25, Try.ntmps25
    go_wp2_with fail
    refine C1.out.mono ?_
    rintro e w1 ⟨rfl, b1⟩
    have HB1 := Lib.hid b1
    clear b1
    go_wp2_with fail
    (try simp only [Exit.inBlock, Exit.then])
    first | (go_ret3; exact ⟨_, rfl, Own.nil _ _, HB1.out⟩) | exact bodyPost_ret (results_ttt rfl _ _ _) rfl ⟨_, rfl, Own.nil _ _, HB1.out⟩
end Go.Proofs.Ythippdmfeeopkaa

namespace Go.Proofs.Ythippdmfeeopkaa.giveupAverages
open Go.RowKit Go.Recs
set_option linter.unusedVariables false
set_option linter.unusedSimpArgs false
theorem evenL_range {l : List TM.Trd} {tick : Int} {p : List GM.Part} : ∀ n ∈ evenL l tick p, -9223372036854775808 ≤ n ∧ n ≤ 9223372036854775807 := by
  intro n hn
  unfold evenL at hn
  split at hn
  · rename_i he
    unfold evenE at he
    split at he
    · rename_i hp
      have hP := GM.pooled hp
      have hY := GM.even_pays hP he (pcost_any_bound hP.each hP.len.2)
      obtain ⟨k, hk, rfl⟩ := List.getElem_of_mem hn
      have := hY.all k (by rw [← hY.len]; exact hk)
      rw [List.getD_eq_getElem?_getD, List.getElem?_eq_getElem hk] at this
      simp at this
      omega
    · rename_i hp
      exact absurd he hp
  · simp at hn
set_option maxHeartbeats 8000000 in
set_option maxRecDepth 100000 in
theorem walk (A : Option Addr) (ca : Nat) (l : List TM.Trd) (tick : Int) (B : Option Addr) (cp : Nat) (p : List GM.Part) (w : World) (hL : Trds w A l ∧ l.length ≤ ca) (ht : -9223372036854775808 ≤ tick ∧ tick ≤ 9223372036854775807) (hP : Parts w B p ∧ p.length ≤ cp) :
    Calls Try.prog 5 #[.slice A l.length ca, .int .i64 tick, .slice B p.length cp] w fun e w' => e = .returned (.bool true) ∧ Below w.heap.size w w' := by
  have hlen := hL.1.len
  have hlenp := hP.1.len
  have hi : i64 tick := ht
  have CG := Lib.hid (fun ww => goes14_any ww)
  have HL := Lib.hid hL.1
  have HP := Lib.hid hP.1
  clear hL hP ht
  by_cases h1 : 1100 < l.length
  · have h2 : (1100 : Int) < (l.length : Int) := by omega
    clear h1 hi
    go_enter Try.func5, Try.ntmps5
    go_wp2_with fail
    refine (CG.out _).mono ?_
    rintro e w1 ⟨rfl, b1⟩
    have HB1 := Lib.hid b1
    clear b1
    go_wp2_with fail
    go_ret
    exact ⟨rfl, HB1.out⟩
  have h2 : ¬ (1100 : Int) < (l.length : Int) := by omega
  by_cases h3 : 1100 < p.length
  · have h4 : (1100 : Int) < (p.length : Int) := by omega
    clear h1 h3 hi
    go_enter Try.func5, Try.ntmps5
    go_wp2_with fail
    refine (CG.out _).mono ?_
    rintro e w1 ⟨rfl, b1⟩
    have HB1 := Lib.hid b1
    clear b1
    go_wp2_with fail
    go_ret
    exact ⟨rfl, HB1.out⟩
  have h4 : ¬ (1100 : Int) < (p.length : Int) := by omega
  have C1 := Lib.hid (fun ww h => gaverage_any A l l.length ca tick rfl ww h hi)
  have C2 := Lib.hid (fun ww h => raverage14_any A l l.length ca tick rfl ww h)
  have C3 := Lib.hid (fun ww h1 h2 => geven_any A l l.length ca tick rfl B p p.length cp rfl ww h1 h2 hi)
  have C4 := Lib.hid (fun ww h1 h2 => reven14_any A l l.length ca tick rfl B p p.length cp rfl ww h1 h2)
  have HR := Lib.hid (@evenL_range l tick p)
  generalize aveP l tick = ap at *
  generalize aveR l tick = ar at *
  generalize GM.poolE l tick = pe at *
  generalize evenP l tick p = vp at *
  generalize evenE l tick p = ve at *
  generalize evenL l tick p = vl at *
  clear h1 h3 hi
  go_enter Try.func5, Try.ntmps5
  go_wp2_with fail
  refine (C1.out _ HL.out).mono ?_
  rintro e w1 ⟨rfl, b1⟩
  have HB1 := Lib.hid b1
  have HL1 := Lib.hid (HL.out.below b1); have HP1 := Lib.hid (HP.out.below b1)
  clear b1 HL HP C1
  go_wp2_with fail
  refine (C2.out _ HL1.out).mono ?_
  rintro e w2 ⟨rfl, b2⟩
  have HB2 := Lib.hid (HB1.out.trans (b2.mono HB1.out.size))
  have HL2 := Lib.hid (HL1.out.below b2); have HP2 := Lib.hid (HP1.out.below b2)
  clear b2 HL1 HP1 HB1 C2
  go_wp2_with fail
  refine (C3.out _ HL2.out HP2.out).mono ?_
  rintro e w3 ⟨v3, rfl, o3, b3⟩
  have HB3 := Lib.hid (HB2.out.trans (b3.mono HB2.out.size))
  have HL3 := Lib.hid (HL2.out.below b3); have HP3 := Lib.hid (HP2.out.below b3)
  obtain ⟨A3, c3, rfl, hi3⟩ := o3.ints HR.out
  have HI3 := Lib.hid hi3
  clear b3 o3 hi3 HL2 HP2 HB2 C3
  go_wp2_with fail
  refine (C4.out _ HL3.out HP3.out).mono ?_
  rintro e w4 ⟨v4, rfl, o4, b4⟩
  have HB4 := Lib.hid (HB3.out.trans (b4.mono HB3.out.size))
  obtain ⟨A4, c4, rfl, hi4⟩ := o4.ints HR.out
  have HI4 := Lib.hid hi4
  have HI5 := Lib.hid (HI3.out.below b4)
  have C5 := Lib.hid (rints14_any A3 A4 vl vl.length vl.length c3 c4 rfl rfl _ HI5.out HI4.out)
  clear b4 o4 hi4 HL3 HP3 HB3 C4 HI3
  go_wp2_with fail
  refine C5.out.mono ?_
  rintro e w5 ⟨rfl, n5, rfl⟩
  have HB5 := Lib.hid (below_drewN HB4.out n5)
  go_wp2_with fail
  refine (CG.out _).mono ?_
  rintro e w6 ⟨rfl, b6⟩
  have HB6 := Lib.hid (HB5.out.trans (b6.mono HB5.out.size))
  clear b6
  go_wp2_with fail
  go_ret
  exact ⟨rfl, HB6.out⟩
end Go.Proofs.Ythippdmfeeopkaa.giveupAverages

/- What the reach says of a text that opens a record, over any program. -/
namespace Go.Recs
open Go.ChangeShapes Go.WideShapes Go.RowKit Go.Deep
set_option linter.unusedVariables false
theorem first_sized {H : Type} {enc : TypeId × Value → H} {P : Program} {W : World} {base : Nat} {spare : Nat → Bool} {held : Bool} {T : TypeId} {cs : Array Value} {d : DataW H} {p : List MemPlace} {fs : Array Field} {f : Field} {s : ByteArray}
    {ts : List TypeId} {ds : List (DataW H)} {j : Nat}
    (h : (DataW.weightsEach P ts ds).all (· ≤ reachBytes) = true) (ht : ts[j]? = some T) (hd : ds[j]? = some d)
    (hT : DataW.Trod enc P W base spare held T (.agg cs) d p) (hu : P.underlying T = some (.struct fs)) (hf : fs[0]? = some f) (ho : f.offset = 0) (hs : P.underlying f.type = some .string) (hc : P.cellsOf f.type = 1) (hcs : cs[0]? = some (.string s)) :
    s.size ≤ 140737488351232 := by
  obtain ⟨fuel, hx⟩ := hT
  obtain ⟨xs, n, _, hxd, _, hxl, hfl⟩ := DataW.trod_struct hu hx
  have h0 := hfl 0 f hf
  have hpos : 0 < xs.length := by
    rw [hxl]
    rcases Nat.eq_zero_or_pos fs.size with e | e
    · rw [Array.getElem?_eq_none (by omega)] at hf; cases hf
    · exact e
  rw [List.getElem?_eq_getElem hpos] at h0
  obtain ⟨t, ht0, hx0, _⟩ := DataW.trod_string hs h0
  rw [ho, hc, List.drop_zero] at ht0
  have ets : t = s := by
    have e1 : (Value.agg cs).cells.toList.take 1 = [Value.string t] := ht0
    have e2 : (Value.agg cs).cells.toList[0]? = some (Value.string s) := by simpa [Value.cells] using hcs
    cases hl : (Value.agg cs).cells.toList with
    | nil => rw [hl] at e2; cases e2
    | cons a r => rw [hl] at e1 e2; simp at e1 e2; rw [e1] at e2; injection e2
  subst ets
  injection hxd with hd1 _
  have hw : t.data.toList.length ∈ d.weights P T := by
    rw [hd1]
    simp only [DataW.weights, hu]
    have hm := DataW.weights_mem_each (P := P) (ts := fs.toList.map (·.type)) (ds := xs.map (·.1)) (j := 0) (t := f.type) (d := xs[0].1) (by rw [List.getElem?_map, Array.getElem?_toList, hf]; rfl) (by rw [List.getElem?_map, List.getElem?_eq_getElem hpos]; rfl) t.data.toList.length
    apply hm
    rw [hx0]
    simp [DataW.weights]
  have := List.all_eq_true.1 h _ (DataW.weights_mem_each ht hd _ hw)
  have e : t.data.toList.length = t.size := Array.length_toList
  rw [e] at this
  have hr : reachBytes = 140737488351232 := by decide
  rw [← hr]
  simpa using this
end Go.Recs

/- A law's arguments: products and series, by value and in slices. -/
namespace Go.Proofs.Ythippdmfeeopkaa
open Go.ChangeShapes Go.WideShapes Go.ChangeAt Go.RowKit Go.Recs
set_option linter.unusedVariables false
set_option maxRecDepth 100000
theorem ser_leafs : leafs Try.prog 2 43 = some serL := by kernel_rfl
theorem open_serV {H : Type} {enc : TypeId × Value → H} {W : World} {base b0 : Nat} {spare : Nat → Bool} {held : Bool} {r : Reach} {v : Value} {d : DataW H} {p : List MemPlace}
    (hv : Value.okWide Try.prog W r b0 43 v) (h : DataW.Trod enc Try.prog W base spare held 43 v d p) :
    ∃ x : EM.Ser, v = .agg #[.string x.prod, .int .i64 x.kind, .int .i64 x.expiry, .int .i64 x.strike] ∧ serQ x := by
  obtain ⟨cs, rfl, hk⟩ := open_rec (n := 2) Try.underlying43 ser_leafs (by kernel_rfl) hv h
  obtain ⟨x, rfl, hq⟩ := ser_row cs hk
  exact ⟨x, rfl, hq⟩
theorem ser_sized {H : Type} {enc : TypeId × Value → H} {W : World} {base : Nat} {spare : Nat → Bool} {held : Bool} {x : EM.Ser} {d : DataW H} {p : List MemPlace} {ts : List TypeId} {ds : List (DataW H)} {j : Nat}
    (h : (DataW.weightsEach Try.prog ts ds).all (· ≤ reachBytes) = true) (ht : ts[j]? = some 43) (hd : ds[j]? = some d)
    (hT : DataW.Trod enc Try.prog W base spare held 43 (.agg #[.string x.prod, .int .i64 x.kind, .int .i64 x.expiry, .int .i64 x.strike]) d p) : x.prod.size ≤ 140737488351232 :=
  first_sized (cs := #[.string x.prod, .int .i64 x.kind, .int .i64 x.expiry, .int .i64 x.strike]) h ht hd hT Try.underlying43 rfl rfl Try.underlying9 (by kernel_rfl) rfl
end Go.Proofs.Ythippdmfeeopkaa

/- A law's arguments: trades, legs, accounts' names, a product with one of its series. -/
namespace Go.Proofs.Ythippdmfeeopkaa
open Go.ChangeShapes Go.WideShapes Go.ChangeAt Go.RowKit Go.Recs
set_option linter.unusedVariables false
set_option maxRecDepth 100000
theorem trd_leafs : leafs Try.prog 3 45 = some trdL := by kernel_rfl
theorem leg_leafs : leafs Try.prog 3 84 = some legL := by kernel_rfl
theorem open_trdT {H : Type} {enc : TypeId × Value → H} {W : World} {base b0 : Nat} {spare : Nat → Bool} {held : Bool} {r : Reach} {v : Value} {d : DataW H} {p : List MemPlace}
    (hv : Value.okWide Try.prog W r b0 48 v) (h : DataW.Trod enc Try.prog W base spare held 48 v d p) :
    ∃ A cap, ∃ l : List TM.Trd, v = .slice A l.length cap ∧ (Trds W A l ∧ l.length ≤ cap) ∧ True := by
  obtain ⟨A, cap, rows, rfl, hR, hk, hc⟩ := open_recs (n := 3) (sz := 13) Try.underlying48 trd_leafs (by kernel_rfl) rfl (by omega) hv h
  obtain ⟨l, rfl, hq⟩ := typed (ls := trdL) trdV _ trd_row rows hk
  rw [List.length_map] at hc ⊢
  exact ⟨A, cap, l, rfl, ⟨⟨hR, hq⟩, hc⟩, trivial⟩
theorem open_trdV {H : Type} {enc : TypeId × Value → H} {W : World} {base b0 : Nat} {spare : Nat → Bool} {held : Bool} {r : Reach} {v : Value} {d : DataW H} {p : List MemPlace}
    (hv : Value.okWide Try.prog W r b0 45 v) (h : DataW.Trod enc Try.prog W base spare held 45 v d p) :
    ∃ t : TM.Trd, v = .agg #[.int .i64 t.id, .int .i64 t.day, .int .i64 t.time, .string t.ser.prod, .int .i64 t.ser.kind, .int .i64 t.ser.expiry, .int .i64 t.ser.strike, .int .i64 t.qty, .int .i64 t.price, .string t.bm, .string t.bn, .string t.sm, .string t.sn] ∧ trdQ t := by
  obtain ⟨cs, rfl, hk⟩ := open_rec (n := 3) Try.underlying45 trd_leafs (by kernel_rfl) hv h
  obtain ⟨x, rfl, hq⟩ := trd_row cs hk
  exact ⟨x, rfl, hq⟩
theorem open_legV {H : Type} {enc : TypeId × Value → H} {W : World} {base b0 : Nat} {spare : Nat → Bool} {held : Bool} {r : Reach} {v : Value} {d : DataW H} {p : List MemPlace}
    (hv : Value.okWide Try.prog W r b0 84 v) (h : DataW.Trod enc Try.prog W base spare held 84 v d p) :
    ∃ x : NM.Leg, v = .agg #[.string x.am, .string x.an, .string x.ser.prod, .int .i64 x.ser.kind, .int .i64 x.ser.expiry, .int .i64 x.ser.strike, .int .i64 x.qty, .int .i64 x.price, .int .i64 x.trade] ∧ legQ x := by
  obtain ⟨cs, rfl, hk⟩ := open_rec (n := 3) Try.underlying84 leg_leafs (by kernel_rfl) hv h
  obtain ⟨x, rfl, hq⟩ := leg_row cs hk
  exact ⟨x, rfl, hq⟩
def kL : List Leaf := [.str, .str]
theorem k_leafs : leafs Try.prog 2 26 = some kL := by kernel_rfl
theorem open_kV {H : Type} {enc : TypeId × Value → H} {W : World} {base b0 : Nat} {spare : Nat → Bool} {held : Bool} {r : Reach} {v : Value} {d : DataW H} {p : List MemPlace}
    (hv : Value.okWide Try.prog W r b0 26 v) (h : DataW.Trod enc Try.prog W base spare held 26 v d p) :
    ∃ x : ByteArray × ByteArray, v = .agg #[.string x.1, .string x.2] ∧ x.1.size ≤ maxLen ∧ x.2.size ≤ maxLen := by
  obtain ⟨cs, rfl, hk⟩ := open_rec (n := 2) Try.underlying26 k_leafs (by kernel_rfl) hv h
  obtain ⟨c0, r0, rfl, ⟨s0, rfl, h0⟩, g0⟩ := okAll_cons hk
  obtain ⟨c1, r1, rfl, ⟨s1, rfl, h1⟩, g1⟩ := okAll_cons g0
  rw [okAll_nil g1]
  exact ⟨(s0, s1), rfl, h0, h1⟩
end Go.Proofs.Ythippdmfeeopkaa
