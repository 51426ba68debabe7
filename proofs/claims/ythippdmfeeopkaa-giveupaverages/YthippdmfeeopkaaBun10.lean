/- Put together: ShareC, ShareMath3, ShareD, GivJ, GivI, GivK, FillMath, SignMath. -/
import Derived.Test.YthippdmfeeopkaaBun9
import Derived.Test.YthippdmfeeopkaaBun4
import Derived.Deep.DeepCutAuto
import Derived.Deep.RegionWith
import Derived.Test.YthippdmfeeopkaaBun8
import Derived.Test.YthippdmfeeopkaaBun6
import Derived.BigQuiet
namespace Go.Proofs.Ythippdmfeeopkaa
open Go.RowKit

set_option maxHeartbeats 1000000 in
/-- the closure that finds the largest remainder -/
theorem largest_any (g3 g2 : Nat) (zs : List Int) (w : World) (hX : Box w g3 61 (.slice (some ⟨g2, 0, none⟩) zs.length zs.length)) (hR : Row w g2 zs) (hl : zs.length ≤ 1024) :
    Calls Try.prog 142 #[.pointer (some ⟨g3, 0, none⟩)] w fun e w' => e = .returned (.int .i64 (SM.amax zs)) ∧ w = w' := by
  have hbox := hX.cell
  go_enter Try.func142, Try.ntmps142
  go_wp2
  go_loop [1, 6] (fun b i => ∃ k : Nat, k ≤ zs.length ∧ i = .int .i64 k ∧ b = .int .i64 (SM.amaxK zs k)) (fun _ i => zs.length - (intOf i).toNat)
  case atStart => exact ⟨0, by omega, rfl, rfl⟩
  case round =>
    obtain ⟨k, hk, rfl, rfl⟩ := hrel
    by_cases hlt : k < zs.length
    · have hm : SM.amaxK zs k < zs.length := by
        rcases Nat.eq_zero_or_pos k with h | h
        · subst h; simp [SM.amaxK]; omega
        · have := SM.amaxK_lt zs k h; omega
      obtain ⟨v, hv⟩ : ∃ v, zs.getD k 0 = v := ⟨_, rfl⟩
      obtain ⟨u, hu⟩ : ∃ u, zs.getD (SM.amaxK zs k) 0 = u := ⟨_, rfl⟩
      have hc1 := hR.cell k hlt
      have hc2 := hR.cell (SM.amaxK zs k) hm
      rw [hv] at hc1
      rw [hu] at hc2
      have HS : Hid (SM.amaxK zs (k + 1) = if u < v then k else SM.amaxK zs k) := by
        show SM.amaxK zs (k + 1) = _
        rw [SM.amaxK, hv, hu]
      clear hv hu
      generalize SM.amaxK zs k = m at *
      by_cases hc : u < v
      · rw [if_pos hc] at HS
        go_wp2
        go_round
        case rel => exact ⟨k + 1, by omega, by go_num, by rw [HS.out]⟩
        case measure => simp [intOf]; omega
      · rw [if_neg hc] at HS
        go_wp2
        go_round
        case rel => exact ⟨k + 1, by omega, by go_num, by rw [HS.out]⟩
        case measure => simp [intOf]; omega
    · obtain rfl : k = zs.length := by omega
      go_wp2
      go_ret
      exact ⟨rfl, rfl⟩

/-- the memory that 'divide' begins with -/
theorem divide_memory (w : World) (n : Nat) :
    let W := ((w.alloc (.cells (zeros n) 3)).alloc (.cells (zeros n) 3)).alloc (.cells #[.slice (some ⟨w.heap.size + 1, 0, none⟩) n n] 61)
    Row W w.heap.size (List.replicate n 0) ∧ Row W (w.heap.size + 1) (List.replicate n 0) ∧ Box W (w.heap.size + 1 + 1) 61 (.slice (some ⟨w.heap.size + 1, 0, none⟩) n n) ∧ Below w.heap.size w W := by
  have h2 := Row.made (w.alloc (.cells (zeros n) 3)) n
  have h3 := Box.new ((w.alloc (.cells (zeros n) 3)).alloc (.cells (zeros n) 3)) 61 (.slice (some ⟨w.heap.size + 1, 0, none⟩) n n)
  simp only [World.size_alloc] at h2 h3
  refine ⟨((Row.made w n).alloc _).alloc _, h2.alloc _, h3, ?_⟩
  exact (((Below.refl _ _).alloc (Nat.le_refl _) _).alloc (by simp) _).alloc (by simp <;> omega) _

theorem divide_round {w wr : World} {g1 g2 g3 k m B : Nat} {ps rs : List Int} {bv : Value} (x y : Int) (h1 : Row wr g1 ps) (h2 : Row wr g2 rs) (h3 : Box wr g3 61 bv) (hB : Below B w wr)
    (e12 : g1 ≠ g2) (e13 : g3 ≠ g1) (e23 : g3 ≠ g2) (b1 : B ≤ g1) (b2 : B ≤ g2) :
    let W := ((wr.drewN m).setCell ⟨g1, k, none⟩ (.int .i64 x)).setCell ⟨g2, k, none⟩ (.int .i64 y)
    Row W g1 (ps.set k x) ∧ Row W g2 (rs.set k y) ∧ Box W g3 61 bv ∧ Below B w W :=
  ⟨((h1.drewN m).set_ k x).far (p := ⟨g2, k, none⟩) e12 _, ((h2.drewN m).far (p := ⟨g1, k, none⟩) e12.symm _).set_ k y, ((h3.drewN m).far (p := ⟨g1, k, none⟩) e13 _).far (p := ⟨g2, k, none⟩) e23 _,
    ((below_drewN hB m).setCell (p := ⟨g1, k, none⟩) b1 _).setCell (p := ⟨g2, k, none⟩) b2 _⟩

theorem divide_round' {w wr : World} {g1 g2 g3 k B : Nat} {ps rs : List Int} {bv : Value} (x y : Int) (h1 : Row wr g1 ps) (h2 : Row wr g2 rs) (h3 : Box wr g3 61 bv) (hB : Below B w wr)
    (e12 : g1 ≠ g2) (e13 : g3 ≠ g1) (e23 : g3 ≠ g2) (b1 : B ≤ g1) (b2 : B ≤ g2) :
    let W := (wr.setCell ⟨g1, k, none⟩ (.int .i64 x)).setCell ⟨g2, k, none⟩ (.int .i64 y)
    Row W g1 (ps.set k x) ∧ Row W g2 (rs.set k y) ∧ Box W g3 61 bv ∧ Below B w W :=
  ⟨(h1.set_ k x).far (p := ⟨g2, k, none⟩) e12 _, (h2.far (p := ⟨g1, k, none⟩) e12.symm _).set_ k y, (h3.far (p := ⟨g1, k, none⟩) e13 _).far (p := ⟨g2, k, none⟩) e23 _,
    (hB.setCell (p := ⟨g1, k, none⟩) b1 _).setCell (p := ⟨g2, k, none⟩) b2 _⟩

set_option maxHeartbeats 1000000 in
theorem divide2_any (total all : Int) (A : Option Addr) (zs : List Int) (cap : Nat) (w : World) (hI : Ints w A zs) (hl : zs.length ≤ 1024) (hz : SM.allR zs = true) (hall : all = LM.tot zs) (ha0 : 0 < all) (ha1 : all ≤ 1152921504606846976) (t0 : 0 ≤ total) (t1 : total ≤ 1152921504606846976) :
    Calls Try.prog 120 #[.int .i64 total, .slice A zs.length cap, .int .i64 all] w fun e w' => ∃ g, e = .returned (.slice (some ⟨g, 0, none⟩) zs.length zs.length) ∧ w.heap.size ≤ g ∧ Row w' g (SM.parts total all zs) ∧ Below w.heap.size w w' := by
  have hmk := make_ints zs.length (by omega)
  have HALL := Lib.hid hall
  have HZ := Lib.hid hz
  clear hall hz
  go_enter Try.func120, Try.ntmps120
  go_wp2
  go_loopw [8, 22] (fun l i wr => ∃ k : Nat, k ≤ zs.length ∧ i = .int .i64 k ∧ l = .int .i64 (total - LM.tot ((SM.qs total all zs).take k)) ∧ Row wr w.heap.size (SM.pre (SM.qs total all zs) k) ∧
      Row wr (w.heap.size + 1) (SM.pre (SM.rs total all zs) k) ∧ Box wr (w.heap.size + 1 + 1) 61 (.slice (some ⟨w.heap.size + 1, 0, none⟩) zs.length zs.length) ∧ Below w.heap.size w wr)
    (fun _ i _ => zs.length - (intOf i).toNat)
  case atStart =>
    obtain ⟨m1, m2, m3, m4⟩ := divide_memory w zs.length
    exact ⟨0, by omega, rfl, by simp [LM.tot], by rw [SM.pre_zero, SM.qs_len]; exact m1, by rw [SM.pre_zero, SM.rs_len]; exact m2, m3, m4⟩
  case round =>
    obtain ⟨k, hk, rfl, rfl, hR1, hR2, hX, hB⟩ := hrel
    by_cases hlt : k < zs.length
    · have hI2 := hI.below hB
      obtain ⟨b, off, v, rfl, hb, hcell, HV, v1, v2⟩ := hI2.get hlt
      have hbox := hX.cell
      have hf1 := hR1.frozen k
      have hf2 := hR2.frozen k
      obtain ⟨o1, hc1⟩ : ∃ o, wr.cell? ⟨w.heap.size, k, none⟩ = some (.int .i64 o) := ⟨_, hR1.cell k (by rw [SM.pre_len _ _ (by rw [SM.qs_len]; omega), SM.qs_len]; exact hlt)⟩
      obtain ⟨o2, hc2⟩ : ∃ o, wr.cell? ⟨w.heap.size + 1, k, none⟩ = some (.int .i64 o) := ⟨_, hR2.cell k (by rw [SM.pre_len _ _ (by rw [SM.rs_len]; omega), SM.rs_len]; exact hlt)⟩
      have hn : v = zs.getD k 0 := HV.out.symm
      have hvr := SM.allR_get HZ.out hlt
      rw [← hn] at hvr
      obtain ⟨vr1, vr2⟩ := hvr
      have hva : v ≤ all := by
        rw [HALL.out, hn]
        have h1 := SM.tot_take_le HZ.out (k + 1)
        rw [LM.tot_take_succ zs k hlt] at h1
        have h2 := SM.tot_nonneg (SM.allR_take HZ.out k)
        omega
      clear hn
      obtain ⟨s0, s1⟩ := SM.qs_take t0 HZ.out ha0 HALL.out k
      have p0 := SM.pq_nonneg t0 vr1 ha0
      have p1 := SM.pq_le t0 hva ha0
      have HL : Hid (LM.tot ((SM.qs total all zs).take (k + 1)) = LM.tot ((SM.qs total all zs).take k) + SM.pq total v all) := by
        show _ = _
        rw [LM.tot_take_succ _ _ (by rw [SM.qs_len]; exact hlt), SM.qs_get _ _ _ _ hlt, HV.out]
      generalize LM.tot ((SM.qs total all zs).take k) = T at *
      go_wp2
      go_region_with (go_at_call 141; refine (portion_any _ _ _ _ t0 t1 vr1 hva ha0 ha1).mono ?_; rintro e w' ⟨rfl, n, rfl⟩)
      all_goals go_wp2
      all_goals
        go_roundw
        case rel =>
          obtain ⟨q1, q2, q3, q4⟩ := divide_round (m := 1 + n) (k := k) (SM.pq total v all) (SM.pr total v all) hR1 hR2 hX hB (by omega) (by omega) (by omega) (by omega) (by omega)
          have e1 : (SM.pre (SM.qs total all zs) k).set k (SM.pq total v all) = SM.pre (SM.qs total all zs) (k + 1) := by
            rw [← SM.pre_set _ _ (by rw [SM.qs_len]; exact hlt), SM.qs_get _ _ _ _ hlt, HV.out]
          have e2 : (SM.pre (SM.rs total all zs) k).set k (SM.pr total v all) = SM.pre (SM.rs total all zs) (k + 1) := by
            rw [← SM.pre_set _ _ (by rw [SM.rs_len]; exact hlt), SM.rs_get _ _ _ _ hlt, HV.out]
          rw [e1] at q1
          rw [e2] at q2
          exact ⟨k + 1, by omega, by go_num, by rw [HL.out]; go_num, q1, q2, q3, q4⟩
        case measure => simp [intOf]; omega
    · obtain rfl : k = zs.length := by omega
      obtain ⟨f0, f1⟩ := SM.left_range total all zs HALL.out ha0
      have eq1 : SM.pre (SM.qs total all zs) zs.length = SM.qs total all zs := by
        have := SM.pre_full (SM.qs total all zs); rwa [SM.qs_len] at this
      have eq2 : SM.pre (SM.rs total all zs) zs.length = SM.rs total all zs := by
        have := SM.pre_full (SM.rs total all zs); rwa [SM.rs_len] at this
      have eq3 : total - LM.tot ((SM.qs total all zs).take zs.length) = SM.leftOf total all zs := by
        unfold SM.leftOf; rw [List.take_of_length_le (by rw [SM.qs_len]; exact Nat.le_refl _)]
      rw [eq1] at hR1
      rw [eq2] at hR2
      rw [eq3]
      obtain ⟨L, hL⟩ := Int.eq_ofNat_of_zero_le f0
      have HP : Hid (SM.parts total all zs = (SM.diter 0 L (SM.qs total all zs, SM.rs total all zs)).1) := by
        show _ = _
        unfold SM.parts; rw [hL]; rfl
      rw [hL] at f1 ⊢
      clear eq1 eq2 eq3 hL f0
      go_wp2
      go_loopw [49] (fun i wr => ∃ t : Nat, t ≤ L ∧ i = .int .i64 t ∧ Row wr w.heap.size (SM.diter 0 t (SM.qs total all zs, SM.rs total all zs)).1 ∧
          Row wr (w.heap.size + 1) (SM.diter 0 t (SM.qs total all zs, SM.rs total all zs)).2 ∧ Box wr (w.heap.size + 1 + 1) 61 (.slice (some ⟨w.heap.size + 1, 0, none⟩) zs.length zs.length) ∧ Below w.heap.size w wr)
        (fun i _ => L - (intOf i).toNat)
      case atStart => exact ⟨0, by omega, rfl, hR1, hR2, hX, hB⟩
      case round =>
        clear hR1 hR2 hX hB
        obtain ⟨t, ht, rfl, hR1, hR2, hX, hB⟩ := hrel
        by_cases hlt2 : t < L
        · have n1 : (SM.diter 0 t (SM.qs total all zs, SM.rs total all zs)).1.length = zs.length := by rw [(SM.diter_len _ _ _).1]; exact SM.qs_len _ _ _
          have n2 : (SM.diter 0 t (SM.qs total all zs, SM.rs total all zs)).2.length = zs.length := by rw [(SM.diter_len _ _ _).2]; exact SM.rs_len _ _ _
          have hm : SM.amax (SM.diter 0 t (SM.qs total all zs, SM.rs total all zs)).2 < zs.length := by rw [← n2]; exact SM.amax_lt _ (by rw [n2]; omega)
          have hbd := SM.diter_bound 0 t (SM.qs total all zs, SM.rs total all zs) (by simp only [SM.qs_len, SM.rs_len]) (SM.amax (SM.diter 0 t (SM.qs total all zs, SM.rs total all zs)).2)
          have hq0 := SM.qs_nonneg t0 HZ.out ha0 _ hm
          have hq1 : (SM.qs total all zs).getD (SM.amax (SM.diter 0 t (SM.qs total all zs, SM.rs total all zs)).2) 0 ≤ total := by
            rw [SM.qs_get _ _ _ _ hm]
            refine SM.pq_le t0 ?_ ha0
            have h1 := SM.elem_le HZ.out hm
            have h2 := HALL.out
            omega
          simp only [] at hbd
          have hc1 := hR1.cell _ (by rw [n1]; exact hm)
          have hc2 := hR2.cell _ (by rw [n2]; exact hm)
          have hf1 := hR1.frozen (SM.amax (SM.diter 0 t (SM.qs total all zs, SM.rs total all zs)).2)
          have hf2 := hR2.frozen (SM.amax (SM.diter 0 t (SM.qs total all zs, SM.rs total all zs)).2)
          have hX2 : Box wr (w.heap.size + 1 + 1) 61 (.slice (some ⟨w.heap.size + 1, 0, none⟩) (SM.diter 0 t (SM.qs total all zs, SM.rs total all zs)).2.length (SM.diter 0 t (SM.qs total all zs, SM.rs total all zs)).2.length) := by rw [n2]; exact hX
          have CL := Lib.hid (largest_any _ _ _ wr hX2 hR2 (by rw [n2]; exact hl))
          have hbox := hX.cell
          have HR := Lib.hid (fun x => divide_round' (k := SM.amax (SM.diter 0 t (SM.qs total all zs, SM.rs total all zs)).2) x 0 hR1 hR2 hX hB (by omega) (by omega) (by omega) (by omega) (by omega))
          have HD : Hid (SM.diter 0 (t + 1) (SM.qs total all zs, SM.rs total all zs) = SM.dstep 0 (SM.diter 0 t (SM.qs total all zs, SM.rs total all zs))) := rfl
          unfold SM.dstep SM.inc at HD
          clear hX2 hR1 hR2 n1 n2
          generalize SM.amax (SM.diter 0 t (SM.qs total all zs, SM.rs total all zs)).2 = im at *
          generalize (SM.diter 0 t (SM.qs total all zs, SM.rs total all zs)).2.getD im 0 = r0 at *
          generalize (SM.diter 0 t (SM.qs total all zs, SM.rs total all zs)).1.getD im 0 = p0 at *
          obtain ⟨hbd1, hbd2⟩ := hbd
          go_wp2_with fail
          refine CL.out.mono ?_
          rintro e w' ⟨rfl, rfl⟩
          go_wp2
          go_roundw
          case rel =>
            obtain ⟨q1, q2, q3, q4⟩ := HR.out (p0 + 1)
            exact ⟨t + 1, by omega, by go_num, by rw [HD.out]; exact q1, by rw [HD.out]; exact q2, q3, q4⟩
          case measure => simp [intOf]; omega
        · obtain rfl : t = L := by omega
          go_wp2
          go_ret
          exact ⟨_, rfl, Nat.le_refl _, by rw [HP.out]; exact hR1, hB⟩
end Go.Proofs.Ythippdmfeeopkaa

namespace SM
open LM

/-- Split's error -/
def splE (total : Int) (w : List Int) : Int := if inR total then (if 1024 < w.length then 8 else if wOk w && decide (tot w ≠ 0) then 0 else 26) else 2
/-- .. and its parts -/
def splN (total : Int) (w : List Int) : List Int := if splE total w = 0 then parts total (tot w) w else []

theorem spl_arg {total : Int} {w : List Int} (h : inR total = false) : splE total w = 2 ∧ splN total w = [] := by
  have e : splE total w = 2 := by simp [splE, h]
  simp [splN, e]
theorem spl_long {total : Int} {w : List Int} (h : inR total = true) (hl : 1024 < w.length) : splE total w = 8 ∧ splN total w = [] := by
  have e : splE total w = 8 := by simp [splE, h, hl]
  simp [splN, e]
theorem spl_weight {total : Int} {w : List Int} (h : inR total = true) (hl : ¬ 1024 < w.length) (hw : wOk w = false ∨ tot w = 0) : splE total w = 26 ∧ splN total w = [] := by
  have e : splE total w = 26 := by rcases hw with hw | hw <;> simp [splE, h, hl, hw]
  simp [splN, e]
theorem spl_ok {total : Int} {w : List Int} (h : inR total = true) (hl : ¬ 1024 < w.length) (hw : wOk w = true) (h0 : tot w ≠ 0) : splE total w = 0 ∧ splN total w = parts total (tot w) w := by
  have e : splE total w = 0 := by simp [splE, h, hl, hw, h0]
  simp [splN, e]
theorem wOk_parts {w : List Int} (h : wOk w = true) : allR w = true ∧ tot w ≤ 1152921504606846976 := by simpa [wOk] using h

theorem parts_ref {total : Int} {w : List Int} (hw : wOk w = true) (h0 : tot w ≠ 0) (L : Nat) (hL : leftOf total (tot w) w = L) :
    (diter (-1) L (qs total (tot w) w, rs total (tot w) w)).1 = parts total (tot w) w := by
  obtain ⟨hr, _⟩ := wOk_parts hw
  have hp : 0 < tot w := by have := tot_nonneg hr; omega
  unfold parts
  rw [hL]
  refine (diter_same (all := tot w) (n := w.length) (left := L) (qs_len _ _ _) (rs_len _ _ _) ?_ hp (fun j hj => (rs_range _ _ _ hp j hj).2) L (Nat.le_refl _)).1
  rw [tot_rs _ _ _ rfl, hL]
end SM

namespace Go.Proofs.Ythippdmfeeopkaa
open Go.RowKit

set_option maxHeartbeats 1000000 in
theorem ssplit_any (total : Int) (A : Option Addr) (zs : List Int) (cap : Nat) (w : World) (hI : Ints w A zs) :
    Calls Try.prog 66 #[.int .i64 total, .slice A zs.length cap] w fun e w' =>
      ∃ v, e = .returned (.tuple #[v, .int .i64 (SM.splE total zs)]) ∧ Own w' w.heap.size v (SM.splN total zs) ∧ Below w.heap.size w w' := by
  have hlen := hI.len
  cases h1 : SM.inR total
  · obtain ⟨e1, e2⟩ := @SM.spl_arg total zs h1
    rw [e1, e2]; clear e1 e2
    go_enter Try.func66, Try.ntmps66
    go_wp2_with (go_at_call 118; refine (inrange_any _ _).mono ?_; rintro e w' ⟨rfl, rfl⟩)
    go_ret2
    exact ⟨_, rfl, Own.nil _ _, Below.refl _ _⟩
  · by_cases hlong : 1024 < zs.length
    · obtain ⟨e1, e2⟩ := @SM.spl_long total zs h1 hlong
      have e3 : SM.sN zs = 0 := by simp [SM.sN, hlong]
      have e4 : SM.sE zs = 8 := by simp [SM.sE, hlong]
      rw [e1, e2]; clear e1 e2
      go_enter Try.func66, Try.ntmps66
      go_wp2_with (first
        | (go_at_call 118; refine (inrange_any _ _).mono ?_; rintro e w' ⟨rfl, rfl⟩)
        | (go_at_call 119; refine (sumof_any _ _ _ _ hI).mono ?_; rintro e w' ⟨rfl, rfl⟩))
      go_ret2
      exact ⟨_, rfl, Own.nil _ _, Below.refl _ _⟩
    · cases hw : SM.wOk zs
      · obtain ⟨e1, e2⟩ := @SM.spl_weight total zs h1 hlong (.inl hw)
        have e3 : SM.sN zs = 0 := by simp [SM.sN, hlong, (SM.w_no hw).1]
        have e4 : SM.sE zs = 26 := by simp [SM.sE, hlong, (SM.w_no hw).2]
        rw [e1, e2]; clear e1 e2
        go_enter Try.func66, Try.ntmps66
        go_wp2_with (first
          | (go_at_call 118; refine (inrange_any _ _).mono ?_; rintro e w' ⟨rfl, rfl⟩)
          | (go_at_call 119; refine (sumof_any _ _ _ _ hI).mono ?_; rintro e w' ⟨rfl, rfl⟩))
        go_ret2
        exact ⟨_, rfl, Own.nil _ _, Below.refl _ _⟩
      · have e3 : SM.sN zs = LM.tot zs := by simp [SM.sN, hlong, (SM.w_yes hw).1]
        have e4 : SM.sE zs = 0 := by simp [SM.sE, hlong, (SM.w_yes hw).2]
        by_cases h0 : LM.tot zs = 0
        · obtain ⟨e1, e2⟩ := @SM.spl_weight total zs h1 hlong (.inr h0)
          rw [e1, e2]; clear e1 e2
          go_enter Try.func66, Try.ntmps66
          go_wp2_with (first
            | (go_at_call 118; refine (inrange_any _ _).mono ?_; rintro e w' ⟨rfl, rfl⟩)
            | (go_at_call 119; refine (sumof_any _ _ _ _ hI).mono ?_; rintro e w' ⟨rfl, rfl⟩))
          go_ret2
          exact ⟨_, rfl, Own.nil _ _, Below.refl _ _⟩
        · obtain ⟨e1, e2⟩ := @SM.spl_ok total zs h1 hlong hw h0
          rw [e1, e2]; clear e1 e2
          obtain ⟨hr, ht1⟩ := SM.wOk_parts hw
          have ht0 := SM.tot_nonneg hr
          have hz : (LM.tot zs == 0) = false := by simpa using h0
          obtain ⟨i1, i2⟩ := SM.inR_true.1 h1
          have CD := Lib.hid (divide2_any total (LM.tot zs) A zs cap w hI (by omega) hr rfl (by omega) ht1 i1 i2)
          have HL : zs.length ≤ maxLen := hI.1
          clear h0 hr
          go_enter Try.func66, Try.ntmps66
          go_wp2_with (first
            | (go_at_call 118; refine (inrange_any _ _).mono ?_; rintro e w' ⟨rfl, rfl⟩)
            | (go_at_call 119; refine (sumof_any _ _ _ _ hI).mono ?_; rintro e w' ⟨rfl, rfl⟩)
            | (go_at_call 120; refine CD.out.mono ?_; rintro e w1 ⟨g, rfl, hg, hrow, hb⟩))
          go_ret2
          refine ⟨_, rfl, ?_, hb⟩
          have := hrow.own hg (by rw [SM.parts_len]; exact HL)
          rw [SM.parts_len] at this
          exact this
end Go.Proofs.Ythippdmfeeopkaa

/- Contracts of layer 14: Even. -/
namespace Go.Proofs.Ythippdmfeeopkaa
open Go.RowKit Go.Recs
set_option linter.unusedVariables false
set_option linter.unusedSimpArgs false
def evenE (l : List TM.Trd) (tick : Int) (p : List GM.Part) : Int := if GM.poolE l tick = 0 then GM.partsE (GM.lots l) p else GM.poolE l tick
def evenP (l : List TM.Trd) (tick : Int) (p : List GM.Part) : Int := if evenE l tick p = 0 then GM.avgP l tick else 0
def evenL (l : List TM.Trd) (tick : Int) (p : List GM.Part) : List Int := if evenE l tick p = 0 then SM.splN (GM.avgR l tick) (p.map (·.qty)) else []
theorem qtys_range {p : List GM.Part} (h : ∀ x ∈ p, partQ x) : ∀ n ∈ p.map (·.qty), -9223372036854775808 ≤ n ∧ n ≤ 9223372036854775807 := by
  intro n hn
  obtain ⟨x, hx, rfl⟩ := List.mem_map.1 hn
  exact (h x hx).2.2
theorem parts_len {all : Int} {p : List GM.Part} (h : GM.partsE all p = 0) : p.length ≤ 1024 := by
  unfold GM.partsE at h
  exact (count_inv (GM.or_zero h _ (by simp))).2
theorem own_lower {w : World} {B B' : Nat} {v : Value} {zs : List Int} (h : Own w B v zs) (hB : B' ≤ B) : Own w B' v zs := by
  refine ⟨h.1, ?_⟩
  rcases h.2 with h | ⟨g, cp, cur, hv, hg, r⟩
  · exact .inl h
  · exact .inr ⟨g, cp, cur, hv, Nat.le_trans hB hg, r⟩
set_option maxHeartbeats 8000000 in
set_option maxRecDepth 100000 in
theorem geven_any (A : Option Addr) (l : List TM.Trd) (n cap : Nat) (tick : Int) (hn : n = l.length) (B : Option Addr) (p : List GM.Part) (m cp : Nat) (hm : m = p.length) (w : World) (hI : Trds w A l) (hP : Parts w B p) (hi : i64 tick) :
    Calls Try.prog 24 #[.slice A n cap, .int .i64 tick, .slice B m cp] w fun e w' => ∃ v, e = .returned (.tuple #[.int .i64 (evenP l tick p), v, .int .i64 (evenE l tick p)]) ∧ Own w' w.heap.size v (evenL l tick p) ∧ Below w.heap.size w w' := by
  subst hn hm
  have C1 := Lib.hid (gaverage_any A l l.length cap tick rfl w hI hi)
  have HI := Lib.hid hI; have HP := Lib.hid hP
  clear hI hP
  by_cases hp : GM.poolE l tick = 0
  · have hPo := GM.pooled hp
    have C2 := Lib.hid (fun ww h => plots_any A l l.length cap tick rfl ww h hPo.each hPo.len.2)
    have ea : aveP l tick = GM.avgP l tick := by unfold aveP; rw [if_pos hp]
    have eb : aveR l tick = GM.avgR l tick := by unfold aveR; rw [if_pos hp]
    have ec : evenE l tick p = GM.partsE (GM.lots l) p := by unfold evenE; rw [if_pos hp]
    have C3 := Lib.hid (fun ww h => dcheck_any (GM.lots l) B p p.length cp rfl ww h)
    rw [ea, eb, hp] at C1
    by_cases hd : GM.partsE (GM.lots l) p = 0
    · have e1 : evenP l tick p = GM.avgP l tick := by unfold evenP; rw [if_pos (ec.trans hd)]
      have e2 : evenL l tick p = SM.splN (GM.avgR l tick) (p.map (·.qty)) := by unfold evenL; rw [if_pos (ec.trans hd)]
      have C4 := Lib.hid (fun ww h => dquant_any (GM.lots l) B p p.length cp rfl ww h (parts_len hd))
      have C5 := Lib.hid (fun A c ww h => ssplit_any (GM.avgR l tick) A (p.map (·.qty)) c ww h)
      have HQR := Lib.hid (qtys_range HP.out.2)
      rw [e1, e2, ec, hd]
      rw [hd] at C3
      clear e1 e2 ec ea eb hp hPo hd hi
      generalize GM.lots l = q at *
      generalize GM.avgP l tick = ap at *
      generalize GM.avgR l tick = ar at *
      generalize SM.splE ar (p.map (·.qty)) = se at *
      generalize SM.splN ar (p.map (·.qty)) = sn at *
      generalize hqs : p.map (·.qty) = qs at *
      clear hqs
      go_enter Try.func24, Try.ntmps24
      go_wp2_with fail
      refine C1.out.mono ?_
      rintro e w1 ⟨rfl, b1⟩
      have HI1 := Lib.hid (HI.out.below b1); have HP1 := Lib.hid (HP.out.below b1)
      have HB1 := Lib.hid b1
      clear b1 HI HP C1
      go_wp2_with fail
      refine (C2.out _ HI1.out).mono ?_
      rintro e w2 ⟨rfl, b2⟩
      have HB2 := Lib.hid (below_al (HB1.out.trans (b2.mono HB1.out.size)) (.cells (divC q B p.length cp) 117))
      have HP2 := Lib.hid ((HP1.out.below b2).below (below_al (Below.refl w2.heap.size w2) (.cells (divC q B p.length cp) 117)))
      have HX2 := Lib.hid (CB.new w2 117 (divC q B p.length cp))
      clear b2 HB1 HP1 HI1 C2
      go_wp2_with fail
      refine (C3.out _ HP2.out).mono ?_
      rintro e w3 ⟨rfl, b3⟩
      have HB3 := Lib.hid (HB2.out.trans (b3.mono HB2.out.size))
      have HP3 := Lib.hid (HP2.out.below b3)
      have HX3 := Lib.hid (HX2.out.below b3 HX2.out.lt)
      have x0 : w3.cell? ⟨w2.heap.size, 0, none⟩ = some (.int .i64 q) := HX3.out.cell 0
      have x1 : w3.cell? ⟨w2.heap.size, 1, none⟩ = some (.slice B p.length cp) := HX3.out.cell 1
      clear b3 HB2 HP2 HX2 C3
      go_wp2_with fail
      refine (C4.out _ HP3.out).mono ?_
      clear x0 x1
      rintro e w4 ⟨v4, rfl, o4, b4⟩
      have HB4 := Lib.hid (HB3.out.trans (b4.mono HB3.out.size))
      obtain ⟨A4, c4, rfl, hi4⟩ := o4.ints HQR.out
      clear b4 o4 HB3 HP3 HX3 C4
      go_wp2_with fail
      refine (C5.out _ _ _ hi4).mono ?_
      rintro e w5 ⟨v5, rfl, o5, b5⟩
      have HB5 := Lib.hid (HB4.out.trans (b5.mono HB4.out.size))
      have HO5 := Lib.hid (own_lower o5 HB4.out.size)
      clear b5 o5 HB4 hi4 C5
      go_wp2_with fail
      (try simp only [Exit.inBlock, Exit.then])
      first | (go_ret3; exact ⟨_, rfl, HO5.out, HB5.out⟩) | exact bodyPost_ret (results_ttt rfl _ _ _) rfl ⟨_, rfl, HO5.out, HB5.out⟩
    · have e1 : evenP l tick p = 0 := by unfold evenP; rw [ec, if_neg hd]
      have e2 : evenL l tick p = [] := by unfold evenL; rw [ec, if_neg hd]
      have hne : (GM.partsE (GM.lots l) p != 0) = true := by simpa using hd
      rw [e1, e2, ec]
      clear e1 e2 ec ea eb hp hPo hd hi
      generalize GM.partsE (GM.lots l) p = r at *
      generalize GM.lots l = q at *
      generalize GM.avgP l tick = ap at *
      generalize GM.avgR l tick = ar at *
      go_enter Try.func24, Try.ntmps24
      go_wp2_with fail
      refine C1.out.mono ?_
      rintro e w1 ⟨rfl, b1⟩
      have HI1 := Lib.hid (HI.out.below b1); have HP1 := Lib.hid (HP.out.below b1)
      have HB1 := Lib.hid b1
      clear b1 HI HP C1
      go_wp2_with fail
      refine (C2.out _ HI1.out).mono ?_
      rintro e w2 ⟨rfl, b2⟩
      have HB2 := Lib.hid (below_al (HB1.out.trans (b2.mono HB1.out.size)) (.cells (divC q B p.length cp) 117))
      have HP2 := Lib.hid ((HP1.out.below b2).below (below_al (Below.refl w2.heap.size w2) (.cells (divC q B p.length cp) 117)))
      clear b2 HB1 HP1 HI1 C2
      go_wp2_with fail
      refine (C3.out _ HP2.out).mono ?_
      rintro e w3 ⟨rfl, b3⟩
      have HB3 := Lib.hid (HB2.out.trans (b3.mono HB2.out.size))
      clear b3 HB2 HP2 C3
      go_wp2_with fail
      (try simp only [Exit.inBlock, Exit.then])
      first | (go_ret3; exact ⟨_, rfl, Own.nil _ _, HB3.out⟩) | exact bodyPost_ret (results_ttt rfl _ _ _) rfl ⟨_, rfl, Own.nil _ _, HB3.out⟩
  · have ec : evenE l tick p = GM.poolE l tick := by unfold evenE; rw [if_neg hp]
    have e1 : evenP l tick p = 0 := by unfold evenP; rw [ec, if_neg hp]
    have e2 : evenL l tick p = [] := by unfold evenL; rw [ec, if_neg hp]
    have ea : aveP l tick = 0 := by unfold aveP; rw [if_neg hp]
    have eb : aveR l tick = 0 := by unfold aveR; rw [if_neg hp]
    have hne : (GM.poolE l tick != 0) = true := by simpa using hp
    rw [e1, e2, ec]
    rw [ea, eb] at C1
    clear e1 e2 ec ea eb hp hi
    generalize GM.poolE l tick = r at *
    go_enter Try.func24, Try.ntmps24
    go_wp2_with fail
    refine C1.out.mono ?_
    rintro e w1 ⟨rfl, b1⟩
    have HB1 := Lib.hid b1
    clear b1
    go_wp2_with fail
    (try simp only [Exit.inBlock, Exit.then])
    first | (go_ret3; exact ⟨_, rfl, Own.nil _ _, HB1.out⟩) | exact bodyPost_ret (results_ttt rfl _ _ _) rfl ⟨_, rfl, Own.nil _ _, HB1.out⟩
end Go.Proofs.Ythippdmfeeopkaa

/- Contracts of layer 14: the program's Sides. -/
namespace Go.Proofs.Ythippdmfeeopkaa
open Go.RowKit Go.Recs
set_option linter.unusedVariables false
set_option linter.unusedSimpArgs false
theorem sides_all (am an : ByteArray) (s : EM.Ser) (b : TM.Trd → ByteArray × ByteArray) (l l2 : List TM.Trd) (h : l2 = l.take (min l.length 1024)) : GM.sides am an s b l2 l2.length = sidesN am an s b l := by
  unfold sidesN GM.sides
  rw [List.take_length, h]
end Go.Proofs.Ythippdmfeeopkaa

/- Layer 14: the page's examples. -/
namespace Go.Proofs.Ythippdmfeeopkaa
open Go.RowKit Go.Recs
set_option linter.unusedVariables false
set_option linter.unusedSimpArgs false
abbrev tr1 : TM.Trd := ⟨0, 0, 0, ⟨⟨#[]⟩, 0, 0, 0⟩, 2, 10, ⟨#[]⟩, ⟨#[]⟩, ⟨#[]⟩, ⟨#[]⟩⟩
abbrev tr2 : TM.Trd := ⟨0, 0, 0, ⟨⟨#[]⟩, 0, 0, 0⟩, 1, 12, ⟨#[]⟩, ⟨#[]⟩, ⟨#[]⟩, ⟨#[]⟩⟩
abbrev paA : GM.Part := ⟨⟨#[97, 108, 102, 97]⟩, ⟨#[]⟩, 1⟩
abbrev paB : GM.Part := ⟨⟨#[98, 114, 97, 118, 111]⟩, ⟨#[]⟩, 2⟩
theorem alfa_ne : (⟨#[97, 108, 102, 97]⟩ : ByteArray) ≠ ⟨#[98, 114, 97, 118, 111]⟩ := by
  intro h
  injection h with h
  exact absurd h (by decide)
theorem tr_ser : NM.seqB tr1.ser tr1.ser = true ∧ NM.seqB tr2.ser tr1.ser = true := ⟨NM.seqB_iff.2 rfl, NM.seqB_iff.2 rfl⟩
theorem one2 : GM.oneE [tr1, tr2] = 0 := by
  unfold GM.oneE
  rw [if_pos]
  simp only [List.all_cons, List.all_nil, Bool.and_true, show (TM.tAt [tr1, tr2] 0) = tr1 from rfl, tr_ser.1, tr_ser.2]
theorem pool1 : GM.poolE [tr1, tr2] 1 = 0 := by unfold GM.poolE; rw [one2]; decide
theorem pool4 : GM.poolE [tr1, tr2] 4 = 0 := by unfold GM.poolE; rw [one2]; decide
theorem ave1 : aveP [tr1, tr2] 1 = 10 ∧ aveR [tr1, tr2] 1 = 2 := by unfold aveP aveR; rw [if_pos pool1, if_pos pool1]; decide
theorem ave4 : aveP [tr1, tr2] 4 = 8 ∧ aveR [tr1, tr2] 4 = 8 := by unfold aveP aveR; rw [if_pos pool4, if_pos pool4]; decide
theorem acc2 : GM.accE [paA, paB] = 0 := by
  refine GM.acc_ok fun j hj => ?_
  have : j = 0 ∨ j = 1 := by simp at hj; omega
  rcases this with rfl | rfl
  · exact GM.pseen_zero _ _
  · have e : NM.aeq paA.am paA.an paB.am paB.an = false := by
      cases h : NM.aeq paA.am paA.an paB.am paB.an
      · rfl
      · exact absurd (NM.aeq_iff.1 h).1 alfa_ne
    show ([paA].any fun y => NM.aeq y.am y.an paB.am paB.an) = false
    simp only [List.any_cons, List.any_nil, Bool.or_false, e]
theorem parts2 : GM.partsE (GM.lots [tr1, tr2]) [paA, paB] = 0 := by unfold GM.partsE; rw [acc2]; decide
theorem even2 : evenE [tr1, tr2] 1 [paA, paB] = 0 := by unfold evenE; rw [if_pos pool1]; exact parts2
theorem evenP2 : evenP [tr1, tr2] 1 [paA, paB] = 10 := by unfold evenP; rw [if_pos even2]; decide
theorem evenL2 : evenL [tr1, tr2] 1 [paA, paB] = [1, 1] := by unfold evenL; rw [if_pos even2]; decide
theorem tr12_q : ∀ t ∈ [tr1, tr2], trdQ t := by
  intro t ht
  simp only [List.mem_cons, List.not_mem_nil, or_false] at ht
  rcases ht with rfl | rfl
  · exact ⟨⟨by decide, by decide⟩, ⟨by decide, by decide⟩, ⟨by decide, by decide⟩, ⟨by decide, ⟨by decide, by decide⟩, ⟨by decide, by decide⟩, ⟨by decide, by decide⟩⟩, ⟨by decide, by decide⟩, ⟨by decide, by decide⟩, by decide, by decide, by decide, by decide⟩
  · exact ⟨⟨by decide, by decide⟩, ⟨by decide, by decide⟩, ⟨by decide, by decide⟩, ⟨by decide, ⟨by decide, by decide⟩, ⟨by decide, by decide⟩, ⟨by decide, by decide⟩⟩, ⟨by decide, by decide⟩, ⟨by decide, by decide⟩, by decide, by decide, by decide, by decide⟩
theorem paAB_q : ∀ t ∈ [paA, paB], partQ t := by
  intro t ht
  simp only [List.mem_cons, List.not_mem_nil, or_false] at ht
  rcases ht with rfl | rfl
  · exact ⟨by decide, by decide, by decide, by decide⟩
  · exact ⟨by decide, by decide, by decide, by decide⟩
theorem lit_tr (W : World) (x y : TM.Trd) : Recs (W.alloc (.cells (trdC x ++ trdC y) 45)) (some ⟨W.heap.size, 0, none⟩) 13 [trdV x, trdV y] := by
  obtain ⟨A', cap, e, hr, _⟩ := OwnR.recs (OwnR.lit W W.heap.size 45 13 [trdV x, trdV y] (by simp [trdV]) (Nat.le_refl _) (by simp [maxLen]))
  injection e with e1
  subst e1
  exact hr
theorem lit_pa (W : World) (x y : GM.Part) : Recs (W.alloc (.cells (partC x ++ partC y) 113)) (some ⟨W.heap.size, 0, none⟩) 3 [partV x, partV y] := by
  obtain ⟨A', cap, e, hr, _⟩ := OwnR.recs (OwnR.lit W W.heap.size 113 3 [partV x, partV y] (by simp [partV]) (Nat.le_refl _) (by simp [maxLen]))
  injection e with e1
  subst e1
  exact hr
abbrev cT : Array Value := #[.int .i64 0, .int .i64 0, .int .i64 0, .string ⟨#[]⟩, .int .i64 0, .int .i64 0, .int .i64 0, .int .i64 2, .int .i64 10, .string ⟨#[]⟩, .string ⟨#[]⟩, .string ⟨#[]⟩, .string ⟨#[]⟩, .int .i64 0, .int .i64 0, .int .i64 0, .string ⟨#[]⟩, .int .i64 0, .int .i64 0, .int .i64 0, .int .i64 1, .int .i64 12, .string ⟨#[]⟩, .string ⟨#[]⟩, .string ⟨#[]⟩, .string ⟨#[]⟩]
abbrev cP : Array Value := #[.string ⟨#[97, 108, 102, 97]⟩, .string ⟨#[]⟩, .int .i64 1, .string ⟨#[98, 114, 97, 118, 111]⟩, .string ⟨#[]⟩, .int .i64 2]
theorem cT_is : trdC tr1 ++ trdC tr2 = cT := by simp
theorem cP_is : partC paA ++ partC paB = cP := by simp
theorem lit_ones (W : World) : Ints (W.alloc (.cells #[.int .i64 1, .int .i64 1] 3)) (some ⟨W.heap.size, 0, none⟩) [1, 1] := by
  have h : Own (W.alloc (.cells #[.int .i64 1, .int .i64 1] 3)) W.heap.size (.slice (some ⟨W.heap.size, 0, none⟩) 2 2) [1, 1] := World.ownsRow_lit W #[.int .i64 1, .int .i64 1] 2 (Nat.le_refl _) (by simp [maxLen]) (by simp)
  obtain ⟨A, c, e, hi⟩ := h.ints (by simp)
  injection e with e1
  subst e1
  exact hi
set_option maxHeartbeats 8000000 in
set_option maxRecDepth 100000 in
theorem goes14_any (w : World) : Calls Try.prog 16 #[] w fun e w' => e = .returned (.bool true) ∧ Below w.heap.size w w' := by
  have HL : Hid (Trds (w.alloc (.cells cT 45)) (some ⟨w.heap.size, 0, none⟩) [tr1, tr2]) := Lib.hid ⟨by have := lit_tr w tr1 tr2; rwa [cT_is] at this, tr12_q⟩
  have HB0 := Lib.hid (below_al (Below.refl w.heap.size w) (.cells cT 45))
  have C1 := Lib.hid (fun A c ww h => gaverage_any A [tr1, tr2] 2 c 1 rfl ww h ⟨by decide, by decide⟩)
  have C2 := Lib.hid (fun A c ww h => gaverage_any A [tr1, tr2] 2 c 4 rfl ww h ⟨by decide, by decide⟩)
  have C3 := Lib.hid (fun A c B d ww h1 h2 => geven_any A [tr1, tr2] 2 c 1 rfl B [paA, paB] 2 d rfl ww h1 h2 ⟨by decide, by decide⟩)
  have C4 := Lib.hid (fun A B c d ww h1 h2 => rints14_any A B [1, 1] 2 2 c d rfl rfl ww h1 h2)
  rw [ave1.1, ave1.2, pool1] at C1
  rw [ave4.1, ave4.2, pool4] at C2
  rw [evenP2, evenL2, even2] at C3
  have HPA : Hid (∀ ww : World, Parts (ww.alloc (.cells cP 113)) (some ⟨ww.heap.size, 0, none⟩) [paA, paB]) := Lib.hid (fun ww => ⟨by have := lit_pa ww paA paB; rwa [cP_is] at this, paAB_q⟩)
  have HON := Lib.hid (fun ww => lit_ones ww)
  go_enter Try.func16, Try.ntmps16
  go_wp2_with fail
  refine (C1.out _ _ _ HL.out).mono ?_
  rintro e w1 ⟨rfl, b1⟩
  have HB1 := Lib.hid (HB0.out.trans (b1.mono HB0.out.size))
  have HL1 := Lib.hid (HL.out.below b1)
  clear b1 HL HB0 C1
  go_wp2_with fail
  refine (C2.out _ _ _ HL1.out).mono ?_
  rintro e w2 ⟨rfl, b2⟩
  have HB2 := Lib.hid (below_al (HB1.out.trans (b2.mono HB1.out.size)) (.cells cP 113))
  have HL2 := Lib.hid ((HL1.out.below b2).below (below_al (Below.refl w2.heap.size w2) (.cells cP 113)))
  clear b2 HL1 HB1 C2
  go_wp2_with fail
  refine (C3.out _ _ _ _ _ HL2.out (HPA.out w2)).mono ?_
  rintro e w3 ⟨v3, rfl, o3, b3⟩
  have HB3 := Lib.hid (below_al (HB2.out.trans (b3.mono HB2.out.size)) (.cells #[.int .i64 1, .int .i64 1] 3))
  obtain ⟨A3, c3, rfl, hi3⟩ := o3.ints (by simp)
  have HI3 : Hid (Ints (w3.alloc (.cells #[.int .i64 1, .int .i64 1] 3)) A3 [1, 1]) := Lib.hid (hi3.below (below_al (Below.refl w3.heap.size w3) (.cells #[.int .i64 1, .int .i64 1] 3)))
  rw [show ([1, 1] : List Int).length = 2 from rfl]
  clear b3 o3 hi3 HL2 HB2 C3
  go_wp2_with fail
  refine (C4.out _ _ _ _ _ HI3.out (HON.out w3)).mono ?_
  rintro e w4 ⟨rfl, nd, rfl⟩
  have HB4 := Lib.hid (below_drewN HB3.out nd)
  clear HB3 HI3
  go_wp2_with fail
  go_ret
  exact ⟨rfl, HB4.out⟩
end Go.Proofs.Ythippdmfeeopkaa

/- Plain mathematics of Fill and Back. -/
namespace SM
open LM

/-- what is left ahead of element k -/
def rk (caps : List Int) (total : Int) : Nat → Int
  | 0 => total
  | k + 1 => rk caps total k - min (caps.getD k 0) (rk caps total k)
/-- what each gets -/
def fl (caps : List Int) (total : Int) : List Int := (List.range caps.length).map fun k => min (caps.getD k 0) (rk caps total k)

theorem fl_len (caps : List Int) (total : Int) : (fl caps total).length = caps.length := by simp [fl]
theorem fl_get (caps : List Int) (total : Int) (k : Nat) (hk : k < caps.length) : (fl caps total).getD k 0 = min (caps.getD k 0) (rk caps total k) := by
  simp [fl, List.getD, hk]
theorem rk_range {caps : List Int} {total : Int} (hc : allR caps = true) (h0 : 0 ≤ total) (k : Nat) (hk : k ≤ caps.length) : 0 ≤ rk caps total k ∧ rk caps total k ≤ total := by
  induction k with
  | zero => exact ⟨h0, Int.le_refl _⟩
  | succ k ih =>
    obtain ⟨a, b⟩ := ih (by omega)
    have c := allR_get hc (show k < caps.length by omega)
    simp only [rk]
    omega
theorem rk_sum (caps : List Int) (total : Int) (k : Nat) (hk : k ≤ caps.length) : rk caps total k = total - tot ((fl caps total).take k) := by
  induction k with
  | zero => simp [rk, tot]
  | succ k ih =>
    rw [tot_take_succ _ _ (by rw [fl_len]; omega), fl_get _ _ _ (by omega)]
    have := ih (by omega)
    simp only [rk]; omega

theorem min_ite (x r : Int) : min x r = if r < x then r else x := by split <;> omega
theorem min_ite' (x r : Int) : min x r = if x < r then x else r := by split <;> omega
theorem min_cases (a b : Int) : (a ≤ b ∧ min a b = a) ∨ (b ≤ a ∧ min a b = b) := by omega

/-- the last k of a list behind noughts -/
def suf (l : List Int) (k : Nat) : List Int := List.replicate (l.length - k) 0 ++ l.drop (l.length - k)
theorem suf_len (l : List Int) (k : Nat) : (suf l k).length = l.length := by simp [suf]
theorem suf_zero (l : List Int) : suf l 0 = List.replicate l.length 0 := by simp [suf]
theorem suf_full (l : List Int) : suf l l.length = l := by simp [suf]
theorem suf_set (l : List Int) (k : Nat) (hk : k < l.length) : (suf l k).set (l.length - (k + 1)) (l.getD (l.length - (k + 1)) 0) = suf l (k + 1) := by
  unfold suf
  have h : l.length - (k + 1) < l.length := by omega
  have e : l.length - k = (l.length - (k + 1)) + 1 := by omega
  have e2 : l.drop (l.length - (k + 1)) = l.getD (l.length - (k + 1)) 0 :: l.drop (l.length - k) := by
    rw [List.drop_eq_getElem_cons h, getD_at _ _ h, e]
  rw [e2, e, List.replicate_succ', List.append_assoc, List.set_append_right _ _ (by simp)]
  simp

/-- what comes back, from the end on -/
def bk (paid : List Int) (total : Int) : List Int := (fl paid.reverse total).reverse
theorem bk_len (paid : List Int) (total : Int) : (bk paid total).length = paid.length := by simp [bk, fl_len]
theorem rev_get (l : List Int) (k : Nat) (hk : k < l.length) : l.reverse.getD k 0 = l.getD (l.length - (k + 1)) 0 := by
  have h : l.length - (k + 1) < l.length := by omega
  rw [getD_at _ _ (by simpa using hk), getD_at _ _ h, List.getElem_reverse]
  congr 1
  omega
theorem bk_get (paid : List Int) (total : Int) (k : Nat) (hk : k < paid.length) :
    (bk paid total).getD (paid.length - (k + 1)) 0 = min (paid.getD (paid.length - (k + 1)) 0) (rk paid.reverse total k) := by
  have h1 := rev_get (bk paid total) k (by rw [bk_len]; exact hk)
  rw [bk_len] at h1
  rw [← h1]
  unfold bk
  rw [List.reverse_reverse, fl_get _ _ _ (by simpa using hk), rev_get _ _ hk]

/-- the error of Fill and Back -/
def rowE (total : Int) (l : List Int) : Int := if inR total && allR l then (if 1024 < l.length then 8 else 0) else 2
def fillN (total : Int) (l : List Int) : List Int := if rowE total l = 0 then fl l total else []
def fillR (total : Int) (l : List Int) : Int := if rowE total l = 0 then rk l total l.length else 0
def backN (total : Int) (l : List Int) : List Int := if rowE total l = 0 then bk l total else []
def backR (total : Int) (l : List Int) : Int := if rowE total l = 0 then rk l.reverse total l.length else 0

theorem rowE_ok {total : Int} {l : List Int} (h : rowE total l = 0) : inR total = true ∧ allR l = true ∧ l.length ≤ 1024 := by
  unfold rowE at h
  split at h
  · rename_i h1
    simp at h1
    split at h
    · omega
    · exact ⟨h1.1, h1.2, by omega⟩
  · omega
theorem allR_reverse (l : List Int) : allR l.reverse = allR l := by simp [allR]
theorem rowE_reverse (total : Int) (l : List Int) : rowE total l.reverse = rowE total l := by simp [rowE, allR_reverse]
theorem fill_no {total : Int} {l : List Int} (h : rowE total l ≠ 0) : fillN total l = [] ∧ fillR total l = 0 ∧ backN total l = [] ∧ backR total l = 0 := by simp [fillN, fillR, backN, backR, h]
theorem fill_yes {total : Int} {l : List Int} (h : rowE total l = 0) : fillN total l = fl l total ∧ fillR total l = rk l total l.length ∧ backN total l = bk l total ∧ backR total l = rk l.reverse total l.length := by simp [fillN, fillR, backN, backR, h]
theorem fill_reverse (total : Int) (l : List Int) : (fillN total l.reverse).reverse = backN total l ∧ fillR total l.reverse = backR total l := by
  unfold fillN fillR backN backR
  rw [rowE_reverse]
  by_cases h : rowE total l = 0
  · simp [h, bk]
  · simp [h]
end SM

namespace SM
open LM
/-- Signed -/
def sgnE (total : Int) (w : List Int) : Int := if 0 ≤ total then splE total w else if total < -1152921504606846976 then 2 else splE (-total) w
def sgnN (total : Int) (w : List Int) : List Int := if 0 ≤ total then splN total w else if total < -1152921504606846976 then [] else (splN (-total) w).map fun x => -x

/-- the first k turned round -/
def negK (l : List Int) (k : Nat) : List Int := (l.take k).map (fun x => -x) ++ l.drop k
theorem negK_len (l : List Int) (k : Nat) : (negK l k).length = l.length := by simp [negK]; omega
theorem negK_zero (l : List Int) : negK l 0 = l := by simp [negK]
theorem negK_full (l : List Int) : negK l l.length = l.map fun x => -x := by simp [negK]
theorem negK_get (l : List Int) (k : Nat) (hk : k < l.length) : (negK l k).getD k 0 = l.getD k 0 := by
  unfold negK
  simp only [List.getD]
  rw [List.getElem?_append_right (by simp; omega)]
  simp [Nat.min_eq_left (show k ≤ l.length by omega)]
theorem negK_set (l : List Int) (k : Nat) (hk : k < l.length) : (negK l k).set k (-(l.getD k 0)) = negK l (k + 1) := by
  unfold negK
  rw [take_snoc l k hk, List.map_append, List.set_append_right _ _ (by simp; omega)]
  have e : k - ((l.take k).map fun x => -x).length = 0 := by simp [Nat.min_eq_left (show k ≤ l.length by omega)]
  rw [e, List.drop_eq_getElem_cons hk, List.set_cons_zero, List.map_cons, List.map_nil, List.append_assoc]
  rfl

theorem splN_range (total : Int) (w : List Int) : ∀ n ∈ splN total w, 0 ≤ n ∧ n ≤ 1152921504606848000 := by
  intro n hn
  unfold splN at hn
  split at hn
  · rename_i h
    unfold splE at h
    split at h
    · rename_i h1
      split at h
      · omega
      · rename_i h2
        split at h
        · rename_i h3
          simp at h3
          obtain ⟨hw, h0⟩ := h3
          obtain ⟨hr, ht⟩ := wOk_parts hw
          have hp : 0 < tot w := by have := tot_nonneg hr; omega
          obtain ⟨t0, t1⟩ := inR_true.1 h1
          obtain ⟨k, hk, rfl⟩ := List.getElem_of_mem hn
          have hk' : k < w.length := by rw [parts_len] at hk; exact hk
          rw [← getD_at _ _ hk]
          unfold parts
          obtain ⟨b1, b2⟩ := diter_bound 0 (leftOf total (tot w) w).toNat (qs total (tot w) w, rs total (tot w) w) (by simp only [qs_len, rs_len]) k
          have q0 := qs_nonneg t0 hr hp k hk'
          have q1 : (qs total (tot w) w).getD k 0 ≤ total := by rw [qs_get _ _ _ _ hk']; exact pq_le t0 (elem_le hr hk') hp
          obtain ⟨f0, f1⟩ := left_range total (tot w) w rfl hp
          simp only [] at b1 b2
          omega
        · omega
    · omega
  · simp at hn
theorem splN_len (total : Int) (w : List Int) : (splN total w).length ≤ w.length := by
  unfold splN; split
  · rw [parts_len]; exact Nat.le_refl _
  · simp
theorem splN_err {total : Int} {w : List Int} (h : splE total w ≠ 0) : splN total w = [] := by simp [splN, h]
end SM
