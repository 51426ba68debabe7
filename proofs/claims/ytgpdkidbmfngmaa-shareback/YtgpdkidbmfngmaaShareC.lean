import Derived.Test.YtgpdkidbmfngmaaShareB
import Derived.Test.YtgpdkidbmfngmaaShareMath2
import Derived.Test.YtgpdkidbmfngmaaMade
import Derived.Deep.DeepCutAuto
import Derived.Deep.RegionWith
namespace Go.Proofs.Ytgpdkidbmfngmaa
open Go.RowKit

set_option maxHeartbeats 1000000 in
/-- the closure that finds the largest remainder -/
theorem largest_any (g3 g2 : Nat) (zs : List Int) (w : World) (hX : Box w g3 31 (.slice (some ⟨g2, 0, none⟩) zs.length zs.length)) (hR : Row w g2 zs) (hl : zs.length ≤ 1024) :
    Calls Try.prog 65 #[.pointer (some ⟨g3, 0, none⟩)] w fun e w' => e = .returned (.int .i64 (SM.amax zs)) ∧ w = w' := by
  have hbox := hX.cell
  go_enter Try.func65, Try.ntmps65
  go_wp2
  go_loop [1, 6] (fun b i => ∃ k : Nat, k ≤ zs.length ∧ i = .int .i64 k ∧ b = .int .i64 (SM.amaxK zs k)) (fun _ i => zs.length - (intOf i).toNat)
  case atStart => exact ⟨0, by omega, rfl, rfl⟩
  case round =>
    obtain ⟨k, hk, rfl, rfl⟩ := hrel
    by_cases hlt : k < zs.length
    · have hm : SM.amaxK zs k < zs.length := by
        rcases Nat.eq_zero_or_pos k with h | h
        · subst h; simp [SM.amaxK]; omega
        · have := SM.amaxK_lt zs k h; omega
      obtain ⟨v, hv⟩ : ∃ v, zs.getD k 0 = v := ⟨_, rfl⟩
      obtain ⟨u, hu⟩ : ∃ u, zs.getD (SM.amaxK zs k) 0 = u := ⟨_, rfl⟩
      have hc1 := hR.cell k hlt
      have hc2 := hR.cell (SM.amaxK zs k) hm
      rw [hv] at hc1
      rw [hu] at hc2
      have HS : Hid (SM.amaxK zs (k + 1) = if u < v then k else SM.amaxK zs k) := by
        show SM.amaxK zs (k + 1) = _
        rw [SM.amaxK, hv, hu]
      clear hv hu
      generalize SM.amaxK zs k = m at *
      by_cases hc : u < v
      · rw [if_pos hc] at HS
        go_wp2
        go_round
        case rel => exact ⟨k + 1, by omega, by go_num, by rw [HS.out]⟩
        case measure => simp [intOf]; omega
      · rw [if_neg hc] at HS
        go_wp2
        go_round
        case rel => exact ⟨k + 1, by omega, by go_num, by rw [HS.out]⟩
        case measure => simp [intOf]; omega
    · obtain rfl : k = zs.length := by omega
      go_wp2
      go_ret
      exact ⟨rfl, rfl⟩

/-- the memory that 'divide' begins with -/
theorem divide_memory (w : World) (n : Nat) :
    let W := ((w.alloc (.cells (zeros n) 3)).alloc (.cells (zeros n) 3)).alloc (.cells #[.slice (some ⟨w.heap.size + 1, 0, none⟩) n n] 31)
    Row W w.heap.size (List.replicate n 0) ∧ Row W (w.heap.size + 1) (List.replicate n 0) ∧ Box W (w.heap.size + 1 + 1) 31 (.slice (some ⟨w.heap.size + 1, 0, none⟩) n n) ∧ Below w.heap.size w W := by
  have h2 := Row.made (w.alloc (.cells (zeros n) 3)) n
  have h3 := Box.new ((w.alloc (.cells (zeros n) 3)).alloc (.cells (zeros n) 3)) 31 (.slice (some ⟨w.heap.size + 1, 0, none⟩) n n)
  simp only [World.size_alloc] at h2 h3
  refine ⟨((Row.made w n).alloc _).alloc _, h2.alloc _, h3, ?_⟩
  exact (((Below.refl _ _).alloc (Nat.le_refl _) _).alloc (by simp) _).alloc (by simp <;> omega) _

theorem divide_round {w wr : World} {g1 g2 g3 k m B : Nat} {ps rs : List Int} {bv : Value} (x y : Int) (h1 : Row wr g1 ps) (h2 : Row wr g2 rs) (h3 : Box wr g3 31 bv) (hB : Below B w wr)
    (e12 : g1 ≠ g2) (e13 : g3 ≠ g1) (e23 : g3 ≠ g2) (b1 : B ≤ g1) (b2 : B ≤ g2) :
    let W := ((wr.drewN m).setCell ⟨g1, k, none⟩ (.int .i64 x)).setCell ⟨g2, k, none⟩ (.int .i64 y)
    Row W g1 (ps.set k x) ∧ Row W g2 (rs.set k y) ∧ Box W g3 31 bv ∧ Below B w W :=
  ⟨((h1.drewN m).set_ k x).far (p := ⟨g2, k, none⟩) e12 _, ((h2.drewN m).far (p := ⟨g1, k, none⟩) e12.symm _).set_ k y, ((h3.drewN m).far (p := ⟨g1, k, none⟩) e13 _).far (p := ⟨g2, k, none⟩) e23 _,
    ((below_drewN hB m).setCell (p := ⟨g1, k, none⟩) b1 _).setCell (p := ⟨g2, k, none⟩) b2 _⟩

theorem divide_round' {w wr : World} {g1 g2 g3 k B : Nat} {ps rs : List Int} {bv : Value} (x y : Int) (h1 : Row wr g1 ps) (h2 : Row wr g2 rs) (h3 : Box wr g3 31 bv) (hB : Below B w wr)
    (e12 : g1 ≠ g2) (e13 : g3 ≠ g1) (e23 : g3 ≠ g2) (b1 : B ≤ g1) (b2 : B ≤ g2) :
    let W := (wr.setCell ⟨g1, k, none⟩ (.int .i64 x)).setCell ⟨g2, k, none⟩ (.int .i64 y)
    Row W g1 (ps.set k x) ∧ Row W g2 (rs.set k y) ∧ Box W g3 31 bv ∧ Below B w W :=
  ⟨(h1.set_ k x).far (p := ⟨g2, k, none⟩) e12 _, (h2.far (p := ⟨g1, k, none⟩) e12.symm _).set_ k y, (h3.far (p := ⟨g1, k, none⟩) e13 _).far (p := ⟨g2, k, none⟩) e23 _,
    (hB.setCell (p := ⟨g1, k, none⟩) b1 _).setCell (p := ⟨g2, k, none⟩) b2 _⟩

set_option maxHeartbeats 1000000 in
theorem divide2_any (total all : Int) (A : Option Addr) (zs : List Int) (cap : Nat) (w : World) (hI : Ints w A zs) (hl : zs.length ≤ 1024) (hz : SM.allR zs = true) (hall : all = LM.tot zs) (ha0 : 0 < all) (ha1 : all ≤ 1152921504606846976) (t0 : 0 ≤ total) (t1 : total ≤ 1152921504606846976) :
    Calls Try.prog 54 #[.int .i64 total, .slice A zs.length cap, .int .i64 all] w fun e w' => ∃ g, e = .returned (.slice (some ⟨g, 0, none⟩) zs.length zs.length) ∧ w.heap.size ≤ g ∧ Row w' g (SM.parts total all zs) ∧ Below w.heap.size w w' := by
  have hmk := make_ints zs.length (by omega)
  have HALL := Lib.hid hall
  have HZ := Lib.hid hz
  clear hall hz
  go_enter Try.func54, Try.ntmps54
  go_wp2
  go_loopw [8, 22] (fun l i wr => ∃ k : Nat, k ≤ zs.length ∧ i = .int .i64 k ∧ l = .int .i64 (total - LM.tot ((SM.qs total all zs).take k)) ∧ Row wr w.heap.size (SM.pre (SM.qs total all zs) k) ∧
      Row wr (w.heap.size + 1) (SM.pre (SM.rs total all zs) k) ∧ Box wr (w.heap.size + 1 + 1) 31 (.slice (some ⟨w.heap.size + 1, 0, none⟩) zs.length zs.length) ∧ Below w.heap.size w wr)
    (fun _ i _ => zs.length - (intOf i).toNat)
  case atStart =>
    obtain ⟨m1, m2, m3, m4⟩ := divide_memory w zs.length
    exact ⟨0, by omega, rfl, by simp [LM.tot], by rw [SM.pre_zero, SM.qs_len]; exact m1, by rw [SM.pre_zero, SM.rs_len]; exact m2, m3, m4⟩
  case round =>
    obtain ⟨k, hk, rfl, rfl, hR1, hR2, hX, hB⟩ := hrel
    by_cases hlt : k < zs.length
    · have hI2 := hI.below hB
      obtain ⟨b, off, v, rfl, hb, hcell, HV, v1, v2⟩ := hI2.get hlt
      have hbox := hX.cell
      have hf1 := hR1.frozen k
      have hf2 := hR2.frozen k
      obtain ⟨o1, hc1⟩ : ∃ o, wr.cell? ⟨w.heap.size, k, none⟩ = some (.int .i64 o) := ⟨_, hR1.cell k (by rw [SM.pre_len _ _ (by rw [SM.qs_len]; omega), SM.qs_len]; exact hlt)⟩
      obtain ⟨o2, hc2⟩ : ∃ o, wr.cell? ⟨w.heap.size + 1, k, none⟩ = some (.int .i64 o) := ⟨_, hR2.cell k (by rw [SM.pre_len _ _ (by rw [SM.rs_len]; omega), SM.rs_len]; exact hlt)⟩
      have hn : v = zs.getD k 0 := HV.out.symm
      have hvr := SM.allR_get HZ.out hlt
      rw [← hn] at hvr
      obtain ⟨vr1, vr2⟩ := hvr
      have hva : v ≤ all := by
        rw [HALL.out, hn]
        have h1 := SM.tot_take_le HZ.out (k + 1)
        rw [LM.tot_take_succ zs k hlt] at h1
        have h2 := SM.tot_nonneg (SM.allR_take HZ.out k)
        omega
      clear hn
      obtain ⟨s0, s1⟩ := SM.qs_take t0 HZ.out ha0 HALL.out k
      have p0 := SM.pq_nonneg t0 vr1 ha0
      have p1 := SM.pq_le t0 hva ha0
      have HL : Hid (LM.tot ((SM.qs total all zs).take (k + 1)) = LM.tot ((SM.qs total all zs).take k) + SM.pq total v all) := by
        show _ = _
        rw [LM.tot_take_succ _ _ (by rw [SM.qs_len]; exact hlt), SM.qs_get _ _ _ _ hlt, HV.out]
      generalize LM.tot ((SM.qs total all zs).take k) = T at *
      go_wp2
      go_region_with (go_at_call 64; refine (portion_any _ _ _ _ t0 t1 vr1 hva ha0 ha1).mono ?_; rintro e w' ⟨rfl, n, rfl⟩)
      all_goals go_wp2
      all_goals
        go_roundw
        case rel =>
          obtain ⟨q1, q2, q3, q4⟩ := divide_round (m := 1 + n) (k := k) (SM.pq total v all) (SM.pr total v all) hR1 hR2 hX hB (by omega) (by omega) (by omega) (by omega) (by omega)
          have e1 : (SM.pre (SM.qs total all zs) k).set k (SM.pq total v all) = SM.pre (SM.qs total all zs) (k + 1) := by
            rw [← SM.pre_set _ _ (by rw [SM.qs_len]; exact hlt), SM.qs_get _ _ _ _ hlt, HV.out]
          have e2 : (SM.pre (SM.rs total all zs) k).set k (SM.pr total v all) = SM.pre (SM.rs total all zs) (k + 1) := by
            rw [← SM.pre_set _ _ (by rw [SM.rs_len]; exact hlt), SM.rs_get _ _ _ _ hlt, HV.out]
          rw [e1] at q1
          rw [e2] at q2
          exact ⟨k + 1, by omega, by go_num, by rw [HL.out]; go_num, q1, q2, q3, q4⟩
        case measure => simp [intOf]; omega
    · obtain rfl : k = zs.length := by omega
      obtain ⟨f0, f1⟩ := SM.left_range total all zs HALL.out ha0
      have eq1 : SM.pre (SM.qs total all zs) zs.length = SM.qs total all zs := by
        have := SM.pre_full (SM.qs total all zs); rwa [SM.qs_len] at this
      have eq2 : SM.pre (SM.rs total all zs) zs.length = SM.rs total all zs := by
        have := SM.pre_full (SM.rs total all zs); rwa [SM.rs_len] at this
      have eq3 : total - LM.tot ((SM.qs total all zs).take zs.length) = SM.leftOf total all zs := by
        unfold SM.leftOf; rw [List.take_of_length_le (by rw [SM.qs_len]; exact Nat.le_refl _)]
      rw [eq1] at hR1
      rw [eq2] at hR2
      rw [eq3]
      obtain ⟨L, hL⟩ := Int.eq_ofNat_of_zero_le f0
      have HP : Hid (SM.parts total all zs = (SM.diter 0 L (SM.qs total all zs, SM.rs total all zs)).1) := by
        show _ = _
        unfold SM.parts; rw [hL]; rfl
      rw [hL] at f1 ⊢
      clear eq1 eq2 eq3 hL f0
      go_wp2
      go_loopw [49] (fun i wr => ∃ t : Nat, t ≤ L ∧ i = .int .i64 t ∧ Row wr w.heap.size (SM.diter 0 t (SM.qs total all zs, SM.rs total all zs)).1 ∧
          Row wr (w.heap.size + 1) (SM.diter 0 t (SM.qs total all zs, SM.rs total all zs)).2 ∧ Box wr (w.heap.size + 1 + 1) 31 (.slice (some ⟨w.heap.size + 1, 0, none⟩) zs.length zs.length) ∧ Below w.heap.size w wr)
        (fun i _ => L - (intOf i).toNat)
      case atStart => exact ⟨0, by omega, rfl, hR1, hR2, hX, hB⟩
      case round =>
        clear hR1 hR2 hX hB
        obtain ⟨t, ht, rfl, hR1, hR2, hX, hB⟩ := hrel
        by_cases hlt2 : t < L
        · have n1 : (SM.diter 0 t (SM.qs total all zs, SM.rs total all zs)).1.length = zs.length := by rw [(SM.diter_len _ _ _).1]; exact SM.qs_len _ _ _
          have n2 : (SM.diter 0 t (SM.qs total all zs, SM.rs total all zs)).2.length = zs.length := by rw [(SM.diter_len _ _ _).2]; exact SM.rs_len _ _ _
          have hm : SM.amax (SM.diter 0 t (SM.qs total all zs, SM.rs total all zs)).2 < zs.length := by rw [← n2]; exact SM.amax_lt _ (by rw [n2]; omega)
          have hbd := SM.diter_bound 0 t (SM.qs total all zs, SM.rs total all zs) (by simp only [SM.qs_len, SM.rs_len]) (SM.amax (SM.diter 0 t (SM.qs total all zs, SM.rs total all zs)).2)
          have hq0 := SM.qs_nonneg t0 HZ.out ha0 _ hm
          have hq1 : (SM.qs total all zs).getD (SM.amax (SM.diter 0 t (SM.qs total all zs, SM.rs total all zs)).2) 0 ≤ total := by
            rw [SM.qs_get _ _ _ _ hm]
            refine SM.pq_le t0 ?_ ha0
            have h1 := SM.elem_le HZ.out hm
            have h2 := HALL.out
            omega
          simp only [] at hbd
          have hc1 := hR1.cell _ (by rw [n1]; exact hm)
          have hc2 := hR2.cell _ (by rw [n2]; exact hm)
          have hf1 := hR1.frozen (SM.amax (SM.diter 0 t (SM.qs total all zs, SM.rs total all zs)).2)
          have hf2 := hR2.frozen (SM.amax (SM.diter 0 t (SM.qs total all zs, SM.rs total all zs)).2)
          have hX2 : Box wr (w.heap.size + 1 + 1) 31 (.slice (some ⟨w.heap.size + 1, 0, none⟩) (SM.diter 0 t (SM.qs total all zs, SM.rs total all zs)).2.length (SM.diter 0 t (SM.qs total all zs, SM.rs total all zs)).2.length) := by rw [n2]; exact hX
          have CL := Lib.hid (largest_any _ _ _ wr hX2 hR2 (by rw [n2]; exact hl))
          have hbox := hX.cell
          have HR := Lib.hid (fun x => divide_round' (k := SM.amax (SM.diter 0 t (SM.qs total all zs, SM.rs total all zs)).2) x 0 hR1 hR2 hX hB (by omega) (by omega) (by omega) (by omega) (by omega))
          have HD : Hid (SM.diter 0 (t + 1) (SM.qs total all zs, SM.rs total all zs) = SM.dstep 0 (SM.diter 0 t (SM.qs total all zs, SM.rs total all zs))) := rfl
          unfold SM.dstep SM.inc at HD
          clear hX2 hR1 hR2 n1 n2
          generalize SM.amax (SM.diter 0 t (SM.qs total all zs, SM.rs total all zs)).2 = im at *
          generalize (SM.diter 0 t (SM.qs total all zs, SM.rs total all zs)).2.getD im 0 = r0 at *
          generalize (SM.diter 0 t (SM.qs total all zs, SM.rs total all zs)).1.getD im 0 = p0 at *
          obtain ⟨hbd1, hbd2⟩ := hbd
          go_wp2_with fail
          refine CL.out.mono ?_
          rintro e w' ⟨rfl, rfl⟩
          go_wp2
          go_roundw
          case rel =>
            obtain ⟨q1, q2, q3, q4⟩ := HR.out (p0 + 1)
            exact ⟨t + 1, by omega, by go_num, by rw [HD.out]; exact q1, by rw [HD.out]; exact q2, q3, q4⟩
          case measure => simp [intOf]; omega
        · obtain rfl : t = L := by omega
          go_wp2
          go_ret
          exact ⟨_, rfl, Nat.le_refl _, by rw [HP.out]; exact hR1, hB⟩
end Go.Proofs.Ytgpdkidbmfngmaa
