import Derived.Test.YtgpdkidbmfngmaaShareE
import Derived.Test.YtgpdkidbmfngmaaFillMath
namespace Go.Proofs.Ytgpdkidbmfngmaa
open Go.RowKit

theorem rowE_same (total : Int) (l : List Int) : rowE total l = SM.rowE total l := rfl

set_option maxHeartbeats 1000000 in
theorem fill_any (total : Int) (A : Option Addr) (zs : List Int) (cap : Nat) (w : World) (hI : Ints w A zs) :
    Calls Try.prog 39 #[.int .i64 total, .slice A zs.length cap] w fun e w' =>
      ∃ v, e = .returned (.tuple #[v, .int .i64 (SM.fillR total zs), .int .i64 (SM.rowE total zs)]) ∧ Own w' w.heap.size v (SM.fillN total zs) ∧ Below w.heap.size w w' := by
  have C := checkrow_any total A zs cap w hI
  rw [rowE_same] at C
  by_cases h0 : SM.rowE total zs = 0
  · have e1 := (SM.fill_yes h0).1
    have e2 := (SM.fill_yes h0).2.1
    rw [e1, e2, h0]
    obtain ⟨i1, hr, hlen⟩ := SM.rowE_ok h0
    obtain ⟨t0, t1⟩ := SM.inR_true.1 i1
    have hmk := make_ints zs.length (by omega)
    have HC := Lib.hid C
    have HR := Lib.hid hr
    have HRK := Lib.hid (fun (k : Nat) (hk : k ≤ zs.length) => SM.rk_range hr t0 k hk)
    clear e1 e2 i1 hr C
    go_enter Try.func39, Try.ntmps39
    go_wp2_with (go_at_call 61; refine HC.out.mono ?_; rintro e w' ⟨rfl, rfl⟩)
    go_loopw [5, 20] (fun r i wr => ∃ k : Nat, k ≤ zs.length ∧ i = .int .i64 k ∧ r = .int .i64 (SM.rk zs total k) ∧ Row wr w.heap.size (SM.pre (SM.fl zs total) k) ∧ Below w.heap.size w wr) (fun _ i _ => zs.length - (intOf i).toNat)
    case atStart =>
      refine ⟨0, by omega, rfl, rfl, ?_, (Below.refl _ _).alloc (Nat.le_refl _) _⟩
      rw [SM.pre_zero, SM.fl_len]; exact Row.made w _
    case round =>
      obtain ⟨k, hk, rfl, rfl, hR, hB⟩ := hrel
      by_cases hlt : k < zs.length
      · have hI2 := hI.below hB
        obtain ⟨b, off, x, rfl, hb, hcell, HV, v1, v2⟩ := hI2.get hlt
        obtain ⟨x0, x1⟩ := SM.allR_get HR.out hlt
        rw [HV.out] at x0 x1
        obtain ⟨o, hc⟩ : ∃ o, wr.cell? ⟨w.heap.size, k, none⟩ = some (.int .i64 o) := ⟨_, hR.cell k (by rw [SM.pre_len _ _ (by rw [SM.fl_len]; omega), SM.fl_len]; exact hlt)⟩
        have hf := hR.frozen k
        have HS : Hid (SM.rk zs total (k + 1) = SM.rk zs total k - min x (SM.rk zs total k)) := by
          show _ = _
          rw [SM.rk, HV.out]
        have HF : Hid ((SM.pre (SM.fl zs total) k).set k (min x (SM.rk zs total k)) = SM.pre (SM.fl zs total) (k + 1)) := by
          show _ = _
          rw [← SM.pre_set _ _ (by rw [SM.fl_len]; exact hlt), SM.fl_get _ _ _ hlt, HV.out]
        obtain ⟨r0, r1⟩ := HRK.out k hk
        have HI := Lib.hid hI
        clear hI hI2
        generalize SM.rk zs total k = r at *
        rw [SM.min_ite] at HS HF
        go_wp2
        go_roundw
        case rel => exact ⟨k + 1, by omega, by go_num, by rw [HS.out], by rw [← HF.out]; exact hR.set_ k _, hB.setCell (p := ⟨w.heap.size, k, none⟩) (Nat.le_refl _) _⟩
        case measure => simp [intOf]; omega
      · obtain rfl : k = zs.length := by omega
        have e1 : SM.pre (SM.fl zs total) zs.length = SM.fl zs total := by
          have := SM.pre_full (SM.fl zs total); rwa [SM.fl_len] at this
        rw [e1] at hR
        go_wp2
        go_ret3
        refine ⟨_, rfl, ?_, hB⟩
        have := hR.own (Nat.le_refl _) (by rw [SM.fl_len]; exact hI.1)
        rw [SM.fl_len] at this
        exact this
  · have e1 := (SM.fill_no h0).1
    have e2 := (SM.fill_no h0).2.1
    rw [e1, e2]
    have hz : (SM.rowE total zs != 0) = true := by simpa using h0
    clear e1 e2 h0
    have HC := Lib.hid C
    clear C
    go_enter Try.func39, Try.ntmps39
    go_wp2_with (go_at_call 61; refine HC.out.mono ?_; rintro e w' ⟨rfl, rfl⟩)
    go_ret3
    exact ⟨_, rfl, Own.nil _ _, Below.refl _ _⟩

set_option maxHeartbeats 1000000 in
theorem back_any (total : Int) (A : Option Addr) (zs : List Int) (cap : Nat) (w : World) (hI : Ints w A zs) :
    Calls Try.prog 41 #[.int .i64 total, .slice A zs.length cap] w fun e w' =>
      ∃ v, e = .returned (.tuple #[v, .int .i64 (SM.backR total zs), .int .i64 (SM.rowE total zs)]) ∧ Own w' w.heap.size v (SM.backN total zs) ∧ Below w.heap.size w w' := by
  have C := checkrow_any total A zs cap w hI
  rw [rowE_same] at C
  by_cases h0 : SM.rowE total zs = 0
  · have e1 := (SM.fill_yes h0).2.2.1
    have e2 := (SM.fill_yes h0).2.2.2
    rw [e1, e2, h0]
    obtain ⟨i1, hr, hlen⟩ := SM.rowE_ok h0
    obtain ⟨t0, t1⟩ := SM.inR_true.1 i1
    have hmk := make_ints zs.length (by omega)
    have HC := Lib.hid C
    have HR := Lib.hid hr
    have HRK := Lib.hid (fun (k : Nat) (hk : k ≤ zs.length) => SM.rk_range (caps := zs.reverse) (by rw [SM.allR_reverse]; exact hr) t0 k (by simpa using hk))
    clear e1 e2 i1 hr C
    go_enter Try.func41, Try.ntmps41
    go_wp2_with (go_at_call 61; refine HC.out.mono ?_; rintro e w' ⟨rfl, rfl⟩)
    go_loopw [5, 7] (fun r i wr => ∃ k : Nat, k ≤ zs.length ∧ i = .int .i64 ((zs.length : Int) - 1 - k) ∧ r = .int .i64 (SM.rk zs.reverse total k) ∧ Row wr w.heap.size (SM.suf (SM.bk zs total) k) ∧ Below w.heap.size w wr) (fun _ i _ => (intOf i + 1).toNat)
    case atStart =>
      refine ⟨0, by omega, by simp, rfl, ?_, (Below.refl _ _).alloc (Nat.le_refl _) _⟩
      rw [SM.suf_zero, SM.bk_len]; exact Row.made w _
    case round =>
      obtain ⟨k, hk, rfl, rfl, hR, hB⟩ := hrel
      by_cases hlt : k < zs.length
      · have hlt2 : zs.length - (k + 1) < zs.length := by omega
        have hI2 := hI.below hB
        obtain ⟨b, off, x, rfl, hb, hcell, HV, v1, v2⟩ := hI2.get hlt2
        obtain ⟨x0, x1⟩ := SM.allR_get HR.out hlt2
        rw [HV.out] at x0 x1
        obtain ⟨o, hc⟩ : ∃ o, wr.cell? ⟨w.heap.size, zs.length - (k + 1), none⟩ = some (.int .i64 o) := ⟨_, hR.cell _ (by rw [SM.suf_len, SM.bk_len]; exact hlt2)⟩
        have hf := hR.frozen (zs.length - (k + 1))
        have HS : Hid (SM.rk zs.reverse total (k + 1) = SM.rk zs.reverse total k - min x (SM.rk zs.reverse total k)) := by
          show _ = _
          rw [SM.rk, SM.rev_get _ _ hlt, HV.out]
        have HF : Hid ((SM.suf (SM.bk zs total) k).set (zs.length - (k + 1)) (min x (SM.rk zs.reverse total k)) = SM.suf (SM.bk zs total) (k + 1)) := by
          show _ = _
          have := SM.suf_set (SM.bk zs total) k (by rw [SM.bk_len]; exact hlt)
          rw [SM.bk_len, SM.bk_get _ _ _ hlt, HV.out] at this
          exact this
        obtain ⟨r0, r1⟩ := HRK.out k hk
        have HI := Lib.hid hI
        have e1 : ((zs.length : Int) - 1 - k).toNat = zs.length - (k + 1) := by omega
        clear hI hI2
        generalize SM.rk zs.reverse total k = r at *
        rw [SM.min_ite] at HS HF
        go_wp2
        go_roundw
        case rel => exact ⟨k + 1, by omega, by go_num, by rw [HS.out], by rw [← HF.out]; exact hR.set_ _ _, hB.setCell (p := ⟨w.heap.size, _, none⟩) (Nat.le_refl _) _⟩
        case measure => simp [intOf]; omega
      · obtain rfl : k = zs.length := by omega
        have e1 : SM.suf (SM.bk zs total) zs.length = SM.bk zs total := by
          have := SM.suf_full (SM.bk zs total); rwa [SM.bk_len] at this
        rw [e1] at hR
        go_wp2
        go_ret3
        refine ⟨_, rfl, ?_, hB⟩
        have := hR.own (Nat.le_refl _) (by rw [SM.bk_len]; exact hI.1)
        rw [SM.bk_len] at this
        exact this
  · have e1 := (SM.fill_no h0).2.2.1
    have e2 := (SM.fill_no h0).2.2.2
    rw [e1, e2]
    have hz : (SM.rowE total zs != 0) = true := by simpa using h0
    clear e1 e2 h0
    have HC := Lib.hid C
    clear C
    go_enter Try.func41, Try.ntmps41
    go_wp2_with (go_at_call 61; refine HC.out.mono ?_; rintro e w' ⟨rfl, rfl⟩)
    go_ret3
    exact ⟨_, rfl, Own.nil _ _, Below.refl _ _⟩

theorem rev_step (zs : List Int) (k : Nat) (hk : k < zs.length) : (zs.drop (zs.length - (k + 1))).reverse = (zs.drop (zs.length - k)).reverse ++ [zs.getD (zs.length - (k + 1)) 0] := by
  have h : zs.length - (k + 1) < zs.length := by omega
  rw [List.drop_eq_getElem_cons h, List.reverse_cons, LM.getD_at _ _ h]
  rw [show zs.length - (k + 1) + 1 = zs.length - k by omega]

set_option maxHeartbeats 1000000 in
theorem turned_any (A : Option Addr) (zs : List Int) (cap : Nat) (w : World) (hI : Ints w A zs) (hl : zs.length ≤ 1048576) :
    Calls Try.prog 62 #[.slice A zs.length cap] w fun e w' => ∃ v, e = .returned v ∧ Own w' w.heap.size v zs.reverse ∧ Below w.heap.size w w' := by
  go_enter Try.func62, Try.ntmps62
  go_wp2
  go_loopw [3, 4] (fun v i wr => ∃ k : Nat, k ≤ zs.length ∧ i = .int .i64 ((zs.length : Int) - 1 - k) ∧ Own wr w.heap.size v (zs.drop (zs.length - k)).reverse ∧ Below w.heap.size w wr)
    (fun _ i _ => (intOf i + 1).toNat)
  case atStart => exact ⟨0, by omega, by simp, by simpa using Own.empty w w.heap.size (Nat.le_refl _), (Below.refl _ _).alloc (Nat.le_refl _) _⟩
  case round =>
    obtain ⟨k, hk, rfl, hown, hB⟩ := hrel
    by_cases hlt : k < zs.length
    · have hlt2 : zs.length - (k + 1) < zs.length := by omega
      have hI2 := hI.below hB
      obtain ⟨b, off, x, rfl, hb, hcell, HV, v1, v2⟩ := hI2.get hlt2
      have HI := Lib.hid hI
      have HR := Lib.hid (rev_step zs k hlt)
      have e1 : ((zs.length : Int) - 1 - k).toNat = zs.length - (k + 1) := by omega
      clear hI hI2
      go_wp2_with (at_builtin; refine wpList_push _ x w.heap.size _ _ _ rfl rfl _ rfl rfl hown ?c1 ?c2 ?_)
      case c1 => simp; omega
      case c2 => exact hB.size
      intro v' w1 ho hb1 hs1 _
      clear hown hcell
      go_wp2
      go_roundw
      case rel => exact ⟨k + 1, by omega, by go_num, by rw [HR.out, HV.out]; exact ho, hB.trans hb1⟩
      case measure => simp [intOf]; omega
    · obtain rfl : k = zs.length := by omega
      rw [show zs.drop (zs.length - zs.length) = zs by simp] at hown
      go_wp2
      go_ret
      exact ⟨_, rfl, hown, hB⟩
end Go.Proofs.Ytgpdkidbmfngmaa
