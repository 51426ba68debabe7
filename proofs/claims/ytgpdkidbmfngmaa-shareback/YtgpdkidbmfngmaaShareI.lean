import Derived.Test.YtgpdkidbmfngmaaShareH
import Derived.Test.YtgpdkidbmfngmaaSignMath
namespace Go.Proofs.Ytgpdkidbmfngmaa
open Go.RowKit

theorem sign_round {w wr : World} {B g n c k : Nat} {ps : List Int} (x : Int) (h1 : Own wr B (.slice (some ⟨g, 0, none⟩) n c) ps) (hB : Below B w wr) :
    Own (wr.setCell ⟨g, k, none⟩ (.int .i64 x)) B (.slice (some ⟨g, 0, none⟩) n c) (ps.set k x) ∧ Below B w (wr.setCell ⟨g, k, none⟩ (.int .i64 x)) :=
  ⟨h1.set_ k x, hB.setCell (p := ⟨g, k, none⟩) h1.ge.1 _⟩

set_option maxHeartbeats 1000000 in
theorem signed_any (total : Int) (A : Option Addr) (zs : List Int) (cap : Nat) (w : World) (hI : Ints w A zs) (tr : -9223372036854775808 ≤ total ∧ total ≤ 9223372036854775807) :
    Calls Try.prog 33 #[.int .i64 total, .slice A zs.length cap] w fun e w' =>
      ∃ v, e = .returned (.tuple #[v, .int .i64 (SM.sgnE total zs)]) ∧ Own w' w.heap.size v (SM.sgnN total zs) ∧ Below w.heap.size w w' := by
  obtain ⟨tr1, tr2⟩ := tr
  by_cases h1 : 0 ≤ total
  · have e1 : SM.sgnE total zs = SM.splE total zs := by simp [SM.sgnE, h1]
    have e2 : SM.sgnN total zs = SM.splN total zs := by simp [SM.sgnN, h1]
    rw [e1, e2]; clear e1 e2
    go_enter Try.func33, Try.ntmps33
    go_wp2_with (go_at_call 31; refine (split_any _ _ _ _ _ hI).mono ?_; rintro e w1 ⟨v, rfl, ho, hb⟩)
    go_ret2
    exact ⟨_, rfl, ho, hb⟩
  · by_cases h2 : total < -1152921504606846976
    · have e1 : SM.sgnE total zs = 2 := by simp [SM.sgnE, h1, h2]
      have e2 : SM.sgnN total zs = [] := by simp [SM.sgnN, h1, h2]
      rw [e1, e2]; clear e1 e2
      go_enter Try.func33, Try.ntmps33
      go_wp2
      go_ret2
      exact ⟨_, rfl, Own.nil _ _, Below.refl _ _⟩
    · have e1 : SM.sgnE total zs = SM.splE (-total) zs := by simp [SM.sgnE, h1, h2]
      have e2 : SM.sgnN total zs = (SM.splN (-total) zs).map fun x => -x := by simp [SM.sgnN, h1, h2]
      rw [e1, e2]; clear e1 e2
      have HRG := Lib.hid (SM.splN_range (-total) zs)
      have HLN := Lib.hid (SM.splN_len (-total) zs)
      have hzl := hI.len
      have C := split_any (-total) A zs cap w hI
      generalize SM.splN (-total) zs = ps at *
      have HC := Lib.hid C
      clear C
      go_enter Try.func33, Try.ntmps33
      go_wp2_with fail
      refine HC.out.mono ?_
      rintro e w1 ⟨v, rfl, ho, hb⟩
      rcases ho.form with ⟨hv, h0⟩ | ⟨g, cp, hv, hg, hg2, hcp⟩
      · subst hv h0
        go_wp2
        refine wp_loop_rounds 1 ?_
        rw [rounds_succ]
        go_wp2
        go_ret2
        exact ⟨_, rfl, ho, hb⟩
      · subst hv
        have hpl : ps.length ≤ 9223372036854775807 := by have := HLN.out; omega
        have hb' := hb
        have hno := Lib.hid ho
        clear ho hb
        go_wp2
        go_ways
        go_loopw [25] (fun i wr => ∃ k : Nat, k ≤ ps.length ∧ i = .int .i64 k ∧ Own wr w.heap.size (.slice (some ⟨g, 0, none⟩) ps.length cp) (SM.negK ps k) ∧ Below w.heap.size w wr) (fun i _ => ps.length - (intOf i).toNat)
        case atStart => exact ⟨0, by omega, rfl, by rw [SM.negK_zero]; exact hno.out, hb'⟩
        case round =>
          obtain ⟨k, hk, rfl, ho, hB⟩ := hrel
          by_cases hlt : k < ps.length
          · have hc := ho.cell k (by rw [SM.negK_len]; exact hlt)
            have hf := ho.frozen k
            rw [SM.negK_get _ _ hlt] at hc
            obtain ⟨r0, r1⟩ := HRG.out _ (LM.getD_mem _ _ hlt)
            have HS := Lib.hid (SM.negK_set ps k hlt)
            have HR := Lib.hid (fun x => sign_round (k := k) x ho hB)
            generalize ps.getD k 0 = x at *
            go_wp2
            go_roundw
            case rel =>
              obtain ⟨q1, q2⟩ := HR.out (-x)
              exact ⟨k + 1, by omega, by go_num, by rw [← HS.out]; exact q1, q2⟩
            case measure => simp [intOf]; omega
          · obtain rfl : k = ps.length := by omega
            rw [SM.negK_full] at ho
            go_wp2
            go_ret2
            exact ⟨_, rfl, ho, hB⟩

set_option maxHeartbeats 1000000 in
theorem rsigned_any (total : Int) (A : Option Addr) (zs : List Int) (cap : Nat) (w : World) (hI : Ints w A zs) (tr : -9223372036854775808 ≤ total ∧ total ≤ 9223372036854775807) :
    Calls Try.prog 34 #[.int .i64 total, .slice A zs.length cap] w fun e w' =>
      ∃ v, e = .returned (.tuple #[v, .int .i64 (SM.sgnE total zs)]) ∧ Own w' w.heap.size v (SM.sgnN total zs) ∧ Below w.heap.size w w' := by
  obtain ⟨tr1, tr2⟩ := tr
  by_cases h1 : 0 ≤ total
  · have e1 : SM.sgnE total zs = SM.splE total zs := by simp [SM.sgnE, h1]
    have e2 : SM.sgnN total zs = SM.splN total zs := by simp [SM.sgnN, h1]
    rw [e1, e2]; clear e1 e2
    go_enter Try.func34, Try.ntmps34
    go_wp2_with (go_at_call 32; refine (rsplit_any _ _ _ _ _ hI).mono ?_; rintro e w1 ⟨v, rfl, ho, hb⟩)
    go_ret2
    exact ⟨_, rfl, ho, hb⟩
  · by_cases h2 : total < -1152921504606846976
    · have e1 : SM.sgnE total zs = 2 := by simp [SM.sgnE, h1, h2]
      have e2 : SM.sgnN total zs = [] := by simp [SM.sgnN, h1, h2]
      rw [e1, e2]; clear e1 e2
      go_enter Try.func34, Try.ntmps34
      go_wp2
      go_ret2
      exact ⟨_, rfl, Own.nil _ _, Below.refl _ _⟩
    · have e1 : SM.sgnE total zs = SM.splE (-total) zs := by simp [SM.sgnE, h1, h2]
      have e2 : SM.sgnN total zs = (SM.splN (-total) zs).map fun x => -x := by simp [SM.sgnN, h1, h2]
      rw [e1, e2]; clear e1 e2
      have HRG := Lib.hid (SM.splN_range (-total) zs)
      have HLN := Lib.hid (SM.splN_len (-total) zs)
      have HSE := Lib.hid (fun h => @SM.splN_err (-total) zs h)
      have hzl := hI.len
      have C := rsplit_any (-total) A zs cap w hI
      generalize SM.splN (-total) zs = ps at *
      have HC := Lib.hid C
      clear C
      by_cases hse : SM.splE (-total) zs = 0
      · go_enter Try.func34, Try.ntmps34
        go_wp2_with fail
        refine HC.out.mono ?_
        rintro e w1 ⟨v, rfl, ho, hb⟩
        rcases ho.form with ⟨hv, h0⟩ | ⟨g, cp, hv, hg, hg2, hcp⟩
        · subst hv h0
          go_wp2
          refine wp_loop_rounds 1 ?_
          rw [rounds_succ]
          go_wp2
          go_ret2
          exact ⟨_, by rw [hse]; rfl, ho, hb⟩
        · subst hv
          have hpl : ps.length ≤ 9223372036854775807 := by have := HLN.out; omega
          have hb' := hb
          have hno := Lib.hid ho
          clear ho hb
          go_wp2
          go_loopw [8] (fun i wr => ∃ k : Nat, k ≤ ps.length ∧ i = .int .i64 k ∧ Own wr w.heap.size (.slice (some ⟨g, 0, none⟩) ps.length cp) (SM.negK ps k) ∧ Below w.heap.size w wr) (fun i _ => ps.length - (intOf i).toNat)
          case atStart => exact ⟨0, by omega, rfl, by rw [SM.negK_zero]; exact hno.out, hb'⟩
          case round =>
            obtain ⟨k, hk, rfl, ho, hB⟩ := hrel
            by_cases hlt : k < ps.length
            · have hc := ho.cell k (by rw [SM.negK_len]; exact hlt)
              have hf := ho.frozen k
              rw [SM.negK_get _ _ hlt] at hc
              obtain ⟨r0, r1⟩ := HRG.out _ (LM.getD_mem _ _ hlt)
              have HS := Lib.hid (SM.negK_set ps k hlt)
              have HR := Lib.hid (fun x => sign_round (k := k) x ho hB)
              generalize ps.getD k 0 = x at *
              go_wp2
              go_roundw
              case rel =>
                obtain ⟨q1, q2⟩ := HR.out (-x)
                exact ⟨k + 1, by omega, by go_num, by rw [← HS.out]; exact q1, q2⟩
              case measure => simp [intOf]; omega
            · obtain rfl : k = ps.length := by omega
              rw [SM.negK_full] at ho
              go_wp2
              go_ret2
              exact ⟨_, by rw [hse]; rfl, ho, hB⟩
      · have hz : (SM.splE (-total) zs != 0) = true := by simpa using hse
        have HN := Lib.hid (HSE.out hse)
        clear hse
        go_enter Try.func34, Try.ntmps34
        go_wp2_with fail
        refine HC.out.mono ?_
        rintro e w1 ⟨v, rfl, ho, hb⟩
        go_wp2
        go_ret2
        exact ⟨_, rfl, by rw [HN.out]; exact Own.nil _ _, hb⟩
end Go.Proofs.Ytgpdkidbmfngmaa
