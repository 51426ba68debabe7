import Derived.Test.YtgpdkidbmfngmaaCapA
namespace Go.Proofs.Ytgpdkidbmfngmaa
open Go.RowKit

set_option maxHeartbeats 1000000 in
theorem takeall_any (P l : List Int) (g1 g3 n : Nat) (w : World) (h1 : Row w g1 P) (h3 : Row w g3 l) (e13 : g1 ≠ g3) (nP : P.length = n) (nl : l.length = n) (hn : n ≤ 1024)
    (hP : ∀ i, i < n → 0 ≤ P.getD i 0 ∧ P.getD i 0 ≤ 1152921504606846976) (hl : ∀ i, i < n → 0 ≤ l.getD i 0 ∧ l.getD i 0 ≤ 1152921504606846976) :
    Calls Try.prog 60 #[.slice (some ⟨g1, 0, none⟩) n n, .slice (some ⟨g3, 0, none⟩) n n] w fun e w' =>
      e = .returned (.tuple #[]) ∧ Row w' g1 (SM.addL P l) ∧ Only (fun b => b = g1) w w' := by
  have HO : Hid (SM.addL P l = SM.tab n fun i => P.getD i 0 + l.getD i 0) := by show _ = _; unfold SM.addL; rw [nP]
  have HP0 : Hid (P = SM.tab n fun i => P.getD i 0) := by show _ = _; conv => lhs; rw [← SM.tab_self P, nP]
  have HP := Lib.hid hP
  have HL := Lib.hid hl
  have NL := Lib.hid nl
  clear nP nl hP hl
  go_enter Try.func60, Try.ntmps60
  go_wp2
  go_loopw [8] (fun i wr => ∃ k : Nat, k ≤ n ∧ i = .int .i64 k ∧ Row wr g1 (SM.tab n fun i => if i < k then (P.getD i 0 + l.getD i 0) else P.getD i 0) ∧ Only (fun b => b = g1) w wr) (fun i _ => n - (intOf i).toNat)
  case atStart =>
    refine ⟨0, by omega, rfl, ?_, Only.refl _ _⟩
    rw [SM.pre_tab_zero, ← HP0.out]; exact h1
  case round =>
    obtain ⟨k, hk, rfl, hR1, hO⟩ := hrel
    by_cases hlt : k < n
    · have hR3 := hO.row h3 (fun hs => e13 hs.symm)
      obtain ⟨p0, p1⟩ := HP.out k hlt
      obtain ⟨l0, l1⟩ := HL.out k hlt
      have hcv := hR3.cell k (by rw [NL.out]; exact hlt)
      have hc1 := hR1.cell k (by rw [SM.tab_len]; exact hlt)
      rw [SM.tab_get _ _ _ hlt, if_neg (Nat.lt_irrefl _)] at hc1
      have hf1 := hR1.frozen k
      have HS1 := Lib.hid (SM.pre_tab_set n (fun i => P.getD i 0 + l.getD i 0) (fun i => P.getD i 0) k)
      have HR := Lib.hid (And.intro (hR1.set_ k (P.getD k 0 + l.getD k 0)) (hO.setCell (p := ⟨g1, k, none⟩) rfl (.int .i64 (P.getD k 0 + l.getD k 0))))
      clear hR1 hR3
      generalize P.getD k 0 = p at *
      generalize l.getD k 0 = q at *
      go_wp2
      go_roundw
      case rel => exact ⟨k + 1, by omega, by go_num, by rw [← HS1.out]; exact HR.out.1, HR.out.2⟩
      case measure => simp [intOf]; omega
    · obtain rfl : k = n := by omega
      rw [SM.pre_tab_full] at hR1
      go_wp2
      go_end0
      exact ⟨rfl, by rw [HO.out]; exact hR1, hO⟩
end Go.Proofs.Ytgpdkidbmfngmaa
