/- Contracts of layer 17's reference: Volume. -/
import Derived.Test.YtaegapcccboinaaTapG
namespace Go.Proofs.Ytaegapcccboinaa
open Go.RowKit Go.Recs
set_option linter.unusedVariables false
set_option linter.unusedSimpArgs false
set_option maxRecDepth 100000 in
set_option maxHeartbeats 4000000 in
theorem rvolume17_any (A : Option Addr) (l : List TP.Tick) (n cap : Nat) (hn : n = l.length) (w : World) (hI : Ticks w A l) :
    Calls Try.prog 40 #[.slice A n cap] w fun e w' => e = .returned (.tuple #[.int .i64 (TP.volN l), .int .i64 (TP.allE l)]) ∧ ∃ k, w' = w.drewN k := by
  have C1 := Lib.hid (rtcheck17_any A l n cap hn w hI)
  subst hn
  have hlen := hI.len
  by_cases h : TP.allE l = 0
  · have e : TP.volN l = TP.vol l := by unfold TP.volN; rw [if_pos h]
    have hg := TP.good h
    have KB : Hid (∀ k, k < l.length → (0 ≤ TP.volU l k ∧ TP.volU l k ≤ 1073741824) ∧ (1 ≤ (TP.tAt l k).qty ∧ (TP.tAt l k).qty ≤ 1048576) ∧ TP.volU l (k + 1) = TP.volU l k + (TP.tAt l k).qty) := Lib.hid (fun k hk => by
      have := TP.vol_bounds hg k (by omega)
      have := hg.len
      exact ⟨by omega, (hg.each k hk).2.1, TP.volU_succ hk⟩)
    have KE : Hid (TP.volU l l.length = TP.vol l) := Lib.hid (TP.volU_all l)
    rw [h] at C1 ⊢
    rw [e]
    generalize TP.vol l = x at *
    have HI := Lib.hid hI
    clear h e hI hg
    go_enter Try.func40, Try.ntmps40
    go_wp2_with fail
    refine C1.out.mono ?_
    rintro e w1 ⟨rfl, n1, rfl⟩
    go_wp2_with fail
    go_loopw [5, 6] (fun a i wr => ∃ k : Nat, k ≤ l.length ∧ i = .int .i64 (k : Int) ∧ (∃ y : Int, a = .int .i64 y ∧ Hid (y = TP.volU l k)) ∧ ∃ nd, wr = w.drewN nd) (fun _ i _ => l.length - (intOf i).toNat)
    case atStart => exact ⟨0, by omega, rfl, ⟨0, rfl, Lib.hid rfl⟩, n1, rfl⟩
    case round =>
      obtain ⟨k, hk, rfl, ⟨y, rfl, HY⟩, nd, rfl⟩ := hrel
      by_cases hlt : k < l.length
      · obtain ⟨b, off, t, rfl, hb, HV, ⟨q0, q1, q2⟩, d0, d1, d2⟩ := ticks_get HI.out hlt
        obtain ⟨⟨y1, y2⟩, ⟨z1, z2⟩, hs⟩ := KB.out k hlt
        rw [HV.out] at z1 z2 hs
        rw [← HY.out] at y1 y2 hs
        have HS := Lib.hid hs.symm
        clear hs q0 q1 q2 HV HY
        go_wp2_with fail
        go_roundw
        case rel => exact ⟨k + 1, by omega, by go_num, ⟨_, rfl, HS⟩, _, rfl⟩
        case measure => simp [intOf]; omega
      · obtain rfl : k = l.length := by omega
        obtain rfl : y = x := HY.out.trans KE.out
        go_wp2_with fail
        go_ret2
        exact ⟨rfl, nd, rfl⟩
  · have e : TP.volN l = 0 := by unfold TP.volN; rw [if_neg h]
    rw [e]
    generalize TP.allE l = x at *
    have h2 : (x != 0) = true := by simpa using h
    clear e hI
    go_enter Try.func40, Try.ntmps40
    go_wp2_with fail
    refine C1.out.mono ?_
    rintro e w1 ⟨rfl, n1, rfl⟩
    go_wp2_with fail
    go_ret2
    exact ⟨rfl, n1, rfl⟩
end Go.Proofs.Ytaegapcccboinaa
