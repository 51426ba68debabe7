import Derived.Test.YtgpdkidbmfngmaaShareF
namespace Go.Proofs.Ytgpdkidbmfngmaa
open Go.RowKit

theorem bad_step (total : Int) (zs : List Int) (k : Nat) (x : Int) (hk : k < zs.length) (hx : zs.getD k 0 = x) :
    (SM.inR total && SM.allR (zs.take (k + 1))) = ((SM.inR total && SM.allR (zs.take k)) && SM.inR x) := by
  rw [SM.allR_take_succ zs k hk, hx, Bool.and_assoc]

set_option maxHeartbeats 2000000 in
theorem rfill_any (total : Int) (A : Option Addr) (zs : List Int) (cap : Nat) (w : World) (hI : Ints w A zs) :
    Calls Try.prog 40 #[.int .i64 total, .slice A zs.length cap] w fun e w' =>
      ∃ v, e = .returned (.tuple #[v, .int .i64 (SM.fillR total zs), .int .i64 (SM.rowE total zs)]) ∧ Own w' w.heap.size v (SM.fillN total zs) ∧ Below w.heap.size w w' := by
  have hlen := hI.len
  go_enter Try.func40, Try.ntmps40
  go_wp2_with (go_at_call 55; refine (money_any _ _).mono ?_; rintro e w' ⟨rfl, rfl⟩)
  go_loop [7, 8] (fun b i => ∃ k : Nat, ∃ g : Bool, k ≤ zs.length ∧ i = .int .i64 k ∧ b = .bool !g ∧ Hid ((SM.inR total && SM.allR (zs.take k)) = g)) (fun _ i => zs.length - (intOf i).toNat)
  case atStart => exact ⟨0, SM.inR total, by omega, rfl, rfl, by show _ = _; simp [SM.allR]⟩
  case round =>
    obtain ⟨k, g, hk, rfl, rfl, HG⟩ := hrel
    by_cases hlt : k < zs.length
    · obtain ⟨b, off, x, rfl, hb, hcell, HV, v1, v2⟩ := hI.get hlt
      have HI := Lib.hid hI
      clear hI
      have HN := Lib.hid (bad_step total zs k x hlt HV.out)
      rw [HG.out] at HN
      cases g
      · go_wp2_with (go_at_call 55; refine (money_any _ _).mono ?_; rintro e w' ⟨rfl, rfl⟩)
        go_round
        case rel => exact ⟨k + 1, false, by omega, by go_num, rfl, by rw [HN.out]; exact rfl⟩
        case measure => simp [intOf]; omega
      · cases hf : SM.inR x
        · rw [hf] at HN
          go_wp2_with (go_at_call 55; refine (money_any _ _).mono ?_; rintro e w' ⟨rfl, rfl⟩)
          go_round
          case rel => exact ⟨k + 1, false, by omega, by go_num, rfl, by rw [HN.out]; exact rfl⟩
          case measure => simp [intOf]; omega
        · rw [hf] at HN
          go_wp2_with (go_at_call 55; refine (money_any _ _).mono ?_; rintro e w' ⟨rfl, rfl⟩)
          go_round
          case rel => exact ⟨k + 1, true, by omega, by go_num, rfl, by rw [HN.out]; exact rfl⟩
          case measure => simp [intOf]; omega
    · obtain rfl : k = zs.length := by omega
      rw [List.take_length] at HG
      cases g
      · have h2 : SM.rowE total zs = 2 := by unfold SM.rowE; rw [HG.out]; rfl
        have E1 := Lib.hid (SM.fill_no (total := total) (l := zs) (by rw [h2]; decide))
        have E2 := Lib.hid h2
        clear h2
        go_wp2
        go_ret3
        exact ⟨_, by rw [E1.out.2.1, E2.out]; rfl, by rw [E1.out.1]; exact Own.nil _ _, Below.refl _ _⟩
      · by_cases hlong : 1024 < zs.length
        · have h2 : SM.rowE total zs = 8 := by unfold SM.rowE; rw [HG.out]; simp [hlong]
          have E1 := Lib.hid (SM.fill_no (total := total) (l := zs) (by rw [h2]; decide))
          have E2 := Lib.hid h2
          clear h2
          go_wp2
          go_ret3
          exact ⟨_, by rw [E1.out.2.1, E2.out]; rfl, by rw [E1.out.1]; exact Own.nil _ _, Below.refl _ _⟩
        · have h2 : SM.rowE total zs = 0 := by unfold SM.rowE; rw [HG.out]; simp [hlong]
          have E1 := Lib.hid (SM.fill_yes h2)
          obtain ⟨i1, hr, _⟩ := SM.rowE_ok h2
          obtain ⟨t0, t1⟩ := SM.inR_true.1 i1
          have E2 := Lib.hid h2
          have HR := Lib.hid hr
          have HRK := Lib.hid (fun (k : Nat) (hk : k ≤ zs.length) => SM.rk_range hr t0 k hk)
          clear h2 i1 hr
          go_wp2
          go_loopw [9, 10, 11] (fun v r i wr => ∃ k : Nat, k ≤ zs.length ∧ i = .int .i64 k ∧ r = .int .i64 (SM.rk zs total k) ∧ Own wr w.heap.size v ((SM.fl zs total).take k) ∧ Below w.heap.size w wr) (fun _ _ i _ => zs.length - (intOf i).toNat)
          case atStart => exact ⟨0, by omega, rfl, rfl, by simpa using Own.empty w w.heap.size (Nat.le_refl _), (Below.refl _ _).alloc (Nat.le_refl _) _⟩
          case round =>
            obtain ⟨k, hk, rfl, rfl, hown, hB⟩ := hrel
            by_cases hlt : k < zs.length
            · have hI2 := hI.below hB
              obtain ⟨b, off, x, rfl, hb, hcell, HV, v1, v2⟩ := hI2.get hlt
              obtain ⟨x0, x1⟩ := SM.allR_get HR.out hlt
              rw [HV.out] at x0 x1
              have HS : Hid (SM.rk zs total (k + 1) = SM.rk zs total k - min x (SM.rk zs total k)) := by
                show _ = _
                rw [SM.rk, HV.out]
              have HF : Hid ((SM.fl zs total).take (k + 1) = (SM.fl zs total).take k ++ [min x (SM.rk zs total k)]) := by
                show _ = _
                rw [LM.take_snoc _ _ (by rw [SM.fl_len]; exact hlt), SM.fl_get _ _ _ hlt, HV.out]
              obtain ⟨r0, r1⟩ := HRK.out k hk
              have HI := Lib.hid hI
              clear hI hI2
              generalize SM.rk zs total k = r at *
              rw [SM.min_ite'] at HS HF
              obtain ⟨mn, hmn, mn0, mn1⟩ : ∃ mn : Int, (if x < r then x else r) = mn ∧ 0 ≤ mn ∧ mn ≤ r := ⟨_, rfl, by split <;> omega, by split <;> omega⟩
              rw [hmn] at HS HF
              go_wp2_with (at_builtin; refine wpList_push _ mn w.heap.size _ _ _ rfl rfl _ rfl rfl hown ?c1 ?c2 ?_)
              case c1 => simp; omega
              case c2 => exact hB.size
              intro v' w1 ho hb1 hs1 _
              clear hown hcell
              go_wp2
              go_roundw
              case rel => exact ⟨k + 1, by omega, by go_num, by rw [HS.out], by rw [HF.out]; exact ho, hB.trans hb1⟩
              case measure => simp [intOf]; omega
            · obtain rfl : k = zs.length := by omega
              rw [List.take_of_length_le (by rw [SM.fl_len]; exact Nat.le_refl _)] at hown
              go_wp2
              go_ret3
              exact ⟨_, by rw [E1.out.2.1, E2.out]; rfl, by rw [E1.out.1]; exact hown, hB⟩

theorem Own.lower {w : World} {B B' : Nat} {v : Value} {zs : List Int} (h : Own w B v zs) (hB : B' ≤ B) : Own w B' v zs := by
  refine ⟨h.1, ?_⟩
  rcases h.2 with h | ⟨g, cp, cur, hv, hg, r⟩
  · exact .inl h
  · exact .inr ⟨g, cp, cur, hv, Nat.le_trans hB hg, r⟩

theorem range_of {l : List Int} (h : SM.allR l = true) : ∀ n ∈ l, -9223372036854775808 ≤ n ∧ n ≤ 9223372036854775807 := fun n hn => by
  have := SM.inR_true.1 (List.all_eq_true.1 h n hn); omega

theorem fl_allR {zs : List Int} {total : Int} (hr : SM.allR zs = true) (t0 : 0 ≤ total) (t1 : total ≤ 1152921504606846976) : SM.allR (SM.fl zs total) = true := by
  refine List.all_eq_true.2 fun n hn => ?_
  obtain ⟨k, hk, rfl⟩ := List.getElem_of_mem hn
  have hk' : k < zs.length := by rw [SM.fl_len] at hk; exact hk
  rw [← LM.getD_at _ _ hk, SM.fl_get _ _ _ hk']
  obtain ⟨a, b⟩ := SM.rk_range hr t0 k (by omega)
  obtain ⟨c, d⟩ := SM.allR_get hr hk'
  exact SM.inR_true.2 (by omega)

theorem fillN_range (total : Int) (zs : List Int) : ∀ n ∈ SM.fillN total zs, -9223372036854775808 ≤ n ∧ n ≤ 9223372036854775807 := by
  by_cases h : SM.rowE total zs = 0
  · obtain ⟨a, b, _⟩ := SM.rowE_ok h
    obtain ⟨t0, t1⟩ := SM.inR_true.1 a
    rw [(SM.fill_yes h).1]
    exact range_of (fl_allR b t0 t1)
  · rw [(SM.fill_no h).1]; intro n hn; simp at hn

theorem fillN_len (total : Int) (zs : List Int) : (SM.fillN total zs).length ≤ zs.length := by
  unfold SM.fillN; split
  · rw [SM.fl_len]; exact Nat.le_refl _
  · simp

set_option maxHeartbeats 1000000 in
theorem rback_any (total : Int) (A : Option Addr) (zs : List Int) (cap : Nat) (w : World) (hI : Ints w A zs) (hl : zs.length ≤ 1048576) :
    Calls Try.prog 42 #[.int .i64 total, .slice A zs.length cap] w fun e w' =>
      ∃ v, e = .returned (.tuple #[v, .int .i64 (SM.backR total zs), .int .i64 (SM.rowE total zs)]) ∧ Own w' w.heap.size v (SM.backN total zs) ∧ Below w.heap.size w w' := by
  obtain ⟨f1, f2⟩ := SM.fill_reverse total zs
  have f3 := SM.rowE_reverse total zs
  rw [← f1, ← f2, ← f3]
  have EL : zs.reverse.length ≤ 1048576 := by rw [List.length_reverse]; exact hl
  have hrg : ∀ n ∈ zs.reverse, -9223372036854775808 ≤ n ∧ n ≤ 9223372036854775807 := fun n hn => hI.2.1 n (List.mem_reverse.1 hn)
  have C := turned_any A zs cap w hI hl
  clear f1 f2 f3
  generalize zs.reverse = ys at *
  have HC := Lib.hid C
  have HRG := Lib.hid hrg
  clear C hrg
  go_enter Try.func42, Try.ntmps42
  go_wp2_with fail
  refine HC.out.mono ?_
  rintro e w1 ⟨v, rfl, ho, hb⟩
  obtain ⟨A1, c1, rfl, hI1⟩ := ho.ints HRG.out
  go_wp2_with fail
  refine (rfill_any _ _ _ _ _ hI1).mono ?_
  rintro e w2 ⟨v2, rfl, ho2, hb2⟩
  have hB2 := hb.trans (hb2.mono hb.size)
  by_cases h0 : SM.rowE total ys = 0
  · obtain ⟨A2, c2, rfl, hI2⟩ := ho2.ints (fillN_range _ _)
    have hl2 : (SM.fillN total ys).length ≤ 1048576 := by
      have := fillN_len total ys; omega
    go_wp2_with fail
    refine (turned_any _ _ _ _ hI2 hl2).mono ?_
    rintro e w3 ⟨v3, rfl, ho3, hb3⟩
    go_wp2
    go_ret3
    refine ⟨_, by rw [h0]; rfl, ho3.lower (Nat.le_trans hb.size hb2.size), hB2.trans (hb3.mono hB2.size)⟩
  · have hz : (SM.rowE total ys != 0) = true := by simpa using h0
    obtain ⟨n1, n2, _, _⟩ := SM.fill_no h0
    have N1 := Lib.hid n1
    have N2 := Lib.hid n2
    clear n1 n2 h0
    go_wp2
    go_ret3
    exact ⟨_, by rw [N2.out]; rfl, by rw [N1.out]; exact Own.nil _ _, hB2⟩
end Go.Proofs.Ytgpdkidbmfngmaa
