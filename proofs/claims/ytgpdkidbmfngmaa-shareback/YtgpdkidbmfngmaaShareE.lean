import Derived.Test.YtgpdkidbmfngmaaShareD
namespace Go.Proofs.Ytgpdkidbmfngmaa
open Go.RowKit

theorem amaxK_one (r : List Int) : SM.amaxK r 1 = 0 := by simp [SM.amaxK]

/-- one round's stores into the two rows -/
theorem rsplit_round {w wr : World} {B g1 g2 n c1 c2 i : Nat} {ps rs : List Int} (x : Int) (m : Nat)
    (h1 : Own wr B (.slice (some ⟨g1, 0, none⟩) n c1) ps) (h2 : Own wr B (.slice (some ⟨g2, 0, none⟩) n c2) rs) (hne : g1 ≠ g2) (hB : Below B w wr) :
    let W := ((wr.drewN m).setCell ⟨g1, i, none⟩ (.int .i64 x)).setCell ⟨g2, i, none⟩ (.int .i64 (-1))
    Own W B (.slice (some ⟨g1, 0, none⟩) n c1) (ps.set i x) ∧ Own W B (.slice (some ⟨g2, 0, none⟩) n c2) (rs.set i (-1)) ∧ Below B w W :=
  ⟨((h1.drewN m).set_ i x).far (p := ⟨g2, i, none⟩) hne _, ((h2.drewN m).far (p := ⟨g1, i, none⟩) hne.symm _).set_ i (-1),
    ((below_drewN hB m).setCell (p := ⟨g1, i, none⟩) h1.ge.1 _).setCell (p := ⟨g2, i, none⟩) h2.ge.1 _⟩

theorem rsplit_memory (w : World) :
    let W := (w.alloc (.cells #[] 3)).alloc (.cells #[] 3)
    Two W w.heap.size (.slice (some ⟨w.heap.size, 0, none⟩) 0 0) [] (.slice (some ⟨w.heap.size + 1, 0, none⟩) 0 0) [] ∧ Below w.heap.size w W := by
  have h2 := Own.empty (w.alloc (.cells #[] 3)) w.heap.size (by simp)
  simp only [World.size_alloc] at h2
  refine ⟨⟨(Own.empty w w.heap.size (Nat.le_refl _)).alloc _, h2, w.heap.size, w.heap.size + 1, rfl, rfl, by omega, by simp <;> omega, by simp⟩, ?_⟩
  exact ((Below.refl _ _).alloc (Nat.le_refl _) _).alloc (by simp) _

set_option maxHeartbeats 4000000 in
theorem rsplit_ok (total : Int) (A : Option Addr) (zs : List Int) (cap : Nat) (w : World) (hI : Ints w A zs) (hl : ¬ 1024 < zs.length) (hin : SM.inR total = true) (hw : SM.wOk zs = true) (h0 : LM.tot zs ≠ 0) :
    Calls Try.prog 32 #[.int .i64 total, .slice A zs.length cap] w fun e w' =>
      ∃ v, e = .returned (.tuple #[v, .int .i64 0]) ∧ Own w' w.heap.size v (SM.parts total (LM.tot zs) zs) ∧ Below w.heap.size w w' := by
  obtain ⟨hr, ht1⟩ := SM.wOk_parts hw
  have ht0 := SM.tot_nonneg hr
  have hpos : 0 < LM.tot zs := by omega
  obtain ⟨t0, t1⟩ := SM.inR_true.1 hin
  obtain ⟨w1, w2⟩ := SM.w_yes hw
  have hz : (LM.tot zs == 0) = false := by simpa using h0
  obtain ⟨f0, f1⟩ := SM.left_range total (LM.tot zs) zs rfl hpos
  obtain ⟨L, hL⟩ := Int.eq_ofNat_of_zero_le f0
  have HP := Lib.hid (SM.parts_ref hw h0 L hL)
  have HZ := Lib.hid hr
  have HQ := Lib.hid (fun k => SM.qs_take (total := total) (all := LM.tot zs) (w := zs) t0 hr hpos rfl k)
  have HEL := Lib.hid (fun (k : Nat) (hk : k < zs.length) => SM.elem_le hr hk)
  have HLL : Hid (total - LM.tot ((SM.qs total (LM.tot zs) zs).take zs.length) = (L : Int)) := by
    show _ = _
    rw [← hL]; unfold SM.leftOf; rw [List.take_of_length_le (by rw [SM.qs_len]; exact Nat.le_refl _)]
  have hL2 : L < zs.length := by omega
  clear hr hw h0 f0 f1 hL
  generalize hall : LM.tot zs = all at *
  clear hall
  go_enter Try.func32, Try.ntmps32
  go_wp2_with (first
    | (go_at_call 55; refine (money_any _ _).mono ?_; rintro e w' ⟨rfl, rfl⟩)
    | (go_at_call 56; refine (rweights_any _ _ _ _ hI).mono ?_; rintro e w' ⟨rfl, rfl⟩))
  go_loopw [8, 9, 10, 11] (fun v u l i wr => ∃ k : Nat, k ≤ zs.length ∧ i = .int .i64 k ∧ l = .int .i64 (total - LM.tot ((SM.qs total all zs).take k)) ∧
      Two wr w.heap.size v ((SM.qs total all zs).take k) u ((SM.rs total all zs).take k) ∧ Below w.heap.size w wr)
    (fun _ _ _ i _ => zs.length - (intOf i).toNat)
  case atStart =>
    obtain ⟨m1, m2⟩ := rsplit_memory w
    exact ⟨0, by omega, rfl, by simp [LM.tot], by simpa using m1, m2⟩
  case round =>
    obtain ⟨k, hk, rfl, rfl, hT, hB⟩ := hrel
    by_cases hlt : k < zs.length
    · have hI2 := hI.below hB
      obtain ⟨b, off, x, rfl, hb, hcell, HV, v1, v2⟩ := hI2.get hlt
      obtain ⟨x0, x1⟩ := SM.allR_get HZ.out hlt
      have x2 := HEL.out k hlt
      rw [HV.out] at x0 x1 x2
      obtain ⟨s0, s1⟩ := HQ.out k
      have p0 := SM.pq_nonneg t0 x0 hpos
      have p1 := SM.pq_le t0 x2 hpos
      have HS : Hid (LM.tot ((SM.qs total all zs).take (k + 1)) = LM.tot ((SM.qs total all zs).take k) + SM.pq total x all) := by
        show _ = _
        rw [LM.tot_take_succ _ _ (by rw [SM.qs_len]; exact hlt), SM.qs_get _ _ _ _ hlt, HV.out]
      have HT1 : Hid ((SM.qs total all zs).take (k + 1) = (SM.qs total all zs).take k ++ [SM.pq total x all]) := by
        show _ = _
        rw [LM.take_snoc _ _ (by rw [SM.qs_len]; exact hlt), SM.qs_get _ _ _ _ hlt, HV.out]
      have HT2 : Hid ((SM.rs total all zs).take (k + 1) = (SM.rs total all zs).take k ++ [SM.pr total x all]) := by
        show _ = _
        rw [LM.take_snoc _ _ (by rw [SM.rs_len]; exact hlt), SM.rs_get _ _ _ _ hlt, HV.out]
      have HI := Lib.hid hI
      clear hI hI2
      generalize LM.tot ((SM.qs total all zs).take k) = T at *
      go_wp2_with (first
        | (go_at_call 44; refine (rdiv_any _ _ _ _ t0 t1 x0 x2 hpos ht1).mono ?_; rintro e w' ⟨rfl, rfl⟩)
        | (at_builtin; refine wpList_push2 _ _ w.heap.size _ _ _ _ rfl rfl _ _ rfl rfl hT ?c1 ?c2 ?_))
      case c1 => simp; omega
      case c2 => exact hB.size
      intro v' w2 hT2 hB2
      have hB3 := hB.trans hB2
      clear hcell
      go_wp2_with (at_builtin; refine wpList_push2 _ _ w.heap.size _ _ _ _ rfl rfl _ _ rfl rfl hT2.swap ?c3 ?c4 ?_)
      case c3 => simp; omega
      case c4 => exact hB3.size
      intro v'' w3 hT3 hB4
      go_wp2
      go_roundw
      case rel => exact ⟨k + 1, by omega, by go_num, by rw [HS.out]; go_num, by rw [HT1.out, HT2.out]; exact hT3.swap, hB3.trans hB4⟩
      case measure => simp [intOf]; omega
    · obtain rfl : k = zs.length := by omega
      rw [HLL.out]
      have e1 : (SM.qs total all zs).take zs.length = SM.qs total all zs := List.take_of_length_le (by rw [SM.qs_len]; exact Nat.le_refl _)
      have e2 : (SM.rs total all zs).take zs.length = SM.rs total all zs := List.take_of_length_le (by rw [SM.rs_len]; exact Nat.le_refl _)
      rw [e1, e2] at hT
      obtain ⟨hO1, hO2, g, h, eg, eh, hne, _, _⟩ := hT
      obtain ⟨c1, hv1⟩ : ∃ c, u8 = .slice (some ⟨g, 0, none⟩) zs.length c := by
        rcases hO1.form with ⟨r, _⟩ | ⟨g', c, r, _⟩
        · rw [r] at eg; cases eg
        · rw [r] at eg; injection eg with eg; simp only [] at eg; subst eg; exact ⟨c, by rw [r, SM.qs_len]⟩
      obtain ⟨c2, hv2⟩ : ∃ c, u9 = .slice (some ⟨h, 0, none⟩) zs.length c := by
        rcases hO2.form with ⟨r, _⟩ | ⟨g', c, r, _⟩
        · rw [r] at eh; cases eh
        · rw [r] at eh; injection eh with eh; simp only [] at eh; subst eh; exact ⟨c, by rw [r, SM.rs_len]⟩
      subst hv1 hv2
      clear e1 e2 eg eh
      go_wp2
      go_loopw [14] (fun i wr => ∃ t : Nat, t ≤ L ∧ i = .int .i64 t ∧ Own wr w.heap.size (.slice (some ⟨g, 0, none⟩) zs.length c1) (SM.diter (-1) t (SM.qs total all zs, SM.rs total all zs)).1 ∧
          Own wr w.heap.size (.slice (some ⟨h, 0, none⟩) zs.length c2) (SM.diter (-1) t (SM.qs total all zs, SM.rs total all zs)).2 ∧ Below w.heap.size w wr)
        (fun i _ => L - (intOf i).toNat)
      case atStart => exact ⟨0, by omega, rfl, hO1, hO2, hB⟩
      case round =>
        clear hO1 hO2 hB
        obtain ⟨t, ht, rfl, hO1, hO2, hB⟩ := hrel
        by_cases hlt2 : t < L
        · have n1 : (SM.diter (-1) t (SM.qs total all zs, SM.rs total all zs)).1.length = zs.length := by rw [(SM.diter_len _ _ _).1]; exact SM.qs_len _ _ _
          have n2 : (SM.diter (-1) t (SM.qs total all zs, SM.rs total all zs)).2.length = zs.length := by rw [(SM.diter_len _ _ _).2]; exact SM.rs_len _ _ _
          have HBD := Lib.hid (fun j (hj : j < zs.length) => SM.diter_bound (-1) t (SM.qs total all zs, SM.rs total all zs) (by simp only [SM.qs_len, SM.rs_len]) j)
          have HQ0 := Lib.hid (fun j (hj : j < zs.length) => SM.qs_nonneg (total := total) (all := all) t0 HZ.out hpos j hj)
          have HQ1 : Hid (∀ j, j < zs.length → (SM.qs total all zs).getD j 0 ≤ total) := fun j hj => by rw [SM.qs_get _ _ _ _ hj]; exact SM.pq_le t0 (HEL.out j hj) hpos
          have HD : Hid (SM.diter (-1) (t + 1) (SM.qs total all zs, SM.rs total all zs) = SM.dstep (-1) (SM.diter (-1) t (SM.qs total all zs, SM.rs total all zs))) := rfl
          unfold SM.dstep SM.inc at HD
          unfold SM.amax at HD
          rw [n2] at HD
          generalize (SM.diter (-1) t (SM.qs total all zs, SM.rs total all zs)).2 = rem at *
          generalize (SM.diter (-1) t (SM.qs total all zs, SM.rs total all zs)).1 = par at *
          obtain ⟨wo, rfl⟩ : ∃ wo : World, wo = wr := ⟨_, rfl⟩
          have N1 := Lib.hid n1
          have N2 := Lib.hid n2
          clear n1 n2
          go_wp2
          go_loopw [15, 16] (fun b i wi => ∃ k : Nat, 1 ≤ k ∧ k ≤ zs.length ∧ i = .int .i64 k ∧ b = .int .i64 (SM.amaxK rem k) ∧ ∃ m, wi = wo.drewN m) (fun _ i _ => zs.length - (intOf i).toNat)
          case atStart => exact ⟨1, by omega, by omega, rfl, by rw [amaxK_one]; rfl, 0, rfl⟩
          case round =>
            obtain ⟨k, hk1, hk, rfl, rfl, m, rfl⟩ := hrel
            have hm : SM.amaxK rem k < zs.length := by have := SM.amaxK_lt rem k (by omega); omega
            by_cases hlt3 : k < zs.length
            · obtain ⟨v, hv⟩ : ∃ v, rem.getD k 0 = v := ⟨_, rfl⟩
              obtain ⟨u, hu⟩ : ∃ u, rem.getD (SM.amaxK rem k) 0 = u := ⟨_, rfl⟩
              have hc1 := hO2.cell k (by rw [N2.out]; exact hlt3)
              have hc2 := hO2.cell (SM.amaxK rem k) (by rw [N2.out]; exact hm)
              rw [hv] at hc1
              rw [hu] at hc2
              have HS : Hid (SM.amaxK rem (k + 1) = if u < v then k else SM.amaxK rem k) := by
                show SM.amaxK rem (k + 1) = _
                rw [SM.amaxK, hv, hu]
              clear hv hu
              generalize SM.amaxK rem k = j at *
              by_cases hc : u < v
              · rw [if_pos hc] at HS
                go_wp2
                go_quiet (fail)
                go_wp2
                go_roundw
                case rel => exact ⟨k + 1, by omega, by omega, by go_num, by rw [HS.out], _, rfl⟩
                case measure => simp [intOf]; omega
              · rw [if_neg hc] at HS
                go_wp2
                go_quiet (fail)
                go_wp2
                go_roundw
                case rel => exact ⟨k + 1, by omega, by omega, by go_num, by rw [HS.out], _, rfl⟩
                case measure => simp [intOf]; omega
            · obtain rfl : k = zs.length := by omega
              have hc1 := hO1.cell (SM.amaxK rem zs.length) (by rw [N1.out]; exact hm)
              have hc2 := hO2.cell (SM.amaxK rem zs.length) (by rw [N2.out]; exact hm)
              have hf1 := hO1.frozen (SM.amaxK rem zs.length)
              have hf2 := hO2.frozen (SM.amaxK rem zs.length)
              obtain ⟨b1, b2⟩ := HBD.out _ hm
              have b3 := HQ0.out _ hm
              have b4 := HQ1.out _ hm
              have HR := Lib.hid (fun x => rsplit_round (i := SM.amaxK rem zs.length) x m hO1 hO2 hne hB)
              generalize SM.amaxK rem zs.length = im at *
              generalize rem.getD im 0 = r0 at *
              generalize par.getD im 0 = p0 at *
              go_wp2
              go_roundw
              case rel =>
                obtain ⟨q1, q2, q3⟩ := HR.out (p0 + 1)
                exact ⟨t + 1, by omega, by go_num, by rw [HD.out]; exact q1, by rw [HD.out]; exact q2, q3⟩
              case measure => simp [intOf]; omega
        · obtain rfl : t = L := by omega
          go_wp2
          go_ret2
          exact ⟨_, rfl, by rw [← HP.out]; exact hO1, hB⟩

set_option maxHeartbeats 1000000 in
theorem rsplit_any (total : Int) (A : Option Addr) (zs : List Int) (cap : Nat) (w : World) (hI : Ints w A zs) :
    Calls Try.prog 32 #[.int .i64 total, .slice A zs.length cap] w fun e w' =>
      ∃ v, e = .returned (.tuple #[v, .int .i64 (SM.splE total zs)]) ∧ Own w' w.heap.size v (SM.splN total zs) ∧ Below w.heap.size w w' := by
  have hlen := hI.len
  cases h1 : SM.inR total
  · obtain ⟨e1, e2⟩ := @SM.spl_arg total zs h1
    rw [e1, e2]; clear e1 e2
    go_enter Try.func32, Try.ntmps32
    go_wp2_with (go_at_call 55; refine (money_any _ _).mono ?_; rintro e w' ⟨rfl, rfl⟩)
    go_ret2
    exact ⟨_, rfl, Own.nil _ _, Below.refl _ _⟩
  · by_cases hlong : 1024 < zs.length
    · obtain ⟨e1, e2⟩ := @SM.spl_long total zs h1 hlong
      rw [e1, e2]; clear e1 e2
      go_enter Try.func32, Try.ntmps32
      go_wp2_with (go_at_call 55; refine (money_any _ _).mono ?_; rintro e w' ⟨rfl, rfl⟩)
      go_ret2
      exact ⟨_, rfl, Own.nil _ _, Below.refl _ _⟩
    · cases hw : SM.wOk zs
      · obtain ⟨e1, e2⟩ := @SM.spl_weight total zs h1 hlong (.inl hw)
        obtain ⟨e3, e4⟩ := SM.w_no hw
        rw [e1, e2]; clear e1 e2
        go_enter Try.func32, Try.ntmps32
        go_wp2_with (first
          | (go_at_call 55; refine (money_any _ _).mono ?_; rintro e w' ⟨rfl, rfl⟩)
          | (go_at_call 56; refine (rweights_any _ _ _ _ hI).mono ?_; rintro e w' ⟨rfl, rfl⟩))
        go_ret2
        exact ⟨_, rfl, Own.nil _ _, Below.refl _ _⟩
      · by_cases h0 : LM.tot zs = 0
        · obtain ⟨e1, e2⟩ := @SM.spl_weight total zs h1 hlong (.inr h0)
          obtain ⟨e3, e4⟩ := SM.w_yes hw
          rw [h0] at e3
          rw [e1, e2]; clear e1 e2
          go_enter Try.func32, Try.ntmps32
          go_wp2_with (first
            | (go_at_call 55; refine (money_any _ _).mono ?_; rintro e w' ⟨rfl, rfl⟩)
            | (go_at_call 56; refine (rweights_any _ _ _ _ hI).mono ?_; rintro e w' ⟨rfl, rfl⟩))
          go_ret2
          exact ⟨_, rfl, Own.nil _ _, Below.refl _ _⟩
        · obtain ⟨e1, e2⟩ := @SM.spl_ok total zs h1 hlong hw h0
          rw [e1, e2]
          exact rsplit_ok total A zs cap w hI hlong h1 hw h0
end Go.Proofs.Ytgpdkidbmfngmaa
