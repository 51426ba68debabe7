/- Put together: Bun9. -/
import Derived.Test.YtafdjiilmogcjaaBun13
import Derived.Test.YtafdjiilmogcjaaBun18
import Derived.Test.YtafdjiilmogcjaaBun14
import Derived.Test.YtafdjiilmogcjaaBun16
import Derived.Deep.RegionHeld3
import Derived.Maps.OwnOps
import Derived.Maps.RangeWalk
import Derived.DeepKeys4
import Derived.WideKeyEntry
import Derived.Test.YtafdjiilmogcjaaBun15
import Derived.WalkArith
/- Put together: SumMath2, CentsG, NovF, MapEnt, NovG0. -/
namespace CM
open LM

/-- what the reference's Sum holds after k rounds -/
def RSInv (l : List Int) (k : Nat) (high low : Int) : Prop :=
  allFit (l.take k) = true ∧ high * 1073741824 + low = tot (l.take k) ∧ -(k * 1073741824 : Int) ≤ high ∧ high ≤ k * 1073741824 ∧ -(k * 1073741824 : Int) ≤ low ∧ low ≤ k * 1073741824

theorem RSInv.start (l : List Int) : RSInv l 0 0 0 := ⟨rfl, rfl, by omega, by omega, by omega, by omega⟩
theorem RSInv.bounds {l : List Int} {k : Nat} {high low : Int} (h : RSInv l k high low) :
    -(k * 1073741824 : Int) ≤ high ∧ high ≤ k * 1073741824 ∧ -(k * 1073741824 : Int) ≤ low ∧ low ≤ k * 1073741824 := h.2.2

theorem tparts (v : Int) (h1 : -1152921504606846976 ≤ v) (h2 : v ≤ 1152921504606846976) :
    -1073741824 ≤ v.tdiv 1073741824 ∧ v.tdiv 1073741824 ≤ 1073741824 ∧ -1073741824 < v.tmod 1073741824 ∧ v.tmod 1073741824 < 1073741824 ∧ v.tdiv 1073741824 * 1073741824 + v.tmod 1073741824 = v := by
  have e := Int.mul_tdiv_add_tmod v 1073741824
  by_cases h0 : 0 ≤ v
  · have a := Int.tdiv_eq_ediv_of_nonneg (b := 1073741824) h0
    have b := Int.tmod_eq_emod_of_nonneg (b := 1073741824) h0
    rw [a, b] at *
    omega
  · have a : v.tdiv 1073741824 = -((-v) / 1073741824) := by
      rw [← Int.tdiv_eq_ediv_of_nonneg (by omega), Int.neg_tdiv]; omega
    have b : v.tmod 1073741824 = -((-v) % 1073741824) := by
      rw [← Int.tmod_eq_emod_of_nonneg (by omega), Int.neg_tmod]; omega
    rw [a, b] at *
    omega

theorem RSInv.step {l : List Int} {k : Nat} {high low : Int} (h : RSInv l k high low) (hk : k < l.length) (hf : fits (l.getD k 0) = true) :
    RSInv l (k + 1) (high + (l.getD k 0).tdiv 1073741824) (low + (l.getD k 0).tmod 1073741824) := by
  obtain ⟨a1, a2, a3, a4, a5, a6⟩ := h
  obtain ⟨f1, f2⟩ := fits_true.1 hf
  obtain ⟨t1, t2, t3, t4, t5⟩ := tparts _ f1 f2
  refine ⟨by rw [allFit_take_succ l k hk, a1, hf]; rfl, by rw [tot_take_succ l k hk, ← a2]; omega, ?_, ?_, ?_, ?_⟩ <;> (push_cast; omega)

/-- what is told at the end -/
theorem RSInv.done {l : List Int} {high low h' l' : Int} (h : RSInv l l.length high low) (hl : l.length ≤ 4294967296)
    (eh : h' = high + low.tdiv 1073741824) (el : l' = low.tmod 1073741824) :
    (h' < -1073741825 ∨ 1073741825 < h' → sumN l = 0 ∧ sumE l = 3) ∧ sumN l = fitN (h' * 1073741824 + l') ∧ sumE l = fitE (h' * 1073741824 + l') ∧
      -1073741824 < l' ∧ l' < 1073741824 ∧ -9223372036854775808 ≤ h' ∧ h' ≤ 9223372036854775807 := by
  obtain ⟨a1, a2, a3, a4, a5, a6⟩ := h
  rw [List.take_length] at a1 a2
  obtain ⟨s1, s2⟩ := sum_yes a1
  have hlow : -9223372036854775808 ≤ low ∧ low ≤ 9223372036854775807 := by omega
  have hb : -8589934592 ≤ low.tdiv 1073741824 ∧ low.tdiv 1073741824 ≤ 8589934592 ∧ -1073741824 < low.tmod 1073741824 ∧ low.tmod 1073741824 < 1073741824 ∧ low.tdiv 1073741824 * 1073741824 + low.tmod 1073741824 = low := by
    have e := Int.mul_tdiv_add_tmod low 1073741824
    by_cases h0 : 0 ≤ low
    · have a := Int.tdiv_eq_ediv_of_nonneg (b := 1073741824) h0
      have b := Int.tmod_eq_emod_of_nonneg (b := 1073741824) h0
      rw [a, b] at *
      omega
    · have a : low.tdiv 1073741824 = -((-low) / 1073741824) := by
        rw [← Int.tdiv_eq_ediv_of_nonneg (by omega), Int.neg_tdiv]; omega
      have b : low.tmod 1073741824 = -((-low) % 1073741824) := by
        rw [← Int.tmod_eq_emod_of_nonneg (by omega), Int.neg_tmod]; omega
      rw [a, b] at *
      omega
  obtain ⟨b1, b2, b3, b4, b5⟩ := hb
  have e : h' * 1073741824 + l' = tot l := by rw [← a2, eh, el]; omega
  rw [s1, s2, e]
  refine ⟨fun hc => ?_, rfl, rfl, by omega, by omega, by omega, by omega⟩
  have : fits (tot l) = false := by rw [fits_false, ← e]; omega
  simp [fitN, fitE, this]
end CM

namespace Go.Proofs.Ytafdjiilmogcjaa
open Go.RowKit

set_option maxHeartbeats 1000000 in
theorem rsum_any (A : Option Addr) (zs : List Int) (cap : Nat) (w : World) (hI : Ints w A zs) (hlen : zs.length ≤ 4294967296) :
    Calls Try.prog 54 #[.slice A zs.length cap] w fun e w' => e = .returned (.tuple #[.int .i64 (CM.sumN zs), .int .i64 (CM.sumE zs)]) ∧ w = w' := by
  go_enter Try.func54, Try.ntmps54
  go_wp2
  go_loop [4, 5, 6] (fun f p i => ∃ k : Nat, ∃ x y : Int, k ≤ zs.length ∧ i = .int .i64 k ∧ f = .int .i64 x ∧ p = .int .i64 y ∧ CM.RSInv zs k x y) (fun _ _ i => zs.length - (intOf i).toNat)
  case atStart => exact ⟨0, 0, 0, by omega, rfl, rfl, rfl, CM.RSInv.start zs⟩
  case round =>
    obtain ⟨k, x, y, hk, rfl, rfl, rfl, hS⟩ := hrel
    obtain ⟨p1, p2, f1, f2⟩ := hS.bounds
    by_cases hlt : k < zs.length
    · obtain ⟨b, off, v, rfl, hb, hcell, HV, v1, v2⟩ := hI.get hlt
      have HI := Lib.hid hI
      clear hI
      cases hf : CM.fits v
      · have HE := Lib.hid (CM.allFit_no hlt (by rw [HV.out]; exact hf))
        go_wp2_with (go_at_call 74; refine (rfits_any _ _).mono ?_; rintro e w' ⟨rfl, rfl⟩)
        go_ret2
        exact ⟨by rw [HE.out.1, HE.out.2]; rfl, rfl⟩
      · obtain ⟨g1, g2⟩ := CM.fits_true.1 hf
        obtain ⟨t1, t2, t3, t4, t5⟩ := CM.tparts v g1 g2
        clear t5
        have HS := Lib.hid (hS.step hlt (by rw [HV.out]; exact hf))
        rw [HV.out] at HS
        go_wp2_with (go_at_call 74; refine (rfits_any _ _).mono ?_; rintro e w' ⟨rfl, rfl⟩)
        go_round
        case rel => exact ⟨k + 1, _, _, by omega, by go_num, rfl, rfl, HS.out⟩
        case measure => simp [intOf]; omega
    · obtain rfl : k = zs.length := by omega
      obtain ⟨d1, d2, d3, d4, d5, d6, d7⟩ := hS.done hlen rfl rfl
      have D1 := Lib.hid d1; have D2 := Lib.hid d2; have D3 := Lib.hid d3
      clear d1 d2 d3
      by_cases c1 : x + y.tdiv 1073741824 < -1073741825
      · have HE := Lib.hid (D1.out (.inl c1))
        go_wp2
        go_ret2
        exact ⟨by rw [HE.out.1, HE.out.2]; rfl, rfl⟩
      · by_cases c2 : 1073741825 < x + y.tdiv 1073741824
        · have HE := Lib.hid (D1.out (.inr c2))
          go_wp2
          go_ret2
          exact ⟨by rw [HE.out.1, HE.out.2]; rfl, rfl⟩
        · cases hf : CM.fits ((x + y.tdiv 1073741824) * 1073741824 + y.tmod 1073741824)
          · have E1 : Hid (CM.sumN zs = 0) := by rw [D2.out]; simp [CM.fitN, hf, Hid]
            have E2 : Hid (CM.sumE zs = 3) := by rw [D3.out]; simp [CM.fitE, hf, Hid]
            go_wp2_with (go_at_call 74; refine (rfits_any _ _).mono ?_; rintro e w' ⟨rfl, rfl⟩)
            go_ret2
            exact ⟨by rw [E1.out, E2.out]; rfl, rfl⟩
          · have E1 : Hid (CM.sumN zs = (x + y.tdiv 1073741824) * 1073741824 + y.tmod 1073741824) := by rw [D2.out]; simp [CM.fitN, hf, Hid]
            have E2 : Hid (CM.sumE zs = 0) := by rw [D3.out]; simp [CM.fitE, hf, Hid]
            go_wp2_with (go_at_call 74; refine (rfits_any _ _).mono ?_; rintro e w' ⟨rfl, rfl⟩)
            go_ret2
            exact ⟨by rw [E1.out, E2.out]; rfl, rfl⟩
end Go.Proofs.Ytafdjiilmogcjaa

/- Contracts of layer 13: what legs are worth. -/
namespace Go.Proofs.Ytafdjiilmogcjaa
open Go.RowKit Go.Recs
set_option linter.unusedVariables false
set_option linter.unusedSimpArgs false
theorem own_empty (w : World) (B : Nat) (hB : B ≤ w.heap.size) : Own (w.alloc (.cells #[] 3)) B (.slice (some ⟨w.heap.size, 0, none⟩) 0 0) [] := World.ownsRow_lit w #[] 0 hB (Nat.zero_le _) (by simp)
theorem worth_range {p : QM.Prod} {l : List NM.Leg} : ∀ n ∈ NM.worth p l, -9223372036854775808 ≤ n ∧ n ≤ 9223372036854775807 := by
  intro n hn
  obtain ⟨x, hx, rfl⟩ := List.mem_map.1 hn
  unfold QM.valueN
  split
  · rename_i h
    have := (QM.value_range h).2
    omega
  · omega
theorem worth_len (p : QM.Prod) (l : List NM.Leg) : (NM.worth p l).length = l.length := by simp [NM.worth]
theorem first_now {p : QM.Prod} {l : List NM.Leg} (h : ∀ j, j < l.length → QM.valueE p (NM.lAt l j).price (NM.lAt l j).qty = 0) : NM.firstE p l = 0 := NM.first_ok h
theorem worth_succ {p : QM.Prod} {l : List NM.Leg} {k : Nat} (h : k < l.length) : NM.worth p (l.take (k + 1)) = NM.worth p (l.take k) ++ [QM.valueN p (NM.lAt l k).price (NM.lAt l k).qty] := by
  rw [NM.take_succ h, NM.worth_append, NM.lAt_get h]; rfl
theorem cost_no {l : List NM.Leg} {am an : ByteArray} {p : QM.Prod} {s : EM.Ser} (h : ¬ NM.checkE l = 0) : NM.costN l am an p s = 0 ∧ NM.costE l am an p s = NM.checkE l := by
  unfold NM.costN NM.costE; rw [if_neg h, if_neg h]; exact ⟨rfl, rfl⟩
theorem cost_bad {l : List NM.Leg} {am an : ByteArray} {p : QM.Prod} {s : EM.Ser} {r : Int} (h : NM.checkE l = 0) (h1 : NM.firstE p (l.filter (NM.mine am an s)) = r) (h2 : ¬ r = 0) : NM.costN l am an p s = 0 ∧ NM.costE l am an p s = r := by
  unfold NM.costN NM.costE; rw [if_pos h, if_pos h, h1, if_neg h2, if_neg h2]; exact ⟨rfl, rfl⟩
theorem cost_ok {l : List NM.Leg} {am an : ByteArray} {p : QM.Prod} {s : EM.Ser} (h : NM.checkE l = 0) (h1 : NM.firstE p (l.filter (NM.mine am an s)) = 0) : NM.costN l am an p s = CM.sumN (NM.worth p (l.filter (NM.mine am an s))) ∧ NM.costE l am an p s = CM.sumE (NM.worth p (l.filter (NM.mine am an s))) := by
  unfold NM.costN NM.costE; rw [if_pos h, if_pos h, if_pos h1, if_pos h1]; exact ⟨rfl, rfl⟩

set_option maxHeartbeats 8000000 in
set_option maxRecDepth 100000 in
theorem ncost_any (A : Option Addr) (l : List NM.Leg) (n cap : Nat) (hn : n = l.length) (am an : ByteArray) (p : QM.Prod) (s : EM.Ser) (w : World) (hI : Legs w A l) (hp : prodQ p) :
    Calls Try.prog 30 #[.slice A n cap, kA am an, prodA p, serA s] w fun e w' => e = .returned (.tuple #[.int .i64 (NM.costN l am an p s), .int .i64 (NM.costE l am an p s)]) ∧ Below w.heap.size w w' := by
  subst hn
  have hlen := hI.len
  have HB0 := Lib.hid (below_al (below_al (below_al (Below.refl w.heap.size w) (.cells (kC am an) 26)) (.cells #[.string p.name, .int .i64 p.cur, .int .i64 p.mult, .int .i64 p.tick, .int .i64 p.low, .int .i64 p.high, .bool p.phys] 65)) (.cells #[.string s.prod, .int .i64 s.kind, .int .i64 s.expiry, .int .i64 s.strike] 43))
  have HG0 : Hid (CB (((w.alloc (.cells (kC am an) 26)).alloc (.cells #[.string p.name, .int .i64 p.cur, .int .i64 p.mult, .int .i64 p.tick, .int .i64 p.low, .int .i64 p.high, .bool p.phys] 65)).alloc (.cells #[.string s.prod, .int .i64 s.kind, .int .i64 s.expiry, .int .i64 s.strike] 43)) w.heap.size 26 (kC am an)) := Lib.hid (((CB.new w 26 (kC am an)).alloc _).alloc _)
  have HP0 : Hid (PBox (((w.alloc (.cells (kC am an) 26)).alloc (.cells #[.string p.name, .int .i64 p.cur, .int .i64 p.mult, .int .i64 p.tick, .int .i64 p.low, .int .i64 p.high, .bool p.phys] 65)).alloc (.cells #[.string s.prod, .int .i64 s.kind, .int .i64 s.expiry, .int .i64 s.strike] 43)) (w.heap.size + 1) p) := Lib.hid (by
    have h := PBox.new (w.alloc (.cells (kC am an) 26)) p
    rw [show (w.alloc (.cells (kC am an) 26)).heap.size = w.heap.size + 1 by simp] at h
    exact h.alloc _)
  have HJ0 : Hid (SBox (((w.alloc (.cells (kC am an) 26)).alloc (.cells #[.string p.name, .int .i64 p.cur, .int .i64 p.mult, .int .i64 p.tick, .int .i64 p.low, .int .i64 p.high, .bool p.phys] 65)).alloc (.cells #[.string s.prod, .int .i64 s.kind, .int .i64 s.expiry, .int .i64 s.strike] 43)) (w.heap.size + 1 + 1) s) := Lib.hid (by
    have h := SBox.new ((w.alloc (.cells (kC am an) 26)).alloc (.cells #[.string p.name, .int .i64 p.cur, .int .i64 p.mult, .int .i64 p.tick, .int .i64 p.low, .int .i64 p.high, .bool p.phys] 65)) s
    rwa [show ((w.alloc (.cells (kC am an) 26)).alloc (.cells #[.string p.name, .int .i64 p.cur, .int .i64 p.mult, .int .i64 p.tick, .int .i64 p.low, .int .i64 p.high, .bool p.phys] 65)).heap.size = w.heap.size + 1 + 1 by simp] at h)
  have C1 := Lib.hid (ncheck_any A l l.length cap rfl _ (hI.below HB0.out))
  have HI := Lib.hid (hI.below HB0.out)
  have HQ := Lib.hid hI.2
  clear hI
  by_cases hc : NM.checkE l = 0
  · have HC := Lib.hid hc
    have hm1 := (NM.check_inv hc).1
    have C2 := Lib.hid (fun ww h => nheld_any A l l.length cap rfl am an s ww h (by omega))
    have C3 := Lib.hid (fun x q ww => qvalue_any p x q hp ww)
    have KS := Lib.hid (fun k => @worth_succ p (l.filter (NM.mine am an s)) k)
    have KF := Lib.hid (fun k => @NM.first_bad p (l.filter (NM.mine am an s)) k)
    have KO := Lib.hid (@NM.first_ok p (l.filter (NM.mine am an s)))
    have KB : Hid (∀ r, NM.firstE p (l.filter (NM.mine am an s)) = r → ¬ r = 0 → NM.costN l am an p s = 0 ∧ NM.costE l am an p s = r) := Lib.hid (fun r h1 h2 => cost_bad HC.out h1 h2)
    have KG : Hid (NM.firstE p (l.filter (NM.mine am an s)) = 0 → NM.costN l am an p s = CM.sumN (NM.worth p (l.filter (NM.mine am an s))) ∧ NM.costE l am an p s = CM.sumE (NM.worth p (l.filter (NM.mine am an s)))) := Lib.hid (fun h => cost_ok HC.out h)
    have KLN : Hid ((l.filter (NM.mine am an s)).length ≤ 2048) := Lib.hid (Nat.le_trans (List.length_filter_le _ _) hm1)
    have KT : Hid ((l.filter (NM.mine am an s)).take (l.filter (NM.mine am an s)).length = l.filter (NM.mine am an s)) := Lib.hid (by rw [List.take_length])
    have HFL := Lib.hid (fun ww B v h => @filt_legs ww B v l (NM.mine am an s) h HQ.out)
    rw [hc] at C1
    clear hc hp HQ hm1
    generalize NM.costN l am an p s = cn at *
    generalize NM.costE l am an p s = ce at *
    go_enter Try.func30, Try.ntmps30
    go_wp2_with fail
    refine C1.out.mono ?_
    rintro e w1 ⟨rfl, b1⟩
    have HB1 := Lib.hid (HB0.out.trans (b1.mono HB0.out.size))
    have HI1 := Lib.hid (HI.out.below b1)
    have HG1 := Lib.hid (HG0.out.below b1 HG0.out.lt)
    have HP1 := Lib.hid (HP0.out.below b1 HP0.out.lt)
    have HJ1 := Lib.hid (HJ0.out.below b1 HJ0.out.lt)
    have g0 : w1.cell? ⟨w.heap.size, 0, none⟩ = some (.string am) := HG1.out.cell 0
    have g1 : w1.cell? ⟨w.heap.size, 1, none⟩ = some (.string an) := HG1.out.cell 1
    obtain ⟨s0, s1, s2, s3⟩ := HJ1.out.cells
    clear b1 HG0 HP0 HJ0 C1 HB0 HI
    go_wp2_with fail
    refine (C2.out _ HI1.out).mono ?_
    rintro e w2 ⟨v, rfl, o2, b2⟩
    obtain ⟨A2, c2, rfl, hL, hc2⟩ := HFL.out _ _ _ o2
    generalize l.filter (NM.mine am an s) = fl at *
    have HB2 := Lib.hid (HB1.out.trans (b2.mono HB1.out.size))
    have HP2 := Lib.hid (HP1.out.below b2 HP1.out.lt)
    have hpl := HP2.out.lt
    have hfn := hL.len
    have HL := Lib.hid hL
    clear o2 b2 hL g0 g1 s0 s1 s2 s3 HG1 HP1 HJ1 HB1 HI1 HFL C2 hc2
    go_wp2_with fail
    go_loopw [11, 13, 14, 15, 26] (fun v _ _ _ i wr => ∃ k : Nat, k ≤ fl.length ∧ i = .int .i64 (k : Int) ∧ Hid (Own wr w2.heap.size v (NM.worth p (fl.take k))) ∧ Hid (∀ j, j < k → QM.valueE p (NM.lAt fl j).price (NM.lAt fl j).qty = 0) ∧ Hid (Below w2.heap.size w2 wr)) (fun _ _ _ _ i _ => fl.length - (intOf i).toNat)
    case atStart => exact ⟨0, by omega, rfl, Lib.hid (Own.nil _ _), Lib.hid (fun j h => by omega), Lib.hid (Below.refl _ _)⟩
    case round =>
      obtain ⟨k, hk, rfl, HO, HE, HB⟩ := hrel
      by_cases hlt : k < fl.length
      · obtain ⟨b, off, x, rfl, hb, HV, q, d0, d1, d2, d3, d4, d5, d6, d7, d8⟩ := legs_get (HL.out.below HB.out) hlt
        have HN := Lib.hid (KS.out k hlt)
        have HF := Lib.hid (KF.out k hlt HE.out)
        have HW : Hid (NM.worth p (fl.take (k + 1)) = NM.worth p (fl.take k) ++ [QM.valueN p x.price x.qty]) := Lib.hid (by rw [HN.out, HV.out])
        rw [HV.out] at HF
        have HVE : Hid (QM.valueE p (NM.lAt fl k).price (NM.lAt fl k).qty = QM.valueE p x.price x.qty) := Lib.hid (by rw [HV.out])
        have HBx := Lib.hid (HB.out.alloc HB.out.size (.cells (legC x) 47))
        have HOx := Lib.hid (HO.out.alloc (.cells (legC x) 47))
        have HPx := Lib.hid ((HP2.out.below HB.out hpl).alloc (.cells (legC x) 47))
        obtain ⟨p0, p1, p2, p3, p4, p5, p6⟩ := HPx.out.cells
        have C4 := Lib.hid (fun ww => C3.out x.price x.qty ww)
        have hwl : (NM.worth p (fl.take k)).length ≤ 2048 := by rw [worth_len, List.length_take]; have := KLN.out; omega
        generalize QM.valueN p x.price x.qty = vn at *
        by_cases hv : QM.valueE p x.price x.qty = 0
        · have HE2 : Hid (∀ j, j < k + 1 → QM.valueE p (NM.lAt fl j).price (NM.lAt fl j).qty = 0) := Lib.hid (fun j hj => by
            rcases Nat.lt_or_ge j k with g | g
            · exact HE.out j g
            · obtain rfl : j = k := by omega
              rw [HVE.out]; exact hv)
          rw [hv] at C4
          clear hv HF HVE HN HV q HE
          go_wp2_with fail
          refine (C4.out _).mono ?_
          rintro e w3 ⟨rfl, b3⟩
          have HB3 := Lib.hid (HBx.out.trans (b3.mono HBx.out.size))
          have HO3 := Lib.hid (HOx.out.below b3)
          clear b3 HO HOx HPx p0 p1 p2 p3 p4 p5 p6
          go_wp2_with (at_builtin; refine wpList_push _ vn w2.heap.size (NM.worth p (fl.take k)) _ _ rfl rfl _ rfl rfl HO3.out ?c1 HB3.out.size ?_)
          case c1 => omega
          intro v4 w4 o4 b4 _ _
          have HO4 : Hid (Own w4 w2.heap.size v4 (NM.worth p (fl.take (k + 1)))) := Lib.hid (by rw [HW.out]; exact o4)
          have HB4 := Lib.hid (HB3.out.trans b4)
          clear o4 b4 HO3
          go_wp2_with fail
          go_roundw
          case rel => exact ⟨k + 1, by omega, by go_num, HO4, HE2, HB4⟩
          case measure => simp [intOf]; omega
        · have HR := Lib.hid (KB.out _ (HF.out hv) hv)
          have hne : (QM.valueE p x.price x.qty != 0) = true := by simpa using hv
          generalize QM.valueE p x.price x.qty = ve at *
          clear hv HF HVE HN HV q HE
          go_wp2_with fail
          refine (C4.out _).mono ?_
          rintro e w3 ⟨rfl, b3⟩
          have HB3 := Lib.hid (HB2.out.trans ((HBx.out.trans (b3.mono HBx.out.size)).mono HB2.out.size))
          clear b3
          go_wp2_with fail
          go_ret2
          exact ⟨by rw [HR.out.1, HR.out.2] <;> rfl, HB3.out⟩
      · obtain rfl : k = fl.length := by omega
        have HR := Lib.hid (KG.out (KO.out HE.out))
        rw [KT.out] at HO
        obtain ⟨A3, c3, rfl, hi3⟩ := Own.ints HO.out worth_range
        have HI3 := Lib.hid hi3
        have C5 := Lib.hid (sum_any A3 (NM.worth p fl) c3 wr hi3)
        have HBF := Lib.hid (HB2.out.trans (HB.out.mono HB2.out.size))
        generalize NM.worth p fl = zs at *
        clear hi3 HO
        go_wp2_with fail
        refine C5.out.mono ?_
        rintro e w3 ⟨rfl, rfl⟩
        go_wp2_with fail
        go_ret2
        exact ⟨by rw [HR.out.1, HR.out.2] <;> rfl, HBF.out⟩
  · obtain ⟨e1, e2⟩ := cost_no (am := am) (an := an) (p := p) (s := s) hc
    rw [e1, e2]
    have hne : (NM.checkE l != 0) = true := by simpa using hc
    generalize NM.checkE l = r at *
    clear e1 e2
    go_enter Try.func30, Try.ntmps30
    go_wp2_with fail
    refine C1.out.mono ?_
    rintro e w1 ⟨rfl, b1⟩
    have HB1 := Lib.hid (HB0.out.trans (b1.mono HB0.out.size))
    clear b1
    go_wp2_with fail
    go_ret2
    exact ⟨rfl, HB1.out⟩

set_option maxHeartbeats 8000000 in
set_option maxRecDepth 100000 in
theorem rcost13_any (A : Option Addr) (l : List NM.Leg) (n cap : Nat) (hn : n = l.length) (am an : ByteArray) (p : QM.Prod) (s : EM.Ser) (w : World) (hI : Legs w A l) (hp : prodQ p) :
    Calls Try.prog 31 #[.slice A n cap, kA am an, prodA p, serA s] w fun e w' => e = .returned (.tuple #[.int .i64 (NM.costN l am an p s), .int .i64 (NM.costE l am an p s)]) ∧ Below w.heap.size w w' := by
  subst hn
  have hlen := hI.len
  have HB0 := Lib.hid (below_al (below_al (below_al (Below.refl w.heap.size w) (.cells (kC am an) 26)) (.cells #[.string p.name, .int .i64 p.cur, .int .i64 p.mult, .int .i64 p.tick, .int .i64 p.low, .int .i64 p.high, .bool p.phys] 65)) (.cells #[.string s.prod, .int .i64 s.kind, .int .i64 s.expiry, .int .i64 s.strike] 43))
  have HG0 : Hid (CB (((w.alloc (.cells (kC am an) 26)).alloc (.cells #[.string p.name, .int .i64 p.cur, .int .i64 p.mult, .int .i64 p.tick, .int .i64 p.low, .int .i64 p.high, .bool p.phys] 65)).alloc (.cells #[.string s.prod, .int .i64 s.kind, .int .i64 s.expiry, .int .i64 s.strike] 43)) w.heap.size 26 (kC am an)) := Lib.hid (((CB.new w 26 (kC am an)).alloc _).alloc _)
  have HP0 : Hid (PBox (((w.alloc (.cells (kC am an) 26)).alloc (.cells #[.string p.name, .int .i64 p.cur, .int .i64 p.mult, .int .i64 p.tick, .int .i64 p.low, .int .i64 p.high, .bool p.phys] 65)).alloc (.cells #[.string s.prod, .int .i64 s.kind, .int .i64 s.expiry, .int .i64 s.strike] 43)) (w.heap.size + 1) p) := Lib.hid (by
    have h := PBox.new (w.alloc (.cells (kC am an) 26)) p
    rw [show (w.alloc (.cells (kC am an) 26)).heap.size = w.heap.size + 1 by simp] at h
    exact h.alloc _)
  have HJ0 : Hid (SBox (((w.alloc (.cells (kC am an) 26)).alloc (.cells #[.string p.name, .int .i64 p.cur, .int .i64 p.mult, .int .i64 p.tick, .int .i64 p.low, .int .i64 p.high, .bool p.phys] 65)).alloc (.cells #[.string s.prod, .int .i64 s.kind, .int .i64 s.expiry, .int .i64 s.strike] 43)) (w.heap.size + 1 + 1) s) := Lib.hid (by
    have h := SBox.new ((w.alloc (.cells (kC am an) 26)).alloc (.cells #[.string p.name, .int .i64 p.cur, .int .i64 p.mult, .int .i64 p.tick, .int .i64 p.low, .int .i64 p.high, .bool p.phys] 65)) s
    rwa [show ((w.alloc (.cells (kC am an) 26)).alloc (.cells #[.string p.name, .int .i64 p.cur, .int .i64 p.mult, .int .i64 p.tick, .int .i64 p.low, .int .i64 p.high, .bool p.phys] 65)).heap.size = w.heap.size + 1 + 1 by simp] at h)
  have C1 := Lib.hid (rcheck13_any A l l.length cap rfl _ (hI.below HB0.out))
  have HI := Lib.hid (hI.below HB0.out)
  clear hI
  by_cases hc : NM.checkE l = 0
  · have HC := Lib.hid hc
    have hm1 := (NM.check_inv hc).1
    have C3 := Lib.hid (fun x q ww => rqvalue_any p x q hp ww)
    have KH := Lib.hid (fun k => @NM.worth_hit p (NM.mine am an s) l k); have KM := Lib.hid (fun k => @NM.worth_miss p (NM.mine am an s) l k)
    have KF := Lib.hid (fun k => @NM.first_stop p (NM.mine am an s) l k)
    have KS := Lib.hid (fun k => @NM.first_step p (NM.mine am an s) l k)
    have KB : Hid (∀ r, NM.firstE p (l.filter (NM.mine am an s)) = r → ¬ r = 0 → NM.costN l am an p s = 0 ∧ NM.costE l am an p s = r) := Lib.hid (fun r h1 h2 => cost_bad HC.out h1 h2)
    have KG : Hid (NM.firstE p ((l.take l.length).filter (NM.mine am an s)) = 0 → NM.costN l am an p s = CM.sumN (NM.worth p ((l.take l.length).filter (NM.mine am an s))) ∧ NM.costE l am an p s = CM.sumE (NM.worth p ((l.take l.length).filter (NM.mine am an s)))) := Lib.hid (by rw [List.take_length]; exact fun h => cost_ok HC.out h)
    have KL : Hid (∀ k, (NM.worth p ((l.take k).filter (NM.mine am an s))).length ≤ 2048) := Lib.hid (fun k => by
      rw [worth_len]
      refine Nat.le_trans (List.length_filter_le _ _) ?_
      rw [List.length_take]; omega)
    rw [hc] at C1
    have ga := acc_guard; have gs := ser_guard
    clear hc hp hm1
    generalize NM.costN l am an p s = cn at *
    generalize NM.costE l am an p s = ce at *
    go_enter Try.func31, Try.ntmps31
    go_wp2_with fail
    refine C1.out.mono ?_
    rintro e w1 ⟨rfl, rfl⟩
    have HOE := Lib.hid (own_empty (((w.alloc (.cells (kC am an) 26)).alloc (.cells #[.string p.name, .int .i64 p.cur, .int .i64 p.mult, .int .i64 p.tick, .int .i64 p.low, .int .i64 p.high, .bool p.phys] 65)).alloc (.cells #[.string s.prod, .int .i64 s.kind, .int .i64 s.expiry, .int .i64 s.strike] 43)) w.heap.size HB0.out.size)
    have HBE := Lib.hid (below_al HB0.out (.cells #[] 3))
    have HSZ : Hid ((((w.alloc (.cells (kC am an) 26)).alloc (.cells #[.string p.name, .int .i64 p.cur, .int .i64 p.mult, .int .i64 p.tick, .int .i64 p.low, .int .i64 p.high, .bool p.phys] 65)).alloc (.cells #[.string s.prod, .int .i64 s.kind, .int .i64 s.expiry, .int .i64 s.strike] 43)).heap.size = w.heap.size + 1 + 1 + 1) := Lib.hid (by simp)
    generalize hw0 : ((w.alloc (.cells (kC am an) 26)).alloc (.cells #[.string p.name, .int .i64 p.cur, .int .i64 p.mult, .int .i64 p.tick, .int .i64 p.low, .int .i64 p.high, .bool p.phys] 65)).alloc (.cells #[.string s.prod, .int .i64 s.kind, .int .i64 s.expiry, .int .i64 s.strike] 43) = w0 at *
    clear hw0
    go_wp2_with fail
    go_loopw [11, 12, 13, 14] (fun v i _ _ wr => ∃ k : Nat, k ≤ l.length ∧ i = .int .i64 (k : Int) ∧ Hid (Own wr w0.heap.size v (NM.worth p ((l.take k).filter (NM.mine am an s)))) ∧ Hid (NM.firstE p ((l.take k).filter (NM.mine am an s)) = 0) ∧ Hid (Below w0.heap.size w0 wr)) (fun _ i _ _ _ => l.length - (intOf i).toNat)
    case atStart => exact ⟨0, by omega, rfl, Lib.hid (own_empty w0 w0.heap.size (Nat.le_refl _)), Lib.hid rfl, Lib.hid (below_al (Below.refl _ _) _)⟩
    case round =>
      obtain ⟨k, hk, rfl, HO, HE, HB⟩ := hrel
      by_cases hlt : k < l.length
      · obtain ⟨b, off, x, rfl, hb, HV, q, d0, d1, d2, d3, d4, d5, d6, d7, d8⟩ := legs_get (HI.out.below HB.out) hlt
        have HGr := Lib.hid (HG0.out.below HB.out HG0.out.lt)
        have g0 : wr.cell? ⟨w.heap.size, 0, none⟩ = some (.string am) := HGr.out.cell 0
        have g1 : wr.cell? ⟨w.heap.size, 1, none⟩ = some (.string an) := HGr.out.cell 1
        obtain ⟨s0, s1, s2, s3⟩ := (HJ0.out.below HB.out HJ0.out.lt).cells
        have HPr := Lib.hid (HP0.out.below HB.out HP0.out.lt)
        have E1 : ∀ ww, (Op.equalIn 10000 26 (.agg #[.string x.am, .string x.an]) (.agg #[.string am, .string an])).run Try.prog ww = .ok (NM.aeq x.am x.an am an) ww := fun ww => acc_in _ _ _ _ ww
        have E2 : ∀ ww, (Op.equalIn 10000 43 (serA x.ser) (serA s)).run Try.prog ww = .ok (NM.seqB x.ser s) ww := fun ww => serB_in x.ser s ww
        have hway : (NM.aeq x.am x.an am an = false ∧ NM.mine am an s x = false) ∨ (NM.aeq x.am x.an am an = true ∧ NM.seqB x.ser s = false ∧ NM.mine am an s x = false) ∨ (NM.aeq x.am x.an am an = true ∧ NM.seqB x.ser s = true ∧ NM.mine am an s x = true) := by
          unfold NM.mine
          cases NM.aeq x.am x.an am an <;> cases NM.seqB x.ser s <;> simp
        have HM : Hid (NM.mine am an s x = false → NM.worth p ((l.take (k + 1)).filter (NM.mine am an s)) = NM.worth p ((l.take k).filter (NM.mine am an s)) ∧ NM.firstE p ((l.take (k + 1)).filter (NM.mine am an s)) = 0) := Lib.hid (fun h => ⟨KM.out k hlt (by rw [HV.out]; exact h), KS.out k hlt HE.out (by rw [HV.out, h]; intro h2; cases h2)⟩)
        have HH : Hid (NM.mine am an s x = true → NM.worth p ((l.take (k + 1)).filter (NM.mine am an s)) = NM.worth p ((l.take k).filter (NM.mine am an s)) ++ [QM.valueN p x.price x.qty]) := Lib.hid (fun h => by have := KH.out k hlt (by rw [HV.out]; exact h); rwa [HV.out] at this)
        have HS : Hid (NM.mine am an s x = true → QM.valueE p x.price x.qty = 0 → NM.firstE p ((l.take (k + 1)).filter (NM.mine am an s)) = 0) := Lib.hid (fun _ h => KS.out k hlt HE.out (fun _ => by rw [HV.out]; exact h))
        have HF : Hid (NM.mine am an s x = true → ¬ QM.valueE p x.price x.qty = 0 → NM.firstE p (l.filter (NM.mine am an s)) = QM.valueE p x.price x.qty) := Lib.hid (fun h1 h2 => by have := KF.out k hlt HE.out (by rw [HV.out]; exact h1) (by rw [HV.out]; exact h2); rwa [HV.out] at this)
        have hll := KL.out k
        generalize hmi : NM.mine am an s x = mi at hway HM HH HS HF
        generalize NM.aeq x.am x.an am an = ba at *
        generalize NM.seqB x.ser s = bs at *
        clear q HV hmi
        rcases hway with ⟨rfl, rfl⟩ | ⟨rfl, rfl, rfl⟩ | ⟨rfl, rfl, rfl⟩
        · have HX := Lib.hid (HM.out rfl)
          have HO2 := HO
          rw [← HX.out.1] at HO2
          have HE2 := Lib.hid HX.out.2
          clear HM HH HS HF HX HO HE
          go_wp2_with fail
          go_quiet (fail)
          go_wp2_with fail
          go_roundw
          case rel => exact ⟨k + 1, by omega, by go_num, HO2, HE2, Lib.hid (by first | exact HB.out | exact below_drewN HB.out _)⟩
          case measure => simp [intOf]; omega
        · have HX := Lib.hid (HM.out rfl)
          have HO2 := HO
          rw [← HX.out.1] at HO2
          have HE2 := Lib.hid HX.out.2
          clear HM HH HS HF HX HO HE
          go_wp2_with fail
          go_quiet (fail)
          go_wp2_with fail
          go_roundw
          case rel => exact ⟨k + 1, by omega, by go_num, HO2, HE2, Lib.hid (by first | exact HB.out | exact below_drewN HB.out _)⟩
          case measure => simp [intOf]; omega
        · have HW := Lib.hid (HH.out rfl)
          have HS2 := Lib.hid (HS.out rfl); have HF2 := Lib.hid (HF.out rfl)
          have C4 := Lib.hid (fun ww => C3.out x.price x.qty ww)
          have HD : Hid (∀ ww, Below wr.heap.size wr ww → ww.cell? ⟨b, off + k * 9 + 6, none⟩ = some (.int .i64 x.qty) ∧ ww.cell? ⟨b, off + k * 9 + 7, none⟩ = some (.int .i64 x.price)) := Lib.hid (fun ww h => ⟨(h.cell (p := ⟨b, off + k * 9 + 6, none⟩) hb).trans d6, (h.cell (p := ⟨b, off + k * 9 + 7, none⟩) hb).trans d7⟩)
          have HSF : Hid (∀ ww, Below wr.heap.size wr ww → ww.cell? ⟨w.heap.size + 1, 0, none⟩ = some (.string p.name) ∧ ww.cell? ⟨w.heap.size + 1, 1, none⟩ = some (.int .i64 p.cur) ∧ ww.cell? ⟨w.heap.size + 1, 2, none⟩ = some (.int .i64 p.mult) ∧ ww.cell? ⟨w.heap.size + 1, 3, none⟩ = some (.int .i64 p.tick) ∧ ww.cell? ⟨w.heap.size + 1, 4, none⟩ = some (.int .i64 p.low) ∧ ww.cell? ⟨w.heap.size + 1, 5, none⟩ = some (.int .i64 p.high) ∧ ww.cell? ⟨w.heap.size + 1, 6, none⟩ = some (.bool p.phys) ∧ ww.cell? ⟨b, off + k * 9 + 6, none⟩ = some (.int .i64 x.qty) ∧ ww.cell? ⟨b, off + k * 9 + 7, none⟩ = some (.int .i64 x.price)) := Lib.hid (fun ww h => by
            obtain ⟨p0, p1, p2, p3, p4, p5, p6⟩ := (HPr.out.below h HPr.out.lt).cells
            obtain ⟨e6, e7⟩ := HD.out ww h
            exact ⟨p0, p1, p2, p3, p4, p5, p6, e6, e7⟩)
          have HWL : Hid ((NM.worth p ((l.take k).filter (NM.mine am an s))).length ≤ 2048) := Lib.hid hll
          generalize QM.valueN p x.price x.qty = vn at *
          clear HM HH HS HF HD hll
          by_cases hv : QM.valueE p x.price x.qty = 0
          · have HE2 := Lib.hid (HS2.out hv)
            rw [hv] at C4
            clear hv HS2 HF2 HE
            go_wp2_with fail
            go_quiet (fail)
            go_wp2_with fail
            generalize hu : wr.drewN nq = u at *
            have HBw : Hid (Below wr.heap.size wr u.drew) := Lib.hid (by rw [← hu]; exact (below_drewN (Below.refl _ _) _).drew)
            clear hu
            go_region_held3 (fun ww => ww.cell? ⟨w.heap.size + 1, 0, none⟩ = some (.string p.name) ∧ ww.cell? ⟨w.heap.size + 1, 1, none⟩ = some (.int .i64 p.cur) ∧ ww.cell? ⟨w.heap.size + 1, 2, none⟩ = some (.int .i64 p.mult) ∧ ww.cell? ⟨w.heap.size + 1, 3, none⟩ = some (.int .i64 p.tick) ∧ ww.cell? ⟨w.heap.size + 1, 4, none⟩ = some (.int .i64 p.low) ∧ ww.cell? ⟨w.heap.size + 1, 5, none⟩ = some (.int .i64 p.high) ∧ ww.cell? ⟨w.heap.size + 1, 6, none⟩ = some (.bool p.phys) ∧ ww.cell? ⟨b, off + k * 9 + 6, none⟩ = some (.int .i64 x.qty) ∧ ww.cell? ⟨b, off + k * 9 + 7, none⟩ = some (.int .i64 x.price))
              (with_reducible exact HSF.out _ HBw.out)
              (first
                | (go_at_call 53; refine (C4.out _).mono ?_; rintro e w3 ⟨rfl, b3⟩; replace HBw := Lib.hid (HBw.out.trans (b3.mono HBw.out.size)); clear b3))
            all_goals (
              have HB3 := Lib.hid (HB.out.trans (HBw.out.mono HB.out.size))
              have HO3 := Lib.hid (HO.out.below HBw.out)
              clear HO HBw HSF C4 d0 d1 d2 d3 d4 d5 d6 d7 d8 g0 g1 s0 s1 s2 s3
              go_wp2_with (at_builtin; refine wpList_push _ vn w0.heap.size (NM.worth p ((l.take k).filter (NM.mine am an s))) _ _ rfl rfl _ rfl rfl HO3.out ?c1 HB3.out.size ?_)
              case c1 => have := HWL.out; omega
              intro v4 w4 o4 b4 _ _
              have HO4 : Hid (Own w4 w0.heap.size v4 (NM.worth p ((l.take (k + 1)).filter (NM.mine am an s)))) := Lib.hid (by rw [HW.out]; exact o4)
              have HB4 := Lib.hid (HB3.out.trans b4)
              clear o4 b4 HO3
              go_wp2_with fail
              go_roundw
              case rel => exact ⟨k + 1, by omega, by go_num, HO4, HE2, HB4⟩
              case measure => simp [intOf]; omega)
          · have HR := Lib.hid (KB.out _ (HF2.out hv) hv)
            have hne : (QM.valueE p x.price x.qty != 0) = true := by simpa using hv
            generalize QM.valueE p x.price x.qty = ve at *
            clear hv HS2 HF2 HE
            go_wp2_with fail
            go_quiet (fail)
            go_wp2_with fail
            generalize hu : wr.drewN nq = u at *
            have HBw : Hid (Below wr.heap.size wr u.drew) := Lib.hid (by rw [← hu]; exact (below_drewN (Below.refl _ _) _).drew)
            clear hu
            go_region_held3 (fun ww => ww.cell? ⟨w.heap.size + 1, 0, none⟩ = some (.string p.name) ∧ ww.cell? ⟨w.heap.size + 1, 1, none⟩ = some (.int .i64 p.cur) ∧ ww.cell? ⟨w.heap.size + 1, 2, none⟩ = some (.int .i64 p.mult) ∧ ww.cell? ⟨w.heap.size + 1, 3, none⟩ = some (.int .i64 p.tick) ∧ ww.cell? ⟨w.heap.size + 1, 4, none⟩ = some (.int .i64 p.low) ∧ ww.cell? ⟨w.heap.size + 1, 5, none⟩ = some (.int .i64 p.high) ∧ ww.cell? ⟨w.heap.size + 1, 6, none⟩ = some (.bool p.phys) ∧ ww.cell? ⟨b, off + k * 9 + 6, none⟩ = some (.int .i64 x.qty) ∧ ww.cell? ⟨b, off + k * 9 + 7, none⟩ = some (.int .i64 x.price))
              (with_reducible exact HSF.out _ HBw.out)
              (first
                | (go_at_call 53; refine (C4.out _).mono ?_; rintro e w3 ⟨rfl, b3⟩; replace HBw := Lib.hid (HBw.out.trans (b3.mono HBw.out.size)); clear b3))
            all_goals (
              have HB3 := Lib.hid (HB.out.trans (HBw.out.mono HB.out.size))
              have HO3 := Lib.hid (HO.out.below HBw.out)
              clear HO HBw HSF C4 d0 d1 d2 d3 d4 d5 d6 d7 d8 g0 g1 s0 s1 s2 s3
              have HBF := Lib.hid (HB0.out.trans (HB3.out.mono HB0.out.size))
              go_wp2_with fail
              go_ret2
              exact ⟨by rw [HR.out.1, HR.out.2] <;> rfl, HBF.out⟩)
      · obtain rfl : k = l.length := by omega
        have HR := Lib.hid (KG.out HE.out)
        obtain ⟨A3, c3, rfl, hi3⟩ := Own.ints HO.out worth_range
        have hll := KL.out l.length
        have C5 := Lib.hid (rsum_any A3 (NM.worth p ((l.take l.length).filter (NM.mine am an s))) c3 wr hi3 (by omega))
        have HBF := Lib.hid (HB0.out.trans (HB.out.mono HB0.out.size))
        generalize NM.worth p ((l.take l.length).filter (NM.mine am an s)) = zs at *
        clear hi3 HO
        go_wp2_with fail
        refine C5.out.mono ?_
        rintro e w3 ⟨rfl, rfl⟩
        go_wp2_with fail
        go_ret2
        exact ⟨by rw [HR.out.1, HR.out.2] <;> rfl, HBF.out⟩
  · obtain ⟨e1, e2⟩ := cost_no (am := am) (an := an) (p := p) (s := s) hc
    rw [e1, e2]
    have hne : (NM.checkE l != 0) = true := by simpa using hc
    generalize NM.checkE l = r at *
    clear e1 e2
    go_enter Try.func31, Try.ntmps31
    go_wp2_with fail
    refine C1.out.mono ?_
    rintro e w1 ⟨rfl, rfl⟩
    go_wp2_with fail
    go_ret2
    exact ⟨rfl, HB0.out⟩
end Go.Proofs.Ytafdjiilmogcjaa

/- Maps keyed by records: what 'm[k] += v' does, a look-up of a bool; over any program. -/
namespace Go.Recs
open Go.Maps Go.MapKept
open Go.ChangeMaps (setBlock heap_setBlock_same heap_setBlock_other)
open Go.WideElems (Fit)
set_option linter.unusedVariables false
section
variable {H : Type} {P : Program} {w : World} {t k e : TypeId} {q : IntKind} {b n : Nat} {D : DataW H}
/-- a look-up among entries of which one has the key -/
theorem look_hit (K : WideMaps.KeyLaw P k) (ht : P.underlying t = some (.map k e)) {es : Array MapEntry} {clock : Nat} (hb : w.heap[b]? = some (.map es clock)) (hk : ∀ x ∈ es.toList, ∃ l, keyOf P k x.key = some l)
    {key : Value} {kl : Lit} (hkey : keyOf P k key = some kl) {v : Value} (hv : ∀ x ∈ es.toList, x.key = key → x.val = v) (hx : ∃ x ∈ es.toList, x.key = key) :
    (Instr.lookup t (.map (some b)) key false).run P w = .ok v w := by
  rcases K.find w hkey es.toList hk with ⟨_, h2⟩ | ⟨j, e0, h1, h2, h3⟩
  · obtain ⟨x, hx1, hx2⟩ := hx
    exact absurd hx2 (h2 x hx1)
  · have := hv e0 (List.mem_of_getElem? h2) h3
    simp [Instr.lookup, run_underlying ht, MapKept.run_getObj_map hb, K.check w _ hkey, h1, Result.andThen, this]

theorem set_twice (w : World) (b : Nat) (o o' : Obj) : setBlock (setBlock w b o) b o' = setBlock w b o' := by simp [setBlock]

/-- 'm[k] += ..': the entry is laid or found, read before or after, and the sum stored -/
theorem ownsMap_entry (K : WideMaps.KeyLaw P k) (ht : P.underlying t = some (.map k e)) (he : P.underlying e = some (.int q)) (hz : ∀ u : World, (zeroValue e).run P u = .ok (.int q 0) u)
    (h : w.ownsMap P k (plainElem P e) b n D) (hn : n < maxLen) {key : Value} {kl : Lit} (hkey : keyOf P k key = some kl) :
    ∃ (c : Int) (st : Nat) (w1 : World), D.atKey kl (.lit (.int q 0)) = .lit (.int q c) ∧ (Lit.int q c).wf = true ∧
      (Instr.lookup t (.map (some b)) key false).run P w = .ok (.int q c) w ∧ (Instr.lookup t (.map (some b)) key false).run P w1 = .ok (.int q c) w1 ∧
      (Instr.mapEntry t (.map (some b)) key).run P w = .ok (.tuple #[.int q c, .int .i64 st]) w1 ∧ w.grownBy w1 (some b) ∧
      ∀ x : Int, (Lit.int q x).wf = true → ∃ w2, (Instr.entryStore t (.map (some b)) (.int .i64 st) (.int q x)).run P w1 = .ok () w2 ∧ w2.ownsMap P k (plainElem P e) b (n + 1) (D.put kl (.lit (.int q x))) ∧ w.grownBy w2 (some b) := by
  obtain ⟨c, hrun, hat, hwc⟩ := h.lookup_int (Keyed.of_law K) ht he (hz w) hkey
  have hup : ∀ x : Int, (Lit.int q x).wf = true → ∃ w', (Instr.mapUpdate t (.map (some b)) key (.int q x)).run P w = .ok () w' ∧ w'.ownsMap P k (plainElem P e) b (n + 1) (D.put kl (.lit (.int q x))) ∧ w.grownBy w' (some b) :=
    fun x hx => h.update (Keyed.of_law K) ht hn hkey (plainElem_int he hx)
  obtain ⟨es, clock, hb, F, hs, rfl⟩ := h
  obtain ⟨v0, st, es1, clock1, hE, hv0, hS⟩ := Go.WideElems.entry_then_store K ht hz hb F hkey
  have hb1 := heap_setBlock_same hb (.map es1 clock1)
  have hshape : v0 = .int q c ∧ (∀ x ∈ es1.toList, ∃ l, keyOf P k x.key = some l) ∧ (∀ x ∈ es1.toList, x.key = key → x.val = .int q c) ∧ ∃ x ∈ es1.toList, x.key = key := by
    rcases K.find w hkey es.toList F.keys with ⟨h1, h2⟩ | ⟨j, e0, h1, h2, h3⟩
    · have hl : (Instr.lookup t (.map (some b)) key false).run P w = .ok (.int q 0) w := by
        simp [Instr.lookup, run_underlying ht, MapKept.run_getObj_map hb, K.check w _ hkey, h1, hz, Result.andThen]
      have hc : c = 0 := by
        rw [hrun] at hl
        injection hl with e1 _
        injection e1
      subst hc
      have hE2 : (Instr.mapEntry t (.map (some b)) key).run P w = .ok (.tuple #[.int q 0, goInt clock]) (setBlock w b (.map (es.push ⟨key, .int q 0, clock⟩) (clock + 1))) := by
        simp [Instr.mapEntry, run_underlying ht, MapKept.run_getObj_map hb, K.check w false hkey, h1, hz, MapKept.run_setObj_map _ hb, Result.andThen, setBlock]
      rw [hE] at hE2
      injection hE2 with e1 e2
      have e3 : es1 = es.push ⟨key, .int q 0, clock⟩ := by
        have h4 := heap_setBlock_same hb (.map (es.push ⟨key, .int q 0, clock⟩) (clock + 1))
        rw [← e2, hb1] at h4
        injection h4 with h5
        injection h5
      have e4 : v0 = .int q 0 := by
        injection e1 with e5
        have := congrArg (fun a : Array Value => a[0]?) e5
        simpa using this
      subst e3
      refine ⟨e4, ?_, ?_, ⟨_, by simp; exact .inr rfl, rfl⟩⟩
      · intro x hx
        simp only [Array.toList_push, List.mem_append, List.mem_singleton] at hx
        rcases hx with hx | rfl
        · exact F.keys x hx
        · exact ⟨kl, hkey⟩
      · intro x hx hxk
        simp only [Array.toList_push, List.mem_append, List.mem_singleton] at hx
        rcases hx with hx | rfl
        · exact absurd hxk (h2 x hx)
        · rfl
    · have hj : es[j]? = some e0 := by simpa using h2
      have hl : (Instr.lookup t (.map (some b)) key false).run P w = .ok e0.val w := by
        simp [Instr.lookup, run_underlying ht, MapKept.run_getObj_map hb, K.check w _ hkey, h1, Result.andThen]
      have hc : e0.val = .int q c := by
        rw [hrun] at hl
        injection hl with e1 _
        exact e1.symm
      have hE2 : (Instr.mapEntry t (.map (some b)) key).run P w = .ok (.tuple #[e0.val, goInt e0.born]) (setBlock w b (.map (es.modify j fun e' => { e' with key := key }) clock)) := by
        simp [Instr.mapEntry, run_underlying ht, MapKept.run_getObj_map hb, K.check w false hkey, h1, hj, h3, K.stays w hkey, MapKept.run_setObj_map _ hb, Result.andThen, setBlock]
      rw [hE] at hE2
      injection hE2 with e1 e2
      have e3 : es1 = es.modify j fun e' => { e' with key := key } := by
        have h4 := heap_setBlock_same hb (.map (es.modify j fun e' => { e' with key := key }) clock)
        rw [← e2, hb1] at h4
        injection h4 with h5
        injection h5
      have hsame : es1 = es := by
        rw [e3]
        apply Array.ext'
        rw [Array.toList_modify]
        have : ∀ (l : List MapEntry) (i : Nat), l[i]? = some e0 → l.modify i (fun e' => { e' with key := key }) = l := by
          intro l
          induction l with
          | nil => intro i hi; simp at hi
          | cons a l ih =>
            intro i hi
            cases i with
            | zero =>
              simp at hi
              subst hi
              simp [← h3]
            | succ i => simp at hi; simp [ih i hi]
        exact this es.toList j h2
      have e4 : v0 = .int q c := by
        injection e1 with e5
        have := congrArg (fun a : Array Value => a[0]?) e5
        simp at this
        rw [this, hc]
      subst hsame
      have hm0 : e0 ∈ es1.toList := List.mem_of_getElem? h2
      refine ⟨e4, F.keys, ?_, ⟨e0, hm0, h3⟩⟩
      intro x hx hxk
      have hn := ((stamped_iff es1 clock).1 F.stamped).2.2
      have hxe : x = e0 := Go.entry_eq_of_key hn hx hm0 (hxk.trans h3.symm)
      rw [hxe, hc]
  obtain ⟨rfl, hk1, hv1, hx1⟩ := hshape
  refine ⟨c, st, setBlock w b (.map es1 clock1), hat, hwc, hrun, look_hit K ht hb1 hk1 hkey hv1 hx1, hE, ⟨rfl, rfl, rfl, by simp [setBlock], fun i _ hi => heap_setBlock_other hb _ (fun e => hi (by rw [e]))⟩, fun x hx => ?_⟩
  obtain ⟨es', clock', hst, hmu⟩ := hS (setBlock w b (.map es1 clock1)) (.int q x) hb1
  obtain ⟨w2, hu, hown, hg⟩ := hup x hx
  rw [hmu] at hu
  injection hu with _ hw2
  subst hw2
  rw [set_twice] at hst
  exact ⟨_, hst, hown, hg⟩
end
/-! what a record reads as, as a map's key -/
section
variable {P : Program} {t k : TypeId} {fs : Array Field}
theorem klits_str (h : P.underlying t = some .string) (d : Nat) (s : ByteArray) (hs : s.size ≤ maxLen) : P.keyLits (d + 1) t [.string s] = some [.string s.data.toList] := by simp [Program.keyLits, h, hs]
theorem klits_int {q : IntKind} (h : P.underlying t = some (.int q)) (d : Nat) (n : Int) (hn : (Lit.int q n).wf = true) : P.keyLits (d + 1) t [.int q n] = some [.int q n] := by simp [Program.keyLits, h, hn]
theorem klits_struct (h : P.underlying t = some (.struct fs)) (d : Nat) (cs : List Value) (hc : cs.length = P.cellsOf t ∧ fs.all (·.name != "_") = true) : P.keyLits (d + 1) t cs = (fs.toList.mapM fun f => P.keyLits d f.type ((cs.drop f.offset).take (P.cellsOf f.type))).map List.flatten := by
  conv => lhs; unfold Program.keyLits
  simp only [h]
  split
  · rfl
  · exact absurd hc (by assumption)
theorem kof_struct (h : P.underlying k = some (.struct fs)) (kt : P.keyType k = true) {xs : Array Value} (hx : xs.size = P.cellsOf k) {d : Nat} (hd : P.types.size + 1 = d) {ls : List Lit} (hl : P.keyLits d k xs.toList = some ls) :
    keyOf P k (.agg xs) = some (.string (keyBytes ls)) := by
  subst hd
  simp [keyOf, h, kt, Value.formed, hx, Value.cells, hl]
end
end Go.Recs

/- A series as a map's key. -/
namespace Go.Proofs.Ytafdjiilmogcjaa
open Go.RowKit Go.Recs Go.Maps
set_option linter.unusedVariables false
set_option linter.unusedSimpArgs false
theorem laid_ok : laidOutB Try.prog = true := by kernel_rfl
theorem ser_row_lt : (43 : TypeId) < Try.prog.types.size := of_decide_eq_true (by kernel_rfl)
theorem ser_keyTy : Try.prog.keyTypeAt 2 43 = true := by kernel_rfl
theorem ser_law : WideMaps.KeyLaw Try.prog 43 := deep_law_laid laid_ok (m := 2) (by omega) ser_row_lt ser_keyTy (by rw [Try.underlying43])
theorem ser_keyType : Try.prog.keyType 43 = true := by kernel_rfl
theorem ser_cells : 4 = Try.prog.cellsOf 43 := by kernel_rfl
theorem str_cells : Try.prog.cellsOf 9 = 1 := by kernel_rfl
theorem int_cells : Try.prog.cellsOf 3 = 1 := by kernel_rfl
theorem types_two : ∃ m, Try.prog.types.size + 1 = m + 1 + 1 := by
  have h : 0 < Try.prog.types.size := of_decide_eq_true (by kernel_rfl)
  generalize Try.prog.types.size = n at *
  exact ⟨n - 1, by omega⟩
theorem ser_key (s : EM.Ser) (h : serQ s) : ∃ kl, keyOf Try.prog 43 (serA s) = some kl := by
  obtain ⟨m, hm⟩ := types_two
  obtain ⟨h1, ⟨k1, k2⟩, ⟨e1, e2⟩, x1, x2⟩ := h
  have q0 := klits_str Try.underlying9 m s.prod h1
  have q1 := klits_int Try.underlying3 m s.kind (WalkArith.wf_i64 ⟨k1, k2⟩)
  have q2 := klits_int Try.underlying3 m s.expiry (WalkArith.wf_i64 ⟨e1, e2⟩)
  have q3 := klits_int Try.underlying3 m s.strike (WalkArith.wf_i64 ⟨x1, x2⟩)
  have c9 := str_cells
  have c3 := int_cells
  have hl := klits_struct Try.underlying43 (m + 1) [.string s.prod, .int .i64 s.kind, .int .i64 s.expiry, .int .i64 s.strike] ⟨ser_cells, by kernel_rfl⟩
  have hk := fun ls => kof_struct (ls := ls) (xs := #[.string s.prod, .int .i64 s.kind, .int .i64 s.expiry, .int .i64 s.strike]) Try.underlying43 ser_keyType ser_cells hm
  generalize Try.prog = P at *
  have e := hk [.string s.prod.data.toList, .int .i64 s.kind, .int .i64 s.expiry, .int .i64 s.strike] (by
    rw [hl]
    simp [c9, c3, q0, q1, q2, q3])
  exact ⟨_, e⟩
/-- what a series reads as -/
noncomputable def skey (s : EM.Ser) : Lit := (keyOf Try.prog 43 (serA s)).getD (.bool false)
theorem skey_is {s : EM.Ser} (h : serQ s) : keyOf Try.prog 43 (serA s) = some (skey s) := by
  obtain ⟨kl, e⟩ := ser_key s h
  unfold skey; rw [e]; rfl
set_option maxRecDepth 100000 in
theorem skey_lit {s : EM.Ser} (h : serQ s) : WideAt.IsKeyLit (skey s) := by
  obtain ⟨s', e⟩ := ser_law.str (skey_is h)
  rw [e]
  trivial
theorem serA_inj {a b : EM.Ser} (h : serA a = serA b) : a = b := by
  obtain ⟨p, x, y, z⟩ := a
  obtain ⟨p', x', y', z'⟩ := b
  simp at h
  simp [h]
theorem skey_inj {a b : EM.Ser} (ha : serQ a) (hb : serQ b) (h : skey a = skey b) : a = b := by
  have h1 := skey_is ha
  rw [h] at h1
  exact serA_inj (ser_law.inj h1 (skey_is hb))
end Go.Proofs.Ytafdjiilmogcjaa
