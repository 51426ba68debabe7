/- Put together: NovF, MapEnt, KeyBase, NovG0, NovG. -/
import Derived.Test.YtafdjiilmogcjaaBun7
import Derived.Test.YtafdjiilmogcjaaBun8
import Derived.Deep.RegionHeld3
import Derived.Maps.OwnOps
import Derived.Maps.RangeWalk
import Derived.DeepKeys4
import Derived.WideKeyEntry
import Derived.Test.YtafdjiilmogcjaaBun4
import Derived.WalkArith
import Derived.Test.YtafdjiilmogcjaaBun5
import Derived.Test.YtafdjiilmogcjaaBun6
import Derived.IntWalk
/- Contracts of layer 13: what legs are worth. -/
namespace Go.Proofs.Ytafdjiilmogcjaa
open Go.RowKit Go.Recs
set_option linter.unusedVariables false
set_option linter.unusedSimpArgs false
theorem own_empty (w : World) (B : Nat) (hB : B ≤ w.heap.size) : Own (w.alloc (.cells #[] 3)) B (.slice (some ⟨w.heap.size, 0, none⟩) 0 0) [] := World.ownsRow_lit w #[] 0 hB (Nat.zero_le _) (by simp)
theorem worth_range {p : QM.Prod} {l : List NM.Leg} : ∀ n ∈ NM.worth p l, -9223372036854775808 ≤ n ∧ n ≤ 9223372036854775807 := by
  intro n hn
  obtain ⟨x, hx, rfl⟩ := List.mem_map.1 hn
  unfold QM.valueN
  split
  · rename_i h
    have := (QM.value_range h).2
    omega
  · omega
theorem worth_len (p : QM.Prod) (l : List NM.Leg) : (NM.worth p l).length = l.length := by simp [NM.worth]
theorem first_now {p : QM.Prod} {l : List NM.Leg} (h : ∀ j, j < l.length → QM.valueE p (NM.lAt l j).price (NM.lAt l j).qty = 0) : NM.firstE p l = 0 := NM.first_ok h
theorem worth_succ {p : QM.Prod} {l : List NM.Leg} {k : Nat} (h : k < l.length) : NM.worth p (l.take (k + 1)) = NM.worth p (l.take k) ++ [QM.valueN p (NM.lAt l k).price (NM.lAt l k).qty] := by
  rw [NM.take_succ h, NM.worth_append, NM.lAt_get h]; rfl
theorem cost_no {l : List NM.Leg} {am an : ByteArray} {p : QM.Prod} {s : EM.Ser} (h : ¬ NM.checkE l = 0) : NM.costN l am an p s = 0 ∧ NM.costE l am an p s = NM.checkE l := by
  unfold NM.costN NM.costE; rw [if_neg h, if_neg h]; exact ⟨rfl, rfl⟩
theorem cost_bad {l : List NM.Leg} {am an : ByteArray} {p : QM.Prod} {s : EM.Ser} {r : Int} (h : NM.checkE l = 0) (h1 : NM.firstE p (l.filter (NM.mine am an s)) = r) (h2 : ¬ r = 0) : NM.costN l am an p s = 0 ∧ NM.costE l am an p s = r := by
  unfold NM.costN NM.costE; rw [if_pos h, if_pos h, h1, if_neg h2, if_neg h2]; exact ⟨rfl, rfl⟩
theorem cost_ok {l : List NM.Leg} {am an : ByteArray} {p : QM.Prod} {s : EM.Ser} (h : NM.checkE l = 0) (h1 : NM.firstE p (l.filter (NM.mine am an s)) = 0) : NM.costN l am an p s = CM.sumN (NM.worth p (l.filter (NM.mine am an s))) ∧ NM.costE l am an p s = CM.sumE (NM.worth p (l.filter (NM.mine am an s))) := by
  unfold NM.costN NM.costE; rw [if_pos h, if_pos h, if_pos h1, if_pos h1]; exact ⟨rfl, rfl⟩

set_option maxHeartbeats 8000000 in
set_option maxRecDepth 100000 in
theorem ncost_any (A : Option Addr) (l : List NM.Leg) (n cap : Nat) (hn : n = l.length) (am an : ByteArray) (p : QM.Prod) (s : EM.Ser) (w : World) (hI : Legs w A l) (hp : prodQ p) :
    Calls Try.prog 30 #[.slice A n cap, kA am an, prodA p, serA s] w fun e w' => e = .returned (.tuple #[.int .i64 (NM.costN l am an p s), .int .i64 (NM.costE l am an p s)]) ∧ Below w.heap.size w w' := by
  subst hn
  have hlen := hI.len
  have HB0 := Lib.hid (below_al (below_al (below_al (Below.refl w.heap.size w) (.cells (kC am an) 26)) (.cells #[.string p.name, .int .i64 p.cur, .int .i64 p.mult, .int .i64 p.tick, .int .i64 p.low, .int .i64 p.high, .bool p.phys] 65)) (.cells #[.string s.prod, .int .i64 s.kind, .int .i64 s.expiry, .int .i64 s.strike] 43))
  have HG0 : Hid (CB (((w.alloc (.cells (kC am an) 26)).alloc (.cells #[.string p.name, .int .i64 p.cur, .int .i64 p.mult, .int .i64 p.tick, .int .i64 p.low, .int .i64 p.high, .bool p.phys] 65)).alloc (.cells #[.string s.prod, .int .i64 s.kind, .int .i64 s.expiry, .int .i64 s.strike] 43)) w.heap.size 26 (kC am an)) := Lib.hid (((CB.new w 26 (kC am an)).alloc _).alloc _)
  have HP0 : Hid (PBox (((w.alloc (.cells (kC am an) 26)).alloc (.cells #[.string p.name, .int .i64 p.cur, .int .i64 p.mult, .int .i64 p.tick, .int .i64 p.low, .int .i64 p.high, .bool p.phys] 65)).alloc (.cells #[.string s.prod, .int .i64 s.kind, .int .i64 s.expiry, .int .i64 s.strike] 43)) (w.heap.size + 1) p) := Lib.hid (by
    have h := PBox.new (w.alloc (.cells (kC am an) 26)) p
    rw [show (w.alloc (.cells (kC am an) 26)).heap.size = w.heap.size + 1 by simp] at h
    exact h.alloc _)
  have HJ0 : Hid (SBox (((w.alloc (.cells (kC am an) 26)).alloc (.cells #[.string p.name, .int .i64 p.cur, .int .i64 p.mult, .int .i64 p.tick, .int .i64 p.low, .int .i64 p.high, .bool p.phys] 65)).alloc (.cells #[.string s.prod, .int .i64 s.kind, .int .i64 s.expiry, .int .i64 s.strike] 43)) (w.heap.size + 1 + 1) s) := Lib.hid (by
    have h := SBox.new ((w.alloc (.cells (kC am an) 26)).alloc (.cells #[.string p.name, .int .i64 p.cur, .int .i64 p.mult, .int .i64 p.tick, .int .i64 p.low, .int .i64 p.high, .bool p.phys] 65)) s
    rwa [show ((w.alloc (.cells (kC am an) 26)).alloc (.cells #[.string p.name, .int .i64 p.cur, .int .i64 p.mult, .int .i64 p.tick, .int .i64 p.low, .int .i64 p.high, .bool p.phys] 65)).heap.size = w.heap.size + 1 + 1 by simp] at h)
  have C1 := Lib.hid (ncheck_any A l l.length cap rfl _ (hI.below HB0.out))
  have HI := Lib.hid (hI.below HB0.out)
  have HQ := Lib.hid hI.2
  clear hI
  by_cases hc : NM.checkE l = 0
  · have HC := Lib.hid hc
    have hm1 := (NM.check_inv hc).1
    have C2 := Lib.hid (fun ww h => nheld_any A l l.length cap rfl am an s ww h (by omega))
    have C3 := Lib.hid (fun x q ww => qvalue_any p x q hp ww)
    have KS := Lib.hid (fun k => @worth_succ p (l.filter (NM.mine am an s)) k)
    have KF := Lib.hid (fun k => @NM.first_bad p (l.filter (NM.mine am an s)) k)
    have KO := Lib.hid (@NM.first_ok p (l.filter (NM.mine am an s)))
    have KB : Hid (∀ r, NM.firstE p (l.filter (NM.mine am an s)) = r → ¬ r = 0 → NM.costN l am an p s = 0 ∧ NM.costE l am an p s = r) := Lib.hid (fun r h1 h2 => cost_bad HC.out h1 h2)
    have KG : Hid (NM.firstE p (l.filter (NM.mine am an s)) = 0 → NM.costN l am an p s = CM.sumN (NM.worth p (l.filter (NM.mine am an s))) ∧ NM.costE l am an p s = CM.sumE (NM.worth p (l.filter (NM.mine am an s)))) := Lib.hid (fun h => cost_ok HC.out h)
    have KLN : Hid ((l.filter (NM.mine am an s)).length ≤ 2048) := Lib.hid (Nat.le_trans (List.length_filter_le _ _) hm1)
    have KT : Hid ((l.filter (NM.mine am an s)).take (l.filter (NM.mine am an s)).length = l.filter (NM.mine am an s)) := Lib.hid (by rw [List.take_length])
    have HFL := Lib.hid (fun ww B v h => @filt_legs ww B v l (NM.mine am an s) h HQ.out)
    rw [hc] at C1
    clear hc hp HQ hm1
    generalize NM.costN l am an p s = cn at *
    generalize NM.costE l am an p s = ce at *
    go_enter Try.func30, Try.ntmps30
    go_wp2_with fail
    refine C1.out.mono ?_
    rintro e w1 ⟨rfl, b1⟩
    have HB1 := Lib.hid (HB0.out.trans (b1.mono HB0.out.size))
    have HI1 := Lib.hid (HI.out.below b1)
    have HG1 := Lib.hid (HG0.out.below b1 HG0.out.lt)
    have HP1 := Lib.hid (HP0.out.below b1 HP0.out.lt)
    have HJ1 := Lib.hid (HJ0.out.below b1 HJ0.out.lt)
    have g0 : w1.cell? ⟨w.heap.size, 0, none⟩ = some (.string am) := HG1.out.cell 0
    have g1 : w1.cell? ⟨w.heap.size, 1, none⟩ = some (.string an) := HG1.out.cell 1
    obtain ⟨s0, s1, s2, s3⟩ := HJ1.out.cells
    clear b1 HG0 HP0 HJ0 C1 HB0 HI
    go_wp2_with fail
    refine (C2.out _ HI1.out).mono ?_
    rintro e w2 ⟨v, rfl, o2, b2⟩
    obtain ⟨A2, c2, rfl, hL, hc2⟩ := HFL.out _ _ _ o2
    generalize l.filter (NM.mine am an s) = fl at *
    have HB2 := Lib.hid (HB1.out.trans (b2.mono HB1.out.size))
    have HP2 := Lib.hid (HP1.out.below b2 HP1.out.lt)
    have hpl := HP2.out.lt
    have hfn := hL.len
    have HL := Lib.hid hL
    clear o2 b2 hL g0 g1 s0 s1 s2 s3 HG1 HP1 HJ1 HB1 HI1 HFL C2 hc2
    go_wp2_with fail
    go_loopw [11, 13, 14, 15, 26] (fun v _ _ _ i wr => ∃ k : Nat, k ≤ fl.length ∧ i = .int .i64 (k : Int) ∧ Hid (Own wr w2.heap.size v (NM.worth p (fl.take k))) ∧ Hid (∀ j, j < k → QM.valueE p (NM.lAt fl j).price (NM.lAt fl j).qty = 0) ∧ Hid (Below w2.heap.size w2 wr)) (fun _ _ _ _ i _ => fl.length - (intOf i).toNat)
    case atStart => exact ⟨0, by omega, rfl, Lib.hid (Own.nil _ _), Lib.hid (fun j h => by omega), Lib.hid (Below.refl _ _)⟩
    case round =>
      obtain ⟨k, hk, rfl, HO, HE, HB⟩ := hrel
      by_cases hlt : k < fl.length
      · obtain ⟨b, off, x, rfl, hb, HV, q, d0, d1, d2, d3, d4, d5, d6, d7, d8⟩ := legs_get (HL.out.below HB.out) hlt
        have HN := Lib.hid (KS.out k hlt)
        have HF := Lib.hid (KF.out k hlt HE.out)
        have HW : Hid (NM.worth p (fl.take (k + 1)) = NM.worth p (fl.take k) ++ [QM.valueN p x.price x.qty]) := Lib.hid (by rw [HN.out, HV.out])
        rw [HV.out] at HF
        have HVE : Hid (QM.valueE p (NM.lAt fl k).price (NM.lAt fl k).qty = QM.valueE p x.price x.qty) := Lib.hid (by rw [HV.out])
        have HBx := Lib.hid (HB.out.alloc HB.out.size (.cells (legC x) 47))
        have HOx := Lib.hid (HO.out.alloc (.cells (legC x) 47))
        have HPx := Lib.hid ((HP2.out.below HB.out hpl).alloc (.cells (legC x) 47))
        obtain ⟨p0, p1, p2, p3, p4, p5, p6⟩ := HPx.out.cells
        have C4 := Lib.hid (fun ww => C3.out x.price x.qty ww)
        have hwl : (NM.worth p (fl.take k)).length ≤ 2048 := by rw [worth_len, List.length_take]; have := KLN.out; omega
        generalize QM.valueN p x.price x.qty = vn at *
        by_cases hv : QM.valueE p x.price x.qty = 0
        · have HE2 : Hid (∀ j, j < k + 1 → QM.valueE p (NM.lAt fl j).price (NM.lAt fl j).qty = 0) := Lib.hid (fun j hj => by
            rcases Nat.lt_or_ge j k with g | g
            · exact HE.out j g
            · obtain rfl : j = k := by omega
              rw [HVE.out]; exact hv)
          rw [hv] at C4
          clear hv HF HVE HN HV q HE
          go_wp2_with fail
          refine (C4.out _).mono ?_
          rintro e w3 ⟨rfl, b3⟩
          have HB3 := Lib.hid (HBx.out.trans (b3.mono HBx.out.size))
          have HO3 := Lib.hid (HOx.out.below b3)
          clear b3 HO HOx HPx p0 p1 p2 p3 p4 p5 p6
          go_wp2_with (at_builtin; refine wpList_push _ vn w2.heap.size (NM.worth p (fl.take k)) _ _ rfl rfl _ rfl rfl HO3.out ?c1 HB3.out.size ?_)
          case c1 => omega
          intro v4 w4 o4 b4 _ _
          have HO4 : Hid (Own w4 w2.heap.size v4 (NM.worth p (fl.take (k + 1)))) := Lib.hid (by rw [HW.out]; exact o4)
          have HB4 := Lib.hid (HB3.out.trans b4)
          clear o4 b4 HO3
          go_wp2_with fail
          go_roundw
          case rel => exact ⟨k + 1, by omega, by go_num, HO4, HE2, HB4⟩
          case measure => simp [intOf]; omega
        · have HR := Lib.hid (KB.out _ (HF.out hv) hv)
          have hne : (QM.valueE p x.price x.qty != 0) = true := by simpa using hv
          generalize QM.valueE p x.price x.qty = ve at *
          clear hv HF HVE HN HV q HE
          go_wp2_with fail
          refine (C4.out _).mono ?_
          rintro e w3 ⟨rfl, b3⟩
          have HB3 := Lib.hid (HB2.out.trans ((HBx.out.trans (b3.mono HBx.out.size)).mono HB2.out.size))
          clear b3
          go_wp2_with fail
          go_ret2
          exact ⟨by rw [HR.out.1, HR.out.2] <;> rfl, HB3.out⟩
      · obtain rfl : k = fl.length := by omega
        have HR := Lib.hid (KG.out (KO.out HE.out))
        rw [KT.out] at HO
        obtain ⟨A3, c3, rfl, hi3⟩ := Own.ints HO.out worth_range
        have HI3 := Lib.hid hi3
        have C5 := Lib.hid (sum_any A3 (NM.worth p fl) c3 wr hi3)
        have HBF := Lib.hid (HB2.out.trans (HB.out.mono HB2.out.size))
        generalize NM.worth p fl = zs at *
        clear hi3 HO
        go_wp2_with fail
        refine C5.out.mono ?_
        rintro e w3 ⟨rfl, rfl⟩
        go_wp2_with fail
        go_ret2
        exact ⟨by rw [HR.out.1, HR.out.2] <;> rfl, HBF.out⟩
  · obtain ⟨e1, e2⟩ := cost_no (am := am) (an := an) (p := p) (s := s) hc
    rw [e1, e2]
    have hne : (NM.checkE l != 0) = true := by simpa using hc
    generalize NM.checkE l = r at *
    clear e1 e2
    go_enter Try.func30, Try.ntmps30
    go_wp2_with fail
    refine C1.out.mono ?_
    rintro e w1 ⟨rfl, b1⟩
    have HB1 := Lib.hid (HB0.out.trans (b1.mono HB0.out.size))
    clear b1
    go_wp2_with fail
    go_ret2
    exact ⟨rfl, HB1.out⟩

set_option maxHeartbeats 8000000 in
set_option maxRecDepth 100000 in
theorem rcost13_any (A : Option Addr) (l : List NM.Leg) (n cap : Nat) (hn : n = l.length) (am an : ByteArray) (p : QM.Prod) (s : EM.Ser) (w : World) (hI : Legs w A l) (hp : prodQ p) :
    Calls Try.prog 31 #[.slice A n cap, kA am an, prodA p, serA s] w fun e w' => e = .returned (.tuple #[.int .i64 (NM.costN l am an p s), .int .i64 (NM.costE l am an p s)]) ∧ Below w.heap.size w w' := by
  subst hn
  have hlen := hI.len
  have HB0 := Lib.hid (below_al (below_al (below_al (Below.refl w.heap.size w) (.cells (kC am an) 26)) (.cells #[.string p.name, .int .i64 p.cur, .int .i64 p.mult, .int .i64 p.tick, .int .i64 p.low, .int .i64 p.high, .bool p.phys] 65)) (.cells #[.string s.prod, .int .i64 s.kind, .int .i64 s.expiry, .int .i64 s.strike] 43))
  have HG0 : Hid (CB (((w.alloc (.cells (kC am an) 26)).alloc (.cells #[.string p.name, .int .i64 p.cur, .int .i64 p.mult, .int .i64 p.tick, .int .i64 p.low, .int .i64 p.high, .bool p.phys] 65)).alloc (.cells #[.string s.prod, .int .i64 s.kind, .int .i64 s.expiry, .int .i64 s.strike] 43)) w.heap.size 26 (kC am an)) := Lib.hid (((CB.new w 26 (kC am an)).alloc _).alloc _)
  have HP0 : Hid (PBox (((w.alloc (.cells (kC am an) 26)).alloc (.cells #[.string p.name, .int .i64 p.cur, .int .i64 p.mult, .int .i64 p.tick, .int .i64 p.low, .int .i64 p.high, .bool p.phys] 65)).alloc (.cells #[.string s.prod, .int .i64 s.kind, .int .i64 s.expiry, .int .i64 s.strike] 43)) (w.heap.size + 1) p) := Lib.hid (by
    have h := PBox.new (w.alloc (.cells (kC am an) 26)) p
    rw [show (w.alloc (.cells (kC am an) 26)).heap.size = w.heap.size + 1 by simp] at h
    exact h.alloc _)
  have HJ0 : Hid (SBox (((w.alloc (.cells (kC am an) 26)).alloc (.cells #[.string p.name, .int .i64 p.cur, .int .i64 p.mult, .int .i64 p.tick, .int .i64 p.low, .int .i64 p.high, .bool p.phys] 65)).alloc (.cells #[.string s.prod, .int .i64 s.kind, .int .i64 s.expiry, .int .i64 s.strike] 43)) (w.heap.size + 1 + 1) s) := Lib.hid (by
    have h := SBox.new ((w.alloc (.cells (kC am an) 26)).alloc (.cells #[.string p.name, .int .i64 p.cur, .int .i64 p.mult, .int .i64 p.tick, .int .i64 p.low, .int .i64 p.high, .bool p.phys] 65)) s
    rwa [show ((w.alloc (.cells (kC am an) 26)).alloc (.cells #[.string p.name, .int .i64 p.cur, .int .i64 p.mult, .int .i64 p.tick, .int .i64 p.low, .int .i64 p.high, .bool p.phys] 65)).heap.size = w.heap.size + 1 + 1 by simp] at h)
  have C1 := Lib.hid (rcheck13_any A l l.length cap rfl _ (hI.below HB0.out))
  have HI := Lib.hid (hI.below HB0.out)
  clear hI
  by_cases hc : NM.checkE l = 0
  · have HC := Lib.hid hc
    have hm1 := (NM.check_inv hc).1
    have C3 := Lib.hid (fun x q ww => rqvalue_any p x q hp ww)
    have KH := Lib.hid (fun k => @NM.worth_hit p (NM.mine am an s) l k); have KM := Lib.hid (fun k => @NM.worth_miss p (NM.mine am an s) l k)
    have KF := Lib.hid (fun k => @NM.first_stop p (NM.mine am an s) l k)
    have KS := Lib.hid (fun k => @NM.first_step p (NM.mine am an s) l k)
    have KB : Hid (∀ r, NM.firstE p (l.filter (NM.mine am an s)) = r → ¬ r = 0 → NM.costN l am an p s = 0 ∧ NM.costE l am an p s = r) := Lib.hid (fun r h1 h2 => cost_bad HC.out h1 h2)
    have KG : Hid (NM.firstE p ((l.take l.length).filter (NM.mine am an s)) = 0 → NM.costN l am an p s = CM.sumN (NM.worth p ((l.take l.length).filter (NM.mine am an s))) ∧ NM.costE l am an p s = CM.sumE (NM.worth p ((l.take l.length).filter (NM.mine am an s)))) := Lib.hid (by rw [List.take_length]; exact fun h => cost_ok HC.out h)
    have KL : Hid (∀ k, (NM.worth p ((l.take k).filter (NM.mine am an s))).length ≤ 2048) := Lib.hid (fun k => by
      rw [worth_len]
      refine Nat.le_trans (List.length_filter_le _ _) ?_
      rw [List.length_take]; omega)
    rw [hc] at C1
    have ga := acc_guard; have gs := ser_guard
    clear hc hp hm1
    generalize NM.costN l am an p s = cn at *
    generalize NM.costE l am an p s = ce at *
    go_enter Try.func31, Try.ntmps31
    go_wp2_with fail
    refine C1.out.mono ?_
    rintro e w1 ⟨rfl, rfl⟩
    have HOE := Lib.hid (own_empty (((w.alloc (.cells (kC am an) 26)).alloc (.cells #[.string p.name, .int .i64 p.cur, .int .i64 p.mult, .int .i64 p.tick, .int .i64 p.low, .int .i64 p.high, .bool p.phys] 65)).alloc (.cells #[.string s.prod, .int .i64 s.kind, .int .i64 s.expiry, .int .i64 s.strike] 43)) w.heap.size HB0.out.size)
    have HBE := Lib.hid (below_al HB0.out (.cells #[] 3))
    have HSZ : Hid ((((w.alloc (.cells (kC am an) 26)).alloc (.cells #[.string p.name, .int .i64 p.cur, .int .i64 p.mult, .int .i64 p.tick, .int .i64 p.low, .int .i64 p.high, .bool p.phys] 65)).alloc (.cells #[.string s.prod, .int .i64 s.kind, .int .i64 s.expiry, .int .i64 s.strike] 43)).heap.size = w.heap.size + 1 + 1 + 1) := Lib.hid (by simp)
    generalize hw0 : ((w.alloc (.cells (kC am an) 26)).alloc (.cells #[.string p.name, .int .i64 p.cur, .int .i64 p.mult, .int .i64 p.tick, .int .i64 p.low, .int .i64 p.high, .bool p.phys] 65)).alloc (.cells #[.string s.prod, .int .i64 s.kind, .int .i64 s.expiry, .int .i64 s.strike] 43) = w0 at *
    clear hw0
    go_wp2_with fail
    go_loopw [11, 12, 13, 14] (fun v i _ _ wr => ∃ k : Nat, k ≤ l.length ∧ i = .int .i64 (k : Int) ∧ Hid (Own wr w0.heap.size v (NM.worth p ((l.take k).filter (NM.mine am an s)))) ∧ Hid (NM.firstE p ((l.take k).filter (NM.mine am an s)) = 0) ∧ Hid (Below w0.heap.size w0 wr)) (fun _ i _ _ _ => l.length - (intOf i).toNat)
    case atStart => exact ⟨0, by omega, rfl, Lib.hid (own_empty w0 w0.heap.size (Nat.le_refl _)), Lib.hid rfl, Lib.hid (below_al (Below.refl _ _) _)⟩
    case round =>
      obtain ⟨k, hk, rfl, HO, HE, HB⟩ := hrel
      by_cases hlt : k < l.length
      · obtain ⟨b, off, x, rfl, hb, HV, q, d0, d1, d2, d3, d4, d5, d6, d7, d8⟩ := legs_get (HI.out.below HB.out) hlt
        have HGr := Lib.hid (HG0.out.below HB.out HG0.out.lt)
        have g0 : wr.cell? ⟨w.heap.size, 0, none⟩ = some (.string am) := HGr.out.cell 0
        have g1 : wr.cell? ⟨w.heap.size, 1, none⟩ = some (.string an) := HGr.out.cell 1
        obtain ⟨s0, s1, s2, s3⟩ := (HJ0.out.below HB.out HJ0.out.lt).cells
        have HPr := Lib.hid (HP0.out.below HB.out HP0.out.lt)
        have E1 : ∀ ww, (Op.equalIn 10000 26 (.agg #[.string x.am, .string x.an]) (.agg #[.string am, .string an])).run Try.prog ww = .ok (NM.aeq x.am x.an am an) ww := fun ww => acc_in _ _ _ _ ww
        have E2 : ∀ ww, (Op.equalIn 10000 43 (serA x.ser) (serA s)).run Try.prog ww = .ok (NM.seqB x.ser s) ww := fun ww => serB_in x.ser s ww
        have hway : (NM.aeq x.am x.an am an = false ∧ NM.mine am an s x = false) ∨ (NM.aeq x.am x.an am an = true ∧ NM.seqB x.ser s = false ∧ NM.mine am an s x = false) ∨ (NM.aeq x.am x.an am an = true ∧ NM.seqB x.ser s = true ∧ NM.mine am an s x = true) := by
          unfold NM.mine
          cases NM.aeq x.am x.an am an <;> cases NM.seqB x.ser s <;> simp
        have HM : Hid (NM.mine am an s x = false → NM.worth p ((l.take (k + 1)).filter (NM.mine am an s)) = NM.worth p ((l.take k).filter (NM.mine am an s)) ∧ NM.firstE p ((l.take (k + 1)).filter (NM.mine am an s)) = 0) := Lib.hid (fun h => ⟨KM.out k hlt (by rw [HV.out]; exact h), KS.out k hlt HE.out (by rw [HV.out, h]; intro h2; cases h2)⟩)
        have HH : Hid (NM.mine am an s x = true → NM.worth p ((l.take (k + 1)).filter (NM.mine am an s)) = NM.worth p ((l.take k).filter (NM.mine am an s)) ++ [QM.valueN p x.price x.qty]) := Lib.hid (fun h => by have := KH.out k hlt (by rw [HV.out]; exact h); rwa [HV.out] at this)
        have HS : Hid (NM.mine am an s x = true → QM.valueE p x.price x.qty = 0 → NM.firstE p ((l.take (k + 1)).filter (NM.mine am an s)) = 0) := Lib.hid (fun _ h => KS.out k hlt HE.out (fun _ => by rw [HV.out]; exact h))
        have HF : Hid (NM.mine am an s x = true → ¬ QM.valueE p x.price x.qty = 0 → NM.firstE p (l.filter (NM.mine am an s)) = QM.valueE p x.price x.qty) := Lib.hid (fun h1 h2 => by have := KF.out k hlt HE.out (by rw [HV.out]; exact h1) (by rw [HV.out]; exact h2); rwa [HV.out] at this)
        have hll := KL.out k
        generalize hmi : NM.mine am an s x = mi at hway HM HH HS HF
        generalize NM.aeq x.am x.an am an = ba at *
        generalize NM.seqB x.ser s = bs at *
        clear q HV hmi
        rcases hway with ⟨rfl, rfl⟩ | ⟨rfl, rfl, rfl⟩ | ⟨rfl, rfl, rfl⟩
        · have HX := Lib.hid (HM.out rfl)
          have HO2 := HO
          rw [← HX.out.1] at HO2
          have HE2 := Lib.hid HX.out.2
          clear HM HH HS HF HX HO HE
          go_wp2_with fail
          go_quiet (fail)
          go_wp2_with fail
          go_roundw
          case rel => exact ⟨k + 1, by omega, by go_num, HO2, HE2, Lib.hid (by first | exact HB.out | exact below_drewN HB.out _)⟩
          case measure => simp [intOf]; omega
        · have HX := Lib.hid (HM.out rfl)
          have HO2 := HO
          rw [← HX.out.1] at HO2
          have HE2 := Lib.hid HX.out.2
          clear HM HH HS HF HX HO HE
          go_wp2_with fail
          go_quiet (fail)
          go_wp2_with fail
          go_roundw
          case rel => exact ⟨k + 1, by omega, by go_num, HO2, HE2, Lib.hid (by first | exact HB.out | exact below_drewN HB.out _)⟩
          case measure => simp [intOf]; omega
        · have HW := Lib.hid (HH.out rfl)
          have HS2 := Lib.hid (HS.out rfl); have HF2 := Lib.hid (HF.out rfl)
          have C4 := Lib.hid (fun ww => C3.out x.price x.qty ww)
          have HD : Hid (∀ ww, Below wr.heap.size wr ww → ww.cell? ⟨b, off + k * 9 + 6, none⟩ = some (.int .i64 x.qty) ∧ ww.cell? ⟨b, off + k * 9 + 7, none⟩ = some (.int .i64 x.price)) := Lib.hid (fun ww h => ⟨(h.cell (p := ⟨b, off + k * 9 + 6, none⟩) hb).trans d6, (h.cell (p := ⟨b, off + k * 9 + 7, none⟩) hb).trans d7⟩)
          have HSF : Hid (∀ ww, Below wr.heap.size wr ww → ww.cell? ⟨w.heap.size + 1, 0, none⟩ = some (.string p.name) ∧ ww.cell? ⟨w.heap.size + 1, 1, none⟩ = some (.int .i64 p.cur) ∧ ww.cell? ⟨w.heap.size + 1, 2, none⟩ = some (.int .i64 p.mult) ∧ ww.cell? ⟨w.heap.size + 1, 3, none⟩ = some (.int .i64 p.tick) ∧ ww.cell? ⟨w.heap.size + 1, 4, none⟩ = some (.int .i64 p.low) ∧ ww.cell? ⟨w.heap.size + 1, 5, none⟩ = some (.int .i64 p.high) ∧ ww.cell? ⟨w.heap.size + 1, 6, none⟩ = some (.bool p.phys) ∧ ww.cell? ⟨b, off + k * 9 + 6, none⟩ = some (.int .i64 x.qty) ∧ ww.cell? ⟨b, off + k * 9 + 7, none⟩ = some (.int .i64 x.price)) := Lib.hid (fun ww h => by
            obtain ⟨p0, p1, p2, p3, p4, p5, p6⟩ := (HPr.out.below h HPr.out.lt).cells
            obtain ⟨e6, e7⟩ := HD.out ww h
            exact ⟨p0, p1, p2, p3, p4, p5, p6, e6, e7⟩)
          have HWL : Hid ((NM.worth p ((l.take k).filter (NM.mine am an s))).length ≤ 2048) := Lib.hid hll
          generalize QM.valueN p x.price x.qty = vn at *
          clear HM HH HS HF HD hll
          by_cases hv : QM.valueE p x.price x.qty = 0
          · have HE2 := Lib.hid (HS2.out hv)
            rw [hv] at C4
            clear hv HS2 HF2 HE
            go_wp2_with fail
            go_quiet (fail)
            go_wp2_with fail
            generalize hu : wr.drewN nq = u at *
            have HBw : Hid (Below wr.heap.size wr u.drew) := Lib.hid (by rw [← hu]; exact (below_drewN (Below.refl _ _) _).drew)
            clear hu
            go_region_held3 (fun ww => ww.cell? ⟨w.heap.size + 1, 0, none⟩ = some (.string p.name) ∧ ww.cell? ⟨w.heap.size + 1, 1, none⟩ = some (.int .i64 p.cur) ∧ ww.cell? ⟨w.heap.size + 1, 2, none⟩ = some (.int .i64 p.mult) ∧ ww.cell? ⟨w.heap.size + 1, 3, none⟩ = some (.int .i64 p.tick) ∧ ww.cell? ⟨w.heap.size + 1, 4, none⟩ = some (.int .i64 p.low) ∧ ww.cell? ⟨w.heap.size + 1, 5, none⟩ = some (.int .i64 p.high) ∧ ww.cell? ⟨w.heap.size + 1, 6, none⟩ = some (.bool p.phys) ∧ ww.cell? ⟨b, off + k * 9 + 6, none⟩ = some (.int .i64 x.qty) ∧ ww.cell? ⟨b, off + k * 9 + 7, none⟩ = some (.int .i64 x.price))
              (with_reducible exact HSF.out _ HBw.out)
              (first
                | (go_at_call 53; refine (C4.out _).mono ?_; rintro e w3 ⟨rfl, b3⟩; replace HBw := Lib.hid (HBw.out.trans (b3.mono HBw.out.size)); clear b3))
            all_goals (
              have HB3 := Lib.hid (HB.out.trans (HBw.out.mono HB.out.size))
              have HO3 := Lib.hid (HO.out.below HBw.out)
              clear HO HBw HSF C4 d0 d1 d2 d3 d4 d5 d6 d7 d8 g0 g1 s0 s1 s2 s3
              go_wp2_with (at_builtin; refine wpList_push _ vn w0.heap.size (NM.worth p ((l.take k).filter (NM.mine am an s))) _ _ rfl rfl _ rfl rfl HO3.out ?c1 HB3.out.size ?_)
              case c1 => have := HWL.out; omega
              intro v4 w4 o4 b4 _ _
              have HO4 : Hid (Own w4 w0.heap.size v4 (NM.worth p ((l.take (k + 1)).filter (NM.mine am an s)))) := Lib.hid (by rw [HW.out]; exact o4)
              have HB4 := Lib.hid (HB3.out.trans b4)
              clear o4 b4 HO3
              go_wp2_with fail
              go_roundw
              case rel => exact ⟨k + 1, by omega, by go_num, HO4, HE2, HB4⟩
              case measure => simp [intOf]; omega)
          · have HR := Lib.hid (KB.out _ (HF2.out hv) hv)
            have hne : (QM.valueE p x.price x.qty != 0) = true := by simpa using hv
            generalize QM.valueE p x.price x.qty = ve at *
            clear hv HS2 HF2 HE
            go_wp2_with fail
            go_quiet (fail)
            go_wp2_with fail
            generalize hu : wr.drewN nq = u at *
            have HBw : Hid (Below wr.heap.size wr u.drew) := Lib.hid (by rw [← hu]; exact (below_drewN (Below.refl _ _) _).drew)
            clear hu
            go_region_held3 (fun ww => ww.cell? ⟨w.heap.size + 1, 0, none⟩ = some (.string p.name) ∧ ww.cell? ⟨w.heap.size + 1, 1, none⟩ = some (.int .i64 p.cur) ∧ ww.cell? ⟨w.heap.size + 1, 2, none⟩ = some (.int .i64 p.mult) ∧ ww.cell? ⟨w.heap.size + 1, 3, none⟩ = some (.int .i64 p.tick) ∧ ww.cell? ⟨w.heap.size + 1, 4, none⟩ = some (.int .i64 p.low) ∧ ww.cell? ⟨w.heap.size + 1, 5, none⟩ = some (.int .i64 p.high) ∧ ww.cell? ⟨w.heap.size + 1, 6, none⟩ = some (.bool p.phys) ∧ ww.cell? ⟨b, off + k * 9 + 6, none⟩ = some (.int .i64 x.qty) ∧ ww.cell? ⟨b, off + k * 9 + 7, none⟩ = some (.int .i64 x.price))
              (with_reducible exact HSF.out _ HBw.out)
              (first
                | (go_at_call 53; refine (C4.out _).mono ?_; rintro e w3 ⟨rfl, b3⟩; replace HBw := Lib.hid (HBw.out.trans (b3.mono HBw.out.size)); clear b3))
            all_goals (
              have HB3 := Lib.hid (HB.out.trans (HBw.out.mono HB.out.size))
              have HO3 := Lib.hid (HO.out.below HBw.out)
              clear HO HBw HSF C4 d0 d1 d2 d3 d4 d5 d6 d7 d8 g0 g1 s0 s1 s2 s3
              have HBF := Lib.hid (HB0.out.trans (HB3.out.mono HB0.out.size))
              go_wp2_with fail
              go_ret2
              exact ⟨by rw [HR.out.1, HR.out.2] <;> rfl, HBF.out⟩)
      · obtain rfl : k = l.length := by omega
        have HR := Lib.hid (KG.out HE.out)
        obtain ⟨A3, c3, rfl, hi3⟩ := Own.ints HO.out worth_range
        have hll := KL.out l.length
        have C5 := Lib.hid (rsum_any A3 (NM.worth p ((l.take l.length).filter (NM.mine am an s))) c3 wr hi3 (by omega))
        have HBF := Lib.hid (HB0.out.trans (HB.out.mono HB0.out.size))
        generalize NM.worth p ((l.take l.length).filter (NM.mine am an s)) = zs at *
        clear hi3 HO
        go_wp2_with fail
        refine C5.out.mono ?_
        rintro e w3 ⟨rfl, rfl⟩
        go_wp2_with fail
        go_ret2
        exact ⟨by rw [HR.out.1, HR.out.2] <;> rfl, HBF.out⟩
  · obtain ⟨e1, e2⟩ := cost_no (am := am) (an := an) (p := p) (s := s) hc
    rw [e1, e2]
    have hne : (NM.checkE l != 0) = true := by simpa using hc
    generalize NM.checkE l = r at *
    clear e1 e2
    go_enter Try.func31, Try.ntmps31
    go_wp2_with fail
    refine C1.out.mono ?_
    rintro e w1 ⟨rfl, rfl⟩
    go_wp2_with fail
    go_ret2
    exact ⟨rfl, HB0.out⟩
end Go.Proofs.Ytafdjiilmogcjaa

/- Maps keyed by records: what 'm[k] += v' does, a look-up of a bool; over any program. -/
namespace Go.Recs
open Go.Maps Go.MapKept
open Go.ChangeMaps (setBlock heap_setBlock_same heap_setBlock_other)
open Go.WideElems (Fit)
set_option linter.unusedVariables false
section
variable {H : Type} {P : Program} {w : World} {t k e : TypeId} {q : IntKind} {b n : Nat} {D : DataW H}
/-- a look-up among entries of which one has the key -/
theorem look_hit (K : WideMaps.KeyLaw P k) (ht : P.underlying t = some (.map k e)) {es : Array MapEntry} {clock : Nat} (hb : w.heap[b]? = some (.map es clock)) (hk : ∀ x ∈ es.toList, ∃ l, keyOf P k x.key = some l)
    {key : Value} {kl : Lit} (hkey : keyOf P k key = some kl) {v : Value} (hv : ∀ x ∈ es.toList, x.key = key → x.val = v) (hx : ∃ x ∈ es.toList, x.key = key) :
    (Instr.lookup t (.map (some b)) key false).run P w = .ok v w := by
  rcases K.find w hkey es.toList hk with ⟨_, h2⟩ | ⟨j, e0, h1, h2, h3⟩
  · obtain ⟨x, hx1, hx2⟩ := hx
    exact absurd hx2 (h2 x hx1)
  · have := hv e0 (List.mem_of_getElem? h2) h3
    simp [Instr.lookup, run_underlying ht, MapKept.run_getObj_map hb, K.check w _ hkey, h1, Result.andThen, this]

theorem set_twice (w : World) (b : Nat) (o o' : Obj) : setBlock (setBlock w b o) b o' = setBlock w b o' := by simp [setBlock]

/-- 'm[k] += ..': the entry is laid or found, read before or after, and the sum stored -/
theorem ownsMap_entry (K : WideMaps.KeyLaw P k) (ht : P.underlying t = some (.map k e)) (he : P.underlying e = some (.int q)) (hz : ∀ u : World, (zeroValue e).run P u = .ok (.int q 0) u)
    (h : w.ownsMap P k (plainElem P e) b n D) (hn : n < maxLen) {key : Value} {kl : Lit} (hkey : keyOf P k key = some kl) :
    ∃ (c : Int) (st : Nat) (w1 : World), D.atKey kl (.lit (.int q 0)) = .lit (.int q c) ∧ (Lit.int q c).wf = true ∧
      (Instr.lookup t (.map (some b)) key false).run P w = .ok (.int q c) w ∧ (Instr.lookup t (.map (some b)) key false).run P w1 = .ok (.int q c) w1 ∧
      (Instr.mapEntry t (.map (some b)) key).run P w = .ok (.tuple #[.int q c, .int .i64 st]) w1 ∧ w.grownBy w1 (some b) ∧
      ∀ x : Int, (Lit.int q x).wf = true → ∃ w2, (Instr.entryStore t (.map (some b)) (.int .i64 st) (.int q x)).run P w1 = .ok () w2 ∧ w2.ownsMap P k (plainElem P e) b (n + 1) (D.put kl (.lit (.int q x))) ∧ w.grownBy w2 (some b) := by
  obtain ⟨c, hrun, hat, hwc⟩ := h.lookup_int (Keyed.of_law K) ht he (hz w) hkey
  have hup : ∀ x : Int, (Lit.int q x).wf = true → ∃ w', (Instr.mapUpdate t (.map (some b)) key (.int q x)).run P w = .ok () w' ∧ w'.ownsMap P k (plainElem P e) b (n + 1) (D.put kl (.lit (.int q x))) ∧ w.grownBy w' (some b) :=
    fun x hx => h.update (Keyed.of_law K) ht hn hkey (plainElem_int he hx)
  obtain ⟨es, clock, hb, F, hs, rfl⟩ := h
  obtain ⟨v0, st, es1, clock1, hE, hv0, hS⟩ := Go.WideElems.entry_then_store K ht hz hb F hkey
  have hb1 := heap_setBlock_same hb (.map es1 clock1)
  have hshape : v0 = .int q c ∧ (∀ x ∈ es1.toList, ∃ l, keyOf P k x.key = some l) ∧ (∀ x ∈ es1.toList, x.key = key → x.val = .int q c) ∧ ∃ x ∈ es1.toList, x.key = key := by
    rcases K.find w hkey es.toList F.keys with ⟨h1, h2⟩ | ⟨j, e0, h1, h2, h3⟩
    · have hl : (Instr.lookup t (.map (some b)) key false).run P w = .ok (.int q 0) w := by
        simp [Instr.lookup, run_underlying ht, MapKept.run_getObj_map hb, K.check w _ hkey, h1, hz, Result.andThen]
      have hc : c = 0 := by
        rw [hrun] at hl
        injection hl with e1 _
        injection e1
      subst hc
      have hE2 : (Instr.mapEntry t (.map (some b)) key).run P w = .ok (.tuple #[.int q 0, goInt clock]) (setBlock w b (.map (es.push ⟨key, .int q 0, clock⟩) (clock + 1))) := by
        simp [Instr.mapEntry, run_underlying ht, MapKept.run_getObj_map hb, K.check w false hkey, h1, hz, MapKept.run_setObj_map _ hb, Result.andThen, setBlock]
      rw [hE] at hE2
      injection hE2 with e1 e2
      have e3 : es1 = es.push ⟨key, .int q 0, clock⟩ := by
        have h4 := heap_setBlock_same hb (.map (es.push ⟨key, .int q 0, clock⟩) (clock + 1))
        rw [← e2, hb1] at h4
        injection h4 with h5
        injection h5
      have e4 : v0 = .int q 0 := by
        injection e1 with e5
        have := congrArg (fun a : Array Value => a[0]?) e5
        simpa using this
      subst e3
      refine ⟨e4, ?_, ?_, ⟨_, by simp; exact .inr rfl, rfl⟩⟩
      · intro x hx
        simp only [Array.toList_push, List.mem_append, List.mem_singleton] at hx
        rcases hx with hx | rfl
        · exact F.keys x hx
        · exact ⟨kl, hkey⟩
      · intro x hx hxk
        simp only [Array.toList_push, List.mem_append, List.mem_singleton] at hx
        rcases hx with hx | rfl
        · exact absurd hxk (h2 x hx)
        · rfl
    · have hj : es[j]? = some e0 := by simpa using h2
      have hl : (Instr.lookup t (.map (some b)) key false).run P w = .ok e0.val w := by
        simp [Instr.lookup, run_underlying ht, MapKept.run_getObj_map hb, K.check w _ hkey, h1, Result.andThen]
      have hc : e0.val = .int q c := by
        rw [hrun] at hl
        injection hl with e1 _
        exact e1.symm
      have hE2 : (Instr.mapEntry t (.map (some b)) key).run P w = .ok (.tuple #[e0.val, goInt e0.born]) (setBlock w b (.map (es.modify j fun e' => { e' with key := key }) clock)) := by
        simp [Instr.mapEntry, run_underlying ht, MapKept.run_getObj_map hb, K.check w false hkey, h1, hj, h3, K.stays w hkey, MapKept.run_setObj_map _ hb, Result.andThen, setBlock]
      rw [hE] at hE2
      injection hE2 with e1 e2
      have e3 : es1 = es.modify j fun e' => { e' with key := key } := by
        have h4 := heap_setBlock_same hb (.map (es.modify j fun e' => { e' with key := key }) clock)
        rw [← e2, hb1] at h4
        injection h4 with h5
        injection h5
      have hsame : es1 = es := by
        rw [e3]
        apply Array.ext'
        rw [Array.toList_modify]
        have : ∀ (l : List MapEntry) (i : Nat), l[i]? = some e0 → l.modify i (fun e' => { e' with key := key }) = l := by
          intro l
          induction l with
          | nil => intro i hi; simp at hi
          | cons a l ih =>
            intro i hi
            cases i with
            | zero =>
              simp at hi
              subst hi
              simp [← h3]
            | succ i => simp at hi; simp [ih i hi]
        exact this es.toList j h2
      have e4 : v0 = .int q c := by
        injection e1 with e5
        have := congrArg (fun a : Array Value => a[0]?) e5
        simp at this
        rw [this, hc]
      subst hsame
      have hm0 : e0 ∈ es1.toList := List.mem_of_getElem? h2
      refine ⟨e4, F.keys, ?_, ⟨e0, hm0, h3⟩⟩
      intro x hx hxk
      have hn := ((stamped_iff es1 clock).1 F.stamped).2.2
      have hxe : x = e0 := Go.entry_eq_of_key hn hx hm0 (hxk.trans h3.symm)
      rw [hxe, hc]
  obtain ⟨rfl, hk1, hv1, hx1⟩ := hshape
  refine ⟨c, st, setBlock w b (.map es1 clock1), hat, hwc, hrun, look_hit K ht hb1 hk1 hkey hv1 hx1, hE, ⟨rfl, rfl, rfl, by simp [setBlock], fun i _ hi => heap_setBlock_other hb _ (fun e => hi (by rw [e]))⟩, fun x hx => ?_⟩
  obtain ⟨es', clock', hst, hmu⟩ := hS (setBlock w b (.map es1 clock1)) (.int q x) hb1
  obtain ⟨w2, hu, hown, hg⟩ := hup x hx
  rw [hmu] at hu
  injection hu with _ hw2
  subst hw2
  rw [set_twice] at hst
  exact ⟨_, hst, hown, hg⟩
end
/-! what a record reads as, as a map's key -/
section
variable {P : Program} {t k : TypeId} {fs : Array Field}
theorem klits_str (h : P.underlying t = some .string) (d : Nat) (s : ByteArray) (hs : s.size ≤ maxLen) : P.keyLits (d + 1) t [.string s] = some [.string s.data.toList] := by simp [Program.keyLits, h, hs]
theorem klits_int {q : IntKind} (h : P.underlying t = some (.int q)) (d : Nat) (n : Int) (hn : (Lit.int q n).wf = true) : P.keyLits (d + 1) t [.int q n] = some [.int q n] := by simp [Program.keyLits, h, hn]
theorem klits_struct (h : P.underlying t = some (.struct fs)) (d : Nat) (cs : List Value) (hc : cs.length = P.cellsOf t ∧ fs.all (·.name != "_") = true) : P.keyLits (d + 1) t cs = (fs.toList.mapM fun f => P.keyLits d f.type ((cs.drop f.offset).take (P.cellsOf f.type))).map List.flatten := by
  conv => lhs; unfold Program.keyLits
  simp only [h]
  split
  · rfl
  · exact absurd hc (by assumption)
theorem kof_struct (h : P.underlying k = some (.struct fs)) (kt : P.keyType k = true) {xs : Array Value} (hx : xs.size = P.cellsOf k) {d : Nat} (hd : P.types.size + 1 = d) {ls : List Lit} (hl : P.keyLits d k xs.toList = some ls) :
    keyOf P k (.agg xs) = some (.string (keyBytes ls)) := by
  subst hd
  simp [keyOf, h, kt, Value.formed, hx, Value.cells, hl]
end
end Go.Recs

/- A record as a map's key: what every such key stands on. -/
namespace Go.Proofs.Ytafdjiilmogcjaa
open Go.RowKit Go.Recs Go.Maps
set_option linter.unusedVariables false
theorem laid_ok : laidOutB Try.prog = true := by kernel_rfl
theorem str_cells : Try.prog.cellsOf 9 = 1 := by kernel_rfl
theorem int_cells : Try.prog.cellsOf 3 = 1 := by kernel_rfl
theorem types_two : ∃ m, Try.prog.types.size + 1 = m + 1 + 1 := by
  have h : 0 < Try.prog.types.size := of_decide_eq_true (by kernel_rfl)
  generalize Try.prog.types.size = n at *
  exact ⟨n - 1, by omega⟩
end Go.Proofs.Ytafdjiilmogcjaa

/- A series as a map's key. -/
namespace Go.Proofs.Ytafdjiilmogcjaa
open Go.RowKit Go.Recs Go.Maps
set_option linter.unusedVariables false
set_option linter.unusedSimpArgs false
theorem ser_row_lt : (43 : TypeId) < Try.prog.types.size := of_decide_eq_true (by kernel_rfl)
theorem ser_keyTy : Try.prog.keyTypeAt 2 43 = true := by kernel_rfl
theorem ser_law : WideMaps.KeyLaw Try.prog 43 := deep_law_laid laid_ok (m := 2) (by omega) ser_row_lt ser_keyTy (by rw [Try.underlying43])
theorem ser_keyType : Try.prog.keyType 43 = true := by kernel_rfl
theorem ser_cells : 4 = Try.prog.cellsOf 43 := by kernel_rfl
theorem ser_key (s : EM.Ser) (h : serQ s) : ∃ kl, keyOf Try.prog 43 (serA s) = some kl := by
  obtain ⟨m, hm⟩ := types_two
  obtain ⟨h1, ⟨k1, k2⟩, ⟨e1, e2⟩, x1, x2⟩ := h
  have q0 := klits_str Try.underlying9 m s.prod h1
  have q1 := klits_int Try.underlying3 m s.kind (WalkArith.wf_i64 ⟨k1, k2⟩)
  have q2 := klits_int Try.underlying3 m s.expiry (WalkArith.wf_i64 ⟨e1, e2⟩)
  have q3 := klits_int Try.underlying3 m s.strike (WalkArith.wf_i64 ⟨x1, x2⟩)
  have c9 := str_cells
  have c3 := int_cells
  have hl := klits_struct Try.underlying43 (m + 1) [.string s.prod, .int .i64 s.kind, .int .i64 s.expiry, .int .i64 s.strike] ⟨ser_cells, by kernel_rfl⟩
  have hk := fun ls => kof_struct (ls := ls) (xs := #[.string s.prod, .int .i64 s.kind, .int .i64 s.expiry, .int .i64 s.strike]) Try.underlying43 ser_keyType ser_cells hm
  generalize Try.prog = P at *
  have e := hk [.string s.prod.data.toList, .int .i64 s.kind, .int .i64 s.expiry, .int .i64 s.strike] (by
    rw [hl]
    simp [c9, c3, q0, q1, q2, q3])
  exact ⟨_, e⟩
/-- what a series reads as -/
noncomputable def skey (s : EM.Ser) : Lit := (keyOf Try.prog 43 (serA s)).getD (.bool false)
theorem skey_is {s : EM.Ser} (h : serQ s) : keyOf Try.prog 43 (serA s) = some (skey s) := by
  obtain ⟨kl, e⟩ := ser_key s h
  unfold skey; rw [e]; rfl
set_option maxRecDepth 100000 in
theorem skey_lit {s : EM.Ser} (h : serQ s) : WideAt.IsKeyLit (skey s) := by
  obtain ⟨s', e⟩ := ser_law.str (skey_is h)
  rw [e]
  trivial
theorem serA_inj {a b : EM.Ser} (h : serA a = serA b) : a = b := by
  obtain ⟨p, x, y, z⟩ := a
  obtain ⟨p', x', y', z'⟩ := b
  simp at h
  simp [h]
theorem skey_inj {a b : EM.Ser} (ha : serQ a) (hb : serQ b) (h : skey a = skey b) : a = b := by
  have h1 := skey_is ha
  rw [h] at h1
  exact serA_inj (ser_law.inj h1 (skey_is hb))
end Go.Proofs.Ytafdjiilmogcjaa

/- Contracts of layer 13: is the house flat? The program's, by a map. -/
namespace Go.Proofs.Ytafdjiilmogcjaa
open Go.RowKit Go.Recs Go.Maps
set_option linter.unusedVariables false
set_option linter.unusedSimpArgs false
abbrev iL (n : Int) : DataW Unit := .lit (.int .i64 n)
/-- what the map holds behind k legs -/
structure Held (l : List NM.Leg) (k : Nat) (D : DataW Unit) : Prop where
  at_ : ∀ s, serQ s → D.atKey (skey s) (iL 0) = iL (NM.fsum (NM.ofS s) l k)
  has_ : ∀ j, j < k → j < l.length → has D (skey (NM.lAt l j).ser) = true
  only : ∀ kl, has D kl = true → ∃ j, j < k ∧ j < l.length ∧ kl = skey (NM.lAt l j).ser
theorem Held.start (l : List NM.Leg) : Held l 0 (.map []) := ⟨fun s _ => by rw [NM.fsum_zero]; rfl, fun j h => by omega, fun kl h => by cases h⟩
theorem ofS_self (x : NM.Leg) : NM.ofS x.ser x = true := NM.seqB_iff.2 rfl
theorem ofS_other {s : EM.Ser} {x : NM.Leg} (h : s ≠ x.ser) : NM.ofS s x = false := by
  cases e : NM.ofS s x
  · rfl
  · exact absurd (NM.seqB_iff.1 e).symm h
set_option maxRecDepth 100000 in
theorem Held.step {l : List NM.Leg} {k : Nat} {D : DataW Unit} (h : Held l k D) (hD : IsMap D) (hk : k < l.length) (hq : serQ (NM.lAt l k).ser) :
    Held l (k + 1) (D.put (skey (NM.lAt l k).ser) (iL (NM.fsum (NM.ofS (NM.lAt l k).ser) l k + (NM.lAt l k).qty))) := by
  have hK := @skey_lit (NM.lAt l k).ser hq
  refine ⟨fun s hs => ?_, fun j hj hl => ?_, fun kl hkl => ?_⟩
  · by_cases e : s = (NM.lAt l k).ser
    · subst e
      rw [atKey_put_same hD hK, NM.fsum_hit hk (ofS_self _)]
    · rw [atKey_put_other (fun e2 => e (skey_inj hs hq e2)), h.at_ s hs, NM.fsum_miss hk (ofS_other e)]
  · by_cases e : skey (NM.lAt l j).ser = skey (NM.lAt l k).ser
    · rw [e]; exact has_put_same hD hK _
    · rw [has_put_other e]
      refine h.has_ j ?_ hl
      rcases Nat.lt_or_ge j k with g | g
      · exact g
      · obtain rfl : j = k := by omega
        exact absurd rfl e
  · by_cases e : kl = skey (NM.lAt l k).ser
    · exact ⟨k, by omega, hk, e⟩
    · rw [has_put_other e] at hkl
      obtain ⟨j, h1, h2, h3⟩ := h.only kl hkl
      exact ⟨j, by omega, h2, h3⟩
theorem owns_isMap {P : Program} {w : World} {k : TypeId} {R : Value → Option (DataW Unit × List MemPlace)} {b n : Nat} {D : DataW Unit} (h : w.ownsMap P k R b n D) : IsMap D := by
  obtain ⟨es, clock, _, _, _, rfl⟩ := h
  exact ⟨_, rfl⟩
theorem int_zero (u : World) : (zeroValue 3).run Try.prog u = .ok (.int .i64 0) u := by kernel_rfl
theorem map_under : Try.prog.underlying 97 = some (.map 43 3) := Try.underlying97

set_option maxHeartbeats 8000000 in
set_option maxRecDepth 100000 in
theorem nflat_any (A : Option Addr) (l : List NM.Leg) (n cap : Nat) (hn : n = l.length) (w : World) (hI : Legs w A l) :
    Calls Try.prog 28 #[.slice A n cap] w fun e w' => e = .returned (.bool (NM.flatB l)) ∧ Below w.heap.size w w' := by
  subst hn
  have hlen := hI.len
  have C1 := Lib.hid (ncheck_any A l l.length cap rfl w hI)
  have HI := Lib.hid hI
  clear hI
  by_cases hc : NM.checkE l = 0
  · have HQ : Hid (∀ k, k < l.length → serQ (NM.lAt l k).ser) := Lib.hid (fun k hk => by rw [NM.lAt_get hk]; exact (HI.out.2 _ (List.getElem_mem hk)).2.2.1)
    have KB := Lib.hid (fun s k => NM.fsum_bound (p := NM.ofS s) hc k)
    have hmx := (NM.check_inv hc).1
    have KQ := Lib.hid (fun k (hk : k < l.length) => NM.qty_bound hc hk)
    have KBAD : Hid (∀ j, j < l.length → ¬ NM.fsum (NM.ofS (NM.lAt l j).ser) l l.length = 0 → NM.flatB l = false) := Lib.hid (fun j hj h => NM.flat_bad hj (by rw [NM.house_ok hc, ← NM.fsum_end]; omega))
    have KYES : Hid ((∀ j, j < l.length → NM.fsum (NM.ofS (NM.lAt l j).ser) l l.length = 0) → NM.flatB l = true) := Lib.hid (fun h => NM.flat_yes hc fun j hj => by rw [NM.house_ok hc, ← NM.fsum_end, h j hj]; rfl)
    rw [hc] at C1
    generalize NM.flatB l = r at *
    have hmm := @run_makeMap Try.prog
    clear hc
    go_enter Try.func28, Try.ntmps28
    go_wp2_with fail
    refine C1.out.mono ?_
    rintro e w1 ⟨rfl, b1⟩
    have HB1 := Lib.hid b1
    have HI1 := Lib.hid (HI.out.below b1)
    have HOM : Hid ((w1.alloc (.map #[] 0)).ownsMap Try.prog 43 (plainElem (H := Unit) Try.prog 3) w1.heap.size 0 (.map [])) := Lib.hid (World.ownsMap_made _ _ _ _)
    clear b1 HI C1
    go_wp2_with fail
    go_loopw [5, 14] (fun _ i wr => ∃ (k : Nat) (D : DataW Unit), k ≤ l.length ∧ i = .int .i64 (k : Int) ∧ Hid (wr.ownsMap Try.prog 43 (plainElem Try.prog 3) w1.heap.size k D) ∧ Hid (Held l k D) ∧ Hid (Below w1.heap.size w1 wr)) (fun _ i _ => l.length - (intOf i).toNat)
    case atStart => exact ⟨0, .map [], by omega, rfl, HOM, Lib.hid (Held.start l), Lib.hid (below_al (Below.refl _ _) _)⟩
    case round =>
      obtain ⟨k, D, hk, rfl, HM, HH, HB⟩ := hrel
      by_cases hlt : k < l.length
      · obtain ⟨b, off, x, rfl, hb, HV, q, d0, d1, d2, d3, d4, d5, d6, d7, d8⟩ := legs_get (HI1.out.below HB.out) hlt
        have HX := Lib.hid (CB.new wr 47 (legC x))
        have HBx := Lib.hid (HB.out.alloc HB.out.size (.cells (legC x) 47))
        have HMx := Lib.hid (HM.out.alloc (.cells (legC x) 47))
        have hmb := HM.out.lt
        have HST := Lib.hid (HH.out.step (owns_isMap HM.out) hlt (HQ.out k hlt))
        have hat := HH.out.at_ x.ser q.2.2.1
        have hbd := KB.out x.ser k
        obtain ⟨c, st, w2, hat2, hwc, L0, L1, EN, gr1, ST⟩ := ownsMap_entry (w := (wr.alloc (.cells (legC x) 47)).drew) ser_law map_under Try.underlying3 int_zero HMx.out.drew (by unfold maxLen; omega) (skey_is q.2.2.1)
        obtain rfl : c = NM.fsum (NM.ofS x.ser) l k := by
          rw [hat] at hat2
          injection hat2 with e1
          injection e1 with e2 e3
          exact e3.symm
        rw [HV.out] at HST
        generalize hcc : NM.fsum (NM.ofS x.ser) l k = c at *
        clear hcc hat hat2
        have hqb := (KQ.out k hlt)
        rw [HV.out] at hqb
        have hwr : IntKind.i64.wrap (c + x.qty) = c + x.qty := by rw [IntWalk.i64_left]; exact IntWalk.wrap64_in _ ⟨by omega, by omega⟩
        obtain ⟨w3, SE, hown3, gr3⟩ := ST (c + x.qty) (WalkArith.wf_i64 ⟨by omega, by omega⟩)
        have HM3 := Lib.hid hown3
        have hne : wr.heap.size ≠ w1.heap.size := by omega
        have HSA : Hid ((fun ww : World => ww.cell? ⟨wr.heap.size, 2, none⟩ = some (.string x.ser.prod) ∧ ww.cell? ⟨wr.heap.size, 3, none⟩ = some (.int .i64 x.ser.kind) ∧ ww.cell? ⟨wr.heap.size, 4, none⟩ = some (.int .i64 x.ser.expiry) ∧ ww.cell? ⟨wr.heap.size, 5, none⟩ = some (.int .i64 x.ser.strike) ∧ ww.cell? ⟨wr.heap.size, 6, none⟩ = some (.int .i64 x.qty)) (wr.alloc (.cells (legC x) 47)).drew) := Lib.hid ⟨HX.out.cell 2, HX.out.cell 3, HX.out.cell 4, HX.out.cell 5, HX.out.cell 6⟩
        have hxl : wr.heap.size < (wr.alloc (.cells (legC x) 47)).drew.heap.size := HX.out.lt
        have hx2 : CB w2 wr.heap.size 47 (legC x) := (gr1.block _ hxl (by simpa using hne)).trans HX.out
        have hx3 : CB w3 wr.heap.size 47 (legC x) := (gr3.block _ hxl (by simpa using hne)).trans HX.out
        have HSB : Hid ((fun ww : World => ww.cell? ⟨wr.heap.size, 2, none⟩ = some (.string x.ser.prod) ∧ ww.cell? ⟨wr.heap.size, 3, none⟩ = some (.int .i64 x.ser.kind) ∧ ww.cell? ⟨wr.heap.size, 4, none⟩ = some (.int .i64 x.ser.expiry) ∧ ww.cell? ⟨wr.heap.size, 5, none⟩ = some (.int .i64 x.ser.strike) ∧ ww.cell? ⟨wr.heap.size, 6, none⟩ = some (.int .i64 x.qty)) w2) := Lib.hid ⟨hx2.cell 2, hx2.cell 3, hx2.cell 4, hx2.cell 5, hx2.cell 6⟩
        have HSC : Hid ((fun ww : World => ww.cell? ⟨wr.heap.size, 2, none⟩ = some (.string x.ser.prod) ∧ ww.cell? ⟨wr.heap.size, 3, none⟩ = some (.int .i64 x.ser.kind) ∧ ww.cell? ⟨wr.heap.size, 4, none⟩ = some (.int .i64 x.ser.expiry) ∧ ww.cell? ⟨wr.heap.size, 5, none⟩ = some (.int .i64 x.ser.strike) ∧ ww.cell? ⟨wr.heap.size, 6, none⟩ = some (.int .i64 x.qty)) w3) := Lib.hid ⟨hx3.cell 2, hx3.cell 3, hx3.cell 4, hx3.cell 5, hx3.cell 6⟩
        have HB3 : Hid (Below w1.heap.size w1 w3) := Lib.hid (HBx.out.drew.grown gr3 HBx.out.drew.size (fun j hj => by injection hj with hj; omega))
        clear q HX HBx HMx hown3 gr1 gr3 ST hx2 hx3 hxl hwc hbd hqb HM HH HB HV
        go_wp2_with fail
        go_region_held3 (fun ww => ww.cell? ⟨wr.heap.size, 2, none⟩ = some (.string x.ser.prod) ∧ ww.cell? ⟨wr.heap.size, 3, none⟩ = some (.int .i64 x.ser.kind) ∧ ww.cell? ⟨wr.heap.size, 4, none⟩ = some (.int .i64 x.ser.expiry) ∧ ww.cell? ⟨wr.heap.size, 5, none⟩ = some (.int .i64 x.ser.strike) ∧ ww.cell? ⟨wr.heap.size, 6, none⟩ = some (.int .i64 x.qty))
          (first | (with_reducible exact HSA.out) | (with_reducible exact HSB.out) | (with_reducible exact HSC.out))
          (fail)
        all_goals (
          clear HSA HSB HSC SE L0 L1 EN hwr
          go_wp2_with fail
          go_roundw
          case rel => exact ⟨k + 1, _, by omega, by go_num, HM3, HST, HB3⟩
          case measure => simp [intOf]; omega)
      · obtain rfl : k = l.length := by omega
        have hgs := HB.out.size
        have hwl : w1.heap.size ≠ wr.heap.size := Nat.ne_of_lt HM.out.lt
        clear hk hlt
        have HBS0 := Lib.hid (fun (u : World) (g : wr.grownBy u none) => HB.out.grown g hgs (fun j hj => by cases hj))
        go_wp2_with (at_range; refine wpList_range_own _ rfl _ 97 rfl 43 3 (Keyed.of_law ser_law) map_under _ w1.heap.size _ _ rfl HM.out ?_; intro w0 hrg0 hg0 hs0)
        go_frame
        have HBS := Lib.hid (HBS0.out _ hg0)
        clear hg0 hs0
        generalize wr.heap.size = gi at *
        go_loopw [7] (fun _ wq => ∃ (left : Lit → Bool) (cnt : Nat), wq.ranges Try.prog 43 (plainElem Try.prog 3) w1.heap.size gi l.length D left cnt ∧ Hid (∀ kl, left kl = true → has D kl = true) ∧ Hid (∀ kl, has D kl = true → left kl = false → D.atKey kl (iL 0) = iL 0) ∧ Hid (Below w1.heap.size w1 wq)) (fun _ wq => wq.rangeLeft w1.heap.size gi)
        case atStart => exact ⟨_, _, hrg0, Lib.hid (fun kl h => h), Lib.hid (fun kl h1 h2 => by rw [h1] at h2; cases h2), HBS⟩
        case round =>
          obtain ⟨left, cnt, hrg, HL1, HL2, HBq⟩ := hrel
          go_wp2_with (at_next; refine wpList_next_ranges _ rfl _ rfl 43 (Keyed.of_law ser_law) _ (fun v : Value => v) (Value.int .i64) (fun key kl _ => ⟨key, rfl⟩) (fun v y hv => by obtain ⟨c, rfl, _⟩ := plainElem_int_inv Try.underlying3 hv; exact ⟨c, rfl⟩) w1.heap.size gi l.length D left cnt rfl hrg ?_ ?_)
          · intro hc0 hl0
            have HR := Lib.hid (KYES.out (fun j hj => by
              have h1 := HL2.out _ (HH.out.has_ j hj hj) (hl0 _)
              rw [HH.out.at_ _ (HQ.out j hj)] at h1
              injection h1 with e1
              injection e1))
            have HBF := Lib.hid (HB1.out.trans (HBq.out.mono HB1.out.size))
            clear hl0 hc0
            go_wp2_with fail
            go_ret
            exact ⟨by rw [HR.out] <;> rfl, HBF.out⟩
          · intro x c kl y1 y2 wq2 cnt2 hkey hlk hv hat hrg1 hlt1 hg1 hs1 hen
            have hat0 : D.atKey kl (iL 0) = iL c := by
              obtain ⟨c', e1, e3, _⟩ := plainElem_int_inv Try.underlying3 hv
              injection e1 with _ e2
              injection e3 with e4 _
              rw [hat (iL 0), e4, e2]
            have HB2 := Lib.hid (HBq.out.grown hg1 HBq.out.size (fun j hj => by injection hj with hj; omega))
            have HRG := Lib.hid hrg1
            by_cases hc0 : c = 0
            · subst hc0
              have HL3 : Hid (∀ z, (left z && !z.sameKey kl) = true → has D z = true) := Lib.hid (fun z hz => HL1.out z (by rw [Bool.and_eq_true] at hz; exact hz.1))
              have HL4 : Hid (∀ z, has D z = true → (left z && !z.sameKey kl) = false → D.atKey z (iL 0) = iL 0) := Lib.hid (fun z hz h => by
                rcases Bool.and_eq_false_iff.1 h with h | h
                · exact HL2.out z hz h
                · have : z = kl := WideAt.sameKey_eq (by simpa using h)
                  rw [this]; exact hat0)
              have HMS : Hid (wq2.rangeLeft w1.heap.size gi < cnt) := Lib.hid (by rw [hrg1.left_eq]; exact hlt1)
              have HMR : Hid (cnt = wr.rangeLeft w1.heap.size gi ∨ True) := Lib.hid (.inr trivial)
              clear hv hat hlk hkey hat0 hrg1 hg1 hs1 hlt1 HMR
              go_wp2_with fail
              go_roundw
              case rel => exact ⟨_, _, HRG.out, HL3, HL4, HB2⟩
              case measure => rw [hrg.left_eq]; exact HMS.out
            · obtain ⟨j, hj1, hj2, ek⟩ := HH.out.only kl (HL1.out kl hlk)
              have HR := Lib.hid (KBAD.out j hj2 (fun h0 => hc0 (by
                rw [ek, HH.out.at_ _ (HQ.out j hj2), h0] at hat0
                injection hat0 with e1
                injection e1 with _ e2
                exact e2.symm)))
              have hne : (c != 0) = true := by simpa using hc0
              have HBF := Lib.hid (HB1.out.trans (HB2.out.mono HB1.out.size))
              clear hv hat hlk hkey hat0 hrg1 hg1 hs1 hlt1 hc0 ek hj1 hj2
              go_wp2_with fail
              go_ret
              exact ⟨by rw [HR.out] <;> rfl, HBF.out⟩
  · have e1 := NM.flat_no hc
    rw [e1]
    have hne : (NM.checkE l != 0) = true := by simpa using hc
    generalize NM.checkE l = r at *
    clear e1
    go_enter Try.func28, Try.ntmps28
    go_wp2_with fail
    refine C1.out.mono ?_
    rintro e w1 ⟨rfl, b1⟩
    have HB1 := Lib.hid b1
    clear b1
    go_wp2_with fail
    go_ret
    exact ⟨rfl, HB1.out⟩
end Go.Proofs.Ytafdjiilmogcjaa
