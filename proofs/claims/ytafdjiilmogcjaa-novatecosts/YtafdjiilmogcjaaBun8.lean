/- Put together: NovF, TrdCells, TrdBox, NovD, NovD2, RecsCat. -/
import Derived.Test.YtafdjiilmogcjaaBun6
import Derived.Test.YtafdjiilmogcjaaBun7
import Derived.Deep.RegionHeld3
import Derived.Test.YtafdjiilmogcjaaBun3
import Derived.Test.YtafdjiilmogcjaaBun4
import Derived.Test.YtafdjiilmogcjaaBun5
import Derived.WalkMore
import Derived.BigQuiet
import Derived.IntWalk
import Derived.Test.YtafdjiilmogcjaaBun1
/- Contracts of layer 13: what legs are worth. -/
namespace Go.Proofs.Ytafdjiilmogcjaa
open Go.RowKit Go.Recs
set_option linter.unusedVariables false
set_option linter.unusedSimpArgs false
theorem own_empty (w : World) (B : Nat) (hB : B ≤ w.heap.size) : Own (w.alloc (.cells #[] 3)) B (.slice (some ⟨w.heap.size, 0, none⟩) 0 0) [] := World.ownsRow_lit w #[] 0 hB (Nat.zero_le _) (by simp)
theorem worth_range {p : QM.Prod} {l : List NM.Leg} : ∀ n ∈ NM.worth p l, -9223372036854775808 ≤ n ∧ n ≤ 9223372036854775807 := by
  intro n hn
  obtain ⟨x, hx, rfl⟩ := List.mem_map.1 hn
  unfold QM.valueN
  split
  · rename_i h
    have := (QM.value_range h).2
    omega
  · omega
theorem worth_len (p : QM.Prod) (l : List NM.Leg) : (NM.worth p l).length = l.length := by simp [NM.worth]
theorem first_now {p : QM.Prod} {l : List NM.Leg} (h : ∀ j, j < l.length → QM.valueE p (NM.lAt l j).price (NM.lAt l j).qty = 0) : NM.firstE p l = 0 := NM.first_ok h
theorem worth_succ {p : QM.Prod} {l : List NM.Leg} {k : Nat} (h : k < l.length) : NM.worth p (l.take (k + 1)) = NM.worth p (l.take k) ++ [QM.valueN p (NM.lAt l k).price (NM.lAt l k).qty] := by
  rw [NM.take_succ h, NM.worth_append, NM.lAt_get h]; rfl
theorem cost_no {l : List NM.Leg} {am an : ByteArray} {p : QM.Prod} {s : EM.Ser} (h : ¬ NM.checkE l = 0) : NM.costN l am an p s = 0 ∧ NM.costE l am an p s = NM.checkE l := by
  unfold NM.costN NM.costE; rw [if_neg h, if_neg h]; exact ⟨rfl, rfl⟩
theorem cost_bad {l : List NM.Leg} {am an : ByteArray} {p : QM.Prod} {s : EM.Ser} {r : Int} (h : NM.checkE l = 0) (h1 : NM.firstE p (l.filter (NM.mine am an s)) = r) (h2 : ¬ r = 0) : NM.costN l am an p s = 0 ∧ NM.costE l am an p s = r := by
  unfold NM.costN NM.costE; rw [if_pos h, if_pos h, h1, if_neg h2, if_neg h2]; exact ⟨rfl, rfl⟩
theorem cost_ok {l : List NM.Leg} {am an : ByteArray} {p : QM.Prod} {s : EM.Ser} (h : NM.checkE l = 0) (h1 : NM.firstE p (l.filter (NM.mine am an s)) = 0) : NM.costN l am an p s = CM.sumN (NM.worth p (l.filter (NM.mine am an s))) ∧ NM.costE l am an p s = CM.sumE (NM.worth p (l.filter (NM.mine am an s))) := by
  unfold NM.costN NM.costE; rw [if_pos h, if_pos h, if_pos h1, if_pos h1]; exact ⟨rfl, rfl⟩

set_option maxHeartbeats 8000000 in
set_option maxRecDepth 100000 in
theorem ncost_any (A : Option Addr) (l : List NM.Leg) (n cap : Nat) (hn : n = l.length) (am an : ByteArray) (p : QM.Prod) (s : EM.Ser) (w : World) (hI : Legs w A l) (hp : prodQ p) :
    Calls Try.prog 30 #[.slice A n cap, kA am an, prodA p, serA s] w fun e w' => e = .returned (.tuple #[.int .i64 (NM.costN l am an p s), .int .i64 (NM.costE l am an p s)]) ∧ Below w.heap.size w w' := by
  subst hn
  have hlen := hI.len
  have HB0 := Lib.hid (below_al (below_al (below_al (Below.refl w.heap.size w) (.cells (kC am an) 26)) (.cells #[.string p.name, .int .i64 p.cur, .int .i64 p.mult, .int .i64 p.tick, .int .i64 p.low, .int .i64 p.high, .bool p.phys] 65)) (.cells #[.string s.prod, .int .i64 s.kind, .int .i64 s.expiry, .int .i64 s.strike] 43))
  have HG0 : Hid (CB (((w.alloc (.cells (kC am an) 26)).alloc (.cells #[.string p.name, .int .i64 p.cur, .int .i64 p.mult, .int .i64 p.tick, .int .i64 p.low, .int .i64 p.high, .bool p.phys] 65)).alloc (.cells #[.string s.prod, .int .i64 s.kind, .int .i64 s.expiry, .int .i64 s.strike] 43)) w.heap.size 26 (kC am an)) := Lib.hid (((CB.new w 26 (kC am an)).alloc _).alloc _)
  have HP0 : Hid (PBox (((w.alloc (.cells (kC am an) 26)).alloc (.cells #[.string p.name, .int .i64 p.cur, .int .i64 p.mult, .int .i64 p.tick, .int .i64 p.low, .int .i64 p.high, .bool p.phys] 65)).alloc (.cells #[.string s.prod, .int .i64 s.kind, .int .i64 s.expiry, .int .i64 s.strike] 43)) (w.heap.size + 1) p) := Lib.hid (by
    have h := PBox.new (w.alloc (.cells (kC am an) 26)) p
    rw [show (w.alloc (.cells (kC am an) 26)).heap.size = w.heap.size + 1 by simp] at h
    exact h.alloc _)
  have HJ0 : Hid (SBox (((w.alloc (.cells (kC am an) 26)).alloc (.cells #[.string p.name, .int .i64 p.cur, .int .i64 p.mult, .int .i64 p.tick, .int .i64 p.low, .int .i64 p.high, .bool p.phys] 65)).alloc (.cells #[.string s.prod, .int .i64 s.kind, .int .i64 s.expiry, .int .i64 s.strike] 43)) (w.heap.size + 1 + 1) s) := Lib.hid (by
    have h := SBox.new ((w.alloc (.cells (kC am an) 26)).alloc (.cells #[.string p.name, .int .i64 p.cur, .int .i64 p.mult, .int .i64 p.tick, .int .i64 p.low, .int .i64 p.high, .bool p.phys] 65)) s
    rwa [show ((w.alloc (.cells (kC am an) 26)).alloc (.cells #[.string p.name, .int .i64 p.cur, .int .i64 p.mult, .int .i64 p.tick, .int .i64 p.low, .int .i64 p.high, .bool p.phys] 65)).heap.size = w.heap.size + 1 + 1 by simp] at h)
  have C1 := Lib.hid (ncheck_any A l l.length cap rfl _ (hI.below HB0.out))
  have HI := Lib.hid (hI.below HB0.out)
  have HQ := Lib.hid hI.2
  clear hI
  by_cases hc : NM.checkE l = 0
  · have HC := Lib.hid hc
    have hm1 := (NM.check_inv hc).1
    have C2 := Lib.hid (fun ww h => nheld_any A l l.length cap rfl am an s ww h (by omega))
    have C3 := Lib.hid (fun x q ww => qvalue_any p x q hp ww)
    have KS := Lib.hid (fun k => @worth_succ p (l.filter (NM.mine am an s)) k)
    have KF := Lib.hid (fun k => @NM.first_bad p (l.filter (NM.mine am an s)) k)
    have KO := Lib.hid (@NM.first_ok p (l.filter (NM.mine am an s)))
    have KB : Hid (∀ r, NM.firstE p (l.filter (NM.mine am an s)) = r → ¬ r = 0 → NM.costN l am an p s = 0 ∧ NM.costE l am an p s = r) := Lib.hid (fun r h1 h2 => cost_bad HC.out h1 h2)
    have KG : Hid (NM.firstE p (l.filter (NM.mine am an s)) = 0 → NM.costN l am an p s = CM.sumN (NM.worth p (l.filter (NM.mine am an s))) ∧ NM.costE l am an p s = CM.sumE (NM.worth p (l.filter (NM.mine am an s)))) := Lib.hid (fun h => cost_ok HC.out h)
    have KLN : Hid ((l.filter (NM.mine am an s)).length ≤ 2048) := Lib.hid (Nat.le_trans (List.length_filter_le _ _) hm1)
    have KT : Hid ((l.filter (NM.mine am an s)).take (l.filter (NM.mine am an s)).length = l.filter (NM.mine am an s)) := Lib.hid (by rw [List.take_length])
    have HFL := Lib.hid (fun ww B v h => @filt_legs ww B v l (NM.mine am an s) h HQ.out)
    rw [hc] at C1
    clear hc hp HQ hm1
    generalize NM.costN l am an p s = cn at *
    generalize NM.costE l am an p s = ce at *
    go_enter Try.func30, Try.ntmps30
    go_wp2_with fail
    refine C1.out.mono ?_
    rintro e w1 ⟨rfl, b1⟩
    have HB1 := Lib.hid (HB0.out.trans (b1.mono HB0.out.size))
    have HI1 := Lib.hid (HI.out.below b1)
    have HG1 := Lib.hid (HG0.out.below b1 HG0.out.lt)
    have HP1 := Lib.hid (HP0.out.below b1 HP0.out.lt)
    have HJ1 := Lib.hid (HJ0.out.below b1 HJ0.out.lt)
    have g0 : w1.cell? ⟨w.heap.size, 0, none⟩ = some (.string am) := HG1.out.cell 0
    have g1 : w1.cell? ⟨w.heap.size, 1, none⟩ = some (.string an) := HG1.out.cell 1
    obtain ⟨s0, s1, s2, s3⟩ := HJ1.out.cells
    clear b1 HG0 HP0 HJ0 C1 HB0 HI
    go_wp2_with fail
    refine (C2.out _ HI1.out).mono ?_
    rintro e w2 ⟨v, rfl, o2, b2⟩
    obtain ⟨A2, c2, rfl, hL, hc2⟩ := HFL.out _ _ _ o2
    generalize l.filter (NM.mine am an s) = fl at *
    have HB2 := Lib.hid (HB1.out.trans (b2.mono HB1.out.size))
    have HP2 := Lib.hid (HP1.out.below b2 HP1.out.lt)
    have hpl := HP2.out.lt
    have hfn := hL.len
    have HL := Lib.hid hL
    clear o2 b2 hL g0 g1 s0 s1 s2 s3 HG1 HP1 HJ1 HB1 HI1 HFL C2 hc2
    go_wp2_with fail
    go_loopw [11, 13, 14, 15, 26] (fun v _ _ _ i wr => ∃ k : Nat, k ≤ fl.length ∧ i = .int .i64 (k : Int) ∧ Hid (Own wr w2.heap.size v (NM.worth p (fl.take k))) ∧ Hid (∀ j, j < k → QM.valueE p (NM.lAt fl j).price (NM.lAt fl j).qty = 0) ∧ Hid (Below w2.heap.size w2 wr)) (fun _ _ _ _ i _ => fl.length - (intOf i).toNat)
    case atStart => exact ⟨0, by omega, rfl, Lib.hid (Own.nil _ _), Lib.hid (fun j h => by omega), Lib.hid (Below.refl _ _)⟩
    case round =>
      obtain ⟨k, hk, rfl, HO, HE, HB⟩ := hrel
      by_cases hlt : k < fl.length
      · obtain ⟨b, off, x, rfl, hb, HV, q, d0, d1, d2, d3, d4, d5, d6, d7, d8⟩ := legs_get (HL.out.below HB.out) hlt
        have HN := Lib.hid (KS.out k hlt)
        have HF := Lib.hid (KF.out k hlt HE.out)
        have HW : Hid (NM.worth p (fl.take (k + 1)) = NM.worth p (fl.take k) ++ [QM.valueN p x.price x.qty]) := Lib.hid (by rw [HN.out, HV.out])
        rw [HV.out] at HF
        have HVE : Hid (QM.valueE p (NM.lAt fl k).price (NM.lAt fl k).qty = QM.valueE p x.price x.qty) := Lib.hid (by rw [HV.out])
        have HBx := Lib.hid (HB.out.alloc HB.out.size (.cells (legC x) 47))
        have HOx := Lib.hid (HO.out.alloc (.cells (legC x) 47))
        have HPx := Lib.hid ((HP2.out.below HB.out hpl).alloc (.cells (legC x) 47))
        obtain ⟨p0, p1, p2, p3, p4, p5, p6⟩ := HPx.out.cells
        have C4 := Lib.hid (fun ww => C3.out x.price x.qty ww)
        have hwl : (NM.worth p (fl.take k)).length ≤ 2048 := by rw [worth_len, List.length_take]; have := KLN.out; omega
        generalize QM.valueN p x.price x.qty = vn at *
        by_cases hv : QM.valueE p x.price x.qty = 0
        · have HE2 : Hid (∀ j, j < k + 1 → QM.valueE p (NM.lAt fl j).price (NM.lAt fl j).qty = 0) := Lib.hid (fun j hj => by
            rcases Nat.lt_or_ge j k with g | g
            · exact HE.out j g
            · obtain rfl : j = k := by omega
              rw [HVE.out]; exact hv)
          rw [hv] at C4
          clear hv HF HVE HN HV q HE
          go_wp2_with fail
          refine (C4.out _).mono ?_
          rintro e w3 ⟨rfl, b3⟩
          have HB3 := Lib.hid (HBx.out.trans (b3.mono HBx.out.size))
          have HO3 := Lib.hid (HOx.out.below b3)
          clear b3 HO HOx HPx p0 p1 p2 p3 p4 p5 p6
          go_wp2_with (at_builtin; refine wpList_push _ vn w2.heap.size (NM.worth p (fl.take k)) _ _ rfl rfl _ rfl rfl HO3.out ?c1 HB3.out.size ?_)
          case c1 => omega
          intro v4 w4 o4 b4 _ _
          have HO4 : Hid (Own w4 w2.heap.size v4 (NM.worth p (fl.take (k + 1)))) := Lib.hid (by rw [HW.out]; exact o4)
          have HB4 := Lib.hid (HB3.out.trans b4)
          clear o4 b4 HO3
          go_wp2_with fail
          go_roundw
          case rel => exact ⟨k + 1, by omega, by go_num, HO4, HE2, HB4⟩
          case measure => simp [intOf]; omega
        · have HR := Lib.hid (KB.out _ (HF.out hv) hv)
          have hne : (QM.valueE p x.price x.qty != 0) = true := by simpa using hv
          generalize QM.valueE p x.price x.qty = ve at *
          clear hv HF HVE HN HV q HE
          go_wp2_with fail
          refine (C4.out _).mono ?_
          rintro e w3 ⟨rfl, b3⟩
          have HB3 := Lib.hid (HB2.out.trans ((HBx.out.trans (b3.mono HBx.out.size)).mono HB2.out.size))
          clear b3
          go_wp2_with fail
          go_ret2
          exact ⟨by rw [HR.out.1, HR.out.2] <;> rfl, HB3.out⟩
      · obtain rfl : k = fl.length := by omega
        have HR := Lib.hid (KG.out (KO.out HE.out))
        rw [KT.out] at HO
        obtain ⟨A3, c3, rfl, hi3⟩ := Own.ints HO.out worth_range
        have HI3 := Lib.hid hi3
        have C5 := Lib.hid (sum_any A3 (NM.worth p fl) c3 wr hi3)
        have HBF := Lib.hid (HB2.out.trans (HB.out.mono HB2.out.size))
        generalize NM.worth p fl = zs at *
        clear hi3 HO
        go_wp2_with fail
        refine C5.out.mono ?_
        rintro e w3 ⟨rfl, rfl⟩
        go_wp2_with fail
        go_ret2
        exact ⟨by rw [HR.out.1, HR.out.2] <;> rfl, HBF.out⟩
  · obtain ⟨e1, e2⟩ := cost_no (am := am) (an := an) (p := p) (s := s) hc
    rw [e1, e2]
    have hne : (NM.checkE l != 0) = true := by simpa using hc
    generalize NM.checkE l = r at *
    clear e1 e2
    go_enter Try.func30, Try.ntmps30
    go_wp2_with fail
    refine C1.out.mono ?_
    rintro e w1 ⟨rfl, b1⟩
    have HB1 := Lib.hid (HB0.out.trans (b1.mono HB0.out.size))
    clear b1
    go_wp2_with fail
    go_ret2
    exact ⟨rfl, HB1.out⟩

set_option maxHeartbeats 8000000 in
set_option maxRecDepth 100000 in
theorem rcost13_any (A : Option Addr) (l : List NM.Leg) (n cap : Nat) (hn : n = l.length) (am an : ByteArray) (p : QM.Prod) (s : EM.Ser) (w : World) (hI : Legs w A l) (hp : prodQ p) :
    Calls Try.prog 31 #[.slice A n cap, kA am an, prodA p, serA s] w fun e w' => e = .returned (.tuple #[.int .i64 (NM.costN l am an p s), .int .i64 (NM.costE l am an p s)]) ∧ Below w.heap.size w w' := by
  subst hn
  have hlen := hI.len
  have HB0 := Lib.hid (below_al (below_al (below_al (Below.refl w.heap.size w) (.cells (kC am an) 26)) (.cells #[.string p.name, .int .i64 p.cur, .int .i64 p.mult, .int .i64 p.tick, .int .i64 p.low, .int .i64 p.high, .bool p.phys] 65)) (.cells #[.string s.prod, .int .i64 s.kind, .int .i64 s.expiry, .int .i64 s.strike] 43))
  have HG0 : Hid (CB (((w.alloc (.cells (kC am an) 26)).alloc (.cells #[.string p.name, .int .i64 p.cur, .int .i64 p.mult, .int .i64 p.tick, .int .i64 p.low, .int .i64 p.high, .bool p.phys] 65)).alloc (.cells #[.string s.prod, .int .i64 s.kind, .int .i64 s.expiry, .int .i64 s.strike] 43)) w.heap.size 26 (kC am an)) := Lib.hid (((CB.new w 26 (kC am an)).alloc _).alloc _)
  have HP0 : Hid (PBox (((w.alloc (.cells (kC am an) 26)).alloc (.cells #[.string p.name, .int .i64 p.cur, .int .i64 p.mult, .int .i64 p.tick, .int .i64 p.low, .int .i64 p.high, .bool p.phys] 65)).alloc (.cells #[.string s.prod, .int .i64 s.kind, .int .i64 s.expiry, .int .i64 s.strike] 43)) (w.heap.size + 1) p) := Lib.hid (by
    have h := PBox.new (w.alloc (.cells (kC am an) 26)) p
    rw [show (w.alloc (.cells (kC am an) 26)).heap.size = w.heap.size + 1 by simp] at h
    exact h.alloc _)
  have HJ0 : Hid (SBox (((w.alloc (.cells (kC am an) 26)).alloc (.cells #[.string p.name, .int .i64 p.cur, .int .i64 p.mult, .int .i64 p.tick, .int .i64 p.low, .int .i64 p.high, .bool p.phys] 65)).alloc (.cells #[.string s.prod, .int .i64 s.kind, .int .i64 s.expiry, .int .i64 s.strike] 43)) (w.heap.size + 1 + 1) s) := Lib.hid (by
    have h := SBox.new ((w.alloc (.cells (kC am an) 26)).alloc (.cells #[.string p.name, .int .i64 p.cur, .int .i64 p.mult, .int .i64 p.tick, .int .i64 p.low, .int .i64 p.high, .bool p.phys] 65)) s
    rwa [show ((w.alloc (.cells (kC am an) 26)).alloc (.cells #[.string p.name, .int .i64 p.cur, .int .i64 p.mult, .int .i64 p.tick, .int .i64 p.low, .int .i64 p.high, .bool p.phys] 65)).heap.size = w.heap.size + 1 + 1 by simp] at h)
  have C1 := Lib.hid (rcheck13_any A l l.length cap rfl _ (hI.below HB0.out))
  have HI := Lib.hid (hI.below HB0.out)
  clear hI
  by_cases hc : NM.checkE l = 0
  · have HC := Lib.hid hc
    have hm1 := (NM.check_inv hc).1
    have C3 := Lib.hid (fun x q ww => rqvalue_any p x q hp ww)
    have KH := Lib.hid (fun k => @NM.worth_hit p (NM.mine am an s) l k); have KM := Lib.hid (fun k => @NM.worth_miss p (NM.mine am an s) l k)
    have KF := Lib.hid (fun k => @NM.first_stop p (NM.mine am an s) l k)
    have KS := Lib.hid (fun k => @NM.first_step p (NM.mine am an s) l k)
    have KB : Hid (∀ r, NM.firstE p (l.filter (NM.mine am an s)) = r → ¬ r = 0 → NM.costN l am an p s = 0 ∧ NM.costE l am an p s = r) := Lib.hid (fun r h1 h2 => cost_bad HC.out h1 h2)
    have KG : Hid (NM.firstE p ((l.take l.length).filter (NM.mine am an s)) = 0 → NM.costN l am an p s = CM.sumN (NM.worth p ((l.take l.length).filter (NM.mine am an s))) ∧ NM.costE l am an p s = CM.sumE (NM.worth p ((l.take l.length).filter (NM.mine am an s)))) := Lib.hid (by rw [List.take_length]; exact fun h => cost_ok HC.out h)
    have KL : Hid (∀ k, (NM.worth p ((l.take k).filter (NM.mine am an s))).length ≤ 2048) := Lib.hid (fun k => by
      rw [worth_len]
      refine Nat.le_trans (List.length_filter_le _ _) ?_
      rw [List.length_take]; omega)
    rw [hc] at C1
    have ga := acc_guard; have gs := ser_guard
    clear hc hp hm1
    generalize NM.costN l am an p s = cn at *
    generalize NM.costE l am an p s = ce at *
    go_enter Try.func31, Try.ntmps31
    go_wp2_with fail
    refine C1.out.mono ?_
    rintro e w1 ⟨rfl, rfl⟩
    have HOE := Lib.hid (own_empty (((w.alloc (.cells (kC am an) 26)).alloc (.cells #[.string p.name, .int .i64 p.cur, .int .i64 p.mult, .int .i64 p.tick, .int .i64 p.low, .int .i64 p.high, .bool p.phys] 65)).alloc (.cells #[.string s.prod, .int .i64 s.kind, .int .i64 s.expiry, .int .i64 s.strike] 43)) w.heap.size HB0.out.size)
    have HBE := Lib.hid (below_al HB0.out (.cells #[] 3))
    have HSZ : Hid ((((w.alloc (.cells (kC am an) 26)).alloc (.cells #[.string p.name, .int .i64 p.cur, .int .i64 p.mult, .int .i64 p.tick, .int .i64 p.low, .int .i64 p.high, .bool p.phys] 65)).alloc (.cells #[.string s.prod, .int .i64 s.kind, .int .i64 s.expiry, .int .i64 s.strike] 43)).heap.size = w.heap.size + 1 + 1 + 1) := Lib.hid (by simp)
    generalize hw0 : ((w.alloc (.cells (kC am an) 26)).alloc (.cells #[.string p.name, .int .i64 p.cur, .int .i64 p.mult, .int .i64 p.tick, .int .i64 p.low, .int .i64 p.high, .bool p.phys] 65)).alloc (.cells #[.string s.prod, .int .i64 s.kind, .int .i64 s.expiry, .int .i64 s.strike] 43) = w0 at *
    clear hw0
    go_wp2_with fail
    go_loopw [11, 12, 13, 14] (fun v i _ _ wr => ∃ k : Nat, k ≤ l.length ∧ i = .int .i64 (k : Int) ∧ Hid (Own wr w0.heap.size v (NM.worth p ((l.take k).filter (NM.mine am an s)))) ∧ Hid (NM.firstE p ((l.take k).filter (NM.mine am an s)) = 0) ∧ Hid (Below w0.heap.size w0 wr)) (fun _ i _ _ _ => l.length - (intOf i).toNat)
    case atStart => exact ⟨0, by omega, rfl, Lib.hid (own_empty w0 w0.heap.size (Nat.le_refl _)), Lib.hid rfl, Lib.hid (below_al (Below.refl _ _) _)⟩
    case round =>
      obtain ⟨k, hk, rfl, HO, HE, HB⟩ := hrel
      by_cases hlt : k < l.length
      · obtain ⟨b, off, x, rfl, hb, HV, q, d0, d1, d2, d3, d4, d5, d6, d7, d8⟩ := legs_get (HI.out.below HB.out) hlt
        have HGr := Lib.hid (HG0.out.below HB.out HG0.out.lt)
        have g0 : wr.cell? ⟨w.heap.size, 0, none⟩ = some (.string am) := HGr.out.cell 0
        have g1 : wr.cell? ⟨w.heap.size, 1, none⟩ = some (.string an) := HGr.out.cell 1
        obtain ⟨s0, s1, s2, s3⟩ := (HJ0.out.below HB.out HJ0.out.lt).cells
        have HPr := Lib.hid (HP0.out.below HB.out HP0.out.lt)
        have E1 : ∀ ww, (Op.equalIn 10000 26 (.agg #[.string x.am, .string x.an]) (.agg #[.string am, .string an])).run Try.prog ww = .ok (NM.aeq x.am x.an am an) ww := fun ww => acc_in _ _ _ _ ww
        have E2 : ∀ ww, (Op.equalIn 10000 43 (serA x.ser) (serA s)).run Try.prog ww = .ok (NM.seqB x.ser s) ww := fun ww => serB_in x.ser s ww
        have hway : (NM.aeq x.am x.an am an = false ∧ NM.mine am an s x = false) ∨ (NM.aeq x.am x.an am an = true ∧ NM.seqB x.ser s = false ∧ NM.mine am an s x = false) ∨ (NM.aeq x.am x.an am an = true ∧ NM.seqB x.ser s = true ∧ NM.mine am an s x = true) := by
          unfold NM.mine
          cases NM.aeq x.am x.an am an <;> cases NM.seqB x.ser s <;> simp
        have HM : Hid (NM.mine am an s x = false → NM.worth p ((l.take (k + 1)).filter (NM.mine am an s)) = NM.worth p ((l.take k).filter (NM.mine am an s)) ∧ NM.firstE p ((l.take (k + 1)).filter (NM.mine am an s)) = 0) := Lib.hid (fun h => ⟨KM.out k hlt (by rw [HV.out]; exact h), KS.out k hlt HE.out (by rw [HV.out, h]; intro h2; cases h2)⟩)
        have HH : Hid (NM.mine am an s x = true → NM.worth p ((l.take (k + 1)).filter (NM.mine am an s)) = NM.worth p ((l.take k).filter (NM.mine am an s)) ++ [QM.valueN p x.price x.qty]) := Lib.hid (fun h => by have := KH.out k hlt (by rw [HV.out]; exact h); rwa [HV.out] at this)
        have HS : Hid (NM.mine am an s x = true → QM.valueE p x.price x.qty = 0 → NM.firstE p ((l.take (k + 1)).filter (NM.mine am an s)) = 0) := Lib.hid (fun _ h => KS.out k hlt HE.out (fun _ => by rw [HV.out]; exact h))
        have HF : Hid (NM.mine am an s x = true → ¬ QM.valueE p x.price x.qty = 0 → NM.firstE p (l.filter (NM.mine am an s)) = QM.valueE p x.price x.qty) := Lib.hid (fun h1 h2 => by have := KF.out k hlt HE.out (by rw [HV.out]; exact h1) (by rw [HV.out]; exact h2); rwa [HV.out] at this)
        have hll := KL.out k
        generalize hmi : NM.mine am an s x = mi at hway HM HH HS HF
        generalize NM.aeq x.am x.an am an = ba at *
        generalize NM.seqB x.ser s = bs at *
        clear q HV hmi
        rcases hway with ⟨rfl, rfl⟩ | ⟨rfl, rfl, rfl⟩ | ⟨rfl, rfl, rfl⟩
        · have HX := Lib.hid (HM.out rfl)
          have HO2 := HO
          rw [← HX.out.1] at HO2
          have HE2 := Lib.hid HX.out.2
          clear HM HH HS HF HX HO HE
          go_wp2_with fail
          go_quiet (fail)
          go_wp2_with fail
          go_roundw
          case rel => exact ⟨k + 1, by omega, by go_num, HO2, HE2, Lib.hid (by first | exact HB.out | exact below_drewN HB.out _)⟩
          case measure => simp [intOf]; omega
        · have HX := Lib.hid (HM.out rfl)
          have HO2 := HO
          rw [← HX.out.1] at HO2
          have HE2 := Lib.hid HX.out.2
          clear HM HH HS HF HX HO HE
          go_wp2_with fail
          go_quiet (fail)
          go_wp2_with fail
          go_roundw
          case rel => exact ⟨k + 1, by omega, by go_num, HO2, HE2, Lib.hid (by first | exact HB.out | exact below_drewN HB.out _)⟩
          case measure => simp [intOf]; omega
        · have HW := Lib.hid (HH.out rfl)
          have HS2 := Lib.hid (HS.out rfl); have HF2 := Lib.hid (HF.out rfl)
          have C4 := Lib.hid (fun ww => C3.out x.price x.qty ww)
          have HD : Hid (∀ ww, Below wr.heap.size wr ww → ww.cell? ⟨b, off + k * 9 + 6, none⟩ = some (.int .i64 x.qty) ∧ ww.cell? ⟨b, off + k * 9 + 7, none⟩ = some (.int .i64 x.price)) := Lib.hid (fun ww h => ⟨(h.cell (p := ⟨b, off + k * 9 + 6, none⟩) hb).trans d6, (h.cell (p := ⟨b, off + k * 9 + 7, none⟩) hb).trans d7⟩)
          have HSF : Hid (∀ ww, Below wr.heap.size wr ww → ww.cell? ⟨w.heap.size + 1, 0, none⟩ = some (.string p.name) ∧ ww.cell? ⟨w.heap.size + 1, 1, none⟩ = some (.int .i64 p.cur) ∧ ww.cell? ⟨w.heap.size + 1, 2, none⟩ = some (.int .i64 p.mult) ∧ ww.cell? ⟨w.heap.size + 1, 3, none⟩ = some (.int .i64 p.tick) ∧ ww.cell? ⟨w.heap.size + 1, 4, none⟩ = some (.int .i64 p.low) ∧ ww.cell? ⟨w.heap.size + 1, 5, none⟩ = some (.int .i64 p.high) ∧ ww.cell? ⟨w.heap.size + 1, 6, none⟩ = some (.bool p.phys) ∧ ww.cell? ⟨b, off + k * 9 + 6, none⟩ = some (.int .i64 x.qty) ∧ ww.cell? ⟨b, off + k * 9 + 7, none⟩ = some (.int .i64 x.price)) := Lib.hid (fun ww h => by
            obtain ⟨p0, p1, p2, p3, p4, p5, p6⟩ := (HPr.out.below h HPr.out.lt).cells
            obtain ⟨e6, e7⟩ := HD.out ww h
            exact ⟨p0, p1, p2, p3, p4, p5, p6, e6, e7⟩)
          have HWL : Hid ((NM.worth p ((l.take k).filter (NM.mine am an s))).length ≤ 2048) := Lib.hid hll
          generalize QM.valueN p x.price x.qty = vn at *
          clear HM HH HS HF HD hll
          by_cases hv : QM.valueE p x.price x.qty = 0
          · have HE2 := Lib.hid (HS2.out hv)
            rw [hv] at C4
            clear hv HS2 HF2 HE
            go_wp2_with fail
            go_quiet (fail)
            go_wp2_with fail
            generalize hu : wr.drewN nq = u at *
            have HBw : Hid (Below wr.heap.size wr u.drew) := Lib.hid (by rw [← hu]; exact (below_drewN (Below.refl _ _) _).drew)
            clear hu
            go_region_held3 (fun ww => ww.cell? ⟨w.heap.size + 1, 0, none⟩ = some (.string p.name) ∧ ww.cell? ⟨w.heap.size + 1, 1, none⟩ = some (.int .i64 p.cur) ∧ ww.cell? ⟨w.heap.size + 1, 2, none⟩ = some (.int .i64 p.mult) ∧ ww.cell? ⟨w.heap.size + 1, 3, none⟩ = some (.int .i64 p.tick) ∧ ww.cell? ⟨w.heap.size + 1, 4, none⟩ = some (.int .i64 p.low) ∧ ww.cell? ⟨w.heap.size + 1, 5, none⟩ = some (.int .i64 p.high) ∧ ww.cell? ⟨w.heap.size + 1, 6, none⟩ = some (.bool p.phys) ∧ ww.cell? ⟨b, off + k * 9 + 6, none⟩ = some (.int .i64 x.qty) ∧ ww.cell? ⟨b, off + k * 9 + 7, none⟩ = some (.int .i64 x.price))
              (with_reducible exact HSF.out _ HBw.out)
              (first
                | (go_at_call 53; refine (C4.out _).mono ?_; rintro e w3 ⟨rfl, b3⟩; replace HBw := Lib.hid (HBw.out.trans (b3.mono HBw.out.size)); clear b3))
            all_goals (
              have HB3 := Lib.hid (HB.out.trans (HBw.out.mono HB.out.size))
              have HO3 := Lib.hid (HO.out.below HBw.out)
              clear HO HBw HSF C4 d0 d1 d2 d3 d4 d5 d6 d7 d8 g0 g1 s0 s1 s2 s3
              go_wp2_with (at_builtin; refine wpList_push _ vn w0.heap.size (NM.worth p ((l.take k).filter (NM.mine am an s))) _ _ rfl rfl _ rfl rfl HO3.out ?c1 HB3.out.size ?_)
              case c1 => have := HWL.out; omega
              intro v4 w4 o4 b4 _ _
              have HO4 : Hid (Own w4 w0.heap.size v4 (NM.worth p ((l.take (k + 1)).filter (NM.mine am an s)))) := Lib.hid (by rw [HW.out]; exact o4)
              have HB4 := Lib.hid (HB3.out.trans b4)
              clear o4 b4 HO3
              go_wp2_with fail
              go_roundw
              case rel => exact ⟨k + 1, by omega, by go_num, HO4, HE2, HB4⟩
              case measure => simp [intOf]; omega)
          · have HR := Lib.hid (KB.out _ (HF2.out hv) hv)
            have hne : (QM.valueE p x.price x.qty != 0) = true := by simpa using hv
            generalize QM.valueE p x.price x.qty = ve at *
            clear hv HS2 HF2 HE
            go_wp2_with fail
            go_quiet (fail)
            go_wp2_with fail
            generalize hu : wr.drewN nq = u at *
            have HBw : Hid (Below wr.heap.size wr u.drew) := Lib.hid (by rw [← hu]; exact (below_drewN (Below.refl _ _) _).drew)
            clear hu
            go_region_held3 (fun ww => ww.cell? ⟨w.heap.size + 1, 0, none⟩ = some (.string p.name) ∧ ww.cell? ⟨w.heap.size + 1, 1, none⟩ = some (.int .i64 p.cur) ∧ ww.cell? ⟨w.heap.size + 1, 2, none⟩ = some (.int .i64 p.mult) ∧ ww.cell? ⟨w.heap.size + 1, 3, none⟩ = some (.int .i64 p.tick) ∧ ww.cell? ⟨w.heap.size + 1, 4, none⟩ = some (.int .i64 p.low) ∧ ww.cell? ⟨w.heap.size + 1, 5, none⟩ = some (.int .i64 p.high) ∧ ww.cell? ⟨w.heap.size + 1, 6, none⟩ = some (.bool p.phys) ∧ ww.cell? ⟨b, off + k * 9 + 6, none⟩ = some (.int .i64 x.qty) ∧ ww.cell? ⟨b, off + k * 9 + 7, none⟩ = some (.int .i64 x.price))
              (with_reducible exact HSF.out _ HBw.out)
              (first
                | (go_at_call 53; refine (C4.out _).mono ?_; rintro e w3 ⟨rfl, b3⟩; replace HBw := Lib.hid (HBw.out.trans (b3.mono HBw.out.size)); clear b3))
            all_goals (
              have HB3 := Lib.hid (HB.out.trans (HBw.out.mono HB.out.size))
              have HO3 := Lib.hid (HO.out.below HBw.out)
              clear HO HBw HSF C4 d0 d1 d2 d3 d4 d5 d6 d7 d8 g0 g1 s0 s1 s2 s3
              have HBF := Lib.hid (HB0.out.trans (HB3.out.mono HB0.out.size))
              go_wp2_with fail
              go_ret2
              exact ⟨by rw [HR.out.1, HR.out.2] <;> rfl, HBF.out⟩)
      · obtain rfl : k = l.length := by omega
        have HR := Lib.hid (KG.out HE.out)
        obtain ⟨A3, c3, rfl, hi3⟩ := Own.ints HO.out worth_range
        have hll := KL.out l.length
        have C5 := Lib.hid (rsum_any A3 (NM.worth p ((l.take l.length).filter (NM.mine am an s))) c3 wr hi3 (by omega))
        have HBF := Lib.hid (HB0.out.trans (HB.out.mono HB0.out.size))
        generalize NM.worth p ((l.take l.length).filter (NM.mine am an s)) = zs at *
        clear hi3 HO
        go_wp2_with fail
        refine C5.out.mono ?_
        rintro e w3 ⟨rfl, rfl⟩
        go_wp2_with fail
        go_ret2
        exact ⟨by rw [HR.out.1, HR.out.2] <;> rfl, HBF.out⟩
  · obtain ⟨e1, e2⟩ := cost_no (am := am) (an := an) (p := p) (s := s) hc
    rw [e1, e2]
    have hne : (NM.checkE l != 0) = true := by simpa using hc
    generalize NM.checkE l = r at *
    clear e1 e2
    go_enter Try.func31, Try.ntmps31
    go_wp2_with fail
    refine C1.out.mono ?_
    rintro e w1 ⟨rfl, rfl⟩
    go_wp2_with fail
    go_ret2
    exact ⟨rfl, HB0.out⟩
end Go.Proofs.Ytafdjiilmogcjaa

/- Trades in memory, over any program. -/
namespace Go.Recs
open Go.RowKit
set_option linter.unusedVariables false
def trdV (t : TM.Trd) : List Value := [.int .i64 t.id, .int .i64 t.day, .int .i64 t.time, .string t.ser.prod, .int .i64 t.ser.kind, .int .i64 t.ser.expiry, .int .i64 t.ser.strike, .int .i64 t.qty, .int .i64 t.price, .string t.bm, .string t.bn, .string t.sm, .string t.sn]
def trdQ (t : TM.Trd) : Prop := i64 t.id ∧ i64 t.day ∧ i64 t.time ∧ serQ t.ser ∧ i64 t.qty ∧ i64 t.price ∧ t.bm.size ≤ maxLen ∧ t.bn.size ≤ maxLen ∧ t.sm.size ≤ maxLen ∧ t.sn.size ≤ maxLen
def trdL : List Leaf := [.int .i64, .int .i64, .int .i64, .str, .int .i64, .int .i64, .int .i64, .int .i64, .int .i64, .str, .str, .str, .str]
theorem trd_row (r : List Value) (h : okAll trdL r) : ∃ t : TM.Trd, r = trdV t ∧ trdQ t := by
  obtain ⟨c0, r0, rfl, ⟨n0, rfl, h0⟩, g0⟩ := okAll_cons h
  obtain ⟨c1, r1, rfl, ⟨n1, rfl, h1⟩, g1⟩ := okAll_cons g0
  obtain ⟨c2, r2, rfl, ⟨n2, rfl, h2⟩, g2⟩ := okAll_cons g1
  obtain ⟨c3, r3, rfl, ⟨s3, rfl, h3⟩, g3⟩ := okAll_cons g2
  obtain ⟨c4, r4, rfl, ⟨n4, rfl, h4⟩, g4⟩ := okAll_cons g3
  obtain ⟨c5, r5, rfl, ⟨n5, rfl, h5⟩, g5⟩ := okAll_cons g4
  obtain ⟨c6, r6, rfl, ⟨n6, rfl, h6⟩, g6⟩ := okAll_cons g5
  obtain ⟨c7, r7, rfl, ⟨n7, rfl, h7⟩, g7⟩ := okAll_cons g6
  obtain ⟨c8, r8, rfl, ⟨n8, rfl, h8⟩, g8⟩ := okAll_cons g7
  obtain ⟨c9, r9, rfl, ⟨s9, rfl, h9⟩, g9⟩ := okAll_cons g8
  obtain ⟨c10, r10, rfl, ⟨s10, rfl, h10⟩, g10⟩ := okAll_cons g9
  obtain ⟨c11, r11, rfl, ⟨s11, rfl, h11⟩, g11⟩ := okAll_cons g10
  obtain ⟨c12, r12, rfl, ⟨s12, rfl, h12⟩, g12⟩ := okAll_cons g11
  rw [okAll_nil g12]
  exact ⟨⟨n0, n1, n2, ⟨s3, n4, n5, n6⟩, n7, n8, s9, s10, s11, s12⟩, rfl, bounds_i64 h0, bounds_i64 h1, bounds_i64 h2, ⟨h3, bounds_i64 h4, bounds_i64 h5, bounds_i64 h6⟩, bounds_i64 h7, bounds_i64 h8, h9, h10, h11, h12⟩
abbrev Trds := TR trdV trdQ 13
theorem trds_get {w : World} {A : Option Addr} {l : List TM.Trd} (h : Trds w A l) {k : Nat} (hk : k < l.length) :
    ∃ b off, ∃ t : TM.Trd, A = some ⟨b, off, none⟩ ∧ b < w.heap.size ∧ Hid (TM.tAt l k = t) ∧ trdQ t ∧ w.cell? ⟨b, off + k * 13, none⟩ = some (.int .i64 t.id) ∧ w.cell? ⟨b, off + k * 13 + 1, none⟩ = some (.int .i64 t.day) ∧
      w.cell? ⟨b, off + k * 13 + 2, none⟩ = some (.int .i64 t.time) ∧ w.cell? ⟨b, off + k * 13 + 3, none⟩ = some (.string t.ser.prod) ∧ w.cell? ⟨b, off + k * 13 + 4, none⟩ = some (.int .i64 t.ser.kind) ∧
      w.cell? ⟨b, off + k * 13 + 5, none⟩ = some (.int .i64 t.ser.expiry) ∧ w.cell? ⟨b, off + k * 13 + 6, none⟩ = some (.int .i64 t.ser.strike) ∧ w.cell? ⟨b, off + k * 13 + 7, none⟩ = some (.int .i64 t.qty) ∧
      w.cell? ⟨b, off + k * 13 + 8, none⟩ = some (.int .i64 t.price) ∧ w.cell? ⟨b, off + k * 13 + 9, none⟩ = some (.string t.bm) ∧ w.cell? ⟨b, off + k * 13 + 10, none⟩ = some (.string t.bn) ∧
      w.cell? ⟨b, off + k * 13 + 11, none⟩ = some (.string t.sm) ∧ w.cell? ⟨b, off + k * 13 + 12, none⟩ = some (.string t.sn) := by
  obtain ⟨b, off, rfl, hb, hq, hc⟩ := h.at_ hk
  exact ⟨b, off, l[k], rfl, hb, Lib.hid (TM.tAt_get hk), hq, hc 0 (by omega), hc 1 (by omega), hc 2 (by omega), hc 3 (by omega), hc 4 (by omega), hc 5 (by omega), hc 6 (by omega), hc 7 (by omega), hc 8 (by omega), hc 9 (by omega), hc 10 (by omega), hc 11 (by omega), hc 12 (by omega)⟩
/-- all cells of record k at once -/
def TCell (w : World) (b o : Nat) (t : TM.Trd) : Prop := w.cell? ⟨b, o, none⟩ = some (.int .i64 t.id) ∧ w.cell? ⟨b, o + 1, none⟩ = some (.int .i64 t.day) ∧
      w.cell? ⟨b, o + 2, none⟩ = some (.int .i64 t.time) ∧ w.cell? ⟨b, o + 3, none⟩ = some (.string t.ser.prod) ∧ w.cell? ⟨b, o + 4, none⟩ = some (.int .i64 t.ser.kind) ∧
      w.cell? ⟨b, o + 5, none⟩ = some (.int .i64 t.ser.expiry) ∧ w.cell? ⟨b, o + 6, none⟩ = some (.int .i64 t.ser.strike) ∧ w.cell? ⟨b, o + 7, none⟩ = some (.int .i64 t.qty) ∧
      w.cell? ⟨b, o + 8, none⟩ = some (.int .i64 t.price) ∧ w.cell? ⟨b, o + 9, none⟩ = some (.string t.bm) ∧ w.cell? ⟨b, o + 10, none⟩ = some (.string t.bn) ∧
      w.cell? ⟨b, o + 11, none⟩ = some (.string t.sm) ∧ w.cell? ⟨b, o + 12, none⟩ = some (.string t.sn)
theorem trdV_one (l : List TM.Trd) : ∀ r ∈ l.map trdV, ∀ u ∈ r, u.oneCell' = true := by
  intro r hr
  obtain ⟨t, _, rfl⟩ := List.mem_map.1 hr
  intro u hu
  simp only [trdV, List.mem_cons, List.not_mem_nil, or_false] at hu
  rcases hu with rfl | rfl | rfl | rfl | rfl | rfl | rfl | rfl | rfl | rfl | rfl | rfl | rfl <;> rfl
end Go.Recs

/- A trade in a box and in slices. -/
namespace Go.Proofs.Ytafdjiilmogcjaa
open Go.RowKit Go.Recs
set_option linter.unusedVariables false
set_option linter.unusedSimpArgs false
abbrev trdA (t : TM.Trd) : Value := .agg #[.int .i64 t.id, .int .i64 t.day, .int .i64 t.time, .string t.ser.prod, .int .i64 t.ser.kind, .int .i64 t.ser.expiry, .int .i64 t.ser.strike, .int .i64 t.qty, .int .i64 t.price, .string t.bm, .string t.bn, .string t.sm, .string t.sn]
abbrev trdC (t : TM.Trd) : Array Value := #[.int .i64 t.id, .int .i64 t.day, .int .i64 t.time, .string t.ser.prod, .int .i64 t.ser.kind, .int .i64 t.ser.expiry, .int .i64 t.ser.strike, .int .i64 t.qty, .int .i64 t.price, .string t.bm, .string t.bn, .string t.sm, .string t.sn]
theorem info_trd : (Try.prog.info? 45).map (fun i => (i.zero, i.size, i.bytes)) = some (some (trdA TM.zero), 13, 144) := by kernel_rfl
end Go.Proofs.Ytafdjiilmogcjaa

/- Contracts of layer 13: the legs of one trade, and what takes one back. -/
namespace Go.Proofs.Ytafdjiilmogcjaa
open Go.RowKit Go.Recs
set_option linter.unusedVariables false
set_option linter.unusedSimpArgs false
theorem wrap_min : wrap64 9223372036854775808 = -9223372036854775808 := by kernel_rfl
theorem neg64_min : NM.neg64 (-9223372036854775808) = -9223372036854775808 := rfl
theorem neg64_other {x : Int} (h : ¬ x = -9223372036854775808) : NM.neg64 x = -x := by unfold NM.neg64; rw [if_neg h]
theorem neg64_i64 {x : Int} (h : i64 x) : i64 (NM.neg64 x) := by
  unfold NM.neg64 i64 at *
  split <;> omega
set_option maxHeartbeats 1000000 in
theorem nundo_any (x : NM.Leg) (w : World) (hq : legQ x) :
    Calls Try.prog 20 #[legA x] w fun e w' => e = .returned (legA (NM.undo x)) ∧ Below w.heap.size w w' := by
  obtain ⟨am, an, s, q, p, t⟩ := x
  obtain ⟨-, -, -, ⟨q1, q2⟩, -, -⟩ := hq
  simp only at q1 q2
  have HB0 := Lib.hid (fun (a b : Array Value) => ((Below.refl w.heap.size w).alloc (Nat.le_refl _) (.cells a 47)).alloc (by simp) (.cells b 47))
  unfold NM.undo
  simp only
  by_cases h : q = -9223372036854775808
  · subst h
    rw [neg64_min]
    have hw := wrap_min
    go_enter Try.func20, Try.ntmps20
    go_wp2_with fail
    (try simp only [Exit.inBlock, Exit.then])
    exact bodyPost_ret (results_leg (x := ⟨am, an, s, -9223372036854775808, p, t⟩) rfl _ _ _ rfl (CB.new1 _ _ _ _)) rfl ⟨rfl, HB0.out _ _⟩
  · rw [neg64_other h]
    have h1 : -9223372036854775807 ≤ q := by omega
    clear h q1
    go_enter Try.func20, Try.ntmps20
    go_wp2_with fail
    (try simp only [Exit.inBlock, Exit.then])
    exact bodyPost_ret (results_leg (x := ⟨am, an, s, -q, p, t⟩) rfl _ _ _ rfl (CB.new1 _ _ _ _)) rfl ⟨rfl, HB0.out _ _⟩
set_option maxHeartbeats 1000000 in
theorem rundo13_any (x : NM.Leg) (w : World) (hq : legQ x) :
    Calls Try.prog 21 #[legA x] w fun e w' => e = .returned (legA (NM.undo x)) ∧ Below w.heap.size w w' := by
  obtain ⟨am, an, s, q, p, t⟩ := x
  obtain ⟨-, -, -, ⟨q1, q2⟩, -, -⟩ := hq
  simp only at q1 q2
  have HB0 := Lib.hid (fun (a b : Array Value) => ((Below.refl w.heap.size w).alloc (Nat.le_refl _) (.cells a 47)).alloc (by simp) (.cells b 47))
  unfold NM.undo
  simp only
  by_cases h : q = -9223372036854775808
  · subst h
    rw [neg64_min]
    have hw := wrap_min
    go_enter Try.func21, Try.ntmps21
    go_wp2_with fail
    (try simp only [Exit.inBlock, Exit.then])
    exact bodyPost_ret (results_leg (x := ⟨am, an, s, -9223372036854775808, p, t⟩) rfl _ _ _ rfl (CB.new1 _ _ _ _)) rfl ⟨rfl, HB0.out _ _⟩
  · rw [neg64_other h]
    have h1 : -9223372036854775807 ≤ q := by omega
    clear h q1
    go_enter Try.func21, Try.ntmps21
    go_wp2_with fail
    (try simp only [Exit.inBlock, Exit.then])
    exact bodyPost_ret (results_leg (x := ⟨am, an, s, -q, p, t⟩) rfl _ _ _ rfl (CB.new1 _ _ _ _)) rfl ⟨rfl, HB0.out _ _⟩

abbrev legW (w : World) (t : TM.Trd) (a b : ByteArray) (q : Int) : World := ((w.alloc (.cells (trdC t) 90)).alloc (.cells (kC a b) 26)).alloc (.cells (legC ⟨a, b, t.ser, q, t.price, t.id⟩) 47)
set_option maxHeartbeats 1000000 in
theorem nleg_any (t : TM.Trd) (a b : ByteArray) (q : Int) (w : World) :
    Calls Try.prog 44 #[trdA t, kA a b, .int .i64 q] w fun e w' => e = .returned (legA ⟨a, b, t.ser, q, t.price, t.id⟩) ∧ w' = legW w t a b q := by
  go_enter Try.func44, Try.ntmps44
  go_wp2_with fail
  (try simp only [Exit.inBlock, Exit.then])
  exact bodyPost_ret (results_leg (x := ⟨a, b, t.ser, q, t.price, t.id⟩) rfl _ _ _ rfl (CB.new2 _ _ _ _ _)) rfl ⟨rfl, rfl⟩

set_option maxHeartbeats 2000000 in
theorem rlegs13_any (t : TM.Trd) (w : World) (hq : trdQ t) :
    Calls Try.prog 18 #[trdA t] w fun e w' => e = .returned (.tuple #[legA (NM.bought t), legA (NM.sold t)]) ∧ Below w.heap.size w w' := by
  obtain ⟨-, -, -, -, ⟨q1, q2⟩, -, -, -, -, -⟩ := hq
  have HB0 := Lib.hid (fun a b c d e => below_al (below_al (below_al (below_al (below_al (Below.refl w.heap.size w) a) b) c) d) e)
  by_cases h : t.qty = -9223372036854775808
  · have e1 : NM.sold t = ⟨t.sm, t.sn, t.ser, -9223372036854775808, t.price, t.id⟩ := by unfold NM.sold; rw [h]; rfl
    obtain ⟨id, day, time, s, q, p, bm, bn, sm, sn⟩ := t
    simp only at h
    subst h
    rw [e1]
    have hw := wrap_min
    clear e1 q1 q2
    unfold NM.bought
    go_enter Try.func18, Try.ntmps18
    go_wp2_with fail
    go_region
    all_goals (
      go_wp2_with fail
      (try simp only [Exit.inBlock, Exit.then])
      exact bodyPost_ret (results_legs (x := ⟨bm, bn, s, -9223372036854775808, p, id⟩) (y := ⟨sm, sn, s, -9223372036854775808, p, id⟩) rfl _ _ _ _ rfl rfl ((((CB.new1 _ _ _ _).alloc _).alloc _).alloc _) (((CB.new2 _ _ _ _ _).alloc _).alloc _)) rfl ⟨rfl, (HB0.out _ _ _ _ _).drew⟩)
  · have e1 : NM.sold t = ⟨t.sm, t.sn, t.ser, -t.qty, t.price, t.id⟩ := by unfold NM.sold; rw [neg64_other h]
    have h1 : -9223372036854775807 ≤ t.qty := by omega
    rw [e1]
    clear e1 h q1
    unfold NM.bought
    go_enter Try.func18, Try.ntmps18
    go_wp2_with fail
    go_region
    all_goals (
      go_wp2_with fail
      (try simp only [Exit.inBlock, Exit.then])
      exact bodyPost_ret (results_legs (x := ⟨t.bm, t.bn, t.ser, t.qty, t.price, t.id⟩) (y := ⟨t.sm, t.sn, t.ser, -t.qty, t.price, t.id⟩) rfl _ _ _ _ rfl rfl ((((CB.new1 _ _ _ _).alloc _).alloc _).alloc _) (((CB.new2 _ _ _ _ _).alloc _).alloc _)) rfl ⟨rfl, (HB0.out _ _ _ _ _).drew⟩)

end Go.Proofs.Ytafdjiilmogcjaa

/- Contracts of layer 13: the legs of one trade, the program's. -/
namespace Go.Proofs.Ytafdjiilmogcjaa
open Go.RowKit Go.Recs
set_option linter.unusedVariables false
set_option linter.unusedSimpArgs false
theorem nleg_below (t : TM.Trd) (a b : ByteArray) (q : Int) (w : World) :
    Calls Try.prog 44 #[trdA t, kA a b, .int .i64 q] w fun e w' => e = .returned (legA ⟨a, b, t.ser, q, t.price, t.id⟩) ∧ Below w.heap.size w w' := by
  refine (nleg_any t a b q w).mono ?_
  rintro e w' ⟨rfl, rfl⟩
  exact ⟨rfl, below_al (below_al (below_al (Below.refl w.heap.size w) _) _) _⟩
theorem put9_below {a w : World} {B g : Nat} {c0 c1 c2 c3 c4 c5 c6 c7 c8 : Value} (h : Below B a w) (hg : B ≤ g) : Below B a (((((((((w.setCell ⟨g, 0, none⟩ c0).setCell ⟨g, 1, none⟩ c1).setCell ⟨g, 2, none⟩ c2).setCell ⟨g, 3, none⟩ c3).setCell ⟨g, 4, none⟩ c4).setCell ⟨g, 5, none⟩ c5).setCell ⟨g, 6, none⟩ c6).setCell ⟨g, 7, none⟩ c7).setCell ⟨g, 8, none⟩ c8) :=
  ((((((((h.setCell (p := ⟨g, 0, none⟩) hg _).setCell (p := ⟨g, 1, none⟩) hg _).setCell (p := ⟨g, 2, none⟩) hg _).setCell (p := ⟨g, 3, none⟩) hg _).setCell (p := ⟨g, 4, none⟩) hg _).setCell (p := ⟨g, 5, none⟩) hg _).setCell (p := ⟨g, 6, none⟩) hg _).setCell (p := ⟨g, 7, none⟩) hg _).setCell (p := ⟨g, 8, none⟩) hg _
theorem CB.put9 {w : World} {g : Nat} {ty : TypeId} {d0 d1 d2 d3 d4 d5 d6 d7 d8 c0 c1 c2 c3 c4 c5 c6 c7 c8 : Value} (h : CB w g ty #[d0, d1, d2, d3, d4, d5, d6, d7, d8]) : CB (((((((((w.setCell ⟨g, 0, none⟩ c0).setCell ⟨g, 1, none⟩ c1).setCell ⟨g, 2, none⟩ c2).setCell ⟨g, 3, none⟩ c3).setCell ⟨g, 4, none⟩ c4).setCell ⟨g, 5, none⟩ c5).setCell ⟨g, 6, none⟩ c6).setCell ⟨g, 7, none⟩ c7).setCell ⟨g, 8, none⟩ c8) g ty #[c0, c1, c2, c3, c4, c5, c6, c7, c8] := by
  have := ((((((((h.set_ 0 c0).set_ 1 c1).set_ 2 c2).set_ 3 c3).set_ 4 c4).set_ 5 c5).set_ 6 c6).set_ 7 c7).set_ 8 c8
  simpa using this
theorem CB.far9 {w : World} {g j : Nat} {ty : TypeId} {cs : Array Value} {c0 c1 c2 c3 c4 c5 c6 c7 c8 : Value} (h : CB w j ty cs) (hne : j ≠ g) : CB (((((((((w.setCell ⟨g, 0, none⟩ c0).setCell ⟨g, 1, none⟩ c1).setCell ⟨g, 2, none⟩ c2).setCell ⟨g, 3, none⟩ c3).setCell ⟨g, 4, none⟩ c4).setCell ⟨g, 5, none⟩ c5).setCell ⟨g, 6, none⟩ c6).setCell ⟨g, 7, none⟩ c7).setCell ⟨g, 8, none⟩ c8) j ty cs :=
  ((((((((h.far (p := ⟨g, 0, none⟩) hne _).far (p := ⟨g, 1, none⟩) hne _).far (p := ⟨g, 2, none⟩) hne _).far (p := ⟨g, 3, none⟩) hne _).far (p := ⟨g, 4, none⟩) hne _).far (p := ⟨g, 5, none⟩) hne _).far (p := ⟨g, 6, none⟩) hne _).far (p := ⟨g, 7, none⟩) hne _).far (p := ⟨g, 8, none⟩) hne _
theorem wrap_neg {q : Int} (h1 : -9223372036854775808 ≤ q) (h2 : q ≤ 9223372036854775807) : IntKind.i64.wrap (-q) = NM.neg64 q := by
  by_cases h : q = -9223372036854775808
  · subst h; kernel_rfl
  · rw [neg64_other h, IntWalk.i64_left]
    exact IntWalk.wrap64_in _ ⟨by omega, by omega⟩
theorem drewN_one (w : World) : w.drewN 1 = w.drew := rfl
theorem below_part {w a b : World} (h : Below w.heap.size w a) (hb : Below (w.heap.size + 1) a b) : Below w.heap.size w b := h.trans (hb.mono (Nat.le_succ _))
set_option maxHeartbeats 8000000 in
theorem nlegs_any (t : TM.Trd) (w : World) (hq : trdQ t) :
    Calls Try.prog 17 #[trdA t] w fun e w' => e = .returned (.tuple #[legA (NM.bought t), legA (NM.sold t)]) ∧ Below w.heap.size w w' := by
  obtain ⟨-, -, -, -, ⟨q1, q2⟩, -, -, -, -, -⟩ := hq
  have hmf : ∀ (fn : Fn) (first cap : Array Value) (w : World), (Instr.makeFunc fn first cap).run Try.prog w = .ok (.func fn first cap) w := fun _ _ _ _ => rfl
  have C := Lib.hid (fun a b q ww => nleg_below t a b q ww)
  have HT : Hid (CB (((w.alloc (.cells (trdC t) 45)).alloc (.cells #[.string ⟨#[]⟩, .string ⟨#[]⟩, .string ⟨#[]⟩, .int .i64 0, .int .i64 0, .int .i64 0, .int .i64 0, .int .i64 0, .int .i64 0] 47)).alloc (.cells #[.string ⟨#[]⟩, .string ⟨#[]⟩, .string ⟨#[]⟩, .int .i64 0, .int .i64 0, .int .i64 0, .int .i64 0, .int .i64 0, .int .i64 0] 47)) w.heap.size 45 (trdC t)) := Lib.hid (((CB.new w 45 (trdC t)).alloc _).alloc _)
  have H1 : Hid (CB (((w.alloc (.cells (trdC t) 45)).alloc (.cells #[.string ⟨#[]⟩, .string ⟨#[]⟩, .string ⟨#[]⟩, .int .i64 0, .int .i64 0, .int .i64 0, .int .i64 0, .int .i64 0, .int .i64 0] 47)).alloc (.cells #[.string ⟨#[]⟩, .string ⟨#[]⟩, .string ⟨#[]⟩, .int .i64 0, .int .i64 0, .int .i64 0, .int .i64 0, .int .i64 0, .int .i64 0] 47)) (w.heap.size + 1) 47 #[.string ⟨#[]⟩, .string ⟨#[]⟩, .string ⟨#[]⟩, .int .i64 0, .int .i64 0, .int .i64 0, .int .i64 0, .int .i64 0, .int .i64 0]) := Lib.hid ((CB.new1 w (.cells (trdC t) 45) 47 _).alloc _)
  have H2 : Hid (CB (((w.alloc (.cells (trdC t) 45)).alloc (.cells #[.string ⟨#[]⟩, .string ⟨#[]⟩, .string ⟨#[]⟩, .int .i64 0, .int .i64 0, .int .i64 0, .int .i64 0, .int .i64 0, .int .i64 0] 47)).alloc (.cells #[.string ⟨#[]⟩, .string ⟨#[]⟩, .string ⟨#[]⟩, .int .i64 0, .int .i64 0, .int .i64 0, .int .i64 0, .int .i64 0, .int .i64 0] 47)) (w.heap.size + 1 + 1) 47 #[.string ⟨#[]⟩, .string ⟨#[]⟩, .string ⟨#[]⟩, .int .i64 0, .int .i64 0, .int .i64 0, .int .i64 0, .int .i64 0, .int .i64 0]) := Lib.hid (CB.new2 w (.cells (trdC t) 45) _ 47 _)
  have HB3 : Hid (Below w.heap.size w (((w.alloc (.cells (trdC t) 45)).alloc (.cells #[.string ⟨#[]⟩, .string ⟨#[]⟩, .string ⟨#[]⟩, .int .i64 0, .int .i64 0, .int .i64 0, .int .i64 0, .int .i64 0, .int .i64 0] 47)).alloc (.cells #[.string ⟨#[]⟩, .string ⟨#[]⟩, .string ⟨#[]⟩, .int .i64 0, .int .i64 0, .int .i64 0, .int .i64 0, .int .i64 0, .int .i64 0] 47))) := Lib.hid (below_al (below_al (below_al (Below.refl w.heap.size w) _) _) _)
  have HSF : Hid (∀ ww, Below (w.heap.size + 1) (((w.alloc (.cells (trdC t) 45)).alloc (.cells #[.string ⟨#[]⟩, .string ⟨#[]⟩, .string ⟨#[]⟩, .int .i64 0, .int .i64 0, .int .i64 0, .int .i64 0, .int .i64 0, .int .i64 0] 47)).alloc (.cells #[.string ⟨#[]⟩, .string ⟨#[]⟩, .string ⟨#[]⟩, .int .i64 0, .int .i64 0, .int .i64 0, .int .i64 0, .int .i64 0, .int .i64 0] 47)) ww → ww.cell? ⟨w.heap.size, 7, none⟩ = some (.int .i64 t.qty) ∧ ww.cell? ⟨w.heap.size, 9, none⟩ = some (.string t.bm) ∧ ww.cell? ⟨w.heap.size, 10, none⟩ = some (.string t.bn) ∧ ww.cell? ⟨w.heap.size, 11, none⟩ = some (.string t.sm) ∧ ww.cell? ⟨w.heap.size, 12, none⟩ = some (.string t.sn)) := Lib.hid (fun ww h => by
    have hh := HT.out.below h (Nat.lt_succ_self _)
    exact ⟨hh.cell 7, hh.cell 9, hh.cell 10, hh.cell 11, hh.cell 12⟩)
  have HZ : Hid (w.heap.size + 1 ≤ (((w.alloc (.cells (trdC t) 45)).alloc (.cells #[.string ⟨#[]⟩, .string ⟨#[]⟩, .string ⟨#[]⟩, .int .i64 0, .int .i64 0, .int .i64 0, .int .i64 0, .int .i64 0, .int .i64 0] 47)).alloc (.cells #[.string ⟨#[]⟩, .string ⟨#[]⟩, .string ⟨#[]⟩, .int .i64 0, .int .i64 0, .int .i64 0, .int .i64 0, .int .i64 0, .int .i64 0] 47)).heap.size) := Lib.hid (by simp)
  clear HT
  have HG1 : Hid (w.heap.size + 1 ≤ w.heap.size + 1) := Lib.hid (Nat.le_refl _)
  have HG2 : Hid (w.heap.size + 1 ≤ w.heap.size + 1 + 1) := Lib.hid (Nat.le_succ _)
  have hw : IntKind.i64.wrap (-t.qty) = NM.neg64 t.qty := wrap_neg q1 q2
  have e1 : NM.sold t = ⟨t.sm, t.sn, t.ser, NM.neg64 t.qty, t.price, t.id⟩ := rfl
  rw [e1]
  generalize NM.neg64 t.qty = y at *
  clear e1 q1 q2
  unfold NM.bought
  go_enter Try.func17, Try.ntmps17
  go_wp2_with fail
  generalize ((w.alloc (.cells (trdC t) 45)).alloc (.cells #[.string ⟨#[]⟩, .string ⟨#[]⟩, .string ⟨#[]⟩, .int .i64 0, .int .i64 0, .int .i64 0, .int .i64 0, .int .i64 0, .int .i64 0] 47)).alloc (.cells #[.string ⟨#[]⟩, .string ⟨#[]⟩, .string ⟨#[]⟩, .int .i64 0, .int .i64 0, .int .i64 0, .int .i64 0, .int .i64 0, .int .i64 0] 47) = w3 at *
  have HBw : Hid (Below (w.heap.size + 1) w3 w3.drew) := Lib.hid (Below.refl _ _).drew
  replace H1 := Lib.hid ((H1.out).drewN 1)
  replace H2 := Lib.hid ((H2.out).drewN 1)
  rw [drewN_one] at H1 H2
  go_region_held3 (fun ww => ww.cell? ⟨w.heap.size, 7, none⟩ = some (.int .i64 t.qty) ∧ ww.cell? ⟨w.heap.size, 9, none⟩ = some (.string t.bm) ∧ ww.cell? ⟨w.heap.size, 10, none⟩ = some (.string t.bn) ∧ ww.cell? ⟨w.heap.size, 11, none⟩ = some (.string t.sm) ∧ ww.cell? ⟨w.heap.size, 12, none⟩ = some (.string t.sn))
    (first | (with_reducible exact HSF.out _ HBw.out) | (with_reducible exact HSF.out _ (put9_below HBw.out HG1.out)) | (with_reducible exact HSF.out _ (put9_below HBw.out HG2.out)) | (with_reducible exact HSF.out _ (put9_below (put9_below HBw.out HG1.out) HG2.out)) | (with_reducible exact HSF.out _ (put9_below (put9_below HBw.out HG2.out) HG1.out)))
    (first
      | (go_at_call 44; refine (C.out _ _ _ _).mono ?_; rintro e w5 ⟨rfl, b5⟩; replace HBw := Lib.hid (HBw.out.trans (b5.mono (Nat.le_trans HZ.out HBw.out.size))); replace H1 := Lib.hid (H1.out.below b5 H1.out.lt); replace H2 := Lib.hid (H2.out.below b5 H2.out.lt); clear b5; have ak : ∀ i, w5.cell? ⟨w.heap.size + 1, i, none⟩ = _ := fun i => H1.out.cell i; have af : ∀ i, w5.frozen? ⟨w.heap.size + 1, i, none⟩ = false := fun i => H1.out.frozen i; have bk : ∀ i, w5.cell? ⟨w.heap.size + 1 + 1, i, none⟩ = _ := fun i => H2.out.cell i; have bf : ∀ i, w5.frozen? ⟨w.heap.size + 1 + 1, i, none⟩ = false := fun i => H2.out.frozen i))
  all_goals (
    clear HSF C hmf
    have hn1 : w.heap.size + 1 ≠ w.heap.size + 1 + 1 := by omega
    have HQ1 := Lib.hid hn1
    have HBF := Lib.hid (below_part HB3.out HBw.out)
    clear hn1 HBw HB3 HZ ak af bk bf
    go_wp2_with fail
    (try simp only [Exit.inBlock, Exit.then])
    refine bodyPost_ret (results_legs (x := ⟨t.bm, t.bn, t.ser, t.qty, t.price, t.id⟩) (y := ⟨t.sm, t.sn, t.ser, y, t.price, t.id⟩) rfl _ _ _ _ rfl rfl ?b1 ?b2) rfl ⟨rfl, ?b3⟩
    case b1 => exact CB.far9 (CB.put9 H1.out) HQ1.out
    case b2 => exact CB.put9 (CB.far9 H2.out HQ1.out.symm)
    case b3 => exact put9_below (put9_below HBF.out (Nat.le_succ _)) (Nat.le_trans (Nat.le_succ _) (Nat.le_succ _)))
end Go.Proofs.Ytafdjiilmogcjaa

/- 's = append(s, l...)', l a slice of records. Over any program. -/
namespace Go.Recs
open Go.RowKit
set_option linter.unusedVariables false
set_option linter.unusedSimpArgs false

theorem run_catR {P : Program} (w : World) (B : Nat) (rows more : List (List Value)) (ts t ty : TypeId) (sz bytes : Nat) (z : Value)
    (hu : P.underlying ts = some (.slice t)) (hinfo : (P.info? t).map (fun i => (i.zero, i.size, i.bytes)) = some (some z, sz, bytes)) (hz : z.cells.size = sz) (h0 : 0 < sz)
    (v : Value) (hown : OwnR w B t sz v rows) (A : Option Addr) (c : Nat) (hm : Recs w A sz more) (h1 : ∀ r ∈ more, ∀ u ∈ r, u.oneCell' = true)
    (hl : (rows.length + more.length) * bytes ≤ 140737488355328) (hmx : rows.length + more.length ≤ maxLen) (hB : B ≤ w.heap.size) :
    ∃ v' w', (Builtin.append_ #[ts, ts] ty #[v, .slice A more.length c]).run P w = .ok v' w' ∧ OwnR w' B t sz v' (rows ++ more) ∧ w.grownBy w' v.ownBlock := by
  obtain ⟨i0, hi, hz0, hz1, hz2⟩ := info_parts hinfo
  have hrr : ∀ r ∈ rows ++ more, r.length = sz := by
    intro r hr
    rcases List.mem_append.1 hr with hr | hr
    · exact hown.1 r hr
    · exact hm.2.1 r hr
  have key : ∀ ad, A = some ad → ∃ v' w', (Builtin.append_ #[ts, ts] ty #[v, .slice A more.length c]).run P w = .ok v' w' ∧ OwnR w' B t sz v' (rows ++ more) ∧ w.grownBy w' v.ownBlock := by
    rintro ad rfl
    have hcells : ∀ j u, more.flatten[j]? = some u → w.cell? (ad.add j) = some u := by
      intro j u hj
      rcases hm.2.2 with e | ⟨b, off, e, hb, hcell⟩
      · subst e; simp at hj
      · injection e with e
        subst e
        have hlt : j < more.flatten.length := by
          rcases Nat.lt_or_ge j more.flatten.length with h | h
          · exact h
          · rw [List.getElem?_eq_none h] at hj; cases hj
        rw [flat_len hm.2.1] at hlt
        have hi' : j / sz < more.length := Nat.div_lt_of_lt_mul (by rw [Nat.mul_comm]; exact hlt)
        have hj' : j % sz < sz := Nat.mod_lt _ h0
        have ej : j / sz * sz + j % sz = j := by rw [Nat.mul_comm]; exact Nat.div_add_mod j sz
        have e := flat_at hm.2.1 (j / sz) (j % sz) hi' hj'
        have e2 := hcell (j / sz) (j % sz) hi' hj'
        rw [ej] at e e2
        rw [add_at, e2, ← e, hj]
    obtain ⟨v', w', hr, h2, h3, _, _⟩ := run_append_own_at (P := P) w B ts ty t i0 z sz bytes hu hi hz0 hz1 hz2 hz h0 v rows.length rows.flatten hown.2 ad more.length c more.flatten
      (flat_len hm.2.1) hcells (fun u hu => by obtain ⟨r, hr, hur⟩ := List.mem_flatten.1 hu; exact h1 r hr u hur) hmx hl hB
    refine ⟨v', w', hr, ⟨hrr, ?_⟩, h3⟩
    rw [List.length_append, List.flatten_append]
    exact h2
  cases A with
  | some ad => exact key ad rfl
  | none =>
    have : more = [] := by
      rcases hm.2.2 with h | ⟨b, off, e, _⟩
      · exact h
      · cases e
    subst this
    refine ⟨v, w, ?_, by simpa using hown, World.grownBy.refl w _⟩
    rcases hown.form with ⟨hv, _⟩ | ⟨g, cap, hv, _, _, hnc⟩ <;> rw [hv]
    · simp [Builtin.append_, run_underlying hu, sizeOf, typeInfo, hi, Builtin.lenOf, Builtin.firstCells]
    · simp [Builtin.append_, run_underlying hu, sizeOf, typeInfo, hi, Builtin.lenOf, Builtin.firstCells, storeCells]
      omega

theorem wpList_catR {P : Program} {ops : Array Oper} {rest : List Oper} {o : Oper} {a : Act} {Q : Exit → Act → World → Prop} (w : World) (B : Nat) (rows more : List (List Value)) (x y : Operand) (ts t : TypeId) (sz bytes : Nat) (z : Value)
    (hu : P.underlying ts = some (.slice t)) (hinfo : (P.info? t).map (fun i => (i.zero, i.size, i.bytes)) = some (some z, sz, bytes)) (hz : z.cells.size = sz) (h0 : 0 < sz)
    (hgd : o.guard = none) (ho : o.op = .call { callee := .builtin .append, args := #[x, y], argTypes := #[ts, ts] })
    (v : Value) (A : Option Addr) (n c : Nat) (hs : a.eval x = v) (hx : a.eval y = .slice A n c) (hn : n = more.length) (hown : OwnR w B t sz v rows) (hm : Recs w A sz more) (h1 : ∀ r ∈ more, ∀ u ∈ r, u.oneCell' = true)
    (hl : (rows.length + more.length) * bytes ≤ 140737488355328) (hmx : rows.length + more.length ≤ maxLen) (hB : B ≤ w.heap.size)
    (h : ∀ v' w', OwnR w' B t sz v' (rows ++ more) → Below B w w' → w.grownBy w' v.ownBlock → wpList P ops Q rest (a.put o.dst v') w') :
    wpList P ops Q (o :: rest) a w := by
  subst hn
  obtain ⟨v', w', hr, h2, h3⟩ := run_catR w B rows more ts t o.type sz bytes z hu hinfo hz h0 v hown A c hm h1 hl hmx hB
  refine wpList_plain hgd fun K hK => ?_
  unfold Oper.wp execOp
  simp only [ho, resolve, invoke, builtin, Sem.run_bind, Sem.run_pure, Result.andThen_ok, List.map_toArray, List.map_cons, List.map_nil, hs, hx, hr]
  exact hK _ _ (h v' w' h2 ((Below.refl B w).grown h3 hB (OwnR.block hown)) h3)
end Go.Recs
