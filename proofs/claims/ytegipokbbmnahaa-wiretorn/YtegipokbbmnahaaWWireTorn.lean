import Derived.Test.YtegipokbbmnahaaWWireFrames
import Derived.Test.YtegipokbbmnahaaWWireSpoilt
import Derived.Test.YtegipokbbmnahaaTornMath
import Derived.WalkMore
namespace Go.Proofs.Ytegipokbbmnahaa.wireTorn
open Go.RowKit
set_option linter.unusedVariables false

theorem wpList_pushI {ops : Array Oper} {rest : List Oper} {o : Oper} {a : Act} {Q : Exit → Act → World → Prop} (w : World) (n : Int) (B : Nat) (zs : List Int) (x y : Operand) (va : Value) (la : List UInt8)
    (hgd : o.guard = none) (ho : o.op = .call { callee := .builtin .append, args := #[x, y], argTypes := #[69, 69] })
    (v : Value) (hs : a.eval x = v) (hx : a.eval y = .slice (some ⟨w.heap.size, 0, none⟩) 1 1) (hown : OwnV w B 3 v (zs.map (Value.int .i64))) (hq : OB w B va la) (hl : zs.length + 1 ≤ 1000000000) (hB : B ≤ w.heap.size)
    (h : ∀ v' w', OwnV w' B 3 v' ((zs ++ [n]).map (Value.int .i64)) → OB w' B va la → Below B w w' → wpList Try.prog ops Q rest (a.put o.dst v') w') :
    wpList Try.prog ops Q (o :: rest) a (w.alloc (.cells #[.int .i64 n] 3)) := by
  refine wpList_pushV w (.int .i64 n) rfl B (zs.map (Value.int .i64)) x y 69 3 8 (.int .i64 0) Try.underlying69 info_int rfl hgd ho v hs hx hown ?_ ?_ hB ?_
  · rw [List.length_map]; omega
  · rw [List.length_map]; unfold maxLen; omega
  · intro v' w' p1 p2 _ p4
    exact h v' w' (by rw [List.map_append]; exact p1) (OwnV.kept_by hq hown (by decide) p4) p2

/-- the first k frames, one behind the other -/
def FL (qs : List Pc) (k : Nat) : List UInt8 := XM.flat ((qs.map Pc.l).take k)
/-- where the first k of them end -/
def ZS (qs : List Pc) (k : Nat) : List Int := (List.range k).map fun j => ((FL qs (j + 1)).length : Int)
theorem FL.step {qs : List Pc} {k : Nat} (h : k < qs.length) : FL qs (k + 1) = FL qs k ++ XM.frame qs[k].l := by
  unfold FL
  rw [XM.flat_step _ (by rw [List.length_map]; exact h), List.getElem_map]
theorem FL.zero (qs : List Pc) : FL qs 0 = [] := by simp [FL, XM.flat]
theorem ZS.zero (qs : List Pc) : ZS qs 0 = [] := rfl
theorem ZS.step (qs : List Pc) (k : Nat) : ZS qs (k + 1) = ZS qs k ++ [((FL qs (k + 1)).length : Int)] := by
  unfold ZS
  rw [List.range_succ, List.map_append]; rfl
theorem ZS.len (qs : List Pc) (k : Nat) : (ZS qs k).length = k := by simp [ZS]
theorem ZS.at_ (qs : List Pc) {k j : Nat} (h : j < k) : ((ZS qs k).map (Value.int .i64))[j]? = some (.int .i64 ((FL qs (j + 1)).length : Int)) := by
  unfold ZS
  rw [List.map_map, List.getElem?_map, List.getElem?_range h]; rfl
theorem frame_pos (p : List UInt8) : 0 < (XM.frame p).length := List.length_pos_iff.2 (XM.frame_ne p)
theorem OB.some_ {w : World} {B : Nat} {v : Value} {l : List UInt8} (h : OB w B v l) (hl : 0 < l.length) : ∃ g c, v = .slice (some ⟨g, 0, none⟩) l.length c := by
  rcases OwnV.form h with ⟨_, h0⟩ | ⟨g, cp, e, _⟩
  · have : l = [] := by simpa using h0
    subst this; simp at hl
  · rw [List.length_map] at e
    exact ⟨g, cp, e⟩
theorem told {qs : List Pc} {K n r : Nat} (hK : K ≤ qs.length) (hs : ∀ j, j < K → ∀ h : j < qs.length, qs[j].l.length ≤ 5000) (hn : n ≤ K) (h1 : (FL qs n).length ≤ r) (h2 : n = K ∨ r < (FL qs (n + 1)).length) :
    XM.frames ((FL qs K).take r) = ((qs.map Pc.l).take n, (FL qs n).length) := by
  have e : ∀ m, m ≤ K → ((qs.map Pc.l).take K).take m = (qs.map Pc.l).take m := by
    intro m hm; rw [List.take_take, Nat.min_eq_left hm]
  have hl : ((qs.map Pc.l).take K).length = K := by rw [List.length_take, List.length_map]; omega
  have := XM.frames_cut (ps := (qs.map Pc.l).take K) (c := r) (n := n) ?_ (by omega) (by rw [e n hn]; exact h1) (by
    rcases h2 with h2 | h2
    · left; omega
    · by_cases hk : n = K
      · left; omega
      · right; rw [e (n + 1) (by omega)]; exact h2)
  · rw [e n hn] at this
    exact this
  · intro p hp
    obtain ⟨j, hj, rfl⟩ := List.mem_iff_getElem.1 hp
    rw [hl] at hj
    rw [List.getElem_take, List.getElem_map]
    have := hs j hj (by omega)
    omega

theorem same_at {qr qs : List Pc} {n j : Nat} (h : qr.map Pc.l = (qs.map Pc.l).take n) (h1 : j < qr.length) (h2 : j < qs.length) : qr[j].l = qs[j].l := by
  have e1 : (qr.map Pc.l)[j]? = some qr[j].l := by rw [List.getElem?_map, List.getElem?_eq_getElem h1]; rfl
  have hn : j < n := by
    have := congrArg List.length h
    rw [List.length_map, List.length_take, List.length_map] at this
    omega
  rw [h, List.getElem?_take_of_lt hn, List.getElem?_map, List.getElem?_eq_getElem h2] at e1
  injection e1 with e1
  exact e1.symm
theorem OB.empty (w : World) (B : Nat) (hB : B ≤ w.heap.size) : OB (w.alloc (.cells #[] 5)) B (.slice (some ⟨w.heap.size, 0, none⟩) 0 0) [] :=
  (World.ownsRow_lit (e := 5) (base := B) (size := 1) w #[] 0 hB (Nat.zero_le _) rfl : (w.alloc (.cells #[] 5)).ownsRow B 5 1 _ 0 [])
theorem OI.empty (w : World) (B : Nat) (hB : B ≤ w.heap.size) : OwnV (w.alloc (.cells #[] 3)) B 3 (.slice (some ⟨w.heap.size, 0, none⟩) 0 0) [] :=
  (World.ownsRow_lit (e := 3) (base := B) (size := 1) w #[] 0 hB (Nat.zero_le _) rfl : (w.alloc (.cells #[] 3)).ownsRow B 3 1 _ 0 [])

set_option maxHeartbeats 4000000 in
set_option maxRecDepth 100000 in
theorem walk (A : Option Addr) (cap : Nat) (qs : List Pc) (cut : Int) (w : World) (hA : Pcs w A qs) (_ : -9223372036854775808 ≤ cut ∧ cut ≤ 9223372036854775807) :
    Calls Try.prog 12 #[.slice A qs.length cap, .int .i64 cut] w fun e w' => e = .returned (.bool true) ∧ Below w.heap.size w w' := by
  have hlen := hA.len
  have HA := Lib.hid hA
  clear hA
  have ho0 : OB ((w.alloc (Obj.cells #[] 5)).alloc (Obj.cells #[] 3)) w.heap.size (.slice (some ⟨w.heap.size, 0, none⟩) 0 0) [] := OB.alloc (OB.empty w _ (Nat.le_refl _)) _
  have ho1 : OwnV ((w.alloc (Obj.cells #[] 5)).alloc (Obj.cells #[] 3)) w.heap.size 3 (.slice (some ⟨w.heap.size + 1, 0, none⟩) 0 0) [] := by
    have h := OI.empty (w.alloc (Obj.cells #[] 5)) w.heap.size (by simp)
    simpa using h
  have HO0 := Lib.hid ho0; have HO1 := Lib.hid ho1
  have HB0 := Lib.hid (((Below.refl w.heap.size w).alloc (Nat.le_refl _) (Obj.cells #[] 5)).alloc (by simp) (Obj.cells #[] 3))
  clear ho0 ho1
  go_enter Try.func12, Try.ntmps12
  go_wp2_with fail
  go_loopw [5, 6, 7] (fun va ve i wr => ∃ (k g c : Nat), k ≤ qs.length ∧ (FL qs k).length ≤ 10100 ∧ i = .int .i64 k ∧ va = .slice (some ⟨g, 0, none⟩) (FL qs k).length c ∧ Hid (∀ j, j < k → ∀ h : j < qs.length, qs[j].l.length ≤ 5000) ∧ Hid (OB wr w.heap.size va (FL qs k)) ∧ Hid (OwnV wr w.heap.size 3 ve ((ZS qs k).map (Value.int .i64))) ∧ Hid (Below w.heap.size w wr)) (fun _ _ i _ => qs.length - (intOf i).toNat)
  case atStart => exact ⟨0, w.heap.size, 0, by omega, by rw [FL.zero]; simp, rfl, by rw [FL.zero]; rfl, Lib.hid (fun j h => by omega), by rw [FL.zero]; exact HO0, by rw [ZS.zero]; exact HO1, HB0⟩
  case round =>
    clear HO0 HO1 HB0
    obtain ⟨k, g, c, hk, hfl, rfl, rfl, HS, HO, HE, HB⟩ := hrel
    by_cases hc : k < qs.length ∧ k < 50 ∧ (FL qs k).length < 5000
    · obtain ⟨hk1, hk2, hk3⟩ := hc
      have hst := FL.step hk1
      have hzs : (ZS qs k).map (Value.int .i64) ++ [.int .i64 ((FL qs (k + 1)).length : Int)] = (ZS qs (k + 1)).map (Value.int .i64) := by rw [ZS.step, List.map_append]; rfl
      have hzl := ZS.len qs k
      have hsk : qs[k].l.length ≤ 5000 → ∀ j, j < k + 1 → ∀ h : j < qs.length, qs[j].l.length ≤ 5000 := by
        intro h j hj h'
        by_cases e : j = k
        · subst e; exact h
        · exact HS.out j (by omega) h'
      have HSK := Lib.hid hsk
      obtain ⟨b0, off0, rfl, _, hcell, hby⟩ := (HA.out.below HB.out).get hk1
      have HBY := Lib.hid hby
      have hln := hby.len
      have hfr := wireSpoilt.frame_len qs[k].l
      have hfp := frame_pos qs[k].l
      clear hby hsk
      generalize qs[k] = q at *
      by_cases hq : 5000 < q.l.length
      · clear hst hzs hfr hfp
        go_wp2_with fail
        refine (goes4_any _).mono ?_
        rintro e w1 ⟨rfl, b1⟩
        have HB1 := Lib.hid (HB.out.trans (b1.mono HB.out.size))
        clear b1
        go_wp2_with fail
        go_ret
        exact ⟨rfl, HB1.out⟩
      · have hel := enc_len (XM.up_lt (n := (q.l.length : Int)) ⟨by omega, by omega⟩)
        obtain ⟨_, _, e0, hby0⟩ := HO.out.bytes
        injection e0 with e01 e02 e03
        subst e01 e03
        have CP := putframe_any (some ⟨g, 0, none⟩) q.A (FL qs k).length c q.l.length q.c (FL qs k) q.l wr rfl rfl hby0 HBY.out (by omega) (by omega)
        rw [← hst] at CP
        have hlk : (FL qs (k + 1)).length = (FL qs k).length + (XM.frame q.l).length := by rw [hst, List.length_append]
        have hnx : (FL qs (k + 1)).length ≤ 10100 := by omega
        have hn0 : 0 < (FL qs (k + 1)).length := by omega
        have HCP := Lib.hid CP
        have HST := Lib.hid hst; have HZS := Lib.hid hzs
        generalize (FL qs k).length = N at *
        generalize (XM.frame q.l).length = NF at *
        clear hst hzs hfr hfp CP hby0 hel hlk
        go_wp2_with fail
        (with_reducible refine HCP.out.mono ?_)
        rintro e w1 ⟨⟨v1, rfl, o1⟩, b1⟩
        obtain ⟨g1, c1, rfl⟩ := OB.some_ o1 hn0
        have HO1 := Lib.hid (OB.base o1 HB.out.size)
        have HE1 := Lib.hid (OwnV.below HE.out b1)
        have HB1 := Lib.hid (HB.out.trans (b1.mono HB.out.size))
        clear o1 b1 hcell
        go_wp2_with (at_builtin; refine wpList_pushI _ ((FL qs (k + 1)).length : Int) w.heap.size (ZS qs k) _ _ _ _ rfl rfl _ rfl rfl HE1.out HO1.out ?c1 ?c2 ?_)
        case c1 => omega
        case c2 => exact HB1.out.size
        intro v2 w2 e2 o2 b2
        rw [HZS.out] at e2
        have HO2 := Lib.hid o2; have HE2 := Lib.hid e2
        have HB2 := Lib.hid (HB1.out.trans b2)
        clear o2 e2 b2
        go_wp2
        go_roundw
        case rel => exact ⟨k + 1, g1, c1, by omega, hnx, by go_num, rfl, Lib.hid (HSK.out (by omega)), HO2, HE2, HB2⟩
        case measure => simp [intOf]; omega
    · have HKQ := Lib.hid hk
      have hb1 := HO.out.bytes
      obtain ⟨_, _, e0, hby0⟩ := hb1
      injection e0 with e01 e02 e03
      subst e01 e03
      have hrm := wireSpoilt.OB.room HO.out
      have HBY := Lib.hid hby0
      have hcs : ¬ k < qs.length ∨ (k < qs.length ∧ ¬ k < 50) ∨ (k < qs.length ∧ k < 50 ∧ ¬ (FL qs k).length < 5000) := by omega
      clear hc hby0 HO
      generalize hN : (FL qs k).length = N at *
      have HN := Lib.hid hN
      obtain ⟨r, hr, hrl⟩ : ∃ r : Nat, (IntKind.u64.wrap cut).tmod ((N : Int) + 1) = (r : Int) ∧ r ≤ N := by
        have h0 : 0 ≤ IntKind.u64.wrap cut := by rw [IntKind.wrap_u64]; omega
        rw [Int.tmod_eq_emod_of_nonneg h0]
        refine ⟨(IntKind.u64.wrap cut % ((N : Int) + 1)).toNat, ?_, ?_⟩
        · have := Int.emod_nonneg (IntKind.u64.wrap cut) (b := (N : Int) + 1) (by omega)
          omega
        · have := Int.emod_lt_of_pos (IntKind.u64.wrap cut) (b := (N : Int) + 1) (by omega)
          have := Int.emod_nonneg (IntKind.u64.wrap cut) (b := (N : Int) + 1) (by omega)
          omega
      have htk : ((FL qs k).take r).length = r := by rw [List.length_take]; omega
      have CF := fun (cp : Nat) (h : r ≤ cp) => frames_any (some ⟨g, 0, none⟩) r cp ((FL qs k).take r) wr htk.symm (by omega) (Bytes.take_ HBY.out r) (by omega)
      have htold := fun (n : Nat) => told (qs := qs) (K := k) (n := n) (r := r) hk HS.out
      generalize hfe : XM.frames ((FL qs k).take r) = fe at *
      obtain ⟨fl, ft⟩ := fe
      have hrun := fun ww => run_to (g := g) (off := 0) (n := N) (cap := c) (h := r) (by omega) ww
      have hcf := CF c (by omega)
      dsimp only at hcf
      have HCF := Lib.hid hcf; have HT := Lib.hid htold
      have e1 : wrap64 ((IntKind.u64.wrap cut).tmod ((N : Int) + 1)) = (r : Int) := by
        rw [hr]; unfold wrap64; omega
      obtain ⟨AE, cE, rfl, hve⟩ := OwnV.vals HE.out
      rw [List.length_map, ZS.len]
      have HVE := Lib.hid hve
      clear hcf hve HE CF htold hfe htk HS HBY hN hr
      rcases hcs with hc | ⟨hc1, hc2⟩ | ⟨hc1, hc2, hc3⟩
      all_goals (
        go_wp2_with fail
        (with_reducible refine HCF.out.mono ?_)
        rintro e w1 ⟨⟨v1, rfl, o1⟩, b1⟩
        obtain ⟨AG, cG, qr, eqr, rfl, hpg⟩ := o1.pcs
        have HPG := Lib.hid hpg; have HQR := Lib.hid eqr
        have HVE1 := Lib.hid (HVE.out.below b1)
        have HB1 := Lib.hid (HB.out.trans (b1.mono HB.out.size))
        have hgl := hpg.len
        clear o1 b1 hpg eqr HCF HVE HB
        go_wp2_with fail
        go_loop [11, 12] (fun x y => ∃ n : Nat, n ≤ k ∧ (FL qs n).length ≤ r ∧ x = .int .i64 n ∧ y = .int .i64 ((FL qs n).length : Int)) (fun x _ => k - (intOf x).toNat)
        case atStart => exact ⟨0, by omega, by rw [FL.zero]; simp, rfl, by rw [FL.zero]; rfl⟩
        case round =>
          obtain ⟨n, hn, hnr, rfl, rfl⟩ := hrel
          by_cases hnx : n < k ∧ (FL qs (n + 1)).length ≤ r
          · obtain ⟨hnk, hnr2⟩ := hnx
            obtain ⟨bE, offE, rfl, _, hce⟩ := Vals.get HVE1.out (k := n) (by rw [List.length_map, ZS.len]; exact hnk)
            have hza := ZS.at_ qs hnk
            rw [List.getElem?_eq_getElem (by rw [List.length_map, ZS.len]; exact hnk)] at hza
            injection hza with hza
            rw [hza] at hce
            clear hza
            generalize hEE : (FL qs (n + 1)).length = E at *
            generalize (FL qs n).length = E0 at *
            have HEE := Lib.hid hEE
            clear hEE
            go_wp2_with fail
            go_round
            case rel => exact ⟨n + 1, by omega, by rw [HEE.out]; exact hnr2, by go_num, by rw [HEE.out]⟩
            case measure => simp [intOf]; omega
          · have hT := HT.out n hn hnr (by omega)
            have hq0 := HQR.out
            rw [show fl = (qs.map Pc.l).take n from congrArg Prod.fst hT] at hq0
            have hft : ft = (FL qs n).length := congrArg Prod.snd hT
            have hql : qr.length = n := by
              have := congrArg List.length hq0
              rw [List.length_map, List.length_take, List.length_map] at this
              omega
            have HQ := Lib.hid hq0
            clear hT HT hq0 HQR
            subst hft
            have hcs2 : (n < k ∧ r < (FL qs (n + 1)).length) ∨ ¬ n < k := by omega
            clear hnx
            rcases hcs2 with ⟨hnk, hnr2⟩ | hnk
            · obtain ⟨bE, offE, rfl, _, hce⟩ := Vals.get HVE1.out (k := n) (by rw [List.length_map, ZS.len]; exact hnk)
              have hza := ZS.at_ qs hnk
              rw [List.getElem?_eq_getElem (by rw [List.length_map, ZS.len]; exact hnk)] at hza
              injection hza with hza
              rw [hza] at hce
              clear hza HVE1
              generalize (FL qs (n + 1)).length = E at *
              generalize (FL qs n).length = E0 at *
              have e2 : ¬ (E : Int) ≤ (r : Int) := by omega
              have e3 : (n : Int) < (k : Int) := by omega
              obtain rfl := hql
              go_wp2_with fail
              have hPA := HA.out.below HB1.out
              have hPG := HPG.out
              have hqq : qr.length ≤ qs.length := by omega
              go_loopw [13] (fun i wr => ∃ j : Nat, j ≤ qr.length ∧ i = .int .i64 j ∧ ∃ m, wr = w1.drewN m) (fun i _ => qr.length - (intOf i).toNat)
              case atStart => exact ⟨0, by omega, rfl, 0, rfl⟩
              case round =>
                obtain ⟨j, hj, rfl, m, rfl⟩ := hrel
                by_cases hlt : j < qr.length
                · have hlt2 : j < qs.length := by omega
                  obtain ⟨g1, off1, rfl, hg1, hcell1, hby1⟩ := hPG.get hlt
                  obtain ⟨g2, off2, rfl, hg2, hcell2, hby2⟩ := hPA.get hlt2
                  have hl : qr[j].l = qs[j].l := same_at HQ.out hlt hlt2
                  generalize qr[j] = pa at *
                  generalize qs[j] = pb at *
                  have hcv1 : ∀ ww : Nat, (convert 40 9 (.slice pa.A pa.l.length pa.c)).run Try.prog (w1.drewN ww) = .ok (.string (S pa.l)) (w1.drewN ww) := fun ww => str_of (hby1.drewN ww) pa.c
                  have hcv2 : ∀ ww : Nat, (convert 40 9 (.slice pb.A pb.l.length pb.c)).run Try.prog (w1.drewN ww) = .ok (.string (S pa.l)) (w1.drewN ww) := fun ww => by rw [hl]; exact str_of (hby2.drewN ww) pb.c
                  generalize S pa.l = st at *
                  clear hPA hPG hby1 hby2 hl HA HPG HQ
                  have c1 : (0 : Int) ≤ (j : Int) := by omega
                  have c2 : (j : Int) < (qr.length : Int) := by omega
                  have c3 : (j : Int) < (qs.length : Int) := by omega
                  go_wp2
                  go_quiet (fail)
                  go_wp2
                  go_roundw
                  case rel => exact ⟨j + 1, by omega, by go_num, _, rfl⟩
                  case measure => simp [intOf]; omega
                · obtain rfl : j = qr.length := by omega
                  clear hPA hPG
                  go_wp2_with fail
                  refine (goes4_any _).mono ?_
                  rintro e w9 ⟨rfl, b9⟩
                  have HB8 := Lib.hid (below_drewN HB1.out m)
                  have HB9 := Lib.hid (HB8.out.trans (b9.mono HB8.out.size))
                  clear b9
                  go_wp2_with fail
                  go_ret
                  exact ⟨rfl, HB9.out⟩
            · clear HVE1
              generalize (FL qs n).length = E0 at *
              have e3 : ¬ (n : Int) < (k : Int) := by omega
              obtain rfl := hql
              go_wp2_with fail
              have hPA := HA.out.below HB1.out
              have hPG := HPG.out
              have hqq : qr.length ≤ qs.length := by omega
              go_loopw [13] (fun i wr => ∃ j : Nat, j ≤ qr.length ∧ i = .int .i64 j ∧ ∃ m, wr = w1.drewN m) (fun i _ => qr.length - (intOf i).toNat)
              case atStart => exact ⟨0, by omega, rfl, 0, rfl⟩
              case round =>
                obtain ⟨j, hj, rfl, m, rfl⟩ := hrel
                by_cases hlt : j < qr.length
                · have hlt2 : j < qs.length := by omega
                  obtain ⟨g1, off1, rfl, hg1, hcell1, hby1⟩ := hPG.get hlt
                  obtain ⟨g2, off2, rfl, hg2, hcell2, hby2⟩ := hPA.get hlt2
                  have hl : qr[j].l = qs[j].l := same_at HQ.out hlt hlt2
                  generalize qr[j] = pa at *
                  generalize qs[j] = pb at *
                  have hcv1 : ∀ ww : Nat, (convert 40 9 (.slice pa.A pa.l.length pa.c)).run Try.prog (w1.drewN ww) = .ok (.string (S pa.l)) (w1.drewN ww) := fun ww => str_of (hby1.drewN ww) pa.c
                  have hcv2 : ∀ ww : Nat, (convert 40 9 (.slice pb.A pb.l.length pb.c)).run Try.prog (w1.drewN ww) = .ok (.string (S pa.l)) (w1.drewN ww) := fun ww => by rw [hl]; exact str_of (hby2.drewN ww) pb.c
                  generalize S pa.l = st at *
                  clear hPA hPG hby1 hby2 hl HA HPG HQ
                  have c1 : (0 : Int) ≤ (j : Int) := by omega
                  have c2 : (j : Int) < (qr.length : Int) := by omega
                  have c3 : (j : Int) < (qs.length : Int) := by omega
                  go_wp2
                  go_quiet (fail)
                  go_wp2
                  go_roundw
                  case rel => exact ⟨j + 1, by omega, by go_num, _, rfl⟩
                  case measure => simp [intOf]; omega
                · obtain rfl : j = qr.length := by omega
                  clear hPA hPG
                  go_wp2_with fail
                  refine (goes4_any _).mono ?_
                  rintro e w9 ⟨rfl, b9⟩
                  have HB8 := Lib.hid (below_drewN HB1.out m)
                  have HB9 := Lib.hid (HB8.out.trans (b9.mono HB8.out.size))
                  clear b9
                  go_wp2_with fail
                  go_ret
                  exact ⟨rfl, HB9.out⟩)
end Go.Proofs.Ytegipokbbmnahaa.wireTorn
