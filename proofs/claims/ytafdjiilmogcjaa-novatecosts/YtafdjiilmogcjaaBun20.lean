/- Put together: Bun10. -/
import Derived.Test.YtafdjiilmogcjaaBun19
import Derived.Test.YtafdjiilmogcjaaBun15
import Derived.Deep.RegionHeld3
import Derived.IntWalk
import Derived.Test.YtafdjiilmogcjaaBun17
import Derived.Test.YtafdjiilmogcjaaBun16
import Derived.Test.YtafdjiilmogcjaaBun11
import Derived.SizedLaws
import Derived.ProofKit
import Derived.Test.YtafdjiilmogcjaaBun13
import Derived.Test.YtafdjiilmogcjaaBun14
import Derived.OpenShut
import Derived.ShutString
import Derived.ChangeOld
/- Put together: NovG, NovH, WNovateNets, SizedRec, OpenProd. -/
/- Contracts of layer 13: is the house flat? The program's, by a map. -/
namespace Go.Proofs.Ytafdjiilmogcjaa
open Go.RowKit Go.Recs Go.Maps
set_option linter.unusedVariables false
set_option linter.unusedSimpArgs false
abbrev iL (n : Int) : DataW Unit := .lit (.int .i64 n)
/-- what the map holds behind k legs -/
structure Held (l : List NM.Leg) (k : Nat) (D : DataW Unit) : Prop where
  at_ : ∀ s, serQ s → D.atKey (skey s) (iL 0) = iL (NM.fsum (NM.ofS s) l k)
  has_ : ∀ j, j < k → j < l.length → has D (skey (NM.lAt l j).ser) = true
  only : ∀ kl, has D kl = true → ∃ j, j < k ∧ j < l.length ∧ kl = skey (NM.lAt l j).ser
theorem Held.start (l : List NM.Leg) : Held l 0 (.map []) := ⟨fun s _ => by rw [NM.fsum_zero]; rfl, fun j h => by omega, fun kl h => by cases h⟩
theorem ofS_self (x : NM.Leg) : NM.ofS x.ser x = true := NM.seqB_iff.2 rfl
theorem ofS_other {s : EM.Ser} {x : NM.Leg} (h : s ≠ x.ser) : NM.ofS s x = false := by
  cases e : NM.ofS s x
  · rfl
  · exact absurd (NM.seqB_iff.1 e).symm h
set_option maxRecDepth 100000 in
theorem Held.step {l : List NM.Leg} {k : Nat} {D : DataW Unit} (h : Held l k D) (hD : IsMap D) (hk : k < l.length) (hq : serQ (NM.lAt l k).ser) :
    Held l (k + 1) (D.put (skey (NM.lAt l k).ser) (iL (NM.fsum (NM.ofS (NM.lAt l k).ser) l k + (NM.lAt l k).qty))) := by
  have hK := @skey_lit (NM.lAt l k).ser hq
  refine ⟨fun s hs => ?_, fun j hj hl => ?_, fun kl hkl => ?_⟩
  · by_cases e : s = (NM.lAt l k).ser
    · subst e
      rw [atKey_put_same hD hK, NM.fsum_hit hk (ofS_self _)]
    · rw [atKey_put_other (fun e2 => e (skey_inj hs hq e2)), h.at_ s hs, NM.fsum_miss hk (ofS_other e)]
  · by_cases e : skey (NM.lAt l j).ser = skey (NM.lAt l k).ser
    · rw [e]; exact has_put_same hD hK _
    · rw [has_put_other e]
      refine h.has_ j ?_ hl
      rcases Nat.lt_or_ge j k with g | g
      · exact g
      · obtain rfl : j = k := by omega
        exact absurd rfl e
  · by_cases e : kl = skey (NM.lAt l k).ser
    · exact ⟨k, by omega, hk, e⟩
    · rw [has_put_other e] at hkl
      obtain ⟨j, h1, h2, h3⟩ := h.only kl hkl
      exact ⟨j, by omega, h2, h3⟩
theorem owns_isMap {P : Program} {w : World} {k : TypeId} {R : Value → Option (DataW Unit × List MemPlace)} {b n : Nat} {D : DataW Unit} (h : w.ownsMap P k R b n D) : IsMap D := by
  obtain ⟨es, clock, _, _, _, rfl⟩ := h
  exact ⟨_, rfl⟩
theorem int_zero (u : World) : (zeroValue 3).run Try.prog u = .ok (.int .i64 0) u := by kernel_rfl
theorem map_under : Try.prog.underlying 97 = some (.map 43 3) := Try.underlying97

set_option maxHeartbeats 8000000 in
set_option maxRecDepth 100000 in
theorem nflat_any (A : Option Addr) (l : List NM.Leg) (n cap : Nat) (hn : n = l.length) (w : World) (hI : Legs w A l) :
    Calls Try.prog 28 #[.slice A n cap] w fun e w' => e = .returned (.bool (NM.flatB l)) ∧ Below w.heap.size w w' := by
  subst hn
  have hlen := hI.len
  have C1 := Lib.hid (ncheck_any A l l.length cap rfl w hI)
  have HI := Lib.hid hI
  clear hI
  by_cases hc : NM.checkE l = 0
  · have HQ : Hid (∀ k, k < l.length → serQ (NM.lAt l k).ser) := Lib.hid (fun k hk => by rw [NM.lAt_get hk]; exact (HI.out.2 _ (List.getElem_mem hk)).2.2.1)
    have KB := Lib.hid (fun s k => NM.fsum_bound (p := NM.ofS s) hc k)
    have hmx := (NM.check_inv hc).1
    have KQ := Lib.hid (fun k (hk : k < l.length) => NM.qty_bound hc hk)
    have KBAD : Hid (∀ j, j < l.length → ¬ NM.fsum (NM.ofS (NM.lAt l j).ser) l l.length = 0 → NM.flatB l = false) := Lib.hid (fun j hj h => NM.flat_bad hj (by rw [NM.house_ok hc, ← NM.fsum_end]; omega))
    have KYES : Hid ((∀ j, j < l.length → NM.fsum (NM.ofS (NM.lAt l j).ser) l l.length = 0) → NM.flatB l = true) := Lib.hid (fun h => NM.flat_yes hc fun j hj => by rw [NM.house_ok hc, ← NM.fsum_end, h j hj]; rfl)
    rw [hc] at C1
    generalize NM.flatB l = r at *
    have hmm := @run_makeMap Try.prog
    clear hc
    go_enter Try.func28, Try.ntmps28
    go_wp2_with fail
    refine C1.out.mono ?_
    rintro e w1 ⟨rfl, b1⟩
    have HB1 := Lib.hid b1
    have HI1 := Lib.hid (HI.out.below b1)
    have HOM : Hid ((w1.alloc (.map #[] 0)).ownsMap Try.prog 43 (plainElem (H := Unit) Try.prog 3) w1.heap.size 0 (.map [])) := Lib.hid (World.ownsMap_made _ _ _ _)
    clear b1 HI C1
    go_wp2_with fail
    go_loopw [5, 14] (fun _ i wr => ∃ (k : Nat) (D : DataW Unit), k ≤ l.length ∧ i = .int .i64 (k : Int) ∧ Hid (wr.ownsMap Try.prog 43 (plainElem Try.prog 3) w1.heap.size k D) ∧ Hid (Held l k D) ∧ Hid (Below w1.heap.size w1 wr)) (fun _ i _ => l.length - (intOf i).toNat)
    case atStart => exact ⟨0, .map [], by omega, rfl, HOM, Lib.hid (Held.start l), Lib.hid (below_al (Below.refl _ _) _)⟩
    case round =>
      obtain ⟨k, D, hk, rfl, HM, HH, HB⟩ := hrel
      by_cases hlt : k < l.length
      · obtain ⟨b, off, x, rfl, hb, HV, q, d0, d1, d2, d3, d4, d5, d6, d7, d8⟩ := legs_get (HI1.out.below HB.out) hlt
        have HX := Lib.hid (CB.new wr 47 (legC x))
        have HBx := Lib.hid (HB.out.alloc HB.out.size (.cells (legC x) 47))
        have HMx := Lib.hid (HM.out.alloc (.cells (legC x) 47))
        have hmb := HM.out.lt
        have HST := Lib.hid (HH.out.step (owns_isMap HM.out) hlt (HQ.out k hlt))
        have hat := HH.out.at_ x.ser q.2.2.1
        have hbd := KB.out x.ser k
        obtain ⟨c, st, w2, hat2, hwc, L0, L1, EN, gr1, ST⟩ := ownsMap_entry (w := (wr.alloc (.cells (legC x) 47)).drew) ser_law map_under Try.underlying3 int_zero HMx.out.drew (by unfold maxLen; omega) (skey_is q.2.2.1)
        obtain rfl : c = NM.fsum (NM.ofS x.ser) l k := by
          rw [hat] at hat2
          injection hat2 with e1
          injection e1 with e2 e3
          exact e3.symm
        rw [HV.out] at HST
        generalize hcc : NM.fsum (NM.ofS x.ser) l k = c at *
        clear hcc hat hat2
        have hqb := (KQ.out k hlt)
        rw [HV.out] at hqb
        have hwr : IntKind.i64.wrap (c + x.qty) = c + x.qty := by rw [IntWalk.i64_left]; exact IntWalk.wrap64_in _ ⟨by omega, by omega⟩
        obtain ⟨w3, SE, hown3, gr3⟩ := ST (c + x.qty) (WalkArith.wf_i64 ⟨by omega, by omega⟩)
        have HM3 := Lib.hid hown3
        have hne : wr.heap.size ≠ w1.heap.size := by omega
        have HSA : Hid ((fun ww : World => ww.cell? ⟨wr.heap.size, 2, none⟩ = some (.string x.ser.prod) ∧ ww.cell? ⟨wr.heap.size, 3, none⟩ = some (.int .i64 x.ser.kind) ∧ ww.cell? ⟨wr.heap.size, 4, none⟩ = some (.int .i64 x.ser.expiry) ∧ ww.cell? ⟨wr.heap.size, 5, none⟩ = some (.int .i64 x.ser.strike) ∧ ww.cell? ⟨wr.heap.size, 6, none⟩ = some (.int .i64 x.qty)) (wr.alloc (.cells (legC x) 47)).drew) := Lib.hid ⟨HX.out.cell 2, HX.out.cell 3, HX.out.cell 4, HX.out.cell 5, HX.out.cell 6⟩
        have hxl : wr.heap.size < (wr.alloc (.cells (legC x) 47)).drew.heap.size := HX.out.lt
        have hx2 : CB w2 wr.heap.size 47 (legC x) := (gr1.block _ hxl (by simpa using hne)).trans HX.out
        have hx3 : CB w3 wr.heap.size 47 (legC x) := (gr3.block _ hxl (by simpa using hne)).trans HX.out
        have HSB : Hid ((fun ww : World => ww.cell? ⟨wr.heap.size, 2, none⟩ = some (.string x.ser.prod) ∧ ww.cell? ⟨wr.heap.size, 3, none⟩ = some (.int .i64 x.ser.kind) ∧ ww.cell? ⟨wr.heap.size, 4, none⟩ = some (.int .i64 x.ser.expiry) ∧ ww.cell? ⟨wr.heap.size, 5, none⟩ = some (.int .i64 x.ser.strike) ∧ ww.cell? ⟨wr.heap.size, 6, none⟩ = some (.int .i64 x.qty)) w2) := Lib.hid ⟨hx2.cell 2, hx2.cell 3, hx2.cell 4, hx2.cell 5, hx2.cell 6⟩
        have HSC : Hid ((fun ww : World => ww.cell? ⟨wr.heap.size, 2, none⟩ = some (.string x.ser.prod) ∧ ww.cell? ⟨wr.heap.size, 3, none⟩ = some (.int .i64 x.ser.kind) ∧ ww.cell? ⟨wr.heap.size, 4, none⟩ = some (.int .i64 x.ser.expiry) ∧ ww.cell? ⟨wr.heap.size, 5, none⟩ = some (.int .i64 x.ser.strike) ∧ ww.cell? ⟨wr.heap.size, 6, none⟩ = some (.int .i64 x.qty)) w3) := Lib.hid ⟨hx3.cell 2, hx3.cell 3, hx3.cell 4, hx3.cell 5, hx3.cell 6⟩
        have HB3 : Hid (Below w1.heap.size w1 w3) := Lib.hid (HBx.out.drew.grown gr3 HBx.out.drew.size (fun j hj => by injection hj with hj; omega))
        clear q HX HBx HMx hown3 gr1 gr3 ST hx2 hx3 hxl hwc hbd hqb HM HH HB HV
        go_wp2_with fail
        go_region_held3 (fun ww => ww.cell? ⟨wr.heap.size, 2, none⟩ = some (.string x.ser.prod) ∧ ww.cell? ⟨wr.heap.size, 3, none⟩ = some (.int .i64 x.ser.kind) ∧ ww.cell? ⟨wr.heap.size, 4, none⟩ = some (.int .i64 x.ser.expiry) ∧ ww.cell? ⟨wr.heap.size, 5, none⟩ = some (.int .i64 x.ser.strike) ∧ ww.cell? ⟨wr.heap.size, 6, none⟩ = some (.int .i64 x.qty))
          (first | (with_reducible exact HSA.out) | (with_reducible exact HSB.out) | (with_reducible exact HSC.out))
          (fail)
        all_goals (
          clear HSA HSB HSC SE L0 L1 EN hwr
          go_wp2_with fail
          go_roundw
          case rel => exact ⟨k + 1, _, by omega, by go_num, HM3, HST, HB3⟩
          case measure => simp [intOf]; omega)
      · obtain rfl : k = l.length := by omega
        have hgs := HB.out.size
        have hwl : w1.heap.size ≠ wr.heap.size := Nat.ne_of_lt HM.out.lt
        clear hk hlt
        have HBS0 := Lib.hid (fun (u : World) (g : wr.grownBy u none) => HB.out.grown g hgs (fun j hj => by cases hj))
        go_wp2_with (at_range; refine wpList_range_own _ rfl _ 97 rfl 43 3 (Keyed.of_law ser_law) map_under _ w1.heap.size _ _ rfl HM.out ?_; intro w0 hrg0 hg0 hs0)
        go_frame
        have HBS := Lib.hid (HBS0.out _ hg0)
        clear hg0 hs0
        generalize wr.heap.size = gi at *
        go_loopw [7] (fun _ wq => ∃ (left : Lit → Bool) (cnt : Nat), wq.ranges Try.prog 43 (plainElem Try.prog 3) w1.heap.size gi l.length D left cnt ∧ Hid (∀ kl, left kl = true → has D kl = true) ∧ Hid (∀ kl, has D kl = true → left kl = false → D.atKey kl (iL 0) = iL 0) ∧ Hid (Below w1.heap.size w1 wq)) (fun _ wq => wq.rangeLeft w1.heap.size gi)
        case atStart => exact ⟨_, _, hrg0, Lib.hid (fun kl h => h), Lib.hid (fun kl h1 h2 => by rw [h1] at h2; cases h2), HBS⟩
        case round =>
          obtain ⟨left, cnt, hrg, HL1, HL2, HBq⟩ := hrel
          go_wp2_with (at_next; refine wpList_next_ranges _ rfl _ rfl 43 (Keyed.of_law ser_law) _ (fun v : Value => v) (Value.int .i64) (fun key kl _ => ⟨key, rfl⟩) (fun v y hv => by obtain ⟨c, rfl, _⟩ := plainElem_int_inv Try.underlying3 hv; exact ⟨c, rfl⟩) w1.heap.size gi l.length D left cnt rfl hrg ?_ ?_)
          · intro hc0 hl0
            have HR := Lib.hid (KYES.out (fun j hj => by
              have h1 := HL2.out _ (HH.out.has_ j hj hj) (hl0 _)
              rw [HH.out.at_ _ (HQ.out j hj)] at h1
              injection h1 with e1
              injection e1))
            have HBF := Lib.hid (HB1.out.trans (HBq.out.mono HB1.out.size))
            clear hl0 hc0
            go_wp2_with fail
            go_ret
            exact ⟨by rw [HR.out] <;> rfl, HBF.out⟩
          · intro x c kl y1 y2 wq2 cnt2 hkey hlk hv hat hrg1 hlt1 hg1 hs1 hen
            have hat0 : D.atKey kl (iL 0) = iL c := by
              obtain ⟨c', e1, e3, _⟩ := plainElem_int_inv Try.underlying3 hv
              injection e1 with _ e2
              injection e3 with e4 _
              rw [hat (iL 0), e4, e2]
            have HB2 := Lib.hid (HBq.out.grown hg1 HBq.out.size (fun j hj => by injection hj with hj; omega))
            have HRG := Lib.hid hrg1
            by_cases hc0 : c = 0
            · subst hc0
              have HL3 : Hid (∀ z, (left z && !z.sameKey kl) = true → has D z = true) := Lib.hid (fun z hz => HL1.out z (by rw [Bool.and_eq_true] at hz; exact hz.1))
              have HL4 : Hid (∀ z, has D z = true → (left z && !z.sameKey kl) = false → D.atKey z (iL 0) = iL 0) := Lib.hid (fun z hz h => by
                rcases Bool.and_eq_false_iff.1 h with h | h
                · exact HL2.out z hz h
                · have : z = kl := WideAt.sameKey_eq (by simpa using h)
                  rw [this]; exact hat0)
              have HMS : Hid (wq2.rangeLeft w1.heap.size gi < cnt) := Lib.hid (by rw [hrg1.left_eq]; exact hlt1)
              have HMR : Hid (cnt = wr.rangeLeft w1.heap.size gi ∨ True) := Lib.hid (.inr trivial)
              clear hv hat hlk hkey hat0 hrg1 hg1 hs1 hlt1 HMR
              go_wp2_with fail
              go_roundw
              case rel => exact ⟨_, _, HRG.out, HL3, HL4, HB2⟩
              case measure => rw [hrg.left_eq]; exact HMS.out
            · obtain ⟨j, hj1, hj2, ek⟩ := HH.out.only kl (HL1.out kl hlk)
              have HR := Lib.hid (KBAD.out j hj2 (fun h0 => hc0 (by
                rw [ek, HH.out.at_ _ (HQ.out j hj2), h0] at hat0
                injection hat0 with e1
                injection e1 with _ e2
                exact e2.symm)))
              have hne : (c != 0) = true := by simpa using hc0
              have HBF := Lib.hid (HB1.out.trans (HB2.out.mono HB1.out.size))
              clear hv hat hlk hkey hat0 hrg1 hg1 hs1 hlt1 hc0 ek hj1 hj2
              go_wp2_with fail
              go_ret
              exact ⟨by rw [HR.out] <;> rfl, HBF.out⟩
  · have e1 := NM.flat_no hc
    rw [e1]
    have hne : (NM.checkE l != 0) = true := by simpa using hc
    generalize NM.checkE l = r at *
    clear e1
    go_enter Try.func28, Try.ntmps28
    go_wp2_with fail
    refine C1.out.mono ?_
    rintro e w1 ⟨rfl, b1⟩
    have HB1 := Lib.hid b1
    clear b1
    go_wp2_with fail
    go_ret
    exact ⟨rfl, HB1.out⟩
end Go.Proofs.Ytafdjiilmogcjaa

/- Layer 13: the page's example. -/
namespace Go.Proofs.Ytafdjiilmogcjaa
open Go.RowKit Go.Recs
set_option linter.unusedVariables false
set_option linter.unusedSimpArgs false
abbrev oilS : ByteArray := ⟨#[111, 105, 108]⟩
abbrev sA : ByteArray := ⟨#[97]⟩
abbrev sB : ByteArray := ⟨#[98]⟩
abbrev sX : ByteArray := ⟨#[120]⟩
abbrev oilPr : QM.Prod := ⟨⟨#[111, 105, 108]⟩, 0, 10, 5, 0, 100, false⟩
abbrev oilSer : EM.Ser := ⟨⟨#[111, 105, 108]⟩, 1, 9576, 0⟩
abbrev trd7 : TM.Trd := ⟨7, 0, 0, ⟨⟨#[111, 105, 108]⟩, 1, 9576, 0⟩, 3, 50, ⟨#[97]⟩, ⟨#[120]⟩, ⟨#[98]⟩, ⟨#[120]⟩⟩
abbrev bgt : NM.Leg := ⟨⟨#[97]⟩, ⟨#[120]⟩, ⟨⟨#[111, 105, 108]⟩, 1, 9576, 0⟩, 3, 50, 7⟩
abbrev sld : NM.Leg := ⟨⟨#[98]⟩, ⟨#[120]⟩, ⟨⟨#[111, 105, 108]⟩, 1, 9576, 0⟩, -3, 50, 7⟩
theorem ab_ne : (⟨#[97]⟩ : ByteArray) ≠ ⟨#[98]⟩ := by
  intro h
  injection h with h
  exact absurd h (by decide)
theorem oil_q13 : prodQ oilPr := ⟨by decide, ⟨by decide, by decide⟩, ⟨by decide, by decide⟩, ⟨by decide, by decide⟩, ⟨by decide, by decide⟩, ⟨by decide, by decide⟩⟩
theorem trd7_q : trdQ trd7 := ⟨⟨by decide, by decide⟩, ⟨by decide, by decide⟩, ⟨by decide, by decide⟩, ⟨by decide, ⟨by decide, by decide⟩, ⟨by decide, by decide⟩, ⟨by decide, by decide⟩⟩, ⟨by decide, by decide⟩, ⟨by decide, by decide⟩, by decide, by decide, by decide, by decide⟩
theorem all7 : NM.allL [trd7] = [bgt, sld] := rfl
theorem chk7 : NM.checkE [bgt, sld] = 0 := by decide
theorem mine_aa : NM.mine ⟨#[97]⟩ ⟨#[120]⟩ oilSer bgt = true := by unfold NM.mine; rw [NM.aeq_iff.2 ⟨rfl, rfl⟩, NM.seqB_iff.2 rfl]; rfl
theorem mine_ab : NM.mine ⟨#[97]⟩ ⟨#[120]⟩ oilSer sld = false := by
  unfold NM.mine
  have : NM.aeq sld.am sld.an ⟨#[97]⟩ ⟨#[120]⟩ = false := by
    cases e : NM.aeq sld.am sld.an ⟨#[97]⟩ ⟨#[120]⟩
    · rfl
    · exact absurd (NM.aeq_iff.1 e).1 ab_ne.symm
  rw [this]; rfl
theorem mine_ba : NM.mine ⟨#[98]⟩ ⟨#[120]⟩ oilSer bgt = false := by
  unfold NM.mine
  have : NM.aeq bgt.am bgt.an ⟨#[98]⟩ ⟨#[120]⟩ = false := by
    cases e : NM.aeq bgt.am bgt.an ⟨#[98]⟩ ⟨#[120]⟩
    · rfl
    · exact absurd (NM.aeq_iff.1 e).1 ab_ne
  rw [this]; rfl
theorem mine_bb : NM.mine ⟨#[98]⟩ ⟨#[120]⟩ oilSer sld = true := by unfold NM.mine; rw [NM.aeq_iff.2 ⟨rfl, rfl⟩, NM.seqB_iff.2 rfl]; rfl
theorem filt_a : [bgt, sld].filter (NM.mine ⟨#[97]⟩ ⟨#[120]⟩ oilSer) = [bgt] := by simp only [List.filter, mine_aa, mine_ab]
theorem filt_b : [bgt, sld].filter (NM.mine ⟨#[98]⟩ ⟨#[120]⟩ oilSer) = [sld] := by simp only [List.filter, mine_ba, mine_bb]
theorem val_a : QM.valueE oilPr 50 3 = 0 ∧ QM.valueN oilPr 50 3 = 1500 ∧ QM.valueE oilPr 50 (-3) = 0 ∧ QM.valueN oilPr 50 (-3) = -1500 := by decide
theorem cost_a : NM.costN [bgt, sld] ⟨#[97]⟩ ⟨#[120]⟩ oilPr oilSer = 1500 ∧ NM.costE [bgt, sld] ⟨#[97]⟩ ⟨#[120]⟩ oilPr oilSer = 0 := by
  have h1 : NM.firstE oilPr ([bgt, sld].filter (NM.mine ⟨#[97]⟩ ⟨#[120]⟩ oilSer)) = 0 := by rw [filt_a]; unfold NM.firstE; rw [if_pos val_a.1]; rfl
  obtain ⟨e1, e2⟩ := cost_ok (am := ⟨#[97]⟩) (an := ⟨#[120]⟩) (p := oilPr) (s := oilSer) chk7 h1
  rw [e1, e2, filt_a]
  have : NM.worth oilPr [bgt] = [1500] := by unfold NM.worth; simp only [List.map_cons, List.map_nil, val_a.2.1]
  rw [this]
  decide
theorem cost_b : NM.costN [bgt, sld] ⟨#[98]⟩ ⟨#[120]⟩ oilPr oilSer = -1500 ∧ NM.costE [bgt, sld] ⟨#[98]⟩ ⟨#[120]⟩ oilPr oilSer = 0 := by
  have h1 : NM.firstE oilPr ([bgt, sld].filter (NM.mine ⟨#[98]⟩ ⟨#[120]⟩ oilSer)) = 0 := by rw [filt_b]; unfold NM.firstE; rw [if_pos val_a.2.2.1]; rfl
  obtain ⟨e1, e2⟩ := cost_ok (am := ⟨#[98]⟩) (an := ⟨#[120]⟩) (p := oilPr) (s := oilSer) chk7 h1
  rw [e1, e2, filt_b]
  have : NM.worth oilPr [sld] = [-1500] := by unfold NM.worth; simp only [List.map_cons, List.map_nil, val_a.2.2.2]
  rw [this]
  decide
theorem flat7 : NM.flatB [bgt, sld] = true := by
  have hf : ∀ x ∈ [bgt, sld], [bgt, sld].filter (NM.ofS x.ser) = [bgt, sld] := by
    intro x hx
    have hs : x.ser = oilSer := by
      simp only [List.mem_cons, List.not_mem_nil, or_false] at hx
      rcases hx with rfl | rfl <;> rfl
    rw [hs]
    have h1 : NM.ofS oilSer bgt = true := NM.seqB_iff.2 rfl
    have h2 : NM.ofS oilSer sld = true := NM.seqB_iff.2 rfl
    simp only [List.filter, h1, h2]
  refine NM.flat_yes chk7 fun j hj => ?_
  rw [NM.lAt_get hj, NM.house_ok chk7, hf _ (List.getElem_mem hj)]
  rfl
theorem lit_trd (W : World) (t : TM.Trd) (hq : trdQ t) : Trds (W.alloc (.cells (trdC t) 45)) (some ⟨W.heap.size, 0, none⟩) [t] := by
  obtain ⟨A', cap, e, hr, _⟩ := OwnR.recs (OwnR.lit W W.heap.size 45 13 [trdV t] (by simp [trdV]) (Nat.le_refl _) (by simp [maxLen]))
  injection e with e1
  subst e1
  exact ⟨hr, fun a ha => by rw [List.mem_singleton.1 ha]; exact hq⟩
theorem bs_q : ∀ x ∈ [bgt, sld], legQ x := by
  intro x hx
  simp only [List.mem_cons, List.not_mem_nil, or_false] at hx
  rcases hx with rfl | rfl
  · exact ⟨by decide, by decide, trd7_q.2.2.2.1, ⟨by decide, by decide⟩, ⟨by decide, by decide⟩, ⟨by decide, by decide⟩⟩
  · exact ⟨by decide, by decide, trd7_q.2.2.2.1, ⟨by decide, by decide⟩, ⟨by decide, by decide⟩, ⟨by decide, by decide⟩⟩

set_option maxHeartbeats 4000000 in
set_option maxRecDepth 100000 in
theorem goes13_any (w : World) : Calls Try.prog 16 #[] w fun e w' => e = .returned (.bool true) ∧ Below w.heap.size w w' := by
  have HB0 := Lib.hid (fun a b c => below_al (below_al (below_al (Below.refl w.heap.size w) a) b) c)
  have C1 := nall_any _ [trd7] 1 1 rfl _ (lit_trd ((w.alloc (.cells #[.string ⟨#[111, 105, 108]⟩, .int .i64 0, .int .i64 10, .int .i64 5, .int .i64 0, .int .i64 100, .bool false] 65)).alloc (.cells (trdC trd7) 45)) trd7 trd7_q) (by decide)
  have HP := Lib.hid (PBox.new w oilPr)
  have HT : Hid (CB ((w.alloc (.cells #[.string ⟨#[111, 105, 108]⟩, .int .i64 0, .int .i64 10, .int .i64 5, .int .i64 0, .int .i64 100, .bool false] 65)).alloc (.cells (trdC trd7) 45)) (w.heap.size + 1) 45 (trdC trd7)) := Lib.hid (CB.new1 _ _ _ _)
  rw [show ((w.alloc (.cells #[.string ⟨#[111, 105, 108]⟩, .int .i64 0, .int .i64 10, .int .i64 5, .int .i64 0, .int .i64 100, .bool false] 65)).alloc (.cells (trdC trd7) 45)).heap.size = w.heap.size + 1 + 1 by simp, all7] at C1
  have HP3 := Lib.hid ((HP.out.alloc (.cells (trdC trd7) 45)).alloc (.cells (trdC trd7) 45))
  have HT3 := Lib.hid (HT.out.alloc (.cells (trdC trd7) 45))
  have HB3 := Lib.hid (HB0.out (.cells #[.string ⟨#[111, 105, 108]⟩, .int .i64 0, .int .i64 10, .int .i64 5, .int .i64 0, .int .i64 100, .bool false] 65) (.cells (trdC trd7) 45) (.cells (trdC trd7) 45))
  have HC1 := Lib.hid C1
  have C2 := Lib.hid (fun A c ww h => ncost_any A [bgt, sld] 2 c rfl ⟨#[97]⟩ ⟨#[120]⟩ oilPr oilSer ww h oil_q13)
  have C3 := Lib.hid (fun A c ww h => ncost_any A [bgt, sld] 2 c rfl ⟨#[98]⟩ ⟨#[120]⟩ oilPr oilSer ww h oil_q13)
  have C4 := Lib.hid (fun A c ww h => nflat_any A [bgt, sld] 2 c rfl ww h)
  rw [cost_a.1, cost_a.2] at C2
  rw [cost_b.1, cost_b.2] at C3
  rw [flat7] at C4
  clear C1 HP HT HB0
  go_enter Try.func16, Try.ntmps16
  go_wp2_with fail
  refine HC1.out.mono ?_
  rintro e w1 ⟨v, rfl, o1, b1⟩
  obtain ⟨A1, c1, rfl, hr1, hc1⟩ := o1.recs
  have HL1 : Hid (Legs w1 A1 [bgt, sld]) := Lib.hid ⟨hr1, bs_q⟩
  have hsz : ((w.alloc (.cells #[.string ⟨#[111, 105, 108]⟩, .int .i64 0, .int .i64 10, .int .i64 5, .int .i64 0, .int .i64 100, .bool false] 65)).alloc (.cells (trdC trd7) 45)).heap.size = w.heap.size + 1 + 1 := by simp
  have HB1 := Lib.hid (HB3.out.trans (b1.mono HB3.out.size))
  have HP1 := Lib.hid (HP3.out.below b1 HP3.out.lt)
  have HT1 := Lib.hid (HT3.out.below b1 HT3.out.lt)
  obtain ⟨p0, p1, p2, p3, p4, p5, p6⟩ := HP1.out.cells
  have t3 : w1.cell? ⟨w.heap.size + 1, 3, none⟩ = some (.string ⟨#[111, 105, 108]⟩) := HT1.out.cell 3
  have t4 : w1.cell? ⟨w.heap.size + 1, 4, none⟩ = some (.int .i64 1) := HT1.out.cell 4
  have t5 : w1.cell? ⟨w.heap.size + 1, 5, none⟩ = some (.int .i64 9576) := HT1.out.cell 5
  have t6 : w1.cell? ⟨w.heap.size + 1, 6, none⟩ = some (.int .i64 0) := HT1.out.cell 6
  have t9 : w1.cell? ⟨w.heap.size + 1, 9, none⟩ = some (.string ⟨#[97]⟩) := HT1.out.cell 9
  have t10 : w1.cell? ⟨w.heap.size + 1, 10, none⟩ = some (.string ⟨#[120]⟩) := HT1.out.cell 10
  rw [show ([bgt, sld].map legV).length = 2 from rfl] at *
  clear hr1 hc1 o1 b1 HC1 HP3 HT3 HB3 hsz
  go_wp2_with fail
  refine (C2.out _ _ _ HL1.out).mono ?_
  clear p0 p1 p2 p3 p4 p5 p6 t3 t4 t5 t6 t9 t10
  rintro e w2 ⟨rfl, b2⟩
  have HB2 := Lib.hid (HB1.out.trans (b2.mono HB1.out.size))
  have HL2 := Lib.hid (HL1.out.below b2)
  have HP2 := Lib.hid (HP1.out.below b2 HP1.out.lt)
  have HT2 := Lib.hid (HT1.out.below b2 HT1.out.lt)
  obtain ⟨p0, p1, p2, p3, p4, p5, p6⟩ := HP2.out.cells
  have t3 : w2.cell? ⟨w.heap.size + 1, 3, none⟩ = some (.string ⟨#[111, 105, 108]⟩) := HT2.out.cell 3
  have t4 : w2.cell? ⟨w.heap.size + 1, 4, none⟩ = some (.int .i64 1) := HT2.out.cell 4
  have t5 : w2.cell? ⟨w.heap.size + 1, 5, none⟩ = some (.int .i64 9576) := HT2.out.cell 5
  have t6 : w2.cell? ⟨w.heap.size + 1, 6, none⟩ = some (.int .i64 0) := HT2.out.cell 6
  have t11 : w2.cell? ⟨w.heap.size + 1, 11, none⟩ = some (.string ⟨#[98]⟩) := HT2.out.cell 11
  have t12 : w2.cell? ⟨w.heap.size + 1, 12, none⟩ = some (.string ⟨#[120]⟩) := HT2.out.cell 12
  clear b2 HL1 HP1 HT1 HB1 C2
  go_wp2_with fail
  refine (C3.out _ _ _ HL2.out).mono ?_
  clear p0 p1 p2 p3 p4 p5 p6 t3 t4 t5 t6 t11 t12
  rintro e w3 ⟨rfl, b3⟩
  have HB3 := Lib.hid (HB2.out.trans (b3.mono HB2.out.size))
  have HL3 := Lib.hid (HL2.out.below b3)
  obtain ⟨b, off, x, rfl, hb, HV, q, d0, d1, d2, d3, d4, d5, d6, d7, d8⟩ := legs_get HL3.out (k := 0) (by decide)
  obtain ⟨b', off', x', he, hb', HV', q', g0, g1, g2, g3, g4, g5, g6, g7, g8⟩ := legs_get HL3.out (k := 1) (by decide)
  injection he with he
  injection he with e1 e2
  subst e1 e2
  have y0 : x = bgt := HV.out.symm
  have y1 : x' = sld := HV'.out.symm
  subst y0 y1
  have k6 : w3.cell? ⟨b, off + 6, none⟩ = some (.int .i64 3) := by simpa using d6
  have k15 : w3.cell? ⟨b, off + 9 + 6, none⟩ = some (.int .i64 (-3)) := by simpa using g6
  clear b3 HL2 HP2 HT2 HB2 C3 d0 d1 d2 d3 d4 d5 d6 d7 d8 g0 g1 g2 g3 g4 g5 g6 g7 g8 q q' HV HV' hb'
  go_wp2_with fail
  refine (C4.out _ _ _ HL3.out).mono ?_
  rintro e w4 ⟨rfl, b4⟩
  have HB4 := Lib.hid (HB3.out.trans (b4.mono HB3.out.size))
  clear b4
  go_wp2_with fail
  go_ret
  exact ⟨rfl, HB4.out⟩
end Go.Proofs.Ytafdjiilmogcjaa

namespace Go.Proofs.Ytafdjiilmogcjaa.novateNets
open Go.RowKit Go.Recs
set_option linter.unusedVariables false
set_option maxHeartbeats 8000000 in
set_option maxRecDepth 100000 in
theorem walk (A : Option Addr) (cap : Nat) (l : List NM.Leg) (a : ByteArray × ByteArray) (s : EM.Ser) (w : World) (hI : Legs w A l ∧ l.length ≤ cap) (ha : a.1.size ≤ maxLen ∧ a.2.size ≤ maxLen) (hs : serQ s) :
    Calls Try.prog 5 #[.slice A l.length cap, .agg #[.string a.1, .string a.2], serA s] w fun e w' => e = .returned (.bool true) ∧ Below w.heap.size w w' := by
  obtain ⟨am, an⟩ := a
  have hlen := hI.1.len
  have CG := Lib.hid (fun ww => goes13_any ww)
  have HBB := Lib.hid (fun a b => below_al (below_al (Below.refl w.heap.size w) a) b)
  have HI := Lib.hid hI.1
  clear hI ha hs
  simp only
  by_cases hskip : (300 < l.length ∧ l.length ≤ 2048) ∨ 3000 < l.length
  · have hsk : ((300 : Int) < (l.length : Int) ∧ decide ((300 : Int) < (l.length : Int)) = true ∧ (l.length : Int) ≤ 2048 ∧ decide ((l.length : Int) ≤ 2048) = true) ∨ ((300 : Int) < (l.length : Int) ∧ ¬ (l.length : Int) ≤ 2048 ∧ decide ((l.length : Int) ≤ 2048) = false ∧ (3000 : Int) < (l.length : Int)) := by
      rcases hskip with ⟨h1, h2⟩ | h
      · exact .inl ⟨by omega, by simp; omega, by omega, by simp; omega⟩
      · exact .inr ⟨by omega, by omega, by simp; omega, by omega⟩
    clear hskip
    rcases hsk with ⟨h1, h2, h3, h4⟩ | ⟨h1, h2, h3, h4⟩
    all_goals (
      go_enter Try.func5, Try.ntmps5
      go_wp2_with fail
      refine (CG.out _).mono ?_
      rintro e w1 ⟨rfl, b1⟩
      have HB1 := Lib.hid ((HBB.out _ _).trans (b1.mono (HBB.out _ _).size))
      clear b1
      go_wp2_with fail
      go_ret
      exact ⟨rfl, HB1.out⟩)
  have hno : (¬ (300 : Int) < (l.length : Int) ∨ ((300 : Int) < (l.length : Int) ∧ ¬ (l.length : Int) ≤ 2048)) ∧ ¬ (3000 : Int) < (l.length : Int) := by omega
  obtain ⟨hno, hn3⟩ := hno
  have hl3 : l.length ≤ 3000 := by omega
  have HB0 := Lib.hid (HBB.out (.cells (kC am an) 26) (.cells #[.string s.prod, .int .i64 s.kind, .int .i64 s.expiry, .int .i64 s.strike] 43))
  have HBE := Lib.hid (below_al HB0.out (.cells #[] 47))
  have HG0 : Hid (CB ((w.alloc (.cells (kC am an) 26)).alloc (.cells #[.string s.prod, .int .i64 s.kind, .int .i64 s.expiry, .int .i64 s.strike] 43)) w.heap.size 26 (kC am an)) := Lib.hid ((CB.new w 26 (kC am an)).alloc _)
  have HJ0 : Hid (SBox ((w.alloc (.cells (kC am an) 26)).alloc (.cells #[.string s.prod, .int .i64 s.kind, .int .i64 s.expiry, .int .i64 s.strike] 43)) (w.heap.size + 1) s) := Lib.hid (by
    have h := SBox.new (w.alloc (.cells (kC am an) 26)) s
    rwa [show (w.alloc (.cells (kC am an) 26)).heap.size = w.heap.size + 1 by simp] at h)
  have HG1 := Lib.hid (HG0.out.alloc (.cells #[] 47))
  have HJ1 := Lib.hid (HJ0.out.alloc (.cells #[] 47))
  have HOE : Hid (OwnR (((w.alloc (.cells (kC am an) 26)).alloc (.cells #[.string s.prod, .int .i64 s.kind, .int .i64 s.expiry, .int .i64 s.strike] 43)).alloc (.cells #[] 47)) (w.heap.size + 1 + 1) 47 9 (.slice (some ⟨w.heap.size + 1 + 1, 0, none⟩) 0 0) []) := Lib.hid (by
    have h := OwnR.empty ((w.alloc (.cells (kC am an) 26)).alloc (.cells #[.string s.prod, .int .i64 s.kind, .int .i64 s.expiry, .int .i64 s.strike] 43)) (w.heap.size + 1 + 1) 47 9 (by simp)
    rwa [show ((w.alloc (.cells (kC am an) 26)).alloc (.cells #[.string s.prod, .int .i64 s.kind, .int .i64 s.expiry, .int .i64 s.strike] 43)).heap.size = w.heap.size + 1 + 1 by simp] at h)
  have HES : Hid (w.heap.size + 1 + 1 ≤ (((w.alloc (.cells (kC am an) 26)).alloc (.cells #[.string s.prod, .int .i64 s.kind, .int .i64 s.expiry, .int .i64 s.strike] 43)).alloc (.cells #[] 47)).heap.size) := Lib.hid (by simp)
  have HRL := Lib.hid (HI.out.below HBE.out).1
  have HLQ := Lib.hid HI.out.2
  have HLN := Lib.hid hl3
  have C1 := Lib.hid (fun A n c e ww h => nnet_any A l n c e am an s ww h)
  have C2 := Lib.hid (fun ww h => rnet13_any A l l.length cap rfl am an s ww h)
  have C3 := Lib.hid (fun A n c e ww h => nhouse_any A l n c e s ww h)
  have C4 := Lib.hid (fun ww h => rhouse13_any A l l.length cap rfl s ww h)
  have C5 := Lib.hid (fun A n c e ww h => nflat_any A l n c e ww h)
  have C6 := Lib.hid (fun ww h => rflat13_any A l l.length cap rfl ww h)
  have C7 := Lib.hid (fun A' n c e ww h1 h2 => rsame13_any A' A l n c l.length cap e rfl ww h1 h2)
  generalize NM.netN l am an s = x1 at *
  generalize NM.checkE l = x2 at *
  generalize NM.houseN l s = x3 at *
  generalize NM.flatB l = x4 at *
  clear hl3 HBB
  rcases hno with hno | ⟨hno, hno2⟩
  all_goals (
    go_enter Try.func5, Try.ntmps5
    go_wp2_with (at_builtin; refine wpList_catR _ (w.heap.size + 1 + 1) [] (l.map legV) _ _ _ 47 9 96 _ Try.underlying51 info_leg rfl (by decide) rfl rfl _ _ _ _ rfl rfl ?c0 HOE.out HRL.out (legV_one l) ?c3 ?c4 HES.out ?_)
    case c3 => have := HLN.out; simp; omega
    case c4 => have := HLN.out; simp [maxLen]; omega
    rintro v1 w1 hO hb hg
    obtain ⟨A1, cap1, rfl, hR, hc1⟩ := hO.recs
    have HL1 : Hid (Legs w1 A1 l) := Lib.hid ⟨by simpa using hR, HLQ.out⟩
    have HB1 := Lib.hid (HBE.out.trans (hb.mono (by omega)))
    have HG2 := Lib.hid (HG1.out.below hb (by omega))
    have HJ2 := Lib.hid (HJ1.out.below hb (by omega))
    have HI1 := Lib.hid (HI.out.below HB1.out)
    have g0 : w1.cell? ⟨w.heap.size, 0, none⟩ = some (.string am) := HG2.out.cell 0
    have g1 : w1.cell? ⟨w.heap.size, 1, none⟩ = some (.string an) := HG2.out.cell 1
    obtain ⟨s0, s1, s2, s3⟩ := HJ2.out.cells
    have el : (l.map legV).length = l.length := by simp
    first | rw [el] | (rw [show ([] : List (List Value)) ++ l.map legV = l.map legV from rfl, el])
    clear el
    clear hR hc1 hO hb hg HG1 HJ1 HG0 HJ0 HOE HRL HB0 HBE HES HLQ HLN
    go_wp2_with fail
    refine (C1.out _ _ _ rfl _ HL1.out).mono ?_
    clear g0 g1 s0 s1 s2 s3
    rintro e w2 ⟨rfl, b2⟩
    have HB2 := Lib.hid (HB1.out.trans (b2.mono HB1.out.size))
    have HG3 := Lib.hid (HG2.out.below b2 HG2.out.lt)
    have HJ3 := Lib.hid (HJ2.out.below b2 HJ2.out.lt)
    have HI2 := Lib.hid (HI1.out.below b2)
    have HL2 := Lib.hid (HL1.out.below b2)
    have g0 : w2.cell? ⟨w.heap.size, 0, none⟩ = some (.string am) := HG3.out.cell 0
    have g1 : w2.cell? ⟨w.heap.size, 1, none⟩ = some (.string an) := HG3.out.cell 1
    obtain ⟨s0, s1, s2, s3⟩ := HJ3.out.cells
    clear b2 HG2 HJ2 HI1 HL1 HB1 C1
    go_wp2_with fail
    refine (C2.out _ HI2.out).mono ?_
    clear g0 g1 s0 s1 s2 s3
    rintro e w3 ⟨rfl, b3⟩
    have HB3 := Lib.hid (HB2.out.trans (b3.mono HB2.out.size))
    have HJ4 := Lib.hid (HJ3.out.below b3 HJ3.out.lt)
    have HI3 := Lib.hid (HI2.out.below b3)
    have HL3 := Lib.hid (HL2.out.below b3)
    obtain ⟨s0, s1, s2, s3⟩ := HJ4.out.cells
    clear b3 HG3 HJ3 HI2 HL2 HB2 C2
    go_wp2_with fail
    refine (C3.out _ _ _ rfl _ HL3.out).mono ?_
    clear s0 s1 s2 s3
    rintro e w4 ⟨rfl, b4⟩
    have HB4 := Lib.hid (HB3.out.trans (b4.mono HB3.out.size))
    have HJ5 := Lib.hid (HJ4.out.below b4 HJ4.out.lt)
    have HI4 := Lib.hid (HI3.out.below b4)
    have HL4 := Lib.hid (HL3.out.below b4)
    obtain ⟨s0, s1, s2, s3⟩ := HJ5.out.cells
    clear b4 HJ4 HI3 HL3 HB3 C3
    go_wp2_with fail
    refine (C4.out _ HI4.out).mono ?_
    clear s0 s1 s2 s3
    rintro e w5 ⟨rfl, b5⟩
    have HB5 := Lib.hid (HB4.out.trans (b5.mono HB4.out.size))
    have HI5 := Lib.hid (HI4.out.below b5)
    have HL5 := Lib.hid (HL4.out.below b5)
    clear b5 HJ5 HI4 HL4 HB4 C4
    go_wp2_with fail
    refine (C5.out _ _ _ rfl _ HL5.out).mono ?_
    rintro e w6 ⟨rfl, b6⟩
    have HB6 := Lib.hid (HB5.out.trans (b6.mono HB5.out.size))
    have HI6 := Lib.hid (HI5.out.below b6)
    have HL6 := Lib.hid (HL5.out.below b6)
    clear b6 HI5 HL5 HB5 C5
    go_wp2_with fail
    refine (C6.out _ HI6.out).mono ?_
    rintro e w7 ⟨rfl, b7⟩
    have HB7 := Lib.hid (HB6.out.trans (b7.mono HB6.out.size))
    have HI7 := Lib.hid (HI6.out.below b7)
    have HL7 := Lib.hid (HL6.out.below b7)
    clear b7 HI6 HL6 HB6 C6
    go_wp2_with fail
    refine (C7.out _ _ _ rfl _ HL7.out HI7.out).mono ?_
    rintro e w8 ⟨rfl, nd, rfl⟩
    have HB8 := Lib.hid (below_drewN HB7.out nd)
    clear HI7 HL7 HB7 C7
    go_wp2_with fail
    refine (CG.out _).mono ?_
    rintro e w9 ⟨rfl, b9⟩
    have HB9 := Lib.hid (HB8.out.trans (b9.mono HB8.out.size))
    clear b9
    go_wp2_with fail
    go_ret
    exact ⟨rfl, HB9.out⟩)
end Go.Proofs.Ytafdjiilmogcjaa.novateNets

/- What the reach says of a text that opens a record, over any program. -/
namespace Go.Recs
open Go.ChangeShapes Go.WideShapes Go.RowKit Go.Deep
set_option linter.unusedVariables false
theorem first_sized {H : Type} {enc : TypeId × Value → H} {P : Program} {W : World} {base : Nat} {spare : Nat → Bool} {held : Bool} {T : TypeId} {cs : Array Value} {d : DataW H} {p : List MemPlace} {fs : Array Field} {f : Field} {s : ByteArray}
    {ts : List TypeId} {ds : List (DataW H)} {j : Nat}
    (h : (DataW.weightsEach P ts ds).all (· ≤ reachBytes) = true) (ht : ts[j]? = some T) (hd : ds[j]? = some d)
    (hT : DataW.Trod enc P W base spare held T (.agg cs) d p) (hu : P.underlying T = some (.struct fs)) (hf : fs[0]? = some f) (ho : f.offset = 0) (hs : P.underlying f.type = some .string) (hc : P.cellsOf f.type = 1) (hcs : cs[0]? = some (.string s)) :
    s.size ≤ 140737488351232 := by
  obtain ⟨fuel, hx⟩ := hT
  obtain ⟨xs, n, _, hxd, _, hxl, hfl⟩ := DataW.trod_struct hu hx
  have h0 := hfl 0 f hf
  have hpos : 0 < xs.length := by
    rw [hxl]
    rcases Nat.eq_zero_or_pos fs.size with e | e
    · rw [Array.getElem?_eq_none (by omega)] at hf; cases hf
    · exact e
  rw [List.getElem?_eq_getElem hpos] at h0
  obtain ⟨t, ht0, hx0, _⟩ := DataW.trod_string hs h0
  rw [ho, hc, List.drop_zero] at ht0
  have ets : t = s := by
    have e1 : (Value.agg cs).cells.toList.take 1 = [Value.string t] := ht0
    have e2 : (Value.agg cs).cells.toList[0]? = some (Value.string s) := by simpa [Value.cells] using hcs
    cases hl : (Value.agg cs).cells.toList with
    | nil => rw [hl] at e2; cases e2
    | cons a r => rw [hl] at e1 e2; simp at e1 e2; rw [e1] at e2; injection e2
  subst ets
  injection hxd with hd1 _
  have hw : t.data.toList.length ∈ d.weights P T := by
    rw [hd1]
    simp only [DataW.weights, hu]
    have hm := DataW.weights_mem_each (P := P) (ts := fs.toList.map (·.type)) (ds := xs.map (·.1)) (j := 0) (t := f.type) (d := xs[0].1) (by rw [List.getElem?_map, Array.getElem?_toList, hf]; rfl) (by rw [List.getElem?_map, List.getElem?_eq_getElem hpos]; rfl) t.data.toList.length
    apply hm
    rw [hx0]
    simp [DataW.weights]
  have := List.all_eq_true.1 h _ (DataW.weights_mem_each ht hd _ hw)
  have e : t.data.toList.length = t.size := Array.length_toList
  rw [e] at this
  have hr : reachBytes = 140737488351232 := by decide
  rw [← hr]
  simpa using this
end Go.Recs

/- A law's arguments: products and series, by value and in slices. -/
namespace Go.Proofs.Ytafdjiilmogcjaa
open Go.ChangeShapes Go.WideShapes Go.ChangeAt Go.RowKit Go.Recs
set_option linter.unusedVariables false
set_option maxRecDepth 100000

theorem prod_leafs : leafs Try.prog 2 65 = some prodL := by kernel_rfl
theorem ser_leafs : leafs Try.prog 2 43 = some serL := by kernel_rfl
theorem open_prodV {H : Type} {enc : TypeId × Value → H} {W : World} {base b0 : Nat} {spare : Nat → Bool} {held : Bool} {r : Reach} {v : Value} {d : DataW H} {p : List MemPlace}
    (hv : Value.okWide Try.prog W r b0 65 v) (h : DataW.Trod enc Try.prog W base spare held 65 v d p) :
    ∃ x : QM.Prod, v = .agg #[.string x.name, .int .i64 x.cur, .int .i64 x.mult, .int .i64 x.tick, .int .i64 x.low, .int .i64 x.high, .bool x.phys] ∧ prodQ x := by
  obtain ⟨cs, rfl, hk⟩ := open_rec (n := 2) Try.underlying65 prod_leafs (by kernel_rfl) hv h
  obtain ⟨x, rfl, hq⟩ := prod_row cs hk
  exact ⟨x, rfl, hq⟩
theorem open_serV {H : Type} {enc : TypeId × Value → H} {W : World} {base b0 : Nat} {spare : Nat → Bool} {held : Bool} {r : Reach} {v : Value} {d : DataW H} {p : List MemPlace}
    (hv : Value.okWide Try.prog W r b0 43 v) (h : DataW.Trod enc Try.prog W base spare held 43 v d p) :
    ∃ x : EM.Ser, v = .agg #[.string x.prod, .int .i64 x.kind, .int .i64 x.expiry, .int .i64 x.strike] ∧ serQ x := by
  obtain ⟨cs, rfl, hk⟩ := open_rec (n := 2) Try.underlying43 ser_leafs (by kernel_rfl) hv h
  obtain ⟨x, rfl, hq⟩ := ser_row cs hk
  exact ⟨x, rfl, hq⟩
theorem prod_sized {H : Type} {enc : TypeId × Value → H} {W : World} {base : Nat} {spare : Nat → Bool} {held : Bool} {x : QM.Prod} {d : DataW H} {p : List MemPlace} {ts : List TypeId} {ds : List (DataW H)} {j : Nat}
    (h : (DataW.weightsEach Try.prog ts ds).all (· ≤ reachBytes) = true) (ht : ts[j]? = some 65) (hd : ds[j]? = some d)
    (hT : DataW.Trod enc Try.prog W base spare held 65 (.agg #[.string x.name, .int .i64 x.cur, .int .i64 x.mult, .int .i64 x.tick, .int .i64 x.low, .int .i64 x.high, .bool x.phys]) d p) : x.name.size ≤ 140737488351232 :=
  first_sized (cs := #[.string x.name, .int .i64 x.cur, .int .i64 x.mult, .int .i64 x.tick, .int .i64 x.low, .int .i64 x.high, .bool x.phys]) h ht hd hT Try.underlying65 rfl rfl Try.underlying9 (by kernel_rfl) rfl
theorem ser_sized {H : Type} {enc : TypeId × Value → H} {W : World} {base : Nat} {spare : Nat → Bool} {held : Bool} {x : EM.Ser} {d : DataW H} {p : List MemPlace} {ts : List TypeId} {ds : List (DataW H)} {j : Nat}
    (h : (DataW.weightsEach Try.prog ts ds).all (· ≤ reachBytes) = true) (ht : ts[j]? = some 43) (hd : ds[j]? = some d)
    (hT : DataW.Trod enc Try.prog W base spare held 43 (.agg #[.string x.prod, .int .i64 x.kind, .int .i64 x.expiry, .int .i64 x.strike]) d p) : x.prod.size ≤ 140737488351232 :=
  first_sized (cs := #[.string x.prod, .int .i64 x.kind, .int .i64 x.expiry, .int .i64 x.strike]) h ht hd hT Try.underlying43 rfl rfl Try.underlying9 (by kernel_rfl) rfl
end Go.Proofs.Ytafdjiilmogcjaa
