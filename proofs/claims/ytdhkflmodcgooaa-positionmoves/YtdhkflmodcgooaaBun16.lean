/- Put together: PosL, PosM, PosN, PosMath4, SizedRec, OpenProd, OpenPos, OpenMoved. -/
import Derived.Test.YtdhkflmodcgooaaBun6
import Derived.Test.YtdhkflmodcgooaaBun1
import Derived.Test.YtdhkflmodcgooaaBun14
import Derived.Test.YtdhkflmodcgooaaBun10
import Derived.SizedLaws
import Derived.ProofKit
import Derived.Test.YtdhkflmodcgooaaBun3
import Derived.OpenShut
import Derived.ShutString
import Derived.ChangeOld
/- Contracts of layer 15: Netted. -/
namespace PO
def bothN (p : Pos) : Int := max 0 (min p.lo p.sh)
def netP (p : Pos) : Pos := ⟨p.ser, p.lo - bothN p, p.sh - bothN p⟩
def hasL (p : Pos) : Bool := !(p.lo == 0) || !(p.sh == 0)
def netL (l : List Pos) : List Pos := (l.map netP).filter hasL
theorem net_yes {l : List Pos} {k : Nat} (hk : k < l.length) (h : hasL (netP (pAt l k)) = true) : netL (l.take (k + 1)) = netL (l.take k) ++ [netP (pAt l k)] := by
  unfold netL
  rw [List.take_succ_eq_append_getElem hk, List.map_append, List.filter_append, ← pAt_get hk]
  simp [h]
theorem net_no {l : List Pos} {k : Nat} (hk : k < l.length) (h : hasL (netP (pAt l k)) = false) : netL (l.take (k + 1)) = netL (l.take k) := by
  unfold netL
  rw [List.take_succ_eq_append_getElem hk, List.map_append, List.filter_append, ← pAt_get hk]
  simp [h]
end PO
namespace Go.Proofs.Ytdhkflmodcgooaa
open Go.RowKit Go.Recs
set_option linter.unusedVariables false
set_option linter.unusedSimpArgs false
set_option maxHeartbeats 4000000 in
set_option maxRecDepth 100000 in
theorem pnetted_any (A : Option Addr) (l : List PO.Pos) (n cap : Nat) (hn : n = l.length) (hl : l.length ≤ 100000000000) (w : World) (hI : Poss w A l) :
    Calls Try.prog 22 #[.slice A n cap] w fun e w' => ∃ v, e = .returned v ∧ OwnR w' w.heap.size 46 6 v ((PO.netL l).map posV) ∧ Below w.heap.size w w' := by
  subst hn
  have hlen := hI.len
  have HI := Lib.hid hI
  have KY := Lib.hid (fun k => @PO.net_yes l k); have KN := Lib.hid (fun k => @PO.net_no l k)
  have KE : Hid (PO.netL (l.take l.length) = PO.netL l) := Lib.hid (by rw [List.take_length])
  have KL : Hid (∀ k, k ≤ l.length → (PO.netL (l.take k)).length ≤ k) := Lib.hid (fun k hk => by
    have h1 := List.length_filter_le PO.hasL ((l.take k).map PO.netP)
    rw [List.length_map, List.length_take] at h1
    unfold PO.netL; omega)
  generalize PO.netL l = r at *
  clear hI
  go_enter Try.func22, Try.ntmps22
  go_wp2_with fail
  go_loopw [2, 4, 5, 8] (fun v _ _ i wr => ∃ k : Nat, k ≤ l.length ∧ i = .int .i64 (k : Int) ∧ Hid (OwnR wr w.heap.size 46 6 v ((PO.netL (l.take k)).map posV)) ∧ Hid (Below w.heap.size w wr)) (fun _ _ _ i _ => l.length - (intOf i).toNat)
  case atStart => exact ⟨0, by omega, rfl, Lib.hid (OwnR.nil _ _ _ _), Lib.hid (Below.refl _ _)⟩
  case round =>
    obtain ⟨k, hk, rfl, HO, HB⟩ := hrel
    by_cases hlt : k < l.length
    · obtain ⟨b, off, x, rfl, hb, HV, ⟨q1, ⟨l1, l2⟩, s1, s2⟩, d0, d1, d2, d3, d4, d5⟩ := poss_get (HI.out.below HB.out) hlt
      have HBx := Lib.hid (fun (c : Array Value) => below_al HB.out (.cells c 46))
      have HOx := Lib.hid (fun (c : Array Value) => HO.out.alloc (.cells c 46))
      have b0 : 0 ≤ PO.bothN x := by unfold PO.bothN; omega
      have b1 : x.lo - PO.bothN x ≤ 9223372036854775807 := by omega
      have b2 : -9223372036854775808 ≤ x.lo - PO.bothN x := by unfold PO.bothN; omega
      have b3 : x.sh - PO.bothN x ≤ 9223372036854775807 := by omega
      have b4 : -9223372036854775808 ≤ x.sh - PO.bothN x := by unfold PO.bothN; omega
      have hbn : PO.bothN x = max 0 (min x.lo x.sh) := rfl
      have HBN := Lib.hid hbn
      rw [hbn] at b0 b1 b2 b3 b4
      clear q1 hbn
      have HX : Hid (PO.netP x = ⟨x.ser, x.lo - max 0 (min x.lo x.sh), x.sh - max 0 (min x.lo x.sh)⟩) := Lib.hid rfl
      by_cases hz : x.lo - max 0 (min x.lo x.sh) = 0 ∧ x.sh - max 0 (min x.lo x.sh) = 0
      · have z1 : (x.lo - max 0 (min x.lo x.sh) != 0) = false := by simpa using hz.1
        have z2 : (x.sh - max 0 (min x.lo x.sh) != 0) = false := by simpa using hz.2
        have HN : Hid (PO.netL (l.take (k + 1)) = PO.netL (l.take k)) := Lib.hid (KN.out k hlt (by rw [HV.out, HX.out]; unfold PO.hasL; simp [hz.1, hz.2]))
        have HOn : Hid (∀ c : Array Value, OwnR (wr.alloc (.cells c 46)) w.heap.size 46 6 u2 ((PO.netL (l.take (k + 1))).map posV)) := Lib.hid (fun c => by rw [HN.out]; exact HOx.out c)
        clear hz HV
        go_wp2_with fail
        go_roundw
        case rel => exact ⟨k + 1, by omega, by go_num, Lib.hid (HOn.out _), Lib.hid (HBx.out _)⟩
        case measure => simp [intOf]; omega
      · have HN : Hid ((PO.netL (l.take (k + 1))).map posV = (PO.netL (l.take k)).map posV ++ [posV (PO.netP x)]) := Lib.hid (by
          rw [KY.out k hlt (by rw [HV.out, HX.out]; unfold PO.hasL; simp only [Bool.or_eq_true, Bool.not_eq_true', beq_eq_false_iff_ne]; omega), HV.out, List.map_append]; rfl)
        rw [HX.out] at HN
        have HZ := Lib.hid (KL.out k hk)
        have hsz : (wr.alloc (.cells (posC ⟨x.ser, x.lo - max 0 (min x.lo x.sh), x.sh - max 0 (min x.lo x.sh)⟩) 46)).heap.size = wr.heap.size + 1 := by simp
        have HOy := Lib.hid (HOx.out (posC ⟨x.ser, x.lo - max 0 (min x.lo x.sh), x.sh - max 0 (min x.lo x.sh)⟩))
        have HBy := Lib.hid (HBx.out (posC ⟨x.ser, x.lo - max 0 (min x.lo x.sh), x.sh - max 0 (min x.lo x.sh)⟩))
        by_cases hz1 : x.lo - max 0 (min x.lo x.sh) = 0
        · have z1 : (x.lo - max 0 (min x.lo x.sh) != 0) = false := by simpa using hz1
          have z2 : (x.sh - max 0 (min x.lo x.sh) != 0) = true := by simpa using (fun h => hz ⟨hz1, h⟩)
          clear hz hz1 HV HOx HBx
          go_wp2_with (at_builtin; go_loud (refine wpList_pushR _ (posV ⟨x.ser, x.lo - max 0 (min x.lo x.sh), x.sh - max 0 (min x.lo x.sh)⟩) (posV_one [⟨x.ser, x.lo - max 0 (min x.lo x.sh), x.sh - max 0 (min x.lo x.sh)⟩] _ (by simp)) w.heap.size ((PO.netL (l.take k)).map posV) _ _ 42 46 6 56 _ Try.underlying42 info_pos rfl (by decide) rfl rfl rfl _ (by rfl) (by first | rfl | exact (congrArg (fun z => Value.slice (some ⟨z, 0, none⟩) 1 1) hsz.symm)) HOy.out ?c1 ?c2 HBy.out.size ?_))
          case c1 => rw [List.length_map]; have := HZ.out; omega
          case c2 => rw [List.length_map]; have := HZ.out; simp only [maxLen]; omega
          intro v6 w6 o6 b6 _ _
          have HO6 : Hid (OwnR w6 w.heap.size 46 6 v6 ((PO.netL (l.take (k + 1))).map posV)) := Lib.hid (by rw [HN.out]; exact o6)
          have HB6 := Lib.hid (HBy.out.trans b6)
          clear o6 b6 HOy HZ HN hsz
          go_wp2_with fail
          go_roundw
          case rel => exact ⟨k + 1, by omega, by go_num, HO6, HB6⟩
          case measure => simp [intOf]; omega
        · have z1 : (x.lo - max 0 (min x.lo x.sh) != 0) = true := by simpa using hz1
          clear hz hz1 HV HOx HBx
          go_wp2_with (at_builtin; go_loud (refine wpList_pushR _ (posV ⟨x.ser, x.lo - max 0 (min x.lo x.sh), x.sh - max 0 (min x.lo x.sh)⟩) (posV_one [⟨x.ser, x.lo - max 0 (min x.lo x.sh), x.sh - max 0 (min x.lo x.sh)⟩] _ (by simp)) w.heap.size ((PO.netL (l.take k)).map posV) _ _ 42 46 6 56 _ Try.underlying42 info_pos rfl (by decide) rfl rfl rfl _ (by rfl) (by first | rfl | exact (congrArg (fun z => Value.slice (some ⟨z, 0, none⟩) 1 1) hsz.symm)) HOy.out ?c3 ?c4 HBy.out.size ?_))
          case c3 => rw [List.length_map]; have := HZ.out; omega
          case c4 => rw [List.length_map]; have := HZ.out; simp only [maxLen]; omega
          intro v6 w6 o6 b6 _ _
          have HO6 : Hid (OwnR w6 w.heap.size 46 6 v6 ((PO.netL (l.take (k + 1))).map posV)) := Lib.hid (by rw [HN.out]; exact o6)
          have HB6 := Lib.hid (HBy.out.trans b6)
          clear o6 b6 HOy HZ HN hsz
          go_wp2_with fail
          go_roundw
          case rel => exact ⟨k + 1, by omega, by go_num, HO6, HB6⟩
          case measure => simp [intOf]; omega
    · obtain rfl : k = l.length := by omega
      rw [KE.out] at HO
      go_wp2_with fail
      go_ret
      exact ⟨_, rfl, HO.out, HB.out⟩
end Go.Proofs.Ytdhkflmodcgooaa

/- Layer 15: the page's examples. -/
namespace PO
theorem fidx_one (p : Pos) : fidx [p] p.ser = some 0 := fidx_some (by simp) (fun j hj => by omega) (NM.seqB_iff.2 rfl)
theorem find_one (p : Pos) : findP [p] p.ser = p := by unfold findP; rw [fidx_one]; rfl
theorem others_one (p : Pos) : others [p] p.ser = [] := by
  have h : NM.seqB p.ser p.ser = true := NM.seqB_iff.2 rfl
  simp [others, h]
theorem puts_one {p q : Pos} (h : q.ser = p.ser) : putsL [p] q = if q.lo = 0 ∧ q.sh = 0 then [] else [q] := by
  unfold putsL
  rw [h, others_one]
  rfl
theorem check_one {p : Pos} (h : lotsB p.lo p.sh = true) : checkE [p] = 0 := by
  refine check_ok (by simp) fun j hj => ?_
  have : j = 0 := by simpa using hj
  subst this
  unfold eAt
  rw [if_neg (by omega)]
  show (if lotsB p.lo p.sh = true then (0 : Int) else 18) = 0
  rw [if_pos h]
abbrev fS : EM.Ser := ⟨⟨#[111, 105, 108]⟩, 1, 20, 0⟩
abbrev p02 : Pos := ⟨fS, 0, 2⟩
theorem c02 : checkE [p02] = 0 := check_one (by decide)
theorem f02 : findP [p02] fS = p02 := find_one p02
theorem c30 : checkE [⟨fS, 3, 0⟩] = 0 := check_one (by decide)
theorem f30 : findP [⟨fS, 3, 0⟩] fS = ⟨fS, 3, 0⟩ := find_one ⟨fS, 3, 0⟩
theorem ap1 : applyE [p02] 1 fS 5 0 = 0 ∧ applyL [p02] 1 fS 5 0 = [⟨fS, 3, 0⟩] := by
  have hn : newP [p02] 1 fS 5 0 = ⟨fS, 3, 0⟩ := by unfold newP; rw [f02]; rfl
  have hp : putsL [p02] ⟨fS, 3, 0⟩ = [⟨fS, 3, 0⟩] := by rw [puts_one (p := p02) (q := ⟨fS, 3, 0⟩) rfl, if_neg (by decide)]
  have e : applyE [p02] 1 fS 5 0 = 0 := by
    unfold applyE
    rw [hn, hp, f02, c02, if_neg (by decide), if_neg (by decide), if_neg (by decide), if_neg (by simp)]
  exact ⟨e, by unfold applyL; rw [if_pos e, hn, hp]⟩
theorem ap2 : applyE [p02] 3 fS 5 1 = 0 ∧ applyL [p02] 3 fS 5 1 = [⟨fS, 4, 1⟩] := by
  have hn : newP [p02] 3 fS 5 1 = ⟨fS, 4, 1⟩ := by unfold newP; rw [f02]; rfl
  have hp : putsL [p02] ⟨fS, 4, 1⟩ = [⟨fS, 4, 1⟩] := by rw [puts_one (p := p02) (q := ⟨fS, 4, 1⟩) rfl, if_neg (by decide)]
  have e : applyE [p02] 3 fS 5 1 = 0 := by
    unfold applyE
    rw [hn, hp, f02, c02, if_neg (by decide), if_neg (by decide), if_neg (by decide), if_neg (by simp)]
  exact ⟨e, by unfold applyL; rw [if_pos e, hn, hp]⟩
theorem ap3 : applyE [p02] 3 fS 5 3 = 30 := by
  unfold applyE
  rw [f02, c02, if_neg (by decide), if_neg (by decide), if_pos (by decide)]
  decide
theorem ap4 : applyE [p02] 2 fS 2 0 = 0 ∧ applyL [p02] 2 fS 2 0 = [] := by
  have hn : newP [p02] 2 fS 2 0 = ⟨fS, 0, 0⟩ := by unfold newP; rw [f02]; rfl
  have hp : putsL [p02] ⟨fS, 0, 0⟩ = [] := by rw [puts_one (p := p02) (q := ⟨fS, 0, 0⟩) rfl, if_pos (by decide)]
  have e : applyE [p02] 2 fS 2 0 = 0 := by
    unfold applyE
    rw [hn, hp, f02, c02, if_neg (by decide), if_neg (by decide), if_neg (by decide), if_neg (by simp)]
  exact ⟨e, by unfold applyL; rw [if_pos e, hn, hp]⟩
theorem mv1 : mvE [⟨fS, 3, 0⟩] [p02] 2 fS 2 0 = 0 ∧ mvA [⟨fS, 3, 0⟩] [p02] 2 fS 2 0 = [⟨fS, 1, 0⟩] ∧ mvB [⟨fS, 3, 0⟩] [p02] 2 fS 2 0 = [] := by
  have h0 : mv0E [⟨fS, 3, 0⟩] [p02] 2 2 0 = 0 := by
    unfold mv0E
    rw [c30, c02, if_neg (by decide), if_neg (by decide), if_neg (by decide), if_neg (by decide)]
  have h1 : gvE [⟨fS, 3, 0⟩] fS 2 0 = 0 := by unfold gvE; rw [f30, if_neg (by decide)]
  have h2 : gvL [⟨fS, 3, 0⟩] fS 2 0 = [⟨fS, 1, 0⟩] := by
    have hn : lessP [⟨fS, 3, 0⟩] fS 2 0 = ⟨fS, 1, 0⟩ := by unfold lessP; rw [f30]; rfl
    unfold gvL
    rw [if_pos h1, hn, puts_one (p := ⟨fS, 3, 0⟩) (q := ⟨fS, 1, 0⟩) rfl, if_neg (by decide)]
  have h3 : r1E [p02] 2 fS 2 = 0 := by unfold r1E; rw [if_neg (by decide)]; exact ap4.1
  have h4 : r1L [p02] 2 fS 2 = [] := by unfold r1L; rw [if_neg (by decide)]; exact ap4.2
  have h5 : rcE [p02] 2 fS 2 0 = 0 := by unfold rcE; rw [h3, h4, if_neg (by decide)]; rfl
  have h6 : rcL [p02] 2 fS 2 0 = [] := by unfold rcL; rw [if_pos h5, h4]; rfl
  have e : mvE [⟨fS, 3, 0⟩] [p02] 2 fS 2 0 = 0 := by unfold mvE; rw [h0, h1, h5]; rfl
  exact ⟨e, by unfold mvA; rw [if_pos e]; exact h2, by unfold mvB; rw [if_pos e]; exact h6⟩
theorem nt1 : netL [⟨fS, 4, 1⟩] = [⟨fS, 3, 0⟩] := by rfl
end PO
namespace Go.Proofs.Ytdhkflmodcgooaa
open Go.RowKit Go.Recs Go.Maps
set_option linter.unusedVariables false
set_option linter.unusedSimpArgs false
theorem lit_pos (W : World) (x : PO.Pos) (hq : posQ x) : Poss (W.alloc (.cells (posC x) 46)) (some ⟨W.heap.size, 0, none⟩) [x] := by
  refine ⟨?_, by intro a ha; rw [List.mem_singleton.1 ha]; exact hq⟩
  obtain ⟨A', cap, e, hr, _⟩ := OwnR.recs (OwnR.lit W W.heap.size 46 6 [posV x] (by simp [posV]) (Nat.le_refl _) (by simp [maxLen]))
  injection e with e1
  subst e1
  exact hr
theorem fS_q : serQ PO.fS := ⟨by decide, ⟨by decide, by decide⟩, ⟨by decide, by decide⟩, ⟨by decide, by decide⟩⟩
theorem pq_small {a b : Int} (h : (0 ≤ a ∧ a ≤ 1000) ∧ 0 ≤ b ∧ b ≤ 1000) : posQ ⟨PO.fS, a, b⟩ := ⟨fS_q, ⟨by show _ ≤ a; omega, by show a ≤ _; omega⟩, ⟨by show _ ≤ b; omega, by show b ≤ _; omega⟩⟩
theorem results_ser15 {fn : Func} {p : Tmp} (h : fn.results = #[.cell p 44]) (tmps : Array Value) (w : World) (g : Nat) (x : EM.Ser)
    (hp : tmps.getD p undef = .pointer (some ⟨g, 0, none⟩)) (hb : SBox w g x) : (results fn tmps).run Try.prog w = .ok (serA x) w := by
  have hu : Try.prog.underlying 44 = some (.struct (Try.prog.fieldsOf 44)) := by kernel_rfl
  have hz : (Try.prog.info? 44).map (·.size) = some 4 := by kernel_rfl
  rw [results_cell1 h, hp]
  simp only [asAddr, Sem.run_pure, Result.andThen_ok]
  rw [run_loadVar_row w g 44 44 _ (0, 0) _ hb hu rfl hz]
set_option maxHeartbeats 1000000 in
theorem f15_any (w : World) : Calls Try.prog 52 #[] w fun e w' => e = .returned (serA PO.fS) ∧ Below w.heap.size w w' := by
  have HB0 := Lib.hid (fun (c : Array Value) => below_al (Below.refl w.heap.size w) (.cells c 44))
  go_enter Try.func52, Try.ntmps52
  go_wp2_with fail
  (try simp only [Exit.inBlock, Exit.then])
  exact bodyPost_ret (results_ser15 (x := PO.fS) rfl _ _ _ rfl (SBox.new w PO.fS)) rfl ⟨rfl, HB0.out _⟩
end Go.Proofs.Ytdhkflmodcgooaa

/- Layer 15: the page's examples, walked. -/
namespace Go.Proofs.Ytdhkflmodcgooaa
open Go.RowKit Go.Recs Go.Maps
set_option linter.unusedVariables false
set_option linter.unusedSimpArgs false
abbrev posLit (a b : Int) : Array Value := #[.string ⟨#[111, 105, 108]⟩, .int .i64 1, .int .i64 20, .int .i64 0, .int .i64 a, .int .i64 b]
abbrev legLit (q : Int) : Array Value := #[.string ⟨#[]⟩, .string ⟨#[]⟩, .string ⟨#[111, 105, 108]⟩, .int .i64 1, .int .i64 20, .int .i64 0, .int .i64 q, .int .i64 0, .int .i64 0]
set_option maxHeartbeats 8000000 in
set_option maxRecDepth 100000 in
theorem goes15_any (w : World) : Calls Try.prog 28 #[] w fun e w' => e = .returned (.bool true) ∧ Below w.heap.size w w' := by
  have CF := Lib.hid (fun ww => f15_any ww)
  have HQ : Hid (legQ (sleg PO.fS 5)) := Lib.hid (sleg_q fS_q (by omega) (by omega))
  have A1 := Lib.hid (fun A c ww h => papply_any A [PO.p02] 1 c rfl 1 (sleg PO.fS 5) HQ.out 0 ww h)
  have A2 := Lib.hid (fun A c ww h => papply_any A [PO.p02] 1 c rfl 3 (sleg PO.fS 5) HQ.out 1 ww h)
  have A3 := Lib.hid (fun A c ww h => papply_any A [PO.p02] 1 c rfl 3 (sleg PO.fS 5) HQ.out 3 ww h)
  have AM := Lib.hid (fun A c B d ww h1 h2 => pmove_any A B [⟨PO.fS, 3, 0⟩] [PO.p02] 1 c 1 d rfl rfl 2 PO.fS fS_q 2 0 ww h1 h2)
  have AN := Lib.hid (fun A c ww h => pnetted_any A [⟨PO.fS, 4, 1⟩] 1 c rfl (by simp) ww h)
  rw [PO.ap1.1, PO.ap1.2] at A1
  rw [PO.ap2.1, PO.ap2.2] at A2
  rw [PO.ap3] at A3
  rw [PO.mv1.1, PO.mv1.2.1, PO.mv1.2.2] at AM
  rw [PO.nt1] at AN
  go_enter Try.func28, Try.ntmps28
  go_wp2_with fail
  refine (CF.out _).mono ?_
  rintro e w1 ⟨rfl, b1⟩
  have HB1 := Lib.hid (below_al b1 (.cells (posLit 0 2) 46))
  have HP1 : Hid (Poss (w1.alloc (.cells (posLit 0 2) 46)) (some ⟨w1.heap.size, 0, none⟩) [PO.p02]) := Lib.hid (lit_pos w1 PO.p02 (pq_small (by omega)))
  clear b1
  go_wp2_with fail
  generalize w1.alloc (.cells (posLit 0 2) 46) = w2 at *
  generalize w1.heap.size = g1 at *
  refine (CF.out _).mono ?_
  rintro e w3 ⟨rfl, b3⟩
  have HB3 := Lib.hid (HB1.out.trans (b3.mono HB1.out.size))
  have HP3 := Lib.hid ((HP1.out.below b3).below (below_al (Below.refl w3.heap.size w3) (.cells (legLit 5) 60)))
  have HL3 := Lib.hid (CB.new w3 60 (legLit 5))
  have HB4 := Lib.hid (below_al HB3.out (.cells (legLit 5) 60))
  clear b3 HB1 HP1 HB3
  go_wp2_with fail
  generalize w3.alloc (.cells (legLit 5) 60) = w4 at *
  generalize w3.heap.size = g2 at *
  refine (A1.out _ _ _ HP3.out).mono ?_
  rintro e w5 ⟨v5, rfl, o5, b5⟩
  obtain ⟨B5, c5, rfl, hR5, hc5⟩ := o5.recs
  have HO5 : Hid (Poss w5 B5 [⟨PO.fS, 3, 0⟩]) := Lib.hid ⟨hR5, by intro a ha; rw [List.mem_singleton.1 ha]; exact pq_small (by omega)⟩
  have HB5 := Lib.hid (HB4.out.trans (b5.mono HB4.out.size))
  have HP5 := Lib.hid (HP3.out.below b5)
  have HL5 := Lib.hid (HL3.out.below b5 HL3.out.lt)
  rw [show ([⟨PO.fS, 3, 0⟩] : List PO.Pos).map posV = [posV ⟨PO.fS, 3, 0⟩] from rfl, List.length_singleton]
  clear o5 b5 hR5 hc5 HB4 HP3 HL3 A1
  have y0 : w5.cell? ⟨g2, 0, none⟩ = some (.string ⟨#[]⟩) := HL5.out.cell 0
  have y1 : w5.cell? ⟨g2, 1, none⟩ = some (.string ⟨#[]⟩) := HL5.out.cell 1
  have y2 : w5.cell? ⟨g2, 2, none⟩ = some (.string ⟨#[111, 105, 108]⟩) := HL5.out.cell 2
  have y3 : w5.cell? ⟨g2, 3, none⟩ = some (.int .i64 1) := HL5.out.cell 3
  have y4 : w5.cell? ⟨g2, 4, none⟩ = some (.int .i64 20) := HL5.out.cell 4
  have y5 : w5.cell? ⟨g2, 5, none⟩ = some (.int .i64 0) := HL5.out.cell 5
  have y6 : w5.cell? ⟨g2, 6, none⟩ = some (.int .i64 5) := HL5.out.cell 6
  have y7 : w5.cell? ⟨g2, 7, none⟩ = some (.int .i64 0) := HL5.out.cell 7
  have y8 : w5.cell? ⟨g2, 8, none⟩ = some (.int .i64 0) := HL5.out.cell 8
  have yl := HL5.out.lt
  go_wp2_with fail
  refine (A2.out _ _ _ HP5.out).mono ?_
  clear y0 y1 y2 y3 y4 y5 y6 y7 y8 yl
  rintro e w6 ⟨v6, rfl, o6, b6⟩
  obtain ⟨B6, c6, rfl, hR6, hc6⟩ := o6.recs
  have HO6 : Hid (Poss w6 B6 [⟨PO.fS, 4, 1⟩]) := Lib.hid ⟨hR6, by intro a ha; rw [List.mem_singleton.1 ha]; exact pq_small (by omega)⟩
  have HB6 := Lib.hid (HB5.out.trans (b6.mono HB5.out.size))
  have HP6 := Lib.hid (HP5.out.below b6); have HQ6 := Lib.hid (HO5.out.below b6)
  have HL6 := Lib.hid (HL5.out.below b6 HL5.out.lt)
  rw [show ([⟨PO.fS, 4, 1⟩] : List PO.Pos).map posV = [posV ⟨PO.fS, 4, 1⟩] from rfl, List.length_singleton]
  clear o6 b6 hR6 hc6 HB5 HP5 HL5 HO5 A2
  have y0 : w6.cell? ⟨g2, 0, none⟩ = some (.string ⟨#[]⟩) := HL6.out.cell 0
  have y1 : w6.cell? ⟨g2, 1, none⟩ = some (.string ⟨#[]⟩) := HL6.out.cell 1
  have y2 : w6.cell? ⟨g2, 2, none⟩ = some (.string ⟨#[111, 105, 108]⟩) := HL6.out.cell 2
  have y3 : w6.cell? ⟨g2, 3, none⟩ = some (.int .i64 1) := HL6.out.cell 3
  have y4 : w6.cell? ⟨g2, 4, none⟩ = some (.int .i64 20) := HL6.out.cell 4
  have y5 : w6.cell? ⟨g2, 5, none⟩ = some (.int .i64 0) := HL6.out.cell 5
  have y6 : w6.cell? ⟨g2, 6, none⟩ = some (.int .i64 5) := HL6.out.cell 6
  have y7 : w6.cell? ⟨g2, 7, none⟩ = some (.int .i64 0) := HL6.out.cell 7
  have y8 : w6.cell? ⟨g2, 8, none⟩ = some (.int .i64 0) := HL6.out.cell 8
  have yl := HL6.out.lt
  go_wp2_with fail
  refine (A3.out _ _ _ HP6.out).mono ?_
  clear y0 y1 y2 y3 y4 y5 y6 y7 y8 yl
  rintro e w7 ⟨v7, rfl, o7, b7⟩
  have HB7 := Lib.hid (HB6.out.trans (b7.mono HB6.out.size))
  have HP7 := Lib.hid (HP6.out.below b7); have HQ7 := Lib.hid (HQ6.out.below b7); have HO7 := Lib.hid (HO6.out.below b7)
  clear o7 b7 HB6 HP6 HQ6 HL6 HO6 A3
  go_wp2_with fail
  refine (CF.out _).mono ?_
  rintro e w8 ⟨rfl, b8⟩
  have HB8 := Lib.hid (HB7.out.trans (b8.mono HB7.out.size))
  have HP8 := Lib.hid (HP7.out.below b8); have HQ8 := Lib.hid (HQ7.out.below b8); have HO8 := Lib.hid (HO7.out.below b8)
  clear b8 HB7 HP7 HQ7 HO7
  go_wp2_with fail
  refine (AM.out _ _ _ _ _ HQ8.out HP8.out).mono ?_
  rintro e w9 ⟨va, vb, rfl, oa, ob, b9⟩
  obtain ⟨Ba, ca, rfl, hRa, hca⟩ := oa.recs
  obtain ⟨Bb, cb, rfl, hRb, hcb⟩ := ob.recs
  have HA9 : Hid (Poss w9 Ba [⟨PO.fS, 1, 0⟩]) := Lib.hid ⟨hRa, by intro a ha; rw [List.mem_singleton.1 ha]; exact pq_small (by omega)⟩
  have HB9 := Lib.hid (HB8.out.trans (b9.mono HB8.out.size))
  have HQ9 := Lib.hid (HQ8.out.below b9); have HO9 := Lib.hid (HO8.out.below b9)
  rw [show ([⟨PO.fS, 1, 0⟩] : List PO.Pos).map posV = [posV ⟨PO.fS, 1, 0⟩] from rfl, List.length_singleton, show ([] : List PO.Pos).map posV = [] from rfl, List.length_nil]
  clear oa ob b9 hRa hRb hca hcb HB8 HP8 HQ8 HO8 AM
  go_wp2_with fail
  refine (CF.out _).mono ?_
  rintro e w10 ⟨rfl, b10⟩
  have HBx := Lib.hid (below_al (Below.refl w10.heap.size w10) (.cells (posLit 4 1) 46))
  have HB10 := Lib.hid (below_al (HB9.out.trans (b10.mono HB9.out.size)) (.cells (posLit 4 1) 46))
  have HQ10 := Lib.hid ((HQ9.out.below b10).below HBx.out); have HO10 := Lib.hid ((HO9.out.below b10).below HBx.out); have HA10 := Lib.hid ((HA9.out.below b10).below HBx.out)
  have HN10 : Hid (Poss (w10.alloc (.cells (posLit 4 1) 46)) (some ⟨w10.heap.size, 0, none⟩) [⟨PO.fS, 4, 1⟩]) := Lib.hid (lit_pos w10 ⟨PO.fS, 4, 1⟩ (pq_small (by omega)))
  clear b10 HBx HB9 HQ9 HO9 HA9 CF
  go_wp2_with fail
  generalize w10.alloc (.cells (posLit 4 1) 46) = w11 at *
  generalize w10.heap.size = g3 at *
  refine (AN.out _ _ _ HN10.out).mono ?_
  rintro e w12 ⟨vn, rfl, on, b12⟩
  obtain ⟨Bn, cn, rfl, hRn, hcn⟩ := on.recs
  have HN12 : Hid (Poss w12 Bn [⟨PO.fS, 3, 0⟩]) := Lib.hid ⟨hRn, by intro a ha; rw [List.mem_singleton.1 ha]; exact pq_small (by omega)⟩
  have HB12 := Lib.hid (HB10.out.trans (b12.mono HB10.out.size))
  have HQ12 := Lib.hid (HQ10.out.below b12); have HO12 := Lib.hid (HO10.out.below b12); have HA12 := Lib.hid (HA10.out.below b12)
  rw [show ([⟨PO.fS, 3, 0⟩] : List PO.Pos).map posV = [posV ⟨PO.fS, 3, 0⟩] from rfl, List.length_singleton]
  clear on b12 hRn hcn HB10 HQ10 HO10 HA10 HN10 AN
  obtain ⟨q1, q2, qx, rfl, hq1, QV, _, qa0, qa1, qa2, qa3, qa4, qa5⟩ := poss_get HQ12.out (k := 0) (by simp)
  obtain ⟨r1, r2, rx, rfl, hr1, RV, _, ra0, ra1, ra2, ra3, ra4, ra5⟩ := poss_get HO12.out (k := 0) (by simp)
  obtain ⟨s1, s2, sx, rfl, hs1, SV, _, sa0, sa1, sa2, sa3, sa4, sa5⟩ := poss_get HA12.out (k := 0) (by simp)
  obtain ⟨t1, t2, tx, rfl, ht1, TV, _, ta0, ta1, ta2, ta3, ta4, ta5⟩ := poss_get HN12.out (k := 0) (by simp)
  have q4 : w12.cell? ⟨q1, q2 + 4, none⟩ = some (.int .i64 3) := by have e := QV.out; rw [← e] at qa4; simpa [PO.pAt] using qa4
  have q5 : w12.cell? ⟨q1, q2 + 5, none⟩ = some (.int .i64 0) := by have e := QV.out; rw [← e] at qa5; simpa [PO.pAt] using qa5
  have r4 : w12.cell? ⟨r1, r2 + 4, none⟩ = some (.int .i64 4) := by have e := RV.out; rw [← e] at ra4; simpa [PO.pAt] using ra4
  have r5 : w12.cell? ⟨r1, r2 + 5, none⟩ = some (.int .i64 1) := by have e := RV.out; rw [← e] at ra5; simpa [PO.pAt] using ra5
  have s4 : w12.cell? ⟨s1, s2 + 4, none⟩ = some (.int .i64 1) := by have e := SV.out; rw [← e] at sa4; simpa [PO.pAt] using sa4
  have t4 : w12.cell? ⟨t1, t2 + 4, none⟩ = some (.int .i64 3) := by have e := TV.out; rw [← e] at ta4; simpa [PO.pAt] using ta4
  have t5 : w12.cell? ⟨t1, t2 + 5, none⟩ = some (.int .i64 0) := by have e := TV.out; rw [← e] at ta5; simpa [PO.pAt] using ta5
  clear qa0 qa1 qa2 qa3 qa4 qa5 ra0 ra1 ra2 ra3 ra4 ra5 sa0 sa1 sa2 sa3 sa4 sa5 ta0 ta1 ta2 ta3 ta4 ta5 QV RV SV TV
  go_wp2_with fail
  go_ret
  exact ⟨rfl, HB12.out⟩
end Go.Proofs.Ytdhkflmodcgooaa

/- Layer 15's mathematics: each series' Net behind a row of legs. -/
namespace PO
structure Dor where
  leg : NM.Leg
  clo : Int
def Dor.zero : Dor := ⟨NM.zero, 0⟩
def dAt (l : List Dor) (k : Nat) : Dor := l.getD k Dor.zero
theorem dAt_get {l : List Dor} {k : Nat} (h : k < l.length) : dAt l k = l[k] := by simp [dAt, List.getD, h]
def net (p : Pos) : Int := p.lo - p.sh
def inc (x : Dor) (s : EM.Ser) : Int := if NM.seqB x.leg.ser s = true then x.leg.qty else 0
def sumI (s : EM.Ser) : List Dor → Int
  | [] => 0
  | x :: r => inc x s + sumI s r
theorem sumI_append (s : EM.Ser) : ∀ (a b : List Dor), sumI s (a ++ b) = sumI s a + sumI s b
  | [], b => by simp [sumI]
  | x :: a, b => by simp only [List.cons_append, sumI, sumI_append s a b]; omega
theorem sumI_take {l : List Dor} {k : Nat} (h : k < l.length) (s : EM.Ser) : sumI s (l.take (k + 1)) = sumI s (l.take k) + inc (dAt l k) s := by
  rw [List.take_succ_eq_append_getElem h, sumI_append, dAt_get h]; simp [sumI]
theorem sumI_drop {l : List Dor} {k : Nat} (h : k < l.length) (s : EM.Ser) : sumI s (l.drop k) = sumI s (l.drop (k + 1)) + inc (dAt l k) s := by
  rw [List.drop_eq_getElem_cons h, dAt_get h]; simp only [sumI]; omega
theorem sumI_small {l : List Dor} (s : EM.Ser) (h : ∀ j, j < l.length → -1048576 ≤ (dAt l j).leg.qty ∧ (dAt l j).leg.qty ≤ 1048576) : ∀ k, k ≤ l.length → -1048576 * (k : Int) ≤ sumI s (l.take k) ∧ sumI s (l.take k) ≤ 1048576 * (k : Int)
  | 0, _ => by simp [sumI]
  | k + 1, hk => by
    have h1 := sumI_small s h k (by omega)
    have h2 := h k (by omega)
    rw [sumI_take (by omega)]
    have h3 : -1048576 ≤ inc (dAt l k) s ∧ inc (dAt l k) s ≤ 1048576 := by unfold inc; split <;> omega
    omega
theorem find_mem {m : List Pos} (h : ascP m) {q : Pos} (hq : q ∈ m) : findP m q.ser = q := by
  rcases find_cases m q.ser with ⟨h1, h2⟩ | ⟨_, h2⟩
  · exact asc_inj h h1 hq h2
  · exact absurd rfl (h2 q hq)
theorem find_not {m : List Pos} {s : EM.Ser} (h : ∀ q ∈ m, q.ser ≠ s) : findP m s = ⟨s, 0, 0⟩ := by
  rcases find_cases m s with ⟨h1, h2⟩ | ⟨h1, _⟩
  · exact absurd h2 (h _ h1)
  · exact h1
theorem mem_others {l : List Pos} {s : EM.Ser} {q : Pos} : q ∈ others l s ↔ q ∈ l ∧ q.ser ≠ s := by
  unfold others
  rw [List.mem_filter]
  constructor
  · rintro ⟨h1, h2⟩
    refine ⟨h1, fun e => ?_⟩
    rw [NM.seqB_iff.2 e] at h2; cases h2
  · rintro ⟨h1, h2⟩
    refine ⟨h1, ?_⟩
    cases hh : NM.seqB q.ser s with
    | false => rfl
    | true => exact absurd (NM.seqB_iff.1 hh) h2
theorem mem_puts {l : List Pos} {p q : Pos} : q ∈ putsL l p ↔ (q = p ∧ ¬ (p.lo = 0 ∧ p.sh = 0)) ∨ (q ∈ l ∧ q.ser ≠ p.ser) := by
  unfold putsL
  split
  · rename_i h
    rw [mem_others]
    constructor
    · exact .inr
    · rintro (⟨_, h2⟩ | h1)
      · exact absurd h h2
      · exact h1
  · rename_i h
    rw [(ins_perm p _).mem_iff, List.mem_cons, mem_others]
    constructor
    · rintro (h1 | h1)
      · exact .inl ⟨h1, h⟩
      · exact .inr h1
    · rintro (⟨h1, _⟩ | h1)
      · exact .inl h1
      · exact .inr h1
theorem find_put_same {l : List Pos} (h : ascP l) (p : Pos) : findP (putsL l p) p.ser = p := by
  by_cases hz : p.lo = 0 ∧ p.sh = 0
  · rw [find_not (fun q hq => ?_)]
    · obtain ⟨s, lo, sh⟩ := p
      obtain ⟨h1, h2⟩ := hz
      simp only at h1 h2
      rw [h1, h2]
    · rcases mem_puts.1 hq with ⟨_, h2⟩ | ⟨_, h2⟩
      · exact absurd hz h2
      · exact h2
  · exact find_mem (puts_asc h p) (mem_puts.2 (.inl ⟨rfl, hz⟩))
theorem find_put_other {l : List Pos} (h : ascP l) (p : Pos) {s : EM.Ser} (hs : s ≠ p.ser) : findP (putsL l p) s = findP l s := by
  rcases find_cases l s with ⟨h1, h2⟩ | ⟨h1, h2⟩
  · have := find_mem (puts_asc h p) (q := findP l s) (mem_puts.2 (.inr ⟨h1, by rw [h2]; exact hs⟩))
    rwa [h2] at this
  · rw [h1]
    refine find_not fun q hq e => ?_
    rcases mem_puts.1 hq with ⟨h3, _⟩ | ⟨h3, _⟩
    · rw [h3] at e; exact hs e.symm
    · exact h2 q h3 e
theorem check_of_good {l : List Pos} (hl : l.length ≤ 128) (ha : ascP l) (hg : ∀ p ∈ l, lotsB p.lo p.sh = true) : checkE l = 0 := by
  refine check_ok (by omega) fun j hj => ?_
  unfold eAt
  rw [if_neg, if_pos]
  · rw [pAt_get hj]; exact hg _ (List.getElem_mem hj)
  · rintro ⟨h0, h1⟩
    have hl : EM.lt (pAt l (j - 1)).ser (pAt l j).ser := by
      rw [pAt_get hj, pAt_get (by omega)]
      exact List.pairwise_iff_getElem.1 ha (j - 1) j (by omega) hj (by omega)
    have := EM.cmp_neg.2 hl
    omega
theorem apply_net {l : List Pos} {s : EM.Ser} {q : Int} (h : applyE l 2 s q 0 = 0) :
    (∀ s', net (findP (applyL l 2 s q 0) s') = net (findP l s') + if NM.seqB s s' = true then q else 0) ∧ checkE (applyL l 2 s q 0) = 0 ∧ checkE l = 0 ∧ -1048576 ≤ q ∧ q ≤ 1048576 := by
  obtain ⟨h1, h2, h3, h4, h5⟩ := apply_inv h
  obtain ⟨_, ha, hg⟩ := check_good h1
  obtain ⟨⟨q0, q1, q2⟩, k1, k2⟩ := clo_ok hg h2 s
  obtain ⟨e1, e2, e3, e4⟩ := chg_q (find_lots hg s) k1 k2 h3
  have es : (newP l 2 s q 0).ser = s := by unfold newP; rw [e1, find_ser]
  have en : net (newP l 2 s q 0) = net (findP l s) + q := by
    unfold newP net chg absI
    split
    · show (findP l s).lo - _ - ((findP l s).sh + (-q - _)) = _; omega
    · show (findP l s).lo + (q - _) - ((findP l s).sh - _) = _; omega
  rw [h5]
  refine ⟨fun s' => ?_, check_of_good h4 (puts_asc ha _) (fun p hp => ?_), h1, q1, q2⟩
  · by_cases hs : s = s'
    · subst hs
      have := find_put_same ha (newP l 2 s q 0)
      rw [es] at this
      rw [this, en, if_pos (NM.seqB_iff.2 rfl)]
    · rw [find_put_other ha _ (by rw [es]; exact fun e => hs e.symm), if_neg (fun e => hs (NM.seqB_iff.1 e))]; omega
  · rcases mem_puts.1 hp with ⟨rfl, hz⟩ | ⟨hp, _⟩
    · refine lotsB_iff.2 ⟨?_, ?_, ?_⟩
      · unfold newP; omega
      · unfold newP; omega
      · unfold newP at hz ⊢; omega
    · exact hg p hp
end PO
namespace Go.Recs
open Go.RowKit
def doV (x : PO.Dor) : List Value := [.string x.leg.am, .string x.leg.an, .string x.leg.ser.prod, .int .i64 x.leg.ser.kind, .int .i64 x.leg.ser.expiry, .int .i64 x.leg.ser.strike, .int .i64 x.leg.qty, .int .i64 x.leg.price, .int .i64 x.leg.trade, .int .i64 x.clo]
def doQ (x : PO.Dor) : Prop := legQ x.leg ∧ i64 x.clo
def doL : List Leaf := [.str, .str, .str, .int .i64, .int .i64, .int .i64, .int .i64, .int .i64, .int .i64, .int .i64]
theorem do_row (r : List Value) (h : okAll doL r) : ∃ x : PO.Dor, r = doV x ∧ doQ x := by
  obtain ⟨c0, r0, rfl, ⟨s0, rfl, h0⟩, g0⟩ := okAll_cons h
  obtain ⟨c1, r1, rfl, ⟨s1, rfl, h1⟩, g1⟩ := okAll_cons g0
  obtain ⟨c2, r2, rfl, ⟨s2, rfl, h2⟩, g2⟩ := okAll_cons g1
  obtain ⟨c3, r3, rfl, ⟨n3, rfl, h3⟩, g3⟩ := okAll_cons g2
  obtain ⟨c4, r4, rfl, ⟨n4, rfl, h4⟩, g4⟩ := okAll_cons g3
  obtain ⟨c5, r5, rfl, ⟨n5, rfl, h5⟩, g5⟩ := okAll_cons g4
  obtain ⟨c6, r6, rfl, ⟨n6, rfl, h6⟩, g6⟩ := okAll_cons g5
  obtain ⟨c7, r7, rfl, ⟨n7, rfl, h7⟩, g7⟩ := okAll_cons g6
  obtain ⟨c8, r8, rfl, ⟨n8, rfl, h8⟩, g8⟩ := okAll_cons g7
  obtain ⟨c9, r9, rfl, ⟨n9, rfl, h9⟩, g9⟩ := okAll_cons g8
  rw [okAll_nil g9]
  exact ⟨⟨⟨s0, s1, ⟨s2, n3, n4, n5⟩, n6, n7, n8⟩, n9⟩, rfl, ⟨h0, h1, ⟨h2, bounds_i64 h3, bounds_i64 h4, bounds_i64 h5⟩, bounds_i64 h6, bounds_i64 h7, bounds_i64 h8⟩, bounds_i64 h9⟩
abbrev Dos := TR doV doQ 10
theorem dos_get {w : World} {A : Option Addr} {l : List PO.Dor} (h : Dos w A l) {k : Nat} (hk : k < l.length) :
    ∃ b off, ∃ x : PO.Dor, A = some ⟨b, off, none⟩ ∧ b < w.heap.size ∧ Hid (PO.dAt l k = x) ∧ doQ x ∧ w.cell? ⟨b, off + k * 10, none⟩ = some (.string x.leg.am) ∧ w.cell? ⟨b, off + k * 10 + 1, none⟩ = some (.string x.leg.an) ∧
      w.cell? ⟨b, off + k * 10 + 2, none⟩ = some (.string x.leg.ser.prod) ∧ w.cell? ⟨b, off + k * 10 + 3, none⟩ = some (.int .i64 x.leg.ser.kind) ∧ w.cell? ⟨b, off + k * 10 + 4, none⟩ = some (.int .i64 x.leg.ser.expiry) ∧
      w.cell? ⟨b, off + k * 10 + 5, none⟩ = some (.int .i64 x.leg.ser.strike) ∧ w.cell? ⟨b, off + k * 10 + 6, none⟩ = some (.int .i64 x.leg.qty) ∧ w.cell? ⟨b, off + k * 10 + 7, none⟩ = some (.int .i64 x.leg.price) ∧ w.cell? ⟨b, off + k * 10 + 8, none⟩ = some (.int .i64 x.leg.trade) ∧ w.cell? ⟨b, off + k * 10 + 9, none⟩ = some (.int .i64 x.clo) := by
  obtain ⟨b, off, rfl, hb, hq, hc⟩ := h.at_ hk
  exact ⟨b, off, l[k], rfl, hb, Lib.hid (PO.dAt_get hk), hq, hc 0 (by omega), hc 1 (by omega), hc 2 (by omega), hc 3 (by omega), hc 4 (by omega), hc 5 (by omega), hc 6 (by omega), hc 7 (by omega), hc 8 (by omega), hc 9 (by omega)⟩
end Go.Recs

/- What the reach says of a text that opens a record, over any program. -/
namespace Go.Recs
open Go.ChangeShapes Go.WideShapes Go.RowKit Go.Deep
set_option linter.unusedVariables false
theorem first_sized {H : Type} {enc : TypeId × Value → H} {P : Program} {W : World} {base : Nat} {spare : Nat → Bool} {held : Bool} {T : TypeId} {cs : Array Value} {d : DataW H} {p : List MemPlace} {fs : Array Field} {f : Field} {s : ByteArray}
    {ts : List TypeId} {ds : List (DataW H)} {j : Nat}
    (h : (DataW.weightsEach P ts ds).all (· ≤ reachBytes) = true) (ht : ts[j]? = some T) (hd : ds[j]? = some d)
    (hT : DataW.Trod enc P W base spare held T (.agg cs) d p) (hu : P.underlying T = some (.struct fs)) (hf : fs[0]? = some f) (ho : f.offset = 0) (hs : P.underlying f.type = some .string) (hc : P.cellsOf f.type = 1) (hcs : cs[0]? = some (.string s)) :
    s.size ≤ 140737488351232 := by
  obtain ⟨fuel, hx⟩ := hT
  obtain ⟨xs, n, _, hxd, _, hxl, hfl⟩ := DataW.trod_struct hu hx
  have h0 := hfl 0 f hf
  have hpos : 0 < xs.length := by
    rw [hxl]
    rcases Nat.eq_zero_or_pos fs.size with e | e
    · rw [Array.getElem?_eq_none (by omega)] at hf; cases hf
    · exact e
  rw [List.getElem?_eq_getElem hpos] at h0
  obtain ⟨t, ht0, hx0, _⟩ := DataW.trod_string hs h0
  rw [ho, hc, List.drop_zero] at ht0
  have ets : t = s := by
    have e1 : (Value.agg cs).cells.toList.take 1 = [Value.string t] := ht0
    have e2 : (Value.agg cs).cells.toList[0]? = some (Value.string s) := by simpa [Value.cells] using hcs
    cases hl : (Value.agg cs).cells.toList with
    | nil => rw [hl] at e2; cases e2
    | cons a r => rw [hl] at e1 e2; simp at e1 e2; rw [e1] at e2; injection e2
  subst ets
  injection hxd with hd1 _
  have hw : t.data.toList.length ∈ d.weights P T := by
    rw [hd1]
    simp only [DataW.weights, hu]
    have hm := DataW.weights_mem_each (P := P) (ts := fs.toList.map (·.type)) (ds := xs.map (·.1)) (j := 0) (t := f.type) (d := xs[0].1) (by rw [List.getElem?_map, Array.getElem?_toList, hf]; rfl) (by rw [List.getElem?_map, List.getElem?_eq_getElem hpos]; rfl) t.data.toList.length
    apply hm
    rw [hx0]
    simp [DataW.weights]
  have := List.all_eq_true.1 h _ (DataW.weights_mem_each ht hd _ hw)
  have e : t.data.toList.length = t.size := Array.length_toList
  rw [e] at this
  have hr : reachBytes = 140737488351232 := by decide
  rw [← hr]
  simpa using this
end Go.Recs

/- A law's arguments: products and series, by value and in slices. -/
namespace Go.Proofs.Ytdhkflmodcgooaa
open Go.ChangeShapes Go.WideShapes Go.ChangeAt Go.RowKit Go.Recs
set_option linter.unusedVariables false
set_option maxRecDepth 100000
theorem ser_leafs : leafs Try.prog 2 44 = some serL := by kernel_rfl
theorem open_serV {H : Type} {enc : TypeId × Value → H} {W : World} {base b0 : Nat} {spare : Nat → Bool} {held : Bool} {r : Reach} {v : Value} {d : DataW H} {p : List MemPlace}
    (hv : Value.okWide Try.prog W r b0 44 v) (h : DataW.Trod enc Try.prog W base spare held 44 v d p) :
    ∃ x : EM.Ser, v = .agg #[.string x.prod, .int .i64 x.kind, .int .i64 x.expiry, .int .i64 x.strike] ∧ serQ x := by
  obtain ⟨cs, rfl, hk⟩ := open_rec (n := 2) Try.underlying44 ser_leafs (by kernel_rfl) hv h
  obtain ⟨x, rfl, hq⟩ := ser_row cs hk
  exact ⟨x, rfl, hq⟩
theorem ser_sized {H : Type} {enc : TypeId × Value → H} {W : World} {base : Nat} {spare : Nat → Bool} {held : Bool} {x : EM.Ser} {d : DataW H} {p : List MemPlace} {ts : List TypeId} {ds : List (DataW H)} {j : Nat}
    (h : (DataW.weightsEach Try.prog ts ds).all (· ≤ reachBytes) = true) (ht : ts[j]? = some 44) (hd : ds[j]? = some d)
    (hT : DataW.Trod enc Try.prog W base spare held 44 (.agg #[.string x.prod, .int .i64 x.kind, .int .i64 x.expiry, .int .i64 x.strike]) d p) : x.prod.size ≤ 140737488351232 :=
  first_sized (cs := #[.string x.prod, .int .i64 x.kind, .int .i64 x.expiry, .int .i64 x.strike]) h ht hd hT Try.underlying44 rfl rfl Try.underlying9 (by kernel_rfl) rfl
end Go.Proofs.Ytdhkflmodcgooaa

/- A law's arguments: positions, legs with what they close. -/
namespace Go.Proofs.Ytdhkflmodcgooaa
open Go.ChangeShapes Go.WideShapes Go.ChangeAt Go.RowKit Go.Recs
set_option linter.unusedVariables false
set_option maxRecDepth 100000
theorem pos_leafs : leafs Try.prog 3 46 = some posL := by kernel_rfl
theorem do_leafs : leafs Try.prog 4 62 = some doL := by kernel_rfl
theorem open_posT {H : Type} {enc : TypeId × Value → H} {W : World} {base b0 : Nat} {spare : Nat → Bool} {held : Bool} {r : Reach} {v : Value} {d : DataW H} {p : List MemPlace}
    (hv : Value.okWide Try.prog W r b0 42 v) (h : DataW.Trod enc Try.prog W base spare held 42 v d p) :
    ∃ A cap, ∃ l : List PO.Pos, v = .slice A l.length cap ∧ (Poss W A l ∧ l.length ≤ cap) ∧ True := by
  obtain ⟨A, cap, rows, rfl, hR, hk, hc⟩ := open_recs (n := 3) (sz := 6) Try.underlying42 pos_leafs (by kernel_rfl) rfl (by omega) hv h
  obtain ⟨l, rfl, hq⟩ := typed (ls := posL) posV _ pos_row rows hk
  rw [List.length_map] at hc ⊢
  exact ⟨A, cap, l, rfl, ⟨⟨hR, hq⟩, hc⟩, trivial⟩
theorem open_doT {H : Type} {enc : TypeId × Value → H} {W : World} {base b0 : Nat} {spare : Nat → Bool} {held : Bool} {r : Reach} {v : Value} {d : DataW H} {p : List MemPlace}
    (hv : Value.okWide Try.prog W r b0 56 v) (h : DataW.Trod enc Try.prog W base spare held 56 v d p) :
    ∃ A cap, ∃ l : List PO.Dor, v = .slice A l.length cap ∧ (Dos W A l ∧ l.length ≤ cap) ∧ True := by
  obtain ⟨A, cap, rows, rfl, hR, hk, hc⟩ := open_recs (n := 4) (sz := 10) Try.underlying56 do_leafs (by kernel_rfl) rfl (by omega) hv h
  obtain ⟨l, rfl, hq⟩ := typed (ls := doL) doV _ do_row rows hk
  rw [List.length_map] at hc ⊢
  exact ⟨A, cap, l, rfl, ⟨⟨hR, hq⟩, hc⟩, trivial⟩
end Go.Proofs.Ytdhkflmodcgooaa

/- A law's argument: what is moved. -/
namespace PO
structure Moved where
  kind : Int
  ser : EM.Ser
  lo : Int
  sh : Int
end PO
namespace Go.Proofs.Ytdhkflmodcgooaa
open Go.ChangeShapes Go.WideShapes Go.ChangeAt Go.RowKit Go.Recs
set_option linter.unusedVariables false
set_option maxRecDepth 100000
def movL : List Leaf := [.int .i64, .str, .int .i64, .int .i64, .int .i64, .int .i64, .int .i64]
theorem mov_leafs : leafs Try.prog 4 67 = some movL := by kernel_rfl
theorem open_movedV {H : Type} {enc : TypeId × Value → H} {W : World} {base b0 : Nat} {spare : Nat → Bool} {held : Bool} {r : Reach} {v : Value} {d : DataW H} {p : List MemPlace}
    (hv : Value.okWide Try.prog W r b0 67 v) (h : DataW.Trod enc Try.prog W base spare held 67 v d p) :
    ∃ x : PO.Moved, v = .agg #[.int .i64 x.kind, .string x.ser.prod, .int .i64 x.ser.kind, .int .i64 x.ser.expiry, .int .i64 x.ser.strike, .int .i64 x.lo, .int .i64 x.sh] ∧ (i64 x.kind ∧ serQ x.ser ∧ i64 x.lo ∧ i64 x.sh) := by
  obtain ⟨cs, rfl, hk⟩ := open_rec (n := 4) Try.underlying67 mov_leafs (by kernel_rfl) hv h
  obtain ⟨c0, r0, rfl, ⟨n0, rfl, h0⟩, g0⟩ := okAll_cons hk
  obtain ⟨c1, r1, rfl, ⟨s1, rfl, h1⟩, g1⟩ := okAll_cons g0
  obtain ⟨c2, r2, rfl, ⟨n2, rfl, h2⟩, g2⟩ := okAll_cons g1
  obtain ⟨c3, r3, rfl, ⟨n3, rfl, h3⟩, g3⟩ := okAll_cons g2
  obtain ⟨c4, r4, rfl, ⟨n4, rfl, h4⟩, g4⟩ := okAll_cons g3
  obtain ⟨c5, r5, rfl, ⟨n5, rfl, h5⟩, g5⟩ := okAll_cons g4
  obtain ⟨c6, r6, rfl, ⟨n6, rfl, h6⟩, g6⟩ := okAll_cons g5
  rw [okAll_nil g6]
  exact ⟨⟨n0, ⟨s1, n2, n3, n4⟩, n5, n6⟩, rfl, bounds_i64 h0, ⟨h1, bounds_i64 h2, bounds_i64 h3, bounds_i64 h4⟩, bounds_i64 h5, bounds_i64 h6⟩
end Go.Proofs.Ytdhkflmodcgooaa
