/- Contracts of layer 11: a list whose accounts are its own. -/
import Derived.Test.YtlnllbcpbohahabMemF
namespace Go.Proofs.Ytlnllbcpbohahab
open Go.RowKit Go.Recs
set_option linter.unusedVariables false
set_option linter.unusedSimpArgs false

theorem OwnR.apart {α : Type} {f : α → List Value} {w : World} {B : Nat} {t : TypeId} {sz n c : Nat} {A : Option Addr} {l : List α} (h : OwnR w B t sz (.slice A n c) (l.map f)) {g : Nat} (hg : g < B) : Apart g A l := by
  rcases h.form with ⟨e, e2⟩ | ⟨g', cap, e, hB, _⟩
  · exact .inl (by simpa using e2)
  · injection e with e
    exact .inr ⟨g', 0, e, by omega⟩

set_option maxHeartbeats 8000000 in
theorem mown_any (A : Option Addr) (rows : List MRow) (n cap : Nat) (w : World) (hn : n = rows.length) (hI : MRows w A rows) (hl : rows.length ≤ 1000) (hla : ∀ r ∈ rows, r.m.accs.length ≤ 1000) :
    Calls Try.prog 17 #[.slice A n cap] w fun e w' => ∃ v rows', e = .returned v ∧ rows'.map MRow.m = rows.map MRow.m ∧ OwnM 29 w' w.heap.size v rows' ∧ Below w.heap.size w w' := by
  subst hn
  have C0 := Lib.hid (mclone_any A (rows.map mrowV) rows.length cap w (by simp) (mrowV_one rows) hI.1 (by rw [List.length_map]; omega))
  have C1 := Lib.hid (fun A' (l : List MM.Ac) cap' ww (h : Accs ww A' l) (hl : l.length ≤ 1000) => aclone_any A' (l.map accV) l.length cap' ww (by simp) (accV_one l) h.1 (by rw [List.length_map]; omega))
  have HI := Lib.hid hI
  have HLA := Lib.hid hla
  clear hI hla
  go_enter Try.func17, Try.ntmps17
  go_wp2_with fail
  refine C0.out.mono ?_
  rintro e w1 ⟨v, rfl, hO, b1⟩
  have hq : ∀ r ∈ rows, mrowQ w1 r := fun r hr => (HI.out.2 r hr).below b1
  have HB1 := Lib.hid b1
  rcases hO.form with ⟨rfl, e0⟩ | ⟨g, c, rfl, hB, hg, hc⟩
  · have e1 : rows = [] := by simpa using e0
    subst e1
    have HO : Hid (OwnM 29 w1 w.heap.size (.slice none 0 0) []) := Lib.hid ⟨hO, by simp⟩
    clear hO hq b1 e0
    go_wp2_with fail
    go_loopw [9, 4] (fun i _ wr => i = .int .i64 0 ∧ wr = w1) (fun _ _ _ => 0)
    case atStart => exact ⟨rfl, rfl⟩
    case round =>
      obtain ⟨rfl, rfl⟩ := hrel
      go_wp2_with fail
      go_ret
      exact ⟨_, [], rfl, rfl, HO.out, HB1.out⟩
  · have hlm : (rows.map mrowV).length = rows.length := by simp
    rw [hlm] at hO hc ⊢
    have HM : Hid (OwnM 29 w1 w.heap.size (.slice (some ⟨g, 0, none⟩) rows.length c) rows) := Lib.hid ⟨hO, fun r hr => ⟨hq r hr, fun g' hg' => by
      have : g' = g := by simpa [Value.ownBlock] using hg'.symm
      subst this
      exact (HI.out.2 r hr).2.2.1.apart hB⟩⟩
    clear hO hq b1 hlm
    go_wp2_with fail
    go_loopw [9, 4] (fun i _ wr => ∃ k : Nat, ∃ rs : List MRow, k ≤ rows.length ∧ i = .int .i64 k ∧ Hid (rs.map MRow.m = rows.map MRow.m) ∧ Hid (OwnM 29 wr w.heap.size (.slice (some ⟨g, 0, none⟩) rows.length c) rs) ∧ Hid (Below w.heap.size w wr) ∧ g < wr.heap.size) (fun i _ _ => rows.length - (intOf i).toNat)
    case atStart => exact ⟨0, rows, by omega, rfl, Lib.hid rfl, HM, HB1, hg⟩
    case round =>
      obtain ⟨k, rs, hk, rfl, HR, HO, HB, hgr⟩ := hrel
      have hlen : rs.length = rows.length := by have := congrArg List.length HR.out; simpa using this
      by_cases hlt : k < rows.length
      · have hlt' : k < rs.length := by omega
        have hcell := HO.out.1.cell (i := k) (j := 2) (by simpa using hlt') (by omega)
        rw [getD_rows hlt'] at hcell
        have hfr := HO.out.1.frozen (k * 3 + 2)
        obtain ⟨⟨q1, q2, q3, q4⟩, q5⟩ := HO.out.2 rs[k] (List.getElem_mem hlt')
        have hmem : rs[k].m ∈ rows.map MRow.m := by rw [← HR.out]; exact List.mem_map.2 ⟨_, List.getElem_mem hlt', rfl⟩
        obtain ⟨r0, hr0, er0⟩ := List.mem_map.1 hmem
        have hsm : rs[k].m.accs.length ≤ 1000 := by rw [← er0]; exact HLA.out r0 hr0
        have d2 : wr.cell? ⟨g, k * 3 + 2, none⟩ = some (.slice rs[k].A rs[k].m.accs.length rs[k].cap) := hcell
        have C2 := Lib.hid (C1.out rs[k].A rs[k].m.accs rs[k].cap wr q3 hsm)
        have HMM : Hid (∀ (A' : Option Addr) cap', (rs.set k ⟨{ rs[k].m with accs := rs[k].m.accs }, A', cap'⟩).map MRow.m = rows.map MRow.m) := Lib.hid (fun A' cap' => by
          rw [← HR.out, List.map_set]
          apply List.ext_getElem
          · simp
          · intro i h1 h2
            rw [List.getElem_set]
            split
            · next h => subst h; simp
            · rfl)
        have hset := fun (ww : World) (hb : Below wr.heap.size wr ww) (A' : Option Addr) (cap' : Nat) (hA : Accs ww A' rs[k].m.accs) (hcc : rs[k].m.accs.length ≤ cap') (ha : Apart g A' rs[k].m.accs) => (HO.out.below hb).setA hlt' (A' := A') (al := rs[k].m.accs) (cap' := cap') hA hcc ha
        have HSET := Lib.hid hset
        have HQ := Lib.hid q3.2
        have HFR : Hid (∀ ww, Below wr.heap.size wr ww → ww.frozen? ⟨g, k * 3 + 2, none⟩ = false) := Lib.hid (fun ww hb => (HO.out.1.below hb).frozen _)
        clear hset hcell q1 q2 q3 q4 q5 hmem hsm C1 HLA HI HM
        generalize rs[k] = r at *
        go_wp2_with fail
        refine C2.out.mono ?_
        rintro e w2 ⟨v2, rfl, hO2, b2⟩
        obtain ⟨A2, c2, rfl, hR2, hc2⟩ := hO2.recs
        rw [List.length_map] at hO2 hc2 ⊢
        have hap : Apart g A2 r.m.accs := OwnR.apart (f := accV) hO2 hgr
        have hO3 := HSET.out w2 b2 A2 c2 ⟨hR2, HQ.out⟩ hc2 hap
        have HO3 := Lib.hid hO3
        have HB3 := Lib.hid (((HB.out.trans (b2.mono HB.out.size)).setCell (p := ⟨g, k * 3 + 2, none⟩) hB (.slice A2 r.m.accs.length c2)))
        have e2 : w2.cell? ⟨g, k * 3 + 2, none⟩ = some (.slice r.A r.m.accs.length r.cap) := (b2.cell (p := ⟨g, k * 3 + 2, none⟩) hgr).trans d2
        have f2 : w2.frozen? ⟨g, k * 3 + 2, none⟩ = false := HFR.out w2 b2
        have hg2 : g < (w2.setCell ⟨g, k * 3 + 2, none⟩ (.slice A2 r.m.accs.length c2)).heap.size := by simp; have := b2.size; omega
        have HM2 := Lib.hid (HMM.out A2 c2)
        clear hO2 hR2 hc2 hap hO3 d2 HSET HMM b2 hfr
        go_wp2_with fail
        go_roundw
        case rel => exact ⟨k + 1, _, by omega, by go_num, HM2, HO3, HB3, hg2⟩
        case measure => simp [intOf]; omega
      · obtain rfl : k = rows.length := by omega
        go_wp2_with fail
        go_ret
        exact ⟨_, rs, rfl, HR.out, HO.out, HB.out⟩
end Go.Proofs.Ytlnllbcpbohahab
