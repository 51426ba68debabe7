/- Contracts: all frames, the reference's; are two lists alike. -/
import Derived.Test.YtegipokbbmnahaaWireK
namespace Go.Proofs.Ytegipokbbmnahaa
open Go.RowKit
set_option linter.unusedVariables false

/-- a list of slices of bytes: the list's own row, the bytes to be read -/
def RR (w : World) (B : Nat) (v : Value) (ps : List (List UInt8)) : Prop := ∃ qs : List Pc, qs.map Pc.l = ps ∧ OwnV w B 40 v (qs.map Pc.val) ∧ ∀ q ∈ qs, BT w q.val q.l
theorem RR.below {w w' : World} {B : Nat} {v : Value} {ps : List (List UInt8)} (h : RR w B v ps) (hb : Below w.heap.size w w') : RR w' B v ps := by
  obtain ⟨qs, h1, h2, h3⟩ := h
  exact ⟨qs, h1, h2.below hb, fun q hq => (h3 q hq).below hb⟩
theorem RR.empty (w : World) (B : Nat) (hB : B ≤ w.heap.size) : RR (w.alloc (.cells #[] 40)) B (.slice (some ⟨w.heap.size, 0, none⟩) 0 0) [] :=
  ⟨[], rfl, World.ownsRow_lit w #[] 0 hB (Nat.zero_le _) rfl, by simp⟩
theorem BT.kept_by {w w' : World} {B : Nat} {v v' : Value} {l : List UInt8} {vs : List Value} (h : BT w v l) (h' : OwnV w B 40 v' vs) (hg : w.grownBy w' v'.ownBlock) : BT w' v l := by
  obtain ⟨A, cap, rfl, h1, h2, h3⟩ := h
  have key : ∀ b off, A = some ⟨b, off, none⟩ → b < w.heap.size ∧ w'.heap[b]? = w.heap[b]? := by
    intro b off e
    obtain ⟨cs, fr, hh⟩ := h2 b off e
    have hlt : b < w.heap.size := by
      rcases Nat.lt_or_ge b w.heap.size with hlt | hge
      · exact hlt
      · rw [Array.getElem?_eq_none hge] at hh; cases hh
    refine ⟨hlt, hg.block b hlt ?_⟩
    rcases h'.2 with ⟨rfl, _⟩ | ⟨g, cp, cur, rfl, _, hh', _⟩
    · simp [Value.ownBlock]
    · intro e
      have : b = g := by simpa [Value.ownBlock] using e
      subst this
      rw [hh] at hh'
      injection hh' with e1
      injection e1 with _ e2
      exact absurd e2 (by decide)
  refine ⟨A, cap, rfl, ?_, fun b off e => ?_, h3⟩
  · refine ⟨h1.1, ?_⟩
    rcases h1.2 with h0 | ⟨b, off, e, hb, hc⟩
    · exact .inl h0
    · obtain ⟨k1, k2⟩ := key b off e
      refine .inr ⟨b, off, e, Nat.lt_of_lt_of_le hb hg.size, fun i hi => ?_⟩
      rw [← hc i hi]
      exact World.cell?_of_block (a := ⟨b, off + i, none⟩) k2
  · obtain ⟨cs, fr, hh⟩ := h2 b off e
    exact ⟨cs, fr, ((key b off e).2).trans hh⟩

theorem wpList_pushR {ops : Array Oper} {rest : List Oper} {o : Oper} {a : Act} {Q : Exit → Act → World → Prop} (w : World) (q : Pc) (x0 : Value) (hx0 : x0 = q.val) (B : Nat) (ps : List (List UInt8)) (x y : Operand)
    (hgd : o.guard = none) (ho : o.op = .call { callee := .builtin .append, args := #[x, y], argTypes := #[61, 61] })
    (v : Value) (hs : a.eval x = v) (hx : a.eval y = .slice (some ⟨w.heap.size, 0, none⟩) 1 1) (hown : RR w B v ps) (hq : BT w q.val q.l) (hl : ps.length + 1 ≤ 1000000000) (hB : B ≤ w.heap.size)
    (h : ∀ v' w', RR w' B v' (ps ++ [q.l]) → Below B w w' → wpList Try.prog ops Q rest (a.put o.dst v') w') :
    wpList Try.prog ops Q (o :: rest) a (w.alloc (.cells #[x0] 40)) := by
  subst hx0
  obtain ⟨qs, h1, h2, h3⟩ := hown
  have hlen : qs.length = ps.length := by rw [← h1, List.length_map]
  refine wpList_pushV w q.val rfl B (qs.map Pc.val) x y 61 40 24 (.slice none 0 0) Try.underlying61 info_bs rfl hgd ho v hs hx h2 ?_ ?_ hB ?_
  · rw [List.length_map]; omega
  · rw [List.length_map]; unfold maxLen; omega
  · intro v' w' p1 p2 _ p4
    refine h v' w' ⟨qs ++ [q], by rw [List.map_append, h1]; rfl, by rw [List.map_append]; exact p1, ?_⟩ p2
    intro r hr
    simp only [List.mem_append, List.mem_singleton] at hr
    rcases hr with hr | rfl
    · exact (h3 r hr).kept_by h2 p4
    · exact hq.kept_by h2 p4

theorem frames_nil : XM.frames [] = ([], 0) := XM.frames_no (.inl rfl)
theorem GI.end_ {l : List UInt8} {ps : List (List UInt8)} (h : GI l l.length ps) : XM.frames l = (ps, l.length) := by
  rw [h.2.2, List.drop_length, frames_nil]
  simp

set_option maxHeartbeats 2000000 in
theorem rframes_any (A : Option Addr) (n cap : Nat) (l : List UInt8) (w : World) (hn : n = l.length) (hc : l.length ≤ cap) (hA : Bytes w A l) (hl : l.length ≤ 1000000) :
    Calls Try.prog 48 #[.slice A n cap] w fun e w' => (∃ v, e = .returned (.tuple #[v, .int .i64 ((XM.frames l).2 : Int)]) ∧ RR w' w.heap.size v (XM.frames l).1) ∧ Below w.heap.size w w' := by
  subst hn
  generalize hr : XM.frames l = res
  have HR := Lib.hid hr
  have HA := Lib.hid hA
  clear hr hA
  go_enter Try.func48, Try.ntmps48
  go_wp2
  go_loopw [4, 5] (fun v i wr => ∃ (off : Nat) (ps : List (List UInt8)), off ≤ l.length ∧ i = .int .i64 (off : Int) ∧ Hid (GI l off ps) ∧ Hid (RR wr w.heap.size v ps) ∧ Hid (Below w.heap.size w wr)) (fun _ i _ => l.length - (intOf i).toNat)
  case atStart => exact ⟨0, [], by omega, rfl, Lib.hid (GI.start l), Lib.hid (RR.empty w w.heap.size (Nat.le_refl _)), Lib.hid ((Below.refl _ _).alloc (Nat.le_refl _) _)⟩
  case round =>
    obtain ⟨off, ps, ho, rfl, HG, HF, HB⟩ := hrel
    by_cases hlt : off < l.length
    · have CF := rframe_any A l.length cap l off wr rfl hc (HA.out.below HB.out) hl ho
      by_cases hE : XM.frameE (l.drop off) = 0
      · have hS := HG.out.step hE
        have hk := (XM.frameK_ok hE).2.1
        rw [hE, offOr_ok rfl] at CF
        have ho2 := hS.1
        have hpl := HG.out.2.1
        generalize XM.frameN (l.drop off) = pl at *
        generalize XM.frameK (l.drop off) = kk at *
        have HS := Lib.hid hS; have HCF := Lib.hid CF
        clear CF hS hE
        go_wp2_with fail
        (with_reducible refine HCF.out.mono ?_)
        rintro e w1 ⟨⟨v1, rfl, o1⟩, b1⟩
        have HO1' := o1
        obtain ⟨A1, c1, rfl, _⟩ := o1.bytes
        have HO1 := Lib.hid HO1'
        have HF1 := Lib.hid (HF.out.below b1)
        have HB1 := Lib.hid (HB.out.trans (b1.mono HB.out.size))
        clear o1 b1 HF HB HG HO1'
        go_wp2_with (at_builtin; refine wpList_pushR _ ⟨A1, pl, c1⟩ _ rfl w.heap.size ps _ _ rfl rfl _ rfl rfl HF1.out HO1.out ?c1 ?c2 ?_)
        case c1 => omega
        case c2 => exact HB1.out.size
        intro v2 w2 f2 b2
        have HF2 := Lib.hid f2
        have HB2 := Lib.hid (HB1.out.trans b2)
        clear f2 b2 HF1 HO1 HB1
        go_wp2
        go_roundw
        case rel => exact ⟨off + kk, _, ho2, by go_num, HS, HF2, HB2⟩
        case measure => simp [intOf]; omega
      · have hD := HG.out.done hE
        rw [HR.out] at hD
        subst hD
        rw [offOr_no hE] at CF
        generalize XM.frameE (l.drop off) = fE at *
        have d0 : (fE != 0) = true := by simpa using hE
        have HCF := Lib.hid CF
        clear CF hE
        go_wp2_with fail
        (with_reducible refine HCF.out.mono ?_)
        rintro e w1 ⟨⟨v1, rfl, o1⟩, b1⟩
        have HF1 := Lib.hid (HF.out.below b1)
        have HB1 := Lib.hid (HB.out.trans (b1.mono HB.out.size))
        clear o1 b1 HF HB HG
        go_wp2
        go_ret2
        exact ⟨⟨_, rfl, HF1.out⟩, HB1.out⟩
    · obtain rfl : off = l.length := by omega
      have hD := HG.out.end_
      rw [HR.out] at hD
      subst hD
      go_wp2
      go_ret2
      exact ⟨⟨_, rfl, HF.out⟩, HB.out⟩

/-- both as lists of pieces -/
theorem FR.pcs {w : World} {B : Nat} {v : Value} {ps : List (List UInt8)} (h : FR w B v ps) : ∃ A cap qs, qs.map Pc.l = ps ∧ v = .slice A (List.length qs) cap ∧ Pcs w A qs := by
  obtain ⟨qs, h1, h2, h3⟩ := h
  obtain ⟨A, cap, e, hv⟩ := OwnV.vals h2
  rw [List.length_map] at e
  refine ⟨A, cap, qs, h1, e, hv, fun q hq => ?_⟩
  obtain ⟨A', c', e', hb⟩ := (h3 q hq).bytes
  unfold Pc.val at e'
  injection e' with e1
  rw [e1]; exact hb
theorem RR.pcs {w : World} {B : Nat} {v : Value} {ps : List (List UInt8)} (h : RR w B v ps) : ∃ A cap qs, qs.map Pc.l = ps ∧ v = .slice A (List.length qs) cap ∧ Pcs w A qs := by
  obtain ⟨qs, h1, h2, h3⟩ := h
  obtain ⟨A, cap, e, hv⟩ := OwnV.vals h2
  rw [List.length_map] at e
  refine ⟨A, cap, qs, h1, e, hv, fun q hq => ?_⟩
  obtain ⟨A', c', e', hb⟩ := (h3 q hq).bytes
  unfold Pc.val at e'
  injection e' with e1
  rw [e1]; exact hb

set_option maxHeartbeats 1000000 in
theorem rsame_pcs (A B : Option Addr) (n m : Nat) (qa qb : List Pc) (ca cb : Nat) (w : World) (hn : n = qa.length) (hm : m = qb.length) (hA : Pcs w A qa) (hB : Pcs w B qb) (he : qa.map Pc.l = qb.map Pc.l) :
    Calls Try.prog 50 #[.slice A n ca, .slice B m cb] w fun e w' => e = .returned (.bool true) ∧ ∃ k, w' = w.drewN k := by
  have hlen : qa.length = qb.length := by have := congrArg List.length he; simpa using this
  have hbnd := hA.len
  have hml : m = qa.length := by omega
  subst hn; subst hml
  have HE := Lib.hid he; have HL := Lib.hid hlen
  clear he hlen hm
  have cne : ((qa.length : Int) != (qa.length : Int)) = false := by simp
  go_enter Try.func50, Try.ntmps50
  go_wp2
  go_loopw [5] (fun i wr => ∃ k : Nat, k ≤ qa.length ∧ i = .int .i64 k ∧ ∃ n, wr = w.drewN n) (fun i _ => qa.length - (intOf i).toNat)
  case atStart => exact ⟨0, by omega, rfl, 0, rfl⟩
  case round =>
    obtain ⟨k, hk, rfl, n, rfl⟩ := hrel
    by_cases hlt : k < qa.length
    · have hlt2 : k < qb.length := by have := HL.out; omega
      obtain ⟨g, off, rfl, hg, hcell, hby⟩ := hA.get hlt
      obtain ⟨g2, off2, rfl, hg2, hcell2, hby2⟩ := hB.get hlt2
      have hl : qa[k].l = qb[k].l := by
        have h1 : (qa.map Pc.l)[k]'(by rw [List.length_map]; exact hlt) = qa[k].l := by simp
        have h2 : (qb.map Pc.l)[k]'(by rw [List.length_map]; exact hlt2) = qb[k].l := by simp
        rw [← h1, ← h2]
        congr 1
      generalize qa[k] = pa at *
      generalize qb[k] = pb at *
      have hcv1 : ∀ ww : Nat, (convert 40 9 (.slice pa.A pa.l.length pa.c)).run Try.prog (w.drewN ww) = .ok (.string (S pa.l)) (w.drewN ww) := fun ww => str_of (hby.drewN ww) pa.c
      have hcv2 : ∀ ww : Nat, (convert 40 9 (.slice pb.A pb.l.length pb.c)).run Try.prog (w.drewN ww) = .ok (.string (S pa.l)) (w.drewN ww) := fun ww => by rw [hl]; exact str_of (hby2.drewN ww) pb.c
      have HA := Lib.hid hA; have HB := Lib.hid hB
      generalize S pa.l = st at *
      clear hA hB hby hby2 hl hlt2
      have c1 : (0 : Int) ≤ (k : Int) := by omega
      have c2 : (k : Int) < (qa.length : Int) := by omega
      go_wp2
      go_quiet (fail)
      go_wp2
      go_roundw
      case rel => exact ⟨k + 1, by omega, by go_num, _, rfl⟩
      case measure => simp [intOf]; omega
    · obtain rfl : k = qa.length := by omega
      go_wp2
      go_ret
      exact ⟨rfl, _, rfl⟩
end Go.Proofs.Ytegipokbbmnahaa
