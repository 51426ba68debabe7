/- Contracts: all frames, the program's. -/
import Derived.Test.YtegipokbbmnahaaWireH
namespace Go.Proofs.Ytegipokbbmnahaa
open Go.RowKit
set_option linter.unusedVariables false

theorem info_bs : (Try.prog.info? 40).map (fun i => (i.zero, i.size, i.bytes)) = some (some (.slice none 0 0), 1, 24) := by kernel_rfl

/-- rows of different element types lie in different blocks -/
theorem own_ne {w : World} {B B' : Nat} {t t' : TypeId} {v v' : Value} {vs vs' : List Value} (h : OwnV w B t v vs) (h' : OwnV w B' t' v' vs') (ht : t ≠ t') : v.ownBlock ≠ v'.ownBlock ∨ v.ownBlock = none := by
  rcases h.2 with ⟨rfl, _⟩ | ⟨g, cap, cur, rfl, _, hh, _⟩
  · right; rfl
  · left
    rcases h'.2 with ⟨rfl, _⟩ | ⟨g', cap', cur', rfl, _, hh', _⟩
    · simp [Value.ownBlock]
    · intro e
      have : g = g' := by simpa [Value.ownBlock] using e
      subst this
      rw [hh] at hh'
      injection hh' with e1
      injection e1 with _ e2
      exact ht e2
theorem OwnV.kept_by {w w' : World} {B B' : Nat} {t t' : TypeId} {v v' : Value} {vs vs' : List Value} (h : OwnV w B t v vs) (h' : OwnV w B' t' v' vs') (ht : t ≠ t') (hg : w.grownBy w' v'.ownBlock) : OwnV w' B t v vs := by
  refine ⟨h.1, ?_⟩
  rcases h.2 with h0 | ⟨g, cap, cur, rfl, hB, hh, r⟩
  · exact .inl h0
  · refine .inr ⟨g, cap, cur, rfl, hB, ?_, r⟩
    have hlt : g < w.heap.size := by
      rcases Nat.lt_or_ge g w.heap.size with hlt | hge
      · exact hlt
      · rw [Array.getElem?_eq_none hge] at hh; cases hh
    rw [hg.block g hlt ?_]
    · exact hh
    · rcases own_ne h h' ht with e | e
      · exact e
      · simp [Value.ownBlock] at e

/-- a list of slices of bytes that the call made -/
def FR (w : World) (B : Nat) (v : Value) (ps : List (List UInt8)) : Prop := ∃ qs : List Pc, qs.map Pc.l = ps ∧ OwnV w B 40 v (qs.map Pc.val) ∧ ∀ q ∈ qs, OB w B q.val q.l
theorem FR.nil (w : World) (B : Nat) : FR w B (.slice none 0 0) [] := ⟨[], rfl, OwnV.nil _ _ _, by simp⟩
theorem FR.below {w w' : World} {B : Nat} {v : Value} {ps : List (List UInt8)} (h : FR w B v ps) (hb : Below w.heap.size w w') : FR w' B v ps := by
  obtain ⟨qs, h1, h2, h3⟩ := h
  exact ⟨qs, h1, h2.below hb, fun q hq => (h3 q hq).below hb⟩
theorem FR.drewN {w : World} {B : Nat} {v : Value} {ps : List (List UInt8)} (h : FR w B v ps) (n : Nat) : FR (w.drewN n) B v ps := h

theorem wpList_pushF {ops : Array Oper} {rest : List Oper} {o : Oper} {a : Act} {Q : Exit → Act → World → Prop} (w : World) (q : Pc) (x0 : Value) (hx0 : x0 = q.val) (B : Nat) (ps : List (List UInt8)) (x y : Operand)
    (hgd : o.guard = none) (ho : o.op = .call { callee := .builtin .append, args := #[x, y], argTypes := #[61, 61] })
    (v : Value) (hs : a.eval x = v) (hx : a.eval y = .slice (some ⟨w.heap.size, 0, none⟩) 1 1) (hown : FR w B v ps) (hq : OB w B q.val q.l) (hl : ps.length + 1 ≤ 1000000000) (hB : B ≤ w.heap.size)
    (h : ∀ v' w', FR w' B v' (ps ++ [q.l]) → Below B w w' → wpList Try.prog ops Q rest (a.put o.dst v') w') :
    wpList Try.prog ops Q (o :: rest) a (w.alloc (.cells #[x0] 40)) := by
  subst hx0
  obtain ⟨qs, h1, h2, h3⟩ := hown
  have hlen : qs.length = ps.length := by rw [← h1, List.length_map]
  refine wpList_pushV w q.val rfl B (qs.map Pc.val) x y 61 40 24 (.slice none 0 0) Try.underlying61 info_bs rfl hgd ho v hs hx h2 ?_ ?_ hB ?_
  · rw [List.length_map]; omega
  · rw [List.length_map]; unfold maxLen; omega
  · intro v' w' p1 p2 _ p4
    refine h v' w' ⟨qs ++ [q], by rw [List.map_append, h1]; rfl, by rw [List.map_append]; exact p1, ?_⟩ p2
    intro r hr
    have key : ∀ r : Pc, OB w B r.val r.l → OB w' B r.val r.l := fun r hr => OwnV.kept_by hr h2 (by decide) p4
    simp only [List.mem_append, List.mem_singleton] at hr
    rcases hr with hr | rfl
    · exact key r (h3 r hr)
    · exact key _ hq

/-- how far the loop over frames is -/
def GI (l : List UInt8) (off : Nat) (ps : List (List UInt8)) : Prop := off ≤ l.length ∧ ps.length ≤ off ∧ XM.frames l = (ps ++ (XM.frames (l.drop off)).1, off + (XM.frames (l.drop off)).2)
theorem GI.start (l : List UInt8) : GI l 0 [] := ⟨Nat.zero_le _, Nat.le_refl _, by simp⟩
theorem frameE_ne {m : List UInt8} (h : XM.frameE m = 0) : m ≠ [] := by
  rintro rfl
  have := (XM.frameK_ok h).2
  simp at this; omega
theorem GI.step {l : List UInt8} {off : Nat} {ps : List (List UInt8)} (h : GI l off ps) (hE : XM.frameE (l.drop off) = 0) : GI l (off + XM.frameK (l.drop off)) (ps ++ [XM.frameN (l.drop off)]) := by
  obtain ⟨h1, h2, h3⟩ := h
  have hk := XM.frameK_ok hE
  rw [List.length_drop] at hk
  refine ⟨by omega, by rw [List.length_append]; simp; omega, ?_⟩
  rw [h3, XM.frames_yes (frameE_ne hE) hE, List.drop_drop]
  simp [Nat.add_assoc]
theorem GI.done {l : List UInt8} {off : Nat} {ps : List (List UInt8)} (h : GI l off ps) (hE : XM.frameE (l.drop off) ≠ 0) : XM.frames l = (ps, off) := by
  rw [h.2.2, XM.frames_no (.inr hE)]
  simp

set_option maxHeartbeats 2000000 in
theorem frames_any (A : Option Addr) (n cap : Nat) (l : List UInt8) (w : World) (hn : n = l.length) (hc : l.length ≤ cap) (hA : Bytes w A l) (hl : l.length ≤ 1000000) :
    Calls Try.prog 47 #[.slice A n cap] w fun e w' => (∃ v, e = .returned (.tuple #[v, .int .i64 ((XM.frames l).2 : Int)]) ∧ FR w' w.heap.size v (XM.frames l).1) ∧ Below w.heap.size w w' := by
  subst hn
  generalize hr : XM.frames l = res
  have HR := Lib.hid hr
  have HA := Lib.hid hA
  clear hr hA
  go_enter Try.func47, Try.ntmps47
  go_wp2
  go_loopw [2, 3] (fun v i wr => ∃ (off : Nat) (ps : List (List UInt8)), off ≤ l.length ∧ i = .int .i64 (off : Int) ∧ Hid (GI l off ps) ∧ Hid (FR wr w.heap.size v ps) ∧ Hid (Below w.heap.size w wr)) (fun _ i _ => l.length - (intOf i).toNat)
  case atStart => exact ⟨0, [], by omega, rfl, Lib.hid (GI.start l), Lib.hid (FR.nil _ _), Lib.hid (Below.refl _ _)⟩
  case round =>
    obtain ⟨off, ps, ho, rfl, HG, HF, HB⟩ := hrel
    have CF := frame_any A l.length cap l off wr rfl hc (HA.out.below HB.out) hl ho
    by_cases hE : XM.frameE (l.drop off) = 0
    · have hS := HG.out.step hE
      have hk := (XM.frameK_ok hE).2.1
      rw [hE, offOr_ok rfl] at CF
      have ho2 := hS.1
      have hpl := HG.out.2.1
      generalize XM.frameN (l.drop off) = pl at *
      generalize XM.frameK (l.drop off) = kk at *
      have HS := Lib.hid hS; have HCF := Lib.hid CF
      clear CF hS hE
      go_wp2_with fail
      (with_reducible refine HCF.out.mono ?_)
      rintro e w1 ⟨⟨v1, rfl, o1⟩, b1⟩
      obtain ⟨A1, c1, rfl, _⟩ := o1.bytes
      have HO1 := Lib.hid (OB.base o1 HB.out.size)
      have HF1 := Lib.hid (HF.out.below b1)
      have HB1 := Lib.hid (HB.out.trans (b1.mono HB.out.size))
      clear o1 b1 HF HB HG
      go_wp2_with (at_builtin; refine wpList_pushF _ ⟨A1, pl, c1⟩ _ rfl w.heap.size ps _ _ rfl rfl _ rfl rfl HF1.out HO1.out ?c1 ?c2 ?_)
      case c1 => omega
      case c2 => exact HB1.out.size
      intro v2 w2 f2 b2
      have HF2 := Lib.hid f2
      have HB2 := Lib.hid (HB1.out.trans b2)
      clear f2 b2 HF1 HO1 HB1
      go_wp2
      go_roundw
      case rel => exact ⟨off + kk, _, ho2, by go_num, HS, HF2, HB2⟩
      case measure => simp [intOf]; omega
    · have hD := HG.out.done hE
      rw [HR.out] at hD
      subst hD
      rw [offOr_no hE] at CF
      generalize XM.frameE (l.drop off) = fE at *
      have d0 : (fE != 0) = true := by simpa using hE
      have HCF := Lib.hid CF
      clear CF hE
      go_wp2_with fail
      (with_reducible refine HCF.out.mono ?_)
      rintro e w1 ⟨⟨v1, rfl, o1⟩, b1⟩
      have HF1 := Lib.hid (HF.out.below b1)
      have HB1 := Lib.hid (HB.out.trans (b1.mono HB.out.size))
      clear o1 b1 HF HB HG
      go_wp2
      go_ret2
      exact ⟨⟨_, rfl, HF1.out⟩, HB1.out⟩

theorem frame_out (A : Option Addr) (n cap : Nat) (p : Int) (w : World) (hp : p < 0 ∨ (n : Int) < p) :
    Calls Try.prog 45 #[.slice A n cap, .int .i64 p] w fun e w' => e = .returned (.tuple #[.slice none 0 0, .int .i64 0, .int .i64 2]) ∧ w = w' := by
  have HC := Lib.hid (bounds_out A n cap p w hp)
  clear hp
  go_enter Try.func45, Try.ntmps45
  go_wp2_with fail
  (with_reducible refine HC.out.mono ?_)
  rintro e w' ⟨rfl, rfl⟩
  go_wp2
  go_ret3
  exact ⟨rfl, rfl⟩
end Go.Proofs.Ytegipokbbmnahaa
