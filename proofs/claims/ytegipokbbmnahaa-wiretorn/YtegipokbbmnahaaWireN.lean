/- Contracts: bytes written over; layer 4's examples hold. -/
import Derived.Test.YtegipokbbmnahaaWireM
namespace Go.Proofs.Ytegipokbbmnahaa
open Go.RowKit
set_option linter.unusedVariables false

/-- bytes have been written over in rows from block B on; every row is there still -/
structure TC (B : Nat) (w w' : World) : Prop where
  below : Below B w w'
  size : w'.heap.size = w.heap.size
  rows : ∀ v l, OB w B v l → ∃ l', l'.length = l.length ∧ OB w' B v l'
  lists : ∀ v vs, OwnV w B 40 v vs → OwnV w' B 40 v vs
theorem TC.refl (B : Nat) (w : World) : TC B w w := ⟨Below.refl _ _, rfl, fun v l h => ⟨l, rfl, h⟩, fun _ _ h => h⟩
theorem TC.trans {B : Nat} {a b c : World} (h : TC B a b) (k : TC B b c) : TC B a c :=
  ⟨h.below.trans k.below, k.size.trans h.size, fun v l o => by
    obtain ⟨l1, e1, o1⟩ := h.rows v l o
    obtain ⟨l2, e2, o2⟩ := k.rows v l1 o1
    exact ⟨l2, e2.trans e1, o2⟩, fun v vs o => k.lists v vs (h.lists v vs o)⟩
theorem TC.drewN {B : Nat} {a b : World} (h : TC B a b) (n : Nat) : TC B a (b.drewN n) := ⟨below_drewN h.below n, h.size, h.rows, h.lists⟩

theorem OB.poke {w : World} {B : Nat} {v : Value} {l : List UInt8} (h : OB w B v l) (g i : Nat) (c : UInt8) : ∃ l', l'.length = l.length ∧ OB (w.setCell ⟨g, i, none⟩ (byteV c)) B v l' := by
  rcases h.2 with ⟨rfl, h0⟩ | ⟨g', cap, cur, rfl, hB, hh, hn, hm, hs, ht⟩
  · have : l = [] := by simpa using h0
    subst this
    exact ⟨[], rfl, OB.nil _ _⟩
  · by_cases e : g' = g
    · subst e
      refine ⟨l.set i c, List.length_set, ?_⟩
      unfold OB OwnV
      refine ⟨by simp, .inr ⟨g', cap, cur.setIfInBounds i (byteV c), by simp, hB, ?_, by simpa using hn, hm, by simpa using hs, ?_⟩⟩
      · simp [World.setCell, Array.getElem?_modify, hh]
      · simp only [List.length_map, Nat.mul_one, List.length_set] at ht ⊢
        rw [Array.toList_setIfInBounds, List.take_set, ht, List.map_set]
    · refine ⟨l, rfl, h.1, .inr ⟨g', cap, cur, rfl, hB, ?_, hn, hm, hs, ht⟩⟩
      rw [Below.heap_setCell w ⟨g, i, none⟩ _ g' e]; exact hh
theorem TC.poke {w : World} {B : Nat} {g n cap : Nat} {l : List UInt8} (h : OB w B (.slice (some ⟨g, 0, none⟩) n cap) l) (i : Nat) (c : UInt8) : TC B w (w.setCell ⟨g, i, none⟩ (byteV c)) := by
  have hg : B ≤ g ∧ ∃ cur, w.heap[g]? = some (.cells cur 5 (0, 0)) := by
    rcases h.2 with ⟨h0, _⟩ | ⟨g', cp, cur, h0, hB, hh, _⟩
    · cases h0
    · injection h0 with h0
      injection h0 with h0
      injection h0 with h0
      subst h0
      exact ⟨hB, cur, hh⟩
  obtain ⟨hB, cur, hh⟩ := hg
  refine ⟨(Below.refl _ _).setCell hB _, by simp [World.setCell], fun v l' o => o.poke g i c, fun v vs o => ?_⟩
  refine ⟨o.1, ?_⟩
  rcases o.2 with h0 | ⟨g', cp, cur', rfl, hB', hh', r⟩
  · exact .inl h0
  · refine .inr ⟨g', cp, cur', rfl, hB', ?_, r⟩
    have hne : g' ≠ g := by
      rintro rfl
      rw [hh] at hh'
      injection hh' with e1
      injection e1 with _ e2
      exact absurd e2 (by decide)
    rw [Below.heap_setCell w ⟨g, i, none⟩ _ g' hne]; exact hh'
theorem OB.at_ {w : World} {B : Nat} {A : Option Addr} {n cap : Nat} {l : List UInt8} (h : OB w B (.slice A n cap) l) {k : Nat} (hk : k < l.length) : ∃ g, A = some ⟨g, 0, none⟩ ∧ n = l.length ∧ w.cell? ⟨g, k, none⟩ = some (byteV l[k]) ∧ w.frozen? ⟨g, k, none⟩ = false := by
  have hb := h.bytes
  rcases OwnV.form h with ⟨_, h0⟩ | ⟨g, cp, e, _, _, _⟩
  · have : l = [] := by simpa using h0
    subst this; simp at hk
  · injection e with e1 e2 e3
    subst e1
    obtain ⟨A', c', e', hby⟩ := hb
    injection e' with e1' e2' e3'
    subst e1'
    rw [List.length_map] at e2
    refine ⟨g, rfl, e2, ?_, ?_⟩
    · obtain ⟨b, off, e, _, hc⟩ := Vals.get hby (k := k) (by rw [List.length_map]; exact hk)
      injection e with e
      injection e with ea eb
      subst ea eb
      rw [Nat.zero_add] at hc
      rw [hc, List.getElem_map]
    · rcases h.2 with ⟨h0, _⟩ | ⟨g', cp', cur, h0, _, hh, _⟩
      · cases h0
      · injection h0 with h0
        injection h0 with h0
        injection h0 with h0
        subst h0
        simp [World.frozen?, hh]

set_option maxHeartbeats 1000000 in
theorem touched_any (A : Option Addr) (n cap B : Nat) (l : List UInt8) (w : World) (h : OB w B (.slice A n cap) l) (hn : n = l.length) :
    Calls Try.prog 38 #[.slice A n cap] w fun e w' => e = .returned (.tuple #[]) ∧ TC B w w' := by
  have hlen := h.len
  have HO := Lib.hid h
  clear h
  subst hn
  go_enter Try.func38, Try.ntmps38
  go_wp2
  go_loopw [5] (fun i wr => ∃ (k : Nat) (m : List UInt8), k ≤ l.length ∧ i = .int .i64 k ∧ Hid (m.length = l.length) ∧ Hid (OB wr B (.slice A l.length cap) m) ∧ Hid (TC B w wr)) (fun i _ => l.length - (intOf i).toNat)
  case atStart => exact ⟨0, l, by omega, rfl, Lib.hid rfl, HO, Lib.hid (TC.refl _ _)⟩
  case round =>
    clear HO
    obtain ⟨k, m, hk, rfl, HM, HO, HT⟩ := hrel
    by_cases hlt : k < l.length
    · obtain ⟨g, rfl, _, hcell, hfr⟩ := HO.out.at_ (k := k) (by rw [HM.out]; exact hlt)
      have hkm : k < m.length := by rw [HM.out]; exact hlt
      have hv := m[k].toNat_lt
      generalize m[k] = c at *
      unfold byteV at hcell
      have hw : IntKind.u8.wrap ((c.toNat : Int) + 1) = ((c + 1).toNat : Int) := by
        rw [IntKind.wrap_u8, UInt8.toNat_add]
        have : (1 : UInt8).toNat = 1 := rfl
        rw [this]; omega
      have hT := TC.poke HO.out k (c + 1)
      obtain ⟨m', em, om⟩ := HO.out.poke g k (c + 1)
      unfold byteV at hT om
      have HT2 := Lib.hid (HT.out.trans hT)
      have HO2 := Lib.hid om
      have HM2 := Lib.hid (em.trans HM.out)
      clear hT om em HO HT hkm
      generalize ((c + 1).toNat : Int) = c1 at *
      have c0 : (0 : Int) ≤ (c.toNat : Int) := by omega
      go_wp2
      go_roundw
      case rel => exact ⟨k + 1, m', by omega, by go_num, HM2, HO2, HT2⟩
      case measure => simp [intOf]; omega
    · obtain rfl : k = l.length := by omega
      go_wp2
      go_end0
      exact ⟨rfl, HT.out⟩

theorem ex_enc : XM.enc (XM.up 300) = [216, 4] := by
  have h : XM.up 300 = 600 := rfl
  rw [h, XM.enc_big (by omega), XM.enc_small (by omega)]
  rfl
theorem ex_int : XM.intN [216, 4] = 300 ∧ XM.intK [216, 4] = 2 ∧ XM.intE [216, 4] = 0 := by decide
theorem ex_frame : XM.frame [97] = [2, 97, 0, 98, 0, 98] := by
  have h1 : XM.enc (XM.up (([97] : List UInt8).length : Int)) = [2] := by
    show XM.enc 2 = _
    rw [XM.enc_small (by omega)]; rfl
  unfold XM.frame
  rw [h1]
  have h2 : XM.four (XM.sum [97]) = [0, 98, 0, 98] := by decide
  rw [h2]; rfl

theorem push_modify (a : Array Obj) (x : Obj) (f : Obj → Obj) : (a.push x).modify a.size f = a.push (f x) := by
  apply Array.ext
  · simp
  · intro i h1 h2
    simp only [Array.getElem_modify, Array.getElem_push]
    by_cases h : a.size = i
    · subst h; simp
    · have hi : i < a.size := by simp at h1; omega
      simp [h, hi]
/-- '[]byte("..")' of a literal -/
theorem conv_mark (w : World) (C : Array Value) (n c : Nat) : (convert 40 40 (.slice (some ⟨w.heap.size, 0, none⟩) n c)).run Try.prog (w.alloc (.cells C 5)) = .ok (.slice (some ⟨w.heap.size, 0, none⟩) n c) (w.alloc (.cells C 5 (C.size, C.size + 1))) := by
  have hsh : (w.alloc (.cells C 5)).shape? w.heap.size = some (5, C.size) := by
    unfold World.shape?
    rw [heap_alloc_new w _]
  have hfr : (w.alloc (.cells C 5)).freeze ⟨w.heap.size, C.size, none⟩ 1 = w.alloc (.cells C 5 (C.size, C.size + 1)) := by
    unfold World.freeze
    rw [if_neg (by decide)]
    show ({ w.alloc (.cells C 5) with heap := (w.heap.push (.cells C 5)).modify w.heap.size _ } : World) = _
    rw [push_modify]
    rfl
  simp [convert, run_underlying Try.underlying40, run_underlying Try.underlying5, markStringish, hsh]
  exact hfr
theorem lit_bytes (w : World) (cs : List UInt8) (fr : Nat × Nat) (hl : cs.length ≤ maxLen) : Bytes (w.alloc (.cells (cs.map byteV).toArray 5 fr)) (some ⟨w.heap.size, 0, none⟩) cs := by
  refine ⟨by rw [List.length_map]; exact hl, .inr ⟨w.heap.size, 0, rfl, by simp, fun i hi => ?_⟩⟩
  rw [Nat.zero_add, World.cell?_alloc_mark]
  simp

set_option maxHeartbeats 2000000 in
set_option maxRecDepth 100000 in
theorem goes4_any (w : World) : Calls Try.prog 32 #[] w fun e w' => e = .returned (.bool true) ∧ Below w.heap.size w w' := by
  have hb0 := lit_bytes w [216, 4] (2, 3) (by simp [maxLen])
  have CI := wint_any (some ⟨w.heap.size, 0, none⟩) 2 2 [216, 4] 0 (w.alloc (.cells (([216, 4] : List UInt8).map byteV).toArray 5 (2, 3))) rfl (by simp) hb0 (by simp) (by simp)
  rw [List.drop_zero, ex_int.1, ex_int.2.1, ex_int.2.2, if_pos rfl] at CI
  have hB0 : Below w.heap.size w (w.alloc (.cells (([216, 4] : List UInt8).map byteV).toArray 5 (2, 3))) := (Below.refl _ _).alloc (Nat.le_refl _) _
  have hm0 := conv_mark w #[.int .u8 216, .int .u8 4] 2 2
  have HB0 := Lib.hid hB0; have HCI := Lib.hid CI
  have CP := fun ww => putint_any none 0 0 [] 300 ww rfl (Bytes.nil _ _) (by simp) (by omega) (by omega)
  rw [ex_enc, List.nil_append] at CP
  have HCP := Lib.hid CP
  have CF := fun (ww : World) (A2 : Option Addr) (h : Bytes ww A2 [97]) => putframe_any none A2 0 0 1 1 [] [97] ww rfl rfl (Bytes.nil _ _) h (by simp) (by simp)
  rw [ex_frame, List.nil_append] at CF
  have HCF := Lib.hid CF
  clear hb0 CI CP CF hB0
  go_enter Try.func32, Try.ntmps32
  go_wp2_with fail
  refine HCI.out.mono ?_
  rintro e w1 ⟨rfl, rfl⟩
  go_wp2_with fail
  refine (HCP.out _).mono ?_
  rintro e w2 ⟨⟨v2, rfl, o2⟩, b2⟩
  obtain ⟨A2, c2, rfl, hb2⟩ := o2.bytes
  have hcv : (convert 40 9 (.slice A2 2 c2)).run Try.prog w2 = .ok (.string ⟨#[216, 4]⟩) w2 := str_of hb2 c2
  have HB2 := Lib.hid (HB0.out.trans (b2.mono HB0.out.size))
  clear o2 hb2 b2 HB0 hm0
  have hm2 := conv_mark w2 #[.int .u8 97] 1 1
  have hb3 := lit_bytes w2 [97] (1, 2) (by simp [maxLen])
  go_wp2_with fail
  refine (HCF.out _ _ hb3).mono ?_
  rintro e w4 ⟨⟨v4, rfl, o4⟩, b4⟩
  obtain ⟨A4, c4, rfl, hb4⟩ := o4.bytes
  have hcv4 : (convert 40 9 (.slice A4 6 c4)).run Try.prog w4 = .ok (.string ⟨#[2, 97, 0, 98, 0, 98]⟩) w4 := str_of hb4 c4
  have HB4 : Hid (Below w.heap.size w w4) := Lib.hid ((HB2.out.alloc HB2.out.size _).trans (b4.mono (by have := HB2.out.size; simp; omega)))
  clear o4 hb4 b4 hb3 hcv hm2
  go_wp2_with fail
  go_ret
  exact ⟨rfl, HB4.out⟩
end Go.Proofs.Ytegipokbbmnahaa
