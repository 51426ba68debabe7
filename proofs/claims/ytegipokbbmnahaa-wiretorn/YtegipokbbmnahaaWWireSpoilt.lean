import Derived.Test.YtegipokbbmnahaaWireN
import Derived.Test.YtegipokbbmnahaaOpen
namespace Go.Proofs.Ytegipokbbmnahaa.wireSpoilt
open Go.RowKit
set_option linter.unusedVariables false

theorem bits_xor_u8 (a b : UInt8) : bits .xor .u8 (a.toNat : Int) (b.toNat : Int) = ((a ^^^ b).toNat : Int) := by
  have ha := a.toNat_lt
  have hb := b.toNat_lt
  have h1 : (BitVec.ofInt 8 (a.toNat : Int)).toNat = a.toNat := by
    rw [BitVec.ofInt_natCast, BitVec.toNat_ofNat]; exact Nat.mod_eq_of_lt ha
  have h2 : (BitVec.ofInt 8 (b.toNat : Int)).toNat = b.toNat := by
    rw [BitVec.ofInt_natCast, BitVec.toNat_ofNat]; exact Nat.mod_eq_of_lt hb
  show IntKind.u8.wrap ((BitVec.ofInt 8 (a.toNat : Int) ^^^ BitVec.ofInt 8 (b.toNat : Int)).toNat : Int) = _
  rw [BitVec.toNat_xor, h1, h2, IntKind.wrap_u8, UInt8.toNat_xor]
  have hx : a.toNat ^^^ b.toNat < 2 ^ 8 := Nat.xor_lt_two_pow (by omega) (by omega)
  omega
theorem xor_ne {a b : UInt8} (h : b ≠ 0) : a ^^^ b ≠ a := by
  intro e
  apply h
  have : a ^^^ (a ^^^ b) = a ^^^ a := by rw [e]
  rw [← UInt8.xor_assoc, UInt8.xor_self, UInt8.zero_xor] at this
  exact this

theorem frame_len (p : List UInt8) : (XM.frame p).length = (XM.enc (XM.up p.length)).length + p.length + 4 := by
  unfold XM.frame
  rw [List.length_append, List.length_append, XM.four_len]; omega

/-- one byte another one: it is told -/
theorem told {p : List UInt8} (hp : p.length ≤ 65536) (r : Nat) (hr : r < p.length + 4) (c : UInt8)
    (hc : ∀ d, (XM.frame p)[(XM.enc (XM.up p.length)).length + r]? = some d → c ≠ d) : XM.frameE ((XM.frame p).set ((XM.enc (XM.up p.length)).length + r) c) = 9 := by
  have e0 : XM.frame p = XM.enc (XM.up p.length) ++ (p ++ XM.four (XM.sum p)) := rfl
  by_cases h : r < p.length
  · have e1 : (XM.frame p).set ((XM.enc (XM.up p.length)).length + r) c = XM.enc (XM.up p.length) ++ (p.set r c ++ XM.four (XM.sum p)) := by
      rw [e0, List.set_append_right _ _ (by omega), Nat.add_sub_cancel_left, List.set_append_left _ _ h]
    have hc2 := hc p[r] (by rw [e0, List.getElem?_append_right (by omega), Nat.add_sub_cancel_left, List.getElem?_append_left h]; exact List.getElem?_eq_getElem h)
    rw [e1]
    exact XM.frame_spoilt hp h hc2
  · have h4 : r - p.length < (XM.four (XM.sum p)).length := by rw [XM.four_len]; omega
    have e1 : (XM.frame p).set ((XM.enc (XM.up p.length)).length + r) c = XM.enc (XM.up p.length) ++ (p ++ (XM.four (XM.sum p)).set (r - p.length) c) := by
      rw [e0, List.set_append_right _ _ (by omega), Nat.add_sub_cancel_left, List.set_append_right _ _ (by omega)]
    have hc2 := hc ((XM.four (XM.sum p))[r - p.length]) (by rw [e0, List.getElem?_append_right (by omega), Nat.add_sub_cancel_left, List.getElem?_append_right (by omega)]; exact List.getElem?_eq_getElem h4)
    rw [e1]
    refine XM.frame_spoilt_sum hp (by rw [List.length_set, XM.four_len]) ?_
    intro e
    apply hc2
    have := congrArg (fun q => q[r - p.length]?) e
    simp only [List.getElem?_set_self h4, List.getElem?_eq_getElem h4, Option.some.injEq] at this
    exact this

theorem OB.set_ {w : World} {B g n cap : Nat} {l : List UInt8} (h : OB w B (.slice (some ⟨g, 0, none⟩) n cap) l) (hn : n = l.length) (i : Nat) (c : UInt8) :
    OB (w.setCell ⟨g, i, none⟩ (byteV c)) B (.slice (some ⟨g, 0, none⟩) n cap) (l.set i c) := by
  subst hn
  have := (World.ownsRow.stored (n := l.length) (xs := l.map byteV) (by unfold OB OwnV at h; rw [List.length_map] at h; exact h) i (byteV c)).1
  unfold OB OwnV
  rw [List.map_set, List.length_set, List.length_map]
  exact this
theorem OB.blk {w : World} {B g n cap : Nat} {l : List UInt8} (h : OB w B (.slice (some ⟨g, 0, none⟩) n cap) l) : B ≤ g := by
  rcases h.2 with ⟨h0, _⟩ | ⟨g', cp, cur, h0, hB, hh, _⟩
  · cases h0
  · injection h0 with h0
    injection h0 with h0
    injection h0 with h0
    subst h0
    exact hB
theorem OB.room {w : World} {B n cap : Nat} {A : Option Addr} {l : List UInt8} (h : OB w B (.slice A n cap) l) : l.length ≤ cap := by
  rcases OwnV.form h with ⟨h0, h1⟩ | ⟨g, cp, e, _, _, hh⟩
  · have : l = [] := by simpa using h1
    subst this; simp
  · injection e with _ _ e3
    rw [List.length_map] at hh
    omega

theorem w64 (a b : Nat) (ha : a ≤ 1000000) (hb : b ≤ 1000000) : wrap64 ((a : Int) + wrap64 (b : Int)) = ((a + b : Nat) : Int) := by unfold wrap64; omega
/-- spoilt: the answer of Frame -/
theorem bad {p fr : List UInt8} {k : Nat} {c d : UInt8} (hfr : fr.length ≤ 1000000) (hc : fr[k]? = some d) (hd : c ≠ d)
    (ht : ∀ c, (∀ d, fr[k]? = some d → c ≠ d) → XM.frameE (fr.set k c) = 9) (A : Option Addr) (cap : Nat) (w : World) (hA : Bytes w A (fr.set k c)) (hcap : fr.length ≤ cap) :
    Calls Try.prog 45 #[.slice A fr.length cap, .int .i64 0] w fun e w' => (∃ v, e = .returned (.tuple #[v, .int .i64 0, .int .i64 9]) ∧ OB w' w.heap.size v []) ∧ Below w.heap.size w w' := by
  have h9 := ht c (fun d' h' => by rw [hc] at h'; injection h' with h'; subst h'; exact hd)
  have C := frame_any A fr.length cap (fr.set k c) 0 w (by simp) (by simpa using hcap) hA (by simpa using hfr) (by omega)
  rw [List.drop_zero, h9] at C
  have e1 : XM.frameN (fr.set k c) = [] := by unfold XM.frameN; rw [h9]; rfl
  rw [e1] at C
  exact C
theorem good {p fr : List UInt8} {k : Nat} {c : UInt8} (hfr : fr.length ≤ 1000000) (hc : fr[k]? = some c)
    (hb : XM.frameE fr = 0 ∧ XM.frameN fr = p ∧ XM.frameK fr = fr.length) (A : Option Addr) (cap : Nat) (w : World) (hA : Bytes w A (fr.set k c)) (hcap : fr.length ≤ cap) :
    Calls Try.prog 45 #[.slice A fr.length cap, .int .i64 0] w fun e w' => (∃ v, e = .returned (.tuple #[v, .int .i64 (fr.length : Int), .int .i64 0]) ∧ OB w' w.heap.size v p) ∧ Below w.heap.size w w' := by
  have e0 : fr.set k c = fr := by
    obtain ⟨hlt, e⟩ := List.getElem?_eq_some_iff.1 hc
    rw [← e]; exact List.set_getElem_self hlt
  rw [e0] at hA
  have C := frame_any A fr.length cap fr 0 w rfl hcap hA hfr (by omega)
  rw [List.drop_zero, hb.1, hb.2.1, hb.2.2, offOr_ok rfl] at C
  have : ((0 : Nat) : Int) + (fr.length : Int) = (fr.length : Int) := by omega
  rw [this] at C
  exact C

set_option maxHeartbeats 2000000 in
set_option maxRecDepth 100000 in
theorem walk (A : Option Addr) (cap : Nat) (p : List UInt8) (at' : Int) (by' : Int) (w : World) (hA : Bytes w A p) (_ : -9223372036854775808 ≤ at' ∧ at' ≤ 9223372036854775807) (hby : 0 ≤ by' ∧ by' ≤ 255) :
    Calls Try.prog 13 #[.slice A p.length cap, .int .i64 at', .int .u8 by'] w fun e w' => e = .returned (.bool true) ∧ Below w.heap.size w w' := by
  have hlen := hA.len
  by_cases hl : 5000 < p.length
  · clear hA
    go_enter Try.func13, Try.ntmps13
    go_wp2_with fail
    refine (goes4_any _).mono ?_
    rintro e w1 ⟨rfl, b1⟩
    have HB1 := Lib.hid b1
    clear b1
    go_wp2_with fail
    go_ret
    exact ⟨rfl, HB1.out⟩
  · have hl6 : p.length ≤ 1000000 := by omega
    have CF := putframe_any none A 0 0 p.length cap [] p w rfl rfl (Bytes.nil _ _) hA (by simp) hl6
    rw [List.nil_append] at CF
    have hfl := frame_len p
    have hel := enc_len (XM.up_lt (n := (p.length : Int)) ⟨by omega, by omega⟩)
    have hen := List.length_pos_iff.2 (XM.enc_ne (XM.up (p.length : Int)))
    have htold := told (p := p) (by omega)
    have hback := XM.frame_back (p := p) (by omega) []
    rw [List.append_nil] at hback
    generalize (XM.enc (XM.up (p.length : Int))).length = h at *
    obtain ⟨r, hr, hrl⟩ : ∃ r : Nat, (IntKind.u64.wrap at').tmod ((p.length : Int) + 4) = (r : Int) ∧ r < p.length + 4 := by
      have h0 : 0 ≤ IntKind.u64.wrap at' := by rw [IntKind.wrap_u64]; omega
      rw [Int.tmod_eq_emod_of_nonneg h0]
      refine ⟨(IntKind.u64.wrap at' % ((p.length : Int) + 4)).toNat, ?_, ?_⟩
      · have := Int.emod_nonneg (IntKind.u64.wrap at') (b := (p.length : Int) + 4) (by omega)
        omega
      · have := Int.emod_lt_of_pos (IntKind.u64.wrap at') (b := (p.length : Int) + 4) (by omega)
        have := Int.emod_nonneg (IntKind.u64.wrap at') (b := (p.length : Int) + 4) (by omega)
        omega
    have htr := htold r hrl
    generalize hfr : XM.frame p = fr at *
    have hfl6 : fr.length ≤ 1000000 := by omega
    obtain ⟨b, hbb⟩ : ∃ b : UInt8, by' = (b.toNat : Int) := ⟨UInt8.ofNat by'.toNat, by
      have : by'.toNat < 256 := by omega
      rw [UInt8.toNat_ofNat_of_lt' this]; omega⟩
    subst hbb
    have HA := Lib.hid hA; have HCF := Lib.hid CF; have HTR := Lib.hid htr; have HBK := Lib.hid hback
    have l1 : fr.length ≤ h + p.length + 4 := by omega
    have l2 : h + p.length + 4 ≤ fr.length := by omega
    clear hA CF hfr hfl htold htr hback
    go_enter Try.func13, Try.ntmps13
    go_wp2_with fail
    (with_reducible refine HCF.out.mono ?_)
    rintro e w1 ⟨⟨v1, rfl, o1⟩, b1⟩
    have hO1 := o1
    obtain ⟨A1, c1, rfl, hb1⟩ := o1.bytes
    have hk : h + r < fr.length := by omega
    have hgt : fr[h + r]? = some fr[h + r] := List.getElem?_eq_getElem hk
    obtain ⟨g, rfl, _, hcell, hfz⟩ := hO1.at_ (k := h + r) hk
    generalize fr[h + r] = c at *
    have HO2 := Lib.hid (OB.set_ hO1 rfl (h + r) (c ^^^ b))
    have HB2 := Lib.hid (b1.setCell (OB.blk hO1) (byteV (c ^^^ b)) (p := ⟨g, h + r, none⟩))
    have hrm := OB.room hO1
    have HGT := Lib.hid hgt
    have hx := bits_xor_u8 c b
    have ehd : (fr.length : Int) - (p.length : Int) - 4 = (h : Int) := by omega
    have ek : wrap64 ((h : Int) + wrap64 ((IntKind.u64.wrap at').tmod ((p.length : Int) + 4))) = ((h + r : Nat) : Int) := by
      rw [hr]; exact w64 _ _ (by omega) (by omega)
    unfold byteV at hcell HO2 HB2
    generalize h + r = k at *
    clear hO1 o1 b1 hb1 hgt hr
    rw [UInt8.toNat_xor] at HO2 HB2
    go_wp2_with fail
    generalize w1.setCell { block := g, off := k } (Value.int IntKind.u8 ↑(c.toNat ^^^ b.toNat)) = w2 at *
    obtain ⟨A2, c2, e2, hb2⟩ := HO2.out.bytes
    injection e2 with e21 e22 e23
    subst e21 e23
    rw [List.length_set] at e22
    by_cases hz : b = 0
    · subst hz
      have C2 := good hfl6 HGT.out HBK.out _ c1 w2 (by rw [UInt8.xor_zero] at hb2; exact hb2) hrm
      clear hb2
      (with_reducible refine C2.mono ?_)
      rintro e w3 ⟨⟨v3, rfl, o3⟩, b3⟩
      obtain ⟨A3, c3, rfl, hb3⟩ := o3.bytes
      have HB3 := Lib.hid (HB2.out.trans (b3.mono HB2.out.size))
      have hcv := str_of hb3 c3
      have hcv2 := str_of (HA.out.below HB3.out) cap
      clear C2 o3 b3 hb3
      go_wp2_with fail
      refine (goes4_any _).mono ?_
      rintro e w4 ⟨rfl, b4⟩
      have HB4 := Lib.hid (HB3.out.trans (b4.mono HB3.out.size))
      clear b4
      go_wp2_with fail
      go_ret
      exact ⟨rfl, HB4.out⟩
    · have C2 := bad (p := p) hfl6 HGT.out (xor_ne hz) HTR.out _ c1 w2 hb2 hrm
      have hbn : (b.toNat : Int) ≠ 0 := by
        intro e
        apply hz
        apply UInt8.toNat.inj
        have : (0 : UInt8).toNat = 0 := rfl
        omega
      clear hb2
      (with_reducible refine C2.mono ?_)
      rintro e w3 ⟨⟨v3, rfl, o3⟩, b3⟩
      obtain ⟨A3, c3, rfl, hb3⟩ := o3.bytes
      have HB3 := Lib.hid (HB2.out.trans (b3.mono HB2.out.size))
      clear C2 o3 b3 hb3
      go_wp2_with fail
      refine (goes4_any _).mono ?_
      rintro e w4 ⟨rfl, b4⟩
      have HB4 := Lib.hid (HB3.out.trans (b4.mono HB3.out.size))
      clear b4
      go_wp2_with fail
      go_ret
      exact ⟨rfl, HB4.out⟩
end Go.Proofs.Ytegipokbbmnahaa.wireSpoilt
