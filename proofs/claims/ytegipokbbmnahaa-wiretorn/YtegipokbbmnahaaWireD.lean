/- Contracts: what is put behind bytes. -/
import Derived.Test.YtegipokbbmnahaaWireC
namespace Go.Proofs.Ytegipokbbmnahaa
open Go.RowKit
set_option linter.unusedVariables false

theorem flat_two (a b : Pc) : flatP [a, b] = a.l ++ b.l := by simp [flatP]
theorem flat_three (a b c : Pc) : flatP [a, b, c] = a.l ++ (b.l ++ c.l) := by simp [flatP]
theorem flat_four (a b c d : Pc) : flatP [a, b, c, d] = a.l ++ (b.l ++ (c.l ++ d.l)) := by simp [flatP]

theorem putint_any (A : Option Addr) (n cap : Nat) (l : List UInt8) (x : Int) (w : World) (hn : n = l.length) (hA : Bytes w A l) (hl : l.length ≤ 1000000) (h1 : -9223372036854775808 ≤ x) (h2 : x ≤ 9223372036854775807) :
    Calls Try.prog 34 #[.slice A n cap, .int .i64 x] w fun e w' => (∃ v, e = .returned v ∧ OB w' w.heap.size v (l ++ XM.enc (XM.up x))) ∧ Below w.heap.size w w' := by
  have CE := encode_any x w h1 h2
  have hle := enc_len (XM.up_lt (n := x) ⟨h1, h2⟩)
  generalize XM.enc (XM.up x) = en at *
  subst hn
  have HCE := Lib.hid CE; have HA := Lib.hid hA
  clear CE hA
  go_enter Try.func34, Try.ntmps34
  go_wp2_with fail
  refine HCE.out.mono ?_
  rintro e w1 ⟨⟨v1, rfl, o1⟩, b1⟩
  obtain ⟨A1, c1, rfl, hb1⟩ := o1.bytes
  have hp := Pcs.made w1 [⟨A, l, cap⟩, ⟨A1, en, c1⟩] (by
    intro p hp
    simp at hp
    rcases hp with rfl | rfl
    · exact HA.out.below b1
    · exact hb1) (by simp [maxLen])
  have HP := Lib.hid hp
  have HB1 := Lib.hid b1
  clear o1 hb1 hp b1
  go_wp2_with fail
  refine (joined_any _ 2 2 _ _ rfl HP.out (by unfold lenP; rw [flat_two, List.length_append]; simp; omega)).mono ?_
  rw [flat_two]
  rintro e w2 ⟨⟨v2, rfl, o2⟩, b2⟩
  have HO2 : Hid (OB w2 w.heap.size v2 (l ++ en)) := Lib.hid (by
    refine ⟨o2.1, ?_⟩
    rcases o2.2 with h | ⟨g, cp, cu, r1, r2, r3⟩
    · exact .inl h
    · exact .inr ⟨g, cp, cu, r1, by have := HB1.out.size; simp at r2; omega, r3⟩)
  have HB2 : Hid (Below w.heap.size w w2) := Lib.hid ((HB1.out.alloc HB1.out.size _).trans (b2.mono (by have := HB1.out.size; simp; omega)))
  clear o2 b2
  go_wp2
  go_ret
  exact ⟨⟨_, rfl, HO2.out⟩, HB2.out⟩

theorem OB.base {w : World} {B B' : Nat} {v : Value} {l : List UInt8} (h : OB w B v l) (hB : B' ≤ B) : OB w B' v l := by
  refine ⟨h.1, ?_⟩
  rcases h.2 with h | ⟨g, cp, cu, r1, r2, r3⟩
  · exact .inl h
  · exact .inr ⟨g, cp, cu, r1, by omega, r3⟩

set_option maxHeartbeats 1000000 in
theorem puttext_any (A : Option Addr) (n cap : Nat) (l : List UInt8) (s : ByteArray) (w : World) (hn : n = l.length) (hA : Bytes w A l) (hl : l.length ≤ 1000000) (hs : s.size ≤ 1000000) :
    Calls Try.prog 40 #[.slice A n cap, .string s] w fun e w' => (∃ v, e = .returned v ∧ OB w' w.heap.size v (l ++ (XM.enc (XM.up s.size) ++ L s))) ∧ Below w.heap.size w w' := by
  have CE := encode_any (s.size : Int) w (by omega) (by omega)
  have hle := enc_len (XM.up_lt (n := (s.size : Int)) ⟨by omega, by omega⟩)
  generalize XM.enc (XM.up (s.size : Int)) = en at *
  subst hn
  have HCE := Lib.hid CE; have HA := Lib.hid hA
  clear CE hA
  go_enter Try.func40, Try.ntmps40
  go_wp2_with fail
  refine HCE.out.mono ?_
  rintro e w1 ⟨⟨v1, rfl, o1⟩, b1⟩
  obtain ⟨A1, c1, rfl, hb1⟩ := o1.bytes
  obtain ⟨c2, w2, hcv, hb2, b2, _⟩ := bytes_of w1 s (by omega)
  have hll := L_len s
  have hp := Pcs.made w2 [⟨A, l, cap⟩, ⟨A1, en, c1⟩, ⟨some ⟨w1.heap.size, 0, none⟩, L s, c2⟩] (by
    intro p hp
    simp at hp
    rcases hp with rfl | rfl | rfl
    · exact (HA.out.below b1).below b2
    · exact hb1.below b2
    · exact hb2) (by simp [maxLen])
  unfold Pc.val at hp
  simp only [List.map_cons, List.map_nil, hll] at hp
  have HP := Lib.hid hp
  have HB2 := Lib.hid (b1.trans (b2.mono b1.size))
  have HLL := Lib.hid hll
  clear o1 hb1 hb2 hp b1 b2 hll
  go_wp2_with fail
  refine (joined_any _ 3 3 _ _ rfl HP.out (by unfold lenP; rw [flat_three, List.length_append, List.length_append]; simp only [HLL.out]; omega)).mono ?_
  rw [flat_three]
  rintro e w3 ⟨⟨v3, rfl, o3⟩, b3⟩
  have HO3 : Hid (OB w3 w.heap.size v3 (l ++ (en ++ L s))) := Lib.hid (OB.base o3 (by have := HB2.out.size; simp; omega))
  have HB3 : Hid (Below w.heap.size w w3) := Lib.hid ((HB2.out.alloc HB2.out.size _).trans (b3.mono (by have := HB2.out.size; simp; omega)))
  clear o3 b3
  go_wp2
  go_ret
  exact ⟨⟨_, rfl, HO3.out⟩, HB3.out⟩

set_option maxHeartbeats 1000000 in
theorem putframe_any (A A2 : Option Addr) (n cap n2 cap2 : Nat) (l p : List UInt8) (w : World) (hn : n = l.length) (hn2 : n2 = p.length) (hA : Bytes w A l) (hA2 : Bytes w A2 p) (hl : l.length ≤ 1000000) (hs : p.length ≤ 1000000) :
    Calls Try.prog 44 #[.slice A n cap, .slice A2 n2 cap2] w fun e w' => (∃ v, e = .returned v ∧ OB w' w.heap.size v (l ++ XM.frame p)) ∧ Below w.heap.size w w' := by
  have CE := encode_any (p.length : Int) w (by omega) (by omega)
  have hle := enc_len (XM.up_lt (n := (p.length : Int)) ⟨by omega, by omega⟩)
  have hf : l ++ XM.frame p = l ++ (XM.enc (XM.up p.length) ++ (p ++ XM.four (XM.sum p))) := rfl
  rw [hf]
  have CS := fun (ww : World) (h : Bytes ww A2 p) => sumOf_any A2 p.length cap2 p ww rfl h
  have h4 := XM.four_len (XM.sum p)
  generalize XM.four (XM.sum p) = fo at *
  generalize XM.enc (XM.up (p.length : Int)) = en at *
  subst hn; subst hn2
  have HCE := Lib.hid CE; have HA := Lib.hid hA; have HA2 := Lib.hid hA2; have HCS := Lib.hid CS; have HF := Lib.hid h4
  clear CE hA hA2 hf CS h4
  go_enter Try.func44, Try.ntmps44
  go_wp2_with fail
  refine HCE.out.mono ?_
  rintro e w1 ⟨⟨v1, rfl, o1⟩, b1⟩
  obtain ⟨A1, c1, rfl, hb1⟩ := o1.bytes
  have HB1 := Lib.hid b1
  have HBY1 := Lib.hid hb1
  clear b1 hb1 o1
  go_wp2_with fail
  refine (HCS.out _ (HA2.out.below HB1.out)).mono ?_
  rintro e w2 ⟨⟨v2, rfl, o2⟩, b2⟩
  obtain ⟨A3, c3, rfl, hb3⟩ := o2.bytes
  have hp := Pcs.made w2 [⟨A, l, cap⟩, ⟨A1, en, c1⟩, ⟨A2, p, cap2⟩, ⟨A3, fo, c3⟩] (by
    intro q hq
    simp at hq
    rcases hq with rfl | rfl | rfl | rfl
    · exact (HA.out.below HB1.out).below b2
    · exact HBY1.out.below b2
    · exact (HA2.out.below HB1.out).below b2
    · exact hb3) (by simp [maxLen])
  have HP := Lib.hid hp
  have HB2 := Lib.hid (HB1.out.trans (b2.mono HB1.out.size))
  clear o2 hb3 hp b2
  go_wp2_with fail
  refine (joined_any _ 4 4 _ _ rfl HP.out (by unfold lenP; rw [flat_four, List.length_append, List.length_append, List.length_append]; simp only [HF.out]; omega)).mono ?_
  rw [flat_four]
  rintro e w3 ⟨⟨v3, rfl, o3⟩, b3⟩
  have HO3 : Hid (OB w3 w.heap.size v3 (l ++ (en ++ (p ++ fo)))) := Lib.hid (OB.base o3 (by have := HB2.out.size; simp; omega))
  have HB3 : Hid (Below w.heap.size w w3) := Lib.hid ((HB2.out.alloc HB2.out.size _).trans (b3.mono (by have := HB2.out.size; simp; omega)))
  clear o3 b3
  go_wp2
  go_ret
  exact ⟨⟨_, rfl, HO3.out⟩, HB3.out⟩

theorem rputtext_any (A : Option Addr) (cap : Nat) (l : List UInt8) (s : ByteArray) (w : World) (hA : Bytes w A l) (hl : l.length ≤ 1000000) (hs : s.size ≤ 1000000) :
    Calls Try.prog 43 #[.slice A l.length cap, .string s] w fun e w' => (∃ v, e = .returned v ∧ OB w' w.heap.size v (l ++ (XM.enc (XM.up s.size) ++ L s))) ∧ Below w.heap.size w w' := by
  have CE := rputint_any A cap l (s.size : Int) w hA hl (by omega) (by omega)
  have hle := enc_len (XM.up_lt (n := (s.size : Int)) ⟨by omega, by omega⟩)
  generalize XM.enc (XM.up (s.size : Int)) = en at *
  have HCE := Lib.hid CE
  clear CE hA
  go_enter Try.func43, Try.ntmps43
  go_wp2_with fail
  refine HCE.out.mono ?_
  rintro e w1 ⟨⟨v1, rfl, o1⟩, b1⟩
  have HO1 := Lib.hid o1; have HB1 := Lib.hid b1
  clear o1 b1
  go_wp2_with (at_builtin; refine wpList_catS _ w.heap.size _ s _ _ rfl rfl _ rfl rfl HO1.out ?c1 ?c2 ?_)
  case c1 => rw [List.length_append]; omega
  case c2 => exact HB1.out.size
  intro v2 w2 o2 b2 _
  have HO2 : Hid (OB w2 w.heap.size v2 (l ++ (en ++ L s))) := Lib.hid (by simpa using o2)
  have HB2 := Lib.hid (HB1.out.trans b2)
  clear o2 b2
  go_wp2
  go_ret
  exact ⟨⟨_, rfl, HO2.out⟩, HB2.out⟩

set_option maxHeartbeats 1000000 in
theorem rputframe_any (A A2 : Option Addr) (cap cap2 : Nat) (l p : List UInt8) (w : World) (hA : Bytes w A l) (hA2 : Bytes w A2 p) (hl : l.length ≤ 1000000) (hs : p.length ≤ 1000000) :
    Calls Try.prog 49 #[.slice A l.length cap, .slice A2 p.length cap2] w fun e w' => (∃ v, e = .returned v ∧ OB w' w.heap.size v (l ++ XM.frame p)) ∧ Below w.heap.size w w' := by
  have hsz : (S p).size = p.length := S_size p
  have CE := rputtext_any A cap l (S p) w hA hl (by rw [hsz]; exact hs)
  rw [hsz, L_S] at CE
  have hle := enc_len (XM.up_lt (n := (p.length : Int)) ⟨by omega, by omega⟩)
  have hf : l ++ XM.frame p = (l ++ (XM.enc (XM.up p.length) ++ p)) ++ XM.four (XM.sum p) := by unfold XM.frame; simp
  rw [hf]
  have CS := fun ww (h : Bytes ww A2 p) => rsum_any A2 p.length cap2 p ww rfl h
  have C4 := fun ww => rfour_any (XM.sum p) ww (XM.sum_lt p)
  have h4 := XM.four_len (XM.sum p)
  generalize XM.four (XM.sum p) = fo at *
  generalize XM.sum p = su at *
  have hcv := str_of hA2 cap2
  generalize XM.enc (XM.up (p.length : Int)) = en at *
  have HCE := Lib.hid CE; have HCS := Lib.hid CS; have HC4 := Lib.hid C4; have HA2 := Lib.hid hA2; have HF := Lib.hid h4
  clear CE CS C4 hA hA2 hf hsz h4
  go_enter Try.func49, Try.ntmps49
  go_wp2_with fail
  refine HCE.out.mono ?_
  rintro e w1 ⟨⟨v1, rfl, o1⟩, b1⟩
  have HO1 := Lib.hid o1; have HB1 := Lib.hid b1
  clear o1 b1 hcv
  go_wp2_with fail
  refine (HCS.out _ (HA2.out.below HB1.out)).mono ?_
  rintro e w2 ⟨rfl, rfl⟩
  go_wp2_with fail
  refine (HC4.out _).mono ?_
  rintro e w2 ⟨⟨v2, rfl, o2⟩, b2⟩
  obtain ⟨A3, c3, rfl, hb3⟩ := o2.bytes
  have HO1b := Lib.hid (HO1.out.below b2)
  have HB2 := Lib.hid (HB1.out.trans (b2.mono HB1.out.size))
  have HBY := Lib.hid hb3
  clear o2 b2 hb3 HO1 HB1
  go_wp2_with (at_builtin; refine wpList_catB _ w.heap.size _ fo _ _ rfl rfl _ _ _ _ rfl rfl rfl HO1b.out HBY.out ?c1 ?c2 ?_)
  case c1 => rw [HF.out, List.length_append, List.length_append]; omega
  case c2 => exact HB2.out.size
  intro v3 w3 o3 b3 _
  have HO3 := Lib.hid o3
  have HB3 := Lib.hid (HB2.out.trans b3)
  clear o3 b3
  go_wp2
  go_ret
  exact ⟨⟨_, rfl, by simpa using HO3.out⟩, HB3.out⟩
end Go.Proofs.Ytegipokbbmnahaa
