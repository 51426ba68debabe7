import Derived.Test.YtegipokbbmnahaaWireN
import Derived.Test.YtegipokbbmnahaaOpen
import Derived.Deep.RegionHeldLaw
namespace Go.Proofs.Ytegipokbbmnahaa.wireTexts
open Go.RowKit
set_option linter.unusedVariables false
attribute [local go_sem ↓] Go.wp_at_zero Go.wp_at_succ

theorem agree (l : List UInt8) (at' : Int) (hl : l.length ≤ 1000000) : ∃ (a : ByteArray) (b c : Int), (∀ (ww : World) (A : Option Addr) (cap : Nat), Bytes ww A l → l.length ≤ cap → Calls Try.prog 41 #[.slice A l.length cap, .int .i64 at'] ww fun e w' => e = .returned (.tuple #[.string a, .int .i64 b, .int .i64 c]) ∧ ww = w') ∧
    (∀ (ww : World) (A : Option Addr) (cap : Nat), Bytes ww A l → l.length ≤ cap → Calls Try.prog 42 #[.slice A l.length cap, .int .i64 at'] ww fun e w' => e = .returned (.tuple #[.string a, .int .i64 b, .int .i64 c]) ∧ ww = w') := by
  by_cases h : 0 ≤ at' ∧ at' ≤ (l.length : Int)
  · obtain ⟨p, rfl⟩ : ∃ p : Nat, at' = (p : Int) := ⟨at'.toNat, by omega⟩
    exact ⟨_, _, _, fun ww A cap hb hc => wtext_any A l.length cap l p ww rfl hc hb hl (by omega), fun ww A cap hb hc => rtext4_any A l.length cap l p ww rfl hc hb hl (by omega)⟩
  · exact ⟨S [], 0, 2, fun ww A cap _ _ => wtext_out A l.length cap at' ww (by omega), fun ww A cap _ _ => rtext4_out A l.length cap at' ww (by omega)⟩

set_option maxHeartbeats 1000000 in
set_option maxRecDepth 100000 in
theorem walk (A : Option Addr) (cap : Nat) (l : List UInt8) (s : ByteArray) (at' : Int) (w : World) (hA : Bytes w A l) (hcap : l.length ≤ cap) (hs : s.size ≤ 9223372036854775807) (_ : -9223372036854775808 ≤ at' ∧ at' ≤ 9223372036854775807) :
    Calls Try.prog 9 #[.slice A l.length cap, .string s, .int .i64 at'] w fun e w' => e = .returned (.bool true) ∧ Below w.heap.size w w' := by
  have hlen := hA.len
  by_cases hl : 5000 < l.length ∨ 5000 < s.size
  · clear hA
    by_cases hl2 : 5000 < l.length
    · clear hl
      go_enter Try.func9, Try.ntmps9
      go_wp2_with fail
      refine (goes4_any _).mono ?_
      rintro e w1 ⟨rfl, b1⟩
      have HB1 := Lib.hid b1
      clear b1
      go_wp2_with fail
      go_ret
      exact ⟨rfl, HB1.out⟩
    · have hl3 : 5000 < s.size := by omega
      have d1 : decide (5000 < l.length) = false := decide_eq_false hl2
      clear hl
      go_enter Try.func9, Try.ntmps9
      go_wp2_with fail
      refine (goes4_any _).mono ?_
      rintro e w1 ⟨rfl, b1⟩
      have HB1 := Lib.hid b1
      clear b1
      go_wp2_with fail
      go_ret
      exact ⟨rfl, HB1.out⟩
  · have hl6 : l.length ≤ 1000000 := by omega
    have hs6 : s.size ≤ 1000000 := by omega
    have d1 : ¬ 5000 < l.length := by omega
    have d2 : ¬ 5000 < s.size := by omega
    clear hl
    obtain ⟨a, b, c, CI, CR⟩ := agree l at' hl6
    have CE := fun (ww : World) (A' : Option Addr) (cp : Nat) (h : Bytes ww A' l) => puttext_any A' l.length cp l s ww rfl h hl6 hs6
    have CP := fun (ww : World) (h : Bytes ww A l) => rputtext_any A cap l s ww h hl6 hs6
    generalize l ++ (XM.enc (XM.up (s.size : Int)) ++ L s) = res at *
    have HA := Lib.hid hA; have HCI := Lib.hid CI; have HCR := Lib.hid CR; have HCE := Lib.hid CE; have HCP := Lib.hid CP
    clear hA CI CR CE CP
    go_enter Try.func9, Try.ntmps9
    go_wp2_with fail
    refine (lent_any A cap l w HA.out hl6).mono ?_
    rintro e w1 ⟨⟨g, off, cap1, rfl, ln1⟩, b1⟩
    have HLN := Lib.hid ln1; have HB1 := Lib.hid b1
    clear ln1 b1
    go_wp2_with fail
    refine (HCE.out _ _ _ HLN.out.bytes).mono ?_
    rintro e w2 ⟨⟨v2, rfl, o2⟩, b2⟩
    have hO2 := o2
    obtain ⟨A2, c2, rfl, hb2⟩ := o2.bytes
    have HO2 := Lib.hid hO2; have HB2 := Lib.hid b2; have HBY2 := Lib.hid hb2
    clear o2 b2 hb2 hO2
    go_wp2_with fail
    (with_reducible refine (HCI.out _ _ _ (HLN.out.bytes.below HB2.out) HLN.out.cap).mono ?_)
    rintro e w3 ⟨rfl, rfl⟩
    go_wp2_with fail
    (with_reducible refine (HCR.out _ _ _ ((HA.out.below HB1.out).below HB2.out) hcap).mono ?_)
    rintro e w3 ⟨rfl, rfl⟩
    have hwd : Below w2.heap.size w2 w2.drew := (Below.refl _ _).drew
    have HWD := Lib.hid hwd
    have hcv0 := str_of (HBY2.out.below hwd) c2
    have HBA := Lib.hid (((HA.out.below HB1.out).below HB2.out).below hwd)
    clear hwd
    go_wp2_with fail
    go_region_held_law (fun w' => (convert 40 9 (.slice A2 res.length c2)).run Try.prog w' = .ok (.string (S res)) w') (first | exact hcv0 | exact hcv5 | assumption)
      ((go_at_call 43; refine (HCP.out _ HBA.out).mono ?_; rintro e w4 ⟨⟨v4, rfl, o4⟩, b4⟩; obtain ⟨A4, c4, rfl, hb4⟩ := o4.bytes; have hcv4 := str_of hb4 c4; have HB4 := Lib.hid (HWD.out.trans b4); have hcv5 := str_of (HBY2.out.below HB4.out) c2; clear o4 b4 hb4))
    all_goals (
      clear hcv4 hcv5 hcv0
      have HO4 := Lib.hid (HO2.out.below HB4.out)
      have HLN4 := Lib.hid ((HLN.out.below HB2.out).below HB4.out)
      have HB24 := Lib.hid (HB2.out.trans (HB4.out.mono HB2.out.size))
      go_wp2_with fail
      refine (touched_any _ _ _ _ _ _ HO4.out rfl).mono ?_
      rintro e w5 ⟨rfl, t5⟩
      have HB15 := Lib.hid (HB24.out.trans t5.below)
      have HB05 := Lib.hid (HB1.out.trans (HB15.out.mono HB1.out.size))
      clear t5
      go_wp2_with fail
      refine (kept_any g off A cap1 cap l w5 (HLN.out.below HB15.out) (HA.out.below HB05.out) hl6).mono ?_
      rintro e w6 ⟨rfl, k6, rfl⟩
      have HB06 := Lib.hid (below_drewN HB05.out k6)
      generalize w5.drewN k6 = w6 at *
      go_wp2_with fail
      refine (goes4_any _).mono ?_
      rintro e w7 ⟨rfl, b7⟩
      have HB07 := Lib.hid (HB06.out.trans (b7.mono HB06.out.size))
      clear b7
      go_wp2_with fail
      go_ret
      exact ⟨rfl, HB07.out⟩)
end Go.Proofs.Ytegipokbbmnahaa.wireTexts
