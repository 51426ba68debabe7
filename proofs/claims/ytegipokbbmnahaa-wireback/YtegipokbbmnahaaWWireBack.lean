import Derived.Test.YtegipokbbmnahaaWWireSpoilt
import Derived.Deep.RegionHeldLaw
namespace Go.Proofs.Ytegipokbbmnahaa.wireBack
open Go.RowKit
set_option linter.unusedVariables false
attribute [local go_sem ↓] Go.wp_at_zero Go.wp_at_succ

theorem off_len (a b : List UInt8) : (a.length : Int) + (b.length : Int) = ((a ++ b).length : Int) := by rw [List.length_append]; omega

theorem c_int {b : List UInt8} {n : Int} (hb : b.length ≤ 5000) (h1 : -9223372036854775808 ≤ n) (h2 : n ≤ 9223372036854775807) (A : Option Addr) (cap : Nat) (w : World) (hA : Bytes w A (b ++ XM.enc (XM.up n))) (hc : (b ++ XM.enc (XM.up n)).length ≤ cap) :
    Calls Try.prog 35 #[.slice A (b ++ XM.enc (XM.up n)).length cap, .int .i64 (b.length : Int)] w fun e w' => e = .returned (.tuple #[.int .i64 n, .int .i64 ((b ++ XM.enc (XM.up n)).length : Int), .int .i64 0]) ∧ w = w' := by
  have hle := enc_len (XM.up_lt ⟨h1, h2⟩)
  have C := wint_any A _ cap _ b.length w rfl hc hA (by rw [List.length_append]; omega) (by rw [List.length_append]; omega)
  have hk := XM.int_back ⟨h1, h2⟩ []
  rw [List.append_nil] at hk
  rw [List.drop_left, hk.1, hk.2.1, hk.2.2, if_pos rfl, off_len] at C
  exact C
theorem c_text {b : List UInt8} {s : ByteArray} (hb : b.length ≤ 5000) (hs : s.size ≤ 65536) (A : Option Addr) (cap : Nat) (w : World) (hA : Bytes w A (b ++ (XM.enc (XM.up s.size) ++ L s))) (hc : (b ++ (XM.enc (XM.up s.size) ++ L s)).length ≤ cap) :
    Calls Try.prog 41 #[.slice A (b ++ (XM.enc (XM.up s.size) ++ L s)).length cap, .int .i64 (b.length : Int)] w fun e w' => e = .returned (.tuple #[.string s, .int .i64 ((b ++ (XM.enc (XM.up s.size) ++ L s)).length : Int), .int .i64 0]) ∧ w = w' := by
  have hle := enc_len (XM.up_lt (n := (s.size : Int)) ⟨by omega, by omega⟩)
  have C := wtext_any A _ cap _ b.length w rfl hc hA (by rw [List.length_append, List.length_append, L_len]; omega) (by rw [List.length_append]; omega)
  have hk := XM.text_back (p := L s) (by rw [L_len]; exact hs) []
  rw [List.append_nil, L_len] at hk
  rw [List.drop_left, hk.1, hk.2.1, hk.2.2, offOr_ok rfl, S_L] at C
  have e : (b.length : Int) + ((XM.enc (XM.up (s.size : Int))).length + s.size : Nat) = ((b ++ (XM.enc (XM.up s.size) ++ L s)).length : Int) := by
    rw [List.length_append, List.length_append, L_len]; omega
  rw [e] at C
  exact C
theorem c_text_long {b : List UInt8} {s : ByteArray} (hb : b.length ≤ 5000) (hs : 65536 < s.size) (hs2 : s.size ≤ 70000) (A : Option Addr) (cap : Nat) (w : World) (hA : Bytes w A (b ++ (XM.enc (XM.up s.size) ++ L s))) (hc : (b ++ (XM.enc (XM.up s.size) ++ L s)).length ≤ cap) :
    Calls Try.prog 41 #[.slice A (b ++ (XM.enc (XM.up s.size) ++ L s)).length cap, .int .i64 (b.length : Int)] w fun e w' => e = .returned (.tuple #[.string (S []), .int .i64 0, .int .i64 8]) ∧ w = w' := by
  have hle := enc_len (XM.up_lt (n := (s.size : Int)) ⟨by omega, by omega⟩)
  have C := wtext_any A _ cap _ b.length w rfl hc hA (by rw [List.length_append, List.length_append, L_len]; omega) (by rw [List.length_append]; omega)
  have hk := XM.text_long (p := L s) (by rw [L_len]; exact hs) (by rw [L_len]; omega) []
  rw [List.append_nil, L_len] at hk
  have e1 : XM.textN (XM.enc (XM.up (s.size : Int)) ++ L s) = [] := by unfold XM.textN; rw [hk]; rfl
  rw [List.drop_left, hk, e1] at C
  exact C
theorem c_frame {b p : List UInt8} (hb : b.length ≤ 5000) (hs : p.length ≤ 65536) (A : Option Addr) (cap : Nat) (w : World) (hA : Bytes w A (b ++ XM.frame p)) (hc : (b ++ XM.frame p).length ≤ cap) :
    Calls Try.prog 45 #[.slice A (b ++ XM.frame p).length cap, .int .i64 (b.length : Int)] w fun e w' => (∃ v, e = .returned (.tuple #[v, .int .i64 ((b ++ XM.frame p).length : Int), .int .i64 0]) ∧ OB w' w.heap.size v p) ∧ Below w.heap.size w w' := by
  have hle := enc_len (XM.up_lt (n := (p.length : Int)) ⟨by omega, by omega⟩)
  have C := frame_any A _ cap _ b.length w rfl hc hA (by rw [List.length_append, wireSpoilt.frame_len]; omega) (by rw [List.length_append]; omega)
  have hk := XM.frame_back hs []
  rw [List.append_nil] at hk
  rw [List.drop_left, hk.1, hk.2.1, hk.2.2, offOr_ok rfl, off_len] at C
  exact C
theorem c_frame_long {b p : List UInt8} (hb : b.length ≤ 5000) (hs : 65536 < p.length) (hs2 : p.length ≤ 70000) (A : Option Addr) (cap : Nat) (w : World) (hA : Bytes w A (b ++ XM.frame p)) (hc : (b ++ XM.frame p).length ≤ cap) :
    Calls Try.prog 45 #[.slice A (b ++ XM.frame p).length cap, .int .i64 (b.length : Int)] w fun e w' => (∃ v, e = .returned (.tuple #[v, .int .i64 0, .int .i64 8]) ∧ OB w' w.heap.size v []) ∧ Below w.heap.size w w' := by
  have hle := enc_len (XM.up_lt (n := (p.length : Int)) ⟨by omega, by omega⟩)
  have C := frame_any A _ cap _ b.length w rfl hc hA (by rw [List.length_append, wireSpoilt.frame_len]; omega) (by rw [List.length_append]; omega)
  have hk := XM.frame_long hs (by omega)
  have e1 : XM.frameN (XM.frame p) = [] := by unfold XM.frameN; rw [hk]; rfl
  rw [List.drop_left, hk, e1] at C
  exact C

set_option maxHeartbeats 2000000 in
set_option maxRecDepth 100000 in
theorem walk (A : Option Addr) (cap : Nat) (b : List UInt8) (n : Int) (s : ByteArray) (w : World) (hA : Bytes w A b) (hcap : b.length ≤ cap) (hn : -9223372036854775808 ≤ n ∧ n ≤ 9223372036854775807) (hsz : s.size ≤ 9223372036854775807) :
    Calls Try.prog 11 #[.slice A b.length cap, .int .i64 n, .string s] w fun e w' => e = .returned (.bool true) ∧ Below w.heap.size w w' := by
  have hlen := hA.len
  by_cases hl : 5000 < b.length ∨ 70000 < s.size
  · clear hA
    by_cases hl2 : 5000 < b.length
    · clear hl
      go_enter Try.func11, Try.ntmps11
      go_wp2_with fail
      refine (goes4_any _).mono ?_
      rintro e w1 ⟨rfl, b1⟩
      have HB1 := Lib.hid b1
      clear b1
      go_wp2_with fail
      go_ret
      exact ⟨rfl, HB1.out⟩
    · have hl3 : 70000 < s.size := by omega
      have d1 : decide (5000 < b.length) = false := decide_eq_false hl2
      clear hl
      go_enter Try.func11, Try.ntmps11
      go_wp2_with fail
      refine (goes4_any _).mono ?_
      rintro e w1 ⟨rfl, b1⟩
      have HB1 := Lib.hid b1
      clear b1
      go_wp2_with fail
      go_ret
      exact ⟨rfl, HB1.out⟩
  · have hb5 : b.length ≤ 5000 := by omega
    have hs7 : s.size ≤ 70000 := by omega
    have hl6 : b.length ≤ 1000000 := by omega
    have hs6 : s.size ≤ 1000000 := by omega
    have d1 : ¬ 5000 < b.length := by omega
    have d2 : ¬ 70000 < s.size := by omega
    clear hl
    have C1 := putint_any A b.length cap b n w rfl hA hl6 hn.1 hn.2
    have C2 := c_int hb5 hn.1 hn.2
    have C3 := fun (ww : World) (h : Bytes ww A b) => puttext_any A b.length cap b s ww rfl h hl6 hs6
    have C4 := fun (ww : World) (A2 : Option Addr) (cp : Nat) (h : Bytes ww A b) (h2 : Bytes ww A2 (L s)) => putframe_any A A2 b.length cap s.size cp b (L s) ww rfl (L_len s).symm h h2 hl6 (by rw [L_len]; omega)
    have CB := fun (ww : World) => bytes_of ww s (by omega)
    have C5 : s.size ≤ 65536 → _ := fun h => c_text hb5 h
    have C6 : 65536 < s.size → _ := fun h => c_text_long hb5 h hs7
    have C7 : s.size ≤ 65536 → _ := fun h => c_frame (p := L s) hb5 (by rw [L_len]; exact h)
    have C8 : 65536 < s.size → _ := fun h => c_frame_long (p := L s) hb5 (by rw [L_len]; exact h) (by rw [L_len]; exact hs7)
    have l1 : (b ++ XM.enc (XM.up n)).length ≤ 2000000 := by have := enc_len (XM.up_lt hn); rw [List.length_append]; omega
    have l2 : (b ++ (XM.enc (XM.up (s.size : Int)) ++ L s)).length ≤ 2000000 := by have := enc_len (XM.up_lt (n := (s.size : Int)) ⟨by omega, by omega⟩); rw [List.length_append, List.length_append, L_len]; omega
    have l3 : (b ++ XM.frame (L s)).length ≤ 2000000 := by have := enc_len (XM.up_lt (n := (s.size : Int)) ⟨by omega, by omega⟩); rw [List.length_append, wireSpoilt.frame_len, L_len]; omega
    generalize b ++ XM.enc (XM.up n) = r1 at *
    generalize b ++ (XM.enc (XM.up (s.size : Int)) ++ L s) = r2 at *
    generalize b ++ XM.frame (L s) = r3 at *
    have HA := Lib.hid hA; have H1 := Lib.hid C1; have H2 := Lib.hid C2; have H3 := Lib.hid C3; have H4 := Lib.hid C4; have H5 := Lib.hid C5; have H6 := Lib.hid C6; have H7 := Lib.hid C7; have H8 := Lib.hid C8; have HC := Lib.hid CB
    clear hA C1 C2 C3 C4 C5 C6 C7 C8 CB
    go_enter Try.func11, Try.ntmps11
    go_wp2_with fail
    (with_reducible refine H1.out.mono ?_)
    rintro e w1 ⟨⟨v1, rfl, o1⟩, b1⟩
    have hO1 := o1
    obtain ⟨A1, c1, rfl, hb1⟩ := o1.bytes
    have hr1 := wireSpoilt.OB.room hO1
    have HB1 := Lib.hid b1; have HY1 := Lib.hid hb1
    clear o1 b1 hb1 hO1
    go_wp2_with fail
    (with_reducible refine (H2.out _ _ _ HY1.out hr1).mono ?_)
    rintro e w2 ⟨rfl, rfl⟩
    go_wp2_with fail
    (with_reducible refine (H3.out _ (HA.out.below HB1.out)).mono ?_)
    rintro e w2 ⟨⟨v2, rfl, o2⟩, b2⟩
    have hO2 := o2
    obtain ⟨A2, c2, rfl, hb2⟩ := o2.bytes
    have hr2 := wireSpoilt.OB.room hO2
    have HB2 := Lib.hid (HB1.out.trans (b2.mono HB1.out.size)); have HY2 := Lib.hid hb2
    clear o2 b2 hb2 hO2
    go_wp2_with fail
    by_cases hlong : 65536 < s.size
    · (with_reducible refine (H6.out hlong _ _ _ HY2.out hr2).mono ?_)
      rintro e w3 ⟨rfl, rfl⟩
      obtain ⟨cpc, w3, hcv, hb3, b3, hr3⟩ := HC.out w2
      have HB3 := Lib.hid (HB2.out.trans (b3.mono HB2.out.size)); have HY3 := Lib.hid hb3
      clear hb3 b3
      go_wp2_with fail
      (with_reducible refine (H4.out _ _ _ (HA.out.below HB3.out) HY3.out).mono ?_)
      rintro e w4 ⟨⟨v4, rfl, o4⟩, b4⟩
      have hO4 := o4
      obtain ⟨A4, c4, rfl, hb4⟩ := o4.bytes
      have hr4 := wireSpoilt.OB.room hO4
      have HB4 := Lib.hid (HB3.out.trans (b4.mono HB3.out.size)); have HY4 := Lib.hid hb4
      clear o4 b4 hb4 hO4 hcv
      go_wp2_with fail
      (with_reducible refine (H8.out hlong _ _ _ HY4.out hr4).mono ?_)
      rintro e w5 ⟨⟨v5, rfl, o5⟩, b5⟩
      obtain ⟨A5, c5, rfl, hb5⟩ := o5.bytes
      have HB5 := Lib.hid (HB4.out.trans (b5.mono HB4.out.size))
      have hsn : (S []).toList = [] := by rw [L_toList, L_S]
      clear o5 b5 hb5
      go_wp2_with fail
      refine (goes4_any _).mono ?_
      rintro e w6 ⟨rfl, b6⟩
      have HB6 := Lib.hid (HB5.out.trans (b6.mono HB5.out.size))
      clear b6
      go_wp2_with fail
      go_ret
      exact ⟨rfl, HB6.out⟩
    · (with_reducible refine (H5.out (by omega) _ _ _ HY2.out hr2).mono ?_)
      rintro e w3 ⟨rfl, rfl⟩
      obtain ⟨cpc, w3, hcv, hb3, b3, hr3⟩ := HC.out w2
      have HB3 := Lib.hid (HB2.out.trans (b3.mono HB2.out.size)); have HY3 := Lib.hid hb3
      clear hb3 b3
      go_wp2_with fail
      (with_reducible refine (H4.out _ _ _ (HA.out.below HB3.out) HY3.out).mono ?_)
      rintro e w4 ⟨⟨v4, rfl, o4⟩, b4⟩
      have hO4 := o4
      obtain ⟨A4, c4, rfl, hb4⟩ := o4.bytes
      have hr4 := wireSpoilt.OB.room hO4
      have HB4 := Lib.hid (HB3.out.trans (b4.mono HB3.out.size)); have HY4 := Lib.hid hb4
      clear o4 b4 hb4 hO4 hcv
      go_wp2_with fail
      (with_reducible refine (H7.out (by omega) _ _ _ HY4.out hr4).mono ?_)
      rintro e w5 ⟨⟨v5, rfl, o5⟩, b5⟩
      obtain ⟨A5, c5, rfl, hb5⟩ := o5.bytes
      have HB5 := Lib.hid (HB4.out.trans (b5.mono HB4.out.size))
      have hcv5 := str_of hb5 c5
      rw [L_len, S_L] at hcv5
      rw [L_len]
      clear o5 b5 hb5
      have hY5 := HA.out.below HB5.out
      have CI := wint_any A b.length cap b 0 w5 rfl hcap hY5 hl6 (by omega)
      rw [List.drop_zero] at CI
      go_wp2_with fail
      by_cases hE : XM.intE b = 0
      · obtain ⟨i1, i2, i3, i4, i5⟩ := XM.int_only hE
        rw [hE, if_pos rfl, show ((0 : Nat) : Int) + (XM.intK b : Int) = (XM.intK b : Int) by omega, show ((0 : Nat) : Int) = 0 from rfl] at CI
        have CP := fun (ww : World) => putint_any none 0 0 [] (XM.intN b) ww rfl (Bytes.nil _ _) (by simp) i4 i5
        rw [List.nil_append, i1] at CP
        generalize XM.intN b = kn at *
        generalize XM.intK b = kk at *
        clear i1 hE H1 H2 H3 H4 H5 H6 H7 H8 HC HY1 HY2 HY3 HY4
        have HCP := Lib.hid CP
        clear CP
        (with_reducible refine CI.mono ?_)
        rintro e w6 ⟨rfl, rfl⟩
        obtain ⟨g, off, rfl⟩ : ∃ g off, A = some ⟨g, off, none⟩ := by
          rcases hY5.2 with h0 | ⟨g, off, e, _⟩
          · have : b = [] := by simpa using h0
            subst this; simp at i3; omega
          · exact ⟨g, off, e⟩
        have HY5 := Lib.hid hY5
        have hrun := fun ww => run_to (g := g) (off := off) (n := b.length) (cap := cap) (h := kk) (by omega) ww
        have hwd : Below w5.heap.size w5 w5.drew := (Below.refl _ _).drew
        have HWD := Lib.hid hwd
        have htk : (b.take kk).length = kk := by rw [List.length_take]; omega
        have hcvT : ∀ ww, Bytes ww (some ⟨g, off, none⟩) b → (convert 40 9 (.slice (some ⟨g, off, none⟩) kk cap)).run Try.prog ww = .ok (.string (S (b.take kk))) ww := by
          intro ww h
          have := str_of (Bytes.take_ h kk) cap
          rw [htk] at this
          exact this
        have HCV := Lib.hid hcvT
        have hcv0 := hcvT _ (hY5.below hwd)
        generalize b.take kk = bt at *
        have e0 : (kk : Int) ≤ (b.length : Int) := by omega
        have e1 : (0 : Int) < (kk : Int) := by omega
        clear CI hY5 hwd hcvT hcv5 htk
        go_wp2_with fail
        go_region_held_law (fun w' => (convert 40 9 (.slice (some ⟨g, off, none⟩) kk cap)).run Try.prog w' = .ok (.string (S bt)) w') (first | exact hcv0 | exact hcv9 | exact hcv8 | assumption)
          (first
            | (go_at_call 34; refine (HCP.out _).mono ?_; rintro e w7 ⟨⟨v7, rfl, o7⟩, b7⟩; obtain ⟨A7, c7, rfl, hb7⟩ := o7.bytes; have hcv7 := str_of hb7 c7; have HB7 := Lib.hid (HWD.out.trans b7); have hcv8 := HCV.out _ (HY5.out.below HB7.out); clear o7 b7 hb7)
            | (go_at_call 32; refine (goes4_any _).mono ?_; rintro e w9 ⟨rfl, b9⟩; have HB9 := Lib.hid (HB7.out.trans (b9.mono HB7.out.size)); have hcv9 := HCV.out _ (HY5.out.below HB9.out); clear b9))
        all_goals (
          clear hcv7 hcv8 hcv9 hcv0
          have HB8 := Lib.hid (HB5.out.trans (HB9.out.mono HB5.out.size))
          go_wp2_with fail
          go_ret
          exact ⟨rfl, HB8.out⟩)
      · obtain ⟨i1, i2⟩ := XM.intK_err hE
        rw [if_neg hE, i1, show ((0 : Nat) : Int) = 0 from rfl] at CI
        generalize XM.intE b = ee at *
        (with_reducible refine CI.mono ?_)
        rintro e w6 ⟨rfl, rfl⟩
        clear CI hY5
        go_wp2_with fail
        refine (goes4_any _).mono ?_
        rintro e w6 ⟨rfl, b6⟩
        have HB6 := Lib.hid (HB5.out.trans (b6.mono HB5.out.size))
        clear b6
        go_wp2_with fail
        go_ret
        exact ⟨rfl, HB6.out⟩
end Go.Proofs.Ytegipokbbmnahaa.wireBack
