/- Contracts of layer 4's small functions: numbers. -/
import Derived.Test.YtegipokbbmnahaaBuf
import Derived.Test.YtegipokbbmnahaaBlk
import Derived.Test.YtegipokbbmnahaaWireMath2
namespace Go.Proofs.Ytegipokbbmnahaa
open Go.RowKit
set_option linter.unusedVariables false

theorem ret_int {k : IntKind} {x y : Int} (h : x = y) : Ending.returned (.int k x) = .returned (.int k y) := by rw [h]

theorem unsigned_any (n : Int) (w : World) (h1 : -9223372036854775808 ≤ n) (h2 : n ≤ 9223372036854775807) :
    Calls Try.prog 75 #[.int .i64 n] w fun e w' => e = .returned (.int .u64 (XM.up n : Int)) ∧ w = w' := by
  by_cases h : n < 0
  · have HU : Hid (2 * -(n + 1) + 1 = (XM.up n : Int)) := Lib.hid (by unfold XM.up; rw [if_pos h]; omega)
    go_enter Try.func75, Try.ntmps75
    go_wp2
    go_ret
    exact ⟨ret_int HU.out, rfl⟩
  · have HU : Hid (2 * n = (XM.up n : Int)) := Lib.hid (by unfold XM.up; rw [if_neg h]; omega)
    go_enter Try.func75, Try.ntmps75
    go_wp2
    go_ret
    exact ⟨ret_int HU.out, rfl⟩

theorem rup_any (n : Int) (w : World) (h1 : -9223372036854775808 ≤ n) (h2 : n ≤ 9223372036854775807) :
    Calls Try.prog 70 #[.int .i64 n] w fun e w' => e = .returned (.int .u64 (XM.up n : Int)) ∧ w = w' := by
  by_cases h : n < 0
  · have HU : Hid (-(n + 1) * 2 + 1 = (XM.up n : Int)) := Lib.hid (by unfold XM.up; rw [if_pos h]; omega)
    go_enter Try.func70, Try.ntmps70
    go_wp2
    go_ret
    exact ⟨ret_int HU.out, rfl⟩
  · have HU : Hid (n * 2 = (XM.up n : Int)) := Lib.hid (by unfold XM.up; rw [if_neg h]; omega)
    go_enter Try.func70, Try.ntmps70
    go_wp2
    go_ret
    exact ⟨ret_int HU.out, rfl⟩

theorem signed_any (u : Nat) (w : World) (hu : u < 18446744073709551616) :
    Calls Try.prog 76 #[.int .u64 (u : Int)] w fun e w' => e = .returned (.int .i64 (XM.down u)) ∧ w = w' := by
  by_cases h : u % 2 = 1
  · have HU : Hid (-((u : Int) / 2) - 1 = XM.down u) := Lib.hid (by unfold XM.down; rw [if_pos h]; omega)
    have c : ((u : Int) % 2 == 1) = true := by simp; omega
    clear h
    go_enter Try.func76, Try.ntmps76
    go_wp2
    go_ret
    exact ⟨ret_int HU.out, rfl⟩
  · have HU : Hid ((u : Int) / 2 = XM.down u) := Lib.hid (by unfold XM.down; rw [if_neg h]; omega)
    have c : ((u : Int) % 2 == 1) = false := by simp; omega
    clear h
    go_enter Try.func76, Try.ntmps76
    go_wp2
    go_ret
    exact ⟨ret_int HU.out, rfl⟩

theorem enc_len_le (u : Nat) : ∀ k, u < 128 ^ (k + 1) → (XM.enc u).length ≤ k + 1 := by
  induction u using XM.enc.induct with
  | case1 u h => intro k _; rw [XM.enc_small h]; simp
  | case2 u h ih =>
    intro k hk
    rw [XM.enc_big h, List.length_cons]
    cases k with
    | zero => simp at hk; omega
    | succ k =>
      have := ih k (by rw [Nat.pow_succ] at hk; omega)
      omega
theorem enc_len {u : Nat} (h : u < 18446744073709551616) : (XM.enc u).length ≤ 10 := enc_len_le u 9 (by omega)

/-- what the encoding loop has: the bytes ws behind pre, x to go -/
def EInv (u x : Nat) (ws : List UInt8) : Prop := ws ++ XM.enc x = XM.enc u
theorem EInv.step {u x : Nat} {ws : List UInt8} (h : EInv u x ws) (hx : ¬ x < 128) : EInv u (x / 128) (ws ++ [UInt8.ofNat (x % 128 + 128)]) := by
  unfold EInv at *
  rw [← h, XM.enc_big hx]; simp
theorem EInv.end_ {u x : Nat} {ws : List UInt8} (h : EInv u x ws) (hx : x < 128) : ws ++ [UInt8.ofNat x] = XM.enc u := by
  unfold EInv at h
  rw [← h, XM.enc_small hx]
theorem EInv.len {u x : Nat} {ws : List UInt8} (h : EInv u x ws) (hu : u < 18446744073709551616) : ws.length ≤ 10 := by
  have := congrArg List.length h
  rw [List.length_append] at this
  have := enc_len hu
  omega

set_option maxHeartbeats 1000000 in
set_option maxRecDepth 100000 in
theorem encode_any (n : Int) (w : World) (h1 : -9223372036854775808 ≤ n) (h2 : n ≤ 9223372036854775807) :
    Calls Try.prog 67 #[.int .i64 n] w fun e w' => (∃ v, e = .returned v ∧ OB w' w.heap.size v (XM.enc (XM.up n))) ∧ Below w.heap.size w w' := by
  have CU := unsigned_any n w h1 h2
  have hu : XM.up n < 18446744073709551616 := XM.up_lt ⟨h1, h2⟩
  generalize XM.up n = u at *
  generalize hr : XM.enc u = res
  have HR := Lib.hid hr
  have HCU := Lib.hid CU
  clear hr CU
  go_enter Try.func67, Try.ntmps67
  go_wp2_with fail
  refine HCU.out.mono ?_
  rintro e w' ⟨rfl, rfl⟩
  go_wp2_with fail
  go_loopw [2, 3] (fun v x wr => ∃ (y : Nat) (ws : List UInt8), y < 18446744073709551616 ∧ x = .int .u64 (y : Int) ∧ ws.length ≤ 10 ∧ Hid (EInv u y ws) ∧ Hid (OB wr w.heap.size v ws) ∧ Hid (Below w.heap.size w wr)) (fun _ x _ => (intOf x).toNat)
  case atStart => exact ⟨u, [], hu, rfl, by simp, Lib.hid rfl, Lib.hid (OB.nil _ _), Lib.hid (Below.refl _ _)⟩
  case round =>
    obtain ⟨y, ws, hy, rfl, hwl, HE, HO, HB⟩ := hrel
    have HU := Lib.hid hu
    clear hu
    by_cases hlt : y < 128
    · have hE := HE.out.end_ hlt
      rw [HR.out] at hE
      have HE2 := Lib.hid hE
      have hn : ((UInt8.ofNat y).toNat : Int) = (y : Int) := by rw [XM.nat_of _ (by omega)]
      have HN := Lib.hid hn
      clear hE hn
      have c0 : decide (128 ≤ y) = false := decide_eq_false (by omega)
      go_wp2_with (at_builtin; refine wpList_pushB _ (UInt8.ofNat y) (y : Int) HN.out.symm w.heap.size ws _ _ rfl rfl _ rfl rfl HO.out ?c1 ?c2 ?_)
      case c1 => omega
      case c2 => exact HB.out.size
      intro v1 w1 o1 b1 _
      rw [HE2.out] at o1
      have HO1 := Lib.hid o1
      have HB1 := Lib.hid (HB.out.trans b1)
      clear o1 b1 HO HB
      go_wp2
      go_ret
      exact ⟨⟨_, rfl, HO1.out⟩, HB1.out⟩
    · have hE := HE.out.step hlt
      have hn : ((UInt8.ofNat (y % 128 + 128)).toNat : Int) = (y : Int) % 128 + 128 := by rw [XM.nat_of _ (by omega)]; omega
      have hwl2 := hE.len HU.out
      generalize UInt8.ofNat (y % 128 + 128) = c at *
      have HE2 := Lib.hid hE
      have HN := Lib.hid hn
      clear hE hn
      have HQ : Hid ((y : Int) / 128 = ((y / 128 : Nat) : Int)) := Lib.hid (by omega)
      go_wp2_with (at_builtin; refine wpList_pushB _ c ((y : Int) % 128 + 128) HN.out.symm w.heap.size ws _ _ rfl rfl _ rfl rfl HO.out ?c1 ?c2 ?_)
      case c1 => omega
      case c2 => exact HB.out.size
      intro v1 w1 o1 b1 _
      have HO1 := Lib.hid o1
      have HB1 := Lib.hid (HB.out.trans b1)
      clear o1 b1 HO HB
      go_wp2
      go_roundw
      case rel => exact ⟨y / 128, _, by omega, by rw [HQ.out], hwl2, HE2, HO1, HB1⟩
      case measure => simp [intOf]; omega

set_option maxHeartbeats 1000000 in
set_option maxRecDepth 100000 in
theorem rputint_any (A : Option Addr) (cap : Nat) (l : List UInt8) (n : Int) (w : World) (hA : Bytes w A l) (hl : l.length ≤ 1000000) (h1 : -9223372036854775808 ≤ n) (h2 : n ≤ 9223372036854775807) :
    Calls Try.prog 37 #[.slice A l.length cap, .int .i64 n] w fun e w' => (∃ v, e = .returned v ∧ OB w' w.heap.size v (l ++ XM.enc (XM.up n))) ∧ Below w.heap.size w w' := by
  have CU := fun ww => rup_any n ww h1 h2
  have hu : XM.up n < 18446744073709551616 := XM.up_lt ⟨h1, h2⟩
  generalize XM.up n = u at *
  generalize hr : XM.enc u = res
  have HR := Lib.hid hr
  have HCU := Lib.hid CU
  have HA := Lib.hid hA
  clear hr CU hA
  go_enter Try.func37, Try.ntmps37
  go_wp2_with (at_builtin; refine wpList_catB _ w.heap.size [] l _ _ rfl rfl _ _ _ _ rfl rfl rfl ?c0 ?c1 ?c2 ?c3 ?_)
  case c0 => exact World.ownsRow_lit w #[] 0 (Nat.le_refl _) (Nat.zero_le _) rfl
  case c1 => exact HA.out.below ((Below.refl _ _).alloc (Nat.le_refl _) _)
  case c2 => simp; omega
  case c3 => simp
  intro v0 w0 o0 b0 _
  have HO0 := Lib.hid o0
  have HB0 : Hid (Below w.heap.size w w0) := Lib.hid (((Below.refl _ _).alloc (Nat.le_refl _) _).trans b0)
  clear o0 b0
  go_wp2_with fail
  refine (HCU.out _).mono ?_
  rintro e w' ⟨rfl, rfl⟩
  go_wp2_with fail
  go_loopw [5, 6] (fun v x wr => ∃ (y : Nat) (ws : List UInt8), y < 18446744073709551616 ∧ x = .int .u64 (y : Int) ∧ ws.length ≤ 10 ∧ Hid (EInv u y ws) ∧ Hid (OB wr w.heap.size v (l ++ ws)) ∧ Hid (Below w.heap.size w wr)) (fun _ x _ => (intOf x).toNat)
  case atStart => exact ⟨u, [], hu, rfl, by simp, Lib.hid rfl, Lib.hid (by simpa using HO0.out), HB0⟩
  case round =>
    clear HO0 HB0
    obtain ⟨y, ws, hy, rfl, hwl, HE, HO, HB⟩ := hrel
    have HU := Lib.hid hu
    clear hu
    by_cases hlt : y < 128
    · have hE := HE.out.end_ hlt
      rw [HR.out] at hE
      have HE2 := Lib.hid hE
      have hn : ((UInt8.ofNat y).toNat : Int) = (y : Int) := by rw [XM.nat_of _ (by omega)]
      have HN := Lib.hid hn
      clear hE hn
      have c0 : decide (128 ≤ y) = false := decide_eq_false (by omega)
      go_wp2_with (at_builtin; refine wpList_pushB _ (UInt8.ofNat y) (y : Int) HN.out.symm w.heap.size (l ++ ws) _ _ rfl rfl _ rfl rfl HO.out ?c1 ?c2 ?_)
      case c1 => rw [List.length_append]; omega
      case c2 => exact HB.out.size
      intro v1 w1 o1 b1 _
      rw [HE2.out] at o1
      have HO1 := Lib.hid o1
      have HB1 := Lib.hid (HB.out.trans b1)
      clear o1 b1 HO HB
      go_wp2
      go_ret
      exact ⟨⟨_, rfl, HO1.out⟩, HB1.out⟩
    · have hE := HE.out.step hlt
      have hn : ((UInt8.ofNat (y % 128 + 128)).toNat : Int) = (y : Int) % 128 + 128 := by rw [XM.nat_of _ (by omega)]; omega
      have hwl2 := hE.len HU.out
      generalize UInt8.ofNat (y % 128 + 128) = c at *
      have HE2 := Lib.hid hE
      have HN := Lib.hid hn
      clear hE hn
      have HQ : Hid ((y : Int) / 128 = ((y / 128 : Nat) : Int)) := Lib.hid (by omega)
      go_wp2_with (at_builtin; refine wpList_pushB _ c ((y : Int) % 128 + 128) HN.out.symm w.heap.size (l ++ ws) _ _ rfl rfl _ rfl rfl HO.out ?c1 ?c2 ?_)
      case c1 => rw [List.length_append]; omega
      case c2 => exact HB.out.size
      intro v1 w1 o1 b1 _
      have HO1 := Lib.hid o1
      have HB1 := Lib.hid (HB.out.trans b1)
      clear o1 b1 HO HB
      go_wp2
      go_roundw
      case rel => exact ⟨y / 128, _, by omega, by rw [HQ.out], hwl2, HE2, HO1, HB1⟩
      case measure => simp [intOf]; omega

end Go.Proofs.Ytegipokbbmnahaa
