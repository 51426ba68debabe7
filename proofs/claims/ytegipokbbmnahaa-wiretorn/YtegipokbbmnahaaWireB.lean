/- Contracts: checksums. -/
import Derived.Test.YtegipokbbmnahaaWireA
namespace Go.Proofs.Ytegipokbbmnahaa
open Go.RowKit
set_option linter.unusedVariables false

/-- the two sums of the bytes so far -/
def AInv (l : List UInt8) (k x y : Nat) : Prop := XM.adl (l.take k) = (x, y)
theorem AInv.lt {l : List UInt8} {k x y : Nat} (h : AInv l k x y) : x < 65521 ∧ y < 65521 := by have := XM.adl_lt (l.take k); rw [h] at this; exact this
theorem AInv.step {l : List UInt8} {k x y : Nat} (h : AInv l k x y) (hk : k < l.length) : AInv l (k + 1) ((x + l[k].toNat) % 65521) ((y + (x + l[k].toNat) % 65521) % 65521) := by
  unfold AInv at *
  rw [WM.take_snoc l k hk, XM.adl_snoc, h]
theorem AInv.end_ {l : List UInt8} {x y : Nat} (h : AInv l l.length x y) : XM.sum l = y * 65536 + x := by
  unfold AInv at h
  rw [List.take_of_length_le (Nat.le_refl _)] at h
  unfold XM.sum
  rw [h]

set_option maxHeartbeats 1000000 in
set_option maxRecDepth 100000 in
theorem sum_any (A : Option Addr) (n cap : Nat) (l : List UInt8) (w : World) (hn : n = l.length) (hA : Bytes w A l) :
    Calls Try.prog 51 #[.slice A n cap] w fun e w' => e = .returned (.int .u32 (XM.sum l : Int)) ∧ w = w' := by
  subst hn
  have hlen := hA.len
  generalize hr : XM.sum l = res
  have HR := Lib.hid hr
  clear hr
  go_enter Try.func51, Try.ntmps51
  go_wp2
  go_loop [3, 4, 9] (fun a b i => ∃ k x y : Nat, k ≤ l.length ∧ i = .int .i64 k ∧ a = .int .u32 (x : Int) ∧ b = .int .u32 (y : Int) ∧ Hid (AInv l k x y)) (fun _ _ i => l.length - (intOf i).toNat)
  case atStart => exact ⟨0, 1, 0, by omega, rfl, rfl, rfl, Lib.hid rfl⟩
  case round =>
    obtain ⟨k, x, y, hk, rfl, rfl, rfl, HI⟩ := hrel
    obtain ⟨x1, y1⟩ := HI.out.lt
    by_cases hlt : k < l.length
    · obtain ⟨b, off, n, rfl, hb, hcell, HN, n0, n1⟩ := hA.get hlt
      have HA := Lib.hid hA
      clear hA
      have hS := HI.out.step hlt
      have HS := Lib.hid hS
      clear hS
      have e1 : Hid (((x : Int) + n) % 65521 = (((x + l[k].toNat) % 65521 : Nat) : Int)) := Lib.hid (by rw [← HN.out]; omega)
      have e2 : Hid (((y : Int) + ((x : Int) + n) % 65521) % 65521 = (((y + (x + l[k].toNat) % 65521) % 65521 : Nat) : Int)) := Lib.hid (by rw [e1.out]; omega)
      go_wp2
      go_round
      case rel => exact ⟨k + 1, _, _, by omega, by go_num, by rw [e1.out], by rw [e2.out], HS⟩
      case measure => simp [intOf]; omega
    · obtain rfl : k = l.length := by omega
      have hE := HI.out.end_
      rw [HR.out] at hE
      have HE : Hid ((y : Int) * 65536 + (x : Int) = (res : Int)) := Lib.hid (by rw [hE]; omega)
      clear hE
      go_wp2
      go_ret
      exact ⟨ret_int HE.out, rfl⟩

set_option maxHeartbeats 1000000 in
set_option maxRecDepth 100000 in
theorem rsum_any (A : Option Addr) (n cap : Nat) (l : List UInt8) (w : World) (hn : n = l.length) (hA : Bytes w A l) :
    Calls Try.prog 52 #[.slice A n cap] w fun e w' => e = .returned (.int .u32 (XM.sum l : Int)) ∧ w = w' := by
  subst hn
  have hlen := hA.len
  generalize hr : XM.sum l = res
  have HR := Lib.hid hr
  clear hr
  go_enter Try.func52, Try.ntmps52
  go_wp2
  go_loop [3, 4, 5] (fun a b i => ∃ k x y : Nat, k ≤ l.length ∧ i = .int .i64 k ∧ a = .int .i64 (x : Int) ∧ b = .int .i64 (y : Int) ∧ Hid (AInv l k x y)) (fun _ _ i => l.length - (intOf i).toNat)
  case atStart => exact ⟨0, 1, 0, by omega, rfl, rfl, rfl, Lib.hid rfl⟩
  case round =>
    obtain ⟨k, x, y, hk, rfl, rfl, rfl, HI⟩ := hrel
    obtain ⟨x1, y1⟩ := HI.out.lt
    by_cases hlt : k < l.length
    · obtain ⟨b, off, n, rfl, hb, hcell, HN, n0, n1⟩ := hA.get hlt
      have HA := Lib.hid hA
      clear hA
      have hS := HI.out.step hlt
      have HS := Lib.hid hS
      clear hS
      have e1 : Hid (((x : Int) + n) % 65521 = (((x + l[k].toNat) % 65521 : Nat) : Int)) := Lib.hid (by rw [← HN.out]; omega)
      have e2 : Hid (((y : Int) + ((x : Int) + n) % 65521) % 65521 = (((y + (x + l[k].toNat) % 65521) % 65521 : Nat) : Int)) := Lib.hid (by rw [e1.out]; omega)
      go_wp2
      go_round
      case rel => exact ⟨k + 1, _, _, by omega, by go_num, by rw [e1.out], by rw [e2.out], HS⟩
      case measure => simp [intOf]; omega
    · obtain rfl : k = l.length := by omega
      have hE := HI.out.end_
      rw [HR.out] at hE
      have HE : Hid ((y : Int) * 65536 + (x : Int) = (res : Int)) := Lib.hid (by rw [hE]; omega)
      clear hE
      go_wp2
      go_ret
      exact ⟨ret_int HE.out, rfl⟩

theorem bytes_made (w : World) (cs : List UInt8) (hl : cs.length ≤ maxLen) (B : Nat) (hB : B ≤ w.heap.size) : OB (w.alloc (.cells (cs.map byteV).toArray 5)) B (.slice (some ⟨w.heap.size, 0, none⟩) cs.length cs.length) cs := by
  have := World.ownsRow_lit (base := B) (e := 5) (size := 1) w (cs.map byteV).toArray cs.length hB hl (by simp)
  unfold OB OwnV
  rw [List.length_map]
  simpa using this
theorem four_cells (n : Nat) (hn : n < 4294967296) : ((XM.four n).map byteV).toArray = #[.int .u8 ((n : Int) / 16777216), .int .u8 ((n : Int) / 65536 % 256), .int .u8 ((n : Int) / 256 % 256), .int .u8 ((n : Int) % 256)] := by
  have h1 : byteV (UInt8.ofNat (n / 16777216)) = .int .u8 ((n : Int) / 16777216) := by unfold byteV; rw [XM.nat_of _ (by omega)]; congr 1
  have h2 : byteV (UInt8.ofNat (n / 65536 % 256)) = .int .u8 ((n : Int) / 65536 % 256) := by unfold byteV; rw [XM.nat_of _ (by omega)]; congr 1
  have h3 : byteV (UInt8.ofNat (n / 256 % 256)) = .int .u8 ((n : Int) / 256 % 256) := by unfold byteV; rw [XM.nat_of _ (by omega)]; congr 1
  have h4 : byteV (UInt8.ofNat (n % 256)) = .int .u8 ((n : Int) % 256) := by unfold byteV; rw [XM.nat_of _ (by omega)]; congr 1
  unfold XM.four
  rw [List.map_cons, List.map_cons, List.map_cons, List.map_cons, List.map_nil, h1, h2, h3, h4]

set_option maxRecDepth 100000 in
theorem rfour_any (n : Nat) (w : World) (hn : n < 4294967296) :
    Calls Try.prog 73 #[.int .u32 (n : Int)] w fun e w' => (∃ v, e = .returned v ∧ OB w' w.heap.size v (XM.four n)) ∧ Below w.heap.size w w' := by
  have hO := bytes_made w (XM.four n) (by simp [XM.four, maxLen]) w.heap.size (Nat.le_refl _)
  rw [four_cells n hn] at hO
  have HO := Lib.hid hO
  clear hO
  go_enter Try.func73, Try.ntmps73
  go_wp2
  go_ret
  exact ⟨⟨_, rfl, HO.out⟩, (Below.refl _ _).alloc (Nat.le_refl _) _⟩

set_option maxRecDepth 100000 in
theorem sumOf_any (A : Option Addr) (n cap : Nat) (l : List UInt8) (w : World) (hn : n = l.length) (hA : Bytes w A l) :
    Calls Try.prog 72 #[.slice A n cap] w fun e w' => (∃ v, e = .returned v ∧ OB w' w.heap.size v (XM.four (XM.sum l))) ∧ Below w.heap.size w w' := by
  have CS := sum_any A n cap l w hn hA
  have hs := XM.sum_lt l
  generalize XM.sum l = s at *
  have hO := bytes_made w (XM.four s) (by simp [XM.four, maxLen]) w.heap.size (Nat.le_refl _)
  rw [four_cells s hs] at hO
  have HCS := Lib.hid CS; have HO := Lib.hid hO
  clear CS hO hn hA
  go_enter Try.func72, Try.ntmps72
  go_wp2_with fail
  refine HCS.out.mono ?_
  rintro e w' ⟨rfl, rfl⟩
  go_wp2_with fail
  go_ret
  exact ⟨⟨_, rfl, HO.out⟩, (Below.refl _ _).alloc (Nat.le_refl _) _⟩
end Go.Proofs.Ytegipokbbmnahaa
