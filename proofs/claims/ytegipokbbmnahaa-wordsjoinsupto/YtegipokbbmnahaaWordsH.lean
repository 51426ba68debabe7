/- Contracts: how numbers are written, the program's. -/
import Derived.Test.YtegipokbbmnahaaWordsG
import Derived.Test.YtegipokbbmnahaaDecMath
import Derived.Test.YtegipokbbmnahaaBlk
namespace Go.Proofs.Ytegipokbbmnahaa
open Go.RowKit
set_option linter.unusedVariables false

theorem ret2_int {a : Value} {k : IntKind} {x y : Int} (h : x = y) : Ending.returned (.tuple #[a, .int k x]) = .returned (.tuple #[a, .int k y]) := by rw [h]
theorem signAndSize_any (n : Int) (w : World) (h1 : -9223372036854775808 ≤ n) (h2 : n ≤ 9223372036854775807) :
    Calls Try.prog 63 #[.int .i64 n] w fun e w' => e = .returned (.tuple #[.string (S (if n < 0 then [45] else [])), .int .u64 (n.natAbs : Int)]) ∧ w = w' := by
  by_cases h : n < 0
  · rw [if_pos h]
    have hw : Hid (IntKind.u64.wrap (-IntKind.u64.wrap n) = (n.natAbs : Int)) := Lib.hid (by rw [IntKind.wrap_u64, IntKind.wrap_u64]; omega)
    go_enter Try.func63, Try.ntmps63
    go_wp2
    go_ret2
    exact ⟨ret2_int hw.out, rfl⟩
  · rw [if_neg h]
    have hw : Hid (n = (n.natAbs : Int)) := Lib.hid (by omega)
    go_enter Try.func63, Try.ntmps63
    go_wp2
    go_ret2
    exact ⟨ret2_int hw.out, rfl⟩

/-- what the writing loop has: room down to a, the number x left, the digits ws written -/
def DInv (u least a x : Nat) (ws : List UInt8) : Prop := ws.length + a = 20 ∧ WM.dp x (least - (20 - a)) ++ ws = WM.dp u least ∧ u / 10 ^ (20 - a) = x
theorem DInv.start (u least : Nat) : DInv u least 20 u [] := ⟨rfl, by simp, by simp⟩
theorem DInv.pos {u least a x : Nat} {ws : List UInt8} (h : DInv u least a x ws) (hu : u < 18446744073709551616) (hl : least ≤ 3) (hc : 0 < x ∨ 20 - a < least) : 0 < a := by
  rcases Nat.eq_zero_or_pos a with h0 | h0
  · subst h0
    have := h.2.2
    rw [show 20 - 0 = 20 from rfl, WM.pow_end hu] at this
    omega
  · exact h0
theorem DInv.step {u least a x : Nat} {ws : List UInt8} (h : DInv u least (a + 1) x ws) (hc : 0 < x ∨ 20 - (a + 1) < least) : DInv u least a (x / 10) (UInt8.ofNat (48 + x % 10) :: ws) := by
  have hl := h.1
  refine ⟨by rw [List.length_cons]; omega, ?_, ?_⟩
  · have := WM.dp_go (u := u) h.2.1 (by omega)
    rw [← this, show least - (20 - a) = least - (20 - (a + 1)) - 1 by omega]
  · rw [show 20 - a = 20 - (a + 1) + 1 by omega, WM.pow_step, h.2.2]
theorem DInv.end_ {u least a x : Nat} {ws : List UInt8} (h : DInv u least a x ws) (h0 : x = 0) (h1 : ¬ 20 - a < least) : ws = WM.dp u least := by
  have := h.2.1
  rw [h0, show least - (20 - a) = 0 by omega, WM.dp_done] at this
  simpa using this
/-- the array's cells: from a on the bytes ws -/
def ACells (cs : List Value) (a : Nat) (ws : List UInt8) : Prop := cs.length = 20 ∧ cs.drop a = ws.map byteV
theorem ACells.step {cs : List Value} {a : Nat} {ws : List UInt8} (h : ACells cs (a + 1) ws) (ha : a + 1 ≤ 20) (c : UInt8) : ACells (cs.set a (byteV c)) a (c :: ws) := by
  refine ⟨by rw [List.length_set]; exact h.1, ?_⟩
  have hl : a < (cs.set a (byteV c)).length := by rw [List.length_set, h.1]; omega
  rw [List.drop_eq_getElem_cons hl, List.getElem_set_self, List.drop_set_of_lt (by omega), h.2]
  rfl

theorem run_arr (g a : Nat) (ha : a ≤ 19) (w : World) : (Instr.sliceAt 90 (.pointer (some ⟨g, 0, none⟩)) (some (.int .i64 (a : Int))) none none).run Try.prog w = .ok (.slice (some ⟨g, a, none⟩) (20 - a) (20 - a)) w := by
  obtain ⟨i0, hi, hz0, hz1, hz2⟩ := info_parts info_u8
  have h1 : (0 : Int) ≤ (a : Int) ∧ (a : Int) ≤ 20 := by omega
  have h2 : ¬ 20 = a := by omega
  have e : (⟨g, 0, none⟩ : Addr).add a = ⟨g, a, none⟩ := by
    unfold Addr.add
    by_cases h0 : a = 0
    · subst h0; simp
    · simp [h0]
  simp [Instr.sliceAt, Instr.sureAddr, run_underlying Try.underlying90, Instr.sliceBounds, Instr.sliceBound, asIntOf, sizeOf, typeInfo, hi, hz1, h1, h2, e]
  intro h; omega

set_option maxHeartbeats 2000000 in
theorem digitsOf_any (u : Nat) (least : Nat) (w : World) (hu : u < 18446744073709551616) (h1 : 1 ≤ least) (h2 : least ≤ 3) :
    Calls Try.prog 64 #[.int .u64 (u : Int), .int .i64 (least : Int)] w fun e w' => e = .returned (.string (S (WM.dp u least))) ∧ Below w.heap.size w w' := by
  generalize hr : S (WM.dp u least) = res
  have HR := Lib.hid hr
  clear hr
  go_enter Try.func64, Try.ntmps64
  go_wp2
  go_loopw [0, 6] (fun sz at' wr => ∃ (a x : Nat) (ws : List UInt8) (cs : List Value), a ≤ 20 ∧ x < 18446744073709551616 ∧ sz = .int .u64 (x : Int) ∧ at' = .int .i64 (a : Int) ∧ Hid (DInv u least a x ws) ∧ Hid (ACells cs a ws) ∧ Hid (Blk wr w.heap.size 90 cs) ∧ Hid (Below w.heap.size w wr))
    (fun _ at' _ => (intOf at').toNat)
  case atStart =>
    exact ⟨20, u, [], List.replicate 20 (.int .u8 0), by omega, hu, rfl, rfl, Lib.hid (DInv.start u least), Lib.hid ⟨rfl, rfl⟩, Lib.hid (Blk.new w _ _), Lib.hid ((Below.refl _ _).alloc (Nat.le_refl _) _)⟩
  case round =>
    obtain ⟨a, x, ws, cs, ha, hx, rfl, rfl, HD, HA, HK, HB⟩ := hrel
    by_cases hgo : 0 < x ∨ 20 - a < least
    · have hap := HD.out.pos hu h2 hgo
      obtain ⟨a1, rfl⟩ : ∃ a1, a = a1 + 1 := ⟨a - 1, by omega⟩
      have hD := HD.out.step hgo
      have hA := HA.out.step ha (UInt8.ofNat (48 + x % 10))
      have hn : ((UInt8.ofNat (48 + x % 10)).toNat : Int) = 48 + (x : Int) % 10 := by rw [UInt8.toNat_ofNat']; omega
      have hcell : wr.cell? ⟨w.heap.size, a1, none⟩ = some (cs.getD a1 undef) := by
        rw [HK.out.cell, List.getElem?_eq_getElem (by rw [HA.out.1]; omega)]
        simp [List.getD, List.getElem?_eq_getElem (show a1 < cs.length by rw [HA.out.1]; omega)]
      have hfr := HK.out.frozen a1
      have hK := HK.out.set_ a1 (byteV (UInt8.ofNat (48 + x % 10)))
      have hB := HB.out.setCell (p := ⟨w.heap.size, a1, none⟩) (Nat.le_refl _) (byteV (UInt8.ofNat (48 + x % 10)))
      unfold byteV at hK hB
      rw [hn] at hK hB
      have HD2 := Lib.hid hD; have HA2 := Lib.hid hA; have HK2 := Lib.hid hK; have HB2 := Lib.hid hB
      unfold byteV at HA2
      rw [hn] at HA2
      clear hD hA hK hB hn HD HA HK HB
      generalize cs.getD a1 undef = old at *
      have e1 : ((a1 + 1 : Nat) : Int) - 1 = (a1 : Int) := by omega
      have r0 : (0 : Int) ≤ (x : Int) % 10 := by omega
      have r1 : (x : Int) % 10 < 10 := by omega
      have i0 : (0 : Int) ≤ (a1 : Int) := by omega
      have i1 : (a1 : Int) < 20 := by omega
      have hq : ((x / 10 : Nat) : Int) = (x : Int) / 10 := by omega
      have HQ := Lib.hid hq
      clear hq
      by_cases hx0 : 0 < x
      · go_wp2
        go_roundw
        case rel => exact ⟨a1, x / 10, _, _, by omega, by omega, by rw [HQ.out], rfl, HD2, HA2, HK2, HB2⟩
        case measure => simp [intOf]
      · have d0 : decide (0 < x) = false := decide_eq_false hx0
        have d1 : 20 - ((a1 + 1 : Nat) : Int) < (least : Int) := by omega
        go_wp2
        go_roundw
        case rel => exact ⟨a1, x / 10, _, _, by omega, by omega, by rw [HQ.out], rfl, HD2, HA2, HK2, HB2⟩
        case measure => simp [intOf]
    · have hx0 : x = 0 := by omega
      have hE := HD.out.end_ hx0 (by omega)
      have hl := HD.out.1
      have ha1 : a ≤ 19 := by omega
      have d0 : decide (0 < x) = false := decide_eq_false (by omega)
      have d1 : ¬ 20 - (a : Int) < (least : Int) := by omega
      have hv := HK.out.vals a (by rw [HA.out.1]; simp [maxLen])
      rw [HA.out.2] at hv
      have hby : Bytes wr (some ⟨w.heap.size, a, none⟩) ws := hv
      have hcv := str_of hby ws.length
      rw [hE, HR.out, ← hE] at hcv
      have i0 : (0 : Int) ≤ (a : Int) := by omega
      have i1 : (a : Int) < 20 := by omega
      rw [show ws.length = 20 - a by omega] at hcv
      have hsl := run_arr w.heap.size a ha1 wr
      clear hx0 hE hv hby hl hgo
      go_wp2
      go_ret
      exact ⟨rfl, HB.out⟩
end Go.Proofs.Ytegipokbbmnahaa
