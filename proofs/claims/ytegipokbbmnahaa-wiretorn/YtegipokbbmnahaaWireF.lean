/- Contracts: numbers and texts at a place, the program's. -/
import Derived.Test.YtegipokbbmnahaaWireE
namespace Go.Proofs.Ytegipokbbmnahaa
open Go.RowKit
set_option linter.unusedVariables false

theorem elem_b : Try.prog.elem 40 = 5 := by kernel_rfl
theorem add_one (b off k : Nat) : (⟨b, off, none⟩ : Addr).add k = ⟨b, off + k, none⟩ := by
  unfold Addr.add
  by_cases h0 : k = 0
  · subst h0; simp
  · simp [h0]
/-- where a part of a slice lies -/
def cutA (A : Option Addr) (cap lo : Nat) : Option Addr := if cap = lo then A else A.map (·.add lo)
theorem Bytes.cut {w : World} {A : Option Addr} {l : List UInt8} (h : Bytes w A l) {cap lo hi : Nat} (h1 : lo ≤ hi) (h2 : hi ≤ l.length) (h3 : l.length ≤ cap) : Bytes w (cutA A cap lo) ((l.take hi).drop lo) := by
  by_cases hz : lo = hi
  · have : (l.take hi).drop lo = [] := by rw [List.drop_eq_nil_iff, List.length_take]; omega
    rw [this]; exact Bytes.nil _ _
  · unfold cutA
    rw [if_neg (by omega)]
    cases A with
    | none =>
      rcases h.2 with h0 | ⟨b, off, e, _⟩
      · have : l = [] := by simpa using h0
        subst this
        simp at h2; omega
      · cases e
    | some ad =>
      rcases h.2 with h0 | ⟨b, off, e, hb, hc⟩
      · have : l = [] := by simpa using h0
        subst this
        simp at h2; omega
      · injection e with e
        subst e
        show Bytes w (some ((⟨b, off, none⟩ : Addr).add lo)) _
        rw [add_one]
        exact Bytes.drop_ (Bytes.take_ h hi) lo
theorem run_from {A : Option Addr} {n cap lo : Nat} (h : lo ≤ n) (w : World) : (Instr.slice 40 (.slice A n cap) (some (.int .i64 (lo : Int))) none none).run Try.prog w = .ok (.slice (cutA A cap lo) (n - lo) (cap - lo)) w := by
  obtain ⟨i0, hi, hz0, hz1, hz2⟩ := info_parts info_u8
  have h0 : (0 : Int) ≤ (lo : Int) ∧ (lo : Int) ≤ (n : Int) := by omega
  simp [Instr.slice, Instr.sliceBounds, Instr.sliceBound, asIntOf, run_underlying Try.underlying40, sizeOf, typeInfo, hi, hz1, h0, cutA]
  intro hc; omega
theorem run_part {A : Option Addr} {n cap lo hi : Nat} (h : lo ≤ hi) (h2 : hi ≤ cap) (w : World) : (Instr.slice 40 (.slice A n cap) (some (.int .i64 (lo : Int))) (some (.int .i64 (hi : Int))) none).run Try.prog w = .ok (.slice (cutA A cap lo) (hi - lo) (cap - lo)) w := by
  obtain ⟨i0, hi0, hz0, hz1, hz2⟩ := info_parts info_u8
  rw [run_slice_lh w 40 A n cap (by rw [elem_b]; exact Try.underlying40) .i64 .i64 (lo : Int) (hi : Int) (by omega) (by omega) (by omega), elem_b]
  simp [sizeOf, typeInfo, hi0, hz1, sliced, cutA]

theorem ret3_int {k : IntKind} {x y a b c d : Int} (h : x = y) (h2 : a = b) (h3 : c = d) : Ending.returned (.tuple #[.int k x, .int k a, .int k c]) = .returned (.tuple #[.int k y, .int k b, .int k d]) := by rw [h, h2, h3]

/-- the place at, as a number -/
def atE (n : Nat) (at' : Int) : Bool := decide (0 ≤ at') && decide (at' ≤ n)

set_option maxHeartbeats 1000000 in
theorem wint_any (A : Option Addr) (n cap : Nat) (l : List UInt8) (p : Nat) (w : World) (hn : n = l.length) (hc : l.length ≤ cap) (hA : Bytes w A l) (hl : l.length ≤ 1000000) (hp : p ≤ l.length) :
    Calls Try.prog 35 #[.slice A n cap, .int .i64 (p : Int)] w fun e w' => e = .returned (.tuple #[.int .i64 (XM.intN (l.drop p)), .int .i64 (if XM.intE (l.drop p) = 0 then (p : Int) + XM.intK (l.drop p) else 0), .int .i64 (XM.intE (l.drop p))]) ∧ w = w' := by
  subst hn
  have hb := hA.cut hp (Nat.le_refl _) hc
  rw [List.take_of_length_le (Nat.le_refl _)] at hb
  have CD := decode_any (cutA A cap p) (l.length - p) (cap - p) (l.drop p) w (by rw [List.length_drop]) hb (by rw [List.length_drop]; omega)
  have hsl := run_from (A := A) (cap := cap) hp w
  have hno : XM.intE (l.drop p) ≠ 0 → XM.intN (l.drop p) = 0 := fun h => (XM.intK_err h).1
  have hK : XM.intK (l.drop p) ≤ 1000000 := by
    by_cases h : XM.intE (l.drop p) = 0
    · have := (XM.int_only h).2.2.1
      rw [List.length_drop] at this; omega
    · rw [(XM.intK_err h).2]; omega
  generalize XM.intN (l.drop p) = iN at *
  generalize XM.intE (l.drop p) = iE at *
  generalize XM.intK (l.drop p) = iK at *
  generalize cutA A cap p = A' at *
  have HCD := Lib.hid CD; have HNO := Lib.hid hno
  clear CD hno hb hA
  have d1 : ¬ (p : Int) < 0 := by omega
  by_cases h0 : iE = 0
  · subst h0
    rw [if_pos rfl]
    go_enter Try.func35, Try.ntmps35
    go_wp2_with fail
    (with_reducible refine HCD.out.mono ?_)
    rintro e w' ⟨rfl, rfl⟩
    go_wp2
    go_ret3
    exact ⟨rfl, rfl⟩
  · rw [if_neg h0]
    have HZ := Lib.hid (HNO.out h0)
    have d0 : (iE != 0) = true := by simpa using h0
    clear h0
    go_enter Try.func35, Try.ntmps35
    go_wp2_with fail
    (with_reducible refine HCD.out.mono ?_)
    rintro e w' ⟨rfl, rfl⟩
    go_wp2
    go_ret3
    exact ⟨by rw [HZ.out]; rfl, rfl⟩

theorem wint_out (A : Option Addr) (n cap : Nat) (p : Int) (w : World) (hp : p < 0 ∨ (n : Int) < p) :
    Calls Try.prog 35 #[.slice A n cap, .int .i64 p] w fun e w' => e = .returned (.tuple #[.int .i64 0, .int .i64 0, .int .i64 2]) ∧ w = w' := by
  by_cases h : p < 0
  · go_enter Try.func35, Try.ntmps35
    go_wp2
    go_ret3
    exact ⟨rfl, rfl⟩
  · have h2 : (n : Int) < p := by omega
    have h3 : decide (p < 0) = false := decide_eq_false h
    go_enter Try.func35, Try.ntmps35
    go_wp2
    go_ret3
    exact ⟨rfl, rfl⟩
end Go.Proofs.Ytegipokbbmnahaa
