/- Contracts: what the laws of layer 4 lend, look at and write over. -/
import Derived.Test.YtegipokbbmnahaaWireL
namespace Go.Proofs.Ytegipokbbmnahaa
open Go.RowKit
set_option linter.unusedVariables false

def marks : List UInt8 := [7, 7, 7, 7, 7, 7, 7, 7]
theorem L_marks : L ⟨#[7, 7, 7, 7, 7, 7, 7, 7]⟩ = marks := rfl
/-- bytes with marks behind them -/
def LN (w : World) (A : Option Addr) (cap : Nat) (l : List UInt8) : Prop := Bytes w A (l ++ marks) ∧ l.length + 8 ≤ cap
theorem LN.below {w w' : World} {A : Option Addr} {cap : Nat} {l : List UInt8} (h : LN w A cap l) (hb : Below w.heap.size w w') : LN w' A cap l := ⟨h.1.below hb, h.2⟩
theorem LN.bytes {w : World} {A : Option Addr} {cap : Nat} {l : List UInt8} (h : LN w A cap l) : Bytes w A l := by
  have := Bytes.take_ h.1 l.length
  simpa using this
theorem LN.cap {w : World} {A : Option Addr} {cap : Nat} {l : List UInt8} (h : LN w A cap l) : l.length ≤ cap := by have := h.2; omega
theorem run_to {g off n cap h : Nat} (h2 : h ≤ cap) (w : World) : (Instr.slice 40 (.slice (some ⟨g, off, none⟩) n cap) none (some (.int .i64 (h : Int))) none).run Try.prog w = .ok (.slice (some ⟨g, off, none⟩) h cap) w := by
  obtain ⟨i0, hi0, hz0, hz1, hz2⟩ := info_parts info_u8
  rw [run_slice_h w 40 _ n cap (by rw [elem_b]; exact Try.underlying40) .i64 (h : Int) (by omega) (by omega), elem_b]
  have e : (⟨g, off, none⟩ : Addr).add 0 = ⟨g, off, none⟩ := by rw [add_one, Nat.add_zero]
  simp [sizeOf, typeInfo, hi0, hz1, sliced, e]

set_option maxHeartbeats 1000000 in
theorem lent_any (A : Option Addr) (cap : Nat) (l : List UInt8) (w : World) (hA : Bytes w A l) (hl : l.length ≤ 1000000) :
    Calls Try.prog 33 #[.slice A l.length cap] w fun e w' => (∃ g off cap', e = .returned (.slice (some ⟨g, off, none⟩) l.length cap') ∧ LN w' (some ⟨g, off, none⟩) cap' l) ∧ Below w.heap.size w w' := by
  have HA := Lib.hid hA
  clear hA
  go_enter Try.func33, Try.ntmps33
  go_wp2_with (at_builtin; refine wpList_catB _ w.heap.size [] l _ _ rfl rfl _ _ _ _ rfl rfl rfl ?c0 ?c1 ?c2 ?c3 ?_)
  case c0 => exact World.ownsRow_lit w #[] 0 (Nat.le_refl _) (Nat.zero_le _) rfl
  case c1 => exact HA.out.below ((Below.refl _ _).alloc (Nat.le_refl _) _)
  case c2 => simp; omega
  case c3 => simp
  intro v0 w0 o0 b0 _
  have HO0 := Lib.hid o0
  have HB0 : Hid (Below w.heap.size w w0) := Lib.hid (((Below.refl _ _).alloc (Nat.le_refl _) _).trans b0)
  clear o0 b0
  go_wp2_with (at_builtin; refine wpList_catS _ w.heap.size _ ⟨#[7, 7, 7, 7, 7, 7, 7, 7]⟩ _ _ rfl rfl _ rfl rfl HO0.out ?c1 ?c2 ?_)
  case c1 => rw [show (ByteArray.mk #[7, 7, 7, 7, 7, 7, 7, 7]).size = 8 from rfl]; simp; omega
  case c2 => exact HB0.out.size
  intro v1 w1 o1 b1 _
  rw [L_marks] at o1
  have o1 : OB w1 w.heap.size v1 (l ++ marks) := by simpa using o1
  have HB1 := Lib.hid (HB0.out.trans b1)
  have hby := o1.bytes
  rcases OwnV.form o1 with ⟨_, h0⟩ | ⟨g, cp, rfl, _, _, hcp⟩
  · simp [marks] at h0
  · obtain ⟨A1, c1, e1, hb1⟩ := hby
    injection e1 with e1 e2 e3
    subst e1 e3
    rw [List.length_map] at hcp
    have hml : (l ++ marks).length = l.length + 8 := by rw [List.length_append]; rfl
    rw [hml] at hcp
    have HLN : Hid (LN w1 (some ⟨g, 0, none⟩) cp l) := Lib.hid ⟨hb1, hcp⟩
    have hsl := run_to (g := g) (off := 0) (n := (l ++ marks).length) (h := l.length) (cap := cp) (by omega) w1
    have hll : (List.map byteV (l ++ marks)).length = (l ++ marks).length := List.length_map _
    rw [hll]
    clear hb1 o1 b1 HO0 HB0 e2 hll hml
    go_wp2
    go_ret
    exact ⟨⟨_, _, _, rfl, HLN.out⟩, HB1.out⟩

set_option maxHeartbeats 1000000 in
theorem kept_any (g off : Nat) (A2 : Option Addr) (cap cap2 : Nat) (l : List UInt8) (w : World) (hA : LN w (some ⟨g, off, none⟩) cap l) (hA2 : Bytes w A2 l) (hl : l.length ≤ 1000000) :
    Calls Try.prog 39 #[.slice (some ⟨g, off, none⟩) l.length cap, .slice A2 l.length cap2] w fun e w' => e = .returned (.bool true) ∧ ∃ k, w' = w.drewN k := by
  have hsl := fun (k : Nat) => run_to (g := g) (off := off) (n := l.length) (h := l.length + 8) (cap := cap) hA.2 (w.drewN k)
  have e8 : ((l.length + 8 : Nat) : Int) = (l.length : Int) + 8 := by omega
  rw [e8] at hsl
  have hcv1 : ∀ k : Nat, (convert 40 9 (.slice (some ⟨g, off, none⟩) (l.length + 8) cap)).run Try.prog (w.drewN k) = .ok (.string (S (l ++ marks))) (w.drewN k) := fun k => by
    have := str_of (hA.1.drewN k) cap
    rw [show (l ++ marks).length = l.length + 8 by rw [List.length_append]; rfl] at this
    exact this
  have hcv2 : ∀ k : Nat, (convert 40 9 (.slice A2 l.length cap2)).run Try.prog (w.drewN k) = .ok (.string (S l)) (w.drewN k) := fun k => str_of (hA2.drewN k) cap2
  have hadd := fun (ww : World) => run_string_add_sum (P := Try.prog) ww (S l) ⟨#[7, 7, 7, 7, 7, 7, 7, 7]⟩ (by rw [S_size, show (ByteArray.mk #[7, 7, 7, 7, 7, 7, 7, 7]).size = 8 from rfl]; omega)
  have hee : S l ++ ByteArray.mk #[7, 7, 7, 7, 7, 7, 7, 7] = S (l ++ marks) := L_inj (by rw [L_append, L_S, L_S, L_marks])
  rw [hee] at hadd
  have hsz : (S l).size ≤ 1000000 := by rw [S_size]; exact hl
  have hc8 : l.length + 8 ≤ cap := hA.2
  generalize S (l ++ marks) = sm at *
  generalize S l = sl at *
  have i1 : (0 : Int) ≤ (l.length : Int) + 8 := by omega
  have i2 : (l.length : Int) + 8 ≤ (cap : Int) := by omega
  have wr8 : IntKind.i64.wrap ((l.length : Int) + 8) = (l.length : Int) + 8 := by rw [IntKind.wrap_i64]; omega
  have et : ((l.length : Int) + 8).toNat = l.length + 8 := by omega
  clear hA hA2 e8
  go_enter Try.func39, Try.ntmps39
  go_wp2
  go_quiet (fail)
  go_wp2
  go_ret
  exact ⟨rfl, _, rfl⟩
end Go.Proofs.Ytegipokbbmnahaa
