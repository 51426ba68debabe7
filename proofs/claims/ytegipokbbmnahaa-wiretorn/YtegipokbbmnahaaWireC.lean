/- Contract: joined; bytes out of strings. -/
import Derived.Test.YtegipokbbmnahaaWireB
import Derived.Test.YtegipokbbmnahaaCatMath
namespace Go.Proofs.Ytegipokbbmnahaa
open Go.RowKit
set_option linter.unusedVariables false

/-- a slice of bytes among others -/
structure Pc where
  A : Option Addr
  l : List UInt8
  c : Nat
def Pc.val (p : Pc) : Value := .slice p.A p.l.length p.c
def Pcs (w : World) (A : Option Addr) (ps : List Pc) : Prop := Vals w A (ps.map Pc.val) ∧ ∀ p ∈ ps, Bytes w p.A p.l
def flatP (ps : List Pc) : List UInt8 := (ps.map Pc.l).flatten
def lenP (ps : List Pc) : Nat := (flatP ps).length
section
variable {w w' : World} {A : Option Addr} {ps : List Pc}
theorem Pcs.get (h : Pcs w A ps) {k : Nat} (hk : k < ps.length) : ∃ b off, A = some ⟨b, off, none⟩ ∧ b < w.heap.size ∧ w.cell? ⟨b, off + k, none⟩ = some (.slice ps[k].A ps[k].l.length ps[k].c) ∧ Bytes w ps[k].A ps[k].l := by
  obtain ⟨b, off, rfl, hb, hc⟩ := Vals.get h.1 (k := k) (by rw [List.length_map]; exact hk)
  exact ⟨b, off, rfl, hb, by rw [hc, List.getElem_map]; rfl, h.2 _ (List.getElem_mem hk)⟩
theorem Pcs.len (h : Pcs w A ps) : ps.length ≤ 9223372036854775807 := by have := h.1.1; rw [List.length_map] at this; exact this
theorem Pcs.below (h : Pcs w A ps) (hb : Below w.heap.size w w') : Pcs w' A ps := ⟨h.1.below hb, fun p hp => (h.2 p hp).below hb⟩
theorem flat_step (ps : List Pc) (k : Nat) (hk : k < ps.length) : flatP (ps.take (k + 1)) = flatP (ps.take k) ++ ps[k].l := by
  unfold flatP
  rw [List.take_succ_eq_append_getElem hk, List.map_append, List.flatten_append]
  simp
theorem flat_le (ps : List Pc) (k : Nat) : (flatP (ps.take k)).length ≤ lenP ps := by
  unfold lenP flatP
  conv => rhs; rw [← List.take_append_drop k ps, List.map_append, List.flatten_append, List.length_append]
  omega
theorem Pcs.made (w : World) (ps : List Pc) (h : ∀ p ∈ ps, Bytes w p.A p.l) (hl : ps.length ≤ maxLen) : Pcs (w.alloc (.cells (ps.map Pc.val).toArray 40)) (some ⟨w.heap.size, 0, none⟩) ps := by
  refine ⟨⟨by rw [List.length_map]; exact hl, .inr ⟨w.heap.size, 0, rfl, by simp, fun i hi => ?_⟩⟩, fun p hp => (h p hp).below ((Below.refl _ _).alloc (Nat.le_refl _) _)⟩
  rw [Nat.zero_add, World.cell?_alloc_mark]
  simp
end

set_option maxHeartbeats 2000000 in
theorem joined_any (A : Option Addr) (n cap : Nat) (ps : List Pc) (w : World) (hn : n = ps.length) (hI : Pcs w A ps) (hl : lenP ps ≤ 140737488355328) :
    Calls Try.prog 66 #[.slice A n cap] w fun e w' => (∃ v, e = .returned v ∧ OB w' w.heap.size v (flatP ps)) ∧ Below w.heap.size w w' := by
  subst hn
  obtain ⟨i0, hi, hz0, hz1, hz2⟩ := info_parts info_u8
  have HI0 := Lib.hid hi; have HZ0 := Lib.hid hz0; have HZ1 := Lib.hid hz1; have HZ2 := Lib.hid hz2
  clear hi hz0 hz1 hz2
  generalize hr : flatP ps = res
  have HR := Lib.hid hr
  clear hr
  have hlen := hI.len
  go_enter Try.func66, Try.ntmps66
  go_wp2
  go_loop [3, 10] (fun n i => ∃ k x : Nat, k ≤ ps.length ∧ i = .int .i64 k ∧ n = .int .i64 (x : Int) ∧ x ≤ 140737488355328 ∧ Hid ((flatP (ps.take k)).length = x)) (fun _ i => ps.length - (intOf i).toNat)
  case atStart => exact ⟨0, 0, by omega, rfl, rfl, by omega, Lib.hid rfl⟩
  case round =>
    obtain ⟨k, x, hk, rfl, rfl, hx, HX⟩ := hrel
    by_cases hlt : k < ps.length
    · obtain ⟨g, off, rfl, hg, hcell, hby⟩ := hI.get hlt
      have HI := Lib.hid hI
      have hst := flat_step ps k hlt
      have hle := flat_le ps (k + 1)
      rw [hst, List.length_append, HX.out] at hle
      have HST : Hid ((flatP (ps.take (k + 1))).length = x + ps[k].l.length) := Lib.hid (by rw [hst, List.length_append, HX.out])
      generalize ps[k] = p at *
      have bnd : x + p.l.length ≤ 140737488355328 := by omega
      clear hI hst hle hby
      go_wp2
      go_round
      case rel => exact ⟨k + 1, x + p.l.length, by omega, by go_num, by go_num, bnd, HST⟩
      case measure => simp [intOf]; omega
    · obtain rfl : k = ps.length := by omega
      clear HX
      go_wp2_with (refine wpList_make_own _ rfl _ _ _ rfl w.heap.size 5 i0 _ 1 Try.underlying40 HI0.out HZ0.out HZ1.out .i64 .i64 (x : Int) x rfl rfl rfl ?c1 ?c2 (Nat.le_refl _) ?_)
      case c1 => rw [HZ2.out]; omega
      case c2 => unfold maxLen; omega
      intro w1 own1 g1
      have ob1 : OB w1 w.heap.size (.slice (some ⟨w.heap.size, 0, none⟩) 0 x) [] := own1
      have b1 : Below w.heap.size w w1 := (Below.refl _ _).grown g1 (Nat.le_refl _) (fun _ h => by cases h)
      clear own1 g1
      have HOB := Lib.hid ob1
      have HB1 := Lib.hid b1
      clear ob1 b1
      go_wp2
      go_loopw [2, 23] (fun v i wr => ∃ k : Nat, k ≤ ps.length ∧ i = .int .i64 k ∧ Hid (OB wr w.heap.size v (flatP (ps.take k))) ∧ Hid (Below w.heap.size w wr)) (fun _ i _ => ps.length - (intOf i).toNat)
      case atStart => exact ⟨0, by omega, rfl, HOB, HB1⟩
      case round =>
        clear HOB HB1
        obtain ⟨k, hk2, rfl, HOB, HB⟩ := hrel
        by_cases hlt : k < ps.length
        · obtain ⟨g, off, rfl, hg, hcell, hby⟩ := (hI.below HB.out).get hlt
          have HI := Lib.hid hI
          have hst := flat_step ps k hlt
          have hle := flat_le ps (k + 1)
          rw [hst, List.length_append] at hle
          generalize ps[k] = p at *
          have HST := Lib.hid hst
          have HBY := Lib.hid hby
          have HLE := Lib.hid hle
          clear hI hst hle hby
          go_wp2_with (at_builtin; refine wpList_catB _ w.heap.size _ p.l _ _ rfl rfl _ _ _ _ rfl rfl rfl HOB.out HBY.out ?c1 ?c2 ?_)
          case c1 => have := HLE.out; omega
          case c2 => exact HB.out.size
          intro v1 w1 o1 b1 _
          rw [← HST.out] at o1
          have HO1 := Lib.hid o1
          have HB1 := Lib.hid (HB.out.trans b1)
          clear o1 b1 hcell
          go_wp2
          go_roundw
          case rel => exact ⟨k + 1, by omega, by go_num, HO1, HB1⟩
          case measure => simp [intOf]; omega
        · obtain rfl : k = ps.length := by omega
          have ho := HOB.out
          rw [List.take_of_length_le (Nat.le_refl _), HR.out] at ho
          have HO2 := Lib.hid ho
          clear ho HOB
          go_wp2
          go_ret
          exact ⟨⟨_, rfl, HO2.out⟩, HB.out⟩

/-- '[]byte(s)' -/
theorem bytes_of (w : World) (s : ByteArray) (hs : s.size ≤ 9223372036854775807) : ∃ (cap : Nat) (w1 : World), (convert 9 40 (.string s)).run Try.prog w = .ok (.slice (some ⟨w.heap.size, 0, none⟩) s.size cap) w1 ∧ Bytes w1 (some ⟨w.heap.size, 0, none⟩) (L s) ∧ Below w.heap.size w w1 ∧ s.size ≤ cap := by
  refine ⟨_, _, run_bytes_of_string w 9 40 5 s Try.underlying9 Try.underlying40 Try.underlying5, ?_, ?_, ?_⟩
  · refine ⟨by rw [List.length_map, L_len]; exact hs, .inr ⟨w.heap.size, 0, rfl, by simp, fun i hi => ?_⟩⟩
    rw [List.length_map, L_len] at hi
    rw [Nat.zero_add]
    have e := World.cell?_alloc_mark w.drew (bytesRow s (grownCap w s.size 0 5)) 5 ((bytesRow s (grownCap w s.size 0 5)).size, (bytesRow s (grownCap w s.size 0 5)).size + 1) i
    have e2 : w.drew.heap.size = w.heap.size := rfl
    rw [e2] at e
    rw [e, bytesRow_at s _ i hi, List.getElem?_map, List.getElem?_eq_getElem (by rw [L_len]; exact hi)]
    rfl
  · exact (Below.refl _ _).drew.alloc (Nat.le_refl _) _
  · exact grownCap_ge w s.size 0 5
end Go.Proofs.Ytegipokbbmnahaa
