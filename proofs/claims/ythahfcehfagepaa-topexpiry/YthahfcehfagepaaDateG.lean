/- Contracts: Parse, the program's and the reference's. -/
import Derived.Test.YthahfcehfagepaaDateF
namespace Go.Proofs.Ythahfcehfagepaa
open Go.RowKit
set_option linter.unusedVariables false

/-- a contract that leaves the world alone, inside a region that draws -/
theorem quietly {P : Program} {f : FuncId} {args : Array Value} {w : World} {n : Nat} {v : Value}
    (h : Calls P f args (w.drewN n) fun e w' => e = .returned v ∧ w.drewN n = w') : Calls P f args (w.drewN n) fun e w'' => e = .returned v ∧ ∃ m, w'' = w.drewN m :=
  h.mono fun _ _ ⟨he, hm⟩ => ⟨he, n, hm.symm⟩

def dAll (l : List UInt8) : Bool := l.all (fun c => decide (DM.isD c))

/-- the three runs of a text of ten bytes -/
theorem parts_ten (s : ByteArray) (hl : s.size = 10) : (L (s.extract 0 4) = (L s).take 4 ∧ L (s.extract 5 7) = ((L s).drop 5).take 2 ∧ L (s.extract 8 10) = (L s).drop 8) ∧
    ((s.extract 0 4).size ≤ 4 ∧ (s.extract 5 7).size ≤ 4 ∧ (s.extract 8 10).size ≤ 4) := by
  have hL := L_len s
  refine ⟨⟨?_, ?_, ?_⟩, ?_, ?_, ?_⟩
  · rw [L_extract]; rfl
  · rw [L_extract, List.drop_take]
  · rw [L_extract, List.take_of_length_le (by omega)]
  · rw [ByteArray.size_extract]; omega
  · rw [ByteArray.size_extract]; omega
  · rw [ByteArray.size_extract]; omega
theorem form_parts {l : List UInt8} (h : DM.form l) : dAll (l.take 4) = true ∧ dAll ((l.drop 5).take 2) = true ∧ dAll (l.drop 8) = true := by
  obtain ⟨a, b, c, d, e, f, g, h, rfl, ha, hb, hc, hd, he, hf, hg, hh⟩ := h
  simp [dAll, ha, hb, hc, hd, he, hf, hg, hh]
theorem form_len {l : List UInt8} (h : DM.form l) : l.length = 10 := by
  obtain ⟨a, b, c, d, e, f, g, h, rfl, _⟩ := h
  rfl

set_option maxHeartbeats 1000000 in
theorem parse_any (s : ByteArray) (w : World) (hs : s.size ≤ 9223372036854775807) :
    Calls Try.prog 28 #[.string s] w fun e w' => e = .returned (.tuple #[.int .i64 (DM.parN (L s)), .int .i64 (DM.parE (L s))]) ∧ ∃ n, w' = w.drewN n := by
  have CF := formed_any s w hs
  generalize hn : DM.parN (L s) = rn
  generalize he : DM.parE (L s) = re
  unfold DM.parN at hn
  unfold DM.parE at he
  cases hf : DM.formB (L s)
  · rw [hf] at hn he CF
    simp only [Bool.false_eq_true, if_false] at hn he
    subst hn he
    have HCF := Lib.hid CF
    clear CF hf
    go_enter Try.func28, Try.ntmps28
    go_wp2_with fail
    refine HCF.out.mono ?_
    rintro e w1 ⟨rfl, n1, rfl⟩
    go_wp2
    go_ret2
    exact ⟨rfl, _, rfl⟩
  · rw [hf] at hn he CF
    simp only [if_true] at hn he
    have hfo := DM.formB_true.1 hf
    have hsz : s.size = 10 := by rw [← L_len]; exact form_len hfo
    obtain ⟨⟨p1, p2, p3⟩, q1, q2, q3⟩ := parts_ten s hsz
    obtain ⟨f1, f2, f3⟩ := form_parts hfo
    have HF : Hid (∀ t : ByteArray, (t = s.extract 0 4 ∨ t = s.extract 5 7 ∨ t = s.extract 8 10) → t.size ≤ 4 ∧ (L t).all (fun c => decide (DM.isD c)) = true) := Lib.hid (by
      rintro t (rfl | rfl | rfl)
      · exact ⟨q1, by rw [p1]; exact f1⟩
      · exact ⟨q2, by rw [p2]; exact f2⟩
      · exact ⟨q3, by rw [p3]; exact f3⟩)
    unfold DM.yearOf DM.monthOf DM.dayIn at hn he
    rw [← p1, ← p2, ← p3] at hn he
    have HN := Lib.hid hn; have HE := Lib.hid he
    have HCF := Lib.hid CF
    have h10 : (10 : Int) ≤ (s.size : Int) := by omega
    have h4 : (4 : Int) ≤ (s.size : Int) := by omega
    have h7 : (7 : Int) ≤ (s.size : Int) := by omega
    clear CF hf hn he hfo hsz p1 p2 p3 q1 q2 q3 f1 f2 f3
    go_enter Try.func28, Try.ntmps28
    go_wp2_with fail
    refine HCF.out.mono ?_
    rintro e w1 ⟨rfl, n1, hw1⟩
    have HW1 := Lib.hid hw1
    clear hw1
    go_wp2
    go_quiet (first
      | (go_at_call 57; exact quietly (number5_any _ _ (HF.out _ (by simp)).1 (HF.out _ (by simp)).2))
      | (go_at_call 15; exact quietly (of_any _ _ _ _)))
    go_wp2
    go_ret2
    exact ⟨by rw [← HN.out, ← HE.out]; rfl, _, by rw [HW1.out]; exact World.drewN_drewN _ _ _⟩
end Go.Proofs.Ythahfcehfagepaa
