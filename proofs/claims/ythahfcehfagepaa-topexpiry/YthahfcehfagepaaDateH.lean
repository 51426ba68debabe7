/- Contract: Parse, the reference's. -/
import Derived.Test.YthahfcehfagepaaDateG
namespace Go.Proofs.Ythahfcehfagepaa
open Go.RowKit
set_option linter.unusedVariables false

theorem isD_or (c : UInt8) : DM.isD c ∨ ¬ DM.isD c := Decidable.em _
theorem ref_form (l : List UInt8) (hl : l.length = 10) (h4 : l.getD 4 0 = 45) (h7 : l.getD 7 0 = 45) :
    (DM.formB l = true ∧ 0 ≤ DM.yearOf l ∧ 0 ≤ DM.monthOf l ∧ 0 ≤ DM.dayIn l) ∨ (DM.formB l = false ∧ (DM.yearOf l < 0 ∨ (0 ≤ DM.yearOf l ∧ DM.monthOf l < 0) ∨ (0 ≤ DM.yearOf l ∧ 0 ≤ DM.monthOf l ∧ DM.dayIn l < 0))) := by
  obtain ⟨a, b, c, d, e, f, g, h, i, j, rfl⟩ := DM.ten l hl
  simp at h4 h7
  subst h4 h7
  have e1 : DM.yearOf [a, b, c, d, 45, f, g, 45, i, j] = DM.dgo 0 [a, b, c, d] := rfl
  have e2 : DM.monthOf [a, b, c, d, 45, f, g, 45, i, j] = DM.dgo 0 [f, g] := rfl
  have e3 : DM.dayIn [a, b, c, d, 45, f, g, 45, i, j] = DM.dgo 0 [i, j] := rfl
  rw [e1, e2, e3, DM.dgo_four, DM.dgo_two, DM.dgo_two]
  have hF : DM.formB [a, b, c, d, 45, f, g, 45, i, j] = true ↔ (DM.isD a ∧ DM.isD b ∧ DM.isD c ∧ DM.isD d) ∧ (DM.isD f ∧ DM.isD g) ∧ (DM.isD i ∧ DM.isD j) := by
    rw [DM.formB_true]
    constructor
    · rintro ⟨a', b', c', d', f', g', i', j', he, x1, x2, x3, x4, x5, x6, x7, x8⟩
      simp at he
      obtain ⟨rfl, rfl, rfl, rfl, rfl, rfl, rfl, rfl⟩ := he
      exact ⟨⟨x1, x2, x3, x4⟩, ⟨x5, x6⟩, x7, x8⟩
    · rintro ⟨⟨x1, x2, x3, x4⟩, ⟨x5, x6⟩, x7, x8⟩
      exact ⟨a, b, c, d, f, g, i, j, rfl, x1, x2, x3, x4, x5, x6, x7, x8⟩
  have hFn : ¬ ((DM.isD a ∧ DM.isD b ∧ DM.isD c ∧ DM.isD d) ∧ (DM.isD f ∧ DM.isD g) ∧ (DM.isD i ∧ DM.isD j)) → DM.formB [a, b, c, d, 45, f, g, 45, i, j] = false := by
    intro h
    cases e : DM.formB [a, b, c, d, 45, f, g, 45, i, j] with
    | false => rfl
    | true => exact absurd (hF.1 e) h
  by_cases c1 : DM.isD a ∧ DM.isD b ∧ DM.isD c ∧ DM.isD d
  · have r1 := DM.dv_range c1.1; have r2 := DM.dv_range c1.2.1; have r3 := DM.dv_range c1.2.2.1; have r4 := DM.dv_range c1.2.2.2
    by_cases c2 : DM.isD f ∧ DM.isD g
    · have r5 := DM.dv_range c2.1; have r6 := DM.dv_range c2.2
      by_cases c3 : DM.isD i ∧ DM.isD j
      · have r7 := DM.dv_range c3.1; have r8 := DM.dv_range c3.2
        rw [if_pos c1, if_pos c2, if_pos c3]
        exact .inl ⟨hF.2 ⟨c1, c2, c3⟩, by omega, by omega, by omega⟩
      · rw [if_pos c1, if_pos c2, if_neg c3]
        exact .inr ⟨hFn (fun h => c3 h.2.2), .inr (.inr ⟨by omega, by omega, by omega⟩)⟩
    · rw [if_pos c1, if_neg c2]
      exact .inr ⟨hFn (fun h => c2 h.2.1), .inr (.inl ⟨by omega, by omega⟩)⟩
  · rw [if_neg c1]
    exact .inr ⟨hFn (fun h => c1 h.1), .inl (by omega)⟩

theorem ne45 {c : UInt8} (h : ((c.toNat : Int) == 45) = false) : c ≠ 45 := by
  rintro rfl
  simp at h
theorem eq45 {c : UInt8} (h : ((c.toNat : Int) == 45) = true) : c = 45 := by
  rw [← UInt8.toNat_inj]
  have : (45 : UInt8).toNat = 45 := rfl
  simp only [beq_iff_eq] at h
  omega
theorem bne_of {a b : Int} {v : Bool} (h : (a == b) = v) : (a != b) = !v := by simp [bne, h]

theorem parNo {l : List UInt8} (h : DM.formB l = false) : DM.parN l = 0 ∧ DM.parE l = 5 := by
  unfold DM.parN DM.parE; rw [h]; exact ⟨rfl, rfl⟩
theorem parYes {l : List UInt8} (h : DM.formB l = true) : DM.parN l = DM.ofN (DM.yearOf l) (DM.monthOf l) (DM.dayIn l) ∧ DM.parE l = DM.ofE (DM.yearOf l) (DM.monthOf l) (DM.dayIn l) := by
  unfold DM.parN DM.parE; rw [h]; exact ⟨rfl, rfl⟩

set_option maxHeartbeats 2000000 in
theorem rparse_any (s : ByteArray) (w : World) (hs : s.size ≤ 9223372036854775807) :
    Calls Try.prog 29 #[.string s] w fun e w' => e = .returned (.tuple #[.int .i64 (DM.parN (L s)), .int .i64 (DM.parE (L s))]) ∧ ∃ n, w' = w.drewN n := by
  by_cases hl : s.size = 10
  · have hl2 : ((s.size : Int) != 10) = false := by simp; omega
    have k4 : 4 < s.size := by omega
    have k7 : 7 < s.size := by omega
    cases hb4 : ((s[4].toNat : Int) == 45)
    · have HF := parNo (DM.formB_no (s := L s) (k := 4) (by omega) (by rw [getD_at_ s 4 k4, okAt_m (.inl rfl), hb4]))
      rw [HF.1, HF.2]
      have hn := bne_of hb4
      clear HF hb4 hl
      go_enter Try.func29, Try.ntmps29
      go_wp2
      go_ret2
      exact ⟨rfl, 0, rfl⟩
    · cases hb7 : ((s[7].toNat : Int) == 45)
      · have HF := parNo (DM.formB_no (s := L s) (k := 7) (by omega) (by rw [getD_at_ s 7 k7, okAt_m (.inr rfl), hb7]))
        rw [HF.1, HF.2]
        have hn4 := bne_of hb4
        have hn := bne_of hb7
        clear HF hb4 hb7 hl
        go_enter Try.func29, Try.ntmps29
        go_wp2
        go_ret2
        exact ⟨rfl, 0, rfl⟩
      · have hR := ref_form (L s) (by rw [L_len]; exact hl) (by rw [getD_at_ s 4 k4]; exact eq45 hb4) (by rw [getD_at_ s 7 k7]; exact eq45 hb7)
        have hpt := parts_ten s hl
        obtain ⟨⟨p1, p2, p3⟩, q1, q2, q3⟩ := hpt
        have hq : s.extract 8 s.size = s.extract 8 10 := by rw [hl]
        rw [← hq] at p3 q3
        have hn4 := bne_of hb4
        have hn7 := bne_of hb7
        have HSZ : Hid (∀ t : ByteArray, (t = s.extract 0 4 ∨ t = s.extract 5 7 ∨ t = s.extract 8 s.size) → t.size ≤ 4) := Lib.hid (by
          rintro t (rfl | rfl | rfl)
          · exact q1
          · exact q2
          · exact q3)
        have h10 : (10 : Int) ≤ (s.size : Int) := by omega
        have h4 : (4 : Int) ≤ (s.size : Int) := by omega
        have h7 : (7 : Int) ≤ (s.size : Int) := by omega
        have h8 : (8 : Int) ≤ (s.size : Int) := by omega
        have hYES := @parYes (L s)
        unfold DM.yearOf DM.monthOf DM.dayIn at hR hYES
        rw [← p1, ← p2, ← p3] at hR hYES
        have HYES := Lib.hid hYES
        clear hb4 hb7 hl hq p1 p2 p3 q1 q2 q3 hYES
        rcases hR with ⟨hf, y0, m0, d0⟩ | ⟨hf, hR⟩
        · rw [(HYES.out hf).1, (HYES.out hf).2]
          clear hf HYES
          go_enter Try.func29, Try.ntmps29
          go_wp2
          go_quiet ((go_at_call 58; exact quietly (digits5_any _ _ (HSZ.out _ (by simp)))))
          go_wp2_with fail
          refine (rof_any _ _ _ _).mono ?_
          rintro e w1 ⟨rfl, rfl⟩
          go_wp2
          go_ret2
          exact ⟨rfl, _, rfl⟩
        · rw [(parNo hf).1, (parNo hf).2]
          clear hf HYES
          rcases hR with y0 | ⟨y0, m0⟩ | ⟨y0, m0, d0⟩
          all_goals
            go_enter Try.func29, Try.ntmps29
            go_wp2
            go_quiet ((go_at_call 58; exact quietly (digits5_any _ _ (HSZ.out _ (by simp)))))
            go_wp2
            go_ret2
            exact ⟨rfl, _, rfl⟩
  · have hl2 : ((s.size : Int) != 10) = true := by simp; omega
    have HF := parNo (DM.formB_len (s := L s) (by rw [L_len]; exact hl))
    rw [HF.1, HF.2]
    clear HF hl
    go_enter Try.func29, Try.ntmps29
    go_wp2
    go_ret2
    exact ⟨rfl, 0, rfl⟩
end Go.Proofs.Ythahfcehfagepaa
