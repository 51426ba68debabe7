/- Put together: WSeriesBack, SizedRec, OpenProd. -/
import Derived.Test.YtiohainnpjikpaaDoorBun1
import Derived.Test.YtiohainnpjikpaaDoorBun9
import Derived.Test.YtiohainnpjikpaaDoorBun7
import Derived.SizedLaws
import Derived.ProofKit
import Derived.Test.YtiohainnpjikpaaDoorBun8
import Derived.Test.YtiohainnpjikpaaDoorBun2
import Derived.OpenShut
import Derived.ShutString
import Derived.ChangeOld
namespace Go.Proofs.YtiohainnpjikpaaDoor.seriesBack
open Go.RowKit Go.Recs
set_option linter.unusedVariables false
set_option linter.unusedSimpArgs false

theorem of_range (y m d : Int) : 0 ≤ DM.ofN y m d ∧ DM.ofN y m d ≤ 73048 := by
  unfold DM.ofN
  split
  · rename_i h
    have := DM.split_day (day := DM.dayOf y m d) (y := y) (m := m) (d := d) ⟨h, rfl⟩
    exact ⟨this.2.2.2.1, this.2.2.2.2⟩
  · omega
theorem par_q {t : ByteArray} (ht : t.size ≤ 300) : serQ (EM.parN (L t)) ∧ (EM.parN (L t)).prod.size ≤ 300 := by
  have hir := fun l => WM.int_range l
  by_cases h : EM.parE (L t) = 0
  · have hf : EM.form (WM.pieces 46 (L t)) := by
      by_cases hf : EM.form (WM.pieces 46 (L t))
      · exact hf
      · rw [(EM.par_form hf).1] at h; cases h
    obtain ⟨a, b, c, hP, hn, _, _⟩ := hf
    have hA : EM.pA (L t) = a := (ps_parts hP).1
    have ha : a.length ≤ 12 := by
      unfold WM.name at hn
      simp only [Bool.and_eq_true, decide_eq_true_eq] at hn
      exact hn.2
    have e : EM.parN (L t) = ⟨⟨(EM.pA (L t)).toArray⟩, if EM.pC (L t) = [102] then 1 else if (EM.pC (L t)).headD 0 = 99 then 2 else 3, DM.ofN (EM.yy (L t)) (EM.mm (L t)) (EM.dd (L t)), if EM.pC (L t) = [102] then 0 else WM.intN (EM.pC (L t)).tail⟩ := by unfold EM.parN; rw [if_pos h]
    rw [e, hA]
    have hsz : (⟨a.toArray⟩ : ByteArray).size ≤ 12 := by show (S a).size ≤ 12; rw [S_size]; exact ha
    have ho := of_range (EM.yy (L t)) (EM.mm (L t)) (EM.dd (L t))
    have hi := hir (EM.pC (L t)).tail
    refine ⟨⟨by show _ ≤ maxLen; unfold maxLen; exact Nat.le_trans hsz (by omega), ?_, ?_, ?_⟩, by exact Nat.le_trans hsz (by omega)⟩
    · show i64 (if _ then 1 else if _ then 2 else 3)
      unfold i64
      split <;> (try split) <;> omega
    · show i64 (DM.ofN _ _ _)
      unfold i64; omega
    · show i64 (if _ then 0 else _)
      unfold i64
      split <;> omega
  · have e : EM.parN (L t) = EM.zero := by unfold EM.parN; rw [if_neg h]
    rw [e]
    exact ⟨⟨by decide, ⟨by decide, by decide⟩, ⟨by decide, by decide⟩, ⟨by decide, by decide⟩⟩, by decide⟩
theorem print_len {s : EM.Ser} (hq : serQ s) (hp : s.prod.size ≤ 200) : (S (EM.printL s)).size ≤ 300 := by
  rw [S_size]
  by_cases hm : EM.may s
  · obtain ⟨y, m, d, hd⟩ := EM.may_date hm
    rw [EM.print_is hm.1 hd]
    have h1 := text_small hq.2.2.2
    have h2 : s.prod.data.toList.length = s.prod.size := Array.length_toList
    have h3 : (EM.d8 y m d).length = 8 := rfl
    unfold EM.txt EM.tail
    split
    · rw [List.length_append, List.length_cons, List.length_append, h3, h2]; simp; omega
    · rw [List.length_append, List.length_cons, List.length_append, List.length_cons, List.length_cons, h3, h2]; omega
  · rw [EM.print_no hm]; simp

set_option maxHeartbeats 16000000 in
set_option maxRecDepth 100000 in
theorem walk (s : EM.Ser) (t : ByteArray) (w : World) (hs : serQ s ∧ s.prod.size ≤ 140737488351232) (ht : t.size ≤ 140737488351232) (hm : ML w) :
    Calls Tryd.prog 5 #[serA s, .string t] w fun e w' => e = .returned (.bool true) ∧ Below w.heap.size w w' := by
  obtain ⟨hq, hp⟩ := hs
  have CG := Lib.hid (fun ww h => goes10_any ww h)
  have HB0 := Lib.hid ((Below.refl w.heap.size w).alloc (Nat.le_refl _) (.cells #[.string s.prod, .int .i64 s.kind, .int .i64 s.expiry, .int .i64 s.strike] 24))
  have HP0 := Lib.hid (SBox.new w s)
  have HM0 := Lib.hid (hm.below HB0.out)
  clear hm
  by_cases hbig : 300 < t.size ∨ (t.size ≤ 300 ∧ 300 < s.prod.size)
  · rcases hbig with hb | ⟨hb1, hb2⟩
    all_goals (
      clear hq
      go_enter Tryd.func5, Tryd.ntmps5
      go_wp2_with fail
      refine (CG.out _ HM0.out).mono ?_
      rintro e w9 ⟨rfl, b9⟩
      have HB9 := Lib.hid (HB0.out.trans (b9.mono HB0.out.size))
      clear b9
      go_wp2_with fail
      go_ret
      exact ⟨rfl, HB9.out⟩)
  have ht3 : t.size ≤ 300 := by omega
  have hs3 : s.prod.size ≤ 300 := by omega
  clear hbig hp ht
  have C1 := Lib.hid (fun ww h => eparse_any t ww ht3 h)
  have C2 := Lib.hid (fun ww h => eprint_any (EM.parN (L t)) ww (par_q ht3).1 (par_q ht3).2 h)
  have C3 := Lib.hid (fun ww h => eprint_any s ww hq hs3 h)
  have CN := Lib.hid (fun ww => rname_any s.prod ww (by omega))
  have K1 : Hid (EM.parE (L t) = 0 → S (EM.printL (EM.parN (L t))) = t) := Lib.hid (fun h => by rw [EM.print_par h, S_L])
  have K2 : Hid (¬ EM.may s → S (EM.printL s) = ⟨#[]⟩) := Lib.hid (fun h => by rw [EM.print_no h]; rfl)
  have K3 : Hid (EM.may s → ((S (EM.printL s)).toList == []) = false) := Lib.hid (fun h => by rw [beq_lit, L_S]; exact decide_eq_false (EM.print_some h))
  have C4 : Hid (∀ ww, ML ww → EM.may s → WM.name (L s.prod) = true → (-16777216 ≤ s.strike ∧ s.strike ≤ 16777216) → (s.kind = 1 → s.strike = 0) →
      Calls Tryd.prog 11 #[.string (S (EM.printL s))] ww fun e w' => e = .returned (.tuple #[serA s, .int .i64 0]) ∧ Below ww.heap.size ww w') := Lib.hid (fun ww h h1 h2 h3 h4 => by
    have hn12 : s.prod.size ≤ 12 := by
      have h5 := h2
      unfold WM.name at h5
      simp only [Bool.and_eq_true, decide_eq_true_eq] at h5
      rw [← L_len]; exact h5.2
    have := eparse_any (S (EM.printL s)) ww (print_len hq (by omega)) h
    obtain ⟨e1, e2⟩ := EM.par_print h1 h2 h3 h4
    rw [L_S, e1, e2] at this
    exact this)
  have HMAY : Hid (EM.may s ↔ (1 ≤ s.kind ∧ s.kind ≤ 3) ∧ (0 ≤ s.expiry ∧ s.expiry ≤ 73048)) := Lib.hid Iff.rfl
  have E1 : ∀ ww, (Op.equalIn 10000 24 (serA s) (serA s)).run Tryd.prog ww = .ok true ww := fun ww => by rw [ser_in, seq_iff.2 rfl]
  have hgd := ser_guard
  generalize EM.parE (L t) = pe at *
  generalize EM.parN (L t) = x at *
  generalize S (EM.printL x) = tp at *
  generalize S (EM.printL s) = u at *
  generalize WM.name (L s.prod) = nb at *
  have KEY1 : (pe = 0 ∧ tp = t) ∨ (pe == 0) = false := by
    by_cases h : pe = 0
    · exact .inl ⟨h, K1.out h⟩
    · exact .inr (beq_f h)
  have KEY2 : ((s.kind < 1 ∨ (1 ≤ s.kind ∧ 3 < s.kind) ∨ ((1 ≤ s.kind ∧ s.kind ≤ 3) ∧ s.expiry < 0) ∨ ((1 ≤ s.kind ∧ s.kind ≤ 3) ∧ 0 ≤ s.expiry ∧ 73048 < s.expiry)) ∧ u = ⟨#[]⟩) ∨ (((1 ≤ s.kind ∧ s.kind ≤ 3) ∧ 0 ≤ s.expiry ∧ s.expiry ≤ 73048) ∧ (u.toList == []) = false) := by
    by_cases h : EM.may s
    · exact .inr ⟨HMAY.out.1 h, K3.out h⟩
    · refine .inl ⟨?_, K2.out h⟩
      have h2 : ¬ ((1 ≤ s.kind ∧ s.kind ≤ 3) ∧ (0 ≤ s.expiry ∧ s.expiry ≤ 73048)) := fun g => h (HMAY.out.2 g)
      omega
  have HQ := Lib.hid hq
  clear hq K1 K2 K3
  go_enter Tryd.func5, Tryd.ntmps5
  go_wp2_with fail
  generalize w.alloc (.cells #[.string s.prod, .int .i64 s.kind, .int .i64 s.expiry, .int .i64 s.strike] 24) = w0 at *
  refine (C1.out _ HM0.out).mono ?_
  rintro e w1 ⟨rfl, b1⟩
  have HP1 := Lib.hid ((HP0.out.below b1 HP0.out.lt).alloc (.cells #[.string x.prod, .int .i64 x.kind, .int .i64 x.expiry, .int .i64 x.strike] 24))
  have HB1 := Lib.hid (HB0.out.trans (b1.mono HB0.out.size))
  have HB2 := Lib.hid (HB1.out.alloc HB1.out.size (.cells #[.string x.prod, .int .i64 x.kind, .int .i64 x.expiry, .int .i64 x.strike] 24))
  have HM2 := Lib.hid ((HM0.out.below b1).below ((Below.refl w1.heap.size w1).alloc (Nat.le_refl _) (.cells #[.string x.prod, .int .i64 x.kind, .int .i64 x.expiry, .int .i64 x.strike] 24)))
  clear b1 HP0 HB0 HM0 HB1 C1
  have hst : (t.toList == t.toList) = true := str_t rfl
  obtain ⟨c0, c1, c2, c3⟩ := HP1.out.cells
  rcases KEY1 with ⟨rfl, rfl⟩ | hpe
  · go_wp2_with fail
    generalize w1.alloc (.cells #[.string x.prod, .int .i64 x.kind, .int .i64 x.expiry, .int .i64 x.strike] 24) = w2 at *
    refine (C2.out _ HM2.out).mono ?_
    rintro e w3 ⟨rfl, b3⟩
    have HP3 := Lib.hid (HP1.out.below b3 HP1.out.lt)
    have HB3 := Lib.hid (HB2.out.trans (b3.mono HB2.out.size))
    have HM3 := Lib.hid (HM2.out.below b3)
    clear b3 HP1 HB2 HM2 c0 c1 c2 c3 C2
    obtain ⟨c0, c1, c2, c3⟩ := HP3.out.cells
    go_wp2_with fail
    refine (C3.out _ HM3.out).mono ?_
    rintro e w4 ⟨rfl, b4⟩
    have HP4 := Lib.hid (HP3.out.below b4 HP3.out.lt)
    have HB4 := Lib.hid (HB3.out.trans (b4.mono HB3.out.size))
    have HM4 := Lib.hid (HM3.out.below b4)
    clear b4 HP3 HB3 HM3 c0 c1 c2 c3 C3
    obtain ⟨c0, c1, c2, c3⟩ := HP4.out.cells
    rcases KEY2 with ⟨hmay, rfl⟩ | ⟨⟨⟨k1, k2⟩, k3, k4⟩, hne⟩
    · rcases hmay with m1 | ⟨m1, m2⟩ | ⟨⟨m1, m2⟩, m3⟩ | ⟨⟨m1, m2⟩, m3, m4⟩
      all_goals (
        go_wp2_with fail
        refine (CG.out _ HM4.out).mono ?_
        rintro e w9 ⟨rfl, b9⟩
        have HB9 := Lib.hid (HB4.out.trans (b9.mono HB4.out.size))
        clear b9
        go_wp2_with fail
        go_ret
        exact ⟨rfl, HB9.out⟩)
    · have hne2 : ¬ u.toList = [] := by simpa using hne
      go_wp2_with fail
      refine (CN.out _).mono ?_
      rintro e w5 ⟨rfl, rfl⟩
      cases nb
      · go_wp2_with fail
        refine (CG.out _ HM4.out).mono ?_
        rintro e w9 ⟨rfl, b9⟩
        have HB9 := Lib.hid (HB4.out.trans (b9.mono HB4.out.size))
        clear b9
        go_wp2_with fail
        go_ret
        exact ⟨rfl, HB9.out⟩
      · have KEY3 : (s.strike < -16777216) ∨ (-16777216 ≤ s.strike ∧ 16777216 < s.strike) ∨ ((-16777216 ≤ s.strike ∧ s.strike ≤ 16777216) ∧ ((s.kind = 1 ∧ (s.strike != 0) = true) ∨ (s.kind = 1 ∧ s.strike = 0) ∨ (s.kind == 1) = false)) := by
          rcases (by omega : s.strike < -16777216 ∨ (-16777216 ≤ s.strike ∧ 16777216 < s.strike) ∨ (-16777216 ≤ s.strike ∧ s.strike ≤ 16777216)) with h | h | h
          · exact .inl h
          · exact .inr (.inl h)
          · refine .inr (.inr ⟨h, ?_⟩)
            by_cases g : s.kind = 1
            · by_cases g2 : s.strike = 0
              · exact .inr (.inl ⟨g, g2⟩)
              · exact .inl ⟨g, by simpa using g2⟩
            · exact .inr (.inr (beq_f g))
        rcases KEY3 with k5 | ⟨k5, k6⟩ | ⟨⟨k5, k6⟩, ⟨k7, k8⟩ | ⟨k7, k8⟩ | k7⟩
        · go_wp2_with fail
          refine (CG.out _ HM4.out).mono ?_
          rintro e w9 ⟨rfl, b9⟩
          have HB9 := Lib.hid (HB4.out.trans (b9.mono HB4.out.size))
          clear b9
          go_wp2_with fail
          go_ret
          exact ⟨rfl, HB9.out⟩
        · go_wp2_with fail
          refine (CG.out _ HM4.out).mono ?_
          rintro e w9 ⟨rfl, b9⟩
          have HB9 := Lib.hid (HB4.out.trans (b9.mono HB4.out.size))
          clear b9
          go_wp2_with fail
          go_ret
          exact ⟨rfl, HB9.out⟩
        · rw [k7] at c1
          go_wp2_with fail
          refine (CG.out _ HM4.out).mono ?_
          rintro e w9 ⟨rfl, b9⟩
          have HB9 := Lib.hid (HB4.out.trans (b9.mono HB4.out.size))
          clear b9
          go_wp2_with fail
          go_ret
          exact ⟨rfl, HB9.out⟩
        · have HL := Lib.hid (C4.out w4 HM4.out (HMAY.out.2 ⟨⟨k1, k2⟩, k3, k4⟩) rfl ⟨k5, k6⟩ (fun _ => k8))
          rw [k7] at c1
          rw [k8] at c3
          clear k7 k8 k5 k6 k1 k2
          go_wp2_with fail
          refine (HL.out).mono ?_
          rintro e w6 ⟨rfl, b6⟩
          have HP6 := Lib.hid ((HP4.out.below b6 HP4.out.lt).alloc (.cells #[.string s.prod, .int .i64 s.kind, .int .i64 s.expiry, .int .i64 s.strike] 24))
          have HB6 := Lib.hid (HB4.out.trans (b6.mono HB4.out.size))
          have HB7 := Lib.hid (HB6.out.alloc HB6.out.size (.cells #[.string s.prod, .int .i64 s.kind, .int .i64 s.expiry, .int .i64 s.strike] 24))
          have HM7 := Lib.hid ((HM4.out.below b6).below ((Below.refl w6.heap.size w6).alloc (Nat.le_refl _) (.cells #[.string s.prod, .int .i64 s.kind, .int .i64 s.expiry, .int .i64 s.strike] 24)))
          clear b6 c0 c1 c2 c3 HP4 HB4 HM4 HB6
          obtain ⟨c0, c1, c2, c3⟩ := HP6.out.cells
          go_wp2_with fail
          refine (CG.out _ HM7.out).mono ?_
          rintro e w9 ⟨rfl, b9⟩
          have HB9 := Lib.hid (HB7.out.trans (b9.mono HB7.out.size))
          clear b9
          go_wp2_with fail
          go_ret
          exact ⟨rfl, HB9.out⟩
        · have HL := Lib.hid (C4.out w4 HM4.out (HMAY.out.2 ⟨⟨k1, k2⟩, k3, k4⟩) rfl ⟨k5, k6⟩ (fun h => absurd k7 (by rw [beq_t h]; decide)))
          go_wp2_with fail
          refine (HL.out).mono ?_
          rintro e w6 ⟨rfl, b6⟩
          have HP6 := Lib.hid ((HP4.out.below b6 HP4.out.lt).alloc (.cells #[.string s.prod, .int .i64 s.kind, .int .i64 s.expiry, .int .i64 s.strike] 24))
          have HB6 := Lib.hid (HB4.out.trans (b6.mono HB4.out.size))
          have HB7 := Lib.hid (HB6.out.alloc HB6.out.size (.cells #[.string s.prod, .int .i64 s.kind, .int .i64 s.expiry, .int .i64 s.strike] 24))
          have HM7 := Lib.hid ((HM4.out.below b6).below ((Below.refl w6.heap.size w6).alloc (Nat.le_refl _) (.cells #[.string s.prod, .int .i64 s.kind, .int .i64 s.expiry, .int .i64 s.strike] 24)))
          clear b6 c0 c1 c2 c3 HP4 HB4 HM4 HB6
          obtain ⟨c0, c1, c2, c3⟩ := HP6.out.cells
          go_wp2_with fail
          refine (CG.out _ HM7.out).mono ?_
          rintro e w9 ⟨rfl, b9⟩
          have HB9 := Lib.hid (HB7.out.trans (b9.mono HB7.out.size))
          clear b9
          go_wp2_with fail
          go_ret
          exact ⟨rfl, HB9.out⟩
  · go_wp2_with fail
    generalize w1.alloc (.cells #[.string x.prod, .int .i64 x.kind, .int .i64 x.expiry, .int .i64 x.strike] 24) = w3 at *
    refine (C3.out _ HM2.out).mono ?_
    rintro e w4 ⟨rfl, b4⟩
    have HP4 := Lib.hid (HP1.out.below b4 HP1.out.lt)
    have HB4 := Lib.hid (HB2.out.trans (b4.mono HB2.out.size))
    have HM4 := Lib.hid (HM2.out.below b4)
    clear b4 HP1 HB2 HM2 c0 c1 c2 c3 C3 C2
    obtain ⟨c0, c1, c2, c3⟩ := HP4.out.cells
    rcases KEY2 with ⟨hmay, rfl⟩ | ⟨⟨⟨k1, k2⟩, k3, k4⟩, hne⟩
    · rcases hmay with m1 | ⟨m1, m2⟩ | ⟨⟨m1, m2⟩, m3⟩ | ⟨⟨m1, m2⟩, m3, m4⟩
      all_goals (
        go_wp2_with fail
        refine (CG.out _ HM4.out).mono ?_
        rintro e w9 ⟨rfl, b9⟩
        have HB9 := Lib.hid (HB4.out.trans (b9.mono HB4.out.size))
        clear b9
        go_wp2_with fail
        go_ret
        exact ⟨rfl, HB9.out⟩)
    · have hne2 : ¬ u.toList = [] := by simpa using hne
      go_wp2_with fail
      refine (CN.out _).mono ?_
      rintro e w5 ⟨rfl, rfl⟩
      cases nb
      · go_wp2_with fail
        refine (CG.out _ HM4.out).mono ?_
        rintro e w9 ⟨rfl, b9⟩
        have HB9 := Lib.hid (HB4.out.trans (b9.mono HB4.out.size))
        clear b9
        go_wp2_with fail
        go_ret
        exact ⟨rfl, HB9.out⟩
      · have KEY3 : (s.strike < -16777216) ∨ (-16777216 ≤ s.strike ∧ 16777216 < s.strike) ∨ ((-16777216 ≤ s.strike ∧ s.strike ≤ 16777216) ∧ ((s.kind = 1 ∧ (s.strike != 0) = true) ∨ (s.kind = 1 ∧ s.strike = 0) ∨ (s.kind == 1) = false)) := by
          rcases (by omega : s.strike < -16777216 ∨ (-16777216 ≤ s.strike ∧ 16777216 < s.strike) ∨ (-16777216 ≤ s.strike ∧ s.strike ≤ 16777216)) with h | h | h
          · exact .inl h
          · exact .inr (.inl h)
          · refine .inr (.inr ⟨h, ?_⟩)
            by_cases g : s.kind = 1
            · by_cases g2 : s.strike = 0
              · exact .inr (.inl ⟨g, g2⟩)
              · exact .inl ⟨g, by simpa using g2⟩
            · exact .inr (.inr (beq_f g))
        rcases KEY3 with k5 | ⟨k5, k6⟩ | ⟨⟨k5, k6⟩, ⟨k7, k8⟩ | ⟨k7, k8⟩ | k7⟩
        · go_wp2_with fail
          refine (CG.out _ HM4.out).mono ?_
          rintro e w9 ⟨rfl, b9⟩
          have HB9 := Lib.hid (HB4.out.trans (b9.mono HB4.out.size))
          clear b9
          go_wp2_with fail
          go_ret
          exact ⟨rfl, HB9.out⟩
        · go_wp2_with fail
          refine (CG.out _ HM4.out).mono ?_
          rintro e w9 ⟨rfl, b9⟩
          have HB9 := Lib.hid (HB4.out.trans (b9.mono HB4.out.size))
          clear b9
          go_wp2_with fail
          go_ret
          exact ⟨rfl, HB9.out⟩
        · rw [k7] at c1
          go_wp2_with fail
          refine (CG.out _ HM4.out).mono ?_
          rintro e w9 ⟨rfl, b9⟩
          have HB9 := Lib.hid (HB4.out.trans (b9.mono HB4.out.size))
          clear b9
          go_wp2_with fail
          go_ret
          exact ⟨rfl, HB9.out⟩
        · have HL := Lib.hid (C4.out w4 HM4.out (HMAY.out.2 ⟨⟨k1, k2⟩, k3, k4⟩) rfl ⟨k5, k6⟩ (fun _ => k8))
          rw [k7] at c1
          rw [k8] at c3
          clear k7 k8 k5 k6 k1 k2
          go_wp2_with fail
          refine (HL.out).mono ?_
          rintro e w6 ⟨rfl, b6⟩
          have HP6 := Lib.hid ((HP4.out.below b6 HP4.out.lt).alloc (.cells #[.string s.prod, .int .i64 s.kind, .int .i64 s.expiry, .int .i64 s.strike] 24))
          have HB6 := Lib.hid (HB4.out.trans (b6.mono HB4.out.size))
          have HB7 := Lib.hid (HB6.out.alloc HB6.out.size (.cells #[.string s.prod, .int .i64 s.kind, .int .i64 s.expiry, .int .i64 s.strike] 24))
          have HM7 := Lib.hid ((HM4.out.below b6).below ((Below.refl w6.heap.size w6).alloc (Nat.le_refl _) (.cells #[.string s.prod, .int .i64 s.kind, .int .i64 s.expiry, .int .i64 s.strike] 24)))
          clear b6 c0 c1 c2 c3 HP4 HB4 HM4 HB6
          obtain ⟨c0, c1, c2, c3⟩ := HP6.out.cells
          go_wp2_with fail
          refine (CG.out _ HM7.out).mono ?_
          rintro e w9 ⟨rfl, b9⟩
          have HB9 := Lib.hid (HB7.out.trans (b9.mono HB7.out.size))
          clear b9
          go_wp2_with fail
          go_ret
          exact ⟨rfl, HB9.out⟩
        · have HL := Lib.hid (C4.out w4 HM4.out (HMAY.out.2 ⟨⟨k1, k2⟩, k3, k4⟩) rfl ⟨k5, k6⟩ (fun h => absurd k7 (by rw [beq_t h]; decide)))
          go_wp2_with fail
          refine (HL.out).mono ?_
          rintro e w6 ⟨rfl, b6⟩
          have HP6 := Lib.hid ((HP4.out.below b6 HP4.out.lt).alloc (.cells #[.string s.prod, .int .i64 s.kind, .int .i64 s.expiry, .int .i64 s.strike] 24))
          have HB6 := Lib.hid (HB4.out.trans (b6.mono HB4.out.size))
          have HB7 := Lib.hid (HB6.out.alloc HB6.out.size (.cells #[.string s.prod, .int .i64 s.kind, .int .i64 s.expiry, .int .i64 s.strike] 24))
          have HM7 := Lib.hid ((HM4.out.below b6).below ((Below.refl w6.heap.size w6).alloc (Nat.le_refl _) (.cells #[.string s.prod, .int .i64 s.kind, .int .i64 s.expiry, .int .i64 s.strike] 24)))
          clear b6 c0 c1 c2 c3 HP4 HB4 HM4 HB6
          obtain ⟨c0, c1, c2, c3⟩ := HP6.out.cells
          go_wp2_with fail
          refine (CG.out _ HM7.out).mono ?_
          rintro e w9 ⟨rfl, b9⟩
          have HB9 := Lib.hid (HB7.out.trans (b9.mono HB7.out.size))
          clear b9
          go_wp2_with fail
          go_ret
          exact ⟨rfl, HB9.out⟩
end Go.Proofs.YtiohainnpjikpaaDoor.seriesBack

/- What the reach says of a text that opens a record, over any program. -/
namespace Go.Recs
open Go.ChangeShapes Go.WideShapes Go.RowKit Go.Deep
set_option linter.unusedVariables false
theorem first_sized {H : Type} {enc : TypeId × Value → H} {P : Program} {W : World} {base : Nat} {spare : Nat → Bool} {held : Bool} {T : TypeId} {cs : Array Value} {d : DataW H} {p : List MemPlace} {fs : Array Field} {f : Field} {s : ByteArray}
    {ts : List TypeId} {ds : List (DataW H)} {j : Nat}
    (h : (DataW.weightsEach P ts ds).all (· ≤ reachBytes) = true) (ht : ts[j]? = some T) (hd : ds[j]? = some d)
    (hT : DataW.Trod enc P W base spare held T (.agg cs) d p) (hu : P.underlying T = some (.struct fs)) (hf : fs[0]? = some f) (ho : f.offset = 0) (hs : P.underlying f.type = some .string) (hc : P.cellsOf f.type = 1) (hcs : cs[0]? = some (.string s)) :
    s.size ≤ 140737488351232 := by
  obtain ⟨fuel, hx⟩ := hT
  obtain ⟨xs, n, _, hxd, _, hxl, hfl⟩ := DataW.trod_struct hu hx
  have h0 := hfl 0 f hf
  have hpos : 0 < xs.length := by
    rw [hxl]
    rcases Nat.eq_zero_or_pos fs.size with e | e
    · rw [Array.getElem?_eq_none (by omega)] at hf; cases hf
    · exact e
  rw [List.getElem?_eq_getElem hpos] at h0
  obtain ⟨t, ht0, hx0, _⟩ := DataW.trod_string hs h0
  rw [ho, hc, List.drop_zero] at ht0
  have ets : t = s := by
    have e1 : (Value.agg cs).cells.toList.take 1 = [Value.string t] := ht0
    have e2 : (Value.agg cs).cells.toList[0]? = some (Value.string s) := by simpa [Value.cells] using hcs
    cases hl : (Value.agg cs).cells.toList with
    | nil => rw [hl] at e2; cases e2
    | cons a r => rw [hl] at e1 e2; simp at e1 e2; rw [e1] at e2; injection e2
  subst ets
  injection hxd with hd1 _
  have hw : t.data.toList.length ∈ d.weights P T := by
    rw [hd1]
    simp only [DataW.weights, hu]
    have hm := DataW.weights_mem_each (P := P) (ts := fs.toList.map (·.type)) (ds := xs.map (·.1)) (j := 0) (t := f.type) (d := xs[0].1) (by rw [List.getElem?_map, Array.getElem?_toList, hf]; rfl) (by rw [List.getElem?_map, List.getElem?_eq_getElem hpos]; rfl) t.data.toList.length
    apply hm
    rw [hx0]
    simp [DataW.weights]
  have := List.all_eq_true.1 h _ (DataW.weights_mem_each ht hd _ hw)
  have e : t.data.toList.length = t.size := Array.length_toList
  rw [e] at this
  have hr : reachBytes = 140737488351232 := by decide
  rw [← hr]
  simpa using this
end Go.Recs

/- A law's arguments: products and series, by value and in slices. -/
namespace Go.Proofs.YtiohainnpjikpaaDoor
open Go.ChangeShapes Go.WideShapes Go.ChangeAt Go.RowKit Go.Recs
set_option linter.unusedVariables false
set_option maxRecDepth 100000

theorem prod_leafs : leafs Tryd.prog 2 29 = some prodL := by kernel_rfl
theorem ser_leafs : leafs Tryd.prog 2 24 = some serL := by kernel_rfl
theorem open_prodT {H : Type} {enc : TypeId × Value → H} {W : World} {base b0 : Nat} {spare : Nat → Bool} {held : Bool} {r : Reach} {v : Value} {d : DataW H} {p : List MemPlace}
    (hv : Value.okWide Tryd.prog W r b0 22 v) (h : DataW.Trod enc Tryd.prog W base spare held 22 v d p) :
    ∃ A cap, ∃ l : List QM.Prod, v = .slice A l.length cap ∧ (Prods W A l ∧ l.length ≤ cap) ∧ True := by
  obtain ⟨A, cap, rows, rfl, hR, hk, hc⟩ := open_recs (n := 2) (sz := 7) Tryd.underlying22 prod_leafs (by kernel_rfl) rfl (by omega) hv h
  obtain ⟨l, rfl, hq⟩ := typed (ls := prodL) prodV _ prod_row rows hk
  rw [List.length_map] at hc ⊢
  exact ⟨A, cap, l, rfl, ⟨⟨hR, hq⟩, hc⟩, trivial⟩
theorem open_serT {H : Type} {enc : TypeId × Value → H} {W : World} {base b0 : Nat} {spare : Nat → Bool} {held : Bool} {r : Reach} {v : Value} {d : DataW H} {p : List MemPlace}
    (hv : Value.okWide Tryd.prog W r b0 41 v) (h : DataW.Trod enc Tryd.prog W base spare held 41 v d p) :
    ∃ A cap, ∃ l : List EM.Ser, v = .slice A l.length cap ∧ (Sers W A l ∧ l.length ≤ cap) ∧ True := by
  obtain ⟨A, cap, rows, rfl, hR, hk, hc⟩ := open_recs (n := 2) (sz := 4) Tryd.underlying41 ser_leafs (by kernel_rfl) rfl (by omega) hv h
  obtain ⟨l, rfl, hq⟩ := typed (ls := serL) serV _ ser_row rows hk
  rw [List.length_map] at hc ⊢
  exact ⟨A, cap, l, rfl, ⟨⟨hR, hq⟩, hc⟩, trivial⟩
theorem open_prodV {H : Type} {enc : TypeId × Value → H} {W : World} {base b0 : Nat} {spare : Nat → Bool} {held : Bool} {r : Reach} {v : Value} {d : DataW H} {p : List MemPlace}
    (hv : Value.okWide Tryd.prog W r b0 29 v) (h : DataW.Trod enc Tryd.prog W base spare held 29 v d p) :
    ∃ x : QM.Prod, v = .agg #[.string x.name, .int .i64 x.cur, .int .i64 x.mult, .int .i64 x.tick, .int .i64 x.low, .int .i64 x.high, .bool x.phys] ∧ prodQ x := by
  obtain ⟨cs, rfl, hk⟩ := open_rec (n := 2) Tryd.underlying29 prod_leafs (by kernel_rfl) hv h
  obtain ⟨x, rfl, hq⟩ := prod_row cs hk
  exact ⟨x, rfl, hq⟩
theorem open_serV {H : Type} {enc : TypeId × Value → H} {W : World} {base b0 : Nat} {spare : Nat → Bool} {held : Bool} {r : Reach} {v : Value} {d : DataW H} {p : List MemPlace}
    (hv : Value.okWide Tryd.prog W r b0 24 v) (h : DataW.Trod enc Tryd.prog W base spare held 24 v d p) :
    ∃ x : EM.Ser, v = .agg #[.string x.prod, .int .i64 x.kind, .int .i64 x.expiry, .int .i64 x.strike] ∧ serQ x := by
  obtain ⟨cs, rfl, hk⟩ := open_rec (n := 2) Tryd.underlying24 ser_leafs (by kernel_rfl) hv h
  obtain ⟨x, rfl, hq⟩ := ser_row cs hk
  exact ⟨x, rfl, hq⟩
theorem prod_sized {H : Type} {enc : TypeId × Value → H} {W : World} {base : Nat} {spare : Nat → Bool} {held : Bool} {x : QM.Prod} {d : DataW H} {p : List MemPlace} {ts : List TypeId} {ds : List (DataW H)} {j : Nat}
    (h : (DataW.weightsEach Tryd.prog ts ds).all (· ≤ reachBytes) = true) (ht : ts[j]? = some 29) (hd : ds[j]? = some d)
    (hT : DataW.Trod enc Tryd.prog W base spare held 29 (.agg #[.string x.name, .int .i64 x.cur, .int .i64 x.mult, .int .i64 x.tick, .int .i64 x.low, .int .i64 x.high, .bool x.phys]) d p) : x.name.size ≤ 140737488351232 :=
  first_sized (cs := #[.string x.name, .int .i64 x.cur, .int .i64 x.mult, .int .i64 x.tick, .int .i64 x.low, .int .i64 x.high, .bool x.phys]) h ht hd hT Tryd.underlying29 rfl rfl Tryd.underlying9 (by kernel_rfl) rfl
theorem ser_sized {H : Type} {enc : TypeId × Value → H} {W : World} {base : Nat} {spare : Nat → Bool} {held : Bool} {x : EM.Ser} {d : DataW H} {p : List MemPlace} {ts : List TypeId} {ds : List (DataW H)} {j : Nat}
    (h : (DataW.weightsEach Tryd.prog ts ds).all (· ≤ reachBytes) = true) (ht : ts[j]? = some 24) (hd : ds[j]? = some d)
    (hT : DataW.Trod enc Tryd.prog W base spare held 24 (.agg #[.string x.prod, .int .i64 x.kind, .int .i64 x.expiry, .int .i64 x.strike]) d p) : x.prod.size ≤ 140737488351232 :=
  first_sized (cs := #[.string x.prod, .int .i64 x.kind, .int .i64 x.expiry, .int .i64 x.strike]) h ht hd hT Tryd.underlying24 rfl rfl Tryd.underlying9 (by kernel_rfl) rfl
end Go.Proofs.YtiohainnpjikpaaDoor
