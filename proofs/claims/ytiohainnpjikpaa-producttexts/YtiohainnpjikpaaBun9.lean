/- Put together: WordsM, WordMath5, ProdI, ProdJ, ProdK. -/
import Derived.Test.YtiohainnpjikpaaBun8
import Derived.Deep.LoopGhost
import Derived.WalkMore
import Derived.BigRegion
import Derived.Test.YtiohainnpjikpaaBun5
/- Contracts: fields, the program's. -/
namespace Go.Proofs.Ytiohainnpjikpaa
open Go.RowKit
set_option linter.unusedVariables false

set_option maxHeartbeats 2000000 in
theorem fields_any (s : ByteArray) (w : World) (hs : s.size ≤ 9223372036854775807) :
    Calls Try.prog 37 #[.string s] w fun e w' => ∃ v, e = .returned (.tuple #[v, .int .i64 (WM.fieldsE (L s))]) ∧ OS w' w.heap.size v (strs (WM.fieldsN (L s))) ∧ Below w.heap.size w w' := by
  by_cases hl : 512 < s.size
  · obtain ⟨e1, e2⟩ := WM.fields_long (l := L s) (by rw [L_len]; exact hl)
    rw [e1, e2]; clear e1 e2
    go_enter Try.func37, Try.ntmps37
    go_wp2
    go_step3
    go_wp2
    rw [Exit.noGoto_ret]
    go_ret2
    exact ⟨_, rfl, OS.nil _ _, Below.refl _ _⟩
  · by_cases h0 : s.size = 0
    · rw [L_nil h0, WM.fields_none.1, WM.fields_none.2]
      have he := isEmpty_true h0
      clear h0
      go_enter Try.func37, Try.ntmps37
      go_wp2
      go_step3
      go_wp2
      rw [Exit.noGoto_ret]
      go_ret2
      exact ⟨_, rfl, OS.nil _ _, Below.refl _ _⟩
    · have hp : 0 < s.size := by omega
      have he := isEmpty_false hp
      have HL1 : Hid ((L s).length ≤ 512) := Lib.hid (by rw [L_len]; omega)
      have HL2 : Hid (L s ≠ []) := Lib.hid (fun h => by have := L_len s; rw [h] at this; simp at this; omega)
      generalize hr : strs (WM.fieldsN (L s)) = res
      generalize hre : WM.fieldsE (L s) = re
      have HR := Lib.hid hr; have HE := Lib.hid hre
      clear hr hre h0
      go_enter Try.func37, Try.ntmps37
      go_wp2
      go_step3
      go_wp2
      go_step3
      go_wp2
      clear he
      go_loopg [2, 3, 4] (s.size + 1) (fun g v e fr wr => ∃ (f : Nat) (ps : List (List UInt8)), f + g ≤ s.size + 1 ∧ s.size + 1 ≤ f + g ∧ e = .int .i64 0 ∧ fr = .int .i64 f ∧ ps.length ≤ s.size + 1 ∧ Hid (RF (L s) f f ps) ∧ Hid (OS wr w.heap.size v (strs ps)) ∧ Hid (Below w.heap.size w wr))
      case atStart => exact ⟨0, [], by omega, by omega, rfl, rfl, by simp, Lib.hid (.inl (WM.FI.start _)), Lib.hid (OS.nil _ _), Lib.hid (Below.refl _ _)⟩
      case round =>
        obtain ⟨f, ps, hg1, hg2, rfl, rfl, hpl, HI, HO, HB⟩ := hrel
        by_cases hk1 : f ≤ s.size
        · have hI : WM.FI (L s) f f ps := by
            rcases HI.out with h | ⟨h, _⟩
            · exact h
            · rw [L_len] at h; omega
          have HF := Lib.hid hI
          clear HI hI
          generalize gk = go at *
          generalize wr = wo at *
          go_wp2
          go_loopg [3, 5] (s.size - f) (fun g e en wy => ∃ k : Nat, k + g ≤ s.size ∧ s.size ≤ k + g ∧ f ≤ k ∧ e = .int .i64 0 ∧ en = .int .i64 k ∧ Hid (WM.FI (L s) k f ps) ∧ wy = wo)
          case atStart => exact ⟨f, by omega, by omega, by omega, rfl, rfl, HF, rfl⟩
          case round =>
            clear HF
            obtain ⟨k, hi1, hi2, hfk, rfl, rfl, HF, rfl⟩ := hrel
            have cf0 : (0 : Int) ≤ (f : Int) := by omega
            have cf1 : (f : Int) ≤ (k : Int) := by omega
            have hpl2 : ps.length ≤ s.size := by have := HF.out.len; rw [L_len] at this; exact this
            by_cases hlt : k < s.size
            · have hlt2 : k < (L s).length := by rw [L_len]; exact hlt
              have HLT := Lib.hid hlt2
              clear hlt2
              have hd := blank_eq s[k]
              cases c32 : (s[k] == 32)
              · rw [c32] at hd
                have hd' : ((s[k].toNat : Int) != 32) = true := hd
                have C32 := Lib.hid c32
                clear hd c32
                cases hpn : WM.plain s[k]
                · have hB := HF.out.bad HLT.out (by rw [L_get s k hlt]; exact hpn) HL1.out HL2.out
                  have HBad : Hid (re = 5 ∧ res = []) := Lib.hid ⟨by rw [← HE.out, hB.1], by rw [← HR.out, hB.2]; rfl⟩
                  clear hB
                  rcases WM.plain_false.1 hpn with h | h
                  · clear hpn
                    go_wp2
                    try rw [Exit.noGoto_ret]
                    go_ret2
                    exact ⟨_, by rw [HBad.out.1]; rfl, by rw [HBad.out.2]; exact OS.nil _ _, HB.out⟩
                  · clear hpn
                    have h' : decide ((s[k].toNat : Int) < 32) = false := decide_eq_false (by omega)
                    go_wp2
                    try rw [Exit.noGoto_ret]
                    go_ret2
                    exact ⟨_, by rw [HBad.out.1]; rfl, by rw [HBad.out.2]; exact OS.nil _ _, HB.out⟩
                · obtain ⟨p1, p2⟩ := WM.plain_true.1 hpn
                  have HN := Lib.hid (HF.out.in_ HLT.out (by rw [L_get s k hlt]; exact hpn) (by rw [L_get s k hlt]; exact ne_of_beq_false C32.out))
                  clear hpn
                  go_wp2
                  go_roundg (s.size - (k + 1))
                  case measure => omega
                  case rel => exact ⟨k + 1, by omega, by omega, by omega, rfl, by go_num, HN, rfl⟩
              · rw [c32] at hd
                have hd' : ((s[k].toNat : Int) != 32) = false := hd
                have hb : (L s)[k]'HLT.out = 32 := by rw [L_get s k hlt]; exact eq_of_beq c32
                have HBL := Lib.hid hb
                clear hd c32 hb
                by_cases hkf : k = f
                · subst hkf
                  have hB := HF.out.empty_in HLT.out HBL.out HL1.out HL2.out
                  have HBad : Hid (re = 5 ∧ res = []) := Lib.hid ⟨by rw [← HE.out, hB.1], by rw [← HR.out, hB.2]; rfl⟩
                  clear hB
                  go_wp2
                  try rw [Exit.noGoto_ret]
                  go_ret2
                  exact ⟨_, by rw [HBad.out.1]; rfl, by rw [HBad.out.2]; exact OS.nil _ _, HB.out⟩
                · have ckf : ((k : Int) == (f : Int)) = false := beq_f (by omega)
                  have hN := HF.out.cut HLT.out HBL.out (by omega)
                  have hpl3 : (ps ++ [((L s).take k).drop f]).length ≤ s.size + 1 := by rw [List.length_append]; simp; omega
                  have HN : Hid (RF (L s) (k + 1) (k + 1) (ps ++ [((L s).take k).drop f])) := Lib.hid (.inl hN)
                  clear hN hkf
                  go_wp2_with (at_builtin; refine wpList_pushS _ (s.extract f k) w.heap.size (strs ps) _ _ rfl rfl _ rfl rfl HO.out ?c1 ?c2 ?_)
                  case c1 => rw [strs_len]; omega
                  case c2 => exact HB.out.size
                  intro v1 w1 o1 b1 _
                  rw [← strs_snoc] at o1
                  have HO1 := Lib.hid o1
                  have HB1 := Lib.hid (HB.out.trans b1)
                  clear o1 b1 HO HB
                  go_wp2
                  go_roundg (s.size + 1 - (k + 1))
                  case measure => omega
                  case rel => exact ⟨k + 1, _, by omega, by omega, rfl, by go_num, hpl3, HN, HO1, HB1⟩
            · obtain rfl : k = s.size := by omega
              have hF := HF.out
              rw [← L_len s] at hF
              have HFL := Lib.hid hF
              clear hF HF
              by_cases hkf : s.size = f
              · subst hkf
                have hF := HFL.out
                have hB := WM.FI.empty_end (l := L s) (ps := ps) (by rw [L_len] at hF ⊢; exact hF) HL1.out HL2.out
                have HBad : Hid (re = 5 ∧ res = []) := Lib.hid ⟨by rw [← HE.out, hB.1], by rw [← HR.out, hB.2]; rfl⟩
                clear hB hF
                go_wp2
                try rw [Exit.noGoto_ret]
                go_ret2
                exact ⟨_, by rw [HBad.out.1]; rfl, by rw [HBad.out.2]; exact OS.nil _ _, HB.out⟩
              · have ckf : ((s.size : Int) == (f : Int)) = false := beq_f (by omega)
                have hD := HFL.out.done (by rw [L_len]; omega) HL1.out HL2.out
                rw [L_len] at hD
                have HN : Hid (RF (L s) (s.size + 1) (s.size + 1) (ps ++ [((L s).take s.size).drop f])) := Lib.hid (.inr ⟨by rw [L_len], hD.2.symm, hD.1⟩)
                have hpl3 : (ps ++ [((L s).take s.size).drop f]).length ≤ s.size + 1 := by rw [List.length_append]; simp; omega
                clear hD hkf
                go_wp2_with (at_builtin; refine wpList_pushS _ (s.extract f s.size) w.heap.size (strs ps) _ _ rfl rfl _ rfl rfl HO.out ?c1 ?c2 ?_)
                case c1 => rw [strs_len]; omega
                case c2 => exact HB.out.size
                intro v1 w1 o1 b1 _
                rw [← strs_snoc] at o1
                have HO1 := Lib.hid o1
                have HB1 := Lib.hid (HB.out.trans b1)
                clear o1 b1 HO HB
                go_wp2
                go_roundg 0
                case measure => omega
                case rel => exact ⟨s.size + 1, _, by omega, by omega, rfl, by go_num, hpl3, HN, HO1, HB1⟩
        · have hI : f = (L s).length + 1 ∧ ps = WM.fieldsN (L s) ∧ WM.fieldsE (L s) = 0 := by
            rcases HI.out with h | h
            · have := h.1; rw [L_len] at this; omega
            · exact h
          have HD : Hid (re = 0 ∧ strs ps = res) := Lib.hid ⟨by rw [← HE.out, hI.2.2], by rw [← HR.out, hI.2.1]⟩
          have ck : decide (f ≤ s.size) = false := decide_eq_false hk1
          clear hI
          go_wp2
          try rw [Exit.noGoto_ret]
          go_ret2
          exact ⟨_, by rw [HD.out.1]; rfl, by rw [← HD.out.2]; exact HO.out, HB.out⟩
end Go.Proofs.Ytiohainnpjikpaa

/- How long pieces are; fields that are put together. -/
namespace WM
set_option linter.unusedVariables false
theorem run_le (b : UInt8) (l : List UInt8) : (∀ p ∈ (run b l).1, p.length ≤ l.length) ∧ (run b l).2.length ≤ l.length := by
  induction l using snoc_ind with
  | h0 => simp [run_nil]
  | h1 l c ih =>
    obtain ⟨h1, h2⟩ := ih
    by_cases h : c = b
    · subst h
      rw [run_snoc_at]
      refine ⟨?_, by simp⟩
      intro p hp
      rw [List.length_append]
      simp only [List.mem_append, List.mem_singleton] at hp
      rcases hp with hp | rfl
      · have := h1 p hp; omega
      · omega
    · rw [run_snoc_in h]
      refine ⟨?_, by simp; omega⟩
      intro p hp
      have := h1 p hp
      rw [List.length_append]; omega
theorem pieces_le {b : UInt8} {l p : List UInt8} (h : p ∈ pieces b l) : p.length ≤ l.length := by
  unfold pieces at h
  simp only [List.mem_append, List.mem_singleton] at h
  rcases h with h | rfl
  · exact (run_le b l).1 p h
  · exact (run_le b l).2
theorem fields_le {l p : List UInt8} (h : p ∈ fieldsN l) : p.length ≤ l.length := by
  unfold fieldsN at h
  split at h
  · exact pieces_le h
  · simp at h
theorem lines_le {l p : List UInt8} (h : p ∈ linesN l) : p.length ≤ l.length := by
  unfold linesN at h
  split at h
  · simp at h
  · split at h
    · exact (run_le 10 l).1 p h
    · exact pieces_le h
theorem tl_le (m : Nat) (ps : List (List UInt8)) (h : ∀ p ∈ ps, p.length ≤ m) : tl 1 (ps.map List.length) ≤ ps.length * (m + 1) := by
  induction ps with
  | nil => simp [tl]
  | cons p ps ih =>
    have e : tl 1 ((p :: ps).map List.length) = p.length + 1 + tl 1 (ps.map List.length) := by simp [tl]
    have h1 := h p (by simp)
    have h2 := ih (fun q hq => h q (by simp [hq]))
    rw [e, List.length_cons, Nat.succ_mul]
    omega
theorem fields_count (l : List UInt8) : (fieldsN l).length ≤ l.length + 1 := by
  unfold fieldsN
  split
  · unfold pieces
    have := run_len 32 l
    rw [List.length_append]; simp; omega
  · simp
theorem fields_short {l : List UInt8} (h : fieldsE l = 0) : l.length ≤ 512 := by
  unfold fieldsE at h
  split at h
  · omega
  · omega
theorem fields_tl {l : List UInt8} (h : fieldsE l = 0) : tl 1 ((fieldsN l).map List.length) ≤ 263169 := by
  have h1 := fields_short h
  have h2 := tl_le 512 (fieldsN l) (fun p hp => by have := fields_le hp; omega)
  have h3 := fields_count l
  have h4 : (fieldsN l).length * (512 + 1) ≤ 513 * 513 := Nat.mul_le_mul (by omega) (by omega)
  omega
theorem sign_range (v : Int) (b : Bool) (h : 0 ≤ v) : -1152921504606846976 ≤ signN v b ∧ signN v b ≤ 1152921504606846976 := by
  unfold signN most
  split
  · omega
  · split
    · omega
    · split <;> omega
theorem int_range (l : List UInt8) : -1152921504606846976 ≤ intN l ∧ intN l ≤ 1152921504606846976 := by
  unfold intN
  split
  · rename_i h; exact sign_range _ _ (val_nonneg (digits_all h))
  · omega
theorem cents_range (l : List UInt8) : -1152921504606846976 ≤ centsN l ∧ centsN l ≤ 1152921504606846976 := by
  unfold centsN
  split
  · rename_i h; exact sign_range _ _ (money_of h).1
  · omega
theorem text_len (n : Int) (h : n.natAbs < 18446744073709551616) : 1 ≤ (textL n).length := by
  unfold textL
  have := dec_length n.natAbs
  split <;> simp <;> omega
end WM

/- Contracts of layer 9: Parse. -/
namespace Go.Proofs.Ytiohainnpjikpaa
open Go.RowKit Go.Recs
set_option linter.unusedVariables false

theorem rd_yes {F : List (List UInt8)} (h : (readN F).2 = true) : QM.form F ∧ (readN F).1 = QM.prodOf F := by
  unfold readN at h ⊢
  split at h
  · rename_i hf; rw [if_pos hf]; exact ⟨hf, rfl⟩
  · cases h
theorem rd_no {F : List (List UInt8)} (h : (readN F).2 = false) : ¬ QM.form F ∧ (readN F).1 = QM.zero := by
  unfold readN at h ⊢
  split at h
  · cases h
  · rename_i hf; rw [if_neg hf]; exact ⟨hf, rfl⟩
theorem pa_bad {l : List UInt8} (h : WM.fieldsE l ≠ 0) : QM.parE l = WM.fieldsE l ∧ QM.parN l = QM.zero := QM.par_bad h
theorem pa_form {l : List UInt8} (h : WM.fieldsE l = 0) (h2 : (readN (WM.fieldsN l)).2 = false) : QM.parE l = 5 ∧ QM.parN l = QM.zero := QM.par_form h (rd_no h2).1
theorem pa_check {l : List UInt8} (h : WM.fieldsE l = 0) (h2 : (readN (WM.fieldsN l)).2 = true) (h3 : QM.checkE (readN (WM.fieldsN l)).1 ≠ 0) : QM.parE l = QM.checkE (readN (WM.fieldsN l)).1 ∧ QM.parN l = QM.zero := by
  obtain ⟨h4, h5⟩ := rd_yes h2
  rw [h5] at h3 ⊢
  exact QM.par_check h h4 h3
theorem pa_ok {l : List UInt8} (h : WM.fieldsE l = 0) (h2 : (readN (WM.fieldsN l)).2 = true) (h3 : QM.checkE (readN (WM.fieldsN l)).1 = 0) : QM.parE l = 0 ∧ QM.parN l = (readN (WM.fieldsN l)).1 := by
  obtain ⟨h4, h5⟩ := rd_yes h2
  rw [h5] at h3 ⊢
  exact QM.par_ok h h4 h3
theorem int_i64 (l : List UInt8) : i64 (WM.intN l) := by have := WM.int_range l; unfold i64; omega
theorem zero_q : prodQ QM.zero := by
  refine ⟨by decide, ?_, ?_, ?_, ?_, ?_⟩ <;> exact ⟨by decide, by decide⟩
theorem fAt_le {l : List UInt8} (k : Nat) : (QM.fAt (WM.fieldsN l) k).length ≤ l.length := by
  unfold QM.fAt List.getD
  cases h : (WM.fieldsN l)[k]? with
  | none => simp
  | some p => exact WM.fields_le (List.mem_of_getElem? h)
theorem prodOf_q {l : List UInt8} (hs : l.length ≤ 9223372036854775807) : prodQ (QM.prodOf (WM.fieldsN l)) := by
  refine ⟨?_, int_i64 _, int_i64 _, int_i64 _, int_i64 _, int_i64 _⟩
  show (S (QM.fAt (WM.fieldsN l) 0)).size ≤ maxLen
  rw [S_size]
  have := @fAt_le l 0
  unfold maxLen
  omega
theorem read_q {l : List UInt8} (hs : l.length ≤ 9223372036854775807) : prodQ (readN (WM.fieldsN l)).1 := by
  cases h : (readN (WM.fieldsN l)).2
  · rw [(rd_no h).2]; exact zero_q
  · rw [(rd_yes h).2]; exact prodOf_q hs
theorem strs_max {l : List UInt8} (hs : l.length ≤ 9223372036854775807) : ∀ s ∈ strs (WM.fieldsN l), s.size ≤ maxLen := by
  intro s h
  obtain ⟨p, hp, rfl⟩ := List.mem_map.1 h
  rw [S_size]
  have := WM.fields_le hp
  unfold maxLen
  omega

set_option maxHeartbeats 4000000 in
theorem qparse_any (s : ByteArray) (w : World) (hs : s.size ≤ 9223372036854775807) :
    Calls Try.prog 21 #[.string s] w fun e w' => e = .returned (.tuple #[prodA (QM.parN (L s)), .int .i64 (QM.parE (L s))]) ∧ Below w.heap.size w w' := by
  have hl : (L s).length ≤ 9223372036854775807 := by rw [L_len]; exact hs
  have C1 := Lib.hid (fun ww => fields_any s ww hs)
  have K1 := Lib.hid (@pa_bad (L s)); have K2 := Lib.hid (@pa_form (L s)); have K3 := Lib.hid (@pa_check (L s)); have K4 := Lib.hid (@pa_ok (L s))
  have C2 : Hid (∀ A n cap ww, n = (strs (WM.fieldsN (L s))).length → Strs ww A (strs (WM.fieldsN (L s))) → Calls Try.prog 38 #[.slice A n cap] ww fun e w' => e = .returned (.tuple #[prodA (readN (WM.fieldsN (L s))).1, .bool (readN (WM.fieldsN (L s))).2]) ∧ Below ww.heap.size ww w') := Lib.hid (fun A n cap ww hn h => by
    subst hn
    have := qread_any A (strs (WM.fieldsN (L s))) cap ww h
    rw [texts_strs] at this; exact this)
  have C3 := Lib.hid (fun ww => qcheck_any (readN (WM.fieldsN (L s))).1 (read_q hl) ww)
  have HM := Lib.hid (strs_max hl)
  have HB0 := Lib.hid ((Below.refl w.heap.size w).alloc (Nat.le_refl _) (.cells #[.string ⟨#[]⟩, .int .i64 0, .int .i64 0, .int .i64 0, .int .i64 0, .int .i64 0, .bool false] 24))
  have HP0 : Hid (PBox (w.alloc (.cells #[.string ⟨#[]⟩, .int .i64 0, .int .i64 0, .int .i64 0, .int .i64 0, .int .i64 0, .bool false] 24)) w.heap.size QM.zero) := Lib.hid (PBox.new w QM.zero)
  generalize QM.parE (L s) = pe at *
  generalize QM.parN (L s) = pn at *
  generalize strs (WM.fieldsN (L s)) = ls at *
  generalize readN (WM.fieldsN (L s)) = xy at *
  obtain ⟨x, y⟩ := xy
  generalize WM.fieldsE (L s) = fe at *
  generalize QM.checkE x = ce at *
  simp only at K1 K2 K3 K4 C2 C3
  clear hs hl
  go_enter Try.func21, Try.ntmps21
  go_wp2_with fail
  refine (C1.out _).mono ?_
  rintro e w1 ⟨v, rfl, o1, b1⟩
  obtain ⟨A, cap, rfl, hS⟩ := o1.strs HM.out
  have HS := Lib.hid hS
  have HP1 := Lib.hid (HP0.out.below b1 HP0.out.lt)
  have HB1 := Lib.hid (HB0.out.trans (b1.mono HB0.out.size))
  clear o1 b1 hS HB0 HP0 HM
  by_cases hfe : fe = 0
  · subst hfe
    go_wp2_with fail
    refine (C2.out _ _ _ _ rfl HS.out).mono ?_
    rintro e w2 ⟨rfl, b2⟩
    have HP2 := Lib.hid (HP1.out.below b2 HP1.out.lt)
    have HB2 := Lib.hid (HB1.out.trans (b2.mono HB1.out.size))
    clear b2 HP1 HB1 HS
    obtain ⟨c0, c1, c2, c3, c4, c5, c6⟩ := HP2.out.cells
    have f0 := HP2.out.frozen 0; have f1 := HP2.out.frozen 1; have f2 := HP2.out.frozen 2; have f3 := HP2.out.frozen 3; have f4 := HP2.out.frozen 4; have f5 := HP2.out.frozen 5; have f6 := HP2.out.frozen 6
    have HP3 := Lib.hid (HP2.out.put x)
    have HB3 := Lib.hid (PBox.put_below HB2.out (Nat.le_refl _) x)
    cases y
    · have HX := Lib.hid (K2.out (by trivial) (by trivial))
      go_wp2_with fail
      (try simp only [Exit.inBlock, Exit.then])
      refine bodyPost_ret (results_prod rfl _ _ _ _ rfl (HP3.out.put QM.zero)) rfl ⟨?_, PBox.put_below HB3.out (Nat.le_refl _) QM.zero⟩
      rw [HX.out.1, HX.out.2]; rfl
    · go_wp2_with fail
      refine (C3.out _).mono ?_
      rintro e w3 ⟨rfl, b3⟩
      have HP4 := Lib.hid (HP3.out.below b3 HP3.out.lt)
      have HB4 := Lib.hid (HB3.out.trans (b3.mono HB3.out.size))
      clear b3 HP3 HB3 c0 c1 c2 c3 c4 c5 c6 f0 f1 f2 f3 f4 f5 f6
      obtain ⟨c0, c1, c2, c3, c4, c5, c6⟩ := HP4.out.cells
      have f0 := HP4.out.frozen 0; have f1 := HP4.out.frozen 1; have f2 := HP4.out.frozen 2; have f3 := HP4.out.frozen 3; have f4 := HP4.out.frozen 4; have f5 := HP4.out.frozen 5; have f6 := HP4.out.frozen 6
      by_cases hce : ce = 0
      · subst hce
        have HX := Lib.hid (K4.out (by trivial) (by trivial) (by trivial))
        go_wp2_with fail
        (try simp only [Exit.inBlock, Exit.then])
        refine bodyPost_ret (results_prod rfl _ _ _ _ rfl (HP4.out.put x)) rfl ⟨?_, PBox.put_below HB4.out (Nat.le_refl _) x⟩
        rw [HX.out.1, HX.out.2]; rfl
      · have hd : (ce != 0) = true := by simpa using hce
        have HX := Lib.hid (K3.out (by trivial) (by trivial) hce)
        clear hce
        go_wp2_with fail
        (try simp only [Exit.inBlock, Exit.then])
        refine bodyPost_ret (results_prod rfl _ _ _ _ rfl (HP4.out.put QM.zero)) rfl ⟨?_, PBox.put_below HB4.out (Nat.le_refl _) QM.zero⟩
        rw [HX.out.1, HX.out.2]; rfl
  · have hd : (fe != 0) = true := by simpa using hfe
    have HX := Lib.hid (K1.out hfe)
    obtain ⟨c0, c1, c2, c3, c4, c5, c6⟩ := HP1.out.cells
    have f0 := HP1.out.frozen 0; have f1 := HP1.out.frozen 1; have f2 := HP1.out.frozen 2; have f3 := HP1.out.frozen 3; have f4 := HP1.out.frozen 4; have f5 := HP1.out.frozen 5; have f6 := HP1.out.frozen 6
    clear hfe
    go_wp2_with fail
    (try simp only [Exit.inBlock, Exit.then])
    refine bodyPost_ret (results_prod rfl _ _ _ _ rfl (HP1.out.put QM.zero)) rfl ⟨?_, PBox.put_below HB1.out (Nat.le_refl _) QM.zero⟩
    rw [HX.out.1, HX.out.2]; rfl
end Go.Proofs.Ytiohainnpjikpaa

/- Contracts of layer 9: the reference's Parse. -/
namespace Go.Proofs.Ytiohainnpjikpaa
open Go.RowKit Go.Recs
set_option linter.unusedVariables false
set_option linter.unusedSimpArgs false

theorem fAt_get {F : List (List UInt8)} {k : Nat} (h : k < (strs F).length) : L (strs F)[k] = QM.fAt F k := by
  have h2 : k < F.length := by rw [strs_len] at h; exact h
  simp [strs, QM.fAt, List.getD, h2, L_S]
theorem prodOf_is (F : List (List UInt8)) : QM.prodOf F = ⟨S (QM.fAt F 0), WM.intN (QM.fAt F 1), WM.intN (QM.fAt F 2), WM.intN (QM.fAt F 3), WM.intN (QM.fAt F 4), WM.intN (QM.fAt F 5), decide (QM.fAt F 6 = QM.physical)⟩ := rfl

set_option maxHeartbeats 8000000 in
set_option maxRecDepth 100000 in
theorem rqparse_any (s : ByteArray) (w : World) (hs : s.size ≤ 9223372036854775807) :
    Calls Try.prog 22 #[.string s] w fun e w' => e = .returned (.tuple #[prodA (QM.parN (L s)), .int .i64 (QM.parE (L s))]) ∧ Below w.heap.size w w' := by
  have hl : (L s).length ≤ 9223372036854775807 := by rw [L_len]; exact hs
  have C1 := Lib.hid (fun ww => rfields_any s ww hs)
  have K1 := Lib.hid (@pa_bad (L s)); have K2 := Lib.hid (@pa_form (L s)); have K3 := Lib.hid (@pa_check (L s)); have K4 := Lib.hid (@pa_ok (L s))
  have C3 := Lib.hid (fun ww => rqcheck_any (QM.prodOf (WM.fieldsN (L s))) (prodOf_q hl) ww)
  have HM := Lib.hid (strs_max hl)
  have HGF := Lib.hid (fun k h => @fAt_get (WM.fieldsN (L s)) k h)
  have HB0 := Lib.hid ((Below.refl w.heap.size w).alloc (Nat.le_refl _) (.cells #[.string ⟨#[]⟩, .int .i64 0, .int .i64 0, .int .i64 0, .int .i64 0, .int .i64 0, .bool false] 24))
  have HP0 : Hid (PBox (w.alloc (.cells #[.string ⟨#[]⟩, .int .i64 0, .int .i64 0, .int .i64 0, .int .i64 0, .int .i64 0, .bool false] 24)) w.heap.size QM.zero) := Lib.hid (PBox.new w QM.zero)
  have HSL : Hid ((strs (WM.fieldsN (L s))).length = (WM.fieldsN (L s)).length) := Lib.hid (strs_len _)
  generalize QM.parE (L s) = pe at *
  generalize QM.parN (L s) = pn at *
  generalize WM.fieldsE (L s) = fe at *
  generalize WM.fieldsN (L s) = F at *
  have KL := Lib.hid (@read_len F); have KI := Lib.hid (fun k => @read_int F k); have KW := Lib.hid (@read_word F); have KO := Lib.hid (@read_ok F)
  have HFS := Lib.hid (fun k hk => @filled_set F k hk)
  have HFA := Lib.hid (filled_all F)
  have HPO := Lib.hid (prodOf_is F)
  rw [HPO.out] at KO C3
  generalize readN F = xy at *
  generalize hls : strs F = ls at *
  clear hls hs hl
  go_enter Try.func22, Try.ntmps22
  go_wp2_with fail
  refine (C1.out _).mono ?_
  rintro e w1 ⟨v, rfl, o1, b1⟩
  obtain ⟨A, cap, rfl, hS⟩ := o1.strs HM.out
  have hlen := hS.len
  have HS := Lib.hid hS
  have HP1 := Lib.hid (HP0.out.below b1 HP0.out.lt)
  have HB1 := Lib.hid (HB0.out.trans (b1.mono HB0.out.size))
  clear o1 b1 hS HB0 HP0 HM C1
  by_cases hfe : fe = 0
  · subst hfe
    obtain ⟨c0, c1, c2, c3, c4, c5, c6⟩ := HP1.out.cells
    have f0 := HP1.out.frozen 0; have f1 := HP1.out.frozen 1; have f2 := HP1.out.frozen 2; have f3 := HP1.out.frozen 3; have f4 := HP1.out.frozen 4; have f5 := HP1.out.frozen 5; have f6 := HP1.out.frozen 6
    by_cases h7 : ls.length = 7
    · have HL7 := Lib.hid (HSL.out.symm.trans h7)
      obtain ⟨s0, s1, s2, s3, s4, s5, s6, rfl⟩ := seven ls h7
      have HF0 : Hid (QM.fAt F 0 = L s0) := Lib.hid (HGF.out 0 (by show 0 < 7; omega)).symm
      have HF6 : Hid (QM.fAt F 6 = L s6) := Lib.hid (HGF.out 6 (by show 6 < 7; omega)).symm
      obtain ⟨b, off, sx, rfl, hb, _⟩ := HS.out.get (k := 0) (by show 0 < 7; omega)
      clear hlen h7 KL HSL K1
      rw [HF0.out, S_L, HF6.out] at KO C3
      rw [HF6.out] at KW
      obtain ⟨b', off', t6, e', hb1, hc6, HV6, _⟩ := HS.out.get (k := 6) (by show 6 < 7; omega)
      injection e' with e'; injection e' with e1' e2'; subst e1' e2'
      obtain rfl : s6 = t6 := HV6.out
      have hwp := @wordPhys s6
      have hwc := @wordCash s6
      by_cases hn : L s6 ≠ QM.cash ∧ L s6 ≠ QM.physical
      · have HX := Lib.hid (K2.out (by trivial) (by rw [KW.out hn.1 hn.2]))
        rw [decide_eq_false hn.1] at hwc
        rw [decide_eq_false hn.2] at hwp
        have hwe : ¬ s6.toList = [99, 97, 115, 104] := by rw [L_toList]; exact hn.1
        have hwn : ¬ s6.toList = [112, 104, 121, 115, 105, 99, 97, 108] := by rw [L_toList]; exact hn.2
        clear hn
        go_wp2_with fail
        (try simp only [Exit.inBlock, Exit.then])
        refine bodyPost_ret (results_prod rfl _ _ _ _ rfl (HP1.out.put QM.zero)) rfl ⟨?_, PBox.put_below HB1.out (Nat.le_refl _) QM.zero⟩
        rw [HX.out.1, HX.out.2]; rfl
      · have HW6 : Hid (L s6 = QM.cash ∨ L s6 = QM.physical) := Lib.hid (by
          by_cases h1 : L s6 = QM.cash
          · exact .inl h1
          · by_cases h2 : L s6 = QM.physical
            · exact .inr h2
            · exact absurd ⟨h1, h2⟩ hn)
        clear hn KW
        have hone : ∃ ph : Bool, decide (L s6 = QM.physical) = ph ∧ (s6.toList == [112, 104, 121, 115, 105, 99, 97, 108]) = ph ∧ (s6.toList == [99, 97, 115, 104]) = !ph := by
          rcases HW6.out with h | h
          · refine ⟨false, ?_, ?_, ?_⟩
            · rw [h]; decide
            · rw [hwp, h]; decide
            · rw [hwc, h]; decide
          · refine ⟨true, ?_, ?_, ?_⟩
            · rw [h]; decide
            · rw [hwp, h]; decide
            · rw [hwc, h]; decide
        clear hwp hwc
        obtain ⟨ph, hp0, hwp, hwc⟩ := hone
        rw [hp0] at KO C3
        have hwp2 : decide (s6.toList = [112, 104, 121, 115, 105, 99, 97, 108]) = ph := by rw [← hwp, Bool.eq_iff_iff]; simp
        have hwc2 : decide (s6.toList = [99, 97, 115, 104]) = !ph := by rw [← hwc, Bool.eq_iff_iff]; simp
        have HAN := Lib.hid (ARow.new w1)
        have HB2 := Lib.hid ((Below.refl w1.heap.size w1).alloc (Nat.le_refl _) (.cells #[.int .i64 0, .int .i64 0, .int .i64 0, .int .i64 0, .int .i64 0] 64))
        have HAN2 : Hid (ARow (w1.alloc (.cells #[.int .i64 0, .int .i64 0, .int .i64 0, .int .i64 0, .int .i64 0] 64)) w1.heap.size (filled F 0)) := HAN
        clear hp0 HV6 hb hb1 HAN
        cases ph
        · simp only [Bool.not_false, Bool.not_true, decide_eq_true_eq, decide_eq_false_iff_not] at hwc hwc2 hwp2
          go_wp2_with fail
          generalize w1.alloc (.cells #[.int .i64 0, .int .i64 0, .int .i64 0, .int .i64 0, .int .i64 0] 64) = w2 at *
          clear c0 c1 c2 c3 c4 c5 c6 f0 f1 f2 f3 f4 f5 f6 hc6
          go_loopw [7, 8, 9] (fun i _ _ wr => ∃ k : Nat, k ≤ 5 ∧ i = .int .i64 k ∧ Hid (∀ j, j < k → WM.intE (QM.fAt F (j + 1)) = 0) ∧ Hid (ARow wr w1.heap.size (filled F k)) ∧ Hid (Below w1.heap.size w1 wr)) (fun i _ _ _ => 5 - (intOf i).toNat)
          case atStart => exact ⟨0, by omega, rfl, Lib.hid (fun j h => by omega), HAN2, HB2⟩
          case round =>
            clear HAN2 HB2
            obtain ⟨k, hk, rfl, HE, HA, HW⟩ := hrel
            have HP := Lib.hid (HP1.out.below HW.out HP1.out.lt)
            have HWB := Lib.hid (HB1.out.trans (HW.out.mono HB1.out.size))
            by_cases hlt : k < 5
            · obtain ⟨b', off', t, e', hb1, hc, HV, hsz⟩ := (HS.out.below HW.out).get (k := k + 1) (by show k + 1 < 7; omega)
              injection e' with e'; injection e' with e1' e2'; subst e1' e2'
              have HFs : Hid (QM.fAt F (k + 1) = L t) := Lib.hid (by rw [← HGF.out (k + 1) (by show k + 1 < 7; omega), HV.out])
              have C2 := Lib.hid (fun ww => rint_any t ww hsz)
              have HFx := Lib.hid (HFS.out k hlt)
              have HKx := Lib.hid (KI.out k hlt)
              rw [HFs.out] at HFx HKx
              have HEE := Lib.hid (fun (h : WM.intE (L t) = 0) => show (∀ j, j < k + 1 → WM.intE (QM.fAt F (j + 1)) = 0) from fun j hj => by
                rcases Nat.lt_or_ge j k with g | g
                · exact HE.out j g
                · obtain rfl : j = k := by omega
                  rw [HFs.out]; exact h)
              generalize WM.intE (L t) = ie at *
              generalize WM.intN (L t) = inn at *
              clear HFs HV hsz
              go_wp2_with fail
              refine (C2.out _).mono ?_
              rintro e w3 ⟨rfl, rfl⟩
              by_cases hie : ie = 0
              · subst hie
                have HE2 := Lib.hid (HEE.out rfl)
                have hfk : k < (filled F k).length := hlt
                have a1 := HA.out.cell k hfk
                have a2 := HA.out.frozen k
                have HA4 := Lib.hid (HA.out.set_ k inn)
                rw [HFx.out] at HA4
                have HW4 := Lib.hid (HW.out.setCell (p := ⟨w1.heap.size, k, none⟩) (Nat.le_refl _) (.int .i64 inn))
                clear hfk hc
                go_wp2_with fail
                go_roundw
                case rel => exact ⟨k + 1, by omega, by go_num, HE2, HA4, HW4⟩
                case measure => simp [intOf]; omega
              · have hd : (ie != 0) = true := by simpa using hie
                have HX := Lib.hid (K2.out (by trivial) (by rw [HKx.out hie]))
                clear hie hc
                obtain ⟨c0, c1, c2, c3, c4, c5, c6⟩ := HP.out.cells
                have f0 := HP.out.frozen 0; have f1 := HP.out.frozen 1; have f2 := HP.out.frozen 2; have f3 := HP.out.frozen 3; have f4 := HP.out.frozen 4; have f5 := HP.out.frozen 5; have f6 := HP.out.frozen 6
                go_wp2_with fail
                (try simp only [Exit.inBlock, Exit.then])
                refine bodyPost_ret (results_prod rfl _ _ _ _ rfl (HP.out.put QM.zero)) rfl ⟨?_, PBox.put_below HWB.out (Nat.le_refl _) QM.zero⟩
                rw [HX.out.1, HX.out.2]; rfl
            · obtain rfl : k = 5 := by omega
              rw [HFA.out] at HA
              have HX0 := Lib.hid (KO.out HL7.out HW6.out HE.out)
              obtain ⟨b', off', t0, e', hb1, hc0, HV0, _⟩ := (HS.out.below HW.out).get (k := 0) (by show 0 < 7; omega)
              injection e' with e'; injection e' with e1' e2'; subst e1' e2'
              obtain rfl : s0 = t0 := HV0.out
              obtain ⟨b', off', t6, e', hb1, hc6, HV6, _⟩ := (HS.out.below HW.out).get (k := 6) (by show 6 < 7; omega)
              injection e' with e'; injection e' with e1' e2'; subst e1' e2'
              obtain rfl : s6 = t6 := HV6.out
              have a0 : wr.cell? ⟨w1.heap.size, 0, none⟩ = some (.int .i64 (WM.intN (QM.fAt F 1))) := HA.out.cell 0 (by show 0 < 5; omega)
              have a1 : wr.cell? ⟨w1.heap.size, 1, none⟩ = some (.int .i64 (WM.intN (QM.fAt F 2))) := HA.out.cell 1 (by show 1 < 5; omega)
              have a2 : wr.cell? ⟨w1.heap.size, 2, none⟩ = some (.int .i64 (WM.intN (QM.fAt F 3))) := HA.out.cell 2 (by show 2 < 5; omega)
              have a3 : wr.cell? ⟨w1.heap.size, 3, none⟩ = some (.int .i64 (WM.intN (QM.fAt F 4))) := HA.out.cell 3 (by show 3 < 5; omega)
              have a4 : wr.cell? ⟨w1.heap.size, 4, none⟩ = some (.int .i64 (WM.intN (QM.fAt F 5))) := HA.out.cell 4 (by show 4 < 5; omega)
              have hc0' : wr.cell? ⟨b, off, none⟩ = some (.string s0) := hc0
              generalize WM.intN (QM.fAt F 1) = n1 at *
              generalize WM.intN (QM.fAt F 2) = n2 at *
              generalize WM.intN (QM.fAt F 3) = n3 at *
              generalize WM.intN (QM.fAt F 4) = n4 at *
              generalize WM.intN (QM.fAt F 5) = n5 at *
              rw [HX0.out] at K3 K4
              clear KO K2 HV0 HV6 HGF HFS HFA HPO KI HX0
              go_wp2_with fail
              have hgl : w1.heap.size < wr.heap.size := HA.out.lt
              have HSF : Hid (∀ ww, Below wr.heap.size wr ww → ww.cell? ⟨b, off, none⟩ = some (.string s0) ∧ ww.cell? ⟨b, off + 6, none⟩ = some (.string s6) ∧ ww.cell? ⟨w1.heap.size, 0, none⟩ = some (.int .i64 n1) ∧ ww.cell? ⟨w1.heap.size, 1, none⟩ = some (.int .i64 n2) ∧ ww.cell? ⟨w1.heap.size, 2, none⟩ = some (.int .i64 n3) ∧ ww.cell? ⟨w1.heap.size, 3, none⟩ = some (.int .i64 n4) ∧ ww.cell? ⟨w1.heap.size, 4, none⟩ = some (.int .i64 n5)) := Lib.hid (fun ww h =>
                ⟨(h.cell (p := ⟨b, off, none⟩) hb1).trans hc0', (h.cell (p := ⟨b, off + 6, none⟩) hb1).trans hc6, (h.cell (p := ⟨w1.heap.size, 0, none⟩) hgl).trans a0, (h.cell (p := ⟨w1.heap.size, 1, none⟩) hgl).trans a1, (h.cell (p := ⟨w1.heap.size, 2, none⟩) hgl).trans a2, (h.cell (p := ⟨w1.heap.size, 3, none⟩) hgl).trans a3, (h.cell (p := ⟨w1.heap.size, 4, none⟩) hgl).trans a4⟩)
              have HBw : Hid (Below wr.heap.size wr wr.drew) := Lib.hid (Below.refl _ _).drew
              clear hgl
              go_region_held3 (fun ww => ww.cell? ⟨b, off, none⟩ = some (.string s0) ∧ ww.cell? ⟨b, off + 6, none⟩ = some (.string s6) ∧ ww.cell? ⟨w1.heap.size, 0, none⟩ = some (.int .i64 n1) ∧ ww.cell? ⟨w1.heap.size, 1, none⟩ = some (.int .i64 n2) ∧ ww.cell? ⟨w1.heap.size, 2, none⟩ = some (.int .i64 n3) ∧ ww.cell? ⟨w1.heap.size, 3, none⟩ = some (.int .i64 n4) ∧ ww.cell? ⟨w1.heap.size, 4, none⟩ = some (.int .i64 n5))
                (first | exact HSF.out _ HBw.out | exact HSF.out _ (HBw.out.alloc HBw.out.size _) | exact HSF.out _ (((((((((HBw.out.alloc HBw.out.size _).setCell (Nat.le_refl _) _).setCell (Nat.le_refl _) _).setCell (Nat.le_refl _) _).setCell (Nat.le_refl _) _).setCell (Nat.le_refl _) _).setCell (Nat.le_refl _) _).setCell (Nat.le_refl _) _)))
                (fail)
              all_goals (
                clear HSF HBw a0 a1 a2 a3 a4 hc0 hc0' hc6 hb1
                go_wp2_with fail
                refine (C3.out _).mono ?_
                rintro e w4 ⟨rfl, b4⟩
                have hbx := ((Below.refl wr.heap.size wr).alloc (Nat.le_refl _) (.cells #[.string s0, .int .i64 n1, .int .i64 n2, .int .i64 n3, .int .i64 n4, .int .i64 n5, .bool false] 24)).drew.trans (b4.mono (by simp))
                have HP4 := Lib.hid (HP.out.below hbx HP.out.lt)
                have HB4 := Lib.hid (HWB.out.trans (hbx.mono HWB.out.size))
                have HQ4 : Hid (PBox w4 wr.heap.size ⟨s0, n1, n2, n3, n4, n5, false⟩) := Lib.hid ((PBox.new wr ⟨s0, n1, n2, n3, n4, n5, false⟩).drew.below b4 (by simp))
                clear b4 hbx HP HWB
                obtain ⟨c0, c1, c2, c3, c4, c5, c6⟩ := HP4.out.cells
                have f0 := HP4.out.frozen 0; have f1 := HP4.out.frozen 1; have f2 := HP4.out.frozen 2; have f3 := HP4.out.frozen 3; have f4 := HP4.out.frozen 4; have f5 := HP4.out.frozen 5; have f6 := HP4.out.frozen 6
                generalize QM.checkE ⟨s0, n1, n2, n3, n4, n5, false⟩ = ce at *
                by_cases hce : ce = 0
                · subst hce
                  have HX := Lib.hid (K4.out (by trivial) (by trivial) (by trivial))
                  obtain ⟨d0, d1, d2, d3, d4, d5, d6⟩ := HQ4.out.cells
                  go_wp2_with fail
                  (try simp only [Exit.inBlock, Exit.then])
                  refine bodyPost_ret (results_prod rfl _ _ _ _ rfl (HP4.out.put ⟨s0, n1, n2, n3, n4, n5, false⟩)) rfl ⟨?_, PBox.put_below HB4.out (Nat.le_refl _) ⟨s0, n1, n2, n3, n4, n5, false⟩⟩
                  rw [HX.out.1, HX.out.2]; rfl
                · have hd : (ce != 0) = true := by simpa using hce
                  have HX := Lib.hid (K3.out (by trivial) (by trivial) hce)
                  clear hce
                  go_wp2_with fail
                  (try simp only [Exit.inBlock, Exit.then])
                  refine bodyPost_ret (results_prod rfl _ _ _ _ rfl (HP4.out.put QM.zero)) rfl ⟨?_, PBox.put_below HB4.out (Nat.le_refl _) QM.zero⟩
                  rw [HX.out.1, HX.out.2]; rfl)
        · simp only [Bool.not_false, Bool.not_true, decide_eq_true_eq, decide_eq_false_iff_not] at hwc hwc2 hwp2
          go_wp2_with fail
          generalize w1.alloc (.cells #[.int .i64 0, .int .i64 0, .int .i64 0, .int .i64 0, .int .i64 0] 64) = w2 at *
          clear c0 c1 c2 c3 c4 c5 c6 f0 f1 f2 f3 f4 f5 f6 hc6
          go_loopw [7, 8, 9] (fun i _ _ wr => ∃ k : Nat, k ≤ 5 ∧ i = .int .i64 k ∧ Hid (∀ j, j < k → WM.intE (QM.fAt F (j + 1)) = 0) ∧ Hid (ARow wr w1.heap.size (filled F k)) ∧ Hid (Below w1.heap.size w1 wr)) (fun i _ _ _ => 5 - (intOf i).toNat)
          case atStart => exact ⟨0, by omega, rfl, Lib.hid (fun j h => by omega), HAN2, HB2⟩
          case round =>
            clear HAN2 HB2
            obtain ⟨k, hk, rfl, HE, HA, HW⟩ := hrel
            have HP := Lib.hid (HP1.out.below HW.out HP1.out.lt)
            have HWB := Lib.hid (HB1.out.trans (HW.out.mono HB1.out.size))
            by_cases hlt : k < 5
            · obtain ⟨b', off', t, e', hb1, hc, HV, hsz⟩ := (HS.out.below HW.out).get (k := k + 1) (by show k + 1 < 7; omega)
              injection e' with e'; injection e' with e1' e2'; subst e1' e2'
              have HFs : Hid (QM.fAt F (k + 1) = L t) := Lib.hid (by rw [← HGF.out (k + 1) (by show k + 1 < 7; omega), HV.out])
              have C2 := Lib.hid (fun ww => rint_any t ww hsz)
              have HFx := Lib.hid (HFS.out k hlt)
              have HKx := Lib.hid (KI.out k hlt)
              rw [HFs.out] at HFx HKx
              have HEE := Lib.hid (fun (h : WM.intE (L t) = 0) => show (∀ j, j < k + 1 → WM.intE (QM.fAt F (j + 1)) = 0) from fun j hj => by
                rcases Nat.lt_or_ge j k with g | g
                · exact HE.out j g
                · obtain rfl : j = k := by omega
                  rw [HFs.out]; exact h)
              generalize WM.intE (L t) = ie at *
              generalize WM.intN (L t) = inn at *
              clear HFs HV hsz
              go_wp2_with fail
              refine (C2.out _).mono ?_
              rintro e w3 ⟨rfl, rfl⟩
              by_cases hie : ie = 0
              · subst hie
                have HE2 := Lib.hid (HEE.out rfl)
                have hfk : k < (filled F k).length := hlt
                have a1 := HA.out.cell k hfk
                have a2 := HA.out.frozen k
                have HA4 := Lib.hid (HA.out.set_ k inn)
                rw [HFx.out] at HA4
                have HW4 := Lib.hid (HW.out.setCell (p := ⟨w1.heap.size, k, none⟩) (Nat.le_refl _) (.int .i64 inn))
                clear hfk hc
                go_wp2_with fail
                go_roundw
                case rel => exact ⟨k + 1, by omega, by go_num, HE2, HA4, HW4⟩
                case measure => simp [intOf]; omega
              · have hd : (ie != 0) = true := by simpa using hie
                have HX := Lib.hid (K2.out (by trivial) (by rw [HKx.out hie]))
                clear hie hc
                obtain ⟨c0, c1, c2, c3, c4, c5, c6⟩ := HP.out.cells
                have f0 := HP.out.frozen 0; have f1 := HP.out.frozen 1; have f2 := HP.out.frozen 2; have f3 := HP.out.frozen 3; have f4 := HP.out.frozen 4; have f5 := HP.out.frozen 5; have f6 := HP.out.frozen 6
                go_wp2_with fail
                (try simp only [Exit.inBlock, Exit.then])
                refine bodyPost_ret (results_prod rfl _ _ _ _ rfl (HP.out.put QM.zero)) rfl ⟨?_, PBox.put_below HWB.out (Nat.le_refl _) QM.zero⟩
                rw [HX.out.1, HX.out.2]; rfl
            · obtain rfl : k = 5 := by omega
              rw [HFA.out] at HA
              have HX0 := Lib.hid (KO.out HL7.out HW6.out HE.out)
              obtain ⟨b', off', t0, e', hb1, hc0, HV0, _⟩ := (HS.out.below HW.out).get (k := 0) (by show 0 < 7; omega)
              injection e' with e'; injection e' with e1' e2'; subst e1' e2'
              obtain rfl : s0 = t0 := HV0.out
              obtain ⟨b', off', t6, e', hb1, hc6, HV6, _⟩ := (HS.out.below HW.out).get (k := 6) (by show 6 < 7; omega)
              injection e' with e'; injection e' with e1' e2'; subst e1' e2'
              obtain rfl : s6 = t6 := HV6.out
              have a0 : wr.cell? ⟨w1.heap.size, 0, none⟩ = some (.int .i64 (WM.intN (QM.fAt F 1))) := HA.out.cell 0 (by show 0 < 5; omega)
              have a1 : wr.cell? ⟨w1.heap.size, 1, none⟩ = some (.int .i64 (WM.intN (QM.fAt F 2))) := HA.out.cell 1 (by show 1 < 5; omega)
              have a2 : wr.cell? ⟨w1.heap.size, 2, none⟩ = some (.int .i64 (WM.intN (QM.fAt F 3))) := HA.out.cell 2 (by show 2 < 5; omega)
              have a3 : wr.cell? ⟨w1.heap.size, 3, none⟩ = some (.int .i64 (WM.intN (QM.fAt F 4))) := HA.out.cell 3 (by show 3 < 5; omega)
              have a4 : wr.cell? ⟨w1.heap.size, 4, none⟩ = some (.int .i64 (WM.intN (QM.fAt F 5))) := HA.out.cell 4 (by show 4 < 5; omega)
              have hc0' : wr.cell? ⟨b, off, none⟩ = some (.string s0) := hc0
              generalize WM.intN (QM.fAt F 1) = n1 at *
              generalize WM.intN (QM.fAt F 2) = n2 at *
              generalize WM.intN (QM.fAt F 3) = n3 at *
              generalize WM.intN (QM.fAt F 4) = n4 at *
              generalize WM.intN (QM.fAt F 5) = n5 at *
              rw [HX0.out] at K3 K4
              clear KO K2 HV0 HV6 HGF HFS HFA HPO KI HX0
              go_wp2_with fail
              have hgl : w1.heap.size < wr.heap.size := HA.out.lt
              have HSF : Hid (∀ ww, Below wr.heap.size wr ww → ww.cell? ⟨b, off, none⟩ = some (.string s0) ∧ ww.cell? ⟨b, off + 6, none⟩ = some (.string s6) ∧ ww.cell? ⟨w1.heap.size, 0, none⟩ = some (.int .i64 n1) ∧ ww.cell? ⟨w1.heap.size, 1, none⟩ = some (.int .i64 n2) ∧ ww.cell? ⟨w1.heap.size, 2, none⟩ = some (.int .i64 n3) ∧ ww.cell? ⟨w1.heap.size, 3, none⟩ = some (.int .i64 n4) ∧ ww.cell? ⟨w1.heap.size, 4, none⟩ = some (.int .i64 n5)) := Lib.hid (fun ww h =>
                ⟨(h.cell (p := ⟨b, off, none⟩) hb1).trans hc0', (h.cell (p := ⟨b, off + 6, none⟩) hb1).trans hc6, (h.cell (p := ⟨w1.heap.size, 0, none⟩) hgl).trans a0, (h.cell (p := ⟨w1.heap.size, 1, none⟩) hgl).trans a1, (h.cell (p := ⟨w1.heap.size, 2, none⟩) hgl).trans a2, (h.cell (p := ⟨w1.heap.size, 3, none⟩) hgl).trans a3, (h.cell (p := ⟨w1.heap.size, 4, none⟩) hgl).trans a4⟩)
              have HBw : Hid (Below wr.heap.size wr wr.drew) := Lib.hid (Below.refl _ _).drew
              clear hgl
              go_region_held3 (fun ww => ww.cell? ⟨b, off, none⟩ = some (.string s0) ∧ ww.cell? ⟨b, off + 6, none⟩ = some (.string s6) ∧ ww.cell? ⟨w1.heap.size, 0, none⟩ = some (.int .i64 n1) ∧ ww.cell? ⟨w1.heap.size, 1, none⟩ = some (.int .i64 n2) ∧ ww.cell? ⟨w1.heap.size, 2, none⟩ = some (.int .i64 n3) ∧ ww.cell? ⟨w1.heap.size, 3, none⟩ = some (.int .i64 n4) ∧ ww.cell? ⟨w1.heap.size, 4, none⟩ = some (.int .i64 n5))
                (first | exact HSF.out _ HBw.out | exact HSF.out _ (HBw.out.alloc HBw.out.size _) | exact HSF.out _ (((((((((HBw.out.alloc HBw.out.size _).setCell (Nat.le_refl _) _).setCell (Nat.le_refl _) _).setCell (Nat.le_refl _) _).setCell (Nat.le_refl _) _).setCell (Nat.le_refl _) _).setCell (Nat.le_refl _) _).setCell (Nat.le_refl _) _)))
                (fail)
              all_goals (
                clear HSF HBw a0 a1 a2 a3 a4 hc0 hc0' hc6 hb1
                go_wp2_with fail
                refine (C3.out _).mono ?_
                rintro e w4 ⟨rfl, b4⟩
                have hbx := ((Below.refl wr.heap.size wr).alloc (Nat.le_refl _) (.cells #[.string s0, .int .i64 n1, .int .i64 n2, .int .i64 n3, .int .i64 n4, .int .i64 n5, .bool true] 24)).drew.trans (b4.mono (by simp))
                have HP4 := Lib.hid (HP.out.below hbx HP.out.lt)
                have HB4 := Lib.hid (HWB.out.trans (hbx.mono HWB.out.size))
                have HQ4 : Hid (PBox w4 wr.heap.size ⟨s0, n1, n2, n3, n4, n5, true⟩) := Lib.hid ((PBox.new wr ⟨s0, n1, n2, n3, n4, n5, true⟩).drew.below b4 (by simp))
                clear b4 hbx HP HWB
                obtain ⟨c0, c1, c2, c3, c4, c5, c6⟩ := HP4.out.cells
                have f0 := HP4.out.frozen 0; have f1 := HP4.out.frozen 1; have f2 := HP4.out.frozen 2; have f3 := HP4.out.frozen 3; have f4 := HP4.out.frozen 4; have f5 := HP4.out.frozen 5; have f6 := HP4.out.frozen 6
                generalize QM.checkE ⟨s0, n1, n2, n3, n4, n5, true⟩ = ce at *
                by_cases hce : ce = 0
                · subst hce
                  have HX := Lib.hid (K4.out (by trivial) (by trivial) (by trivial))
                  obtain ⟨d0, d1, d2, d3, d4, d5, d6⟩ := HQ4.out.cells
                  go_wp2_with fail
                  (try simp only [Exit.inBlock, Exit.then])
                  refine bodyPost_ret (results_prod rfl _ _ _ _ rfl (HP4.out.put ⟨s0, n1, n2, n3, n4, n5, true⟩)) rfl ⟨?_, PBox.put_below HB4.out (Nat.le_refl _) ⟨s0, n1, n2, n3, n4, n5, true⟩⟩
                  rw [HX.out.1, HX.out.2]; rfl
                · have hd : (ce != 0) = true := by simpa using hce
                  have HX := Lib.hid (K3.out (by trivial) (by trivial) hce)
                  clear hce
                  go_wp2_with fail
                  (try simp only [Exit.inBlock, Exit.then])
                  refine bodyPost_ret (results_prod rfl _ _ _ _ rfl (HP4.out.put QM.zero)) rfl ⟨?_, PBox.put_below HB4.out (Nat.le_refl _) QM.zero⟩
                  rw [HX.out.1, HX.out.2]; rfl)
    · have h7i : ((ls.length : Int) != 7) = true := by rw [bne, beq_f (by omega)]; rfl
      have HX := Lib.hid (K2.out (by trivial) (by rw [KL.out (by rw [← HSL.out]; exact h7)]))
      clear K1 K2 K3 K4 KI KW KO HFS HFA HPO C3 HGF HSL
      go_wp2_with fail
      (try simp only [Exit.inBlock, Exit.then])
      refine bodyPost_ret (results_prod rfl _ _ _ _ rfl (HP1.out.put QM.zero)) rfl ⟨?_, PBox.put_below HB1.out (Nat.le_refl _) QM.zero⟩
      rw [HX.out.1, HX.out.2]; rfl
  · have hd : (fe != 0) = true := by simpa using hfe
    have HX := Lib.hid (K1.out hfe)
    obtain ⟨c0, c1, c2, c3, c4, c5, c6⟩ := HP1.out.cells
    have f0 := HP1.out.frozen 0; have f1 := HP1.out.frozen 1; have f2 := HP1.out.frozen 2; have f3 := HP1.out.frozen 3; have f4 := HP1.out.frozen 4; have f5 := HP1.out.frozen 5; have f6 := HP1.out.frozen 6
    clear hfe
    go_wp2_with fail
    (try simp only [Exit.inBlock, Exit.then])
    refine bodyPost_ret (results_prod rfl _ _ _ _ rfl (HP1.out.put QM.zero)) rfl ⟨?_, PBox.put_below HB1.out (Nat.le_refl _) QM.zero⟩
    rw [HX.out.1, HX.out.2]; rfl
end Go.Proofs.Ytiohainnpjikpaa

/- Contract: layer 9's examples hold. -/
namespace Go.Proofs.Ytiohainnpjikpaa
open Go.RowKit Go.Recs
set_option linter.unusedVariables false

def oilP : QM.Prod := ⟨⟨#[111, 105, 108]⟩, 0, 100, 5, -50, 1000, false⟩
theorem oil_check : QM.checkE oilP = 0 := by decide
theorem oil_q : prodQ oilP := by
  refine ⟨by decide, ?_, ?_, ?_, ?_, ?_⟩ <;> exact ⟨by decide, by decide⟩
theorem dec_100 : WM.dec 100 = [49, 48, 48] := by rw [WM.dec_big (by decide), WM.dec_big (by decide), WM.dec_small (by decide)]; rfl
theorem dec_1000 : WM.dec 1000 = [49, 48, 48, 48] := by rw [WM.dec_big (by decide), WM.dec_big (by decide), WM.dec_big (by decide), WM.dec_small (by decide)]; rfl
theorem dec_50 : WM.dec 50 = [53, 48] := by rw [WM.dec_big (by decide), WM.dec_small (by decide)]; rfl
theorem dec_5 : WM.dec 5 = [53] := by rw [WM.dec_small (by decide)]; rfl
theorem dec_0 : WM.dec 0 = [48] := by rw [WM.dec_small (by decide)]; rfl
theorem oil_line : QM.printL oilP = [111, 105, 108, 32, 48, 32, 49, 48, 48, 32, 53, 32, 45, 53, 48, 32, 49, 48, 48, 48, 32, 99, 97, 115, 104] := by
  have e1 : WM.textL oilP.cur = [48] := by show WM.dec 0 = _; exact dec_0
  have e2 : WM.textL oilP.mult = [49, 48, 48] := by show WM.dec 100 = _; exact dec_100
  have e3 : WM.textL oilP.tick = [53] := by show WM.dec 5 = _; exact dec_5
  have e4 : WM.textL oilP.low = [45, 53, 48] := by show 45 :: WM.dec 50 = _; rw [dec_50]
  have e5 : WM.textL oilP.high = [49, 48, 48, 48] := by show WM.dec 1000 = _; exact dec_1000
  unfold QM.printL QM.fieldsOf
  rw [e1, e2, e3, e4, e5]
  rfl
theorem oil_par : QM.parE [111, 105, 108, 32, 48, 32, 49, 48, 48, 32, 53, 32, 45, 53, 48, 32, 49, 48, 48, 48, 32, 99, 97, 115, 104] = 0 ∧ QM.parN [111, 105, 108, 32, 48, 32, 49, 48, 48, 32, 53, 32, 45, 53, 48, 32, 49, 48, 48, 48, 32, 99, 97, 115, 104] = oilP := by
  rw [← oil_line]; exact QM.par_print oil_check
theorem oil_r1 : QM.roundN oilP 13 5 = 15 ∧ QM.roundE oilP 13 5 = 0 := by decide
theorem oil_r2 : QM.roundN oilP 2000 1 = 1000 ∧ QM.roundE oilP 2000 1 = 0 := by decide
theorem oil_v : QM.valueN oilP 15 (-2) = -3000 ∧ QM.valueE oilP 15 (-2) = 0 := by decide
theorem oil_p : QM.priceE oilP 15 = 0 ∧ QM.priceE oilP 12 = 16 := by decide

theorem results_prod1 {fn : Func} {p : Tmp} (h : fn.results = #[.cell p 24]) (tmps : Array Value) (w : World) (g : Nat) (x : QM.Prod)
    (hp : tmps.getD p undef = .pointer (some ⟨g, 0, none⟩)) (hb : PBox w g x) : (results fn tmps).run Try.prog w = .ok (prodA x) w :=
  results_cell_row h tmps w g 24 _ (0, 0) _ hp hb prod_under rfl prod_size
theorem oil_any (w : World) : Calls Try.prog 32 #[] w fun e w' => e = .returned (prodA oilP) ∧ Below w.heap.size w w' := by
  have HB := Lib.hid ((Below.refl w.heap.size w).alloc (Nat.le_refl _) (.cells #[.string ⟨#[111, 105, 108]⟩, .int .i64 0, .int .i64 100, .int .i64 5, .int .i64 (-50), .int .i64 1000, .bool false] 24))
  have HP : Hid (PBox (w.alloc (.cells #[.string ⟨#[111, 105, 108]⟩, .int .i64 0, .int .i64 100, .int .i64 5, .int .i64 (-50), .int .i64 1000, .bool false] 24)) w.heap.size oilP) := Lib.hid (PBox.new w oilP)
  go_enter Try.func32, Try.ntmps32
  go_wp2_with fail
  (try simp only [Exit.inBlock, Exit.then])
  refine bodyPost_ret (results_prod1 rfl _ _ _ _ rfl HP.out) rfl ⟨rfl, HB.out⟩

set_option maxHeartbeats 8000000 in
set_option maxRecDepth 100000 in
theorem goes9_any (w : World) : Calls Try.prog 14 #[] w fun e w' => e = .returned (.bool true) ∧ Below w.heap.size w w' := by
  have P1 := fun ww => qparse_any ⟨#[111, 105, 108, 32, 48, 32, 49, 48, 48, 32, 53, 32, 45, 53, 48, 32, 49, 48, 48, 48, 32, 99, 97, 115, 104]⟩ ww (by show 25 ≤ _; omega)
  have eL : L ⟨#[111, 105, 108, 32, 48, 32, 49, 48, 48, 32, 53, 32, 45, 53, 48, 32, 49, 48, 48, 48, 32, 99, 97, 115, 104]⟩ = [111, 105, 108, 32, 48, 32, 49, 48, 48, 32, 53, 32, 45, 53, 48, 32, 49, 48, 48, 48, 32, 99, 97, 115, 104] := rfl
  rw [eL, oil_par.1, oil_par.2] at P1
  have R1 := fun ww => qround_any oilP 13 5 oil_q ww
  rw [oil_r1.1, oil_r1.2] at R1
  have R2 := fun ww => qround_any oilP 2000 1 oil_q ww
  rw [oil_r2.1, oil_r2.2] at R2
  have V1 := fun ww => qvalue_any oilP 15 (-2) oil_q ww
  rw [oil_v.1, oil_v.2] at V1
  have PR := fun ww => qprint_any oilP oil_q (by decide) ww
  have eP : S (QM.printL oilP) = ⟨#[111, 105, 108, 32, 48, 32, 49, 48, 48, 32, 53, 32, 45, 53, 48, 32, 49, 48, 48, 48, 32, 99, 97, 115, 104]⟩ := by rw [oil_line]; rfl
  rw [eP] at PR
  have C1 := fun ww => qprice_any oilP 15 oil_q ww
  rw [oil_p.1] at C1
  have C2 := fun ww => qprice_any oilP 12 oil_q ww
  rw [oil_p.2] at C2
  have OI := oil_any
  have E1 : ∀ ww, (Op.equalIn 10000 24 (prodA oilP) (prodA oilP)).run Try.prog ww = .ok true ww := fun ww => by rw [prod_in, peq_iff.2 rfl]
  have hgd := prod_guard
  have HP1 := Lib.hid P1; have HR1 := Lib.hid R1; have HR2 := Lib.hid R2; have HV1 := Lib.hid V1; have HPR := Lib.hid PR; have HC1 := Lib.hid C1; have HC2 := Lib.hid C2; have HOI := Lib.hid OI
  clear P1 R1 R2 V1 PR C1 C2 OI eL eP
  generalize oilP = o at *
  go_enter Try.func14, Try.ntmps14
  go_wp2_with fail
  refine (HP1.out _).mono ?_
  rintro e w1 ⟨rfl, b1⟩
  have HB1 := Lib.hid b1
  have HB2 := Lib.hid (b1.alloc b1.size (.cells #[.string o.name, .int .i64 o.cur, .int .i64 o.mult, .int .i64 o.tick, .int .i64 o.low, .int .i64 o.high, .bool o.phys] 24))
  have HP2 := Lib.hid (PBox.new w1 o)
  clear b1 HB1 HP1
  go_wp2_with fail
  generalize w1.alloc (.cells #[.string o.name, .int .i64 o.cur, .int .i64 o.mult, .int .i64 o.tick, .int .i64 o.low, .int .i64 o.high, .bool o.phys] 24) = w2 at *
  refine (HR1.out _).mono ?_
  rintro e w3 ⟨rfl, b3⟩
  have HP3 := Lib.hid (HP2.out.below b3 HP2.out.lt)
  have HB3 := Lib.hid (HB2.out.trans (b3.mono HB2.out.size))
  obtain ⟨c0, c1, c2, c3, c4, c5, c6⟩ := HP3.out.cells
  clear b3 HP2 HB2
  go_wp2_with fail
  refine (HR2.out _).mono ?_
  rintro e w4 ⟨rfl, b4⟩
  have HP4 := Lib.hid (HP3.out.below b4 HP3.out.lt)
  have HB4 := Lib.hid (HB3.out.trans (b4.mono HB3.out.size))
  clear c0 c1 c2 c3 c4 c5 c6
  obtain ⟨c0, c1, c2, c3, c4, c5, c6⟩ := HP4.out.cells
  clear b4 HP3 HB3
  go_wp2_with fail
  refine (HV1.out _).mono ?_
  rintro e w5 ⟨rfl, b5⟩
  have HP5 := Lib.hid (HP4.out.below b5 HP4.out.lt)
  have HB5 := Lib.hid (HB4.out.trans (b5.mono HB4.out.size))
  clear c0 c1 c2 c3 c4 c5 c6
  have HSF : Hid (∀ ww, Below w5.heap.size w5 ww → (ww.cell? ⟨w1.heap.size, 0, none⟩ = some (.string o.name) ∧ ww.cell? ⟨w1.heap.size, 1, none⟩ = some (.int .i64 o.cur) ∧ ww.cell? ⟨w1.heap.size, 2, none⟩ = some (.int .i64 o.mult) ∧ ww.cell? ⟨w1.heap.size, 3, none⟩ = some (.int .i64 o.tick) ∧
    ww.cell? ⟨w1.heap.size, 4, none⟩ = some (.int .i64 o.low) ∧ ww.cell? ⟨w1.heap.size, 5, none⟩ = some (.int .i64 o.high) ∧ ww.cell? ⟨w1.heap.size, 6, none⟩ = some (.bool o.phys))) := Lib.hid (fun ww h => (HP5.out.below h HP5.out.lt).cells)
  have HBw : Hid (Below w5.heap.size w5 w5.drew) := Lib.hid (Below.refl _ _).drew
  clear b5 HP4 HB4
  go_wp2_with fail
  go_region_held3 (fun ww => ww.cell? ⟨w1.heap.size, 0, none⟩ = some (.string o.name) ∧ ww.cell? ⟨w1.heap.size, 1, none⟩ = some (.int .i64 o.cur) ∧ ww.cell? ⟨w1.heap.size, 2, none⟩ = some (.int .i64 o.mult) ∧ ww.cell? ⟨w1.heap.size, 3, none⟩ = some (.int .i64 o.tick) ∧
    ww.cell? ⟨w1.heap.size, 4, none⟩ = some (.int .i64 o.low) ∧ ww.cell? ⟨w1.heap.size, 5, none⟩ = some (.int .i64 o.high) ∧ ww.cell? ⟨w1.heap.size, 6, none⟩ = some (.bool o.phys))
    (exact HSF.out _ HBw.out)
    (first
      | (go_at_call 32; refine (HOI.out _).mono ?_; rintro e w6 ⟨rfl, b6⟩; replace HBw := Lib.hid (HBw.out.trans (b6.mono HBw.out.size)); clear b6)
      | (go_at_call 23; refine (HPR.out _).mono ?_; rintro e w6 ⟨rfl, b6⟩; replace HBw := Lib.hid (HBw.out.trans (b6.mono HBw.out.size)); clear b6)
      | (go_at_call 19; with_reducible refine (HC1.out _).mono ?_; rintro e w6 ⟨rfl, b6⟩; replace HBw := Lib.hid (HBw.out.trans (b6.mono HBw.out.size)); clear b6)
      | (go_at_call 19; with_reducible refine (HC2.out _).mono ?_; rintro e w6 ⟨rfl, b6⟩; replace HBw := Lib.hid (HBw.out.trans (b6.mono HBw.out.size)); clear b6))
  all_goals (
    clear HSF HOI HPR HC1 HC2
    have HBF := Lib.hid (HB5.out.trans (HBw.out.mono HB5.out.size))
    go_wp2_with fail
    go_ret
    exact ⟨rfl, HBF.out⟩)
end Go.Proofs.Ytiohainnpjikpaa
