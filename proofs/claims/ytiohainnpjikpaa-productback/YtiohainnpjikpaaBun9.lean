/- Put together: ProdI, ProdK, WProductBack, SizedRec. -/
import Derived.Test.YtiohainnpjikpaaBun8
import Derived.Test.YtiohainnpjikpaaBun5
import Derived.Test.YtiohainnpjikpaaBun1
import Derived.SizedLaws
import Derived.ProofKit
/- Contracts of layer 9: Parse. -/
namespace Go.Proofs.Ytiohainnpjikpaa
open Go.RowKit Go.Recs
set_option linter.unusedVariables false

theorem rd_yes {F : List (List UInt8)} (h : (readN F).2 = true) : QM.form F ∧ (readN F).1 = QM.prodOf F := by
  unfold readN at h ⊢
  split at h
  · rename_i hf; rw [if_pos hf]; exact ⟨hf, rfl⟩
  · cases h
theorem rd_no {F : List (List UInt8)} (h : (readN F).2 = false) : ¬ QM.form F ∧ (readN F).1 = QM.zero := by
  unfold readN at h ⊢
  split at h
  · cases h
  · rename_i hf; rw [if_neg hf]; exact ⟨hf, rfl⟩
theorem pa_bad {l : List UInt8} (h : WM.fieldsE l ≠ 0) : QM.parE l = WM.fieldsE l ∧ QM.parN l = QM.zero := QM.par_bad h
theorem pa_form {l : List UInt8} (h : WM.fieldsE l = 0) (h2 : (readN (WM.fieldsN l)).2 = false) : QM.parE l = 5 ∧ QM.parN l = QM.zero := QM.par_form h (rd_no h2).1
theorem pa_check {l : List UInt8} (h : WM.fieldsE l = 0) (h2 : (readN (WM.fieldsN l)).2 = true) (h3 : QM.checkE (readN (WM.fieldsN l)).1 ≠ 0) : QM.parE l = QM.checkE (readN (WM.fieldsN l)).1 ∧ QM.parN l = QM.zero := by
  obtain ⟨h4, h5⟩ := rd_yes h2
  rw [h5] at h3 ⊢
  exact QM.par_check h h4 h3
theorem pa_ok {l : List UInt8} (h : WM.fieldsE l = 0) (h2 : (readN (WM.fieldsN l)).2 = true) (h3 : QM.checkE (readN (WM.fieldsN l)).1 = 0) : QM.parE l = 0 ∧ QM.parN l = (readN (WM.fieldsN l)).1 := by
  obtain ⟨h4, h5⟩ := rd_yes h2
  rw [h5] at h3 ⊢
  exact QM.par_ok h h4 h3
theorem int_i64 (l : List UInt8) : i64 (WM.intN l) := by have := WM.int_range l; unfold i64; omega
theorem zero_q : prodQ QM.zero := by
  refine ⟨by decide, ?_, ?_, ?_, ?_, ?_⟩ <;> exact ⟨by decide, by decide⟩
theorem fAt_le {l : List UInt8} (k : Nat) : (QM.fAt (WM.fieldsN l) k).length ≤ l.length := by
  unfold QM.fAt List.getD
  cases h : (WM.fieldsN l)[k]? with
  | none => simp
  | some p => exact WM.fields_le (List.mem_of_getElem? h)
theorem prodOf_q {l : List UInt8} (hs : l.length ≤ 9223372036854775807) : prodQ (QM.prodOf (WM.fieldsN l)) := by
  refine ⟨?_, int_i64 _, int_i64 _, int_i64 _, int_i64 _, int_i64 _⟩
  show (S (QM.fAt (WM.fieldsN l) 0)).size ≤ maxLen
  rw [S_size]
  have := @fAt_le l 0
  unfold maxLen
  omega
theorem read_q {l : List UInt8} (hs : l.length ≤ 9223372036854775807) : prodQ (readN (WM.fieldsN l)).1 := by
  cases h : (readN (WM.fieldsN l)).2
  · rw [(rd_no h).2]; exact zero_q
  · rw [(rd_yes h).2]; exact prodOf_q hs
theorem strs_max {l : List UInt8} (hs : l.length ≤ 9223372036854775807) : ∀ s ∈ strs (WM.fieldsN l), s.size ≤ maxLen := by
  intro s h
  obtain ⟨p, hp, rfl⟩ := List.mem_map.1 h
  rw [S_size]
  have := WM.fields_le hp
  unfold maxLen
  omega

set_option maxHeartbeats 4000000 in
theorem qparse_any (s : ByteArray) (w : World) (hs : s.size ≤ 9223372036854775807) :
    Calls Try.prog 21 #[.string s] w fun e w' => e = .returned (.tuple #[prodA (QM.parN (L s)), .int .i64 (QM.parE (L s))]) ∧ Below w.heap.size w w' := by
  have hl : (L s).length ≤ 9223372036854775807 := by rw [L_len]; exact hs
  have C1 := Lib.hid (fun ww => fields_any s ww hs)
  have K1 := Lib.hid (@pa_bad (L s)); have K2 := Lib.hid (@pa_form (L s)); have K3 := Lib.hid (@pa_check (L s)); have K4 := Lib.hid (@pa_ok (L s))
  have C2 : Hid (∀ A n cap ww, n = (strs (WM.fieldsN (L s))).length → Strs ww A (strs (WM.fieldsN (L s))) → Calls Try.prog 38 #[.slice A n cap] ww fun e w' => e = .returned (.tuple #[prodA (readN (WM.fieldsN (L s))).1, .bool (readN (WM.fieldsN (L s))).2]) ∧ Below ww.heap.size ww w') := Lib.hid (fun A n cap ww hn h => by
    subst hn
    have := qread_any A (strs (WM.fieldsN (L s))) cap ww h
    rw [texts_strs] at this; exact this)
  have C3 := Lib.hid (fun ww => qcheck_any (readN (WM.fieldsN (L s))).1 (read_q hl) ww)
  have HM := Lib.hid (strs_max hl)
  have HB0 := Lib.hid ((Below.refl w.heap.size w).alloc (Nat.le_refl _) (.cells #[.string ⟨#[]⟩, .int .i64 0, .int .i64 0, .int .i64 0, .int .i64 0, .int .i64 0, .bool false] 24))
  have HP0 : Hid (PBox (w.alloc (.cells #[.string ⟨#[]⟩, .int .i64 0, .int .i64 0, .int .i64 0, .int .i64 0, .int .i64 0, .bool false] 24)) w.heap.size QM.zero) := Lib.hid (PBox.new w QM.zero)
  generalize QM.parE (L s) = pe at *
  generalize QM.parN (L s) = pn at *
  generalize strs (WM.fieldsN (L s)) = ls at *
  generalize readN (WM.fieldsN (L s)) = xy at *
  obtain ⟨x, y⟩ := xy
  generalize WM.fieldsE (L s) = fe at *
  generalize QM.checkE x = ce at *
  simp only at K1 K2 K3 K4 C2 C3
  clear hs hl
  go_enter Try.func21, Try.ntmps21
  go_wp2_with fail
  refine (C1.out _).mono ?_
  rintro e w1 ⟨v, rfl, o1, b1⟩
  obtain ⟨A, cap, rfl, hS⟩ := o1.strs HM.out
  have HS := Lib.hid hS
  have HP1 := Lib.hid (HP0.out.below b1 HP0.out.lt)
  have HB1 := Lib.hid (HB0.out.trans (b1.mono HB0.out.size))
  clear o1 b1 hS HB0 HP0 HM
  by_cases hfe : fe = 0
  · subst hfe
    go_wp2_with fail
    refine (C2.out _ _ _ _ rfl HS.out).mono ?_
    rintro e w2 ⟨rfl, b2⟩
    have HP2 := Lib.hid (HP1.out.below b2 HP1.out.lt)
    have HB2 := Lib.hid (HB1.out.trans (b2.mono HB1.out.size))
    clear b2 HP1 HB1 HS
    obtain ⟨c0, c1, c2, c3, c4, c5, c6⟩ := HP2.out.cells
    have f0 := HP2.out.frozen 0; have f1 := HP2.out.frozen 1; have f2 := HP2.out.frozen 2; have f3 := HP2.out.frozen 3; have f4 := HP2.out.frozen 4; have f5 := HP2.out.frozen 5; have f6 := HP2.out.frozen 6
    have HP3 := Lib.hid (HP2.out.put x)
    have HB3 := Lib.hid (PBox.put_below HB2.out (Nat.le_refl _) x)
    cases y
    · have HX := Lib.hid (K2.out (by trivial) (by trivial))
      go_wp2_with fail
      (try simp only [Exit.inBlock, Exit.then])
      refine bodyPost_ret (results_prod rfl _ _ _ _ rfl (HP3.out.put QM.zero)) rfl ⟨?_, PBox.put_below HB3.out (Nat.le_refl _) QM.zero⟩
      rw [HX.out.1, HX.out.2]; rfl
    · go_wp2_with fail
      refine (C3.out _).mono ?_
      rintro e w3 ⟨rfl, b3⟩
      have HP4 := Lib.hid (HP3.out.below b3 HP3.out.lt)
      have HB4 := Lib.hid (HB3.out.trans (b3.mono HB3.out.size))
      clear b3 HP3 HB3 c0 c1 c2 c3 c4 c5 c6 f0 f1 f2 f3 f4 f5 f6
      obtain ⟨c0, c1, c2, c3, c4, c5, c6⟩ := HP4.out.cells
      have f0 := HP4.out.frozen 0; have f1 := HP4.out.frozen 1; have f2 := HP4.out.frozen 2; have f3 := HP4.out.frozen 3; have f4 := HP4.out.frozen 4; have f5 := HP4.out.frozen 5; have f6 := HP4.out.frozen 6
      by_cases hce : ce = 0
      · subst hce
        have HX := Lib.hid (K4.out (by trivial) (by trivial) (by trivial))
        go_wp2_with fail
        (try simp only [Exit.inBlock, Exit.then])
        refine bodyPost_ret (results_prod rfl _ _ _ _ rfl (HP4.out.put x)) rfl ⟨?_, PBox.put_below HB4.out (Nat.le_refl _) x⟩
        rw [HX.out.1, HX.out.2]; rfl
      · have hd : (ce != 0) = true := by simpa using hce
        have HX := Lib.hid (K3.out (by trivial) (by trivial) hce)
        clear hce
        go_wp2_with fail
        (try simp only [Exit.inBlock, Exit.then])
        refine bodyPost_ret (results_prod rfl _ _ _ _ rfl (HP4.out.put QM.zero)) rfl ⟨?_, PBox.put_below HB4.out (Nat.le_refl _) QM.zero⟩
        rw [HX.out.1, HX.out.2]; rfl
  · have hd : (fe != 0) = true := by simpa using hfe
    have HX := Lib.hid (K1.out hfe)
    obtain ⟨c0, c1, c2, c3, c4, c5, c6⟩ := HP1.out.cells
    have f0 := HP1.out.frozen 0; have f1 := HP1.out.frozen 1; have f2 := HP1.out.frozen 2; have f3 := HP1.out.frozen 3; have f4 := HP1.out.frozen 4; have f5 := HP1.out.frozen 5; have f6 := HP1.out.frozen 6
    clear hfe
    go_wp2_with fail
    (try simp only [Exit.inBlock, Exit.then])
    refine bodyPost_ret (results_prod rfl _ _ _ _ rfl (HP1.out.put QM.zero)) rfl ⟨?_, PBox.put_below HB1.out (Nat.le_refl _) QM.zero⟩
    rw [HX.out.1, HX.out.2]; rfl
end Go.Proofs.Ytiohainnpjikpaa

/- Contract: layer 9's examples hold. -/
namespace Go.Proofs.Ytiohainnpjikpaa
open Go.RowKit Go.Recs
set_option linter.unusedVariables false

def oilP : QM.Prod := ⟨⟨#[111, 105, 108]⟩, 0, 100, 5, -50, 1000, false⟩
theorem oil_check : QM.checkE oilP = 0 := by decide
theorem oil_q : prodQ oilP := by
  refine ⟨by decide, ?_, ?_, ?_, ?_, ?_⟩ <;> exact ⟨by decide, by decide⟩
theorem dec_100 : WM.dec 100 = [49, 48, 48] := by rw [WM.dec_big (by decide), WM.dec_big (by decide), WM.dec_small (by decide)]; rfl
theorem dec_1000 : WM.dec 1000 = [49, 48, 48, 48] := by rw [WM.dec_big (by decide), WM.dec_big (by decide), WM.dec_big (by decide), WM.dec_small (by decide)]; rfl
theorem dec_50 : WM.dec 50 = [53, 48] := by rw [WM.dec_big (by decide), WM.dec_small (by decide)]; rfl
theorem dec_5 : WM.dec 5 = [53] := by rw [WM.dec_small (by decide)]; rfl
theorem dec_0 : WM.dec 0 = [48] := by rw [WM.dec_small (by decide)]; rfl
theorem oil_line : QM.printL oilP = [111, 105, 108, 32, 48, 32, 49, 48, 48, 32, 53, 32, 45, 53, 48, 32, 49, 48, 48, 48, 32, 99, 97, 115, 104] := by
  have e1 : WM.textL oilP.cur = [48] := by show WM.dec 0 = _; exact dec_0
  have e2 : WM.textL oilP.mult = [49, 48, 48] := by show WM.dec 100 = _; exact dec_100
  have e3 : WM.textL oilP.tick = [53] := by show WM.dec 5 = _; exact dec_5
  have e4 : WM.textL oilP.low = [45, 53, 48] := by show 45 :: WM.dec 50 = _; rw [dec_50]
  have e5 : WM.textL oilP.high = [49, 48, 48, 48] := by show WM.dec 1000 = _; exact dec_1000
  unfold QM.printL QM.fieldsOf
  rw [e1, e2, e3, e4, e5]
  rfl
theorem oil_par : QM.parE [111, 105, 108, 32, 48, 32, 49, 48, 48, 32, 53, 32, 45, 53, 48, 32, 49, 48, 48, 48, 32, 99, 97, 115, 104] = 0 ∧ QM.parN [111, 105, 108, 32, 48, 32, 49, 48, 48, 32, 53, 32, 45, 53, 48, 32, 49, 48, 48, 48, 32, 99, 97, 115, 104] = oilP := by
  rw [← oil_line]; exact QM.par_print oil_check
theorem oil_r1 : QM.roundN oilP 13 5 = 15 ∧ QM.roundE oilP 13 5 = 0 := by decide
theorem oil_r2 : QM.roundN oilP 2000 1 = 1000 ∧ QM.roundE oilP 2000 1 = 0 := by decide
theorem oil_v : QM.valueN oilP 15 (-2) = -3000 ∧ QM.valueE oilP 15 (-2) = 0 := by decide
theorem oil_p : QM.priceE oilP 15 = 0 ∧ QM.priceE oilP 12 = 16 := by decide

theorem results_prod1 {fn : Func} {p : Tmp} (h : fn.results = #[.cell p 24]) (tmps : Array Value) (w : World) (g : Nat) (x : QM.Prod)
    (hp : tmps.getD p undef = .pointer (some ⟨g, 0, none⟩)) (hb : PBox w g x) : (results fn tmps).run Try.prog w = .ok (prodA x) w :=
  results_cell_row h tmps w g 24 _ (0, 0) _ hp hb prod_under rfl prod_size
theorem oil_any (w : World) : Calls Try.prog 32 #[] w fun e w' => e = .returned (prodA oilP) ∧ Below w.heap.size w w' := by
  have HB := Lib.hid ((Below.refl w.heap.size w).alloc (Nat.le_refl _) (.cells #[.string ⟨#[111, 105, 108]⟩, .int .i64 0, .int .i64 100, .int .i64 5, .int .i64 (-50), .int .i64 1000, .bool false] 24))
  have HP : Hid (PBox (w.alloc (.cells #[.string ⟨#[111, 105, 108]⟩, .int .i64 0, .int .i64 100, .int .i64 5, .int .i64 (-50), .int .i64 1000, .bool false] 24)) w.heap.size oilP) := Lib.hid (PBox.new w oilP)
  go_enter Try.func32, Try.ntmps32
  go_wp2_with fail
  (try simp only [Exit.inBlock, Exit.then])
  refine bodyPost_ret (results_prod1 rfl _ _ _ _ rfl HP.out) rfl ⟨rfl, HB.out⟩

set_option maxHeartbeats 8000000 in
set_option maxRecDepth 100000 in
theorem goes9_any (w : World) : Calls Try.prog 14 #[] w fun e w' => e = .returned (.bool true) ∧ Below w.heap.size w w' := by
  have P1 := fun ww => qparse_any ⟨#[111, 105, 108, 32, 48, 32, 49, 48, 48, 32, 53, 32, 45, 53, 48, 32, 49, 48, 48, 48, 32, 99, 97, 115, 104]⟩ ww (by show 25 ≤ _; omega)
  have eL : L ⟨#[111, 105, 108, 32, 48, 32, 49, 48, 48, 32, 53, 32, 45, 53, 48, 32, 49, 48, 48, 48, 32, 99, 97, 115, 104]⟩ = [111, 105, 108, 32, 48, 32, 49, 48, 48, 32, 53, 32, 45, 53, 48, 32, 49, 48, 48, 48, 32, 99, 97, 115, 104] := rfl
  rw [eL, oil_par.1, oil_par.2] at P1
  have R1 := fun ww => qround_any oilP 13 5 oil_q ww
  rw [oil_r1.1, oil_r1.2] at R1
  have R2 := fun ww => qround_any oilP 2000 1 oil_q ww
  rw [oil_r2.1, oil_r2.2] at R2
  have V1 := fun ww => qvalue_any oilP 15 (-2) oil_q ww
  rw [oil_v.1, oil_v.2] at V1
  have PR := fun ww => qprint_any oilP oil_q (by decide) ww
  have eP : S (QM.printL oilP) = ⟨#[111, 105, 108, 32, 48, 32, 49, 48, 48, 32, 53, 32, 45, 53, 48, 32, 49, 48, 48, 48, 32, 99, 97, 115, 104]⟩ := by rw [oil_line]; rfl
  rw [eP] at PR
  have C1 := fun ww => qprice_any oilP 15 oil_q ww
  rw [oil_p.1] at C1
  have C2 := fun ww => qprice_any oilP 12 oil_q ww
  rw [oil_p.2] at C2
  have OI := oil_any
  have E1 : ∀ ww, (Op.equalIn 10000 24 (prodA oilP) (prodA oilP)).run Try.prog ww = .ok true ww := fun ww => by rw [prod_in, peq_iff.2 rfl]
  have hgd := prod_guard
  have HP1 := Lib.hid P1; have HR1 := Lib.hid R1; have HR2 := Lib.hid R2; have HV1 := Lib.hid V1; have HPR := Lib.hid PR; have HC1 := Lib.hid C1; have HC2 := Lib.hid C2; have HOI := Lib.hid OI
  clear P1 R1 R2 V1 PR C1 C2 OI eL eP
  generalize oilP = o at *
  go_enter Try.func14, Try.ntmps14
  go_wp2_with fail
  refine (HP1.out _).mono ?_
  rintro e w1 ⟨rfl, b1⟩
  have HB1 := Lib.hid b1
  have HB2 := Lib.hid (b1.alloc b1.size (.cells #[.string o.name, .int .i64 o.cur, .int .i64 o.mult, .int .i64 o.tick, .int .i64 o.low, .int .i64 o.high, .bool o.phys] 24))
  have HP2 := Lib.hid (PBox.new w1 o)
  clear b1 HB1 HP1
  go_wp2_with fail
  generalize w1.alloc (.cells #[.string o.name, .int .i64 o.cur, .int .i64 o.mult, .int .i64 o.tick, .int .i64 o.low, .int .i64 o.high, .bool o.phys] 24) = w2 at *
  refine (HR1.out _).mono ?_
  rintro e w3 ⟨rfl, b3⟩
  have HP3 := Lib.hid (HP2.out.below b3 HP2.out.lt)
  have HB3 := Lib.hid (HB2.out.trans (b3.mono HB2.out.size))
  obtain ⟨c0, c1, c2, c3, c4, c5, c6⟩ := HP3.out.cells
  clear b3 HP2 HB2
  go_wp2_with fail
  refine (HR2.out _).mono ?_
  rintro e w4 ⟨rfl, b4⟩
  have HP4 := Lib.hid (HP3.out.below b4 HP3.out.lt)
  have HB4 := Lib.hid (HB3.out.trans (b4.mono HB3.out.size))
  clear c0 c1 c2 c3 c4 c5 c6
  obtain ⟨c0, c1, c2, c3, c4, c5, c6⟩ := HP4.out.cells
  clear b4 HP3 HB3
  go_wp2_with fail
  refine (HV1.out _).mono ?_
  rintro e w5 ⟨rfl, b5⟩
  have HP5 := Lib.hid (HP4.out.below b5 HP4.out.lt)
  have HB5 := Lib.hid (HB4.out.trans (b5.mono HB4.out.size))
  clear c0 c1 c2 c3 c4 c5 c6
  have HSF : Hid (∀ ww, Below w5.heap.size w5 ww → (ww.cell? ⟨w1.heap.size, 0, none⟩ = some (.string o.name) ∧ ww.cell? ⟨w1.heap.size, 1, none⟩ = some (.int .i64 o.cur) ∧ ww.cell? ⟨w1.heap.size, 2, none⟩ = some (.int .i64 o.mult) ∧ ww.cell? ⟨w1.heap.size, 3, none⟩ = some (.int .i64 o.tick) ∧
    ww.cell? ⟨w1.heap.size, 4, none⟩ = some (.int .i64 o.low) ∧ ww.cell? ⟨w1.heap.size, 5, none⟩ = some (.int .i64 o.high) ∧ ww.cell? ⟨w1.heap.size, 6, none⟩ = some (.bool o.phys))) := Lib.hid (fun ww h => (HP5.out.below h HP5.out.lt).cells)
  have HBw : Hid (Below w5.heap.size w5 w5.drew) := Lib.hid (Below.refl _ _).drew
  clear b5 HP4 HB4
  go_wp2_with fail
  go_region_held3 (fun ww => ww.cell? ⟨w1.heap.size, 0, none⟩ = some (.string o.name) ∧ ww.cell? ⟨w1.heap.size, 1, none⟩ = some (.int .i64 o.cur) ∧ ww.cell? ⟨w1.heap.size, 2, none⟩ = some (.int .i64 o.mult) ∧ ww.cell? ⟨w1.heap.size, 3, none⟩ = some (.int .i64 o.tick) ∧
    ww.cell? ⟨w1.heap.size, 4, none⟩ = some (.int .i64 o.low) ∧ ww.cell? ⟨w1.heap.size, 5, none⟩ = some (.int .i64 o.high) ∧ ww.cell? ⟨w1.heap.size, 6, none⟩ = some (.bool o.phys))
    (exact HSF.out _ HBw.out)
    (first
      | (go_at_call 32; refine (HOI.out _).mono ?_; rintro e w6 ⟨rfl, b6⟩; replace HBw := Lib.hid (HBw.out.trans (b6.mono HBw.out.size)); clear b6)
      | (go_at_call 23; refine (HPR.out _).mono ?_; rintro e w6 ⟨rfl, b6⟩; replace HBw := Lib.hid (HBw.out.trans (b6.mono HBw.out.size)); clear b6)
      | (go_at_call 19; with_reducible refine (HC1.out _).mono ?_; rintro e w6 ⟨rfl, b6⟩; replace HBw := Lib.hid (HBw.out.trans (b6.mono HBw.out.size)); clear b6)
      | (go_at_call 19; with_reducible refine (HC2.out _).mono ?_; rintro e w6 ⟨rfl, b6⟩; replace HBw := Lib.hid (HBw.out.trans (b6.mono HBw.out.size)); clear b6))
  all_goals (
    clear HSF HOI HPR HC1 HC2
    have HBF := Lib.hid (HB5.out.trans (HBw.out.mono HB5.out.size))
    go_wp2_with fail
    go_ret
    exact ⟨rfl, HBF.out⟩)
end Go.Proofs.Ytiohainnpjikpaa

namespace Go.Proofs.Ytiohainnpjikpaa.productBack
open Go.RowKit Go.Recs
set_option linter.unusedVariables false

theorem par_q {l : List UInt8} (hs : l.length ≤ 140737488351232) : prodQ (QM.parN l) ∧ (QM.parN l).name.size ≤ 140737488351232 := by
  by_cases h : QM.parE l = 0
  · obtain ⟨_, _, _, e⟩ := QM.par_zero h
    rw [e]
    refine ⟨prodOf_q (by omega), ?_⟩
    show (S (QM.fAt (WM.fieldsN l) 0)).size ≤ _
    rw [S_size]
    have := @fAt_le l 0
    omega
  · have e : QM.parN l = QM.zero := by unfold QM.parN; rw [if_neg h]
    rw [e]; exact ⟨zero_q, by decide⟩

set_option maxHeartbeats 8000000 in
theorem walk (p : QM.Prod) (s : ByteArray) (w : World) (hq : prodQ p ∧ p.name.size ≤ 140737488351232) (hs : s.size ≤ 140737488351232) :
    Calls Try.prog 7 #[prodA p, .string s] w fun e w' => e = .returned (.bool true) ∧ Below w.heap.size w w' := by
  obtain ⟨hq, hn⟩ := hq
  have hls : (L s).length ≤ 140737488351232 := by rw [L_len]; exact hs
  have hpl : (S (QM.printL p)).size ≤ 9223372036854775807 := by
    rw [S_size]
    have h1 := join_le (pieceB p) 7
    have h2 : (pieceB p).take 7 = pieceB p := rfl
    rw [h2, piece_texts, S_size] at h1
    have h3 := piece_size p hq hn
    unfold QM.printL
    omega
  have C1 := Lib.hid (fun ww => qprint_any p hq hn ww)
  have C2 := Lib.hid (fun ww => qparse_any (S (QM.printL p)) ww hpl)
  rw [L_S] at C2
  have C3 := Lib.hid (fun ww => qparse_any s ww (by omega))
  have C4 := Lib.hid (fun ww => qcheck_any p hq ww)
  have C5 := Lib.hid (fun ww => qprint_any (QM.parN (L s)) (par_q hls).1 (par_q hls).2 ww)
  have C6 := Lib.hid (fun ww => qcheck_any (QM.parN (L s)) (par_q hls).1 ww)
  have C7 := Lib.hid goes9_any
  have M1 := Lib.hid (@QM.par_print p)
  have M2 : Hid (QM.parE (L s) = 0 → S (QM.printL (QM.parN (L s))) = s ∧ QM.checkE (QM.parN (L s)) = 0) := Lib.hid (fun h => by
    have h1 := QM.print_par h
    rw [h1.1, S_L]
    exact ⟨rfl, h1.2⟩)
  generalize QM.parN (L s) = x2 at *
  generalize QM.parE (L s) = e2 at *
  generalize QM.parN (QM.printL p) = x1 at *
  generalize QM.parE (QM.printL p) = e1 at *
  generalize S (QM.printL x2) = t2 at *
  generalize S (QM.printL p) = pt at *
  generalize QM.checkE x2 = c2e at *
  generalize QM.checkE p = ce at *
  have hgd := prod_guard
  have HB0 := Lib.hid ((Below.refl w.heap.size w).alloc (Nat.le_refl _) (.cells #[.string p.name, .int .i64 p.cur, .int .i64 p.mult, .int .i64 p.tick, .int .i64 p.low, .int .i64 p.high, .bool p.phys] 24))
  have HP0 := Lib.hid (PBox.new w p)
  clear hs hq hn hpl hls
  go_enter Try.func7, Try.ntmps7
  go_wp2_with fail
  generalize w.alloc (.cells #[.string p.name, .int .i64 p.cur, .int .i64 p.mult, .int .i64 p.tick, .int .i64 p.low, .int .i64 p.high, .bool p.phys] 24) = w0 at *
  refine (C1.out _).mono ?_
  rintro e w1 ⟨rfl, b1⟩
  have HP1 := Lib.hid (HP0.out.below b1 HP0.out.lt)
  have HB1 := Lib.hid (HB0.out.trans (b1.mono HB0.out.size))
  clear b1 HB0 HP0
  go_wp2_with fail
  refine (C2.out _).mono ?_
  rintro e w2 ⟨rfl, b2⟩
  have HP2 := Lib.hid ((HP1.out.below b2 HP1.out.lt).alloc (.cells #[.string x1.name, .int .i64 x1.cur, .int .i64 x1.mult, .int .i64 x1.tick, .int .i64 x1.low, .int .i64 x1.high, .bool x1.phys] 24))
  have HB2 := Lib.hid (HB1.out.trans (b2.mono HB1.out.size))
  have HB3 := Lib.hid (HB2.out.alloc HB2.out.size (.cells #[.string x1.name, .int .i64 x1.cur, .int .i64 x1.mult, .int .i64 x1.tick, .int .i64 x1.low, .int .i64 x1.high, .bool x1.phys] 24))
  have HX3 := Lib.hid (PBox.new w2 x1)
  clear b2 HB1 HP1 HB2
  go_wp2_with fail
  generalize w2.alloc (.cells #[.string x1.name, .int .i64 x1.cur, .int .i64 x1.mult, .int .i64 x1.tick, .int .i64 x1.low, .int .i64 x1.high, .bool x1.phys] 24) = w3 at *
  refine (C3.out _).mono ?_
  rintro e w4 ⟨rfl, b4⟩
  have HP5 := Lib.hid ((HP2.out.below b4 HP2.out.lt).alloc (.cells #[.string x2.name, .int .i64 x2.cur, .int .i64 x2.mult, .int .i64 x2.tick, .int .i64 x2.low, .int .i64 x2.high, .bool x2.phys] 24))
  have HX5 := Lib.hid ((HX3.out.below b4 HX3.out.lt).alloc (.cells #[.string x2.name, .int .i64 x2.cur, .int .i64 x2.mult, .int .i64 x2.tick, .int .i64 x2.low, .int .i64 x2.high, .bool x2.phys] 24))
  have HB4 := Lib.hid (HB3.out.trans (b4.mono HB3.out.size))
  have HB5 := Lib.hid (HB4.out.alloc HB4.out.size (.cells #[.string x2.name, .int .i64 x2.cur, .int .i64 x2.mult, .int .i64 x2.tick, .int .i64 x2.low, .int .i64 x2.high, .bool x2.phys] 24))
  have HY5 := Lib.hid (PBox.new w4 x2)
  clear b4 HB3 HP2 HX3 HB4
  obtain ⟨c0, c1, c2, c3, c4, c5, c6⟩ := HP5.out.cells
  go_wp2_with fail
  generalize w4.alloc (.cells #[.string x2.name, .int .i64 x2.cur, .int .i64 x2.mult, .int .i64 x2.tick, .int .i64 x2.low, .int .i64 x2.high, .bool x2.phys] 24) = w5 at *
  refine (C4.out _).mono ?_
  rintro e w6 ⟨rfl, b6⟩
  have HP6 := Lib.hid (HP5.out.below b6 HP5.out.lt)
  have HX6 := Lib.hid (HX5.out.below b6 HX5.out.lt)
  have HY6 := Lib.hid (HY5.out.below b6 HY5.out.lt)
  have HB6 := Lib.hid (HB5.out.trans (b6.mono HB5.out.size))
  clear b6 HB5 HP5 HX5 HY5 c0 c1 c2 c3 c4 c5 c6
  obtain ⟨c0, c1, c2, c3, c4, c5, c6⟩ := HP6.out.cells
  obtain ⟨d0, d1, d2, d3, d4, d5, d6⟩ := HX6.out.cells
  obtain ⟨g0, g1, g2, g3, g4, g5, g6⟩ := HY6.out.cells
  have KEY : (ce = 0 ∧ x1 = p ∧ e1 = 0) ∨ (ce == 0) = false := by
    by_cases h : ce = 0
    · exact .inl ⟨h, (M1.out h).2, (M1.out h).1⟩
    · exact .inr (beq_f h)
  have KEY2 : (e2 = 0 ∧ t2 = s ∧ c2e = 0) ∨ (e2 != 0) = true := by
    by_cases h : e2 = 0
    · exact .inl ⟨h, (M2.out h).1, (M2.out h).2⟩
    · exact .inr (by simpa using h)
  have E1 : ∀ ww, (Op.equalIn 10000 24 (prodA p) (prodA p)).run Try.prog ww = .ok true ww := fun ww => by rw [prod_in, peq_iff.2 rfl]
  clear M1 M2 C1 C2 C3 C4
  rcases KEY with ⟨rfl, rfl, rfl⟩ | hce
  all_goals (
    rcases KEY2 with ⟨rfl, rfl, rfl⟩ | he2
    · have hst : (t2.toList == t2.toList) = true := str_t rfl
      go_wp2_with fail
      refine (C5.out _).mono ?_
      rintro e w7 ⟨rfl, b7⟩
      have HY7 := Lib.hid (HY6.out.below b7 HY6.out.lt)
      have HB7 := Lib.hid (HB6.out.trans (b7.mono HB6.out.size))
      clear b7 c0 c1 c2 c3 c4 c5 c6 d0 d1 d2 d3 d4 d5 d6 g0 g1 g2 g3 g4 g5 g6
      obtain ⟨g0, g1, g2, g3, g4, g5, g6⟩ := HY7.out.cells
      go_wp2_with fail
      refine (C6.out _).mono ?_
      rintro e w8 ⟨rfl, b8⟩
      have HB8 := Lib.hid (HB7.out.trans (b8.mono HB7.out.size))
      clear b8 g0 g1 g2 g3 g4 g5 g6
      go_wp2_with fail
      refine (C7.out _).mono ?_
      rintro e w9 ⟨rfl, b9⟩
      have HB9 := Lib.hid (HB8.out.trans (b9.mono HB8.out.size))
      clear b9
      go_wp2_with fail
      go_ret
      exact ⟨rfl, HB9.out⟩
    · go_wp2_with fail
      refine (C7.out _).mono ?_
      rintro e w9 ⟨rfl, b9⟩
      have HB9 := Lib.hid (HB6.out.trans (b9.mono HB6.out.size))
      clear b9
      go_wp2_with fail
      go_ret
      exact ⟨rfl, HB9.out⟩)
end Go.Proofs.Ytiohainnpjikpaa.productBack

/- What the reach says of a text that opens a record, over any program. -/
namespace Go.Recs
open Go.ChangeShapes Go.WideShapes Go.RowKit Go.Deep
set_option linter.unusedVariables false
theorem first_sized {H : Type} {enc : TypeId × Value → H} {P : Program} {W : World} {base : Nat} {spare : Nat → Bool} {held : Bool} {T : TypeId} {cs : Array Value} {d : DataW H} {p : List MemPlace} {fs : Array Field} {f : Field} {s : ByteArray}
    {ts : List TypeId} {ds : List (DataW H)} {j : Nat}
    (h : (DataW.weightsEach P ts ds).all (· ≤ reachBytes) = true) (ht : ts[j]? = some T) (hd : ds[j]? = some d)
    (hT : DataW.Trod enc P W base spare held T (.agg cs) d p) (hu : P.underlying T = some (.struct fs)) (hf : fs[0]? = some f) (ho : f.offset = 0) (hs : P.underlying f.type = some .string) (hc : P.cellsOf f.type = 1) (hcs : cs[0]? = some (.string s)) :
    s.size ≤ 140737488351232 := by
  obtain ⟨fuel, hx⟩ := hT
  obtain ⟨xs, n, _, hxd, _, hxl, hfl⟩ := DataW.trod_struct hu hx
  have h0 := hfl 0 f hf
  have hpos : 0 < xs.length := by
    rw [hxl]
    rcases Nat.eq_zero_or_pos fs.size with e | e
    · rw [Array.getElem?_eq_none (by omega)] at hf; cases hf
    · exact e
  rw [List.getElem?_eq_getElem hpos] at h0
  obtain ⟨t, ht0, hx0, _⟩ := DataW.trod_string hs h0
  rw [ho, hc, List.drop_zero] at ht0
  have ets : t = s := by
    have e1 : (Value.agg cs).cells.toList.take 1 = [Value.string t] := ht0
    have e2 : (Value.agg cs).cells.toList[0]? = some (Value.string s) := by simpa [Value.cells] using hcs
    cases hl : (Value.agg cs).cells.toList with
    | nil => rw [hl] at e2; cases e2
    | cons a r => rw [hl] at e1 e2; simp at e1 e2; rw [e1] at e2; injection e2
  subst ets
  injection hxd with hd1 _
  have hw : t.data.toList.length ∈ d.weights P T := by
    rw [hd1]
    simp only [DataW.weights, hu]
    have hm := DataW.weights_mem_each (P := P) (ts := fs.toList.map (·.type)) (ds := xs.map (·.1)) (j := 0) (t := f.type) (d := xs[0].1) (by rw [List.getElem?_map, Array.getElem?_toList, hf]; rfl) (by rw [List.getElem?_map, List.getElem?_eq_getElem hpos]; rfl) t.data.toList.length
    apply hm
    rw [hx0]
    simp [DataW.weights]
  have := List.all_eq_true.1 h _ (DataW.weights_mem_each ht hd _ hw)
  have e : t.data.toList.length = t.size := Array.length_toList
  rw [e] at this
  have hr : reachBytes = 140737488351232 := by decide
  rw [← hr]
  simpa using this
end Go.Recs
