/- Put together: SerE, SerF, SerG, WordsJ, SerI. -/
import Derived.Test.YtiohainnpjikpaaDoorBun2
import Derived.Test.YtiohainnpjikpaaDoorBun8
import Derived.Test.YtiohainnpjikpaaDoorBun3
/- Layer 10: dates and strikes read, Print. -/
namespace Go.Proofs.YtiohainnpjikpaaDoor
open Go.RowKit Go.Recs Go.Shelf
set_option linter.unusedVariables false
set_option linter.unusedSimpArgs false

theorem cat_ok {a b : ByteArray} (h : a.size + b.size ≤ 9223372036854775807) : Op.stringOp .add a b = pure (.string (a ++ b)) := by
  have h2 : ¬ (((a.size + b.size : Nat) : Int) > IntKind.i64.max) := by
    have : IntKind.i64.max = 9223372036854775807 := by decide
    omega
  simp only [Op.stringOp]
  rw [if_neg h2]
theorem cat_size (a b : ByteArray) : (a ++ b).size = a.size + b.size := by simp [ByteArray.size_append]
theorem ext_size (s : ByteArray) (a b : Nat) : (s.extract a b).size ≤ s.size := by rw [ByteArray.size_extract]; omega
theorem dec_small20 (m : Nat) (h : m < 18446744073709551616) : (WM.dec m).length ≤ 20 := by
  have key : ∀ k m : Nat, m < 10 ^ (k + 1) → (WM.dec m).length ≤ k + 1 := by
    intro k
    induction k with
    | zero => intro m hm; rw [WM.dec_small (by simpa using hm)]; simp
    | succ k ih =>
      intro m hm
      by_cases h10 : m < 10
      · rw [WM.dec_small h10]; simp
      · rw [WM.dec_big h10, List.length_append]
        have := ih (m / 10) (by rw [Nat.div_lt_iff_lt_mul (by omega)]; rw [Nat.pow_succ] at hm; omega)
        simp; omega
  exact key 19 m (by omega)
theorem text_small {n : Int} (h : i64 n) : (WM.textL n).length ≤ 30 := by
  unfold i64 at h
  have := dec_small20 n.natAbs (by omega)
  unfold WM.textL
  split
  · rw [List.length_cons]; omega
  · omega
def rdE (b : List UInt8) : Int := if b.length = 8 then DM.parE (EM.tenL b) else 5
def rdN (b : List UInt8) : Int := if b.length = 8 then DM.parN (EM.tenL b) else 0
set_option maxHeartbeats 2000000 in
theorem readDate_any (s : ByteArray) (w : World) (hs : s.size ≤ 300) :
    Calls Tryd.prog 31 #[.string s] w fun e w' => e = .returned (.tuple #[.int .i64 (rdN (L s)), .int .i64 (rdE (L s))]) ∧ Below w.heap.size w w' := by
  unfold rdN rdE
  rw [L_len]
  by_cases h8 : s.size = 8
  · rw [if_pos h8, if_pos h8]
    have hX : L ((((s.extract 0 4 ++ ⟨#[45]⟩) ++ s.extract 4 6) ++ ⟨#[45]⟩) ++ s.extract 6 s.size) = EM.tenL (L s) := by
      simp only [L_append, L_extract]
      rw [L_take_all, List.drop_zero]
      rfl
    have hXs : ((((s.extract 0 4 ++ ⟨#[45]⟩) ++ s.extract 4 6) ++ ⟨#[45]⟩) ++ s.extract 6 s.size).size ≤ 9223372036854775807 := by
      rw [← L_len, hX]
      have hl := L_len s
      unfold EM.tenL
      simp
      omega
    have CP : Hid (∀ x ww, x = (((s.extract 0 4 ++ ⟨#[45]⟩) ++ s.extract 4 6) ++ ⟨#[45]⟩) ++ s.extract 6 s.size → Calls Tryd.prog 58 #[.string x] ww fun e w' => e = .returned (.tuple #[.int .i64 (DM.parN (EM.tenL (L s))), .int .i64 (DM.parE (EM.tenL (L s)))]) ∧ ∃ n, w' = ww.drewN n) := Lib.hid (fun x ww hx => by
      subst hx
      have := parse_any _ ww hXs
      rw [hX] at this
      exact this)
    generalize DM.parN (EM.tenL (L s)) = rn at *
    generalize DM.parE (EM.tenL (L s)) = re at *
    have hn : ((s.size : Int) != 8) = false := by rw [bne, beq_t (by omega)]; rfl
    have b4 : (4 : Int) ≤ (s.size : Int) := by omega
    have b6 : (6 : Int) ≤ (s.size : Int) := by omega
    have HBw : Hid (Below w.heap.size w w.drew) := Lib.hid (Below.refl _ _).drew
    have H8 := Lib.hid h8
    have z0 := ext_size s 0 4; have z1 := ext_size s 4 6; have z2 := ext_size s 6 s.size
    have one : (⟨#[45]⟩ : ByteArray).size = 1 := rfl
    have e1 := @cat_ok (s.extract 0 4) ⟨#[45]⟩ (by omega)
    have e2 := @cat_ok (s.extract 0 4 ++ ⟨#[45]⟩) (s.extract 4 6) (by rw [cat_size]; omega)
    have e3 := @cat_ok ((s.extract 0 4 ++ ⟨#[45]⟩) ++ s.extract 4 6) ⟨#[45]⟩ (by rw [cat_size, cat_size]; omega)
    have e4 := @cat_ok (((s.extract 0 4 ++ ⟨#[45]⟩) ++ s.extract 4 6) ++ ⟨#[45]⟩) (s.extract 6 s.size) (by rw [cat_size, cat_size, cat_size]; omega)
    clear z0 z1 z2 one
    clear h8 hX hXs
    go_enter Tryd.func31, Tryd.ntmps31
    go_wp2_with fail
    go_region_held3 (fun _ => True) (trivial)
      (first
        | (go_at_call 58; refine (CP.out _ _ (by first | rfl | simp)).mono ?_; rintro e w6 ⟨rfl, n6, h6⟩; replace HBw := Lib.hid (show Below w.heap.size w w6 by rw [h6]; exact below_drewN HBw.out n6); clear h6))
    all_goals (
      go_wp2_with fail
      go_ret2
      exact ⟨rfl, HBw.out⟩)
  · rw [if_neg h8, if_neg h8]
    have hn : ((s.size : Int) != 8) = true := by rw [bne, beq_f (by omega)]; rfl
    go_enter Tryd.func31, Tryd.ntmps31
    go_wp2_with fail
    go_ret2
    exact ⟨rfl, Below.refl _ _⟩
def rsE (t : List UInt8) : Int := if WM.intE t ≠ 0 then WM.intE t else if (WM.intN t).natAbs ≤ 16777216 then 0 else 17
def rsN (t : List UInt8) : Int := if rsE t = 0 then WM.intN t else 0
set_option maxHeartbeats 1000000 in
theorem readStrike_any (s : ByteArray) (w : World) (hs : s.size ≤ 300) :
    Calls Tryd.prog 32 #[.string s] w fun e w' => e = .returned (.tuple #[.int .i64 (rsN (L s)), .int .i64 (rsE (L s))]) ∧ Below w.heap.size w w' := by
  have C1 := Lib.hid (fun ww => int_any s ww (by omega))
  have eN : rsN (L s) = if (if WM.intE (L s) ≠ 0 then WM.intE (L s) else if (WM.intN (L s)).natAbs ≤ 16777216 then 0 else 17) = 0 then WM.intN (L s) else 0 := rfl
  rw [eN]
  unfold rsE
  clear eN
  generalize WM.intE (L s) = ie at *
  generalize WM.intN (L s) = inn at *
  by_cases h1 : ie = 0
  · subst h1
    simp only [ne_eq, not_true_eq_false, if_false]
    by_cases h2 : inn.natAbs ≤ 16777216
    · simp only [h2, if_true]
      have a1 : -16777216 ≤ inn := by omega
      have a2 : inn ≤ 16777216 := by omega
      clear h2
      go_enter Tryd.func32, Tryd.ntmps32
      go_wp2_with fail
      refine (C1.out _).mono ?_
      rintro e w1 ⟨rfl, n1, h1⟩
      have HB : Hid (Below w.heap.size w w1) := Lib.hid (by rw [h1]; exact below_drewN (Below.refl _ _) n1)
      clear h1
      go_wp2_with fail
      go_ret2
      exact ⟨rfl, HB.out⟩
    · simp only [h2, if_false]
      rw [if_neg (by decide)]
      rcases (by omega : inn < -16777216 ∨ 16777216 < inn) with h3 | h3
      all_goals (
        clear h2
        go_enter Tryd.func32, Tryd.ntmps32
        go_wp2_with fail
        refine (C1.out _).mono ?_
        rintro e w1 ⟨rfl, n1, h1⟩
        have HB : Hid (Below w.heap.size w w1) := Lib.hid (by rw [h1]; exact below_drewN (Below.refl _ _) n1)
        clear h1
        go_wp2_with fail
        go_ret2
        exact ⟨rfl, HB.out⟩)
  · simp only [ne_eq, h1, not_false_eq_true, if_true, if_false]
    have hd : (ie != 0) = true := by simpa using h1
    clear h1
    go_enter Tryd.func32, Tryd.ntmps32
    go_wp2_with fail
    refine (C1.out _).mono ?_
    rintro e w1 ⟨rfl, n1, h1⟩
    have HB : Hid (Below w.heap.size w w1) := Lib.hid (by rw [h1]; exact below_drewN (Below.refl _ _) n1)
    clear h1
    go_wp2_with fail
    go_ret2
    exact ⟨rfl, HB.out⟩

theorem let_kind {k : Int} (h : 1 ≤ k ∧ k ≤ 3) : ∃ c : UInt8, letB k = ⟨#[c]⟩ ∧ (k = 1 ∧ c = 102 ∨ k = 2 ∧ c = 99 ∨ k = 3 ∧ c = 112) := by
  unfold letB
  by_cases h1 : k = 1
  · exact ⟨102, by rw [if_pos h1], .inl ⟨h1, rfl⟩⟩
  · by_cases h2 : k = 2
    · exact ⟨99, by rw [if_neg h1, if_pos h2], .inr (.inl ⟨h2, rfl⟩)⟩
    · exact ⟨112, by rw [if_neg h1, if_neg h2, if_pos (by omega)], .inr (.inr ⟨by omega, rfl⟩)⟩
theorem let_none {k : Int} (h : ¬ (1 ≤ k ∧ k ≤ 3)) : letB k = ⟨#[]⟩ := by
  unfold letB; rw [if_neg (by omega), if_neg (by omega), if_neg (by omega)]
theorem print_f {s : EM.Ser} {y m d : Int} (hd : DM.isDate s.expiry y m d) (hk : s.kind = 1) : (((s.prod ++ ⟨#[46]⟩) ++ S (EM.d8 y m d)) ++ ⟨#[46]⟩) ++ ⟨#[102]⟩ = S (EM.printL s) := by
  apply L_inj
  rw [EM.print_is ⟨by omega, by omega⟩ hd, L_S]
  simp only [L_append, L_S]
  unfold EM.txt EM.tail
  rw [if_pos hk]
  show _ = L s.prod ++ _
  simp [L]
theorem print_o {s : EM.Ser} {y m d : Int} {c : UInt8} (hd : DM.isDate s.expiry y m d) (hk : s.kind = 2 ∧ c = 99 ∨ s.kind = 3 ∧ c = 112) : ((((s.prod ++ ⟨#[46]⟩) ++ S (EM.d8 y m d)) ++ ⟨#[46]⟩) ++ ⟨#[c]⟩) ++ S (WM.textL s.strike) = S (EM.printL s) := by
  apply L_inj
  rw [EM.print_is ⟨by omega, by omega⟩ hd, L_S]
  simp only [L_append, L_S]
  unfold EM.txt EM.tail
  rw [if_neg (by omega)]
  have e : (if s.kind = 2 then (99 : UInt8) else 112) = c := by
    rcases hk with ⟨h1, h2⟩ | ⟨h1, h2⟩
    · rw [if_pos h1, h2]
    · rw [if_neg (by omega), h2]
  rw [e]
  show _ = L s.prod ++ _
  simp [L]

set_option maxHeartbeats 4000000 in
theorem eprint_any (s : EM.Ser) (w : World) (hq : serQ s) (hp : s.prod.size ≤ 300) (hm : ML w) :
    Calls Tryd.prog 13 #[serA s] w fun e w' => e = .returned (.string (S (EM.printL s))) ∧ Below w.heap.size w w' := by
  have HB0 := Lib.hid ((Below.refl w.heap.size w).alloc (Nat.le_refl _) (.cells #[.string s.prod, .int .i64 s.kind, .int .i64 s.expiry, .int .i64 s.strike] 24))
  have HP0 := Lib.hid (SBox.new w s)
  have HM0 := Lib.hid (hm.below HB0.out)
  have CL := Lib.hid (fun ww => letter_any s.kind ww)
  have CT := Lib.hid (fun ww => text_any s.strike ww hq.2.2.2.1 hq.2.2.2.2)
  have HSm : Hid (s.prod.size ≤ 300) := Lib.hid hp
  by_cases hd : 0 ≤ s.expiry ∧ s.expiry ≤ 73048
  · obtain ⟨y, m, d, hdd⟩ := DM.isDate_exists hd.1 hd.2
    have CP := Lib.hid (fun ww => print_any s.expiry y m d ww hdd)
    have CR := Lib.hid (fun ww (h : ML ww) => strokes_any y m d ww h)
    have hne : ((S (DM.dateL y m d)).toList == []) = false := by
      rw [beq_lit, L_S]; exact decide_eq_false (by unfold DM.dateL; simp)
    have hne2 : ¬ (S (DM.dateL y m d)).toList = [] := by rw [L_toList, L_S]; unfold DM.dateL; simp
    have hD8 : (S (EM.d8 y m d)).size = 8 := rfl
    have HTX : Hid ((S (WM.textL s.strike)).size ≤ 30) := Lib.hid (by rw [S_size]; exact text_small hq.2.2.2)
    by_cases hk : 1 ≤ s.kind ∧ s.kind ≤ 3
    · obtain ⟨c, hc, hkc⟩ := let_kind hk
      rw [hc] at CL
      have PF := Lib.hid (@print_f s y m d hdd)
      have PO := Lib.hid (fun c => @print_o s y m d c hdd)
      generalize S (EM.printL s) = res at *
      generalize S (DM.dateL y m d) = dt at *
      generalize S (EM.d8 y m d) = d8 at *
      generalize S (WM.textL s.strike) = tx at *
      clear hq hp hd hdd hc hm hk
      go_enter Tryd.func13, Tryd.ntmps13
      go_wp2_with fail
      generalize w.alloc (.cells #[.string s.prod, .int .i64 s.kind, .int .i64 s.expiry, .int .i64 s.strike] 24) = w0 at *
      have HSF : Hid (∀ ww, Below w0.heap.size w0 ww → (ww.cell? ⟨w.heap.size, 1, none⟩ = some (.int .i64 s.kind) ∧ ww.cell? ⟨w.heap.size, 2, none⟩ = some (.int .i64 s.expiry))) := Lib.hid (fun ww h => ⟨(HP0.out.below h HP0.out.lt).cells.2.1, (HP0.out.below h HP0.out.lt).cells.2.2.1⟩)
      have HBw : Hid (Below w0.heap.size w0 w0.drew) := Lib.hid (Below.refl _ _).drew
      go_region_held3 (fun ww => ww.cell? ⟨w.heap.size, 1, none⟩ = some (.int .i64 s.kind) ∧ ww.cell? ⟨w.heap.size, 2, none⟩ = some (.int .i64 s.expiry))
        (exact HSF.out _ HBw.out)
        (first
          | (go_at_call 23; refine (CL.out _).mono ?_; rintro e w6 ⟨rfl, rfl⟩)
          | (go_at_call 37; refine (CP.out _).mono ?_; rintro e w1 ⟨rfl, b6⟩; replace HBw := Lib.hid (HBw.out.trans (b6.mono HBw.out.size)); clear b6))
      all_goals (
        have HP1 := Lib.hid (HP0.out.below HBw.out HP0.out.lt)
        have HM1 := Lib.hid (HM0.out.below HBw.out)
        have HB1 := Lib.hid (HB0.out.trans (HBw.out.mono HB0.out.size))
        clear HP0 HM0 HB0 HBw HSF CL CP
        have hcl : ({ data := #[c] } : ByteArray).toList = [c] := by rw [L_toList]; rfl
        have hce : (([c] : List UInt8) == []) = false := rfl
        have hps := HSm.out
        have one : (⟨#[46]⟩ : ByteArray).size = 1 := rfl
        have onec : (⟨#[c]⟩ : ByteArray).size = 1 := rfl
        have e1 := @cat_ok s.prod ⟨#[46]⟩ (by omega)
        have e2 := @cat_ok (s.prod ++ ⟨#[46]⟩) d8 (by rw [cat_size]; omega)
        have e3 := @cat_ok ((s.prod ++ ⟨#[46]⟩) ++ d8) ⟨#[46]⟩ (by rw [cat_size, cat_size]; omega)
        have e4 := @cat_ok (((s.prod ++ ⟨#[46]⟩) ++ d8) ++ ⟨#[46]⟩) ⟨#[c]⟩ (by rw [cat_size, cat_size, cat_size]; omega)
        have e5 := @cat_ok ((((s.prod ++ ⟨#[46]⟩) ++ d8) ++ ⟨#[46]⟩) ++ ⟨#[c]⟩) tx (by rw [cat_size, cat_size, cat_size, cat_size]; have := HTX.out; omega)
        clear one onec hps hD8
        obtain ⟨c0, c1, c2, c3⟩ := HP1.out.cells
        go_wp2_with fail
        have HSF : Hid (∀ ww, Below w1.heap.size w1 ww → ww.cell? ⟨w.heap.size, 0, none⟩ = some (.string s.prod)) := Lib.hid (fun ww h => (HP1.out.below h HP1.out.lt).cells.1)
        have HBw : Hid (Below w1.heap.size w1 w1.drew) := Lib.hid (Below.refl _ _).drew
        clear c0 c1 c2 c3
        go_region_held3 (fun ww => ww.cell? ⟨w.heap.size, 0, none⟩ = some (.string s.prod))
          (exact HSF.out _ HBw.out)
          (first
            | (go_at_call 38; refine (CR.out _ (HM1.out.below HBw.out)).mono ?_; rintro e w2 ⟨rfl, b6⟩; replace HBw := Lib.hid (HBw.out.trans (b6.mono HBw.out.size)); clear b6))
        all_goals (
          have HP2 := Lib.hid (HP1.out.below HBw.out HP1.out.lt)
          have HB2 := Lib.hid (HB1.out.trans (HBw.out.mono HB1.out.size))
          clear HSF HBw HP1 HB1 CR HM1
          obtain ⟨c0, c1, c2, c3⟩ := HP2.out.cells
          rcases hkc with ⟨hk, rfl⟩ | hkc
          · have HX := Lib.hid (PF.out hk)
            rw [hk] at c1
            clear hk
            go_wp2_with fail
            go_ret
            exact ⟨by rw [← HX.out]; rfl, HB2.out⟩
          · have HX := Lib.hid (PO.out c hkc)
            have hk1 : ¬ s.kind = 1 := by omega
            have hk2 : (s.kind == 1) = false := beq_f hk1
            go_wp2_with fail
            refine (CT.out _).mono ?_
            rintro e w3 ⟨rfl, b3⟩
            have HB3 := Lib.hid (HB2.out.trans (b3.mono HB2.out.size))
            clear b3
            go_wp2_with fail
            go_ret
            exact ⟨by rw [← HX.out]; rfl, HB3.out⟩))
    · rw [EM.print_no (fun h => hk h.1)]
      rw [let_none hk] at CL
      generalize S (DM.dateL y m d) = dt at *
      clear hq hp hd hdd hm hk CT CR HTX
      go_enter Tryd.func13, Tryd.ntmps13
      go_wp2_with fail
      generalize w.alloc (.cells #[.string s.prod, .int .i64 s.kind, .int .i64 s.expiry, .int .i64 s.strike] 24) = w0 at *
      have HSF : Hid (∀ ww, Below w0.heap.size w0 ww → (ww.cell? ⟨w.heap.size, 1, none⟩ = some (.int .i64 s.kind) ∧ ww.cell? ⟨w.heap.size, 2, none⟩ = some (.int .i64 s.expiry))) := Lib.hid (fun ww h => ⟨(HP0.out.below h HP0.out.lt).cells.2.1, (HP0.out.below h HP0.out.lt).cells.2.2.1⟩)
      have HBw : Hid (Below w0.heap.size w0 w0.drew) := Lib.hid (Below.refl _ _).drew
      go_region_held3 (fun ww => ww.cell? ⟨w.heap.size, 1, none⟩ = some (.int .i64 s.kind) ∧ ww.cell? ⟨w.heap.size, 2, none⟩ = some (.int .i64 s.expiry))
        (exact HSF.out _ HBw.out)
        (first
          | (go_at_call 23; refine (CL.out _).mono ?_; rintro e w6 ⟨rfl, rfl⟩)
          | (go_at_call 37; refine (CP.out _).mono ?_; rintro e w1 ⟨rfl, b6⟩; replace HBw := Lib.hid (HBw.out.trans (b6.mono HBw.out.size)); clear b6))
      all_goals (
        have HB1 := Lib.hid (HB0.out.trans (HBw.out.mono HB0.out.size))
        clear HSF HBw HP0 HM0 HB0
        go_wp2_with fail
        go_ret
        exact ⟨rfl, HB1.out⟩)
  · have CP := Lib.hid (fun ww => print_no s.expiry ww (by omega))
    rw [EM.print_no (fun h => hd h.2)]
    generalize letB s.kind = lk at *
    clear hq hp hd hm CT
    cases hlk : (lk.toList == [])
    · have hl2 : ¬ lk.toList = [] := by simpa using hlk
      go_enter Tryd.func13, Tryd.ntmps13
      go_wp2_with fail
      generalize w.alloc (.cells #[.string s.prod, .int .i64 s.kind, .int .i64 s.expiry, .int .i64 s.strike] 24) = w0 at *
      have HSF : Hid (∀ ww, Below w0.heap.size w0 ww → (ww.cell? ⟨w.heap.size, 1, none⟩ = some (.int .i64 s.kind) ∧ ww.cell? ⟨w.heap.size, 2, none⟩ = some (.int .i64 s.expiry))) := Lib.hid (fun ww h => ⟨(HP0.out.below h HP0.out.lt).cells.2.1, (HP0.out.below h HP0.out.lt).cells.2.2.1⟩)
      have HBw : Hid (Below w0.heap.size w0 w0.drew) := Lib.hid (Below.refl _ _).drew
      go_region_held3 (fun ww => ww.cell? ⟨w.heap.size, 1, none⟩ = some (.int .i64 s.kind) ∧ ww.cell? ⟨w.heap.size, 2, none⟩ = some (.int .i64 s.expiry))
        (exact HSF.out _ HBw.out)
        (first
          | (go_at_call 23; refine (CL.out _).mono ?_; rintro e w6 ⟨rfl, rfl⟩)
          | (go_at_call 37; refine (CP.out _).mono ?_; rintro e w6 ⟨rfl, rfl⟩))
      all_goals (
        have HB1 := Lib.hid (HB0.out.trans (HBw.out.mono HB0.out.size))
        clear HSF HBw HP0 HM0 HB0
        go_wp2_with fail
        go_ret
        exact ⟨rfl, HB1.out⟩)
    · have hl2 : lk.toList = [] := by simpa using hlk
      go_enter Tryd.func13, Tryd.ntmps13
      go_wp2_with fail
      generalize w.alloc (.cells #[.string s.prod, .int .i64 s.kind, .int .i64 s.expiry, .int .i64 s.strike] 24) = w0 at *
      have HSF : Hid (∀ ww, Below w0.heap.size w0 ww → (ww.cell? ⟨w.heap.size, 1, none⟩ = some (.int .i64 s.kind) ∧ ww.cell? ⟨w.heap.size, 2, none⟩ = some (.int .i64 s.expiry))) := Lib.hid (fun ww h => ⟨(HP0.out.below h HP0.out.lt).cells.2.1, (HP0.out.below h HP0.out.lt).cells.2.2.1⟩)
      have HBw : Hid (Below w0.heap.size w0 w0.drew) := Lib.hid (Below.refl _ _).drew
      go_region_held3 (fun ww => ww.cell? ⟨w.heap.size, 1, none⟩ = some (.int .i64 s.kind) ∧ ww.cell? ⟨w.heap.size, 2, none⟩ = some (.int .i64 s.expiry))
        (exact HSF.out _ HBw.out)
        (first
          | (go_at_call 23; refine (CL.out _).mono ?_; rintro e w6 ⟨rfl, rfl⟩)
          | (go_at_call 37; refine (CP.out _).mono ?_; rintro e w6 ⟨rfl, rfl⟩))
      all_goals (
        have HB1 := Lib.hid (HB0.out.trans (HBw.out.mono HB0.out.size))
        clear HSF HBw HP0 HM0 HB0
        go_wp2_with fail
        go_ret
        exact ⟨rfl, HB1.out⟩)
end Go.Proofs.YtiohainnpjikpaaDoor

/- Layer 10: Parse. -/
namespace Go.Proofs.YtiohainnpjikpaaDoor
open Go.RowKit Go.Recs Go.Shelf
set_option linter.unusedVariables false
set_option linter.unusedSimpArgs false

section
variable {t : List UInt8} {a b c : List UInt8}
theorem ps_len (h : (WM.pieces 46 t).length ≠ 3) : EM.parE t = 5 ∧ EM.parN t = EM.zero := EM.par_form (by rintro ⟨a, b, c, hp, _⟩; rw [hp] at h; exact h rfl)
theorem ps_parts (hP : WM.pieces 46 t = [a, b, c]) : EM.pA t = a ∧ EM.pB t = b ∧ EM.pC t = c := by
  unfold EM.pA EM.pB EM.pC; rw [hP]; exact ⟨rfl, rfl, rfl⟩
theorem ps_kind (hP : WM.pieces 46 t = [a, b, c]) (h : EM.ckB c = false) : EM.parE t = 5 ∧ EM.parN t = EM.zero := EM.par_form (by
  rintro ⟨a', b', c', hp, _, _, hc⟩
  rw [hP] at hp; simp only [List.cons.injEq, and_true] at hp
  obtain ⟨rfl, rfl, rfl⟩ := hp
  exact absurd hc (of_decide_eq_false h))
theorem ps_name (hP : WM.pieces 46 t = [a, b, c]) (h : WM.name a = false) : EM.parE t = 5 ∧ EM.parN t = EM.zero := EM.par_form (by
  rintro ⟨a', b', c', hp, hn, _⟩
  rw [hP] at hp; simp only [List.cons.injEq, and_true] at hp
  obtain ⟨rfl, rfl, rfl⟩ := hp
  rw [h] at hn; cases hn)
theorem ps_form (hP : WM.pieces 46 t = [a, b, c]) (h1 : EM.ckB c = true) (h2 : WM.name a = true) (h3 : b.length = 8) (h4 : b.all WM.dig = true) : EM.form (WM.pieces 46 t) := ⟨a, b, c, hP, h2, ⟨h3, h4⟩, of_decide_eq_true h1⟩
theorem ps_date (hP : WM.pieces 46 t = [a, b, c]) (h1 : EM.ckB c = true) (h2 : WM.name a = true) (h : rdE b ≠ 0) : EM.parE t = rdE b ∧ EM.parN t = EM.zero := by
  obtain ⟨e1, e2, e3⟩ := ps_parts hP
  unfold rdE at h ⊢
  by_cases h8 : b.length = 8
  · rw [if_pos h8] at h ⊢
    cases hd : b.all WM.dig with
    | true =>
      have hf := ps_form hP h1 h2 h8 hd
      rw [(EM.ten_digits h8 hd).1] at h ⊢
      have := EM.par_date hf (by unfold EM.yy EM.mm EM.dd; rw [e2]; exact h)
      rcases EM.of_cases (WM.val b / 10000) (WM.val b / 100 % 100) (WM.val b % 100) with g | g
      · exact absurd g h
      · rw [g]; exact this
    | false =>
      rw [(EM.ten_others h8 hd).1]
      refine EM.par_form ?_
      rintro ⟨a', b', c', hp, _, hb, _⟩
      rw [hP] at hp; simp only [List.cons.injEq, and_true] at hp
      obtain ⟨rfl, rfl, rfl⟩ := hp
      rw [hd] at hb; exact absurd hb.2 (by decide)
  · rw [if_neg h8]
    refine EM.par_form ?_
    rintro ⟨a', b', c', hp, _, hb, _⟩
    rw [hP] at hp; simp only [List.cons.injEq, and_true] at hp
    obtain ⟨rfl, rfl, rfl⟩ := hp
    exact h8 hb.1
theorem ps_good (hP : WM.pieces 46 t = [a, b, c]) (h1 : EM.ckB c = true) (h2 : WM.name a = true) (h : rdE b = 0) : EM.form (WM.pieces 46 t) ∧ DM.ofE (EM.yy t) (EM.mm t) (EM.dd t) = 0 ∧ DM.ofN (EM.yy t) (EM.mm t) (EM.dd t) = rdN b := by
  obtain ⟨e1, e2, e3⟩ := ps_parts hP
  unfold rdE at h
  by_cases h8 : b.length = 8
  · rw [if_pos h8] at h
    cases hd : b.all WM.dig with
    | true =>
      rw [(EM.ten_digits h8 hd).1] at h
      refine ⟨ps_form hP h1 h2 h8 hd, ?_, ?_⟩
      · unfold EM.yy EM.mm EM.dd; rw [e2]; exact h
      · unfold EM.yy EM.mm EM.dd rdN; rw [e2, if_pos h8, (EM.ten_digits h8 hd).2]
    | false => rw [(EM.ten_others h8 hd).1] at h; cases h
  · rw [if_neg h8] at h; cases h
theorem ps_future (hP : WM.pieces 46 t = [a, b, c]) (h1 : EM.ckB c = true) (h2 : WM.name a = true) (h : rdE b = 0) (hc : EM.ckK c = 1) : EM.parE t = 0 ∧ EM.parN t = ⟨⟨a.toArray⟩, 1, rdN b, 0⟩ := by
  obtain ⟨e1, e2, e3⟩ := ps_parts hP
  obtain ⟨g1, g2, g3⟩ := ps_good hP h1 h2 h
  have hc1 : c = [102] := by
    unfold EM.ckK at hc
    by_cases hh : c = [102]
    · exact hh
    · rw [if_neg hh] at hc; split at hc <;> (try split at hc) <;> omega
  have := EM.par_future g1 g2 (by rw [e3]; exact hc1)
  rw [g3, e1] at this
  exact this
theorem ck_two (h1 : EM.ckB c = true) (hc : EM.ckK c ≠ 1) : c ≠ [102] ∧ EM.ckR c = c.tail ∧ EM.ckK c = (if c.headD 0 = 99 then 2 else 3) := by
  have hne : c ≠ [102] := by intro e; apply hc; unfold EM.ckK; rw [if_pos e]
  have hh := of_decide_eq_true h1
  rcases hh with hh | hh | hh
  · exact absurd hh hne
  · refine ⟨hne, ?_, ?_⟩
    · unfold EM.ckR; rw [if_neg hne, if_pos (.inl hh)]
    · unfold EM.ckK; rw [if_neg hne, if_pos hh, if_pos hh]
  · refine ⟨hne, ?_, ?_⟩
    · unfold EM.ckR; rw [if_neg hne, if_pos (.inr hh)]
    · have h99 : ¬ c.headD 0 = 99 := by rw [hh]; decide
      unfold EM.ckK; rw [if_neg hne, if_neg h99, if_pos hh, if_neg h99]
theorem ps_bad (hP : WM.pieces 46 t = [a, b, c]) (h1 : EM.ckB c = true) (h2 : WM.name a = true) (h : rdE b = 0) (hc : EM.ckK c ≠ 1) (hr : rsE (EM.ckR c) ≠ 0) : EM.parE t = rsE (EM.ckR c) ∧ EM.parN t = EM.zero := by
  obtain ⟨e1, e2, e3⟩ := ps_parts hP
  obtain ⟨g1, g2, g3⟩ := ps_good hP h1 h2 h
  obtain ⟨k1, k2, k3⟩ := ck_two h1 hc
  rw [k2] at hr ⊢
  unfold rsE at hr ⊢
  by_cases hi : WM.intE c.tail = 0
  · rw [if_neg (by simp [hi])] at hr ⊢
    by_cases hn : (WM.intN c.tail).natAbs ≤ 16777216
    · rw [if_pos hn] at hr; exact absurd rfl hr
    · rw [if_neg hn]
      exact EM.par_price g1 g2 (by rw [e3]; exact k1) (by rw [e3]; exact hi) (by rw [e3]; exact hn)
  · rw [if_pos hi]
    have := EM.par_int g1 g2 (by rw [e3]; exact k1) (by rw [e3]; exact hi)
    rw [e3] at this; exact this
theorem ps_option (hP : WM.pieces 46 t = [a, b, c]) (h1 : EM.ckB c = true) (h2 : WM.name a = true) (h : rdE b = 0) (hc : EM.ckK c ≠ 1) (hr : rsE (EM.ckR c) = 0) : EM.parE t = 0 ∧ EM.parN t = ⟨⟨a.toArray⟩, EM.ckK c, rdN b, rsN (EM.ckR c)⟩ := by
  obtain ⟨e1, e2, e3⟩ := ps_parts hP
  obtain ⟨g1, g2, g3⟩ := ps_good hP h1 h2 h
  obtain ⟨k1, k2, k3⟩ := ck_two h1 hc
  have hN : rsN (EM.ckR c) = WM.intN c.tail := by unfold rsN; rw [if_pos hr, k2]
  rw [hN, k3]
  rw [k2] at hr
  unfold rsE at hr
  by_cases hi : WM.intE c.tail = 0
  · rw [if_neg (by simp [hi])] at hr
    by_cases hn : (WM.intN c.tail).natAbs ≤ 16777216
    · have := EM.par_option g1 g2 (by rw [e3]; exact k1) (by rw [e3]; exact hi) (by rw [e3]; exact hn)
      rw [e3, e1, g3] at this; exact this
    · rw [if_neg hn] at hr; cases hr
  · rw [if_pos hi] at hr; exact absurd hr hi
end
theorem three {α : Type} (l : List α) (h : l.length = 3) : ∃ a b c, l = [a, b, c] := by
  match l, h with
  | [a, b, c], _ => exact ⟨a, b, c, rfl⟩
theorem piece_300 {t p : ByteArray} {ls : List ByteArray} (ht : t.size ≤ 300) (h : ls.map L = WM.pieces 46 (L t)) (hp : p ∈ ls) : p.size ≤ 300 := by
  have h2 : L p ∈ WM.pieces 46 (L t) := by rw [← h]; exact List.mem_map_of_mem hp
  have key : ∀ (n : Nat) (s q : List UInt8), s.length ≤ n → q ∈ WM.pieces 46 s → q.length ≤ s.length := by
    intro n
    induction n with
    | zero =>
      intro s q hs hq
      have : s = [] := List.eq_nil_of_length_eq_zero (by omega)
      subst this
      rw [EM.pieces_no (by simp), List.mem_singleton] at hq
      rw [hq]; exact Nat.le_refl _
    | succ n ih =>
      intro s q hs hq
      by_cases hc : (46 : UInt8) ∈ s
      · obtain ⟨x, y, rfl, hx⟩ := List.eq_append_cons_of_mem hc
        rw [EM.pieces_at hx] at hq
        rcases List.mem_cons.1 hq with rfl | hq
        · simp
        · have := ih y q (by simp at hs; omega) hq
          simp; omega
      · rw [EM.pieces_no hc, List.mem_singleton] at hq
        rw [hq]; exact Nat.le_refl _
  have := key _ _ _ (Nat.le_refl _) h2
  rw [L_len, L_len] at this
  omega

set_option maxHeartbeats 8000000 in
theorem eparse_any (t : ByteArray) (w : World) (ht : t.size ≤ 300) (hm : ML w) :
    Calls Tryd.prog 11 #[.string t] w fun e w' => e = .returned (.tuple #[serA (EM.parN (L t)), .int .i64 (EM.parE (L t))]) ∧ Below w.heap.size w w' := by
  have HB0 := Lib.hid ((Below.refl w.heap.size w).alloc (Nat.le_refl _) (.cells #[.string ⟨#[]⟩, .int .i64 0, .int .i64 0, .int .i64 0] 24))
  have HP0 : Hid (SBox (w.alloc (.cells #[.string ⟨#[]⟩, .int .i64 0, .int .i64 0, .int .i64 0] 24)) w.heap.size EM.zero) := Lib.hid (SBox.new w EM.zero)
  have C1 := Lib.hid (fun ww (h : ML ww) => split4_any t ww h (by omega))
  have HM0 := Lib.hid (hm.below HB0.out)
  have KL := Lib.hid (@ps_len (L t)); have KK := Lib.hid (fun a b c => @ps_kind (L t) a b c); have KN := Lib.hid (fun a b c => @ps_name (L t) a b c); have KD := Lib.hid (fun a b c => @ps_date (L t) a b c)
  have KF := Lib.hid (fun a b c => @ps_future (L t) a b c); have KB := Lib.hid (fun a b c => @ps_bad (L t) a b c); have KO := Lib.hid (fun a b c => @ps_option (L t) a b c)
  have HPC := Lib.hid (fun p ls => @piece_300 t p ls ht)
  generalize EM.parE (L t) = pe at *
  generalize EM.parN (L t) = pn at *
  clear hm ht
  go_enter Tryd.func11, Tryd.ntmps11
  go_wp2_with fail
  refine (C1.out _ HM0.out).mono ?_
  rintro e w1 ⟨A, cap, ls, rfl, hS, b1, hi1, hi2⟩
  have HP1 := Lib.hid (HP0.out.below b1 HP0.out.lt)
  have HB1 := Lib.hid (HB0.out.trans (b1.mono HB0.out.size))
  have hlen := hS.len
  have HS := Lib.hid hS
  clear b1 hS HP0 HB0 C1 HM0
  obtain ⟨c0, c1, c2, c3⟩ := HP1.out.cells
  have f0 := HP1.out.frozen 0; have f1 := HP1.out.frozen 1; have f2 := HP1.out.frozen 2; have f3 := HP1.out.frozen 3
  by_cases h3 : ls.length = 3
  · have HMP := Lib.hid (hi2 (hi1.1 h3))
    obtain ⟨a, b, c, rfl⟩ := three ls h3
    have HP3 : Hid (WM.pieces 46 (L t) = [L a, L b, L c]) := Lib.hid HMP.out.symm
    have sa := HPC.out a _ HMP.out (by simp); have sb := HPC.out b _ HMP.out (by simp); have sc := HPC.out c _ HMP.out (by simp)
    obtain ⟨bk, off, xa, rfl, hb, d0, HV0, _⟩ := HS.out.get (k := 0) (by show 0 < 3; omega)
    obtain rfl : a = xa := HV0.out
    obtain ⟨bk', off', xb, e', _, d1, HV1, _⟩ := HS.out.get (k := 1) (by show 1 < 3; omega)
    injection e' with e'; injection e' with e1' e2'; subst e1' e2'
    obtain rfl : b = xb := HV1.out
    obtain ⟨bk', off', xc, e', _, d2, HV2, _⟩ := HS.out.get (k := 2) (by show 2 < 3; omega)
    injection e' with e'; injection e' with e1' e2'; subst e1' e2'
    obtain rfl : c = xc := HV2.out
    have d0' : w1.cell? ⟨bk, off, none⟩ = some (.string a) := d0
    have CK := Lib.hid (fun ww => cutKind_any c ww (by omega))
    have CN := Lib.hid (fun ww => name_any a ww (by omega))
    have CD := Lib.hid (fun ww => readDate_any b ww sb)
    have hrs : (S (EM.ckR (L c))).size ≤ 300 := by
      rw [S_size]
      have := L_len c
      unfold EM.ckR
      split
      · simp
      · split
        · simp; omega
        · simp
    have CR := Lib.hid (fun ww => readStrike_any (S (EM.ckR (L c))) ww hrs)
    rw [L_S] at CR
    have K2 := Lib.hid (KK.out _ _ _ HP3.out); have K3 := Lib.hid (KN.out _ _ _ HP3.out); have K4 := Lib.hid (KD.out _ _ _ HP3.out); have K5 := Lib.hid (KF.out _ _ _ HP3.out); have K6 := Lib.hid (KB.out _ _ _ HP3.out); have K7 := Lib.hid (KO.out _ _ _ HP3.out)
    have HSA : Hid ((⟨(L a).toArray⟩ : ByteArray) = a) := Lib.hid (S_L a)
    rw [HSA.out] at K5 K7
    clear hlen h3 hi1 hi2 KL KK KN KD KF KB KO HPC HMP HV0 HV1 HV2 HP3 sa sb sc hrs HSA
    generalize EM.ckK (L c) = kk at *
    generalize EM.ckB (L c) = kb at *
    generalize rsN (EM.ckR (L c)) = sn at *
    generalize rsE (EM.ckR (L c)) = se at *
    generalize S (EM.ckR (L c)) = kr at *
    generalize WM.name (L a) = nb at *
    generalize rdN (L b) = dn at *
    generalize rdE (L b) = de at *
    go_wp2_with fail
    refine (CK.out _).mono ?_
    rintro e w2 ⟨rfl, rfl⟩
    cases kb
    · have HX := Lib.hid (K2.out (by trivial))
      go_wp2_with fail
      (try simp only [Exit.inBlock, Exit.then])
      refine bodyPost_ret (results_ser rfl _ _ _ _ rfl (HP1.out.put EM.zero)) rfl ⟨?_, SBox.put_below HB1.out (Nat.le_refl _) EM.zero⟩
      rw [HX.out.1, HX.out.2]; rfl
    go_wp2_with fail
    refine (CN.out _).mono ?_
    rintro e w2 ⟨rfl, rfl⟩
    cases nb
    · have HX := Lib.hid (K3.out (by trivial))
      go_wp2_with fail
      (try simp only [Exit.inBlock, Exit.then])
      refine bodyPost_ret (results_ser rfl _ _ _ _ rfl (HP1.out.put EM.zero)) rfl ⟨?_, SBox.put_below HB1.out (Nat.le_refl _) EM.zero⟩
      rw [HX.out.1, HX.out.2]; rfl
    go_wp2_with fail
    refine (CD.out _).mono ?_
    rintro e w2 ⟨rfl, b2⟩
    have HP2 := Lib.hid (HP1.out.below b2 HP1.out.lt)
    have HB2 := Lib.hid (HB1.out.trans (b2.mono HB1.out.size))
    have d0'' := (b2.cell (p := ⟨bk, off, none⟩) hb).trans d0'
    clear b2 c0 c1 c2 c3 f0 f1 f2 f3 d0 d1 d2 d0' HS HP1 HB1
    obtain ⟨c0, c1, c2, c3⟩ := HP2.out.cells
    have f0 := HP2.out.frozen 0; have f1 := HP2.out.frozen 1; have f2 := HP2.out.frozen 2; have f3 := HP2.out.frozen 3
    by_cases hde : de = 0
    · subst hde
      have HP3 : Hid (SBox ((((w2.setCell ⟨w.heap.size, 0, none⟩ (.string a)).setCell ⟨w.heap.size, 1, none⟩ (.int .i64 kk)).setCell ⟨w.heap.size, 2, none⟩ (.int .i64 dn)).setCell ⟨w.heap.size, 3, none⟩ (.int .i64 0)) w.heap.size ⟨a, kk, dn, 0⟩) := Lib.hid (HP2.out.put ⟨a, kk, dn, 0⟩)
      have HB3 : Hid (Below w.heap.size w ((((w2.setCell ⟨w.heap.size, 0, none⟩ (.string a)).setCell ⟨w.heap.size, 1, none⟩ (.int .i64 kk)).setCell ⟨w.heap.size, 2, none⟩ (.int .i64 dn)).setCell ⟨w.heap.size, 3, none⟩ (.int .i64 0))) := Lib.hid (SBox.put_below HB2.out (Nat.le_refl _) ⟨a, kk, dn, 0⟩)
      by_cases hk1 : kk = 1
      · have HX := Lib.hid (K5.out (by trivial) (by trivial) (by trivial) hk1)
        subst hk1
        go_wp2_with fail
        (try simp only [Exit.inBlock, Exit.then])
        refine bodyPost_ret (results_ser rfl _ _ _ _ rfl (HP3.out.put ⟨a, 1, dn, 0⟩)) rfl ⟨?_, SBox.put_below HB3.out (Nat.le_refl _) ⟨a, 1, dn, 0⟩⟩
        rw [HX.out.1, HX.out.2]; rfl
      · have hk2 : (kk == 1) = false := beq_f hk1
        have HK := Lib.hid hk1
        go_wp2_with fail
        refine (CR.out _).mono ?_
        rintro e w4 ⟨rfl, b4⟩
        have HP4 := Lib.hid (HP3.out.below b4 HP3.out.lt)
        have HB4 := Lib.hid (HB3.out.trans (b4.mono HB3.out.size))
        clear b4 c0 c1 c2 c3 f0 f1 f2 f3 HP3 HB3 HP2 HB2 d0''
        obtain ⟨c0, c1, c2, c3⟩ : w4.cell? ⟨w.heap.size, 0, none⟩ = some (.string a) ∧ w4.cell? ⟨w.heap.size, 1, none⟩ = some (.int .i64 kk) ∧ w4.cell? ⟨w.heap.size, 2, none⟩ = some (.int .i64 dn) ∧ w4.cell? ⟨w.heap.size, 3, none⟩ = some (.int .i64 0) := HP4.out.cells
        have f0 := HP4.out.frozen 0; have f1 := HP4.out.frozen 1; have f2 := HP4.out.frozen 2; have f3 := HP4.out.frozen 3
        have HP5 : Hid (SBox (w4.setCell ⟨w.heap.size, 3, none⟩ (.int .i64 sn)) w.heap.size ⟨a, kk, dn, sn⟩) := Lib.hid (HP4.out.strike sn)
        have HB5 := Lib.hid (HB4.out.setCell (p := ⟨w.heap.size, 3, none⟩) (Nat.le_refl _) (.int .i64 sn))
        by_cases hse : se = 0
        · have HX := Lib.hid (K7.out (by trivial) (by trivial) (by trivial) HK.out hse)
          subst hse
          go_wp2_with fail
          (try simp only [Exit.inBlock, Exit.then])
          refine bodyPost_ret (results_ser rfl _ _ _ _ rfl (HP5.out.put ⟨a, kk, dn, sn⟩)) rfl ⟨?_, SBox.put_below HB5.out (Nat.le_refl _) ⟨a, kk, dn, sn⟩⟩
          rw [HX.out.1, HX.out.2]; rfl
        · have HX := Lib.hid (K6.out (by trivial) (by trivial) (by trivial) HK.out hse)
          have hd : (se != 0) = true := by simpa using hse
          clear hse
          go_wp2_with fail
          (try simp only [Exit.inBlock, Exit.then])
          refine bodyPost_ret (results_ser rfl _ _ _ _ rfl (HP5.out.put EM.zero)) rfl ⟨?_, SBox.put_below HB5.out (Nat.le_refl _) EM.zero⟩
          rw [HX.out.1, HX.out.2]; rfl
    · have HX := Lib.hid (K4.out (by trivial) (by trivial) hde)
      have hd : (de != 0) = true := by simpa using hde
      clear hde
      go_wp2_with fail
      (try simp only [Exit.inBlock, Exit.then])
      refine bodyPost_ret (results_ser rfl _ _ _ _ rfl (HP2.out.put EM.zero)) rfl ⟨?_, SBox.put_below HB2.out (Nat.le_refl _) EM.zero⟩
      rw [HX.out.1, HX.out.2]; rfl
  · have hne : ((ls.length : Int) != 3) = true := by rw [bne, beq_f (by omega)]; rfl
    have HX := Lib.hid (KL.out (fun h => h3 (hi1.2 h)))
    clear hi1 hi2 KL KK KN KD KF KB KO HPC
    go_wp2_with fail
    (try simp only [Exit.inBlock, Exit.then])
    refine bodyPost_ret (results_ser rfl _ _ _ _ rfl (HP1.out.put EM.zero)) rfl ⟨?_, SBox.put_below HB1.out (Nat.le_refl _) EM.zero⟩
    rw [HX.out.1, HX.out.2]; rfl
end Go.Proofs.YtiohainnpjikpaaDoor

/- Contract: layer 10's examples hold. -/
namespace Go.Proofs.YtiohainnpjikpaaDoor
open Go.RowKit Go.Recs Go.Shelf
set_option linter.unusedVariables false

def exC : EM.Ser := ⟨⟨#[111, 105, 108]⟩, 2, 9576, -50⟩
def exF : EM.Ser := ⟨⟨#[111, 105, 108]⟩, 1, 9576, 0⟩
theorem ex_day : DM.isDate 9576 2026 3 21 := ⟨by decide, by decide⟩
theorem ex_50 : WM.dec 50 = [53, 48] := by rw [WM.dec_big (by decide), WM.dec_small (by decide)]; rfl
theorem ex_pc : EM.printL exC = [111, 105, 108, 46, 50, 48, 50, 54, 48, 51, 50, 49, 46, 99, 45, 53, 48] := by
  rw [EM.print_is (s := exC) (y := 2026) (m := 3) (d := 21) ⟨by decide, by decide⟩ ex_day]
  have e : WM.textL exC.strike = [45, 53, 48] := by show 45 :: WM.dec 50 = _; rw [ex_50]
  unfold EM.txt EM.tail
  rw [e]
  rfl
theorem ex_pf : EM.printL exF = [111, 105, 108, 46, 50, 48, 50, 54, 48, 51, 50, 49, 46, 102] := by
  rw [EM.print_is (s := exF) (y := 2026) (m := 3) (d := 21) ⟨by decide, by decide⟩ ex_day]
  rfl
theorem ex_par : EM.parE [111, 105, 108, 46, 50, 48, 50, 54, 48, 51, 50, 49, 46, 102] = 0 ∧ EM.parN [111, 105, 108, 46, 50, 48, 50, 54, 48, 51, 50, 49, 46, 102] = exF := by
  rw [← ex_pf]
  exact EM.par_print ⟨⟨by decide, by decide⟩, by decide, by decide⟩ (by decide) ⟨by decide, by decide⟩ (fun _ => rfl)
theorem ex_cmp : EM.cmp exC exF = 1 := by rw [← EM.cmp_or]; decide
theorem ser_q (s : EM.Ser) (h1 : s.prod.size ≤ maxLen) (h2 : i64 s.kind) (h3 : i64 s.expiry) (h4 : i64 s.strike) : serQ s := ⟨h1, h2, h3, h4⟩

set_option maxHeartbeats 4000000 in
theorem goes10_any (w : World) (hm : ML w) : Calls Tryd.prog 8 #[] w fun e w' => e = .returned (.bool true) ∧ Below w.heap.size w w' := by
  have P1 := fun ww h => eparse_any ⟨#[111, 105, 108, 46, 50, 48, 50, 54, 48, 51, 50, 49, 46, 102]⟩ ww (by decide) h
  have eL : L ⟨#[111, 105, 108, 46, 50, 48, 50, 54, 48, 51, 50, 49, 46, 102]⟩ = [111, 105, 108, 46, 50, 48, 50, 54, 48, 51, 50, 49, 46, 102] := rfl
  rw [eL, ex_par.1, ex_par.2] at P1
  have PR := fun ww h => eprint_any exC ww ⟨by decide, ⟨by decide, by decide⟩, ⟨by decide, by decide⟩, ⟨by decide, by decide⟩⟩ (by decide) h
  have eP : S (EM.printL exC) = ⟨#[111, 105, 108, 46, 50, 48, 50, 54, 48, 51, 50, 49, 46, 99, 45, 53, 48]⟩ := by rw [ex_pc]; rfl
  rw [eP] at PR
  have CC := fun ww => ecmp_any exC exF ww
  rw [ex_cmp] at CC
  have E1 : ∀ ww, (Op.equalIn 10000 24 (serA exF) (serA exF)).run Tryd.prog ww = .ok true ww := fun ww => by rw [ser_in, seq_iff.2 rfl]
  have hgd := ser_guard
  have HP1 := Lib.hid P1; have HPR := Lib.hid PR; have HCC := Lib.hid CC
  have HB0 := Lib.hid ((Below.refl w.heap.size w).alloc (Nat.le_refl _) (.cells #[.string exC.prod, .int .i64 exC.kind, .int .i64 exC.expiry, .int .i64 exC.strike] 24))
  have HX0 := Lib.hid (SBox.new w exC)
  have HM0 := Lib.hid (hm.below HB0.out)
  have HF0 : Hid (Op.equalIn 10000 24 (serA exF) (.agg #[.string ⟨#[111, 105, 108]⟩, .int .i64 1, .int .i64 9576, .int .i64 0]) = Op.equalIn 10000 24 (serA exF) (serA exF)) := Lib.hid rfl
  have E2 : ∀ ww, (Op.equalIn 10000 24 (serA exF) (.agg #[.string ⟨#[111, 105, 108]⟩, .int .i64 1, .int .i64 9576, .int .i64 0])).run Tryd.prog ww = .ok true ww := fun ww => by rw [HF0.out]; exact E1 ww
  clear P1 PR CC eL eP hm E1 HF0
  change Hid (Below w.heap.size w (w.alloc (.cells #[.string ⟨#[111, 105, 108]⟩, .int .i64 2, .int .i64 9576, .int .i64 (-50)] 24))) at HB0
  change Hid (SBox (w.alloc (.cells #[.string ⟨#[111, 105, 108]⟩, .int .i64 2, .int .i64 9576, .int .i64 (-50)] 24)) w.heap.size exC) at HX0
  change Hid (ML (w.alloc (.cells #[.string ⟨#[111, 105, 108]⟩, .int .i64 2, .int .i64 9576, .int .i64 (-50)] 24))) at HM0
  generalize exF = f at *
  generalize exC = c at *
  go_enter Tryd.func8, Tryd.ntmps8
  go_wp2_with fail
  generalize w.alloc (.cells #[.string ⟨#[111, 105, 108]⟩, .int .i64 2, .int .i64 9576, .int .i64 (-50)] 24) = w0 at *
  refine (HP1.out _ HM0.out).mono ?_
  rintro e w1 ⟨rfl, b1⟩
  have HX1 := Lib.hid ((HX0.out.below b1 HX0.out.lt).alloc (.cells #[.string f.prod, .int .i64 f.kind, .int .i64 f.expiry, .int .i64 f.strike] 24))
  have HB1 := Lib.hid (HB0.out.trans (b1.mono HB0.out.size))
  have HB2 := Lib.hid (HB1.out.alloc HB1.out.size (.cells #[.string f.prod, .int .i64 f.kind, .int .i64 f.expiry, .int .i64 f.strike] 24))
  have HF2 := Lib.hid (SBox.new w1 f)
  have HM2 := Lib.hid ((HM0.out.below b1).below ((Below.refl w1.heap.size w1).alloc (Nat.le_refl _) (.cells #[.string f.prod, .int .i64 f.kind, .int .i64 f.expiry, .int .i64 f.strike] 24)))
  clear b1 HX0 HB0 HM0 HB1
  obtain ⟨c0, c1, c2, c3⟩ := HX1.out.cells
  go_wp2_with fail
  generalize w1.alloc (.cells #[.string f.prod, .int .i64 f.kind, .int .i64 f.expiry, .int .i64 f.strike] 24) = w2 at *
  refine (HPR.out _ HM2.out).mono ?_
  rintro e w3 ⟨rfl, b3⟩
  have HX3 := Lib.hid (HX1.out.below b3 HX1.out.lt)
  have HF3 := Lib.hid (HF2.out.below b3 HF2.out.lt)
  have HB3 := Lib.hid (HB2.out.trans (b3.mono HB2.out.size))
  clear b3 c0 c1 c2 c3 HX1 HF2 HB2 HM2
  obtain ⟨c0, c1, c2, c3⟩ := HX3.out.cells
  obtain ⟨d0, d1, d2, d3⟩ := HF3.out.cells
  go_wp2_with fail
  refine (HCC.out _).mono ?_
  rintro e w4 ⟨rfl, g4⟩
  have HB4 := Lib.hid (HB3.out.trans (g4.below.mono HB3.out.size))
  clear g4
  go_wp2_with fail
  go_ret
  exact ⟨rfl, HB4.out⟩
end Go.Proofs.YtiohainnpjikpaaDoor

/- Contracts: Text and Money, the reference's. -/
namespace Go.Proofs.YtiohainnpjikpaaDoor
open Go.RowKit
set_option linter.unusedVariables false

theorem one_byte (w : World) (x : UInt8) : Bytes (w.alloc (.cells #[.int .u8 (x.toNat : Int)] 5)) (some ⟨w.heap.size, 0, none⟩) [x] := by
  refine ⟨by simp [maxLen], .inr ⟨w.heap.size, 0, rfl, by simp, fun i hi => ?_⟩⟩
  rw [Nat.zero_add]
  have hi' : i = 0 := by simpa using hi
  subst hi'
  rw [World.cell?_alloc_mark]
  rfl
theorem tmod_neg (m : Nat) : (-(m : Int)).tmod 10 = -((m % 10 : Nat) : Int) := by rw [Int.neg_tmod, Int.natCast_emod]; rfl
theorem tdiv_neg (m : Nat) : (-(m : Int)).tdiv 10 = -((m / 10 : Nat) : Int) := by rw [Int.neg_tdiv]; rfl
theorem rtext_aux (k : Nat) : ∀ (n : Int) (w : World), n ≤ 0 → -9223372036854775808 ≤ n → n.natAbs = k →
    Calls Tryd.prog 71 #[.int .i64 n] w fun e w' => e = .returned (.string (S (WM.dec n.natAbs))) ∧ Below w.heap.size w w' := by
  induction k using Nat.strongRecOn with
  | ind k ih =>
  intro n w h0 h1 hk
  have HK := Lib.hid hk
  clear hk
  have IH := Lib.hid ih
  clear ih
  generalize hr : S (WM.dec n.natAbs) = res
  have HR := Lib.hid hr
  clear hr
  have hm : n.tmod 10 = -((n.natAbs % 10 : Nat) : Int) := by
    have := tmod_neg n.natAbs
    rwa [show -(n.natAbs : Int) = n by omega] at this
  have hq : n.tdiv 10 = -((n.natAbs / 10 : Nat) : Int) := by
    have := tdiv_neg n.natAbs
    rwa [show -(n.natAbs : Int) = n by omega] at this
  have t1 : -9 ≤ n.tmod 10 := by omega
  have t2 : n.tmod 10 ≤ 0 := by omega
  have t3 : -922337203685477580 ≤ n.tdiv 10 := by omega
  have t4 : n.tdiv 10 ≤ 0 := by omega
  have hx : ((UInt8.ofNat (48 + n.natAbs % 10)).toNat : Int) = 48 - n.tmod 10 := by rw [UInt8.toNat_ofNat', hm]; omega
  have hcv := str_of (one_byte w (UInt8.ofNat (48 + n.natAbs % 10))) 1
  rw [hx] at hcv
  have HM := Lib.hid hm; have HQ := Lib.hid hq
  clear hm hq hx
  have hz : (S [UInt8.ofNat (48 + n.natAbs % 10)]).size = 1 := by rw [S_size]; rfl
  have HL := Lib.hid (L_S [UInt8.ofNat (48 + n.natAbs % 10)])
  generalize S [UInt8.ofNat (48 + n.natAbs % 10)] = ds at *
  have z1 : ds.size ≤ 1 := by omega
  clear hz
  have hcv2 : (convert 94 9 (.slice (some ⟨w.heap.size, 0, none⟩) 1 1)).run Tryd.prog (w.alloc (.cells #[.int .u8 (48 - n.tmod 10)] 5)) = .ok (.string ds) (w.alloc (.cells #[.int .u8 (48 - n.tmod 10)] 5)) := hcv
  clear hcv
  have hB : Below w.heap.size w (w.alloc (.cells #[.int .u8 (48 - n.tmod 10)] 5)) := (Below.refl _ _).alloc (Nat.le_refl _) _
  by_cases h10 : -10 < n
  · have HF : Hid (ds = res) := Lib.hid (by
      rw [← HR.out, WM.dec_small (by omega)]
      apply L_inj
      rw [HL.out, L_S, show n.natAbs % 10 = n.natAbs by omega])
    go_enter Tryd.func71, Tryd.ntmps71
    go_wp2_with fail
    go_ret
    exact ⟨by rw [← HF.out]; rfl, hB⟩
  · have hlt : (n.tdiv 10).natAbs < k := by rw [HQ.out, ← HK.out]; omega
    have HD : Hid (WM.dec n.natAbs = WM.dec (n.tdiv 10).natAbs ++ [UInt8.ofNat (48 + n.natAbs % 10)]) := Lib.hid (by
      rw [WM.dec_big (by omega), HQ.out, show (-((n.natAbs / 10 : Nat) : Int)).natAbs = n.natAbs / 10 by omega])
    have hdl := dec_len (n := (n.tdiv 10).natAbs) (by omega)
    have HLT := Lib.hid hlt
    have HBB := Lib.hid hB
    clear hlt hB
    have d10 : decide (-10 < n) = false := decide_eq_false h10
    go_enter Tryd.func71, Tryd.ntmps71
    go_wp2_with fail
    refine (IH.out _ HLT.out (n.tdiv 10) _ t4 (by omega) rfl).mono ?_
    rintro e w1 ⟨rfl, b1⟩
    have hsz : (S (WM.dec (n.tdiv 10).natAbs)).size ≤ 20 := by rw [S_size]; exact hdl
    have HF : Hid (S (WM.dec (n.tdiv 10).natAbs) ++ ds = res) := Lib.hid (by
      rw [← HR.out]
      apply L_inj
      rw [L_append, L_S, L_S, HL.out, HD.out])
    generalize S (WM.dec (n.tdiv 10).natAbs) = pre at *
    have hadd := run_string_add_sum (P := Tryd.prog) w1 pre ds (by omega)
    rw [HF.out] at hadd
    have HB1 := Lib.hid (HBB.out.trans (b1.mono (by simp)))
    clear b1
    go_wp2_with fail
    go_ret
    exact ⟨rfl, HB1.out⟩
theorem rtext_any (n : Int) (w : World) (h0 : n ≤ 0) (h1 : -9223372036854775808 ≤ n) :
    Calls Tryd.prog 71 #[.int .i64 n] w fun e w' => e = .returned (.string (S (WM.dec n.natAbs))) ∧ Below w.heap.size w w' := rtext_aux _ n w h0 h1 rfl

theorem rTextTop_any (n : Int) (w : World) (h1 : -9223372036854775808 ≤ n) (h2 : n ≤ 9223372036854775807) :
    Calls Tryd.prog 42 #[.int .i64 n] w fun e w' => e = .returned (.string (S (WM.textL n))) ∧ Below w.heap.size w w' := by
  generalize hr : S (WM.textL n) = res
  have HR := Lib.hid hr
  clear hr
  by_cases h : n < 0
  · go_enter Tryd.func42, Tryd.ntmps42
    go_wp2_with fail
    refine (rtext_any n w (by omega) h1).mono ?_
    rintro e w1 ⟨rfl, b1⟩
    have hsz : (S (WM.dec n.natAbs)).size ≤ 20 := by rw [S_size]; exact dec_len (by omega)
    have HF : Hid (ByteArray.mk #[45] ++ S (WM.dec n.natAbs) = res) := Lib.hid (by
      rw [← HR.out]
      apply L_inj
      rw [L_append, L_S, L_S]
      unfold WM.textL
      rw [if_pos h]; rfl)
    generalize S (WM.dec n.natAbs) = pre at *
    have hadd := run_string_add_sum (P := Tryd.prog) w1 ⟨#[45]⟩ pre (by rw [show (ByteArray.mk #[45]).size = 1 from rfl]; omega)
    rw [HF.out] at hadd
    have HB1 := Lib.hid b1
    clear b1
    go_wp2_with fail
    go_ret
    exact ⟨rfl, HB1.out⟩
  · go_enter Tryd.func42, Tryd.ntmps42
    go_wp2_with fail
    refine (rtext_any (-n) w (by omega) (by omega)).mono ?_
    rintro e w1 ⟨rfl, b1⟩
    have HF : Hid (S (WM.dec (-n).natAbs) = res) := Lib.hid (by
      rw [← HR.out]
      unfold WM.textL
      rw [if_neg (by omega), show (-n).natAbs = n.natAbs by omega])
    rw [HF.out]
    have HB1 := Lib.hid b1
    clear b1
    go_wp2_with fail
    go_ret
    exact ⟨rfl, HB1.out⟩

theorem dec_one (d : Nat) (h : d < 10) : S (WM.dec d) = S [UInt8.ofNat (48 + d)] := by rw [WM.dec_small h]

end Go.Proofs.YtiohainnpjikpaaDoor

/- Layer 10, the reference's pieces, digits, number. -/
namespace Go.Proofs.YtiohainnpjikpaaDoor
open Go.RowKit
set_option linter.unusedVariables false
set_option linter.unusedSimpArgs false

/-- the pieces between points, on the way -/
def PI (l : List UInt8) (k f : Nat) (ps : List (List UInt8)) : Prop := WM.run 46 (l.take k) = (ps, (l.take k).drop f) ∧ f ≤ k ∧ ps.length ≤ k
theorem PI.start (l : List UInt8) : PI l 0 0 [] := ⟨by simp [WM.run], by omega, by simp⟩
theorem PI.in_ {l : List UInt8} {k f : Nat} {ps : List (List UInt8)} (h : PI l k f ps) (hk : k < l.length) (hc : l[k] ≠ 46) : PI l (k + 1) f ps := by
  obtain ⟨h1, h2, h3⟩ := h
  refine ⟨?_, by omega, by omega⟩
  rw [List.take_succ_eq_append_getElem hk, WM.run_snoc_in hc, h1, List.drop_append_of_le_length (by rw [List.length_take]; omega)]
theorem PI.cut {l : List UInt8} {k f : Nat} {ps : List (List UInt8)} (h : PI l k f ps) (hk : k < l.length) (hc : l[k] = 46) : PI l (k + 1) (k + 1) (ps ++ [(l.take k).drop f]) := by
  obtain ⟨h1, h2, h3⟩ := h
  refine ⟨?_, by omega, by simp; omega⟩
  have e : (l.take k ++ [46]).drop (k + 1) = [] := List.drop_eq_nil_of_le (by rw [List.length_append, List.length_take]; simp; omega)
  rw [List.take_succ_eq_append_getElem hk, hc, WM.run_snoc_at, h1, e]
theorem PI.done {l : List UInt8} {f : Nat} {ps : List (List UInt8)} (h : PI l l.length f ps) : WM.pieces 46 l = ps ++ [(l.take l.length).drop f] := by
  obtain ⟨h1, h2, h3⟩ := h
  rw [List.take_length] at h1 ⊢
  unfold WM.pieces
  rw [h1]
def PS (l : List UInt8) (k f : Nat) (ps : List (List UInt8)) : Prop := if k ≤ l.length then PI l k f ps else ps = WM.pieces 46 l

def strsP (ps : List (List UInt8)) : List ByteArray := ps.map S
theorem strsP_snoc (ps : List (List UInt8)) (s : ByteArray) (a b : Nat) : strsP (ps ++ [((L s).take b).drop a]) = strsP ps ++ [s.extract a b] := by
  unfold strsP
  rw [List.map_append]
  have : S (((L s).take b).drop a) = s.extract a b := L_inj (by rw [L_S, L_extract])
  simp [this]
theorem strsP_len (ps : List (List UInt8)) : (strsP ps).length = ps.length := List.length_map _
theorem pt_eq (c : UInt8) : ((c.toNat : Int) == 46) = (c == 46) := by
  rw [Bool.eq_iff_iff]
  simp only [beq_iff_eq]
  constructor
  · intro h; exact UInt8.toNat_inj.1 (by have : (46 : UInt8).toNat = 46 := rfl; omega)
  · intro h; rw [h]; rfl

set_option maxHeartbeats 2000000 in
theorem rpieces_any (s : ByteArray) (w : World) (hs : s.size ≤ 300) :
    Calls Tryd.prog 33 #[.string s] w fun e w' => ∃ v, e = .returned v ∧ OS w' w.heap.size v (strsP (WM.pieces 46 (L s))) ∧ Below w.heap.size w w' := by
  have HPD : Hid (∀ ps f, PI (L s) s.size f ps → strsP ps ++ [s.extract f s.size] = strsP (WM.pieces 46 (L s))) := Lib.hid (fun ps f h => by
    rw [← L_len s] at h
    rw [h.done, strsP_snoc, L_len])
  have HPL : Hid (∀ ps, ps = WM.pieces 46 (L s) → strsP ps = strsP (WM.pieces 46 (L s))) := Lib.hid (fun ps h => by rw [h])
  have HBE : Hid (Below w.heap.size w (w.alloc (.cells #[] 9))) := Lib.hid ((Below.refl _ _).alloc (Nat.le_refl _) _)
  have HOE : Hid (OS (w.alloc (.cells #[] 9)) w.heap.size (.slice (some ⟨w.heap.size, 0, none⟩) 0 0) (strsP [])) := Lib.hid (World.ownsRow_lit w #[] 0 (Nat.le_refl _) (Nat.zero_le _) rfl)
  go_enter Tryd.func33, Tryd.ntmps33
  go_wp2
  generalize w.alloc (.cells #[] 9) = w0 at *
  go_loopw [3, 4, 5] (fun v fr i wr => ∃ (k f : Nat) (ps : List (List UInt8)), k ≤ s.size + 1 ∧ f ≤ s.size + 1 ∧ fr = .int .i64 f ∧ i = .int .i64 k ∧ ps.length ≤ s.size + 1 ∧ Hid (PS (L s) k f ps) ∧ Hid (OS wr w.heap.size v (strsP ps)) ∧ Hid (Below w.heap.size w wr)) (fun _ _ i _ => s.size + 1 - (intOf i).toNat)
  case atStart => exact ⟨0, 0, [], by omega, by omega, rfl, rfl, by simp, Lib.hid (by unfold PS; rw [if_pos (Nat.zero_le _)]; exact PI.start _), HOE, HBE⟩
  case round =>
    clear HOE HBE
    obtain ⟨k, f, ps, hk, hf, rfl, rfl, hpl, HI, HO, HB⟩ := hrel
    by_cases hle : k ≤ s.size
    · have hP : PI (L s) k f ps := by have := HI.out; unfold PS at this; rw [if_pos (by rw [L_len]; exact hle)] at this; exact this
      have cf1 : (f : Int) ≤ (k : Int) := by have := hP.2.1; omega
      have cf0 : (0 : Int) ≤ (f : Int) := by omega
      by_cases hlt : k < s.size
      · have hc := pt_eq s[k]
        have hne : ¬ (k : Int) = (s.size : Int) := by omega
        have hneb : ((k : Int) == (s.size : Int)) = false := by simpa using hne
        cases c46 : (s[k] == 46)
        · rw [c46] at hc
          have hN := hP.in_ (by rw [L_len]; exact hlt) (by rw [L_get s k hlt]; simpa using c46)
          have HN : Hid (PS (L s) (k + 1) f ps) := Lib.hid (by unfold PS; rw [if_pos (by rw [L_len]; omega)]; exact hN)
          clear c46 hN hP
          go_wp2
          go_roundw
          case rel => exact ⟨k + 1, f, ps, by omega, by omega, rfl, by go_num, hpl, HN, HO, HB⟩
          case measure => simp [intOf]; omega
        · rw [c46] at hc
          have hN := hP.cut (by rw [L_len]; exact hlt) (by rw [L_get s k hlt]; simpa using c46)
          have hpl2 : (ps ++ [((L s).take k).drop f]).length ≤ s.size + 1 := by have := hN.2.2; omega
          have HN : Hid (PS (L s) (k + 1) (k + 1) (ps ++ [((L s).take k).drop f])) := Lib.hid (by unfold PS; rw [if_pos (by rw [L_len]; omega)]; exact hN)
          clear c46 hN hP
          go_wp2_with (at_builtin; refine wpList_pushS _ (s.extract f k) w.heap.size (strsP ps) _ _ rfl rfl _ rfl rfl HO.out ?c1 ?c2 ?_)
          case c1 => rw [strsP_len]; omega
          case c2 => exact HB.out.size
          intro v1 w1 o1 b1 _
          rw [← strsP_snoc] at o1
          have HO1 := Lib.hid o1
          have HB1 := Lib.hid (HB.out.trans b1)
          clear o1 b1 HO HB
          go_wp2
          go_roundw
          case rel => exact ⟨k + 1, k + 1, _, by omega, by omega, by go_num, by go_num, hpl2, HN, HO1, HB1⟩
          case measure => simp [intOf]; omega
      · obtain rfl : k = s.size := by omega
        have HD := Lib.hid (HPD.out ps f hP)
        have hpl2 : (WM.pieces 46 (L s)).length ≤ s.size + 1 := by
          have h1 := hP; rw [← L_len s] at h1; rw [h1.done]; have := hP.2.2; simp; omega
        have HN : Hid (PS (L s) (s.size + 1) (s.size + 1) (WM.pieces 46 (L s))) := Lib.hid (by unfold PS; rw [if_neg (by rw [L_len]; omega)])
        clear hP hlt
        go_wp2_with (at_builtin; refine wpList_pushS _ (s.extract f s.size) w.heap.size (strsP ps) _ _ rfl rfl _ rfl rfl HO.out ?c1 ?c2 ?_)
        case c1 => rw [strsP_len]; omega
        case c2 => exact HB.out.size
        intro v1 w1 o1 b1 _
        rw [HD.out] at o1
        have HO1 := Lib.hid o1
        have HB1 := Lib.hid (HB.out.trans b1)
        clear o1 b1 HO HB
        go_wp2
        go_roundw
        case rel => exact ⟨s.size + 1, s.size + 1, _, by omega, by omega, by go_num, by go_num, hpl2, HN, HO1, HB1⟩
        case measure => simp [intOf]
    · have hP : ps = WM.pieces 46 (L s) := by have := HI.out; unfold PS at this; rw [if_neg (by rw [L_len]; exact hle)] at this; exact this
      have HX := Lib.hid (HPL.out ps hP)
      have hgt : (s.size : Int) < (k : Int) := by omega
      clear hP
      go_wp2
      go_ret
      exact ⟨_, rfl, by rw [← HX.out]; exact HO.out, HB.out⟩

/-- what the reference's number tells -/
def numN (l : List UInt8) : Int := if l.all WM.dig = true then WM.val l else -1
theorem pow_le8 {k : Nat} (h : k ≤ 8) : (10 : Int) ^ k ≤ 100000000 := by
  have : k = 0 ∨ k = 1 ∨ k = 2 ∨ k = 3 ∨ k = 4 ∨ k = 5 ∨ k = 6 ∨ k = 7 ∨ k = 8 := by omega
  rcases this with rfl | rfl | rfl | rfl | rfl | rfl | rfl | rfl | rfl <;> decide
theorem dig_bounds (c : UInt8) : (decide ((c.toNat : Int) < 48) = false ∧ decide (57 < (c.toNat : Int)) = false) ↔ WM.dig c = true := by
  unfold WM.dig; simp; omega

set_option maxHeartbeats 2000000 in
theorem rnumber_any (s : ByteArray) (w : World) (hs : s.size ≤ 8) :
    Calls Tryd.prog 34 #[.string s] w fun e w' => e = .returned (.int .i64 (numN (L s))) ∧ w = w' := by
  have HY : Hid ((L s).all WM.dig = true → numN (L s) = WM.val (L s)) := Lib.hid (fun h => by unfold numN; rw [if_pos h])
  have HN : Hid (∀ k (hk : k < s.size), WM.dig s[k] = false → numN (L s) = -1) := Lib.hid (fun k hk h => by
    unfold numN
    rw [if_neg]
    intro ha
    have := List.all_eq_true.1 ha ((L s)[k]'(by rw [L_len]; exact hk)) (List.getElem_mem _)
    rw [L_get s k hk, h] at this
    cases this)
  generalize numN (L s) = r at *
  go_enter Tryd.func34, Tryd.ntmps34
  go_wp2
  go_loop [3, 4] (fun x i => ∃ (k : Nat) (n : Int), k ≤ s.size ∧ i = .int .i64 k ∧ x = .int .i64 n ∧ 0 ≤ n ∧ n ≤ 100000000 ∧ Hid (n = WM.val ((L s).take k) ∧ ((L s).take k).all WM.dig = true ∧ n < 10 ^ k)) (fun _ i => s.size - (intOf i).toNat)
  case atStart => exact ⟨0, 0, by omega, rfl, rfl, by omega, by omega, Lib.hid ⟨rfl, rfl, by decide⟩⟩
  case round =>
    obtain ⟨k, n, hk, rfl, rfl, hn0, hn1, HE⟩ := hrel
    by_cases hlt : k < s.size
    · have hb1 : (s[k].toNat : Int) ≤ 255 := by have := s[k].toNat_lt; omega
      cases hd : WM.dig s[k]
      · have HX := Lib.hid (HN.out k hlt hd)
        have hdd : (s[k].toNat : Int) < 48 ∨ (¬ (s[k].toNat : Int) < 48 ∧ 57 < (s[k].toNat : Int)) := by
          rcases Classical.em ((s[k].toNat : Int) < 48) with g | g
          · exact .inl g
          · refine .inr ⟨g, ?_⟩
            rcases Classical.em (57 < (s[k].toNat : Int)) with g2 | g2
            · exact g2
            · rw [(dig_bounds s[k]).1 ⟨decide_eq_false g, decide_eq_false g2⟩] at hd; cases hd
        clear hd
        rcases hdd with d1 | ⟨d1, d2⟩
        all_goals (
          go_wp2
          go_ret
          exact ⟨by rw [HX.out] <;> rfl, rfl⟩)
      · have hb := (dig_bounds s[k]).2 hd
        have d1 : ¬ (s[k].toNat : Int) < 48 := of_decide_eq_false hb.1
        have d2 : ¬ 57 < (s[k].toNat : Int) := of_decide_eq_false hb.2
        have HE2 : Hid (10 * n + (s[k].toNat : Int) - 48 = WM.val ((L s).take (k + 1)) ∧ ((L s).take (k + 1)).all WM.dig = true ∧ 10 * n + (s[k].toNat : Int) - 48 < 10 ^ (k + 1)) := Lib.hid (by
          obtain ⟨h1, h2, h3⟩ := HE.out
          have hkl : k < (L s).length := by rw [L_len]; exact hlt
          rw [List.take_succ_eq_append_getElem hkl, L_get s k hlt]
          refine ⟨?_, by rw [List.all_append, h2]; simp [hd], by rw [Int.pow_succ]; omega⟩
          rw [WM.val_snoc, ← h1]
          show _ = 10 * n + WM.dval s[k]
          unfold WM.dval
          omega)
        have hn2 : 10 * n + (s[k].toNat : Int) - 48 ≤ 100000000 := by
          have h1 := HE2.out.2.2; have h2 := pow_le8 (k := k + 1) (by omega); omega
        clear hb hd
        go_wp2
        go_round
        case rel => exact ⟨k + 1, _, by omega, by go_num, rfl, by omega, by omega, HE2⟩
        case measure => simp [intOf]; omega
    · obtain rfl : k = s.size := by omega
      have HX : Hid (r = n) := Lib.hid (by
        obtain ⟨h1, h2, h3⟩ := HE.out
        rw [← L_len s, List.take_length] at h1 h2
        rw [HY.out h2, h1])
      go_wp2
      go_ret
      exact ⟨by rw [HX.out] <;> rfl, rfl⟩
end Go.Proofs.YtiohainnpjikpaaDoor
