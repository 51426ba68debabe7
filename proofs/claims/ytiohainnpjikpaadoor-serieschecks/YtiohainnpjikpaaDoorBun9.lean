/- Put together: SerE, SerF, SerG, ProdA, ProdB, ProductMath3. -/
import Derived.Test.YtiohainnpjikpaaDoorBun2
import Derived.Test.YtiohainnpjikpaaDoorBun3
import Derived.Test.YtiohainnpjikpaaDoorBun8
import Derived.Test.YtiohainnpjikpaaDoorBun7
import Derived.Laws.StructEq
import Derived.Test.YtiohainnpjikpaaDoorBun6
/- Layer 10: dates and strikes read, Print. -/
namespace Go.Proofs.YtiohainnpjikpaaDoor
open Go.RowKit Go.Recs Go.Shelf
set_option linter.unusedVariables false
set_option linter.unusedSimpArgs false

theorem cat_ok {a b : ByteArray} (h : a.size + b.size ≤ 9223372036854775807) : Op.stringOp .add a b = pure (.string (a ++ b)) := by
  have h2 : ¬ (((a.size + b.size : Nat) : Int) > IntKind.i64.max) := by
    have : IntKind.i64.max = 9223372036854775807 := by decide
    omega
  simp only [Op.stringOp]
  rw [if_neg h2]
theorem cat_size (a b : ByteArray) : (a ++ b).size = a.size + b.size := by simp [ByteArray.size_append]
theorem ext_size (s : ByteArray) (a b : Nat) : (s.extract a b).size ≤ s.size := by rw [ByteArray.size_extract]; omega
theorem dec_small20 (m : Nat) (h : m < 18446744073709551616) : (WM.dec m).length ≤ 20 := by
  have key : ∀ k m : Nat, m < 10 ^ (k + 1) → (WM.dec m).length ≤ k + 1 := by
    intro k
    induction k with
    | zero => intro m hm; rw [WM.dec_small (by simpa using hm)]; simp
    | succ k ih =>
      intro m hm
      by_cases h10 : m < 10
      · rw [WM.dec_small h10]; simp
      · rw [WM.dec_big h10, List.length_append]
        have := ih (m / 10) (by rw [Nat.div_lt_iff_lt_mul (by omega)]; rw [Nat.pow_succ] at hm; omega)
        simp; omega
  exact key 19 m (by omega)
theorem text_small {n : Int} (h : i64 n) : (WM.textL n).length ≤ 30 := by
  unfold i64 at h
  have := dec_small20 n.natAbs (by omega)
  unfold WM.textL
  split
  · rw [List.length_cons]; omega
  · omega
def rdE (b : List UInt8) : Int := if b.length = 8 then DM.parE (EM.tenL b) else 5
def rdN (b : List UInt8) : Int := if b.length = 8 then DM.parN (EM.tenL b) else 0
set_option maxHeartbeats 2000000 in
theorem readDate_any (s : ByteArray) (w : World) (hs : s.size ≤ 300) :
    Calls Tryd.prog 31 #[.string s] w fun e w' => e = .returned (.tuple #[.int .i64 (rdN (L s)), .int .i64 (rdE (L s))]) ∧ Below w.heap.size w w' := by
  unfold rdN rdE
  rw [L_len]
  by_cases h8 : s.size = 8
  · rw [if_pos h8, if_pos h8]
    have hX : L ((((s.extract 0 4 ++ ⟨#[45]⟩) ++ s.extract 4 6) ++ ⟨#[45]⟩) ++ s.extract 6 s.size) = EM.tenL (L s) := by
      simp only [L_append, L_extract]
      rw [L_take_all, List.drop_zero]
      rfl
    have hXs : ((((s.extract 0 4 ++ ⟨#[45]⟩) ++ s.extract 4 6) ++ ⟨#[45]⟩) ++ s.extract 6 s.size).size ≤ 9223372036854775807 := by
      rw [← L_len, hX]
      have hl := L_len s
      unfold EM.tenL
      simp
      omega
    have CP : Hid (∀ x ww, x = (((s.extract 0 4 ++ ⟨#[45]⟩) ++ s.extract 4 6) ++ ⟨#[45]⟩) ++ s.extract 6 s.size → Calls Tryd.prog 58 #[.string x] ww fun e w' => e = .returned (.tuple #[.int .i64 (DM.parN (EM.tenL (L s))), .int .i64 (DM.parE (EM.tenL (L s)))]) ∧ ∃ n, w' = ww.drewN n) := Lib.hid (fun x ww hx => by
      subst hx
      have := parse_any _ ww hXs
      rw [hX] at this
      exact this)
    generalize DM.parN (EM.tenL (L s)) = rn at *
    generalize DM.parE (EM.tenL (L s)) = re at *
    have hn : ((s.size : Int) != 8) = false := by rw [bne, beq_t (by omega)]; rfl
    have b4 : (4 : Int) ≤ (s.size : Int) := by omega
    have b6 : (6 : Int) ≤ (s.size : Int) := by omega
    have HBw : Hid (Below w.heap.size w w.drew) := Lib.hid (Below.refl _ _).drew
    have H8 := Lib.hid h8
    have z0 := ext_size s 0 4; have z1 := ext_size s 4 6; have z2 := ext_size s 6 s.size
    have one : (⟨#[45]⟩ : ByteArray).size = 1 := rfl
    have e1 := @cat_ok (s.extract 0 4) ⟨#[45]⟩ (by omega)
    have e2 := @cat_ok (s.extract 0 4 ++ ⟨#[45]⟩) (s.extract 4 6) (by rw [cat_size]; omega)
    have e3 := @cat_ok ((s.extract 0 4 ++ ⟨#[45]⟩) ++ s.extract 4 6) ⟨#[45]⟩ (by rw [cat_size, cat_size]; omega)
    have e4 := @cat_ok (((s.extract 0 4 ++ ⟨#[45]⟩) ++ s.extract 4 6) ++ ⟨#[45]⟩) (s.extract 6 s.size) (by rw [cat_size, cat_size, cat_size]; omega)
    clear z0 z1 z2 one
    clear h8 hX hXs
    go_enter Tryd.func31, Tryd.ntmps31
    go_wp2_with fail
    go_region_held3 (fun _ => True) (trivial)
      (first
        | (go_at_call 58; refine (CP.out _ _ (by first | rfl | simp)).mono ?_; rintro e w6 ⟨rfl, n6, h6⟩; replace HBw := Lib.hid (show Below w.heap.size w w6 by rw [h6]; exact below_drewN HBw.out n6); clear h6))
    all_goals (
      go_wp2_with fail
      go_ret2
      exact ⟨rfl, HBw.out⟩)
  · rw [if_neg h8, if_neg h8]
    have hn : ((s.size : Int) != 8) = true := by rw [bne, beq_f (by omega)]; rfl
    go_enter Tryd.func31, Tryd.ntmps31
    go_wp2_with fail
    go_ret2
    exact ⟨rfl, Below.refl _ _⟩
def rsE (t : List UInt8) : Int := if WM.intE t ≠ 0 then WM.intE t else if (WM.intN t).natAbs ≤ 16777216 then 0 else 17
def rsN (t : List UInt8) : Int := if rsE t = 0 then WM.intN t else 0
set_option maxHeartbeats 1000000 in
theorem readStrike_any (s : ByteArray) (w : World) (hs : s.size ≤ 300) :
    Calls Tryd.prog 32 #[.string s] w fun e w' => e = .returned (.tuple #[.int .i64 (rsN (L s)), .int .i64 (rsE (L s))]) ∧ Below w.heap.size w w' := by
  have C1 := Lib.hid (fun ww => int_any s ww (by omega))
  have eN : rsN (L s) = if (if WM.intE (L s) ≠ 0 then WM.intE (L s) else if (WM.intN (L s)).natAbs ≤ 16777216 then 0 else 17) = 0 then WM.intN (L s) else 0 := rfl
  rw [eN]
  unfold rsE
  clear eN
  generalize WM.intE (L s) = ie at *
  generalize WM.intN (L s) = inn at *
  by_cases h1 : ie = 0
  · subst h1
    simp only [ne_eq, not_true_eq_false, if_false]
    by_cases h2 : inn.natAbs ≤ 16777216
    · simp only [h2, if_true]
      have a1 : -16777216 ≤ inn := by omega
      have a2 : inn ≤ 16777216 := by omega
      clear h2
      go_enter Tryd.func32, Tryd.ntmps32
      go_wp2_with fail
      refine (C1.out _).mono ?_
      rintro e w1 ⟨rfl, n1, h1⟩
      have HB : Hid (Below w.heap.size w w1) := Lib.hid (by rw [h1]; exact below_drewN (Below.refl _ _) n1)
      clear h1
      go_wp2_with fail
      go_ret2
      exact ⟨rfl, HB.out⟩
    · simp only [h2, if_false]
      rw [if_neg (by decide)]
      rcases (by omega : inn < -16777216 ∨ 16777216 < inn) with h3 | h3
      all_goals (
        clear h2
        go_enter Tryd.func32, Tryd.ntmps32
        go_wp2_with fail
        refine (C1.out _).mono ?_
        rintro e w1 ⟨rfl, n1, h1⟩
        have HB : Hid (Below w.heap.size w w1) := Lib.hid (by rw [h1]; exact below_drewN (Below.refl _ _) n1)
        clear h1
        go_wp2_with fail
        go_ret2
        exact ⟨rfl, HB.out⟩)
  · simp only [ne_eq, h1, not_false_eq_true, if_true, if_false]
    have hd : (ie != 0) = true := by simpa using h1
    clear h1
    go_enter Tryd.func32, Tryd.ntmps32
    go_wp2_with fail
    refine (C1.out _).mono ?_
    rintro e w1 ⟨rfl, n1, h1⟩
    have HB : Hid (Below w.heap.size w w1) := Lib.hid (by rw [h1]; exact below_drewN (Below.refl _ _) n1)
    clear h1
    go_wp2_with fail
    go_ret2
    exact ⟨rfl, HB.out⟩

theorem let_kind {k : Int} (h : 1 ≤ k ∧ k ≤ 3) : ∃ c : UInt8, letB k = ⟨#[c]⟩ ∧ (k = 1 ∧ c = 102 ∨ k = 2 ∧ c = 99 ∨ k = 3 ∧ c = 112) := by
  unfold letB
  by_cases h1 : k = 1
  · exact ⟨102, by rw [if_pos h1], .inl ⟨h1, rfl⟩⟩
  · by_cases h2 : k = 2
    · exact ⟨99, by rw [if_neg h1, if_pos h2], .inr (.inl ⟨h2, rfl⟩)⟩
    · exact ⟨112, by rw [if_neg h1, if_neg h2, if_pos (by omega)], .inr (.inr ⟨by omega, rfl⟩)⟩
theorem let_none {k : Int} (h : ¬ (1 ≤ k ∧ k ≤ 3)) : letB k = ⟨#[]⟩ := by
  unfold letB; rw [if_neg (by omega), if_neg (by omega), if_neg (by omega)]
theorem print_f {s : EM.Ser} {y m d : Int} (hd : DM.isDate s.expiry y m d) (hk : s.kind = 1) : (((s.prod ++ ⟨#[46]⟩) ++ S (EM.d8 y m d)) ++ ⟨#[46]⟩) ++ ⟨#[102]⟩ = S (EM.printL s) := by
  apply L_inj
  rw [EM.print_is ⟨by omega, by omega⟩ hd, L_S]
  simp only [L_append, L_S]
  unfold EM.txt EM.tail
  rw [if_pos hk]
  show _ = L s.prod ++ _
  simp [L]
theorem print_o {s : EM.Ser} {y m d : Int} {c : UInt8} (hd : DM.isDate s.expiry y m d) (hk : s.kind = 2 ∧ c = 99 ∨ s.kind = 3 ∧ c = 112) : ((((s.prod ++ ⟨#[46]⟩) ++ S (EM.d8 y m d)) ++ ⟨#[46]⟩) ++ ⟨#[c]⟩) ++ S (WM.textL s.strike) = S (EM.printL s) := by
  apply L_inj
  rw [EM.print_is ⟨by omega, by omega⟩ hd, L_S]
  simp only [L_append, L_S]
  unfold EM.txt EM.tail
  rw [if_neg (by omega)]
  have e : (if s.kind = 2 then (99 : UInt8) else 112) = c := by
    rcases hk with ⟨h1, h2⟩ | ⟨h1, h2⟩
    · rw [if_pos h1, h2]
    · rw [if_neg (by omega), h2]
  rw [e]
  show _ = L s.prod ++ _
  simp [L]

set_option maxHeartbeats 4000000 in
theorem eprint_any (s : EM.Ser) (w : World) (hq : serQ s) (hp : s.prod.size ≤ 300) (hm : ML w) :
    Calls Tryd.prog 13 #[serA s] w fun e w' => e = .returned (.string (S (EM.printL s))) ∧ Below w.heap.size w w' := by
  have HB0 := Lib.hid ((Below.refl w.heap.size w).alloc (Nat.le_refl _) (.cells #[.string s.prod, .int .i64 s.kind, .int .i64 s.expiry, .int .i64 s.strike] 24))
  have HP0 := Lib.hid (SBox.new w s)
  have HM0 := Lib.hid (hm.below HB0.out)
  have CL := Lib.hid (fun ww => letter_any s.kind ww)
  have CT := Lib.hid (fun ww => text_any s.strike ww hq.2.2.2.1 hq.2.2.2.2)
  have HSm : Hid (s.prod.size ≤ 300) := Lib.hid hp
  by_cases hd : 0 ≤ s.expiry ∧ s.expiry ≤ 73048
  · obtain ⟨y, m, d, hdd⟩ := DM.isDate_exists hd.1 hd.2
    have CP := Lib.hid (fun ww => print_any s.expiry y m d ww hdd)
    have CR := Lib.hid (fun ww (h : ML ww) => strokes_any y m d ww h)
    have hne : ((S (DM.dateL y m d)).toList == []) = false := by
      rw [beq_lit, L_S]; exact decide_eq_false (by unfold DM.dateL; simp)
    have hne2 : ¬ (S (DM.dateL y m d)).toList = [] := by rw [L_toList, L_S]; unfold DM.dateL; simp
    have hD8 : (S (EM.d8 y m d)).size = 8 := rfl
    have HTX : Hid ((S (WM.textL s.strike)).size ≤ 30) := Lib.hid (by rw [S_size]; exact text_small hq.2.2.2)
    by_cases hk : 1 ≤ s.kind ∧ s.kind ≤ 3
    · obtain ⟨c, hc, hkc⟩ := let_kind hk
      rw [hc] at CL
      have PF := Lib.hid (@print_f s y m d hdd)
      have PO := Lib.hid (fun c => @print_o s y m d c hdd)
      generalize S (EM.printL s) = res at *
      generalize S (DM.dateL y m d) = dt at *
      generalize S (EM.d8 y m d) = d8 at *
      generalize S (WM.textL s.strike) = tx at *
      clear hq hp hd hdd hc hm hk
      go_enter Tryd.func13, Tryd.ntmps13
      go_wp2_with fail
      generalize w.alloc (.cells #[.string s.prod, .int .i64 s.kind, .int .i64 s.expiry, .int .i64 s.strike] 24) = w0 at *
      have HSF : Hid (∀ ww, Below w0.heap.size w0 ww → (ww.cell? ⟨w.heap.size, 1, none⟩ = some (.int .i64 s.kind) ∧ ww.cell? ⟨w.heap.size, 2, none⟩ = some (.int .i64 s.expiry))) := Lib.hid (fun ww h => ⟨(HP0.out.below h HP0.out.lt).cells.2.1, (HP0.out.below h HP0.out.lt).cells.2.2.1⟩)
      have HBw : Hid (Below w0.heap.size w0 w0.drew) := Lib.hid (Below.refl _ _).drew
      go_region_held3 (fun ww => ww.cell? ⟨w.heap.size, 1, none⟩ = some (.int .i64 s.kind) ∧ ww.cell? ⟨w.heap.size, 2, none⟩ = some (.int .i64 s.expiry))
        (exact HSF.out _ HBw.out)
        (first
          | (go_at_call 23; refine (CL.out _).mono ?_; rintro e w6 ⟨rfl, rfl⟩)
          | (go_at_call 37; refine (CP.out _).mono ?_; rintro e w1 ⟨rfl, b6⟩; replace HBw := Lib.hid (HBw.out.trans (b6.mono HBw.out.size)); clear b6))
      all_goals (
        have HP1 := Lib.hid (HP0.out.below HBw.out HP0.out.lt)
        have HM1 := Lib.hid (HM0.out.below HBw.out)
        have HB1 := Lib.hid (HB0.out.trans (HBw.out.mono HB0.out.size))
        clear HP0 HM0 HB0 HBw HSF CL CP
        have hcl : ({ data := #[c] } : ByteArray).toList = [c] := by rw [L_toList]; rfl
        have hce : (([c] : List UInt8) == []) = false := rfl
        have hps := HSm.out
        have one : (⟨#[46]⟩ : ByteArray).size = 1 := rfl
        have onec : (⟨#[c]⟩ : ByteArray).size = 1 := rfl
        have e1 := @cat_ok s.prod ⟨#[46]⟩ (by omega)
        have e2 := @cat_ok (s.prod ++ ⟨#[46]⟩) d8 (by rw [cat_size]; omega)
        have e3 := @cat_ok ((s.prod ++ ⟨#[46]⟩) ++ d8) ⟨#[46]⟩ (by rw [cat_size, cat_size]; omega)
        have e4 := @cat_ok (((s.prod ++ ⟨#[46]⟩) ++ d8) ++ ⟨#[46]⟩) ⟨#[c]⟩ (by rw [cat_size, cat_size, cat_size]; omega)
        have e5 := @cat_ok ((((s.prod ++ ⟨#[46]⟩) ++ d8) ++ ⟨#[46]⟩) ++ ⟨#[c]⟩) tx (by rw [cat_size, cat_size, cat_size, cat_size]; have := HTX.out; omega)
        clear one onec hps hD8
        obtain ⟨c0, c1, c2, c3⟩ := HP1.out.cells
        go_wp2_with fail
        have HSF : Hid (∀ ww, Below w1.heap.size w1 ww → ww.cell? ⟨w.heap.size, 0, none⟩ = some (.string s.prod)) := Lib.hid (fun ww h => (HP1.out.below h HP1.out.lt).cells.1)
        have HBw : Hid (Below w1.heap.size w1 w1.drew) := Lib.hid (Below.refl _ _).drew
        clear c0 c1 c2 c3
        go_region_held3 (fun ww => ww.cell? ⟨w.heap.size, 0, none⟩ = some (.string s.prod))
          (exact HSF.out _ HBw.out)
          (first
            | (go_at_call 38; refine (CR.out _ (HM1.out.below HBw.out)).mono ?_; rintro e w2 ⟨rfl, b6⟩; replace HBw := Lib.hid (HBw.out.trans (b6.mono HBw.out.size)); clear b6))
        all_goals (
          have HP2 := Lib.hid (HP1.out.below HBw.out HP1.out.lt)
          have HB2 := Lib.hid (HB1.out.trans (HBw.out.mono HB1.out.size))
          clear HSF HBw HP1 HB1 CR HM1
          obtain ⟨c0, c1, c2, c3⟩ := HP2.out.cells
          rcases hkc with ⟨hk, rfl⟩ | hkc
          · have HX := Lib.hid (PF.out hk)
            rw [hk] at c1
            clear hk
            go_wp2_with fail
            go_ret
            exact ⟨by rw [← HX.out]; rfl, HB2.out⟩
          · have HX := Lib.hid (PO.out c hkc)
            have hk1 : ¬ s.kind = 1 := by omega
            have hk2 : (s.kind == 1) = false := beq_f hk1
            go_wp2_with fail
            refine (CT.out _).mono ?_
            rintro e w3 ⟨rfl, b3⟩
            have HB3 := Lib.hid (HB2.out.trans (b3.mono HB2.out.size))
            clear b3
            go_wp2_with fail
            go_ret
            exact ⟨by rw [← HX.out]; rfl, HB3.out⟩))
    · rw [EM.print_no (fun h => hk h.1)]
      rw [let_none hk] at CL
      generalize S (DM.dateL y m d) = dt at *
      clear hq hp hd hdd hm hk CT CR HTX
      go_enter Tryd.func13, Tryd.ntmps13
      go_wp2_with fail
      generalize w.alloc (.cells #[.string s.prod, .int .i64 s.kind, .int .i64 s.expiry, .int .i64 s.strike] 24) = w0 at *
      have HSF : Hid (∀ ww, Below w0.heap.size w0 ww → (ww.cell? ⟨w.heap.size, 1, none⟩ = some (.int .i64 s.kind) ∧ ww.cell? ⟨w.heap.size, 2, none⟩ = some (.int .i64 s.expiry))) := Lib.hid (fun ww h => ⟨(HP0.out.below h HP0.out.lt).cells.2.1, (HP0.out.below h HP0.out.lt).cells.2.2.1⟩)
      have HBw : Hid (Below w0.heap.size w0 w0.drew) := Lib.hid (Below.refl _ _).drew
      go_region_held3 (fun ww => ww.cell? ⟨w.heap.size, 1, none⟩ = some (.int .i64 s.kind) ∧ ww.cell? ⟨w.heap.size, 2, none⟩ = some (.int .i64 s.expiry))
        (exact HSF.out _ HBw.out)
        (first
          | (go_at_call 23; refine (CL.out _).mono ?_; rintro e w6 ⟨rfl, rfl⟩)
          | (go_at_call 37; refine (CP.out _).mono ?_; rintro e w1 ⟨rfl, b6⟩; replace HBw := Lib.hid (HBw.out.trans (b6.mono HBw.out.size)); clear b6))
      all_goals (
        have HB1 := Lib.hid (HB0.out.trans (HBw.out.mono HB0.out.size))
        clear HSF HBw HP0 HM0 HB0
        go_wp2_with fail
        go_ret
        exact ⟨rfl, HB1.out⟩)
  · have CP := Lib.hid (fun ww => print_no s.expiry ww (by omega))
    rw [EM.print_no (fun h => hd h.2)]
    generalize letB s.kind = lk at *
    clear hq hp hd hm CT
    cases hlk : (lk.toList == [])
    · have hl2 : ¬ lk.toList = [] := by simpa using hlk
      go_enter Tryd.func13, Tryd.ntmps13
      go_wp2_with fail
      generalize w.alloc (.cells #[.string s.prod, .int .i64 s.kind, .int .i64 s.expiry, .int .i64 s.strike] 24) = w0 at *
      have HSF : Hid (∀ ww, Below w0.heap.size w0 ww → (ww.cell? ⟨w.heap.size, 1, none⟩ = some (.int .i64 s.kind) ∧ ww.cell? ⟨w.heap.size, 2, none⟩ = some (.int .i64 s.expiry))) := Lib.hid (fun ww h => ⟨(HP0.out.below h HP0.out.lt).cells.2.1, (HP0.out.below h HP0.out.lt).cells.2.2.1⟩)
      have HBw : Hid (Below w0.heap.size w0 w0.drew) := Lib.hid (Below.refl _ _).drew
      go_region_held3 (fun ww => ww.cell? ⟨w.heap.size, 1, none⟩ = some (.int .i64 s.kind) ∧ ww.cell? ⟨w.heap.size, 2, none⟩ = some (.int .i64 s.expiry))
        (exact HSF.out _ HBw.out)
        (first
          | (go_at_call 23; refine (CL.out _).mono ?_; rintro e w6 ⟨rfl, rfl⟩)
          | (go_at_call 37; refine (CP.out _).mono ?_; rintro e w6 ⟨rfl, rfl⟩))
      all_goals (
        have HB1 := Lib.hid (HB0.out.trans (HBw.out.mono HB0.out.size))
        clear HSF HBw HP0 HM0 HB0
        go_wp2_with fail
        go_ret
        exact ⟨rfl, HB1.out⟩)
    · have hl2 : lk.toList = [] := by simpa using hlk
      go_enter Tryd.func13, Tryd.ntmps13
      go_wp2_with fail
      generalize w.alloc (.cells #[.string s.prod, .int .i64 s.kind, .int .i64 s.expiry, .int .i64 s.strike] 24) = w0 at *
      have HSF : Hid (∀ ww, Below w0.heap.size w0 ww → (ww.cell? ⟨w.heap.size, 1, none⟩ = some (.int .i64 s.kind) ∧ ww.cell? ⟨w.heap.size, 2, none⟩ = some (.int .i64 s.expiry))) := Lib.hid (fun ww h => ⟨(HP0.out.below h HP0.out.lt).cells.2.1, (HP0.out.below h HP0.out.lt).cells.2.2.1⟩)
      have HBw : Hid (Below w0.heap.size w0 w0.drew) := Lib.hid (Below.refl _ _).drew
      go_region_held3 (fun ww => ww.cell? ⟨w.heap.size, 1, none⟩ = some (.int .i64 s.kind) ∧ ww.cell? ⟨w.heap.size, 2, none⟩ = some (.int .i64 s.expiry))
        (exact HSF.out _ HBw.out)
        (first
          | (go_at_call 23; refine (CL.out _).mono ?_; rintro e w6 ⟨rfl, rfl⟩)
          | (go_at_call 37; refine (CP.out _).mono ?_; rintro e w6 ⟨rfl, rfl⟩))
      all_goals (
        have HB1 := Lib.hid (HB0.out.trans (HBw.out.mono HB0.out.size))
        clear HSF HBw HP0 HM0 HB0
        go_wp2_with fail
        go_ret
        exact ⟨rfl, HB1.out⟩)
end Go.Proofs.YtiohainnpjikpaaDoor

/- Layer 10: Parse. -/
namespace Go.Proofs.YtiohainnpjikpaaDoor
open Go.RowKit Go.Recs Go.Shelf
set_option linter.unusedVariables false
set_option linter.unusedSimpArgs false

section
variable {t : List UInt8} {a b c : List UInt8}
theorem ps_len (h : (WM.pieces 46 t).length ≠ 3) : EM.parE t = 5 ∧ EM.parN t = EM.zero := EM.par_form (by rintro ⟨a, b, c, hp, _⟩; rw [hp] at h; exact h rfl)
theorem ps_parts (hP : WM.pieces 46 t = [a, b, c]) : EM.pA t = a ∧ EM.pB t = b ∧ EM.pC t = c := by
  unfold EM.pA EM.pB EM.pC; rw [hP]; exact ⟨rfl, rfl, rfl⟩
theorem ps_kind (hP : WM.pieces 46 t = [a, b, c]) (h : EM.ckB c = false) : EM.parE t = 5 ∧ EM.parN t = EM.zero := EM.par_form (by
  rintro ⟨a', b', c', hp, _, _, hc⟩
  rw [hP] at hp; simp only [List.cons.injEq, and_true] at hp
  obtain ⟨rfl, rfl, rfl⟩ := hp
  exact absurd hc (of_decide_eq_false h))
theorem ps_name (hP : WM.pieces 46 t = [a, b, c]) (h : WM.name a = false) : EM.parE t = 5 ∧ EM.parN t = EM.zero := EM.par_form (by
  rintro ⟨a', b', c', hp, hn, _⟩
  rw [hP] at hp; simp only [List.cons.injEq, and_true] at hp
  obtain ⟨rfl, rfl, rfl⟩ := hp
  rw [h] at hn; cases hn)
theorem ps_form (hP : WM.pieces 46 t = [a, b, c]) (h1 : EM.ckB c = true) (h2 : WM.name a = true) (h3 : b.length = 8) (h4 : b.all WM.dig = true) : EM.form (WM.pieces 46 t) := ⟨a, b, c, hP, h2, ⟨h3, h4⟩, of_decide_eq_true h1⟩
theorem ps_date (hP : WM.pieces 46 t = [a, b, c]) (h1 : EM.ckB c = true) (h2 : WM.name a = true) (h : rdE b ≠ 0) : EM.parE t = rdE b ∧ EM.parN t = EM.zero := by
  obtain ⟨e1, e2, e3⟩ := ps_parts hP
  unfold rdE at h ⊢
  by_cases h8 : b.length = 8
  · rw [if_pos h8] at h ⊢
    cases hd : b.all WM.dig with
    | true =>
      have hf := ps_form hP h1 h2 h8 hd
      rw [(EM.ten_digits h8 hd).1] at h ⊢
      have := EM.par_date hf (by unfold EM.yy EM.mm EM.dd; rw [e2]; exact h)
      rcases EM.of_cases (WM.val b / 10000) (WM.val b / 100 % 100) (WM.val b % 100) with g | g
      · exact absurd g h
      · rw [g]; exact this
    | false =>
      rw [(EM.ten_others h8 hd).1]
      refine EM.par_form ?_
      rintro ⟨a', b', c', hp, _, hb, _⟩
      rw [hP] at hp; simp only [List.cons.injEq, and_true] at hp
      obtain ⟨rfl, rfl, rfl⟩ := hp
      rw [hd] at hb; exact absurd hb.2 (by decide)
  · rw [if_neg h8]
    refine EM.par_form ?_
    rintro ⟨a', b', c', hp, _, hb, _⟩
    rw [hP] at hp; simp only [List.cons.injEq, and_true] at hp
    obtain ⟨rfl, rfl, rfl⟩ := hp
    exact h8 hb.1
theorem ps_good (hP : WM.pieces 46 t = [a, b, c]) (h1 : EM.ckB c = true) (h2 : WM.name a = true) (h : rdE b = 0) : EM.form (WM.pieces 46 t) ∧ DM.ofE (EM.yy t) (EM.mm t) (EM.dd t) = 0 ∧ DM.ofN (EM.yy t) (EM.mm t) (EM.dd t) = rdN b := by
  obtain ⟨e1, e2, e3⟩ := ps_parts hP
  unfold rdE at h
  by_cases h8 : b.length = 8
  · rw [if_pos h8] at h
    cases hd : b.all WM.dig with
    | true =>
      rw [(EM.ten_digits h8 hd).1] at h
      refine ⟨ps_form hP h1 h2 h8 hd, ?_, ?_⟩
      · unfold EM.yy EM.mm EM.dd; rw [e2]; exact h
      · unfold EM.yy EM.mm EM.dd rdN; rw [e2, if_pos h8, (EM.ten_digits h8 hd).2]
    | false => rw [(EM.ten_others h8 hd).1] at h; cases h
  · rw [if_neg h8] at h; cases h
theorem ps_future (hP : WM.pieces 46 t = [a, b, c]) (h1 : EM.ckB c = true) (h2 : WM.name a = true) (h : rdE b = 0) (hc : EM.ckK c = 1) : EM.parE t = 0 ∧ EM.parN t = ⟨⟨a.toArray⟩, 1, rdN b, 0⟩ := by
  obtain ⟨e1, e2, e3⟩ := ps_parts hP
  obtain ⟨g1, g2, g3⟩ := ps_good hP h1 h2 h
  have hc1 : c = [102] := by
    unfold EM.ckK at hc
    by_cases hh : c = [102]
    · exact hh
    · rw [if_neg hh] at hc; split at hc <;> (try split at hc) <;> omega
  have := EM.par_future g1 g2 (by rw [e3]; exact hc1)
  rw [g3, e1] at this
  exact this
theorem ck_two (h1 : EM.ckB c = true) (hc : EM.ckK c ≠ 1) : c ≠ [102] ∧ EM.ckR c = c.tail ∧ EM.ckK c = (if c.headD 0 = 99 then 2 else 3) := by
  have hne : c ≠ [102] := by intro e; apply hc; unfold EM.ckK; rw [if_pos e]
  have hh := of_decide_eq_true h1
  rcases hh with hh | hh | hh
  · exact absurd hh hne
  · refine ⟨hne, ?_, ?_⟩
    · unfold EM.ckR; rw [if_neg hne, if_pos (.inl hh)]
    · unfold EM.ckK; rw [if_neg hne, if_pos hh, if_pos hh]
  · refine ⟨hne, ?_, ?_⟩
    · unfold EM.ckR; rw [if_neg hne, if_pos (.inr hh)]
    · have h99 : ¬ c.headD 0 = 99 := by rw [hh]; decide
      unfold EM.ckK; rw [if_neg hne, if_neg h99, if_pos hh, if_neg h99]
theorem ps_bad (hP : WM.pieces 46 t = [a, b, c]) (h1 : EM.ckB c = true) (h2 : WM.name a = true) (h : rdE b = 0) (hc : EM.ckK c ≠ 1) (hr : rsE (EM.ckR c) ≠ 0) : EM.parE t = rsE (EM.ckR c) ∧ EM.parN t = EM.zero := by
  obtain ⟨e1, e2, e3⟩ := ps_parts hP
  obtain ⟨g1, g2, g3⟩ := ps_good hP h1 h2 h
  obtain ⟨k1, k2, k3⟩ := ck_two h1 hc
  rw [k2] at hr ⊢
  unfold rsE at hr ⊢
  by_cases hi : WM.intE c.tail = 0
  · rw [if_neg (by simp [hi])] at hr ⊢
    by_cases hn : (WM.intN c.tail).natAbs ≤ 16777216
    · rw [if_pos hn] at hr; exact absurd rfl hr
    · rw [if_neg hn]
      exact EM.par_price g1 g2 (by rw [e3]; exact k1) (by rw [e3]; exact hi) (by rw [e3]; exact hn)
  · rw [if_pos hi]
    have := EM.par_int g1 g2 (by rw [e3]; exact k1) (by rw [e3]; exact hi)
    rw [e3] at this; exact this
theorem ps_option (hP : WM.pieces 46 t = [a, b, c]) (h1 : EM.ckB c = true) (h2 : WM.name a = true) (h : rdE b = 0) (hc : EM.ckK c ≠ 1) (hr : rsE (EM.ckR c) = 0) : EM.parE t = 0 ∧ EM.parN t = ⟨⟨a.toArray⟩, EM.ckK c, rdN b, rsN (EM.ckR c)⟩ := by
  obtain ⟨e1, e2, e3⟩ := ps_parts hP
  obtain ⟨g1, g2, g3⟩ := ps_good hP h1 h2 h
  obtain ⟨k1, k2, k3⟩ := ck_two h1 hc
  have hN : rsN (EM.ckR c) = WM.intN c.tail := by unfold rsN; rw [if_pos hr, k2]
  rw [hN, k3]
  rw [k2] at hr
  unfold rsE at hr
  by_cases hi : WM.intE c.tail = 0
  · rw [if_neg (by simp [hi])] at hr
    by_cases hn : (WM.intN c.tail).natAbs ≤ 16777216
    · have := EM.par_option g1 g2 (by rw [e3]; exact k1) (by rw [e3]; exact hi) (by rw [e3]; exact hn)
      rw [e3, e1, g3] at this; exact this
    · rw [if_neg hn] at hr; cases hr
  · rw [if_pos hi] at hr; exact absurd hr hi
end
theorem three {α : Type} (l : List α) (h : l.length = 3) : ∃ a b c, l = [a, b, c] := by
  match l, h with
  | [a, b, c], _ => exact ⟨a, b, c, rfl⟩
theorem piece_300 {t p : ByteArray} {ls : List ByteArray} (ht : t.size ≤ 300) (h : ls.map L = WM.pieces 46 (L t)) (hp : p ∈ ls) : p.size ≤ 300 := by
  have h2 : L p ∈ WM.pieces 46 (L t) := by rw [← h]; exact List.mem_map_of_mem hp
  have key : ∀ (n : Nat) (s q : List UInt8), s.length ≤ n → q ∈ WM.pieces 46 s → q.length ≤ s.length := by
    intro n
    induction n with
    | zero =>
      intro s q hs hq
      have : s = [] := List.eq_nil_of_length_eq_zero (by omega)
      subst this
      rw [EM.pieces_no (by simp), List.mem_singleton] at hq
      rw [hq]; exact Nat.le_refl _
    | succ n ih =>
      intro s q hs hq
      by_cases hc : (46 : UInt8) ∈ s
      · obtain ⟨x, y, rfl, hx⟩ := List.eq_append_cons_of_mem hc
        rw [EM.pieces_at hx] at hq
        rcases List.mem_cons.1 hq with rfl | hq
        · simp
        · have := ih y q (by simp at hs; omega) hq
          simp; omega
      · rw [EM.pieces_no hc, List.mem_singleton] at hq
        rw [hq]; exact Nat.le_refl _
  have := key _ _ _ (Nat.le_refl _) h2
  rw [L_len, L_len] at this
  omega

set_option maxHeartbeats 8000000 in
theorem eparse_any (t : ByteArray) (w : World) (ht : t.size ≤ 300) (hm : ML w) :
    Calls Tryd.prog 11 #[.string t] w fun e w' => e = .returned (.tuple #[serA (EM.parN (L t)), .int .i64 (EM.parE (L t))]) ∧ Below w.heap.size w w' := by
  have HB0 := Lib.hid ((Below.refl w.heap.size w).alloc (Nat.le_refl _) (.cells #[.string ⟨#[]⟩, .int .i64 0, .int .i64 0, .int .i64 0] 24))
  have HP0 : Hid (SBox (w.alloc (.cells #[.string ⟨#[]⟩, .int .i64 0, .int .i64 0, .int .i64 0] 24)) w.heap.size EM.zero) := Lib.hid (SBox.new w EM.zero)
  have C1 := Lib.hid (fun ww (h : ML ww) => split4_any t ww h (by omega))
  have HM0 := Lib.hid (hm.below HB0.out)
  have KL := Lib.hid (@ps_len (L t)); have KK := Lib.hid (fun a b c => @ps_kind (L t) a b c); have KN := Lib.hid (fun a b c => @ps_name (L t) a b c); have KD := Lib.hid (fun a b c => @ps_date (L t) a b c)
  have KF := Lib.hid (fun a b c => @ps_future (L t) a b c); have KB := Lib.hid (fun a b c => @ps_bad (L t) a b c); have KO := Lib.hid (fun a b c => @ps_option (L t) a b c)
  have HPC := Lib.hid (fun p ls => @piece_300 t p ls ht)
  generalize EM.parE (L t) = pe at *
  generalize EM.parN (L t) = pn at *
  clear hm ht
  go_enter Tryd.func11, Tryd.ntmps11
  go_wp2_with fail
  refine (C1.out _ HM0.out).mono ?_
  rintro e w1 ⟨A, cap, ls, rfl, hS, b1, hi1, hi2⟩
  have HP1 := Lib.hid (HP0.out.below b1 HP0.out.lt)
  have HB1 := Lib.hid (HB0.out.trans (b1.mono HB0.out.size))
  have hlen := hS.len
  have HS := Lib.hid hS
  clear b1 hS HP0 HB0 C1 HM0
  obtain ⟨c0, c1, c2, c3⟩ := HP1.out.cells
  have f0 := HP1.out.frozen 0; have f1 := HP1.out.frozen 1; have f2 := HP1.out.frozen 2; have f3 := HP1.out.frozen 3
  by_cases h3 : ls.length = 3
  · have HMP := Lib.hid (hi2 (hi1.1 h3))
    obtain ⟨a, b, c, rfl⟩ := three ls h3
    have HP3 : Hid (WM.pieces 46 (L t) = [L a, L b, L c]) := Lib.hid HMP.out.symm
    have sa := HPC.out a _ HMP.out (by simp); have sb := HPC.out b _ HMP.out (by simp); have sc := HPC.out c _ HMP.out (by simp)
    obtain ⟨bk, off, xa, rfl, hb, d0, HV0, _⟩ := HS.out.get (k := 0) (by show 0 < 3; omega)
    obtain rfl : a = xa := HV0.out
    obtain ⟨bk', off', xb, e', _, d1, HV1, _⟩ := HS.out.get (k := 1) (by show 1 < 3; omega)
    injection e' with e'; injection e' with e1' e2'; subst e1' e2'
    obtain rfl : b = xb := HV1.out
    obtain ⟨bk', off', xc, e', _, d2, HV2, _⟩ := HS.out.get (k := 2) (by show 2 < 3; omega)
    injection e' with e'; injection e' with e1' e2'; subst e1' e2'
    obtain rfl : c = xc := HV2.out
    have d0' : w1.cell? ⟨bk, off, none⟩ = some (.string a) := d0
    have CK := Lib.hid (fun ww => cutKind_any c ww (by omega))
    have CN := Lib.hid (fun ww => name_any a ww (by omega))
    have CD := Lib.hid (fun ww => readDate_any b ww sb)
    have hrs : (S (EM.ckR (L c))).size ≤ 300 := by
      rw [S_size]
      have := L_len c
      unfold EM.ckR
      split
      · simp
      · split
        · simp; omega
        · simp
    have CR := Lib.hid (fun ww => readStrike_any (S (EM.ckR (L c))) ww hrs)
    rw [L_S] at CR
    have K2 := Lib.hid (KK.out _ _ _ HP3.out); have K3 := Lib.hid (KN.out _ _ _ HP3.out); have K4 := Lib.hid (KD.out _ _ _ HP3.out); have K5 := Lib.hid (KF.out _ _ _ HP3.out); have K6 := Lib.hid (KB.out _ _ _ HP3.out); have K7 := Lib.hid (KO.out _ _ _ HP3.out)
    have HSA : Hid ((⟨(L a).toArray⟩ : ByteArray) = a) := Lib.hid (S_L a)
    rw [HSA.out] at K5 K7
    clear hlen h3 hi1 hi2 KL KK KN KD KF KB KO HPC HMP HV0 HV1 HV2 HP3 sa sb sc hrs HSA
    generalize EM.ckK (L c) = kk at *
    generalize EM.ckB (L c) = kb at *
    generalize rsN (EM.ckR (L c)) = sn at *
    generalize rsE (EM.ckR (L c)) = se at *
    generalize S (EM.ckR (L c)) = kr at *
    generalize WM.name (L a) = nb at *
    generalize rdN (L b) = dn at *
    generalize rdE (L b) = de at *
    go_wp2_with fail
    refine (CK.out _).mono ?_
    rintro e w2 ⟨rfl, rfl⟩
    cases kb
    · have HX := Lib.hid (K2.out (by trivial))
      go_wp2_with fail
      (try simp only [Exit.inBlock, Exit.then])
      refine bodyPost_ret (results_ser rfl _ _ _ _ rfl (HP1.out.put EM.zero)) rfl ⟨?_, SBox.put_below HB1.out (Nat.le_refl _) EM.zero⟩
      rw [HX.out.1, HX.out.2]; rfl
    go_wp2_with fail
    refine (CN.out _).mono ?_
    rintro e w2 ⟨rfl, rfl⟩
    cases nb
    · have HX := Lib.hid (K3.out (by trivial))
      go_wp2_with fail
      (try simp only [Exit.inBlock, Exit.then])
      refine bodyPost_ret (results_ser rfl _ _ _ _ rfl (HP1.out.put EM.zero)) rfl ⟨?_, SBox.put_below HB1.out (Nat.le_refl _) EM.zero⟩
      rw [HX.out.1, HX.out.2]; rfl
    go_wp2_with fail
    refine (CD.out _).mono ?_
    rintro e w2 ⟨rfl, b2⟩
    have HP2 := Lib.hid (HP1.out.below b2 HP1.out.lt)
    have HB2 := Lib.hid (HB1.out.trans (b2.mono HB1.out.size))
    have d0'' := (b2.cell (p := ⟨bk, off, none⟩) hb).trans d0'
    clear b2 c0 c1 c2 c3 f0 f1 f2 f3 d0 d1 d2 d0' HS HP1 HB1
    obtain ⟨c0, c1, c2, c3⟩ := HP2.out.cells
    have f0 := HP2.out.frozen 0; have f1 := HP2.out.frozen 1; have f2 := HP2.out.frozen 2; have f3 := HP2.out.frozen 3
    by_cases hde : de = 0
    · subst hde
      have HP3 : Hid (SBox ((((w2.setCell ⟨w.heap.size, 0, none⟩ (.string a)).setCell ⟨w.heap.size, 1, none⟩ (.int .i64 kk)).setCell ⟨w.heap.size, 2, none⟩ (.int .i64 dn)).setCell ⟨w.heap.size, 3, none⟩ (.int .i64 0)) w.heap.size ⟨a, kk, dn, 0⟩) := Lib.hid (HP2.out.put ⟨a, kk, dn, 0⟩)
      have HB3 : Hid (Below w.heap.size w ((((w2.setCell ⟨w.heap.size, 0, none⟩ (.string a)).setCell ⟨w.heap.size, 1, none⟩ (.int .i64 kk)).setCell ⟨w.heap.size, 2, none⟩ (.int .i64 dn)).setCell ⟨w.heap.size, 3, none⟩ (.int .i64 0))) := Lib.hid (SBox.put_below HB2.out (Nat.le_refl _) ⟨a, kk, dn, 0⟩)
      by_cases hk1 : kk = 1
      · have HX := Lib.hid (K5.out (by trivial) (by trivial) (by trivial) hk1)
        subst hk1
        go_wp2_with fail
        (try simp only [Exit.inBlock, Exit.then])
        refine bodyPost_ret (results_ser rfl _ _ _ _ rfl (HP3.out.put ⟨a, 1, dn, 0⟩)) rfl ⟨?_, SBox.put_below HB3.out (Nat.le_refl _) ⟨a, 1, dn, 0⟩⟩
        rw [HX.out.1, HX.out.2]; rfl
      · have hk2 : (kk == 1) = false := beq_f hk1
        have HK := Lib.hid hk1
        go_wp2_with fail
        refine (CR.out _).mono ?_
        rintro e w4 ⟨rfl, b4⟩
        have HP4 := Lib.hid (HP3.out.below b4 HP3.out.lt)
        have HB4 := Lib.hid (HB3.out.trans (b4.mono HB3.out.size))
        clear b4 c0 c1 c2 c3 f0 f1 f2 f3 HP3 HB3 HP2 HB2 d0''
        obtain ⟨c0, c1, c2, c3⟩ : w4.cell? ⟨w.heap.size, 0, none⟩ = some (.string a) ∧ w4.cell? ⟨w.heap.size, 1, none⟩ = some (.int .i64 kk) ∧ w4.cell? ⟨w.heap.size, 2, none⟩ = some (.int .i64 dn) ∧ w4.cell? ⟨w.heap.size, 3, none⟩ = some (.int .i64 0) := HP4.out.cells
        have f0 := HP4.out.frozen 0; have f1 := HP4.out.frozen 1; have f2 := HP4.out.frozen 2; have f3 := HP4.out.frozen 3
        have HP5 : Hid (SBox (w4.setCell ⟨w.heap.size, 3, none⟩ (.int .i64 sn)) w.heap.size ⟨a, kk, dn, sn⟩) := Lib.hid (HP4.out.strike sn)
        have HB5 := Lib.hid (HB4.out.setCell (p := ⟨w.heap.size, 3, none⟩) (Nat.le_refl _) (.int .i64 sn))
        by_cases hse : se = 0
        · have HX := Lib.hid (K7.out (by trivial) (by trivial) (by trivial) HK.out hse)
          subst hse
          go_wp2_with fail
          (try simp only [Exit.inBlock, Exit.then])
          refine bodyPost_ret (results_ser rfl _ _ _ _ rfl (HP5.out.put ⟨a, kk, dn, sn⟩)) rfl ⟨?_, SBox.put_below HB5.out (Nat.le_refl _) ⟨a, kk, dn, sn⟩⟩
          rw [HX.out.1, HX.out.2]; rfl
        · have HX := Lib.hid (K6.out (by trivial) (by trivial) (by trivial) HK.out hse)
          have hd : (se != 0) = true := by simpa using hse
          clear hse
          go_wp2_with fail
          (try simp only [Exit.inBlock, Exit.then])
          refine bodyPost_ret (results_ser rfl _ _ _ _ rfl (HP5.out.put EM.zero)) rfl ⟨?_, SBox.put_below HB5.out (Nat.le_refl _) EM.zero⟩
          rw [HX.out.1, HX.out.2]; rfl
    · have HX := Lib.hid (K4.out (by trivial) (by trivial) hde)
      have hd : (de != 0) = true := by simpa using hde
      clear hde
      go_wp2_with fail
      (try simp only [Exit.inBlock, Exit.then])
      refine bodyPost_ret (results_ser rfl _ _ _ _ rfl (HP2.out.put EM.zero)) rfl ⟨?_, SBox.put_below HB2.out (Nat.le_refl _) EM.zero⟩
      rw [HX.out.1, HX.out.2]; rfl
  · have hne : ((ls.length : Int) != 3) = true := by rw [bne, beq_f (by omega)]; rfl
    have HX := Lib.hid (KL.out (fun h => h3 (hi1.2 h)))
    clear hi1 hi2 KL KK KN KD KF KB KO HPC
    go_wp2_with fail
    (try simp only [Exit.inBlock, Exit.then])
    refine bodyPost_ret (results_ser rfl _ _ _ _ rfl (HP1.out.put EM.zero)) rfl ⟨?_, SBox.put_below HB1.out (Nat.le_refl _) EM.zero⟩
    rw [HX.out.1, HX.out.2]; rfl
end Go.Proofs.YtiohainnpjikpaaDoor

/- Contract: layer 10's examples hold. -/
namespace Go.Proofs.YtiohainnpjikpaaDoor
open Go.RowKit Go.Recs Go.Shelf
set_option linter.unusedVariables false

def exC : EM.Ser := ⟨⟨#[111, 105, 108]⟩, 2, 9576, -50⟩
def exF : EM.Ser := ⟨⟨#[111, 105, 108]⟩, 1, 9576, 0⟩
theorem ex_day : DM.isDate 9576 2026 3 21 := ⟨by decide, by decide⟩
theorem ex_50 : WM.dec 50 = [53, 48] := by rw [WM.dec_big (by decide), WM.dec_small (by decide)]; rfl
theorem ex_pc : EM.printL exC = [111, 105, 108, 46, 50, 48, 50, 54, 48, 51, 50, 49, 46, 99, 45, 53, 48] := by
  rw [EM.print_is (s := exC) (y := 2026) (m := 3) (d := 21) ⟨by decide, by decide⟩ ex_day]
  have e : WM.textL exC.strike = [45, 53, 48] := by show 45 :: WM.dec 50 = _; rw [ex_50]
  unfold EM.txt EM.tail
  rw [e]
  rfl
theorem ex_pf : EM.printL exF = [111, 105, 108, 46, 50, 48, 50, 54, 48, 51, 50, 49, 46, 102] := by
  rw [EM.print_is (s := exF) (y := 2026) (m := 3) (d := 21) ⟨by decide, by decide⟩ ex_day]
  rfl
theorem ex_par : EM.parE [111, 105, 108, 46, 50, 48, 50, 54, 48, 51, 50, 49, 46, 102] = 0 ∧ EM.parN [111, 105, 108, 46, 50, 48, 50, 54, 48, 51, 50, 49, 46, 102] = exF := by
  rw [← ex_pf]
  exact EM.par_print ⟨⟨by decide, by decide⟩, by decide, by decide⟩ (by decide) ⟨by decide, by decide⟩ (fun _ => rfl)
theorem ex_cmp : EM.cmp exC exF = 1 := by rw [← EM.cmp_or]; decide
theorem ser_q (s : EM.Ser) (h1 : s.prod.size ≤ maxLen) (h2 : i64 s.kind) (h3 : i64 s.expiry) (h4 : i64 s.strike) : serQ s := ⟨h1, h2, h3, h4⟩

set_option maxHeartbeats 4000000 in
theorem goes10_any (w : World) (hm : ML w) : Calls Tryd.prog 8 #[] w fun e w' => e = .returned (.bool true) ∧ Below w.heap.size w w' := by
  have P1 := fun ww h => eparse_any ⟨#[111, 105, 108, 46, 50, 48, 50, 54, 48, 51, 50, 49, 46, 102]⟩ ww (by decide) h
  have eL : L ⟨#[111, 105, 108, 46, 50, 48, 50, 54, 48, 51, 50, 49, 46, 102]⟩ = [111, 105, 108, 46, 50, 48, 50, 54, 48, 51, 50, 49, 46, 102] := rfl
  rw [eL, ex_par.1, ex_par.2] at P1
  have PR := fun ww h => eprint_any exC ww ⟨by decide, ⟨by decide, by decide⟩, ⟨by decide, by decide⟩, ⟨by decide, by decide⟩⟩ (by decide) h
  have eP : S (EM.printL exC) = ⟨#[111, 105, 108, 46, 50, 48, 50, 54, 48, 51, 50, 49, 46, 99, 45, 53, 48]⟩ := by rw [ex_pc]; rfl
  rw [eP] at PR
  have CC := fun ww => ecmp_any exC exF ww
  rw [ex_cmp] at CC
  have E1 : ∀ ww, (Op.equalIn 10000 24 (serA exF) (serA exF)).run Tryd.prog ww = .ok true ww := fun ww => by rw [ser_in, seq_iff.2 rfl]
  have hgd := ser_guard
  have HP1 := Lib.hid P1; have HPR := Lib.hid PR; have HCC := Lib.hid CC
  have HB0 := Lib.hid ((Below.refl w.heap.size w).alloc (Nat.le_refl _) (.cells #[.string exC.prod, .int .i64 exC.kind, .int .i64 exC.expiry, .int .i64 exC.strike] 24))
  have HX0 := Lib.hid (SBox.new w exC)
  have HM0 := Lib.hid (hm.below HB0.out)
  have HF0 : Hid (Op.equalIn 10000 24 (serA exF) (.agg #[.string ⟨#[111, 105, 108]⟩, .int .i64 1, .int .i64 9576, .int .i64 0]) = Op.equalIn 10000 24 (serA exF) (serA exF)) := Lib.hid rfl
  have E2 : ∀ ww, (Op.equalIn 10000 24 (serA exF) (.agg #[.string ⟨#[111, 105, 108]⟩, .int .i64 1, .int .i64 9576, .int .i64 0])).run Tryd.prog ww = .ok true ww := fun ww => by rw [HF0.out]; exact E1 ww
  clear P1 PR CC eL eP hm E1 HF0
  change Hid (Below w.heap.size w (w.alloc (.cells #[.string ⟨#[111, 105, 108]⟩, .int .i64 2, .int .i64 9576, .int .i64 (-50)] 24))) at HB0
  change Hid (SBox (w.alloc (.cells #[.string ⟨#[111, 105, 108]⟩, .int .i64 2, .int .i64 9576, .int .i64 (-50)] 24)) w.heap.size exC) at HX0
  change Hid (ML (w.alloc (.cells #[.string ⟨#[111, 105, 108]⟩, .int .i64 2, .int .i64 9576, .int .i64 (-50)] 24))) at HM0
  generalize exF = f at *
  generalize exC = c at *
  go_enter Tryd.func8, Tryd.ntmps8
  go_wp2_with fail
  generalize w.alloc (.cells #[.string ⟨#[111, 105, 108]⟩, .int .i64 2, .int .i64 9576, .int .i64 (-50)] 24) = w0 at *
  refine (HP1.out _ HM0.out).mono ?_
  rintro e w1 ⟨rfl, b1⟩
  have HX1 := Lib.hid ((HX0.out.below b1 HX0.out.lt).alloc (.cells #[.string f.prod, .int .i64 f.kind, .int .i64 f.expiry, .int .i64 f.strike] 24))
  have HB1 := Lib.hid (HB0.out.trans (b1.mono HB0.out.size))
  have HB2 := Lib.hid (HB1.out.alloc HB1.out.size (.cells #[.string f.prod, .int .i64 f.kind, .int .i64 f.expiry, .int .i64 f.strike] 24))
  have HF2 := Lib.hid (SBox.new w1 f)
  have HM2 := Lib.hid ((HM0.out.below b1).below ((Below.refl w1.heap.size w1).alloc (Nat.le_refl _) (.cells #[.string f.prod, .int .i64 f.kind, .int .i64 f.expiry, .int .i64 f.strike] 24)))
  clear b1 HX0 HB0 HM0 HB1
  obtain ⟨c0, c1, c2, c3⟩ := HX1.out.cells
  go_wp2_with fail
  generalize w1.alloc (.cells #[.string f.prod, .int .i64 f.kind, .int .i64 f.expiry, .int .i64 f.strike] 24) = w2 at *
  refine (HPR.out _ HM2.out).mono ?_
  rintro e w3 ⟨rfl, b3⟩
  have HX3 := Lib.hid (HX1.out.below b3 HX1.out.lt)
  have HF3 := Lib.hid (HF2.out.below b3 HF2.out.lt)
  have HB3 := Lib.hid (HB2.out.trans (b3.mono HB2.out.size))
  clear b3 c0 c1 c2 c3 HX1 HF2 HB2 HM2
  obtain ⟨c0, c1, c2, c3⟩ := HX3.out.cells
  obtain ⟨d0, d1, d2, d3⟩ := HF3.out.cells
  go_wp2_with fail
  refine (HCC.out _).mono ?_
  rintro e w4 ⟨rfl, g4⟩
  have HB4 := Lib.hid (HB3.out.trans (g4.below.mono HB3.out.size))
  clear g4
  go_wp2_with fail
  go_ret
  exact ⟨rfl, HB4.out⟩
end Go.Proofs.YtiohainnpjikpaaDoor

/- Contracts of layer 9: products compared, the bounds, Check. -/
namespace Go.Proofs.YtiohainnpjikpaaDoor
open Go.RowKit Go.Recs
set_option linter.unusedVariables false
abbrev prodA (p : QM.Prod) : Value := .agg #[.string p.name, .int .i64 p.cur, .int .i64 p.mult, .int .i64 p.tick, .int .i64 p.low, .int .i64 p.high, .bool p.phys]
def peq (x y : QM.Prod) : Bool := (x.name.toList == y.name.toList) && ((x.cur == y.cur) && ((x.mult == y.mult) && ((x.tick == y.tick) && ((x.low == y.low) && ((x.high == y.high) && (x.phys == y.phys))))))
theorem peq_iff {x y : QM.Prod} : peq x y = true ↔ x = y := by
  constructor
  · intro h
    unfold peq at h
    simp only [Bool.and_eq_true, beq_iff_eq] at h
    obtain ⟨h1, h2, h3, h4, h5, h6, h7⟩ := h
    cases x; cases y
    simp only at h1 h2 h3 h4 h5 h6 h7
    rw [EM.toList_inj h1, h2, h3, h4, h5, h6, h7]
  · rintro rfl
    simp [peq]
theorem peq_false {x y : QM.Prod} : peq x y = false ↔ x ≠ y := by rw [Bool.eq_false_iff, ne_eq, peq_iff]
theorem prod_in (x y : QM.Prod) (w : World) : (Op.equalIn 10000 29 (prodA x) (prodA y)).run Tryd.prog w = .ok (peq x y) w := by
  have u3 := Tryd.underlying3
  have u4 := Tryd.underlying4
  have u9 := Tryd.underlying9
  have a3 := Tryd.isAgg3
  have a4 := Tryd.isAgg4
  have a9 := Tryd.isAgg9
  have z3 := Tryd.sizeOf3
  have z4 := Tryd.sizeOf4
  have z9 := Tryd.sizeOf9
  have hS : Tryd.prog.underlying 29 = some (.struct (Tryd.prog.fieldsOf 29)) := by kernel_rfl
  have hp : Tryd.prog.stoodInHeld 29 = false := by kernel_rfl
  rw [show (10000 : Nat) = 9999 + 1 from rfl, run_equalIn_agg w 9999 29 _ _ hS hp]
  simp only [Program.fieldsOf, Tryd.underlying29]
  unfold peq
  go_simp
  by_cases h1 : x.name.toList = y.name.toList <;> by_cases h2 : x.cur = y.cur <;> by_cases h3 : x.mult = y.mult <;> by_cases h4 : x.tick = y.tick <;> by_cases h5 : x.low = y.low <;> by_cases h6 : x.high = y.high <;> by_cases h7 : x.phys = y.phys <;> simp [h1, h2, h3, h4, h5, h6, h7]
theorem prod_guard : Tryd.prog.eqGuardType Tryd.prog.depth 29 = false := by kernel_rfl

theorem qwithin_any (n a b : Int) (w : World) :
    Calls Tryd.prog 77 #[.int .i64 n, .int .i64 a, .int .i64 b] w fun e w' => e = .returned (.bool (QM.within n a b)) ∧ w = w' := by
  by_cases h1 : a ≤ n
  · by_cases h2 : n ≤ b
    · have e : QM.within n a b = true := QM.within_true.2 ⟨h1, h2⟩
      rw [e]; clear e
      go_enter Tryd.func77, Tryd.ntmps77
      go_wp2
      go_ret
      exact ⟨rfl, rfl⟩
    · have e : QM.within n a b = false := QM.within_false.2 (.inr (by omega))
      rw [e]; clear e
      go_enter Tryd.func77, Tryd.ntmps77
      go_wp2
      go_ret
      exact ⟨rfl, rfl⟩
  · have e : QM.within n a b = false := QM.within_false.2 (.inl (by omega))
    rw [e]; clear e
    go_enter Tryd.func77, Tryd.ntmps77
    go_wp2
    go_ret
    exact ⟨rfl, rfl⟩
theorem rqwithin_any (n a b : Int) (w : World) :
    Calls Tryd.prog 53 #[.int .i64 n, .int .i64 a, .int .i64 b] w fun e w' => e = .returned (.bool (QM.within n a b)) ∧ w = w' := by
  by_cases h1 : a ≤ n
  · by_cases h2 : n ≤ b
    · have e : QM.within n a b = true := QM.within_true.2 ⟨h1, h2⟩
      rw [e]; clear e
      go_enter Tryd.func53, Tryd.ntmps53
      go_wp2
      go_ret
      exact ⟨rfl, rfl⟩
    · have e : QM.within n a b = false := QM.within_false.2 (.inr (by omega))
      rw [e]; clear e
      go_enter Tryd.func53, Tryd.ntmps53
      go_wp2
      go_ret
      exact ⟨rfl, rfl⟩
  · have e : QM.within n a b = false := QM.within_false.2 (.inl (by omega))
    rw [e]; clear e
    go_enter Tryd.func53, Tryd.ntmps53
    go_wp2
    go_ret
    exact ⟨rfl, rfl⟩
theorem qmul_any (n t : Int) (ht : t ≠ 0) (w : World) :
    Calls Tryd.prog 78 #[.int .i64 n, .int .i64 t] w fun e w' => e = .returned (.bool (n.tmod t == 0)) ∧ w = w' := by
  have h0 : ¬ t = 0 := ht
  go_enter Tryd.func78, Tryd.ntmps78
  go_wp2
  go_ret
  exact ⟨rfl, rfl⟩
end Go.Proofs.YtiohainnpjikpaaDoor

/- Contracts of layer 9: Check, the program's and the reference's. -/
namespace Go.Proofs.YtiohainnpjikpaaDoor
open Go.RowKit Go.Recs
set_option linter.unusedVariables false

theorem ck1 {p : QM.Prod} (h : WM.name (L p.name) = false) : QM.checkE p = 10 := by unfold QM.checkE; rw [if_pos (show QM.nameOk p = false from h)]
theorem ck2 {p : QM.Prod} (h : WM.name (L p.name) = true) (h2 : QM.within p.cur 0 7 = false) : QM.checkE p = 25 := by
  unfold QM.checkE; rw [if_neg (show ¬ QM.nameOk p = false by rw [show QM.nameOk p = true from h]; decide), if_pos h2]
theorem ck3 {p : QM.Prod} (h : WM.name (L p.name) = true) (h2 : QM.within p.cur 0 7 = true) (h3 : QM.within p.mult 1 4096 = false) : QM.checkE p = 2 := by
  unfold QM.checkE; rw [if_neg (show ¬ QM.nameOk p = false by rw [show QM.nameOk p = true from h]; decide), if_neg (by rw [h2]; decide), if_pos h3]
theorem ck4 {p : QM.Prod} (h : WM.name (L p.name) = true) (h2 : QM.within p.cur 0 7 = true) (h3 : QM.within p.mult 1 4096 = true) (h4 : QM.within p.tick 1 16777216 = false) : QM.checkE p = 16 := by
  unfold QM.checkE; rw [if_neg (show ¬ QM.nameOk p = false by rw [show QM.nameOk p = true from h]; decide), if_neg (by rw [h2]; decide), if_neg (by rw [h3]; decide), if_pos h4]
theorem ck5 {p : QM.Prod} (h : WM.name (L p.name) = true) (h2 : QM.within p.cur 0 7 = true) (h3 : QM.within p.mult 1 4096 = true) (h4 : QM.within p.tick 1 16777216 = true) :
    QM.checkE p = if QM.rangeOk p = false then 17 else 0 := by
  unfold QM.checkE; rw [if_neg (show ¬ QM.nameOk p = false by rw [show QM.nameOk p = true from h]; decide), if_neg (by rw [h2]; decide), if_neg (by rw [h3]; decide), if_neg (by rw [h4]; decide)]
theorem rg (p : QM.Prod) : QM.rangeOk p = (QM.within p.low (-16777216) 16777216 && QM.within p.high (-16777216) 16777216 && decide (p.low ≤ p.high) && (p.low.tmod p.tick == 0) && (p.high.tmod p.tick == 0)) := rfl

set_option maxHeartbeats 2000000 in
theorem qcheck_any (p : QM.Prod) (hq : prodQ p) (w : World) :
    Calls Tryd.prog 48 #[prodA p] w fun e w' => e = .returned (.int .i64 (QM.checkE p)) ∧ Below w.heap.size w w' := by
  obtain ⟨hn, _, _, _, _, _⟩ := hq
  have hn2 : p.name.size ≤ 9223372036854775807 := hn
  have C0 := Lib.hid (fun ww => name_any p.name ww hn2)
  have C1 := Lib.hid (fun ww => qwithin_any p.cur 0 7 ww)
  have C2 := Lib.hid (fun ww => qwithin_any p.mult 1 4096 ww)
  have C3 := Lib.hid (fun ww => qwithin_any p.tick 1 16777216 ww)
  have C4 := Lib.hid (fun ww => qwithin_any p.low (-16777216) 16777216 ww)
  have C5 := Lib.hid (fun ww => qwithin_any p.high (-16777216) 16777216 ww)
  have HT : Hid (QM.within p.tick 1 16777216 = true → p.tick ≠ 0) := Lib.hid (fun h => by have := QM.within_true.1 h; omega)
  have C6 := Lib.hid (fun (h : p.tick ≠ 0) ww => qmul_any p.low p.tick h ww)
  have C7 := Lib.hid (fun (h : p.tick ≠ 0) ww => qmul_any p.high p.tick h ww)
  have K1 := Lib.hid (@ck1 p); have K2 := Lib.hid (@ck2 p); have K3 := Lib.hid (@ck3 p); have K4 := Lib.hid (@ck4 p); have K5 := Lib.hid (@ck5 p)
  rw [rg] at K5
  have HB := Lib.hid (fun o => (Below.refl w.heap.size w).alloc (Nat.le_refl _) o)
  generalize QM.checkE p = x at *
  generalize WM.name (L p.name) = b0 at *
  generalize QM.within p.cur 0 7 = b1 at *
  generalize QM.within p.mult 1 4096 = b2 at *
  generalize QM.within p.tick 1 16777216 = b3 at *
  generalize QM.within p.low (-16777216) 16777216 = b4 at *
  generalize QM.within p.high (-16777216) 16777216 = b5 at *
  generalize (p.low.tmod p.tick == 0) = b6 at *
  generalize (p.high.tmod p.tick == 0) = b7 at *
  clear hn hn2
  go_enter Tryd.func48, Tryd.ntmps48
  go_wp2_with fail
  refine (C0.out _).mono ?_
  rintro e w1 ⟨rfl, rfl⟩
  cases b0
  · have HX := Lib.hid (K1.out (by trivial))
    go_wp2_with fail
    go_ret
    exact ⟨by rw [HX.out]; rfl, HB.out _⟩
  go_wp2_with fail
  refine (C1.out _).mono ?_
  rintro e w1 ⟨rfl, rfl⟩
  cases b1
  · have HX := Lib.hid (K2.out (by trivial) (by trivial))
    go_wp2_with fail
    go_ret
    exact ⟨by rw [HX.out]; rfl, HB.out _⟩
  go_wp2_with fail
  refine (C2.out _).mono ?_
  rintro e w1 ⟨rfl, rfl⟩
  cases b2
  · have HX := Lib.hid (K3.out (by trivial) (by trivial) (by trivial))
    go_wp2_with fail
    go_ret
    exact ⟨by rw [HX.out]; rfl, HB.out _⟩
  go_wp2_with fail
  refine (C3.out _).mono ?_
  rintro e w1 ⟨rfl, rfl⟩
  cases b3
  · have HX := Lib.hid (K4.out (by trivial) (by trivial) (by trivial) (by trivial))
    go_wp2_with fail
    go_ret
    exact ⟨by rw [HX.out]; rfl, HB.out _⟩
  have HX := Lib.hid (K5.out (by trivial) (by trivial) (by trivial) (by trivial))
  have HT2 := Lib.hid (HT.out (by trivial))
  clear K1 K2 K3 K4 K5 HT
  go_wp2_with fail
  refine (C4.out _).mono ?_
  rintro e w1 ⟨rfl, rfl⟩
  cases b4
  · go_wp2_with fail
    go_ret
    exact ⟨by rw [HX.out]; simp, HB.out _⟩
  go_wp2_with fail
  refine (C5.out _).mono ?_
  rintro e w1 ⟨rfl, rfl⟩
  cases b5
  · go_wp2_with fail
    go_ret
    exact ⟨by rw [HX.out]; simp, HB.out _⟩
  by_cases hlh : p.high < p.low
  · have hd : decide (p.low ≤ p.high) = false := by simp; omega
    rw [hd] at HX; clear hd
    go_wp2_with fail
    go_ret
    exact ⟨by rw [HX.out]; simp, HB.out _⟩
  have hd : decide (p.low ≤ p.high) = true := by simp; omega
  rw [hd] at HX; clear hd
  go_wp2_with fail
  refine (C6.out HT2.out _).mono ?_
  rintro e w1 ⟨rfl, rfl⟩
  cases b6
  · go_wp2_with fail
    go_ret
    exact ⟨by rw [HX.out]; simp, HB.out _⟩
  go_wp2_with fail
  refine (C7.out HT2.out _).mono ?_
  rintro e w1 ⟨rfl, rfl⟩
  cases b7
  · go_wp2_with fail
    go_ret
    exact ⟨by rw [HX.out]; simp, HB.out _⟩
  go_wp2_with fail
  go_ret
  exact ⟨by rw [HX.out]; simp, HB.out _⟩

set_option maxHeartbeats 2000000 in
theorem rqcheck_any (p : QM.Prod) (hq : prodQ p) (w : World) :
    Calls Tryd.prog 52 #[prodA p] w fun e w' => e = .returned (.int .i64 (QM.checkE p)) ∧ Below w.heap.size w w' := by
  obtain ⟨hn, _, _, _, _, _⟩ := hq
  have hn2 : p.name.size ≤ 9223372036854775807 := hn
  have C0 := Lib.hid (fun ww => rname_any p.name ww hn2)
  have C1 := Lib.hid (fun ww => rqwithin_any p.cur 0 7 ww)
  have C2 := Lib.hid (fun ww => rqwithin_any p.mult 1 4096 ww)
  have C3 := Lib.hid (fun ww => rqwithin_any p.tick 1 16777216 ww)
  have C4 := Lib.hid (fun ww => rqwithin_any p.low (-16777216) 16777216 ww)
  have C5 := Lib.hid (fun ww => rqwithin_any p.high (-16777216) 16777216 ww)
  have HT : Hid (QM.within p.tick 1 16777216 = true → p.tick ≠ 0) := Lib.hid (fun h => by have := QM.within_true.1 h; omega)
  have K1 := Lib.hid (@ck1 p); have K2 := Lib.hid (@ck2 p); have K3 := Lib.hid (@ck3 p); have K4 := Lib.hid (@ck4 p); have K5 := Lib.hid (@ck5 p)
  rw [rg] at K5
  have HB := Lib.hid (fun o => (Below.refl w.heap.size w).alloc (Nat.le_refl _) o)
  generalize QM.checkE p = x at *
  generalize WM.name (L p.name) = b0 at *
  generalize QM.within p.cur 0 7 = b1 at *
  generalize QM.within p.mult 1 4096 = b2 at *
  generalize QM.within p.tick 1 16777216 = b3 at *
  generalize QM.within p.low (-16777216) 16777216 = b4 at *
  generalize QM.within p.high (-16777216) 16777216 = b5 at *
  clear hn hn2
  go_enter Tryd.func52, Tryd.ntmps52
  go_wp2_with fail
  refine (C0.out _).mono ?_
  rintro e w1 ⟨rfl, rfl⟩
  cases b0
  · have HX := Lib.hid (K1.out (by trivial))
    go_wp2_with fail
    go_ret
    exact ⟨by rw [HX.out]; rfl, HB.out _⟩
  go_wp2_with fail
  refine (C1.out _).mono ?_
  rintro e w1 ⟨rfl, rfl⟩
  cases b1
  · have HX := Lib.hid (K2.out (by trivial) (by trivial))
    go_wp2_with fail
    go_ret
    exact ⟨by rw [HX.out]; rfl, HB.out _⟩
  go_wp2_with fail
  refine (C2.out _).mono ?_
  rintro e w1 ⟨rfl, rfl⟩
  cases b2
  · have HX := Lib.hid (K3.out (by trivial) (by trivial) (by trivial))
    go_wp2_with fail
    go_ret
    exact ⟨by rw [HX.out]; rfl, HB.out _⟩
  go_wp2_with fail
  refine (C3.out _).mono ?_
  rintro e w1 ⟨rfl, rfl⟩
  cases b3
  · have HX := Lib.hid (K4.out (by trivial) (by trivial) (by trivial) (by trivial))
    go_wp2_with fail
    go_ret
    exact ⟨by rw [HX.out]; rfl, HB.out _⟩
  have HX := Lib.hid (K5.out (by trivial) (by trivial) (by trivial) (by trivial))
  have HT2 : ¬ p.tick = 0 := HT.out (by trivial)
  clear K1 K2 K3 K4 K5 HT
  go_wp2_with fail
  refine (C4.out _).mono ?_
  rintro e w1 ⟨rfl, rfl⟩
  cases b4
  · go_wp2_with fail
    go_ret
    exact ⟨by rw [HX.out]; simp, HB.out _⟩
  go_wp2_with fail
  refine (C5.out _).mono ?_
  rintro e w1 ⟨rfl, rfl⟩
  cases b5
  · go_wp2_with fail
    go_ret
    exact ⟨by rw [HX.out]; simp, HB.out _⟩
  by_cases hlh : p.high < p.low
  · have hd : decide (p.low ≤ p.high) = false := by simp; omega
    rw [hd] at HX; clear hd
    go_wp2_with fail
    go_ret
    exact ⟨by rw [HX.out]; simp, HB.out _⟩
  have hd : decide (p.low ≤ p.high) = true := by simp; omega
  rw [hd] at HX; clear hd
  cases h6 : (p.low.tmod p.tick == 0)
  · rw [h6] at HX
    have h6' : ¬ p.low.tmod p.tick = 0 := by simpa using h6
    have h6b : (p.low.tmod p.tick != 0) = true := by rw [bne, h6]; rfl
    go_wp2_with fail
    go_ret
    exact ⟨by rw [HX.out]; simp, HB.out _⟩
  rw [h6] at HX
  have h6' : p.low.tmod p.tick = 0 := by simpa using h6
  have h6b : (p.low.tmod p.tick != 0) = false := by rw [bne, h6]; rfl
  cases h7 : (p.high.tmod p.tick == 0)
  · rw [h7] at HX
    have h7' : ¬ p.high.tmod p.tick = 0 := by simpa using h7
    have h7b : (p.high.tmod p.tick != 0) = true := by rw [bne, h7]; rfl
    go_wp2_with fail
    go_ret
    exact ⟨by rw [HX.out]; simp, HB.out _⟩
  rw [h7] at HX
  have h7' : p.high.tmod p.tick = 0 := by simpa using h7
  have h7b : (p.high.tmod p.tick != 0) = false := by rw [bne, h7]; rfl
  go_wp2_with fail
  go_ret
  exact ⟨by rw [HX.out]; simp, HB.out _⟩
end Go.Proofs.YtiohainnpjikpaaDoor

/- Layer 9's mathematics: roundings and values, case by case. -/
namespace QM
open CM
theorem md_bad {a b c mode : Int} (h : within mode 1 5 = false) : mdE a b c mode = 2 ∧ mdN a b c mode = 0 := by
  have hA : mdA a b c mode = false := by
    rw [within_false] at h
    unfold mdA
    rcases h with h | h
    · simp [show ¬ 1 ≤ mode by omega]
    · simp [show ¬ mode ≤ 5 by omega]
  simp [mdE, mdN, hA]
theorem md_small {x t mode : Int} (x1 : -16777216 ≤ x) (x2 : x ≤ 16777216) (t1 : 1 ≤ t) (t2 : t ≤ 16777216) (h : within mode 1 5 = true) :
    mdE x 1 t mode = 0 ∧ -16777217 ≤ mdN x 1 t mode ∧ mdN x 1 t mode ≤ 16777217 := by
  obtain ⟨m1, m5⟩ := within_true.1 h
  have hA : mdA x 1 t mode = true := by
    have f1 : fits x = true := fits_of (by omega) (by omega)
    have f2 : fits 1 = true := by decide
    have f3 : fits t = true := fits_of (by omega) (by omega)
    simp [mdA, f1, f2, f3, m1, m5]
  have hq : (mdQ x 1 t : Int) ≤ 16777216 := by
    unfold mdQ
    have hs : size x ≤ 16777216 := by unfold size; split <;> omega
    have hs0 := size_nonneg x
    have : (size x).toNat * (size 1).toNat / (size t).toNat ≤ (size x).toNat * (size 1).toNat := Nat.div_le_self _ _
    have e1 : (size 1).toNat = 1 := by decide
    rw [e1, Nat.mul_one] at this ⊢
    omega
  have hg : 0 ≤ mdG x 1 t mode ∧ mdG x 1 t mode ≤ 16777217 := by
    unfold mdG
    split <;> omega
  have h0 : t ≠ 0 := by omega
  have hle : mdG x 1 t mode ≤ 1152921504606846976 := by omega
  have e : mdN x 1 t mode = if neg x 1 t = true then -mdG x 1 t mode else mdG x 1 t mode := by simp [mdN, hA, h0, hle]
  refine ⟨by simp [mdE, hA, h0, hle], ?_⟩
  rw [e]
  split <;> omega
theorem mul_small {n t : Int} (n1 : -16777217 ≤ n) (n2 : n ≤ 16777217) (t1 : 1 ≤ t) (t2 : t ≤ 16777216) : -281474993487872 ≤ n * t ∧ n * t ≤ 281474993487872 := by
  have a1 : n * t ≤ 16777217 * t := Int.mul_le_mul_of_nonneg_right n2 (by omega)
  have a2 : -16777217 * t ≤ n * t := Int.mul_le_mul_of_nonneg_right n1 (by omega)
  omega

section
variable {p : Prod} {x mode q : Int}
theorem pk_bad (h : checkE p ≠ 0) : priceE p x = checkE p := by unfold priceE; rw [if_pos h]
theorem pk_out (h : checkE p = 0) (h2 : within x p.low p.high = false) : priceE p x = 17 := by unfold priceE; rw [if_neg (by simp [h]), if_pos h2]
theorem pk_tick (h : checkE p = 0) (h2 : within x p.low p.high = true) (h3 : (x.tmod p.tick == 0) = false) : priceE p x = 16 := by
  unfold priceE; rw [if_neg (by simp [h]), if_neg (by simp [h2]), if_pos (by simpa using h3)]
theorem pk_ok (h : checkE p = 0) (h2 : within x p.low p.high = true) (h3 : (x.tmod p.tick == 0) = true) : priceE p x = 0 := by
  unfold priceE; rw [if_neg (by simp [h]), if_neg (by simp [h2]), if_neg (by simpa using h3)]
theorem tick_pos (h : checkE p = 0) : p.tick ≠ 0 := by have := (check_parts h).2.2.2.1; omega
theorem rd_bad (h : checkE p ≠ 0) : roundE p x mode = checkE p ∧ roundN p x mode = 0 := by
  have e : roundE p x mode = checkE p := by unfold roundE; rw [if_pos h]
  exact ⟨e, by unfold roundN; rw [e, if_neg h]⟩
theorem rd_out (h : checkE p = 0) (h2 : within x (-16777216) 16777216 = false) : roundE p x mode = 17 ∧ roundN p x mode = 0 := by
  have e : roundE p x mode = 17 := by unfold roundE; rw [if_neg (by simp [h]), if_pos h2]
  exact ⟨e, by unfold roundN; rw [e, if_neg (by decide)]⟩
theorem rd_mode (h : checkE p = 0) (h2 : within x (-16777216) 16777216 = true) (h3 : within mode 1 5 = false) : roundE p x mode = 2 ∧ roundN p x mode = 0 := by
  have e : roundE p x mode = 2 := by unfold roundE; rw [if_neg (by simp [h]), if_neg (by simp [h2]), if_pos h3]
  exact ⟨e, by unfold roundN; rw [e, if_neg (by decide)]⟩
theorem rd_ok (h : checkE p = 0) (h2 : within x (-16777216) 16777216 = true) (h3 : within mode 1 5 = true) :
    (roundE p x mode = 0 ∧ roundN p x mode = clamp (mdN x 1 p.tick mode * p.tick) p.low p.high) ∧ mdE x 1 p.tick mode = 0 ∧ -281474993487872 ≤ mdN x 1 p.tick mode * p.tick ∧ mdN x 1 p.tick mode * p.tick ≤ 281474993487872 := by
  have e : roundE p x mode = 0 := by unfold roundE; rw [if_neg (by simp [h]), if_neg (by simp [h2]), if_neg (by simp [h3])]
  have ht := (check_parts h).2.2.2.1
  have hx := within_true.1 h2
  obtain ⟨m0, m1, m2⟩ := md_small hx.1 hx.2 ht.1 ht.2 h3
  exact ⟨⟨e, by unfold roundN; rw [if_pos e]⟩, m0, mul_small m1 m2 ht.1 ht.2⟩
theorem vl_bad (h : checkE p ≠ 0) : valueE p x q = checkE p ∧ valueN p x q = 0 := by
  have e : valueE p x q = checkE p := by unfold valueE; rw [if_pos h]
  exact ⟨e, by unfold valueN; rw [e, if_neg h]⟩
theorem vl_out (h : checkE p = 0) (h2 : within x (-33554432) 33554432 = false) : valueE p x q = 17 ∧ valueN p x q = 0 := by
  have e : valueE p x q = 17 := by unfold valueE; rw [if_neg (by simp [h]), if_pos h2]
  exact ⟨e, by unfold valueN; rw [e, if_neg (by decide)]⟩
theorem vl_qty (h : checkE p = 0) (h2 : within x (-33554432) 33554432 = true) (h3 : within q (-1048576) 1048576 = false) : valueE p x q = 18 ∧ valueN p x q = 0 := by
  have e : valueE p x q = 18 := by unfold valueE; rw [if_neg (by simp [h]), if_neg (by simp [h2]), if_pos h3]
  exact ⟨e, by unfold valueN; rw [e, if_neg (by decide)]⟩
theorem vl_ok (h : checkE p = 0) (h2 : within x (-33554432) 33554432 = true) (h3 : within q (-1048576) 1048576 = true) : valueE p x q = 0 ∧ valueN p x q = x * p.mult * q := by
  have e : valueE p x q = 0 := by unfold valueE; rw [if_neg (by simp [h]), if_neg (by simp [h2]), if_neg (by simp [h3])]
  exact ⟨e, by unfold valueN; rw [if_pos e]⟩
end
end QM
