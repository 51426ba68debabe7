/- Put together: SerJ, SerK, WSeriesTexts, SizedRec, OpenProd. -/
import Derived.Test.YtiohainnpjikpaaDoorBun9
import Derived.Test.YtiohainnpjikpaaDoorBun7
import Derived.SizedLaws
import Derived.ProofKit
import Derived.Test.YtiohainnpjikpaaDoorBun1
import Derived.OpenShut
import Derived.ShutString
import Derived.ChangeOld
/- Layer 10, the reference's Print. -/
namespace Go.Proofs.YtiohainnpjikpaaDoor
open Go.RowKit Go.Recs
set_option linter.unusedVariables false
set_option linter.unusedSimpArgs false

def lowD (n : Int) : Nat → List UInt8
  | 0 => []
  | k + 1 => DM.ch (n / 10 ^ k) :: lowD n k
theorem lowD_len (n : Int) : ∀ k, (lowD n k).length = k
  | 0 => rfl
  | k + 1 => by unfold lowD; rw [List.length_cons, lowD_len n k]
theorem lowD_four (n : Int) : lowD n 4 = [DM.ch (n / 1000), DM.ch (n / 100), DM.ch (n / 10), DM.ch n] := by
  simp [lowD]
theorem lowD_two (n : Int) : lowD n 2 = [DM.ch (n / 10), DM.ch n] := by
  simp [lowD]
theorem ch_int (q : Int) (h : 0 ≤ q) : ((DM.ch q).toNat : Int) = 48 + q % 10 := by
  unfold DM.ch
  rw [UInt8.toNat_ofNat']
  omega
theorem low_next (n : Int) (k : Nat) : n / 10 ^ k / 10 = n / 10 ^ (k + 1) := by
  rw [Int.pow_succ, Int.ediv_ediv_of_nonneg (Int.pow_nonneg (by decide))]

set_option maxRecDepth 100000 in
set_option maxHeartbeats 2000000 in
theorem rlowD_any (n : Int) (many : Nat) (w : World) (h0 : 0 ≤ n) (h1 : n ≤ 9999) (hm : many ≤ 4) :
    Calls Tryd.prog 41 #[.int .i64 n, .int .i64 (many : Int)] w fun e w' => e = .returned (.string (S (lowD n many))) ∧ Below w.heap.size w w' := by
  go_enter Tryd.func41, Tryd.ntmps41
  go_wp2
  go_loopw [0, 5, 6] (fun x v i wr => ∃ (k : Nat) (q : Int) (t : ByteArray), k ≤ many ∧ i = .int .i64 k ∧ x = .int .i64 q ∧ 0 ≤ q ∧ q ≤ 9999 ∧ v = .string t ∧ t.size ≤ 4 ∧ Hid (q = n / 10 ^ k ∧ t = S (lowD n k)) ∧ Hid (Below w.heap.size w wr)) (fun _ _ i _ => many - (intOf i).toNat)
  case atStart => exact ⟨0, n, ⟨#[]⟩, by omega, rfl, rfl, h0, h1, rfl, by decide, Lib.hid ⟨by simp, rfl⟩, Lib.hid (Below.refl _ _)⟩
  case round =>
    obtain ⟨k, q, t, hk, rfl, rfl, hq0, hq1, rfl, ht, HE, HB⟩ := hrel
    by_cases hlt : k < many
    · have t1 : 0 ≤ q % 10 := by omega
      have t2 : q % 10 ≤ 9 := by omega
      have t4 : 0 ≤ q / 10 := by omega
      have t5 : q / 10 ≤ 9999 := by omega
      have hcv := str_of (one_byte wr (DM.ch q)) 1
      rw [ch_int q hq0] at hcv
      have hz : (S [DM.ch q]).size = 1 := by rw [S_size]; rfl
      have HL := Lib.hid (L_S [DM.ch q])
      have HE2 : Hid (q / 10 = n / 10 ^ (k + 1) ∧ S [DM.ch q] ++ t = S (lowD n (k + 1))) := Lib.hid (by
        obtain ⟨e1, e2⟩ := HE.out
        refine ⟨by rw [e1, low_next], ?_⟩
        apply L_inj
        rw [L_append, L_S, L_S, e2, L_S, e1]
        rfl)
      have hsz : (S [DM.ch q] ++ t).size ≤ 4 := by rw [HE2.out.2, S_size, lowD_len]; omega
      have hcat := @cat_ok (S [DM.ch q]) t (by omega)
      generalize S [DM.ch q] = ds at *
      have hcv2 : (convert 94 9 (.slice (some ⟨wr.heap.size, 0, none⟩) 1 1)).run Tryd.prog (wr.alloc (.cells #[.int .u8 (48 + q % 10)] 5)) = .ok (.string ds) (wr.alloc (.cells #[.int .u8 (48 + q % 10)] 5)) := hcv
      have HB1 := Lib.hid (HB.out.alloc HB.out.size (.cells #[.int .u8 (48 + q % 10)] 5))
      clear hcv hz HL
      go_wp2
      go_roundw
      case rel => exact ⟨k + 1, q / 10, _, by omega, by go_num, rfl, t4, t5, rfl, hsz, HE2, HB1⟩
      case measure => simp [intOf]; omega
    · obtain rfl : k = many := by omega
      go_wp2
      go_ret
      exact ⟨by rw [HE.out.2] <;> rfl, HB.out⟩

theorem r4_any (n : Int) (w : World) (h0 : 0 ≤ n) (h1 : n ≤ 9999) :
    Calls Tryd.prog 41 #[.int .i64 n, .int .i64 4] w fun e w' => e = .returned (.string (S (lowD n 4))) ∧ Below w.heap.size w w' := rlowD_any n 4 w h0 h1 (by omega)
theorem r2_any (n : Int) (w : World) (h0 : 0 ≤ n) (h1 : n ≤ 9999) :
    Calls Tryd.prog 41 #[.int .i64 n, .int .i64 2] w fun e w' => e = .returned (.string (S (lowD n 2))) ∧ Below w.heap.size w w' := rlowD_any n 2 w h0 h1 (by omega)

theorem rprint_cat {p : ByteArray} {y m d : Int} : (((((p ++ ⟨#[46]⟩) ++ S (lowD y 4)) ++ S (lowD m 2)) ++ S (lowD d 2)) ++ ⟨#[46]⟩) = (((p ++ ⟨#[46]⟩) ++ S (EM.d8 y m d)) ++ ⟨#[46]⟩) := by
  apply L_inj
  simp only [L_append, L_S, lowD_four, lowD_two, EM.d8]
  simp

set_option maxHeartbeats 4000000 in
theorem rprint10_any (s : EM.Ser) (w : World) (hq : serQ s) (hp : s.prod.size ≤ 300) :
    Calls Tryd.prog 14 #[serA s] w fun e w' => e = .returned (.string (S (EM.printL s))) ∧ Below w.heap.size w w' := by
  have HB0 := Lib.hid ((Below.refl w.heap.size w).alloc (Nat.le_refl _) (.cells #[.string s.prod, .int .i64 s.kind, .int .i64 s.expiry, .int .i64 s.strike] 24))
  have HP0 := Lib.hid (SBox.new w s)
  have CT := Lib.hid (fun ww => rTextTop_any s.strike ww hq.2.2.2.1 hq.2.2.2.2)
  have HSm : Hid (s.prod.size ≤ 300) := Lib.hid hp
  by_cases hd : 0 ≤ s.expiry ∧ s.expiry ≤ 73048
  · obtain ⟨y, m, d, hdd⟩ := DM.isDate_exists hd.1 hd.2
    have CP := Lib.hid (fun ww => rsplit_any s.expiry y m d ww hdd)
    by_cases hk : 1 ≤ s.kind ∧ s.kind ≤ 3
    · have ok := hdd.1
      have hdm : DM.dim y m ≤ 31 := by unfold DM.dim; split <;> (try split) <;> omega
      have D1 := Lib.hid (fun ww => r4_any y ww (by have := ok.1; omega) (by have := ok.2.1; omega))
      have D2 := Lib.hid (fun ww => r2_any m ww (by have := ok.2.2.1; omega) (by have := ok.2.2.2.1; omega))
      have D3 := Lib.hid (fun ww => r2_any d ww (by have := ok.2.2.2.2.1; omega) (by have := ok.2.2.2.2.2; omega))
      have PF := Lib.hid (@print_f s y m d hdd)
      have PO := Lib.hid (fun c => @print_o s y m d c hdd)
      rw [← rprint_cat] at PF PO
      have HTX : Hid ((S (WM.textL s.strike)).size ≤ 30) := Lib.hid (by rw [S_size]; exact text_small hq.2.2.2)
      have z1 : (S (lowD y 4)).size = 4 := by rw [S_size, lowD_len]
      have z2 : (S (lowD m 2)).size = 2 := by rw [S_size, lowD_len]
      have z3 : (S (lowD d 2)).size = 2 := by rw [S_size, lowD_len]
      have k1 : ¬ s.kind < 1 := by omega
      have k2 : ¬ 3 < s.kind := by omega
      have hkk : s.kind = 1 ∨ (¬ s.kind = 1 ∧ s.kind = 2) ∨ (¬ s.kind = 1 ∧ ¬ s.kind = 2 ∧ s.kind = 3) := by omega
      generalize S (EM.printL s) = res at *
      generalize S (lowD y 4) = dy at *
      generalize S (lowD m 2) = dm at *
      generalize S (lowD d 2) = ddd at *
      generalize S (WM.textL s.strike) = tx at *
      have hps := HSm.out
      have one : (⟨#[46]⟩ : ByteArray).size = 1 := rfl
      have htx := HTX.out
      have e1 := @cat_ok s.prod ⟨#[46]⟩ (by omega)
      have e2 := @cat_ok (s.prod ++ ⟨#[46]⟩) dy (by rw [cat_size]; omega)
      have e3 := @cat_ok ((s.prod ++ ⟨#[46]⟩) ++ dy) dm (by rw [cat_size, cat_size]; omega)
      have e4 := @cat_ok (((s.prod ++ ⟨#[46]⟩) ++ dy) ++ dm) ddd (by rw [cat_size, cat_size, cat_size]; omega)
      have e5 := @cat_ok ((((s.prod ++ ⟨#[46]⟩) ++ dy) ++ dm) ++ ddd) ⟨#[46]⟩ (by rw [cat_size, cat_size, cat_size, cat_size]; omega)
      have hts : (((((s.prod ++ ⟨#[46]⟩) ++ dy) ++ dm) ++ ddd) ++ ⟨#[46]⟩).size ≤ 400 := by rw [cat_size, cat_size, cat_size, cat_size, cat_size]; omega
      have onec : ∀ c : UInt8, (⟨#[c]⟩ : ByteArray).size = 1 := fun c => rfl
      generalize hT : ((((s.prod ++ ⟨#[46]⟩) ++ dy) ++ dm) ++ ddd) ++ (⟨#[46]⟩ : ByteArray) = T at *
      have e6 : ∀ c : UInt8, Op.stringOp .add T ⟨#[c]⟩ = pure (.string (T ++ ⟨#[c]⟩)) := fun c => @cat_ok T ⟨#[c]⟩ (by rw [onec c]; omega)
      have e7 : ∀ c : UInt8, Op.stringOp .add (T ++ ⟨#[c]⟩) tx = pure (.string ((T ++ ⟨#[c]⟩) ++ tx)) := fun c => @cat_ok (T ++ ⟨#[c]⟩) tx (by rw [cat_size, onec c]; omega)
      have e6f := e6 102; have e6c := e6 99; have e6p := e6 112; have e7c := e7 99; have e7p := e7 112
      clear hq hp hd hdd hk ok hdm z1 z2 z3 hps one htx hts onec e6 e7 hT
      go_enter Tryd.func14, Tryd.ntmps14
      go_wp2_with fail
      refine (CP.out _).mono ?_
      rintro e w1 ⟨rfl, rfl⟩
      generalize w.alloc (.cells #[.string s.prod, .int .i64 s.kind, .int .i64 s.expiry, .int .i64 s.strike] 24) = w0 at *
      obtain ⟨c0, c1, c2, c3⟩ := HP0.out.cells
      go_wp2_with fail
      have HSF : Hid (∀ ww, Below w0.heap.size w0 ww → ww.cell? ⟨w.heap.size, 0, none⟩ = some (.string s.prod)) := Lib.hid (fun ww h => (HP0.out.below h HP0.out.lt).cells.1)
      have HBw : Hid (Below w0.heap.size w0 w0.drew) := Lib.hid (Below.refl _ _).drew
      clear c0 c1 c2 c3
      go_region_held3 (fun ww => ww.cell? ⟨w.heap.size, 0, none⟩ = some (.string s.prod))
        (exact HSF.out _ HBw.out)
        (first
          | (go_at_call 41; with_reducible refine (D1.out _).mono ?_; rintro e w2 ⟨rfl, b6⟩; replace HBw := Lib.hid (HBw.out.trans (b6.mono HBw.out.size)); clear b6)
          | (go_at_call 41; with_reducible refine (D2.out _).mono ?_; rintro e w2 ⟨rfl, b6⟩; replace HBw := Lib.hid (HBw.out.trans (b6.mono HBw.out.size)); clear b6)
          | (go_at_call 41; with_reducible refine (D3.out _).mono ?_; rintro e w2 ⟨rfl, b6⟩; replace HBw := Lib.hid (HBw.out.trans (b6.mono HBw.out.size)); clear b6))
      all_goals (
        have HP2 := Lib.hid (HP0.out.below HBw.out HP0.out.lt)
        have HB2 := Lib.hid (HB0.out.trans (HBw.out.mono HB0.out.size))
        clear HSF HBw HP0 HB0 D1 D2 D3 CP
        obtain ⟨c0, c1, c2, c3⟩ := HP2.out.cells
        rcases hkk with hk | ⟨h1, hk⟩ | ⟨h1, h2, hk⟩
        · have HX := Lib.hid (PF.out hk)
          rw [hk] at c1
          clear hk
          go_wp2_with fail
          go_ret
          exact ⟨by rw [← HX.out] <;> rfl, HB2.out⟩
        · have HX := Lib.hid (PO.out 99 (.inl ⟨hk, rfl⟩))
          rw [hk] at c1
          clear hk h1
          go_wp2_with fail
          refine (CT.out _).mono ?_
          rintro e w3 ⟨rfl, b3⟩
          have HB3 := Lib.hid (HB2.out.trans (b3.mono HB2.out.size))
          clear b3
          go_wp2_with fail
          go_ret
          exact ⟨by rw [← HX.out] <;> rfl, HB3.out⟩
        · have HX := Lib.hid (PO.out 112 (.inr ⟨hk, rfl⟩))
          rw [hk] at c1
          clear hk h1 h2
          go_wp2_with fail
          refine (CT.out _).mono ?_
          rintro e w3 ⟨rfl, b3⟩
          have HB3 := Lib.hid (HB2.out.trans (b3.mono HB2.out.size))
          clear b3
          go_wp2_with fail
          go_ret
          exact ⟨by rw [← HX.out] <;> rfl, HB3.out⟩)
    · rw [EM.print_no (fun h => hk h.1)]
      have hk' : s.kind < 1 ∨ (¬ s.kind < 1 ∧ 3 < s.kind) := by omega
      clear hq hp hd hdd hk CT HSm
      rcases hk' with d1 | ⟨d1, d2⟩
      all_goals (
        go_enter Tryd.func14, Tryd.ntmps14
        go_wp2_with fail
        refine (CP.out _).mono ?_
        rintro e w1 ⟨rfl, rfl⟩
        go_wp2_with fail
        go_ret
        exact ⟨rfl, HB0.out⟩)
  · rw [EM.print_no (fun h => hd h.2)]
    have CP := Lib.hid (fun ww => rsplit_no s.expiry ww (by omega))
    clear hq hp hd CT HSm HP0
    go_enter Tryd.func14, Tryd.ntmps14
    go_wp2_with fail
    refine (CP.out _).mono ?_
    rintro e w1 ⟨rfl, rfl⟩
    go_wp2_with fail
    go_ret
    exact ⟨rfl, HB0.out⟩
end Go.Proofs.YtiohainnpjikpaaDoor

/- Layer 10, the reference's Parse. -/
namespace Go.Proofs.YtiohainnpjikpaaDoor
open Go.RowKit Go.Recs
set_option linter.unusedVariables false
set_option linter.unusedSimpArgs false

section
variable {t : List UInt8} {a b c : List UInt8}
theorem pq_b (hP : WM.pieces 46 t = [a, b, c]) (h : ¬ (b.length = 8 ∧ b.all WM.dig = true)) : EM.parE t = 5 ∧ EM.parN t = EM.zero := EM.par_form (by
  rintro ⟨a', b', c', hp, _, hb, _⟩
  rw [hP] at hp; simp only [List.cons.injEq, and_true] at hp
  obtain ⟨rfl, rfl, rfl⟩ := hp
  exact h hb)
theorem pq_date (hP : WM.pieces 46 t = [a, b, c]) (h2 : WM.name a = true) (h3 : b.length = 8 ∧ b.all WM.dig = true) (h1 : EM.ckB c = true) (h : DM.ofE (WM.val b / 10000) (WM.val b / 100 % 100) (WM.val b % 100) ≠ 0) : EM.parE t = 15 ∧ EM.parN t = EM.zero := by
  obtain ⟨e1, e2, e3⟩ := ps_parts hP
  exact EM.par_date (ps_form hP h1 h2 h3.1 h3.2) (by unfold EM.yy EM.mm EM.dd; rw [e2]; exact h)
theorem pq_future (hP : WM.pieces 46 t = [a, b, c]) (h2 : WM.name a = true) (h3 : b.length = 8 ∧ b.all WM.dig = true) (h1 : EM.ckB c = true) (h : DM.ofE (WM.val b / 10000) (WM.val b / 100 % 100) (WM.val b % 100) = 0) (hc : c = [102]) :
    EM.parE t = 0 ∧ EM.parN t = ⟨⟨a.toArray⟩, 1, DM.ofN (WM.val b / 10000) (WM.val b / 100 % 100) (WM.val b % 100), 0⟩ := by
  obtain ⟨e1, e2, e3⟩ := ps_parts hP
  have := EM.par_future (ps_form hP h1 h2 h3.1 h3.2) (by unfold EM.yy EM.mm EM.dd; rw [e2]; exact h) (by rw [e3]; exact hc)
  unfold EM.yy EM.mm EM.dd at this; rw [e1, e2] at this; exact this
theorem pq_int (hP : WM.pieces 46 t = [a, b, c]) (h2 : WM.name a = true) (h3 : b.length = 8 ∧ b.all WM.dig = true) (h1 : EM.ckB c = true) (h : DM.ofE (WM.val b / 10000) (WM.val b / 100 % 100) (WM.val b % 100) = 0) (hc : c ≠ [102]) (h4 : WM.intE c.tail ≠ 0) :
    EM.parE t = WM.intE c.tail ∧ EM.parN t = EM.zero := by
  obtain ⟨e1, e2, e3⟩ := ps_parts hP
  have := EM.par_int (ps_form hP h1 h2 h3.1 h3.2) (by unfold EM.yy EM.mm EM.dd; rw [e2]; exact h) (by rw [e3]; exact hc) (by rw [e3]; exact h4)
  rw [e3] at this; exact this
theorem pq_price (hP : WM.pieces 46 t = [a, b, c]) (h2 : WM.name a = true) (h3 : b.length = 8 ∧ b.all WM.dig = true) (h1 : EM.ckB c = true) (h : DM.ofE (WM.val b / 10000) (WM.val b / 100 % 100) (WM.val b % 100) = 0) (hc : c ≠ [102]) (h4 : WM.intE c.tail = 0) (h5 : ¬ (-16777216 ≤ WM.intN c.tail ∧ WM.intN c.tail ≤ 16777216)) :
    EM.parE t = 17 ∧ EM.parN t = EM.zero := by
  obtain ⟨e1, e2, e3⟩ := ps_parts hP
  exact EM.par_price (ps_form hP h1 h2 h3.1 h3.2) (by unfold EM.yy EM.mm EM.dd; rw [e2]; exact h) (by rw [e3]; exact hc) (by rw [e3]; exact h4) (by rw [e3]; omega)
theorem pq_option (hP : WM.pieces 46 t = [a, b, c]) (h2 : WM.name a = true) (h3 : b.length = 8 ∧ b.all WM.dig = true) (h1 : EM.ckB c = true) (h : DM.ofE (WM.val b / 10000) (WM.val b / 100 % 100) (WM.val b % 100) = 0) (hc : c ≠ [102]) (h4 : WM.intE c.tail = 0) (h5 : -16777216 ≤ WM.intN c.tail ∧ WM.intN c.tail ≤ 16777216) :
    EM.parE t = 0 ∧ EM.parN t = ⟨⟨a.toArray⟩, if c.headD 0 = 99 then 2 else 3, DM.ofN (WM.val b / 10000) (WM.val b / 100 % 100) (WM.val b % 100), WM.intN c.tail⟩ := by
  obtain ⟨e1, e2, e3⟩ := ps_parts hP
  have := EM.par_option (ps_form hP h1 h2 h3.1 h3.2) (by unfold EM.yy EM.mm EM.dd; rw [e2]; exact h) (by rw [e3]; exact hc) (by rw [e3]; exact h4) (by rw [e3]; omega)
  unfold EM.yy EM.mm EM.dd at this; rw [e1, e2, e3] at this; exact this
end
theorem one_head {c : ByteArray} (h : 1 ≤ c.size) : L (c.extract 0 1) = [(L c).headD 0] := by
  rw [L_extract]
  have hl := L_len c
  cases hL : L c with
  | nil => rw [hL] at hl; simp at hl; omega
  | cons x xs => simp
theorem rest_tail (c : ByteArray) : L (c.extract 1 c.size) = (L c).tail := by
  rw [L_extract, ← L_len c, List.take_length]; simp
theorem ofS_any (n x y z : Int) (hx : x = n / 10000) (hy : y = n / 100 % 100) (hz : z = n % 100) (w : World) :
    Calls Tryd.prog 35 #[.int .i64 x, .int .i64 y, .int .i64 z] w fun e w' => e = .returned (.tuple #[.int .i64 (DM.ofN (n / 10000) (n / 100 % 100) (n % 100)), .int .i64 (DM.ofE (n / 10000) (n / 100 % 100) (n % 100))]) ∧ w = w' := by
  subst hx hy hz; exact rof_any _ _ _ w

set_option maxRecDepth 100000 in
set_option maxHeartbeats 8000000 in
theorem rparse10_any (t : ByteArray) (w : World) (ht : t.size ≤ 300) :
    Calls Tryd.prog 12 #[.string t] w fun e w' => e = .returned (.tuple #[serA (EM.parN (L t)), .int .i64 (EM.parE (L t))]) ∧ Below w.heap.size w w' := by
  have HB0 := Lib.hid ((Below.refl w.heap.size w).alloc (Nat.le_refl _) (.cells #[.string ⟨#[]⟩, .int .i64 0, .int .i64 0, .int .i64 0] 24))
  have HP0 : Hid (SBox (w.alloc (.cells #[.string ⟨#[]⟩, .int .i64 0, .int .i64 0, .int .i64 0] 24)) w.heap.size EM.zero) := Lib.hid (SBox.new w EM.zero)
  have C1 := Lib.hid (fun ww => rpieces_any t ww ht)
  have KL := Lib.hid (@ps_len (L t)); have KK := Lib.hid (fun a b c => @ps_kind (L t) a b c); have KN := Lib.hid (fun a b c => @ps_name (L t) a b c); have KB := Lib.hid (fun a b c => @pq_b (L t) a b c)
  have KD := Lib.hid (fun a b c => @pq_date (L t) a b c); have KF := Lib.hid (fun a b c => @pq_future (L t) a b c); have KI := Lib.hid (fun a b c => @pq_int (L t) a b c); have KP := Lib.hid (fun a b c => @pq_price (L t) a b c); have KO := Lib.hid (fun a b c => @pq_option (L t) a b c)
  have HPC := Lib.hid (fun p ls => @piece_300 t p ls ht)
  have HLS : Hid ((strsP (WM.pieces 46 (L t))).map L = WM.pieces 46 (L t)) := Lib.hid (by
    unfold strsP
    rw [List.map_map]
    conv => rhs; rw [← List.map_id (WM.pieces 46 (L t))]
    exact List.map_congr_left (fun p _ => L_S p))
  generalize EM.parE (L t) = pe at *
  generalize EM.parN (L t) = pn at *
  generalize strsP (WM.pieces 46 (L t)) = ls at *
  clear ht
  go_enter Tryd.func12, Tryd.ntmps12
  go_wp2_with fail
  refine (C1.out _).mono ?_
  rintro e w1 ⟨v, rfl, hO, b1⟩
  obtain ⟨A, cap, rfl, hS⟩ := hO.strs (fun s hs => by have := HPC.out s ls HLS.out hs; unfold maxLen; omega)
  have HP1 := Lib.hid (HP0.out.below b1 HP0.out.lt)
  have HB1 := Lib.hid (HB0.out.trans (b1.mono HB0.out.size))
  have hlen := hS.len
  have HS := Lib.hid hS
  clear b1 hS hO HP0 HB0 C1
  obtain ⟨c0, c1, c2, c3⟩ := HP1.out.cells
  have f0 := HP1.out.frozen 0; have f1 := HP1.out.frozen 1; have f2 := HP1.out.frozen 2; have f3 := HP1.out.frozen 3
  by_cases h3 : ls.length = 3
  · obtain ⟨a, b, c, rfl⟩ := three ls h3
    have HP3 : Hid (WM.pieces 46 (L t) = [L a, L b, L c]) := Lib.hid HLS.out.symm
    have sa := HPC.out a _ HLS.out (by simp); have sb := HPC.out b _ HLS.out (by simp); have sc := HPC.out c _ HLS.out (by simp)
    obtain ⟨bk, off, xa, rfl, hb, d0, HV0, _⟩ := HS.out.get (k := 0) (by show 0 < 3; omega)
    obtain rfl : a = xa := HV0.out
    obtain ⟨bk', off', xb, e', _, d1, HV1, _⟩ := HS.out.get (k := 1) (by show 1 < 3; omega)
    injection e' with e'; injection e' with e1' e2'; subst e1' e2'
    obtain rfl : b = xb := HV1.out
    obtain ⟨bk', off', xc, e', _, d2, HV2, _⟩ := HS.out.get (k := 2) (by show 2 < 3; omega)
    injection e' with e'; injection e' with e1' e2'; subst e1' e2'
    obtain rfl : c = xc := HV2.out
    have d0' : w1.cell? ⟨bk, off, none⟩ = some (.string a) := d0
    have CN := Lib.hid (fun ww => rname_any a ww (by omega))
    have K2 := Lib.hid (KK.out _ _ _ HP3.out); have K3 := Lib.hid (KN.out _ _ _ HP3.out); have K4 := Lib.hid (KB.out _ _ _ HP3.out); have K5 := Lib.hid (KD.out _ _ _ HP3.out); have K6 := Lib.hid (KF.out _ _ _ HP3.out); have K7 := Lib.hid (KI.out _ _ _ HP3.out); have K8 := Lib.hid (KP.out _ _ _ HP3.out); have K9 := Lib.hid (KO.out _ _ _ HP3.out)
    have HSA : Hid ((⟨(L a).toArray⟩ : ByteArray) = a) := Lib.hid (S_L a)
    rw [HSA.out] at K6 K9
    clear hlen h3 KL KK KN KB KD KF KI KP KO HPC HLS HV0 HV1 HV2 HP3 HSA
    generalize WM.name (L a) = nb at *
    go_wp2_with fail
    refine (CN.out _).mono ?_
    rintro e w2 ⟨rfl, rfl⟩
    cases nb
    · have HX := Lib.hid (K3.out (by trivial))
      go_wp2_with fail
      (try simp only [Exit.inBlock, Exit.then])
      refine bodyPost_ret (results_ser rfl _ _ _ _ rfl (HP1.out.put EM.zero)) rfl ⟨?_, SBox.put_below HB1.out (Nat.le_refl _) EM.zero⟩
      rw [HX.out.1, HX.out.2]; rfl
    by_cases h8 : b.size = 8
    · have C8 := Lib.hid (fun ww => rnumber_any b ww (by omega))
      have h8i : (b.size : Int) = 8 := by omega
      have h8b : ((b.size : Int) != 8) = false := by simp [h8i]
      cases hdg : (L b).all WM.dig
      · have HX := Lib.hid (K4.out (by rw [hdg]; simp))
        have HN : Hid (numN (L b) = -1) := Lib.hid (by unfold numN; rw [hdg]; rfl)
        rw [HN.out] at C8
        clear hdg HN
        go_wp2_with fail
        refine (C8.out _).mono ?_
        rintro e w2 ⟨rfl, rfl⟩
        go_wp2_with fail
        (try simp only [Exit.inBlock, Exit.then])
        refine bodyPost_ret (results_ser rfl _ _ _ _ rfl (HP1.out.put EM.zero)) rfl ⟨?_, SBox.put_below HB1.out (Nat.le_refl _) EM.zero⟩
        rw [HX.out.1, HX.out.2]; rfl
      have h3 : (L b).length = 8 ∧ (L b).all WM.dig = true := ⟨by rw [L_len]; exact h8, hdg⟩
      have HN : Hid (numN (L b) = WM.val (L b)) := Lib.hid (by unfold numN; rw [if_pos hdg])
      rw [HN.out] at C8
      have hv := (EM.d8_of h3.1 h3.2).2
      have CO := Lib.hid (fun x y z hx hy hz ww => ofS_any (WM.val (L b)) x y z hx hy hz ww)
      have K5' := Lib.hid (K5.out (by trivial) h3); have K6' := Lib.hid (K6.out (by trivial) h3); have K7' := Lib.hid (K7.out (by trivial) h3); have K8' := Lib.hid (K8.out (by trivial) h3); have K9' := Lib.hid (K9.out (by trivial) h3)
      clear K3 K4 K5 K6 K7 K8 K9 h3 HN hdg
      generalize DM.ofE (WM.val (L b) / 10000) (WM.val (L b) / 100 % 100) (WM.val (L b) % 100) = oe at *
      generalize DM.ofN (WM.val (L b) / 10000) (WM.val (L b) / 100 % 100) (WM.val (L b) % 100) = on at *
      generalize WM.val (L b) = n at *
      obtain ⟨hv0, hv1⟩ := hv
      by_cases hc1 : 1 ≤ c.size
      · have hci : (1 : Int) ≤ (c.size : Int) := by omega
        have hcl : ¬ (c.size : Int) < 1 := by omega
        have hH := one_head hc1
        have hT := rest_tail c
        have hkt : ∀ x : UInt8, ((c.extract 0 1).toList == [x]) = decide ((L c).headD 0 = x) := fun x => by rw [L_toList, hH, Bool.eq_iff_iff]; simp
        have hkT : ∀ x : UInt8, ((c.extract 0 1).toList = [x]) = ((L c).headD 0 = x) := fun x => by rw [L_toList, hH]; simp
        have hcf : (c.toList == [102]) = decide (L c = [102]) := beq_lit
        have hcF : (c.toList = [102]) = (L c = [102]) := by rw [L_toList]
        have CI := Lib.hid (fun ww => rint_any (c.extract 1 c.size) ww (by rw [← L_len, hT, List.length_tail, L_len]; omega))
        rw [hT] at CI
        have hkc : ((L c).headD 0 = 99 ∧ L c ≠ [102] ∧ EM.ckB (L c) = true) ∨ ((L c).headD 0 = 112 ∧ L c ≠ [102] ∧ EM.ckB (L c) = true) ∨ ((L c).headD 0 = 102 ∧ L c = [102] ∧ EM.ckB (L c) = true) ∨ ((L c).headD 0 ≠ 99 ∧ (L c).headD 0 ≠ 112 ∧ L c ≠ [102] ∧ EM.ckB (L c) = false) := by
          unfold EM.ckB
          by_cases g3 : L c = [102]
          · right; right; left; exact ⟨by rw [g3]; rfl, g3, decide_eq_true (.inl g3)⟩
          · by_cases g1 : (L c).headD 0 = 99
            · left; exact ⟨g1, g3, decide_eq_true (.inr (.inl g1))⟩
            · by_cases g2 : (L c).headD 0 = 112
              · right; left; exact ⟨g2, g3, decide_eq_true (.inr (.inr g2))⟩
              · right; right; right; exact ⟨g1, g2, g3, decide_eq_false (by rintro (g | g | g); exact g3 g; exact g1 g; exact g2 g)⟩
        have p1 := hkt 99; have p2 := hkt 112; have p3 := hkt 102
        have q1 := hkT 99; have q2 := hkT 112; have q3 := hkT 102
        clear hH hT hkt hkT
        generalize EM.ckB (L c) = kb at *
        generalize WM.intE (L c).tail = ie at *
        generalize WM.intN (L c).tail = inn at *
        go_wp2_with fail
        refine (C8.out _).mono ?_
        rintro e w2 ⟨rfl, rfl⟩
        rcases hkc with ⟨g1, g3, rfl⟩ | ⟨g1, g3, rfl⟩ | ⟨g1, g3, rfl⟩ | ⟨g1, g2, g3, rfl⟩
        · have HK : Hid ((if (L c).headD 0 = 99 then (2 : Int) else 3) = 2) := Lib.hid (if_pos g1)
          have KK7 := Lib.hid (fun h => K7'.out (by trivial) h g3); have KK8 := Lib.hid (fun h => K8'.out (by trivial) h g3); have KK9 := Lib.hid (fun h => K9'.out (by trivial) h g3); have KK5 := Lib.hid (K5'.out (by trivial))
          rw [HK.out] at KK9
          rw [g1] at p1 p2 p3 q1 q2 q3
          simp only [g3] at hcf hcF
          clear K5' K6' K7' K8' K9' K2 g1 g3 HK
          simp only [show ((99 : UInt8) = 112) = False from by decide, show ((99 : UInt8) = 102) = False from by decide, decide_true, decide_false] at p1 p2 p3 q1 q2 q3
          simp only [decide_false] at hcf
          go_wp2_with fail
          refine (C8.out _).mono ?_
          rintro e w2 ⟨rfl, rfl⟩
          go_wp2_with fail
          refine (CO.out _ _ _ (by first | rfl | omega) (by first | rfl | omega) (by first | rfl | omega) _).mono ?_
          rintro e w2 ⟨rfl, rfl⟩
          by_cases hoe : oe = 0
          · subst hoe
            go_wp2_with fail
            refine (CI.out _).mono ?_
            rintro e w2 ⟨rfl, rfl⟩
            by_cases hie : ie = 0
            · subst hie
              by_cases hin : -16777216 ≤ inn ∧ inn ≤ 16777216
              · have HX := Lib.hid (KK9.out (by trivial) (by trivial) hin)
                have i1 : ¬ inn < -16777216 := by omega
                have i2 : ¬ 16777216 < inn := by omega
                clear hin KK5 KK7 KK8 KK9
                go_wp2_with fail
                (try simp only [Exit.inBlock, Exit.then])
                refine bodyPost_ret (results_ser rfl _ _ _ _ rfl (HP1.out.put ⟨a, 2, on, inn⟩)) rfl ⟨?_, SBox.put_below HB1.out (Nat.le_refl _) ⟨a, 2, on, inn⟩⟩
                rw [HX.out.1, HX.out.2]; rfl
              · have HX := Lib.hid (KK8.out (by trivial) (by trivial) hin)
                have hin' : inn < -16777216 ∨ (¬ inn < -16777216 ∧ 16777216 < inn) := by omega
                clear hin KK5 KK7 KK8 KK9
                rcases hin' with i1 | ⟨i1, i2⟩
                all_goals (
                  go_wp2_with fail
                  (try simp only [Exit.inBlock, Exit.then])
                  refine bodyPost_ret (results_ser rfl _ _ _ _ rfl (HP1.out.put EM.zero)) rfl ⟨?_, SBox.put_below HB1.out (Nat.le_refl _) EM.zero⟩
                  rw [HX.out.1, HX.out.2]; rfl)
            · have HX := Lib.hid (KK7.out (by trivial) hie)
              have hieb : (ie != 0) = true := by simpa using hie
              clear KK5 KK7 KK8 KK9
              go_wp2_with fail
              (try simp only [Exit.inBlock, Exit.then])
              refine bodyPost_ret (results_ser rfl _ _ _ _ rfl (HP1.out.put EM.zero)) rfl ⟨?_, SBox.put_below HB1.out (Nat.le_refl _) EM.zero⟩
              rw [HX.out.1, HX.out.2]; rfl
          · have HX := Lib.hid (KK5.out hoe)
            have hoeb : (oe != 0) = true := by simpa using hoe
            clear KK5 KK7 KK8 KK9
            go_wp2_with fail
            (try simp only [Exit.inBlock, Exit.then])
            refine bodyPost_ret (results_ser rfl _ _ _ _ rfl (HP1.out.put EM.zero)) rfl ⟨?_, SBox.put_below HB1.out (Nat.le_refl _) EM.zero⟩
            rw [HX.out.1, HX.out.2]; rfl
        · have HK : Hid ((if (L c).headD 0 = 99 then (2 : Int) else 3) = 3) := Lib.hid (if_neg (by rw [g1]; decide))
          have KK7 := Lib.hid (fun h => K7'.out (by trivial) h g3); have KK8 := Lib.hid (fun h => K8'.out (by trivial) h g3); have KK9 := Lib.hid (fun h => K9'.out (by trivial) h g3); have KK5 := Lib.hid (K5'.out (by trivial))
          rw [HK.out] at KK9
          rw [g1] at p1 p2 p3 q1 q2 q3
          simp only [g3] at hcf hcF
          clear K5' K6' K7' K8' K9' K2 g1 g3 HK
          simp only [show ((112 : UInt8) = 99) = False from by decide, show ((112 : UInt8) = 102) = False from by decide, decide_true, decide_false] at p1 p2 p3 q1 q2 q3
          simp only [decide_false] at hcf
          go_wp2_with fail
          refine (C8.out _).mono ?_
          rintro e w2 ⟨rfl, rfl⟩
          go_wp2_with fail
          refine (CO.out _ _ _ (by first | rfl | omega) (by first | rfl | omega) (by first | rfl | omega) _).mono ?_
          rintro e w2 ⟨rfl, rfl⟩
          by_cases hoe : oe = 0
          · subst hoe
            go_wp2_with fail
            refine (CI.out _).mono ?_
            rintro e w2 ⟨rfl, rfl⟩
            by_cases hie : ie = 0
            · subst hie
              by_cases hin : -16777216 ≤ inn ∧ inn ≤ 16777216
              · have HX := Lib.hid (KK9.out (by trivial) (by trivial) hin)
                have i1 : ¬ inn < -16777216 := by omega
                have i2 : ¬ 16777216 < inn := by omega
                clear hin KK5 KK7 KK8 KK9
                go_wp2_with fail
                (try simp only [Exit.inBlock, Exit.then])
                refine bodyPost_ret (results_ser rfl _ _ _ _ rfl (HP1.out.put ⟨a, 3, on, inn⟩)) rfl ⟨?_, SBox.put_below HB1.out (Nat.le_refl _) ⟨a, 3, on, inn⟩⟩
                rw [HX.out.1, HX.out.2]; rfl
              · have HX := Lib.hid (KK8.out (by trivial) (by trivial) hin)
                have hin' : inn < -16777216 ∨ (¬ inn < -16777216 ∧ 16777216 < inn) := by omega
                clear hin KK5 KK7 KK8 KK9
                rcases hin' with i1 | ⟨i1, i2⟩
                all_goals (
                  go_wp2_with fail
                  (try simp only [Exit.inBlock, Exit.then])
                  refine bodyPost_ret (results_ser rfl _ _ _ _ rfl (HP1.out.put EM.zero)) rfl ⟨?_, SBox.put_below HB1.out (Nat.le_refl _) EM.zero⟩
                  rw [HX.out.1, HX.out.2]; rfl)
            · have HX := Lib.hid (KK7.out (by trivial) hie)
              have hieb : (ie != 0) = true := by simpa using hie
              clear KK5 KK7 KK8 KK9
              go_wp2_with fail
              (try simp only [Exit.inBlock, Exit.then])
              refine bodyPost_ret (results_ser rfl _ _ _ _ rfl (HP1.out.put EM.zero)) rfl ⟨?_, SBox.put_below HB1.out (Nat.le_refl _) EM.zero⟩
              rw [HX.out.1, HX.out.2]; rfl
          · have HX := Lib.hid (KK5.out hoe)
            have hoeb : (oe != 0) = true := by simpa using hoe
            clear KK5 KK7 KK8 KK9
            go_wp2_with fail
            (try simp only [Exit.inBlock, Exit.then])
            refine bodyPost_ret (results_ser rfl _ _ _ _ rfl (HP1.out.put EM.zero)) rfl ⟨?_, SBox.put_below HB1.out (Nat.le_refl _) EM.zero⟩
            rw [HX.out.1, HX.out.2]; rfl
        · have KK6 := Lib.hid (fun h => K6'.out (by trivial) h g3); have KK5 := Lib.hid (K5'.out (by trivial))
          rw [g1] at p1 p2 p3 q1 q2 q3
          simp only [g3] at hcf hcF
          clear K5' K6' K7' K8' K9' K2 g1 g3
          simp only [show ((102 : UInt8) = 99) = False from by decide, show ((102 : UInt8) = 112) = False from by decide, decide_true, decide_false] at p1 p2 p3 q1 q2 q3
          simp only [decide_true] at hcf
          go_wp2_with fail
          refine (C8.out _).mono ?_
          rintro e w2 ⟨rfl, rfl⟩
          go_wp2_with fail
          refine (CO.out _ _ _ (by first | rfl | omega) (by first | rfl | omega) (by first | rfl | omega) _).mono ?_
          rintro e w2 ⟨rfl, rfl⟩
          by_cases hoe : oe = 0
          · subst hoe
            have HX := Lib.hid (KK6.out (by trivial))
            clear KK5 KK6
            go_wp2_with fail
            (try simp only [Exit.inBlock, Exit.then])
            refine bodyPost_ret (results_ser rfl _ _ _ _ rfl (HP1.out.put ⟨a, 1, on, 0⟩)) rfl ⟨?_, SBox.put_below HB1.out (Nat.le_refl _) ⟨a, 1, on, 0⟩⟩
            rw [HX.out.1, HX.out.2]; rfl
          · have HX := Lib.hid (KK5.out hoe)
            have hoeb : (oe != 0) = true := by simpa using hoe
            clear KK5 KK6
            go_wp2_with fail
            (try simp only [Exit.inBlock, Exit.then])
            refine bodyPost_ret (results_ser rfl _ _ _ _ rfl (HP1.out.put EM.zero)) rfl ⟨?_, SBox.put_below HB1.out (Nat.le_refl _) EM.zero⟩
            rw [HX.out.1, HX.out.2]; rfl
        · have HX := Lib.hid (K2.out (by trivial))
          simp only [g1, g2, g3] at p1 p2 q1 q2 hcf hcF
          simp only [decide_false] at p1 p2 hcf
          clear K5' K6' K7' K8' K9' K2 g1 g2 g3 p3 q3
          go_wp2_with fail
          (try simp only [Exit.inBlock, Exit.then])
          refine bodyPost_ret (results_ser rfl _ _ _ _ rfl (HP1.out.put EM.zero)) rfl ⟨?_, SBox.put_below HB1.out (Nat.le_refl _) EM.zero⟩
          rw [HX.out.1, HX.out.2]; rfl
      · have HX := Lib.hid (K2.out (by
          have : L c = [] := List.eq_nil_of_length_eq_zero (by rw [L_len]; omega)
          rw [this]; decide))
        have hcl : (c.size : Int) < 1 := by omega
        clear K5' K6' K7' K8' K9' K2
        go_wp2_with fail
        refine (C8.out _).mono ?_
        rintro e w2 ⟨rfl, rfl⟩
        go_wp2_with fail
        (try simp only [Exit.inBlock, Exit.then])
        refine bodyPost_ret (results_ser rfl _ _ _ _ rfl (HP1.out.put EM.zero)) rfl ⟨?_, SBox.put_below HB1.out (Nat.le_refl _) EM.zero⟩
        rw [HX.out.1, HX.out.2]; rfl
    · have HX := Lib.hid (K4.out (by rw [L_len]; omega))
      have h8i : ¬ (b.size : Int) = 8 := by omega
      have h8b : ((b.size : Int) != 8) = true := by simpa using h8i
      go_wp2_with fail
      (try simp only [Exit.inBlock, Exit.then])
      refine bodyPost_ret (results_ser rfl _ _ _ _ rfl (HP1.out.put EM.zero)) rfl ⟨?_, SBox.put_below HB1.out (Nat.le_refl _) EM.zero⟩
      rw [HX.out.1, HX.out.2]; rfl
  · have HX := Lib.hid (KL.out (by have := HLS.out; rw [← this, List.length_map]; exact h3))
    have h3i : ¬ (ls.length : Int) = 3 := by omega
    have h3b : ((ls.length : Int) != 3) = true := by simpa using h3i
    go_wp2_with fail
    (try simp only [Exit.inBlock, Exit.then])
    refine bodyPost_ret (results_ser rfl _ _ _ _ rfl (HP1.out.put EM.zero)) rfl ⟨?_, SBox.put_below HB1.out (Nat.le_refl _) EM.zero⟩
    rw [HX.out.1, HX.out.2]; rfl
end Go.Proofs.YtiohainnpjikpaaDoor

namespace Go.Proofs.YtiohainnpjikpaaDoor.seriesTexts
open Go.RowKit Go.Recs
set_option linter.unusedVariables false

set_option maxRecDepth 100000 in
set_option maxHeartbeats 8000000 in
theorem walk (s : EM.Ser) (t : ByteArray) (w : World) (hs : serQ s ∧ s.prod.size ≤ 140737488351232) (ht : t.size ≤ 140737488351232) (hm : ML w) :
    Calls Tryd.prog 4 #[serA s, .string t] w fun e w' => e = .returned (.bool true) ∧ Below w.heap.size w w' := by
  obtain ⟨hs, hs0⟩ := hs
  have HB0 := Lib.hid ((Below.refl w.heap.size w).alloc (Nat.le_refl _) (.cells #[.string s.prod, .int .i64 s.kind, .int .i64 s.expiry, .int .i64 s.strike] 24))
  have HS0 := Lib.hid (SBox.new w s)
  have HM0 := Lib.hid (hm.below HB0.out)
  have CG := Lib.hid (fun ww h => goes10_any ww h)
  clear hm
  by_cases hl : 300 < t.size ∨ 300 < s.prod.size
  · have hl' : 300 < (t.size : Int) ∨ (¬ 300 < (t.size : Int) ∧ 300 < (s.prod.size : Int)) := by omega
    clear hl hs hs0 ht
    rcases hl' with l1 | ⟨l1, l2⟩
    all_goals (
      go_enter Tryd.func4, Tryd.ntmps4
      go_wp2_with fail
      refine (CG.out _ HM0.out).mono ?_
      rintro e w1 ⟨rfl, b1⟩
      have HB1 := Lib.hid (HB0.out.trans (b1.mono HB0.out.size))
      clear b1 HB0 HM0 HS0
      go_wp2_with fail
      go_ret
      exact ⟨rfl, HB1.out⟩)
  have ht3 : t.size ≤ 300 := by omega
  have hs3 : s.prod.size ≤ 300 := by omega
  have l1 : ¬ 300 < (t.size : Int) := by omega
  have l2 : ¬ 300 < (s.prod.size : Int) := by omega
  have C1 := Lib.hid (fun ww h => eparse_any t ww ht3 h)
  have C2 := Lib.hid (fun ww => rparse10_any t ww ht3)
  have C3 := Lib.hid (fun ww h => eprint_any s ww hs hs3 h)
  have C4 := Lib.hid (fun ww => rprint10_any s ww hs hs3)
  generalize EM.parE (L t) = pe at *
  generalize EM.parN (L t) = x at *
  generalize S (EM.printL s) = p at *
  have E1 : ∀ ww, (Op.equalIn 10000 24 (serA x) (serA x)).run Tryd.prog ww = .ok true ww := fun ww => by rw [ser_in, seq_iff.2 rfl]
  have hgd := ser_guard
  clear hl hs hs0 ht ht3 hs3
  go_enter Tryd.func4, Tryd.ntmps4
  go_wp2_with fail
  generalize w.alloc (.cells #[.string s.prod, .int .i64 s.kind, .int .i64 s.expiry, .int .i64 s.strike] 24) = w0 at *
  refine (C1.out _ HM0.out).mono ?_
  rintro e w1 ⟨rfl, b1⟩
  have HS1 := Lib.hid (HS0.out.below b1 HS0.out.lt)
  have HM1 := Lib.hid (HM0.out.below b1)
  have HB1 := Lib.hid (HB0.out.trans (b1.mono HB0.out.size))
  have HB2 := Lib.hid (HB1.out.alloc HB1.out.size (.cells #[.string x.prod, .int .i64 x.kind, .int .i64 x.expiry, .int .i64 x.strike] 24))
  have HS2 := Lib.hid (HS1.out.alloc (.cells #[.string x.prod, .int .i64 x.kind, .int .i64 x.expiry, .int .i64 x.strike] 24))
  have HM2 := Lib.hid (HM1.out.below ((Below.refl _ _).alloc (Nat.le_refl _) (.cells #[.string x.prod, .int .i64 x.kind, .int .i64 x.expiry, .int .i64 x.strike] 24)))
  have HX2 := Lib.hid (SBox.new w1 x)
  clear b1 HB0 HS0 HS1 HB1 HM0 HM1 C1
  go_wp2_with fail
  generalize w1.alloc (.cells #[.string x.prod, .int .i64 x.kind, .int .i64 x.expiry, .int .i64 x.strike] 24) = w2 at *
  refine (C2.out _).mono ?_
  rintro e w3 ⟨rfl, b3⟩
  have HS3 := Lib.hid (HS2.out.below b3 HS2.out.lt)
  have HX3 := Lib.hid (HX2.out.below b3 HX2.out.lt)
  have HM3 := Lib.hid (HM2.out.below b3)
  have HB3 := Lib.hid (HB2.out.trans (b3.mono HB2.out.size))
  have HBL := Lib.hid (HB3.out.alloc HB3.out.size (.cells #[.string x.prod, .int .i64 x.kind, .int .i64 x.expiry, .int .i64 x.strike] 24))
  have HS4 := Lib.hid (HS3.out.alloc (.cells #[.string x.prod, .int .i64 x.kind, .int .i64 x.expiry, .int .i64 x.strike] 24))
  have HX4 := Lib.hid (HX3.out.alloc (.cells #[.string x.prod, .int .i64 x.kind, .int .i64 x.expiry, .int .i64 x.strike] 24))
  have HM4 := Lib.hid (HM3.out.below ((Below.refl _ _).alloc (Nat.le_refl _) (.cells #[.string x.prod, .int .i64 x.kind, .int .i64 x.expiry, .int .i64 x.strike] 24)))
  have HY4 := Lib.hid (SBox.new w3 x)
  clear b3 HB2 HS2 HX2 HS3 HX3 HB3 HM2 HM3 C2
  go_wp2_with fail
  generalize w3.alloc (.cells #[.string x.prod, .int .i64 x.kind, .int .i64 x.expiry, .int .i64 x.strike] 24) = w4 at *
  have HSF : Hid (∀ ww, Below w4.heap.size w4 ww → (ww.cell? ⟨w.heap.size, 0, none⟩ = some (.string s.prod) ∧ ww.cell? ⟨w.heap.size, 1, none⟩ = some (.int .i64 s.kind) ∧ ww.cell? ⟨w.heap.size, 2, none⟩ = some (.int .i64 s.expiry) ∧ ww.cell? ⟨w.heap.size, 3, none⟩ = some (.int .i64 s.strike)) ∧ (ww.cell? ⟨w1.heap.size, 0, none⟩ = some (.string x.prod) ∧ ww.cell? ⟨w1.heap.size, 1, none⟩ = some (.int .i64 x.kind) ∧ ww.cell? ⟨w1.heap.size, 2, none⟩ = some (.int .i64 x.expiry) ∧ ww.cell? ⟨w1.heap.size, 3, none⟩ = some (.int .i64 x.strike)) ∧ (ww.cell? ⟨w3.heap.size, 0, none⟩ = some (.string x.prod) ∧ ww.cell? ⟨w3.heap.size, 1, none⟩ = some (.int .i64 x.kind) ∧ ww.cell? ⟨w3.heap.size, 2, none⟩ = some (.int .i64 x.expiry) ∧ ww.cell? ⟨w3.heap.size, 3, none⟩ = some (.int .i64 x.strike))) := Lib.hid (fun ww h => ⟨(HS4.out.below h HS4.out.lt).cells, (HX4.out.below h HX4.out.lt).cells, (HY4.out.below h HY4.out.lt).cells⟩)
  have HBw : Hid (Below w4.heap.size w4 w4.drew) := Lib.hid (Below.refl _ _).drew
  clear HS4 HX4 HY4
  go_region_held3 (fun ww => (ww.cell? ⟨w.heap.size, 0, none⟩ = some (.string s.prod) ∧ ww.cell? ⟨w.heap.size, 1, none⟩ = some (.int .i64 s.kind) ∧ ww.cell? ⟨w.heap.size, 2, none⟩ = some (.int .i64 s.expiry) ∧ ww.cell? ⟨w.heap.size, 3, none⟩ = some (.int .i64 s.strike)) ∧ (ww.cell? ⟨w1.heap.size, 0, none⟩ = some (.string x.prod) ∧ ww.cell? ⟨w1.heap.size, 1, none⟩ = some (.int .i64 x.kind) ∧ ww.cell? ⟨w1.heap.size, 2, none⟩ = some (.int .i64 x.expiry) ∧ ww.cell? ⟨w1.heap.size, 3, none⟩ = some (.int .i64 x.strike)) ∧ (ww.cell? ⟨w3.heap.size, 0, none⟩ = some (.string x.prod) ∧ ww.cell? ⟨w3.heap.size, 1, none⟩ = some (.int .i64 x.kind) ∧ ww.cell? ⟨w3.heap.size, 2, none⟩ = some (.int .i64 x.expiry) ∧ ww.cell? ⟨w3.heap.size, 3, none⟩ = some (.int .i64 x.strike)))
    (exact HSF.out _ HBw.out)
    (first
      | (go_at_call 13; refine (C3.out _ (HM4.out.below HBw.out)).mono ?_; rintro e w6 ⟨rfl, b6⟩; replace HBw := Lib.hid (HBw.out.trans (b6.mono HBw.out.size)); clear b6)
      | (go_at_call 14; refine (C4.out _).mono ?_; rintro e w6 ⟨rfl, b6⟩; replace HBw := Lib.hid (HBw.out.trans (b6.mono HBw.out.size)); clear b6)
      | (go_at_call 8; refine (CG.out _ (HM4.out.below HBw.out)).mono ?_; rintro e w6 ⟨rfl, b6⟩; replace HBw := Lib.hid (HBw.out.trans (b6.mono HBw.out.size)); clear b6))
  all_goals (
    clear HSF
    have HBF := Lib.hid (HBL.out.trans (HBw.out.mono HBL.out.size))
    go_wp2_with fail
    go_ret
    exact ⟨rfl, HBF.out⟩)
end Go.Proofs.YtiohainnpjikpaaDoor.seriesTexts

/- What the reach says of a text that opens a record, over any program. -/
namespace Go.Recs
open Go.ChangeShapes Go.WideShapes Go.RowKit Go.Deep
set_option linter.unusedVariables false
theorem first_sized {H : Type} {enc : TypeId × Value → H} {P : Program} {W : World} {base : Nat} {spare : Nat → Bool} {held : Bool} {T : TypeId} {cs : Array Value} {d : DataW H} {p : List MemPlace} {fs : Array Field} {f : Field} {s : ByteArray}
    {ts : List TypeId} {ds : List (DataW H)} {j : Nat}
    (h : (DataW.weightsEach P ts ds).all (· ≤ reachBytes) = true) (ht : ts[j]? = some T) (hd : ds[j]? = some d)
    (hT : DataW.Trod enc P W base spare held T (.agg cs) d p) (hu : P.underlying T = some (.struct fs)) (hf : fs[0]? = some f) (ho : f.offset = 0) (hs : P.underlying f.type = some .string) (hc : P.cellsOf f.type = 1) (hcs : cs[0]? = some (.string s)) :
    s.size ≤ 140737488351232 := by
  obtain ⟨fuel, hx⟩ := hT
  obtain ⟨xs, n, _, hxd, _, hxl, hfl⟩ := DataW.trod_struct hu hx
  have h0 := hfl 0 f hf
  have hpos : 0 < xs.length := by
    rw [hxl]
    rcases Nat.eq_zero_or_pos fs.size with e | e
    · rw [Array.getElem?_eq_none (by omega)] at hf; cases hf
    · exact e
  rw [List.getElem?_eq_getElem hpos] at h0
  obtain ⟨t, ht0, hx0, _⟩ := DataW.trod_string hs h0
  rw [ho, hc, List.drop_zero] at ht0
  have ets : t = s := by
    have e1 : (Value.agg cs).cells.toList.take 1 = [Value.string t] := ht0
    have e2 : (Value.agg cs).cells.toList[0]? = some (Value.string s) := by simpa [Value.cells] using hcs
    cases hl : (Value.agg cs).cells.toList with
    | nil => rw [hl] at e2; cases e2
    | cons a r => rw [hl] at e1 e2; simp at e1 e2; rw [e1] at e2; injection e2
  subst ets
  injection hxd with hd1 _
  have hw : t.data.toList.length ∈ d.weights P T := by
    rw [hd1]
    simp only [DataW.weights, hu]
    have hm := DataW.weights_mem_each (P := P) (ts := fs.toList.map (·.type)) (ds := xs.map (·.1)) (j := 0) (t := f.type) (d := xs[0].1) (by rw [List.getElem?_map, Array.getElem?_toList, hf]; rfl) (by rw [List.getElem?_map, List.getElem?_eq_getElem hpos]; rfl) t.data.toList.length
    apply hm
    rw [hx0]
    simp [DataW.weights]
  have := List.all_eq_true.1 h _ (DataW.weights_mem_each ht hd _ hw)
  have e : t.data.toList.length = t.size := Array.length_toList
  rw [e] at this
  have hr : reachBytes = 140737488351232 := by decide
  rw [← hr]
  simpa using this
end Go.Recs

/- A law's arguments: products and series, by value and in slices. -/
namespace Go.Proofs.YtiohainnpjikpaaDoor
open Go.ChangeShapes Go.WideShapes Go.ChangeAt Go.RowKit Go.Recs
set_option linter.unusedVariables false
set_option maxRecDepth 100000

theorem prod_leafs : leafs Tryd.prog 2 29 = some prodL := by kernel_rfl
theorem ser_leafs : leafs Tryd.prog 2 24 = some serL := by kernel_rfl
theorem open_prodT {H : Type} {enc : TypeId × Value → H} {W : World} {base b0 : Nat} {spare : Nat → Bool} {held : Bool} {r : Reach} {v : Value} {d : DataW H} {p : List MemPlace}
    (hv : Value.okWide Tryd.prog W r b0 22 v) (h : DataW.Trod enc Tryd.prog W base spare held 22 v d p) :
    ∃ A cap, ∃ l : List QM.Prod, v = .slice A l.length cap ∧ (Prods W A l ∧ l.length ≤ cap) ∧ True := by
  obtain ⟨A, cap, rows, rfl, hR, hk, hc⟩ := open_recs (n := 2) (sz := 7) Tryd.underlying22 prod_leafs (by kernel_rfl) rfl (by omega) hv h
  obtain ⟨l, rfl, hq⟩ := typed (ls := prodL) prodV _ prod_row rows hk
  rw [List.length_map] at hc ⊢
  exact ⟨A, cap, l, rfl, ⟨⟨hR, hq⟩, hc⟩, trivial⟩
theorem open_serT {H : Type} {enc : TypeId × Value → H} {W : World} {base b0 : Nat} {spare : Nat → Bool} {held : Bool} {r : Reach} {v : Value} {d : DataW H} {p : List MemPlace}
    (hv : Value.okWide Tryd.prog W r b0 41 v) (h : DataW.Trod enc Tryd.prog W base spare held 41 v d p) :
    ∃ A cap, ∃ l : List EM.Ser, v = .slice A l.length cap ∧ (Sers W A l ∧ l.length ≤ cap) ∧ True := by
  obtain ⟨A, cap, rows, rfl, hR, hk, hc⟩ := open_recs (n := 2) (sz := 4) Tryd.underlying41 ser_leafs (by kernel_rfl) rfl (by omega) hv h
  obtain ⟨l, rfl, hq⟩ := typed (ls := serL) serV _ ser_row rows hk
  rw [List.length_map] at hc ⊢
  exact ⟨A, cap, l, rfl, ⟨⟨hR, hq⟩, hc⟩, trivial⟩
theorem open_prodV {H : Type} {enc : TypeId × Value → H} {W : World} {base b0 : Nat} {spare : Nat → Bool} {held : Bool} {r : Reach} {v : Value} {d : DataW H} {p : List MemPlace}
    (hv : Value.okWide Tryd.prog W r b0 29 v) (h : DataW.Trod enc Tryd.prog W base spare held 29 v d p) :
    ∃ x : QM.Prod, v = .agg #[.string x.name, .int .i64 x.cur, .int .i64 x.mult, .int .i64 x.tick, .int .i64 x.low, .int .i64 x.high, .bool x.phys] ∧ prodQ x := by
  obtain ⟨cs, rfl, hk⟩ := open_rec (n := 2) Tryd.underlying29 prod_leafs (by kernel_rfl) hv h
  obtain ⟨x, rfl, hq⟩ := prod_row cs hk
  exact ⟨x, rfl, hq⟩
theorem open_serV {H : Type} {enc : TypeId × Value → H} {W : World} {base b0 : Nat} {spare : Nat → Bool} {held : Bool} {r : Reach} {v : Value} {d : DataW H} {p : List MemPlace}
    (hv : Value.okWide Tryd.prog W r b0 24 v) (h : DataW.Trod enc Tryd.prog W base spare held 24 v d p) :
    ∃ x : EM.Ser, v = .agg #[.string x.prod, .int .i64 x.kind, .int .i64 x.expiry, .int .i64 x.strike] ∧ serQ x := by
  obtain ⟨cs, rfl, hk⟩ := open_rec (n := 2) Tryd.underlying24 ser_leafs (by kernel_rfl) hv h
  obtain ⟨x, rfl, hq⟩ := ser_row cs hk
  exact ⟨x, rfl, hq⟩
theorem prod_sized {H : Type} {enc : TypeId × Value → H} {W : World} {base : Nat} {spare : Nat → Bool} {held : Bool} {x : QM.Prod} {d : DataW H} {p : List MemPlace} {ts : List TypeId} {ds : List (DataW H)} {j : Nat}
    (h : (DataW.weightsEach Tryd.prog ts ds).all (· ≤ reachBytes) = true) (ht : ts[j]? = some 29) (hd : ds[j]? = some d)
    (hT : DataW.Trod enc Tryd.prog W base spare held 29 (.agg #[.string x.name, .int .i64 x.cur, .int .i64 x.mult, .int .i64 x.tick, .int .i64 x.low, .int .i64 x.high, .bool x.phys]) d p) : x.name.size ≤ 140737488351232 :=
  first_sized (cs := #[.string x.name, .int .i64 x.cur, .int .i64 x.mult, .int .i64 x.tick, .int .i64 x.low, .int .i64 x.high, .bool x.phys]) h ht hd hT Tryd.underlying29 rfl rfl Tryd.underlying9 (by kernel_rfl) rfl
theorem ser_sized {H : Type} {enc : TypeId × Value → H} {W : World} {base : Nat} {spare : Nat → Bool} {held : Bool} {x : EM.Ser} {d : DataW H} {p : List MemPlace} {ts : List TypeId} {ds : List (DataW H)} {j : Nat}
    (h : (DataW.weightsEach Tryd.prog ts ds).all (· ≤ reachBytes) = true) (ht : ts[j]? = some 24) (hd : ds[j]? = some d)
    (hT : DataW.Trod enc Tryd.prog W base spare held 24 (.agg #[.string x.prod, .int .i64 x.kind, .int .i64 x.expiry, .int .i64 x.strike]) d p) : x.prod.size ≤ 140737488351232 :=
  first_sized (cs := #[.string x.prod, .int .i64 x.kind, .int .i64 x.expiry, .int .i64 x.strike]) h ht hd hT Tryd.underlying24 rfl rfl Tryd.underlying9 (by kernel_rfl) rfl
end Go.Proofs.YtiohainnpjikpaaDoor
