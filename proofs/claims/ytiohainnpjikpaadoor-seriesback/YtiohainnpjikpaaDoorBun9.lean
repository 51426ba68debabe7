/- Put together: SerD, SerE, SerF, SerG. -/
import Derived.Test.YtiohainnpjikpaaDoorBun4
import Derived.Test.YtiohainnpjikpaaDoorBun5
import Derived.Test.YtiohainnpjikpaaDoorBun7
import Derived.Test.YtiohainnpjikpaaDoorBun8
import Derived.Test.YtiohainnpjikpaaDoorBun2
/- Layer 10: Print, and the pieces of Parse. -/
namespace Go.Proofs.YtiohainnpjikpaaDoor
open Go.RowKit Go.Recs Go.Shelf
set_option linter.unusedVariables false
set_option linter.unusedSimpArgs false

/-- internal/bytealg.MaxLen holds a number -/
def ML (w : World) : Prop := ∃ m, w.cell? ⟨Tryd.lays155_ren.g 1, 0, none⟩ = some (.int .i64 m)
theorem ML.below {w w' : World} (h : ML w) (hb : Below w.heap.size w w') : ML w' := by
  obtain ⟨m, hm⟩ := h
  exact ⟨m, (hb.cell (World.block_lt_of_cell? _ _ hm)).trans hm⟩
theorem ML.drew {w : World} (h : ML w) : ML w.drew := h
theorem strokes_any (y m d : Int) (w : World) (hm : ML w) :
    Calls Tryd.prog 38 #[.string (S (DM.dateL y m d)), .string ⟨#[45]⟩, .string ⟨#[]⟩] w fun e w' => e = .returned (.string (S (EM.d8 y m d))) ∧ Below w.heap.size w w' := by
  obtain ⟨mm, hmm⟩ := hm
  have hz : (S (DM.dateL y m d)).size = 10 := rfl
  have hc : Lib.countB (S (DM.dateL y m d)) ⟨#[45]⟩ * (⟨#[]⟩ : ByteArray).size = 0 := by show _ * 0 = 0; omega
  have := Any.strings_ReplaceAll Tryd.lays155 Tryd.extra155 (S (DM.dateL y m d)) ⟨#[45]⟩ ⟨#[]⟩ mm w (by omega) hmm (by decide) (by rw [hc]; omega)
  have e : (⟨(Lib.replaceAll (S (DM.dateL y m d)).data.toList (⟨#[45]⟩ : ByteArray).data.toList (⟨#[]⟩ : ByteArray).data.toList).toArray⟩ : ByteArray) = S (EM.d8 y m d) := by
    show S (Lib.replaceAll (L (S (DM.dateL y m d))) [45] []) = _
    rw [L_S, EM.strokes]
  rw [e] at this
  exact this
theorem split4_any (s : ByteArray) (w : World) (hm : ML w) (hs : s.size < 4294967281) :
    Calls Tryd.prog 28 #[.string s, .string ⟨#[46]⟩, .int .i64 4] w fun e w' => ∃ A cap ls, e = .returned (.slice A (List.length ls) cap) ∧ Strs w' A ls ∧ Below w.heap.size w w' ∧
      ((ls.length = 3 ↔ (WM.pieces 46 (L s)).length = 3) ∧ ((WM.pieces 46 (L s)).length = 3 → ls.map L = WM.pieces 46 (L s))) := by
  obtain ⟨mm, hmm⟩ := hm
  have := Any.strings_SplitN Tryd.lays147 Tryd.hi147 s ⟨#[46]⟩ 4 mm w hs hmm (by decide) (by omega) (by omega)
  have hd := Lib.splitB_data ⟨#[46]⟩ 0 (min 4 (s.size + 1) - 1) s
  obtain ⟨q1, q2, q3⟩ := EM.split_three 46 (L s)
  rw [L_len] at q1 q2 q3
  have hd' : (Lib.splitB ⟨#[46]⟩ 0 (min 4 (s.size + 1) - 1) s).map L = Lib.splitK [46] 0 (min 4 (s.size + 1) - 1) (L s) := hd
  have hl : (Lib.splitB ⟨#[46]⟩ 0 (min 4 (s.size + 1) - 1) s).length = (Lib.splitK [46] 0 (min 4 (s.size + 1) - 1) (L s)).length := by rw [← hd', List.length_map]
  refine this.mono fun e w' ⟨he, hw⟩ => ⟨_, _, _, he, ?_, ?_, ?_, ?_⟩
  · subst hw
    have hle : (Lib.splitB ⟨#[46]⟩ 0 (min 4 (s.size + 1) - 1) s).length ≤ min 4 (s.size + 1) := by rw [hl]; exact q3
    refine ⟨⟨by rw [List.length_map]; unfold maxLen; omega, .inr ⟨w.heap.size, 0, rfl, by simp, fun i hi => ?_⟩⟩, ?_⟩
    · rw [List.length_map] at hi
      rw [World.cell?_alloc_at _ _ _ _ rfl, Nat.zero_add]
      unfold Lib.cellsOf
      rw [List.getElem?_toArray, List.getElem?_append_left (by rw [List.length_map]; exact hi), List.getElem?_eq_getElem (by rw [List.length_map]; exact hi)]
    · intro x hx
      have hx2 : L x ∈ Lib.splitK [46] 0 (min 4 (s.size + 1) - 1) (L s) := by rw [← hd']; exact List.mem_map_of_mem hx
      have key : ∀ (k : Nat) (l p : List UInt8), p ∈ Lib.splitK [46] 0 k l → p.length ≤ l.length := by
        intro k
        induction k with
        | zero => intro l p hp; rw [Lib.splitK, List.mem_singleton] at hp; rw [hp]; exact Nat.le_refl _
        | succ k ih =>
          intro l p hp
          rw [Lib.splitK] at hp
          split at hp
          · rw [List.mem_singleton] at hp; rw [hp]; exact Nat.le_refl _
          · rcases List.mem_cons.1 hp with rfl | hp
            · simp; omega
            · have := ih _ _ hp
              rw [List.length_drop] at this; omega
      have := key _ _ _ hx2
      rw [L_len, L_len] at this
      unfold maxLen; omega
  · subst hw
    exact (Below.refl w.heap.size w).alloc (Nat.le_refl _) _
  · rw [hl]; exact q1
  · intro h3
    rw [hd']; exact q2 h3
def letB (k : Int) : ByteArray := if k = 1 then ⟨#[102]⟩ else if k = 2 then ⟨#[99]⟩ else if k = 3 then ⟨#[112]⟩ else ⟨#[]⟩
theorem letter_any (k : Int) (w : World) : Calls Tryd.prog 23 #[.int .i64 k] w fun e w' => e = .returned (.string (letB k)) ∧ w' = w := by
  unfold letB
  by_cases h1 : k = 1
  · subst h1
    go_enter Tryd.func23, Tryd.ntmps23
    go_wp2
    go_ret
    exact ⟨rfl, rfl⟩
  · rw [if_neg h1]
    by_cases h2 : k = 2
    · subst h2
      go_enter Tryd.func23, Tryd.ntmps23
      go_wp2
      go_ret
      exact ⟨rfl, rfl⟩
    · rw [if_neg h2]
      by_cases h3 : k = 3
      · subst h3
        go_enter Tryd.func23, Tryd.ntmps23
        go_wp2
        go_ret
        exact ⟨rfl, rfl⟩
      · rw [if_neg h3]
        have b1 : (k == 1) = false := beq_f h1
        have b2 : (k == 2) = false := beq_f h2
        have b3 : (k == 3) = false := beq_f h3
        go_enter Tryd.func23, Tryd.ntmps23
        go_wp2
        go_ret
        exact ⟨rfl, rfl⟩
theorem cutp_any (s : ByteArray) (b : UInt8) (w : World) :
    Calls Tryd.prog 55 #[.string s, .string ⟨#[b]⟩] w fun e w' => e = .returned (.tuple #[.string (S (Lib.trimPrefix (L s) [b])), .bool (Lib.hasPrefix (L s) [b])]) ∧ w' = w :=
  Any.strings_CutPrefix Tryd.lays103 s ⟨#[b]⟩ w
theorem beq_lit {s : ByteArray} {l : List UInt8} : (s.toList == l) = decide (L s = l) := by rw [L_toList]; by_cases h : L s = l <;> simp [h]
set_option maxHeartbeats 1000000 in
theorem cutKind_any (s : ByteArray) (w : World) (hs : s.size ≤ 9223372036854775807) :
    Calls Tryd.prog 29 #[.string s] w fun e w' => e = .returned (.tuple #[.int .i64 (EM.ckK (L s)), .string (S (EM.ckR (L s))), .bool (EM.ckB (L s))]) ∧ w' = w := by
  have C1 := Lib.hid (fun ww => cutp_any s 99 ww)
  have C2 := Lib.hid (fun ww => cutp_any s 112 ww)
  rw [EM.pre_one (by decide)] at C1 C2
  unfold EM.ckK EM.ckR EM.ckB
  have hf := @beq_lit s [102]
  by_cases h1 : L s = [102]
  · have hfe : s.toList = [102] := by rw [L_toList]; exact h1
    rw [if_pos h1, if_pos h1, decide_eq_true (.inl h1)]
    rw [decide_eq_true h1] at hf
    clear h1 C1 C2
    go_enter Tryd.func29, Tryd.ntmps29
    go_wp2_with fail
    go_ret3
    exact ⟨rfl, rfl⟩
  · have hfe : ¬ s.toList = [102] := by rw [L_toList]; exact h1
    rw [if_neg h1, if_neg h1]
    rw [decide_eq_false h1] at hf
    by_cases h2 : (L s).headD 0 = 99
    · have ht := EM.trim_one (b := 99) (L s) (by rw [EM.pre_one (by decide)]; exact decide_eq_true h2)
      rw [if_pos h2, if_pos (.inl h2), decide_eq_true (.inr (.inl h2))]
      rw [decide_eq_true h2, ht] at C1
      clear h1 h2 C2 ht
      generalize S (L s).tail = r at *
      go_enter Tryd.func29, Tryd.ntmps29
      go_wp2_with fail
      refine (C1.out _).mono ?_
      rintro e w1 ⟨rfl, rfl⟩
      go_wp2_with fail
      go_ret3
      exact ⟨rfl, rfl⟩
    · rw [decide_eq_false h2] at C1
      by_cases h3 : (L s).headD 0 = 112
      · have ht := EM.trim_one (b := 112) (L s) (by rw [EM.pre_one (by decide)]; exact decide_eq_true h3)
        rw [if_neg h2, if_pos h3, if_pos (.inr h3), decide_eq_true (.inr (.inr h3))]
        rw [decide_eq_true h3, ht] at C2
        clear h1 h2 h3 ht
        generalize S (L s).tail = r at *
        generalize S (Lib.trimPrefix (L s) [99]) = r1 at *
        go_enter Tryd.func29, Tryd.ntmps29
        go_wp2_with fail
        refine (C1.out _).mono ?_
        rintro e w1 ⟨rfl, rfl⟩
        go_wp2_with fail
        refine (C2.out _).mono ?_
        rintro e w1 ⟨rfl, rfl⟩
        go_wp2_with fail
        go_ret3
        exact ⟨rfl, rfl⟩
      · rw [decide_eq_false h3] at C2
        rw [if_neg h2, if_neg h3, if_neg (by rintro (h | h); exact h2 h; exact h3 h), decide_eq_false (by rintro (h | h | h); exact h1 h; exact h2 h; exact h3 h)]
        clear h1 h2 h3
        generalize S (Lib.trimPrefix (L s) [112]) = r at *
        generalize S (Lib.trimPrefix (L s) [99]) = r1 at *
        go_enter Tryd.func29, Tryd.ntmps29
        go_wp2_with fail
        refine (C1.out _).mono ?_
        rintro e w1 ⟨rfl, rfl⟩
        go_wp2_with fail
        refine (C2.out _).mono ?_
        rintro e w1 ⟨rfl, rfl⟩
        go_wp2_with fail
        go_ret3
        exact ⟨rfl, rfl⟩
end Go.Proofs.YtiohainnpjikpaaDoor

/- Layer 10: dates and strikes read, Print. -/
namespace Go.Proofs.YtiohainnpjikpaaDoor
open Go.RowKit Go.Recs Go.Shelf
set_option linter.unusedVariables false
set_option linter.unusedSimpArgs false

theorem cat_ok {a b : ByteArray} (h : a.size + b.size ≤ 9223372036854775807) : Op.stringOp .add a b = pure (.string (a ++ b)) := by
  have h2 : ¬ (((a.size + b.size : Nat) : Int) > IntKind.i64.max) := by
    have : IntKind.i64.max = 9223372036854775807 := by decide
    omega
  simp only [Op.stringOp]
  rw [if_neg h2]
theorem cat_size (a b : ByteArray) : (a ++ b).size = a.size + b.size := by simp [ByteArray.size_append]
theorem ext_size (s : ByteArray) (a b : Nat) : (s.extract a b).size ≤ s.size := by rw [ByteArray.size_extract]; omega
theorem dec_small20 (m : Nat) (h : m < 18446744073709551616) : (WM.dec m).length ≤ 20 := by
  have key : ∀ k m : Nat, m < 10 ^ (k + 1) → (WM.dec m).length ≤ k + 1 := by
    intro k
    induction k with
    | zero => intro m hm; rw [WM.dec_small (by simpa using hm)]; simp
    | succ k ih =>
      intro m hm
      by_cases h10 : m < 10
      · rw [WM.dec_small h10]; simp
      · rw [WM.dec_big h10, List.length_append]
        have := ih (m / 10) (by rw [Nat.div_lt_iff_lt_mul (by omega)]; rw [Nat.pow_succ] at hm; omega)
        simp; omega
  exact key 19 m (by omega)
theorem text_small {n : Int} (h : i64 n) : (WM.textL n).length ≤ 30 := by
  unfold i64 at h
  have := dec_small20 n.natAbs (by omega)
  unfold WM.textL
  split
  · rw [List.length_cons]; omega
  · omega
def rdE (b : List UInt8) : Int := if b.length = 8 then DM.parE (EM.tenL b) else 5
def rdN (b : List UInt8) : Int := if b.length = 8 then DM.parN (EM.tenL b) else 0
set_option maxHeartbeats 2000000 in
theorem readDate_any (s : ByteArray) (w : World) (hs : s.size ≤ 300) :
    Calls Tryd.prog 31 #[.string s] w fun e w' => e = .returned (.tuple #[.int .i64 (rdN (L s)), .int .i64 (rdE (L s))]) ∧ Below w.heap.size w w' := by
  unfold rdN rdE
  rw [L_len]
  by_cases h8 : s.size = 8
  · rw [if_pos h8, if_pos h8]
    have hX : L ((((s.extract 0 4 ++ ⟨#[45]⟩) ++ s.extract 4 6) ++ ⟨#[45]⟩) ++ s.extract 6 s.size) = EM.tenL (L s) := by
      simp only [L_append, L_extract]
      rw [L_take_all, List.drop_zero]
      rfl
    have hXs : ((((s.extract 0 4 ++ ⟨#[45]⟩) ++ s.extract 4 6) ++ ⟨#[45]⟩) ++ s.extract 6 s.size).size ≤ 9223372036854775807 := by
      rw [← L_len, hX]
      have hl := L_len s
      unfold EM.tenL
      simp
      omega
    have CP : Hid (∀ x ww, x = (((s.extract 0 4 ++ ⟨#[45]⟩) ++ s.extract 4 6) ++ ⟨#[45]⟩) ++ s.extract 6 s.size → Calls Tryd.prog 58 #[.string x] ww fun e w' => e = .returned (.tuple #[.int .i64 (DM.parN (EM.tenL (L s))), .int .i64 (DM.parE (EM.tenL (L s)))]) ∧ ∃ n, w' = ww.drewN n) := Lib.hid (fun x ww hx => by
      subst hx
      have := parse_any _ ww hXs
      rw [hX] at this
      exact this)
    generalize DM.parN (EM.tenL (L s)) = rn at *
    generalize DM.parE (EM.tenL (L s)) = re at *
    have hn : ((s.size : Int) != 8) = false := by rw [bne, beq_t (by omega)]; rfl
    have b4 : (4 : Int) ≤ (s.size : Int) := by omega
    have b6 : (6 : Int) ≤ (s.size : Int) := by omega
    have HBw : Hid (Below w.heap.size w w.drew) := Lib.hid (Below.refl _ _).drew
    have H8 := Lib.hid h8
    have z0 := ext_size s 0 4; have z1 := ext_size s 4 6; have z2 := ext_size s 6 s.size
    have one : (⟨#[45]⟩ : ByteArray).size = 1 := rfl
    have e1 := @cat_ok (s.extract 0 4) ⟨#[45]⟩ (by omega)
    have e2 := @cat_ok (s.extract 0 4 ++ ⟨#[45]⟩) (s.extract 4 6) (by rw [cat_size]; omega)
    have e3 := @cat_ok ((s.extract 0 4 ++ ⟨#[45]⟩) ++ s.extract 4 6) ⟨#[45]⟩ (by rw [cat_size, cat_size]; omega)
    have e4 := @cat_ok (((s.extract 0 4 ++ ⟨#[45]⟩) ++ s.extract 4 6) ++ ⟨#[45]⟩) (s.extract 6 s.size) (by rw [cat_size, cat_size, cat_size]; omega)
    clear z0 z1 z2 one
    clear h8 hX hXs
    go_enter Tryd.func31, Tryd.ntmps31
    go_wp2_with fail
    go_region_held3 (fun _ => True) (trivial)
      (first
        | (go_at_call 58; refine (CP.out _ _ (by first | rfl | simp)).mono ?_; rintro e w6 ⟨rfl, n6, h6⟩; replace HBw := Lib.hid (show Below w.heap.size w w6 by rw [h6]; exact below_drewN HBw.out n6); clear h6))
    all_goals (
      go_wp2_with fail
      go_ret2
      exact ⟨rfl, HBw.out⟩)
  · rw [if_neg h8, if_neg h8]
    have hn : ((s.size : Int) != 8) = true := by rw [bne, beq_f (by omega)]; rfl
    go_enter Tryd.func31, Tryd.ntmps31
    go_wp2_with fail
    go_ret2
    exact ⟨rfl, Below.refl _ _⟩
def rsE (t : List UInt8) : Int := if WM.intE t ≠ 0 then WM.intE t else if (WM.intN t).natAbs ≤ 16777216 then 0 else 17
def rsN (t : List UInt8) : Int := if rsE t = 0 then WM.intN t else 0
set_option maxHeartbeats 1000000 in
theorem readStrike_any (s : ByteArray) (w : World) (hs : s.size ≤ 300) :
    Calls Tryd.prog 32 #[.string s] w fun e w' => e = .returned (.tuple #[.int .i64 (rsN (L s)), .int .i64 (rsE (L s))]) ∧ Below w.heap.size w w' := by
  have C1 := Lib.hid (fun ww => int_any s ww (by omega))
  have eN : rsN (L s) = if (if WM.intE (L s) ≠ 0 then WM.intE (L s) else if (WM.intN (L s)).natAbs ≤ 16777216 then 0 else 17) = 0 then WM.intN (L s) else 0 := rfl
  rw [eN]
  unfold rsE
  clear eN
  generalize WM.intE (L s) = ie at *
  generalize WM.intN (L s) = inn at *
  by_cases h1 : ie = 0
  · subst h1
    simp only [ne_eq, not_true_eq_false, if_false]
    by_cases h2 : inn.natAbs ≤ 16777216
    · simp only [h2, if_true]
      have a1 : -16777216 ≤ inn := by omega
      have a2 : inn ≤ 16777216 := by omega
      clear h2
      go_enter Tryd.func32, Tryd.ntmps32
      go_wp2_with fail
      refine (C1.out _).mono ?_
      rintro e w1 ⟨rfl, n1, h1⟩
      have HB : Hid (Below w.heap.size w w1) := Lib.hid (by rw [h1]; exact below_drewN (Below.refl _ _) n1)
      clear h1
      go_wp2_with fail
      go_ret2
      exact ⟨rfl, HB.out⟩
    · simp only [h2, if_false]
      rw [if_neg (by decide)]
      rcases (by omega : inn < -16777216 ∨ 16777216 < inn) with h3 | h3
      all_goals (
        clear h2
        go_enter Tryd.func32, Tryd.ntmps32
        go_wp2_with fail
        refine (C1.out _).mono ?_
        rintro e w1 ⟨rfl, n1, h1⟩
        have HB : Hid (Below w.heap.size w w1) := Lib.hid (by rw [h1]; exact below_drewN (Below.refl _ _) n1)
        clear h1
        go_wp2_with fail
        go_ret2
        exact ⟨rfl, HB.out⟩)
  · simp only [ne_eq, h1, not_false_eq_true, if_true, if_false]
    have hd : (ie != 0) = true := by simpa using h1
    clear h1
    go_enter Tryd.func32, Tryd.ntmps32
    go_wp2_with fail
    refine (C1.out _).mono ?_
    rintro e w1 ⟨rfl, n1, h1⟩
    have HB : Hid (Below w.heap.size w w1) := Lib.hid (by rw [h1]; exact below_drewN (Below.refl _ _) n1)
    clear h1
    go_wp2_with fail
    go_ret2
    exact ⟨rfl, HB.out⟩

theorem let_kind {k : Int} (h : 1 ≤ k ∧ k ≤ 3) : ∃ c : UInt8, letB k = ⟨#[c]⟩ ∧ (k = 1 ∧ c = 102 ∨ k = 2 ∧ c = 99 ∨ k = 3 ∧ c = 112) := by
  unfold letB
  by_cases h1 : k = 1
  · exact ⟨102, by rw [if_pos h1], .inl ⟨h1, rfl⟩⟩
  · by_cases h2 : k = 2
    · exact ⟨99, by rw [if_neg h1, if_pos h2], .inr (.inl ⟨h2, rfl⟩)⟩
    · exact ⟨112, by rw [if_neg h1, if_neg h2, if_pos (by omega)], .inr (.inr ⟨by omega, rfl⟩)⟩
theorem let_none {k : Int} (h : ¬ (1 ≤ k ∧ k ≤ 3)) : letB k = ⟨#[]⟩ := by
  unfold letB; rw [if_neg (by omega), if_neg (by omega), if_neg (by omega)]
theorem print_f {s : EM.Ser} {y m d : Int} (hd : DM.isDate s.expiry y m d) (hk : s.kind = 1) : (((s.prod ++ ⟨#[46]⟩) ++ S (EM.d8 y m d)) ++ ⟨#[46]⟩) ++ ⟨#[102]⟩ = S (EM.printL s) := by
  apply L_inj
  rw [EM.print_is ⟨by omega, by omega⟩ hd, L_S]
  simp only [L_append, L_S]
  unfold EM.txt EM.tail
  rw [if_pos hk]
  show _ = L s.prod ++ _
  simp [L]
theorem print_o {s : EM.Ser} {y m d : Int} {c : UInt8} (hd : DM.isDate s.expiry y m d) (hk : s.kind = 2 ∧ c = 99 ∨ s.kind = 3 ∧ c = 112) : ((((s.prod ++ ⟨#[46]⟩) ++ S (EM.d8 y m d)) ++ ⟨#[46]⟩) ++ ⟨#[c]⟩) ++ S (WM.textL s.strike) = S (EM.printL s) := by
  apply L_inj
  rw [EM.print_is ⟨by omega, by omega⟩ hd, L_S]
  simp only [L_append, L_S]
  unfold EM.txt EM.tail
  rw [if_neg (by omega)]
  have e : (if s.kind = 2 then (99 : UInt8) else 112) = c := by
    rcases hk with ⟨h1, h2⟩ | ⟨h1, h2⟩
    · rw [if_pos h1, h2]
    · rw [if_neg (by omega), h2]
  rw [e]
  show _ = L s.prod ++ _
  simp [L]

set_option maxHeartbeats 4000000 in
theorem eprint_any (s : EM.Ser) (w : World) (hq : serQ s) (hp : s.prod.size ≤ 300) (hm : ML w) :
    Calls Tryd.prog 13 #[serA s] w fun e w' => e = .returned (.string (S (EM.printL s))) ∧ Below w.heap.size w w' := by
  have HB0 := Lib.hid ((Below.refl w.heap.size w).alloc (Nat.le_refl _) (.cells #[.string s.prod, .int .i64 s.kind, .int .i64 s.expiry, .int .i64 s.strike] 24))
  have HP0 := Lib.hid (SBox.new w s)
  have HM0 := Lib.hid (hm.below HB0.out)
  have CL := Lib.hid (fun ww => letter_any s.kind ww)
  have CT := Lib.hid (fun ww => text_any s.strike ww hq.2.2.2.1 hq.2.2.2.2)
  have HSm : Hid (s.prod.size ≤ 300) := Lib.hid hp
  by_cases hd : 0 ≤ s.expiry ∧ s.expiry ≤ 73048
  · obtain ⟨y, m, d, hdd⟩ := DM.isDate_exists hd.1 hd.2
    have CP := Lib.hid (fun ww => print_any s.expiry y m d ww hdd)
    have CR := Lib.hid (fun ww (h : ML ww) => strokes_any y m d ww h)
    have hne : ((S (DM.dateL y m d)).toList == []) = false := by
      rw [beq_lit, L_S]; exact decide_eq_false (by unfold DM.dateL; simp)
    have hne2 : ¬ (S (DM.dateL y m d)).toList = [] := by rw [L_toList, L_S]; unfold DM.dateL; simp
    have hD8 : (S (EM.d8 y m d)).size = 8 := rfl
    have HTX : Hid ((S (WM.textL s.strike)).size ≤ 30) := Lib.hid (by rw [S_size]; exact text_small hq.2.2.2)
    by_cases hk : 1 ≤ s.kind ∧ s.kind ≤ 3
    · obtain ⟨c, hc, hkc⟩ := let_kind hk
      rw [hc] at CL
      have PF := Lib.hid (@print_f s y m d hdd)
      have PO := Lib.hid (fun c => @print_o s y m d c hdd)
      generalize S (EM.printL s) = res at *
      generalize S (DM.dateL y m d) = dt at *
      generalize S (EM.d8 y m d) = d8 at *
      generalize S (WM.textL s.strike) = tx at *
      clear hq hp hd hdd hc hm hk
      go_enter Tryd.func13, Tryd.ntmps13
      go_wp2_with fail
      generalize w.alloc (.cells #[.string s.prod, .int .i64 s.kind, .int .i64 s.expiry, .int .i64 s.strike] 24) = w0 at *
      have HSF : Hid (∀ ww, Below w0.heap.size w0 ww → (ww.cell? ⟨w.heap.size, 1, none⟩ = some (.int .i64 s.kind) ∧ ww.cell? ⟨w.heap.size, 2, none⟩ = some (.int .i64 s.expiry))) := Lib.hid (fun ww h => ⟨(HP0.out.below h HP0.out.lt).cells.2.1, (HP0.out.below h HP0.out.lt).cells.2.2.1⟩)
      have HBw : Hid (Below w0.heap.size w0 w0.drew) := Lib.hid (Below.refl _ _).drew
      go_region_held3 (fun ww => ww.cell? ⟨w.heap.size, 1, none⟩ = some (.int .i64 s.kind) ∧ ww.cell? ⟨w.heap.size, 2, none⟩ = some (.int .i64 s.expiry))
        (exact HSF.out _ HBw.out)
        (first
          | (go_at_call 23; refine (CL.out _).mono ?_; rintro e w6 ⟨rfl, rfl⟩)
          | (go_at_call 37; refine (CP.out _).mono ?_; rintro e w1 ⟨rfl, b6⟩; replace HBw := Lib.hid (HBw.out.trans (b6.mono HBw.out.size)); clear b6))
      all_goals (
        have HP1 := Lib.hid (HP0.out.below HBw.out HP0.out.lt)
        have HM1 := Lib.hid (HM0.out.below HBw.out)
        have HB1 := Lib.hid (HB0.out.trans (HBw.out.mono HB0.out.size))
        clear HP0 HM0 HB0 HBw HSF CL CP
        have hcl : ({ data := #[c] } : ByteArray).toList = [c] := by rw [L_toList]; rfl
        have hce : (([c] : List UInt8) == []) = false := rfl
        have hps := HSm.out
        have one : (⟨#[46]⟩ : ByteArray).size = 1 := rfl
        have onec : (⟨#[c]⟩ : ByteArray).size = 1 := rfl
        have e1 := @cat_ok s.prod ⟨#[46]⟩ (by omega)
        have e2 := @cat_ok (s.prod ++ ⟨#[46]⟩) d8 (by rw [cat_size]; omega)
        have e3 := @cat_ok ((s.prod ++ ⟨#[46]⟩) ++ d8) ⟨#[46]⟩ (by rw [cat_size, cat_size]; omega)
        have e4 := @cat_ok (((s.prod ++ ⟨#[46]⟩) ++ d8) ++ ⟨#[46]⟩) ⟨#[c]⟩ (by rw [cat_size, cat_size, cat_size]; omega)
        have e5 := @cat_ok ((((s.prod ++ ⟨#[46]⟩) ++ d8) ++ ⟨#[46]⟩) ++ ⟨#[c]⟩) tx (by rw [cat_size, cat_size, cat_size, cat_size]; have := HTX.out; omega)
        clear one onec hps hD8
        obtain ⟨c0, c1, c2, c3⟩ := HP1.out.cells
        go_wp2_with fail
        have HSF : Hid (∀ ww, Below w1.heap.size w1 ww → ww.cell? ⟨w.heap.size, 0, none⟩ = some (.string s.prod)) := Lib.hid (fun ww h => (HP1.out.below h HP1.out.lt).cells.1)
        have HBw : Hid (Below w1.heap.size w1 w1.drew) := Lib.hid (Below.refl _ _).drew
        clear c0 c1 c2 c3
        go_region_held3 (fun ww => ww.cell? ⟨w.heap.size, 0, none⟩ = some (.string s.prod))
          (exact HSF.out _ HBw.out)
          (first
            | (go_at_call 38; refine (CR.out _ (HM1.out.below HBw.out)).mono ?_; rintro e w2 ⟨rfl, b6⟩; replace HBw := Lib.hid (HBw.out.trans (b6.mono HBw.out.size)); clear b6))
        all_goals (
          have HP2 := Lib.hid (HP1.out.below HBw.out HP1.out.lt)
          have HB2 := Lib.hid (HB1.out.trans (HBw.out.mono HB1.out.size))
          clear HSF HBw HP1 HB1 CR HM1
          obtain ⟨c0, c1, c2, c3⟩ := HP2.out.cells
          rcases hkc with ⟨hk, rfl⟩ | hkc
          · have HX := Lib.hid (PF.out hk)
            rw [hk] at c1
            clear hk
            go_wp2_with fail
            go_ret
            exact ⟨by rw [← HX.out]; rfl, HB2.out⟩
          · have HX := Lib.hid (PO.out c hkc)
            have hk1 : ¬ s.kind = 1 := by omega
            have hk2 : (s.kind == 1) = false := beq_f hk1
            go_wp2_with fail
            refine (CT.out _).mono ?_
            rintro e w3 ⟨rfl, b3⟩
            have HB3 := Lib.hid (HB2.out.trans (b3.mono HB2.out.size))
            clear b3
            go_wp2_with fail
            go_ret
            exact ⟨by rw [← HX.out]; rfl, HB3.out⟩))
    · rw [EM.print_no (fun h => hk h.1)]
      rw [let_none hk] at CL
      generalize S (DM.dateL y m d) = dt at *
      clear hq hp hd hdd hm hk CT CR HTX
      go_enter Tryd.func13, Tryd.ntmps13
      go_wp2_with fail
      generalize w.alloc (.cells #[.string s.prod, .int .i64 s.kind, .int .i64 s.expiry, .int .i64 s.strike] 24) = w0 at *
      have HSF : Hid (∀ ww, Below w0.heap.size w0 ww → (ww.cell? ⟨w.heap.size, 1, none⟩ = some (.int .i64 s.kind) ∧ ww.cell? ⟨w.heap.size, 2, none⟩ = some (.int .i64 s.expiry))) := Lib.hid (fun ww h => ⟨(HP0.out.below h HP0.out.lt).cells.2.1, (HP0.out.below h HP0.out.lt).cells.2.2.1⟩)
      have HBw : Hid (Below w0.heap.size w0 w0.drew) := Lib.hid (Below.refl _ _).drew
      go_region_held3 (fun ww => ww.cell? ⟨w.heap.size, 1, none⟩ = some (.int .i64 s.kind) ∧ ww.cell? ⟨w.heap.size, 2, none⟩ = some (.int .i64 s.expiry))
        (exact HSF.out _ HBw.out)
        (first
          | (go_at_call 23; refine (CL.out _).mono ?_; rintro e w6 ⟨rfl, rfl⟩)
          | (go_at_call 37; refine (CP.out _).mono ?_; rintro e w1 ⟨rfl, b6⟩; replace HBw := Lib.hid (HBw.out.trans (b6.mono HBw.out.size)); clear b6))
      all_goals (
        have HB1 := Lib.hid (HB0.out.trans (HBw.out.mono HB0.out.size))
        clear HSF HBw HP0 HM0 HB0
        go_wp2_with fail
        go_ret
        exact ⟨rfl, HB1.out⟩)
  · have CP := Lib.hid (fun ww => print_no s.expiry ww (by omega))
    rw [EM.print_no (fun h => hd h.2)]
    generalize letB s.kind = lk at *
    clear hq hp hd hm CT
    cases hlk : (lk.toList == [])
    · have hl2 : ¬ lk.toList = [] := by simpa using hlk
      go_enter Tryd.func13, Tryd.ntmps13
      go_wp2_with fail
      generalize w.alloc (.cells #[.string s.prod, .int .i64 s.kind, .int .i64 s.expiry, .int .i64 s.strike] 24) = w0 at *
      have HSF : Hid (∀ ww, Below w0.heap.size w0 ww → (ww.cell? ⟨w.heap.size, 1, none⟩ = some (.int .i64 s.kind) ∧ ww.cell? ⟨w.heap.size, 2, none⟩ = some (.int .i64 s.expiry))) := Lib.hid (fun ww h => ⟨(HP0.out.below h HP0.out.lt).cells.2.1, (HP0.out.below h HP0.out.lt).cells.2.2.1⟩)
      have HBw : Hid (Below w0.heap.size w0 w0.drew) := Lib.hid (Below.refl _ _).drew
      go_region_held3 (fun ww => ww.cell? ⟨w.heap.size, 1, none⟩ = some (.int .i64 s.kind) ∧ ww.cell? ⟨w.heap.size, 2, none⟩ = some (.int .i64 s.expiry))
        (exact HSF.out _ HBw.out)
        (first
          | (go_at_call 23; refine (CL.out _).mono ?_; rintro e w6 ⟨rfl, rfl⟩)
          | (go_at_call 37; refine (CP.out _).mono ?_; rintro e w6 ⟨rfl, rfl⟩))
      all_goals (
        have HB1 := Lib.hid (HB0.out.trans (HBw.out.mono HB0.out.size))
        clear HSF HBw HP0 HM0 HB0
        go_wp2_with fail
        go_ret
        exact ⟨rfl, HB1.out⟩)
    · have hl2 : lk.toList = [] := by simpa using hlk
      go_enter Tryd.func13, Tryd.ntmps13
      go_wp2_with fail
      generalize w.alloc (.cells #[.string s.prod, .int .i64 s.kind, .int .i64 s.expiry, .int .i64 s.strike] 24) = w0 at *
      have HSF : Hid (∀ ww, Below w0.heap.size w0 ww → (ww.cell? ⟨w.heap.size, 1, none⟩ = some (.int .i64 s.kind) ∧ ww.cell? ⟨w.heap.size, 2, none⟩ = some (.int .i64 s.expiry))) := Lib.hid (fun ww h => ⟨(HP0.out.below h HP0.out.lt).cells.2.1, (HP0.out.below h HP0.out.lt).cells.2.2.1⟩)
      have HBw : Hid (Below w0.heap.size w0 w0.drew) := Lib.hid (Below.refl _ _).drew
      go_region_held3 (fun ww => ww.cell? ⟨w.heap.size, 1, none⟩ = some (.int .i64 s.kind) ∧ ww.cell? ⟨w.heap.size, 2, none⟩ = some (.int .i64 s.expiry))
        (exact HSF.out _ HBw.out)
        (first
          | (go_at_call 23; refine (CL.out _).mono ?_; rintro e w6 ⟨rfl, rfl⟩)
          | (go_at_call 37; refine (CP.out _).mono ?_; rintro e w6 ⟨rfl, rfl⟩))
      all_goals (
        have HB1 := Lib.hid (HB0.out.trans (HBw.out.mono HB0.out.size))
        clear HSF HBw HP0 HM0 HB0
        go_wp2_with fail
        go_ret
        exact ⟨rfl, HB1.out⟩)
end Go.Proofs.YtiohainnpjikpaaDoor

/- Layer 10: Parse. -/
namespace Go.Proofs.YtiohainnpjikpaaDoor
open Go.RowKit Go.Recs Go.Shelf
set_option linter.unusedVariables false
set_option linter.unusedSimpArgs false

section
variable {t : List UInt8} {a b c : List UInt8}
theorem ps_len (h : (WM.pieces 46 t).length ≠ 3) : EM.parE t = 5 ∧ EM.parN t = EM.zero := EM.par_form (by rintro ⟨a, b, c, hp, _⟩; rw [hp] at h; exact h rfl)
theorem ps_parts (hP : WM.pieces 46 t = [a, b, c]) : EM.pA t = a ∧ EM.pB t = b ∧ EM.pC t = c := by
  unfold EM.pA EM.pB EM.pC; rw [hP]; exact ⟨rfl, rfl, rfl⟩
theorem ps_kind (hP : WM.pieces 46 t = [a, b, c]) (h : EM.ckB c = false) : EM.parE t = 5 ∧ EM.parN t = EM.zero := EM.par_form (by
  rintro ⟨a', b', c', hp, _, _, hc⟩
  rw [hP] at hp; simp only [List.cons.injEq, and_true] at hp
  obtain ⟨rfl, rfl, rfl⟩ := hp
  exact absurd hc (of_decide_eq_false h))
theorem ps_name (hP : WM.pieces 46 t = [a, b, c]) (h : WM.name a = false) : EM.parE t = 5 ∧ EM.parN t = EM.zero := EM.par_form (by
  rintro ⟨a', b', c', hp, hn, _⟩
  rw [hP] at hp; simp only [List.cons.injEq, and_true] at hp
  obtain ⟨rfl, rfl, rfl⟩ := hp
  rw [h] at hn; cases hn)
theorem ps_form (hP : WM.pieces 46 t = [a, b, c]) (h1 : EM.ckB c = true) (h2 : WM.name a = true) (h3 : b.length = 8) (h4 : b.all WM.dig = true) : EM.form (WM.pieces 46 t) := ⟨a, b, c, hP, h2, ⟨h3, h4⟩, of_decide_eq_true h1⟩
theorem ps_date (hP : WM.pieces 46 t = [a, b, c]) (h1 : EM.ckB c = true) (h2 : WM.name a = true) (h : rdE b ≠ 0) : EM.parE t = rdE b ∧ EM.parN t = EM.zero := by
  obtain ⟨e1, e2, e3⟩ := ps_parts hP
  unfold rdE at h ⊢
  by_cases h8 : b.length = 8
  · rw [if_pos h8] at h ⊢
    cases hd : b.all WM.dig with
    | true =>
      have hf := ps_form hP h1 h2 h8 hd
      rw [(EM.ten_digits h8 hd).1] at h ⊢
      have := EM.par_date hf (by unfold EM.yy EM.mm EM.dd; rw [e2]; exact h)
      rcases EM.of_cases (WM.val b / 10000) (WM.val b / 100 % 100) (WM.val b % 100) with g | g
      · exact absurd g h
      · rw [g]; exact this
    | false =>
      rw [(EM.ten_others h8 hd).1]
      refine EM.par_form ?_
      rintro ⟨a', b', c', hp, _, hb, _⟩
      rw [hP] at hp; simp only [List.cons.injEq, and_true] at hp
      obtain ⟨rfl, rfl, rfl⟩ := hp
      rw [hd] at hb; exact absurd hb.2 (by decide)
  · rw [if_neg h8]
    refine EM.par_form ?_
    rintro ⟨a', b', c', hp, _, hb, _⟩
    rw [hP] at hp; simp only [List.cons.injEq, and_true] at hp
    obtain ⟨rfl, rfl, rfl⟩ := hp
    exact h8 hb.1
theorem ps_good (hP : WM.pieces 46 t = [a, b, c]) (h1 : EM.ckB c = true) (h2 : WM.name a = true) (h : rdE b = 0) : EM.form (WM.pieces 46 t) ∧ DM.ofE (EM.yy t) (EM.mm t) (EM.dd t) = 0 ∧ DM.ofN (EM.yy t) (EM.mm t) (EM.dd t) = rdN b := by
  obtain ⟨e1, e2, e3⟩ := ps_parts hP
  unfold rdE at h
  by_cases h8 : b.length = 8
  · rw [if_pos h8] at h
    cases hd : b.all WM.dig with
    | true =>
      rw [(EM.ten_digits h8 hd).1] at h
      refine ⟨ps_form hP h1 h2 h8 hd, ?_, ?_⟩
      · unfold EM.yy EM.mm EM.dd; rw [e2]; exact h
      · unfold EM.yy EM.mm EM.dd rdN; rw [e2, if_pos h8, (EM.ten_digits h8 hd).2]
    | false => rw [(EM.ten_others h8 hd).1] at h; cases h
  · rw [if_neg h8] at h; cases h
theorem ps_future (hP : WM.pieces 46 t = [a, b, c]) (h1 : EM.ckB c = true) (h2 : WM.name a = true) (h : rdE b = 0) (hc : EM.ckK c = 1) : EM.parE t = 0 ∧ EM.parN t = ⟨⟨a.toArray⟩, 1, rdN b, 0⟩ := by
  obtain ⟨e1, e2, e3⟩ := ps_parts hP
  obtain ⟨g1, g2, g3⟩ := ps_good hP h1 h2 h
  have hc1 : c = [102] := by
    unfold EM.ckK at hc
    by_cases hh : c = [102]
    · exact hh
    · rw [if_neg hh] at hc; split at hc <;> (try split at hc) <;> omega
  have := EM.par_future g1 g2 (by rw [e3]; exact hc1)
  rw [g3, e1] at this
  exact this
theorem ck_two (h1 : EM.ckB c = true) (hc : EM.ckK c ≠ 1) : c ≠ [102] ∧ EM.ckR c = c.tail ∧ EM.ckK c = (if c.headD 0 = 99 then 2 else 3) := by
  have hne : c ≠ [102] := by intro e; apply hc; unfold EM.ckK; rw [if_pos e]
  have hh := of_decide_eq_true h1
  rcases hh with hh | hh | hh
  · exact absurd hh hne
  · refine ⟨hne, ?_, ?_⟩
    · unfold EM.ckR; rw [if_neg hne, if_pos (.inl hh)]
    · unfold EM.ckK; rw [if_neg hne, if_pos hh, if_pos hh]
  · refine ⟨hne, ?_, ?_⟩
    · unfold EM.ckR; rw [if_neg hne, if_pos (.inr hh)]
    · have h99 : ¬ c.headD 0 = 99 := by rw [hh]; decide
      unfold EM.ckK; rw [if_neg hne, if_neg h99, if_pos hh, if_neg h99]
theorem ps_bad (hP : WM.pieces 46 t = [a, b, c]) (h1 : EM.ckB c = true) (h2 : WM.name a = true) (h : rdE b = 0) (hc : EM.ckK c ≠ 1) (hr : rsE (EM.ckR c) ≠ 0) : EM.parE t = rsE (EM.ckR c) ∧ EM.parN t = EM.zero := by
  obtain ⟨e1, e2, e3⟩ := ps_parts hP
  obtain ⟨g1, g2, g3⟩ := ps_good hP h1 h2 h
  obtain ⟨k1, k2, k3⟩ := ck_two h1 hc
  rw [k2] at hr ⊢
  unfold rsE at hr ⊢
  by_cases hi : WM.intE c.tail = 0
  · rw [if_neg (by simp [hi])] at hr ⊢
    by_cases hn : (WM.intN c.tail).natAbs ≤ 16777216
    · rw [if_pos hn] at hr; exact absurd rfl hr
    · rw [if_neg hn]
      exact EM.par_price g1 g2 (by rw [e3]; exact k1) (by rw [e3]; exact hi) (by rw [e3]; exact hn)
  · rw [if_pos hi]
    have := EM.par_int g1 g2 (by rw [e3]; exact k1) (by rw [e3]; exact hi)
    rw [e3] at this; exact this
theorem ps_option (hP : WM.pieces 46 t = [a, b, c]) (h1 : EM.ckB c = true) (h2 : WM.name a = true) (h : rdE b = 0) (hc : EM.ckK c ≠ 1) (hr : rsE (EM.ckR c) = 0) : EM.parE t = 0 ∧ EM.parN t = ⟨⟨a.toArray⟩, EM.ckK c, rdN b, rsN (EM.ckR c)⟩ := by
  obtain ⟨e1, e2, e3⟩ := ps_parts hP
  obtain ⟨g1, g2, g3⟩ := ps_good hP h1 h2 h
  obtain ⟨k1, k2, k3⟩ := ck_two h1 hc
  have hN : rsN (EM.ckR c) = WM.intN c.tail := by unfold rsN; rw [if_pos hr, k2]
  rw [hN, k3]
  rw [k2] at hr
  unfold rsE at hr
  by_cases hi : WM.intE c.tail = 0
  · rw [if_neg (by simp [hi])] at hr
    by_cases hn : (WM.intN c.tail).natAbs ≤ 16777216
    · have := EM.par_option g1 g2 (by rw [e3]; exact k1) (by rw [e3]; exact hi) (by rw [e3]; exact hn)
      rw [e3, e1, g3] at this; exact this
    · rw [if_neg hn] at hr; cases hr
  · rw [if_pos hi] at hr; exact absurd hr hi
end
theorem three {α : Type} (l : List α) (h : l.length = 3) : ∃ a b c, l = [a, b, c] := by
  match l, h with
  | [a, b, c], _ => exact ⟨a, b, c, rfl⟩
theorem piece_300 {t p : ByteArray} {ls : List ByteArray} (ht : t.size ≤ 300) (h : ls.map L = WM.pieces 46 (L t)) (hp : p ∈ ls) : p.size ≤ 300 := by
  have h2 : L p ∈ WM.pieces 46 (L t) := by rw [← h]; exact List.mem_map_of_mem hp
  have key : ∀ (n : Nat) (s q : List UInt8), s.length ≤ n → q ∈ WM.pieces 46 s → q.length ≤ s.length := by
    intro n
    induction n with
    | zero =>
      intro s q hs hq
      have : s = [] := List.eq_nil_of_length_eq_zero (by omega)
      subst this
      rw [EM.pieces_no (by simp), List.mem_singleton] at hq
      rw [hq]; exact Nat.le_refl _
    | succ n ih =>
      intro s q hs hq
      by_cases hc : (46 : UInt8) ∈ s
      · obtain ⟨x, y, rfl, hx⟩ := List.eq_append_cons_of_mem hc
        rw [EM.pieces_at hx] at hq
        rcases List.mem_cons.1 hq with rfl | hq
        · simp
        · have := ih y q (by simp at hs; omega) hq
          simp; omega
      · rw [EM.pieces_no hc, List.mem_singleton] at hq
        rw [hq]; exact Nat.le_refl _
  have := key _ _ _ (Nat.le_refl _) h2
  rw [L_len, L_len] at this
  omega

set_option maxHeartbeats 8000000 in
theorem eparse_any (t : ByteArray) (w : World) (ht : t.size ≤ 300) (hm : ML w) :
    Calls Tryd.prog 11 #[.string t] w fun e w' => e = .returned (.tuple #[serA (EM.parN (L t)), .int .i64 (EM.parE (L t))]) ∧ Below w.heap.size w w' := by
  have HB0 := Lib.hid ((Below.refl w.heap.size w).alloc (Nat.le_refl _) (.cells #[.string ⟨#[]⟩, .int .i64 0, .int .i64 0, .int .i64 0] 24))
  have HP0 : Hid (SBox (w.alloc (.cells #[.string ⟨#[]⟩, .int .i64 0, .int .i64 0, .int .i64 0] 24)) w.heap.size EM.zero) := Lib.hid (SBox.new w EM.zero)
  have C1 := Lib.hid (fun ww (h : ML ww) => split4_any t ww h (by omega))
  have HM0 := Lib.hid (hm.below HB0.out)
  have KL := Lib.hid (@ps_len (L t)); have KK := Lib.hid (fun a b c => @ps_kind (L t) a b c); have KN := Lib.hid (fun a b c => @ps_name (L t) a b c); have KD := Lib.hid (fun a b c => @ps_date (L t) a b c)
  have KF := Lib.hid (fun a b c => @ps_future (L t) a b c); have KB := Lib.hid (fun a b c => @ps_bad (L t) a b c); have KO := Lib.hid (fun a b c => @ps_option (L t) a b c)
  have HPC := Lib.hid (fun p ls => @piece_300 t p ls ht)
  generalize EM.parE (L t) = pe at *
  generalize EM.parN (L t) = pn at *
  clear hm ht
  go_enter Tryd.func11, Tryd.ntmps11
  go_wp2_with fail
  refine (C1.out _ HM0.out).mono ?_
  rintro e w1 ⟨A, cap, ls, rfl, hS, b1, hi1, hi2⟩
  have HP1 := Lib.hid (HP0.out.below b1 HP0.out.lt)
  have HB1 := Lib.hid (HB0.out.trans (b1.mono HB0.out.size))
  have hlen := hS.len
  have HS := Lib.hid hS
  clear b1 hS HP0 HB0 C1 HM0
  obtain ⟨c0, c1, c2, c3⟩ := HP1.out.cells
  have f0 := HP1.out.frozen 0; have f1 := HP1.out.frozen 1; have f2 := HP1.out.frozen 2; have f3 := HP1.out.frozen 3
  by_cases h3 : ls.length = 3
  · have HMP := Lib.hid (hi2 (hi1.1 h3))
    obtain ⟨a, b, c, rfl⟩ := three ls h3
    have HP3 : Hid (WM.pieces 46 (L t) = [L a, L b, L c]) := Lib.hid HMP.out.symm
    have sa := HPC.out a _ HMP.out (by simp); have sb := HPC.out b _ HMP.out (by simp); have sc := HPC.out c _ HMP.out (by simp)
    obtain ⟨bk, off, xa, rfl, hb, d0, HV0, _⟩ := HS.out.get (k := 0) (by show 0 < 3; omega)
    obtain rfl : a = xa := HV0.out
    obtain ⟨bk', off', xb, e', _, d1, HV1, _⟩ := HS.out.get (k := 1) (by show 1 < 3; omega)
    injection e' with e'; injection e' with e1' e2'; subst e1' e2'
    obtain rfl : b = xb := HV1.out
    obtain ⟨bk', off', xc, e', _, d2, HV2, _⟩ := HS.out.get (k := 2) (by show 2 < 3; omega)
    injection e' with e'; injection e' with e1' e2'; subst e1' e2'
    obtain rfl : c = xc := HV2.out
    have d0' : w1.cell? ⟨bk, off, none⟩ = some (.string a) := d0
    have CK := Lib.hid (fun ww => cutKind_any c ww (by omega))
    have CN := Lib.hid (fun ww => name_any a ww (by omega))
    have CD := Lib.hid (fun ww => readDate_any b ww sb)
    have hrs : (S (EM.ckR (L c))).size ≤ 300 := by
      rw [S_size]
      have := L_len c
      unfold EM.ckR
      split
      · simp
      · split
        · simp; omega
        · simp
    have CR := Lib.hid (fun ww => readStrike_any (S (EM.ckR (L c))) ww hrs)
    rw [L_S] at CR
    have K2 := Lib.hid (KK.out _ _ _ HP3.out); have K3 := Lib.hid (KN.out _ _ _ HP3.out); have K4 := Lib.hid (KD.out _ _ _ HP3.out); have K5 := Lib.hid (KF.out _ _ _ HP3.out); have K6 := Lib.hid (KB.out _ _ _ HP3.out); have K7 := Lib.hid (KO.out _ _ _ HP3.out)
    have HSA : Hid ((⟨(L a).toArray⟩ : ByteArray) = a) := Lib.hid (S_L a)
    rw [HSA.out] at K5 K7
    clear hlen h3 hi1 hi2 KL KK KN KD KF KB KO HPC HMP HV0 HV1 HV2 HP3 sa sb sc hrs HSA
    generalize EM.ckK (L c) = kk at *
    generalize EM.ckB (L c) = kb at *
    generalize rsN (EM.ckR (L c)) = sn at *
    generalize rsE (EM.ckR (L c)) = se at *
    generalize S (EM.ckR (L c)) = kr at *
    generalize WM.name (L a) = nb at *
    generalize rdN (L b) = dn at *
    generalize rdE (L b) = de at *
    go_wp2_with fail
    refine (CK.out _).mono ?_
    rintro e w2 ⟨rfl, rfl⟩
    cases kb
    · have HX := Lib.hid (K2.out (by trivial))
      go_wp2_with fail
      (try simp only [Exit.inBlock, Exit.then])
      refine bodyPost_ret (results_ser rfl _ _ _ _ rfl (HP1.out.put EM.zero)) rfl ⟨?_, SBox.put_below HB1.out (Nat.le_refl _) EM.zero⟩
      rw [HX.out.1, HX.out.2]; rfl
    go_wp2_with fail
    refine (CN.out _).mono ?_
    rintro e w2 ⟨rfl, rfl⟩
    cases nb
    · have HX := Lib.hid (K3.out (by trivial))
      go_wp2_with fail
      (try simp only [Exit.inBlock, Exit.then])
      refine bodyPost_ret (results_ser rfl _ _ _ _ rfl (HP1.out.put EM.zero)) rfl ⟨?_, SBox.put_below HB1.out (Nat.le_refl _) EM.zero⟩
      rw [HX.out.1, HX.out.2]; rfl
    go_wp2_with fail
    refine (CD.out _).mono ?_
    rintro e w2 ⟨rfl, b2⟩
    have HP2 := Lib.hid (HP1.out.below b2 HP1.out.lt)
    have HB2 := Lib.hid (HB1.out.trans (b2.mono HB1.out.size))
    have d0'' := (b2.cell (p := ⟨bk, off, none⟩) hb).trans d0'
    clear b2 c0 c1 c2 c3 f0 f1 f2 f3 d0 d1 d2 d0' HS HP1 HB1
    obtain ⟨c0, c1, c2, c3⟩ := HP2.out.cells
    have f0 := HP2.out.frozen 0; have f1 := HP2.out.frozen 1; have f2 := HP2.out.frozen 2; have f3 := HP2.out.frozen 3
    by_cases hde : de = 0
    · subst hde
      have HP3 : Hid (SBox ((((w2.setCell ⟨w.heap.size, 0, none⟩ (.string a)).setCell ⟨w.heap.size, 1, none⟩ (.int .i64 kk)).setCell ⟨w.heap.size, 2, none⟩ (.int .i64 dn)).setCell ⟨w.heap.size, 3, none⟩ (.int .i64 0)) w.heap.size ⟨a, kk, dn, 0⟩) := Lib.hid (HP2.out.put ⟨a, kk, dn, 0⟩)
      have HB3 : Hid (Below w.heap.size w ((((w2.setCell ⟨w.heap.size, 0, none⟩ (.string a)).setCell ⟨w.heap.size, 1, none⟩ (.int .i64 kk)).setCell ⟨w.heap.size, 2, none⟩ (.int .i64 dn)).setCell ⟨w.heap.size, 3, none⟩ (.int .i64 0))) := Lib.hid (SBox.put_below HB2.out (Nat.le_refl _) ⟨a, kk, dn, 0⟩)
      by_cases hk1 : kk = 1
      · have HX := Lib.hid (K5.out (by trivial) (by trivial) (by trivial) hk1)
        subst hk1
        go_wp2_with fail
        (try simp only [Exit.inBlock, Exit.then])
        refine bodyPost_ret (results_ser rfl _ _ _ _ rfl (HP3.out.put ⟨a, 1, dn, 0⟩)) rfl ⟨?_, SBox.put_below HB3.out (Nat.le_refl _) ⟨a, 1, dn, 0⟩⟩
        rw [HX.out.1, HX.out.2]; rfl
      · have hk2 : (kk == 1) = false := beq_f hk1
        have HK := Lib.hid hk1
        go_wp2_with fail
        refine (CR.out _).mono ?_
        rintro e w4 ⟨rfl, b4⟩
        have HP4 := Lib.hid (HP3.out.below b4 HP3.out.lt)
        have HB4 := Lib.hid (HB3.out.trans (b4.mono HB3.out.size))
        clear b4 c0 c1 c2 c3 f0 f1 f2 f3 HP3 HB3 HP2 HB2 d0''
        obtain ⟨c0, c1, c2, c3⟩ : w4.cell? ⟨w.heap.size, 0, none⟩ = some (.string a) ∧ w4.cell? ⟨w.heap.size, 1, none⟩ = some (.int .i64 kk) ∧ w4.cell? ⟨w.heap.size, 2, none⟩ = some (.int .i64 dn) ∧ w4.cell? ⟨w.heap.size, 3, none⟩ = some (.int .i64 0) := HP4.out.cells
        have f0 := HP4.out.frozen 0; have f1 := HP4.out.frozen 1; have f2 := HP4.out.frozen 2; have f3 := HP4.out.frozen 3
        have HP5 : Hid (SBox (w4.setCell ⟨w.heap.size, 3, none⟩ (.int .i64 sn)) w.heap.size ⟨a, kk, dn, sn⟩) := Lib.hid (HP4.out.strike sn)
        have HB5 := Lib.hid (HB4.out.setCell (p := ⟨w.heap.size, 3, none⟩) (Nat.le_refl _) (.int .i64 sn))
        by_cases hse : se = 0
        · have HX := Lib.hid (K7.out (by trivial) (by trivial) (by trivial) HK.out hse)
          subst hse
          go_wp2_with fail
          (try simp only [Exit.inBlock, Exit.then])
          refine bodyPost_ret (results_ser rfl _ _ _ _ rfl (HP5.out.put ⟨a, kk, dn, sn⟩)) rfl ⟨?_, SBox.put_below HB5.out (Nat.le_refl _) ⟨a, kk, dn, sn⟩⟩
          rw [HX.out.1, HX.out.2]; rfl
        · have HX := Lib.hid (K6.out (by trivial) (by trivial) (by trivial) HK.out hse)
          have hd : (se != 0) = true := by simpa using hse
          clear hse
          go_wp2_with fail
          (try simp only [Exit.inBlock, Exit.then])
          refine bodyPost_ret (results_ser rfl _ _ _ _ rfl (HP5.out.put EM.zero)) rfl ⟨?_, SBox.put_below HB5.out (Nat.le_refl _) EM.zero⟩
          rw [HX.out.1, HX.out.2]; rfl
    · have HX := Lib.hid (K4.out (by trivial) (by trivial) hde)
      have hd : (de != 0) = true := by simpa using hde
      clear hde
      go_wp2_with fail
      (try simp only [Exit.inBlock, Exit.then])
      refine bodyPost_ret (results_ser rfl _ _ _ _ rfl (HP2.out.put EM.zero)) rfl ⟨?_, SBox.put_below HB2.out (Nat.le_refl _) EM.zero⟩
      rw [HX.out.1, HX.out.2]; rfl
  · have hne : ((ls.length : Int) != 3) = true := by rw [bne, beq_f (by omega)]; rfl
    have HX := Lib.hid (KL.out (fun h => h3 (hi1.2 h)))
    clear hi1 hi2 KL KK KN KD KF KB KO HPC
    go_wp2_with fail
    (try simp only [Exit.inBlock, Exit.then])
    refine bodyPost_ret (results_ser rfl _ _ _ _ rfl (HP1.out.put EM.zero)) rfl ⟨?_, SBox.put_below HB1.out (Nat.le_refl _) EM.zero⟩
    rw [HX.out.1, HX.out.2]; rfl
end Go.Proofs.YtiohainnpjikpaaDoor

/- Contract: layer 10's examples hold. -/
namespace Go.Proofs.YtiohainnpjikpaaDoor
open Go.RowKit Go.Recs Go.Shelf
set_option linter.unusedVariables false

def exC : EM.Ser := ⟨⟨#[111, 105, 108]⟩, 2, 9576, -50⟩
def exF : EM.Ser := ⟨⟨#[111, 105, 108]⟩, 1, 9576, 0⟩
theorem ex_day : DM.isDate 9576 2026 3 21 := ⟨by decide, by decide⟩
theorem ex_50 : WM.dec 50 = [53, 48] := by rw [WM.dec_big (by decide), WM.dec_small (by decide)]; rfl
theorem ex_pc : EM.printL exC = [111, 105, 108, 46, 50, 48, 50, 54, 48, 51, 50, 49, 46, 99, 45, 53, 48] := by
  rw [EM.print_is (s := exC) (y := 2026) (m := 3) (d := 21) ⟨by decide, by decide⟩ ex_day]
  have e : WM.textL exC.strike = [45, 53, 48] := by show 45 :: WM.dec 50 = _; rw [ex_50]
  unfold EM.txt EM.tail
  rw [e]
  rfl
theorem ex_pf : EM.printL exF = [111, 105, 108, 46, 50, 48, 50, 54, 48, 51, 50, 49, 46, 102] := by
  rw [EM.print_is (s := exF) (y := 2026) (m := 3) (d := 21) ⟨by decide, by decide⟩ ex_day]
  rfl
theorem ex_par : EM.parE [111, 105, 108, 46, 50, 48, 50, 54, 48, 51, 50, 49, 46, 102] = 0 ∧ EM.parN [111, 105, 108, 46, 50, 48, 50, 54, 48, 51, 50, 49, 46, 102] = exF := by
  rw [← ex_pf]
  exact EM.par_print ⟨⟨by decide, by decide⟩, by decide, by decide⟩ (by decide) ⟨by decide, by decide⟩ (fun _ => rfl)
theorem ex_cmp : EM.cmp exC exF = 1 := by rw [← EM.cmp_or]; decide
theorem ser_q (s : EM.Ser) (h1 : s.prod.size ≤ maxLen) (h2 : i64 s.kind) (h3 : i64 s.expiry) (h4 : i64 s.strike) : serQ s := ⟨h1, h2, h3, h4⟩

set_option maxHeartbeats 4000000 in
theorem goes10_any (w : World) (hm : ML w) : Calls Tryd.prog 8 #[] w fun e w' => e = .returned (.bool true) ∧ Below w.heap.size w w' := by
  have P1 := fun ww h => eparse_any ⟨#[111, 105, 108, 46, 50, 48, 50, 54, 48, 51, 50, 49, 46, 102]⟩ ww (by decide) h
  have eL : L ⟨#[111, 105, 108, 46, 50, 48, 50, 54, 48, 51, 50, 49, 46, 102]⟩ = [111, 105, 108, 46, 50, 48, 50, 54, 48, 51, 50, 49, 46, 102] := rfl
  rw [eL, ex_par.1, ex_par.2] at P1
  have PR := fun ww h => eprint_any exC ww ⟨by decide, ⟨by decide, by decide⟩, ⟨by decide, by decide⟩, ⟨by decide, by decide⟩⟩ (by decide) h
  have eP : S (EM.printL exC) = ⟨#[111, 105, 108, 46, 50, 48, 50, 54, 48, 51, 50, 49, 46, 99, 45, 53, 48]⟩ := by rw [ex_pc]; rfl
  rw [eP] at PR
  have CC := fun ww => ecmp_any exC exF ww
  rw [ex_cmp] at CC
  have E1 : ∀ ww, (Op.equalIn 10000 24 (serA exF) (serA exF)).run Tryd.prog ww = .ok true ww := fun ww => by rw [ser_in, seq_iff.2 rfl]
  have hgd := ser_guard
  have HP1 := Lib.hid P1; have HPR := Lib.hid PR; have HCC := Lib.hid CC
  have HB0 := Lib.hid ((Below.refl w.heap.size w).alloc (Nat.le_refl _) (.cells #[.string exC.prod, .int .i64 exC.kind, .int .i64 exC.expiry, .int .i64 exC.strike] 24))
  have HX0 := Lib.hid (SBox.new w exC)
  have HM0 := Lib.hid (hm.below HB0.out)
  have HF0 : Hid (Op.equalIn 10000 24 (serA exF) (.agg #[.string ⟨#[111, 105, 108]⟩, .int .i64 1, .int .i64 9576, .int .i64 0]) = Op.equalIn 10000 24 (serA exF) (serA exF)) := Lib.hid rfl
  have E2 : ∀ ww, (Op.equalIn 10000 24 (serA exF) (.agg #[.string ⟨#[111, 105, 108]⟩, .int .i64 1, .int .i64 9576, .int .i64 0])).run Tryd.prog ww = .ok true ww := fun ww => by rw [HF0.out]; exact E1 ww
  clear P1 PR CC eL eP hm E1 HF0
  change Hid (Below w.heap.size w (w.alloc (.cells #[.string ⟨#[111, 105, 108]⟩, .int .i64 2, .int .i64 9576, .int .i64 (-50)] 24))) at HB0
  change Hid (SBox (w.alloc (.cells #[.string ⟨#[111, 105, 108]⟩, .int .i64 2, .int .i64 9576, .int .i64 (-50)] 24)) w.heap.size exC) at HX0
  change Hid (ML (w.alloc (.cells #[.string ⟨#[111, 105, 108]⟩, .int .i64 2, .int .i64 9576, .int .i64 (-50)] 24))) at HM0
  generalize exF = f at *
  generalize exC = c at *
  go_enter Tryd.func8, Tryd.ntmps8
  go_wp2_with fail
  generalize w.alloc (.cells #[.string ⟨#[111, 105, 108]⟩, .int .i64 2, .int .i64 9576, .int .i64 (-50)] 24) = w0 at *
  refine (HP1.out _ HM0.out).mono ?_
  rintro e w1 ⟨rfl, b1⟩
  have HX1 := Lib.hid ((HX0.out.below b1 HX0.out.lt).alloc (.cells #[.string f.prod, .int .i64 f.kind, .int .i64 f.expiry, .int .i64 f.strike] 24))
  have HB1 := Lib.hid (HB0.out.trans (b1.mono HB0.out.size))
  have HB2 := Lib.hid (HB1.out.alloc HB1.out.size (.cells #[.string f.prod, .int .i64 f.kind, .int .i64 f.expiry, .int .i64 f.strike] 24))
  have HF2 := Lib.hid (SBox.new w1 f)
  have HM2 := Lib.hid ((HM0.out.below b1).below ((Below.refl w1.heap.size w1).alloc (Nat.le_refl _) (.cells #[.string f.prod, .int .i64 f.kind, .int .i64 f.expiry, .int .i64 f.strike] 24)))
  clear b1 HX0 HB0 HM0 HB1
  obtain ⟨c0, c1, c2, c3⟩ := HX1.out.cells
  go_wp2_with fail
  generalize w1.alloc (.cells #[.string f.prod, .int .i64 f.kind, .int .i64 f.expiry, .int .i64 f.strike] 24) = w2 at *
  refine (HPR.out _ HM2.out).mono ?_
  rintro e w3 ⟨rfl, b3⟩
  have HX3 := Lib.hid (HX1.out.below b3 HX1.out.lt)
  have HF3 := Lib.hid (HF2.out.below b3 HF2.out.lt)
  have HB3 := Lib.hid (HB2.out.trans (b3.mono HB2.out.size))
  clear b3 c0 c1 c2 c3 HX1 HF2 HB2 HM2
  obtain ⟨c0, c1, c2, c3⟩ := HX3.out.cells
  obtain ⟨d0, d1, d2, d3⟩ := HF3.out.cells
  go_wp2_with fail
  refine (HCC.out _).mono ?_
  rintro e w4 ⟨rfl, g4⟩
  have HB4 := Lib.hid (HB3.out.trans (g4.below.mono HB3.out.size))
  clear g4
  go_wp2_with fail
  go_ret
  exact ⟨rfl, HB4.out⟩
end Go.Proofs.YtiohainnpjikpaaDoor
