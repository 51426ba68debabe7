/- Put together: SeriesMath2, SeriesMath5, PosSort, PosList, SortOwn, PosList2. -/
import Derived.Test.YthippdmfeeopkabBun3
import Derived.Test.YthippdmfeeopkabBun8
import Derived.Test.YthippdmfeeopkabBun4
import Derived.Lib.Strings
import Derived.Test.YthippdmfeeopkabBun6
import Derived.Shelf.SlSortCmp.NoneTotal
import Derived.Test.YthippdmfeeopkabBun1
import Derived.Shelf.GgSortFunc.InsertionK
/- Layer 10's mathematics: a series' text. -/
namespace EM
/-! texts cut at a point -/
theorem three_pieces {b : UInt8} {x y z : List UInt8} (hx : b ∉ x) (hy : b ∉ y) (hz : b ∉ z) : WM.pieces b (x ++ b :: (y ++ b :: z)) = [x, y, z] := by
  unfold WM.pieces WM.run
  rw [List.foldl_append, WM.foldl_in x hx, List.foldl_cons, List.foldl_append]
  have e1 : WM.step b ((([], []) : List (List UInt8) × List UInt8).1, (([], []) : List (List UInt8) × List UInt8).2 ++ x) b = ([x], []) := by simp [WM.step]
  rw [e1, WM.foldl_in y hy, List.foldl_cons]
  have e2 : WM.step b ((([x], []) : List (List UInt8) × List UInt8).1, (([x], []) : List (List UInt8) × List UInt8).2 ++ y) b = ([x, y], []) := by simp [WM.step]
  rw [e2, WM.foldl_in z hz]
  simp
/-- what the run has gone through -/
def flatB (b : UInt8) : List (List UInt8) → List UInt8
  | [] => []
  | p :: r => p ++ b :: flatB b r
theorem flatB_snoc (b : UInt8) (ps : List (List UInt8)) (q : List UInt8) : flatB b (ps ++ [q]) = flatB b ps ++ (q ++ [b]) := by
  induction ps with
  | nil => simp [flatB]
  | cons p ps ih => simp [flatB, ih]
theorem run_all (b : UInt8) (l : List UInt8) : flatB b (WM.run b l).1 ++ (WM.run b l).2 = l ∧ (∀ p ∈ (WM.run b l).1, b ∉ p) ∧ b ∉ (WM.run b l).2 := by
  induction l using WM.snoc_ind with
  | h0 => simp [WM.run_nil, flatB]
  | h1 l c ih =>
    obtain ⟨h1, h2, h3⟩ := ih
    by_cases h : c = b
    · subst h
      rw [WM.run_snoc_at]
      refine ⟨?_, ?_, by simp⟩
      · simp only
        rw [flatB_snoc, List.append_nil, ← List.append_assoc, h1]
      · intro p hp
        rcases List.mem_append.1 hp with hp | hp
        · exact h2 p hp
        · rw [List.mem_singleton.1 hp]; exact h3
    · rw [WM.run_snoc_in h]
      refine ⟨?_, h2, ?_⟩
      · simp only
        rw [← List.append_assoc, h1]
      · simp only [List.mem_append, List.mem_singleton]
        rintro (g | g)
        · exact h3 g
        · exact h g.symm
theorem pieces_three {b : UInt8} {l x y z : List UInt8} (h : WM.pieces b l = [x, y, z]) : l = x ++ b :: (y ++ b :: z) ∧ b ∉ x ∧ b ∉ y ∧ b ∉ z := by
  obtain ⟨h1, h2, h3⟩ := run_all b l
  unfold WM.pieces at h
  have h' : (WM.run b l).1 ++ [(WM.run b l).2] = [x, y] ++ [z] := h
  obtain ⟨e1, e2⟩ := List.append_inj' h' rfl
  injection e2 with e2
  rw [e1, e2] at h1
  rw [e1] at h2
  rw [e2] at h3
  refine ⟨?_, h2 x (by simp), h2 y (by simp), h3⟩
  rw [← h1]; simp [flatB]

/-! eight digits -/
def d8 (y m d : Int) : List UInt8 := [DM.ch (y / 1000), DM.ch (y / 100), DM.ch (y / 10), DM.ch y, DM.ch (m / 10), DM.ch m, DM.ch (d / 10), DM.ch d]
theorem dv_dval (c : UInt8) : WM.dval c = DM.dv c := rfl
theorem val8 (a b c d e f g h : UInt8) : WM.val [a, b, c, d, e, f, g, h] = 10000000 * DM.dv a + 1000000 * DM.dv b + 100000 * DM.dv c + 10000 * DM.dv d + 1000 * DM.dv e + 100 * DM.dv f + 10 * DM.dv g + DM.dv h := by
  unfold WM.val
  simp only [List.foldl_cons, List.foldl_nil, dv_dval]
  omega
theorem d8_val {y m d : Int} (hy : 0 ≤ y ∧ y ≤ 9999) (hm : 0 ≤ m ∧ m ≤ 99) (hd : 0 ≤ d ∧ d ≤ 99) : WM.val (d8 y m d) = 10000 * y + 100 * m + d := by
  unfold d8
  rw [val8]
  simp only [DM.ch_dv]
  omega
theorem isD_dig {c : UInt8} : WM.dig c = true ↔ DM.isD c := by unfold WM.dig DM.isD; simp
theorem eight {α : Type} (s : List α) (h : s.length = 8) : ∃ a b c d e f g k, s = [a, b, c, d, e, f, g, k] := by
  match s, h with
  | [a, b, c, d, e, f, g, k], _ => exact ⟨a, b, c, d, e, f, g, k, rfl⟩
theorem d8_of {l : List UInt8} (hl : l.length = 8) (ha : l.all WM.dig = true) : d8 (WM.val l / 10000) (WM.val l / 100 % 100) (WM.val l % 100) = l ∧ 0 ≤ WM.val l ∧ WM.val l ≤ 99999999 := by
  obtain ⟨a, b, c, d, e, f, g, k, rfl⟩ := eight l hl
  simp only [List.all_cons, List.all_nil, Bool.and_eq_true, Bool.and_true, isD_dig] at ha
  obtain ⟨ha, hb, hc, hd, he, hf, hg, hk⟩ := ha
  have ra := DM.dv_range ha
  have rb := DM.dv_range hb
  have rc := DM.dv_range hc
  have rd := DM.dv_range hd
  have re := DM.dv_range he
  have rf := DM.dv_range hf
  have rg := DM.dv_range hg
  have rk := DM.dv_range hk
  rw [val8]
  unfold d8
  refine ⟨?_, by omega, by omega⟩
  rw [DM.ch_of ha (by omega), DM.ch_of hb (by omega), DM.ch_of hc (by omega), DM.ch_of hd (by omega), DM.ch_of he (by omega), DM.ch_of hf (by omega), DM.ch_of hg (by omega), DM.ch_of hk (by omega)]
theorem d8_dig (y m d : Int) : (d8 y m d).length = 8 ∧ (d8 y m d).all WM.dig = true := by
  refine ⟨rfl, ?_⟩
  unfold d8
  simp only [List.all_cons, List.all_nil, Bool.and_eq_true, Bool.and_true, isD_dig]
  exact ⟨DM.ch_isD _, DM.ch_isD _, DM.ch_isD _, DM.ch_isD _, DM.ch_isD _, DM.ch_isD _, DM.ch_isD _, DM.ch_isD _⟩

/-! print -/
def may (s : Ser) : Prop := (1 ≤ s.kind ∧ s.kind ≤ 3) ∧ (0 ≤ s.expiry ∧ s.expiry ≤ 73048)
def tail (s : Ser) : List UInt8 := if s.kind = 1 then [102] else (if s.kind = 2 then 99 else 112) :: WM.textL s.strike
def txt (s : Ser) (y m d : Int) : List UInt8 := s.prod.data.toList ++ 46 :: (d8 y m d ++ 46 :: tail s)
open Classical in
noncomputable def printL (s : Ser) : List UInt8 :=
  if h : may s ∧ ∃ p : Int × Int × Int, DM.isDate s.expiry p.1 p.2.1 p.2.2 then txt s (Classical.choose h.2).1 (Classical.choose h.2).2.1 (Classical.choose h.2).2.2 else []
theorem print_is {s : Ser} {y m d : Int} (hk : 1 ≤ s.kind ∧ s.kind ≤ 3) (h : DM.isDate s.expiry y m d) : printL s = txt s y m d := by
  obtain ⟨_, _, _, r1, r2⟩ := DM.split_day h
  have hh : may s ∧ ∃ p : Int × Int × Int, DM.isDate s.expiry p.1 p.2.1 p.2.2 := ⟨⟨hk, r1, r2⟩, (y, m, d), h⟩
  unfold printL
  rw [dif_pos hh]
  obtain ⟨e1, e2, e3⟩ := DM.isDate_unique (Classical.choose_spec hh.2) h
  rw [e1, e2, e3]
theorem print_no {s : Ser} (h : ¬ may s) : printL s = [] := by
  unfold printL; rw [dif_neg (fun g => h g.1)]
theorem may_date {s : Ser} (h : may s) : ∃ y m d, DM.isDate s.expiry y m d := DM.isDate_exists h.2.1 h.2.2
theorem print_some {s : Ser} (h : may s) : printL s ≠ [] := by
  obtain ⟨y, m, d, hd⟩ := may_date h
  rw [print_is h.1 hd]
  unfold txt; simp

/-! parse -/
/-- three parts: a name, eight digits, and f or what begins with c or p -/
def form (ps : List (List UInt8)) : Prop := ∃ a b c, ps = [a, b, c] ∧ WM.name a = true ∧ (b.length = 8 ∧ b.all WM.dig = true) ∧ (c = [102] ∨ c.headD 0 = 99 ∨ c.headD 0 = 112)
def pA (t : List UInt8) : List UInt8 := (WM.pieces 46 t).getD 0 []
def pB (t : List UInt8) : List UInt8 := (WM.pieces 46 t).getD 1 []
def pC (t : List UInt8) : List UInt8 := (WM.pieces 46 t).getD 2 []
def yy (t : List UInt8) : Int := WM.val (pB t) / 10000
def mm (t : List UInt8) : Int := WM.val (pB t) / 100 % 100
def dd (t : List UInt8) : Int := WM.val (pB t) % 100
open Classical in
noncomputable def parE (t : List UInt8) : Int :=
  if form (WM.pieces 46 t) then
    if DM.ofE (yy t) (mm t) (dd t) ≠ 0 then 15 else if pC t = [102] then 0 else if WM.intE (pC t).tail ≠ 0 then WM.intE (pC t).tail else if (WM.intN (pC t).tail).natAbs ≤ 16777216 then 0 else 17
  else 5
open Classical in
noncomputable def parN (t : List UInt8) : Ser :=
  if parE t = 0 then ⟨⟨(pA t).toArray⟩, if pC t = [102] then 1 else if (pC t).headD 0 = 99 then 2 else 3, DM.ofN (yy t) (mm t) (dd t), if pC t = [102] then 0 else WM.intN (pC t).tail⟩ else zero
theorem par_form {t : List UInt8} (h : ¬ form (WM.pieces 46 t)) : parE t = 5 ∧ parN t = zero := by
  have e : parE t = 5 := by unfold parE; rw [if_neg h]
  exact ⟨e, by unfold parN; rw [e, if_neg (by decide)]⟩
theorem par_date {t : List UInt8} (h : form (WM.pieces 46 t)) (h2 : DM.ofE (yy t) (mm t) (dd t) ≠ 0) : parE t = 15 ∧ parN t = zero := by
  have e : parE t = 15 := by unfold parE; rw [if_pos h, if_pos h2]
  exact ⟨e, by unfold parN; rw [e, if_neg (by decide)]⟩
theorem par_future {t : List UInt8} (h : form (WM.pieces 46 t)) (h2 : DM.ofE (yy t) (mm t) (dd t) = 0) (h3 : pC t = [102]) : parE t = 0 ∧ parN t = ⟨⟨(pA t).toArray⟩, 1, DM.ofN (yy t) (mm t) (dd t), 0⟩ := by
  have e : parE t = 0 := by unfold parE; rw [if_pos h, if_neg (by simp [h2]), if_pos h3]
  exact ⟨e, by unfold parN; rw [if_pos e, if_pos h3, if_pos h3]⟩
theorem par_int {t : List UInt8} (h : form (WM.pieces 46 t)) (h2 : DM.ofE (yy t) (mm t) (dd t) = 0) (h3 : pC t ≠ [102]) (h4 : WM.intE (pC t).tail ≠ 0) : parE t = WM.intE (pC t).tail ∧ parN t = zero := by
  have e : parE t = WM.intE (pC t).tail := by unfold parE; rw [if_pos h, if_neg (by simp [h2]), if_neg h3, if_pos h4]
  exact ⟨e, by unfold parN; rw [e, if_neg h4]⟩
theorem par_price {t : List UInt8} (h : form (WM.pieces 46 t)) (h2 : DM.ofE (yy t) (mm t) (dd t) = 0) (h3 : pC t ≠ [102]) (h4 : WM.intE (pC t).tail = 0) (h5 : ¬ (WM.intN (pC t).tail).natAbs ≤ 16777216) : parE t = 17 ∧ parN t = zero := by
  have e : parE t = 17 := by unfold parE; rw [if_pos h, if_neg (by simp [h2]), if_neg h3, if_neg (by simp [h4]), if_neg h5]
  exact ⟨e, by unfold parN; rw [e, if_neg (by decide)]⟩
theorem par_option {t : List UInt8} (h : form (WM.pieces 46 t)) (h2 : DM.ofE (yy t) (mm t) (dd t) = 0) (h3 : pC t ≠ [102]) (h4 : WM.intE (pC t).tail = 0) (h5 : (WM.intN (pC t).tail).natAbs ≤ 16777216) :
    parE t = 0 ∧ parN t = ⟨⟨(pA t).toArray⟩, if (pC t).headD 0 = 99 then 2 else 3, DM.ofN (yy t) (mm t) (dd t), WM.intN (pC t).tail⟩ := by
  have e : parE t = 0 := by unfold parE; rw [if_pos h, if_neg (by simp [h2]), if_neg h3, if_neg (by simp [h4]), if_pos h5]
  exact ⟨e, by unfold parN; rw [if_pos e, if_neg h3, if_neg h3]⟩

/-- what is parsed is printed as it was -/
theorem print_par {t : List UInt8} (h : parE t = 0) : printL (parN t) = t := by
  by_cases hf : form (WM.pieces 46 t)
  · by_cases hd : DM.ofE (yy t) (mm t) (dd t) = 0
    · obtain ⟨a, b, c, hp, hn, ⟨hb8, hbd⟩, hc⟩ := hf
      have hf' : form (WM.pieces 46 t) := ⟨a, b, c, hp, hn, ⟨hb8, hbd⟩, hc⟩
      have eA : pA t = a := by unfold pA; rw [hp]; rfl
      have eB : pB t = b := by unfold pB; rw [hp]; rfl
      have eC : pC t = c := by unfold pC; rw [hp]; rfl
      obtain ⟨e8, v0, v1⟩ := d8_of hb8 hbd
      have ok : DM.okDate (yy t) (mm t) (dd t) := by
        unfold DM.ofE at hd
        split at hd
        · assumption
        · cases hd
      have hdate : DM.isDate (DM.ofN (yy t) (mm t) (dd t)) (yy t) (mm t) (dd t) := by
        refine ⟨ok, ?_⟩
        unfold DM.ofN; rw [if_pos ok]
      have e8' : d8 (yy t) (mm t) (dd t) = b := by unfold yy mm dd; rw [eB]; exact e8
      obtain ⟨ht, _, _, _⟩ := pieces_three hp
      by_cases h3 : pC t = [102]
      · obtain ⟨_, e⟩ := par_future hf' hd h3
        rw [e, print_is (y := yy t) (m := mm t) (d := dd t) (by simp) hdate]
        unfold txt tail
        rw [e8', eA]
        rw [eC] at h3
        simp only [if_true]
        rw [ht, h3]
      · by_cases h4 : WM.intE (pC t).tail = 0
        · by_cases h5 : (WM.intN (pC t).tail).natAbs ≤ 16777216
          · obtain ⟨_, e⟩ := par_option hf' hd h3 h4 h5
            have hk : ∀ k : Int, k = (if (pC t).headD 0 = 99 then 2 else 3) → 1 ≤ k ∧ k ≤ 3 := by intro k hk; subst hk; split <;> omega
            rw [e, print_is (y := yy t) (m := mm t) (d := dd t) (hk _ rfl) hdate]
            unfold txt tail
            rw [e8', eA]
            simp only
            rw [WM.text_int h4]
            have hne : ¬ ((if (pC t).headD 0 = 99 then (2 : Int) else 3) = 1) := by split <;> omega
            rw [if_neg hne]
            have hcc : (if (if (pC t).headD 0 = 99 then (2 : Int) else 3) = 2 then (99 : UInt8) else 112) :: (pC t).tail = c := by
              rw [eC] at h3 ⊢
              rcases hc with hc | hc | hc
              · exact absurd hc h3
              · cases c with
                | nil => simp at hc
                | cons x r =>
                  simp at hc
                  subst hc
                  simp
              · cases c with
                | nil => simp at hc
                | cons x r =>
                  simp at hc
                  subst hc
                  simp
            rw [hcc, ht]
          · rw [(par_price hf' hd h3 h4 h5).1] at h; cases h
        · rw [(par_int hf' hd h3 h4).1] at h; exact absurd h h4
    · rw [(par_date hf hd).1] at h; cases h
  · rw [(par_form hf).1] at h; cases h

theorem no_point_name {l : List UInt8} (h : WM.name l = true) : (46 : UInt8) ∉ l := by
  intro hm
  unfold WM.name at h
  simp only [Bool.and_eq_true] at h
  have := List.all_eq_true.1 h.1.1 _ hm
  revert this; decide
theorem no_point_dig {l : List UInt8} (h : l.all WM.dig = true) : (46 : UInt8) ∉ l := by
  intro hm
  have := List.all_eq_true.1 h _ hm
  revert this; decide
theorem no_point_text (n : Int) : (46 : UInt8) ∉ WM.textL n := by
  have := no_point_dig (WM.dec_dig n.natAbs)
  unfold WM.textL
  split
  · simp only [List.mem_cons, not_or]; exact ⟨by decide, this⟩
  · exact this
/-- what can be printed is parsed as it was -/
theorem par_print {s : Ser} (h : may s) (hn : WM.name s.prod.data.toList = true) (hs : -16777216 ≤ s.strike ∧ s.strike ≤ 16777216) (hf : s.kind = 1 → s.strike = 0) : parE (printL s) = 0 ∧ parN (printL s) = s := by
  obtain ⟨y, m, d, hd⟩ := may_date h
  obtain ⟨ok, hday⟩ := hd
  have okd := ok
  obtain ⟨y1, y2, m1, m2, d1, d2⟩ := ok
  have dr := DM.dim_range y m
  rw [print_is h.1 ⟨okd, hday⟩]
  obtain ⟨g8, gd⟩ := d8_dig y m d
  have ht : (46 : UInt8) ∉ tail s := by
    unfold tail
    split
    · decide
    · simp only [List.mem_cons, not_or]
      exact ⟨by split <;> decide, no_point_text _⟩
  have hp : WM.pieces 46 (txt s y m d) = [s.prod.data.toList, d8 y m d, tail s] := three_pieces (no_point_name hn) (no_point_dig gd) ht
  have hform : form (WM.pieces 46 (txt s y m d)) := by
    refine ⟨_, _, _, hp, hn, ⟨g8, gd⟩, ?_⟩
    unfold tail
    by_cases k1 : s.kind = 1
    · rw [if_pos k1]; exact .inl rfl
    · rw [if_neg k1]
      by_cases k2 : s.kind = 2
      · rw [if_pos k2]; exact .inr (.inl rfl)
      · rw [if_neg k2]; exact .inr (.inr rfl)
  have eA : pA (txt s y m d) = s.prod.data.toList := by unfold pA; rw [hp]; rfl
  have eB : pB (txt s y m d) = d8 y m d := by unfold pB; rw [hp]; rfl
  have eC : pC (txt s y m d) = tail s := by unfold pC; rw [hp]; rfl
  have ev := d8_val (y := y) (m := m) (d := d) ⟨by omega, by omega⟩ ⟨by omega, by omega⟩ ⟨by omega, by omega⟩
  have ey : yy (txt s y m d) = y := by unfold yy; rw [eB, ev]; omega
  have em : mm (txt s y m d) = m := by unfold mm; rw [eB, ev]; omega
  have ed : dd (txt s y m d) = d := by unfold dd; rw [eB, ev]; omega
  have hE : DM.ofE (yy (txt s y m d)) (mm (txt s y m d)) (dd (txt s y m d)) = 0 := by rw [ey, em, ed]; unfold DM.ofE; rw [if_pos okd]
  have hN : DM.ofN (yy (txt s y m d)) (mm (txt s y m d)) (dd (txt s y m d)) = s.expiry := by rw [ey, em, ed]; unfold DM.ofN; rw [if_pos okd, hday]
  have e0 : (⟨(s.prod.data.toList).toArray⟩ : ByteArray) = s.prod := by simp
  by_cases k1 : s.kind = 1
  · have hC : pC (txt s y m d) = [102] := by rw [eC]; unfold tail; rw [if_pos k1]
    obtain ⟨e1, e2⟩ := par_future hform hE hC
    refine ⟨e1, ?_⟩
    rw [e2, eA, hN, e0]
    have := hf k1
    cases s
    simp_all
  · have htail : tail s = (if s.kind = 2 then 99 else 112) :: WM.textL s.strike := by unfold tail; rw [if_neg k1]
    have hC : pC (txt s y m d) ≠ [102] := by
      rw [eC, htail]
      intro e
      injection e with e
      revert e
      split <;> decide
    have hrest : (pC (txt s y m d)).tail = WM.textL s.strike := by rw [eC, htail]; rfl
    obtain ⟨i1, i2⟩ := WM.int_text s.strike
    have hm : s.strike.natAbs ≤ WM.most.natAbs := by unfold WM.most; omega
    rw [if_pos hm] at i1
    have i3 := i2 hm
    obtain ⟨e1, e2⟩ := par_option hform hE hC (by rw [hrest]; exact i1) (by rw [hrest, i3]; omega)
    refine ⟨e1, ?_⟩
    rw [e2, eA, hN, e0, hrest, i3]
    have hk : (if (pC (txt s y m d)).headD 0 = 99 then (2 : Int) else 3) = s.kind := by
      rw [eC, htail]
      obtain ⟨⟨a1, a2⟩, _⟩ := h
      by_cases k2 : s.kind = 2
      · simp [k2]
      · have : s.kind = 3 := by omega
        simp [this]
    rw [hk]
end EM

/- Layer 10's mathematics: eight digits as a date, the last part's kind, a date without its strokes. -/
namespace EM
open Go
set_option linter.unusedSimpArgs false
theorem strokes (y m d : Int) : Lib.replaceAll (DM.dateL y m d) [45] [] = d8 y m d := by
  have hc : ∀ n, (DM.ch n == 45) = false := fun n => by
    have := DM.ch_isD n
    unfold DM.isD at this
    rw [beq_eq_false_iff_ne]
    intro e
    rw [e] at this
    revert this; decide
  rw [replace_out]
  unfold DM.dateL d8
  simp [hc]
def tenL (b : List UInt8) : List UInt8 := (b.take 4 ++ [45]) ++ (b.take 6).drop 4 ++ [45] ++ b.drop 6
theorem ten_digits {b : List UInt8} (h8 : b.length = 8) (hd : b.all WM.dig = true) : DM.parE (tenL b) = DM.ofE (WM.val b / 10000) (WM.val b / 100 % 100) (WM.val b % 100) ∧ DM.parN (tenL b) = DM.ofN (WM.val b / 10000) (WM.val b / 100 % 100) (WM.val b % 100) := by
  obtain ⟨a, b', c, d, e, f, g, k, rfl⟩ := eight b h8
  simp only [List.all_cons, List.all_nil, Bool.and_eq_true, Bool.and_true, isD_dig] at hd
  obtain ⟨h1, h2, h3, h4, h5, h6, h7, h9⟩ := hd
  have ex : tenL [a, b', c, d, e, f, g, k] = [a, b', c, d, 45, e, f, 45, g, k] := rfl
  have hf : DM.formB (tenL [a, b', c, d, e, f, g, k]) = true := DM.formB_true.2 ⟨a, b', c, d, e, f, g, k, ex, h1, h2, h3, h4, h5, h6, h7, h9⟩
  have r1 := DM.dv_range h1; have r2 := DM.dv_range h2; have r3 := DM.dv_range h3; have r4 := DM.dv_range h4; have r5 := DM.dv_range h5; have r6 := DM.dv_range h6; have r7 := DM.dv_range h7; have r8 := DM.dv_range h9
  have y1 : DM.yearOf (tenL [a, b', c, d, e, f, g, k]) = 1000 * DM.dv a + 100 * DM.dv b' + 10 * DM.dv c + DM.dv d := by
    show DM.dgo 0 [a, b', c, d] = _
    simp only [DM.dgo, h1, h2, h3, h4, if_true, if_pos]; omega
  have y2 : DM.monthOf (tenL [a, b', c, d, e, f, g, k]) = 10 * DM.dv e + DM.dv f := by
    show DM.dgo 0 [e, f] = _
    simp only [DM.dgo, h5, h6, if_true, if_pos]; omega
  have y3 : DM.dayIn (tenL [a, b', c, d, e, f, g, k]) = 10 * DM.dv g + DM.dv k := by
    show DM.dgo 0 [g, k] = _
    simp only [DM.dgo, h7, h9, if_true, if_pos]; omega
  have v := val8 a b' c d e f g k
  have z1 : WM.val [a, b', c, d, e, f, g, k] / 10000 = 1000 * DM.dv a + 100 * DM.dv b' + 10 * DM.dv c + DM.dv d := by rw [v]; omega
  have z2 : WM.val [a, b', c, d, e, f, g, k] / 100 % 100 = 10 * DM.dv e + DM.dv f := by rw [v]; omega
  have z3 : WM.val [a, b', c, d, e, f, g, k] % 100 = 10 * DM.dv g + DM.dv k := by rw [v]; omega
  unfold DM.parE DM.parN
  rw [if_pos hf, if_pos hf, y1, y2, y3, z1, z2, z3]
  exact ⟨rfl, rfl⟩
theorem ten_others {b : List UInt8} (h8 : b.length = 8) (hd : b.all WM.dig = false) : DM.parE (tenL b) = 5 ∧ DM.parN (tenL b) = 0 := by
  obtain ⟨a, b', c, d, e, f, g, k, rfl⟩ := eight b h8
  have hf : DM.formB (tenL [a, b', c, d, e, f, g, k]) = false := by
    rw [DM.formB_false]
    rintro ⟨a1, b1, c1, d1, e1, f1, g1, k1, ex, h1, h2, h3, h4, h5, h6, h7, h9⟩
    have ex2 : tenL [a, b', c, d, e, f, g, k] = [a, b', c, d, 45, e, f, 45, g, k] := rfl
    rw [ex2] at ex
    simp only [List.cons.injEq, and_true, true_and] at ex
    obtain ⟨rfl, rfl, rfl, rfl, rfl, rfl, rfl, rfl⟩ := ex
    have : ([a, b', c, d, e, f, g, k] : List UInt8).all WM.dig = true := by
      simp only [List.all_cons, List.all_nil, Bool.and_eq_true, Bool.and_true, isD_dig]
      exact ⟨h1, h2, h3, h4, h5, h6, h7, h9⟩
    rw [this] at hd; cases hd
  unfold DM.parE DM.parN
  rw [hf]
  exact ⟨rfl, rfl⟩
theorem of_cases (y m d : Int) : DM.ofE y m d = 0 ∨ DM.ofE y m d = 15 := by unfold DM.ofE; split <;> simp
theorem pre_one {b : UInt8} (hb : b ≠ 0) (c : List UInt8) : Lib.hasPrefix c [b] = decide (c.headD 0 = b) := by
  unfold Lib.hasPrefix
  cases c with
  | nil => simp [List.isPrefixOf]; exact fun e => hb e.symm
  | cons x r =>
    by_cases h : x = b
    · simp [List.isPrefixOf, h]
    · have h' : ¬ b = x := fun e => h e.symm
      simp [List.isPrefixOf, h, h']
theorem trim_one {b : UInt8} (c : List UInt8) (h : Lib.hasPrefix c [b] = true) : Lib.trimPrefix c [b] = c.tail := by unfold Lib.trimPrefix; rw [if_pos h]; simp
/-- the last part's kind, what follows its letter, and whether it has one -/
def ckK (c : List UInt8) : Int := if c = [102] then 1 else if c.headD 0 = 99 then 2 else if c.headD 0 = 112 then 3 else 0
def ckR (c : List UInt8) : List UInt8 := if c = [102] then [] else if c.headD 0 = 99 ∨ c.headD 0 = 112 then c.tail else []
def ckB (c : List UInt8) : Bool := decide (c = [102] ∨ c.headD 0 = 99 ∨ c.headD 0 = 112)
end EM

/- Layer 15: positions sorted by their series. -/
namespace Go.Proofs.Ythippdmfeeopkab
open Go.RowKit Go.Recs Go.Shelf Go.Sort
set_option linter.unusedVariables false
set_option linter.unusedSimpArgs false
instance : Inhabited PO.Pos := ⟨PO.zero⟩
theorem grow_drewN (w : World) (os : Array Obj) (q : Nat) : (grow w os).drewN q = grow (w.drewN q) os := rfl
theorem GR.trans {a b c : World} (h : GR a b) (k : GR b c) : GR a c := by
  obtain ⟨q, os, rfl⟩ := h
  obtain ⟨q', os', rfl⟩ := k
  refine ⟨q + q', os ++ os', ?_⟩
  rw [← Go.Sort.grow_grow, grow_drewN, World.drewN_drewN]
set_option maxHeartbeats 1000000 in
theorem pcmp_any (a b : PO.Pos) (w : World) : Calls Try.prog 47 #[posA a, posA b] w fun e w' => e = .returned (.int .i64 (EM.cmp a.ser b.ser)) ∧ GR w w' := by
  have HG0 := Lib.hid (((GR.refl w).alloc (.cells (posC a) 38)).alloc (.cells (posC b) 38))
  have C1 := Lib.hid (fun ww => ecmp_any a.ser b.ser ww)
  generalize EM.cmp a.ser b.ser = r at *
  go_enter Try.func47, Try.ntmps47
  go_wp2_with fail
  refine (C1.out _).mono ?_
  rintro e w1 ⟨rfl, g1⟩
  have HG1 := Lib.hid (HG0.out.trans g1)
  clear g1
  go_wp2_with fail
  go_ret
  exact ⟨rfl, HG1.out⟩
def pcmp (a b : PO.Pos) : Int := EM.cmp a.ser b.ser
def pltB (a b : PO.Pos) : Bool := EM.ltB a.ser b.ser
theorem ltOf_pcmp : Go.Proofs.ltOf pcmp = pltB := by
  funext a b; unfold Go.Proofs.ltOf pcmp pltB EM.ltB; rfl
theorem pswo : SWO (Go.Proofs.ltOf pcmp) := by
  rw [ltOf_pcmp]
  exact ⟨fun a => EM.swo.irrefl a.ser, fun a b c h1 h2 => EM.swo.trans a.ser b.ser c.ser h1 h2, fun a b c h1 h2 => EM.swo.ntrans a.ser b.ser c.ser h1 h2⟩
set_option maxHeartbeats 1000000 in
theorem psort_any (blk off cap : Nat) (d ys : List PO.Pos) (w : World) (hH : HoldsK posV 6 w blk off d.toArray) (hblk : blk < w.heap.size) (hsz : d.length < 4611686018427387904) (hp : d.Perm ys) (hy : PO.ascP ys) :
    Calls Try.prog 60 #[.slice (some ⟨blk, off, none⟩) d.length cap, .func (.func 47) #[] #[]] w fun e w' =>
      e = .returned (.tuple #[]) ∧ ∃ n os, w' = sortWorldK posV 6 w blk off n ys.toArray os := by
  have eg : ∀ args w, (callFunc 47 args).run Try.prog w = .ok (.enter 47 args) w := enters_of Try.func47 (by kernel_rfl) rfl
  have hcl : CmpLays Try.prog 47 #[] posV 6 pcmp blk off d.toArray.size w := fun m os dk hs x y => pcmp_any x y _
  have hcon := AnyQ.slices_SortFunc Try.sortP 6 Try.isAgg38 Try.sizeOf38 posV (fun _ => rfl) (fun x v hv => posV_one [x] (posV x) (by simp) v hv) pcmp pswo 47 #[] blk off cap d.toArray w eg hcl hH hblk (by simpa using hsz)
  rw [ltOf_pcmp] at hcon
  change Calls Try.prog 60 _ _ _ at hcon
  refine Calls.mono (by simpa using hcon) ?_
  rintro e w' ⟨he, d', hP, hS, n, os, hw⟩
  refine ⟨he, n, os, ?_⟩
  obtain ⟨hs1, _, hperm⟩ := hP
  have e1 : d'.extract 0 d.length = d' := by
    have : d.length = d'.size := by simpa using hs1.symm
    rw [this]; exact Array.extract_size
  have e2 : d.toArray.extract 0 d.length = d.toArray := by
    have : d.length = d.toArray.size := by simp
    rw [this]; exact Array.extract_size
  rw [e1, e2] at hperm
  have hp2 : d'.toList.Perm ys := (by simpa using hperm : d'.toList.Perm d).trans hp
  have hu : d'.toList = ys := PO.sort_unique hp2 hy (fun i j hi hj hij => by
    have hi' : i < d'.size := by simpa using hi
    have hj' : j < d'.size := by simpa using hj
    have := hS i j (Nat.zero_le _) hij (by have : d'.size = d.length := by simpa using hs1
                                           omega)
    rw [getElem!_pos d' j hj', getElem!_pos d' i hi'] at this
    intro h
    have h2 : pltB d'[j] d'[i] = true := EM.ltB_true.2 (by simpa using h)
    rw [h2] at this
    cases this)
  rw [hw, ← hu]
end Go.Proofs.Ythippdmfeeopkab

/- Contracts of layer 15: a map's positions in order. -/
namespace Go.Proofs.Ythippdmfeeopkab
open Go.RowKit Go.Recs Go.Shelf Go.Sort
set_option linter.unusedVariables false
set_option linter.unusedSimpArgs false
set_option maxHeartbeats 1000000 in
theorem pvalues_any (b : Nat) (w : World) : Calls Try.prog 46 #[.map (some b)] w fun e w' => e = .returned (.func (.func 61) #[] #[.pointer (some ⟨w.heap.size, 0, none⟩)]) ∧ w.alloc (.cells #[.map (some b)] 63) = w' := by
  have hmf : ∀ (xs : Array Value), xs.map id = xs := by simp
  go_enter Try.func46, Try.ntmps46
  go_wp2_with fail
  go_ret
  exact ⟨rfl, rfl⟩
theorem pappend_any (Bm b nn : Nat) (D : DataW Unit) (ps : List PO.Pos) (hS : PSays D ps) (hl : ps.length ≤ 1000) (w : World) (hBm : Bm < w.heap.size)
    (hm : w.cell? ⟨Bm, 0, none⟩ = some (.map (some b))) (hown : w.ownsMap Try.prog 31 posElem b nn D) :
    Calls Try.prog 69 #[.slice none 0 0, .func (.func 61) #[] #[.pointer (some ⟨Bm, 0, none⟩)]] w fun e w' =>
      ∃ (v : Value) (xs : List PO.Pos), e = .returned v ∧ xs.Perm ps ∧ OwnR w' w.heap.size 38 6 v (xs.map posV) ∧ (v = .slice none 0 0 ↔ xs = []) ∧ Below w.heap.size w w' := by
  refine (callsIn_wide (n := 6)).1 ?_
  exact pappend_in Fence.wide 6 trivial rfl (by omega) 61 _ trivial (enters_of Try.func61 (by kernel_rfl) rfl) (fun xs => xs.Perm ps) ps.length (by omega) w
    (pvalues_stops Fence.wide 5 trivial rfl (by omega) Bm b nn D ps hS w hBm hm hown)
set_option maxHeartbeats 1000000 in
theorem pcollect_any (Bm b nn : Nat) (D : DataW Unit) (ps : List PO.Pos) (hS : PSays D ps) (hl : ps.length ≤ 1000) (w : World) (hBm : Bm < w.heap.size)
    (hm : w.cell? ⟨Bm, 0, none⟩ = some (.map (some b))) (hown : w.ownsMap Try.prog 31 posElem b nn D) :
    Calls Try.prog 59 #[.func (.func 61) #[] #[.pointer (some ⟨Bm, 0, none⟩)]] w fun e w' =>
      ∃ (v : Value) (xs : List PO.Pos), e = .returned v ∧ xs.Perm ps ∧ OwnR w' w.heap.size 38 6 v (xs.map posV) ∧ (v = .slice none 0 0 ↔ xs = []) ∧ Below w.heap.size w w' := by
  have C1 := Lib.hid (pappend_any Bm b nn D ps hS hl w hBm hm hown)
  clear hS hl hBm hm hown
  go_enter Try.func59, Try.ntmps59
  go_wp2_with fail
  refine C1.out.mono ?_
  rintro e w1 ⟨v, xs, rfl, h1, h2, h3, h4⟩
  have H1 := Lib.hid h1; have H2 := Lib.hid h2; have H3 := Lib.hid h3; have H4 := Lib.hid h4
  clear h1 h2 h3 h4
  go_wp2_with fail
  go_ret
  exact ⟨_, xs, rfl, H1.out, H2.out, H3.out, H4.out⟩
theorem pflat_size (l : List PO.Pos) : (flatK posV 6 l.toArray).size = l.length * 6 := by simp [flatK]
theorem pholds_of_own {w : World} {B g n cap : Nat} {l : List PO.Pos} (h : OwnR w B 38 6 (.slice (some ⟨g, 0, none⟩) n cap) (l.map posV)) : HoldsK posV 6 w g 0 l.toArray := by
  intro j hj
  rw [pflat_size] at hj
  have hi : j / 6 < l.length := by omega
  have hc := h.cell (i := j / 6) (j := j % 6) (by rw [List.length_map]; exact hi) (by omega)
  rw [show j / 6 * 6 + j % 6 = j by omega] at hc
  rw [Nat.zero_add]
  refine ⟨?_, ?_⟩
  · rw [hc]
    show _ = some ((flatK posV 6 l.toArray)[j]!)
    rw [get_flatK posV 6 l.toArray j (by simpa using hj)]
    have e1 : (l.map posV).getD (j / 6) [] = posV l[j / 6] := by simp [List.getD, hi]
    have e2 : l.toArray[j / 6]! = l[j / 6] := by simp [hi]
    rw [e1, e2]
    have h4 : j % 6 < (posV l[j / 6]).length := by show j % 6 < 6; omega
    rw [List.getElem?_eq_getElem h4]
    simp [h4]
  · rcases h.2.2 with ⟨e, _⟩ | ⟨g', cap', cur, e, hB, hh, hn, _⟩
    · cases e
    · injection e with e1 e2 e3
      injection e1 with e1
      injection e1 with e1
      subst e1
      simp [World.frozen?, hh]
end Go.Proofs.Ythippdmfeeopkab

/- An own row sorted is an own row, over any program. -/
namespace Go.Recs
open Go.RowKit Go.Proofs Go.Sort
set_option linter.unusedVariables false
theorem flat_flatK {α : Type} [Inhabited α] (f : α → List Value) (sz : Nat) (hsz : ∀ x, (f x).length = sz) (ys : List α) {j : Nat} (hj : j < ys.length * sz) :
    some ((flatK f sz ys.toArray)[j]!) = (ys.map f).flatten[j]? := by
  have h0 : 0 < sz := by
    rcases Nat.eq_zero_or_pos sz with h | h
    · rw [h, Nat.mul_zero] at hj; omega
    · exact h
  have hd : j / sz < ys.length := Nat.div_lt_of_lt_mul (by rw [Nat.mul_comm]; exact hj)
  have hm : j % sz < sz := Nat.mod_lt _ h0
  have hr : ∀ r ∈ ys.map f, r.length = sz := by
    intro r hr
    obtain ⟨x, _, rfl⟩ := List.mem_map.1 hr
    exact hsz x
  have e := flat_at hr (j / sz) (j % sz) (by rw [List.length_map]; exact hd) hm
  rw [Nat.mul_comm, Nat.div_add_mod] at e
  rw [e, get_flatK f sz ys.toArray j (by simpa using hj)]
  have e1 : (ys.map f).getD (j / sz) [] = f ys[j / sz] := by simp [List.getD, hd]
  have e2 : ys.toArray[j / sz]! = ys[j / sz] := by simp [hd]
  have h4 : j % sz < (f ys[j / sz]).length := by rw [hsz]; exact hm
  rw [e1, e2, List.getElem?_eq_getElem h4]
  simp [h4]
theorem heap_sorted {α : Type} [Inhabited α] (f : α → List Value) (sz : Nat) {w : World} {g : Nat} {cur : Array Value} {t : TypeId} (hh : w.heap[g]? = some (.cells cur t (0, 0))) (m : Nat) (ys : List α) (os : Array Obj) :
    (sortWorldK f sz w g 0 m ys.toArray os).heap[g]? = some (.cells (putCells id 0 (flatK f sz ys.toArray) cur) t (0, 0)) := by
  have hlt : g < w.heap.size := (Array.getElem?_eq_some_iff.1 hh).1
  show ((w.heap.modify g (onCells (putCells id 0 (flatK f sz ys.toArray)))) ++ os)[g]? = _
  rw [Array.getElem?_append_left (by rw [Array.size_modify]; exact hlt), Array.getElem?_modify, if_pos rfl, hh]
  rfl
theorem OwnR.sorted {α : Type} [Inhabited α] (f : α → List Value) (sz : Nat) (hsz : ∀ x, (f x).length = sz) {w : World} {B g n cap : Nat} {t : TypeId} {l ys : List α} (h : OwnR w B t sz (.slice (some ⟨g, 0, none⟩) n cap) (l.map f)) (hl : ys.length = l.length) (m : Nat) (os : Array Obj) :
    OwnR (sortWorldK f sz w g 0 m ys.toArray os) B t sz (.slice (some ⟨g, 0, none⟩) n cap) (ys.map f) := by
  have hr : ∀ r ∈ ys.map f, r.length = sz := by
    intro r hr
    obtain ⟨x, _, rfl⟩ := List.mem_map.1 hr
    exact hsz x
  obtain ⟨_, h2, h3⟩ := h
  rcases h3 with ⟨e, _⟩ | ⟨g', cap', cur, e, hB, hh, h4, h5, h6, h7⟩
  · cases e
  · injection e with e1 e2 e3
    injection e1 with e1
    injection e1 with e1
    subst e1 e3
    rw [List.length_map] at e2 h4
    have hfl : (ys.map f).flatten.length = ys.length * sz := by rw [flat_len hr, List.length_map]
    refine ⟨hr, by rw [hfl, List.length_map], .inr ⟨g, cap, _, by rw [List.length_map, hl, e2], hB, heap_sorted f sz hh m ys os, by rw [List.length_map, hl]; exact h4, h5, by simp [putCells, h6], ?_⟩⟩
    have hcs : ys.length * sz ≤ cur.size := by rw [h6, hl]; exact Nat.mul_le_mul_right _ h4
    apply List.ext_getElem?
    intro j
    rw [List.length_map]
    rcases Nat.lt_or_ge j (ys.length * sz) with hj | hj
    · rw [← flat_flatK f sz hsz ys hj, List.getElem?_take_of_lt hj, Array.getElem?_toList]
      unfold putCells
      rw [Array.getElem?_mapIdx, Array.getElem?_eq_getElem (by omega)]
      have hc : 0 ≤ j ∧ j < 0 + (flatK f sz ys.toArray).size := ⟨Nat.zero_le _, by rw [size_flatK]; simpa using hj⟩
      simp only [Option.map_some, id_eq, Nat.sub_zero]
      rw [if_pos hc]
    · rw [List.getElem?_eq_none (by rw [List.length_take]; omega), List.getElem?_eq_none (by rw [hfl]; exact hj)]
theorem below_sorted {α : Type} [Inhabited α] (f : α → List Value) (sz : Nat) (w : World) {B g : Nat} (hB : B ≤ g) (hw : B ≤ w.heap.size) (m : Nat) (ys : List α) (os : Array Obj) : Below B w (sortWorldK f sz w g 0 m ys.toArray os) := by
  refine ⟨rfl, rfl, rfl, ?_, fun k hk => ?_⟩
  · show w.heap.size ≤ ((w.heap.modify g _) ++ os).size
    simp
  · show ((w.heap.modify g (onCells (putCells id 0 (flatK f sz ys.toArray)))) ++ os)[k]? = _
    rw [Array.getElem?_append_left (by rw [Array.size_modify]; omega), Array.getElem?_modify, if_neg (by omega)]
end Go.Recs

/- Contracts of layer 15: a map's positions in order. -/
namespace Go.Proofs.Ythippdmfeeopkab
open Go.RowKit Go.Recs Go.Shelf Go.Sort
set_option linter.unusedVariables false
set_option linter.unusedSimpArgs false
theorem psort_none (cap : Nat) (w : World) : Calls Try.prog 60 #[.slice none 0 cap, .func (.func 47) #[] #[]] w fun e w' => e = .returned (.tuple #[]) ∧ w' = w := by
  have h := AnyF.slices_SortFunc_none Try.sortP none cap (.func (.func 47) #[] #[]) w
  exact h
set_option maxHeartbeats 2000000 in
theorem psorted_any (Bm b nn : Nat) (D : DataW Unit) (ps ys : List PO.Pos) (hS : PSays D ps) (hl : ps.length ≤ 1000) (hp : ps.Perm ys) (hy : PO.ascP ys) (w : World) (hBm : Bm < w.heap.size)
    (hm : w.cell? ⟨Bm, 0, none⟩ = some (.map (some b))) (hown : w.ownsMap Try.prog 31 posElem b nn D) :
    Calls Try.prog 45 #[.func (.func 61) #[] #[.pointer (some ⟨Bm, 0, none⟩)], .func (.func 47) #[] #[]] w fun e w' =>
      ∃ v, e = .returned v ∧ OwnR w' w.heap.size 38 6 v (ys.map posV) ∧ Below w.heap.size w w' := by
  have C1 := Lib.hid (pcollect_any Bm b nn D ps hS hl w hBm hm hown)
  have HP := Lib.hid hp; have HY := Lib.hid hy; have HL : Hid (ys.length ≤ 1000) := Lib.hid (by rw [← hp.length_eq]; exact hl)
  clear hS hl hBm hm hown hp hy
  go_enter Try.func45, Try.ntmps45
  go_wp2_with fail
  refine C1.out.mono ?_
  rintro e w1 ⟨v, xs, rfl, h1, h2, h3, h4⟩
  have H1 := Lib.hid (h1.trans HP.out); have HB := Lib.hid h4
  rcases h2.form with ⟨rfl, e0⟩ | ⟨g, cap, rfl, hB, hg, hc⟩
  · have hx : xs = [] := by simpa using e0
    have HN : Hid (ys = []) := Lib.hid (by have := H1.out; rw [hx] at this; exact List.nil_perm.1 this)
    have C2 := Lib.hid (fun ww => psort_none 0 ww)
    clear h1 h2 h3 h4 e0 hx
    go_wp2_with fail
    refine (C2.out _).mono ?_
    rintro e w2 ⟨rfl, rfl⟩
    go_wp2_with fail
    go_ret
    exact ⟨_, rfl, by rw [HN.out]; exact OwnR.nil _ _ _ _, HB.out⟩
  · have HO := Lib.hid h2
    have hxl : xs.length = ys.length := H1.out.length_eq
    have hyl := HL.out
    have C2 := Lib.hid (psort_any g 0 cap xs ys w1 (pholds_of_own h2) hg (by omega) H1.out HY.out)
    have HG := Lib.hid hB; have HZ := Lib.hid h4.size
    have HXL := Lib.hid hxl
    rw [List.length_map] at HO ⊢
    clear h1 h2 h3 h4 hc hB hxl hyl
    go_wp2_with fail
    refine C2.out.mono ?_
    rintro e w2 ⟨rfl, n, os, rfl⟩
    have HO2 := Lib.hid (HO.out.sorted posV 6 (fun _ => rfl) HXL.out.symm n os)
    have HB2 := Lib.hid (HB.out.trans (below_sorted posV 6 w1 HG.out HZ.out n ys os))
    generalize sortWorldK posV 6 w1 g 0 n ys.toArray os = w2 at *
    go_wp2_with fail
    go_ret
    exact ⟨_, rfl, HO2.out, HB2.out⟩
set_option maxHeartbeats 2000000 in
theorem plist_any (b nn : Nat) (D : DataW Unit) (ps ys : List PO.Pos) (hS : PSays D ps) (hl : ps.length ≤ 1000) (hp : ps.Perm ys) (hy : PO.ascP ys) (w : World) (hown : w.ownsMap Try.prog 31 posElem b nn D) :
    Calls Try.prog 26 #[.map (some b)] w fun e w' => ∃ v, e = .returned v ∧ OwnR w' w.heap.size 38 6 v (ys.map posV) ∧ Below w.heap.size w w' := by
  have HB0 := Lib.hid (below_al (Below.refl w.heap.size w) (.cells #[.map (some b)] 63))
  have C0 := Lib.hid (fun ww => pvalues_any b ww)
  have C1 := Lib.hid (psorted_any w.heap.size b nn D ps ys hS hl hp hy (w.alloc (.cells #[.map (some b)] 63)) (by simp) ((CB.new w 63 #[.map (some b)]).cell 0) (hown.alloc _))
  clear hS hl hp hy hown
  go_enter Try.func26, Try.ntmps26
  go_wp2_with fail
  refine (C0.out _).mono ?_
  rintro e w1 ⟨rfl, rfl⟩
  generalize w.alloc (.cells #[.map (some b)] 63) = w1 at *
  go_wp2_with fail
  refine C1.out.mono ?_
  rintro e w2 ⟨v, rfl, h1, h2⟩
  have H1 := Lib.hid (h1.lower HB0.out.size); have H2 := Lib.hid (HB0.out.trans (h2.mono HB0.out.size))
  clear h1 h2
  go_wp2_with fail
  go_ret
  exact ⟨_, rfl, H1.out, H2.out⟩
end Go.Proofs.Ythippdmfeeopkab
