/- Put together: ProductMath2, SeriesMath2, SeriesMath3, SeriesMath4, SeriesMath5, ProdCells. -/
import Derived.Test.YtiohainnpjikpaaDoorBun6
import Derived.Test.YtiohainnpjikpaaDoorBun5
import Derived.Lib.Bytealg
import Derived.Lib.Small
import Derived.Sort.Statements
import Derived.Test.YtiohainnpjikpaaDoorBun2
import Derived.Lib.Split
import Derived.Lib.SplitLaws
import Derived.Lib.Replace
import Derived.Lib.Strings
import Derived.Test.YtiohainnpjikpaaDoorBun1
/- Layer 9's mathematics: a product's line. -/
namespace QM
def cash : List UInt8 := [99, 97, 115, 104]
def physical : List UInt8 := [112, 104, 121, 115, 105, 99, 97, 108]
def word (b : Bool) : List UInt8 := if b then physical else cash
def fieldsOf (p : Prod) : List (List UInt8) := [p.name.data.toList, WM.textL p.cur, WM.textL p.mult, WM.textL p.tick, WM.textL p.low, WM.textL p.high, word p.phys]
def printL (p : Prod) : List UInt8 := WM.joinL (fieldsOf p)
def fAt (f : List (List UInt8)) (k : Nat) : List UInt8 := f.getD k []
def prodOf (f : List (List UInt8)) : Prod := ⟨⟨(fAt f 0).toArray⟩, WM.intN (fAt f 1), WM.intN (fAt f 2), WM.intN (fAt f 3), WM.intN (fAt f 4), WM.intN (fAt f 5), decide (fAt f 6 = physical)⟩
/-- seven fields, five numbers, one of the two words -/
def form (f : List (List UInt8)) : Prop := f.length = 7 ∧ (fAt f 6 = cash ∨ fAt f 6 = physical) ∧ WM.intE (fAt f 1) = 0 ∧ WM.intE (fAt f 2) = 0 ∧ WM.intE (fAt f 3) = 0 ∧ WM.intE (fAt f 4) = 0 ∧ WM.intE (fAt f 5) = 0
open Classical in
noncomputable def parE (l : List UInt8) : Int := if WM.fieldsE l ≠ 0 then WM.fieldsE l else if form (WM.fieldsN l) then checkE (prodOf (WM.fieldsN l)) else 5
open Classical in
noncomputable def parN (l : List UInt8) : Prod := if parE l = 0 then prodOf (WM.fieldsN l) else zero
theorem par_bad {l : List UInt8} (h : WM.fieldsE l ≠ 0) : parE l = WM.fieldsE l ∧ parN l = zero := by
  have e : parE l = WM.fieldsE l := by unfold parE; rw [if_pos h]
  exact ⟨e, by unfold parN; rw [e, if_neg h]⟩
theorem par_form {l : List UInt8} (h : WM.fieldsE l = 0) (h2 : ¬ form (WM.fieldsN l)) : parE l = 5 ∧ parN l = zero := by
  have e : parE l = 5 := by unfold parE; rw [if_neg (by simp [h]), if_neg h2]
  exact ⟨e, by unfold parN; rw [e, if_neg (by decide)]⟩
theorem par_check {l : List UInt8} (h : WM.fieldsE l = 0) (h2 : form (WM.fieldsN l)) (h3 : checkE (prodOf (WM.fieldsN l)) ≠ 0) : parE l = checkE (prodOf (WM.fieldsN l)) ∧ parN l = zero := by
  have e : parE l = checkE (prodOf (WM.fieldsN l)) := by unfold parE; rw [if_neg (by simp [h]), if_pos h2]
  exact ⟨e, by unfold parN; rw [e, if_neg h3]⟩
theorem par_ok {l : List UInt8} (h : WM.fieldsE l = 0) (h2 : form (WM.fieldsN l)) (h3 : checkE (prodOf (WM.fieldsN l)) = 0) : parE l = 0 ∧ parN l = prodOf (WM.fieldsN l) := by
  have e : parE l = 0 := by unfold parE; rw [if_neg (by simp [h]), if_pos h2, h3]
  exact ⟨e, by unfold parN; rw [if_pos e]⟩
theorem par_zero {l : List UInt8} (h : parE l = 0) : WM.fieldsE l = 0 ∧ form (WM.fieldsN l) ∧ checkE (prodOf (WM.fieldsN l)) = 0 ∧ parN l = prodOf (WM.fieldsN l) := by
  by_cases h1 : WM.fieldsE l = 0
  · by_cases h2 : form (WM.fieldsN l)
    · have e : parE l = checkE (prodOf (WM.fieldsN l)) := by unfold parE; rw [if_neg (by simp [h1]), if_pos h2]
      exact ⟨h1, h2, by rw [← e]; exact h, by unfold parN; rw [if_pos h]⟩
    · rw [(par_form h1 h2).1] at h; cases h
  · rw [(par_bad h1).1] at h; exact absurd h h1

/-- a number's text is one field -/
theorem text_field (n : Int) (h : n.natAbs ≤ 4294967296) : WM.fieldsE (WM.textL n) = 0 ∧ (WM.fieldsN (WM.textL n)).length = 1 := by
  rw [WM.one_field]
  have hd := WM.dec_dig n.natAbs
  have hl := WM.dec_length n.natAbs
  have hlen : (WM.dec n.natAbs).length ≤ 20 := by
    have key : ∀ k m : Nat, m < 10 ^ (k + 1) → (WM.dec m).length ≤ k + 1 := by
      intro k
      induction k with
      | zero => intro m hm; rw [WM.dec_small (by simpa using hm)]; simp
      | succ k ih =>
        intro m hm
        by_cases h10 : m < 10
        · rw [WM.dec_small h10]; simp
        · rw [WM.dec_big h10, List.length_append]
          have := ih (m / 10) (by rw [Nat.div_lt_iff_lt_mul (by omega)]; rw [Nat.pow_succ] at hm; omega)
          simp; omega
    have := key 19 n.natAbs (by omega)
    exact this
  have dig_in : ∀ c ∈ WM.dec n.natAbs, 48 ≤ c.toNat ∧ c.toNat ≤ 57 := by
    intro c hc
    have := List.all_eq_true.1 hd c hc
    simpa [WM.dig] using this
  have hall : ∀ c ∈ WM.textL n, 45 ≤ c.toNat ∧ c.toNat ≤ 57 := by
    intro c hc
    unfold WM.textL at hc
    split at hc
    · rcases List.mem_cons.1 hc with rfl | hc
      · decide
      · have := dig_in c hc; omega
    · have := dig_in c hc; omega
  refine ⟨?_, ?_, ?_, ?_⟩
  · unfold WM.textL
    split
    · simp
    · intro e; rw [e] at hl; simp at hl
  · unfold WM.textL
    split
    · rw [List.length_cons]; omega
    · omega
  · rw [List.all_eq_true]
    intro c hc
    have := hall c hc
    rw [WM.plain_true]; omega
  · intro hc
    have := hall _ hc
    simp at this
theorem word_field (b : Bool) : WM.fieldsE (word b) = 0 ∧ (WM.fieldsN (word b)).length = 1 := by
  rw [WM.one_field]; cases b <;> decide
theorem text_len (n : Int) (h : n.natAbs ≤ 4294967296) : (WM.textL n).length ≤ 21 := by
  have key : ∀ k m : Nat, m < 10 ^ (k + 1) → (WM.dec m).length ≤ k + 1 := by
    intro k
    induction k with
    | zero => intro m hm; rw [WM.dec_small (by simpa using hm)]; simp
    | succ k ih =>
      intro m hm
      by_cases h10 : m < 10
      · rw [WM.dec_small h10]; simp
      · rw [WM.dec_big h10, List.length_append]
        have := ih (m / 10) (by rw [Nat.div_lt_iff_lt_mul (by omega)]; rw [Nat.pow_succ] at hm; omega)
        simp; omega
  have := key 19 n.natAbs (by omega)
  unfold WM.textL
  split
  · rw [List.length_cons]; omega
  · omega
/-- a product that may be is read as it was printed -/
theorem par_print {p : Prod} (h : checkE p = 0) : parE (printL p) = 0 ∧ parN (printL p) = p := by
  obtain ⟨hn, hc, hm, ht, hl, _, _⟩ := check_parts h
  have nl : p.name.data.toList.length ≤ 12 := by
    unfold nameOk WM.name at hn
    simp only [Bool.and_eq_true, decide_eq_true_eq] at hn
    exact hn.2
  have hf : ∀ q ∈ fieldsOf p, WM.fieldsE q = 0 ∧ (WM.fieldsN q).length = 1 := by
    intro q hq
    simp only [fieldsOf, List.mem_cons, List.not_mem_nil, or_false] at hq
    rcases hq with rfl | rfl | rfl | rfl | rfl | rfl | rfl
    · exact WM.name_field hn
    · exact text_field _ (by omega)
    · exact text_field _ (by omega)
    · exact text_field _ (by omega)
    · exact text_field _ (by omega)
    · exact text_field _ (by omega)
    · exact word_field _
  have hlen : (WM.joinL (fieldsOf p)).length ≤ 512 := by
    have l1 := text_len p.cur (by omega)
    have l2 := text_len p.mult (by omega)
    have l3 := text_len p.tick (by omega)
    have l4 := text_len p.low (by omega)
    have l5 := text_len p.high (by omega)
    have nl2 : p.name.size ≤ 12 := by simpa using nl
    have l6 : (word p.phys).length ≤ 8 := by cases p.phys <;> decide
    simp [fieldsOf, WM.joinL]
    omega
  obtain ⟨e1, e2⟩ := WM.fields_join hf hlen
  have hint : ∀ n : Int, n.natAbs ≤ 4294967296 → WM.intE (WM.textL n) = 0 ∧ WM.intN (WM.textL n) = n := by
    intro n hn
    obtain ⟨a, b⟩ := WM.int_text n
    have hm : n.natAbs ≤ WM.most.natAbs := by unfold WM.most; omega
    rw [if_pos hm] at a
    exact ⟨a, b hm⟩
  obtain ⟨a1, b1⟩ := hint p.cur (by omega)
  obtain ⟨a2, b2⟩ := hint p.mult (by omega)
  obtain ⟨a3, b3⟩ := hint p.tick (by omega)
  obtain ⟨a4, b4⟩ := hint p.low (by omega)
  obtain ⟨a5, b5⟩ := hint p.high (by omega)
  have hform : form (fieldsOf p) := by
    refine ⟨rfl, ?_, a1, a2, a3, a4, a5⟩
    show word p.phys = cash ∨ word p.phys = physical
    cases p.phys
    · exact .inl rfl
    · exact .inr rfl
  have hprod : prodOf (fieldsOf p) = p := by
    have e6 : decide (word p.phys = physical) = p.phys := by cases p.phys <;> decide
    have e0 : (⟨(p.name.data.toList).toArray⟩ : ByteArray) = p.name := by simp
    show (⟨⟨(p.name.data.toList).toArray⟩, WM.intN (WM.textL p.cur), WM.intN (WM.textL p.mult), WM.intN (WM.textL p.tick), WM.intN (WM.textL p.low), WM.intN (WM.textL p.high), decide (word p.phys = physical)⟩ : Prod) = p
    rw [e0, b1, b2, b3, b4, b5, e6]
  have := par_ok (l := printL p) e1 (by unfold printL; rw [e2]; exact hform) (by unfold printL; rw [e2, hprod]; exact h)
  refine ⟨this.1, ?_⟩
  rw [this.2]
  unfold printL
  rw [e2, hprod]
/-- what is read is printed as the line -/
theorem print_par {l : List UInt8} (h : parE l = 0) : printL (parN l) = l ∧ checkE (parN l) = 0 := by
  obtain ⟨h1, ⟨h7, hw, i1, i2, i3, i4, i5⟩, h3, e⟩ := par_zero h
  rw [e]
  refine ⟨?_, h3⟩
  have hj := WM.join_fields h1
  generalize WM.fieldsN l = f at *
  have hf : fieldsOf (prodOf f) = f := by
    have hw2 : word (decide (fAt f 6 = physical)) = fAt f 6 := by
      by_cases g : fAt f 6 = physical
      · rw [decide_eq_true g, g]; rfl
      · rw [decide_eq_false g]
        rcases hw with hw | hw
        · rw [hw]; rfl
        · exact absurd hw g
    show [(⟨(fAt f 0).toArray⟩ : ByteArray).data.toList, WM.textL (WM.intN (fAt f 1)), WM.textL (WM.intN (fAt f 2)), WM.textL (WM.intN (fAt f 3)), WM.textL (WM.intN (fAt f 4)), WM.textL (WM.intN (fAt f 5)), word (decide (fAt f 6 = physical))] = f
    rw [WM.text_int i1, WM.text_int i2, WM.text_int i3, WM.text_int i4, WM.text_int i5, hw2]
    match f, h7 with
    | [a, b, c, d, e, g, k], _ => rfl
  unfold printL
  rw [hf]
  exact hj
end QM

/- Layer 10's mathematics: a series' text. -/
namespace EM
/-! texts cut at a point -/
theorem three_pieces {b : UInt8} {x y z : List UInt8} (hx : b ∉ x) (hy : b ∉ y) (hz : b ∉ z) : WM.pieces b (x ++ b :: (y ++ b :: z)) = [x, y, z] := by
  unfold WM.pieces WM.run
  rw [List.foldl_append, WM.foldl_in x hx, List.foldl_cons, List.foldl_append]
  have e1 : WM.step b ((([], []) : List (List UInt8) × List UInt8).1, (([], []) : List (List UInt8) × List UInt8).2 ++ x) b = ([x], []) := by simp [WM.step]
  rw [e1, WM.foldl_in y hy, List.foldl_cons]
  have e2 : WM.step b ((([x], []) : List (List UInt8) × List UInt8).1, (([x], []) : List (List UInt8) × List UInt8).2 ++ y) b = ([x, y], []) := by simp [WM.step]
  rw [e2, WM.foldl_in z hz]
  simp
/-- what the run has gone through -/
def flatB (b : UInt8) : List (List UInt8) → List UInt8
  | [] => []
  | p :: r => p ++ b :: flatB b r
theorem flatB_snoc (b : UInt8) (ps : List (List UInt8)) (q : List UInt8) : flatB b (ps ++ [q]) = flatB b ps ++ (q ++ [b]) := by
  induction ps with
  | nil => simp [flatB]
  | cons p ps ih => simp [flatB, ih]
theorem run_all (b : UInt8) (l : List UInt8) : flatB b (WM.run b l).1 ++ (WM.run b l).2 = l ∧ (∀ p ∈ (WM.run b l).1, b ∉ p) ∧ b ∉ (WM.run b l).2 := by
  induction l using WM.snoc_ind with
  | h0 => simp [WM.run_nil, flatB]
  | h1 l c ih =>
    obtain ⟨h1, h2, h3⟩ := ih
    by_cases h : c = b
    · subst h
      rw [WM.run_snoc_at]
      refine ⟨?_, ?_, by simp⟩
      · simp only
        rw [flatB_snoc, List.append_nil, ← List.append_assoc, h1]
      · intro p hp
        rcases List.mem_append.1 hp with hp | hp
        · exact h2 p hp
        · rw [List.mem_singleton.1 hp]; exact h3
    · rw [WM.run_snoc_in h]
      refine ⟨?_, h2, ?_⟩
      · simp only
        rw [← List.append_assoc, h1]
      · simp only [List.mem_append, List.mem_singleton]
        rintro (g | g)
        · exact h3 g
        · exact h g.symm
theorem pieces_three {b : UInt8} {l x y z : List UInt8} (h : WM.pieces b l = [x, y, z]) : l = x ++ b :: (y ++ b :: z) ∧ b ∉ x ∧ b ∉ y ∧ b ∉ z := by
  obtain ⟨h1, h2, h3⟩ := run_all b l
  unfold WM.pieces at h
  have h' : (WM.run b l).1 ++ [(WM.run b l).2] = [x, y] ++ [z] := h
  obtain ⟨e1, e2⟩ := List.append_inj' h' rfl
  injection e2 with e2
  rw [e1, e2] at h1
  rw [e1] at h2
  rw [e2] at h3
  refine ⟨?_, h2 x (by simp), h2 y (by simp), h3⟩
  rw [← h1]; simp [flatB]

/-! eight digits -/
def d8 (y m d : Int) : List UInt8 := [DM.ch (y / 1000), DM.ch (y / 100), DM.ch (y / 10), DM.ch y, DM.ch (m / 10), DM.ch m, DM.ch (d / 10), DM.ch d]
theorem dv_dval (c : UInt8) : WM.dval c = DM.dv c := rfl
theorem val8 (a b c d e f g h : UInt8) : WM.val [a, b, c, d, e, f, g, h] = 10000000 * DM.dv a + 1000000 * DM.dv b + 100000 * DM.dv c + 10000 * DM.dv d + 1000 * DM.dv e + 100 * DM.dv f + 10 * DM.dv g + DM.dv h := by
  unfold WM.val
  simp only [List.foldl_cons, List.foldl_nil, dv_dval]
  omega
theorem d8_val {y m d : Int} (hy : 0 ≤ y ∧ y ≤ 9999) (hm : 0 ≤ m ∧ m ≤ 99) (hd : 0 ≤ d ∧ d ≤ 99) : WM.val (d8 y m d) = 10000 * y + 100 * m + d := by
  unfold d8
  rw [val8]
  simp only [DM.ch_dv]
  omega
theorem isD_dig {c : UInt8} : WM.dig c = true ↔ DM.isD c := by unfold WM.dig DM.isD; simp
theorem eight {α : Type} (s : List α) (h : s.length = 8) : ∃ a b c d e f g k, s = [a, b, c, d, e, f, g, k] := by
  match s, h with
  | [a, b, c, d, e, f, g, k], _ => exact ⟨a, b, c, d, e, f, g, k, rfl⟩
theorem d8_of {l : List UInt8} (hl : l.length = 8) (ha : l.all WM.dig = true) : d8 (WM.val l / 10000) (WM.val l / 100 % 100) (WM.val l % 100) = l ∧ 0 ≤ WM.val l ∧ WM.val l ≤ 99999999 := by
  obtain ⟨a, b, c, d, e, f, g, k, rfl⟩ := eight l hl
  simp only [List.all_cons, List.all_nil, Bool.and_eq_true, Bool.and_true, isD_dig] at ha
  obtain ⟨ha, hb, hc, hd, he, hf, hg, hk⟩ := ha
  have ra := DM.dv_range ha
  have rb := DM.dv_range hb
  have rc := DM.dv_range hc
  have rd := DM.dv_range hd
  have re := DM.dv_range he
  have rf := DM.dv_range hf
  have rg := DM.dv_range hg
  have rk := DM.dv_range hk
  rw [val8]
  unfold d8
  refine ⟨?_, by omega, by omega⟩
  rw [DM.ch_of ha (by omega), DM.ch_of hb (by omega), DM.ch_of hc (by omega), DM.ch_of hd (by omega), DM.ch_of he (by omega), DM.ch_of hf (by omega), DM.ch_of hg (by omega), DM.ch_of hk (by omega)]
theorem d8_dig (y m d : Int) : (d8 y m d).length = 8 ∧ (d8 y m d).all WM.dig = true := by
  refine ⟨rfl, ?_⟩
  unfold d8
  simp only [List.all_cons, List.all_nil, Bool.and_eq_true, Bool.and_true, isD_dig]
  exact ⟨DM.ch_isD _, DM.ch_isD _, DM.ch_isD _, DM.ch_isD _, DM.ch_isD _, DM.ch_isD _, DM.ch_isD _, DM.ch_isD _⟩

/-! print -/
def may (s : Ser) : Prop := (1 ≤ s.kind ∧ s.kind ≤ 3) ∧ (0 ≤ s.expiry ∧ s.expiry ≤ 73048)
def tail (s : Ser) : List UInt8 := if s.kind = 1 then [102] else (if s.kind = 2 then 99 else 112) :: WM.textL s.strike
def txt (s : Ser) (y m d : Int) : List UInt8 := s.prod.data.toList ++ 46 :: (d8 y m d ++ 46 :: tail s)
open Classical in
noncomputable def printL (s : Ser) : List UInt8 :=
  if h : may s ∧ ∃ p : Int × Int × Int, DM.isDate s.expiry p.1 p.2.1 p.2.2 then txt s (Classical.choose h.2).1 (Classical.choose h.2).2.1 (Classical.choose h.2).2.2 else []
theorem print_is {s : Ser} {y m d : Int} (hk : 1 ≤ s.kind ∧ s.kind ≤ 3) (h : DM.isDate s.expiry y m d) : printL s = txt s y m d := by
  obtain ⟨_, _, _, r1, r2⟩ := DM.split_day h
  have hh : may s ∧ ∃ p : Int × Int × Int, DM.isDate s.expiry p.1 p.2.1 p.2.2 := ⟨⟨hk, r1, r2⟩, (y, m, d), h⟩
  unfold printL
  rw [dif_pos hh]
  obtain ⟨e1, e2, e3⟩ := DM.isDate_unique (Classical.choose_spec hh.2) h
  rw [e1, e2, e3]
theorem print_no {s : Ser} (h : ¬ may s) : printL s = [] := by
  unfold printL; rw [dif_neg (fun g => h g.1)]
theorem may_date {s : Ser} (h : may s) : ∃ y m d, DM.isDate s.expiry y m d := DM.isDate_exists h.2.1 h.2.2
theorem print_some {s : Ser} (h : may s) : printL s ≠ [] := by
  obtain ⟨y, m, d, hd⟩ := may_date h
  rw [print_is h.1 hd]
  unfold txt; simp

/-! parse -/
/-- three parts: a name, eight digits, and f or what begins with c or p -/
def form (ps : List (List UInt8)) : Prop := ∃ a b c, ps = [a, b, c] ∧ WM.name a = true ∧ (b.length = 8 ∧ b.all WM.dig = true) ∧ (c = [102] ∨ c.headD 0 = 99 ∨ c.headD 0 = 112)
def pA (t : List UInt8) : List UInt8 := (WM.pieces 46 t).getD 0 []
def pB (t : List UInt8) : List UInt8 := (WM.pieces 46 t).getD 1 []
def pC (t : List UInt8) : List UInt8 := (WM.pieces 46 t).getD 2 []
def yy (t : List UInt8) : Int := WM.val (pB t) / 10000
def mm (t : List UInt8) : Int := WM.val (pB t) / 100 % 100
def dd (t : List UInt8) : Int := WM.val (pB t) % 100
open Classical in
noncomputable def parE (t : List UInt8) : Int :=
  if form (WM.pieces 46 t) then
    if DM.ofE (yy t) (mm t) (dd t) ≠ 0 then 15 else if pC t = [102] then 0 else if WM.intE (pC t).tail ≠ 0 then WM.intE (pC t).tail else if (WM.intN (pC t).tail).natAbs ≤ 16777216 then 0 else 17
  else 5
open Classical in
noncomputable def parN (t : List UInt8) : Ser :=
  if parE t = 0 then ⟨⟨(pA t).toArray⟩, if pC t = [102] then 1 else if (pC t).headD 0 = 99 then 2 else 3, DM.ofN (yy t) (mm t) (dd t), if pC t = [102] then 0 else WM.intN (pC t).tail⟩ else zero
theorem par_form {t : List UInt8} (h : ¬ form (WM.pieces 46 t)) : parE t = 5 ∧ parN t = zero := by
  have e : parE t = 5 := by unfold parE; rw [if_neg h]
  exact ⟨e, by unfold parN; rw [e, if_neg (by decide)]⟩
theorem par_date {t : List UInt8} (h : form (WM.pieces 46 t)) (h2 : DM.ofE (yy t) (mm t) (dd t) ≠ 0) : parE t = 15 ∧ parN t = zero := by
  have e : parE t = 15 := by unfold parE; rw [if_pos h, if_pos h2]
  exact ⟨e, by unfold parN; rw [e, if_neg (by decide)]⟩
theorem par_future {t : List UInt8} (h : form (WM.pieces 46 t)) (h2 : DM.ofE (yy t) (mm t) (dd t) = 0) (h3 : pC t = [102]) : parE t = 0 ∧ parN t = ⟨⟨(pA t).toArray⟩, 1, DM.ofN (yy t) (mm t) (dd t), 0⟩ := by
  have e : parE t = 0 := by unfold parE; rw [if_pos h, if_neg (by simp [h2]), if_pos h3]
  exact ⟨e, by unfold parN; rw [if_pos e, if_pos h3, if_pos h3]⟩
theorem par_int {t : List UInt8} (h : form (WM.pieces 46 t)) (h2 : DM.ofE (yy t) (mm t) (dd t) = 0) (h3 : pC t ≠ [102]) (h4 : WM.intE (pC t).tail ≠ 0) : parE t = WM.intE (pC t).tail ∧ parN t = zero := by
  have e : parE t = WM.intE (pC t).tail := by unfold parE; rw [if_pos h, if_neg (by simp [h2]), if_neg h3, if_pos h4]
  exact ⟨e, by unfold parN; rw [e, if_neg h4]⟩
theorem par_price {t : List UInt8} (h : form (WM.pieces 46 t)) (h2 : DM.ofE (yy t) (mm t) (dd t) = 0) (h3 : pC t ≠ [102]) (h4 : WM.intE (pC t).tail = 0) (h5 : ¬ (WM.intN (pC t).tail).natAbs ≤ 16777216) : parE t = 17 ∧ parN t = zero := by
  have e : parE t = 17 := by unfold parE; rw [if_pos h, if_neg (by simp [h2]), if_neg h3, if_neg (by simp [h4]), if_neg h5]
  exact ⟨e, by unfold parN; rw [e, if_neg (by decide)]⟩
theorem par_option {t : List UInt8} (h : form (WM.pieces 46 t)) (h2 : DM.ofE (yy t) (mm t) (dd t) = 0) (h3 : pC t ≠ [102]) (h4 : WM.intE (pC t).tail = 0) (h5 : (WM.intN (pC t).tail).natAbs ≤ 16777216) :
    parE t = 0 ∧ parN t = ⟨⟨(pA t).toArray⟩, if (pC t).headD 0 = 99 then 2 else 3, DM.ofN (yy t) (mm t) (dd t), WM.intN (pC t).tail⟩ := by
  have e : parE t = 0 := by unfold parE; rw [if_pos h, if_neg (by simp [h2]), if_neg h3, if_neg (by simp [h4]), if_pos h5]
  exact ⟨e, by unfold parN; rw [if_pos e, if_neg h3, if_neg h3]⟩

/-- what is parsed is printed as it was -/
theorem print_par {t : List UInt8} (h : parE t = 0) : printL (parN t) = t := by
  by_cases hf : form (WM.pieces 46 t)
  · by_cases hd : DM.ofE (yy t) (mm t) (dd t) = 0
    · obtain ⟨a, b, c, hp, hn, ⟨hb8, hbd⟩, hc⟩ := hf
      have hf' : form (WM.pieces 46 t) := ⟨a, b, c, hp, hn, ⟨hb8, hbd⟩, hc⟩
      have eA : pA t = a := by unfold pA; rw [hp]; rfl
      have eB : pB t = b := by unfold pB; rw [hp]; rfl
      have eC : pC t = c := by unfold pC; rw [hp]; rfl
      obtain ⟨e8, v0, v1⟩ := d8_of hb8 hbd
      have ok : DM.okDate (yy t) (mm t) (dd t) := by
        unfold DM.ofE at hd
        split at hd
        · assumption
        · cases hd
      have hdate : DM.isDate (DM.ofN (yy t) (mm t) (dd t)) (yy t) (mm t) (dd t) := by
        refine ⟨ok, ?_⟩
        unfold DM.ofN; rw [if_pos ok]
      have e8' : d8 (yy t) (mm t) (dd t) = b := by unfold yy mm dd; rw [eB]; exact e8
      obtain ⟨ht, _, _, _⟩ := pieces_three hp
      by_cases h3 : pC t = [102]
      · obtain ⟨_, e⟩ := par_future hf' hd h3
        rw [e, print_is (y := yy t) (m := mm t) (d := dd t) (by simp) hdate]
        unfold txt tail
        rw [e8', eA]
        rw [eC] at h3
        simp only [if_true]
        rw [ht, h3]
      · by_cases h4 : WM.intE (pC t).tail = 0
        · by_cases h5 : (WM.intN (pC t).tail).natAbs ≤ 16777216
          · obtain ⟨_, e⟩ := par_option hf' hd h3 h4 h5
            have hk : ∀ k : Int, k = (if (pC t).headD 0 = 99 then 2 else 3) → 1 ≤ k ∧ k ≤ 3 := by intro k hk; subst hk; split <;> omega
            rw [e, print_is (y := yy t) (m := mm t) (d := dd t) (hk _ rfl) hdate]
            unfold txt tail
            rw [e8', eA]
            simp only
            rw [WM.text_int h4]
            have hne : ¬ ((if (pC t).headD 0 = 99 then (2 : Int) else 3) = 1) := by split <;> omega
            rw [if_neg hne]
            have hcc : (if (if (pC t).headD 0 = 99 then (2 : Int) else 3) = 2 then (99 : UInt8) else 112) :: (pC t).tail = c := by
              rw [eC] at h3 ⊢
              rcases hc with hc | hc | hc
              · exact absurd hc h3
              · cases c with
                | nil => simp at hc
                | cons x r =>
                  simp at hc
                  subst hc
                  simp
              · cases c with
                | nil => simp at hc
                | cons x r =>
                  simp at hc
                  subst hc
                  simp
            rw [hcc, ht]
          · rw [(par_price hf' hd h3 h4 h5).1] at h; cases h
        · rw [(par_int hf' hd h3 h4).1] at h; exact absurd h h4
    · rw [(par_date hf hd).1] at h; cases h
  · rw [(par_form hf).1] at h; cases h

theorem no_point_name {l : List UInt8} (h : WM.name l = true) : (46 : UInt8) ∉ l := by
  intro hm
  unfold WM.name at h
  simp only [Bool.and_eq_true] at h
  have := List.all_eq_true.1 h.1.1 _ hm
  revert this; decide
theorem no_point_dig {l : List UInt8} (h : l.all WM.dig = true) : (46 : UInt8) ∉ l := by
  intro hm
  have := List.all_eq_true.1 h _ hm
  revert this; decide
theorem no_point_text (n : Int) : (46 : UInt8) ∉ WM.textL n := by
  have := no_point_dig (WM.dec_dig n.natAbs)
  unfold WM.textL
  split
  · simp only [List.mem_cons, not_or]; exact ⟨by decide, this⟩
  · exact this
/-- what can be printed is parsed as it was -/
theorem par_print {s : Ser} (h : may s) (hn : WM.name s.prod.data.toList = true) (hs : -16777216 ≤ s.strike ∧ s.strike ≤ 16777216) (hf : s.kind = 1 → s.strike = 0) : parE (printL s) = 0 ∧ parN (printL s) = s := by
  obtain ⟨y, m, d, hd⟩ := may_date h
  obtain ⟨ok, hday⟩ := hd
  have okd := ok
  obtain ⟨y1, y2, m1, m2, d1, d2⟩ := ok
  have dr := DM.dim_range y m
  rw [print_is h.1 ⟨okd, hday⟩]
  obtain ⟨g8, gd⟩ := d8_dig y m d
  have ht : (46 : UInt8) ∉ tail s := by
    unfold tail
    split
    · decide
    · simp only [List.mem_cons, not_or]
      exact ⟨by split <;> decide, no_point_text _⟩
  have hp : WM.pieces 46 (txt s y m d) = [s.prod.data.toList, d8 y m d, tail s] := three_pieces (no_point_name hn) (no_point_dig gd) ht
  have hform : form (WM.pieces 46 (txt s y m d)) := by
    refine ⟨_, _, _, hp, hn, ⟨g8, gd⟩, ?_⟩
    unfold tail
    by_cases k1 : s.kind = 1
    · rw [if_pos k1]; exact .inl rfl
    · rw [if_neg k1]
      by_cases k2 : s.kind = 2
      · rw [if_pos k2]; exact .inr (.inl rfl)
      · rw [if_neg k2]; exact .inr (.inr rfl)
  have eA : pA (txt s y m d) = s.prod.data.toList := by unfold pA; rw [hp]; rfl
  have eB : pB (txt s y m d) = d8 y m d := by unfold pB; rw [hp]; rfl
  have eC : pC (txt s y m d) = tail s := by unfold pC; rw [hp]; rfl
  have ev := d8_val (y := y) (m := m) (d := d) ⟨by omega, by omega⟩ ⟨by omega, by omega⟩ ⟨by omega, by omega⟩
  have ey : yy (txt s y m d) = y := by unfold yy; rw [eB, ev]; omega
  have em : mm (txt s y m d) = m := by unfold mm; rw [eB, ev]; omega
  have ed : dd (txt s y m d) = d := by unfold dd; rw [eB, ev]; omega
  have hE : DM.ofE (yy (txt s y m d)) (mm (txt s y m d)) (dd (txt s y m d)) = 0 := by rw [ey, em, ed]; unfold DM.ofE; rw [if_pos okd]
  have hN : DM.ofN (yy (txt s y m d)) (mm (txt s y m d)) (dd (txt s y m d)) = s.expiry := by rw [ey, em, ed]; unfold DM.ofN; rw [if_pos okd, hday]
  have e0 : (⟨(s.prod.data.toList).toArray⟩ : ByteArray) = s.prod := by simp
  by_cases k1 : s.kind = 1
  · have hC : pC (txt s y m d) = [102] := by rw [eC]; unfold tail; rw [if_pos k1]
    obtain ⟨e1, e2⟩ := par_future hform hE hC
    refine ⟨e1, ?_⟩
    rw [e2, eA, hN, e0]
    have := hf k1
    cases s
    simp_all
  · have htail : tail s = (if s.kind = 2 then 99 else 112) :: WM.textL s.strike := by unfold tail; rw [if_neg k1]
    have hC : pC (txt s y m d) ≠ [102] := by
      rw [eC, htail]
      intro e
      injection e with e
      revert e
      split <;> decide
    have hrest : (pC (txt s y m d)).tail = WM.textL s.strike := by rw [eC, htail]; rfl
    obtain ⟨i1, i2⟩ := WM.int_text s.strike
    have hm : s.strike.natAbs ≤ WM.most.natAbs := by unfold WM.most; omega
    rw [if_pos hm] at i1
    have i3 := i2 hm
    obtain ⟨e1, e2⟩ := par_option hform hE hC (by rw [hrest]; exact i1) (by rw [hrest, i3]; omega)
    refine ⟨e1, ?_⟩
    rw [e2, eA, hN, e0, hrest, i3]
    have hk : (if (pC (txt s y m d)).headD 0 = 99 then (2 : Int) else 3) = s.kind := by
      rw [eC, htail]
      obtain ⟨⟨a1, a2⟩, _⟩ := h
      by_cases k2 : s.kind = 2
      · simp [k2]
      · have : s.kind = 3 := by omega
        simp [this]
    rw [hk]
end EM

/- Layer 10's mathematics: the library's comparisons, a sorted list made compact. -/
namespace EM
open Go
theorem cb_less : ∀ a b : List UInt8, Lib.compareBytes a b = if Op.bytesLess a b = true then -1 else if Op.bytesLess b a = true then 1 else 0
  | [], [] => by simp [Lib.compareBytes, Op.bytesLess]
  | [], _ :: _ => by simp [Lib.compareBytes, Op.bytesLess]
  | _ :: _, [] => by simp [Lib.compareBytes, Op.bytesLess]
  | a :: x, b :: y => by
    have ih := cb_less x y
    unfold Lib.compareBytes Op.bytesLess
    by_cases h1 : a < b
    · simp [h1]
    · by_cases h2 : b < a
      · have h3 : ¬ a = b := by intro e; subst e; exact absurd h2 (by simp)
        simp [h1, h2, h3]
      · have h3 : a = b := by
          have l1 : ¬ a.toNat < b.toNat := h1
          have l2 : ¬ b.toNat < a.toNat := h2
          exact UInt8.toNat_inj.1 (by omega)
        subst h3
        simp [h1, ih]
/-- the first that is not 0 -/
def orL : List Int → Int
  | [] => 0
  | x :: r => if x = 0 then orL r else x
theorem or_skip {l : List Int} {k : Nat} (h : k < l.length) (h0 : l[k] = 0) : orL (l.drop k) = orL (l.drop (k + 1)) := by
  rw [List.drop_eq_getElem_cons h, orL, if_pos h0]
theorem or_stop {l : List Int} {k : Nat} (h : k < l.length) (h0 : l[k] ≠ 0) : orL (l.drop k) = l[k] := by
  rw [List.drop_eq_getElem_cons h, orL, if_neg h0]
def four (a b : Ser) : List Int := [Lib.compareBytes a.prod.data.toList b.prod.data.toList, Lib.compareInt a.expiry b.expiry, Lib.compareInt a.kind b.kind, Lib.compareInt a.strike b.strike]
theorem ci_ord (x y : Int) : Lib.compareInt x y = ord x y := by unfold Lib.compareInt ord; rfl
theorem ord_zero {x y : Int} : ord x y = 0 ↔ x = y := by unfold ord; split <;> (try split) <;> constructor <;> intro h <;> omega
theorem cmp_or (a b : Ser) : orL (four a b) = cmp a b := by
  have e : Lib.compareBytes a.prod.data.toList b.prod.data.toList = if less a b = true then -1 else if less b a = true then 1 else 0 := by
    rw [cb_less]; unfold less; rw [Go.ByteArray.toList_eq, Go.ByteArray.toList_eq]
  unfold four
  rw [e]
  simp only [orL, ci_ord]
  unfold cmp
  by_cases h1 : less a b = true
  · rw [if_pos h1, if_pos h1, if_neg (by decide)]
  · rw [if_neg h1, if_neg h1]
    by_cases h2 : less b a = true
    · rw [if_pos h2, if_pos h2, if_neg (by decide)]
    · rw [if_neg h2, if_neg h2, if_pos rfl]
      by_cases h3 : a.expiry = b.expiry
      · rw [if_pos (ord_zero.2 h3), if_neg (show ¬ (a.expiry ≠ b.expiry) by simp [h3])]
        by_cases h4 : a.kind = b.kind
        · rw [if_pos (ord_zero.2 h4), if_neg (show ¬ (a.kind ≠ b.kind) by simp [h4])]
          by_cases h5 : a.strike = b.strike
          · rw [if_pos (ord_zero.2 h5), ord_zero.2 h5]
          · rw [if_neg (fun h => h5 (ord_zero.1 h))]
        · rw [if_neg (fun h => h4 (ord_zero.1 h)), if_pos h4]
      · rw [if_neg (fun h => h3 (ord_zero.1 h)), if_pos h3]

/-- the order that the sort asks for -/
def ltB (a b : Ser) : Bool := decide (cmp a b < 0)
theorem ltB_true {a b : Ser} : ltB a b = true ↔ lt a b := by
  unfold ltB
  rw [decide_eq_true_eq]
  rcases cmp_cases a b with ⟨h, g⟩ | ⟨h, g⟩ | ⟨h, g⟩
  · rw [h]; exact ⟨fun _ => g, fun _ => by decide⟩
  · rw [h]; subst g; exact ⟨fun h => absurd h (by decide), fun h => absurd h (lt_irrefl _)⟩
  · rw [h]; exact ⟨fun h => absurd h (by decide), fun h => absurd h (lt_asymm g)⟩
theorem ltB_false {a b : Ser} : ltB a b = false ↔ a = b ∨ lt b a := by
  rw [Bool.eq_false_iff, ne_eq, ltB_true]
  constructor
  · intro h
    rcases lt_tri a b with g | g | g
    · exact absurd g h
    · exact .inl g
    · exact .inr g
  · rintro (rfl | g)
    · exact lt_irrefl _
    · exact lt_asymm g
theorem swo : Go.Sort.SWO ltB where
  irrefl x := ltB_false.2 (.inl rfl)
  trans x y z h1 h2 := ltB_true.2 (lt_trans (ltB_true.1 h1) (ltB_true.1 h2))
  ntrans x y z h1 h2 := by
    rw [ltB_false] at *
    rcases h1 with rfl | h1
    · exact h2
    · rcases h2 with rfl | h2
      · exact .inr h1
      · exact .inr (lt_trans h2 h1)


/-- each run once: what stands so far, and one more -/
noncomputable def addL (out : List Ser) (s : Ser) : List Ser := if @decide (out.getLast? = some s) (Classical.propDecidable _) then out else out ++ [s]
noncomputable def cmpc (l : List Ser) : List Ser := l.foldl addL []
theorem addL_same {out : List Ser} {s : Ser} (h : out.getLast? = some s) : addL out s = out := by unfold addL; simp [h]
theorem addL_new {out : List Ser} {s : Ser} (h : out.getLast? ≠ some s) : addL out s = out ++ [s] := by unfold addL; simp [h]
theorem cmpc_snoc (l : List Ser) (s : Ser) : cmpc (l ++ [s]) = addL (cmpc l) s := by simp [cmpc]
theorem cmpc_last : ∀ (l : List Ser) (s : Ser), (cmpc (l ++ [s])).getLast? = some s := by
  intro l s
  rw [cmpc_snoc]
  by_cases h : (cmpc l).getLast? = some s
  · rw [addL_same h]; exact h
  · rw [addL_new h]; simp
theorem cmpc_take {l : List Ser} {k : Nat} (h : k < l.length) : cmpc (l.take (k + 1)) = addL (cmpc (l.take k)) l[k] := by
  rw [List.take_succ_eq_append_getElem h, cmpc_snoc]
theorem cmpc_last_take {l : List Ser} {k : Nat} (h0 : 0 < k) (h : k ≤ l.length) : (cmpc (l.take k)).getLast? = some (l[k - 1]'(by omega)) := by
  obtain ⟨j, rfl⟩ : ∃ j, k = j + 1 := ⟨k - 1, by omega⟩
  rw [List.take_succ_eq_append_getElem (by omega)]
  exact cmpc_last _ _
/-- the next is the same as the one ahead; it is another -/
theorem cmpc_same {l : List Ser} {k : Nat} (h0 : 0 < k) (h : k < l.length) (e : l[k] = l[k - 1]) : cmpc (l.take (k + 1)) = cmpc (l.take k) := by
  rw [cmpc_take h]
  exact addL_same (by rw [cmpc_last_take h0 (by omega), e])
theorem cmpc_other {l : List Ser} {k : Nat} (h0 : 0 < k) (h : k < l.length) (e : l[k] ≠ l[k - 1]) : cmpc (l.take (k + 1)) = cmpc (l.take k) ++ [l[k]] := by
  rw [cmpc_take h]
  refine addL_new ?_
  rw [cmpc_last_take h0 (by omega)]
  intro g
  injection g with g
  exact e g.symm
theorem cmpc_one {l : List Ser} (h : l.length ≤ 1) : cmpc l = l := by
  match l, h with
  | [], _ => rfl
  | [a], _ => simp [cmpc, addL]
theorem cmpc_len (l : List Ser) : ∀ k, k ≤ l.length → (cmpc (l.take k)).length ≤ k := by
  intro k
  induction k with
  | zero => intro _; simp [cmpc]
  | succ k ih =>
    intro h
    rw [cmpc_take (by omega)]
    have := ih (by omega)
    unfold addL
    split
    · omega
    · rw [List.length_append]; simp; omega
theorem cmpc_mem (l : List Ser) : ∀ k, k ≤ l.length → ∀ y, y ∈ cmpc (l.take k) ↔ y ∈ l.take k := by
  intro k
  induction k with
  | zero => intro _ y; simp [cmpc]
  | succ k ih =>
    intro h y
    have hk : k < l.length := by omega
    rw [cmpc_take hk, List.take_succ_eq_append_getElem hk, List.mem_append, List.mem_singleton]
    by_cases e : (cmpc (l.take k)).getLast? = some l[k]
    · rw [addL_same e, ih (by omega)]
      constructor
      · exact .inl
      · rintro (g | g)
        · exact g
        · rw [← ih (by omega), g]
          exact List.mem_of_getLast? e
    · rw [addL_new e, List.mem_append, List.mem_singleton, ih (by omega)]
theorem cmpc_asc (l : List Ser) (hs : ∀ i j (hi : i < l.length) (hj : j < l.length), i < j → ltB l[j] l[i] = false) : ∀ k, k ≤ l.length → asc (cmpc (l.take k)) ∧ (∀ y ∈ cmpc (l.take k), ∀ j (hj : j < l.length), k ≤ j → y = l[j] ∨ lt y l[j]) := by
  intro k
  induction k with
  | zero => intro _; exact ⟨by simp [cmpc, asc], by simp [cmpc]⟩
  | succ k ih =>
    intro h
    have hk : k < l.length := by omega
    obtain ⟨h1, h2⟩ := ih (by omega)
    rw [cmpc_take hk]
    have hn : ∀ j (hj : j < l.length), k + 1 ≤ j → l[k] = l[j] ∨ lt l[k] l[j] := by
      intro j hj hkj
      rcases ltB_false.1 (hs k j hk hj (by omega)) with g | g
      · exact .inl g.symm
      · exact .inr g
    by_cases e : (cmpc (l.take k)).getLast? = some l[k]
    · rw [addL_same e]
      exact ⟨h1, fun y hy j hj hkj => h2 y hy j hj (by omega)⟩
    · rw [addL_new e]
      have hlt : ∀ y ∈ cmpc (l.take k), lt y l[k] := by
        intro y hy
        rcases h2 y hy k hk (Nat.le_refl _) with g | g
        · exfalso
          -- y is the last one's equal, and nothing but the last one can be that
          subst g
          obtain ⟨i, hi, ei⟩ := List.getElem_of_mem hy
          by_cases hl : i = (cmpc (l.take k)).length - 1
          · apply e
            rw [List.getLast?_eq_getElem?, ← hl, List.getElem?_eq_getElem hi, ei]
          · have hlast := List.pairwise_iff_getElem.1 h1 i ((cmpc (l.take k)).length - 1) hi (by omega) (by omega)
            rw [ei] at hlast
            rcases h2 _ (List.getElem_mem (by omega : (cmpc (l.take k)).length - 1 < (cmpc (l.take k)).length)) k hk (Nat.le_refl _) with g | g
            · rw [g] at hlast; exact lt_irrefl _ hlast
            · exact lt_asymm g hlast
        · exact g
      refine ⟨?_, ?_⟩
      · unfold asc
        rw [List.pairwise_append]
        refine ⟨h1, by simp, ?_⟩
        intro a ha b hb
        rw [List.mem_singleton.1 hb]
        exact hlt a ha
      · intro y hy j hj hkj
        rcases List.mem_append.1 hy with hy | hy
        · exact h2 y hy j hj (by omega)
        · rw [List.mem_singleton.1 hy]; exact hn j hj hkj
/-- a sorted permutation made compact is the list in order, each once -/
theorem cmpc_sort {l k : List Ser} (hp : k.Perm l) (hs : ∀ i j (hi : i < k.length) (hj : j < k.length), i < j → ltB k[j] k[i] = false) : cmpc k = sortL l := by
  have h1 := (cmpc_asc k hs k.length (Nat.le_refl _)).1
  have h2 := cmpc_mem k k.length (Nat.le_refl _)
  rw [List.take_length] at h1 h2
  exact sort_of_asc h1 (fun y => by rw [h2, hp.mem_iff])
theorem cmpc_size (l : List Ser) : (cmpc l).length ≤ l.length := by
  have := cmpc_len l l.length (Nat.le_refl _)
  rwa [List.take_length] at this
end EM

/- Layer 10's mathematics: a text cut at a byte as the library cuts it, and a byte struck out. -/
namespace EM
open Go
theorem step_ps (b : UInt8) (l : List UInt8) : ∀ (ps : List (List UInt8)) (q : List UInt8), l.foldl (WM.step b) (ps, q) = (ps ++ (l.foldl (WM.step b) ([], q)).1, (l.foldl (WM.step b) ([], q)).2) := by
  induction l with
  | nil => intro ps q; simp
  | cons c l ih =>
    intro ps q
    rw [List.foldl_cons, List.foldl_cons]
    by_cases h : c = b
    · have e1 : WM.step b (ps, q) c = (ps ++ [q], []) := by simp [WM.step, h]
      have e2 : WM.step b ([], q) c = ([q], []) := by simp [WM.step, h]
      rw [e1, e2, ih (ps ++ [q]), ih [q]]
      simp
    · have e1 : WM.step b (ps, q) c = (ps, q ++ [c]) := by simp [WM.step, h]
      have e2 : WM.step b ([], q) c = ([], q ++ [c]) := by simp [WM.step, h]
      rw [e1, e2, ih ps]
theorem pieces_no {b : UInt8} {l : List UInt8} (h : b ∉ l) : WM.pieces b l = [l] := by unfold WM.pieces; rw [WM.run_no h]; rfl
theorem pieces_at {b : UInt8} {x : List UInt8} (h : b ∉ x) (y : List UInt8) : WM.pieces b (x ++ b :: y) = x :: WM.pieces b y := by
  have e : WM.run b (x ++ b :: y) = ([x] ++ (WM.run b y).1, (WM.run b y).2) := by
    unfold WM.run
    rw [List.foldl_append, List.foldl_cons]
    have e1 : x.foldl (WM.step b) ([], []) = ([], x) := WM.run_no h
    rw [e1]
    have e2 : WM.step b ([], x) b = ([x], []) := by simp [WM.step]
    rw [e2, step_ps]
  unfold WM.pieces
  rw [e]; rfl
theorem pieces_pos (b : UInt8) (l : List UInt8) : 0 < (WM.pieces b l).length := by unfold WM.pieces; simp
theorem index_no {c : UInt8} : ∀ {s : List UInt8}, c ∉ s → Lib.index s [c] = -1 := by
  intro s
  induction s with
  | nil => intro _; rfl
  | cons b l ih =>
    intro h
    have h1 : ¬ c = b := fun e => h (by simp [e])
    have h2 : c ∉ l := fun e => h (by simp [e])
    unfold Lib.index
    rw [ih h2]
    simp [List.isPrefixOf, h1]
theorem index_at {c : UInt8} : ∀ {x : List UInt8}, c ∉ x → ∀ y, Lib.index (x ++ c :: y) [c] = x.length := by
  intro x
  induction x with
  | nil => intro _ y; simp [Lib.index, List.isPrefixOf]
  | cons b l ih =>
    intro h y
    have h1 : ¬ c = b := fun e => h (by simp [e])
    have h2 : c ∉ l := fun e => h (by simp [e])
    rw [List.cons_append]
    unfold Lib.index
    rw [ih h2]
    have h3 : ¬ ((l.length : Int) == -1) = true := by simp
    rw [if_neg (by simp [List.isPrefixOf, h1]), if_neg h3]
    simp
theorem split_pieces (c : UInt8) : ∀ (k : Nat) (s : List UInt8), ((WM.pieces c s).length ≤ k + 1 → Lib.splitK [c] 0 k s = WM.pieces c s) ∧ (k + 1 ≤ (WM.pieces c s).length → (Lib.splitK [c] 0 k s).length = k + 1) := by
  intro k
  induction k with
  | zero =>
    intro s
    refine ⟨fun h => ?_, fun _ => rfl⟩
    by_cases hc : c ∈ s
    · obtain ⟨x, y, rfl, hx⟩ := List.eq_append_cons_of_mem hc
      rw [pieces_at hx] at h
      have := pieces_pos c y
      simp at h
      rw [h] at this; simp at this
    · rw [pieces_no hc]; rfl
  | succ k ih =>
    intro s
    by_cases hc : c ∈ s
    · obtain ⟨x, y, rfl, hx⟩ := List.eq_append_cons_of_mem hc
      have e : Lib.splitK [c] 0 (k + 1) (x ++ c :: y) = x :: Lib.splitK [c] 0 k y := by
        have h3 : ¬ (Lib.index (x ++ c :: y) [c] == -1) = true := by rw [index_at hx]; simp
        rw [Lib.splitK, if_neg h3, index_at hx]
        simp
      rw [e, pieces_at hx]
      obtain ⟨h1, h2⟩ := ih y
      refine ⟨fun h => ?_, fun h => ?_⟩
      · rw [h1 (by simpa using h)]
      · rw [List.length_cons, h2 (by simpa using h)]
    · have e : Lib.splitK [c] 0 (k + 1) s = [s] := by rw [Lib.splitK, if_pos (by rw [index_no hc]; rfl)]
      rw [e, pieces_no hc]
      exact ⟨fun _ => rfl, fun h => absurd h (by simp)⟩
theorem pieces_short (c : UInt8) : ∀ (n : Nat) (s : List UInt8), s.length ≤ n → (WM.pieces c s).length ≤ s.length + 1 := by
  intro n
  induction n with
  | zero =>
    intro s h
    have : s = [] := List.eq_nil_of_length_eq_zero (by omega)
    subst this
    rw [pieces_no (by simp)]; simp
  | succ n ih =>
    intro s h
    by_cases hc : c ∈ s
    · obtain ⟨x, y, rfl, hx⟩ := List.eq_append_cons_of_mem hc
      rw [pieces_at hx]
      have hl : y.length ≤ n := by simp at h; omega
      have := ih y hl
      simp; omega
    · rw [pieces_no hc]; simp
/-- cut in four at most: three pieces, and no more -/
theorem split_three (c : UInt8) (s : List UInt8) : ((Lib.splitK [c] 0 (min 4 (s.length + 1) - 1) s).length = 3 ↔ (WM.pieces c s).length = 3) ∧ ((WM.pieces c s).length = 3 → Lib.splitK [c] 0 (min 4 (s.length + 1) - 1) s = WM.pieces c s) ∧ (Lib.splitK [c] 0 (min 4 (s.length + 1) - 1) s).length ≤ min 4 (s.length + 1) := by
  have hb := pieces_short c s.length s (Nat.le_refl _)
  generalize hk : min 4 (s.length + 1) - 1 = k
  have hk1 : k + 1 = min 4 (s.length + 1) := by omega
  obtain ⟨h1, h2⟩ := split_pieces c k s
  by_cases h : (WM.pieces c s).length ≤ k + 1
  · rw [h1 h]
    exact ⟨Iff.rfl, fun _ => rfl, by omega⟩
  · have := h2 (by omega)
    refine ⟨?_, ?_, by omega⟩
    · rw [this]; constructor <;> intro g <;> omega
    · intro g; omega
theorem strike_out (c : UInt8) : ∀ (k : Nat) (s : List UInt8), Lib.count s [c] = k → Lib.replaceK [c] [] k s = s.filter (fun b => !(b == c)) := by
  intro k
  induction k with
  | zero =>
    intro s h
    rw [Lib.count_one, List.count_eq_zero] at h
    rw [Lib.replaceK]
    rw [List.filter_eq_self.2]
    intro a ha
    simp only [Bool.not_eq_true', beq_eq_false_iff_ne, ne_eq]
    intro e; subst e; exact h ha
  | succ k ih =>
    intro s h
    have hc : c ∈ s := by
      rw [Lib.count_one] at h
      exact List.count_pos_iff.1 (by omega)
    obtain ⟨x, y, rfl, hx⟩ := List.eq_append_cons_of_mem hc
    rw [Lib.replaceK_hit [c] [] k _ x.length (index_at hx y)]
    have hy : Lib.count y [c] = k := by
      rw [Lib.count_one] at h ⊢
      rw [List.count_append, List.count_cons_self, List.count_eq_zero.2 hx] at h
      omega
    have e1 : (x ++ c :: y).take x.length = x := by simp
    have e2 : (x ++ c :: y).drop (x.length + [c].length) = y := by simp
    rw [e1, e2, ih y hy, List.filter_append, List.filter_cons]
    have e3 : x.filter (fun b => !(b == c)) = x := by
      rw [List.filter_eq_self]
      intro a ha
      simp only [Bool.not_eq_true', beq_eq_false_iff_ne, ne_eq]
      intro e; subst e; exact hx ha
    rw [e3]
    simp
theorem replace_out (c : UInt8) (s : List UInt8) : Lib.replaceAll s [c] [] = s.filter (fun b => !(b == c)) := by
  unfold Lib.replaceAll Lib.replace
  rw [if_neg (by simp)]
  unfold Lib.replaceNum
  rw [if_pos (.inl (by decide))]
  exact strike_out c _ s rfl
end EM

/- Layer 10's mathematics: eight digits as a date, the last part's kind, a date without its strokes. -/
namespace EM
open Go
set_option linter.unusedSimpArgs false
theorem strokes (y m d : Int) : Lib.replaceAll (DM.dateL y m d) [45] [] = d8 y m d := by
  have hc : ∀ n, (DM.ch n == 45) = false := fun n => by
    have := DM.ch_isD n
    unfold DM.isD at this
    rw [beq_eq_false_iff_ne]
    intro e
    rw [e] at this
    revert this; decide
  rw [replace_out]
  unfold DM.dateL d8
  simp [hc]
def tenL (b : List UInt8) : List UInt8 := (b.take 4 ++ [45]) ++ (b.take 6).drop 4 ++ [45] ++ b.drop 6
theorem ten_digits {b : List UInt8} (h8 : b.length = 8) (hd : b.all WM.dig = true) : DM.parE (tenL b) = DM.ofE (WM.val b / 10000) (WM.val b / 100 % 100) (WM.val b % 100) ∧ DM.parN (tenL b) = DM.ofN (WM.val b / 10000) (WM.val b / 100 % 100) (WM.val b % 100) := by
  obtain ⟨a, b', c, d, e, f, g, k, rfl⟩ := eight b h8
  simp only [List.all_cons, List.all_nil, Bool.and_eq_true, Bool.and_true, isD_dig] at hd
  obtain ⟨h1, h2, h3, h4, h5, h6, h7, h9⟩ := hd
  have ex : tenL [a, b', c, d, e, f, g, k] = [a, b', c, d, 45, e, f, 45, g, k] := rfl
  have hf : DM.formB (tenL [a, b', c, d, e, f, g, k]) = true := DM.formB_true.2 ⟨a, b', c, d, e, f, g, k, ex, h1, h2, h3, h4, h5, h6, h7, h9⟩
  have r1 := DM.dv_range h1; have r2 := DM.dv_range h2; have r3 := DM.dv_range h3; have r4 := DM.dv_range h4; have r5 := DM.dv_range h5; have r6 := DM.dv_range h6; have r7 := DM.dv_range h7; have r8 := DM.dv_range h9
  have y1 : DM.yearOf (tenL [a, b', c, d, e, f, g, k]) = 1000 * DM.dv a + 100 * DM.dv b' + 10 * DM.dv c + DM.dv d := by
    show DM.dgo 0 [a, b', c, d] = _
    simp only [DM.dgo, h1, h2, h3, h4, if_true, if_pos]; omega
  have y2 : DM.monthOf (tenL [a, b', c, d, e, f, g, k]) = 10 * DM.dv e + DM.dv f := by
    show DM.dgo 0 [e, f] = _
    simp only [DM.dgo, h5, h6, if_true, if_pos]; omega
  have y3 : DM.dayIn (tenL [a, b', c, d, e, f, g, k]) = 10 * DM.dv g + DM.dv k := by
    show DM.dgo 0 [g, k] = _
    simp only [DM.dgo, h7, h9, if_true, if_pos]; omega
  have v := val8 a b' c d e f g k
  have z1 : WM.val [a, b', c, d, e, f, g, k] / 10000 = 1000 * DM.dv a + 100 * DM.dv b' + 10 * DM.dv c + DM.dv d := by rw [v]; omega
  have z2 : WM.val [a, b', c, d, e, f, g, k] / 100 % 100 = 10 * DM.dv e + DM.dv f := by rw [v]; omega
  have z3 : WM.val [a, b', c, d, e, f, g, k] % 100 = 10 * DM.dv g + DM.dv k := by rw [v]; omega
  unfold DM.parE DM.parN
  rw [if_pos hf, if_pos hf, y1, y2, y3, z1, z2, z3]
  exact ⟨rfl, rfl⟩
theorem ten_others {b : List UInt8} (h8 : b.length = 8) (hd : b.all WM.dig = false) : DM.parE (tenL b) = 5 ∧ DM.parN (tenL b) = 0 := by
  obtain ⟨a, b', c, d, e, f, g, k, rfl⟩ := eight b h8
  have hf : DM.formB (tenL [a, b', c, d, e, f, g, k]) = false := by
    rw [DM.formB_false]
    rintro ⟨a1, b1, c1, d1, e1, f1, g1, k1, ex, h1, h2, h3, h4, h5, h6, h7, h9⟩
    have ex2 : tenL [a, b', c, d, e, f, g, k] = [a, b', c, d, 45, e, f, 45, g, k] := rfl
    rw [ex2] at ex
    simp only [List.cons.injEq, and_true, true_and] at ex
    obtain ⟨rfl, rfl, rfl, rfl, rfl, rfl, rfl, rfl⟩ := ex
    have : ([a, b', c, d, e, f, g, k] : List UInt8).all WM.dig = true := by
      simp only [List.all_cons, List.all_nil, Bool.and_eq_true, Bool.and_true, isD_dig]
      exact ⟨h1, h2, h3, h4, h5, h6, h7, h9⟩
    rw [this] at hd; cases hd
  unfold DM.parE DM.parN
  rw [hf]
  exact ⟨rfl, rfl⟩
theorem of_cases (y m d : Int) : DM.ofE y m d = 0 ∨ DM.ofE y m d = 15 := by unfold DM.ofE; split <;> simp
theorem pre_one {b : UInt8} (hb : b ≠ 0) (c : List UInt8) : Lib.hasPrefix c [b] = decide (c.headD 0 = b) := by
  unfold Lib.hasPrefix
  cases c with
  | nil => simp [List.isPrefixOf]; exact fun e => hb e.symm
  | cons x r =>
    by_cases h : x = b
    · simp [List.isPrefixOf, h]
    · have h' : ¬ b = x := fun e => h e.symm
      simp [List.isPrefixOf, h, h']
theorem trim_one {b : UInt8} (c : List UInt8) (h : Lib.hasPrefix c [b] = true) : Lib.trimPrefix c [b] = c.tail := by unfold Lib.trimPrefix; rw [if_pos h]; simp
/-- the last part's kind, what follows its letter, and whether it has one -/
def ckK (c : List UInt8) : Int := if c = [102] then 1 else if c.headD 0 = 99 then 2 else if c.headD 0 = 112 then 3 else 0
def ckR (c : List UInt8) : List UInt8 := if c = [102] then [] else if c.headD 0 = 99 ∨ c.headD 0 = 112 then c.tail else []
def ckB (c : List UInt8) : Bool := decide (c = [102] ∨ c.headD 0 = 99 ∨ c.headD 0 = 112)
end EM

/- Products and series in memory, over any program. -/
namespace Go.Recs
open Go.RowKit
set_option linter.unusedVariables false
def i64 (n : Int) : Prop := -9223372036854775808 ≤ n ∧ n ≤ 9223372036854775807
def prodV (p : QM.Prod) : List Value := [.string p.name, .int .i64 p.cur, .int .i64 p.mult, .int .i64 p.tick, .int .i64 p.low, .int .i64 p.high, .bool p.phys]
def prodQ (p : QM.Prod) : Prop := p.name.size ≤ maxLen ∧ i64 p.cur ∧ i64 p.mult ∧ i64 p.tick ∧ i64 p.low ∧ i64 p.high
def prodL : List Leaf := [.str, .int .i64, .int .i64, .int .i64, .int .i64, .int .i64, .bool]
def serV (s : EM.Ser) : List Value := [.string s.prod, .int .i64 s.kind, .int .i64 s.expiry, .int .i64 s.strike]
def serQ (s : EM.Ser) : Prop := s.prod.size ≤ maxLen ∧ i64 s.kind ∧ i64 s.expiry ∧ i64 s.strike
def serL : List Leaf := [.str, .int .i64, .int .i64, .int .i64]
theorem okAll_cons {l : Leaf} {ls : List Leaf} {r : List Value} (h : okAll (l :: ls) r) : ∃ c r', r = c :: r' ∧ l.ok c ∧ okAll ls r' := by
  cases r with
  | nil => exact h.elim
  | cons c r => exact ⟨c, r, rfl, h.1, h.2⟩
theorem okAll_nil {r : List Value} (h : okAll [] r) : r = [] := by
  cases r with
  | nil => rfl
  | cons c r => exact h.elim
theorem prod_row (r : List Value) (h : okAll prodL r) : ∃ p : QM.Prod, r = prodV p ∧ prodQ p := by
  obtain ⟨c0, r0, rfl, ⟨s, rfl, hs⟩, g0⟩ := okAll_cons h
  obtain ⟨c1, r1, rfl, ⟨n1, rfl, h1⟩, g1⟩ := okAll_cons g0
  obtain ⟨c2, r2, rfl, ⟨n2, rfl, h2⟩, g2⟩ := okAll_cons g1
  obtain ⟨c3, r3, rfl, ⟨n3, rfl, h3⟩, g3⟩ := okAll_cons g2
  obtain ⟨c4, r4, rfl, ⟨n4, rfl, h4⟩, g4⟩ := okAll_cons g3
  obtain ⟨c5, r5, rfl, ⟨n5, rfl, h5⟩, g5⟩ := okAll_cons g4
  obtain ⟨c6, r6, rfl, ⟨b, rfl⟩, g6⟩ := okAll_cons g5
  rw [okAll_nil g6]
  exact ⟨⟨s, n1, n2, n3, n4, n5, b⟩, rfl, hs, bounds_i64 h1, bounds_i64 h2, bounds_i64 h3, bounds_i64 h4, bounds_i64 h5⟩
theorem ser_row (r : List Value) (h : okAll serL r) : ∃ s : EM.Ser, r = serV s ∧ serQ s := by
  obtain ⟨c0, r0, rfl, ⟨s, rfl, hs⟩, g0⟩ := okAll_cons h
  obtain ⟨c1, r1, rfl, ⟨n1, rfl, h1⟩, g1⟩ := okAll_cons g0
  obtain ⟨c2, r2, rfl, ⟨n2, rfl, h2⟩, g2⟩ := okAll_cons g1
  obtain ⟨c3, r3, rfl, ⟨n3, rfl, h3⟩, g3⟩ := okAll_cons g2
  rw [okAll_nil g3]
  exact ⟨⟨s, n1, n2, n3⟩, rfl, hs, bounds_i64 h1, bounds_i64 h2, bounds_i64 h3⟩
abbrev Prods := TR prodV prodQ 7
abbrev Sers := TR serV serQ 4
theorem prods_get {w : World} {A : Option Addr} {l : List QM.Prod} (h : Prods w A l) {k : Nat} (hk : k < l.length) :
    ∃ b off, ∃ p : QM.Prod, A = some ⟨b, off, none⟩ ∧ b < w.heap.size ∧ Hid (QM.pAt l k = p) ∧ prodQ p ∧ w.cell? ⟨b, off + k * 7, none⟩ = some (.string p.name) ∧ w.cell? ⟨b, off + k * 7 + 1, none⟩ = some (.int .i64 p.cur) ∧
      w.cell? ⟨b, off + k * 7 + 2, none⟩ = some (.int .i64 p.mult) ∧ w.cell? ⟨b, off + k * 7 + 3, none⟩ = some (.int .i64 p.tick) ∧ w.cell? ⟨b, off + k * 7 + 4, none⟩ = some (.int .i64 p.low) ∧
      w.cell? ⟨b, off + k * 7 + 5, none⟩ = some (.int .i64 p.high) ∧ w.cell? ⟨b, off + k * 7 + 6, none⟩ = some (.bool p.phys) := by
  obtain ⟨b, off, rfl, hb, hq, hc⟩ := h.at_ hk
  refine ⟨b, off, l[k], rfl, hb, Lib.hid (by simp [QM.pAt, List.getD, hk]), hq, hc 0 (by omega), hc 1 (by omega), hc 2 (by omega), hc 3 (by omega), hc 4 (by omega), hc 5 (by omega), hc 6 (by omega)⟩
def sAt (l : List EM.Ser) (k : Nat) : EM.Ser := l.getD k EM.zero
theorem sers_get {w : World} {A : Option Addr} {l : List EM.Ser} (h : Sers w A l) {k : Nat} (hk : k < l.length) :
    ∃ b off, ∃ s : EM.Ser, A = some ⟨b, off, none⟩ ∧ b < w.heap.size ∧ Hid (sAt l k = s) ∧ serQ s ∧ w.cell? ⟨b, off + k * 4, none⟩ = some (.string s.prod) ∧ w.cell? ⟨b, off + k * 4 + 1, none⟩ = some (.int .i64 s.kind) ∧
      w.cell? ⟨b, off + k * 4 + 2, none⟩ = some (.int .i64 s.expiry) ∧ w.cell? ⟨b, off + k * 4 + 3, none⟩ = some (.int .i64 s.strike) := by
  obtain ⟨b, off, rfl, hb, hq, hc⟩ := h.at_ hk
  refine ⟨b, off, l[k], rfl, hb, Lib.hid (by simp [sAt, List.getD, hk]), hq, hc 0 (by omega), hc 1 (by omega), hc 2 (by omega), hc 3 (by omega)⟩
end Go.Recs
