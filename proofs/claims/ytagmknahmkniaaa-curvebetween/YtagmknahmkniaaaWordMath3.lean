/- Lines, fields and how they are put together. -/
import Derived.Test.YtagmknahmkniaaaWordMath2
namespace WM

/-- one byte more: what is complete, and what is under way -/
def step (b : UInt8) (s : List (List UInt8) × List UInt8) (c : UInt8) : List (List UInt8) × List UInt8 := if c = b then (s.1 ++ [s.2], []) else (s.1, s.2 ++ [c])
def run (b : UInt8) (l : List UInt8) : List (List UInt8) × List UInt8 := l.foldl (step b) ([], [])
/-- all pieces, the last one too -/
def pieces (b : UInt8) (l : List UInt8) : List (List UInt8) := (run b l).1 ++ [(run b l).2]
def plain (c : UInt8) : Bool := decide (32 ≤ c.toNat) && decide (c.toNat ≤ 126)
def full (ps : List (List UInt8)) : Bool := ps.all fun p => decide (p ≠ [])
def fieldsE (l : List UInt8) : Int := if 512 < l.length then 8 else if l = [] then 0 else if (l.all plain && full (pieces 32 l)) = true then 0 else 5
def fieldsN (l : List UInt8) : List (List UInt8) := if fieldsE l = 0 ∧ l ≠ [] then pieces 32 l else []
def linesE (l : List UInt8) : Int := if 65536 < l.length then 8 else 0
def linesN (l : List UInt8) : List (List UInt8) := if 65536 < l.length then [] else if (run 10 l).2 = [] then (run 10 l).1 else pieces 10 l
def joinL : List (List UInt8) → List UInt8
  | [] => []
  | [p] => p
  | p :: q :: r => p ++ 32 :: joinL (q :: r)

theorem run_nil (b : UInt8) : run b [] = ([], []) := rfl
theorem run_snoc (b : UInt8) (l : List UInt8) (c : UInt8) : run b (l ++ [c]) = step b (run b l) c := by simp [run]
theorem run_snoc_at (b : UInt8) (l : List UInt8) : run b (l ++ [b]) = ((run b l).1 ++ [(run b l).2], []) := by rw [run_snoc]; simp [step]
theorem run_snoc_in {b c : UInt8} (h : c ≠ b) (l : List UInt8) : run b (l ++ [c]) = ((run b l).1, (run b l).2 ++ [c]) := by rw [run_snoc]; simp [step, h]
theorem joinL_snoc (ps : List (List UInt8)) (q : List UInt8) (h : ps ≠ []) : joinL (ps ++ [q]) = joinL ps ++ 32 :: q := by
  induction ps with
  | nil => exact absurd rfl h
  | cons p ps ih =>
    cases ps with
    | nil => rfl
    | cons r rs =>
      have e := ih (by simp)
      show p ++ 32 :: joinL (r :: rs ++ [q]) = (p ++ 32 :: joinL (r :: rs)) ++ 32 :: q
      rw [e]; simp
theorem joinL_one (q : List UInt8) : joinL ([] ++ [q]) = q := rfl
theorem joinL_last (ps : List (List UInt8)) (q : List UInt8) (c : UInt8) : joinL (ps ++ [q ++ [c]]) = joinL (ps ++ [q]) ++ [c] := by
  by_cases h : ps = []
  · subst h; rfl
  · rw [joinL_snoc _ _ h, joinL_snoc _ _ h]; simp
/-- a line's fields put together are the line -/
theorem join_pieces (l : List UInt8) : joinL (pieces 32 l) = l := by
  induction l using snoc_ind with
  | h0 => rfl
  | h1 l c ih =>
    unfold pieces at *
    by_cases h : c = 32
    · subst h
      rw [run_snoc_at]
      show joinL ((run 32 l).1 ++ [(run 32 l).2] ++ [[]]) = _
      rw [joinL_snoc _ _ (by simp), ih]
    · rw [run_snoc_in h]
      show joinL ((run 32 l).1 ++ [(run 32 l).2 ++ [c]]) = _
      rw [joinL_last, ih]
theorem foldl_in {b : UInt8} (q : List UInt8) (h : b ∉ q) (s : List (List UInt8) × List UInt8) : q.foldl (step b) s = (s.1, s.2 ++ q) := by
  induction q generalizing s with
  | nil => simp
  | cons c q ih =>
    have h1 : c ≠ b := fun e => h (by rw [e]; simp)
    have h2 : b ∉ q := fun e => h (by simp [e])
    rw [List.foldl_cons, ih h2]
    simp [step, h1]
/-- texts without a blank, put together, are cut into these -/
theorem pieces_join (ps : List (List UInt8)) (hne : ps ≠ []) (h : ∀ p ∈ ps, (32 : UInt8) ∉ p) : pieces 32 (joinL ps) = ps := by
  have key : ∀ n, ∀ ps : List (List UInt8), ps.length = n → ps ≠ [] → (∀ p ∈ ps, (32 : UInt8) ∉ p) → pieces 32 (joinL ps) = ps := by
    intro n
    induction n with
    | zero => intro ps h0 hne _; exact absurd (List.length_eq_zero_iff.1 h0) hne
    | succ n ih =>
      intro ps h0 hne hp
      rw [← List.dropLast_concat_getLast hne] at hp ⊢
      have hl : ps.dropLast.length = n := by rw [List.length_dropLast]; omega
      generalize ps.dropLast = qs at *
      generalize ps.getLast hne = q at *
      have hq : (32 : UInt8) ∉ q := hp q (by simp)
      by_cases hz : qs = []
      · subst hz
        unfold pieces run
        rw [joinL_one, foldl_in q hq]
        simp
      · have e := ih qs hl hz (fun p hp' => hp p (by simp [hp']))
        rw [joinL_snoc _ _ hz]
        unfold pieces run at *
        rw [List.foldl_append, List.foldl_cons]
        generalize List.foldl (step 32) ([], []) (joinL qs) = st at *
        rw [foldl_in q hq]
        simp [step, e]
  exact key _ ps rfl hne h
theorem run_no {b : UInt8} {l : List UInt8} (h : b ∉ l) : run b l = ([], l) := by unfold run; rw [foldl_in l h]; simp
theorem no_of_run {b : UInt8} (l : List UInt8) : (run b l).1 = [] → b ∉ l ∧ (run b l).2 = l := by
  induction l using snoc_ind with
  | h0 => intro _; simp [run_nil]
  | h1 l c ih =>
    by_cases h : c = b
    · subst h; rw [run_snoc_at]; intro e; simp at e
    · rw [run_snoc_in h]
      intro e
      obtain ⟨h1, h2⟩ := ih e
      refine ⟨?_, by rw [h2]⟩
      simp only [List.mem_append, List.mem_singleton]
      rintro (a | a)
      · exact h1 a
      · exact h a.symm
/-- a line that is one field -/
theorem one_field {l : List UInt8} : (fieldsE l = 0 ∧ (fieldsN l).length = 1) ↔ (l ≠ [] ∧ l.length ≤ 512 ∧ l.all plain = true ∧ (32 : UInt8) ∉ l) := by
  constructor
  · rintro ⟨h1, h2⟩
    unfold fieldsN at h2
    by_cases hl : l = []
    · rw [if_neg (by simp [hl])] at h2; simp at h2
    · rw [if_pos ⟨h1, hl⟩] at h2
      unfold fieldsE at h1
      split at h1
      · omega
      · split at h1
        · rename_i ha hb
          rw [Bool.and_eq_true] at hb
          have : (run 32 l).1 = [] := by unfold pieces at h2; simpa using h2
          exact ⟨hl, by omega, hb.1, (no_of_run l this).1⟩
        · omega
  · rintro ⟨h1, h2, h3, h4⟩
    have hp : pieces 32 l = [l] := by unfold pieces; rw [run_no h4]; rfl
    have he : fieldsE l = 0 := by
      unfold fieldsE
      rw [if_neg (by omega), if_neg h1, hp, h3]
      simp [full, h1]
    refine ⟨he, ?_⟩
    unfold fieldsN
    rw [if_pos ⟨he, h1⟩, hp]
    rfl
theorem plain_true {c : UInt8} : plain c = true ↔ 32 ≤ (c.toNat : Int) ∧ (c.toNat : Int) ≤ 126 := by unfold plain; simp; omega
theorem plain_false {c : UInt8} : plain c = false ↔ (c.toNat : Int) < 32 ∨ 126 < (c.toNat : Int) := by rw [Bool.eq_false_iff, ne_eq, plain_true]; omega
/-- a name is one field -/
theorem name_field {l : List UInt8} (h : name l = true) : fieldsE l = 0 ∧ (fieldsN l).length = 1 := by
  unfold name at h
  simp only [Bool.and_eq_true, decide_eq_true_eq] at h
  obtain ⟨⟨ha, hb⟩, hc⟩ := h
  have hr : ∀ c ∈ l, (97 ≤ (c.toNat : Int) ∧ (c.toNat : Int) ≤ 122) ∨ (48 ≤ (c.toNat : Int) ∧ (c.toNat : Int) ≤ 57) := by
    intro c hc
    have := List.all_eq_true.1 ha c hc
    simp only [Bool.or_eq_true] at this
    rcases this with h | h
    · exact Or.inl (letter_true.1 h)
    · exact Or.inr (dig_true.1 h)
  refine one_field.2 ⟨?_, by omega, ?_, ?_⟩
  · rintro rfl
    exact absurd hb (by decide)
  · rw [List.all_eq_true]
    intro c hc
    have := hr c hc
    rw [plain_true]; omega
  · intro h
    have := hr 32 h
    have e : (32 : UInt8).toNat = 32 := rfl
    omega
theorem all_join {p : UInt8 → Bool} (h32 : p 32 = true) (ps : List (List UInt8)) (h : ∀ q ∈ ps, q.all p = true) : (joinL ps).all p = true := by
  induction ps with
  | nil => rfl
  | cons q ps ih =>
    have hq := h q (by simp)
    cases ps with
    | nil => exact hq
    | cons r rs =>
      have e := ih (fun x hx => h x (by simp [hx]))
      show (q ++ 32 :: joinL (r :: rs)).all p = true
      rw [List.all_append, List.all_cons, hq, h32, e]; rfl
/-- fields put together are cut into these again -/
theorem fields_join {ps : List (List UInt8)} (h : ∀ q ∈ ps, fieldsE q = 0 ∧ (fieldsN q).length = 1) (hl : (joinL ps).length ≤ 512) : fieldsE (joinL ps) = 0 ∧ fieldsN (joinL ps) = ps := by
  by_cases hz : ps = []
  · subst hz; exact ⟨rfl, rfl⟩
  · have h' := fun q hq => one_field.1 (h q hq)
    have hp := pieces_join ps hz (fun q hq => (h' q hq).2.2.2)
    have hn : joinL ps ≠ [] := by
      intro e
      rw [e] at hp
      have : ps = [[]] := by rw [← hp]; rfl
      exact (h' [] (by rw [this]; simp)).1 rfl
    have ha := all_join (p := plain) (by decide) ps (fun q hq => (h' q hq).2.2.1)
    have hf : full ps = true := by
      unfold full
      rw [List.all_eq_true]
      intro q hq
      simpa using (h' q hq).1
    have he : fieldsE (joinL ps) = 0 := by
      unfold fieldsE
      rw [if_neg (by omega), if_neg hn, hp, ha, hf]; rfl
    refine ⟨he, ?_⟩
    unfold fieldsN
    rw [if_pos ⟨he, hn⟩, hp]
theorem join_fields {l : List UInt8} (h : fieldsE l = 0) : joinL (fieldsN l) = l := by
  unfold fieldsN
  by_cases hl : l = []
  · rw [if_neg (by simp [hl]), hl]; rfl
  · rw [if_pos ⟨h, hl⟩, join_pieces]
/-- what a loop has at place k: what is under way is the text from its last cut on -/
theorem run_take (b : UInt8) (l : List UInt8) (k : Nat) : ∃ f, f ≤ min k l.length ∧ (run b (l.take k)).2 = (l.take k).drop f := by
  induction k with
  | zero => exact ⟨0, by omega, by simp [run_nil]⟩
  | succ k ih =>
    obtain ⟨f, hf, e⟩ := ih
    by_cases hk : k < l.length
    · rw [take_snoc l k hk]
      by_cases hc : l[k] = b
      · refine ⟨k + 1, by omega, ?_⟩
        rw [hc, run_snoc_at]
        simp; omega
      · refine ⟨f, by omega, ?_⟩
        rw [run_snoc_in hc, e, List.drop_append_of_le_length (by simp; omega)]
    · refine ⟨f, by omega, ?_⟩
      rw [List.take_of_length_le (by omega)] at *
      exact e
end WM
