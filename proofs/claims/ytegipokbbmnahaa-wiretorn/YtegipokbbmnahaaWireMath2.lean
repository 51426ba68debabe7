/- Texts, sums and frames as bytes. -/
import Derived.Test.YtegipokbbmnahaaWireMath
namespace XM
set_option linter.unusedVariables false

def textE (m : List UInt8) : Int := if intE m ≠ 0 then intE m else if intN m < 0 then 5 else if 65536 < intN m then 8 else if (m.length : Int) - intK m < intN m then 6 else 0
def textN (m : List UInt8) : List UInt8 := if textE m = 0 then (m.drop (intK m)).take (intN m).toNat else []
def textK (m : List UInt8) : Nat := if textE m = 0 then intK m + (intN m).toNat else 0
def adl (l : List UInt8) : Nat × Nat := l.foldl (fun s c => ((s.1 + c.toNat) % 65521, (s.2 + (s.1 + c.toNat) % 65521) % 65521)) (1, 0)
def sum (l : List UInt8) : Nat := (adl l).2 * 65536 + (adl l).1
def four (n : Nat) : List UInt8 := [UInt8.ofNat (n / 16777216), UInt8.ofNat (n / 65536 % 256), UInt8.ofNat (n / 256 % 256), UInt8.ofNat (n % 256)]
def frame (p : List UInt8) : List UInt8 := enc (up p.length) ++ (p ++ four (sum p))
def frameE (m : List UInt8) : Int := if textE m ≠ 0 then textE m else if (m.length : Int) - textK m < 4 then 6 else if (m.drop (textK m)).take 4 = four (sum (textN m)) then 0 else 9
def frameN (m : List UInt8) : List UInt8 := if frameE m = 0 then textN m else []
def frameK (m : List UInt8) : Nat := if frameE m = 0 then textK m + 4 else 0

theorem intK_err {m : List UInt8} (h : intE m ≠ 0) : intN m = 0 ∧ intK m = 0 := by
  unfold intE at h
  unfold intN intK
  cases hc : code m with
  | none => simp
  | some k =>
    rw [hc] at h
    by_cases hr : right k = true
    · simp [hr] at h
    · simp [hr]
theorem text_ok {m : List UInt8} (h : textE m = 0) : intE m = 0 ∧ 0 ≤ intN m ∧ intN m ≤ 65536 ∧ intN m ≤ (m.length : Int) - intK m ∧ 0 < intK m ∧ intK m ≤ m.length := by
  unfold textE at h
  split at h
  · rename_i h1; exact absurd h h1
  · rename_i h1
    have h1 : intE m = 0 := by omega
    have h2 := int_only h1
    split at h
    · omega
    · split at h
      · omega
      · split at h
        · omega
        · exact ⟨h1, by omega, by omega, by omega, h2.2.1, h2.2.2.1⟩
theorem textN_len {m : List UInt8} (h : textE m = 0) : ((textN m).length : Int) = intN m ∧ textK m = intK m + (textN m).length ∧ textK m ≤ m.length ∧ 0 < textK m := by
  obtain ⟨_, h2, h3, h4, h5, h6⟩ := text_ok h
  unfold textN textK
  rw [if_pos h, if_pos h, List.length_take, List.length_drop]
  omega
theorem len_range (p : List UInt8) (h : p.length ≤ 9223372036854775807) : -9223372036854775808 ≤ (p.length : Int) ∧ (p.length : Int) ≤ 9223372036854775807 := by omega
theorem text_back {p : List UInt8} (h : p.length ≤ 65536) (r : List UInt8) :
    textE (enc (up p.length) ++ (p ++ r)) = 0 ∧ textN (enc (up p.length) ++ (p ++ r)) = p ∧ textK (enc (up p.length) ++ (p ++ r)) = (enc (up p.length)).length + p.length := by
  obtain ⟨h1, h2, h3⟩ := int_back (len_range p (by omega)) (p ++ r)
  have he : textE (enc (up p.length) ++ (p ++ r)) = 0 := by
    unfold textE
    rw [h1, h2, h3, if_neg (by simp), if_neg (by omega), if_neg (by omega), if_neg (by simp; omega)]
  refine ⟨he, ?_, ?_⟩
  · unfold textN
    rw [if_pos he, h2, h3]
    simp
  · unfold textK
    rw [if_pos he, h2, h3]
    simp
theorem text_long {p : List UInt8} (h : 65536 < p.length) (hp : p.length ≤ 9223372036854775807) (r : List UInt8) : textE (enc (up p.length) ++ (p ++ r)) = 8 := by
  obtain ⟨h1, h2, h3⟩ := int_back (len_range p hp) (p ++ r)
  unfold textE
  rw [h1, h2, if_neg (by simp), if_neg (by omega), if_pos (by omega)]

theorem adl_snoc (l : List UInt8) (c : UInt8) : adl (l ++ [c]) = (((adl l).1 + c.toNat) % 65521, ((adl l).2 + ((adl l).1 + c.toNat) % 65521) % 65521) := by unfold adl; rw [List.foldl_append]; rfl
theorem adl_lt (l : List UInt8) : (adl l).1 < 65521 ∧ (adl l).2 < 65521 := by
  induction l using WM.snoc_ind with
  | h0 => decide
  | h1 l c _ => rw [adl_snoc]; exact ⟨Nat.mod_lt _ (by omega), Nat.mod_lt _ (by omega)⟩
def nsum (l : List UInt8) : Nat := (l.map UInt8.toNat).sum
theorem adl_one (l : List UInt8) : (adl l).1 = (1 + nsum l) % 65521 := by
  induction l using WM.snoc_ind with
  | h0 => rfl
  | h1 l c ih =>
    rw [adl_snoc]
    show ((adl l).1 + c.toNat) % 65521 = _
    rw [ih]
    unfold nsum
    simp only [List.map_append, List.sum_append, List.map_cons, List.map_nil, List.sum_cons, List.sum_nil]
    omega
theorem sum_lt (l : List UInt8) : sum l < 4294967296 := by have := adl_lt l; unfold sum; omega
theorem sum_parts {l k : List UInt8} (h : sum l = sum k) : (adl l).1 = (adl k).1 := by
  have := adl_lt l; have := adl_lt k; unfold sum at h; omega
theorem four_len (n : Nat) : (four n).length = 4 := rfl
theorem four_inj {n m : Nat} (hn : n < 4294967296) (hm : m < 4294967296) (h : four n = four m) : n = m := by
  unfold four at h
  simp only [List.cons.injEq, and_true] at h
  obtain ⟨a, b, c, d⟩ := h
  have a := congrArg UInt8.toNat a
  have b := congrArg UInt8.toNat b
  have c := congrArg UInt8.toNat c
  have d := congrArg UInt8.toNat d
  rw [nat_of _ (by omega), nat_of _ (by omega)] at a b c d
  omega
theorem nsum_set (l : List UInt8) (i : Nat) (h : i < l.length) (c : UInt8) : nsum (l.set i c) + l[i].toNat = nsum l + c.toNat := by
  unfold nsum
  induction l generalizing i with
  | nil => simp at h
  | cons a l ih =>
    cases i with
    | zero => simp; omega
    | succ i =>
      have := ih i (by simpa using h)
      simp only [List.set_cons_succ, List.map_cons, List.sum_cons, List.getElem_cons_succ]
      omega
/-- one byte another one: another sum -/
theorem sum_set {l : List UInt8} {i : Nat} (h : i < l.length) {c : UInt8} (hc : c ≠ l[i]) : sum (l.set i c) ≠ sum l := by
  intro e
  have e1 := sum_parts e
  rw [adl_one, adl_one] at e1
  have e2 := nsum_set l i h c
  have c1 : c.toNat < 256 := c.toNat_lt
  have c2 : l[i].toNat < 256 := l[i].toNat_lt
  have c3 : c.toNat ≠ l[i].toNat := fun q => hc (UInt8.toNat_inj.1 q)
  omega

theorem frame_ok {m : List UInt8} (h : frameE m = 0) : textE m = 0 ∧ textK m + 4 ≤ m.length ∧ (m.drop (textK m)).take 4 = four (sum (textN m)) := by
  unfold frameE at h
  split at h
  · rename_i h1; exact absurd h h1
  · rename_i h1
    have h1 : textE m = 0 := by omega
    split at h
    · omega
    · split at h
      · rename_i h3
        exact ⟨h1, by omega, h3⟩
      · omega
theorem frameK_ok {m : List UInt8} (h : frameE m = 0) : frameK m = textK m + 4 ∧ 0 < frameK m ∧ frameK m ≤ m.length := by
  have := (frame_ok h).2.1
  unfold frameK
  rw [if_pos h]
  omega
/-- a frame's bytes with four others at the end -/
theorem frame_with {p f : List UInt8} (hp : p.length ≤ 65536) (hf : f.length = 4) (r : List UInt8) :
    frameE (enc (up p.length) ++ (p ++ (f ++ r))) = (if f = four (sum p) then 0 else 9) := by
  obtain ⟨h1, h2, h3⟩ := text_back hp (f ++ r)
  unfold frameE
  rw [h1, h2, h3, if_neg (by simp), if_neg (by simp; omega)]
  have e : ((enc (up p.length) ++ (p ++ (f ++ r))).drop ((enc (up p.length)).length + p.length)).take 4 = f := by
    rw [← List.append_assoc, show (enc (up p.length)).length + p.length = (enc (up p.length) ++ p).length by simp, List.drop_left, ← hf, List.take_left]
  rw [e]
theorem frame_back {p : List UInt8} (hp : p.length ≤ 65536) (r : List UInt8) : frameE (frame p ++ r) = 0 ∧ frameN (frame p ++ r) = p ∧ frameK (frame p ++ r) = (frame p).length := by
  have e : frame p ++ r = enc (up p.length) ++ (p ++ (four (sum p) ++ r)) := by unfold frame; simp
  have h := frame_with hp (four_len (sum p)) r
  rw [if_pos rfl] at h
  obtain ⟨_, h2, h3⟩ := text_back hp (four (sum p) ++ r)
  refine ⟨by rw [e, h], ?_, ?_⟩
  · rw [e]; unfold frameN; rw [if_pos h, h2]
  · rw [e]; unfold frameK; rw [if_pos h, h3]; unfold frame; simp [four_len]; omega
theorem frame_long {p : List UInt8} (h : 65536 < p.length) (hp : p.length ≤ 9223372036854775807) : frameE (frame p) = 8 := by
  unfold frameE frame
  rw [text_long h hp]
  rfl
theorem code_enc_take (u : Nat) (c : Nat) (h : c < (enc u).length) : code ((enc u).take c) = none := by
  induction u using enc.induct generalizing c with
  | case1 u hu =>
    rw [enc_small hu] at h ⊢
    have : c = 0 := by simpa using h
    subst this; rfl
  | case2 u hu ih =>
    rw [enc_big hu] at h ⊢
    cases c with
    | zero => rfl
    | succ c =>
      rw [List.take_succ_cons]
      unfold code
      rw [nat_of _ (by omega), if_neg (by omega), ih c (by simpa using h)]
      rfl
/-- a frame that is cut is short -/
theorem frame_torn {p : List UInt8} (hp : p.length ≤ 65536) (c : Nat) (h : c < (frame p).length) : frameE ((frame p).take c) = 6 := by
  have hfl : (frame p).length = (enc (up p.length)).length + p.length + 4 := by unfold frame; simp [four_len]; omega
  by_cases h1 : c < (enc (up p.length)).length
  · have e : (frame p).take c = (enc (up p.length)).take c := by
      unfold frame; rw [List.take_append_of_le_length (by omega)]
    have hi : intE ((frame p).take c) = 6 := by rw [e]; unfold intE; rw [code_enc_take _ _ h1]
    have ht : textE ((frame p).take c) = 6 := by unfold textE; rw [hi]; simp
    unfold frameE; rw [ht]; simp
  · obtain ⟨q, hq⟩ : ∃ q, (frame p).take c = enc (up p.length) ++ q := by
      unfold frame
      rw [List.take_append, List.take_of_length_le (by omega)]
      exact ⟨_, rfl⟩
    have hql : (enc (up p.length)).length + q.length = c := by
      have := congrArg List.length hq
      rw [List.length_take, List.length_append] at this
      omega
    by_cases h2 : q.length < p.length
    · obtain ⟨i1, i2, i3⟩ := int_back (len_range p (by omega)) q
      have ht : textE ((frame p).take c) = 6 := by
        rw [hq]; unfold textE
        rw [i1, i2, i3, if_neg (by simp), if_neg (by omega), if_neg (by omega), if_pos (by simp; omega)]
      unfold frameE; rw [ht]; simp
    · obtain ⟨r, hr⟩ : ∃ r, q = p ++ r := by
        have e : q = ((p ++ four (sum p)).take (c - (enc (up p.length)).length)) := by
          have e2 : (frame p).take c = enc (up p.length) ++ ((p ++ four (sum p)).take (c - (enc (up p.length)).length)) := by
            unfold frame
            rw [List.take_append, List.take_of_length_le (by omega)]
          rw [e2] at hq
          exact (List.append_cancel_left hq).symm
        rw [e, List.take_append, List.take_of_length_le (by omega)]
        exact ⟨_, rfl⟩
      rw [hr] at hq hql
      obtain ⟨i1, i2, i3⟩ := text_back hp r
      rw [hq]
      unfold frameE
      rw [i1, i3, if_neg (by simp), if_pos (by simp at hql ⊢; omega)]
/-- a frame with one byte of its payload another one -/
theorem frame_spoilt {p : List UInt8} (hp : p.length ≤ 65536) {i : Nat} (hi : i < p.length) {c : UInt8} (hc : c ≠ p[i]) :
    frameE (enc (up p.length) ++ (p.set i c ++ four (sum p))) = 9 := by
  have h := frame_with (p := p.set i c) (f := four (sum p)) (by rw [List.length_set]; exact hp) (four_len _) []
  rw [List.append_nil, List.length_set] at h
  rw [h, if_neg]
  intro e
  exact sum_set hi hc (four_inj (sum_lt _) (sum_lt _) e).symm
/-- or of its sum -/
theorem frame_spoilt_sum {p f : List UInt8} (hp : p.length ≤ 65536) (hf : f.length = 4) (hn : f ≠ four (sum p)) : frameE (enc (up p.length) ++ (p ++ f)) = 9 := by
  have h := frame_with hp hf []
  rw [List.append_nil] at h
  rw [h, if_neg hn]

/-- frames from the front on -/
def frames (m : List UInt8) : List (List UInt8) × Nat :=
  if h : m ≠ [] ∧ frameE m = 0 then (frameN m :: (frames (m.drop (frameK m))).1, frameK m + (frames (m.drop (frameK m))).2) else ([], 0)
termination_by m.length
decreasing_by all_goals (have := frameK_ok h.2; rw [List.length_drop]; omega)
theorem frames_no {m : List UInt8} (h : m = [] ∨ frameE m ≠ 0) : frames m = ([], 0) := by
  rw [frames, dif_neg]
  rintro ⟨a, b⟩
  rcases h with h | h
  · exact a h
  · exact h b
theorem frames_yes {m : List UInt8} (h1 : m ≠ []) (h2 : frameE m = 0) : frames m = (frameN m :: (frames (m.drop (frameK m))).1, frameK m + (frames (m.drop (frameK m))).2) := by
  rw [frames, dif_pos ⟨h1, h2⟩]
def flat : List (List UInt8) → List UInt8
  | [] => []
  | p :: ps => frame p ++ flat ps
/-- those that are whole ahead of a cut -/
def torn : List (List UInt8) → Nat → List (List UInt8)
  | [], _ => []
  | p :: ps, c => if (frame p).length ≤ c then p :: torn ps (c - (frame p).length) else []
theorem frame_ne (p : List UInt8) : frame p ≠ [] := by
  intro e
  have := congrArg List.length e
  unfold frame at this
  simp [four_len] at this
theorem frames_torn {ps : List (List UInt8)} (h : ∀ p ∈ ps, p.length ≤ 65536) (c : Nat) : frames ((flat ps).take c) = (torn ps c, (flat (torn ps c)).length) := by
  induction ps generalizing c with
  | nil => rw [show (flat []).take c = [] by simp [flat], frames_no (Or.inl rfl)]; rfl
  | cons p ps ih =>
    have hp := h p (by simp)
    have ih := ih (fun q hq => h q (by simp [hq]))
    unfold flat torn
    by_cases hc : (frame p).length ≤ c
    · have e : (frame p ++ flat ps).take c = frame p ++ (flat ps).take (c - (frame p).length) := by
        rw [List.take_append, List.take_of_length_le hc]
      obtain ⟨h1, h2, h3⟩ := frame_back hp ((flat ps).take (c - (frame p).length))
      rw [e, frames_yes (by simp [frame_ne]) h1, h2, h3, List.drop_left, ih, if_pos hc]
      simp
    · rw [if_neg hc, List.take_append_of_le_length (by omega)]
      by_cases hz : c = 0
      · subst hz; rw [frames_no (Or.inl (by simp))]; rfl
      · rw [frames_no (Or.inr (by rw [frame_torn hp c (by omega)]; decide))]; rfl
end XM
