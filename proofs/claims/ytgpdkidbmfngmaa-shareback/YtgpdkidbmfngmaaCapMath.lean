/- Plain mathematics of the parts, and of Capped. -/
import Derived.Test.YtgpdkidbmfngmaaSignMath
namespace SM
open LM

/-! ### what the parts are -/
theorem parts_spec {total : Int} {w : List Int} (hw : wOk w = true) (h0 : tot w ≠ 0) (_t0 : 0 ≤ total) :
    ∃ P : Nat → Bool, (∀ j, j < w.length → (parts total (tot w) w).getD j 0 = pq total (w.getD j 0) (tot w) + if P j then 1 else 0) ∧
      (∀ j, j < w.length → P j = true → 0 < pr total (w.getD j 0) (tot w)) ∧
      (∀ j k, j < w.length → k < w.length → P j = true → P k = false → pr total (w.getD k 0) (tot w) < pr total (w.getD j 0) (tot w) ∨ (pr total (w.getD k 0) (tot w) = pr total (w.getD j 0) (tot w) ∧ j < k)) ∧
      tot (parts total (tot w) w) = total := by
  obtain ⟨hr, _⟩ := wOk_parts hw
  have hp : 0 < tot w := by have := tot_nonneg hr; omega
  obtain ⟨f0, f1⟩ := left_range total (tot w) w rfl hp
  obtain ⟨L, hL⟩ := Int.eq_ofNat_of_zero_le f0
  obtain ⟨P, hP⟩ := DI.iter (all := tot w) (n := w.length) (left := L) (qs_len total (tot w) w) (rs_len total (tot w) w) (by rw [tot_rs _ _ _ rfl, hL]) hp (fun j hj => (rs_range _ _ _ hp j hj).2) L (Nat.le_refl _)
  have e : parts total (tot w) w = (diter 0 L (qs total (tot w) w, rs total (tot w) w)).1 := by unfold parts; rw [hL]; rfl
  refine ⟨P, fun j hj => ?_, fun j hj h => ?_, fun j k hj hk a b => ?_, ?_⟩
  · rw [e, hP.part j hj, qs_get _ _ _ _ hj]
  · have := hP.pos j hj h; rwa [rs_get _ _ _ _ hj] at this
  · have := hP.ord j k hj hk a b; rwa [rs_get _ _ _ _ hj, rs_get _ _ _ _ hk] at this
  · rw [e, hP.sum]; unfold leftOf at hL; omega

theorem parts_sum {total : Int} {w : List Int} (hw : wOk w = true) (h0 : tot w ≠ 0) (t0 : 0 ≤ total) : tot (parts total (tot w) w) = total := by
  obtain ⟨_, _, _, _, h⟩ := parts_spec hw h0 t0; exact h
theorem parts_nonneg {total : Int} {w : List Int} (hw : wOk w = true) (h0 : tot w ≠ 0) (t0 : 0 ≤ total) (j : Nat) (hj : j < w.length) : 0 ≤ (parts total (tot w) w).getD j 0 := by
  obtain ⟨P, h, _⟩ := parts_spec hw h0 t0
  obtain ⟨hr, _⟩ := wOk_parts hw
  have hp : 0 < tot w := by have := tot_nonneg hr; omega
  have := pq_nonneg (total := total) t0 (allR_get hr hj).1 hp
  rw [h j hj]; split <;> omega
theorem parts_none {total : Int} {w : List Int} (hw : wOk w = true) (h0 : tot w ≠ 0) (t0 : 0 ≤ total) (j : Nat) (hj : j < w.length) (hz : w.getD j 0 = 0) : (parts total (tot w) w).getD j 0 = 0 := by
  obtain ⟨P, h, h2, _⟩ := parts_spec hw h0 t0
  rw [h j hj, hz]
  have e1 : pq total 0 (tot w) = 0 := by simp [pq]
  have e2 : pr total 0 (tot w) = 0 := by simp [pr]
  cases hc : P j
  · simp [e1]
  · have := h2 j hj hc; rw [hz, e2] at this; omega
theorem elem_le' (l : List Int) (h : ∀ j, j < l.length → 0 ≤ l.getD j 0) (k : Nat) (hk : k < l.length) : l.getD k 0 ≤ tot l := by
  have e : tot l = tot (l.take k) + (l.getD k 0 + tot (l.drop (k + 1))) := by
    have h1 : l = l.take k ++ (l.getD k 0 :: l.drop (k + 1)) := by
      rw [getD_at _ _ hk, ← List.drop_eq_getElem_cons hk, List.take_append_drop]
    have := congrArg tot h1
    rwa [tot_append, tot] at this
  have a := tot_nonneg' (l.take k) (fun j hj => by
    have hj' : j < k := by rw [List.length_take] at hj; omega
    rw [show (l.take k).getD j 0 = l.getD j 0 by simp [List.getD, hj']]
    exact h j (by omega))
  have b := tot_nonneg' (l.drop (k + 1)) (fun j hj => by
    have hj' : j < l.length - (k + 1) := by simpa using hj
    rw [show (l.drop (k + 1)).getD j 0 = l.getD (k + 1 + j) 0 by simp [List.getD]]
    exact h _ (by omega))
  omega
theorem elem_take_le (l : List Int) (k : Nat) (h : ∀ j, j < l.length → 0 ≤ l.getD j 0) : tot (l.take k) ≤ tot l := by
  have e : tot l = tot (l.take k) + tot (l.drop k) := by rw [← tot_append, List.take_append_drop]
  have b := tot_nonneg' (l.drop k) (fun j hj => by
    have hj' : j < l.length - k := by simpa using hj
    rw [show (l.drop k).getD j 0 = l.getD (k + j) 0 by simp [List.getD]]
    exact h _ (by omega))
  omega
theorem parts_le {total : Int} {w : List Int} (hw : wOk w = true) (h0 : tot w ≠ 0) (t0 : 0 ≤ total) (j : Nat) (hj : j < w.length) : (parts total (tot w) w).getD j 0 ≤ total := by
  have := elem_le' (parts total (tot w) w) (fun j hj => parts_nonneg hw h0 t0 j (by rwa [parts_len] at hj)) j (by rw [parts_len]; exact hj)
  rwa [parts_sum hw h0 t0] at this

/-! ### tables -/
def tab (n : Nat) (f : Nat → Int) : List Int := (List.range n).map f
theorem tab_len (n : Nat) (f : Nat → Int) : (tab n f).length = n := by simp [tab]
theorem tab_get (n : Nat) (f : Nat → Int) (k : Nat) (hk : k < n) : (tab n f).getD k 0 = f k := by simp [tab, List.getD, hk]
theorem tab_self (l : List Int) : tab l.length (fun i => l.getD i 0) = l := by
  apply List.ext_getElem
  · simp [tab]
  · intro i h1 h2; simp [tab, List.getD, h2]
theorem tab_congr {n : Nat} {f g : Nat → Int} (h : ∀ i, i < n → f i = g i) : tab n f = tab n g := by
  unfold tab
  exact List.map_congr_left fun i hi => h i (List.mem_range.1 hi)
theorem tab_succ (n : Nat) (f : Nat → Int) : tab (n + 1) f = tab n f ++ [f n] := by simp [tab, List.range_succ]
theorem tot_tab_succ (n : Nat) (f : Nat → Int) : tot (tab (n + 1) f) = tot (tab n f) + f n := by rw [tab_succ, tot_append]; simp [tot]
theorem tot_tab_le {n : Nat} {f g : Nat → Int} (h : ∀ i, i < n → f i ≤ g i) : tot (tab n f) ≤ tot (tab n g) := by
  induction n with
  | zero => simp [tab]
  | succ n ih =>
    rw [tot_tab_succ, tot_tab_succ]
    have := ih fun i hi => h i (by omega)
    have := h n (by omega)
    omega
theorem tot_tab_lt {n : Nat} {f g : Nat → Int} (h : ∀ i, i < n → f i ≤ g i) (k : Nat) (hk : k < n) (hs : f k < g k) : tot (tab n f) < tot (tab n g) := by
  induction n with
  | zero => omega
  | succ n ih =>
    rw [tot_tab_succ, tot_tab_succ]
    have a := h n (by omega)
    rcases Nat.lt_or_ge k n with h1 | h1
    · have := ih (fun i hi => h i (by omega)) h1; omega
    · obtain rfl : k = n := by omega
      have := tot_tab_le (n := k) (f := f) (g := g) fun i hi => h i (by omega)
      omega
theorem tot_tab_nonneg {n : Nat} {f : Nat → Int} (h : ∀ i, i < n → 0 ≤ f i) : 0 ≤ tot (tab n f) := by
  induction n with
  | zero => simp [tab, tot]
  | succ n ih =>
    rw [tot_tab_succ]
    have := ih fun i hi => h i (by omega)
    have := h n (by omega)
    omega
theorem tot_tab_sub {n : Nat} {f g : Nat → Int} : tot (tab n fun i => f i + g i) = tot (tab n f) + tot (tab n g) := by
  induction n with
  | zero => simp [tab, tot]
  | succ n ih => rw [tot_tab_succ, tot_tab_succ, tot_tab_succ, ih]; omega
theorem pre_tab_set (n : Nat) (f g : Nat → Int) (k : Nat) : (tab n fun i => if i < k then f i else g i).set k (f k) = tab n fun i => if i < k + 1 then f i else g i := by
  apply List.ext_getElem
  · simp [tab]
  · intro i h1 h2
    simp only [tab, List.getElem_set, List.getElem_map, List.getElem_range]
    by_cases e : k = i
    · subst e; simp
    · rw [if_neg e]
      by_cases h : i < k
      · simp [h, show i < k + 1 by omega]
      · simp [h, show ¬ i < k + 1 by omega]
theorem pre_tab_zero (n : Nat) (f g : Nat → Int) : (tab n fun i => if i < 0 then f i else g i) = tab n g := tab_congr fun i _ => by simp
theorem pre_tab_full (n : Nat) (f g : Nat → Int) : (tab n fun i => if i < n then f i else g i) = tab n f := tab_congr fun i hi => by simp [hi]

/-! ### Capped -/
/-- the weights that still count -/
def openOf (w caps out : List Int) : List Int := tab w.length fun i => if out.getD i 0 < caps.getD i 0 then w.getD i 0 else 0
def over (l caps : List Int) : Bool := (List.range l.length).any fun i => decide (caps.getD i 0 < l.getD i 0)
def capOut (l caps out : List Int) : List Int := tab out.length fun i => if caps.getD i 0 < l.getD i 0 then caps.getD i 0 else out.getD i 0
def capTaken (l caps : List Int) : Int := tot (tab l.length fun i => if caps.getD i 0 < l.getD i 0 then caps.getD i 0 else 0)
def addL (out l : List Int) : List Int := tab out.length fun i => out.getD i 0 + l.getD i 0

def capRun (w caps : List Int) : Nat → List Int → Int → List Int × Int
  | 0, out, left => (out, left)
  | f + 1, out, left =>
    if left ≤ 0 then (out, left) else
    if tot (openOf w caps out) = 0 then (out, left) else
    if over (parts left (tot (openOf w caps out)) (openOf w caps out)) caps then
      capRun w caps f (capOut (parts left (tot (openOf w caps out)) (openOf w caps out)) caps out) (left - capTaken (parts left (tot (openOf w caps out)) (openOf w caps out)) caps)
    else (addL out (parts left (tot (openOf w caps out)) (openOf w caps out)), 0)

/-- how many count -/
def cnt (o : List Int) : Int := tot (tab o.length fun i => if 0 < o.getD i 0 then 1 else 0)

/-- what holds between the rounds -/
structure CI (w caps : List Int) (total : Int) (out : List Int) (left : Int) : Prop where
  len : out.length = w.length
  caps' : caps.length = w.length
  vals : ∀ i, i < w.length → out.getD i 0 = 0 ∨ out.getD i 0 = caps.getD i 0
  l0 : 0 ≤ left
  sum : tot out + left = total

theorem CI.start {w caps : List Int} {total : Int} (hc : caps.length = w.length) (t0 : 0 ≤ total) : CI w caps total (List.replicate w.length 0) total := by
  refine ⟨by simp, hc, fun i hi => .inl (by simp [List.getD, hi]), t0, ?_⟩
  have : tot (List.replicate w.length 0) = 0 := by
    generalize w.length = n
    induction n with
    | zero => rfl
    | succ n ih => simp [List.replicate_succ, tot, ih]
  omega

theorem openOf_len (w caps out : List Int) : (openOf w caps out).length = w.length := tab_len _ _
theorem openOf_ok {w : List Int} (caps out : List Int) (hw : wOk w = true) : wOk (openOf w caps out) = true := by
  obtain ⟨hr, ht⟩ := wOk_parts hw
  have h1 : allR (openOf w caps out) = true := by
    refine List.all_eq_true.2 fun n hn => ?_
    obtain ⟨k, hk, rfl⟩ := List.getElem_of_mem hn
    have hk' : k < w.length := by rwa [openOf_len] at hk
    rw [← getD_at _ _ hk]
    unfold openOf
    rw [tab_get _ _ _ hk']
    obtain ⟨a, b⟩ := allR_get hr hk'
    split
    · exact inR_true.2 ⟨a, b⟩
    · exact inR_true.2 ⟨by omega, by omega⟩
  have h2 : tot (openOf w caps out) ≤ tot w := by
    conv => rhs; rw [← tab_self w]
    exact tot_tab_le fun i hi => by
      have := (allR_get hr hi).1
      split <;> omega
  unfold wOk
  simp [h1]; omega

theorem over_iff (l caps : List Int) : over l caps = true ↔ ∃ i, i < l.length ∧ caps.getD i 0 < l.getD i 0 := by
  unfold over
  rw [List.any_eq_true]
  constructor
  · rintro ⟨i, hi, h⟩; exact ⟨i, List.mem_range.1 hi, of_decide_eq_true h⟩
  · rintro ⟨i, hi, h⟩; exact ⟨i, List.mem_range.2 hi, decide_eq_true h⟩

/-- a full round -/
theorem CI.full {w caps : List Int} {total : Int} {out : List Int} {left : Int} (h : CI w caps total out left) (hw : wOk w = true) (hc : allR caps = true) (hl : 0 < left)
    (h0 : tot (openOf w caps out) ≠ 0) (hov : over (parts left (tot (openOf w caps out)) (openOf w caps out)) caps = true) :
    CI w caps total (capOut (parts left (tot (openOf w caps out)) (openOf w caps out)) caps out) (left - capTaken (parts left (tot (openOf w caps out)) (openOf w caps out)) caps) ∧
    0 < capTaken (parts left (tot (openOf w caps out)) (openOf w caps out)) caps ∧ capTaken (parts left (tot (openOf w caps out)) (openOf w caps out)) caps ≤ left ∧
    cnt (openOf w caps (capOut (parts left (tot (openOf w caps out)) (openOf w caps out)) caps out)) < cnt (openOf w caps out) ∧
    openOf w caps (capOut (parts left (tot (openOf w caps out)) (openOf w caps out)) caps out) =
      tab w.length (fun i => if caps.getD i 0 < (parts left (tot (openOf w caps out)) (openOf w caps out)).getD i 0 then 0 else (openOf w caps out).getD i 0) := by
  have ho := openOf_ok caps out hw
  have hp := fun j hj => parts_none (total := left) ho h0 (by omega) j hj
  have hn := fun j hj => parts_nonneg (total := left) ho h0 (by omega) j hj
  have hs := parts_sum (total := left) ho h0 (by omega)
  have hL : (parts left (tot (openOf w caps out)) (openOf w caps out)).length = w.length := by rw [parts_len, openOf_len]
  rw [openOf_len] at hp hn
  generalize hO : openOf w caps out = O at *
  have hOl : O.length = w.length := by rw [← hO, openOf_len]
  have hOg : ∀ i, i < w.length → O.getD i 0 = if out.getD i 0 < caps.getD i 0 then w.getD i 0 else 0 := fun i hi => by rw [← hO]; unfold openOf; rw [tab_get _ _ _ hi]
  generalize parts left (tot O) O = l at *
  obtain ⟨len, caps', vals, l0, sum⟩ := h
  have hcap : ∀ i, i < w.length → 0 ≤ caps.getD i 0 := fun i hi => (allR_get hc (by omega)).1
  -- one that is offered too much has nothing yet, and a cap above nought
  have key : ∀ i, i < w.length → caps.getD i 0 < l.getD i 0 → out.getD i 0 = 0 ∧ 0 < caps.getD i 0 ∧ 0 < O.getD i 0 := fun i hi hc1 => by
    have c0 := hcap i hi
    have hnz : O.getD i 0 ≠ 0 := fun e => by have := hp i hi e; omega
    have := hOg i hi
    have hw0 : 0 ≤ w.getD i 0 := (allR_get (wOk_parts hw).1 hi).1
    by_cases hlt : out.getD i 0 < caps.getD i 0
    · rw [if_pos hlt] at this
      rcases vals i hi with v | v
      · exact ⟨v, by omega, by omega⟩
      · omega
    · rw [if_neg hlt] at this; exact absurd this hnz
  obtain ⟨m, hm, hmo⟩ := (over_iff _ _).1 hov
  rw [hL] at hm
  have hT : capTaken l caps = tot (tab w.length fun i => if caps.getD i 0 < l.getD i 0 then caps.getD i 0 else 0) := by unfold capTaken; rw [hL]
  have hT0 : 0 < capTaken l caps := by
    rw [hT]
    have := tot_tab_lt (n := w.length) (f := fun _ => 0) (g := fun i => if caps.getD i 0 < l.getD i 0 then caps.getD i 0 else 0) (fun i hi => by
      have := hcap i hi; split <;> omega) m hm (by simp only [if_pos hmo]; exact (key m hm hmo).2.1)
    have h2 := tot_tab_nonneg (n := w.length) (f := fun _ => 0) (fun i _ => Int.le_refl _)
    omega
  have hT1 : capTaken l caps ≤ left := by
    rw [hT, ← hs]
    conv => rhs; rw [← tab_self l, hL]
    refine tot_tab_le fun i hi => ?_
    have := hn i hi
    split <;> omega
  have hoo : (capOut l caps out).length = w.length := by unfold capOut; rw [tab_len, len]
  have hog : ∀ i, i < w.length → (capOut l caps out).getD i 0 = if caps.getD i 0 < l.getD i 0 then caps.getD i 0 else out.getD i 0 := fun i hi => by
    unfold capOut; rw [tab_get _ _ _ (by omega)]
  have hnew : openOf w caps (capOut l caps out) = tab w.length (fun i => if caps.getD i 0 < l.getD i 0 then 0 else O.getD i 0) := by
    unfold openOf
    refine tab_congr fun i hi => ?_
    rw [hog i hi, hOg i hi]
    by_cases e : caps.getD i 0 < l.getD i 0
    · simp only [e, if_true]; rw [if_neg (by omega)]
    · simp only [e, if_false]
  refine ⟨⟨hoo, caps', fun i hi => ?_, by omega, ?_⟩, hT0, hT1, ?_, hnew⟩
  · rw [hog i hi]; split
    · exact .inr rfl
    · exact vals i hi
  · have e : tot (capOut l caps out) = tot out + capTaken l caps := by
      rw [hT]
      unfold capOut
      rw [len]
      conv => rhs; rw [← tab_self out, len]
      rw [← tot_tab_sub]
      congr 1
      refine tab_congr fun i hi => ?_
      by_cases e : caps.getD i 0 < l.getD i 0
      · simp only [e, if_true]; have := (key i hi e).1; omega
      · simp only [e, if_false]; omega
    omega
  · rw [hnew]
    unfold cnt
    rw [tab_len, hOl]
    refine tot_tab_lt (fun i hi => ?_) m hm ?_
    · rw [tab_get _ _ _ hi]
      split <;> split <;> (try split) <;> (try split at *) <;> omega
    · rw [tab_get _ _ _ hm, if_pos hmo, if_pos (key m hm hmo).2.2]; simp

/-! where no offer is too great -/
theorem not_over {l caps : List Int} (h : over l caps = false) (i : Nat) (hi : i < l.length) : ¬ caps.getD i 0 < l.getD i 0 := fun hc => by
  have := (over_iff l caps).2 ⟨i, hi, hc⟩; rw [h] at this; cases this
theorem taken_none {l caps : List Int} (h : over l caps = false) : capTaken l caps = 0 := by
  unfold capTaken
  have : (tab l.length fun i => if caps.getD i 0 < l.getD i 0 then caps.getD i 0 else 0) = tab l.length fun _ => 0 := tab_congr fun i hi => if_neg (not_over h i hi)
  rw [this]
  generalize l.length = n
  induction n with
  | zero => rfl
  | succ n ih => rw [tot_tab_succ, ih]; rfl
theorem out_none {l caps out : List Int} (h : over l caps = false) (hl : l.length = out.length) : capOut l caps out = out := by
  unfold capOut
  conv => rhs; rw [← tab_self out]
  exact tab_congr fun i hi => if_neg (not_over h i (by omega))

theorem capRun_done (w caps : List Int) (f : Nat) (out : List Int) (left : Int) (h : left ≤ 0) : capRun w caps f out left = (out, left) := by
  cases f with
  | zero => rfl
  | succ f => simp [capRun, h]
theorem capRun_shut (w caps : List Int) (f : Nat) (out : List Int) (left : Int) (h : tot (openOf w caps out) = 0) : capRun w caps f out left = (out, left) := by
  cases f with
  | zero => rfl
  | succ f => simp [capRun, h]
theorem capRun_over (w caps : List Int) (f : Nat) (out : List Int) (left : Int) (hl : 0 < left) (h0 : tot (openOf w caps out) ≠ 0) (h : over (parts left (tot (openOf w caps out)) (openOf w caps out)) caps = true) :
    capRun w caps (f + 1) out left = capRun w caps f (capOut (parts left (tot (openOf w caps out)) (openOf w caps out)) caps out) (left - capTaken (parts left (tot (openOf w caps out)) (openOf w caps out)) caps) := by
  rw [capRun, if_neg (by omega), if_neg h0, if_pos h]
theorem capRun_last (w caps : List Int) (f : Nat) (out : List Int) (left : Int) (hl : 0 < left) (h0 : tot (openOf w caps out) ≠ 0) (h : over (parts left (tot (openOf w caps out)) (openOf w caps out)) caps = false) :
    capRun w caps (f + 1) out left = (addL out (parts left (tot (openOf w caps out)) (openOf w caps out)), 0) := by
  rw [capRun, if_neg (by omega), if_neg h0, if_neg (by rw [h]; simp)]
theorem cnt_range (o : List Int) : 0 ≤ cnt o ∧ cnt o ≤ o.length := by
  unfold cnt
  generalize hn : o.length = n
  clear hn
  induction n with
  | zero => simp [tab, tot]
  | succ n ih => rw [tot_tab_succ]; push_cast; split <;> omega

/-- Capped's error -/
def capE (total : Int) (w caps : List Int) : Int :=
  if inR total then (if sE w = 0 then (if caps.length = w.length ∧ allR caps = true then 0 else 2) else sE w) else 2
def capN (total : Int) (w caps : List Int) : List Int := if capE total w caps = 0 then (capRun w caps (w.length + 1) (List.replicate w.length 0) total).1 else []
def capR (total : Int) (w caps : List Int) : Int := if capE total w caps = 0 then (capRun w caps (w.length + 1) (List.replicate w.length 0) total).2 else 0
theorem cap_no {total : Int} {w caps : List Int} (h : capE total w caps ≠ 0) : capN total w caps = [] ∧ capR total w caps = 0 := by simp [capN, capR, h]
theorem cap_yes {total : Int} {w caps : List Int} (h : capE total w caps = 0) : capN total w caps = (capRun w caps (w.length + 1) (List.replicate w.length 0) total).1 ∧ capR total w caps = (capRun w caps (w.length + 1) (List.replicate w.length 0) total).2 := by simp [capN, capR, h]
theorem capE_ok {total : Int} {w caps : List Int} (h : capE total w caps = 0) : inR total = true ∧ w.length ≤ 1024 ∧ wOk w = true ∧ caps.length = w.length ∧ allR caps = true := by
  unfold capE at h
  split at h
  · rename_i h1
    split at h
    · rename_i h2
      split at h
      · rename_i h3
        refine ⟨h1, ?_, ?_, h3.1, h3.2⟩
        · unfold sE at h2; split at h2 <;> omega
        · unfold sE wE at h2
          split at h2
          · omega
          · split at h2
            · assumption
            · omega
      · omega
    · rename_i h2; exact absurd h h2
  · omega
theorem sN_ok {w : List Int} (h : wOk w = true) (hl : w.length ≤ 1024) : sN w = tot w ∧ sE w = 0 := by
  have : ¬ 1024 < w.length := by omega
  simp [sN, sE, this, w_yes h]
end SM
