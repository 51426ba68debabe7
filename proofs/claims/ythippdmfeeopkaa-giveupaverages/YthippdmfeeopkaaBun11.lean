/- Put together: CapMath, GivMath3, GivL, GivMath4, GivN. -/
import Derived.Test.YthippdmfeeopkaaBun10
import Derived.Test.YthippdmfeeopkaaBun8
import Derived.Test.YthippdmfeeopkaaBun7
import Derived.WalkMore
import Derived.BigQuiet
/- Plain mathematics of the parts, and of Capped. -/
namespace SM
open LM

/-! ### what the parts are -/
theorem parts_spec {total : Int} {w : List Int} (hw : wOk w = true) (h0 : tot w ≠ 0) (_t0 : 0 ≤ total) :
    ∃ P : Nat → Bool, (∀ j, j < w.length → (parts total (tot w) w).getD j 0 = pq total (w.getD j 0) (tot w) + if P j then 1 else 0) ∧
      (∀ j, j < w.length → P j = true → 0 < pr total (w.getD j 0) (tot w)) ∧
      (∀ j k, j < w.length → k < w.length → P j = true → P k = false → pr total (w.getD k 0) (tot w) < pr total (w.getD j 0) (tot w) ∨ (pr total (w.getD k 0) (tot w) = pr total (w.getD j 0) (tot w) ∧ j < k)) ∧
      tot (parts total (tot w) w) = total := by
  obtain ⟨hr, _⟩ := wOk_parts hw
  have hp : 0 < tot w := by have := tot_nonneg hr; omega
  obtain ⟨f0, f1⟩ := left_range total (tot w) w rfl hp
  obtain ⟨L, hL⟩ := Int.eq_ofNat_of_zero_le f0
  obtain ⟨P, hP⟩ := DI.iter (all := tot w) (n := w.length) (left := L) (qs_len total (tot w) w) (rs_len total (tot w) w) (by rw [tot_rs _ _ _ rfl, hL]) hp (fun j hj => (rs_range _ _ _ hp j hj).2) L (Nat.le_refl _)
  have e : parts total (tot w) w = (diter 0 L (qs total (tot w) w, rs total (tot w) w)).1 := by unfold parts; rw [hL]; rfl
  refine ⟨P, fun j hj => ?_, fun j hj h => ?_, fun j k hj hk a b => ?_, ?_⟩
  · rw [e, hP.part j hj, qs_get _ _ _ _ hj]
  · have := hP.pos j hj h; rwa [rs_get _ _ _ _ hj] at this
  · have := hP.ord j k hj hk a b; rwa [rs_get _ _ _ _ hj, rs_get _ _ _ _ hk] at this
  · rw [e, hP.sum]; unfold leftOf at hL; omega

theorem parts_sum {total : Int} {w : List Int} (hw : wOk w = true) (h0 : tot w ≠ 0) (t0 : 0 ≤ total) : tot (parts total (tot w) w) = total := by
  obtain ⟨_, _, _, _, h⟩ := parts_spec hw h0 t0; exact h
theorem parts_nonneg {total : Int} {w : List Int} (hw : wOk w = true) (h0 : tot w ≠ 0) (t0 : 0 ≤ total) (j : Nat) (hj : j < w.length) : 0 ≤ (parts total (tot w) w).getD j 0 := by
  obtain ⟨P, h, _⟩ := parts_spec hw h0 t0
  obtain ⟨hr, _⟩ := wOk_parts hw
  have hp : 0 < tot w := by have := tot_nonneg hr; omega
  have := pq_nonneg (total := total) t0 (allR_get hr hj).1 hp
  rw [h j hj]; split <;> omega
theorem parts_none {total : Int} {w : List Int} (hw : wOk w = true) (h0 : tot w ≠ 0) (t0 : 0 ≤ total) (j : Nat) (hj : j < w.length) (hz : w.getD j 0 = 0) : (parts total (tot w) w).getD j 0 = 0 := by
  obtain ⟨P, h, h2, _⟩ := parts_spec hw h0 t0
  rw [h j hj, hz]
  have e1 : pq total 0 (tot w) = 0 := by simp [pq]
  have e2 : pr total 0 (tot w) = 0 := by simp [pr]
  cases hc : P j
  · simp [e1]
  · have := h2 j hj hc; rw [hz, e2] at this; omega
theorem elem_le' (l : List Int) (h : ∀ j, j < l.length → 0 ≤ l.getD j 0) (k : Nat) (hk : k < l.length) : l.getD k 0 ≤ tot l := by
  have e : tot l = tot (l.take k) + (l.getD k 0 + tot (l.drop (k + 1))) := by
    have h1 : l = l.take k ++ (l.getD k 0 :: l.drop (k + 1)) := by
      rw [getD_at _ _ hk, ← List.drop_eq_getElem_cons hk, List.take_append_drop]
    have := congrArg tot h1
    rwa [tot_append, tot] at this
  have a := tot_nonneg' (l.take k) (fun j hj => by
    have hj' : j < k := by rw [List.length_take] at hj; omega
    rw [show (l.take k).getD j 0 = l.getD j 0 by simp [List.getD, hj']]
    exact h j (by omega))
  have b := tot_nonneg' (l.drop (k + 1)) (fun j hj => by
    have hj' : j < l.length - (k + 1) := by simpa using hj
    rw [show (l.drop (k + 1)).getD j 0 = l.getD (k + 1 + j) 0 by simp [List.getD]]
    exact h _ (by omega))
  omega
theorem elem_take_le (l : List Int) (k : Nat) (h : ∀ j, j < l.length → 0 ≤ l.getD j 0) : tot (l.take k) ≤ tot l := by
  have e : tot l = tot (l.take k) + tot (l.drop k) := by rw [← tot_append, List.take_append_drop]
  have b := tot_nonneg' (l.drop k) (fun j hj => by
    have hj' : j < l.length - k := by simpa using hj
    rw [show (l.drop k).getD j 0 = l.getD (k + j) 0 by simp [List.getD]]
    exact h _ (by omega))
  omega
theorem parts_le {total : Int} {w : List Int} (hw : wOk w = true) (h0 : tot w ≠ 0) (t0 : 0 ≤ total) (j : Nat) (hj : j < w.length) : (parts total (tot w) w).getD j 0 ≤ total := by
  have := elem_le' (parts total (tot w) w) (fun j hj => parts_nonneg hw h0 t0 j (by rwa [parts_len] at hj)) j (by rw [parts_len]; exact hj)
  rwa [parts_sum hw h0 t0] at this

/-! ### tables -/
def tab (n : Nat) (f : Nat → Int) : List Int := (List.range n).map f
theorem tab_len (n : Nat) (f : Nat → Int) : (tab n f).length = n := by simp [tab]
theorem tab_get (n : Nat) (f : Nat → Int) (k : Nat) (hk : k < n) : (tab n f).getD k 0 = f k := by simp [tab, List.getD, hk]
theorem tab_self (l : List Int) : tab l.length (fun i => l.getD i 0) = l := by
  apply List.ext_getElem
  · simp [tab]
  · intro i h1 h2; simp [tab, List.getD, h2]
theorem tab_congr {n : Nat} {f g : Nat → Int} (h : ∀ i, i < n → f i = g i) : tab n f = tab n g := by
  unfold tab
  exact List.map_congr_left fun i hi => h i (List.mem_range.1 hi)
theorem tab_succ (n : Nat) (f : Nat → Int) : tab (n + 1) f = tab n f ++ [f n] := by simp [tab, List.range_succ]
theorem tot_tab_succ (n : Nat) (f : Nat → Int) : tot (tab (n + 1) f) = tot (tab n f) + f n := by rw [tab_succ, tot_append]; simp [tot]
theorem tot_tab_le {n : Nat} {f g : Nat → Int} (h : ∀ i, i < n → f i ≤ g i) : tot (tab n f) ≤ tot (tab n g) := by
  induction n with
  | zero => simp [tab]
  | succ n ih =>
    rw [tot_tab_succ, tot_tab_succ]
    have := ih fun i hi => h i (by omega)
    have := h n (by omega)
    omega
theorem tot_tab_lt {n : Nat} {f g : Nat → Int} (h : ∀ i, i < n → f i ≤ g i) (k : Nat) (hk : k < n) (hs : f k < g k) : tot (tab n f) < tot (tab n g) := by
  induction n with
  | zero => omega
  | succ n ih =>
    rw [tot_tab_succ, tot_tab_succ]
    have a := h n (by omega)
    rcases Nat.lt_or_ge k n with h1 | h1
    · have := ih (fun i hi => h i (by omega)) h1; omega
    · obtain rfl : k = n := by omega
      have := tot_tab_le (n := k) (f := f) (g := g) fun i hi => h i (by omega)
      omega
theorem tot_tab_nonneg {n : Nat} {f : Nat → Int} (h : ∀ i, i < n → 0 ≤ f i) : 0 ≤ tot (tab n f) := by
  induction n with
  | zero => simp [tab, tot]
  | succ n ih =>
    rw [tot_tab_succ]
    have := ih fun i hi => h i (by omega)
    have := h n (by omega)
    omega
theorem tot_tab_sub {n : Nat} {f g : Nat → Int} : tot (tab n fun i => f i + g i) = tot (tab n f) + tot (tab n g) := by
  induction n with
  | zero => simp [tab, tot]
  | succ n ih => rw [tot_tab_succ, tot_tab_succ, tot_tab_succ, ih]; omega
theorem pre_tab_set (n : Nat) (f g : Nat → Int) (k : Nat) : (tab n fun i => if i < k then f i else g i).set k (f k) = tab n fun i => if i < k + 1 then f i else g i := by
  apply List.ext_getElem
  · simp [tab]
  · intro i h1 h2
    simp only [tab, List.getElem_set, List.getElem_map, List.getElem_range]
    by_cases e : k = i
    · subst e; simp
    · rw [if_neg e]
      by_cases h : i < k
      · simp [h, show i < k + 1 by omega]
      · simp [h, show ¬ i < k + 1 by omega]
theorem pre_tab_zero (n : Nat) (f g : Nat → Int) : (tab n fun i => if i < 0 then f i else g i) = tab n g := tab_congr fun i _ => by simp
theorem pre_tab_full (n : Nat) (f g : Nat → Int) : (tab n fun i => if i < n then f i else g i) = tab n f := tab_congr fun i hi => by simp [hi]

/-! ### Capped -/
/-- the weights that still count -/
def openOf (w caps out : List Int) : List Int := tab w.length fun i => if out.getD i 0 < caps.getD i 0 then w.getD i 0 else 0
def over (l caps : List Int) : Bool := (List.range l.length).any fun i => decide (caps.getD i 0 < l.getD i 0)
def capOut (l caps out : List Int) : List Int := tab out.length fun i => if caps.getD i 0 < l.getD i 0 then caps.getD i 0 else out.getD i 0
def capTaken (l caps : List Int) : Int := tot (tab l.length fun i => if caps.getD i 0 < l.getD i 0 then caps.getD i 0 else 0)
def addL (out l : List Int) : List Int := tab out.length fun i => out.getD i 0 + l.getD i 0

def capRun (w caps : List Int) : Nat → List Int → Int → List Int × Int
  | 0, out, left => (out, left)
  | f + 1, out, left =>
    if left ≤ 0 then (out, left) else
    if tot (openOf w caps out) = 0 then (out, left) else
    if over (parts left (tot (openOf w caps out)) (openOf w caps out)) caps then
      capRun w caps f (capOut (parts left (tot (openOf w caps out)) (openOf w caps out)) caps out) (left - capTaken (parts left (tot (openOf w caps out)) (openOf w caps out)) caps)
    else (addL out (parts left (tot (openOf w caps out)) (openOf w caps out)), 0)

/-- how many count -/
def cnt (o : List Int) : Int := tot (tab o.length fun i => if 0 < o.getD i 0 then 1 else 0)

/-- what holds between the rounds -/
structure CI (w caps : List Int) (total : Int) (out : List Int) (left : Int) : Prop where
  len : out.length = w.length
  caps' : caps.length = w.length
  vals : ∀ i, i < w.length → out.getD i 0 = 0 ∨ out.getD i 0 = caps.getD i 0
  l0 : 0 ≤ left
  sum : tot out + left = total

theorem CI.start {w caps : List Int} {total : Int} (hc : caps.length = w.length) (t0 : 0 ≤ total) : CI w caps total (List.replicate w.length 0) total := by
  refine ⟨by simp, hc, fun i hi => .inl (by simp [List.getD, hi]), t0, ?_⟩
  have : tot (List.replicate w.length 0) = 0 := by
    generalize w.length = n
    induction n with
    | zero => rfl
    | succ n ih => simp [List.replicate_succ, tot, ih]
  omega

theorem openOf_len (w caps out : List Int) : (openOf w caps out).length = w.length := tab_len _ _
theorem openOf_ok {w : List Int} (caps out : List Int) (hw : wOk w = true) : wOk (openOf w caps out) = true := by
  obtain ⟨hr, ht⟩ := wOk_parts hw
  have h1 : allR (openOf w caps out) = true := by
    refine List.all_eq_true.2 fun n hn => ?_
    obtain ⟨k, hk, rfl⟩ := List.getElem_of_mem hn
    have hk' : k < w.length := by rwa [openOf_len] at hk
    rw [← getD_at _ _ hk]
    unfold openOf
    rw [tab_get _ _ _ hk']
    obtain ⟨a, b⟩ := allR_get hr hk'
    split
    · exact inR_true.2 ⟨a, b⟩
    · exact inR_true.2 ⟨by omega, by omega⟩
  have h2 : tot (openOf w caps out) ≤ tot w := by
    conv => rhs; rw [← tab_self w]
    exact tot_tab_le fun i hi => by
      have := (allR_get hr hi).1
      split <;> omega
  unfold wOk
  simp [h1]; omega

theorem over_iff (l caps : List Int) : over l caps = true ↔ ∃ i, i < l.length ∧ caps.getD i 0 < l.getD i 0 := by
  unfold over
  rw [List.any_eq_true]
  constructor
  · rintro ⟨i, hi, h⟩; exact ⟨i, List.mem_range.1 hi, of_decide_eq_true h⟩
  · rintro ⟨i, hi, h⟩; exact ⟨i, List.mem_range.2 hi, decide_eq_true h⟩

/-- a full round -/
theorem CI.full {w caps : List Int} {total : Int} {out : List Int} {left : Int} (h : CI w caps total out left) (hw : wOk w = true) (hc : allR caps = true) (hl : 0 < left)
    (h0 : tot (openOf w caps out) ≠ 0) (hov : over (parts left (tot (openOf w caps out)) (openOf w caps out)) caps = true) :
    CI w caps total (capOut (parts left (tot (openOf w caps out)) (openOf w caps out)) caps out) (left - capTaken (parts left (tot (openOf w caps out)) (openOf w caps out)) caps) ∧
    0 < capTaken (parts left (tot (openOf w caps out)) (openOf w caps out)) caps ∧ capTaken (parts left (tot (openOf w caps out)) (openOf w caps out)) caps ≤ left ∧
    cnt (openOf w caps (capOut (parts left (tot (openOf w caps out)) (openOf w caps out)) caps out)) < cnt (openOf w caps out) ∧
    openOf w caps (capOut (parts left (tot (openOf w caps out)) (openOf w caps out)) caps out) =
      tab w.length (fun i => if caps.getD i 0 < (parts left (tot (openOf w caps out)) (openOf w caps out)).getD i 0 then 0 else (openOf w caps out).getD i 0) := by
  have ho := openOf_ok caps out hw
  have hp := fun j hj => parts_none (total := left) ho h0 (by omega) j hj
  have hn := fun j hj => parts_nonneg (total := left) ho h0 (by omega) j hj
  have hs := parts_sum (total := left) ho h0 (by omega)
  have hL : (parts left (tot (openOf w caps out)) (openOf w caps out)).length = w.length := by rw [parts_len, openOf_len]
  rw [openOf_len] at hp hn
  generalize hO : openOf w caps out = O at *
  have hOl : O.length = w.length := by rw [← hO, openOf_len]
  have hOg : ∀ i, i < w.length → O.getD i 0 = if out.getD i 0 < caps.getD i 0 then w.getD i 0 else 0 := fun i hi => by rw [← hO]; unfold openOf; rw [tab_get _ _ _ hi]
  generalize parts left (tot O) O = l at *
  obtain ⟨len, caps', vals, l0, sum⟩ := h
  have hcap : ∀ i, i < w.length → 0 ≤ caps.getD i 0 := fun i hi => (allR_get hc (by omega)).1
  -- one that is offered too much has nothing yet, and a cap above nought
  have key : ∀ i, i < w.length → caps.getD i 0 < l.getD i 0 → out.getD i 0 = 0 ∧ 0 < caps.getD i 0 ∧ 0 < O.getD i 0 := fun i hi hc1 => by
    have c0 := hcap i hi
    have hnz : O.getD i 0 ≠ 0 := fun e => by have := hp i hi e; omega
    have := hOg i hi
    have hw0 : 0 ≤ w.getD i 0 := (allR_get (wOk_parts hw).1 hi).1
    by_cases hlt : out.getD i 0 < caps.getD i 0
    · rw [if_pos hlt] at this
      rcases vals i hi with v | v
      · exact ⟨v, by omega, by omega⟩
      · omega
    · rw [if_neg hlt] at this; exact absurd this hnz
  obtain ⟨m, hm, hmo⟩ := (over_iff _ _).1 hov
  rw [hL] at hm
  have hT : capTaken l caps = tot (tab w.length fun i => if caps.getD i 0 < l.getD i 0 then caps.getD i 0 else 0) := by unfold capTaken; rw [hL]
  have hT0 : 0 < capTaken l caps := by
    rw [hT]
    have := tot_tab_lt (n := w.length) (f := fun _ => 0) (g := fun i => if caps.getD i 0 < l.getD i 0 then caps.getD i 0 else 0) (fun i hi => by
      have := hcap i hi; split <;> omega) m hm (by simp only [if_pos hmo]; exact (key m hm hmo).2.1)
    have h2 := tot_tab_nonneg (n := w.length) (f := fun _ => 0) (fun i _ => Int.le_refl _)
    omega
  have hT1 : capTaken l caps ≤ left := by
    rw [hT, ← hs]
    conv => rhs; rw [← tab_self l, hL]
    refine tot_tab_le fun i hi => ?_
    have := hn i hi
    split <;> omega
  have hoo : (capOut l caps out).length = w.length := by unfold capOut; rw [tab_len, len]
  have hog : ∀ i, i < w.length → (capOut l caps out).getD i 0 = if caps.getD i 0 < l.getD i 0 then caps.getD i 0 else out.getD i 0 := fun i hi => by
    unfold capOut; rw [tab_get _ _ _ (by omega)]
  have hnew : openOf w caps (capOut l caps out) = tab w.length (fun i => if caps.getD i 0 < l.getD i 0 then 0 else O.getD i 0) := by
    unfold openOf
    refine tab_congr fun i hi => ?_
    rw [hog i hi, hOg i hi]
    by_cases e : caps.getD i 0 < l.getD i 0
    · simp only [e, if_true]; rw [if_neg (by omega)]
    · simp only [e, if_false]
  refine ⟨⟨hoo, caps', fun i hi => ?_, by omega, ?_⟩, hT0, hT1, ?_, hnew⟩
  · rw [hog i hi]; split
    · exact .inr rfl
    · exact vals i hi
  · have e : tot (capOut l caps out) = tot out + capTaken l caps := by
      rw [hT]
      unfold capOut
      rw [len]
      conv => rhs; rw [← tab_self out, len]
      rw [← tot_tab_sub]
      congr 1
      refine tab_congr fun i hi => ?_
      by_cases e : caps.getD i 0 < l.getD i 0
      · simp only [e, if_true]; have := (key i hi e).1; omega
      · simp only [e, if_false]; omega
    omega
  · rw [hnew]
    unfold cnt
    rw [tab_len, hOl]
    refine tot_tab_lt (fun i hi => ?_) m hm ?_
    · rw [tab_get _ _ _ hi]
      split <;> split <;> (try split) <;> (try split at *) <;> omega
    · rw [tab_get _ _ _ hm, if_pos hmo, if_pos (key m hm hmo).2.2]; simp

/-! where no offer is too great -/
theorem not_over {l caps : List Int} (h : over l caps = false) (i : Nat) (hi : i < l.length) : ¬ caps.getD i 0 < l.getD i 0 := fun hc => by
  have := (over_iff l caps).2 ⟨i, hi, hc⟩; rw [h] at this; cases this
theorem taken_none {l caps : List Int} (h : over l caps = false) : capTaken l caps = 0 := by
  unfold capTaken
  have : (tab l.length fun i => if caps.getD i 0 < l.getD i 0 then caps.getD i 0 else 0) = tab l.length fun _ => 0 := tab_congr fun i hi => if_neg (not_over h i hi)
  rw [this]
  generalize l.length = n
  induction n with
  | zero => rfl
  | succ n ih => rw [tot_tab_succ, ih]; rfl
theorem out_none {l caps out : List Int} (h : over l caps = false) (hl : l.length = out.length) : capOut l caps out = out := by
  unfold capOut
  conv => rhs; rw [← tab_self out]
  exact tab_congr fun i hi => if_neg (not_over h i (by omega))

theorem capRun_done (w caps : List Int) (f : Nat) (out : List Int) (left : Int) (h : left ≤ 0) : capRun w caps f out left = (out, left) := by
  cases f with
  | zero => rfl
  | succ f => simp [capRun, h]
theorem capRun_shut (w caps : List Int) (f : Nat) (out : List Int) (left : Int) (h : tot (openOf w caps out) = 0) : capRun w caps f out left = (out, left) := by
  cases f with
  | zero => rfl
  | succ f => simp [capRun, h]
theorem capRun_over (w caps : List Int) (f : Nat) (out : List Int) (left : Int) (hl : 0 < left) (h0 : tot (openOf w caps out) ≠ 0) (h : over (parts left (tot (openOf w caps out)) (openOf w caps out)) caps = true) :
    capRun w caps (f + 1) out left = capRun w caps f (capOut (parts left (tot (openOf w caps out)) (openOf w caps out)) caps out) (left - capTaken (parts left (tot (openOf w caps out)) (openOf w caps out)) caps) := by
  rw [capRun, if_neg (by omega), if_neg h0, if_pos h]
theorem capRun_last (w caps : List Int) (f : Nat) (out : List Int) (left : Int) (hl : 0 < left) (h0 : tot (openOf w caps out) ≠ 0) (h : over (parts left (tot (openOf w caps out)) (openOf w caps out)) caps = false) :
    capRun w caps (f + 1) out left = (addL out (parts left (tot (openOf w caps out)) (openOf w caps out)), 0) := by
  rw [capRun, if_neg (by omega), if_neg h0, if_neg (by rw [h]; simp)]
theorem cnt_range (o : List Int) : 0 ≤ cnt o ∧ cnt o ≤ o.length := by
  unfold cnt
  generalize hn : o.length = n
  clear hn
  induction n with
  | zero => simp [tab, tot]
  | succ n ih => rw [tot_tab_succ]; push_cast; split <;> omega

/-- Capped's error -/
def capE (total : Int) (w caps : List Int) : Int :=
  if inR total then (if sE w = 0 then (if caps.length = w.length ∧ allR caps = true then 0 else 2) else sE w) else 2
def capN (total : Int) (w caps : List Int) : List Int := if capE total w caps = 0 then (capRun w caps (w.length + 1) (List.replicate w.length 0) total).1 else []
def capR (total : Int) (w caps : List Int) : Int := if capE total w caps = 0 then (capRun w caps (w.length + 1) (List.replicate w.length 0) total).2 else 0
theorem cap_no {total : Int} {w caps : List Int} (h : capE total w caps ≠ 0) : capN total w caps = [] ∧ capR total w caps = 0 := by simp [capN, capR, h]
theorem cap_yes {total : Int} {w caps : List Int} (h : capE total w caps = 0) : capN total w caps = (capRun w caps (w.length + 1) (List.replicate w.length 0) total).1 ∧ capR total w caps = (capRun w caps (w.length + 1) (List.replicate w.length 0) total).2 := by simp [capN, capR, h]
theorem capE_ok {total : Int} {w caps : List Int} (h : capE total w caps = 0) : inR total = true ∧ w.length ≤ 1024 ∧ wOk w = true ∧ caps.length = w.length ∧ allR caps = true := by
  unfold capE at h
  split at h
  · rename_i h1
    split at h
    · rename_i h2
      split at h
      · rename_i h3
        refine ⟨h1, ?_, ?_, h3.1, h3.2⟩
        · unfold sE at h2; split at h2 <;> omega
        · unfold sE wE at h2
          split at h2
          · omega
          · split at h2
            · assumption
            · omega
      · omega
    · rename_i h2; exact absurd h h2
  · omega
theorem sN_ok {w : List Int} (h : wOk w = true) (hl : w.length ≤ 1024) : sN w = tot w ∧ sE w = 0 := by
  have : ¬ 1024 < w.length := by omega
  simp [sN, sE, this, w_yes h]
end SM

/- Layer 14's mathematics: what all pay by one price. -/
namespace GM
open LM
theorem share_bound {a Q P B : Int} (h0 : 0 ≤ a) (h1 : a ≤ Q) (hB : -B ≤ Q * P ∧ Q * P ≤ B) : -B ≤ a * P ∧ a * P ≤ B := by
  rcases Int.lt_or_le P 0 with g | g
  · have e1 : Q * P ≤ a * P := Int.mul_le_mul_of_nonpos_right h1 (by omega)
    have e2 : a * P ≤ 0 * P := Int.mul_le_mul_of_nonpos_right h0 (by omega)
    omega
  · have e1 : a * P ≤ Q * P := Int.mul_le_mul_of_nonneg_right h1 g
    have e2 : 0 * P ≤ a * P := Int.mul_le_mul_of_nonneg_right h0 g
    omega
def paidAt (p : List Part) (rs : List Int) (P : Int) (k : Nat) : Int := psum (p.take k) * P + tot (rs.take k)
theorem paid_succ {p : List Part} {rs : List Int} {P : Int} {k : Nat} (h : k < p.length) (hr : rs.length = p.length) : paidAt p rs P (k + 1) = paidAt p rs P k + ((pAt p k).qty * P + rs.getD k 0) := by
  unfold paidAt
  rw [psum_succ h, tot_take_succ rs k (by omega), Int.add_mul]
  omega
structure Pays (l : List TM.Trd) (tick : Int) (p : List Part) (rs : List Int) : Prop where
  len : rs.length = p.length
  all : ∀ k, k < p.length → 0 ≤ rs.getD k 0 ∧ rs.getD k 0 ≤ 18014398509481984
  sum : tot rs = avgR l tick
  part : ∀ k, k ≤ p.length → 0 ≤ tot (rs.take k) ∧ tot (rs.take k) ≤ 18014398509481984
  one : ∀ k, k < p.length → -36028797018963968 ≤ (pAt p k).qty * avgP l tick ∧ (pAt p k).qty * avgP l tick ≤ 36028797018963968
  pays : ∀ k, k ≤ p.length → -36028797018963968 ≤ paidAt p rs (avgP l tick) k ∧ paidAt p rs (avgP l tick) k ≤ 72057594037927936
  done : paidAt p rs (avgP l tick) p.length = cost l
theorem parts_inv {all : Int} {p : List Part} (h : partsE all p = 0) : (1 ≤ p.length ∧ p.length ≤ 1024) ∧ (∀ x ∈ p, 1 ≤ x.qty ∧ x.qty ≤ 1048576) ∧ psum p = all := by
  have hz := or_zero h
  have h1 := hz (countE p.length) (by simp)
  have h2 := hz (sizesE p) (by simp)
  have h3 := hz (sumE all p) (by simp)
  refine ⟨?_, sizes_inv h2, ?_⟩
  · unfold countE at h1
    split at h1
    · assumption
    · cases h1
  · unfold sumE at h3
    split at h3
    · assumption
    · cases h3
theorem qtys_ok {p : List Part} (h : ∀ x ∈ p, 1 ≤ x.qty ∧ x.qty ≤ 1048576) : SM.allR (p.map (·.qty)) = true := by
  refine List.all_eq_true.2 fun n hn => ?_
  obtain ⟨x, hx, rfl⟩ := List.mem_map.1 hn
  have := h x hx
  exact SM.inR_true.2 ⟨by omega, by omega⟩
theorem even_pays {l : List TM.Trd} {tick : Int} {p : List Part} (hp : Pooled l tick) (hd : partsE (lots l) p = 0) (hc : -18014398509481984 ≤ cost l ∧ cost l ≤ 18014398509481984) :
    Pays l tick p (SM.splN (avgR l tick) (p.map (·.qty))) := by
  obtain ⟨⟨n1, n2⟩, hq, hs⟩ := parts_inv hd
  obtain ⟨⟨q1, q2⟩, ⟨s1, s2⟩, _, _, ⟨m1, m2⟩, r1, r2⟩ := avg_bounds hp hc
  have hpb := psum_bound hq
  have htot : tot (p.map (·.qty)) = lots l := hs
  have hw : SM.wOk (p.map (·.qty)) = true := by unfold SM.wOk; rw [qtys_ok hq, htot]; simp; omega
  have h0 : tot (p.map (·.qty)) ≠ 0 := by rw [htot]; omega
  have hin : SM.inR (avgR l tick) = true := SM.inR_true.2 ⟨r1, by omega⟩
  obtain ⟨_, e2⟩ := SM.spl_ok hin (by rw [List.length_map]; omega) hw h0
  rw [e2]
  have hlen : (SM.parts (avgR l tick) (tot (p.map (·.qty))) (p.map (·.qty))).length = p.length := by rw [SM.parts_len, List.length_map]
  have hsum := SM.parts_sum hw h0 r1
  have hnn := SM.parts_nonneg hw h0 r1
  have hle := SM.parts_le hw h0 r1
  rw [List.length_map] at hnn hle
  generalize SM.parts (avgR l tick) (tot (p.map (·.qty))) (p.map (·.qty)) = rs at *
  have hall : ∀ k, k < p.length → 0 ≤ rs.getD k 0 ∧ rs.getD k 0 ≤ 18014398509481984 := fun k hk => by
    have := hnn k hk
    have := hle k hk
    omega
  have har : SM.allR rs = true := List.all_eq_true.2 fun n hn => by
    obtain ⟨k, hk, rfl⟩ := List.getElem_of_mem hn
    have := hall k (by omega)
    rw [List.getD_eq_getElem?_getD, List.getElem?_eq_getElem hk] at this
    simp at this
    exact SM.inR_true.2 ⟨this.1, by omega⟩
  have hpart : ∀ k, k ≤ p.length → 0 ≤ tot (rs.take k) ∧ tot (rs.take k) ≤ 18014398509481984 := fun k _ => by
    have a := SM.tot_take_le har k
    have b : 0 ≤ tot (rs.take k) := SM.tot_nonneg (SM.allR_take har k)
    omega
  have hps : ∀ k, k ≤ p.length → 0 ≤ psum (p.take k) ∧ psum (p.take k) ≤ lots l := fun k _ => by
    have a := SM.tot_take_le (qtys_ok hq) k
    have b := SM.tot_nonneg (SM.allR_take (qtys_ok hq) k)
    rw [← List.map_take] at a b
    rw [htot] at a
    exact ⟨b, a⟩
  refine ⟨hlen, hall, hsum, hpart, fun k hk => ?_, fun k hk => ?_, ?_⟩
  · have hx := hq _ (List.getElem_mem hk)
    rw [← pAt_get hk] at hx
    have h2 := hps (k + 1) (by omega)
    rw [psum_succ hk] at h2
    have h3 := hps k (by omega)
    exact share_bound (by omega) (by omega) ⟨m1, m2⟩
  · have h3 := hps k hk
    have h4 := share_bound h3.1 h3.2 ⟨m1, m2⟩
    have h5 := hpart k hk
    unfold paidAt
    omega
  · unfold paidAt
    rw [List.take_length, ← hlen, List.take_length, hs, hsum]
    unfold avgR
    omega
theorem mod_price (l : List TM.Trd) (tick : Int) : (avgP l tick).tmod tick = 0 := Int.mul_tmod_left _ _
end GM

/- Contracts of layer 14: what one part takes of a trade. -/
namespace GM
def takenT (t : TM.Trd) (b : Bool) (x : Part) (id : Int) : TM.Trd := if b = true then { t with id := id, qty := x.qty, bm := x.am, bn := x.an } else { t with id := id, qty := x.qty, sm := x.am, sn := x.an }
def otherOf (t : TM.Trd) (b : Bool) : ByteArray × ByteArray := if b = true then (t.sm, t.sn) else (t.bm, t.bn)
def clash (t : TM.Trd) (b : Bool) (p : List Part) : Bool := p.any fun x => NM.aeq x.am x.an (otherOf t b).1 (otherOf t b).2
def divE (t : TM.Trd) (b : Bool) (p : List Part) (first : Int) : Int :=
  if partsE t.qty p = 0 then (if 1 ≤ first ∧ first ≤ 1152921504606846976 - ((p.length : Int) - 1) then (if clash t b p = true then 21 else 0) else 2) else partsE t.qty p
def taken (t : TM.Trd) (b : Bool) (p : List Part) (first : Int) (k : Nat) : List TM.Trd := (List.range k).map fun i => takenT t b (pAt p i) (first + (i : Int))
def divL (t : TM.Trd) (b : Bool) (p : List Part) (first : Int) : List TM.Trd := if divE t b p first = 0 then taken t b p first p.length else []
theorem taken_succ (t : TM.Trd) (b : Bool) (p : List Part) (first : Int) (k : Nat) : taken t b p first (k + 1) = taken t b p first k ++ [takenT t b (pAt p k) (first + (k : Int))] := by
  unfold taken; rw [List.range_succ, List.map_append]; rfl
theorem taken_len (t : TM.Trd) (b : Bool) (p : List Part) (first : Int) (k : Nat) : (taken t b p first k).length = k := by unfold taken; simp
theorem clash_bad {t : TM.Trd} {b : Bool} {p : List Part} {k : Nat} (h : k < p.length) (hx : NM.aeq (pAt p k).am (pAt p k).an (otherOf t b).1 (otherOf t b).2 = true) : clash t b p = true :=
  List.any_eq_true.2 ⟨pAt p k, by rw [pAt_get h]; exact List.getElem_mem h, hx⟩
theorem clash_ok {t : TM.Trd} {b : Bool} {p : List Part} (h : ∀ j, j < p.length → NM.aeq (pAt p j).am (pAt p j).an (otherOf t b).1 (otherOf t b).2 = false) : clash t b p = false := by
  cases e : clash t b p
  · rfl
  · obtain ⟨x, hx, hy⟩ := List.any_eq_true.1 e
    obtain ⟨j, hj, rfl⟩ := List.getElem_of_mem hx
    have := h j hj
    rw [pAt_get hj, hy] at this
    cases this
end GM
namespace Go.Proofs.Ythippdmfeeopkaa
open Go.RowKit Go.Recs
set_option linter.unusedVariables false
set_option linter.unusedSimpArgs false
abbrev partA (x : GM.Part) : Value := .agg #[.string x.am, .string x.an, .int .i64 x.qty]
theorem trd_under : Try.prog.underlying 45 = some (.struct (Try.prog.fieldsOf 45)) := by kernel_rfl
theorem trd_size : (Try.prog.info? 45).map (·.size) = some 13 := by kernel_rfl
theorem load_trd (w : World) (g : Nat) (x : TM.Trd) (hb : CB w g 45 (trdC x)) : (loadVar 45 ⟨g, 0, none⟩).run Try.prog w = .ok (trdA x) w := by
  rw [run_loadVar_row w g 45 45 _ (0, 0) _ hb trd_under rfl trd_size]
theorem results_trd1 {fn : Func} {p : Tmp} (h : fn.results = #[.cell p 45]) (tmps : Array Value) (w : World) (g : Nat) (x : TM.Trd)
    (hp : tmps.getD p undef = .pointer (some ⟨g, 0, none⟩)) (hb : CB w g 45 (trdC x)) : (results fn tmps).run Try.prog w = .ok (trdA x) w := by
  rw [results_cell1 h, hp]
  simp only [asAddr, Sem.run_pure, Result.andThen_ok]
  exact load_trd w g x hb
theorem taken_yes (t : TM.Trd) (x : GM.Part) (id : Int) : GM.takenT t true x id = { t with id := id, qty := x.qty, bm := x.am, bn := x.an } := rfl
theorem taken_no (t : TM.Trd) (x : GM.Part) (id : Int) : GM.takenT t false x id = { t with id := id, qty := x.qty, sm := x.am, sn := x.an } := rfl
set_option maxHeartbeats 2000000 in
set_option maxRecDepth 100000 in
theorem taken_any (t : TM.Trd) (b : Bool) (x : GM.Part) (id : Int) (w : World) :
    Calls Try.prog 57 #[trdA t, .bool b, partA x, .int .i64 id] w fun e w' => e = .returned (trdA (GM.takenT t b x id)) ∧ Below w.heap.size w w' := by
  have HB0 := Lib.hid (fun (a b c : Array Value) => below_al (below_al (below_al (Below.refl w.heap.size w) (.cells a 45)) (.cells b 113)) (.cells c 45))
  cases b
  · rw [taken_no]
    go_enter Try.func57, Try.ntmps57
    go_wp2_with fail
    go_region
    all_goals (
      go_wp2_with fail
      (try simp only [Exit.inBlock, Exit.then])
      exact bodyPost_ret (results_trd1 (x := { t with id := id, qty := x.qty, sm := x.am, sn := x.an }) rfl _ _ _ rfl (by first | exact CB.new2 _ _ _ _ _ | exact (CB.new2 _ _ _ _ _))) rfl ⟨rfl, by first | exact (HB0.out _ _ _).drew | exact HB0.out _ _ _⟩)
  · rw [taken_yes]
    go_enter Try.func57, Try.ntmps57
    go_wp2_with fail
    go_region
    all_goals (
      go_wp2_with fail
      (try simp only [Exit.inBlock, Exit.then])
      exact bodyPost_ret (results_trd1 (x := { t with id := id, qty := x.qty, bm := x.am, bn := x.an }) rfl _ _ _ rfl (by first | exact CB.new2 _ _ _ _ _ | exact (CB.new2 _ _ _ _ _))) rfl ⟨rfl, by first | exact (HB0.out _ _ _).drew | exact HB0.out _ _ _⟩)
end Go.Proofs.Ythippdmfeeopkaa

/- Layer 14's mathematics: the reference's order of errors, and its division. -/
namespace GM
open LM
theorem count_yes {n : Nat} (h : 1 ≤ n ∧ n ≤ 1024) : countE n = 0 := by unfold countE; rw [if_pos h]
theorem count_no {n : Nat} (h : ¬ (1 ≤ n ∧ n ≤ 1024)) : countE n = 8 := by unfold countE; rw [if_neg h]
theorem parts_count {all : Int} {l : List Part} (h : ¬ (1 ≤ l.length ∧ l.length ≤ 1024)) : partsE all l = 8 := by
  unfold partsE; rw [count_no h]; simp [orE]
theorem parts_size {all : Int} {l : List Part} (h : 1 ≤ l.length ∧ l.length ≤ 1024) {k : Nat} (hk : k < l.length) (hq : okQ (pAt l k).qty = false) : partsE all l = 18 := by
  unfold partsE; rw [count_yes h, sizes_bad hk hq]; simp [orE]
theorem parts_sum {all : Int} {l : List Part} (h : 1 ≤ l.length ∧ l.length ≤ 1024) (hs : ∀ j, j < l.length → okQ (pAt l j).qty = true) (hn : ¬ psum l = all) : partsE all l = 18 := by
  unfold partsE; rw [count_yes h, sizes_ok hs, show sumE all l = 18 from by unfold sumE; rw [if_neg hn]]; simp [orE]
theorem parts_acc {all : Int} {l : List Part} (h : 1 ≤ l.length ∧ l.length ≤ 1024) (hs : ∀ j, j < l.length → okQ (pAt l j).qty = true) (hn : psum l = all) {k : Nat} (hk : k < l.length) (hp : pseen l k (pAt l k) = true) : partsE all l = 21 := by
  unfold partsE; rw [count_yes h, sizes_ok hs, show sumE all l = 0 from by unfold sumE; rw [if_pos hn], acc_bad hk hp]; simp [orE]
theorem parts_ok {all : Int} {l : List Part} (h : 1 ≤ l.length ∧ l.length ≤ 1024) (hs : ∀ j, j < l.length → okQ (pAt l j).qty = true) (hn : psum l = all) (ho : ∀ j, j < l.length → pseen l j (pAt l j) = false) : partsE all l = 0 := by
  unfold partsE; rw [count_yes h, sizes_ok hs, show sumE all l = 0 from by unfold sumE; rw [if_pos hn], acc_ok ho]; simp [orE]
theorem psum_upto {l : List Part} (hl : l.length ≤ 1024) {k : Nat} (hk : k ≤ l.length) (h : ∀ j, j < k → okQ (pAt l j).qty = true) : 0 ≤ psum (l.take k) ∧ psum (l.take k) ≤ 1073741824 := by
  have := psum_bound (l := l.take k) (fun x hx => by
    obtain ⟨j, hj, rfl⟩ := List.getElem_of_mem hx
    rw [List.length_take] at hj
    have h1 := h j (by omega)
    rw [pAt_get (by omega)] at h1
    rw [List.getElem_take]
    exact okQ_iff.1 h1)
  rw [List.length_take] at this
  omega
theorem seen_hit {l : List Part} {k i : Nat} (hi : i < k) (hk : k < l.length) (h : NM.aeq (pAt l i).am (pAt l i).an (pAt l k).am (pAt l k).an = true) : pseen l k (pAt l k) = true := by
  unfold pseen
  rw [List.any_eq_true]
  refine ⟨pAt l i, ?_, h⟩
  rw [pAt_get (by omega)]
  exact List.mem_take_iff_getElem.2 ⟨i, by omega, rfl⟩
theorem seen_none {l : List Part} {k : Nat} (hk : k < l.length) : ∀ i, i ≤ k → (∀ j, j < i → NM.aeq (pAt l j).am (pAt l j).an (pAt l k).am (pAt l k).an = false) → pseen l i (pAt l k) = false := by
  intro i
  induction i with
  | zero => intro _ _; exact pseen_zero _ _
  | succ i ih =>
    intro hi h
    rw [pseen_succ (by omega), ih (by omega) (fun j hj => h j (by omega)), h i (by omega)]
    rfl
/-- trades -/
theorem pool_tick {l : List TM.Trd} {tick : Int} (h : ¬ (1 ≤ tick ∧ tick ≤ 16777216)) : poolE l tick = 16 := by
  unfold poolE; rw [show tickE tick = 16 from by unfold tickE; rw [if_neg h]]; simp [orE]
theorem tick_yes {tick : Int} (h : 1 ≤ tick ∧ tick ≤ 16777216) : tickE tick = 0 := by unfold tickE; rw [if_pos h]
theorem pool_count {l : List TM.Trd} {tick : Int} (h : 1 ≤ tick ∧ tick ≤ 16777216) (hc : ¬ (1 ≤ l.length ∧ l.length ≤ 1024)) : poolE l tick = 8 := by
  unfold poolE; rw [tick_yes h, count_no hc]; simp [orE]
theorem one_bad {l : List TM.Trd} {k : Nat} (hk : k < l.length) (hq : NM.seqB (TM.tAt l k).ser (TM.tAt l 0).ser = false) : oneE l = 19 := by
  unfold oneE; rw [all_bad (p := fun t => NM.seqB t.ser (TM.tAt l 0).ser) hk hq]; rfl
theorem one_ok {l : List TM.Trd} (h : ∀ j, j < l.length → NM.seqB (TM.tAt l j).ser (TM.tAt l 0).ser = true) : oneE l = 0 := by
  unfold oneE; rw [all_ok (p := fun t => NM.seqB t.ser (TM.tAt l 0).ser) h]; rfl
theorem lots_bad {l : List TM.Trd} {k : Nat} (hk : k < l.length) (hq : okQ (TM.tAt l k).qty = false) : lotsE l = 18 := by
  unfold lotsE; rw [all_bad (p := fun t => okQ t.qty) hk hq]; rfl
theorem lots_ok {l : List TM.Trd} (h : ∀ j, j < l.length → okQ (TM.tAt l j).qty = true) : lotsE l = 0 := by
  unfold lotsE; rw [all_ok (p := fun t => okQ t.qty) h]; rfl
theorem price_bad {l : List TM.Trd} {k : Nat} (hk : k < l.length) (hq : okP (TM.tAt l k).price = false) : priceE l = 17 := by
  unfold priceE; rw [all_bad (p := fun t => okP t.price) hk hq]; rfl
theorem price_ok {l : List TM.Trd} (h : ∀ j, j < l.length → okP (TM.tAt l j).price = true) : priceE l = 0 := by
  unfold priceE; rw [all_ok (p := fun t => okP t.price) h]; rfl
theorem pool_one {l : List TM.Trd} {tick : Int} (h : 1 ≤ tick ∧ tick ≤ 16777216) (hc : 1 ≤ l.length ∧ l.length ≤ 1024) {k : Nat} (hk : k < l.length) (hq : NM.seqB (TM.tAt l k).ser (TM.tAt l 0).ser = false) : poolE l tick = 19 := by
  unfold poolE; rw [tick_yes h, count_yes hc, one_bad hk hq]; simp [orE]
theorem pool_lots {l : List TM.Trd} {tick : Int} (h : 1 ≤ tick ∧ tick ≤ 16777216) (hc : 1 ≤ l.length ∧ l.length ≤ 1024) (h1 : ∀ j, j < l.length → NM.seqB (TM.tAt l j).ser (TM.tAt l 0).ser = true) {k : Nat} (hk : k < l.length) (hq : okQ (TM.tAt l k).qty = false) : poolE l tick = 18 := by
  unfold poolE; rw [tick_yes h, count_yes hc, one_ok h1, lots_bad hk hq]; simp [orE]
theorem pool_price {l : List TM.Trd} {tick : Int} (h : 1 ≤ tick ∧ tick ≤ 16777216) (hc : 1 ≤ l.length ∧ l.length ≤ 1024) (h1 : ∀ j, j < l.length → NM.seqB (TM.tAt l j).ser (TM.tAt l 0).ser = true) (h2 : ∀ j, j < l.length → okQ (TM.tAt l j).qty = true) {k : Nat} (hk : k < l.length) (hq : okP (TM.tAt l k).price = false) : poolE l tick = 17 := by
  unfold poolE; rw [tick_yes h, count_yes hc, one_ok h1, lots_ok h2, price_bad hk hq]; simp [orE]
theorem pool_ok {l : List TM.Trd} {tick : Int} (h : 1 ≤ tick ∧ tick ≤ 16777216) (hc : 1 ≤ l.length ∧ l.length ≤ 1024) (h1 : ∀ j, j < l.length → NM.seqB (TM.tAt l j).ser (TM.tAt l 0).ser = true) (h2 : ∀ j, j < l.length → okQ (TM.tAt l j).qty = true) (h3 : ∀ j, j < l.length → okP (TM.tAt l j).price = true) : poolE l tick = 0 := by
  unfold poolE; rw [tick_yes h, count_yes hc, one_ok h1, lots_ok h2, price_ok h3]; simp [orE]
/-- the quotient that is cut towards nought, and one less where it is too great -/
theorem cut_floor {a s : Int} (hs : 1 ≤ s) : (a < a.tdiv s * s → a.tdiv s - 1 = a / s) ∧ (¬ a < a.tdiv s * s → a.tdiv s = a / s) := by
  have e := Int.mul_tdiv_add_tmod a s
  have h1 := Int.tmod_lt_of_pos a (show 0 < s by omega)
  have h2 : -s < a.tmod s := by
    have h3 := Int.tmod_lt_of_pos (-a) (show 0 < s by omega)
    rw [Int.neg_tmod] at h3
    omega
  rw [Int.mul_comm (a.tdiv s) s]
  generalize a.tdiv s = q at *
  generalize a.tmod s = r at *
  constructor
  · intro h
    have h3 : s + r + s * (q - 1) = a := by rw [Int.mul_sub, Int.mul_one]; omega
    exact ((Int.ediv_emod_unique (show 0 < s by omega)).2 ⟨h3, by omega, by omega⟩).1.symm
  · intro h
    have h3 : r + s * q = a := by omega
    exact ((Int.ediv_emod_unique (show 0 < s by omega)).2 ⟨h3, by omega, by omega⟩).1.symm
theorem rest_same (l : List TM.Trd) (tick : Int) : cost l - avgK l tick * (lots l * tick) = avgR l tick := by
  unfold avgR avgP
  rw [← Int.mul_assoc, Int.mul_comm (avgK l tick) (lots l), Int.mul_assoc]
end GM

/- Contracts of layer 14: the reference's division. -/
namespace Go.Proofs.Ythippdmfeeopkaa
open Go.RowKit Go.Recs
set_option linter.unusedVariables false
set_option linter.unusedSimpArgs false
theorem okq_low {n : Int} (h : n < 1) : GM.okQ n = false := by unfold GM.okQ; simp; omega
theorem okq_high {n : Int} (h : 1048576 < n) : GM.okQ n = false := by unfold GM.okQ; simp; omega
theorem okq_yes {n : Int} (h1 : ¬ n < 1) (h2 : ¬ 1048576 < n) : GM.okQ n = true := by unfold GM.okQ; simp; omega
set_option maxHeartbeats 4000000 in
set_option maxRecDepth 100000 in
theorem rlots14_any (all : Int) (A : Option Addr) (l : List GM.Part) (n cap : Nat) (hn : n = l.length) (w : World) (hI : Parts w A l) :
    Calls Try.prog 59 #[.int .i64 all, .slice A n cap] w fun e w' => e = .returned (.int .i64 (GM.partsE all l)) ∧ Below w.heap.size w w' := by
  subst hn
  have hlen := hI.len
  have K8 := Lib.hid (@GM.parts_count all l); have KQ := Lib.hid (fun h k => @GM.parts_size all l h k); have KS := Lib.hid (@GM.parts_sum all l)
  have KA := Lib.hid (fun h hs hn k => @GM.parts_acc all l h hs hn k); have KO := Lib.hid (@GM.parts_ok all l)
  have KP := Lib.hid (fun k => @GM.psum_succ l k)
  have KU := Lib.hid (fun (h : l.length ≤ 1024) k => @GM.psum_upto l h k)
  have KH := Lib.hid (fun k i => @GM.seen_hit l k i); have KN := Lib.hid (fun k => @GM.seen_none l k)
  generalize GM.partsE all l = r at *
  have HI := Lib.hid hI
  clear hI
  by_cases hz : l.length = 0
  · have HR := Lib.hid (K8.out (by omega))
    have c0 : ((l.length : Int) == 0) = true := beq_t (by omega)
    clear hz
    go_enter Try.func59, Try.ntmps59
    go_wp2_with fail
    go_ret
    exact ⟨by rw [HR.out] <;> rfl, Below.refl _ _⟩
  have c0 : ((l.length : Int) == 0) = false := beq_f (by omega)
  by_cases hg : 1024 < l.length
  · have HR := Lib.hid (K8.out (by omega))
    clear hz
    go_enter Try.func59, Try.ntmps59
    go_wp2_with fail
    go_ret
    exact ⟨by rw [HR.out] <;> rfl, Below.refl _ _⟩
  have HC : Hid (1 ≤ l.length ∧ l.length ≤ 1024) := Lib.hid (by omega)
  have hg2 : l.length ≤ 1024 := by omega
  clear hz hg
  go_enter Try.func59, Try.ntmps59
  go_wp2_with fail
  go_loop [5, 6] (fun v i => ∃ (k : Nat) (y : Int), k ≤ l.length ∧ i = .int .i64 (k : Int) ∧ v = .int .i64 y ∧ 0 ≤ y ∧ y ≤ 1073741824 ∧ Hid (y = GM.psum (l.take k)) ∧ Hid (∀ j, j < k → GM.okQ (GM.pAt l j).qty = true)) (fun _ i => l.length - (intOf i).toNat)
  case atStart => exact ⟨0, 0, by omega, rfl, rfl, by omega, by omega, Lib.hid rfl, Lib.hid (fun j h => by omega)⟩
  case round =>
    obtain ⟨k, y, hk, rfl, rfl, y1, y2, HY, HE⟩ := hrel
    by_cases hlt : k < l.length
    · obtain ⟨b, off, x, rfl, hb, HV, q, d0, d1, d2⟩ := parts_get HI.out hlt
      clear q
      by_cases h1 : x.qty < 1
      · have HR := Lib.hid (KQ.out HC.out k hlt (by rw [HV.out]; exact okq_low h1))
        go_wp2_with fail
        go_ret
        exact ⟨by rw [HR.out] <;> rfl, Below.refl _ _⟩
      · by_cases h2 : 1048576 < x.qty
        · have HR := Lib.hid (KQ.out HC.out k hlt (by rw [HV.out]; exact okq_high h2))
          go_wp2_with fail
          go_ret
          exact ⟨by rw [HR.out] <;> rfl, Below.refl _ _⟩
        · have HE2 : Hid (∀ j, j < k + 1 → GM.okQ (GM.pAt l j).qty = true) := Lib.hid (fun j hj => by
            rcases Nat.lt_or_ge j k with g | g
            · exact HE.out j g
            · obtain rfl : j = k := by omega
              rw [HV.out]; exact okq_yes h1 h2)
          have HN : Hid (y + x.qty = GM.psum (l.take (k + 1))) := Lib.hid (by rw [KP.out k hlt, HV.out, HY.out])
          have hb1 : 0 ≤ y + x.qty ∧ y + x.qty ≤ 1073741824 := by rw [HN.out]; exact KU.out HC.out.2 (k + 1) (by omega) HE2.out
          have hb2 := hb1.1; have hb3 := hb1.2
          clear hb1
          go_wp2_with fail
          go_round
          case rel => exact ⟨k + 1, y + x.qty, by omega, by go_num, by go_num, hb2, hb3, HN, HE2⟩
          case measure => simp [intOf]; omega
    · obtain rfl : k = l.length := by omega
      have hy : y = GM.psum l := by rw [HY.out, List.take_length]
      by_cases hya : y = all
      · have HS2 : Hid (GM.psum l = all) := Lib.hid (hy.symm.trans hya)
        have hne : (y != all) = false := by simp [hya]
        clear hy hya HY
        go_wp2_with fail
        go_loopw [7, 8] (fun i _ wr => ∃ k : Nat, k ≤ l.length ∧ i = .int .i64 (k : Int) ∧ Hid (∀ j, j < k → GM.pseen l j (GM.pAt l j) = false) ∧ Hid (Below w.heap.size w wr)) (fun i _ _ => l.length - (intOf i).toNat)
        case atStart => exact ⟨0, by omega, rfl, Lib.hid (fun j h => by omega), Lib.hid (Below.refl _ _)⟩
        case round =>
          obtain ⟨k, hk, rfl, HD, HB⟩ := hrel
          by_cases hlt : k < l.length
          · go_wp2_with fail
            go_loopw [8] (fun i wr2 => ∃ m : Nat, m ≤ k ∧ i = .int .i64 (m : Int) ∧ Hid (∀ j, j < m → NM.aeq (GM.pAt l j).am (GM.pAt l j).an (GM.pAt l k).am (GM.pAt l k).an = false) ∧ Hid (Below w.heap.size w wr2)) (fun i _ => k - (intOf i).toNat)
            case atStart => exact ⟨0, by omega, rfl, Lib.hid (fun j h => by omega), HB⟩
            case round =>
              obtain ⟨m, hm, rfl, HF, HB2⟩ := hrel
              by_cases hml : m < k
              · obtain ⟨b, off, x, rfl, hb, HV, q, d0, d1, d2⟩ := parts_get (HI.out.below HB2.out) (k := m) (by omega)
                obtain ⟨b', off', z, he, hb', HVz, qz, g0, g1, g2⟩ := parts_get (HI.out.below HB2.out) hlt
                injection he with he
                injection he with e1 e2
                subst e1 e2
                have E1 : ∀ ww, (Op.equalIn 10000 26 (.agg #[.string x.am, .string x.an]) (.agg #[.string z.am, .string z.an])).run Try.prog ww = .ok (NM.aeq x.am x.an z.am z.an) ww := fun ww => acc_in _ _ _ _ ww
                have ga := acc_guard
                have hml2 : m < l.length := by omega
                clear q qz hb'
                cases hq : NM.aeq x.am x.an z.am z.an
                · have HF2 : Hid (∀ j, j < m + 1 → NM.aeq (GM.pAt l j).am (GM.pAt l j).an (GM.pAt l k).am (GM.pAt l k).an = false) := Lib.hid (fun j hj => by
                    rcases Nat.lt_or_ge j m with g | g
                    · exact HF.out j g
                    · obtain rfl : j = m := by omega
                      rw [HV.out, HVz.out]; exact hq)
                  rw [hq] at E1
                  clear hq HV HVz
                  go_wp2_with fail
                  go_quiet (fail)
                  go_wp2_with fail
                  go_roundw
                  case rel => exact ⟨m + 1, by omega, by go_num, HF2, Lib.hid (by first | exact below_drewN HB2.out _ | exact HB2.out)⟩
                  case measure => simp [intOf]; omega
                · have HR := Lib.hid (KA.out HC.out HE.out HS2.out k hlt (KH.out k m hml hlt (by rw [HV.out, HVz.out]; exact hq)))
                  rw [hq] at E1
                  clear hq HV HVz
                  go_wp2_with fail
                  go_quiet (fail)
                  go_wp2_with fail
                  go_ret
                  exact ⟨by rw [HR.out] <;> rfl, by first | exact below_drewN HB2.out _ | exact HB2.out⟩
              · obtain rfl : m = k := by omega
                have HD2 : Hid (∀ j, j < m + 1 → GM.pseen l j (GM.pAt l j) = false) := Lib.hid (fun j hj => by
                  rcases Nat.lt_or_ge j m with g | g
                  · exact HD.out j g
                  · obtain rfl : j = m := by omega
                    exact KN.out j hlt j (Nat.le_refl _) HF.out)
                go_wp2_with fail
                go_roundw
                case rel => exact ⟨m + 1, by omega, by go_num, HD2, HB2⟩
                case measure => simp [intOf]; omega
          · obtain rfl : k = l.length := by omega
            have HR := Lib.hid (KO.out HC.out HE.out HS2.out HD.out)
            go_wp2_with fail
            go_ret
            exact ⟨by rw [HR.out] <;> rfl, HB.out⟩
      · have HR := Lib.hid (KS.out HC.out HE.out (by rw [← hy]; exact hya))
        have hne : (y != all) = true := by simp [hya]
        clear hy hya HY
        go_wp2_with fail
        go_ret
        exact ⟨by rw [HR.out] <;> rfl, Below.refl _ _⟩
set_option maxHeartbeats 1000000 in
theorem rcheck14_any (t : TM.Trd) (A : Option Addr) (l : List GM.Part) (n cap : Nat) (hn : n = l.length) (w : World) (hI : Parts w A l) :
    Calls Try.prog 21 #[trdA t, .slice A n cap] w fun e w' => e = .returned (.int .i64 (GM.partsE t.qty l)) ∧ Below w.heap.size w w' := by
  subst hn
  have HB0 := Lib.hid (below_al (Below.refl w.heap.size w) (.cells (trdC t) 45))
  have HI := Lib.hid (hI.below HB0.out)
  have C1 := Lib.hid (fun ww h => rlots14_any t.qty A l l.length cap rfl ww h)
  generalize GM.partsE t.qty l = r at *
  clear hI
  go_enter Try.func21, Try.ntmps21
  go_wp2_with fail
  refine (C1.out _ HI.out).mono ?_
  rintro e w1 ⟨rfl, b1⟩
  have HB1 := Lib.hid (HB0.out.trans (b1.mono HB0.out.size))
  clear b1
  go_wp2_with fail
  go_ret
  exact ⟨rfl, HB1.out⟩
theorem trd_guard : Try.prog.eqGuardType Try.prog.depth 45 = false := by kernel_rfl
theorem trd_same (x : TM.Trd) (w : World) : (Op.equalIn 10000 45 (trdA x) (trdA x)).run Try.prog w = .ok true w := by
  have u3 := Try.underlying3
  have a3 := Try.isAgg3
  have z3 := Try.sizeOf3
  have aA := Try.isAgg26
  have zA := Try.sizeOf26
  have aS := Try.isAgg43
  have zS := Try.sizeOf43
  have hS : Try.prog.underlying 45 = some (.struct (Try.prog.fieldsOf 45)) := by kernel_rfl
  have hp : Try.prog.stoodInHeld 45 = false := by kernel_rfl
  have e1 := acc_in_at 9997 x.bm x.bn x.bm x.bn
  have e3 := acc_in_at 9997 x.sm x.sn x.sm x.sn
  have e2 := ser_in_at 9997 x.ser x.ser
  rw [NM.aeq_iff.2 ⟨rfl, rfl⟩] at e1 e3
  rw [NM.seqB_iff.2 rfl] at e2
  rw [show (10000 : Nat) = 9999 + 1 from rfl, run_equalIn_agg w 9999 45 _ _ hS hp]
  simp only [Program.fieldsOf, Try.underlying45]
  go_simp
set_option maxHeartbeats 4000000 in
theorem rsame14_any (A B : Option Addr) (l : List TM.Trd) (n c m d : Nat) (hn : n = l.length) (hm : m = l.length) (w : World) (hI : Trds w A l) (hJ : Trds w B l) :
    Calls Try.prog 19 #[.slice A n c, .slice B m d] w fun e w' => e = .returned (.bool true) ∧ ∃ k, w' = w.drewN k := by
  subst hn hm
  have hlen := hI.len
  have gl := trd_guard
  go_enter Try.func19, Try.ntmps19
  go_wp2_with fail
  go_loopw [5] (fun i wr => ∃ k : Nat, k ≤ l.length ∧ i = .int .i64 (k : Int) ∧ ∃ nd, wr = w.drewN nd) (fun i _ => l.length - (intOf i).toNat)
  case atStart => exact ⟨0, by omega, rfl, 0, rfl⟩
  case round =>
    obtain ⟨k, hk, rfl, nd, rfl⟩ := hrel
    by_cases hlt : k < l.length
    · obtain ⟨b, off, x, rfl, hb, HV, q, d0, d1, d2, d3, d4, d5, d6, d7, d8, d9, d10, d11, d12⟩ := trds_get hI hlt
      obtain ⟨b', off', x', rfl, hb', HV', q', g0, g1, g2, g3, g4, g5, g6, g7, g8, g9, g10, g11, g12⟩ := trds_get hJ hlt
      obtain rfl : x = x' := HV.out.symm.trans HV'.out
      have HI := Lib.hid hI; have HJ := Lib.hid hJ
      have E1 : ∀ ww, (Op.equalIn 10000 45 (trdA x) (trdA x)).run Try.prog ww = .ok true ww := fun ww => trd_same x ww
      clear q q' HV HV' hI hJ
      go_wp2_with fail
      go_quiet (fail)
      go_wp2_with fail
      go_roundw
      case rel => exact ⟨k + 1, by omega, by go_num, by first | exact ⟨nd, rfl⟩ | exact ⟨_, rfl⟩ | exact ⟨nd + 1, rfl⟩⟩
      case measure => simp [intOf]; omega
    · obtain rfl : k = l.length := by omega
      go_wp2_with fail
      go_ret
      exact ⟨rfl, nd, rfl⟩
end Go.Proofs.Ythippdmfeeopkaa
