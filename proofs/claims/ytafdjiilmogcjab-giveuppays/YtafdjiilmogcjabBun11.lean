/- Put together: CapMath, GivMath3, WGiveupPays, SizedRec, OpenProd, OpenNov. -/
import Derived.Test.YtafdjiilmogcjabBun10
import Derived.Test.YtafdjiilmogcjabBun8
import Derived.Test.YtafdjiilmogcjabBun3
import Derived.SizedLaws
import Derived.ProofKit
import Derived.Test.YtafdjiilmogcjabBun4
import Derived.OpenShut
import Derived.ShutString
import Derived.ChangeOld
import Derived.Test.YtafdjiilmogcjabBun5
/- Plain mathematics of the parts, and of Capped. -/
namespace SM
open LM

/-! ### what the parts are -/
theorem parts_spec {total : Int} {w : List Int} (hw : wOk w = true) (h0 : tot w ≠ 0) (_t0 : 0 ≤ total) :
    ∃ P : Nat → Bool, (∀ j, j < w.length → (parts total (tot w) w).getD j 0 = pq total (w.getD j 0) (tot w) + if P j then 1 else 0) ∧
      (∀ j, j < w.length → P j = true → 0 < pr total (w.getD j 0) (tot w)) ∧
      (∀ j k, j < w.length → k < w.length → P j = true → P k = false → pr total (w.getD k 0) (tot w) < pr total (w.getD j 0) (tot w) ∨ (pr total (w.getD k 0) (tot w) = pr total (w.getD j 0) (tot w) ∧ j < k)) ∧
      tot (parts total (tot w) w) = total := by
  obtain ⟨hr, _⟩ := wOk_parts hw
  have hp : 0 < tot w := by have := tot_nonneg hr; omega
  obtain ⟨f0, f1⟩ := left_range total (tot w) w rfl hp
  obtain ⟨L, hL⟩ := Int.eq_ofNat_of_zero_le f0
  obtain ⟨P, hP⟩ := DI.iter (all := tot w) (n := w.length) (left := L) (qs_len total (tot w) w) (rs_len total (tot w) w) (by rw [tot_rs _ _ _ rfl, hL]) hp (fun j hj => (rs_range _ _ _ hp j hj).2) L (Nat.le_refl _)
  have e : parts total (tot w) w = (diter 0 L (qs total (tot w) w, rs total (tot w) w)).1 := by unfold parts; rw [hL]; rfl
  refine ⟨P, fun j hj => ?_, fun j hj h => ?_, fun j k hj hk a b => ?_, ?_⟩
  · rw [e, hP.part j hj, qs_get _ _ _ _ hj]
  · have := hP.pos j hj h; rwa [rs_get _ _ _ _ hj] at this
  · have := hP.ord j k hj hk a b; rwa [rs_get _ _ _ _ hj, rs_get _ _ _ _ hk] at this
  · rw [e, hP.sum]; unfold leftOf at hL; omega

theorem parts_sum {total : Int} {w : List Int} (hw : wOk w = true) (h0 : tot w ≠ 0) (t0 : 0 ≤ total) : tot (parts total (tot w) w) = total := by
  obtain ⟨_, _, _, _, h⟩ := parts_spec hw h0 t0; exact h
theorem parts_nonneg {total : Int} {w : List Int} (hw : wOk w = true) (h0 : tot w ≠ 0) (t0 : 0 ≤ total) (j : Nat) (hj : j < w.length) : 0 ≤ (parts total (tot w) w).getD j 0 := by
  obtain ⟨P, h, _⟩ := parts_spec hw h0 t0
  obtain ⟨hr, _⟩ := wOk_parts hw
  have hp : 0 < tot w := by have := tot_nonneg hr; omega
  have := pq_nonneg (total := total) t0 (allR_get hr hj).1 hp
  rw [h j hj]; split <;> omega
theorem parts_none {total : Int} {w : List Int} (hw : wOk w = true) (h0 : tot w ≠ 0) (t0 : 0 ≤ total) (j : Nat) (hj : j < w.length) (hz : w.getD j 0 = 0) : (parts total (tot w) w).getD j 0 = 0 := by
  obtain ⟨P, h, h2, _⟩ := parts_spec hw h0 t0
  rw [h j hj, hz]
  have e1 : pq total 0 (tot w) = 0 := by simp [pq]
  have e2 : pr total 0 (tot w) = 0 := by simp [pr]
  cases hc : P j
  · simp [e1]
  · have := h2 j hj hc; rw [hz, e2] at this; omega
theorem elem_le' (l : List Int) (h : ∀ j, j < l.length → 0 ≤ l.getD j 0) (k : Nat) (hk : k < l.length) : l.getD k 0 ≤ tot l := by
  have e : tot l = tot (l.take k) + (l.getD k 0 + tot (l.drop (k + 1))) := by
    have h1 : l = l.take k ++ (l.getD k 0 :: l.drop (k + 1)) := by
      rw [getD_at _ _ hk, ← List.drop_eq_getElem_cons hk, List.take_append_drop]
    have := congrArg tot h1
    rwa [tot_append, tot] at this
  have a := tot_nonneg' (l.take k) (fun j hj => by
    have hj' : j < k := by rw [List.length_take] at hj; omega
    rw [show (l.take k).getD j 0 = l.getD j 0 by simp [List.getD, hj']]
    exact h j (by omega))
  have b := tot_nonneg' (l.drop (k + 1)) (fun j hj => by
    have hj' : j < l.length - (k + 1) := by simpa using hj
    rw [show (l.drop (k + 1)).getD j 0 = l.getD (k + 1 + j) 0 by simp [List.getD]]
    exact h _ (by omega))
  omega
theorem elem_take_le (l : List Int) (k : Nat) (h : ∀ j, j < l.length → 0 ≤ l.getD j 0) : tot (l.take k) ≤ tot l := by
  have e : tot l = tot (l.take k) + tot (l.drop k) := by rw [← tot_append, List.take_append_drop]
  have b := tot_nonneg' (l.drop k) (fun j hj => by
    have hj' : j < l.length - k := by simpa using hj
    rw [show (l.drop k).getD j 0 = l.getD (k + j) 0 by simp [List.getD]]
    exact h _ (by omega))
  omega
theorem parts_le {total : Int} {w : List Int} (hw : wOk w = true) (h0 : tot w ≠ 0) (t0 : 0 ≤ total) (j : Nat) (hj : j < w.length) : (parts total (tot w) w).getD j 0 ≤ total := by
  have := elem_le' (parts total (tot w) w) (fun j hj => parts_nonneg hw h0 t0 j (by rwa [parts_len] at hj)) j (by rw [parts_len]; exact hj)
  rwa [parts_sum hw h0 t0] at this

/-! ### tables -/
def tab (n : Nat) (f : Nat → Int) : List Int := (List.range n).map f
theorem tab_len (n : Nat) (f : Nat → Int) : (tab n f).length = n := by simp [tab]
theorem tab_get (n : Nat) (f : Nat → Int) (k : Nat) (hk : k < n) : (tab n f).getD k 0 = f k := by simp [tab, List.getD, hk]
theorem tab_self (l : List Int) : tab l.length (fun i => l.getD i 0) = l := by
  apply List.ext_getElem
  · simp [tab]
  · intro i h1 h2; simp [tab, List.getD, h2]
theorem tab_congr {n : Nat} {f g : Nat → Int} (h : ∀ i, i < n → f i = g i) : tab n f = tab n g := by
  unfold tab
  exact List.map_congr_left fun i hi => h i (List.mem_range.1 hi)
theorem tab_succ (n : Nat) (f : Nat → Int) : tab (n + 1) f = tab n f ++ [f n] := by simp [tab, List.range_succ]
theorem tot_tab_succ (n : Nat) (f : Nat → Int) : tot (tab (n + 1) f) = tot (tab n f) + f n := by rw [tab_succ, tot_append]; simp [tot]
theorem tot_tab_le {n : Nat} {f g : Nat → Int} (h : ∀ i, i < n → f i ≤ g i) : tot (tab n f) ≤ tot (tab n g) := by
  induction n with
  | zero => simp [tab]
  | succ n ih =>
    rw [tot_tab_succ, tot_tab_succ]
    have := ih fun i hi => h i (by omega)
    have := h n (by omega)
    omega
theorem tot_tab_lt {n : Nat} {f g : Nat → Int} (h : ∀ i, i < n → f i ≤ g i) (k : Nat) (hk : k < n) (hs : f k < g k) : tot (tab n f) < tot (tab n g) := by
  induction n with
  | zero => omega
  | succ n ih =>
    rw [tot_tab_succ, tot_tab_succ]
    have a := h n (by omega)
    rcases Nat.lt_or_ge k n with h1 | h1
    · have := ih (fun i hi => h i (by omega)) h1; omega
    · obtain rfl : k = n := by omega
      have := tot_tab_le (n := k) (f := f) (g := g) fun i hi => h i (by omega)
      omega
theorem tot_tab_nonneg {n : Nat} {f : Nat → Int} (h : ∀ i, i < n → 0 ≤ f i) : 0 ≤ tot (tab n f) := by
  induction n with
  | zero => simp [tab, tot]
  | succ n ih =>
    rw [tot_tab_succ]
    have := ih fun i hi => h i (by omega)
    have := h n (by omega)
    omega
theorem tot_tab_sub {n : Nat} {f g : Nat → Int} : tot (tab n fun i => f i + g i) = tot (tab n f) + tot (tab n g) := by
  induction n with
  | zero => simp [tab, tot]
  | succ n ih => rw [tot_tab_succ, tot_tab_succ, tot_tab_succ, ih]; omega
theorem pre_tab_set (n : Nat) (f g : Nat → Int) (k : Nat) : (tab n fun i => if i < k then f i else g i).set k (f k) = tab n fun i => if i < k + 1 then f i else g i := by
  apply List.ext_getElem
  · simp [tab]
  · intro i h1 h2
    simp only [tab, List.getElem_set, List.getElem_map, List.getElem_range]
    by_cases e : k = i
    · subst e; simp
    · rw [if_neg e]
      by_cases h : i < k
      · simp [h, show i < k + 1 by omega]
      · simp [h, show ¬ i < k + 1 by omega]
theorem pre_tab_zero (n : Nat) (f g : Nat → Int) : (tab n fun i => if i < 0 then f i else g i) = tab n g := tab_congr fun i _ => by simp
theorem pre_tab_full (n : Nat) (f g : Nat → Int) : (tab n fun i => if i < n then f i else g i) = tab n f := tab_congr fun i hi => by simp [hi]

/-! ### Capped -/
/-- the weights that still count -/
def openOf (w caps out : List Int) : List Int := tab w.length fun i => if out.getD i 0 < caps.getD i 0 then w.getD i 0 else 0
def over (l caps : List Int) : Bool := (List.range l.length).any fun i => decide (caps.getD i 0 < l.getD i 0)
def capOut (l caps out : List Int) : List Int := tab out.length fun i => if caps.getD i 0 < l.getD i 0 then caps.getD i 0 else out.getD i 0
def capTaken (l caps : List Int) : Int := tot (tab l.length fun i => if caps.getD i 0 < l.getD i 0 then caps.getD i 0 else 0)
def addL (out l : List Int) : List Int := tab out.length fun i => out.getD i 0 + l.getD i 0

def capRun (w caps : List Int) : Nat → List Int → Int → List Int × Int
  | 0, out, left => (out, left)
  | f + 1, out, left =>
    if left ≤ 0 then (out, left) else
    if tot (openOf w caps out) = 0 then (out, left) else
    if over (parts left (tot (openOf w caps out)) (openOf w caps out)) caps then
      capRun w caps f (capOut (parts left (tot (openOf w caps out)) (openOf w caps out)) caps out) (left - capTaken (parts left (tot (openOf w caps out)) (openOf w caps out)) caps)
    else (addL out (parts left (tot (openOf w caps out)) (openOf w caps out)), 0)

/-- how many count -/
def cnt (o : List Int) : Int := tot (tab o.length fun i => if 0 < o.getD i 0 then 1 else 0)

/-- what holds between the rounds -/
structure CI (w caps : List Int) (total : Int) (out : List Int) (left : Int) : Prop where
  len : out.length = w.length
  caps' : caps.length = w.length
  vals : ∀ i, i < w.length → out.getD i 0 = 0 ∨ out.getD i 0 = caps.getD i 0
  l0 : 0 ≤ left
  sum : tot out + left = total

theorem CI.start {w caps : List Int} {total : Int} (hc : caps.length = w.length) (t0 : 0 ≤ total) : CI w caps total (List.replicate w.length 0) total := by
  refine ⟨by simp, hc, fun i hi => .inl (by simp [List.getD, hi]), t0, ?_⟩
  have : tot (List.replicate w.length 0) = 0 := by
    generalize w.length = n
    induction n with
    | zero => rfl
    | succ n ih => simp [List.replicate_succ, tot, ih]
  omega

theorem openOf_len (w caps out : List Int) : (openOf w caps out).length = w.length := tab_len _ _
theorem openOf_ok {w : List Int} (caps out : List Int) (hw : wOk w = true) : wOk (openOf w caps out) = true := by
  obtain ⟨hr, ht⟩ := wOk_parts hw
  have h1 : allR (openOf w caps out) = true := by
    refine List.all_eq_true.2 fun n hn => ?_
    obtain ⟨k, hk, rfl⟩ := List.getElem_of_mem hn
    have hk' : k < w.length := by rwa [openOf_len] at hk
    rw [← getD_at _ _ hk]
    unfold openOf
    rw [tab_get _ _ _ hk']
    obtain ⟨a, b⟩ := allR_get hr hk'
    split
    · exact inR_true.2 ⟨a, b⟩
    · exact inR_true.2 ⟨by omega, by omega⟩
  have h2 : tot (openOf w caps out) ≤ tot w := by
    conv => rhs; rw [← tab_self w]
    exact tot_tab_le fun i hi => by
      have := (allR_get hr hi).1
      split <;> omega
  unfold wOk
  simp [h1]; omega

theorem over_iff (l caps : List Int) : over l caps = true ↔ ∃ i, i < l.length ∧ caps.getD i 0 < l.getD i 0 := by
  unfold over
  rw [List.any_eq_true]
  constructor
  · rintro ⟨i, hi, h⟩; exact ⟨i, List.mem_range.1 hi, of_decide_eq_true h⟩
  · rintro ⟨i, hi, h⟩; exact ⟨i, List.mem_range.2 hi, decide_eq_true h⟩

/-- a full round -/
theorem CI.full {w caps : List Int} {total : Int} {out : List Int} {left : Int} (h : CI w caps total out left) (hw : wOk w = true) (hc : allR caps = true) (hl : 0 < left)
    (h0 : tot (openOf w caps out) ≠ 0) (hov : over (parts left (tot (openOf w caps out)) (openOf w caps out)) caps = true) :
    CI w caps total (capOut (parts left (tot (openOf w caps out)) (openOf w caps out)) caps out) (left - capTaken (parts left (tot (openOf w caps out)) (openOf w caps out)) caps) ∧
    0 < capTaken (parts left (tot (openOf w caps out)) (openOf w caps out)) caps ∧ capTaken (parts left (tot (openOf w caps out)) (openOf w caps out)) caps ≤ left ∧
    cnt (openOf w caps (capOut (parts left (tot (openOf w caps out)) (openOf w caps out)) caps out)) < cnt (openOf w caps out) ∧
    openOf w caps (capOut (parts left (tot (openOf w caps out)) (openOf w caps out)) caps out) =
      tab w.length (fun i => if caps.getD i 0 < (parts left (tot (openOf w caps out)) (openOf w caps out)).getD i 0 then 0 else (openOf w caps out).getD i 0) := by
  have ho := openOf_ok caps out hw
  have hp := fun j hj => parts_none (total := left) ho h0 (by omega) j hj
  have hn := fun j hj => parts_nonneg (total := left) ho h0 (by omega) j hj
  have hs := parts_sum (total := left) ho h0 (by omega)
  have hL : (parts left (tot (openOf w caps out)) (openOf w caps out)).length = w.length := by rw [parts_len, openOf_len]
  rw [openOf_len] at hp hn
  generalize hO : openOf w caps out = O at *
  have hOl : O.length = w.length := by rw [← hO, openOf_len]
  have hOg : ∀ i, i < w.length → O.getD i 0 = if out.getD i 0 < caps.getD i 0 then w.getD i 0 else 0 := fun i hi => by rw [← hO]; unfold openOf; rw [tab_get _ _ _ hi]
  generalize parts left (tot O) O = l at *
  obtain ⟨len, caps', vals, l0, sum⟩ := h
  have hcap : ∀ i, i < w.length → 0 ≤ caps.getD i 0 := fun i hi => (allR_get hc (by omega)).1
  -- one that is offered too much has nothing yet, and a cap above nought
  have key : ∀ i, i < w.length → caps.getD i 0 < l.getD i 0 → out.getD i 0 = 0 ∧ 0 < caps.getD i 0 ∧ 0 < O.getD i 0 := fun i hi hc1 => by
    have c0 := hcap i hi
    have hnz : O.getD i 0 ≠ 0 := fun e => by have := hp i hi e; omega
    have := hOg i hi
    have hw0 : 0 ≤ w.getD i 0 := (allR_get (wOk_parts hw).1 hi).1
    by_cases hlt : out.getD i 0 < caps.getD i 0
    · rw [if_pos hlt] at this
      rcases vals i hi with v | v
      · exact ⟨v, by omega, by omega⟩
      · omega
    · rw [if_neg hlt] at this; exact absurd this hnz
  obtain ⟨m, hm, hmo⟩ := (over_iff _ _).1 hov
  rw [hL] at hm
  have hT : capTaken l caps = tot (tab w.length fun i => if caps.getD i 0 < l.getD i 0 then caps.getD i 0 else 0) := by unfold capTaken; rw [hL]
  have hT0 : 0 < capTaken l caps := by
    rw [hT]
    have := tot_tab_lt (n := w.length) (f := fun _ => 0) (g := fun i => if caps.getD i 0 < l.getD i 0 then caps.getD i 0 else 0) (fun i hi => by
      have := hcap i hi; split <;> omega) m hm (by simp only [if_pos hmo]; exact (key m hm hmo).2.1)
    have h2 := tot_tab_nonneg (n := w.length) (f := fun _ => 0) (fun i _ => Int.le_refl _)
    omega
  have hT1 : capTaken l caps ≤ left := by
    rw [hT, ← hs]
    conv => rhs; rw [← tab_self l, hL]
    refine tot_tab_le fun i hi => ?_
    have := hn i hi
    split <;> omega
  have hoo : (capOut l caps out).length = w.length := by unfold capOut; rw [tab_len, len]
  have hog : ∀ i, i < w.length → (capOut l caps out).getD i 0 = if caps.getD i 0 < l.getD i 0 then caps.getD i 0 else out.getD i 0 := fun i hi => by
    unfold capOut; rw [tab_get _ _ _ (by omega)]
  have hnew : openOf w caps (capOut l caps out) = tab w.length (fun i => if caps.getD i 0 < l.getD i 0 then 0 else O.getD i 0) := by
    unfold openOf
    refine tab_congr fun i hi => ?_
    rw [hog i hi, hOg i hi]
    by_cases e : caps.getD i 0 < l.getD i 0
    · simp only [e, if_true]; rw [if_neg (by omega)]
    · simp only [e, if_false]
  refine ⟨⟨hoo, caps', fun i hi => ?_, by omega, ?_⟩, hT0, hT1, ?_, hnew⟩
  · rw [hog i hi]; split
    · exact .inr rfl
    · exact vals i hi
  · have e : tot (capOut l caps out) = tot out + capTaken l caps := by
      rw [hT]
      unfold capOut
      rw [len]
      conv => rhs; rw [← tab_self out, len]
      rw [← tot_tab_sub]
      congr 1
      refine tab_congr fun i hi => ?_
      by_cases e : caps.getD i 0 < l.getD i 0
      · simp only [e, if_true]; have := (key i hi e).1; omega
      · simp only [e, if_false]; omega
    omega
  · rw [hnew]
    unfold cnt
    rw [tab_len, hOl]
    refine tot_tab_lt (fun i hi => ?_) m hm ?_
    · rw [tab_get _ _ _ hi]
      split <;> split <;> (try split) <;> (try split at *) <;> omega
    · rw [tab_get _ _ _ hm, if_pos hmo, if_pos (key m hm hmo).2.2]; simp

/-! where no offer is too great -/
theorem not_over {l caps : List Int} (h : over l caps = false) (i : Nat) (hi : i < l.length) : ¬ caps.getD i 0 < l.getD i 0 := fun hc => by
  have := (over_iff l caps).2 ⟨i, hi, hc⟩; rw [h] at this; cases this
theorem taken_none {l caps : List Int} (h : over l caps = false) : capTaken l caps = 0 := by
  unfold capTaken
  have : (tab l.length fun i => if caps.getD i 0 < l.getD i 0 then caps.getD i 0 else 0) = tab l.length fun _ => 0 := tab_congr fun i hi => if_neg (not_over h i hi)
  rw [this]
  generalize l.length = n
  induction n with
  | zero => rfl
  | succ n ih => rw [tot_tab_succ, ih]; rfl
theorem out_none {l caps out : List Int} (h : over l caps = false) (hl : l.length = out.length) : capOut l caps out = out := by
  unfold capOut
  conv => rhs; rw [← tab_self out]
  exact tab_congr fun i hi => if_neg (not_over h i (by omega))

theorem capRun_done (w caps : List Int) (f : Nat) (out : List Int) (left : Int) (h : left ≤ 0) : capRun w caps f out left = (out, left) := by
  cases f with
  | zero => rfl
  | succ f => simp [capRun, h]
theorem capRun_shut (w caps : List Int) (f : Nat) (out : List Int) (left : Int) (h : tot (openOf w caps out) = 0) : capRun w caps f out left = (out, left) := by
  cases f with
  | zero => rfl
  | succ f => simp [capRun, h]
theorem capRun_over (w caps : List Int) (f : Nat) (out : List Int) (left : Int) (hl : 0 < left) (h0 : tot (openOf w caps out) ≠ 0) (h : over (parts left (tot (openOf w caps out)) (openOf w caps out)) caps = true) :
    capRun w caps (f + 1) out left = capRun w caps f (capOut (parts left (tot (openOf w caps out)) (openOf w caps out)) caps out) (left - capTaken (parts left (tot (openOf w caps out)) (openOf w caps out)) caps) := by
  rw [capRun, if_neg (by omega), if_neg h0, if_pos h]
theorem capRun_last (w caps : List Int) (f : Nat) (out : List Int) (left : Int) (hl : 0 < left) (h0 : tot (openOf w caps out) ≠ 0) (h : over (parts left (tot (openOf w caps out)) (openOf w caps out)) caps = false) :
    capRun w caps (f + 1) out left = (addL out (parts left (tot (openOf w caps out)) (openOf w caps out)), 0) := by
  rw [capRun, if_neg (by omega), if_neg h0, if_neg (by rw [h]; simp)]
theorem cnt_range (o : List Int) : 0 ≤ cnt o ∧ cnt o ≤ o.length := by
  unfold cnt
  generalize hn : o.length = n
  clear hn
  induction n with
  | zero => simp [tab, tot]
  | succ n ih => rw [tot_tab_succ]; push_cast; split <;> omega

/-- Capped's error -/
def capE (total : Int) (w caps : List Int) : Int :=
  if inR total then (if sE w = 0 then (if caps.length = w.length ∧ allR caps = true then 0 else 2) else sE w) else 2
def capN (total : Int) (w caps : List Int) : List Int := if capE total w caps = 0 then (capRun w caps (w.length + 1) (List.replicate w.length 0) total).1 else []
def capR (total : Int) (w caps : List Int) : Int := if capE total w caps = 0 then (capRun w caps (w.length + 1) (List.replicate w.length 0) total).2 else 0
theorem cap_no {total : Int} {w caps : List Int} (h : capE total w caps ≠ 0) : capN total w caps = [] ∧ capR total w caps = 0 := by simp [capN, capR, h]
theorem cap_yes {total : Int} {w caps : List Int} (h : capE total w caps = 0) : capN total w caps = (capRun w caps (w.length + 1) (List.replicate w.length 0) total).1 ∧ capR total w caps = (capRun w caps (w.length + 1) (List.replicate w.length 0) total).2 := by simp [capN, capR, h]
theorem capE_ok {total : Int} {w caps : List Int} (h : capE total w caps = 0) : inR total = true ∧ w.length ≤ 1024 ∧ wOk w = true ∧ caps.length = w.length ∧ allR caps = true := by
  unfold capE at h
  split at h
  · rename_i h1
    split at h
    · rename_i h2
      split at h
      · rename_i h3
        refine ⟨h1, ?_, ?_, h3.1, h3.2⟩
        · unfold sE at h2; split at h2 <;> omega
        · unfold sE wE at h2
          split at h2
          · omega
          · split at h2
            · assumption
            · omega
      · omega
    · rename_i h2; exact absurd h h2
  · omega
theorem sN_ok {w : List Int} (h : wOk w = true) (hl : w.length ≤ 1024) : sN w = tot w ∧ sE w = 0 := by
  have : ¬ 1024 < w.length := by omega
  simp [sN, sE, this, w_yes h]
end SM

/- Layer 14's mathematics: what all pay by one price. -/
namespace GM
open LM
theorem share_bound {a Q P B : Int} (h0 : 0 ≤ a) (h1 : a ≤ Q) (hB : -B ≤ Q * P ∧ Q * P ≤ B) : -B ≤ a * P ∧ a * P ≤ B := by
  rcases Int.lt_or_le P 0 with g | g
  · have e1 : Q * P ≤ a * P := Int.mul_le_mul_of_nonpos_right h1 (by omega)
    have e2 : a * P ≤ 0 * P := Int.mul_le_mul_of_nonpos_right h0 (by omega)
    omega
  · have e1 : a * P ≤ Q * P := Int.mul_le_mul_of_nonneg_right h1 g
    have e2 : 0 * P ≤ a * P := Int.mul_le_mul_of_nonneg_right h0 g
    omega
def paidAt (p : List Part) (rs : List Int) (P : Int) (k : Nat) : Int := psum (p.take k) * P + tot (rs.take k)
theorem paid_succ {p : List Part} {rs : List Int} {P : Int} {k : Nat} (h : k < p.length) (hr : rs.length = p.length) : paidAt p rs P (k + 1) = paidAt p rs P k + ((pAt p k).qty * P + rs.getD k 0) := by
  unfold paidAt
  rw [psum_succ h, tot_take_succ rs k (by omega), Int.add_mul]
  omega
structure Pays (l : List TM.Trd) (tick : Int) (p : List Part) (rs : List Int) : Prop where
  len : rs.length = p.length
  all : ∀ k, k < p.length → 0 ≤ rs.getD k 0 ∧ rs.getD k 0 ≤ 18014398509481984
  sum : tot rs = avgR l tick
  part : ∀ k, k ≤ p.length → 0 ≤ tot (rs.take k) ∧ tot (rs.take k) ≤ 18014398509481984
  one : ∀ k, k < p.length → -36028797018963968 ≤ (pAt p k).qty * avgP l tick ∧ (pAt p k).qty * avgP l tick ≤ 36028797018963968
  pays : ∀ k, k ≤ p.length → -36028797018963968 ≤ paidAt p rs (avgP l tick) k ∧ paidAt p rs (avgP l tick) k ≤ 72057594037927936
  done : paidAt p rs (avgP l tick) p.length = cost l
theorem parts_inv {all : Int} {p : List Part} (h : partsE all p = 0) : (1 ≤ p.length ∧ p.length ≤ 1024) ∧ (∀ x ∈ p, 1 ≤ x.qty ∧ x.qty ≤ 1048576) ∧ psum p = all := by
  have hz := or_zero h
  have h1 := hz (countE p.length) (by simp)
  have h2 := hz (sizesE p) (by simp)
  have h3 := hz (sumE all p) (by simp)
  refine ⟨?_, sizes_inv h2, ?_⟩
  · unfold countE at h1
    split at h1
    · assumption
    · cases h1
  · unfold sumE at h3
    split at h3
    · assumption
    · cases h3
theorem qtys_ok {p : List Part} (h : ∀ x ∈ p, 1 ≤ x.qty ∧ x.qty ≤ 1048576) : SM.allR (p.map (·.qty)) = true := by
  refine List.all_eq_true.2 fun n hn => ?_
  obtain ⟨x, hx, rfl⟩ := List.mem_map.1 hn
  have := h x hx
  exact SM.inR_true.2 ⟨by omega, by omega⟩
theorem even_pays {l : List TM.Trd} {tick : Int} {p : List Part} (hp : Pooled l tick) (hd : partsE (lots l) p = 0) (hc : -18014398509481984 ≤ cost l ∧ cost l ≤ 18014398509481984) :
    Pays l tick p (SM.splN (avgR l tick) (p.map (·.qty))) := by
  obtain ⟨⟨n1, n2⟩, hq, hs⟩ := parts_inv hd
  obtain ⟨⟨q1, q2⟩, ⟨s1, s2⟩, _, _, ⟨m1, m2⟩, r1, r2⟩ := avg_bounds hp hc
  have hpb := psum_bound hq
  have htot : tot (p.map (·.qty)) = lots l := hs
  have hw : SM.wOk (p.map (·.qty)) = true := by unfold SM.wOk; rw [qtys_ok hq, htot]; simp; omega
  have h0 : tot (p.map (·.qty)) ≠ 0 := by rw [htot]; omega
  have hin : SM.inR (avgR l tick) = true := SM.inR_true.2 ⟨r1, by omega⟩
  obtain ⟨_, e2⟩ := SM.spl_ok hin (by rw [List.length_map]; omega) hw h0
  rw [e2]
  have hlen : (SM.parts (avgR l tick) (tot (p.map (·.qty))) (p.map (·.qty))).length = p.length := by rw [SM.parts_len, List.length_map]
  have hsum := SM.parts_sum hw h0 r1
  have hnn := SM.parts_nonneg hw h0 r1
  have hle := SM.parts_le hw h0 r1
  rw [List.length_map] at hnn hle
  generalize SM.parts (avgR l tick) (tot (p.map (·.qty))) (p.map (·.qty)) = rs at *
  have hall : ∀ k, k < p.length → 0 ≤ rs.getD k 0 ∧ rs.getD k 0 ≤ 18014398509481984 := fun k hk => by
    have := hnn k hk
    have := hle k hk
    omega
  have har : SM.allR rs = true := List.all_eq_true.2 fun n hn => by
    obtain ⟨k, hk, rfl⟩ := List.getElem_of_mem hn
    have := hall k (by omega)
    rw [List.getD_eq_getElem?_getD, List.getElem?_eq_getElem hk] at this
    simp at this
    exact SM.inR_true.2 ⟨this.1, by omega⟩
  have hpart : ∀ k, k ≤ p.length → 0 ≤ tot (rs.take k) ∧ tot (rs.take k) ≤ 18014398509481984 := fun k _ => by
    have a := SM.tot_take_le har k
    have b : 0 ≤ tot (rs.take k) := SM.tot_nonneg (SM.allR_take har k)
    omega
  have hps : ∀ k, k ≤ p.length → 0 ≤ psum (p.take k) ∧ psum (p.take k) ≤ lots l := fun k _ => by
    have a := SM.tot_take_le (qtys_ok hq) k
    have b := SM.tot_nonneg (SM.allR_take (qtys_ok hq) k)
    rw [← List.map_take] at a b
    rw [htot] at a
    exact ⟨b, a⟩
  refine ⟨hlen, hall, hsum, hpart, fun k hk => ?_, fun k hk => ?_, ?_⟩
  · have hx := hq _ (List.getElem_mem hk)
    rw [← pAt_get hk] at hx
    have h2 := hps (k + 1) (by omega)
    rw [psum_succ hk] at h2
    have h3 := hps k (by omega)
    exact share_bound (by omega) (by omega) ⟨m1, m2⟩
  · have h3 := hps k hk
    have h4 := share_bound h3.1 h3.2 ⟨m1, m2⟩
    have h5 := hpart k hk
    unfold paidAt
    omega
  · unfold paidAt
    rw [List.take_length, ← hlen, List.take_length, hs, hsum]
    unfold avgR
    omega
theorem mod_price (l : List TM.Trd) (tick : Int) : (avgP l tick).tmod tick = 0 := Int.mul_tmod_left _ _
end GM

namespace Go.Proofs.Ytafdjiilmogcjab.giveupPays
open Go.RowKit Go.Recs
set_option linter.unusedVariables false
set_option linter.unusedSimpArgs false
theorem qp_succ {l : List TM.Trd} {k : Nat} (h : k < l.length) : GM.cost (l.take (k + 1)) = GM.cost (l.take k) + (TM.tAt l k).qty * (TM.tAt l k).price := by rw [cost_succ h, Int.mul_comm]
set_option maxHeartbeats 16000000 in
set_option maxRecDepth 100000 in
theorem walk (A : Option Addr) (cap : Nat) (l : List TM.Trd) (tick : Int) (B : Option Addr) (cp : Nat) (p : List GM.Part) (w : World) (hI : Trds w A l ∧ l.length ≤ cap) (ht : -9223372036854775808 ≤ tick ∧ tick ≤ 9223372036854775807) (hP : Parts w B p ∧ p.length ≤ cp) :
    Calls Try.prog 7 #[.slice A l.length cap, .int .i64 tick, .slice B p.length cp] w fun e w' => e = .returned (.bool true) ∧ Below w.heap.size w w' := by
  have hlen := hI.1.len; have hlenp := hP.1.len
  have CG := Lib.hid (fun ww => goes14_any ww)
  have HI := Lib.hid hI.1; have HP := Lib.hid hP.1
  by_cases hbig : 1100 < l.length ∨ 1100 < p.length
  · have hway : (1100 : Int) < (l.length : Int) ∨ (¬ (1100 : Int) < (l.length : Int) ∧ (1100 : Int) < (p.length : Int)) := by omega
    clear hbig hI hP ht
    rcases hway with h1 | ⟨h1, h2⟩
    all_goals (
      go_enter Try.func7, Try.ntmps7
      go_wp2_with fail
      refine (CG.out _).mono ?_
      rintro e w1 ⟨rfl, b1⟩
      have HB1 := Lib.hid b1
      clear b1
      go_wp2_with fail
      go_ret
      exact ⟨rfl, HB1.out⟩)
  have h1 : ¬ (1100 : Int) < (l.length : Int) := by omega
  have h2 : ¬ (1100 : Int) < (p.length : Int) := by omega
  have C1 := Lib.hid (geven_any A l l.length cap tick rfl B p p.length cp rfl w hI.1 hP.1 ht)
  have hl3 : l.length ≤ 1100 := by omega
  have hp3 : p.length ≤ 1100 := by omega
  clear hbig hI hP
  by_cases he : evenE l tick p = 0
  · have hp : GM.poolE l tick = 0 := by
      by_cases h : GM.poolE l tick = 0
      · exact h
      · unfold evenE at he; rw [if_neg h] at he; exact absurd he h
    have hd : GM.partsE (GM.lots l) p = 0 := by unfold evenE at he; rwa [if_pos hp] at he
    have hPo := GM.pooled hp
    have hcb := pcost_any_bound hPo.each hPo.len.2
    have e1 : evenP l tick p = GM.avgP l tick := by unfold evenP; rw [if_pos he]
    have e2 : evenL l tick p = SM.splN (GM.avgR l tick) (p.map (·.qty)) := by unfold evenL; rw [if_pos he]
    have hpay := GM.even_pays hPo hd hcb
    rw [e1, e2, he] at C1
    obtain ⟨⟨q1, q2⟩, ⟨s1, s2⟩, _, ⟨p1, p2⟩, _, r1, r2⟩ := GM.avg_bounds hPo hcb
    generalize SM.splN (GM.avgR l tick) (p.map (·.qty)) = rs at *
    have hrl := hpay.len
    have KC := Lib.hid (fun k => @qp_succ l k); have KQ := Lib.hid (fun k => @lots_succ l k)
    have KCB : Hid (∀ k, k ≤ l.length → -18014398509481984 ≤ GM.cost (l.take k) ∧ GM.cost (l.take k) ≤ 18014398509481984) := Lib.hid (fun k hk => pcost_any_bound (fun t h => hPo.each t (List.mem_of_mem_take h)) (by have := hPo.len.2; rw [List.length_take]; omega))
    have KQB : Hid (∀ k, k ≤ l.length → 0 ≤ GM.lots (l.take k) ∧ GM.lots (l.take k) ≤ 1073741824) := Lib.hid (fun k hk => plots_any_bound (fun t h => hPo.each t (List.mem_of_mem_take h)) (by have := hPo.len.2; rw [List.length_take]; omega))
    have KE : Hid (∀ k, k < l.length → (1 ≤ (TM.tAt l k).qty ∧ (TM.tAt l k).qty ≤ 1048576) ∧ -16777216 ≤ (TM.tAt l k).price ∧ (TM.tAt l k).price ≤ 16777216) := Lib.hid (fun k hk => by rw [TM.tAt_get hk]; exact hPo.each _ (List.getElem_mem hk))
    have KF : Hid (GM.cost (l.take l.length) = GM.cost l ∧ GM.lots (l.take l.length) = GM.lots l) := Lib.hid ⟨by rw [List.take_length], by rw [List.take_length]⟩
    have K0 : Hid (0 = GM.cost (l.take 0) ∧ 0 = GM.lots (l.take 0)) := Lib.hid ⟨rfl, rfl⟩
    have KA := Lib.hid hpay.all; have KPt := Lib.hid hpay.part; have KO := Lib.hid hpay.one; have KY := Lib.hid hpay.pays; have KD := Lib.hid hpay.done
    have KS := Lib.hid (fun k h => @GM.paid_succ p rs (GM.avgP l tick) k h hrl)
    have KT := Lib.hid (fun k h => LM.tot_take_succ rs k h)
    have KTL : Hid (LM.tot (rs.take p.length) = GM.avgR l tick) := Lib.hid (by rw [← hrl, List.take_length]; exact hpay.sum)
    have K00 : Hid (0 = GM.paidAt p rs (GM.avgP l tick) 0 ∧ 0 = LM.tot (rs.take 0)) := Lib.hid ⟨by unfold GM.paidAt; simp [GM.psum, LM.tot], rfl⟩
    have hmod := GM.mod_price l tick
    have t1 := hPo.tk.1; have t2 := hPo.tk.2
    have hRN := Lib.hid (show ∀ n ∈ rs, -9223372036854775808 ≤ n ∧ n ≤ 9223372036854775807 from fun n hn => by
      obtain ⟨k, hk, rfl⟩ := List.getElem_of_mem hn
      have := hpay.all k (by omega)
      rw [List.getD_eq_getElem?_getD, List.getElem?_eq_getElem hk] at this
      simp at this
      omega)
    clear hpay hPo hcb e1 e2 he hp hd ht
    generalize GM.avgP l tick = P at *
    generalize GM.avgR l tick = R at *
    generalize hQ : GM.lots l = Q at *
    generalize hC : GM.cost l = C at *
    clear hQ hC
    have htn : (tick == 0) = false := by simp; omega
    have htn2 : tick ≠ 0 := by omega
    have htl : ¬ tick < 1 := by omega
    go_enter Try.func7, Try.ntmps7
    go_wp2_with fail
    refine C1.out.mono ?_
    rintro e w1 ⟨v1, rfl, o1, b1⟩
    obtain ⟨A1, c1, rfl, hi1⟩ := o1.ints hRN.out
    have HB1 := Lib.hid b1
    have HI1 := Lib.hid (HI.out.below b1); have HP1 := Lib.hid (HP.out.below b1)
    have HR1 := Lib.hid hi1
    rw [hrl]
    clear o1 b1 hi1 HI HP C1
    go_wp2_with fail
    go_loopw [10, 12, 14] (fun u v i wr => ∃ (k : Nat) (x y : Int), k ≤ l.length ∧ i = .int .i64 (k : Int) ∧ u = .int .i64 x ∧ v = .int .i64 y ∧ -18014398509481984 ≤ x ∧ x ≤ 18014398509481984 ∧ 0 ≤ y ∧ y ≤ 1073741824 ∧ Hid (x = GM.cost (l.take k)) ∧ Hid (y = GM.lots (l.take k)) ∧ ∃ nd, wr = w1.drewN nd) (fun _ _ i _ => l.length - (intOf i).toNat)
    case atStart => exact ⟨0, 0, 0, by omega, rfl, rfl, rfl, by omega, by omega, by omega, by omega, Lib.hid K0.out.1, Lib.hid K0.out.2, 0, rfl⟩
    case round =>
      obtain ⟨k, x, y, hk, rfl, rfl, rfl, x1, x2, y1, y2, HE1, HE2, nd, rfl⟩ := hrel
      by_cases hlt : k < l.length
      · obtain ⟨b, off, t, rfl, hb, HV, q, d0, d1, d2, d3, d4, d5, d6, d7, d8, d9, d10, d11, d12⟩ := trds_get HI1.out hlt
        have HX1 : Hid (x + t.qty * t.price = GM.cost (l.take (k + 1))) := Lib.hid (by rw [KC.out k hlt, HV.out, HE1.out])
        have HX2 : Hid (y + t.qty = GM.lots (l.take (k + 1))) := Lib.hid (by rw [KQ.out k hlt, HV.out, HE2.out])
        have hqq := KE.out k hlt
        rw [HV.out] at hqq
        have hpq := pq_bound hqq
        rw [Int.mul_comm] at hpq
        have m1 := hpq.1; have m2 := hpq.2
        have a1 := KCB.out (k + 1) (by omega); have a2 := KQB.out (k + 1) (by omega)
        rw [← HX1.out] at a1
        rw [← HX2.out] at a2
        have b1 := a1.1; have b2 := a1.2; have b3 := a2.1; have b4 := a2.2
        clear q HV hqq hpq a1 a2 HE1 HE2
        go_wp2_with fail
        go_quiet (fail)
        go_wp2_with fail
        go_roundw
        case rel => exact ⟨k + 1, _, _, by omega, by go_num, by go_num, by go_num, b1, b2, b3, b4, HX1, HX2, by first | exact ⟨nd, rfl⟩ | exact ⟨_, rfl⟩ | exact ⟨nd + 1, rfl⟩⟩
        case measure => simp [intOf]; omega
      · obtain rfl : k = l.length := by omega
        have hxC : x = C := HE1.out.trans KF.out.1
        have hyQ : y = Q := HE2.out.trans KF.out.2
        subst hxC hyQ
        have HB2 := Lib.hid (below_drewN HB1.out nd)
        have HP2 := Lib.hid (HP1.out.drewN nd)
        have HR2 := Lib.hid (show Ints (w1.drewN nd) A1 rs from HR1.out)
        generalize w1.drewN nd = w2 at *
        clear HE1 HE2 KC KQ KCB KQB KE KF K0 HI1 HP1 HR1 HB1
        go_wp2_with fail
        go_loopw [11, 13, 15] (fun u v i wr => ∃ (k : Nat) (x y : Int), k ≤ p.length ∧ i = .int .i64 (k : Int) ∧ u = .int .i64 x ∧ v = .int .i64 y ∧ -36028797018963968 ≤ x ∧ x ≤ 72057594037927936 ∧ 0 ≤ y ∧ y ≤ 18014398509481984 ∧ Hid (x = GM.paidAt p rs P k) ∧ Hid (y = LM.tot (rs.take k)) ∧ ∃ nd, wr = w2.drewN nd) (fun _ _ i _ => p.length - (intOf i).toNat)
        case atStart => exact ⟨0, 0, 0, by omega, rfl, rfl, rfl, by omega, by omega, by omega, by omega, Lib.hid K00.out.1, Lib.hid K00.out.2, 0, rfl⟩
        case round =>
          obtain ⟨k, z, y, hk, rfl, rfl, rfl, z1, z2, y1, y2, HE1, HE2, nd, rfl⟩ := hrel
          by_cases hlt : k < p.length
          · obtain ⟨b, off, t, rfl, hb, HV, q, d0, d1, d2⟩ := parts_get HP2.out hlt
            obtain ⟨b', off', r, rfl, hb', hcell', HV', r3, r4⟩ := HR2.out.get (k := k) (by omega)
            have HX1 : Hid (z + (t.qty * P + r) = GM.paidAt p rs P (k + 1)) := Lib.hid (by rw [KS.out k hlt, HV.out, HV'.out, HE1.out])
            have HX2 : Hid (y + r = LM.tot (rs.take (k + 1))) := Lib.hid (by rw [KT.out k (by omega), HV'.out, HE2.out])
            have m := KO.out k hlt
            rw [HV.out] at m
            have rr := KA.out k hlt
            rw [HV'.out] at rr
            have a1 := KY.out (k + 1) (by omega); have a2 := KPt.out (k + 1) (by omega)
            rw [← HX1.out] at a1
            rw [← HX2.out] at a2
            have m1 := m.1; have m2 := m.2; have g1 := rr.1; have g2 := rr.2
            have hr0 : ¬ r < 0 := by omega
            have b1 := a1.1; have b2 := a1.2; have b3 := a2.1; have b4 := a2.2
            clear q HV HV' m rr a1 a2 HE1 HE2
            go_wp2_with fail
            go_quiet (fail)
            go_wp2_with fail
            go_roundw
            case rel => exact ⟨k + 1, _, _, by omega, by go_num, by go_num, by go_num, b1, b2, b3, b4, HX1, HX2, by first | exact ⟨nd, rfl⟩ | exact ⟨_, rfl⟩ | exact ⟨nd + 1, rfl⟩⟩
            case measure => simp [intOf]; omega
          · obtain rfl : k = p.length := by omega
            have hz : z = x := HE1.out.trans KD.out
            have hy : y = R := HE2.out.trans KTL.out
            subst hz hy
            have HB3 := Lib.hid (below_drewN HB2.out nd)
            clear HE1 HE2 KA KPt KO KY KD KS KT KTL K00
            go_wp2_with fail
            refine (CG.out _).mono ?_
            rintro e w4 ⟨rfl, b4⟩
            have HB4 := Lib.hid (HB3.out.trans (b4.mono HB3.out.size))
            clear b4
            go_wp2_with fail
            go_ret
            exact ⟨rfl, HB4.out⟩
  · have e1 : evenL l tick p = [] := by unfold evenL; rw [if_neg he]
    have hne : (evenE l tick p != 0) = true := by simpa using he
    rw [e1] at C1
    generalize evenE l tick p = r at *
    generalize evenP l tick p = P at *
    clear e1 he ht
    go_enter Try.func7, Try.ntmps7
    go_wp2_with fail
    refine C1.out.mono ?_
    rintro e w1 ⟨v1, rfl, o1, b1⟩
    obtain ⟨A1, c1, rfl, hi1⟩ := o1.ints (by simp)
    have HB1 := Lib.hid b1
    rw [show ([] : List Int).length = 0 from rfl]
    clear o1 b1 hi1 C1
    go_wp2_with fail
    refine (CG.out _).mono ?_
    rintro e w4 ⟨rfl, b4⟩
    have HB4 := Lib.hid (HB1.out.trans (b4.mono HB1.out.size))
    clear b4
    go_wp2_with fail
    go_ret
    exact ⟨rfl, HB4.out⟩
end Go.Proofs.Ytafdjiilmogcjab.giveupPays

/- What the reach says of a text that opens a record, over any program. -/
namespace Go.Recs
open Go.ChangeShapes Go.WideShapes Go.RowKit Go.Deep
set_option linter.unusedVariables false
theorem first_sized {H : Type} {enc : TypeId × Value → H} {P : Program} {W : World} {base : Nat} {spare : Nat → Bool} {held : Bool} {T : TypeId} {cs : Array Value} {d : DataW H} {p : List MemPlace} {fs : Array Field} {f : Field} {s : ByteArray}
    {ts : List TypeId} {ds : List (DataW H)} {j : Nat}
    (h : (DataW.weightsEach P ts ds).all (· ≤ reachBytes) = true) (ht : ts[j]? = some T) (hd : ds[j]? = some d)
    (hT : DataW.Trod enc P W base spare held T (.agg cs) d p) (hu : P.underlying T = some (.struct fs)) (hf : fs[0]? = some f) (ho : f.offset = 0) (hs : P.underlying f.type = some .string) (hc : P.cellsOf f.type = 1) (hcs : cs[0]? = some (.string s)) :
    s.size ≤ 140737488351232 := by
  obtain ⟨fuel, hx⟩ := hT
  obtain ⟨xs, n, _, hxd, _, hxl, hfl⟩ := DataW.trod_struct hu hx
  have h0 := hfl 0 f hf
  have hpos : 0 < xs.length := by
    rw [hxl]
    rcases Nat.eq_zero_or_pos fs.size with e | e
    · rw [Array.getElem?_eq_none (by omega)] at hf; cases hf
    · exact e
  rw [List.getElem?_eq_getElem hpos] at h0
  obtain ⟨t, ht0, hx0, _⟩ := DataW.trod_string hs h0
  rw [ho, hc, List.drop_zero] at ht0
  have ets : t = s := by
    have e1 : (Value.agg cs).cells.toList.take 1 = [Value.string t] := ht0
    have e2 : (Value.agg cs).cells.toList[0]? = some (Value.string s) := by simpa [Value.cells] using hcs
    cases hl : (Value.agg cs).cells.toList with
    | nil => rw [hl] at e2; cases e2
    | cons a r => rw [hl] at e1 e2; simp at e1 e2; rw [e1] at e2; injection e2
  subst ets
  injection hxd with hd1 _
  have hw : t.data.toList.length ∈ d.weights P T := by
    rw [hd1]
    simp only [DataW.weights, hu]
    have hm := DataW.weights_mem_each (P := P) (ts := fs.toList.map (·.type)) (ds := xs.map (·.1)) (j := 0) (t := f.type) (d := xs[0].1) (by rw [List.getElem?_map, Array.getElem?_toList, hf]; rfl) (by rw [List.getElem?_map, List.getElem?_eq_getElem hpos]; rfl) t.data.toList.length
    apply hm
    rw [hx0]
    simp [DataW.weights]
  have := List.all_eq_true.1 h _ (DataW.weights_mem_each ht hd _ hw)
  have e : t.data.toList.length = t.size := Array.length_toList
  rw [e] at this
  have hr : reachBytes = 140737488351232 := by decide
  rw [← hr]
  simpa using this
end Go.Recs

/- A law's arguments: products and series, by value and in slices. -/
namespace Go.Proofs.Ytafdjiilmogcjab
open Go.ChangeShapes Go.WideShapes Go.ChangeAt Go.RowKit Go.Recs
set_option linter.unusedVariables false
set_option maxRecDepth 100000
theorem ser_leafs : leafs Try.prog 2 23 = some serL := by kernel_rfl
theorem open_serV {H : Type} {enc : TypeId × Value → H} {W : World} {base b0 : Nat} {spare : Nat → Bool} {held : Bool} {r : Reach} {v : Value} {d : DataW H} {p : List MemPlace}
    (hv : Value.okWide Try.prog W r b0 23 v) (h : DataW.Trod enc Try.prog W base spare held 23 v d p) :
    ∃ x : EM.Ser, v = .agg #[.string x.prod, .int .i64 x.kind, .int .i64 x.expiry, .int .i64 x.strike] ∧ serQ x := by
  obtain ⟨cs, rfl, hk⟩ := open_rec (n := 2) Try.underlying23 ser_leafs (by kernel_rfl) hv h
  obtain ⟨x, rfl, hq⟩ := ser_row cs hk
  exact ⟨x, rfl, hq⟩
theorem ser_sized {H : Type} {enc : TypeId × Value → H} {W : World} {base : Nat} {spare : Nat → Bool} {held : Bool} {x : EM.Ser} {d : DataW H} {p : List MemPlace} {ts : List TypeId} {ds : List (DataW H)} {j : Nat}
    (h : (DataW.weightsEach Try.prog ts ds).all (· ≤ reachBytes) = true) (ht : ts[j]? = some 23) (hd : ds[j]? = some d)
    (hT : DataW.Trod enc Try.prog W base spare held 23 (.agg #[.string x.prod, .int .i64 x.kind, .int .i64 x.expiry, .int .i64 x.strike]) d p) : x.prod.size ≤ 140737488351232 :=
  first_sized (cs := #[.string x.prod, .int .i64 x.kind, .int .i64 x.expiry, .int .i64 x.strike]) h ht hd hT Try.underlying23 rfl rfl Try.underlying9 (by kernel_rfl) rfl
end Go.Proofs.Ytafdjiilmogcjab

/- A law's arguments: trades, legs, accounts' names, a product with one of its series. -/
namespace Go.Proofs.Ytafdjiilmogcjab
open Go.ChangeShapes Go.WideShapes Go.ChangeAt Go.RowKit Go.Recs
set_option linter.unusedVariables false
set_option maxRecDepth 100000
theorem trd_leafs : leafs Try.prog 3 27 = some trdL := by kernel_rfl
theorem open_trdT {H : Type} {enc : TypeId × Value → H} {W : World} {base b0 : Nat} {spare : Nat → Bool} {held : Bool} {r : Reach} {v : Value} {d : DataW H} {p : List MemPlace}
    (hv : Value.okWide Try.prog W r b0 31 v) (h : DataW.Trod enc Try.prog W base spare held 31 v d p) :
    ∃ A cap, ∃ l : List TM.Trd, v = .slice A l.length cap ∧ (Trds W A l ∧ l.length ≤ cap) ∧ True := by
  obtain ⟨A, cap, rows, rfl, hR, hk, hc⟩ := open_recs (n := 3) (sz := 13) Try.underlying31 trd_leafs (by kernel_rfl) rfl (by omega) hv h
  obtain ⟨l, rfl, hq⟩ := typed (ls := trdL) trdV _ trd_row rows hk
  rw [List.length_map] at hc ⊢
  exact ⟨A, cap, l, rfl, ⟨⟨hR, hq⟩, hc⟩, trivial⟩
theorem open_trdV {H : Type} {enc : TypeId × Value → H} {W : World} {base b0 : Nat} {spare : Nat → Bool} {held : Bool} {r : Reach} {v : Value} {d : DataW H} {p : List MemPlace}
    (hv : Value.okWide Try.prog W r b0 27 v) (h : DataW.Trod enc Try.prog W base spare held 27 v d p) :
    ∃ t : TM.Trd, v = .agg #[.int .i64 t.id, .int .i64 t.day, .int .i64 t.time, .string t.ser.prod, .int .i64 t.ser.kind, .int .i64 t.ser.expiry, .int .i64 t.ser.strike, .int .i64 t.qty, .int .i64 t.price, .string t.bm, .string t.bn, .string t.sm, .string t.sn] ∧ trdQ t := by
  obtain ⟨cs, rfl, hk⟩ := open_rec (n := 3) Try.underlying27 trd_leafs (by kernel_rfl) hv h
  obtain ⟨x, rfl, hq⟩ := trd_row cs hk
  exact ⟨x, rfl, hq⟩
def kL : List Leaf := [.str, .str]
theorem k_leafs : leafs Try.prog 2 25 = some kL := by kernel_rfl
theorem open_kV {H : Type} {enc : TypeId × Value → H} {W : World} {base b0 : Nat} {spare : Nat → Bool} {held : Bool} {r : Reach} {v : Value} {d : DataW H} {p : List MemPlace}
    (hv : Value.okWide Try.prog W r b0 25 v) (h : DataW.Trod enc Try.prog W base spare held 25 v d p) :
    ∃ x : ByteArray × ByteArray, v = .agg #[.string x.1, .string x.2] ∧ x.1.size ≤ maxLen ∧ x.2.size ≤ maxLen := by
  obtain ⟨cs, rfl, hk⟩ := open_rec (n := 2) Try.underlying25 k_leafs (by kernel_rfl) hv h
  obtain ⟨c0, r0, rfl, ⟨s0, rfl, h0⟩, g0⟩ := okAll_cons hk
  obtain ⟨c1, r1, rfl, ⟨s1, rfl, h1⟩, g1⟩ := okAll_cons g0
  rw [okAll_nil g1]
  exact ⟨(s0, s1), rfl, h0, h1⟩
end Go.Proofs.Ytafdjiilmogcjab
