/- Put together: ShareMath2, ShareMath3, FillMath, SignMath, CapMath, GivMath3, AvgMath. -/
import Derived.Test.YtagmknahmkniaabBun6
import Derived.Test.YtagmknahmkniaabBun2
/- The largest remainders, one cent each. -/
namespace SM
open LM

/-- the place of the greatest among the first k, the first of equals -/
def amaxK (r : List Int) : Nat → Nat
  | 0 => 0
  | k + 1 => if r.getD (amaxK r k) 0 < r.getD k 0 then k else amaxK r k
def amax (r : List Int) : Nat := amaxK r r.length

theorem amaxK_lt (r : List Int) (k : Nat) (hk : 0 < k) : amaxK r k < k := by
  induction k with
  | zero => omega
  | succ k ih =>
    simp only [amaxK]
    split
    · omega
    · rcases Nat.eq_zero_or_pos k with h | h
      · subst h; simp [amaxK]
      · have := ih h; omega
theorem amax_lt (r : List Int) (h : 0 < r.length) : amax r < r.length := amaxK_lt r _ h
theorem amaxK_le (r : List Int) (k : Nat) : ∀ j, j < k → r.getD j 0 ≤ r.getD (amaxK r k) 0 := by
  induction k with
  | zero => intro j hj; omega
  | succ k ih =>
    intro j hj
    simp only [amaxK]
    split
    · rcases Nat.lt_or_ge j k with h | h
      · have := ih j h; omega
      · obtain rfl : j = k := by omega
        omega
    · rcases Nat.lt_or_ge j k with h | h
      · exact ih j h
      · obtain rfl : j = k := by omega
        omega
theorem amaxK_first (r : List Int) (k : Nat) : ∀ j, j < amaxK r k → r.getD j 0 < r.getD (amaxK r k) 0 := by
  induction k with
  | zero => intro j hj; simp [amaxK] at hj
  | succ k ih =>
    intro j hj
    simp only [amaxK] at hj ⊢
    split at hj
    · rename_i hc
      rw [if_pos hc]
      have := amaxK_le r k j hj
      omega
    · rename_i hc
      rw [if_neg hc]
      exact ih j hj

/-- one of the list is the first greatest: the only one such -/
theorem amax_unique (r : List Int) (i : Nat) (hi : i < r.length) (h1 : ∀ j, j < r.length → r.getD j 0 ≤ r.getD i 0) (h2 : ∀ j, j < i → r.getD j 0 < r.getD i 0) : amax r = i := by
  have a1 := amaxK_le r r.length
  have a2 := amaxK_first r r.length
  have a3 := amax_lt r (by omega)
  unfold amax at *
  rcases Nat.lt_trichotomy (amaxK r r.length) i with h | h | h
  · have := h2 _ h
    have := a1 i hi
    omega
  · exact h
  · have := a2 _ h
    have := h1 _ a3
    omega

def inc (p : List Int) (i : Nat) : List Int := p.set i (p.getD i 0 + 1)
def dstep (c : Int) (s : List Int × List Int) : List Int × List Int := (inc s.1 (amax s.2), s.2.set (amax s.2) c)
def diter (c : Int) : Nat → List Int × List Int → List Int × List Int
  | 0, s => s
  | t + 1, s => dstep c (diter c t s)

theorem diter_len (c : Int) (t : Nat) (s : List Int × List Int) : (diter c t s).1.length = s.1.length ∧ (diter c t s).2.length = s.2.length := by
  induction t with
  | zero => exact ⟨rfl, rfl⟩
  | succ t ih => simp [diter, dstep, inc, ih.1, ih.2]

theorem getD_set (l : List Int) (i j : Nat) (x : Int) (hi : i < l.length) : (l.set i x).getD j 0 = if i = j then x else l.getD j 0 := by
  simp only [List.getD, List.getElem?_set]
  by_cases h : i = j
  · subst h; simp [hi]
  · simp [h]

theorem tot_set (l : List Int) (i : Nat) (x : Int) (hi : i < l.length) : tot (l.set i x) = tot l - l.getD i 0 + x := by
  induction l generalizing i with
  | nil => simp at hi
  | cons y l ih =>
    cases i with
    | zero => simp [tot]; omega
    | succ i =>
      have := ih i (by simpa using hi)
      simp only [List.set_cons_succ, tot, this]
      simp [List.getD]; omega

theorem exists_pos (l : List Int) (h : 0 < tot l) : ∃ j, j < l.length ∧ 0 < l.getD j 0 := by
  induction l with
  | nil => simp [tot] at h
  | cons x l ih =>
    simp only [tot] at h
    by_cases hx : 0 < x
    · exact ⟨0, by simp, by simpa using hx⟩
    · obtain ⟨j, hj, hp⟩ := ih (by omega)
      exact ⟨j + 1, by simp; omega, by simpa [List.getD] using hp⟩

/-- what holds of the program's rounds: P says who got a cent -/
structure DI (all : Int) (n left : Nat) (q r : List Int) (t : Nat) (s : List Int × List Int) (P : Nat → Bool) : Prop where
  l1 : s.1.length = n
  l2 : s.2.length = n
  part : ∀ j, j < n → s.1.getD j 0 = q.getD j 0 + if P j then 1 else 0
  rem : ∀ j, j < n → s.2.getD j 0 = if P j then 0 else r.getD j 0
  pos : ∀ j, j < n → P j = true → 0 < r.getD j 0
  ord : ∀ j k, j < n → k < n → P j = true → P k = false → r.getD k 0 < r.getD j 0 ∨ (r.getD k 0 = r.getD j 0 ∧ j < k)
  sum : tot s.1 = tot q + t
  room : all * ((left : Int) - t) ≤ tot s.2

theorem DI.start {all : Int} {n left : Nat} {q r : List Int} (hq : q.length = n) (hr : r.length = n) (hs : tot r = all * left) : DI all n left q r 0 (q, r) (fun _ => false) :=
  ⟨hq, hr, fun j _ => by simp, fun j _ => by simp, fun j _ h => by simp at h, fun j k _ _ h => by simp at h, by simp, by simp [hs]⟩

/-- the place that is found in a round has a remainder -/
theorem DI.found {all : Int} {n left : Nat} {q r : List Int} {t : Nat} {s : List Int × List Int} {P : Nat → Bool} (h : DI all n left q r t s P) (ha : 0 < all) (ht : t < left) :
    amax s.2 < n ∧ 0 < s.2.getD (amax s.2) 0 := by
  have h1 : 0 < all * ((left : Int) - t) := Int.mul_pos ha (by omega)
  have h2 := h.room
  obtain ⟨j, hj, hp⟩ := exists_pos s.2 (by omega)
  have h3 := amax_lt s.2 (by omega)
  have h4 := amaxK_le s.2 s.2.length j hj
  have h5 := h.l2
  refine ⟨by omega, ?_⟩
  unfold amax; omega

theorem DI.step {all : Int} {n left : Nat} {q r : List Int} {t : Nat} {s : List Int × List Int} {P : Nat → Bool} (h : DI all n left q r t s P) (ha : 0 < all) (ht : t < left)
    (hr : ∀ j, j < n → r.getD j 0 < all) : DI all n left q r (t + 1) (dstep 0 s) (fun j => P j || decide (j = amax s.2)) := by
  obtain ⟨hi, hp⟩ := h.found ha ht
  generalize hI : amax s.2 = i at *
  have hPi : P i = false := by
    cases hc : P i
    · rfl
    · have := h.rem i hi; rw [hc, if_pos rfl] at this; omega
  have hri : s.2.getD i 0 = r.getD i 0 := by have := h.rem i hi; rw [hPi] at this; simpa using this
  have l1 := h.l1
  have l2 := h.l2
  refine ⟨by simp [dstep, inc, l1], by simp [dstep, l2], ?_, ?_, ?_, ?_, ?_, ?_⟩
  · intro j hj
    simp only [dstep, inc, hI]
    rw [getD_set _ _ _ _ (by omega)]
    by_cases e : i = j
    · subst e
      have := h.part i hi
      rw [hPi] at this
      simp at this
      simp [this]
    · have := h.part j hj
      rw [if_neg e, this]
      simp [show ¬ j = i from fun x => e x.symm]
  · intro j hj
    simp only [dstep, hI]
    rw [getD_set _ _ _ _ (by omega)]
    by_cases e : i = j
    · subst e; simp
    · have := h.rem j hj
      rw [if_neg e, this]
      simp [show ¬ j = i from fun x => e x.symm]
  · intro j hj hP
    by_cases e : j = i
    · subst e; omega
    · simp [e] at hP; exact h.pos j hj hP
  · intro j k hj hk hPj hPk
    simp only [Bool.or_eq_false_iff, decide_eq_false_iff_not] at hPk
    by_cases e : j = i
    · subst e
      have hrk : s.2.getD k 0 = r.getD k 0 := by have := h.rem k hk; rw [hPk.1] at this; simpa using this
      have m := amaxK_le s.2 s.2.length k (by omega)
      have f := amaxK_first s.2 s.2.length
      unfold amax at hI
      rw [hI] at m f
      rw [hrk, hri] at m
      rcases Int.lt_or_eq_of_le m with h1 | h1
      · exact .inl h1
      · refine .inr ⟨h1, ?_⟩
        rcases Nat.lt_trichotomy j k with h2 | h2 | h2
        · exact h2
        · exact absurd h2.symm hPk.2
        · have := f k h2; omega
    · simp [e] at hPj
      exact h.ord j k hj hk hPj hPk.1
  · simp only [dstep, inc, hI]
    rw [tot_set _ _ _ (by omega)]
    have := h.sum
    push_cast; omega
  · simp only [dstep, hI]
    rw [tot_set _ _ _ (by omega)]
    have h1 := h.room
    have h2 := hr i hi
    have h3 : all * ((left : Int) - ((t + 1 : Nat) : Int)) = all * ((left : Int) - t) - all := by
      rw [show (left : Int) - ((t + 1 : Nat) : Int) = ((left : Int) - t) - 1 by push_cast; omega, Int.mul_sub, Int.mul_one]
    rw [h3]; omega

theorem DI.iter {all : Int} {n left : Nat} {q r : List Int} (hq : q.length = n) (hr : r.length = n) (hs : tot r = all * left) (ha : 0 < all)
    (hlt : ∀ j, j < n → r.getD j 0 < all) : ∀ t, t ≤ left → ∃ P, DI all n left q r t (diter 0 t (q, r)) P
  | 0, _ => ⟨_, DI.start hq hr hs⟩
  | t + 1, ht => by
    obtain ⟨P, hP⟩ := DI.iter hq hr hs ha hlt t (by omega)
    exact ⟨_, hP.step ha (by omega) hlt⟩

/-- the reference's rounds give the same parts: what it marks by -1 the program marks by 0 -/
theorem diter_same {all : Int} {n left : Nat} {q r : List Int} (hq : q.length = n) (hr : r.length = n) (hs : tot r = all * left) (ha : 0 < all)
    (hlt : ∀ j, j < n → r.getD j 0 < all) : ∀ t, t ≤ left →
    (diter (-1) t (q, r)).1 = (diter 0 t (q, r)).1 ∧ ∀ j, j < n → (diter (-1) t (q, r)).2.getD j 0 = (diter 0 t (q, r)).2.getD j 0 ∨ ((diter (-1) t (q, r)).2.getD j 0 = -1 ∧ (diter 0 t (q, r)).2.getD j 0 = 0)
  | 0, _ => ⟨rfl, fun _ _ => .inl rfl⟩
  | t + 1, ht => by
    obtain ⟨i1, i2⟩ := diter_same hq hr hs ha hlt t (by omega)
    obtain ⟨P, hP⟩ := DI.iter hq hr hs ha hlt t (by omega)
    obtain ⟨f1, f2⟩ := hP.found ha (by omega)
    have n1 : (diter (-1) t (q, r)).2.length = n := by rw [(diter_len _ _ _).2]; exact hr
    have n2 : (diter 0 t (q, r)).2.length = n := by rw [(diter_len _ _ _).2]; exact hr
    have e : amax (diter (-1) t (q, r)).2 = amax (diter 0 t (q, r)).2 := by
      have m := amaxK_le (diter 0 t (q, r)).2 (diter 0 t (q, r)).2.length
      have f := amaxK_first (diter 0 t (q, r)).2 (diter 0 t (q, r)).2.length
      have same : (diter (-1) t (q, r)).2.getD (amax (diter 0 t (q, r)).2) 0 = (diter 0 t (q, r)).2.getD (amax (diter 0 t (q, r)).2) 0 := by
        rcases i2 _ f1 with h | h
        · exact h
        · omega
      refine amax_unique _ _ (by omega) ?_ ?_
      · intro j hj
        rw [same]
        have := m j (by omega)
        unfold amax at *
        rcases i2 j (by omega) with h | h <;> omega
      · intro j hj
        rw [same]
        have := f j hj
        unfold amax at *
        rcases i2 j (by omega) with h | h <;> omega
    refine ⟨?_, fun j hj => ?_⟩
    · simp only [diter, dstep, e, i1]
    · simp only [diter, dstep, e]
      rw [getD_set _ _ _ _ (by omega), getD_set _ _ _ _ (by omega)]
      by_cases c : amax (diter 0 t (q, r)).2 = j
      · simp [c]
      · simp only [c, if_false]; exact i2 j hj

/-! what Split makes of a total and weights -/
def qs (total all : Int) (w : List Int) : List Int := w.map fun x => pq total x all
def rs (total all : Int) (w : List Int) : List Int := w.map fun x => pr total x all
def leftOf (total all : Int) (w : List Int) : Int := total - tot (qs total all w)
def parts (total all : Int) (w : List Int) : List Int := (diter 0 (leftOf total all w).toNat (qs total all w, rs total all w)).1
theorem parts_len (total all : Int) (w : List Int) : (parts total all w).length = w.length := by
  unfold parts; rw [(diter_len _ _ _).1]; simp [qs]
theorem qs_len (total all : Int) (w : List Int) : (qs total all w).length = w.length := by simp [qs]
theorem rs_len (total all : Int) (w : List Int) : (rs total all w).length = w.length := by simp [rs]
theorem qs_get (total all : Int) (w : List Int) (k : Nat) (hk : k < w.length) : (qs total all w).getD k 0 = pq total (w.getD k 0) all := by simp [qs, List.getD, hk]
theorem rs_get (total all : Int) (w : List Int) (k : Nat) (hk : k < w.length) : (rs total all w).getD k 0 = pr total (w.getD k 0) all := by simp [rs, List.getD, hk]

/-- the first k of a list, and noughts -/
def pre (l : List Int) (k : Nat) : List Int := l.take k ++ List.replicate (l.length - k) 0
theorem pre_len (l : List Int) (k : Nat) (hk : k ≤ l.length) : (pre l k).length = l.length := by simp [pre]; omega
theorem pre_zero (l : List Int) : pre l 0 = List.replicate l.length 0 := by simp [pre]
theorem pre_full (l : List Int) : pre l l.length = l := by simp [pre]
theorem pre_set (l : List Int) (k : Nat) (hk : k < l.length) : (pre l k).set k (l.getD k 0) = pre l (k + 1) := by
  unfold pre
  rw [take_snoc l k hk, List.set_append_right _ _ (by simp; omega)]
  have e : l.length - k = (l.length - (k + 1)) + 1 := by omega
  rw [List.length_take, Nat.min_eq_left (by omega), Nat.sub_self, e, List.replicate_succ]
  simp

/-- the two divisions of one weight together are its product -/
theorem pqr (total x all : Int) : all * pq total x all + pr total x all = total * x := Int.mul_ediv_add_emod _ _
theorem tot_qr (total all : Int) (w : List Int) : all * tot (qs total all w) + tot (rs total all w) = total * tot w := by
  induction w with
  | nil => simp [qs, rs, tot]
  | cons x w ih =>
    have e := pqr total x all
    simp only [qs, rs, List.map_cons, tot, Int.mul_add] at ih ⊢
    omega
theorem tot_rs (total all : Int) (w : List Int) (h : all = tot w) : tot (rs total all w) = all * leftOf total all w := by
  have := tot_qr total all w
  unfold leftOf
  rw [Int.mul_sub, Int.mul_comm all total]
  subst h; omega
theorem pr_range (total x : Int) {all : Int} (h : 0 < all) : 0 ≤ pr total x all ∧ pr total x all < all := ⟨Int.emod_nonneg _ (by omega), Int.emod_lt_of_pos _ h⟩
theorem rs_range (total all : Int) (w : List Int) (h : 0 < all) (j : Nat) (hj : j < w.length) : 0 ≤ (rs total all w).getD j 0 ∧ (rs total all w).getD j 0 < all := by
  rw [rs_get _ _ _ _ hj]; exact pr_range _ _ h
theorem tot_bounds (l : List Int) (B : Int) (h : ∀ j, j < l.length → 0 ≤ l.getD j 0 ∧ l.getD j 0 < B) (hl : 0 < l.length) : 0 ≤ tot l ∧ tot l < B * l.length := by
  induction l with
  | nil => simp at hl
  | cons x l ih =>
    have h0 := h 0 (by simp)
    simp at h0
    rcases Nat.eq_zero_or_pos l.length with e | e
    · have : l = [] := List.eq_nil_of_length_eq_zero e
      subst this; simp [tot]; omega
    · obtain ⟨a, b⟩ := ih (fun j hj => by have := h (j + 1) (by simp; omega); simpa [List.getD] using this) e
      simp only [tot, List.length_cons]
      have e2 : B * ((l.length + 1 : Nat) : Int) = B * l.length + B := by push_cast; rw [Int.mul_add, Int.mul_one]
      rw [e2]; omega
/-- fewer cents are left than there are weights -/
theorem left_range (total all : Int) (w : List Int) (h : all = tot w) (ha : 0 < all) : 0 ≤ leftOf total all w ∧ leftOf total all w < w.length := by
  have hl : 0 < w.length := by
    rcases Nat.eq_zero_or_pos w.length with e | e
    · have : w = [] := List.eq_nil_of_length_eq_zero e
      subst this; simp [tot] at h; omega
    · exact e
  have hb := tot_bounds (rs total all w) all (fun j hj => rs_range total all w ha j (by rwa [rs_len] at hj)) (by rw [rs_len]; exact hl)
  rw [tot_rs total all w h, rs_len] at hb
  constructor
  · by_cases hn : leftOf total all w < 0
    · have := Int.mul_neg_of_pos_of_neg ha hn; omega
    · omega
  · exact Int.lt_of_mul_lt_mul_left hb.2 (by omega)
theorem pq_nonneg {total x all : Int} (t : 0 ≤ total) (h : 0 ≤ x) (ha : 0 < all) : 0 ≤ pq total x all := Int.ediv_nonneg (Int.mul_nonneg t h) (by omega)
theorem pq_le {total x all : Int} (t : 0 ≤ total) (h : x ≤ all) (ha : 0 < all) : pq total x all ≤ total := by
  unfold pq
  have h1 : total * x ≤ total * all := Int.mul_le_mul_of_nonneg_left h t
  have h2 := Int.ediv_le_ediv ha h1
  rwa [Int.mul_ediv_cancel _ (by omega)] at h2
theorem tot_nonneg' (l : List Int) (h : ∀ j, j < l.length → 0 ≤ l.getD j 0) : 0 ≤ tot l := by
  induction l with
  | nil => exact Int.le_refl _
  | cons x l ih =>
    have h0 := h 0 (by simp)
    have := ih (fun j hj => by have := h (j + 1) (by simp; omega); simpa [List.getD] using this)
    simp at h0
    simp only [tot]; omega
theorem qs_nonneg {total all : Int} {w : List Int} (t : 0 ≤ total) (hw : allR w = true) (ha : 0 < all) (j : Nat) (hj : j < w.length) : 0 ≤ (qs total all w).getD j 0 := by
  rw [qs_get _ _ _ _ hj]; exact pq_nonneg t (allR_get hw hj).1 ha
theorem qs_take {total all : Int} {w : List Int} (t : 0 ≤ total) (hw : allR w = true) (ha : 0 < all) (h : all = tot w) (k : Nat) : 0 ≤ tot ((qs total all w).take k) ∧ tot ((qs total all w).take k) ≤ total := by
  have e : tot (qs total all w) = tot ((qs total all w).take k) + tot ((qs total all w).drop k) := by rw [← tot_append, List.take_append_drop]
  have h1 := tot_nonneg' ((qs total all w).take k) (fun j hj => by
    have hj' : j < k ∧ j < (qs total all w).length := by rw [List.length_take] at hj; omega
    rw [show ((qs total all w).take k).getD j 0 = (qs total all w).getD j 0 by simp [List.getD, hj'.1]]
    exact qs_nonneg t hw ha j (by rw [qs_len] at hj'; exact hj'.2))
  have h2 := tot_nonneg' ((qs total all w).drop k) (fun j hj => by
    have hj' : j < (qs total all w).length - k := by simpa using hj
    rw [show ((qs total all w).drop k).getD j 0 = (qs total all w).getD (k + j) 0 by simp [List.getD]]
    exact qs_nonneg t hw ha _ (by rw [qs_len] at hj'; omega))
  have h3 := (left_range total all w h ha).1
  unfold leftOf at h3
  omega
theorem diter_bound (c : Int) (t : Nat) (s : List Int × List Int) (hl : s.1.length = s.2.length) (j : Nat) : s.1.getD j 0 ≤ (diter c t s).1.getD j 0 ∧ (diter c t s).1.getD j 0 ≤ s.1.getD j 0 + t := by
  induction t with
  | zero => simp [diter]
  | succ t ih =>
    simp only [diter, dstep, inc]
    rcases Nat.eq_zero_or_pos s.1.length with h0 | h0
    · have e : (diter c t s).1 = [] := List.eq_nil_of_length_eq_zero (by rw [(diter_len _ _ _).1]; exact h0)
      rw [e] at ih ⊢
      simp at ih ⊢
      omega
    · have hi : amax (diter c t s).2 < (diter c t s).1.length := by
        have h2 := (diter_len c t s)
        have := amax_lt (diter c t s).2 (by omega)
        omega
      rw [getD_set _ _ _ _ hi]
      split
      · rename_i e
        subst e
        push_cast; omega
      · push_cast; omega
theorem elem_le {w : List Int} (hw : allR w = true) {k : Nat} (hk : k < w.length) : w.getD k 0 ≤ tot w := by
  have h1 := tot_take_le hw (k + 1)
  rw [tot_take_succ w k hk] at h1
  have h2 := tot_nonneg (allR_take hw k)
  omega
end SM

namespace SM
open LM

/-- Split's error -/
def splE (total : Int) (w : List Int) : Int := if inR total then (if 1024 < w.length then 8 else if wOk w && decide (tot w ≠ 0) then 0 else 26) else 2
/-- .. and its parts -/
def splN (total : Int) (w : List Int) : List Int := if splE total w = 0 then parts total (tot w) w else []

theorem spl_arg {total : Int} {w : List Int} (h : inR total = false) : splE total w = 2 ∧ splN total w = [] := by
  have e : splE total w = 2 := by simp [splE, h]
  simp [splN, e]
theorem spl_long {total : Int} {w : List Int} (h : inR total = true) (hl : 1024 < w.length) : splE total w = 8 ∧ splN total w = [] := by
  have e : splE total w = 8 := by simp [splE, h, hl]
  simp [splN, e]
theorem spl_weight {total : Int} {w : List Int} (h : inR total = true) (hl : ¬ 1024 < w.length) (hw : wOk w = false ∨ tot w = 0) : splE total w = 26 ∧ splN total w = [] := by
  have e : splE total w = 26 := by rcases hw with hw | hw <;> simp [splE, h, hl, hw]
  simp [splN, e]
theorem spl_ok {total : Int} {w : List Int} (h : inR total = true) (hl : ¬ 1024 < w.length) (hw : wOk w = true) (h0 : tot w ≠ 0) : splE total w = 0 ∧ splN total w = parts total (tot w) w := by
  have e : splE total w = 0 := by simp [splE, h, hl, hw, h0]
  simp [splN, e]
theorem wOk_parts {w : List Int} (h : wOk w = true) : allR w = true ∧ tot w ≤ 1152921504606846976 := by simpa [wOk] using h

theorem parts_ref {total : Int} {w : List Int} (hw : wOk w = true) (h0 : tot w ≠ 0) (L : Nat) (hL : leftOf total (tot w) w = L) :
    (diter (-1) L (qs total (tot w) w, rs total (tot w) w)).1 = parts total (tot w) w := by
  obtain ⟨hr, _⟩ := wOk_parts hw
  have hp : 0 < tot w := by have := tot_nonneg hr; omega
  unfold parts
  rw [hL]
  refine (diter_same (all := tot w) (n := w.length) (left := L) (qs_len _ _ _) (rs_len _ _ _) ?_ hp (fun j hj => (rs_range _ _ _ hp j hj).2) L (Nat.le_refl _)).1
  rw [tot_rs _ _ _ rfl, hL]
end SM

/- Plain mathematics of Fill and Back. -/
namespace SM
open LM

/-- what is left ahead of element k -/
def rk (caps : List Int) (total : Int) : Nat → Int
  | 0 => total
  | k + 1 => rk caps total k - min (caps.getD k 0) (rk caps total k)
/-- what each gets -/
def fl (caps : List Int) (total : Int) : List Int := (List.range caps.length).map fun k => min (caps.getD k 0) (rk caps total k)

theorem fl_len (caps : List Int) (total : Int) : (fl caps total).length = caps.length := by simp [fl]
theorem fl_get (caps : List Int) (total : Int) (k : Nat) (hk : k < caps.length) : (fl caps total).getD k 0 = min (caps.getD k 0) (rk caps total k) := by
  simp [fl, List.getD, hk]
theorem rk_range {caps : List Int} {total : Int} (hc : allR caps = true) (h0 : 0 ≤ total) (k : Nat) (hk : k ≤ caps.length) : 0 ≤ rk caps total k ∧ rk caps total k ≤ total := by
  induction k with
  | zero => exact ⟨h0, Int.le_refl _⟩
  | succ k ih =>
    obtain ⟨a, b⟩ := ih (by omega)
    have c := allR_get hc (show k < caps.length by omega)
    simp only [rk]
    omega
theorem rk_sum (caps : List Int) (total : Int) (k : Nat) (hk : k ≤ caps.length) : rk caps total k = total - tot ((fl caps total).take k) := by
  induction k with
  | zero => simp [rk, tot]
  | succ k ih =>
    rw [tot_take_succ _ _ (by rw [fl_len]; omega), fl_get _ _ _ (by omega)]
    have := ih (by omega)
    simp only [rk]; omega

theorem min_ite (x r : Int) : min x r = if r < x then r else x := by split <;> omega
theorem min_ite' (x r : Int) : min x r = if x < r then x else r := by split <;> omega
theorem min_cases (a b : Int) : (a ≤ b ∧ min a b = a) ∨ (b ≤ a ∧ min a b = b) := by omega

/-- the last k of a list behind noughts -/
def suf (l : List Int) (k : Nat) : List Int := List.replicate (l.length - k) 0 ++ l.drop (l.length - k)
theorem suf_len (l : List Int) (k : Nat) : (suf l k).length = l.length := by simp [suf]
theorem suf_zero (l : List Int) : suf l 0 = List.replicate l.length 0 := by simp [suf]
theorem suf_full (l : List Int) : suf l l.length = l := by simp [suf]
theorem suf_set (l : List Int) (k : Nat) (hk : k < l.length) : (suf l k).set (l.length - (k + 1)) (l.getD (l.length - (k + 1)) 0) = suf l (k + 1) := by
  unfold suf
  have h : l.length - (k + 1) < l.length := by omega
  have e : l.length - k = (l.length - (k + 1)) + 1 := by omega
  have e2 : l.drop (l.length - (k + 1)) = l.getD (l.length - (k + 1)) 0 :: l.drop (l.length - k) := by
    rw [List.drop_eq_getElem_cons h, getD_at _ _ h, e]
  rw [e2, e, List.replicate_succ', List.append_assoc, List.set_append_right _ _ (by simp)]
  simp

/-- what comes back, from the end on -/
def bk (paid : List Int) (total : Int) : List Int := (fl paid.reverse total).reverse
theorem bk_len (paid : List Int) (total : Int) : (bk paid total).length = paid.length := by simp [bk, fl_len]
theorem rev_get (l : List Int) (k : Nat) (hk : k < l.length) : l.reverse.getD k 0 = l.getD (l.length - (k + 1)) 0 := by
  have h : l.length - (k + 1) < l.length := by omega
  rw [getD_at _ _ (by simpa using hk), getD_at _ _ h, List.getElem_reverse]
  congr 1
  omega
theorem bk_get (paid : List Int) (total : Int) (k : Nat) (hk : k < paid.length) :
    (bk paid total).getD (paid.length - (k + 1)) 0 = min (paid.getD (paid.length - (k + 1)) 0) (rk paid.reverse total k) := by
  have h1 := rev_get (bk paid total) k (by rw [bk_len]; exact hk)
  rw [bk_len] at h1
  rw [← h1]
  unfold bk
  rw [List.reverse_reverse, fl_get _ _ _ (by simpa using hk), rev_get _ _ hk]

/-- the error of Fill and Back -/
def rowE (total : Int) (l : List Int) : Int := if inR total && allR l then (if 1024 < l.length then 8 else 0) else 2
def fillN (total : Int) (l : List Int) : List Int := if rowE total l = 0 then fl l total else []
def fillR (total : Int) (l : List Int) : Int := if rowE total l = 0 then rk l total l.length else 0
def backN (total : Int) (l : List Int) : List Int := if rowE total l = 0 then bk l total else []
def backR (total : Int) (l : List Int) : Int := if rowE total l = 0 then rk l.reverse total l.length else 0

theorem rowE_ok {total : Int} {l : List Int} (h : rowE total l = 0) : inR total = true ∧ allR l = true ∧ l.length ≤ 1024 := by
  unfold rowE at h
  split at h
  · rename_i h1
    simp at h1
    split at h
    · omega
    · exact ⟨h1.1, h1.2, by omega⟩
  · omega
theorem allR_reverse (l : List Int) : allR l.reverse = allR l := by simp [allR]
theorem rowE_reverse (total : Int) (l : List Int) : rowE total l.reverse = rowE total l := by simp [rowE, allR_reverse]
theorem fill_no {total : Int} {l : List Int} (h : rowE total l ≠ 0) : fillN total l = [] ∧ fillR total l = 0 ∧ backN total l = [] ∧ backR total l = 0 := by simp [fillN, fillR, backN, backR, h]
theorem fill_yes {total : Int} {l : List Int} (h : rowE total l = 0) : fillN total l = fl l total ∧ fillR total l = rk l total l.length ∧ backN total l = bk l total ∧ backR total l = rk l.reverse total l.length := by simp [fillN, fillR, backN, backR, h]
theorem fill_reverse (total : Int) (l : List Int) : (fillN total l.reverse).reverse = backN total l ∧ fillR total l.reverse = backR total l := by
  unfold fillN fillR backN backR
  rw [rowE_reverse]
  by_cases h : rowE total l = 0
  · simp [h, bk]
  · simp [h]
end SM

namespace SM
open LM
/-- Signed -/
def sgnE (total : Int) (w : List Int) : Int := if 0 ≤ total then splE total w else if total < -1152921504606846976 then 2 else splE (-total) w
def sgnN (total : Int) (w : List Int) : List Int := if 0 ≤ total then splN total w else if total < -1152921504606846976 then [] else (splN (-total) w).map fun x => -x

/-- the first k turned round -/
def negK (l : List Int) (k : Nat) : List Int := (l.take k).map (fun x => -x) ++ l.drop k
theorem negK_len (l : List Int) (k : Nat) : (negK l k).length = l.length := by simp [negK]; omega
theorem negK_zero (l : List Int) : negK l 0 = l := by simp [negK]
theorem negK_full (l : List Int) : negK l l.length = l.map fun x => -x := by simp [negK]
theorem negK_get (l : List Int) (k : Nat) (hk : k < l.length) : (negK l k).getD k 0 = l.getD k 0 := by
  unfold negK
  simp only [List.getD]
  rw [List.getElem?_append_right (by simp; omega)]
  simp [Nat.min_eq_left (show k ≤ l.length by omega)]
theorem negK_set (l : List Int) (k : Nat) (hk : k < l.length) : (negK l k).set k (-(l.getD k 0)) = negK l (k + 1) := by
  unfold negK
  rw [take_snoc l k hk, List.map_append, List.set_append_right _ _ (by simp; omega)]
  have e : k - ((l.take k).map fun x => -x).length = 0 := by simp [Nat.min_eq_left (show k ≤ l.length by omega)]
  rw [e, List.drop_eq_getElem_cons hk, List.set_cons_zero, List.map_cons, List.map_nil, List.append_assoc]
  rfl

theorem splN_range (total : Int) (w : List Int) : ∀ n ∈ splN total w, 0 ≤ n ∧ n ≤ 1152921504606848000 := by
  intro n hn
  unfold splN at hn
  split at hn
  · rename_i h
    unfold splE at h
    split at h
    · rename_i h1
      split at h
      · omega
      · rename_i h2
        split at h
        · rename_i h3
          simp at h3
          obtain ⟨hw, h0⟩ := h3
          obtain ⟨hr, ht⟩ := wOk_parts hw
          have hp : 0 < tot w := by have := tot_nonneg hr; omega
          obtain ⟨t0, t1⟩ := inR_true.1 h1
          obtain ⟨k, hk, rfl⟩ := List.getElem_of_mem hn
          have hk' : k < w.length := by rw [parts_len] at hk; exact hk
          rw [← getD_at _ _ hk]
          unfold parts
          obtain ⟨b1, b2⟩ := diter_bound 0 (leftOf total (tot w) w).toNat (qs total (tot w) w, rs total (tot w) w) (by simp only [qs_len, rs_len]) k
          have q0 := qs_nonneg t0 hr hp k hk'
          have q1 : (qs total (tot w) w).getD k 0 ≤ total := by rw [qs_get _ _ _ _ hk']; exact pq_le t0 (elem_le hr hk') hp
          obtain ⟨f0, f1⟩ := left_range total (tot w) w rfl hp
          simp only [] at b1 b2
          omega
        · omega
    · omega
  · simp at hn
theorem splN_len (total : Int) (w : List Int) : (splN total w).length ≤ w.length := by
  unfold splN; split
  · rw [parts_len]; exact Nat.le_refl _
  · simp
theorem splN_err {total : Int} {w : List Int} (h : splE total w ≠ 0) : splN total w = [] := by simp [splN, h]
end SM

/- Plain mathematics of the parts, and of Capped. -/
namespace SM
open LM

/-! ### what the parts are -/
theorem parts_spec {total : Int} {w : List Int} (hw : wOk w = true) (h0 : tot w ≠ 0) (_t0 : 0 ≤ total) :
    ∃ P : Nat → Bool, (∀ j, j < w.length → (parts total (tot w) w).getD j 0 = pq total (w.getD j 0) (tot w) + if P j then 1 else 0) ∧
      (∀ j, j < w.length → P j = true → 0 < pr total (w.getD j 0) (tot w)) ∧
      (∀ j k, j < w.length → k < w.length → P j = true → P k = false → pr total (w.getD k 0) (tot w) < pr total (w.getD j 0) (tot w) ∨ (pr total (w.getD k 0) (tot w) = pr total (w.getD j 0) (tot w) ∧ j < k)) ∧
      tot (parts total (tot w) w) = total := by
  obtain ⟨hr, _⟩ := wOk_parts hw
  have hp : 0 < tot w := by have := tot_nonneg hr; omega
  obtain ⟨f0, f1⟩ := left_range total (tot w) w rfl hp
  obtain ⟨L, hL⟩ := Int.eq_ofNat_of_zero_le f0
  obtain ⟨P, hP⟩ := DI.iter (all := tot w) (n := w.length) (left := L) (qs_len total (tot w) w) (rs_len total (tot w) w) (by rw [tot_rs _ _ _ rfl, hL]) hp (fun j hj => (rs_range _ _ _ hp j hj).2) L (Nat.le_refl _)
  have e : parts total (tot w) w = (diter 0 L (qs total (tot w) w, rs total (tot w) w)).1 := by unfold parts; rw [hL]; rfl
  refine ⟨P, fun j hj => ?_, fun j hj h => ?_, fun j k hj hk a b => ?_, ?_⟩
  · rw [e, hP.part j hj, qs_get _ _ _ _ hj]
  · have := hP.pos j hj h; rwa [rs_get _ _ _ _ hj] at this
  · have := hP.ord j k hj hk a b; rwa [rs_get _ _ _ _ hj, rs_get _ _ _ _ hk] at this
  · rw [e, hP.sum]; unfold leftOf at hL; omega

theorem parts_sum {total : Int} {w : List Int} (hw : wOk w = true) (h0 : tot w ≠ 0) (t0 : 0 ≤ total) : tot (parts total (tot w) w) = total := by
  obtain ⟨_, _, _, _, h⟩ := parts_spec hw h0 t0; exact h
theorem parts_nonneg {total : Int} {w : List Int} (hw : wOk w = true) (h0 : tot w ≠ 0) (t0 : 0 ≤ total) (j : Nat) (hj : j < w.length) : 0 ≤ (parts total (tot w) w).getD j 0 := by
  obtain ⟨P, h, _⟩ := parts_spec hw h0 t0
  obtain ⟨hr, _⟩ := wOk_parts hw
  have hp : 0 < tot w := by have := tot_nonneg hr; omega
  have := pq_nonneg (total := total) t0 (allR_get hr hj).1 hp
  rw [h j hj]; split <;> omega
theorem parts_none {total : Int} {w : List Int} (hw : wOk w = true) (h0 : tot w ≠ 0) (t0 : 0 ≤ total) (j : Nat) (hj : j < w.length) (hz : w.getD j 0 = 0) : (parts total (tot w) w).getD j 0 = 0 := by
  obtain ⟨P, h, h2, _⟩ := parts_spec hw h0 t0
  rw [h j hj, hz]
  have e1 : pq total 0 (tot w) = 0 := by simp [pq]
  have e2 : pr total 0 (tot w) = 0 := by simp [pr]
  cases hc : P j
  · simp [e1]
  · have := h2 j hj hc; rw [hz, e2] at this; omega
theorem elem_le' (l : List Int) (h : ∀ j, j < l.length → 0 ≤ l.getD j 0) (k : Nat) (hk : k < l.length) : l.getD k 0 ≤ tot l := by
  have e : tot l = tot (l.take k) + (l.getD k 0 + tot (l.drop (k + 1))) := by
    have h1 : l = l.take k ++ (l.getD k 0 :: l.drop (k + 1)) := by
      rw [getD_at _ _ hk, ← List.drop_eq_getElem_cons hk, List.take_append_drop]
    have := congrArg tot h1
    rwa [tot_append, tot] at this
  have a := tot_nonneg' (l.take k) (fun j hj => by
    have hj' : j < k := by rw [List.length_take] at hj; omega
    rw [show (l.take k).getD j 0 = l.getD j 0 by simp [List.getD, hj']]
    exact h j (by omega))
  have b := tot_nonneg' (l.drop (k + 1)) (fun j hj => by
    have hj' : j < l.length - (k + 1) := by simpa using hj
    rw [show (l.drop (k + 1)).getD j 0 = l.getD (k + 1 + j) 0 by simp [List.getD]]
    exact h _ (by omega))
  omega
theorem elem_take_le (l : List Int) (k : Nat) (h : ∀ j, j < l.length → 0 ≤ l.getD j 0) : tot (l.take k) ≤ tot l := by
  have e : tot l = tot (l.take k) + tot (l.drop k) := by rw [← tot_append, List.take_append_drop]
  have b := tot_nonneg' (l.drop k) (fun j hj => by
    have hj' : j < l.length - k := by simpa using hj
    rw [show (l.drop k).getD j 0 = l.getD (k + j) 0 by simp [List.getD]]
    exact h _ (by omega))
  omega
theorem parts_le {total : Int} {w : List Int} (hw : wOk w = true) (h0 : tot w ≠ 0) (t0 : 0 ≤ total) (j : Nat) (hj : j < w.length) : (parts total (tot w) w).getD j 0 ≤ total := by
  have := elem_le' (parts total (tot w) w) (fun j hj => parts_nonneg hw h0 t0 j (by rwa [parts_len] at hj)) j (by rw [parts_len]; exact hj)
  rwa [parts_sum hw h0 t0] at this

/-! ### tables -/
def tab (n : Nat) (f : Nat → Int) : List Int := (List.range n).map f
theorem tab_len (n : Nat) (f : Nat → Int) : (tab n f).length = n := by simp [tab]
theorem tab_get (n : Nat) (f : Nat → Int) (k : Nat) (hk : k < n) : (tab n f).getD k 0 = f k := by simp [tab, List.getD, hk]
theorem tab_self (l : List Int) : tab l.length (fun i => l.getD i 0) = l := by
  apply List.ext_getElem
  · simp [tab]
  · intro i h1 h2; simp [tab, List.getD, h2]
theorem tab_congr {n : Nat} {f g : Nat → Int} (h : ∀ i, i < n → f i = g i) : tab n f = tab n g := by
  unfold tab
  exact List.map_congr_left fun i hi => h i (List.mem_range.1 hi)
theorem tab_succ (n : Nat) (f : Nat → Int) : tab (n + 1) f = tab n f ++ [f n] := by simp [tab, List.range_succ]
theorem tot_tab_succ (n : Nat) (f : Nat → Int) : tot (tab (n + 1) f) = tot (tab n f) + f n := by rw [tab_succ, tot_append]; simp [tot]
theorem tot_tab_le {n : Nat} {f g : Nat → Int} (h : ∀ i, i < n → f i ≤ g i) : tot (tab n f) ≤ tot (tab n g) := by
  induction n with
  | zero => simp [tab]
  | succ n ih =>
    rw [tot_tab_succ, tot_tab_succ]
    have := ih fun i hi => h i (by omega)
    have := h n (by omega)
    omega
theorem tot_tab_lt {n : Nat} {f g : Nat → Int} (h : ∀ i, i < n → f i ≤ g i) (k : Nat) (hk : k < n) (hs : f k < g k) : tot (tab n f) < tot (tab n g) := by
  induction n with
  | zero => omega
  | succ n ih =>
    rw [tot_tab_succ, tot_tab_succ]
    have a := h n (by omega)
    rcases Nat.lt_or_ge k n with h1 | h1
    · have := ih (fun i hi => h i (by omega)) h1; omega
    · obtain rfl : k = n := by omega
      have := tot_tab_le (n := k) (f := f) (g := g) fun i hi => h i (by omega)
      omega
theorem tot_tab_nonneg {n : Nat} {f : Nat → Int} (h : ∀ i, i < n → 0 ≤ f i) : 0 ≤ tot (tab n f) := by
  induction n with
  | zero => simp [tab, tot]
  | succ n ih =>
    rw [tot_tab_succ]
    have := ih fun i hi => h i (by omega)
    have := h n (by omega)
    omega
theorem tot_tab_sub {n : Nat} {f g : Nat → Int} : tot (tab n fun i => f i + g i) = tot (tab n f) + tot (tab n g) := by
  induction n with
  | zero => simp [tab, tot]
  | succ n ih => rw [tot_tab_succ, tot_tab_succ, tot_tab_succ, ih]; omega
theorem pre_tab_set (n : Nat) (f g : Nat → Int) (k : Nat) : (tab n fun i => if i < k then f i else g i).set k (f k) = tab n fun i => if i < k + 1 then f i else g i := by
  apply List.ext_getElem
  · simp [tab]
  · intro i h1 h2
    simp only [tab, List.getElem_set, List.getElem_map, List.getElem_range]
    by_cases e : k = i
    · subst e; simp
    · rw [if_neg e]
      by_cases h : i < k
      · simp [h, show i < k + 1 by omega]
      · simp [h, show ¬ i < k + 1 by omega]
theorem pre_tab_zero (n : Nat) (f g : Nat → Int) : (tab n fun i => if i < 0 then f i else g i) = tab n g := tab_congr fun i _ => by simp
theorem pre_tab_full (n : Nat) (f g : Nat → Int) : (tab n fun i => if i < n then f i else g i) = tab n f := tab_congr fun i hi => by simp [hi]

/-! ### Capped -/
/-- the weights that still count -/
def openOf (w caps out : List Int) : List Int := tab w.length fun i => if out.getD i 0 < caps.getD i 0 then w.getD i 0 else 0
def over (l caps : List Int) : Bool := (List.range l.length).any fun i => decide (caps.getD i 0 < l.getD i 0)
def capOut (l caps out : List Int) : List Int := tab out.length fun i => if caps.getD i 0 < l.getD i 0 then caps.getD i 0 else out.getD i 0
def capTaken (l caps : List Int) : Int := tot (tab l.length fun i => if caps.getD i 0 < l.getD i 0 then caps.getD i 0 else 0)
def addL (out l : List Int) : List Int := tab out.length fun i => out.getD i 0 + l.getD i 0

def capRun (w caps : List Int) : Nat → List Int → Int → List Int × Int
  | 0, out, left => (out, left)
  | f + 1, out, left =>
    if left ≤ 0 then (out, left) else
    if tot (openOf w caps out) = 0 then (out, left) else
    if over (parts left (tot (openOf w caps out)) (openOf w caps out)) caps then
      capRun w caps f (capOut (parts left (tot (openOf w caps out)) (openOf w caps out)) caps out) (left - capTaken (parts left (tot (openOf w caps out)) (openOf w caps out)) caps)
    else (addL out (parts left (tot (openOf w caps out)) (openOf w caps out)), 0)

/-- how many count -/
def cnt (o : List Int) : Int := tot (tab o.length fun i => if 0 < o.getD i 0 then 1 else 0)

/-- what holds between the rounds -/
structure CI (w caps : List Int) (total : Int) (out : List Int) (left : Int) : Prop where
  len : out.length = w.length
  caps' : caps.length = w.length
  vals : ∀ i, i < w.length → out.getD i 0 = 0 ∨ out.getD i 0 = caps.getD i 0
  l0 : 0 ≤ left
  sum : tot out + left = total

theorem CI.start {w caps : List Int} {total : Int} (hc : caps.length = w.length) (t0 : 0 ≤ total) : CI w caps total (List.replicate w.length 0) total := by
  refine ⟨by simp, hc, fun i hi => .inl (by simp [List.getD, hi]), t0, ?_⟩
  have : tot (List.replicate w.length 0) = 0 := by
    generalize w.length = n
    induction n with
    | zero => rfl
    | succ n ih => simp [List.replicate_succ, tot, ih]
  omega

theorem openOf_len (w caps out : List Int) : (openOf w caps out).length = w.length := tab_len _ _
theorem openOf_ok {w : List Int} (caps out : List Int) (hw : wOk w = true) : wOk (openOf w caps out) = true := by
  obtain ⟨hr, ht⟩ := wOk_parts hw
  have h1 : allR (openOf w caps out) = true := by
    refine List.all_eq_true.2 fun n hn => ?_
    obtain ⟨k, hk, rfl⟩ := List.getElem_of_mem hn
    have hk' : k < w.length := by rwa [openOf_len] at hk
    rw [← getD_at _ _ hk]
    unfold openOf
    rw [tab_get _ _ _ hk']
    obtain ⟨a, b⟩ := allR_get hr hk'
    split
    · exact inR_true.2 ⟨a, b⟩
    · exact inR_true.2 ⟨by omega, by omega⟩
  have h2 : tot (openOf w caps out) ≤ tot w := by
    conv => rhs; rw [← tab_self w]
    exact tot_tab_le fun i hi => by
      have := (allR_get hr hi).1
      split <;> omega
  unfold wOk
  simp [h1]; omega

theorem over_iff (l caps : List Int) : over l caps = true ↔ ∃ i, i < l.length ∧ caps.getD i 0 < l.getD i 0 := by
  unfold over
  rw [List.any_eq_true]
  constructor
  · rintro ⟨i, hi, h⟩; exact ⟨i, List.mem_range.1 hi, of_decide_eq_true h⟩
  · rintro ⟨i, hi, h⟩; exact ⟨i, List.mem_range.2 hi, decide_eq_true h⟩

/-- a full round -/
theorem CI.full {w caps : List Int} {total : Int} {out : List Int} {left : Int} (h : CI w caps total out left) (hw : wOk w = true) (hc : allR caps = true) (hl : 0 < left)
    (h0 : tot (openOf w caps out) ≠ 0) (hov : over (parts left (tot (openOf w caps out)) (openOf w caps out)) caps = true) :
    CI w caps total (capOut (parts left (tot (openOf w caps out)) (openOf w caps out)) caps out) (left - capTaken (parts left (tot (openOf w caps out)) (openOf w caps out)) caps) ∧
    0 < capTaken (parts left (tot (openOf w caps out)) (openOf w caps out)) caps ∧ capTaken (parts left (tot (openOf w caps out)) (openOf w caps out)) caps ≤ left ∧
    cnt (openOf w caps (capOut (parts left (tot (openOf w caps out)) (openOf w caps out)) caps out)) < cnt (openOf w caps out) ∧
    openOf w caps (capOut (parts left (tot (openOf w caps out)) (openOf w caps out)) caps out) =
      tab w.length (fun i => if caps.getD i 0 < (parts left (tot (openOf w caps out)) (openOf w caps out)).getD i 0 then 0 else (openOf w caps out).getD i 0) := by
  have ho := openOf_ok caps out hw
  have hp := fun j hj => parts_none (total := left) ho h0 (by omega) j hj
  have hn := fun j hj => parts_nonneg (total := left) ho h0 (by omega) j hj
  have hs := parts_sum (total := left) ho h0 (by omega)
  have hL : (parts left (tot (openOf w caps out)) (openOf w caps out)).length = w.length := by rw [parts_len, openOf_len]
  rw [openOf_len] at hp hn
  generalize hO : openOf w caps out = O at *
  have hOl : O.length = w.length := by rw [← hO, openOf_len]
  have hOg : ∀ i, i < w.length → O.getD i 0 = if out.getD i 0 < caps.getD i 0 then w.getD i 0 else 0 := fun i hi => by rw [← hO]; unfold openOf; rw [tab_get _ _ _ hi]
  generalize parts left (tot O) O = l at *
  obtain ⟨len, caps', vals, l0, sum⟩ := h
  have hcap : ∀ i, i < w.length → 0 ≤ caps.getD i 0 := fun i hi => (allR_get hc (by omega)).1
  -- one that is offered too much has nothing yet, and a cap above nought
  have key : ∀ i, i < w.length → caps.getD i 0 < l.getD i 0 → out.getD i 0 = 0 ∧ 0 < caps.getD i 0 ∧ 0 < O.getD i 0 := fun i hi hc1 => by
    have c0 := hcap i hi
    have hnz : O.getD i 0 ≠ 0 := fun e => by have := hp i hi e; omega
    have := hOg i hi
    have hw0 : 0 ≤ w.getD i 0 := (allR_get (wOk_parts hw).1 hi).1
    by_cases hlt : out.getD i 0 < caps.getD i 0
    · rw [if_pos hlt] at this
      rcases vals i hi with v | v
      · exact ⟨v, by omega, by omega⟩
      · omega
    · rw [if_neg hlt] at this; exact absurd this hnz
  obtain ⟨m, hm, hmo⟩ := (over_iff _ _).1 hov
  rw [hL] at hm
  have hT : capTaken l caps = tot (tab w.length fun i => if caps.getD i 0 < l.getD i 0 then caps.getD i 0 else 0) := by unfold capTaken; rw [hL]
  have hT0 : 0 < capTaken l caps := by
    rw [hT]
    have := tot_tab_lt (n := w.length) (f := fun _ => 0) (g := fun i => if caps.getD i 0 < l.getD i 0 then caps.getD i 0 else 0) (fun i hi => by
      have := hcap i hi; split <;> omega) m hm (by simp only [if_pos hmo]; exact (key m hm hmo).2.1)
    have h2 := tot_tab_nonneg (n := w.length) (f := fun _ => 0) (fun i _ => Int.le_refl _)
    omega
  have hT1 : capTaken l caps ≤ left := by
    rw [hT, ← hs]
    conv => rhs; rw [← tab_self l, hL]
    refine tot_tab_le fun i hi => ?_
    have := hn i hi
    split <;> omega
  have hoo : (capOut l caps out).length = w.length := by unfold capOut; rw [tab_len, len]
  have hog : ∀ i, i < w.length → (capOut l caps out).getD i 0 = if caps.getD i 0 < l.getD i 0 then caps.getD i 0 else out.getD i 0 := fun i hi => by
    unfold capOut; rw [tab_get _ _ _ (by omega)]
  have hnew : openOf w caps (capOut l caps out) = tab w.length (fun i => if caps.getD i 0 < l.getD i 0 then 0 else O.getD i 0) := by
    unfold openOf
    refine tab_congr fun i hi => ?_
    rw [hog i hi, hOg i hi]
    by_cases e : caps.getD i 0 < l.getD i 0
    · simp only [e, if_true]; rw [if_neg (by omega)]
    · simp only [e, if_false]
  refine ⟨⟨hoo, caps', fun i hi => ?_, by omega, ?_⟩, hT0, hT1, ?_, hnew⟩
  · rw [hog i hi]; split
    · exact .inr rfl
    · exact vals i hi
  · have e : tot (capOut l caps out) = tot out + capTaken l caps := by
      rw [hT]
      unfold capOut
      rw [len]
      conv => rhs; rw [← tab_self out, len]
      rw [← tot_tab_sub]
      congr 1
      refine tab_congr fun i hi => ?_
      by_cases e : caps.getD i 0 < l.getD i 0
      · simp only [e, if_true]; have := (key i hi e).1; omega
      · simp only [e, if_false]; omega
    omega
  · rw [hnew]
    unfold cnt
    rw [tab_len, hOl]
    refine tot_tab_lt (fun i hi => ?_) m hm ?_
    · rw [tab_get _ _ _ hi]
      split <;> split <;> (try split) <;> (try split at *) <;> omega
    · rw [tab_get _ _ _ hm, if_pos hmo, if_pos (key m hm hmo).2.2]; simp

/-! where no offer is too great -/
theorem not_over {l caps : List Int} (h : over l caps = false) (i : Nat) (hi : i < l.length) : ¬ caps.getD i 0 < l.getD i 0 := fun hc => by
  have := (over_iff l caps).2 ⟨i, hi, hc⟩; rw [h] at this; cases this
theorem taken_none {l caps : List Int} (h : over l caps = false) : capTaken l caps = 0 := by
  unfold capTaken
  have : (tab l.length fun i => if caps.getD i 0 < l.getD i 0 then caps.getD i 0 else 0) = tab l.length fun _ => 0 := tab_congr fun i hi => if_neg (not_over h i hi)
  rw [this]
  generalize l.length = n
  induction n with
  | zero => rfl
  | succ n ih => rw [tot_tab_succ, ih]; rfl
theorem out_none {l caps out : List Int} (h : over l caps = false) (hl : l.length = out.length) : capOut l caps out = out := by
  unfold capOut
  conv => rhs; rw [← tab_self out]
  exact tab_congr fun i hi => if_neg (not_over h i (by omega))

theorem capRun_done (w caps : List Int) (f : Nat) (out : List Int) (left : Int) (h : left ≤ 0) : capRun w caps f out left = (out, left) := by
  cases f with
  | zero => rfl
  | succ f => simp [capRun, h]
theorem capRun_shut (w caps : List Int) (f : Nat) (out : List Int) (left : Int) (h : tot (openOf w caps out) = 0) : capRun w caps f out left = (out, left) := by
  cases f with
  | zero => rfl
  | succ f => simp [capRun, h]
theorem capRun_over (w caps : List Int) (f : Nat) (out : List Int) (left : Int) (hl : 0 < left) (h0 : tot (openOf w caps out) ≠ 0) (h : over (parts left (tot (openOf w caps out)) (openOf w caps out)) caps = true) :
    capRun w caps (f + 1) out left = capRun w caps f (capOut (parts left (tot (openOf w caps out)) (openOf w caps out)) caps out) (left - capTaken (parts left (tot (openOf w caps out)) (openOf w caps out)) caps) := by
  rw [capRun, if_neg (by omega), if_neg h0, if_pos h]
theorem capRun_last (w caps : List Int) (f : Nat) (out : List Int) (left : Int) (hl : 0 < left) (h0 : tot (openOf w caps out) ≠ 0) (h : over (parts left (tot (openOf w caps out)) (openOf w caps out)) caps = false) :
    capRun w caps (f + 1) out left = (addL out (parts left (tot (openOf w caps out)) (openOf w caps out)), 0) := by
  rw [capRun, if_neg (by omega), if_neg h0, if_neg (by rw [h]; simp)]
theorem cnt_range (o : List Int) : 0 ≤ cnt o ∧ cnt o ≤ o.length := by
  unfold cnt
  generalize hn : o.length = n
  clear hn
  induction n with
  | zero => simp [tab, tot]
  | succ n ih => rw [tot_tab_succ]; push_cast; split <;> omega

/-- Capped's error -/
def capE (total : Int) (w caps : List Int) : Int :=
  if inR total then (if sE w = 0 then (if caps.length = w.length ∧ allR caps = true then 0 else 2) else sE w) else 2
def capN (total : Int) (w caps : List Int) : List Int := if capE total w caps = 0 then (capRun w caps (w.length + 1) (List.replicate w.length 0) total).1 else []
def capR (total : Int) (w caps : List Int) : Int := if capE total w caps = 0 then (capRun w caps (w.length + 1) (List.replicate w.length 0) total).2 else 0
theorem cap_no {total : Int} {w caps : List Int} (h : capE total w caps ≠ 0) : capN total w caps = [] ∧ capR total w caps = 0 := by simp [capN, capR, h]
theorem cap_yes {total : Int} {w caps : List Int} (h : capE total w caps = 0) : capN total w caps = (capRun w caps (w.length + 1) (List.replicate w.length 0) total).1 ∧ capR total w caps = (capRun w caps (w.length + 1) (List.replicate w.length 0) total).2 := by simp [capN, capR, h]
theorem capE_ok {total : Int} {w caps : List Int} (h : capE total w caps = 0) : inR total = true ∧ w.length ≤ 1024 ∧ wOk w = true ∧ caps.length = w.length ∧ allR caps = true := by
  unfold capE at h
  split at h
  · rename_i h1
    split at h
    · rename_i h2
      split at h
      · rename_i h3
        refine ⟨h1, ?_, ?_, h3.1, h3.2⟩
        · unfold sE at h2; split at h2 <;> omega
        · unfold sE wE at h2
          split at h2
          · omega
          · split at h2
            · assumption
            · omega
      · omega
    · rename_i h2; exact absurd h h2
  · omega
theorem sN_ok {w : List Int} (h : wOk w = true) (hl : w.length ≤ 1024) : sN w = tot w ∧ sE w = 0 := by
  have : ¬ 1024 < w.length := by omega
  simp [sN, sE, this, w_yes h]
end SM

/- Layer 14's mathematics: what all pay by one price. -/
namespace GM
open LM
theorem share_bound {a Q P B : Int} (h0 : 0 ≤ a) (h1 : a ≤ Q) (hB : -B ≤ Q * P ∧ Q * P ≤ B) : -B ≤ a * P ∧ a * P ≤ B := by
  rcases Int.lt_or_le P 0 with g | g
  · have e1 : Q * P ≤ a * P := Int.mul_le_mul_of_nonpos_right h1 (by omega)
    have e2 : a * P ≤ 0 * P := Int.mul_le_mul_of_nonpos_right h0 (by omega)
    omega
  · have e1 : a * P ≤ Q * P := Int.mul_le_mul_of_nonneg_right h1 g
    have e2 : 0 * P ≤ a * P := Int.mul_le_mul_of_nonneg_right h0 g
    omega
def paidAt (p : List Part) (rs : List Int) (P : Int) (k : Nat) : Int := psum (p.take k) * P + tot (rs.take k)
theorem paid_succ {p : List Part} {rs : List Int} {P : Int} {k : Nat} (h : k < p.length) (hr : rs.length = p.length) : paidAt p rs P (k + 1) = paidAt p rs P k + ((pAt p k).qty * P + rs.getD k 0) := by
  unfold paidAt
  rw [psum_succ h, tot_take_succ rs k (by omega), Int.add_mul]
  omega
structure Pays (l : List TM.Trd) (tick : Int) (p : List Part) (rs : List Int) : Prop where
  len : rs.length = p.length
  all : ∀ k, k < p.length → 0 ≤ rs.getD k 0 ∧ rs.getD k 0 ≤ 18014398509481984
  sum : tot rs = avgR l tick
  part : ∀ k, k ≤ p.length → 0 ≤ tot (rs.take k) ∧ tot (rs.take k) ≤ 18014398509481984
  one : ∀ k, k < p.length → -36028797018963968 ≤ (pAt p k).qty * avgP l tick ∧ (pAt p k).qty * avgP l tick ≤ 36028797018963968
  pays : ∀ k, k ≤ p.length → -36028797018963968 ≤ paidAt p rs (avgP l tick) k ∧ paidAt p rs (avgP l tick) k ≤ 72057594037927936
  done : paidAt p rs (avgP l tick) p.length = cost l
theorem parts_inv {all : Int} {p : List Part} (h : partsE all p = 0) : (1 ≤ p.length ∧ p.length ≤ 1024) ∧ (∀ x ∈ p, 1 ≤ x.qty ∧ x.qty ≤ 1048576) ∧ psum p = all := by
  have hz := or_zero h
  have h1 := hz (countE p.length) (by simp)
  have h2 := hz (sizesE p) (by simp)
  have h3 := hz (sumE all p) (by simp)
  refine ⟨?_, sizes_inv h2, ?_⟩
  · unfold countE at h1
    split at h1
    · assumption
    · cases h1
  · unfold sumE at h3
    split at h3
    · assumption
    · cases h3
theorem qtys_ok {p : List Part} (h : ∀ x ∈ p, 1 ≤ x.qty ∧ x.qty ≤ 1048576) : SM.allR (p.map (·.qty)) = true := by
  refine List.all_eq_true.2 fun n hn => ?_
  obtain ⟨x, hx, rfl⟩ := List.mem_map.1 hn
  have := h x hx
  exact SM.inR_true.2 ⟨by omega, by omega⟩
theorem even_pays {l : List TM.Trd} {tick : Int} {p : List Part} (hp : Pooled l tick) (hd : partsE (lots l) p = 0) (hc : -18014398509481984 ≤ cost l ∧ cost l ≤ 18014398509481984) :
    Pays l tick p (SM.splN (avgR l tick) (p.map (·.qty))) := by
  obtain ⟨⟨n1, n2⟩, hq, hs⟩ := parts_inv hd
  obtain ⟨⟨q1, q2⟩, ⟨s1, s2⟩, _, _, ⟨m1, m2⟩, r1, r2⟩ := avg_bounds hp hc
  have hpb := psum_bound hq
  have htot : tot (p.map (·.qty)) = lots l := hs
  have hw : SM.wOk (p.map (·.qty)) = true := by unfold SM.wOk; rw [qtys_ok hq, htot]; simp; omega
  have h0 : tot (p.map (·.qty)) ≠ 0 := by rw [htot]; omega
  have hin : SM.inR (avgR l tick) = true := SM.inR_true.2 ⟨r1, by omega⟩
  obtain ⟨_, e2⟩ := SM.spl_ok hin (by rw [List.length_map]; omega) hw h0
  rw [e2]
  have hlen : (SM.parts (avgR l tick) (tot (p.map (·.qty))) (p.map (·.qty))).length = p.length := by rw [SM.parts_len, List.length_map]
  have hsum := SM.parts_sum hw h0 r1
  have hnn := SM.parts_nonneg hw h0 r1
  have hle := SM.parts_le hw h0 r1
  rw [List.length_map] at hnn hle
  generalize SM.parts (avgR l tick) (tot (p.map (·.qty))) (p.map (·.qty)) = rs at *
  have hall : ∀ k, k < p.length → 0 ≤ rs.getD k 0 ∧ rs.getD k 0 ≤ 18014398509481984 := fun k hk => by
    have := hnn k hk
    have := hle k hk
    omega
  have har : SM.allR rs = true := List.all_eq_true.2 fun n hn => by
    obtain ⟨k, hk, rfl⟩ := List.getElem_of_mem hn
    have := hall k (by omega)
    rw [List.getD_eq_getElem?_getD, List.getElem?_eq_getElem hk] at this
    simp at this
    exact SM.inR_true.2 ⟨this.1, by omega⟩
  have hpart : ∀ k, k ≤ p.length → 0 ≤ tot (rs.take k) ∧ tot (rs.take k) ≤ 18014398509481984 := fun k _ => by
    have a := SM.tot_take_le har k
    have b : 0 ≤ tot (rs.take k) := SM.tot_nonneg (SM.allR_take har k)
    omega
  have hps : ∀ k, k ≤ p.length → 0 ≤ psum (p.take k) ∧ psum (p.take k) ≤ lots l := fun k _ => by
    have a := SM.tot_take_le (qtys_ok hq) k
    have b := SM.tot_nonneg (SM.allR_take (qtys_ok hq) k)
    rw [← List.map_take] at a b
    rw [htot] at a
    exact ⟨b, a⟩
  refine ⟨hlen, hall, hsum, hpart, fun k hk => ?_, fun k hk => ?_, ?_⟩
  · have hx := hq _ (List.getElem_mem hk)
    rw [← pAt_get hk] at hx
    have h2 := hps (k + 1) (by omega)
    rw [psum_succ hk] at h2
    have h3 := hps k (by omega)
    exact share_bound (by omega) (by omega) ⟨m1, m2⟩
  · have h3 := hps k hk
    have h4 := share_bound h3.1 h3.2 ⟨m1, m2⟩
    have h5 := hpart k hk
    unfold paidAt
    omega
  · unfold paidAt
    rw [List.take_length, ← hlen, List.take_length, hs, hsum]
    unfold avgR
    omega
theorem mod_price (l : List TM.Trd) (tick : Int) : (avgP l tick).tmod tick = 0 := Int.mul_tmod_left _ _
end GM

/- The mathematics of one price for several accounts, in money. -/
namespace GM
open LM
set_option linter.unusedVariables false
theorem cost_bounds {l : List TM.Trd} (h : ∀ t ∈ l, (1 ≤ t.qty ∧ t.qty ≤ 1048576) ∧ -16777216 ≤ t.price ∧ t.price ≤ 16777216) : -16777216 * lots l ≤ cost l ∧ cost l ≤ 16777216 * lots l := by
  induction l with
  | nil => simp [lots, cost, LM.tot]
  | cons t l ih =>
    obtain ⟨⟨h1, h2⟩, h3, h4⟩ := h t (by simp)
    have ih := ih fun y hy => h y (by simp [hy])
    have e : lots (t :: l) = t.qty + lots l := by simp [lots, LM.tot]
    have e2 : cost (t :: l) = t.price * t.qty + cost l := by simp [cost, LM.tot]
    have a1 : t.price * t.qty ≤ 16777216 * t.qty := Int.mul_le_mul_of_nonneg_right h4 (by omega)
    have a2 : -16777216 * t.qty ≤ t.price * t.qty := Int.mul_le_mul_of_nonneg_right h3 (by omega)
    rw [e, e2, Int.mul_add, Int.mul_add]
    omega
theorem avg_range {l : List TM.Trd} {tick : Int} (h : Pooled l tick) (hc : -18014398509481984 ≤ cost l ∧ cost l ≤ 18014398509481984) : -33554432 ≤ avgP l tick ∧ avgP l tick ≤ 33554432 := by
  obtain ⟨⟨q1, q2⟩, _, _, _, _, r1, r2⟩ := avg_bounds h hc
  obtain ⟨c1, c2⟩ := cost_bounds h.each
  have ht := h.tk
  unfold avgR at r1 r2
  generalize avgP l tick = p at *
  generalize lots l = q at *
  constructor
  · apply Classical.byContradiction
    intro hn
    have hk : p + tick ≤ -16777217 := by omega
    have e : q * (p + tick) ≤ q * -16777217 := Int.mul_le_mul_of_nonneg_left hk (by omega)
    rw [Int.mul_add] at e
    omega
  · apply Classical.byContradiction
    intro hn
    have e : q * 33554433 ≤ q * p := Int.mul_le_mul_of_nonneg_left (by omega) (by omega)
    omega
def costL (l : List TM.Trd) (m : Int) : List Int := l.map fun t => t.price * m * t.qty
theorem tot_costL (l : List TM.Trd) (m : Int) : tot (costL l m) = cost l * m := by
  induction l with
  | nil => simp [costL, cost, LM.tot]
  | cons t l ih =>
    have e1 : tot (costL (t :: l) m) = t.price * m * t.qty + tot (costL l m) := by simp [costL, LM.tot]
    have e2 : cost (t :: l) = t.price * t.qty + cost l := by simp [cost, LM.tot]
    rw [e1, e2, ih, Int.add_mul]
    congr 1
    ac_rfl
theorem mul3_in {x m q : Int} (hx : -33554432 ≤ x ∧ x ≤ 33554432) (hm : 1 ≤ m ∧ m ≤ 4096) (hq : 0 ≤ q ∧ q ≤ 1048576) : -144115188075855872 ≤ x * m * q ∧ x * m * q ≤ 144115188075855872 := by
  have a1 : x * m ≤ 33554432 * m := Int.mul_le_mul_of_nonneg_right hx.2 (by omega)
  have a2 : -33554432 * m ≤ x * m := Int.mul_le_mul_of_nonneg_right hx.1 (by omega)
  have b : -137438953472 ≤ x * m ∧ x * m ≤ 137438953472 := by omega
  have a3 : x * m * q ≤ 137438953472 * q := Int.mul_le_mul_of_nonneg_right b.2 hq.1
  have a4 : -137438953472 * q ≤ x * m * q := Int.mul_le_mul_of_nonneg_right b.1 hq.1
  omega
theorem mul3_fits {x m q : Int} (hx : -33554432 ≤ x ∧ x ≤ 33554432) (hm : 1 ≤ m ∧ m ≤ 4096) (hq : 0 ≤ q ∧ q ≤ 1048576) : CM.fits (x * m * q) = true := by
  have := mul3_in hx hm hq
  exact CM.fits_true.2 (by omega)
theorem fit_costL {l : List TM.Trd} {m : Int} (h : ∀ t ∈ l, (1 ≤ t.qty ∧ t.qty ≤ 1048576) ∧ -16777216 ≤ t.price ∧ t.price ≤ 16777216) (hm : 1 ≤ m ∧ m ≤ 4096) : CM.allFit (costL l m) = true := by
  unfold CM.allFit costL
  rw [List.all_map, List.all_eq_true]
  intro t ht
  obtain ⟨h1, h2⟩ := h t ht
  exact mul3_fits (by omega) hm (by omega)
theorem costL_succ {l : List TM.Trd} {m : Int} {k : Nat} (h : k < l.length) : costL (l.take (k + 1)) m = costL (l.take k) m ++ [(TM.tAt l k).price * m * (TM.tAt l k).qty] := by
  unfold costL
  rw [List.take_succ_eq_append_getElem h, List.map_append]
  simp [TM.tAt, List.getD, h]
def paidL (p : List Part) (rs : List Int) (P m : Int) : Nat → List Int
  | 0 => []
  | k + 1 => paidL p rs P m k ++ [P * m * (pAt p k).qty, rs.getD k 0 * m]
theorem paidL_len (p : List Part) (rs : List Int) (P m : Int) (k : Nat) : (paidL p rs P m k).length = 2 * k := by
  induction k with
  | zero => rfl
  | succ k ih => rw [paidL, List.length_append, ih]; simp; omega
theorem tot_paidL {p : List Part} {rs : List Int} (P m : Int) (hr : rs.length = p.length) : ∀ k, k ≤ p.length → tot (paidL p rs P m k) = paidAt p rs P k * m := by
  intro k
  induction k with
  | zero => intro _; simp [paidL, paidAt, psum, LM.tot]
  | succ k ih =>
    intro hk
    rw [paidL, tot_append, ih (by omega), paid_succ (by omega) hr, Int.add_mul, Int.add_mul]
    have e : tot [P * m * (pAt p k).qty, rs.getD k 0 * m] = P * m * (pAt p k).qty + rs.getD k 0 * m := by simp [LM.tot]
    rw [e]
    congr 2
    ac_rfl
theorem sums_same {a b : List Int} (h1 : CM.allFit a = true) (h2 : CM.allFit b = true) (h : tot a = tot b) : CM.sumN a = CM.sumN b ∧ CM.sumE a = CM.sumE b := by
  unfold CM.sumN CM.sumE
  rw [h1, h2, h]
  exact ⟨rfl, rfl⟩
end GM
