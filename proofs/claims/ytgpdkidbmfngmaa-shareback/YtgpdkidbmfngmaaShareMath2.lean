/- The largest remainders, one cent each. -/
import Derived.Test.YtgpdkidbmfngmaaShareMath
namespace SM
open LM

/-- the place of the greatest among the first k, the first of equals -/
def amaxK (r : List Int) : Nat → Nat
  | 0 => 0
  | k + 1 => if r.getD (amaxK r k) 0 < r.getD k 0 then k else amaxK r k
def amax (r : List Int) : Nat := amaxK r r.length

theorem amaxK_lt (r : List Int) (k : Nat) (hk : 0 < k) : amaxK r k < k := by
  induction k with
  | zero => omega
  | succ k ih =>
    simp only [amaxK]
    split
    · omega
    · rcases Nat.eq_zero_or_pos k with h | h
      · subst h; simp [amaxK]
      · have := ih h; omega
theorem amax_lt (r : List Int) (h : 0 < r.length) : amax r < r.length := amaxK_lt r _ h
theorem amaxK_le (r : List Int) (k : Nat) : ∀ j, j < k → r.getD j 0 ≤ r.getD (amaxK r k) 0 := by
  induction k with
  | zero => intro j hj; omega
  | succ k ih =>
    intro j hj
    simp only [amaxK]
    split
    · rcases Nat.lt_or_ge j k with h | h
      · have := ih j h; omega
      · obtain rfl : j = k := by omega
        omega
    · rcases Nat.lt_or_ge j k with h | h
      · exact ih j h
      · obtain rfl : j = k := by omega
        omega
theorem amaxK_first (r : List Int) (k : Nat) : ∀ j, j < amaxK r k → r.getD j 0 < r.getD (amaxK r k) 0 := by
  induction k with
  | zero => intro j hj; simp [amaxK] at hj
  | succ k ih =>
    intro j hj
    simp only [amaxK] at hj ⊢
    split at hj
    · rename_i hc
      rw [if_pos hc]
      have := amaxK_le r k j hj
      omega
    · rename_i hc
      rw [if_neg hc]
      exact ih j hj

/-- one of the list is the first greatest: the only one such -/
theorem amax_unique (r : List Int) (i : Nat) (hi : i < r.length) (h1 : ∀ j, j < r.length → r.getD j 0 ≤ r.getD i 0) (h2 : ∀ j, j < i → r.getD j 0 < r.getD i 0) : amax r = i := by
  have a1 := amaxK_le r r.length
  have a2 := amaxK_first r r.length
  have a3 := amax_lt r (by omega)
  unfold amax at *
  rcases Nat.lt_trichotomy (amaxK r r.length) i with h | h | h
  · have := h2 _ h
    have := a1 i hi
    omega
  · exact h
  · have := a2 _ h
    have := h1 _ a3
    omega

def inc (p : List Int) (i : Nat) : List Int := p.set i (p.getD i 0 + 1)
def dstep (c : Int) (s : List Int × List Int) : List Int × List Int := (inc s.1 (amax s.2), s.2.set (amax s.2) c)
def diter (c : Int) : Nat → List Int × List Int → List Int × List Int
  | 0, s => s
  | t + 1, s => dstep c (diter c t s)

theorem diter_len (c : Int) (t : Nat) (s : List Int × List Int) : (diter c t s).1.length = s.1.length ∧ (diter c t s).2.length = s.2.length := by
  induction t with
  | zero => exact ⟨rfl, rfl⟩
  | succ t ih => simp [diter, dstep, inc, ih.1, ih.2]

theorem getD_set (l : List Int) (i j : Nat) (x : Int) (hi : i < l.length) : (l.set i x).getD j 0 = if i = j then x else l.getD j 0 := by
  simp only [List.getD, List.getElem?_set]
  by_cases h : i = j
  · subst h; simp [hi]
  · simp [h]

theorem tot_set (l : List Int) (i : Nat) (x : Int) (hi : i < l.length) : tot (l.set i x) = tot l - l.getD i 0 + x := by
  induction l generalizing i with
  | nil => simp at hi
  | cons y l ih =>
    cases i with
    | zero => simp [tot]; omega
    | succ i =>
      have := ih i (by simpa using hi)
      simp only [List.set_cons_succ, tot, this]
      simp [List.getD]; omega

theorem exists_pos (l : List Int) (h : 0 < tot l) : ∃ j, j < l.length ∧ 0 < l.getD j 0 := by
  induction l with
  | nil => simp [tot] at h
  | cons x l ih =>
    simp only [tot] at h
    by_cases hx : 0 < x
    · exact ⟨0, by simp, by simpa using hx⟩
    · obtain ⟨j, hj, hp⟩ := ih (by omega)
      exact ⟨j + 1, by simp; omega, by simpa [List.getD] using hp⟩

/-- what holds of the program's rounds: P says who got a cent -/
structure DI (all : Int) (n left : Nat) (q r : List Int) (t : Nat) (s : List Int × List Int) (P : Nat → Bool) : Prop where
  l1 : s.1.length = n
  l2 : s.2.length = n
  part : ∀ j, j < n → s.1.getD j 0 = q.getD j 0 + if P j then 1 else 0
  rem : ∀ j, j < n → s.2.getD j 0 = if P j then 0 else r.getD j 0
  pos : ∀ j, j < n → P j = true → 0 < r.getD j 0
  ord : ∀ j k, j < n → k < n → P j = true → P k = false → r.getD k 0 < r.getD j 0 ∨ (r.getD k 0 = r.getD j 0 ∧ j < k)
  sum : tot s.1 = tot q + t
  room : all * ((left : Int) - t) ≤ tot s.2

theorem DI.start {all : Int} {n left : Nat} {q r : List Int} (hq : q.length = n) (hr : r.length = n) (hs : tot r = all * left) : DI all n left q r 0 (q, r) (fun _ => false) :=
  ⟨hq, hr, fun j _ => by simp, fun j _ => by simp, fun j _ h => by simp at h, fun j k _ _ h => by simp at h, by simp, by simp [hs]⟩

/-- the place that is found in a round has a remainder -/
theorem DI.found {all : Int} {n left : Nat} {q r : List Int} {t : Nat} {s : List Int × List Int} {P : Nat → Bool} (h : DI all n left q r t s P) (ha : 0 < all) (ht : t < left) :
    amax s.2 < n ∧ 0 < s.2.getD (amax s.2) 0 := by
  have h1 : 0 < all * ((left : Int) - t) := Int.mul_pos ha (by omega)
  have h2 := h.room
  obtain ⟨j, hj, hp⟩ := exists_pos s.2 (by omega)
  have h3 := amax_lt s.2 (by omega)
  have h4 := amaxK_le s.2 s.2.length j hj
  have h5 := h.l2
  refine ⟨by omega, ?_⟩
  unfold amax; omega

theorem DI.step {all : Int} {n left : Nat} {q r : List Int} {t : Nat} {s : List Int × List Int} {P : Nat → Bool} (h : DI all n left q r t s P) (ha : 0 < all) (ht : t < left)
    (hr : ∀ j, j < n → r.getD j 0 < all) : DI all n left q r (t + 1) (dstep 0 s) (fun j => P j || decide (j = amax s.2)) := by
  obtain ⟨hi, hp⟩ := h.found ha ht
  generalize hI : amax s.2 = i at *
  have hPi : P i = false := by
    cases hc : P i
    · rfl
    · have := h.rem i hi; rw [hc, if_pos rfl] at this; omega
  have hri : s.2.getD i 0 = r.getD i 0 := by have := h.rem i hi; rw [hPi] at this; simpa using this
  have l1 := h.l1
  have l2 := h.l2
  refine ⟨by simp [dstep, inc, l1], by simp [dstep, l2], ?_, ?_, ?_, ?_, ?_, ?_⟩
  · intro j hj
    simp only [dstep, inc, hI]
    rw [getD_set _ _ _ _ (by omega)]
    by_cases e : i = j
    · subst e
      have := h.part i hi
      rw [hPi] at this
      simp at this
      simp [this]
    · have := h.part j hj
      rw [if_neg e, this]
      simp [show ¬ j = i from fun x => e x.symm]
  · intro j hj
    simp only [dstep, hI]
    rw [getD_set _ _ _ _ (by omega)]
    by_cases e : i = j
    · subst e; simp
    · have := h.rem j hj
      rw [if_neg e, this]
      simp [show ¬ j = i from fun x => e x.symm]
  · intro j hj hP
    by_cases e : j = i
    · subst e; omega
    · simp [e] at hP; exact h.pos j hj hP
  · intro j k hj hk hPj hPk
    simp only [Bool.or_eq_false_iff, decide_eq_false_iff_not] at hPk
    by_cases e : j = i
    · subst e
      have hrk : s.2.getD k 0 = r.getD k 0 := by have := h.rem k hk; rw [hPk.1] at this; simpa using this
      have m := amaxK_le s.2 s.2.length k (by omega)
      have f := amaxK_first s.2 s.2.length
      unfold amax at hI
      rw [hI] at m f
      rw [hrk, hri] at m
      rcases Int.lt_or_eq_of_le m with h1 | h1
      · exact .inl h1
      · refine .inr ⟨h1, ?_⟩
        rcases Nat.lt_trichotomy j k with h2 | h2 | h2
        · exact h2
        · exact absurd h2.symm hPk.2
        · have := f k h2; omega
    · simp [e] at hPj
      exact h.ord j k hj hk hPj hPk.1
  · simp only [dstep, inc, hI]
    rw [tot_set _ _ _ (by omega)]
    have := h.sum
    push_cast; omega
  · simp only [dstep, hI]
    rw [tot_set _ _ _ (by omega)]
    have h1 := h.room
    have h2 := hr i hi
    have h3 : all * ((left : Int) - ((t + 1 : Nat) : Int)) = all * ((left : Int) - t) - all := by
      rw [show (left : Int) - ((t + 1 : Nat) : Int) = ((left : Int) - t) - 1 by push_cast; omega, Int.mul_sub, Int.mul_one]
    rw [h3]; omega

theorem DI.iter {all : Int} {n left : Nat} {q r : List Int} (hq : q.length = n) (hr : r.length = n) (hs : tot r = all * left) (ha : 0 < all)
    (hlt : ∀ j, j < n → r.getD j 0 < all) : ∀ t, t ≤ left → ∃ P, DI all n left q r t (diter 0 t (q, r)) P
  | 0, _ => ⟨_, DI.start hq hr hs⟩
  | t + 1, ht => by
    obtain ⟨P, hP⟩ := DI.iter hq hr hs ha hlt t (by omega)
    exact ⟨_, hP.step ha (by omega) hlt⟩

/-- the reference's rounds give the same parts: what it marks by -1 the program marks by 0 -/
theorem diter_same {all : Int} {n left : Nat} {q r : List Int} (hq : q.length = n) (hr : r.length = n) (hs : tot r = all * left) (ha : 0 < all)
    (hlt : ∀ j, j < n → r.getD j 0 < all) : ∀ t, t ≤ left →
    (diter (-1) t (q, r)).1 = (diter 0 t (q, r)).1 ∧ ∀ j, j < n → (diter (-1) t (q, r)).2.getD j 0 = (diter 0 t (q, r)).2.getD j 0 ∨ ((diter (-1) t (q, r)).2.getD j 0 = -1 ∧ (diter 0 t (q, r)).2.getD j 0 = 0)
  | 0, _ => ⟨rfl, fun _ _ => .inl rfl⟩
  | t + 1, ht => by
    obtain ⟨i1, i2⟩ := diter_same hq hr hs ha hlt t (by omega)
    obtain ⟨P, hP⟩ := DI.iter hq hr hs ha hlt t (by omega)
    obtain ⟨f1, f2⟩ := hP.found ha (by omega)
    have n1 : (diter (-1) t (q, r)).2.length = n := by rw [(diter_len _ _ _).2]; exact hr
    have n2 : (diter 0 t (q, r)).2.length = n := by rw [(diter_len _ _ _).2]; exact hr
    have e : amax (diter (-1) t (q, r)).2 = amax (diter 0 t (q, r)).2 := by
      have m := amaxK_le (diter 0 t (q, r)).2 (diter 0 t (q, r)).2.length
      have f := amaxK_first (diter 0 t (q, r)).2 (diter 0 t (q, r)).2.length
      have same : (diter (-1) t (q, r)).2.getD (amax (diter 0 t (q, r)).2) 0 = (diter 0 t (q, r)).2.getD (amax (diter 0 t (q, r)).2) 0 := by
        rcases i2 _ f1 with h | h
        · exact h
        · omega
      refine amax_unique _ _ (by omega) ?_ ?_
      · intro j hj
        rw [same]
        have := m j (by omega)
        unfold amax at *
        rcases i2 j (by omega) with h | h <;> omega
      · intro j hj
        rw [same]
        have := f j hj
        unfold amax at *
        rcases i2 j (by omega) with h | h <;> omega
    refine ⟨?_, fun j hj => ?_⟩
    · simp only [diter, dstep, e, i1]
    · simp only [diter, dstep, e]
      rw [getD_set _ _ _ _ (by omega), getD_set _ _ _ _ (by omega)]
      by_cases c : amax (diter 0 t (q, r)).2 = j
      · simp [c]
      · simp only [c, if_false]; exact i2 j hj

/-! what Split makes of a total and weights -/
def qs (total all : Int) (w : List Int) : List Int := w.map fun x => pq total x all
def rs (total all : Int) (w : List Int) : List Int := w.map fun x => pr total x all
def leftOf (total all : Int) (w : List Int) : Int := total - tot (qs total all w)
def parts (total all : Int) (w : List Int) : List Int := (diter 0 (leftOf total all w).toNat (qs total all w, rs total all w)).1
theorem parts_len (total all : Int) (w : List Int) : (parts total all w).length = w.length := by
  unfold parts; rw [(diter_len _ _ _).1]; simp [qs]
theorem qs_len (total all : Int) (w : List Int) : (qs total all w).length = w.length := by simp [qs]
theorem rs_len (total all : Int) (w : List Int) : (rs total all w).length = w.length := by simp [rs]
theorem qs_get (total all : Int) (w : List Int) (k : Nat) (hk : k < w.length) : (qs total all w).getD k 0 = pq total (w.getD k 0) all := by simp [qs, List.getD, hk]
theorem rs_get (total all : Int) (w : List Int) (k : Nat) (hk : k < w.length) : (rs total all w).getD k 0 = pr total (w.getD k 0) all := by simp [rs, List.getD, hk]

/-- the first k of a list, and noughts -/
def pre (l : List Int) (k : Nat) : List Int := l.take k ++ List.replicate (l.length - k) 0
theorem pre_len (l : List Int) (k : Nat) (hk : k ≤ l.length) : (pre l k).length = l.length := by simp [pre]; omega
theorem pre_zero (l : List Int) : pre l 0 = List.replicate l.length 0 := by simp [pre]
theorem pre_full (l : List Int) : pre l l.length = l := by simp [pre]
theorem pre_set (l : List Int) (k : Nat) (hk : k < l.length) : (pre l k).set k (l.getD k 0) = pre l (k + 1) := by
  unfold pre
  rw [take_snoc l k hk, List.set_append_right _ _ (by simp; omega)]
  have e : l.length - k = (l.length - (k + 1)) + 1 := by omega
  rw [List.length_take, Nat.min_eq_left (by omega), Nat.sub_self, e, List.replicate_succ]
  simp

/-- the two divisions of one weight together are its product -/
theorem pqr (total x all : Int) : all * pq total x all + pr total x all = total * x := Int.mul_ediv_add_emod _ _
theorem tot_qr (total all : Int) (w : List Int) : all * tot (qs total all w) + tot (rs total all w) = total * tot w := by
  induction w with
  | nil => simp [qs, rs, tot]
  | cons x w ih =>
    have e := pqr total x all
    simp only [qs, rs, List.map_cons, tot, Int.mul_add] at ih ⊢
    omega
theorem tot_rs (total all : Int) (w : List Int) (h : all = tot w) : tot (rs total all w) = all * leftOf total all w := by
  have := tot_qr total all w
  unfold leftOf
  rw [Int.mul_sub, Int.mul_comm all total]
  subst h; omega
theorem pr_range (total x : Int) {all : Int} (h : 0 < all) : 0 ≤ pr total x all ∧ pr total x all < all := ⟨Int.emod_nonneg _ (by omega), Int.emod_lt_of_pos _ h⟩
theorem rs_range (total all : Int) (w : List Int) (h : 0 < all) (j : Nat) (hj : j < w.length) : 0 ≤ (rs total all w).getD j 0 ∧ (rs total all w).getD j 0 < all := by
  rw [rs_get _ _ _ _ hj]; exact pr_range _ _ h
theorem tot_bounds (l : List Int) (B : Int) (h : ∀ j, j < l.length → 0 ≤ l.getD j 0 ∧ l.getD j 0 < B) (hl : 0 < l.length) : 0 ≤ tot l ∧ tot l < B * l.length := by
  induction l with
  | nil => simp at hl
  | cons x l ih =>
    have h0 := h 0 (by simp)
    simp at h0
    rcases Nat.eq_zero_or_pos l.length with e | e
    · have : l = [] := List.eq_nil_of_length_eq_zero e
      subst this; simp [tot]; omega
    · obtain ⟨a, b⟩ := ih (fun j hj => by have := h (j + 1) (by simp; omega); simpa [List.getD] using this) e
      simp only [tot, List.length_cons]
      have e2 : B * ((l.length + 1 : Nat) : Int) = B * l.length + B := by push_cast; rw [Int.mul_add, Int.mul_one]
      rw [e2]; omega
/-- fewer cents are left than there are weights -/
theorem left_range (total all : Int) (w : List Int) (h : all = tot w) (ha : 0 < all) : 0 ≤ leftOf total all w ∧ leftOf total all w < w.length := by
  have hl : 0 < w.length := by
    rcases Nat.eq_zero_or_pos w.length with e | e
    · have : w = [] := List.eq_nil_of_length_eq_zero e
      subst this; simp [tot] at h; omega
    · exact e
  have hb := tot_bounds (rs total all w) all (fun j hj => rs_range total all w ha j (by rwa [rs_len] at hj)) (by rw [rs_len]; exact hl)
  rw [tot_rs total all w h, rs_len] at hb
  constructor
  · by_cases hn : leftOf total all w < 0
    · have := Int.mul_neg_of_pos_of_neg ha hn; omega
    · omega
  · exact Int.lt_of_mul_lt_mul_left hb.2 (by omega)
theorem pq_nonneg {total x all : Int} (t : 0 ≤ total) (h : 0 ≤ x) (ha : 0 < all) : 0 ≤ pq total x all := Int.ediv_nonneg (Int.mul_nonneg t h) (by omega)
theorem pq_le {total x all : Int} (t : 0 ≤ total) (h : x ≤ all) (ha : 0 < all) : pq total x all ≤ total := by
  unfold pq
  have h1 : total * x ≤ total * all := Int.mul_le_mul_of_nonneg_left h t
  have h2 := Int.ediv_le_ediv ha h1
  rwa [Int.mul_ediv_cancel _ (by omega)] at h2
theorem tot_nonneg' (l : List Int) (h : ∀ j, j < l.length → 0 ≤ l.getD j 0) : 0 ≤ tot l := by
  induction l with
  | nil => exact Int.le_refl _
  | cons x l ih =>
    have h0 := h 0 (by simp)
    have := ih (fun j hj => by have := h (j + 1) (by simp; omega); simpa [List.getD] using this)
    simp at h0
    simp only [tot]; omega
theorem qs_nonneg {total all : Int} {w : List Int} (t : 0 ≤ total) (hw : allR w = true) (ha : 0 < all) (j : Nat) (hj : j < w.length) : 0 ≤ (qs total all w).getD j 0 := by
  rw [qs_get _ _ _ _ hj]; exact pq_nonneg t (allR_get hw hj).1 ha
theorem qs_take {total all : Int} {w : List Int} (t : 0 ≤ total) (hw : allR w = true) (ha : 0 < all) (h : all = tot w) (k : Nat) : 0 ≤ tot ((qs total all w).take k) ∧ tot ((qs total all w).take k) ≤ total := by
  have e : tot (qs total all w) = tot ((qs total all w).take k) + tot ((qs total all w).drop k) := by rw [← tot_append, List.take_append_drop]
  have h1 := tot_nonneg' ((qs total all w).take k) (fun j hj => by
    have hj' : j < k ∧ j < (qs total all w).length := by rw [List.length_take] at hj; omega
    rw [show ((qs total all w).take k).getD j 0 = (qs total all w).getD j 0 by simp [List.getD, hj'.1]]
    exact qs_nonneg t hw ha j (by rw [qs_len] at hj'; exact hj'.2))
  have h2 := tot_nonneg' ((qs total all w).drop k) (fun j hj => by
    have hj' : j < (qs total all w).length - k := by simpa using hj
    rw [show ((qs total all w).drop k).getD j 0 = (qs total all w).getD (k + j) 0 by simp [List.getD]]
    exact qs_nonneg t hw ha _ (by rw [qs_len] at hj'; omega))
  have h3 := (left_range total all w h ha).1
  unfold leftOf at h3
  omega
theorem diter_bound (c : Int) (t : Nat) (s : List Int × List Int) (hl : s.1.length = s.2.length) (j : Nat) : s.1.getD j 0 ≤ (diter c t s).1.getD j 0 ∧ (diter c t s).1.getD j 0 ≤ s.1.getD j 0 + t := by
  induction t with
  | zero => simp [diter]
  | succ t ih =>
    simp only [diter, dstep, inc]
    rcases Nat.eq_zero_or_pos s.1.length with h0 | h0
    · have e : (diter c t s).1 = [] := List.eq_nil_of_length_eq_zero (by rw [(diter_len _ _ _).1]; exact h0)
      rw [e] at ih ⊢
      simp at ih ⊢
      omega
    · have hi : amax (diter c t s).2 < (diter c t s).1.length := by
        have h2 := (diter_len c t s)
        have := amax_lt (diter c t s).2 (by omega)
        omega
      rw [getD_set _ _ _ _ hi]
      split
      · rename_i e
        subst e
        push_cast; omega
      · push_cast; omega
theorem elem_le {w : List Int} (hw : allR w = true) {k : Nat} (hk : k < w.length) : w.getD k 0 ≤ tot w := by
  have h1 := tot_take_le hw (k + 1)
  rw [tot_take_succ w k hk] at h1
  have h2 := tot_nonneg (allR_take hw k)
  omega
end SM
