/- Layer 8's mathematics: lists of rates, where a currency stands, what may be, amounts turned. -/
import Derived.Test.YtnadhecgbfldmaaRateMath
import Derived.Test.YtnadhecgbfldmaaSumMath2
import Derived.Test.YtnadhecgbfldmaaWordMath3
namespace RM
abbrev Rate := ByteArray × Int
def hit (s : ByteArray) (r : Rate) : Bool := r.1.toList == s.toList
def at_ (l : List Rate) (k : Nat) : Rate := l.getD k (⟨#[]⟩, 0)
theorem at_get {l : List Rate} {k : Nat} (h : k < l.length) : at_ l k = l[k] := by simp [at_, List.getD, h]
def fN (l : List Rate) (s : ByteArray) : Int := if l.findIdx (hit s) < l.length then (l.findIdx (hit s) : Nat) else 0
def fB (l : List Rate) (s : ByteArray) : Bool := decide (l.findIdx (hit s) < l.length)
theorem find_yes {l : List Rate} {s : ByteArray} {k : Nat} (hk : k < l.length) (hn : ∀ j, j < k → hit s (at_ l j) = false) (h : hit s (at_ l k) = true) : fN l s = k ∧ fB l s = true := by
  have e : l.findIdx (hit s) = k := by
    rw [List.findIdx_eq hk]
    refine ⟨by rw [← at_get hk]; exact h, fun j hj => ?_⟩
    rw [← at_get (show j < l.length by omega)]; simp [hn j hj]
  unfold fN fB
  rw [e]
  simp [hk]
theorem find_no {l : List Rate} {s : ByteArray} (hn : ∀ j, j < l.length → hit s (at_ l j) = false) : fN l s = 0 ∧ fB l s = false := by
  have e : l.findIdx (hit s) = l.length := by
    rw [List.findIdx_eq_length]
    intro x hx
    obtain ⟨j, hj, rfl⟩ := List.getElem_of_mem hx
    rw [← at_get hj]; exact hn j hj
  unfold fN fB
  rw [e]
  simp
theorem fN_range (l : List Rate) (s : ByteArray) : 0 ≤ fN l s ∧ fN l s ≤ l.length := by
  unfold fN
  split <;> omega

def nm (r : Rate) : Bool := WM.name r.1.data.toList
def okM (r : Rate) : Bool := decide (1 ≤ r.2) && decide (r.2 ≤ 1000000000000)
/-- does the name of rate i occur ahead of it? -/
def twice (l : List Rate) (i : Nat) : Bool := fB (l.take i) (at_ l i).1
def dupU (l : List Rate) (k : Nat) : Bool := (List.range k).any (twice l)
def checkE (l : List Rate) : Int :=
  if l.length = 0 ∨ 8 < l.length then 8 else if l.all nm = false then 10 else if dupU l l.length = true then 12 else if l.all okM = true ∧ (at_ l 0).2 = 1000000 then 0 else 25

theorem take_at {l : List Rate} {i j : Nat} (h : j < i) : at_ (l.take i) j = at_ l j := by
  unfold at_
  simp [List.getD, h]
/-- the reference's question: is the first one of that name another one? -/
theorem twice_iff {l : List Rate} {i : Nat} (hi : i < l.length) : twice l i = (fN l (at_ l i).1 != (i : Int)) := by
  have hh : hit (at_ l i).1 (at_ l i) = true := by simp [hit]
  cases ht : twice l i
  · -- none ahead
    have hn : ∀ j, j < i → hit (at_ l i).1 (at_ l j) = false := by
      intro j hj
      cases hb : hit (at_ l i).1 (at_ l j)
      · rfl
      · exfalso
        have hlen : (l.take i).length = i := by rw [List.length_take]; omega
        have hlt : (l.take i).findIdx (hit (at_ l i).1) < (l.take i).length := by
          apply List.findIdx_lt_length_of_exists
          refine ⟨at_ (l.take i) j, ?_, by rw [take_at hj]; exact hb⟩
          rw [at_get (show j < (l.take i).length by omega)]
          exact List.getElem_mem _
        unfold twice fB at ht
        rw [decide_eq_true hlt] at ht
        cases ht
    rw [(find_yes hi hn hh).1]
    simp
  · unfold twice fB at ht
    have hlt := of_decide_eq_true ht
    generalize hk : (l.take i).findIdx (hit (at_ l i).1) = k at *
    have hlen : (l.take i).length = i := by rw [List.length_take]; omega
    have hki : k < i := by omega
    have h1 : hit (at_ l i).1 (at_ l k) = true := by
      rw [← take_at hki, at_get (l := l.take i) (show k < (l.take i).length by omega)]
      have := (List.findIdx_eq hlt).1 hk
      exact this.1
    have h2 : ∀ j, j < k → hit (at_ l i).1 (at_ l j) = false := by
      intro j hj
      rw [← take_at (show j < i by omega), at_get (l := l.take i) (show j < (l.take i).length by omega)]
      have := ((List.findIdx_eq hlt).1 hk).2 j hj
      simpa using this
    rw [(find_yes (show k < l.length by omega) h2 h1).1]
    symm
    simp
    omega

theorem all_step {p : Rate → Bool} {l : List Rate} {k : Nat} (h : k < l.length) (ha : (l.take k).all p = true) (hk : p (at_ l k) = true) : (l.take (k + 1)).all p = true := by
  rw [List.take_add_one, List.all_append, ha, List.getElem?_eq_getElem h]
  rw [at_get h] at hk
  simp [hk]
theorem all_not {p : Rate → Bool} {l : List Rate} {k : Nat} (h : k < l.length) (hk : p (at_ l k) = false) : l.all p = false := by
  rw [at_get h] at hk
  cases e : l.all p
  · rfl
  · rw [List.all_eq_true.1 e _ (List.getElem_mem h)] at hk; cases hk
theorem dup_step {l : List Rate} {k : Nat} (ha : dupU l k = false) (hk : twice l k = false) : dupU l (k + 1) = false := by
  unfold dupU at *
  rw [List.range_succ, List.any_append, ha]
  simp [hk]
theorem dup_yes {l : List Rate} {k : Nat} (h : k < l.length) (hk : twice l k = true) : dupU l l.length = true := by
  unfold dupU
  exact List.any_eq_true.2 ⟨k, List.mem_range.2 h, hk⟩

theorem check_len {l : List Rate} (h : l.length = 0 ∨ 8 < l.length) : checkE l = 8 := by unfold checkE; rw [if_pos h]
theorem check_name {l : List Rate} (h : ¬ (l.length = 0 ∨ 8 < l.length)) (h2 : l.all nm = false) : checkE l = 10 := by unfold checkE; rw [if_neg h, if_pos h2]
theorem check_dup {l : List Rate} (h : ¬ (l.length = 0 ∨ 8 < l.length)) (h2 : l.all nm = true) (h3 : dupU l l.length = true) : checkE l = 12 := by unfold checkE; rw [if_neg h, if_neg (by rw [h2]; simp), if_pos h3]
theorem check_rate {l : List Rate} (h : ¬ (l.length = 0 ∨ 8 < l.length)) (h2 : l.all nm = true) (h3 : dupU l l.length = false) (h4 : ¬ (l.all okM = true ∧ (at_ l 0).2 = 1000000)) : checkE l = 25 := by
  unfold checkE; rw [if_neg h, if_neg (by rw [h2]; simp), if_neg (by rw [h3]; simp), if_neg h4]
theorem check_ok {l : List Rate} (h : ¬ (l.length = 0 ∨ 8 < l.length)) (h2 : l.all nm = true) (h3 : dupU l l.length = false) (h4 : l.all okM = true ∧ (at_ l 0).2 = 1000000) : checkE l = 0 := by
  unfold checkE; rw [if_neg h, if_neg (by rw [h2]; simp), if_neg (by rw [h3]; simp), if_pos h4]
theorem check_cases (l : List Rate) : checkE l = 0 ∨ checkE l = 8 ∨ checkE l = 10 ∨ checkE l = 12 ∨ checkE l = 25 := by
  unfold checkE
  split
  · simp
  · split
    · simp
    · split
      · simp
      · split <;> simp
theorem ok_parts {l : List Rate} (h : checkE l = 0) : 0 < l.length ∧ l.length ≤ 8 ∧ ∀ k, k < l.length → 1 ≤ (at_ l k).2 ∧ (at_ l k).2 ≤ 1000000000000 := by
  unfold checkE at h
  split at h
  · cases h
  · split at h
    · cases h
    · split at h
      · cases h
      · split at h
        · rename_i h1 _ _ h4
          refine ⟨by omega, by omega, fun k hk => ?_⟩
          rw [at_get hk]
          have := List.all_eq_true.1 h4.1 _ (List.getElem_mem hk)
          simpa [okM] using this
        · cases h

/-- is it a currency? -/
def isCur (l : List Rate) (i : Int) : Bool := decide (0 ≤ i) && decide (i < l.length)
def mic (l : List Rate) (i : Int) : Int := (at_ l i.toNat).2
def cvN (l : List Rate) (n a b mode : Int) : Int := if checkE l = 0 ∧ isCur l a = true ∧ isCur l b = true then CM.mdN n (mic l a) (mic l b) mode else 0
def cvE (l : List Rate) (n a b mode : Int) : Int :=
  if checkE l = 0 then (if isCur l a = true ∧ isCur l b = true then CM.mdE n (mic l a) (mic l b) mode else 25) else checkE l
theorem isCur_true {l : List Rate} {i : Int} : isCur l i = true ↔ 0 ≤ i ∧ i < l.length := by simp [isCur]
theorem isCur_false {l : List Rate} {i : Int} : isCur l i = false ↔ i < 0 ∨ (l.length : Int) ≤ i := by simp [isCur]; omega
theorem cv_bad {l : List Rate} {n a b mode : Int} (h : checkE l ≠ 0) : cvN l n a b mode = 0 ∧ cvE l n a b mode = checkE l := by
  unfold cvN cvE; rw [if_neg (fun g => h g.1), if_neg h]; exact ⟨rfl, rfl⟩
theorem cv_out {l : List Rate} {n a b mode : Int} (h : checkE l = 0) (h2 : ¬ (isCur l a = true ∧ isCur l b = true)) : cvN l n a b mode = 0 ∧ cvE l n a b mode = 25 := by
  unfold cvN cvE; rw [if_neg (fun g => h2 g.2), if_pos h, if_neg h2]; exact ⟨rfl, rfl⟩
theorem cv_in {l : List Rate} {n a b mode : Int} (h : checkE l = 0) (h2 : isCur l a = true) (h3 : isCur l b = true) : cvN l n a b mode = CM.mdN n (mic l a) (mic l b) mode ∧ cvE l n a b mode = CM.mdE n (mic l a) (mic l b) mode := by
  unfold cvN cvE; rw [if_pos ⟨h, h2, h3⟩, if_pos h, if_pos ⟨h2, h3⟩]; exact ⟨rfl, rfl⟩
theorem mic_range {l : List Rate} {i : Int} (h : checkE l = 0) (hi : isCur l i = true) : 1 ≤ mic l i ∧ mic l i ≤ 1000000000000 := by
  obtain ⟨h0, h1⟩ := isCur_true.1 hi
  exact (ok_parts h).2.2 i.toNat (by omega)
theorem mic_fits {l : List Rate} {i : Int} (h : checkE l = 0) (hi : isCur l i = true) : CM.fits (mic l i) = true := by
  have := mic_range h hi
  rw [CM.fits_true]; omega

/-- the k-th amount in the first currency -/
def bN (l : List Rate) (n : List Int) (mode : Int) (k : Nat) : Int := cvN l (n.getD k 0) k 0 mode
def bE (l : List Rate) (n : List Int) (mode : Int) (k : Nat) : Int := cvE l (n.getD k 0) k 0 mode
def fe (l : List Rate) (n : List Int) (mode : Int) : Nat → Int
  | 0 => 0
  | k + 1 => if fe l n mode k = 0 then bE l n mode k else fe l n mode k
def conv (l : List Rate) (n : List Int) (mode : Int) (k : Nat) : List Int := (List.range k).map (bN l n mode)
def toE (l : List Rate) (n : List Int) (mode : Int) : Int :=
  if checkE l = 0 then (if n.length ≤ l.length then (if fe l n mode n.length = 0 then CM.sumE (conv l n mode n.length) else fe l n mode n.length) else 8) else checkE l
def toN (l : List Rate) (n : List Int) (mode : Int) : Int :=
  if checkE l = 0 ∧ n.length ≤ l.length ∧ fe l n mode n.length = 0 then CM.sumN (conv l n mode n.length) else 0
theorem fe_stay {l : List Rate} {n : List Int} {mode : Int} {k : Nat} (h : fe l n mode k ≠ 0) : ∀ m, fe l n mode (k + m) = fe l n mode k := by
  intro m
  induction m with
  | zero => rfl
  | succ m ih =>
    rw [← Nat.add_assoc, fe, ih, if_neg h]
theorem fe_step {l : List Rate} {n : List Int} {mode : Int} {k : Nat} (h : fe l n mode k = 0) (h2 : bE l n mode k = 0) : fe l n mode (k + 1) = 0 := by
  rw [fe, if_pos h]; exact h2
theorem to_bad {l : List Rate} {n : List Int} {mode : Int} (h : checkE l ≠ 0) : toN l n mode = 0 ∧ toE l n mode = checkE l := by
  unfold toN toE; rw [if_neg (fun g => h g.1), if_neg h]; exact ⟨rfl, rfl⟩
theorem to_long {l : List Rate} {n : List Int} {mode : Int} (h : checkE l = 0) (h2 : l.length < n.length) : toN l n mode = 0 ∧ toE l n mode = 8 := by
  unfold toN toE; rw [if_neg (fun g => by have := g.2.1; omega), if_pos h, if_neg (by omega)]; exact ⟨rfl, rfl⟩
theorem to_stop {l : List Rate} {n : List Int} {mode : Int} {k : Nat} (h : checkE l = 0) (h2 : n.length ≤ l.length) (hk : k < n.length) (h3 : fe l n mode k = 0) (h4 : bE l n mode k ≠ 0) : toN l n mode = 0 ∧ toE l n mode = bE l n mode k := by
  have e : fe l n mode (k + 1) = bE l n mode k := by rw [fe, if_pos h3]
  have e2 : fe l n mode n.length = bE l n mode k := by
    have := @fe_stay l n mode (k + 1) (by rw [e]; exact h4) (n.length - (k + 1))
    rw [show k + 1 + (n.length - (k + 1)) = n.length by omega] at this
    rw [this, e]
  unfold toN toE
  rw [if_neg (fun g => by have := g.2.2; rw [e2] at this; exact h4 this), if_pos h, if_pos h2, e2, if_neg h4]
  exact ⟨rfl, rfl⟩
theorem to_sum {l : List Rate} {n : List Int} {mode : Int} (h : checkE l = 0) (h2 : n.length ≤ l.length) (h3 : fe l n mode n.length = 0) : toN l n mode = CM.sumN (conv l n mode n.length) ∧ toE l n mode = CM.sumE (conv l n mode n.length) := by
  unfold toN toE; rw [if_pos ⟨h, h2, h3⟩, if_pos h, if_pos h2, if_pos h3]; exact ⟨rfl, rfl⟩
theorem conv_len (l : List Rate) (n : List Int) (mode : Int) (k : Nat) : (conv l n mode k).length = k := by simp [conv]
theorem conv_succ (l : List Rate) (n : List Int) (mode : Int) (k : Nat) : conv l n mode (k + 1) = conv l n mode k ++ [bN l n mode k] := by simp [conv, List.range_succ]
end RM
