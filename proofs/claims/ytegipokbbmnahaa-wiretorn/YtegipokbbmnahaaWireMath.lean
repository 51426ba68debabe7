/- Numbers as bytes: seven bits a byte, the lowest first. -/
import Derived.Test.YtegipokbbmnahaaWordMath
namespace XM

/-- the number that is written -/
def up (n : Int) : Nat := if n < 0 then 2 * (-(n + 1)).toNat + 1 else 2 * n.toNat
/-- and back -/
def down (u : Nat) : Int := if u % 2 = 1 then -((u / 2 : Nat) : Int) - 1 else ((u / 2 : Nat) : Int)
def enc (u : Nat) : List UInt8 := if h : u < 128 then [UInt8.ofNat u] else UInt8.ofNat (u % 128 + 128) :: enc (u / 128)
termination_by u
decreasing_by omega
/-- the bytes of the number at the front: to the first one below 128 -/
def code : List UInt8 → Option (List UInt8)
  | [] => none
  | c :: l => if c.toNat < 128 then some [c] else (code l).map (c :: ·)
def decW : List UInt8 → Nat
  | [] => 0
  | c :: l => c.toNat % 128 + 128 * decW l
def right (k : List UInt8) : Bool := decide (k.length ≤ 10) && !(decide (1 < k.length) && (k.getLastD 0 == 0)) && !(k.length == 10 && decide (1 < (k.getLastD 0).toNat))
def intE (m : List UInt8) : Int := match code m with
  | none => 6
  | some k => if right k = true then 0 else 5
def intN (m : List UInt8) : Int := match code m with
  | none => 0
  | some k => if right k = true then down (decW k) else 0
def intK (m : List UInt8) : Nat := match code m with
  | none => 0
  | some k => if right k = true then k.length else 0

theorem enc_small {u : Nat} (h : u < 128) : enc u = [UInt8.ofNat u] := by rw [enc]; simp [h]
theorem enc_big {u : Nat} (h : ¬ u < 128) : enc u = UInt8.ofNat (u % 128 + 128) :: enc (u / 128) := by rw [enc]; simp [h]
theorem nat_of (u : Nat) (h : u < 256) : (UInt8.ofNat u).toNat = u := by rw [UInt8.toNat_ofNat']; omega
theorem up_down (u : Nat) : up (down u) = u := by
  unfold up down
  split <;> split <;> omega
theorem down_up (n : Int) : down (up n) = n := by
  unfold up down
  split <;> split <;> omega
theorem up_lt {n : Int} (h : -9223372036854775808 ≤ n ∧ n ≤ 9223372036854775807) : up n < 18446744073709551616 := by
  unfold up; split <;> omega
theorem enc_ne (u : Nat) : enc u ≠ [] := by
  rw [enc]; split <;> simp
theorem code_enc (u : Nat) (r : List UInt8) : code (enc u ++ r) = some (enc u) := by
  induction u using enc.induct with
  | case1 u h => rw [enc_small h]; simp [code, nat_of u (by omega), h]
  | case2 u h ih =>
    rw [enc_big h, List.cons_append]
    unfold code
    rw [nat_of _ (by omega), if_neg (by omega), ih]
    rfl
theorem decW_enc (u : Nat) : decW (enc u) = u := by
  induction u using enc.induct with
  | case1 u h => rw [enc_small h]; unfold decW decW; rw [nat_of _ (by omega)]; omega
  | case2 u h ih =>
    rw [enc_big h]
    unfold decW
    rw [ih, nat_of _ (by omega)]
    omega
theorem getLastD_cons (c : UInt8) {l : List UInt8} (h : l ≠ []) : (c :: l).getLastD 0 = l.getLastD 0 := by
  cases l with
  | nil => exact absurd rfl h
  | cons a t => rfl
theorem enc_last (u : Nat) (h : 0 < u) : (enc u).getLastD 0 ≠ 0 := by
  induction u using enc.induct with
  | case1 u h1 =>
    rw [enc_small h1]
    intro e
    have := congrArg UInt8.toNat e
    rw [show [UInt8.ofNat u].getLastD 0 = UInt8.ofNat u from rfl, nat_of _ (by omega)] at this
    have z : (0 : UInt8).toNat = 0 := rfl
    omega
  | case2 u h1 ih => rw [enc_big h1, getLastD_cons _ (enc_ne _)]; exact ih (by omega)
theorem enc_last_small (u : Nat) : ((enc u).getLastD 0).toNat < 128 := by
  induction u using enc.induct with
  | case1 u h1 =>
    rw [enc_small h1, show [UInt8.ofNat u].getLastD 0 = UInt8.ofNat u from rfl, nat_of _ (by omega)]
    exact h1
  | case2 u h1 ih => rw [enc_big h1, getLastD_cons _ (enc_ne _)]; exact ih
/-- the last byte bounds the number -/
theorem dec_bounds (k : List UInt8) (h : k ≠ []) : (k.getLastD 0).toNat % 128 * 128 ^ (k.length - 1) ≤ decW k ∧ decW k < ((k.getLastD 0).toNat % 128 + 1) * 128 ^ (k.length - 1) := by
  induction k with
  | nil => exact absurd rfl h
  | cons c l ih =>
    by_cases hl : l = []
    · subst hl
      show c.toNat % 128 * 128 ^ 0 ≤ c.toNat % 128 + 128 * 0 ∧ c.toNat % 128 + 128 * 0 < (c.toNat % 128 + 1) * 128 ^ 0
      omega
    · obtain ⟨a, b⟩ := ih hl
      rw [getLastD_cons c hl]
      have e : (c :: l).length - 1 = (l.length - 1) + 1 := by
        have : 0 < l.length := List.length_pos_iff.2 hl
        simp; omega
      rw [e, Nat.pow_succ]
      generalize 128 ^ (l.length - 1) = P at *
      generalize (l.getLastD 0).toNat % 128 = t at *
      show t * (P * 128) ≤ c.toNat % 128 + 128 * decW l ∧ c.toNat % 128 + 128 * decW l < (t + 1) * (P * 128)
      rw [← Nat.mul_assoc, ← Nat.mul_assoc]
      omega
theorem right_enc {u : Nat} (h : u < 18446744073709551616) : right (enc u) = true := by
  have hb := dec_bounds (enc u) (enc_ne u)
  rw [decW_enc] at hb
  have hs := enc_last_small u
  rw [Nat.mod_eq_of_lt hs] at hb
  have hpos : 0 < (enc u).length := List.length_pos_iff.2 (enc_ne u)
  have hlast : 1 < (enc u).length → 0 < ((enc u).getLastD 0).toNat := by
    intro h1
    have hu : 0 < u := by
      rcases Nat.eq_zero_or_pos u with r | r
      · subst r; rw [enc_small (by omega)] at h1; simp at h1
      · exact r
    have := enc_last u hu
    rcases Nat.eq_zero_or_pos ((enc u).getLastD 0).toNat with r | r
    · exact absurd (UInt8.toNat_inj.1 r) this
    · exact r
  have hlen : (enc u).length ≤ 10 := by
    rcases Nat.lt_or_ge 10 (enc u).length with r | r
    · exfalso
      have h1 := hlast (by omega)
      have h2 : 128 ^ 10 ≤ 128 ^ ((enc u).length - 1) := Nat.pow_le_pow_right (by omega) (by omega)
      have h3 : 1 * 128 ^ ((enc u).length - 1) ≤ ((enc u).getLastD 0).toNat * 128 ^ ((enc u).length - 1) := Nat.mul_le_mul_right _ h1
      have h4 : (128 : Nat) ^ 10 = 1180591620717411303424 := by decide
      omega
    · exact r
  have h10 : (enc u).length = 10 → ((enc u).getLastD 0).toNat ≤ 1 := by
    intro e
    rw [e] at hb
    have h4 : (128 : Nat) ^ (10 - 1) = 9223372036854775808 := by decide
    rw [h4] at hb
    omega
  unfold right
  simp only [Bool.and_eq_true, Bool.not_eq_true', Bool.and_eq_false_iff, decide_eq_true_eq, decide_eq_false_iff_not, beq_eq_false_iff_ne, ne_eq]
  refine ⟨⟨hlen, ?_⟩, ?_⟩
  · by_cases h1 : 1 < (enc u).length
    · right
      intro e
      have := hlast h1
      rw [e] at this
      exact absurd this (by decide)
    · exact Or.inl h1
  · by_cases h1 : (enc u).length = 10
    · have := h10 h1
      right; omega
    · exact Or.inl h1
theorem dec_lt {k : List UInt8} (hk : k ≠ []) (h : right k = true) : decW k < 18446744073709551616 := by
  have hb := (dec_bounds k hk).2
  have hpos : 0 < k.length := List.length_pos_iff.2 hk
  unfold right at h
  simp only [Bool.and_eq_true, Bool.not_eq_true', Bool.and_eq_false_iff, decide_eq_true_eq, decide_eq_false_iff_not, beq_eq_false_iff_ne, ne_eq] at h
  obtain ⟨⟨h1, _⟩, h3⟩ := h
  have ht : (k.getLastD 0).toNat % 128 < 128 := Nat.mod_lt _ (by omega)
  by_cases h4 : k.length = 10
  · have h5 : (128 : Nat) ^ (10 - 1) = 9223372036854775808 := by decide
    rw [h4, h5] at hb
    have : (k.getLastD 0).toNat ≤ 1 := by
      rcases h3 with h3 | h3
      · exact absurd h4 h3
      · omega
    omega
  · have h5 : 128 ^ (k.length - 1) ≤ 128 ^ 8 := Nat.pow_le_pow_right (by omega) (by omega)
    have h6 : (128 : Nat) ^ 8 = 72057594037927936 := by decide
    have h7 : ((k.getLastD 0).toNat % 128 + 1) * 128 ^ (k.length - 1) ≤ 128 * 128 ^ (k.length - 1) := Nat.mul_le_mul_right _ (by omega)
    omega
theorem code_ne {m k : List UInt8} (h : code m = some k) : k ≠ [] := by
  cases m with
  | nil => simp [code] at h
  | cons c l =>
    unfold code at h
    split at h
    · injection h with h; rw [← h]; simp
    · rw [Option.map_eq_some_iff] at h
      obtain ⟨a, _, rfl⟩ := h
      simp
/-- what the code is of the bytes -/
theorem code_take {m k : List UInt8} (h : code m = some k) : ∃ r, m = k ++ r := by
  induction m generalizing k with
  | nil => simp [code] at h
  | cons c l ih =>
    unfold code at h
    split at h
    · injection h with h; exact ⟨l, by rw [← h]; rfl⟩
    · rw [Option.map_eq_some_iff] at h
      obtain ⟨a, ha, rfl⟩ := h
      obtain ⟨r, hr⟩ := ih ha
      exact ⟨r, by rw [hr]; rfl⟩
theorem code_self {m k : List UInt8} (h : code m = some k) : code k = some k := by
  induction m generalizing k with
  | nil => simp [code] at h
  | cons c l ih =>
    unfold code at h
    split at h
    · rename_i hc
      injection h with h; rw [← h]; simp [code, hc]
    · rename_i hc
      rw [Option.map_eq_some_iff] at h
      obtain ⟨a, ha, rfl⟩ := h
      unfold code
      rw [if_neg hc, ih ha]; rfl
/-- only what is written is read -/
theorem enc_decW {k : List UInt8} (h : code k = some k) (hl : 1 < k.length → k.getLastD 0 ≠ 0) : enc (decW k) = k := by
  induction k with
  | nil => simp [code] at h
  | cons c l ih =>
    have hc := h
    unfold code at hc
    split at hc
    · rename_i h1
      injection hc with hc
      have hl0 : l = [] := by simpa using hc.symm
      subst hl0
      have e : decW [c] = c.toNat := by unfold decW decW; omega
      rw [e, enc_small h1]
      simp
    · rename_i h1
      rw [Option.map_eq_some_iff] at hc
      obtain ⟨a, ha, e⟩ := hc
      injection e with _ e
      rw [e] at ha
      clear e
      have hne := code_ne ha
      have hpos : 0 < l.length := List.length_pos_iff.2 hne
      have hz : l.getLastD 0 ≠ 0 := by rw [← getLastD_cons c hne]; exact hl (by simp; omega)
      have e := ih ha (fun _ => hz)
      have hd : 0 < decW l := by
        rcases Nat.eq_zero_or_pos (decW l) with q | q
        · rw [q, enc_small (by omega)] at e
          rw [← e] at hz
          exact absurd rfl hz
        · exact q
      have hcl : c.toNat < 256 := c.toNat_lt
      show enc (c.toNat % 128 + 128 * decW l) = c :: l
      rw [enc_big (by omega), show (c.toNat % 128 + 128 * decW l) / 128 = decW l by omega, show (c.toNat % 128 + 128 * decW l) % 128 + 128 = c.toNat by omega, e]
      simp
theorem right_last {k : List UInt8} (h : right k = true) : 1 < k.length → k.getLastD 0 ≠ 0 := by
  intro hl
  unfold right at h
  simp only [Bool.and_eq_true, Bool.not_eq_true', Bool.and_eq_false_iff, decide_eq_true_eq, decide_eq_false_iff_not, beq_eq_false_iff_ne, ne_eq] at h
  rcases h.1.2 with h | h
  · exact absurd hl h
  · exact h
/-- a number is read as it was written, whatever is behind it -/
theorem int_back {n : Int} (h : -9223372036854775808 ≤ n ∧ n ≤ 9223372036854775807) (r : List UInt8) :
    intE (enc (up n) ++ r) = 0 ∧ intN (enc (up n) ++ r) = n ∧ intK (enc (up n) ++ r) = (enc (up n)).length := by
  unfold intE intN intK
  rw [code_enc]
  have := right_enc (up_lt h)
  simp [this, decW_enc, down_up]
/-- and written as it was read -/
theorem int_only {m : List UInt8} (h : intE m = 0) : enc (up (intN m)) = m.take (intK m) ∧ 0 < intK m ∧ intK m ≤ m.length ∧ -9223372036854775808 ≤ intN m ∧ intN m ≤ 9223372036854775807 := by
  unfold intE at h
  unfold intN intK
  cases hc : code m with
  | none => rw [hc] at h; simp at h
  | some k =>
    rw [hc] at h
    have hr : right k = true := by
      by_cases q : right k = true
      · exact q
      · simp [q] at h
    obtain ⟨r, rfl⟩ := code_take hc
    have hk := code_ne hc
    have hlt := dec_lt hk hr
    simp only [hr, if_true]
    refine ⟨?_, List.length_pos_iff.2 hk, by simp, ?_, ?_⟩
    · rw [up_down, enc_decW (code_self hc) (right_last hr)]; simp
    · unfold down; split <;> omega
    · unfold down; split <;> omega
end XM
