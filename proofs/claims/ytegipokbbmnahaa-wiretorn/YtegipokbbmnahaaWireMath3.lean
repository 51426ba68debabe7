/- Numbers read byte by byte, the lowest first. -/
import Derived.Test.YtegipokbbmnahaaWireMath2
namespace XM
set_option linter.unusedVariables false

def big (c : UInt8) : Bool := decide (128 ≤ c.toNat)
theorem code_big (xs : List UInt8) (h : xs.all big = true) (r : List UInt8) : code (xs ++ r) = (code r).map (xs ++ ·) := by
  induction xs with
  | nil => simp
  | cons c xs ih =>
    rw [List.all_cons, Bool.and_eq_true] at h
    have hc : 128 ≤ c.toNat := by simpa [big] using h.1
    rw [List.cons_append]
    show (if c.toNat < 128 then some [c] else (code (xs ++ r)).map (c :: ·)) = _
    rw [if_neg (by omega), ih h.2, Option.map_map]
    rfl
theorem code_none {l : List UInt8} (h : l.all big = true) : code l = none := by
  have := code_big l h []
  rw [List.append_nil] at this
  rw [this]; rfl
theorem code_some {l : List UInt8} {k : Nat} (hk : k < l.length) (h : (l.take k).all big = true) (hc : l[k].toNat < 128) : code l = some (l.take (k + 1)) := by
  have e : l = l.take k ++ l[k] :: l.drop (k + 1) := by rw [← List.drop_eq_getElem_cons hk, List.take_append_drop]
  conv => lhs; rw [e]
  rw [code_big _ h]
  show ((if l[k].toNat < 128 then some [l[k]] else _) : Option (List UInt8)).map _ = _
  rw [if_pos hc, WM.take_snoc l k hk]
  rfl
theorem decW_snoc (l : List UInt8) (c : UInt8) : decW (l ++ [c]) = decW l + 128 ^ l.length * (c.toNat % 128) := by
  induction l with
  | nil => simp [decW]
  | cons a l ih =>
    show a.toNat % 128 + 128 * decW (l ++ [c]) = a.toNat % 128 + 128 * decW l + _
    rw [ih, List.length_cons, Nat.pow_succ, Nat.mul_add, ← Nat.mul_assoc, Nat.mul_comm 128 (128 ^ l.length)]
    omega
theorem decW_lt (l : List UInt8) : decW l < 128 ^ l.length := by
  induction l with
  | nil => simp [decW]
  | cons a l ih =>
    show a.toNat % 128 + 128 * decW l < 128 ^ (l.length + 1)
    rw [Nat.pow_succ]
    omega
theorem or_add {x k c : Nat} (h : x < 128 ^ k) : x ||| c * 128 ^ k = x + 128 ^ k * c := by
  have e : (128 : Nat) ^ k = 2 ^ (7 * k) := by rw [Nat.pow_mul]
  rw [e] at h ⊢
  have := Nat.two_pow_add_eq_or_of_lt h c
  rw [Nat.mul_comm c, Nat.or_comm, ← this, Nat.add_comm]
/-- what the reading loop has -/
def DI (l : List UInt8) (k x : Nat) : Prop := k ≤ l.length ∧ (l.take k).all big = true ∧ x < 18446744073709551616 ∧ (k ≤ 9 → x = decW (l.take k))
theorem DI.start (l : List UInt8) : DI l 0 0 := ⟨Nat.zero_le _, rfl, by omega, fun _ => rfl⟩
theorem or_lt {x z : Nat} (hx : x < 18446744073709551616) (hz : z < 18446744073709551616) : x ||| z < 18446744073709551616 := Nat.or_lt_two_pow (n := 64) hx hz
theorem DI.add {l : List UInt8} {k x z : Nat} (h : DI l k x) (hk : k < l.length) (hk9 : k ≤ 9) (hz : z = l[k].toNat % 128 * 128 ^ k) : x ||| z = decW (l.take (k + 1)) := by
  have h1 := h.2.2.2 hk9
  have h2 := decW_lt (l.take k)
  have e : (l.take k).length = k := by rw [List.length_take]; omega
  rw [e] at h2
  rw [hz, or_add (by rw [h1]; exact h2), h1, WM.take_snoc l k hk, decW_snoc, e]
theorem DI.step {l : List UInt8} {k x z : Nat} (h : DI l k x) (hk : k < l.length) (hc : 128 ≤ l[k].toNat) (hz : z < 18446744073709551616) (hzk : k ≤ 8 → z = l[k].toNat % 128 * 128 ^ k) : DI l (k + 1) (x ||| z) := by
  refine ⟨by omega, ?_, or_lt h.2.2.1 hz, fun h9 => h.add hk (by omega) (hzk (by omega))⟩
  rw [WM.take_snoc l k hk, WM.all_snoc, h.2.1]
  simpa [big] using hc
theorem DI.none {l : List UInt8} {x : Nat} (h : DI l l.length x) : intE l = 6 ∧ intN l = 0 ∧ intK l = 0 := by
  have := h.2.1
  rw [List.take_of_length_le (Nat.le_refl _)] at this
  unfold intE intN intK
  rw [code_none this]
  exact ⟨rfl, rfl, rfl⟩
theorem right_last_eq {l : List UInt8} {k : Nat} (hk : k < l.length) : right (l.take (k + 1)) = (decide (k ≤ 9) && !(decide (0 < k) && (l[k] == 0)) && !(k == 9 && decide (1 < l[k].toNat))) := by
  have e1 : (l.take (k + 1)).length = k + 1 := by rw [List.length_take]; omega
  have e2 : (l.take (k + 1)).getLastD 0 = l[k] := by rw [WM.take_snoc l k hk, List.getLastD_eq_getLast?, List.getLast?_append]; rfl
  unfold right
  rw [e1, e2]
  have e3 : decide (k + 1 ≤ 10) = decide (k ≤ 9) := by rw [decide_eq_decide]; omega
  have e4 : decide (1 < k + 1) = decide (0 < k) := by rw [decide_eq_decide]; omega
  have e5 : (k + 1 == 10) = (k == 9) := by rw [Bool.eq_iff_iff]; simp
  rw [e3, e4, e5]
theorem DI.bad {l : List UInt8} {k x : Nat} (h : DI l k x) (hk : k < l.length) (hc : l[k].toNat < 128) (hr : right (l.take (k + 1)) = false) : intE l = 5 ∧ intN l = 0 ∧ intK l = 0 := by
  unfold intE intN intK
  rw [code_some hk h.2.1 hc]
  simp [hr]
theorem DI.good {l : List UInt8} {k x z : Nat} (h : DI l k x) (hk : k < l.length) (hc : l[k].toNat < 128) (hr : right (l.take (k + 1)) = true) (hz : z = l[k].toNat % 128 * 128 ^ k) : intE l = 0 ∧ intN l = down (x ||| z) ∧ intK l = k + 1 := by
  have h9 : k ≤ 9 := by
    rw [right_last_eq hk] at hr
    simp only [Bool.and_eq_true, decide_eq_true_eq] at hr
    exact hr.1.1
  have hd := h.add hk h9 hz
  have e1 : (l.take (k + 1)).length = k + 1 := by rw [List.length_take]; omega
  unfold intE intN intK
  rw [code_some hk h.2.1 hc]
  simp [hr, hd, e1]
end XM
