/- Pieces put together, with something between. -/
import Derived.Test.YtegipokbbmnahaaWordMath4
namespace WM
def catL (b : List UInt8) : List (List UInt8) → List UInt8
  | [] => []
  | [p] => p
  | p :: q :: r => p ++ (b ++ catL b (q :: r))
theorem catL_snoc (b : List UInt8) (ps : List (List UInt8)) (q : List UInt8) (h : ps ≠ []) : catL b (ps ++ [q]) = catL b ps ++ b ++ q := by
  induction ps with
  | nil => exact absurd rfl h
  | cons p ps ih =>
    cases ps with
    | nil => simp [catL]
    | cons r rs =>
      have e := ih (by simp)
      show p ++ (b ++ catL b (r :: rs ++ [q])) = (p ++ (b ++ catL b (r :: rs))) ++ b ++ q
      rw [e]; simp
theorem catL_one (b q : List UInt8) : catL b ([] ++ [q]) = q := rfl
theorem catL_join (ps : List (List UInt8)) : catL [32] ps = joinL ps := by
  induction ps with
  | nil => rfl
  | cons p ps ih =>
    cases ps with
    | nil => rfl
    | cons r rs => show p ++ ([32] ++ catL [32] (r :: rs)) = p ++ 32 :: joinL (r :: rs); rw [ih]; rfl
theorem catL_two (p q : List UInt8) : catL [] [p, q] = p ++ q := rfl
theorem catL_four (p q r s : List UInt8) : catL [] [p, q, r, s] = p ++ (q ++ (r ++ s)) := rfl
/-- all lengths, each with b more -/
def tl (b : Nat) (ns : List Nat) : Nat := (ns.map (· + b)).sum
theorem tl_snoc (b : Nat) (ns : List Nat) (n : Nat) : tl b (ns ++ [n]) = tl b ns + (n + b) := by simp [tl]
theorem tl_take (b : Nat) (ns : List Nat) (k : Nat) : tl b (ns.take k) ≤ tl b ns := by
  have : tl b ns = tl b (ns.take k) + tl b (ns.drop k) := by
    unfold tl
    rw [← List.sum_append, ← List.map_append, List.take_append_drop]
  omega
theorem catL_len (b : List UInt8) (ps : List (List UInt8)) : (catL b ps).length ≤ tl b.length (ps.map List.length) := by
  induction ps with
  | nil => simp [catL]
  | cons p ps ih =>
    cases ps with
    | nil => simp [catL, tl]
    | cons r rs =>
      have e : tl b.length ((p :: r :: rs).map List.length) = p.length + b.length + tl b.length ((r :: rs).map List.length) := by
        unfold tl; rw [List.map_cons, List.map_cons, List.sum_cons]
      rw [e]
      show (p ++ (b ++ catL b (r :: rs))).length ≤ _
      rw [List.length_append, List.length_append]
      omega
end WM
