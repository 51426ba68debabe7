/- Plain mathematics of layer 1: no Go in sight. -/
import Derived.IntWalk
namespace CM

/-- 2^60 -/
def M : Int := 1152921504606846976
theorem M_eq : M = 1152921504606846976 := rfl

def fits (n : Int) : Bool := decide (-1152921504606846976 ≤ n) && decide (n ≤ 1152921504606846976)
theorem fits_true {n : Int} : fits n = true ↔ -1152921504606846976 ≤ n ∧ n ≤ 1152921504606846976 := by simp [fits]
theorem fits_false {n : Int} : fits n = false ↔ n < -1152921504606846976 ∨ 1152921504606846976 < n := by
  simp [fits]; omega

/-- an exact result as it is told: the number -/
def fitN (n : Int) : Int := if fits n then n else 0
/-- .. and the error -/
def fitE (n : Int) : Int := if fits n then 0 else 3

def addN (a b : Int) : Int := if fits a && fits b then fitN (a + b) else 0
def addE (a b : Int) : Int := if fits a && fits b then fitE (a + b) else 2
def subN (a b : Int) : Int := if fits a && fits b then fitN (a - b) else 0
def subE (a b : Int) : Int := if fits a && fits b then fitE (a - b) else 2

def clamp (n low high : Int) : Int := if n < low ∨ high < low then low else if high < n then high else n

def size (n : Int) : Int := if n < 0 then -n else n
theorem size_nonneg (n : Int) : 0 ≤ size n := by unfold size; split <;> omega
theorem size_le {n : Int} (h1 : -1152921504606846976 ≤ n) (h2 : n ≤ 1152921504606846976) : size n ≤ 1152921504606846976 := by unfold size; split <;> omega

end CM
