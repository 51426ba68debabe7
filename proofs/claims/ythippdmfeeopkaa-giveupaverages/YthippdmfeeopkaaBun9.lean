/- Put together: CentsG, GivH, ShareMath, ShareA, ShareB, ShareMath2. -/
import Derived.Test.YthippdmfeeopkaaBun8
import Derived.Test.YthippdmfeeopkaaBun4
import Derived.Test.YthippdmfeeopkaaBun7
import Derived.BigQuiet
import Derived.Test.YthippdmfeeopkaaBun1
import Derived.IntWalk
import Derived.Laws.BitsAllLaws
import Derived.Laws.BitsLemmas
namespace Go.Proofs.Ythippdmfeeopkaa
open Go.RowKit
end Go.Proofs.Ythippdmfeeopkaa

/- Contracts of layer 14: the lots of parts; numbers compared. -/
namespace Go.Proofs.Ythippdmfeeopkaa
open Go.RowKit Go.Recs
set_option linter.unusedVariables false
set_option linter.unusedSimpArgs false
set_option maxHeartbeats 1000000 in
theorem rints14_any (A B : Option Addr) (zs : List Int) (n m c d : Nat) (hn : n = zs.length) (hm : m = zs.length) (w : World) (hA : Ints w A zs) (hB : Ints w B zs) :
    Calls Try.prog 26 #[.slice A n c, .slice B m d] w fun e w' => e = .returned (.bool true) ∧ ∃ n, w' = w.drewN n := by
  subst hn hm
  have hlen := hA.len
  go_enter Try.func26, Try.ntmps26
  go_wp2
  go_loopw [5] (fun i wr => ∃ k : Nat, k ≤ zs.length ∧ i = .int .i64 k ∧ ∃ n, wr = w.drewN n) (fun i _ => zs.length - (intOf i).toNat)
  case atStart => exact ⟨0, by omega, rfl, 0, rfl⟩
  case round =>
    obtain ⟨k, hk, rfl, n, rfl⟩ := hrel
    by_cases hlt : k < zs.length
    · obtain ⟨b, off, v, rfl, hb, hcell, HV, v1, v2⟩ := hA.get hlt
      obtain ⟨b', off', v', rfl, hb', hcell', HV', v1', v2'⟩ := hB.get hlt
      have e : v' = v := HV'.out.symm.trans HV.out
      subst e
      clear HV HV'
      go_wp2
      go_quiet (fail)
      go_wp2
      go_roundw
      case rel => exact ⟨k + 1, by omega, by go_num, _, rfl⟩
      case measure => simp [intOf]; omega
    · go_wp2
      go_ret
      exact ⟨rfl, _, rfl⟩
theorem qtys_succ {l : List GM.Part} {k : Nat} (h : k < l.length) : (l.take (k + 1)).map (·.qty) = (l.take k).map (·.qty) ++ [(GM.pAt l k).qty] := by
  rw [List.take_add_one, GM.pAt_get h, List.getElem?_eq_getElem h, List.map_append]
  rfl
set_option maxHeartbeats 2000000 in
set_option maxRecDepth 100000 in
theorem dquant_any (all : Int) (A : Option Addr) (l : List GM.Part) (n cap : Nat) (hn : n = l.length) (w : World) (hI : Parts w A l) (hl : l.length ≤ 1024) :
    Calls Try.prog 67 #[.agg #[.int .i64 all, .slice A n cap]] w fun e w' => ∃ v, e = .returned v ∧ Own w' w.heap.size v (l.map (·.qty)) ∧ Below w.heap.size w w' := by
  subst hn
  have hlen := hI.len
  have HB0 := Lib.hid (below_al (Below.refl w.heap.size w) (.cells (divC all A l.length cap) 117))
  have HI := Lib.hid hI
  have KE : Hid ((l.take l.length).map (·.qty) = l.map (·.qty)) := Lib.hid (by rw [List.take_length])
  have KS := Lib.hid (fun k => @qtys_succ l k)
  clear hI
  go_enter Try.func67, Try.ntmps67
  go_wp2_with fail
  generalize w.alloc (.cells #[.int .i64 all, .slice A l.length cap] 117) = w0 at *
  go_loopw [2, 4, 8] (fun v _ i wr => ∃ k : Nat, k ≤ l.length ∧ i = .int .i64 (k : Int) ∧ Hid (Own wr w.heap.size v ((l.take k).map (·.qty))) ∧ Hid (Below w.heap.size w wr)) (fun _ _ i _ => l.length - (intOf i).toNat)
  case atStart => exact ⟨0, by omega, rfl, Lib.hid (Own.nil _ _), HB0⟩
  case round =>
    obtain ⟨k, hk, rfl, HO, HB⟩ := hrel
    by_cases hlt : k < l.length
    · obtain ⟨b, off, x, rfl, hb, HV, q, d0, d1, d2⟩ := parts_get (HI.out.below HB.out) hlt
      have HBx := Lib.hid (below_al HB.out (.cells (partC x) 113))
      have HOx := Lib.hid (HO.out.alloc (.cells (partC x) 113))
      have HW : Hid ((l.take (k + 1)).map (·.qty) = (l.take k).map (·.qty) ++ [x.qty]) := Lib.hid (by rw [KS.out k hlt, HV.out])
      have hwl : ((l.take k).map (·.qty)).length ≤ 1024 := by rw [List.length_map, List.length_take]; omega
      have hsz : (wr.alloc (.cells (partC x) 113)).heap.size = wr.heap.size + 1 := by simp
      clear q HV HO
      go_wp2_with (at_builtin; go_loud (refine wpList_push _ x.qty w.heap.size ((l.take k).map (·.qty)) _ _ rfl rfl _ (by first | rfl | exact (congrArg (fun z => Value.slice (some ⟨z, 0, none⟩) 1 1) hsz.symm)) (by first | rfl | exact (congrArg (fun z => Value.slice (some ⟨z, 0, none⟩) 1 1) hsz.symm)) HOx.out ?c1 HBx.out.size ?_))
      case c1 => omega
      intro v4 w4 o4 b4 _ _
      have HO4 : Hid (Own w4 w.heap.size v4 ((l.take (k + 1)).map (·.qty))) := Lib.hid (by rw [HW.out]; simpa using o4)
      have HB4 := Lib.hid (HBx.out.trans b4)
      clear o4 b4 HOx hsz
      go_wp2_with fail
      go_roundw
      case rel => exact ⟨k + 1, by omega, by go_num, HO4, HB4⟩
      case measure => simp [intOf]; omega
    · obtain rfl : k = l.length := by omega
      rw [KE.out] at HO
      go_wp2_with fail
      go_ret
      exact ⟨_, rfl, HO.out, HB.out⟩
end Go.Proofs.Ythippdmfeeopkaa

/- Plain mathematics of layer 2: checks of lists, digitwise division. -/
namespace SM
open LM

def inR (n : Int) : Bool := decide (0 ≤ n) && decide (n ≤ 1152921504606846976)
theorem inR_true {n : Int} : inR n = true ↔ 0 ≤ n ∧ n ≤ 1152921504606846976 := by simp [inR]
theorem inR_false {n : Int} : inR n = false ↔ n < 0 ∨ 1152921504606846976 < n := by simp [inR]; omega

def allR (l : List Int) : Bool := l.all inR
theorem allR_take_succ (l : List Int) (k : Nat) (h : k < l.length) : allR (l.take (k + 1)) = (allR (l.take k) && inR (l.getD k 0)) := by
  rw [take_snoc l k h]; simp [allR]
theorem allR_no {l : List Int} {k : Nat} (hk : k < l.length) (h : inR (l.getD k 0) = false) : allR l = false := by
  cases hc : allR l
  · rfl
  · have := (List.all_eq_true.1 hc) _ (getD_mem l k hk)
    rw [h] at this; exact absurd this (by simp)
theorem allR_get {l : List Int} (h : allR l = true) {k : Nat} (hk : k < l.length) : 0 ≤ l.getD k 0 ∧ l.getD k 0 ≤ 1152921504606846976 :=
  inR_true.1 (List.all_eq_true.1 h _ (getD_mem l k hk))
theorem tot_nonneg {l : List Int} (h : allR l = true) : 0 ≤ tot l := by
  induction l with
  | nil => exact Int.le_refl _
  | cons x l ih =>
    simp [allR] at h
    have := ih (by simpa [allR] using h.2)
    have := (inR_true.1 h.1).1
    simp only [tot]; omega
theorem allR_take {l : List Int} (h : allR l = true) (k : Nat) : allR (l.take k) = true := by
  simp only [allR, List.all_eq_true] at h ⊢
  exact fun x hx => h x (List.mem_of_mem_take hx)
theorem allR_drop {l : List Int} (h : allR l = true) (k : Nat) : allR (l.drop k) = true := by
  simp only [allR, List.all_eq_true] at h ⊢
  exact fun x hx => h x (List.mem_of_mem_drop hx)
theorem tot_take_le {l : List Int} (h : allR l = true) (k : Nat) : tot (l.take k) ≤ tot l := by
  have e : tot l = tot (l.take k) + tot (l.drop k) := by rw [← tot_append, List.take_append_drop]
  have := tot_nonneg (allR_drop h k)
  omega

/-- the weights are each in range and fit together -/
def wOk (l : List Int) : Bool := allR l && decide (tot l ≤ 1152921504606846976)
def wN (l : List Int) : Int := if wOk l then tot l else 0
def wE (l : List Int) : Int := if wOk l then 0 else 26
/-- .. and there are not too many -/
def sN (l : List Int) : Int := if 1024 < l.length then 0 else wN l
def sE (l : List Int) : Int := if 1024 < l.length then 8 else wE l

def WInv (l : List Int) (k : Nat) (s : Int) : Prop := allR (l.take k) = true ∧ s = tot (l.take k) ∧ 0 ≤ s ∧ s ≤ 1152921504606846976
theorem WInv.start (l : List Int) : WInv l 0 0 := ⟨rfl, rfl, by omega, by omega⟩
theorem WInv.bounds {l : List Int} {k : Nat} {s : Int} (h : WInv l k s) : 0 ≤ s ∧ s ≤ 1152921504606846976 := h.2.2
theorem WInv.step {l : List Int} {k : Nat} {s v : Int} (h : WInv l k s) (hk : k < l.length) (hv : l.getD k 0 = v) (hr : inR v = true) (hs : v ≤ 1152921504606846976 - s) : WInv l (k + 1) (s + v) := by
  obtain ⟨a, b, c, d⟩ := h
  have := (inR_true.1 hr).1
  refine ⟨by rw [allR_take_succ l k hk, a, hv, hr]; rfl, by rw [tot_take_succ l k hk, ← b, hv], by omega, by omega⟩
theorem WInv.over {l : List Int} {k : Nat} {s v : Int} (h : WInv l k s) (hk : k < l.length) (hv : l.getD k 0 = v) (hs : 1152921504606846976 - s < v) : wOk l = false := by
  cases hc : allR l
  · simp [wOk, hc]
  · have := tot_take_le hc (k + 1)
    rw [tot_take_succ l k hk, ← h.2.1, hv] at this
    simp [wOk, hc]; omega
theorem wOk_no {l : List Int} {k : Nat} (hk : k < l.length) (h : inR (l.getD k 0) = false) : wOk l = false := by simp [wOk, allR_no hk h]
theorem WInv.done {l : List Int} {s : Int} (h : WInv l l.length s) : wOk l = true ∧ s = tot l := by
  obtain ⟨a, b, c, d⟩ := h
  rw [List.take_length] at a b
  subst b
  exact ⟨by simp [wOk, a]; omega, rfl⟩
theorem w_no {l : List Int} (h : wOk l = false) : wN l = 0 ∧ wE l = 26 := by simp [wN, wE, h]
theorem w_yes {l : List Int} (h : wOk l = true) : wN l = tot l ∧ wE l = 0 := by simp [wN, wE, h]

/-! digitwise division -/
theorem step_div (D A b c t : Nat) (hc : 0 < c) : (D * A + t) * b / c = D * (A * b / c) + (D * (A * b % c) + t * b) / c ∧ (D * A + t) * b % c = (D * (A * b % c) + t * b) % c := by
  have e : (D * A + t) * b = c * (D * (A * b / c)) + (D * (A * b % c) + t * b) := by
    have h := Nat.div_add_mod (A * b) c
    have h2 : (D * A + t) * b = D * (A * b) + t * b := by rw [Nat.add_mul, Nat.mul_assoc]
    have h3 : D * (A * b) = D * (c * (A * b / c)) + D * (A * b % c) := by rw [← Nat.mul_add, h]
    have h4 : D * (c * (A * b / c)) = c * (D * (A * b / c)) := Nat.mul_left_comm _ _ _
    omega
  rw [e]
  exact ⟨by rw [Nat.mul_add_div hc], by rw [Nat.mul_add_mod]⟩

def PInv (a b c k : Nat) (q r : Int) : Prop :=
  q = ((a / 4 ^ (31 - k) * b / c : Nat) : Int) ∧ r = ((a / 4 ^ (31 - k) * b % c : Nat) : Int)
def digit (a k : Nat) : Nat := a / 4 ^ (30 - k) % 4
theorem digit_lt (a k : Nat) : digit a k < 4 := Nat.mod_lt _ (by omega)
theorem quart_step (a k : Nat) (hk : k < 31) : a / 4 ^ (31 - (k + 1)) = 4 * (a / 4 ^ (31 - k)) + digit a k := by
  have e : 31 - k = (30 - k) + 1 := by omega
  have e2 : 31 - (k + 1) = 30 - k := by omega
  rw [e, e2, Nat.pow_succ, ← Nat.div_div_eq_div_mul]
  unfold digit
  omega
theorem PInv.start (a b c : Nat) (ha : a ≤ 1152921504606846976) : PInv a b c 0 0 0 := by
  have h : a / 4 ^ (31 - 0) = 0 := Nat.div_eq_of_lt (by omega)
  unfold PInv; rw [h]; simp
theorem quot_le {a b c : Nat} (h : b ≤ c) : a * b / c ≤ a := by
  rcases Nat.eq_zero_or_pos c with h0 | h0
  · subst h0; simp
  · exact Nat.div_le_of_le_mul (by rw [Nat.mul_comm c a]; exact Nat.mul_le_mul_left _ h)
theorem PInv.bounds {a b c k : Nat} {q r : Int} (h : PInv a b c k q r) (hc : 0 < c) (hb : b ≤ c) : 0 ≤ q ∧ q ≤ a ∧ (k < 31 → 4 * q ≤ a) ∧ 0 ≤ r ∧ r < c := by
  obtain ⟨h1, h2⟩ := h
  have m := Nat.mod_lt (a / 4 ^ (31 - k) * b) hc
  have q1 := @quot_le (a / 4 ^ (31 - k)) b c hb
  have q2 := Nat.div_le_self a (4 ^ (31 - k))
  have q3 : k < 31 → 4 * (a / 4 ^ (31 - k)) ≤ a := fun hlt => by
    have := quart_step a k hlt
    have := Nat.div_le_self a (4 ^ (31 - (k + 1)))
    omega
  generalize a / 4 ^ (31 - k) * b / c = X at *
  generalize a / 4 ^ (31 - k) * b % c = Y at *
  refine ⟨by omega, by omega, fun hlt => by have := q3 hlt; omega, by omega, by omega⟩
theorem PInv.step {a b c k : Nat} {q r : Int} (h : PInv a b c k q r) (hk : k < 31) (hc : 0 < c) (t v : Int) (ht : t = digit a k) (hv : v = 4 * r + t * b) :
    PInv a b c (k + 1) (4 * q + v / (c : Int)) (v % (c : Int)) := by
  obtain ⟨hq, hr⟩ := h
  obtain ⟨s1, s2⟩ := step_div 4 (a / 4 ^ (31 - k)) b c (digit a k) hc
  rw [← quart_step a k hk] at s1 s2
  have ev : v = ((4 * (a / 4 ^ (31 - k) * b % c) + digit a k * b : Nat) : Int) := by
    rw [hv, hr, ht]; simp only [Int.natCast_add, Int.natCast_mul, Int.natCast_emod]; rfl
  unfold PInv
  rw [s1, s2, ev, hq]
  constructor
  · simp only [Int.natCast_add, Int.natCast_mul, Int.natCast_ediv, Int.natCast_emod]; rfl
  · rfl

/-- total times weight by sum, rounded down -/
def pq (a b c : Int) : Int := a * b / c
def pr (a b c : Int) : Int := a * b % c
theorem PInv.done {a b c : Nat} {q r : Int} (h : PInv a b c 31 q r) : q = pq a b c ∧ r = pr a b c := by
  obtain ⟨hq, hr⟩ := h
  simp only [Nat.sub_self, Nat.pow_zero, Nat.div_one] at hq hr
  unfold pq pr
  rw [hq, hr]
  exact ⟨by rw [Int.natCast_ediv, Int.natCast_mul], by rw [Int.natCast_emod, Int.natCast_mul]⟩

/-- the reference's, bit by bit, with the quotient not yet taken out -/
def BInv (a b c k : Nat) (q r : Int) : Prop := q * c + r = ((a / 2 ^ (61 - k) * b : Nat) : Int) ∧ 0 ≤ q ∧ 0 ≤ r
def bitAt (a k : Nat) : Nat := a / 2 ^ (60 - k) % 2
theorem half_step (a k : Nat) (hk : k < 61) : a / 2 ^ (61 - (k + 1)) = 2 * (a / 2 ^ (61 - k)) + bitAt a k := by
  have e : 61 - k = (60 - k) + 1 := by omega
  have e2 : 61 - (k + 1) = 60 - k := by omega
  rw [e, e2, Nat.pow_succ, ← Nat.div_div_eq_div_mul]
  unfold bitAt
  omega
theorem bit_01 (a k : Nat) : bitAt a k = 0 ∨ bitAt a k = 1 := by unfold bitAt; omega
theorem BInv.start (a b c : Nat) (ha : a ≤ 1152921504606846976) : BInv a b c 0 0 0 := by
  have h : a / 2 ^ (61 - 0) = 0 := Nat.div_eq_of_lt (by omega)
  unfold BInv; rw [h]; simp
theorem BInv.double {a b c k : Nat} {q r : Int} (h : BInv a b c k q r) (hk : k < 61) (z : Int) (hz : z = 2 * r + bitAt a k * b) : BInv a b c (k + 1) (2 * q) z := by
  obtain ⟨h1, h2, h3⟩ := h
  refine ⟨?_, by omega, ?_⟩
  · rw [half_step a k hk, hz, Nat.add_mul, Int.natCast_add, Nat.mul_assoc, Int.natCast_mul, ← h1, Int.natCast_mul, Int.mul_assoc]
    have : ((2 : Nat) : Int) = 2 := rfl
    rw [this, Int.mul_add]; omega
  · have : (0 : Int) ≤ (bitAt a k : Int) * b := Int.mul_nonneg (Int.natCast_nonneg _) (Int.natCast_nonneg _)
    omega
theorem BInv.less {a b c k : Nat} {q r : Int} (h : BInv a b c k q r) (hr : (c : Int) ≤ r) : BInv a b c k (q + 1) (r - c) := by
  obtain ⟨h1, h2, h3⟩ := h
  refine ⟨?_, by omega, by omega⟩
  rw [← h1, Int.add_mul]; omega
theorem BInv.q_le {a b c k : Nat} {q r : Int} (h : BInv a b c k q r) (hc : 0 < c) (hb : b ≤ c) : q ≤ a := by
  obtain ⟨h1, h2, h3⟩ := h
  have hA := Nat.div_le_self a (2 ^ (61 - k))
  have h4 : a / 2 ^ (61 - k) * b ≤ a * c := Nat.mul_le_mul hA hb
  have h5 : q * c ≤ (a : Int) * c := by
    have : ((a / 2 ^ (61 - k) * b : Nat) : Int) ≤ ((a * c : Nat) : Int) := by omega
    rw [Int.natCast_mul a c] at this
    omega
  exact Int.le_of_mul_le_mul_right h5 (by omega)
theorem BInv.done {a b c : Nat} {q r : Int} (h : BInv a b c 61 q r) (hr : r < c) : q = pq a b c ∧ r = pr a b c := by
  obtain ⟨h1, h2, h3⟩ := h
  simp only [Nat.sub_self, Nat.pow_zero, Nat.div_one, Int.natCast_mul] at h1
  unfold pq pr
  rw [← h1]
  constructor
  · rw [Int.add_comm, Int.add_mul_ediv_right _ _ (by omega), Int.ediv_eq_zero_of_lt h3 hr]; omega
  · rw [Int.add_comm, Int.add_mul_emod_self_right, Int.emod_eq_of_lt h3 hr]
end SM

namespace Go.Proofs.Ythippdmfeeopkaa
open Go.RowKit

theorem inrange_any (n : Int) (w : World) : Calls Try.prog 118 #[.int .i64 n] w fun e w' => e = .returned (.bool (SM.inR n)) ∧ w = w' := by
  by_cases h1 : 0 ≤ n
  · by_cases h2 : n ≤ 1152921504606846976
    · have h : SM.inR n = true := SM.inR_true.2 ⟨h1, h2⟩
      rw [h]; clear h
      go_enter Try.func118, Try.ntmps118
      go_wp2
      go_ret
      exact ⟨rfl, rfl⟩
    · have h : SM.inR n = false := SM.inR_false.2 (by omega)
      rw [h]; clear h
      go_enter Try.func118, Try.ntmps118
      go_wp2
      go_ret
      exact ⟨rfl, rfl⟩
  · have h : SM.inR n = false := SM.inR_false.2 (by omega)
    rw [h]; clear h
    go_enter Try.func118, Try.ntmps118
    go_wp2
    go_ret
    exact ⟨rfl, rfl⟩

theorem smoney_any (n : Int) (w : World) : Calls Try.prog 121 #[.int .i64 n] w fun e w' => e = .returned (.bool (SM.inR n)) ∧ w = w' := by
  by_cases h1 : 0 ≤ n
  · by_cases h2 : n ≤ 1152921504606846976
    · have h : SM.inR n = true := SM.inR_true.2 ⟨h1, h2⟩
      rw [h]; clear h
      go_enter Try.func121, Try.ntmps121
      go_wp2
      go_ret
      exact ⟨rfl, rfl⟩
    · have h : SM.inR n = false := SM.inR_false.2 (by omega)
      rw [h]; clear h
      go_enter Try.func121, Try.ntmps121
      go_wp2
      go_ret
      exact ⟨rfl, rfl⟩
  · have h : SM.inR n = false := SM.inR_false.2 (by omega)
    rw [h]; clear h
    go_enter Try.func121, Try.ntmps121
    go_wp2
    go_ret
    exact ⟨rfl, rfl⟩

/-- the error of Fill and Back -/
def rowE (total : Int) (l : List Int) : Int := if SM.inR total && SM.allR l then (if 1024 < l.length then 8 else 0) else 2

set_option maxHeartbeats 1000000 in
theorem sumof_any (A : Option Addr) (zs : List Int) (cap : Nat) (w : World) (hI : Ints w A zs) :
    Calls Try.prog 119 #[.slice A zs.length cap] w fun e w' => e = .returned (.tuple #[.int .i64 (SM.sN zs), .int .i64 (SM.sE zs)]) ∧ w = w' := by
  have hlen := hI.len
  by_cases hlong : 1024 < zs.length
  · have e1 : SM.sN zs = 0 := by simp [SM.sN, hlong]
    have e2 : SM.sE zs = 8 := by simp [SM.sE, hlong]
    rw [e1, e2]; clear e1 e2
    go_enter Try.func119, Try.ntmps119
    go_wp2
    go_ret2
    exact ⟨rfl, rfl⟩
  · have e1 : SM.sN zs = SM.wN zs := by simp [SM.sN, hlong]
    have e2 : SM.sE zs = SM.wE zs := by simp [SM.sE, hlong]
    rw [e1, e2]; clear e1 e2
    go_enter Try.func119, Try.ntmps119
    go_wp2
    go_loop [2, 11] (fun s i => ∃ k : Nat, ∃ x : Int, k ≤ zs.length ∧ i = .int .i64 k ∧ s = .int .i64 x ∧ SM.WInv zs k x) (fun _ i => zs.length - (intOf i).toNat)
    case atStart => exact ⟨0, 0, by omega, rfl, rfl, SM.WInv.start zs⟩
    case round =>
      obtain ⟨k, x, hk, rfl, rfl, hS⟩ := hrel
      obtain ⟨x1, x2⟩ := hS.bounds
      by_cases hlt : k < zs.length
      · obtain ⟨b, off, v, rfl, hb, hcell, HV, v1, v2⟩ := hI.get hlt
        have HI := Lib.hid hI
        clear hI
        cases hf : SM.inR v
        · have HE := Lib.hid (SM.w_no (SM.wOk_no hlt (by rw [HV.out]; exact hf)))
          go_wp2_with (go_at_call 118; refine (inrange_any _ _).mono ?_; rintro e w' ⟨rfl, rfl⟩)
          go_ret2
          exact ⟨by rw [HE.out.1, HE.out.2]; rfl, rfl⟩
        · obtain ⟨g1, g2⟩ := SM.inR_true.1 hf
          by_cases hs : 1152921504606846976 - x < v
          · have HE := Lib.hid (SM.w_no (hS.over hlt HV.out hs))
            go_wp2_with (go_at_call 118; refine (inrange_any _ _).mono ?_; rintro e w' ⟨rfl, rfl⟩)
            go_ret2
            exact ⟨by rw [HE.out.1, HE.out.2]; rfl, rfl⟩
          · have HN := Lib.hid (hS.step hlt HV.out hf (by omega))
            go_wp2_with (go_at_call 118; refine (inrange_any _ _).mono ?_; rintro e w' ⟨rfl, rfl⟩)
            go_round
            case rel => exact ⟨k + 1, _, by omega, by go_num, rfl, HN.out⟩
            case measure => simp [intOf]; omega
      · obtain rfl : k = zs.length := by omega
        obtain ⟨d1, d2⟩ := hS.done
        have HE := Lib.hid (SM.w_yes d1)
        have D2 := Lib.hid d2
        clear d1 d2
        go_wp2
        go_ret2
        exact ⟨by rw [HE.out.1, HE.out.2, ← D2.out]; rfl, rfl⟩

set_option maxHeartbeats 1000000 in
theorem rweights_any (A : Option Addr) (zs : List Int) (cap : Nat) (w : World) (hI : Ints w A zs) :
    Calls Try.prog 122 #[.slice A zs.length cap] w fun e w' => e = .returned (.tuple #[.int .i64 (SM.wN zs), .int .i64 (SM.wE zs)]) ∧ w = w' := by
  have hlen := hI.len
  go_enter Try.func122, Try.ntmps122
  go_wp2
  go_loop [5] (fun i => ∃ k : Nat, k ≤ zs.length ∧ i = .int .i64 k ∧ Hid (SM.allR (zs.take k) = true)) (fun i => zs.length - (intOf i).toNat)
  case atStart => exact ⟨0, by omega, rfl, rfl⟩
  case round =>
    obtain ⟨k, hk, rfl, HA⟩ := hrel
    by_cases hlt : k < zs.length
    · obtain ⟨b, off, v, rfl, hb, hcell, HV, v1, v2⟩ := hI.get hlt
      have HI := Lib.hid hI
      clear hI
      cases hf : SM.inR v
      · have HE := Lib.hid (SM.w_no (SM.wOk_no hlt (by rw [HV.out]; exact hf)))
        go_wp2_with (go_at_call 121; refine (smoney_any _ _).mono ?_; rintro e w' ⟨rfl, rfl⟩)
        go_ret2
        exact ⟨by rw [HE.out.1, HE.out.2]; rfl, rfl⟩
      · have HN : Hid (SM.allR (zs.take (k + 1)) = true) := by rw [SM.allR_take_succ zs k hlt, HA.out, HV.out, hf]; exact rfl
        go_wp2_with (go_at_call 121; refine (smoney_any _ _).mono ?_; rintro e w' ⟨rfl, rfl⟩)
        go_round
        case rel => exact ⟨k + 1, by omega, by go_num, HN⟩
        case measure => simp [intOf]; omega
    · obtain rfl : k = zs.length := by omega
      rw [List.take_length] at HA
      go_wp2
      go_loop [4, 6] (fun s i => ∃ k : Nat, ∃ x : Int, k ≤ zs.length ∧ i = .int .i64 k ∧ s = .int .i64 x ∧ SM.WInv zs k x) (fun _ i => zs.length - (intOf i).toNat)
      case atStart => exact ⟨0, 0, by omega, rfl, rfl, SM.WInv.start zs⟩
      case round =>
        obtain ⟨k, x, hk, rfl, rfl, hS⟩ := hrel
        obtain ⟨x1, x2⟩ := hS.bounds
        by_cases hlt : k < zs.length
        · obtain ⟨b, off, v, rfl, hb, hcell, HV, v1, v2⟩ := hI.get hlt
          have HI := Lib.hid hI
          clear hI
          have hf : SM.inR v = true := by
            rw [← HV.out]; exact SM.inR_true.2 (SM.allR_get HA.out hlt)
          obtain ⟨g1, g2⟩ := SM.inR_true.1 hf
          by_cases hs : 1152921504606846976 - x < v
          · have HE := Lib.hid (SM.w_no (hS.over hlt HV.out hs))
            go_wp2
            go_ret2
            exact ⟨by rw [HE.out.1, HE.out.2]; rfl, rfl⟩
          · have HN := Lib.hid (hS.step hlt HV.out hf (by omega))
            go_wp2
            go_round
            case rel => exact ⟨k + 1, _, by omega, by go_num, rfl, HN.out⟩
            case measure => simp [intOf]; omega
        · obtain rfl : k = zs.length := by omega
          obtain ⟨d1, d2⟩ := hS.done
          have HE := Lib.hid (SM.w_yes d1)
          have D2 := Lib.hid d2
          clear d1 d2
          go_wp2
          go_ret2
          exact ⟨by rw [HE.out.1, HE.out.2, ← D2.out]; rfl, rfl⟩
end Go.Proofs.Ythippdmfeeopkaa

namespace Go.Proofs.Ythippdmfeeopkaa
open Go.RowKit

theorem and_three (t : Nat) (ht : t ≤ 1152921504606846976) : bits BinOp.and IntKind.i64 (t : Int) 3 = ((t % 4 : Nat) : Int) := by
  have h1 : (BitVec.ofInt 64 (t : Int)).toNat = t := by
    rw [BitVec.ofInt_natCast, BitVec.toNat_ofNat]; exact Nat.mod_eq_of_lt (by omega)
  have h2 : (BitVec.ofInt 64 (3 : Int)).toNat = 3 := rfl
  have h3 : t &&& 3 = t % 4 := Nat.and_two_pow_sub_one_eq_mod t 2
  show IntKind.i64.wrap ((BitVec.ofInt 64 (t : Int) &&& BitVec.ofInt 64 (3 : Int)).toNat : Int) = _
  rw [BitVec.toNat_and, h1, h2, h3, IntKind.wrap_i64]
  omega

theorem digit_is (a k : Nat) (ha : a ≤ 1152921504606846976) : bits BinOp.and IntKind.i64 ((a : Int) / 2 ^ (2 * (30 - k))) 3 = SM.digit a k := by
  have e : ((a : Int) / 2 ^ (2 * (30 - k))) = ((a / 4 ^ (30 - k) : Nat) : Int) := by
    rw [Int.natCast_ediv, Int.natCast_pow, Int.pow_mul]; rfl
  rw [e, and_three _ (Nat.le_trans (Nat.div_le_self _ _) ha)]
  rfl

set_option maxHeartbeats 1000000 in
theorem portion_nat (a b c : Nat) (w : World) (ha : a ≤ 1152921504606846976) (hb : b ≤ c) (hc0 : 0 < c) (hc : c ≤ 1152921504606846976) :
    Calls Try.prog 141 #[.int .i64 a, .int .i64 b, .int .i64 c] w fun e w' => e = .returned (.tuple #[.int .i64 (SM.pq a b c), .int .i64 (SM.pr a b c)]) ∧ ∃ n, w' = w.drewN n := by
  go_enter Try.func141, Try.ntmps141
  go_wp2
  go_loopw [6, 7, 11] (fun q r i wr => ∃ k : Nat, ∃ x y : Int, k ≤ 31 ∧ i = .int .i64 k ∧ q = .int .i64 x ∧ r = .int .i64 y ∧ SM.PInv a b c k x y ∧ ∃ n, wr = w.drewN n) (fun _ _ i _ => 31 - (intOf i).toNat)
  case atStart => exact ⟨0, 0, 0, by omega, rfl, rfl, rfl, SM.PInv.start a b c ha, 0, rfl⟩
  case round =>
    obtain ⟨k, x, y, hk, rfl, rfl, rfl, hD, n, rfl⟩ := hrel
    obtain ⟨hx0, hx1, hx2, hy0, hy1⟩ := hD.bounds hc0 hb
    by_cases hlt : k < 31
    · clear hx2
      have hd4 := SM.digit_lt a k
      have ht := digit_is a k ha
      obtain ⟨t, ht2⟩ : ∃ t : Int, (SM.digit a k : Int) = t := ⟨_, rfl⟩
      have t0 : 0 ≤ t := by omega
      have t3 : t ≤ 3 := by omega
      obtain ⟨p, hp⟩ : ∃ p : Int, t * (b : Int) = p := ⟨_, rfl⟩
      have p0 : 0 ≤ p := by rw [← hp]; exact Int.mul_nonneg t0 (by omega)
      have p1 : p ≤ 3 * b := by rw [← hp]; exact Int.mul_le_mul_of_nonneg_right t3 (by omega)
      have hN := hD.step hlt hc0 t (4 * y + p) ht2.symm (by rw [hp])
      obtain ⟨n0, n1, _, n3, n4⟩ := hN.bounds hc0 hb
      have HN := Lib.hid hN
      rw [ht2] at ht
      clear hN ht2 hd4
      have e1 : wrap64 (4 * x + (4 * y + p) / (c : Int)) = 4 * x + (4 * y + p) / (c : Int) := IntWalk.wrap64_in _ (by omega)
      go_wp2
      go_quiet (fail)
      go_wp2
      go_roundw
      case rel => exact ⟨k + 1, _, _, by omega, by go_num, rfl, rfl, HN.out, _, rfl⟩
      case measure => simp [intOf]; omega
    · obtain rfl : k = 31 := by omega
      obtain ⟨d1, d2⟩ := hD.done
      have D1 := Lib.hid d1; have D2 := Lib.hid d2
      clear d1 d2 hx2
      go_wp2
      go_ret2
      exact ⟨by rw [← D1.out, ← D2.out]; rfl, _, rfl⟩

theorem portion_any (a b c : Int) (w : World) (a0 : 0 ≤ a) (ha : a ≤ 1152921504606846976) (b0 : 0 ≤ b) (hb : b ≤ c) (hc0 : 0 < c) (hc : c ≤ 1152921504606846976) :
    Calls Try.prog 141 #[.int .i64 a, .int .i64 b, .int .i64 c] w fun e w' => e = .returned (.tuple #[.int .i64 (SM.pq a b c), .int .i64 (SM.pr a b c)]) ∧ ∃ n, w' = w.drewN n := by
  obtain ⟨x, rfl⟩ := Int.eq_ofNat_of_zero_le a0
  obtain ⟨y, rfl⟩ := Int.eq_ofNat_of_zero_le b0
  obtain ⟨z, rfl⟩ := Int.eq_ofNat_of_zero_le (Int.le_of_lt hc0)
  exact portion_nat x y z w (by omega) (by omega) (by omega) (by omega)

theorem quo_bit (a k : Nat) (hk : k < 61) : (a : Int) / ((1152921504606846976 / 2 ^ k : Nat) : Int) = ((a / 2 ^ (60 - k) : Nat) : Int) := by
  have e : 1152921504606846976 / 2 ^ k = 2 ^ (60 - k) := by
    rw [show 1152921504606846976 = 2 ^ 60 by rfl, Nat.pow_div (by omega) (by omega)]
  rw [e]; rfl
theorem bit_pos (k : Nat) (hk : k < 61) : 0 < 1152921504606846976 / 2 ^ k := by
  rw [show 1152921504606846976 = 2 ^ 60 by rfl, Nat.pow_div (by omega) (by omega)]
  exact Nat.two_pow_pos _
theorem bit_half (k : Nat) : ((1152921504606846976 / 2 ^ k : Nat) : Int) / 2 = ((1152921504606846976 / 2 ^ (k + 1) : Nat) : Int) := by
  rw [Nat.pow_succ, ← Nat.div_div_eq_div_mul]; rfl

/-- the unit of round k -/
def unit (k : Nat) : Int := ((1152921504606846976 / 2 ^ k : Nat) : Int)
theorem unit_le (k : Nat) : 0 ≤ unit k ∧ unit k ≤ 1152921504606846976 := by
  have h := Nat.div_le_self 1152921504606846976 (2 ^ k)
  unfold unit
  generalize 1152921504606846976 / 2 ^ k = u at *
  omega

set_option maxHeartbeats 2000000 in
theorem rdiv_nat (a b c : Nat) (w : World) (ha : a ≤ 1152921504606846976) (hb : b ≤ c) (hc0 : 0 < c) (hc : c ≤ 1152921504606846976) :
    Calls Try.prog 123 #[.int .i64 a, .int .i64 b, .int .i64 c] w fun e w' => e = .returned (.tuple #[.int .i64 (SM.pq a b c), .int .i64 (SM.pr a b c)]) ∧ w = w' := by
  go_enter Try.func123, Try.ntmps123
  go_wp2
  go_loop [8, 9, 10, 11] (fun q r u i => ∃ k : Nat, ∃ x y : Int, k ≤ 61 ∧ i = .int .i64 k ∧ u = .int .i64 (unit k) ∧ q = .int .i64 x ∧ r = .int .i64 y ∧ y < c ∧ SM.BInv a b c k x y) (fun _ _ _ i => 61 - (intOf i).toNat)
  case atStart => exact ⟨0, 0, 0, by omega, rfl, rfl, rfl, rfl, by omega, SM.BInv.start a b c ha⟩
  case round =>
    obtain ⟨k, x, y, hk, rfl, rfl, rfl, rfl, hyc, hD⟩ := hrel
    have hq := hD.q_le hc0 hb
    have hx0 := hD.2.1
    have hy0 := hD.2.2
    by_cases hlt : k < 61
    · obtain ⟨u0, u1⟩ := unit_le k
      have up : 0 < unit k := by have := bit_pos k hlt; unfold unit; omega
      have eh : unit k / 2 = unit (k + 1) := bit_half k
      obtain ⟨d, eb, d0, d1, hbit⟩ : ∃ d : Int, (a : Int) / unit k = d ∧ 0 ≤ d ∧ d ≤ a ∧ d % 2 = SM.bitAt a k := by
        refine ⟨((a / 2 ^ (60 - k) : Nat) : Int), quo_bit a k hlt, Int.natCast_nonneg _, ?_, rfl⟩
        have := Nat.div_le_self a (2 ^ (60 - k)); omega
      obtain ⟨z, z0, z1, HB, tb⟩ : ∃ z : Int, 0 ≤ z ∧ z < 3 * c ∧ Hid (SM.BInv a b c (k + 1) (2 * x) z) ∧
          ((d % 2 == 1) = true ∧ z = 2 * y + b ∨ (d % 2 == 1) = false ∧ z = 2 * y) := by
        rcases SM.bit_01 a k with h0 | h1
        · exact ⟨2 * y, by omega, by omega, hD.double hlt _ (by rw [h0]; omega), .inr ⟨by simp; omega, rfl⟩⟩
        · exact ⟨2 * y + b, by omega, by omega, hD.double hlt _ (by rw [h1]; omega), .inl ⟨by simp; omega, rfl⟩⟩
      have hq2 := SM.BInv.q_le HB.out hc0 hb
      clear hbit hD
      rcases tb with ⟨tb, rfl⟩ | ⟨tb, rfl⟩
      all_goals
        go_wp2
        go_loop [8, 9] (fun q r => ∃ x' y' : Int, q = .int .i64 x' ∧ r = .int .i64 y' ∧ y' < 3 * c ∧ SM.BInv a b c (k + 1) x' y') (fun _ r => (intOf r).toNat)
        case atStart => exact ⟨_, _, rfl, rfl, z1, HB.out⟩
        case round =>
          obtain ⟨x', y', rfl, rfl, hy3, hD⟩ := hrel
          have hq' := hD.q_le hc0 hb
          have hx0' := hD.2.1
          have hy0' := hD.2.2
          by_cases hge : (c : Int) ≤ y'
          · have HL := Lib.hid (hD.less hge)
            go_wp2
            go_round
            case rel => exact ⟨_, _, rfl, rfl, by omega, HL.out⟩
            case measure => simp [intOf]; omega
          · have HD := Lib.hid hD
            clear hD HB
            go_wp2
            go_round
            case rel => exact ⟨k + 1, _, _, by omega, by go_num, by rw [eh], rfl, rfl, by omega, HD.out⟩
            case measure => simp [intOf]; omega
    · obtain rfl : k = 61 := by omega
      obtain ⟨d1, d2⟩ := hD.done hyc
      have D1 := Lib.hid d1; have D2 := Lib.hid d2
      clear d1 d2
      go_wp2
      go_ret2
      exact ⟨by rw [← D1.out, ← D2.out]; rfl, rfl⟩

theorem rdiv_any (a b c : Int) (w : World) (a0 : 0 ≤ a) (ha : a ≤ 1152921504606846976) (b0 : 0 ≤ b) (hb : b ≤ c) (hc0 : 0 < c) (hc : c ≤ 1152921504606846976) :
    Calls Try.prog 123 #[.int .i64 a, .int .i64 b, .int .i64 c] w fun e w' => e = .returned (.tuple #[.int .i64 (SM.pq a b c), .int .i64 (SM.pr a b c)]) ∧ w = w' := by
  obtain ⟨x, rfl⟩ := Int.eq_ofNat_of_zero_le a0
  obtain ⟨y, rfl⟩ := Int.eq_ofNat_of_zero_le b0
  obtain ⟨z, rfl⟩ := Int.eq_ofNat_of_zero_le (Int.le_of_lt hc0)
  exact rdiv_nat x y z w (by omega) (by omega) (by omega) (by omega)
end Go.Proofs.Ythippdmfeeopkaa

/- The largest remainders, one cent each. -/
namespace SM
open LM

/-- the place of the greatest among the first k, the first of equals -/
def amaxK (r : List Int) : Nat → Nat
  | 0 => 0
  | k + 1 => if r.getD (amaxK r k) 0 < r.getD k 0 then k else amaxK r k
def amax (r : List Int) : Nat := amaxK r r.length

theorem amaxK_lt (r : List Int) (k : Nat) (hk : 0 < k) : amaxK r k < k := by
  induction k with
  | zero => omega
  | succ k ih =>
    simp only [amaxK]
    split
    · omega
    · rcases Nat.eq_zero_or_pos k with h | h
      · subst h; simp [amaxK]
      · have := ih h; omega
theorem amax_lt (r : List Int) (h : 0 < r.length) : amax r < r.length := amaxK_lt r _ h
theorem amaxK_le (r : List Int) (k : Nat) : ∀ j, j < k → r.getD j 0 ≤ r.getD (amaxK r k) 0 := by
  induction k with
  | zero => intro j hj; omega
  | succ k ih =>
    intro j hj
    simp only [amaxK]
    split
    · rcases Nat.lt_or_ge j k with h | h
      · have := ih j h; omega
      · obtain rfl : j = k := by omega
        omega
    · rcases Nat.lt_or_ge j k with h | h
      · exact ih j h
      · obtain rfl : j = k := by omega
        omega
theorem amaxK_first (r : List Int) (k : Nat) : ∀ j, j < amaxK r k → r.getD j 0 < r.getD (amaxK r k) 0 := by
  induction k with
  | zero => intro j hj; simp [amaxK] at hj
  | succ k ih =>
    intro j hj
    simp only [amaxK] at hj ⊢
    split at hj
    · rename_i hc
      rw [if_pos hc]
      have := amaxK_le r k j hj
      omega
    · rename_i hc
      rw [if_neg hc]
      exact ih j hj

/-- one of the list is the first greatest: the only one such -/
theorem amax_unique (r : List Int) (i : Nat) (hi : i < r.length) (h1 : ∀ j, j < r.length → r.getD j 0 ≤ r.getD i 0) (h2 : ∀ j, j < i → r.getD j 0 < r.getD i 0) : amax r = i := by
  have a1 := amaxK_le r r.length
  have a2 := amaxK_first r r.length
  have a3 := amax_lt r (by omega)
  unfold amax at *
  rcases Nat.lt_trichotomy (amaxK r r.length) i with h | h | h
  · have := h2 _ h
    have := a1 i hi
    omega
  · exact h
  · have := a2 _ h
    have := h1 _ a3
    omega

def inc (p : List Int) (i : Nat) : List Int := p.set i (p.getD i 0 + 1)
def dstep (c : Int) (s : List Int × List Int) : List Int × List Int := (inc s.1 (amax s.2), s.2.set (amax s.2) c)
def diter (c : Int) : Nat → List Int × List Int → List Int × List Int
  | 0, s => s
  | t + 1, s => dstep c (diter c t s)

theorem diter_len (c : Int) (t : Nat) (s : List Int × List Int) : (diter c t s).1.length = s.1.length ∧ (diter c t s).2.length = s.2.length := by
  induction t with
  | zero => exact ⟨rfl, rfl⟩
  | succ t ih => simp [diter, dstep, inc, ih.1, ih.2]

theorem getD_set (l : List Int) (i j : Nat) (x : Int) (hi : i < l.length) : (l.set i x).getD j 0 = if i = j then x else l.getD j 0 := by
  simp only [List.getD, List.getElem?_set]
  by_cases h : i = j
  · subst h; simp [hi]
  · simp [h]

theorem tot_set (l : List Int) (i : Nat) (x : Int) (hi : i < l.length) : tot (l.set i x) = tot l - l.getD i 0 + x := by
  induction l generalizing i with
  | nil => simp at hi
  | cons y l ih =>
    cases i with
    | zero => simp [tot]; omega
    | succ i =>
      have := ih i (by simpa using hi)
      simp only [List.set_cons_succ, tot, this]
      simp [List.getD]; omega

theorem exists_pos (l : List Int) (h : 0 < tot l) : ∃ j, j < l.length ∧ 0 < l.getD j 0 := by
  induction l with
  | nil => simp [tot] at h
  | cons x l ih =>
    simp only [tot] at h
    by_cases hx : 0 < x
    · exact ⟨0, by simp, by simpa using hx⟩
    · obtain ⟨j, hj, hp⟩ := ih (by omega)
      exact ⟨j + 1, by simp; omega, by simpa [List.getD] using hp⟩

/-- what holds of the program's rounds: P says who got a cent -/
structure DI (all : Int) (n left : Nat) (q r : List Int) (t : Nat) (s : List Int × List Int) (P : Nat → Bool) : Prop where
  l1 : s.1.length = n
  l2 : s.2.length = n
  part : ∀ j, j < n → s.1.getD j 0 = q.getD j 0 + if P j then 1 else 0
  rem : ∀ j, j < n → s.2.getD j 0 = if P j then 0 else r.getD j 0
  pos : ∀ j, j < n → P j = true → 0 < r.getD j 0
  ord : ∀ j k, j < n → k < n → P j = true → P k = false → r.getD k 0 < r.getD j 0 ∨ (r.getD k 0 = r.getD j 0 ∧ j < k)
  sum : tot s.1 = tot q + t
  room : all * ((left : Int) - t) ≤ tot s.2

theorem DI.start {all : Int} {n left : Nat} {q r : List Int} (hq : q.length = n) (hr : r.length = n) (hs : tot r = all * left) : DI all n left q r 0 (q, r) (fun _ => false) :=
  ⟨hq, hr, fun j _ => by simp, fun j _ => by simp, fun j _ h => by simp at h, fun j k _ _ h => by simp at h, by simp, by simp [hs]⟩

/-- the place that is found in a round has a remainder -/
theorem DI.found {all : Int} {n left : Nat} {q r : List Int} {t : Nat} {s : List Int × List Int} {P : Nat → Bool} (h : DI all n left q r t s P) (ha : 0 < all) (ht : t < left) :
    amax s.2 < n ∧ 0 < s.2.getD (amax s.2) 0 := by
  have h1 : 0 < all * ((left : Int) - t) := Int.mul_pos ha (by omega)
  have h2 := h.room
  obtain ⟨j, hj, hp⟩ := exists_pos s.2 (by omega)
  have h3 := amax_lt s.2 (by omega)
  have h4 := amaxK_le s.2 s.2.length j hj
  have h5 := h.l2
  refine ⟨by omega, ?_⟩
  unfold amax; omega

theorem DI.step {all : Int} {n left : Nat} {q r : List Int} {t : Nat} {s : List Int × List Int} {P : Nat → Bool} (h : DI all n left q r t s P) (ha : 0 < all) (ht : t < left)
    (hr : ∀ j, j < n → r.getD j 0 < all) : DI all n left q r (t + 1) (dstep 0 s) (fun j => P j || decide (j = amax s.2)) := by
  obtain ⟨hi, hp⟩ := h.found ha ht
  generalize hI : amax s.2 = i at *
  have hPi : P i = false := by
    cases hc : P i
    · rfl
    · have := h.rem i hi; rw [hc, if_pos rfl] at this; omega
  have hri : s.2.getD i 0 = r.getD i 0 := by have := h.rem i hi; rw [hPi] at this; simpa using this
  have l1 := h.l1
  have l2 := h.l2
  refine ⟨by simp [dstep, inc, l1], by simp [dstep, l2], ?_, ?_, ?_, ?_, ?_, ?_⟩
  · intro j hj
    simp only [dstep, inc, hI]
    rw [getD_set _ _ _ _ (by omega)]
    by_cases e : i = j
    · subst e
      have := h.part i hi
      rw [hPi] at this
      simp at this
      simp [this]
    · have := h.part j hj
      rw [if_neg e, this]
      simp [show ¬ j = i from fun x => e x.symm]
  · intro j hj
    simp only [dstep, hI]
    rw [getD_set _ _ _ _ (by omega)]
    by_cases e : i = j
    · subst e; simp
    · have := h.rem j hj
      rw [if_neg e, this]
      simp [show ¬ j = i from fun x => e x.symm]
  · intro j hj hP
    by_cases e : j = i
    · subst e; omega
    · simp [e] at hP; exact h.pos j hj hP
  · intro j k hj hk hPj hPk
    simp only [Bool.or_eq_false_iff, decide_eq_false_iff_not] at hPk
    by_cases e : j = i
    · subst e
      have hrk : s.2.getD k 0 = r.getD k 0 := by have := h.rem k hk; rw [hPk.1] at this; simpa using this
      have m := amaxK_le s.2 s.2.length k (by omega)
      have f := amaxK_first s.2 s.2.length
      unfold amax at hI
      rw [hI] at m f
      rw [hrk, hri] at m
      rcases Int.lt_or_eq_of_le m with h1 | h1
      · exact .inl h1
      · refine .inr ⟨h1, ?_⟩
        rcases Nat.lt_trichotomy j k with h2 | h2 | h2
        · exact h2
        · exact absurd h2.symm hPk.2
        · have := f k h2; omega
    · simp [e] at hPj
      exact h.ord j k hj hk hPj hPk.1
  · simp only [dstep, inc, hI]
    rw [tot_set _ _ _ (by omega)]
    have := h.sum
    push_cast; omega
  · simp only [dstep, hI]
    rw [tot_set _ _ _ (by omega)]
    have h1 := h.room
    have h2 := hr i hi
    have h3 : all * ((left : Int) - ((t + 1 : Nat) : Int)) = all * ((left : Int) - t) - all := by
      rw [show (left : Int) - ((t + 1 : Nat) : Int) = ((left : Int) - t) - 1 by push_cast; omega, Int.mul_sub, Int.mul_one]
    rw [h3]; omega

theorem DI.iter {all : Int} {n left : Nat} {q r : List Int} (hq : q.length = n) (hr : r.length = n) (hs : tot r = all * left) (ha : 0 < all)
    (hlt : ∀ j, j < n → r.getD j 0 < all) : ∀ t, t ≤ left → ∃ P, DI all n left q r t (diter 0 t (q, r)) P
  | 0, _ => ⟨_, DI.start hq hr hs⟩
  | t + 1, ht => by
    obtain ⟨P, hP⟩ := DI.iter hq hr hs ha hlt t (by omega)
    exact ⟨_, hP.step ha (by omega) hlt⟩

/-- the reference's rounds give the same parts: what it marks by -1 the program marks by 0 -/
theorem diter_same {all : Int} {n left : Nat} {q r : List Int} (hq : q.length = n) (hr : r.length = n) (hs : tot r = all * left) (ha : 0 < all)
    (hlt : ∀ j, j < n → r.getD j 0 < all) : ∀ t, t ≤ left →
    (diter (-1) t (q, r)).1 = (diter 0 t (q, r)).1 ∧ ∀ j, j < n → (diter (-1) t (q, r)).2.getD j 0 = (diter 0 t (q, r)).2.getD j 0 ∨ ((diter (-1) t (q, r)).2.getD j 0 = -1 ∧ (diter 0 t (q, r)).2.getD j 0 = 0)
  | 0, _ => ⟨rfl, fun _ _ => .inl rfl⟩
  | t + 1, ht => by
    obtain ⟨i1, i2⟩ := diter_same hq hr hs ha hlt t (by omega)
    obtain ⟨P, hP⟩ := DI.iter hq hr hs ha hlt t (by omega)
    obtain ⟨f1, f2⟩ := hP.found ha (by omega)
    have n1 : (diter (-1) t (q, r)).2.length = n := by rw [(diter_len _ _ _).2]; exact hr
    have n2 : (diter 0 t (q, r)).2.length = n := by rw [(diter_len _ _ _).2]; exact hr
    have e : amax (diter (-1) t (q, r)).2 = amax (diter 0 t (q, r)).2 := by
      have m := amaxK_le (diter 0 t (q, r)).2 (diter 0 t (q, r)).2.length
      have f := amaxK_first (diter 0 t (q, r)).2 (diter 0 t (q, r)).2.length
      have same : (diter (-1) t (q, r)).2.getD (amax (diter 0 t (q, r)).2) 0 = (diter 0 t (q, r)).2.getD (amax (diter 0 t (q, r)).2) 0 := by
        rcases i2 _ f1 with h | h
        · exact h
        · omega
      refine amax_unique _ _ (by omega) ?_ ?_
      · intro j hj
        rw [same]
        have := m j (by omega)
        unfold amax at *
        rcases i2 j (by omega) with h | h <;> omega
      · intro j hj
        rw [same]
        have := f j hj
        unfold amax at *
        rcases i2 j (by omega) with h | h <;> omega
    refine ⟨?_, fun j hj => ?_⟩
    · simp only [diter, dstep, e, i1]
    · simp only [diter, dstep, e]
      rw [getD_set _ _ _ _ (by omega), getD_set _ _ _ _ (by omega)]
      by_cases c : amax (diter 0 t (q, r)).2 = j
      · simp [c]
      · simp only [c, if_false]; exact i2 j hj

/-! what Split makes of a total and weights -/
def qs (total all : Int) (w : List Int) : List Int := w.map fun x => pq total x all
def rs (total all : Int) (w : List Int) : List Int := w.map fun x => pr total x all
def leftOf (total all : Int) (w : List Int) : Int := total - tot (qs total all w)
def parts (total all : Int) (w : List Int) : List Int := (diter 0 (leftOf total all w).toNat (qs total all w, rs total all w)).1
theorem parts_len (total all : Int) (w : List Int) : (parts total all w).length = w.length := by
  unfold parts; rw [(diter_len _ _ _).1]; simp [qs]
theorem qs_len (total all : Int) (w : List Int) : (qs total all w).length = w.length := by simp [qs]
theorem rs_len (total all : Int) (w : List Int) : (rs total all w).length = w.length := by simp [rs]
theorem qs_get (total all : Int) (w : List Int) (k : Nat) (hk : k < w.length) : (qs total all w).getD k 0 = pq total (w.getD k 0) all := by simp [qs, List.getD, hk]
theorem rs_get (total all : Int) (w : List Int) (k : Nat) (hk : k < w.length) : (rs total all w).getD k 0 = pr total (w.getD k 0) all := by simp [rs, List.getD, hk]

/-- the first k of a list, and noughts -/
def pre (l : List Int) (k : Nat) : List Int := l.take k ++ List.replicate (l.length - k) 0
theorem pre_len (l : List Int) (k : Nat) (hk : k ≤ l.length) : (pre l k).length = l.length := by simp [pre]; omega
theorem pre_zero (l : List Int) : pre l 0 = List.replicate l.length 0 := by simp [pre]
theorem pre_full (l : List Int) : pre l l.length = l := by simp [pre]
theorem pre_set (l : List Int) (k : Nat) (hk : k < l.length) : (pre l k).set k (l.getD k 0) = pre l (k + 1) := by
  unfold pre
  rw [take_snoc l k hk, List.set_append_right _ _ (by simp; omega)]
  have e : l.length - k = (l.length - (k + 1)) + 1 := by omega
  rw [List.length_take, Nat.min_eq_left (by omega), Nat.sub_self, e, List.replicate_succ]
  simp

/-- the two divisions of one weight together are its product -/
theorem pqr (total x all : Int) : all * pq total x all + pr total x all = total * x := Int.mul_ediv_add_emod _ _
theorem tot_qr (total all : Int) (w : List Int) : all * tot (qs total all w) + tot (rs total all w) = total * tot w := by
  induction w with
  | nil => simp [qs, rs, tot]
  | cons x w ih =>
    have e := pqr total x all
    simp only [qs, rs, List.map_cons, tot, Int.mul_add] at ih ⊢
    omega
theorem tot_rs (total all : Int) (w : List Int) (h : all = tot w) : tot (rs total all w) = all * leftOf total all w := by
  have := tot_qr total all w
  unfold leftOf
  rw [Int.mul_sub, Int.mul_comm all total]
  subst h; omega
theorem pr_range (total x : Int) {all : Int} (h : 0 < all) : 0 ≤ pr total x all ∧ pr total x all < all := ⟨Int.emod_nonneg _ (by omega), Int.emod_lt_of_pos _ h⟩
theorem rs_range (total all : Int) (w : List Int) (h : 0 < all) (j : Nat) (hj : j < w.length) : 0 ≤ (rs total all w).getD j 0 ∧ (rs total all w).getD j 0 < all := by
  rw [rs_get _ _ _ _ hj]; exact pr_range _ _ h
theorem tot_bounds (l : List Int) (B : Int) (h : ∀ j, j < l.length → 0 ≤ l.getD j 0 ∧ l.getD j 0 < B) (hl : 0 < l.length) : 0 ≤ tot l ∧ tot l < B * l.length := by
  induction l with
  | nil => simp at hl
  | cons x l ih =>
    have h0 := h 0 (by simp)
    simp at h0
    rcases Nat.eq_zero_or_pos l.length with e | e
    · have : l = [] := List.eq_nil_of_length_eq_zero e
      subst this; simp [tot]; omega
    · obtain ⟨a, b⟩ := ih (fun j hj => by have := h (j + 1) (by simp; omega); simpa [List.getD] using this) e
      simp only [tot, List.length_cons]
      have e2 : B * ((l.length + 1 : Nat) : Int) = B * l.length + B := by push_cast; rw [Int.mul_add, Int.mul_one]
      rw [e2]; omega
/-- fewer cents are left than there are weights -/
theorem left_range (total all : Int) (w : List Int) (h : all = tot w) (ha : 0 < all) : 0 ≤ leftOf total all w ∧ leftOf total all w < w.length := by
  have hl : 0 < w.length := by
    rcases Nat.eq_zero_or_pos w.length with e | e
    · have : w = [] := List.eq_nil_of_length_eq_zero e
      subst this; simp [tot] at h; omega
    · exact e
  have hb := tot_bounds (rs total all w) all (fun j hj => rs_range total all w ha j (by rwa [rs_len] at hj)) (by rw [rs_len]; exact hl)
  rw [tot_rs total all w h, rs_len] at hb
  constructor
  · by_cases hn : leftOf total all w < 0
    · have := Int.mul_neg_of_pos_of_neg ha hn; omega
    · omega
  · exact Int.lt_of_mul_lt_mul_left hb.2 (by omega)
theorem pq_nonneg {total x all : Int} (t : 0 ≤ total) (h : 0 ≤ x) (ha : 0 < all) : 0 ≤ pq total x all := Int.ediv_nonneg (Int.mul_nonneg t h) (by omega)
theorem pq_le {total x all : Int} (t : 0 ≤ total) (h : x ≤ all) (ha : 0 < all) : pq total x all ≤ total := by
  unfold pq
  have h1 : total * x ≤ total * all := Int.mul_le_mul_of_nonneg_left h t
  have h2 := Int.ediv_le_ediv ha h1
  rwa [Int.mul_ediv_cancel _ (by omega)] at h2
theorem tot_nonneg' (l : List Int) (h : ∀ j, j < l.length → 0 ≤ l.getD j 0) : 0 ≤ tot l := by
  induction l with
  | nil => exact Int.le_refl _
  | cons x l ih =>
    have h0 := h 0 (by simp)
    have := ih (fun j hj => by have := h (j + 1) (by simp; omega); simpa [List.getD] using this)
    simp at h0
    simp only [tot]; omega
theorem qs_nonneg {total all : Int} {w : List Int} (t : 0 ≤ total) (hw : allR w = true) (ha : 0 < all) (j : Nat) (hj : j < w.length) : 0 ≤ (qs total all w).getD j 0 := by
  rw [qs_get _ _ _ _ hj]; exact pq_nonneg t (allR_get hw hj).1 ha
theorem qs_take {total all : Int} {w : List Int} (t : 0 ≤ total) (hw : allR w = true) (ha : 0 < all) (h : all = tot w) (k : Nat) : 0 ≤ tot ((qs total all w).take k) ∧ tot ((qs total all w).take k) ≤ total := by
  have e : tot (qs total all w) = tot ((qs total all w).take k) + tot ((qs total all w).drop k) := by rw [← tot_append, List.take_append_drop]
  have h1 := tot_nonneg' ((qs total all w).take k) (fun j hj => by
    have hj' : j < k ∧ j < (qs total all w).length := by rw [List.length_take] at hj; omega
    rw [show ((qs total all w).take k).getD j 0 = (qs total all w).getD j 0 by simp [List.getD, hj'.1]]
    exact qs_nonneg t hw ha j (by rw [qs_len] at hj'; exact hj'.2))
  have h2 := tot_nonneg' ((qs total all w).drop k) (fun j hj => by
    have hj' : j < (qs total all w).length - k := by simpa using hj
    rw [show ((qs total all w).drop k).getD j 0 = (qs total all w).getD (k + j) 0 by simp [List.getD]]
    exact qs_nonneg t hw ha _ (by rw [qs_len] at hj'; omega))
  have h3 := (left_range total all w h ha).1
  unfold leftOf at h3
  omega
theorem diter_bound (c : Int) (t : Nat) (s : List Int × List Int) (hl : s.1.length = s.2.length) (j : Nat) : s.1.getD j 0 ≤ (diter c t s).1.getD j 0 ∧ (diter c t s).1.getD j 0 ≤ s.1.getD j 0 + t := by
  induction t with
  | zero => simp [diter]
  | succ t ih =>
    simp only [diter, dstep, inc]
    rcases Nat.eq_zero_or_pos s.1.length with h0 | h0
    · have e : (diter c t s).1 = [] := List.eq_nil_of_length_eq_zero (by rw [(diter_len _ _ _).1]; exact h0)
      rw [e] at ih ⊢
      simp at ih ⊢
      omega
    · have hi : amax (diter c t s).2 < (diter c t s).1.length := by
        have h2 := (diter_len c t s)
        have := amax_lt (diter c t s).2 (by omega)
        omega
      rw [getD_set _ _ _ _ hi]
      split
      · rename_i e
        subst e
        push_cast; omega
      · push_cast; omega
theorem elem_le {w : List Int} (hw : allR w = true) {k : Nat} (hk : k < w.length) : w.getD k 0 ≤ tot w := by
  have h1 := tot_take_le hw (k + 1)
  rw [tot_take_succ w k hk] at h1
  have h2 := tot_nonneg (allR_take hw k)
  omega
end SM
