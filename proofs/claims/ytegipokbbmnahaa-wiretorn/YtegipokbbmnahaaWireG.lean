/- Contracts: texts at a place, the program's. -/
import Derived.Test.YtegipokbbmnahaaWireF
namespace Go.Proofs.Ytegipokbbmnahaa
open Go.RowKit
set_option linter.unusedVariables false

/-- an offset, or nought beside an error -/
def offOr (e : Int) (k : Int) : Int := if e = 0 then k else 0
theorem offOr_ok {e k : Int} (h : e = 0) : offOr e k = k := by unfold offOr; rw [if_pos h]
theorem offOr_no {e k : Int} (h : e ≠ 0) : offOr e k = 0 := by unfold offOr; rw [if_neg h]

theorem text_cases (m : List UInt8) : (XM.intE m ≠ 0 ∧ XM.textE m = XM.intE m ∧ XM.textE m ≠ 0) ∨ (XM.intE m = 0 ∧ XM.intN m < 0 ∧ XM.textE m = 5) ∨ (XM.intE m = 0 ∧ 0 ≤ XM.intN m ∧ 65536 < XM.intN m ∧ XM.textE m = 8) ∨
    (XM.intE m = 0 ∧ 0 ≤ XM.intN m ∧ XM.intN m ≤ 65536 ∧ (m.length : Int) - XM.intK m < XM.intN m ∧ XM.textE m = 6) ∨ (XM.intE m = 0 ∧ 0 ≤ XM.intN m ∧ XM.intN m ≤ 65536 ∧ XM.intN m ≤ (m.length : Int) - XM.intK m ∧ XM.textE m = 0 ∧ XM.textK m = XM.intK m + (XM.intN m).toNat) := by
  by_cases h0 : XM.intE m = 0
  · right
    by_cases h1 : XM.intN m < 0
    · left; exact ⟨h0, h1, by unfold XM.textE; rw [if_neg (by omega), if_pos h1]⟩
    · right
      by_cases h2 : 65536 < XM.intN m
      · left; exact ⟨h0, by omega, h2, by unfold XM.textE; rw [if_neg (by omega), if_neg h1, if_pos h2]⟩
      · right
        by_cases h3 : (m.length : Int) - XM.intK m < XM.intN m
        · left; exact ⟨h0, by omega, by omega, h3, by unfold XM.textE; rw [if_neg (by omega), if_neg h1, if_neg h2, if_pos h3]⟩
        · right
          have e : XM.textE m = 0 := by unfold XM.textE; rw [if_neg (by omega), if_neg h1, if_neg h2, if_neg h3]
          exact ⟨h0, by omega, by omega, by omega, e, by unfold XM.textK; rw [if_pos e]⟩
  · left
    have e : XM.textE m = XM.intE m := by unfold XM.textE; rw [if_pos h0]
    exact ⟨h0, e, by rw [e]; exact h0⟩

set_option maxHeartbeats 1000000 in
theorem bounds_any (A : Option Addr) (n cap : Nat) (l : List UInt8) (p : Nat) (w : World) (hn : n = l.length) (hc : l.length ≤ cap) (hA : Bytes w A l) (hl : l.length ≤ 1000000) (hp : p ≤ l.length) :
    Calls Try.prog 71 #[.slice A n cap, .int .i64 (p : Int)] w fun e w' => e = .returned (.tuple #[.int .i64 (offOr (XM.textE (l.drop p)) ((p : Int) + XM.intK (l.drop p))), .int .i64 (offOr (XM.textE (l.drop p)) ((p : Int) + XM.textK (l.drop p))), .int .i64 (XM.textE (l.drop p))]) ∧ w = w' := by
  subst hn
  have CI := wint_any A l.length cap l p w rfl hc hA hl hp
  have hcs := text_cases (l.drop p)
  rw [List.length_drop] at hcs
  have hK : XM.intE (l.drop p) = 0 → XM.intK (l.drop p) + p ≤ l.length := by
    intro h
    have := (XM.int_only h).2.2.1
    rw [List.length_drop] at this; omega
  generalize XM.intN (l.drop p) = iN at *
  generalize XM.intE (l.drop p) = iE at *
  generalize XM.intK (l.drop p) = iK at *
  generalize XM.textE (l.drop p) = tE at *
  generalize XM.textK (l.drop p) = tK at *
  clear hA
  rcases hcs with ⟨c0, rfl, c1⟩ | ⟨rfl, c1, rfl⟩ | ⟨rfl, c1, c2, rfl⟩ | ⟨rfl, c1, c2, c3, rfl⟩ | ⟨rfl, c1, c2, c3, rfl, hT⟩
  · rw [offOr_no c0, offOr_no c0]
    rw [if_neg c0] at CI
    have d0 : (tE != 0) = true := by simpa using c0
    have HCI := Lib.hid CI
    clear CI c0 c1 hK
    go_enter Try.func71, Try.ntmps71
    go_wp2_with fail
    (with_reducible refine HCI.out.mono ?_)
    rintro e w' ⟨rfl, rfl⟩
    go_wp2
    go_ret3
    exact ⟨rfl, rfl⟩
  · rw [offOr_no (by omega), offOr_no (by omega)]
    rw [if_pos rfl] at CI
    have HCI := Lib.hid CI
    clear CI
    go_enter Try.func71, Try.ntmps71
    go_wp2_with fail
    (with_reducible refine HCI.out.mono ?_)
    rintro e w' ⟨rfl, rfl⟩
    go_wp2
    go_ret3
    exact ⟨rfl, rfl⟩
  · rw [offOr_no (by omega), offOr_no (by omega)]
    rw [if_pos rfl] at CI
    have HCI := Lib.hid CI
    clear CI
    have d1 : ¬ iN < 0 := by omega
    go_enter Try.func71, Try.ntmps71
    go_wp2_with fail
    (with_reducible refine HCI.out.mono ?_)
    rintro e w' ⟨rfl, rfl⟩
    go_wp2
    go_ret3
    exact ⟨rfl, rfl⟩
  · rw [offOr_no (by omega), offOr_no (by omega)]
    rw [if_pos rfl] at CI
    have HCI := Lib.hid CI
    have hK2 := hK rfl
    clear CI hK
    have d1 : ¬ iN < 0 := by omega
    have d2 : ¬ 65536 < iN := by omega
    have d3 : (l.length : Int) - ((p : Int) + iK) < iN := by omega
    go_enter Try.func71, Try.ntmps71
    go_wp2_with fail
    (with_reducible refine HCI.out.mono ?_)
    rintro e w' ⟨rfl, rfl⟩
    go_wp2
    go_ret3
    exact ⟨rfl, rfl⟩
  · rw [offOr_ok rfl, offOr_ok rfl]
    rw [if_pos rfl] at CI
    have HCI := Lib.hid CI
    have hK2 := hK rfl
    have HT : Hid ((p : Int) + iK + iN = (p : Int) + (tK : Int)) := Lib.hid (by rw [hT]; omega)
    clear CI hK hT
    have d1 : ¬ iN < 0 := by omega
    have d2 : ¬ 65536 < iN := by omega
    have d3 : ¬ (l.length : Int) - ((p : Int) + iK) < iN := by omega
    go_enter Try.func71, Try.ntmps71
    go_wp2_with fail
    (with_reducible refine HCI.out.mono ?_)
    rintro e w' ⟨rfl, rfl⟩
    go_wp2
    go_ret3
    exact ⟨ret3_int rfl HT.out rfl, rfl⟩

theorem bounds_out (A : Option Addr) (n cap : Nat) (p : Int) (w : World) (hp : p < 0 ∨ (n : Int) < p) :
    Calls Try.prog 71 #[.slice A n cap, .int .i64 p] w fun e w' => e = .returned (.tuple #[.int .i64 0, .int .i64 0, .int .i64 2]) ∧ w = w' := by
  have HC := Lib.hid (wint_out A n cap p w hp)
  clear hp
  go_enter Try.func71, Try.ntmps71
  go_wp2_with fail
  (with_reducible refine HC.out.mono ?_)
  rintro e w' ⟨rfl, rfl⟩
  go_wp2
  go_ret3
  exact ⟨rfl, rfl⟩

theorem part_eq (l : List UInt8) (p a b : Nat) : (l.take (p + (a + b))).drop (p + a) = ((l.drop p).drop a).take b := by
  rw [List.drop_drop, List.drop_take]
  congr 1; omega

theorem text_part {l : List UInt8} {p : Nat} (hp : p ≤ l.length) (h : XM.textE (l.drop p) = 0) :
    (l.take (p + XM.textK (l.drop p))).drop (p + XM.intK (l.drop p)) = XM.textN (l.drop p) ∧ p + XM.intK (l.drop p) ≤ p + XM.textK (l.drop p) ∧ p + XM.textK (l.drop p) ≤ l.length := by
  have h1 := XM.textN_len h
  rw [List.length_drop] at h1
  have h2 : XM.textK (l.drop p) = XM.intK (l.drop p) + (XM.intN (l.drop p)).toNat := by unfold XM.textK; rw [if_pos h]
  refine ⟨?_, by omega, by omega⟩
  rw [h2, part_eq]
  unfold XM.textN
  rw [if_pos h]

set_option maxHeartbeats 1000000 in
theorem wtext_any (A : Option Addr) (n cap : Nat) (l : List UInt8) (p : Nat) (w : World) (hn : n = l.length) (hc : l.length ≤ cap) (hA : Bytes w A l) (hl : l.length ≤ 1000000) (hp : p ≤ l.length) :
    Calls Try.prog 41 #[.slice A n cap, .int .i64 (p : Int)] w fun e w' => e = .returned (.tuple #[.string (S (XM.textN (l.drop p))), .int .i64 (offOr (XM.textE (l.drop p)) ((p : Int) + XM.textK (l.drop p))), .int .i64 (XM.textE (l.drop p))]) ∧ w = w' := by
  subst hn
  have CB := bounds_any A l.length cap l p w rfl hc hA hl hp
  by_cases h0 : XM.textE (l.drop p) = 0
  · obtain ⟨e1, e2, e3⟩ := text_part hp h0
    have hb := hA.cut e2 e3 hc
    rw [e1] at hb
    have hcv := str_of hb (cap - (p + XM.intK (l.drop p)))
    have hsl := run_part (A := A) (n := l.length) (cap := cap) e2 (by omega) w
    have hlen : (XM.textN (l.drop p)).length = p + XM.textK (l.drop p) - (p + XM.intK (l.drop p)) := by
      rw [← e1, List.length_drop, List.length_take]; omega
    rw [hlen] at hcv
    rw [h0] at CB ⊢
    rw [offOr_ok rfl, offOr_ok rfl] at CB
    rw [offOr_ok rfl]
    generalize XM.textN (l.drop p) = tN at *
    have q1 : ((p : Int) + XM.intK (l.drop p)) = ((p + XM.intK (l.drop p) : Nat) : Int) := by omega
    have q2 : ((p : Int) + XM.textK (l.drop p)) = ((p + XM.textK (l.drop p) : Nat) : Int) := by omega
    rw [q1, q2] at CB
    rw [q2]
    generalize p + XM.intK (l.drop p) = a at *
    generalize p + XM.textK (l.drop p) = b at *
    have HCB := Lib.hid CB
    clear CB hA hb hlen h0 e1 q1 q2
    go_enter Try.func41, Try.ntmps41
    go_wp2_with fail
    (with_reducible refine HCB.out.mono ?_)
    rintro e w' ⟨rfl, rfl⟩
    go_wp2
    go_ret3
    exact ⟨rfl, rfl⟩
  · rw [offOr_no h0, offOr_no h0] at CB
    rw [offOr_no h0]
    have hN : XM.textN (l.drop p) = [] := by unfold XM.textN; rw [if_neg h0]
    rw [hN]
    generalize XM.textE (l.drop p) = tE at *
    have d0 : (tE != 0) = true := by simpa using h0
    have HCB := Lib.hid CB
    clear CB hA h0 hN
    go_enter Try.func41, Try.ntmps41
    go_wp2_with fail
    (with_reducible refine HCB.out.mono ?_)
    rintro e w' ⟨rfl, rfl⟩
    go_wp2
    go_ret3
    exact ⟨rfl, rfl⟩

theorem wtext_out (A : Option Addr) (n cap : Nat) (p : Int) (w : World) (hp : p < 0 ∨ (n : Int) < p) :
    Calls Try.prog 41 #[.slice A n cap, .int .i64 p] w fun e w' => e = .returned (.tuple #[.string (S []), .int .i64 0, .int .i64 2]) ∧ w = w' := by
  have HC := Lib.hid (bounds_out A n cap p w hp)
  clear hp
  go_enter Try.func41, Try.ntmps41
  go_wp2_with fail
  (with_reducible refine HC.out.mono ?_)
  rintro e w' ⟨rfl, rfl⟩
  go_wp2
  go_ret3
  exact ⟨rfl, rfl⟩
end Go.Proofs.Ytegipokbbmnahaa
