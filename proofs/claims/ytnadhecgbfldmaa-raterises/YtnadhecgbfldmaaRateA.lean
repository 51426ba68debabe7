/- A slice of rates in memory; contracts of layer 8: Find. -/
import Derived.Test.YtnadhecgbfldmaaRecs
import Derived.Test.YtnadhecgbfldmaaRateMath2
import Derived.Test.YtnadhecgbfldmaaStrEq
import Derived.Test.YtnadhecgbfldmaaWordsE
import Derived.Test.YtnadhecgbfldmaaCentsD
namespace Go.Proofs.Ytnadhecgbfldmaa
open Go.RowKit Go.Recs
set_option linter.unusedVariables false

def rateV (r : RM.Rate) : List Value := [.string r.1, .int .i64 r.2]
def Rates (w : World) (A : Option Addr) (l : List RM.Rate) : Prop :=
  Recs w A 2 (l.map rateV) ∧ ∀ r ∈ l, r.1.size ≤ maxLen ∧ -9223372036854775808 ≤ r.2 ∧ r.2 ≤ 9223372036854775807
theorem Rates.len {w : World} {A : Option Addr} {l : List RM.Rate} (h : Rates w A l) : l.length ≤ 9223372036854775807 := by
  have := h.1.len; rw [List.length_map] at this; exact this
theorem Rates.below {w w' : World} {A : Option Addr} {l : List RM.Rate} (h : Rates w A l) (hb : Below w.heap.size w w') : Rates w' A l := ⟨h.1.below hb, h.2⟩
theorem Rates.drewN {w : World} {A : Option Addr} {l : List RM.Rate} (h : Rates w A l) (n : Nat) : Rates (w.drewN n) A l := h
theorem Rates.get {w : World} {A : Option Addr} {l : List RM.Rate} (h : Rates w A l) {k : Nat} (hk : k < l.length) :
    ∃ b off s m, A = some ⟨b, off, none⟩ ∧ b < w.heap.size ∧ w.cell? ⟨b, off + k * 2, none⟩ = some (.string s) ∧ w.cell? ⟨b, off + k * 2 + 1, none⟩ = some (.int .i64 m) ∧
      Hid (RM.at_ l k = (s, m)) ∧ s.size ≤ maxLen ∧ -9223372036854775808 ≤ m ∧ m ≤ 9223372036854775807 := by
  obtain ⟨b, off, rfl, hb, hc⟩ := h.1.get (k := k) (by simpa using hk)
  have hr := h.2 (RM.at_ l k) (by rw [RM.at_get hk]; exact List.getElem_mem hk)
  have e : (l.map rateV).getD k [] = rateV (RM.at_ l k) := by
    rw [RM.at_get hk]; simp [List.getD, hk]
  rw [e] at hc
  have h0 := hc 0 (by omega)
  have h1 := hc 1 (by omega)
  refine ⟨b, off, (RM.at_ l k).1, (RM.at_ l k).2, rfl, hb, h0, ?_, Lib.hid rfl, hr.1, hr.2.1, hr.2.2⟩
  rw [Nat.add_assoc]; exact h1
theorem Rates.take_ {w : World} {A : Option Addr} {l : List RM.Rate} (h : Rates w A l) (n : Nat) : Rates w A (l.take n) := by
  obtain ⟨⟨h1, h2, h3⟩, h4⟩ := h
  refine ⟨⟨?_, ?_, ?_⟩, fun r hr => h4 r (List.mem_of_mem_take hr)⟩
  · rw [List.length_map] at h1 ⊢; rw [List.length_take]; omega
  · intro r hr; obtain ⟨a, ha, rfl⟩ := List.mem_map.1 hr; rfl
  · rcases h3 with h3 | ⟨b, off, rfl, hb, hc⟩
    · left; have : l = [] := by simpa using h3
      rw [this]; simp
    · refine .inr ⟨b, off, rfl, hb, fun i j hi hj => ?_⟩
      rw [List.length_map, List.length_take] at hi
      rw [hc i j (by rw [List.length_map]; omega) hj]
      have h1 : i < l.length := by omega
      have h2 : i < n := by omega
      simp [List.getD, h1, h2]

set_option maxHeartbeats 1000000 in
theorem rfind_any (A : Option Addr) (l : List RM.Rate) (cap : Nat) (s : ByteArray) (w : World) (hI : Rates w A l) :
    Calls Try.prog 30 #[.slice A l.length cap, .string s] w fun e w' => e = .returned (.tuple #[.int .i64 (RM.fN l s), .bool (RM.fB l s)]) ∧ w = w' := by
  have HY := Lib.hid (fun k => @RM.find_yes l s k)
  have HN := Lib.hid (@RM.find_no l s)
  have hlen := hI.len
  generalize RM.fN l s = x at *
  generalize RM.fB l s = y at *
  go_enter Try.func30, Try.ntmps30
  go_wp2
  go_loop [6] (fun i => ∃ k : Nat, k ≤ l.length ∧ i = .int .i64 k ∧ Hid (∀ j, j < k → RM.hit s (RM.at_ l j) = false)) (fun i => l.length - (intOf i).toNat)
  case atStart => exact ⟨0, by omega, rfl, Lib.hid (fun j h => by omega)⟩
  case round =>
    obtain ⟨k, hk, rfl, HE⟩ := hrel
    by_cases hlt : k < l.length
    · obtain ⟨b, off, t, m, rfl, hb, hc0, hc1, HV, t1, m1, m2⟩ := hI.get hlt
      have HI := Lib.hid hI
      clear hI
      cases he : (t.toList == s.toList)
      · have HE2 : Hid (∀ j, j < k + 1 → RM.hit s (RM.at_ l j) = false) := Lib.hid (fun j hj => by
          rcases Nat.lt_or_ge j k with g | g
          · exact HE.out j g
          · obtain rfl : j = k := by omega
            rw [HV.out]; exact he)
        go_wp2
        go_round
        case rel => exact ⟨k + 1, by omega, by go_num, HE2⟩
        case measure => simp [intOf]; omega
      · have HR := Lib.hid (HY.out k hlt HE.out (by rw [HV.out]; exact he))
        go_wp2
        go_ret2
        exact ⟨by rw [HR.out.1, HR.out.2]; rfl, rfl⟩
    · obtain rfl : k = l.length := by omega
      have HR := Lib.hid (HN.out HE.out)
      go_wp2
      go_ret2
      exact ⟨by rw [HR.out.1, HR.out.2]; rfl, rfl⟩
end Go.Proofs.Ytnadhecgbfldmaa
