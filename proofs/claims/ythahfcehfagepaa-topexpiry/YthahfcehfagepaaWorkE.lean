/- Contracts of layer 6: the closure, the search, the day of a rank. -/
import Derived.Test.YthahfcehfagepaaWorkD
import Derived.Test.YthahfcehfagepaaDateG
namespace KM
def rkN (W : Int → Bool) (r : Int) : Int := (rkO W r).getD 0
def rkE (W : Int → Bool) (r : Int) : Int := if (rkO W r).isSome = true then 0 else 15
theorem rk_yes {W : Int → Bool} {r x : Int} (h : rkO W r = some x) : rkN W r = x ∧ rkE W r = 0 := by unfold rkN rkE; rw [h]; exact ⟨rfl, rfl⟩
theorem rk_not {W : Int → Bool} {r : Int} (h : rkO W r = none) : rkN W r = 0 ∧ rkE W r = 15 := by unfold rkN rkE; rw [h]; exact ⟨rfl, rfl⟩
end KM
namespace Go.Proofs.Ythahfcehfagepaa
open Go.RowKit
set_option linter.unusedVariables false

set_option maxHeartbeats 1000000 in
theorem closure_any (ba bx : Nat) (A : Option Addr) (zs : List Int) (cap : Nat) (r d : Int) (w : World) (hI : Ints w A zs) (hok : KM.okFrom (-1) zs = 0) (hl : zs.length ≤ 1024) (h0 : 0 ≤ d) (h1 : d ≤ 73048)
    (ha : w.cell? ⟨ba, 0, none⟩ = some (.slice A zs.length cap)) (hx : w.cell? ⟨bx, 0, none⟩ = some (.int .i64 r)) :
    Calls Try.prog 71 #[.int .i64 d, .pointer (some ⟨ba, 0, none⟩), .pointer (some ⟨bx, 0, none⟩)] w fun e w' => e = .returned (.bool (decide (r ≤ (KM.unt (KM.works zs) d : Nat)))) ∧ ∃ n, w' = w.drewN n := by
  have HC := Lib.hid (fun n => until_any A zs cap d (w.drewN n) (hI.drewN n) hok hl (by omega) h1)
  generalize ((KM.unt (KM.works zs) d : Nat) : Int) = u at *
  have HI := Lib.hid hI
  clear hI hok
  go_enter Try.func71, Try.ntmps71
  go_wp2
  go_quiet ((go_at_call 66; exact quietly (HC.out _)))
  go_wp2
  go_ret
  exact ⟨rfl, _, rfl⟩

/-- where the places below x say no, and all from x on say yes -/
def Edge (p : Nat → Bool) (n x : Nat) : Prop := x ≤ n ∧ (∀ t, t < x → p t = false) ∧ (∀ t, x ≤ t → t < n → p t = true)

set_option maxHeartbeats 1000000 in
theorem search_any (cb : Array Value) (n : Nat) (p : Nat → Bool) (w : World) (hn : n ≤ 1000000)
    (hf : ∀ (m i : Nat), i < n → Calls Try.prog 71 (#[.int .i64 i] ++ cb) (w.drewN m) fun e w' => e = .returned (.bool (p i)) ∧ ∃ q, w' = (w.drewN m).drewN q)
    (hmono : ∀ a b, a ≤ b → b < n → p a = true → p b = true) :
    Calls Try.prog 70 #[.int .i64 n, .func (.func 71) #[] cb] w fun e w' => (∃ x : Nat, e = .returned (.int .i64 x) ∧ Edge p n x) ∧ ∃ q, w' = w.drewN q := by
  have HF := Lib.hid hf; have HM := Lib.hid hmono
  clear hf hmono
  go_enter Try.func70, Try.ntmps70
  go_wp2
  go_loopw [5, 6] (fun a b wr => ∃ lo hi q : Nat, a = .int .i64 (lo : Int) ∧ b = .int .i64 (hi : Int) ∧ lo ≤ hi ∧ hi ≤ n ∧ wr = w.drewN q ∧ Hid ((∀ t, t < lo → p t = false) ∧ (∀ t, hi ≤ t → t < n → p t = true))) (fun a b _ => (intOf b - intOf a).toNat)
  case atStart => exact ⟨0, n, 0, rfl, rfl, Nat.zero_le _, Nat.le_refl _, rfl, Lib.hid ⟨fun t ht => absurd ht (Nat.not_lt_zero _), fun t h1 h2 => by omega⟩⟩
  case round =>
    obtain ⟨lo, hi, q, rfl, rfl, hlh, hin, rfl, I⟩ := hrel
    by_cases hlt : lo < hi
    · have hc := HF.out q ((lo + hi) / 2) (by omega)
      rw [show (((lo + hi) / 2 : Nat) : Int) = ((lo : Int) + (hi : Int)) / 2 by omega] at hc
      have e0 : 0 ≤ ((lo : Int) + (hi : Int)) / 2 := by omega
      have e1 : ((lo : Int) + (hi : Int)) / 2 ≤ 1000000 := by omega
      cases hp : p ((lo + hi) / 2) <;> rw [hp] at hc
      · have HC := Lib.hid hc
        have I2 : Hid ((∀ t, t < (lo + hi) / 2 + 1 → p t = false) ∧ (∀ t, hi ≤ t → t < n → p t = true)) := Lib.hid ⟨fun t ht => (by
          cases h : p t with
          | false => rfl
          | true => have := HM.out t ((lo + hi) / 2) (by omega) (by omega) h; rw [hp] at this; cases this), I.out.2⟩
        clear hp hc
        go_wp2_with fail
        refine HC.out.mono ?_
        rintro e w' ⟨rfl, nq, rfl⟩
        go_wp2
        go_roundw
        case rel => exact ⟨(lo + hi) / 2 + 1, hi, _, by congr 1, rfl, by omega, hin, rfl, I2⟩
        case measure => simp [intOf]; omega
      · have HC := Lib.hid hc
        have I2 : Hid ((∀ t, t < lo → p t = false) ∧ (∀ t, (lo + hi) / 2 ≤ t → t < n → p t = true)) := Lib.hid ⟨I.out.1, fun t ht htn => HM.out ((lo + hi) / 2) t ht htn hp⟩
        clear hp hc
        go_wp2_with fail
        refine HC.out.mono ?_
        rintro e w' ⟨rfl, nq, rfl⟩
        go_wp2
        go_roundw
        case rel => exact ⟨lo, (lo + hi) / 2, _, rfl, by congr 1, by omega, by omega, rfl, I2⟩
        case measure => simp [intOf]; omega
    · obtain rfl : hi = lo := by omega
      have HED : Hid (Edge p n hi) := Lib.hid ⟨hin, I.out.1, I.out.2⟩
      go_wp2
      go_ret
      exact ⟨⟨hi, rfl, HED.out⟩, q, rfl⟩

theorem two_boxes (w : World) (u : Value) (r : Int) : ((w.alloc (.cells #[u] 46)).alloc (.cells #[.int .i64 r] 3)).cell? ⟨w.heap.size, 0, none⟩ = some u ∧
    ((w.alloc (.cells #[u] 46)).alloc (.cells #[.int .i64 r] 3)).cell? ⟨w.heap.size + 1, 0, none⟩ = some (.int .i64 r) := by
  constructor
  · rw [World.cell?_alloc_past _ _ _ (by simp)]
    simp
  · rw [World.cell?_alloc_at _ _ _ _ (by simp)]; rfl

set_option maxHeartbeats 1000000 in
theorem ranked_any (A : Option Addr) (zs : List Int) (cap : Nat) (r : Int) (w : World) (hI : Ints w A zs) (hok : KM.okFrom (-1) zs = 0) (hl : zs.length ≤ 1024) :
    Calls Try.prog 65 #[.slice A zs.length cap, .int .i64 r] w fun e w' => e = .returned (.tuple #[.int .i64 (KM.rkN (KM.works zs) r), .int .i64 (KM.rkE (KM.works zs) r)]) ∧ Below w.heap.size w w' := by
  have hmf : ∀ (fn : Fn) (first cap : Array Value) (w : World), (Instr.makeFunc fn first cap).run Try.prog w = .ok (.func fn first cap) w := fun _ _ _ _ => rfl
  obtain ⟨c0, c1⟩ := two_boxes w (.slice A zs.length cap) r
  have HB : Hid (Below w.heap.size w ((w.alloc (.cells #[.slice A zs.length cap] 46)).alloc (.cells #[.int .i64 r] 3))) := Lib.hid (((Below.refl _ _).alloc (Nat.le_refl _) _).alloc (by simp) _)
  by_cases hr : r < 1
  · rw [(KM.rk_not (KM.rk_low hr)).1, (KM.rk_not (KM.rk_low hr)).2]
    clear hI hok
    go_enter Try.func65, Try.ntmps65
    go_wp2
    go_ret2
    exact ⟨rfl, HB.out⟩
  · have hI2 := hI.below HB.out
    have HS := Lib.hid (search_any #[.pointer (some ⟨w.heap.size, 0, none⟩), .pointer (some ⟨w.heap.size + 1, 0, none⟩)] 73049 (fun t => decide (r ≤ (KM.unt (KM.works zs) (t : Int) : Nat))) ((w.alloc (.cells #[.slice A zs.length cap] 46)).alloc (.cells #[.int .i64 r] 3)) (by omega)
      (fun m i hi => closure_any w.heap.size (w.heap.size + 1) A zs cap r (i : Int) _ (hI2.drewN m) hok hl (by omega) (by omega) c0 c1)
      (fun a b hab hb h => by
        have h := of_decide_eq_true h
        have := KM.unt_mono (KM.works zs) (show (a : Int) ≤ b by omega)
        exact decide_eq_true (by omega)))
    clear hI hI2 hok
    go_enter Try.func65, Try.ntmps65
    go_wp2_with fail
    refine HS.out.mono ?_
    rintro e w1 ⟨⟨x, rfl, hE⟩, q, rfl⟩
    have HB2 := Lib.hid (below_drewN HB.out q)
    obtain ⟨e1, e2, e3⟩ := hE
    by_cases hx : x ≤ 73048
    · have HR := KM.rk_yes (W := KM.works zs) (r := r) (x := (x : Int)) (KM.rk_found (by omega) (by omega) (fun t ht => by have := of_decide_eq_false (e2 t ht); omega) (by have := of_decide_eq_true (e3 x (Nat.le_refl _) (by omega)); omega))
      have HR := Lib.hid HR
      clear e2 e3
      go_wp2
      go_ret2
      exact ⟨by rw [HR.out.1, HR.out.2]; rfl, HB2.out⟩
    · obtain rfl : x = 73049 := by omega
      have HR := Lib.hid (KM.rk_not (W := KM.works zs) (r := r) (KM.rk_none (by omega) (fun t ht => by have := of_decide_eq_false (e2 t ht); omega)))
      clear e2 e3
      go_wp2
      go_ret2
      exact ⟨by rw [HR.out.1, HR.out.2]; rfl, HB2.out⟩
end Go.Proofs.Ythahfcehfagepaa
