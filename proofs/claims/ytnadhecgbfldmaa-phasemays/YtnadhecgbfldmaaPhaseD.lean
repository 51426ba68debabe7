/- Contracts of layer 7: lists of acts. -/
import Derived.Test.YtnadhecgbfldmaaPhaseB
import Derived.Test.YtnadhecgbfldmaaOwn
namespace Go.Proofs.Ytnadhecgbfldmaa
open Go.RowKit
set_option linter.unusedVariables false

theorem ints_lit (l : List Int) (w : World) (hm : l.length ≤ maxLen) (hr : ∀ n ∈ l, -9223372036854775808 ≤ n ∧ n ≤ 9223372036854775807) :
    Ints (w.alloc (.cells (l.map (Value.int .i64)).toArray 3)) (some ⟨w.heap.size, 0, none⟩) l := by
  refine ⟨hm, hr, .inr ⟨_, _, rfl, by simp, fun i hi => ?_⟩⟩
  rw [Nat.zero_add]
  have e : (l.map (Value.int .i64)).toArray[i]? = some (.int .i64 (l.getD i 0)) := by simp [hi, List.getD]
  simp [e]

theorem acts_in (p : Int) : ∀ n ∈ PM.acts p, -9223372036854775808 ≤ n ∧ n ≤ 9223372036854775807 := fun n hn => by
  have := PM.acts_range n hn; omega

theorem racts_any (p : Int) (w : World) :
    Calls Try.prog 21 #[.int .i64 p] w fun e w' => (∃ cap, e = .returned (.slice (some ⟨w.heap.size, 0, none⟩) (PM.acts p).length cap)) ∧ Ints w' (some ⟨w.heap.size, 0, none⟩) (PM.acts p) ∧ w.heap.size < w'.heap.size ∧ Below w.heap.size w w' := by
  have HI := Lib.hid (fun l (h : PM.acts p = l) => by have := ints_lit (PM.acts p) w (by have := PM.acts_len p; unfold maxLen; omega) (acts_in p); rw [h] at this; exact this)
  have HB := Lib.hid (fun o => (Below.refl w.heap.size w).alloc (Nat.le_refl _) o)
  have HS := Lib.hid (fun o => show w.heap.size < (w.alloc o).heap.size by simp)
  rcases PM.seven p with rfl | rfl | rfl | rfl | rfl | rfl | hp
  case inr.inr.inr.inr.inr.inr =>
    have c1 : (p == 1) = false := by simp; omega
    have c2 : (p == 2) = false := by simp; omega
    have c3 : (p == 3) = false := by simp; omega
    have c4 : (p == 4) = false := by simp; omega
    have c5 : (p == 5) = false := by simp; omega
    have c6 : (p == 6) = false := by simp; omega
    have HA := Lib.hid (PM.acts_no hp)
    rw [PM.acts_no hp]
    clear hp
    go_enter Try.func21, Try.ntmps21
    go_wp2
    go_ret
    exact ⟨⟨_, rfl⟩, HI.out _ HA.out, HS.out _, HB.out _⟩
  all_goals
    go_enter Try.func21, Try.ntmps21
    go_wp2
    go_ret
    exact ⟨⟨_, rfl⟩, HI.out _ rfl, HS.out _, HB.out _⟩

theorem same_no_len {zs ys : List Int} (h : zs.length ≠ ys.length) : (zs == ys) = false := by
  cases e : (zs == ys)
  · rfl
  · rw [show zs = ys by simpa using e] at h; exact absurd rfl h
theorem same_no {zs ys : List Int} {k : Nat} (h : zs.getD k 0 ≠ ys.getD k 0) : (zs == ys) = false := by
  cases e : (zs == ys)
  · rfl
  · rw [show zs = ys by simpa using e] at h; exact absurd rfl h
theorem same_yes {zs ys : List Int} (hl : zs.length = ys.length) (h : ∀ i, i < zs.length → zs.getD i 0 = ys.getD i 0) : (zs == ys) = true := by
  have : zs = ys := by
    apply List.ext_getElem hl
    intro i h1 h2
    have := h i h1
    simpa [List.getD, h1, h2] using this
  simpa using this

set_option maxHeartbeats 1000000 in
theorem same_any (A B : Option Addr) (zs ys : List Int) (c1 c2 : Nat) (w : World) (hA : Ints w A zs) (hB : Ints w B ys) :
    Calls Try.prog 22 #[.slice A zs.length c1, .slice B ys.length c2] w fun e w' => e = .returned (.bool (zs == ys)) ∧ ∃ n, w' = w.drewN n := by
  generalize hv : (zs == ys) = v
  have HV := Lib.hid hv
  clear hv
  have l1 := hA.len
  have l2 := hB.len
  by_cases hl : zs.length = ys.length
  · have hlb : ((zs.length : Int) != ys.length) = false := by simp; omega
    have HL := Lib.hid hl
    clear hl
    go_enter Try.func22, Try.ntmps22
    go_wp2
    go_loopw [5] (fun i wr => ∃ k : Nat, k ≤ zs.length ∧ i = .int .i64 k ∧ Hid (∀ j, j < k → zs.getD j 0 = ys.getD j 0) ∧ ∃ n, wr = w.drewN n) (fun i _ => zs.length - (intOf i).toNat)
    case atStart => exact ⟨0, by omega, rfl, Lib.hid (fun j h => by omega), 0, rfl⟩
    case round =>
      obtain ⟨k, hk, rfl, HE, n, rfl⟩ := hrel
      by_cases hlt : k < zs.length
      · have hlt2 : k < ys.length := by have := HL.out; omega
        obtain ⟨b1, o1, x, rfl, hb1, hc1, HX, x1, x2⟩ := hA.get hlt
        obtain ⟨b2, o2, y, rfl, hb2, hc2, HY, y1, y2⟩ := hB.get hlt2
        have HA := Lib.hid hA
        have HB := Lib.hid hB
        clear hA hB
        by_cases he : x = y
        · have HE2 : Hid (∀ j, j < k + 1 → zs.getD j 0 = ys.getD j 0) := Lib.hid (fun j hj => by
            rcases Nat.lt_or_ge j k with g | g
            · exact HE.out j g
            · obtain rfl : j = k := by omega
              rw [HX.out, HY.out, he])
          have hd : (x != y) = false := by simpa using he
          clear he
          go_wp2
          go_quiet (fail)
          go_wp2
          go_roundw
          case rel => exact ⟨k + 1, by omega, by go_num, HE2, _, rfl⟩
          case measure => simp [intOf]; omega
        · have HN := Lib.hid (@same_no zs ys k (by rw [HX.out, HY.out]; exact he))
          have hd : (x != y) = true := by simpa using he
          clear he
          go_wp2
          go_quiet (fail)
          go_wp2
          go_ret
          exact ⟨by rw [← HV.out, HN.out]; rfl, _, World.drewN_drewN _ _ _⟩
      · obtain rfl : k = zs.length := by omega
        have HN := Lib.hid (same_yes HL.out HE.out)
        go_wp2
        go_ret
        exact ⟨by rw [← HV.out, HN.out]; rfl, _, rfl⟩
  · have hlb : ((zs.length : Int) != ys.length) = true := by simp; omega
    have HN := Lib.hid (same_no_len hl)
    clear hl
    go_enter Try.func22, Try.ntmps22
    go_wp2
    go_ret
    exact ⟨by rw [← HV.out, HN.out]; rfl, 0, rfl⟩
end Go.Proofs.Ytnadhecgbfldmaa
