/- Contracts: lines, joins; are two lists alike. -/
import Derived.Test.YtegipokbbmnahaaWordsF
import Derived.Test.YtegipokbbmnahaaFieldMath
namespace Go.Proofs.Ytegipokbbmnahaa
open Go.RowKit
set_option linter.unusedVariables false

def strs (ps : List (List UInt8)) : List ByteArray := ps.map S
theorem texts_strs (ps : List (List UInt8)) : texts (strs ps) = ps := by
  unfold texts strs
  rw [List.map_map]
  conv => rhs; rw [← List.map_id ps]
  apply List.map_congr_left
  intro p _
  exact L_S p
theorem strs_texts (ls : List ByteArray) : strs (texts ls) = ls := by
  unfold texts strs
  rw [List.map_map]
  conv => rhs; rw [← List.map_id ls]
  apply List.map_congr_left
  intro p _
  exact S_L p
theorem strs_snoc (ps : List (List UInt8)) (s : ByteArray) (a b : Nat) : strs (ps ++ [((L s).take b).drop a]) = strs ps ++ [s.extract a b] := by
  unfold strs
  rw [List.map_append]
  have : S (((L s).take b).drop a) = s.extract a b := L_inj (by rw [L_S, L_extract])
  simp [this]
theorem strs_len (ps : List (List UInt8)) : (strs ps).length = ps.length := List.length_map _

theorem nl_eq (c : UInt8) : ((c.toNat : Int) == 10) = (c == 10) := by
  rw [Bool.eq_iff_iff]
  simp only [beq_iff_eq]
  constructor
  · intro h; exact UInt8.toNat_inj.1 (by have : (10 : UInt8).toNat = 10 := rfl; omega)
  · intro h; rw [h]; rfl

set_option maxHeartbeats 1000000 in
theorem lines_any (s : ByteArray) (w : World) (hs : s.size ≤ 9223372036854775807) :
    Calls Try.prog 27 #[.string s] w fun e w' => ∃ v, e = .returned (.tuple #[v, .int .i64 (WM.linesE (L s))]) ∧ OS w' w.heap.size v (strs (WM.linesN (L s))) ∧ Below w.heap.size w w' := by
  by_cases hl : 65536 < s.size
  · obtain ⟨e1, e2⟩ := WM.lines_long (l := L s) (by rw [L_len]; exact hl)
    rw [e1, e2]; clear e1 e2
    go_enter Try.func27, Try.ntmps27
    go_wp2
    go_ret2
    exact ⟨_, rfl, OS.nil _ _, Below.refl _ _⟩
  · rw [WM.lines_ok (l := L s) (by rw [L_len]; exact hl)]
    generalize hr : strs (WM.linesN (L s)) = res
    have HR := Lib.hid hr
    clear hr
    go_enter Try.func27, Try.ntmps27
    go_wp2
    go_loopw [2, 4, 11] (fun v fr i wr => ∃ (k f : Nat) (ps : List (List UInt8)), k ≤ s.size ∧ f ≤ k ∧ fr = .int .i64 f ∧ i = .int .i64 k ∧ ps.length ≤ s.size ∧ Hid (WM.LI (L s) k f ps) ∧ Hid (OS wr w.heap.size v (strs ps)) ∧ Hid (Below w.heap.size w wr)) (fun _ _ i _ => s.size - (intOf i).toNat)
    case atStart => exact ⟨0, 0, [], by omega, by omega, rfl, rfl, by simp, Lib.hid (WM.LI.start _), Lib.hid (OS.nil _ _), Lib.hid (Below.refl _ _)⟩
    case round =>
      obtain ⟨k, f, ps, hk, hf, rfl, rfl, hpl, HI, HO, HB⟩ := hrel
      have cf0 : (0 : Int) ≤ (f : Int) := by omega
      have cf1 : (f : Int) ≤ (k : Int) := by omega
      by_cases hlt : k < s.size
      · have hc := nl_eq s[k]
        cases c10 : (s[k] == 10)
        · rw [c10] at hc
          have HN := Lib.hid (HI.out.in_ (by rw [L_len]; exact hlt) (by rw [L_get s k hlt]; simpa using c10))
          clear c10
          go_wp2
          go_roundw
          case rel => exact ⟨k + 1, f, ps, by omega, by omega, rfl, by go_num, hpl, HN, HO, HB⟩
          case measure => simp [intOf]; omega
        · rw [c10] at hc
          have hN := HI.out.cut (by rw [L_len]; exact hlt) (by rw [L_get s k hlt]; simpa using c10)
          have hpl2 : (ps ++ [((L s).take k).drop f]).length ≤ s.size := by have := hN.len; rw [L_len] at this; exact this
          have HN := Lib.hid hN
          clear c10 hN
          go_wp2_with (at_builtin; refine wpList_pushS _ (s.extract f k) w.heap.size (strs ps) _ _ rfl rfl _ rfl rfl HO.out ?c1 ?c2 ?_)
          case c1 => rw [strs_len]; omega
          case c2 => exact HB.out.size
          intro v1 w1 o1 b1 _
          rw [← strs_snoc] at o1
          have HO1 := Lib.hid o1
          have HB1 := Lib.hid (HB.out.trans b1)
          clear o1 b1 HO HB
          go_wp2
          go_roundw
          case rel => exact ⟨k + 1, k + 1, _, by omega, by omega, by go_num, by go_num, hpl2, HN, HO1, HB1⟩
          case measure => simp [intOf]; omega
      · obtain rfl : k = s.size := by omega
        have hD := HI.out
        rw [← L_len s] at hD
        have hD := hD.done (by rw [L_len]; omega)
        rw [L_len] at hD
        by_cases hfl : f < s.size
        · have HD := Lib.hid (hD.1 hfl)
          clear hD
          go_wp2_with (at_builtin; refine wpList_pushS _ (s.extract f s.size) w.heap.size (strs ps) _ _ rfl rfl _ rfl rfl HO.out ?c1 ?c2 ?_)
          case c1 => rw [strs_len]; omega
          case c2 => exact HB.out.size
          intro v1 w1 o1 b1 _
          rw [← strs_snoc, ← HD.out, HR.out] at o1
          have HO1 := Lib.hid o1
          have HB1 := Lib.hid (HB.out.trans b1)
          clear o1 b1 HO HB
          go_wp2
          go_ret2
          exact ⟨_, rfl, HO1.out, HB1.out⟩
        · have HD := Lib.hid (hD.2 hfl)
          clear hD
          go_wp2
          go_ret2
          exact ⟨_, rfl, by rw [← HR.out, HD.out]; exact HO.out, HB.out⟩

set_option maxHeartbeats 1000000 in
theorem rlines_any (s : ByteArray) (w : World) (hs : s.size ≤ 9223372036854775807) :
    Calls Try.prog 28 #[.string s] w fun e w' => ∃ v, e = .returned (.tuple #[v, .int .i64 (WM.linesE (L s))]) ∧ OS w' w.heap.size v (strs (WM.linesN (L s))) ∧ Below w.heap.size w w' := by
  by_cases hl : 65536 < s.size
  · obtain ⟨e1, e2⟩ := WM.lines_long (l := L s) (by rw [L_len]; exact hl)
    rw [e1, e2]; clear e1 e2
    go_enter Try.func28, Try.ntmps28
    go_wp2
    go_ret2
    exact ⟨_, rfl, OS.nil _ _, Below.refl _ _⟩
  · rw [WM.lines_ok (l := L s) (by rw [L_len]; exact hl)]
    generalize hr : strs (WM.linesN (L s)) = res
    have HR := Lib.hid hr
    clear hr
    go_enter Try.func28, Try.ntmps28
    go_wp2
    go_loopw [4, 5, 6] (fun v fr i wr => ∃ (k f : Nat) (ps : List (List UInt8)), k ≤ s.size ∧ f ≤ k ∧ fr = .int .i64 f ∧ i = .int .i64 k ∧ ps.length ≤ s.size ∧ Hid (WM.LI (L s) k f ps) ∧ Hid (OS wr w.heap.size v (strs ps)) ∧ Hid (Below w.heap.size w wr)) (fun _ _ i _ => s.size - (intOf i).toNat)
    case atStart => exact ⟨0, 0, [], by omega, by omega, rfl, rfl, by simp, Lib.hid (WM.LI.start _), Lib.hid (OS.nil _ _), Lib.hid (Below.refl _ _)⟩
    case round =>
      obtain ⟨k, f, ps, hk, hf, rfl, rfl, hpl, HI, HO, HB⟩ := hrel
      have cf0 : (0 : Int) ≤ (f : Int) := by omega
      have cf1 : (f : Int) ≤ (k : Int) := by omega
      by_cases hlt : k < s.size
      · have hc := nl_eq s[k]
        cases c10 : (s[k] == 10)
        · rw [c10] at hc
          have HN := Lib.hid (HI.out.in_ (by rw [L_len]; exact hlt) (by rw [L_get s k hlt]; simpa using c10))
          clear c10
          go_wp2
          go_roundw
          case rel => exact ⟨k + 1, f, ps, by omega, by omega, rfl, by go_num, hpl, HN, HO, HB⟩
          case measure => simp [intOf]; omega
        · rw [c10] at hc
          have hN := HI.out.cut (by rw [L_len]; exact hlt) (by rw [L_get s k hlt]; simpa using c10)
          have hpl2 : (ps ++ [((L s).take k).drop f]).length ≤ s.size := by have := hN.len; rw [L_len] at this; exact this
          have HN := Lib.hid hN
          clear c10 hN
          go_wp2_with (at_builtin; refine wpList_pushS _ (s.extract f k) w.heap.size (strs ps) _ _ rfl rfl _ rfl rfl HO.out ?c1 ?c2 ?_)
          case c1 => rw [strs_len]; omega
          case c2 => exact HB.out.size
          intro v1 w1 o1 b1 _
          rw [← strs_snoc] at o1
          have HO1 := Lib.hid o1
          have HB1 := Lib.hid (HB.out.trans b1)
          clear o1 b1 HO HB
          go_wp2
          go_roundw
          case rel => exact ⟨k + 1, k + 1, _, by omega, by omega, by go_num, by go_num, hpl2, HN, HO1, HB1⟩
          case measure => simp [intOf]; omega
      · obtain rfl : k = s.size := by omega
        have hD := HI.out
        rw [← L_len s] at hD
        have hD := hD.done (by rw [L_len]; omega)
        rw [L_len] at hD
        by_cases hfl : f < s.size
        · have HD := Lib.hid (hD.1 hfl)
          clear hD
          go_wp2_with (at_builtin; refine wpList_pushS _ (s.extract f s.size) w.heap.size (strs ps) _ _ rfl rfl _ rfl rfl HO.out ?c1 ?c2 ?_)
          case c1 => rw [strs_len]; omega
          case c2 => exact HB.out.size
          intro v1 w1 o1 b1 _
          rw [← strs_snoc, ← HD.out, HR.out] at o1
          have HO1 := Lib.hid o1
          have HB1 := Lib.hid (HB.out.trans b1)
          clear o1 b1 HO HB
          go_wp2
          go_ret2
          exact ⟨_, rfl, HO1.out, HB1.out⟩
        · have HD := Lib.hid (hD.2 hfl)
          clear hD
          go_wp2
          go_ret2
          exact ⟨_, rfl, by rw [← HR.out, HD.out]; exact HO.out, HB.out⟩

theorem join_any (A : Option Addr) (ls : List ByteArray) (cap : Nat) (w : World) (hI : Strs w A ls) (hl : WM.tl 1 (sizes ls) ≤ 140737488355328) :
    Calls Try.prog 30 #[.slice A ls.length cap] w fun e w' => e = .returned (.string (S (WM.joinL (texts ls)))) ∧ Below w.heap.size w w' := by
  have C := concat_any ⟨#[32]⟩ A ls cap w (by show 1 ≤ _; omega) hI hl
  rw [show L ⟨#[32]⟩ = [32] from rfl, WM.catL_join] at C
  have HC := Lib.hid C
  clear C
  go_enter Try.func30, Try.ntmps30
  go_wp2_with fail
  refine HC.out.mono ?_
  rintro e w1 ⟨rfl, b1⟩
  have HB := Lib.hid b1
  clear b1
  go_wp2
  go_ret
  exact ⟨rfl, HB.out⟩

theorem join_step (ls : List ByteArray) (k : Nat) (hk : k < ls.length) (h0 : 0 < k) : (S (WM.joinL (texts (ls.take k))) ++ ByteArray.mk #[32]) ++ ls[k] = S (WM.joinL (texts (ls.take (k + 1)))) := by
  have := texts_step [32] ls k hk
  rw [WM.catL_join, WM.catL_join, if_neg (by omega)] at this
  apply L_inj
  rw [L_append, L_append, L_S, L_S, this]
  rfl
theorem join_step0 (ls : List ByteArray) (hk : 0 < ls.length) : S (WM.joinL (texts (ls.take 0))) ++ ls[0] = S (WM.joinL (texts (ls.take (0 + 1)))) := by
  have := texts_step [32] ls 0 hk
  rw [WM.catL_join, if_pos rfl] at this
  apply L_inj
  rw [L_append, L_S, L_S, this]
  rfl
theorem join_le (ls : List ByteArray) (k : Nat) : (S (WM.joinL (texts (ls.take k)))).size ≤ WM.tl 1 (sizes (ls.take k)) := by
  rw [S_size, ← WM.catL_join]; exact cat_le [32] ls k

set_option maxHeartbeats 1000000 in
theorem rjoin_any (A : Option Addr) (ls : List ByteArray) (cap : Nat) (w : World) (hI : Strs w A ls) (hl : WM.tl 1 (sizes ls) ≤ 140737488355328) :
    Calls Try.prog 31 #[.slice A ls.length cap] w fun e w' => e = .returned (.string (S (WM.joinL (texts ls)))) ∧ w = w' := by
  have hlen := hI.len
  generalize hr : S (WM.joinL (texts ls)) = res
  have HR := Lib.hid hr
  clear hr
  go_enter Try.func31, Try.ntmps31
  go_wp2
  go_loop [3, 4] (fun t i => ∃ (k : Nat) (u : ByteArray), k ≤ ls.length ∧ i = .int .i64 k ∧ t = .string u ∧ Hid (S (WM.joinL (texts (ls.take k))) = u)) (fun _ i => ls.length - (intOf i).toNat)
  case atStart => exact ⟨0, _, by omega, rfl, rfl, Lib.hid rfl⟩
  case round =>
    obtain ⟨k, u, hk, rfl, rfl, HU⟩ := hrel
    by_cases hlt : k < ls.length
    · obtain ⟨g, off, s, rfl, hg, hcell, HS, hs⟩ := hI.get hlt
      have HI := Lib.hid hI
      clear hI
      have hst := sizes_step 1 ls k hlt
      have hle := join_le ls k
      rw [HS.out] at hst
      rw [HU.out] at hle
      have bnd : u.size + (s.size + 1) ≤ 140737488355328 := by omega
      clear hst hle
      by_cases hk0 : 0 < k
      · have hj := join_step ls k hlt hk0
        rw [HS.out, HU.out] at hj
        have HJ := Lib.hid hj
        clear hj
        have hadd := run_string_add_sum (P := Try.prog) w u ⟨#[32]⟩ (by rw [show (ByteArray.mk #[32]).size = 1 from rfl]; omega)
        have z1 : (u ++ ByteArray.mk #[32]).size = u.size + 1 := by rw [ByteArray.size_append]; rfl
        have hadd2 := run_string_add_sum (P := Try.prog) w (u ++ ByteArray.mk #[32]) s (by rw [z1]; omega)
        generalize u ++ ByteArray.mk #[32] = u1 at *
        rw [HJ.out] at hadd2
        clear z1
        go_wp2
        go_round
        case rel => exact ⟨k + 1, _, by omega, by go_num, rfl, Lib.hid rfl⟩
        case measure => simp [intOf]; omega
      · have hk1 : k = 0 := by omega
        have hj : u ++ s = S (WM.joinL (texts (ls.take (k + 1)))) := by
          rw [← HU.out, ← HS.out]
          subst hk1
          exact join_step0 ls hlt
        have HJ := Lib.hid hj
        clear hj hk1
        have hadd := run_string_add_sum (P := Try.prog) w u s (by omega)
        rw [HJ.out] at hadd
        have d0 : decide (0 < k) = false := decide_eq_false hk0
        go_wp2
        go_round
        case rel => exact ⟨k + 1, _, by omega, by go_num, rfl, Lib.hid rfl⟩
        case measure => simp [intOf]; omega
    · obtain rfl : k = ls.length := by omega
      have hu := HU.out
      rw [List.take_of_length_le (Nat.le_refl _), HR.out] at hu
      have HU2 := Lib.hid hu
      clear hu
      go_wp2
      go_ret
      exact ⟨by rw [HU2.out]; rfl, rfl⟩

set_option maxHeartbeats 1000000 in
theorem same_strs (A B : Option Addr) (ls : List ByteArray) (ca cb : Nat) (w : World) (hA : Strs w A ls) (hB : Strs w B ls) :
    Calls Try.prog 29 #[.slice A ls.length ca, .slice B ls.length cb] w fun e w' => e = .returned (.bool true) ∧ ∃ n, w' = w.drewN n := by
  have hlen := hA.len
  go_enter Try.func29, Try.ntmps29
  go_wp2
  go_loopw [5] (fun i wr => ∃ k : Nat, k ≤ ls.length ∧ i = .int .i64 k ∧ ∃ n, wr = w.drewN n) (fun i _ => ls.length - (intOf i).toNat)
  case atStart => exact ⟨0, by omega, rfl, 0, rfl⟩
  case round =>
    obtain ⟨k, hk, rfl, n, rfl⟩ := hrel
    by_cases hlt : k < ls.length
    · obtain ⟨g, off, s, rfl, hg, hcell, HS, hs⟩ := hA.get hlt
      obtain ⟨g2, off2, s2, rfl, hg2, hcell2, HS2, hs2⟩ := hB.get hlt
      have e : s2 = s := by rw [← HS.out, ← HS2.out]
      subst e
      have HA := Lib.hid hA; have HB := Lib.hid hB
      clear hA hB
      have c1 : (0 : Int) ≤ (k : Int) := by omega
      have c2 : (k : Int) < (ls.length : Int) := by omega
      go_wp2
      go_quiet (fail)
      go_wp2
      go_roundw
      case rel => exact ⟨k + 1, by omega, by go_num, _, rfl⟩
      case measure => simp [intOf]; omega
    · obtain rfl : k = ls.length := by omega
      go_wp2
      go_ret
      exact ⟨rfl, _, rfl⟩
end Go.Proofs.Ytegipokbbmnahaa
