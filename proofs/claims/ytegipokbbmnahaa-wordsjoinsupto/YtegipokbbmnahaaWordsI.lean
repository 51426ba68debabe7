/- Contracts: Text and Money, the program's. -/
import Derived.Test.YtegipokbbmnahaaWordsH
import Derived.StillTailTactics
namespace Go.Proofs.Ytegipokbbmnahaa
open Go.RowKit
set_option linter.unusedVariables false

theorem dec_len_le (n : Nat) : ∀ k, n < 10 ^ (k + 1) → (WM.dec n).length ≤ k + 1 := by
  induction n using WM.dec.induct with
  | case1 n h => intro k _; rw [WM.dec_small h]; simp
  | case2 n h ih =>
    intro k hk
    rw [WM.dec_big h, List.length_append]
    cases k with
    | zero => simp at hk; omega
    | succ k =>
      have := ih k (by rw [Nat.pow_succ] at hk; omega)
      simp; omega
theorem dec_len {n : Nat} (h : n < 18446744073709551616) : (WM.dec n).length ≤ 20 := dec_len_le n 19 (by omega)

theorem text_any (n : Int) (w : World) (h1 : -9223372036854775808 ≤ n) (h2 : n ≤ 9223372036854775807) :
    Calls Try.prog 21 #[.int .i64 n] w fun e w' => e = .returned (.string (S (WM.textL n))) ∧ Below w.heap.size w w' := by
  generalize hr : S (WM.textL n) = res
  have HR := Lib.hid hr
  clear hr
  have HC1 := Lib.hid (signAndSize_any n w h1 h2)
  have hu : n.natAbs < 18446744073709551616 := by omega
  have hsg : (S (if n < 0 then [45] else [])).size ≤ 1 := by rw [S_size]; split <;> simp
  generalize hg : S (if n < 0 then [45] else []) = sg at *
  have HG := Lib.hid hg
  clear hg
  go_enter Try.func21, Try.ntmps21
  go_wp2_with fail
  refine HC1.out.mono ?_
  rintro e w' ⟨rfl, rfl⟩
  go_wp2_with fail
  refine (digitsOf_any n.natAbs 1 w hu (by omega) (by omega)).mono ?_
  rintro e w1 ⟨rfl, b1⟩
  have hd : (S (WM.dp n.natAbs 1)).size ≤ 20 := by rw [S_size, (WM.dp_dec _).2]; exact dec_len hu
  generalize hg : S (WM.dp n.natAbs 1) = ds at *
  have HDS := Lib.hid hg
  clear hg
  have HB1 := Lib.hid b1
  clear b1
  go_wp2_with fail
  have hm := Strs.made w1 [sg, ds] (by
    intro x hx
    simp at hx
    unfold maxLen
    rcases hx with rfl | rfl <;> omega) (by simp [maxLen])
  refine (concat_any ⟨#[]⟩ _ [sg, ds] 2 _ (Nat.zero_le _) hm (by show WM.tl 0 [sg.size, ds.size] ≤ _; simp [WM.tl]; omega)).mono ?_
  rintro e w2 ⟨rfl, b2⟩
  clear hm
  have HB2 : Hid (Below w.heap.size w w2) := Lib.hid ((HB1.out.alloc HB1.out.size _).trans (b2.mono (by have := HB1.out.size; simp; omega)))
  clear b2
  have HF : Hid (S (WM.catL (L ⟨#[]⟩) (texts [sg, ds])) = res) := Lib.hid (by
    rw [← HR.out]
    show S (L sg ++ L ds) = _
    rw [← HG.out, ← HDS.out, L_S, L_S, (WM.dp_dec _).2]
    unfold WM.textL
    split <;> rfl)
  rw [HF.out]
  go_wp2
  go_ret
  exact ⟨rfl, HB2.out⟩

set_option maxHeartbeats 2000000 in
theorem money_any (n : Int) (w : World) (h1 : -9223372036854775808 ≤ n) (h2 : n ≤ 9223372036854775807) :
    Calls Try.prog 23 #[.int .i64 n] w fun e w' => e = .returned (.string (S (WM.moneyL n))) ∧ Below w.heap.size w w' := by
  generalize hr : S (WM.moneyL n) = res
  have HR := Lib.hid hr
  clear hr
  have HC1 := Lib.hid (signAndSize_any n w h1 h2)
  have hu : n.natAbs < 18446744073709551616 := by omega
  have hsg : (S (if n < 0 then [45] else [])).size ≤ 1 := by rw [S_size]; split <;> simp
  generalize hg : S (if n < 0 then [45] else []) = sg at *
  have HG := Lib.hid hg
  clear hg
  go_enter Try.func23, Try.ntmps23
  go_wp2_with fail
  refine HC1.out.mono ?_
  rintro e w' ⟨rfl, rfl⟩
  go_wp2_with fail
  refine (digitsOf_any n.natAbs 3 w hu (by omega) (by omega)).mono ?_
  rintro e w1 ⟨rfl, b1⟩
  have hdl : (S (WM.dp n.natAbs 3)).size = (WM.dec (n.natAbs / 100)).length + 2 := by rw [S_size, WM.dp_three]; simp
  have hd0 := dec_len (n := n.natAbs / 100) (by omega)
  have hd1 := WM.dec_length (n.natAbs / 100)
  have HX : Hid (L ((S (WM.dp n.natAbs 3)).extract 0 (WM.dec (n.natAbs / 100)).length) = WM.dec (n.natAbs / 100)) := Lib.hid (by
    rw [L_extract, L_S, WM.dp_three]; simp)
  have HY : Hid (L ((S (WM.dp n.natAbs 3)).extract (WM.dec (n.natAbs / 100)).length (S (WM.dp n.natAbs 3)).size) = [UInt8.ofNat (48 + n.natAbs / 10 % 10), UInt8.ofNat (48 + n.natAbs % 10)]) := Lib.hid (by
    rw [L_extract, L_take_all, L_S, WM.dp_three]; simp)
  generalize hg : S (WM.dp n.natAbs 3) = ds at *
  clear hg
  generalize hp : (WM.dec (n.natAbs / 100)).length = p at *
  have l1 : ds.size ≤ 22 := by omega
  have e1 : (ds.size : Int) - 2 = (p : Int) := by omega
  have l2 : p ≤ ds.size := by omega
  have q1 : (0 : Int) ≤ (p : Int) := by omega
  have q2 : (p : Int) ≤ (ds.size : Int) := by omega
  have z1 := ByteArray.size_extract (a := ds) (b := 0) (e := p)
  have z2 := ByteArray.size_extract (a := ds) (b := p) (e := ds.size)
  have y1 : (ds.extract 0 p).size ≤ 22 := by omega
  have y2 : (ds.extract p ds.size).size ≤ 22 := by omega
  have Y1 := Lib.hid y1; have Y2 := Lib.hid y2
  have HB1 := Lib.hid b1
  clear b1 hp hdl hd0 hd1 z1 z2 y1 y2
  go_wp2
  go_still_tail 7, (by kernel_rfl)
  change wpList _ _ _ _ _ w1.drew
  have HB3 : Hid (Below w.heap.size w w1.drew) := Lib.hid HB1.out.drew
  generalize w1.drew = w3 at *
  clear HB1
  generalize ds.extract 0 p = xa at *
  generalize ds.extract p ds.size = xb at *
  have y1 := Y1.out; have y2 := Y2.out
  go_wp2_with fail
  have hm := Strs.made w3 [sg, xa, ⟨#[46]⟩, xb] (by
    intro x hx
    simp at hx
    unfold maxLen
    rcases hx with rfl | rfl | rfl | rfl
    · omega
    · omega
    · show 1 ≤ _; omega
    · omega) (by simp [maxLen])
  refine (concat_any ⟨#[]⟩ _ [sg, xa, ⟨#[46]⟩, xb] 4 _ (Nat.zero_le _) hm (by show WM.tl 0 [sg.size, xa.size, 1, xb.size] ≤ _; simp [WM.tl]; omega)).mono ?_
  rintro e w2 ⟨rfl, b2⟩
  clear hm
  have HB2 : Hid (Below w.heap.size w w2) := Lib.hid ((HB3.out.alloc HB3.out.size _).trans (b2.mono (by have := HB3.out.size; simp; omega)))
  clear b2
  have HF : Hid (S (WM.catL (L ⟨#[]⟩) (texts [sg, xa, ⟨#[46]⟩, xb])) = res) := Lib.hid (by
    rw [← HR.out]
    show S (L sg ++ (L xa ++ (L ⟨#[46]⟩ ++ L xb))) = _
    rw [← HG.out, HX.out, HY.out, L_S]
    unfold WM.moneyL WM.money
    have e46 : L ⟨#[46]⟩ = [46] := rfl
    rw [e46]
    split <;> simp)
  rw [HF.out]
  go_wp2
  go_ret
  exact ⟨rfl, HB2.out⟩
end Go.Proofs.Ytegipokbbmnahaa
