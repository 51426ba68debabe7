/- Contract: concat. -/
import Derived.Test.YtegipokbbmnahaaBuf
import Derived.Test.YtegipokbbmnahaaCatMath
import Derived.Test.YtegipokbbmnahaaWordsC
namespace Go.Proofs.Ytegipokbbmnahaa
open Go.RowKit
set_option linter.unusedVariables false

def sizes (ls : List ByteArray) : List Nat := ls.map ByteArray.size
def texts (ls : List ByteArray) : List (List UInt8) := ls.map L
theorem texts_sizes (ls : List ByteArray) : (texts ls).map List.length = sizes ls := by
  unfold texts sizes
  rw [List.map_map]
  apply List.map_congr_left
  intro s _
  exact L_len s
theorem sizes_step (b : Nat) (ls : List ByteArray) (k : Nat) (hk : k < ls.length) : WM.tl b (sizes (ls.take (k + 1))) = WM.tl b (sizes (ls.take k)) + (ls[k].size + b) ∧ WM.tl b (sizes (ls.take (k + 1))) ≤ WM.tl b (sizes ls) := by
  constructor
  · unfold sizes
    rw [List.take_succ_eq_append_getElem hk, List.map_append, List.map_singleton, WM.tl_snoc]
  · have := WM.tl_take b (sizes ls) (k + 1)
    unfold sizes at *
    rw [List.map_take]
    exact this
theorem texts_step (b : List UInt8) (ls : List ByteArray) (k : Nat) (hk : k < ls.length) : WM.catL b (texts (ls.take (k + 1))) = (if k = 0 then [] else WM.catL b (texts (ls.take k)) ++ b) ++ L ls[k] := by
  unfold texts
  rw [List.take_succ_eq_append_getElem hk, List.map_append, List.map_singleton]
  by_cases h : k = 0
  · subst h; simp [WM.catL]
  · rw [if_neg h, WM.catL_snoc]
    intro e
    have := congrArg List.length e
    simp at this
    rcases this with h1 | h1
    · exact h h1
    · rw [h1] at hk; simp at hk
theorem cat_le (b : List UInt8) (ls : List ByteArray) (k : Nat) : (WM.catL b (texts (ls.take k))).length ≤ WM.tl b.length (sizes (ls.take k)) := by
  rw [← texts_sizes]; exact WM.catL_len _ _

set_option maxHeartbeats 2000000 in
theorem concat_any (b : ByteArray) (A : Option Addr) (ls : List ByteArray) (cap : Nat) (w : World) (hb : b.size ≤ 9223372036854775807) (hI : Strs w A ls) (hl : WM.tl b.size (sizes ls) ≤ 140737488355328) :
    Calls Try.prog 60 #[.string b, .slice A ls.length cap] w fun e w' => e = .returned (.string (S (WM.catL (L b) (texts ls)))) ∧ Below w.heap.size w w' := by
  obtain ⟨i0, hi, hz0, hz1, hz2⟩ := info_parts info_u8
  have HI0 := Lib.hid hi; have HZ0 := Lib.hid hz0; have HZ1 := Lib.hid hz1; have HZ2 := Lib.hid hz2
  clear hi hz0 hz1 hz2
  generalize hr : S (WM.catL (L b) (texts ls)) = res
  have HR := Lib.hid hr
  clear hr
  have hlen := hI.len
  go_enter Try.func60, Try.ntmps60
  go_wp2
  go_loop [5, 13] (fun n i => ∃ k x : Nat, k ≤ ls.length ∧ i = .int .i64 k ∧ n = .int .i64 (x : Int) ∧ x ≤ 140737488355328 ∧ Hid (WM.tl b.size (sizes (ls.take k)) = x)) (fun _ i => ls.length - (intOf i).toNat)
  case atStart => exact ⟨0, 0, by omega, rfl, rfl, by omega, Lib.hid rfl⟩
  case round =>
    obtain ⟨k, x, hk, rfl, rfl, hx, HX⟩ := hrel
    by_cases hlt : k < ls.length
    · obtain ⟨g, off, s, rfl, hg, hcell, HS, hs⟩ := hI.get hlt
      have HI := Lib.hid hI
      clear hI
      have hst := sizes_step b.size ls k hlt
      rw [HS.out, HX.out] at hst
      have hst2 := hst.1 ▸ hst.2
      have HST := Lib.hid hst.1
      have bnd : x + (s.size + b.size) ≤ 140737488355328 := by omega
      clear hst hst2
      go_wp2
      go_round
      case rel => exact ⟨k + 1, x + (s.size + b.size), by omega, by go_num, by go_num, bnd, HST⟩
      case measure => simp [intOf]; omega
    · obtain rfl : k = ls.length := by omega
      have HX2 := HX.out
      rw [List.take_of_length_le (Nat.le_refl _)] at HX2
      clear HX
      have HX := Lib.hid HX2
      clear HX2
      go_wp2_with (refine wpList_make_own _ rfl _ _ _ rfl w.heap.size 5 i0 _ 1 Try.underlying40 HI0.out HZ0.out HZ1.out .i64 .i64 (x : Int) x rfl rfl rfl ?c1 ?c2 (Nat.le_refl _) ?_)
      case c1 => rw [HZ2.out]; omega
      case c2 => unfold maxLen; omega
      intro w1 own1 g1
      have ob1 : OB w1 w.heap.size (.slice (some ⟨w.heap.size, 0, none⟩) 0 x) [] := own1
      have b1 : Below w.heap.size w w1 := (Below.refl _ _).grown g1 (Nat.le_refl _) (fun _ h => by cases h)
      clear own1 g1
      have HOB := Lib.hid ob1
      have HB1 := Lib.hid b1
      clear ob1 b1
      go_wp2
      go_loopw [8, 29] (fun v i wr => ∃ k : Nat, k ≤ ls.length ∧ i = .int .i64 k ∧ Hid (OB wr w.heap.size v (WM.catL (L b) (texts (ls.take k)))) ∧ Hid (Below w.heap.size w wr)) (fun _ i _ => ls.length - (intOf i).toNat)
      case atStart => exact ⟨0, by omega, rfl, HOB, HB1⟩
      case round =>
        clear HOB HB1
        obtain ⟨k, hk2, rfl, HOB, HB⟩ := hrel
        by_cases hlt : k < ls.length
        · obtain ⟨g, off, s, rfl, hg, hcell, HS, hs⟩ := (hI.below HB.out).get hlt
          have HI := Lib.hid hI
          clear hI
          have hst := sizes_step b.size ls k hlt
          have hcl := cat_le (L b) ls k
          rw [L_len] at hcl
          rw [HS.out] at hst
          have bnd : (WM.catL (L b) (texts (ls.take k))).length + (s.size + b.size) ≤ 140737488355328 := by omega
          have HT := texts_step (L b) ls k hlt
          rw [HS.out] at HT
          clear hst hcl
          by_cases hk0 : k = 0
          · rw [if_pos hk0] at HT
            have HT2 : Hid (WM.catL (L b) (texts (ls.take (k + 1))) = WM.catL (L b) (texts (ls.take k)) ++ L s) := Lib.hid (by rw [HT, hk0]; rfl)
            clear HT
            have HT := HT2
            clear HT2
            have hk1 : ¬ 0 < k := by omega
            have hk3 : decide (0 < k) = false := decide_eq_false hk1
            clear hk0
            go_wp2_with (at_builtin; refine wpList_catS _ w.heap.size _ s _ _ rfl rfl _ rfl rfl HOB.out ?c1 ?c2 ?_)
            case c1 => omega
            case c2 => exact HB.out.size
            intro v1 w1 ob1 b1 _
            have HO1 : Hid (OB w1 w.heap.size v1 (WM.catL (L b) (texts (ls.take (k + 1))))) := Lib.hid (by rw [HT.out]; exact ob1)
            have HB1 := Lib.hid (HB.out.trans b1)
            clear ob1 b1 hcell
            go_wp2
            go_roundw
            case rel => exact ⟨k + 1, by omega, by go_num, HO1, HB1⟩
            case measure => simp [intOf]; omega
          · rw [if_neg hk0] at HT
            have HT := Lib.hid HT
            have hkp : 0 < k := by omega
            go_wp2_with (at_builtin; refine wpList_catS _ w.heap.size _ b _ _ rfl rfl _ rfl rfl HOB.out ?c1 ?c2 ?_)
            case c1 => omega
            case c2 => exact HB.out.size
            intro v1 w1 ob1 b1 _
            have HO1 := Lib.hid ob1
            have HB1 := Lib.hid (HB.out.trans b1)
            clear ob1 b1 hcell
            go_wp2_with (at_builtin; refine wpList_catS _ w.heap.size _ s _ _ rfl rfl _ rfl rfl HO1.out ?c3 ?c4 ?_)
            case c3 => rw [List.length_append, L_len]; omega
            case c4 => exact HB1.out.size
            intro v2 w2 ob2 b2 _
            have HO2 : Hid (OB w2 w.heap.size v2 (WM.catL (L b) (texts (ls.take (k + 1))))) := Lib.hid (by rw [HT.out, List.append_assoc]; exact ob2)
            have HB2 := Lib.hid (HB1.out.trans b2)
            clear ob2 b2
            go_wp2
            go_roundw
            case rel => exact ⟨k + 1, by omega, by go_num, HO2, HB2⟩
            case measure => simp [intOf]; omega
        · obtain rfl : k = ls.length := by omega
          have ho := HOB.out
          rw [List.take_of_length_le (Nat.le_refl _)] at ho
          obtain ⟨A2, c2, rfl, hby⟩ := ho.bytes
          have hcv := str_of hby c2
          rw [HR.out] at hcv
          clear hby ho HOB
          go_wp2
          go_ret
          exact ⟨rfl, HB.out⟩
end Go.Proofs.Ytegipokbbmnahaa
