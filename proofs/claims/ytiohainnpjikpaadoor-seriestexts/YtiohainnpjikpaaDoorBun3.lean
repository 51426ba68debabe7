/- Put together: WordsF, WordsD, WordsG, DecMath, Blk, WordsH, WordsI, DateMath. -/
import Derived.Test.YtiohainnpjikpaaDoorBun2
import Derived.Deep.Cut
import Derived.Deep.CutRange
import Derived.Test.YtiohainnpjikpaaDoorBun1
import Derived.StillTailTactics
import Derived.Below
/- Contract: concat. -/
namespace Go.Proofs.YtiohainnpjikpaaDoor
open Go.RowKit
set_option linter.unusedVariables false

def sizes (ls : List ByteArray) : List Nat := ls.map ByteArray.size
def texts (ls : List ByteArray) : List (List UInt8) := ls.map L
theorem texts_sizes (ls : List ByteArray) : (texts ls).map List.length = sizes ls := by
  unfold texts sizes
  rw [List.map_map]
  apply List.map_congr_left
  intro s _
  exact L_len s
theorem sizes_step (b : Nat) (ls : List ByteArray) (k : Nat) (hk : k < ls.length) : WM.tl b (sizes (ls.take (k + 1))) = WM.tl b (sizes (ls.take k)) + (ls[k].size + b) ∧ WM.tl b (sizes (ls.take (k + 1))) ≤ WM.tl b (sizes ls) := by
  constructor
  · unfold sizes
    rw [List.take_succ_eq_append_getElem hk, List.map_append, List.map_singleton, WM.tl_snoc]
  · have := WM.tl_take b (sizes ls) (k + 1)
    unfold sizes at *
    rw [List.map_take]
    exact this
theorem texts_step (b : List UInt8) (ls : List ByteArray) (k : Nat) (hk : k < ls.length) : WM.catL b (texts (ls.take (k + 1))) = (if k = 0 then [] else WM.catL b (texts (ls.take k)) ++ b) ++ L ls[k] := by
  unfold texts
  rw [List.take_succ_eq_append_getElem hk, List.map_append, List.map_singleton]
  by_cases h : k = 0
  · subst h; simp [WM.catL]
  · rw [if_neg h, WM.catL_snoc]
    intro e
    have := congrArg List.length e
    simp at this
    rcases this with h1 | h1
    · exact h h1
    · rw [h1] at hk; simp at hk
theorem cat_le (b : List UInt8) (ls : List ByteArray) (k : Nat) : (WM.catL b (texts (ls.take k))).length ≤ WM.tl b.length (sizes (ls.take k)) := by
  rw [← texts_sizes]; exact WM.catL_len _ _

set_option maxHeartbeats 2000000 in
theorem concat_any (b : ByteArray) (A : Option Addr) (ls : List ByteArray) (cap : Nat) (w : World) (hb : b.size ≤ 9223372036854775807) (hI : Strs w A ls) (hl : WM.tl b.size (sizes ls) ≤ 140737488355328) :
    Calls Tryd.prog 69 #[.string b, .slice A ls.length cap] w fun e w' => e = .returned (.string (S (WM.catL (L b) (texts ls)))) ∧ Below w.heap.size w w' := by
  obtain ⟨i0, hi, hz0, hz1, hz2⟩ := info_parts info_u8
  have HI0 := Lib.hid hi; have HZ0 := Lib.hid hz0; have HZ1 := Lib.hid hz1; have HZ2 := Lib.hid hz2
  clear hi hz0 hz1 hz2
  generalize hr : S (WM.catL (L b) (texts ls)) = res
  have HR := Lib.hid hr
  clear hr
  have hlen := hI.len
  go_enter Tryd.func69, Tryd.ntmps69
  go_wp2
  go_loop [5, 13] (fun n i => ∃ k x : Nat, k ≤ ls.length ∧ i = .int .i64 k ∧ n = .int .i64 (x : Int) ∧ x ≤ 140737488355328 ∧ Hid (WM.tl b.size (sizes (ls.take k)) = x)) (fun _ i => ls.length - (intOf i).toNat)
  case atStart => exact ⟨0, 0, by omega, rfl, rfl, by omega, Lib.hid rfl⟩
  case round =>
    obtain ⟨k, x, hk, rfl, rfl, hx, HX⟩ := hrel
    by_cases hlt : k < ls.length
    · obtain ⟨g, off, s, rfl, hg, hcell, HS, hs⟩ := hI.get hlt
      have HI := Lib.hid hI
      clear hI
      have hst := sizes_step b.size ls k hlt
      rw [HS.out, HX.out] at hst
      have hst2 := hst.1 ▸ hst.2
      have HST := Lib.hid hst.1
      have bnd : x + (s.size + b.size) ≤ 140737488355328 := by omega
      clear hst hst2
      go_wp2
      go_round
      case rel => exact ⟨k + 1, x + (s.size + b.size), by omega, by go_num, by go_num, bnd, HST⟩
      case measure => simp [intOf]; omega
    · obtain rfl : k = ls.length := by omega
      have HX2 := HX.out
      rw [List.take_of_length_le (Nat.le_refl _)] at HX2
      clear HX
      have HX := Lib.hid HX2
      clear HX2
      go_wp2_with (refine wpList_make_own _ rfl _ _ _ rfl w.heap.size 5 i0 _ 1 Tryd.underlying94 HI0.out HZ0.out HZ1.out .i64 .i64 (x : Int) x rfl rfl rfl ?c1 ?c2 (Nat.le_refl _) ?_)
      case c1 => rw [HZ2.out]; omega
      case c2 => unfold maxLen; omega
      intro w1 own1 g1
      have ob1 : OB w1 w.heap.size (.slice (some ⟨w.heap.size, 0, none⟩) 0 x) [] := own1
      have b1 : Below w.heap.size w w1 := (Below.refl _ _).grown g1 (Nat.le_refl _) (fun _ h => by cases h)
      clear own1 g1
      have HOB := Lib.hid ob1
      have HB1 := Lib.hid b1
      clear ob1 b1
      go_wp2
      go_loopw [8, 29] (fun v i wr => ∃ k : Nat, k ≤ ls.length ∧ i = .int .i64 k ∧ Hid (OB wr w.heap.size v (WM.catL (L b) (texts (ls.take k)))) ∧ Hid (Below w.heap.size w wr)) (fun _ i _ => ls.length - (intOf i).toNat)
      case atStart => exact ⟨0, by omega, rfl, HOB, HB1⟩
      case round =>
        clear HOB HB1
        obtain ⟨k, hk2, rfl, HOB, HB⟩ := hrel
        by_cases hlt : k < ls.length
        · obtain ⟨g, off, s, rfl, hg, hcell, HS, hs⟩ := (hI.below HB.out).get hlt
          have HI := Lib.hid hI
          clear hI
          have hst := sizes_step b.size ls k hlt
          have hcl := cat_le (L b) ls k
          rw [L_len] at hcl
          rw [HS.out] at hst
          have bnd : (WM.catL (L b) (texts (ls.take k))).length + (s.size + b.size) ≤ 140737488355328 := by omega
          have HT := texts_step (L b) ls k hlt
          rw [HS.out] at HT
          clear hst hcl
          by_cases hk0 : k = 0
          · rw [if_pos hk0] at HT
            have HT2 : Hid (WM.catL (L b) (texts (ls.take (k + 1))) = WM.catL (L b) (texts (ls.take k)) ++ L s) := Lib.hid (by rw [HT, hk0]; rfl)
            clear HT
            have HT := HT2
            clear HT2
            have hk1 : ¬ 0 < k := by omega
            have hk3 : decide (0 < k) = false := decide_eq_false hk1
            clear hk0
            go_wp2_with (at_builtin; refine wpList_catS _ w.heap.size _ s _ _ rfl rfl _ rfl rfl HOB.out ?c1 ?c2 ?_)
            case c1 => omega
            case c2 => exact HB.out.size
            intro v1 w1 ob1 b1 _
            have HO1 : Hid (OB w1 w.heap.size v1 (WM.catL (L b) (texts (ls.take (k + 1))))) := Lib.hid (by rw [HT.out]; exact ob1)
            have HB1 := Lib.hid (HB.out.trans b1)
            clear ob1 b1 hcell
            go_wp2
            go_roundw
            case rel => exact ⟨k + 1, by omega, by go_num, HO1, HB1⟩
            case measure => simp [intOf]; omega
          · rw [if_neg hk0] at HT
            have HT := Lib.hid HT
            have hkp : 0 < k := by omega
            go_wp2_with (at_builtin; refine wpList_catS _ w.heap.size _ b _ _ rfl rfl _ rfl rfl HOB.out ?c1 ?c2 ?_)
            case c1 => omega
            case c2 => exact HB.out.size
            intro v1 w1 ob1 b1 _
            have HO1 := Lib.hid ob1
            have HB1 := Lib.hid (HB.out.trans b1)
            clear ob1 b1 hcell
            go_wp2_with (at_builtin; refine wpList_catS _ w.heap.size _ s _ _ rfl rfl _ rfl rfl HO1.out ?c3 ?c4 ?_)
            case c3 => rw [List.length_append, L_len]; omega
            case c4 => exact HB1.out.size
            intro v2 w2 ob2 b2 _
            have HO2 : Hid (OB w2 w.heap.size v2 (WM.catL (L b) (texts (ls.take (k + 1))))) := Lib.hid (by rw [HT.out, List.append_assoc]; exact ob2)
            have HB2 := Lib.hid (HB1.out.trans b2)
            clear ob2 b2
            go_wp2
            go_roundw
            case rel => exact ⟨k + 1, by omega, by go_num, HO2, HB2⟩
            case measure => simp [intOf]; omega
        · obtain rfl : k = ls.length := by omega
          have ho := HOB.out
          rw [List.take_of_length_le (Nat.le_refl _)] at ho
          obtain ⟨A2, c2, rfl, hby⟩ := ho.bytes
          have hcv := str_of hby c2
          rw [HR.out] at hcv
          clear hby ho HOB
          go_wp2
          go_ret
          exact ⟨rfl, HB.out⟩
end Go.Proofs.YtiohainnpjikpaaDoor

/- Contracts: the reference's numbers; names. -/
namespace Go.Proofs.YtiohainnpjikpaaDoor
open Go.RowKit
set_option linter.unusedVariables false

set_option maxHeartbeats 1000000 in
theorem rvalue_any (s : ByteArray) (w : World) (hs : s.size ≤ 9223372036854775807) (hd : (L s).all WM.dig = true) :
    Calls Tryd.prog 64 #[.string s] w fun e w' => e = .returned (.int .i64 (WM.sval (L s))) ∧ w = w' := by
  have HD := Lib.hid hd
  clear hd
  generalize hv : WM.sval (L s) = v
  have HV := Lib.hid hv
  clear hv
  go_enter Tryd.func64, Tryd.ntmps64
  go_wp2
  go_loop [3, 4] (fun n i => ∃ k : Nat, ∃ x : Int, k ≤ s.size ∧ i = .int .i64 k ∧ n = .int .i64 x ∧ 0 ≤ x ∧ x ≤ 1152921504606846979 ∧ Hid (WM.sval ((L s).take k) = x)) (fun _ i => s.size - (intOf i).toNat)
  case atStart => exact ⟨0, 0, by omega, rfl, rfl, by omega, by omega, Lib.hid rfl⟩
  case round =>
    obtain ⟨k, x, hk, rfl, rfl, x0, x1, HX⟩ := hrel
    by_cases hlt : k < s.size
    · by_cases hx : 115292150460684697 < x
      · have HN := Lib.hid (WM.sval_over k (by rw [L_len]; exact hlt) (by rw [HX.out]; exact hx))
        go_wp2
        go_ret
        exact ⟨by rw [← HV.out, HN.out]; rfl, rfl⟩
      · have hc : WM.dig s[k] = true := by rw [← L_get s k hlt]; exact WM.all_get HD.out k (by rw [L_len]; exact hlt)
        have hst := WM.sval_snoc ((L s).take k) s[k]
        have hdr := WM.dval_range hc
        obtain ⟨d1, d2⟩ := WM.dig_true.1 hc
        rw [← L_take_succ s k hlt, HX.out, if_neg hx] at hst
        have HS := Lib.hid hst
        clear hst hdr hc
        unfold WM.dval at HS
        go_wp2
        go_round
        case rel => exact ⟨k + 1, _, by omega, by go_num, rfl, by omega, by omega, Lib.hid (by rw [HS.out])⟩
        case measure => simp [intOf]; omega
    · obtain rfl : k = s.size := by omega
      have HE := HX.out
      rw [L_take_all] at HE
      have HE := Lib.hid HE
      go_wp2
      go_ret
      exact ⟨by rw [← HV.out, HE.out]; rfl, rfl⟩

theorem rsigned_any (v : Int) (b : Bool) (w : World) (v0 : 0 ≤ v) (v1 : v ≤ 1152921504606846979) :
    Calls Tryd.prog 63 #[.int .i64 v, .bool b] w fun e w' => e = .returned (.tuple #[.int .i64 (WM.signN v b), .int .i64 (WM.signE v b)]) ∧ w = w' := by
  generalize hn : WM.signN v b = rn
  generalize he : WM.signE v b = re
  have HN := Lib.hid hn
  have HE := Lib.hid he
  clear hn he
  by_cases c1 : 1152921504606846976 < v
  · have H1 : Hid (rn = 0 ∧ re = 3) := Lib.hid (by
      rw [← HN.out, ← HE.out]; unfold WM.signN WM.signE WM.most
      have : v ≠ 0 := by omega
      simp [c1, this])
    have d0 : (v == 0) = false := by simp; omega
    cases b
    · go_enter Tryd.func63, Tryd.ntmps63
      go_wp2
      go_ret2
      exact ⟨by rw [H1.out.1, H1.out.2]; rfl, rfl⟩
    · go_enter Tryd.func63, Tryd.ntmps63
      go_wp2
      go_ret2
      exact ⟨by rw [H1.out.1, H1.out.2]; rfl, rfl⟩
  · have hm : ¬ WM.most < v := by unfold WM.most; omega
    cases b
    · have H1 : Hid (rn = v ∧ re = 0) := Lib.hid (by rw [← HN.out, ← HE.out]; unfold WM.signN WM.signE; simp [hm])
      clear hm
      go_enter Tryd.func63, Tryd.ntmps63
      go_wp2
      go_ret2
      exact ⟨by rw [H1.out.1, H1.out.2]; rfl, rfl⟩
    · by_cases c0 : v = 0
      · subst c0
        have H1 : Hid (rn = 0 ∧ re = 5) := Lib.hid (by rw [← HN.out, ← HE.out]; exact ⟨rfl, rfl⟩)
        clear hm
        go_enter Tryd.func63, Tryd.ntmps63
        go_wp2
        go_ret2
        exact ⟨by rw [H1.out.1, H1.out.2]; rfl, rfl⟩
      · have H1 : Hid (rn = -v ∧ re = 0) := Lib.hid (by rw [← HN.out, ← HE.out]; unfold WM.signN WM.signE; simp [hm, c0])
        have d0 : (v == 0) = false := by simpa using c0
        clear hm
        go_enter Tryd.func63, Tryd.ntmps63
        go_wp2
        go_ret2
        exact ⟨by rw [H1.out.1, H1.out.2]; rfl, rfl⟩

theorem rint_any (s : ByteArray) (w : World) (hs : s.size ≤ 9223372036854775807) :
    Calls Tryd.prog 36 #[.string s] w fun e w' => e = .returned (.tuple #[.int .i64 (WM.intN (L s)), .int .i64 (WM.intE (L s))]) ∧ w = w' := by
  generalize hn : WM.intN (L s) = rn
  generalize he : WM.intE (L s) = re
  have HN := Lib.hid hn
  have HE := Lib.hid he
  clear hn he
  obtain ⟨t, h1, h2, h3⟩ := cut_parts s
  have h4 : t.size ≤ 9223372036854775807 := by omega
  have H1 := Lib.hid h1
  clear h1
  have fin : ∀ b, WM.below (L s) = b → WM.digits (L t) = false → rn = 0 ∧ re = 5 := by
    intro b hb hd
    rw [← HN.out, ← HE.out]; unfold WM.intN WM.intE; rw [← H1.out, hd]; exact ⟨rfl, rfl⟩
  have fin2 : ∀ b, WM.below (L s) = b → WM.digits (L t) = true → rn = WM.signN (WM.sval (L t)) b ∧ re = WM.signE (WM.sval (L t)) b := by
    intro b hb hd
    have hv := WM.sign_sval (WM.digits_all hd) b
    rw [← HN.out, ← HE.out]; unfold WM.intN WM.intE; rw [← H1.out, hd, hb, hv.1, hv.2]; exact ⟨rfl, rfl⟩
  have F1 := Lib.hid fin; have F2 := Lib.hid fin2
  clear fin fin2
  rcases h3 with ⟨h0, rfl, hb⟩ | ⟨hp, c, rfl, hb⟩ | ⟨hp, c, ht, hb⟩
  · have HB := Lib.hid hb
    have c0 : decide (0 < t.size) = false := decide_eq_false (by omega)
    clear hb h2 hs
    have hd : WM.digits (L t) = false := by rw [L_nil h0]; rfl
    have HF := Lib.hid (F1.out _ HB.out hd)
    go_enter Tryd.func36, Tryd.ntmps36
    go_wp2_with fail
    refine (rdigits_any t _ h4).mono ?_
    rintro e w' ⟨rfl, rfl⟩
    go_wp2
    go_ret2
    exact ⟨by rw [HF.out.1, HF.out.2]; rfl, rfl⟩
  · have HB := Lib.hid hb
    clear hb h2 hs
    cases hd : WM.digits (L t)
    · have HF := Lib.hid (F1.out _ HB.out hd)
      go_enter Tryd.func36, Tryd.ntmps36
      go_wp2_with fail
      refine (rdigits_any t _ h4).mono ?_
      rintro e w' ⟨rfl, rfl⟩
      go_wp2
      go_ret2
      exact ⟨by rw [HF.out.1, HF.out.2]; rfl, rfl⟩
    · have HD := Lib.hid hd
      go_enter Tryd.func36, Tryd.ntmps36
      go_wp2_with fail
      refine (rdigits_any t _ h4).mono ?_
      rintro e w' ⟨rfl, rfl⟩
      go_wp2_with fail
      refine (rvalue_any t _ h4 (WM.digits_all HD.out)).mono ?_
      rintro e w' ⟨rfl, rfl⟩
      have HF := Lib.hid (F2.out _ HB.out HD.out)
      obtain ⟨v0, v1⟩ := (WM.sval_val (WM.digits_all HD.out)).1
      go_wp2_with fail
      refine (rsigned_any _ _ _ v0 v1).mono ?_
      rintro e w' ⟨rfl, rfl⟩
      go_wp2
      go_ret2
      exact ⟨by rw [HF.out.1, HF.out.2]; rfl, rfl⟩
  · have HB := Lib.hid hb
    have HT := Lib.hid ht
    clear hb h2 ht
    cases hd : WM.digits (L t)
    · have HF := Lib.hid (F1.out _ HB.out hd)
      go_enter Tryd.func36, Tryd.ntmps36
      go_wp2_with fail
      rw [← HT.out]
      refine (rdigits_any t _ h4).mono ?_
      rintro e w' ⟨rfl, rfl⟩
      go_wp2
      go_ret2
      exact ⟨by rw [HF.out.1, HF.out.2]; rfl, rfl⟩
    · have HD := Lib.hid hd
      go_enter Tryd.func36, Tryd.ntmps36
      go_wp2_with fail
      rw [← HT.out]
      refine (rdigits_any t _ h4).mono ?_
      rintro e w' ⟨rfl, rfl⟩
      go_wp2_with fail
      refine (rvalue_any t _ h4 (WM.digits_all HD.out)).mono ?_
      rintro e w' ⟨rfl, rfl⟩
      have HF := Lib.hid (F2.out _ HB.out HD.out)
      obtain ⟨v0, v1⟩ := (WM.sval_val (WM.digits_all HD.out)).1
      go_wp2_with fail
      refine (rsigned_any _ _ _ v0 v1).mono ?_
      rintro e w' ⟨rfl, rfl⟩
      go_wp2
      go_ret2
      exact ⟨by rw [HF.out.1, HF.out.2]; rfl, rfl⟩
end Go.Proofs.YtiohainnpjikpaaDoor

/- Contracts: what reads money. -/
namespace Go.Proofs.YtiohainnpjikpaaDoor
open Go.RowKit
set_option linter.unusedVariables false

theorem Strs.made (w : World) (ls : List ByteArray) (h : ∀ s ∈ ls, s.size ≤ maxLen) (hl : ls.length ≤ maxLen) : Strs (w.alloc (.cells (ls.map Value.string).toArray 9)) (some ⟨w.heap.size, 0, none⟩) ls := by
  refine ⟨⟨by rw [List.length_map]; exact hl, .inr ⟨w.heap.size, 0, rfl, by simp, fun i hi => ?_⟩⟩, h⟩
  rw [Nat.zero_add]
  rw [World.cell?_alloc_mark]
  simp
theorem quiet_eq {P : Program} {f : FuncId} {args : Array Value} {w : World} {n : Nat} {v : Value}
    (h : Calls P f args (w.drewN n) fun e w' => e = .returned v ∧ w.drewN n = w') : Calls P f args (w.drewN n) fun e w'' => e = .returned v ∧ ∃ m, w'' = w.drewN m :=
  h.mono fun _ _ ⟨he, hm⟩ => ⟨he, n, hm.symm⟩

theorem cok_of (t : ByteArray) (p : Nat) (hpl : p < t.size) (hp : t.size = p + 3) : WM.cok (L t) = ((t[p] == 46) && WM.digits (L (t.extract 0 p)) && (L (t.extract (p + 1) t.size)).all WM.dig) ∧
    WM.cval (L t) = WM.val (L (t.extract 0 p) ++ L (t.extract (p + 1) t.size)) := by
  have e1 : (L t).length - 3 = p := by rw [L_len]; omega
  have e2 : (L t).length - 2 = p + 1 := by rw [L_len]; omega
  have e3 : L (t.extract 0 p) = (L t).take p := by rw [L_extract]; simp
  have e4 : L (t.extract (p + 1) t.size) = (L t).drop (p + 1) := by rw [L_extract, L_take_all]
  have e5 : (L t).getD p 0 = t[p]'(by omega) := by
    rw [← L_get t p (by omega)]
    simp [List.getD, List.getElem?_eq_getElem (show p < (L t).length by rw [L_len]; omega)]
  refine ⟨?_, by unfold WM.cval; rw [e1, e2, e3, e4]⟩
  unfold WM.cok
  rw [e1, e2, e3, e4, e5]
  by_cases h : p = 0
  · subst h
    simp [WM.digits_nil]
  · have : decide (4 ≤ (L t).length) = true := by rw [L_len]; simp; omega
    rw [this]; simp

theorem cok_short (t : ByteArray) (h : t.size < 3) : WM.cok (L t) = false := by
  unfold WM.cok
  have : decide (4 ≤ (L t).length) = false := decide_eq_false (by rw [L_len]; omega)
  rw [this]; rfl

theorem dot_eq (c : UInt8) : ((c.toNat : Int) != 46) = !(c == 46) := by
  rw [Bool.eq_iff_iff]
  simp only [bne_iff_ne, ne_eq, Bool.not_eq_true', beq_eq_false_iff_ne]
  constructor
  · intro h h'; exact h (by rw [h']; rfl)
  · intro h h'; exact h (UInt8.toNat_inj.1 (by have : (46 : UInt8).toNat = 46 := rfl; omega))

theorem one_dig (c : ByteArray) (h : 0 < c.size) : WM.digits (L (ByteArray.mk #[49] ++ c)) = (L c).all WM.dig := by
  have hl := L_len c
  rw [L_append]
  have e : L (ByteArray.mk #[49]) = [49] := rfl
  rw [e, WM.digits_def (by simp)]
  have h1 : decide (1 < ([49] ++ L c).length) = true := by
    apply decide_eq_true
    rw [List.length_append, hl]
    simp; omega
  rw [h1]
  have h2 : WM.dig 49 = true := by decide
  simp [h2]

end Go.Proofs.YtiohainnpjikpaaDoor

/- The digits of a number, at least so many. -/
namespace WM
set_option linter.unusedVariables false
def dp (u k : Nat) : List UInt8 := if h : u = 0 ∧ k = 0 then [] else dp (u / 10) (k - 1) ++ [UInt8.ofNat (48 + u % 10)]
termination_by u + k
decreasing_by omega
theorem dp_done : dp 0 0 = [] := by rw [dp]; simp
theorem dp_step {u k : Nat} (h : 0 < u ∨ 0 < k) : dp u k = dp (u / 10) (k - 1) ++ [UInt8.ofNat (48 + u % 10)] := by
  rw [dp, dif_neg (by omega)]
theorem dp_dec (u : Nat) : (0 < u → dp u 0 = dec u) ∧ dp u 1 = dec u := by
  induction u using dec.induct with
  | case1 u h =>
    rw [dec_small h]
    have e : u / 10 = 0 := by omega
    have e2 : u % 10 = u := by omega
    constructor
    · intro h0
      rw [dp_step (.inl h0), e, dp_done, e2]; rfl
    · rw [dp_step (.inr (by omega)), e, dp_done, e2]; rfl
  | case2 u h ih =>
    rw [dec_big h]
    have e := ih.1 (by omega)
    constructor
    · intro h0
      rw [dp_step (.inl h0)]; show dp (u / 10) 0 ++ _ = _; rw [e]
    · rw [dp_step (.inr (by omega))]; show dp (u / 10) 0 ++ _ = _; rw [e]
theorem dp_three (u : Nat) : dp u 3 = dec (u / 100) ++ [UInt8.ofNat (48 + u / 10 % 10), UInt8.ofNat (48 + u % 10)] := by
  rw [dp_step (.inr (by omega))]
  show dp (u / 10) 2 ++ _ = _
  rw [dp_step (.inr (by omega))]
  show dp (u / 10 / 10) 1 ++ _ ++ _ = _
  rw [(dp_dec _).2, show u / 10 / 10 = u / 100 by omega]
  simp
/-- with the digits behind that are there already -/
theorem dp_go {u x r : Nat} {ws full : List UInt8} (h : dp x r ++ ws = full) (hc : 0 < x ∨ 0 < r) : dp (x / 10) (r - 1) ++ (UInt8.ofNat (48 + x % 10) :: ws) = full := by
  rw [dp_step hc] at h
  simpa using h
theorem pow_step (u j : Nat) : u / 10 ^ (j + 1) = u / 10 ^ j / 10 := by rw [Nat.pow_succ, Nat.div_div_eq_div_mul]
theorem pow_end {u : Nat} (h : u < 18446744073709551616) : u / 10 ^ 20 = 0 := Nat.div_eq_of_lt (by omega)
end WM

/- A block known whole. -/
namespace Go.Proofs.YtiohainnpjikpaaDoor
open Go.RowKit
/-- block g is just the cells cs, of type t -/
def Blk (w : World) (g : Nat) (t : TypeId) (cs : List Value) : Prop := w.heap[g]? = some (.cells cs.toArray t (0, 0))
section
variable {w w' : World} {g : Nat} {t : TypeId} {cs : List Value}
theorem Blk.lt (h : Blk w g t cs) : g < w.heap.size := by
  rcases Nat.lt_or_ge g w.heap.size with hlt | hge
  · exact hlt
  · unfold Blk at h; rw [Array.getElem?_eq_none hge] at h; cases h
theorem Blk.cell (h : Blk w g t cs) (i : Nat) : w.cell? ⟨g, i, none⟩ = cs[i]? := by unfold Blk at h; simp [World.cell?, h]
theorem Blk.frozen (h : Blk w g t cs) (i : Nat) : w.frozen? ⟨g, i, none⟩ = false := by unfold Blk at h; simp [World.frozen?, h]
theorem Blk.new (w : World) (t : TypeId) (cs : List Value) : Blk (w.alloc (.cells cs.toArray t)) w.heap.size t cs := heap_alloc_new w _
theorem Blk.set_ (h : Blk w g t cs) (i : Nat) (u : Value) : Blk (w.setCell ⟨g, i, none⟩ u) g t (cs.set i u) := by
  unfold Blk at h ⊢
  simp [World.setCell, Array.getElem?_modify, h]
theorem Blk.far (h : Blk w g t cs) {p : Addr} (hp : g ≠ p.block) (u : Value) : Blk (w.setCell p u) g t cs := (Below.heap_setCell w p u g hp).trans h
theorem Blk.alloc (h : Blk w g t cs) (o : Obj) : Blk (w.alloc o) g t cs := (Below.heap_alloc w o g h.lt).trans h
theorem Blk.drewN (h : Blk w g t cs) (n : Nat) : Blk (w.drewN n) g t cs := h
theorem Blk.below {B : Nat} (h : Blk w g t cs) (hb : Below B w w') (hg : g < B) : Blk w' g t cs := (hb.block g hg).trans h
theorem Blk.vals (h : Blk w g t cs) (off : Nat) (hl : cs.length ≤ maxLen) : Vals w (some ⟨g, off, none⟩) (cs.drop off) := by
  refine ⟨by rw [List.length_drop]; omega, .inr ⟨g, off, rfl, h.lt, fun i hi => ?_⟩⟩
  rw [h.cell, List.getElem?_drop]
end
end Go.Proofs.YtiohainnpjikpaaDoor

/- Contracts: how numbers are written, the program's. -/
namespace Go.Proofs.YtiohainnpjikpaaDoor
open Go.RowKit
set_option linter.unusedVariables false

theorem ret2_int {a : Value} {k : IntKind} {x y : Int} (h : x = y) : Ending.returned (.tuple #[a, .int k x]) = .returned (.tuple #[a, .int k y]) := by rw [h]
theorem signAndSize_any (n : Int) (w : World) (h1 : -9223372036854775808 ≤ n) (h2 : n ≤ 9223372036854775807) :
    Calls Tryd.prog 68 #[.int .i64 n] w fun e w' => e = .returned (.tuple #[.string (S (if n < 0 then [45] else [])), .int .u64 (n.natAbs : Int)]) ∧ w = w' := by
  by_cases h : n < 0
  · rw [if_pos h]
    have hw : Hid (IntKind.u64.wrap (-IntKind.u64.wrap n) = (n.natAbs : Int)) := Lib.hid (by rw [IntKind.wrap_u64, IntKind.wrap_u64]; omega)
    go_enter Tryd.func68, Tryd.ntmps68
    go_wp2
    go_ret2
    exact ⟨ret2_int hw.out, rfl⟩
  · rw [if_neg h]
    have hw : Hid (n = (n.natAbs : Int)) := Lib.hid (by omega)
    go_enter Tryd.func68, Tryd.ntmps68
    go_wp2
    go_ret2
    exact ⟨ret2_int hw.out, rfl⟩

/-- what the writing loop has: room down to a, the number x left, the digits ws written -/
def DInv (u least a x : Nat) (ws : List UInt8) : Prop := ws.length + a = 20 ∧ WM.dp x (least - (20 - a)) ++ ws = WM.dp u least ∧ u / 10 ^ (20 - a) = x
theorem DInv.start (u least : Nat) : DInv u least 20 u [] := ⟨rfl, by simp, by simp⟩
theorem DInv.pos {u least a x : Nat} {ws : List UInt8} (h : DInv u least a x ws) (hu : u < 18446744073709551616) (hl : least ≤ 3) (hc : 0 < x ∨ 20 - a < least) : 0 < a := by
  rcases Nat.eq_zero_or_pos a with h0 | h0
  · subst h0
    have := h.2.2
    rw [show 20 - 0 = 20 from rfl, WM.pow_end hu] at this
    omega
  · exact h0
theorem DInv.step {u least a x : Nat} {ws : List UInt8} (h : DInv u least (a + 1) x ws) (hc : 0 < x ∨ 20 - (a + 1) < least) : DInv u least a (x / 10) (UInt8.ofNat (48 + x % 10) :: ws) := by
  have hl := h.1
  refine ⟨by rw [List.length_cons]; omega, ?_, ?_⟩
  · have := WM.dp_go (u := u) h.2.1 (by omega)
    rw [← this, show least - (20 - a) = least - (20 - (a + 1)) - 1 by omega]
  · rw [show 20 - a = 20 - (a + 1) + 1 by omega, WM.pow_step, h.2.2]
theorem DInv.end_ {u least a x : Nat} {ws : List UInt8} (h : DInv u least a x ws) (h0 : x = 0) (h1 : ¬ 20 - a < least) : ws = WM.dp u least := by
  have := h.2.1
  rw [h0, show least - (20 - a) = 0 by omega, WM.dp_done] at this
  simpa using this
/-- the array's cells: from a on the bytes ws -/
def ACells (cs : List Value) (a : Nat) (ws : List UInt8) : Prop := cs.length = 20 ∧ cs.drop a = ws.map byteV
theorem ACells.step {cs : List Value} {a : Nat} {ws : List UInt8} (h : ACells cs (a + 1) ws) (ha : a + 1 ≤ 20) (c : UInt8) : ACells (cs.set a (byteV c)) a (c :: ws) := by
  refine ⟨by rw [List.length_set]; exact h.1, ?_⟩
  have hl : a < (cs.set a (byteV c)).length := by rw [List.length_set, h.1]; omega
  rw [List.drop_eq_getElem_cons hl, List.getElem_set_self, List.drop_set_of_lt (by omega), h.2]
  rfl

theorem run_arr (g a : Nat) (ha : a ≤ 19) (w : World) : (Instr.sliceAt 115 (.pointer (some ⟨g, 0, none⟩)) (some (.int .i64 (a : Int))) none none).run Tryd.prog w = .ok (.slice (some ⟨g, a, none⟩) (20 - a) (20 - a)) w := by
  obtain ⟨i0, hi, hz0, hz1, hz2⟩ := info_parts info_u8
  have h1 : (0 : Int) ≤ (a : Int) ∧ (a : Int) ≤ 20 := by omega
  have h2 : ¬ 20 = a := by omega
  have e : (⟨g, 0, none⟩ : Addr).add a = ⟨g, a, none⟩ := by
    unfold Addr.add
    by_cases h0 : a = 0
    · subst h0; simp
    · simp [h0]
  simp [Instr.sliceAt, Instr.sureAddr, run_underlying Tryd.underlying115, Instr.sliceBounds, Instr.sliceBound, asIntOf, sizeOf, typeInfo, hi, hz1, h1, h2, e]
  intro h; omega

set_option maxHeartbeats 2000000 in
theorem digitsOf_any (u : Nat) (least : Nat) (w : World) (hu : u < 18446744073709551616) (h1 : 1 ≤ least) (h2 : least ≤ 3) :
    Calls Tryd.prog 70 #[.int .u64 (u : Int), .int .i64 (least : Int)] w fun e w' => e = .returned (.string (S (WM.dp u least))) ∧ Below w.heap.size w w' := by
  generalize hr : S (WM.dp u least) = res
  have HR := Lib.hid hr
  clear hr
  go_enter Tryd.func70, Tryd.ntmps70
  go_wp2
  go_loopw [0, 6] (fun sz at' wr => ∃ (a x : Nat) (ws : List UInt8) (cs : List Value), a ≤ 20 ∧ x < 18446744073709551616 ∧ sz = .int .u64 (x : Int) ∧ at' = .int .i64 (a : Int) ∧ Hid (DInv u least a x ws) ∧ Hid (ACells cs a ws) ∧ Hid (Blk wr w.heap.size 115 cs) ∧ Hid (Below w.heap.size w wr))
    (fun _ at' _ => (intOf at').toNat)
  case atStart =>
    exact ⟨20, u, [], List.replicate 20 (.int .u8 0), by omega, hu, rfl, rfl, Lib.hid (DInv.start u least), Lib.hid ⟨rfl, rfl⟩, Lib.hid (Blk.new w _ _), Lib.hid ((Below.refl _ _).alloc (Nat.le_refl _) _)⟩
  case round =>
    obtain ⟨a, x, ws, cs, ha, hx, rfl, rfl, HD, HA, HK, HB⟩ := hrel
    by_cases hgo : 0 < x ∨ 20 - a < least
    · have hap := HD.out.pos hu h2 hgo
      obtain ⟨a1, rfl⟩ : ∃ a1, a = a1 + 1 := ⟨a - 1, by omega⟩
      have hD := HD.out.step hgo
      have hA := HA.out.step ha (UInt8.ofNat (48 + x % 10))
      have hn : ((UInt8.ofNat (48 + x % 10)).toNat : Int) = 48 + (x : Int) % 10 := by rw [UInt8.toNat_ofNat']; omega
      have hcell : wr.cell? ⟨w.heap.size, a1, none⟩ = some (cs.getD a1 undef) := by
        rw [HK.out.cell, List.getElem?_eq_getElem (by rw [HA.out.1]; omega)]
        simp [List.getD, List.getElem?_eq_getElem (show a1 < cs.length by rw [HA.out.1]; omega)]
      have hfr := HK.out.frozen a1
      have hK := HK.out.set_ a1 (byteV (UInt8.ofNat (48 + x % 10)))
      have hB := HB.out.setCell (p := ⟨w.heap.size, a1, none⟩) (Nat.le_refl _) (byteV (UInt8.ofNat (48 + x % 10)))
      unfold byteV at hK hB
      rw [hn] at hK hB
      have HD2 := Lib.hid hD; have HA2 := Lib.hid hA; have HK2 := Lib.hid hK; have HB2 := Lib.hid hB
      unfold byteV at HA2
      rw [hn] at HA2
      clear hD hA hK hB hn HD HA HK HB
      generalize cs.getD a1 undef = old at *
      have e1 : ((a1 + 1 : Nat) : Int) - 1 = (a1 : Int) := by omega
      have r0 : (0 : Int) ≤ (x : Int) % 10 := by omega
      have r1 : (x : Int) % 10 < 10 := by omega
      have i0 : (0 : Int) ≤ (a1 : Int) := by omega
      have i1 : (a1 : Int) < 20 := by omega
      have hq : ((x / 10 : Nat) : Int) = (x : Int) / 10 := by omega
      have HQ := Lib.hid hq
      clear hq
      by_cases hx0 : 0 < x
      · go_wp2
        go_roundw
        case rel => exact ⟨a1, x / 10, _, _, by omega, by omega, by rw [HQ.out], rfl, HD2, HA2, HK2, HB2⟩
        case measure => simp [intOf]
      · have d0 : decide (0 < x) = false := decide_eq_false hx0
        have d1 : 20 - ((a1 + 1 : Nat) : Int) < (least : Int) := by omega
        go_wp2
        go_roundw
        case rel => exact ⟨a1, x / 10, _, _, by omega, by omega, by rw [HQ.out], rfl, HD2, HA2, HK2, HB2⟩
        case measure => simp [intOf]
    · have hx0 : x = 0 := by omega
      have hE := HD.out.end_ hx0 (by omega)
      have hl := HD.out.1
      have ha1 : a ≤ 19 := by omega
      have d0 : decide (0 < x) = false := decide_eq_false (by omega)
      have d1 : ¬ 20 - (a : Int) < (least : Int) := by omega
      have hv := HK.out.vals a (by rw [HA.out.1]; simp [maxLen])
      rw [HA.out.2] at hv
      have hby : Bytes wr (some ⟨w.heap.size, a, none⟩) ws := hv
      have hcv := str_of hby ws.length
      rw [hE, HR.out, ← hE] at hcv
      have i0 : (0 : Int) ≤ (a : Int) := by omega
      have i1 : (a : Int) < 20 := by omega
      rw [show ws.length = 20 - a by omega] at hcv
      have hsl := run_arr w.heap.size a ha1 wr
      clear hx0 hE hv hby hl hgo
      go_wp2
      go_ret
      exact ⟨rfl, HB.out⟩
end Go.Proofs.YtiohainnpjikpaaDoor

/- Contracts: Text and Money, the program's. -/
namespace Go.Proofs.YtiohainnpjikpaaDoor
open Go.RowKit
set_option linter.unusedVariables false

theorem dec_len_le (n : Nat) : ∀ k, n < 10 ^ (k + 1) → (WM.dec n).length ≤ k + 1 := by
  induction n using WM.dec.induct with
  | case1 n h => intro k _; rw [WM.dec_small h]; simp
  | case2 n h ih =>
    intro k hk
    rw [WM.dec_big h, List.length_append]
    cases k with
    | zero => simp at hk; omega
    | succ k =>
      have := ih k (by rw [Nat.pow_succ] at hk; omega)
      simp; omega
theorem dec_len {n : Nat} (h : n < 18446744073709551616) : (WM.dec n).length ≤ 20 := dec_len_le n 19 (by omega)

theorem text_any (n : Int) (w : World) (h1 : -9223372036854775808 ≤ n) (h2 : n ≤ 9223372036854775807) :
    Calls Tryd.prog 39 #[.int .i64 n] w fun e w' => e = .returned (.string (S (WM.textL n))) ∧ Below w.heap.size w w' := by
  generalize hr : S (WM.textL n) = res
  have HR := Lib.hid hr
  clear hr
  have HC1 := Lib.hid (signAndSize_any n w h1 h2)
  have hu : n.natAbs < 18446744073709551616 := by omega
  have hsg : (S (if n < 0 then [45] else [])).size ≤ 1 := by rw [S_size]; split <;> simp
  generalize hg : S (if n < 0 then [45] else []) = sg at *
  have HG := Lib.hid hg
  clear hg
  go_enter Tryd.func39, Tryd.ntmps39
  go_wp2_with fail
  refine HC1.out.mono ?_
  rintro e w' ⟨rfl, rfl⟩
  go_wp2_with fail
  refine (digitsOf_any n.natAbs 1 w hu (by omega) (by omega)).mono ?_
  rintro e w1 ⟨rfl, b1⟩
  have hd : (S (WM.dp n.natAbs 1)).size ≤ 20 := by rw [S_size, (WM.dp_dec _).2]; exact dec_len hu
  generalize hg : S (WM.dp n.natAbs 1) = ds at *
  have HDS := Lib.hid hg
  clear hg
  have HB1 := Lib.hid b1
  clear b1
  go_wp2_with fail
  have hm := Strs.made w1 [sg, ds] (by
    intro x hx
    simp at hx
    unfold maxLen
    rcases hx with rfl | rfl <;> omega) (by simp [maxLen])
  refine (concat_any ⟨#[]⟩ _ [sg, ds] 2 _ (Nat.zero_le _) hm (by show WM.tl 0 [sg.size, ds.size] ≤ _; simp [WM.tl]; omega)).mono ?_
  rintro e w2 ⟨rfl, b2⟩
  clear hm
  have HB2 : Hid (Below w.heap.size w w2) := Lib.hid ((HB1.out.alloc HB1.out.size _).trans (b2.mono (by have := HB1.out.size; simp; omega)))
  clear b2
  have HF : Hid (S (WM.catL (L ⟨#[]⟩) (texts [sg, ds])) = res) := Lib.hid (by
    rw [← HR.out]
    show S (L sg ++ L ds) = _
    rw [← HG.out, ← HDS.out, L_S, L_S, (WM.dp_dec _).2]
    unfold WM.textL
    split <;> rfl)
  rw [HF.out]
  go_wp2
  go_ret
  exact ⟨rfl, HB2.out⟩

end Go.Proofs.YtiohainnpjikpaaDoor

/- Days and dates: one date for each day. -/
namespace DM
set_option linter.unusedVariables false

def leap (y : Int) : Bool := (decide (y.tmod 4 = 0) && decide (y.tmod 100 ≠ 0)) || decide (y.tmod 400 = 0)
def dim (y m : Int) : Int :=
  if m = 1 ∨ m = 3 ∨ m = 5 ∨ m = 7 ∨ m = 8 ∨ m = 10 ∨ m = 12 then 31
  else if m = 4 ∨ m = 6 ∨ m = 9 ∨ m = 11 then 30
  else if m = 2 then (if leap y = true then 29 else 28) else 0
def ylen (y : Int) : Int := if leap y = true then 366 else 365
/-- the days ahead of year 2000 + k -/
def before : Nat → Int
  | 0 => 0
  | k + 1 => before k + ylen (2000 + k)
/-- the days of the first j months -/
def cum (y : Int) : Nat → Int
  | 0 => 0
  | j + 1 => cum y j + dim y (j + 1)
def dayOf (y m d : Int) : Int := before (y - 2000).toNat + cum y (m - 1).toNat + d - 1
def okDate (y m d : Int) : Prop := 2000 ≤ y ∧ y ≤ 2199 ∧ 1 ≤ m ∧ m ≤ 12 ∧ 1 ≤ d ∧ d ≤ dim y m
def isDate (day y m d : Int) : Prop := okDate y m d ∧ dayOf y m d = day
instance (y m d : Int) : Decidable (okDate y m d) := by unfold okDate; infer_instance
def ofE (y m d : Int) : Int := if okDate y m d then 0 else 15
def ofN (y m d : Int) : Int := if okDate y m d then dayOf y m d else 0
def weekday (day : Int) : Int := if 0 ≤ day ∧ day ≤ 73048 then (day + 5) % 7 + 1 else 0

theorem dim_range (y m : Int) : 0 ≤ dim y m ∧ dim y m ≤ 31 := by unfold dim; split <;> (try split) <;> (try split) <;> (try split) <;> omega
theorem dim_real {y m : Int} (h : 1 ≤ m ∧ m ≤ 12) : 28 ≤ dim y m := by
  unfold dim
  split
  · omega
  · split
    · omega
    · split
      · split <;> omega
      · omega
theorem dim_out {y m : Int} (h : m < 1 ∨ 12 < m) : dim y m = 0 := by
  unfold dim
  rw [if_neg (by omega), if_neg (by omega), if_neg (by omega)]
theorem month_of {y m d : Int} (h1 : 1 ≤ d) (h2 : d ≤ dim y m) : 1 ≤ m ∧ m ≤ 12 := by
  by_cases h : 1 ≤ m ∧ m ≤ 12
  · exact h
  · rw [dim_out (by omega)] at h2; omega
theorem ylen_range (y : Int) : 365 ≤ ylen y ∧ ylen y ≤ 366 := by unfold ylen; split <;> omega
theorem cum_year (y : Int) : cum y 12 = ylen y := by
  unfold ylen
  simp only [cum, dim]
  by_cases h : leap y = true
  · simp [h]
  · simp [h]
theorem before_mono {j k : Nat} (h : j ≤ k) : before j ≤ before k := by
  induction k with
  | zero => rw [Nat.le_zero.1 h]; exact Int.le_refl _
  | succ k ih =>
    rcases Nat.lt_or_ge k j with h1 | h1
    · rw [show j = k + 1 by omega]; exact Int.le_refl _
    · have := ih h1
      have := ylen_range (2000 + k)
      rw [show before (k + 1) = before k + ylen (2000 + k) from rfl]; omega
theorem cum_mono {y : Int} {j k : Nat} (h : j ≤ k) : cum y j ≤ cum y k := by
  induction k with
  | zero => rw [Nat.le_zero.1 h]; exact Int.le_refl _
  | succ k ih =>
    rcases Nat.lt_or_ge k j with h1 | h1
    · rw [show j = k + 1 by omega]; exact Int.le_refl _
    · have := ih h1
      have := dim_range y (k + 1)
      rw [show cum y (k + 1) = cum y k + dim y (k + 1) from rfl]; omega
set_option maxRecDepth 100000 in
theorem before_all : before 200 = 73049 := by decide
/-- where a date's day lies -/
theorem day_in {y m d : Int} (h : okDate y m d) : before (y - 2000).toNat + cum y (m - 1).toNat ≤ dayOf y m d ∧ dayOf y m d < before (y - 2000).toNat + cum y ((m - 1).toNat + 1) ∧
    before (y - 2000).toNat ≤ dayOf y m d ∧ dayOf y m d < before ((y - 2000).toNat + 1) ∧ 0 ≤ dayOf y m d ∧ dayOf y m d ≤ 73048 := by
  obtain ⟨h1, h2, h3, h4, h5, h6⟩ := h
  have e : (((m - 1).toNat : Nat) : Int) + 1 = m := by omega
  have e2 : (2000 : Int) + ((y - 2000).toNat : Nat) = y := by omega
  have c0 : 0 ≤ cum y (m - 1).toNat := cum_mono (y := y) (Nat.zero_le _)
  have c1 : cum y ((m - 1).toNat + 1) = cum y (m - 1).toNat + dim y m := by show cum y _ + dim y _ = _; rw [e]
  have c2 : cum y ((m - 1).toNat + 1) ≤ cum y 12 := cum_mono (by omega)
  rw [cum_year] at c2
  have b0 : 0 ≤ before (y - 2000).toNat := before_mono (Nat.zero_le _)
  have b1 : before ((y - 2000).toNat + 1) = before (y - 2000).toNat + ylen y := by show before _ + ylen _ = _; rw [e2]
  have b2 : before ((y - 2000).toNat + 1) ≤ before 200 := before_mono (by omega)
  rw [before_all] at b2
  unfold dayOf
  omega
theorem isDate_unique {day y m d y' m' d' : Int} (h : isDate day y m d) (h' : isDate day y' m' d') : y = y' ∧ m = m' ∧ d = d' := by
  obtain ⟨h1, rfl⟩ := h
  obtain ⟨h2, e⟩ := h'
  obtain ⟨a1, a2, a3, a4, _⟩ := day_in h1
  obtain ⟨b1, b2, b3, b4, _⟩ := day_in h2
  rw [e] at b1 b2 b3 b4
  have g1 := h1
  have g2 := h2
  obtain ⟨p1, p2, p3, p4, p5, p6⟩ := h1
  obtain ⟨q1, q2, q3, q4, q5, q6⟩ := h2
  have hy : y = y' := by
    rcases Int.lt_trichotomy y y' with h | h | h
    · have := before_mono (show (y - 2000).toNat + 1 ≤ (y' - 2000).toNat by omega); omega
    · exact h
    · have := before_mono (show (y' - 2000).toNat + 1 ≤ (y - 2000).toNat by omega); omega
  subst hy
  have hm : m = m' := by
    rcases Int.lt_trichotomy m m' with h | h | h
    · have := cum_mono (y := y) (show (m - 1).toNat + 1 ≤ (m' - 1).toNat by omega); omega
    · exact h
    · have := cum_mono (y := y) (show (m' - 1).toNat + 1 ≤ (m - 1).toNat by omega); omega
  subst hm
  refine ⟨rfl, rfl, ?_⟩
  unfold dayOf at e
  omega
/-- between two steps of a rising row there is a place -/
theorem place (f : Nat → Int) (x : Int) (n : Nat) (h0 : f 0 ≤ x) (h1 : x < f n) : ∃ k, k < n ∧ f k ≤ x ∧ x < f (k + 1) := by
  induction n with
  | zero => omega
  | succ n ih =>
    by_cases h : f n ≤ x
    · exact ⟨n, by omega, h, h1⟩
    · obtain ⟨k, hk, r⟩ := ih (by omega)
      exact ⟨k, by omega, r⟩
theorem isDate_exists {day : Int} (h0 : 0 ≤ day) (h1 : day ≤ 73048) : ∃ y m d, isDate day y m d := by
  obtain ⟨k, hk, k1, k2⟩ := place before day 200 h0 (by rw [before_all]; omega)
  have e : before (k + 1) = before k + ylen (2000 + k) := rfl
  obtain ⟨j, hj, j1, j2⟩ := place (cum (2000 + k)) (day - before k) 12 (by show (0 : Int) ≤ _; omega) (by rw [cum_year]; omega)
  have e2 : cum (2000 + (k : Int)) (j + 1) = cum (2000 + k) j + dim (2000 + k) (j + 1) := rfl
  refine ⟨2000 + k, j + 1, day - before k - cum (2000 + k) j + 1, ⟨by omega, by omega, by omega, by omega, by omega, by omega⟩, ?_⟩
  unfold dayOf
  rw [show ((2000 : Int) + k - 2000).toNat = k by omega, show ((j : Int) + 1 - 1).toNat = j by omega]
  omega
/-- the next day -/
theorem isDate_next {day y m d : Int} (h : isDate day y m d) (hl : day < 73048) :
    isDate (day + 1) (if d < dim y m then y else if m < 12 then y else y + 1) (if d < dim y m then m else if m < 12 then m + 1 else 1) (if d < dim y m then d + 1 else 1) := by
  obtain ⟨⟨p1, p2, p3, p4, p5, p6⟩, e⟩ := h
  by_cases h1 : d < dim y m
  · simp only [h1, if_true]
    exact ⟨⟨p1, p2, p3, p4, by omega, by omega⟩, by unfold dayOf at *; omega⟩
  · have hd : d = dim y m := by omega
    by_cases h2 : m < 12
    · simp only [h1, h2, if_false, if_true]
      have := dim_real (y := y) (m := m + 1) (by omega)
      refine ⟨⟨p1, p2, by omega, by omega, by omega, by omega⟩, ?_⟩
      have c : cum y (m + 1 - 1).toNat = cum y (m - 1).toNat + dim y m := by
        rw [show (m + 1 - 1).toNat = (m - 1).toNat + 1 by omega]
        show cum y _ + dim y _ = _
        rw [show (((m - 1).toNat : Nat) : Int) + 1 = m by omega]
      unfold dayOf at *
      omega
    · simp only [h1, h2, if_false]
      have hm : m = 12 := by omega
      subst hm
      have c : cum y 12 = cum y 11 + dim y 12 := rfl
      rw [cum_year] at c
      have b : before (y + 1 - 2000).toNat = before (y - 2000).toNat + ylen y := by
        rw [show (y + 1 - 2000).toNat = (y - 2000).toNat + 1 by omega]
        show before _ + ylen _ = _
        rw [show (2000 : Int) + ((y - 2000).toNat : Nat) = y by omega]
      have e' : dayOf y 12 d = before (y - 2000).toNat + cum y 11 + d - 1 := rfl
      have hy : y < 2199 := by
        rcases Int.lt_or_eq_of_le p2 with q | q
        · exact q
        · exfalso
          subst q
          have b3 : before ((2199 : Int) + 1 - 2000).toNat = 73049 := before_all
          omega
      have := dim_real (y := y + 1) (m := 1) (by omega)
      refine ⟨⟨by omega, by omega, by omega, by omega, by omega, by omega⟩, ?_⟩
      show before (y + 1 - 2000).toNat + 0 + 1 - 1 = day + 1
      omega
theorem weekday_next {day : Int} (h0 : 0 ≤ day) (h1 : day < 73048) : weekday (day + 1) = weekday day % 7 + 1 := by
  unfold weekday
  rw [if_pos (by omega), if_pos (by omega)]; omega

/-! months on -/
def monthsE (y m d n : Int) : Int := let k := 12 * y + m - 1 + n
  ofE (k / 12) (k % 12 + 1) (min d (dim (k / 12) (k % 12 + 1)))
def monthsN (y m d n : Int) : Int := let k := 12 * y + m - 1 + n
  ofN (k / 12) (k % 12 + 1) (min d (dim (k / 12) (k % 12 + 1)))
theorem months_back {y m d n : Int} (h : okDate y m d) (he : monthsE y m d n = 0) :
    ∃ y2 m2 d2, isDate (monthsN y m d n) y2 m2 d2 ∧ monthsE y2 m2 d2 (-n) = 0 ∧ monthsN y2 m2 d2 (-n) ≤ dayOf y m d ∧ dayOf y m d - monthsN y2 m2 d2 (-n) ≤ 3 := by
  obtain ⟨p1, p2, p3, p4, p5, p6⟩ := h
  unfold monthsE at he
  unfold monthsN
  simp only at he ⊢
  generalize hk : 12 * y + m - 1 + n = k at *
  have hok : okDate (k / 12) (k % 12 + 1) (min d (dim (k / 12) (k % 12 + 1))) := by
    unfold ofE at he; split at he
    · assumption
    · omega
  have r := dim_real (y := k / 12) (m := k % 12 + 1) (by omega)
  have r2 := (dim_range y m).2
  refine ⟨k / 12, k % 12 + 1, min d (dim (k / 12) (k % 12 + 1)), ⟨hok, by unfold ofN; rw [if_pos hok]⟩, ?_⟩
  have e : 12 * (k / 12) + (k % 12 + 1) - 1 + -n = 12 * y + m - 1 := by omega
  have e1 : (12 * y + m - 1) / 12 = y := by omega
  have e2 : (12 * y + m - 1) % 12 + 1 = m := by omega
  unfold monthsE
  simp only
  rw [e, e1, e2]
  generalize dim (k / 12) (k % 12 + 1) = q at *
  have e3 : min (min d q) (dim y m) = min d q := by omega
  rw [e3]
  have hok2 : okDate y m (min d q) := ⟨p1, p2, p3, p4, by omega, by omega⟩
  unfold ofE ofN
  rw [if_pos hok2, if_pos hok2]
  unfold dayOf
  refine ⟨rfl, by omega, by omega⟩
end DM
