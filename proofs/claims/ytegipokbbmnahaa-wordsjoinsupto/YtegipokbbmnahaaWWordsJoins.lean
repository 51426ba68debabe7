import Derived.Test.YtegipokbbmnahaaWordsO
namespace Go.Proofs.Ytegipokbbmnahaa.wordsJoins
open Go.RowKit
set_option linter.unusedVariables false

/-- a text that is one field -/
def one (s : ByteArray) : Bool := decide (WM.fieldsE (L s) = 0) && decide ((WM.fieldsN (L s)).length = 1)
theorem one_all {ls : List ByteArray} {k : Nat} {b : Bool} (h : b = true → (ls.take k).all one = true) (hk : k < ls.length) (c : Bool) (hc : c = true → one ls[k] = true) :
    (b && c) = true → (ls.take (k + 1)).all one = true := by
  intro h'
  rw [Bool.and_eq_true] at h'
  rw [List.take_succ_eq_append_getElem hk, List.all_append, h h'.1]
  simp [hc h'.2]
theorem one_fields {ls : List ByteArray} (h : ls.all one = true) : ∀ q ∈ texts ls, WM.fieldsE q = 0 ∧ (WM.fieldsN q).length = 1 := by
  intro q hq
  obtain ⟨s, hs, rfl⟩ := List.mem_map.1 hq
  have := List.all_eq_true.1 h s hs
  unfold one at this
  simpa using this

set_option maxHeartbeats 4000000 in
set_option maxRecDepth 100000 in
theorem walk (s : ByteArray) (A : Option Addr) (cap : Nat) (ls : List ByteArray) (w : World) (hs : s.size ≤ 9223372036854775807) (hI : Strs w A ls) (_ : s.size ≤ 1048576) (hl : WM.tl 1 (sizes ls) ≤ 1048576) :
    Calls Try.prog 7 #[.string s, .slice A ls.length cap] w fun e w' => e = .returned (.bool true) ∧ Below w.heap.size w w' := by
  have hlen := hI.len
  have CF := fun ww => fields_any s ww hs
  have SF := fun (ww : World) (B : Nat) (v : Value) (h : OS ww B v (strs (WM.fieldsN (L s)))) => fields_strs hs h
  have HCF := Lib.hid CF; have HSF := Lib.hid SF; have HI := Lib.hid hI
  clear CF SF hI
  have HJ : Hid (WM.fieldsE (L s) = 0 → ∀ (A1 : Option Addr) (c1 : Nat) (ww : World), Strs ww A1 (strs (WM.fieldsN (L s))) → Calls Try.prog 30 #[.slice A1 (strs (WM.fieldsN (L s))).length c1] ww fun e w' => e = .returned (.string s) ∧ Below ww.heap.size ww w') := Lib.hid (fun h0 A1 c1 ww h1 => by
    have := join_any A1 _ c1 ww h1 (by rw [sizes_strs]; have := WM.fields_tl h0; omega)
    rw [texts_strs, WM.join_fields h0, S_L] at this
    exact this)
  -- the rest, once the first test is through
  have HT : Hid (∀ (q : ByteArray), S (WM.joinL (texts ls)) = q → q.size ≤ 1048576 ∧ (ls.all one = true → q.size ≤ 512 → WM.fieldsE (L q) = 0 ∧ strs (WM.fieldsN (L q)) = ls)) := Lib.hid (by
    intro q hq
    have hle := join_le ls ls.length
    rw [List.take_of_length_le (Nat.le_refl _), hq] at hle
    refine ⟨by omega, fun ha h512 => ?_⟩
    have e : L q = WM.joinL (texts ls) := by rw [← hq, L_S]
    have := WM.fields_join (one_fields ha) (by rw [← e, L_len]; exact h512)
    rw [← e] at this
    exact ⟨this.1, by rw [this.2, strs_texts]⟩)
  generalize hfN : strs (WM.fieldsN (L s)) = fN at *
  generalize hfE : WM.fieldsE (L s) = fE at *
  clear hfN hfE
  go_enter Try.func7, Try.ntmps7
  go_wp2_with fail
  refine (HCF.out _).mono ?_
  rintro e w1 ⟨v1, rfl, o1, b1⟩
  obtain ⟨A1, c1, rfl, s1⟩ := HSF.out _ _ _ o1
  have HS1 := Lib.hid s1
  have HB1 := Lib.hid b1
  clear o1 s1 b1
  by_cases c0 : fE = 0
  · have HJJ := Lib.hid (HJ.out c0 A1 c1 _ HS1.out)
    subst c0
    clear HJ HS1 HSF HCF
    go_wp2_with fail
    refine HJJ.out.mono ?_
    rintro e wx ⟨rfl, bx⟩
    have HBX := Lib.hid (HB1.out.trans (bx.mono HB1.out.size))
    clear bx HB1 HJJ
    go_wp2_with fail
    go_loopw [7, 8] (fun wh i wr => ∃ (k : Nat) (b : Bool), k ≤ ls.length ∧ wh = .bool b ∧ i = .int .i64 k ∧ Hid (b = true → (ls.take k).all one = true) ∧ Hid (Below w.heap.size w wr)) (fun _ i _ => ls.length - (intOf i).toNat)
    case atStart => exact ⟨0, true, by omega, rfl, rfl, Lib.hid (fun _ => rfl), HBX⟩
    case round =>
      clear HBX
      obtain ⟨k, b, hk, rfl, rfl, HA, HB⟩ := hrel
      by_cases hlt : k < ls.length
      · obtain ⟨g, off, x, rfl, hg, hcell, HX, hx⟩ := (HI.out.below HB.out).get hlt
        have CX := fields_any x wr hx
        have hcell2 := fun (w' : World) (hb : Below wr.heap.size wr w') => (hb.cell (p := ⟨g, off + k, none⟩) hg).trans hcell
        have NX := fun ww => name_any x ww hx
        have SX := fun (ww : World) (B : Nat) (v : Value) (h : OS ww B v (strs (WM.fieldsN (L x)))) => fields_strs hx h
        have hone : WM.fieldsE (L x) = 0 → (strs (WM.fieldsN (L x))).length = 1 → one x = true := by
          intro h1 h2
          rw [strs_len] at h2
          unfold one
          rw [h1, h2]; rfl
        have hnam : WM.name (L x) = true → WM.fieldsE (L x) = 0 ∧ (strs (WM.fieldsN (L x))).length = 1 := by
          intro h
          rw [strs_len]
          exact WM.name_field h
        generalize strs (WM.fieldsN (L x)) = fx at *
        generalize WM.fieldsE (L x) = ex at *
        generalize WM.name (L x) = nm at *
        obtain ⟨bE, hE1, hE2⟩ : ∃ bE : Bool, (ex == 0) = bE ∧ (ex != 0) = !bE := ⟨_, rfl, rfl⟩
        obtain ⟨bM, hM1, hM2⟩ : ∃ bM : Bool, ((fx.length : Int) == 1) = bM ∧ ((fx.length : Int) != 1) = !bM := ⟨_, rfl, rfl⟩
        have hone2 : bE = true → bM = true → one ls[k] = true := by
          intro h1 h2
          rw [HX.out]
          rw [h1] at hE1; rw [h2] at hM1
          exact hone (by simpa using hE1) (by have : (fx.length : Int) = 1 := by simpa using hM1
                                              omega)
        have hnam2 : nm = true → bE = true ∧ bM = true := by
          intro h
          obtain ⟨h1, h2⟩ := hnam h
          rw [← hE1, ← hM1, h1, h2]; exact ⟨rfl, rfl⟩
        have HN : Hid ((b && (bE && bM)) = true → (ls.take (k + 1)).all one = true) := Lib.hid (one_all HA.out hlt (bE && bM) (fun h => by
          rw [Bool.and_eq_true] at h
          exact hone2 h.1 h.2))
        have HNAM := Lib.hid hnam2
        have HCX := Lib.hid CX; have HNX := Lib.hid NX; have HSX := Lib.hid SX; have HC2 := Lib.hid hcell2
        clear CX NX SX hcell2 hone hnam hone2 hnam2
        cases bE <;> cases bM <;> cases nm
        all_goals simp only [Bool.not_true, Bool.not_false] at hE2 hM2
        all_goals first
          | exact absurd (HNAM.out rfl).1 (by decide)
          | exact absurd (HNAM.out rfl).2 (by decide)
          | skip
        all_goals (
          clear HNAM
          cases b
          all_goals (
            go_wp2_with fail
            refine HCX.out.mono ?_
            rintro e w3 ⟨v3, rfl, o3, b3⟩
            obtain ⟨A3, c3, rfl, s3⟩ := HSX.out _ _ _ o3
            have hcell3 := HC2.out _ b3
            have HB3 := Lib.hid (HB.out.trans (b3.mono HB.out.size))
            clear o3 s3 b3 hcell
            go_wp2_with fail
            refine (HNX.out _).mono ?_
            rintro e w4 ⟨rfl, rfl⟩
            go_wp2_with fail
            go_roundw
            case rel => exact ⟨k + 1, _, by omega, rfl, by go_num, HN, HB3⟩
            case measure => simp [intOf]; omega))
      · obtain rfl : k = ls.length := by omega
        have hA := HA.out
        rw [List.take_of_length_le (Nat.le_refl _)] at hA
        have CJ := join_any A ls cap wr (HI.out.below HB.out) (by omega)
        have hT := HT.out
        generalize S (WM.joinL (texts ls)) = q at *
        obtain ⟨hq, hT⟩ := hT q rfl
        have CQ := fun ww => fields_any q ww (by omega)
        have SQ := fun (ww : World) (B : Nat) (v : Value) (h : OS ww B v (strs (WM.fieldsN (L q)))) => fields_strs (s := q) (by omega) h
        have HCJ := Lib.hid CJ; have HCQ := Lib.hid CQ; have HSQ := Lib.hid SQ; have HTT := Lib.hid hT; have HAA := Lib.hid hA
        clear CJ CQ SQ hT hA HA
        go_wp2_with fail
        refine HCJ.out.mono ?_
        rintro e w3 ⟨rfl, b3⟩
        have HB3 := Lib.hid (HB.out.trans (b3.mono HB.out.size))
        clear b3 HB
        go_wp2_with fail
        refine (HCQ.out _).mono ?_
        rintro e w4 ⟨v4, rfl, o4, b4⟩
        obtain ⟨A4, c4, rfl, s4⟩ := HSQ.out _ _ _ o4
        have HS4 := Lib.hid s4
        have HB4 := Lib.hid (HB3.out.trans (b4.mono HB3.out.size))
        clear o4 s4 b4 HB3
        cases b
        · go_wp2_with fail
          refine (goes3_any _).mono ?_
          rintro e w5 ⟨rfl, b5⟩
          have HB5 := Lib.hid (HB4.out.trans (b5.mono HB4.out.size))
          clear b5 HB4
          go_wp2_with fail
          go_ret
          exact ⟨rfl, HB5.out⟩
        · by_cases h512 : q.size ≤ 512
          · obtain ⟨t1, t2⟩ := HTT.out (HAA.out rfl) h512
            rw [t1]
            have hS4 := HS4.out
            rw [t2] at hS4 ⊢
            have HS5 := Lib.hid hS4
            clear hS4 t1 t2 HS4 HTT HAA
            go_wp2_with fail
            refine (same_strs _ _ _ _ _ _ HS5.out (HI.out.below HB4.out)).mono ?_
            rintro e w5 ⟨rfl, n5, rfl⟩
            have HB5 := Lib.hid (below_drewN HB4.out n5)
            generalize w4.drewN n5 = w5 at *
            clear HB4 HS5
            go_wp2_with fail
            refine (goes3_any _).mono ?_
            rintro e w6 ⟨rfl, b6⟩
            have HB6 := Lib.hid (HB5.out.trans (b6.mono HB5.out.size))
            clear b6 HB5
            go_wp2_with fail
            go_ret
            exact ⟨rfl, HB6.out⟩
          · have d5 : decide (q.size ≤ 512) = false := decide_eq_false h512
            generalize WM.fieldsE (L q) = eq at *
            go_wp2_with fail
            refine (goes3_any _).mono ?_
            rintro e w5 ⟨rfl, b5⟩
            have HB5 := Lib.hid (HB4.out.trans (b5.mono HB4.out.size))
            clear b5 HB4
            go_wp2_with fail
            go_ret
            exact ⟨rfl, HB5.out⟩
  · have d0 : (fE == 0) = false := beq_f c0
    clear HJ HS1 HSF HCF c0
    go_wp2_with fail
    have HBX := HB1
    clear HB1
    go_loopw [7, 8] (fun wh i wr => ∃ (k : Nat) (b : Bool), k ≤ ls.length ∧ wh = .bool b ∧ i = .int .i64 k ∧ Hid (b = true → (ls.take k).all one = true) ∧ Hid (Below w.heap.size w wr)) (fun _ i _ => ls.length - (intOf i).toNat)
    case atStart => exact ⟨0, true, by omega, rfl, rfl, Lib.hid (fun _ => rfl), HBX⟩
    case round =>
      clear HBX
      obtain ⟨k, b, hk, rfl, rfl, HA, HB⟩ := hrel
      by_cases hlt : k < ls.length
      · obtain ⟨g, off, x, rfl, hg, hcell, HX, hx⟩ := (HI.out.below HB.out).get hlt
        have CX := fields_any x wr hx
        have hcell2 := fun (w' : World) (hb : Below wr.heap.size wr w') => (hb.cell (p := ⟨g, off + k, none⟩) hg).trans hcell
        have NX := fun ww => name_any x ww hx
        have SX := fun (ww : World) (B : Nat) (v : Value) (h : OS ww B v (strs (WM.fieldsN (L x)))) => fields_strs hx h
        have hone : WM.fieldsE (L x) = 0 → (strs (WM.fieldsN (L x))).length = 1 → one x = true := by
          intro h1 h2
          rw [strs_len] at h2
          unfold one
          rw [h1, h2]; rfl
        have hnam : WM.name (L x) = true → WM.fieldsE (L x) = 0 ∧ (strs (WM.fieldsN (L x))).length = 1 := by
          intro h
          rw [strs_len]
          exact WM.name_field h
        generalize strs (WM.fieldsN (L x)) = fx at *
        generalize WM.fieldsE (L x) = ex at *
        generalize WM.name (L x) = nm at *
        obtain ⟨bE, hE1, hE2⟩ : ∃ bE : Bool, (ex == 0) = bE ∧ (ex != 0) = !bE := ⟨_, rfl, rfl⟩
        obtain ⟨bM, hM1, hM2⟩ : ∃ bM : Bool, ((fx.length : Int) == 1) = bM ∧ ((fx.length : Int) != 1) = !bM := ⟨_, rfl, rfl⟩
        have hone2 : bE = true → bM = true → one ls[k] = true := by
          intro h1 h2
          rw [HX.out]
          rw [h1] at hE1; rw [h2] at hM1
          exact hone (by simpa using hE1) (by have : (fx.length : Int) = 1 := by simpa using hM1
                                              omega)
        have hnam2 : nm = true → bE = true ∧ bM = true := by
          intro h
          obtain ⟨h1, h2⟩ := hnam h
          rw [← hE1, ← hM1, h1, h2]; exact ⟨rfl, rfl⟩
        have HN : Hid ((b && (bE && bM)) = true → (ls.take (k + 1)).all one = true) := Lib.hid (one_all HA.out hlt (bE && bM) (fun h => by
          rw [Bool.and_eq_true] at h
          exact hone2 h.1 h.2))
        have HNAM := Lib.hid hnam2
        have HCX := Lib.hid CX; have HNX := Lib.hid NX; have HSX := Lib.hid SX; have HC2 := Lib.hid hcell2
        clear CX NX SX hcell2 hone hnam hone2 hnam2
        cases bE <;> cases bM <;> cases nm
        all_goals simp only [Bool.not_true, Bool.not_false] at hE2 hM2
        all_goals first
          | exact absurd (HNAM.out rfl).1 (by decide)
          | exact absurd (HNAM.out rfl).2 (by decide)
          | skip
        all_goals (
          clear HNAM
          cases b
          all_goals (
            go_wp2_with fail
            refine HCX.out.mono ?_
            rintro e w3 ⟨v3, rfl, o3, b3⟩
            obtain ⟨A3, c3, rfl, s3⟩ := HSX.out _ _ _ o3
            have hcell3 := HC2.out _ b3
            have HB3 := Lib.hid (HB.out.trans (b3.mono HB.out.size))
            clear o3 s3 b3 hcell
            go_wp2_with fail
            refine (HNX.out _).mono ?_
            rintro e w4 ⟨rfl, rfl⟩
            go_wp2_with fail
            go_roundw
            case rel => exact ⟨k + 1, _, by omega, rfl, by go_num, HN, HB3⟩
            case measure => simp [intOf]; omega))
      · obtain rfl : k = ls.length := by omega
        have hA := HA.out
        rw [List.take_of_length_le (Nat.le_refl _)] at hA
        have CJ := join_any A ls cap wr (HI.out.below HB.out) (by omega)
        have hT := HT.out
        generalize S (WM.joinL (texts ls)) = q at *
        obtain ⟨hq, hT⟩ := hT q rfl
        have CQ := fun ww => fields_any q ww (by omega)
        have SQ := fun (ww : World) (B : Nat) (v : Value) (h : OS ww B v (strs (WM.fieldsN (L q)))) => fields_strs (s := q) (by omega) h
        have HCJ := Lib.hid CJ; have HCQ := Lib.hid CQ; have HSQ := Lib.hid SQ; have HTT := Lib.hid hT; have HAA := Lib.hid hA
        clear CJ CQ SQ hT hA HA
        go_wp2_with fail
        refine HCJ.out.mono ?_
        rintro e w3 ⟨rfl, b3⟩
        have HB3 := Lib.hid (HB.out.trans (b3.mono HB.out.size))
        clear b3 HB
        go_wp2_with fail
        refine (HCQ.out _).mono ?_
        rintro e w4 ⟨v4, rfl, o4, b4⟩
        obtain ⟨A4, c4, rfl, s4⟩ := HSQ.out _ _ _ o4
        have HS4 := Lib.hid s4
        have HB4 := Lib.hid (HB3.out.trans (b4.mono HB3.out.size))
        clear o4 s4 b4 HB3
        cases b
        · go_wp2_with fail
          refine (goes3_any _).mono ?_
          rintro e w5 ⟨rfl, b5⟩
          have HB5 := Lib.hid (HB4.out.trans (b5.mono HB4.out.size))
          clear b5 HB4
          go_wp2_with fail
          go_ret
          exact ⟨rfl, HB5.out⟩
        · by_cases h512 : q.size ≤ 512
          · obtain ⟨t1, t2⟩ := HTT.out (HAA.out rfl) h512
            rw [t1]
            have hS4 := HS4.out
            rw [t2] at hS4 ⊢
            have HS5 := Lib.hid hS4
            clear hS4 t1 t2 HS4 HTT HAA
            go_wp2_with fail
            refine (same_strs _ _ _ _ _ _ HS5.out (HI.out.below HB4.out)).mono ?_
            rintro e w5 ⟨rfl, n5, rfl⟩
            have HB5 := Lib.hid (below_drewN HB4.out n5)
            generalize w4.drewN n5 = w5 at *
            clear HB4 HS5
            go_wp2_with fail
            refine (goes3_any _).mono ?_
            rintro e w6 ⟨rfl, b6⟩
            have HB6 := Lib.hid (HB5.out.trans (b6.mono HB5.out.size))
            clear b6 HB5
            go_wp2_with fail
            go_ret
            exact ⟨rfl, HB6.out⟩
          · have d5 : decide (q.size ≤ 512) = false := decide_eq_false h512
            generalize WM.fieldsE (L q) = eq at *
            go_wp2_with fail
            refine (goes3_any _).mono ?_
            rintro e w5 ⟨rfl, b5⟩
            have HB5 := Lib.hid (HB4.out.trans (b5.mono HB4.out.size))
            clear b5 HB4
            go_wp2_with fail
            go_ret
            exact ⟨rfl, HB5.out⟩
end Go.Proofs.Ytegipokbbmnahaa.wordsJoins
