import Derived.Test.YtagmknahmkniaaaCurI
namespace Go.Proofs.Ytagmknahmkniaaa.curveBetween
open Go.RowKit Go.Recs
set_option linter.unusedVariables false
set_option linter.unusedSimpArgs false
set_option maxHeartbeats 8000000 in
set_option maxRecDepth 100000 in
theorem walk (A : Option Addr) (cap : Nat) (l : List UM.Pt) (day tick : Int) (w : World) (hI : Pts w A l ∧ l.length ≤ cap) (hd : i64 day) (ht : i64 tick) :
    Calls Try.prog 5 #[.slice A l.length cap, .int .i64 day, .int .i64 tick] w fun e w' => e = .returned (.bool true) ∧ Below w.heap.size w w' := by
  obtain ⟨hI, _⟩ := hI
  have hlen := hI.len
  have C1 := Lib.hid (uat_any A l l.length cap rfl day tick w hI)
  have CG := Lib.hid (fun ww => goes19_any ww)
  by_cases he : UM.atE l day tick = 0
  · obtain ⟨g, tk, dk⟩ := UM.at_zero he
    have eN := (UM.at_ok g tk dk).2
    rw [he, eN] at C1
    have HI := Lib.hid hI
    have hN := UM.price_in g dk tk
    have KK := Lib.hid (fun k (hk : k < l.length) (h1 : (UM.pAt l k).known = true) (h2 : (UM.pAt l k).exp = day) => UM.price_known g tick (UM.pAt_mem hk) h1 h2)
    have KB := Lib.hid (fun k (hk : k < l.length) => (g.ord.mem _ (UM.pAt_mem hk)).2.2)
    have KP := Lib.hid (fun lo hi h => UM.price_between g dk tk (lo := lo) (hi := hi) h)
    obtain ⟨t1, t2⟩ := tk
    have K0 : Hid (∀ p ∈ l.take 0, p.known = true → (67108864 : Int) ≤ p.price ∧ p.price ≤ -67108864) := Lib.hid (by simp)
    have KM := Lib.hid (fun k (hk : k < l.length) => (List.take_succ_eq_append_getElem hk : l.take (k + 1) = _))
    have KV := Lib.hid (fun k (hk : k < l.length) => (UM.pAt_get hk))
    generalize UM.priceN l day tick = n at *
    clear he eN g dk hI
    go_enter Try.func5, Try.ntmps5
    go_wp2_with fail
    refine C1.out.mono ?_
    rintro e w1 ⟨rfl, b1⟩
    have HB1 := Lib.hid b1
    clear b1 C1
    go_wp2_with fail
    go_loopw [9, 10, 12, 29] (fun a b _ i wr => ∃ (k : Nat) (lo hi : Int), k ≤ l.length ∧ i = .int .i64 (k : Int) ∧ a = .int .i64 lo ∧ b = .int .i64 hi ∧ (-67108864 ≤ lo ∧ lo ≤ 67108864) ∧ (-67108864 ≤ hi ∧ hi ≤ 67108864) ∧ Hid (∀ p ∈ l.take k, p.known = true → lo ≤ p.price ∧ p.price ≤ hi) ∧ Hid (Below w.heap.size w wr)) (fun _ _ _ i _ => l.length - (intOf i).toNat)
    case atStart => exact ⟨0, _, _, by omega, rfl, rfl, rfl, by omega, by omega, K0, HB1⟩
    case round =>
      clear HB1
      obtain ⟨k, lo, hi, hk, rfl, rfl, rfl, hlo, hhi, HP, HB⟩ := hrel
      by_cases hlt : k < l.length
      · obtain ⟨b, off, t, rfl, hb, HV, q, d0, d1, d2⟩ := pts_get (HI.out.below HB.out) hlt
        have HK1 := Lib.hid (KK.out k hlt)
        have HK2 := KB.out k hlt
        rw [HV.out] at HK1 HK2
        have HM : Hid (∀ lo' hi' : Int, lo' ≤ lo → hi ≤ hi' → (t.known = true → lo' ≤ t.price ∧ t.price ≤ hi') → ∀ p ∈ l.take (k + 1), p.known = true → lo' ≤ p.price ∧ p.price ≤ hi') := Lib.hid (by
          intro lo' hi' h1 h2 h3 p hp hpk
          rw [KM.out k hlt] at hp
          rcases List.mem_append.1 hp with hp | hp
          · have := HP.out p hp hpk; omega
          · rw [List.mem_singleton, ← KV.out k hlt, HV.out] at hp
            subst hp; exact h3 hpk)
        obtain ⟨te, tp, tkn⟩ := t
        have HBx := Lib.hid (below_al HB.out (.cells #[.int .i64 te, .int .i64 tp, .bool tkn] 44))
        have HT := CB.new wr 44 #[.int .i64 te, .int .i64 tp, .bool tkn]
        have f0 := HT.cell 0
        have f1 := HT.cell 1
        have f2 := HT.cell 2
        simp only [List.getElem?_toArray, List.getElem?_cons_zero, List.getElem?_cons_succ] at f0 f1 f2 d0 d1 d2
        clear q HT HV
        cases tkn
        · have HM2 := Lib.hid (HM.out lo hi (Int.le_refl _) (Int.le_refl _) (fun h => by cases h))
          clear HM HK1 HK2 HP
          go_wp2_with fail
          go_roundw
          case rel => exact ⟨k + 1, lo, hi, by omega, by go_num, rfl, rfl, hlo, hhi, HM2, HBx⟩
          case measure => simp [intOf]; omega
        · have hbt : -16777216 ≤ tp ∧ tp ≤ 16777216 := HK2 rfl
          have HX : Hid (te = day → n = tp) := Lib.hid (fun h => HK1.out rfl h)
          have HM2 : Hid (∀ lo' hi' : Int, lo' ≤ lo → hi ≤ hi' → lo' ≤ tp → tp ≤ hi' → ∀ p ∈ l.take (k + 1), p.known = true → lo' ≤ p.price ∧ p.price ≤ hi') := Lib.hid (fun a b h1 h2 h3 h4 => HM.out a b h1 h2 (fun _ => ⟨h3, h4⟩))
          clear HM HK1 HK2 HP
          rcases Int.lt_trichotomy lo tp with g1 | g1 | g1 <;> rcases Int.lt_trichotomy hi tp with g2 | g2 | g2 <;> by_cases hday : te = day
          all_goals (
            first
            | (have hn := HX.out hday
               subst hday
               subst hn)
            | skip
            first
            | subst g1
            | skip
            first
            | subst g2
            | skip
            go_wp2_with fail
            go_quiet (fail)
            go_wp2_with fail
            go_roundw
            case rel => exact ⟨k + 1, _, _, by omega, by go_num, rfl, rfl, by omega, by omega, Lib.hid (HM2.out _ _ (by omega) (by omega) (by omega) (by omega)), Lib.hid (by first | exact below_drewN HBx.out _ | exact HBx.out)⟩
            case measure => simp [intOf]; omega)
      · obtain rfl : k = l.length := by omega
        have HPF := KP.out lo hi (by rw [← List.take_length (l := l)]; exact HP.out)
        obtain ⟨p1, p2⟩ := HPF
        go_wp2_with fail
        refine (CG.out _).mono ?_
        rintro e w2 ⟨rfl, b2⟩
        have HB2 := Lib.hid (HB.out.trans (b2.mono HB.out.size))
        clear b2
        go_wp2_with fail
        go_ret
        exact ⟨rfl, HB2.out⟩
  · have eN : UM.atN l day tick = 0 := by unfold UM.atN; rw [if_neg he]
    have hdd : (UM.atE l day tick != 0) = true := by simpa using he
    rw [eN] at C1
    generalize UM.atE l day tick = y at *
    clear hI he eN
    go_enter Try.func5, Try.ntmps5
    go_wp2_with fail
    refine C1.out.mono ?_
    rintro e w1 ⟨rfl, b1⟩
    have HB1 := Lib.hid b1
    clear b1 C1
    go_wp2_with fail
    refine (CG.out _).mono ?_
    rintro e w2 ⟨rfl, b2⟩
    have HB2 := Lib.hid (HB1.out.trans (b2.mono HB1.out.size))
    clear b2
    go_wp2_with fail
    go_ret
    exact ⟨rfl, HB2.out⟩
end Go.Proofs.Ytagmknahmkniaaa.curveBetween
