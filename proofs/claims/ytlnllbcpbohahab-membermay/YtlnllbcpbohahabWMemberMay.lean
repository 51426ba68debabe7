import Derived.Test.YtlnllbcpbohahabMemN
namespace Go.Proofs.Ytlnllbcpbohahab.memberMay
open Go.RowKit Go.Recs
set_option linter.unusedVariables false
set_option linter.unusedSimpArgs false
theorem own_recs {w : World} {B n c : Nat} {t : TypeId} {sz : Nat} {A : Option Addr} {rows : List (List Value)} (h : OwnR w B t sz (.slice A n c) rows) : Recs w A sz rows := by
  obtain ⟨A', cap, e, hr, _⟩ := h.recs
  injection e with e1
  subst e1
  exact hr
def one (n : ByteArray) (s : Int) : MM.Mem := ⟨n, s, [⟨houseS, 1⟩]⟩
theorem one_may (n : ByteArray) (s act : Int) : MM.mayE [one n s] n houseS act = if MM.allows s act = true then 0 else 13 := by
  have p : MM.pl [one n s] n = some 0 := by simp [MM.pl, one, List.findIdx?_cons, eq_aa]
  exact my_state p (by show (MM.pa [⟨houseS, 1⟩] houseS).isSome = true; rw [pa3]; rfl)
theorem one_mems (n : ByteArray) (s : Int) (w : World) (hn : n.size ≤ maxLen) (hs : i64 s) :
    Mems ((w.alloc (.cells #[.string houseS, .int .i64 1] 26)).alloc (.cells #[.string n, .int .i64 s, .slice (some ⟨w.heap.size, 0, none⟩) 1 1] 29)) (some ⟨w.heap.size + 1, 0, none⟩) [one n s] := by
  have o1 := own_recs (OwnR.lit w w.heap.size 26 2 [accV ⟨houseS, 1⟩] (by simp [accV]) (Nat.le_refl _) (by simp [maxLen]))
  have hA : Accs (w.alloc (.cells #[.string houseS, .int .i64 1] 26)) (some ⟨w.heap.size, 0, none⟩) [⟨houseS, 1⟩] := ⟨o1, by
    intro a ha
    rw [List.mem_singleton.1 ha]
    exact ⟨by decide, ⟨by decide, by decide⟩⟩⟩
  generalize hw : w.alloc (.cells #[.string houseS, .int .i64 1] 26) = w1 at *
  have hz : w1.heap.size = w.heap.size + 1 := by rw [← hw]; simp
  have o2 := own_recs (OwnR.lit w1 w1.heap.size 29 3 [mrowV ⟨one n s, some ⟨w.heap.size, 0, none⟩, 1⟩] (by simp [mrowV]) (Nat.le_refl _) (by simp [maxLen]))
  rw [hz] at o2
  refine ⟨[⟨one n s, some ⟨w.heap.size, 0, none⟩, 1⟩], rfl, o2, ?_⟩
  intro r hr
  rw [List.mem_singleton.1 hr]
  exact ⟨hn, hs, hA.below ((Below.refl _ _).alloc (Nat.le_refl _) _), Nat.le_refl _⟩
set_option maxHeartbeats 2000000 in
theorem may_any (n : ByteArray) (s act : Int) (w : World) (hn : n.size ≤ maxLen) (hs : i64 s) :
    Calls Try.prog 4 #[.string n, .int .i64 s, .int .i64 act] w fun e w' => e = .returned (.bool (MM.allows s act)) ∧ Below w.heap.size w w' := by
  have HM := Lib.hid (one_mems n s w hn hs)
  have HB0 := Lib.hid (((Below.refl w.heap.size w).alloc (Nat.le_refl _) (.cells #[.string houseS, .int .i64 1] 26)).alloc (by simp) (.cells #[.string n, .int .i64 s, .slice (some ⟨w.heap.size, 0, none⟩) 1 1] 29))
  have C := Lib.hid (fun A cap ww h => mmay_any A [one n s] cap n houseS act ww h)
  have hr : (MM.mayE [one n s] n houseS act == 0) = MM.allows s act := by
    rw [one_may]
    cases MM.allows s act <;> rfl
  generalize MM.mayE [one n s] n houseS act = r at *
  generalize MM.allows s act = al at *
  rw [show [one n s].length = 1 from rfl] at C
  clear hn hs
  go_enter Try.func4, Try.ntmps4
  go_wp2_with fail
  refine (C.out _ _ _ HM.out).mono ?_
  rintro e w1 ⟨rfl, b1⟩
  have HB1 := Lib.hid (HB0.out.trans (b1.mono HB0.out.size))
  clear b1
  go_wp2_with fail
  go_ret
  exact ⟨rfl, HB1.out⟩
theorem al3 {act : Int} (h : MM.allows 3 act = true) : MM.allows 2 act = true := by
  simp [MM.allows] at h ⊢
  omega
set_option maxHeartbeats 2000000 in
theorem walk (act : Int) (n : ByteArray) (w : World) (ha : -9223372036854775808 ≤ act ∧ act ≤ 9223372036854775807) (hn : n.size ≤ maxLen) :
    Calls Try.prog 3 #[.int .i64 act, .string n] w fun e w' => e = .returned (.bool true) ∧ Below w.heap.size w w' := by
  have CG := Lib.hid (fun ww => goes11_any ww)
  have C1 := Lib.hid (fun ww => may_any n 1 act ww hn ⟨by decide, by decide⟩)
  have C4 := Lib.hid (fun ww => may_any n 4 act ww hn ⟨by decide, by decide⟩)
  have C0 := Lib.hid (fun ww => may_any n 0 act ww hn ⟨by decide, by decide⟩)
  have C5 := Lib.hid (fun ww => may_any n 5 act ww hn ⟨by decide, by decide⟩)
  have C3 := Lib.hid (fun ww => may_any n 3 act ww hn ⟨by decide, by decide⟩)
  have C2 := Lib.hid (fun ww => may_any n 2 act ww hn ⟨by decide, by decide⟩)
  have K := Lib.hid (@al3 act)
  rw [show MM.allows 1 act = true from rfl] at C1
  rw [show MM.allows 4 act = false from rfl] at C4
  rw [show MM.allows 0 act = false from rfl] at C0
  rw [show MM.allows 5 act = false from rfl] at C5
  generalize MM.allows 3 act = b3 at *
  generalize MM.allows 2 act = b2 at *
  clear hn
  go_enter Try.func3, Try.ntmps3
  go_wp2_with fail
  refine (C1.out _).mono ?_
  rintro e w1 ⟨rfl, b1⟩
  have HB1 := Lib.hid b1
  clear b1
  go_wp2_with fail
  refine (C4.out _).mono ?_
  rintro e w2 ⟨rfl, b2'⟩
  have HB2 := Lib.hid (HB1.out.trans (b2'.mono HB1.out.size))
  clear b2'
  go_wp2_with fail
  refine (C0.out _).mono ?_
  rintro e w3 ⟨rfl, b3'⟩
  have HB3 := Lib.hid (HB2.out.trans (b3'.mono HB2.out.size))
  clear b3'
  go_wp2_with fail
  refine (C5.out _).mono ?_
  rintro e w4 ⟨rfl, b4'⟩
  have HB4 := Lib.hid (HB3.out.trans (b4'.mono HB3.out.size))
  clear b4'
  go_wp2_with fail
  refine (C3.out _).mono ?_
  rintro e w5 ⟨rfl, b5'⟩
  have HB5 := Lib.hid (HB4.out.trans (b5'.mono HB4.out.size))
  clear b5' HB1 HB2 HB3 HB4
  cases b3
  · go_wp2_with fail
    refine (CG.out _).mono ?_
    rintro e w6 ⟨rfl, b6'⟩
    have HB6 := Lib.hid (HB5.out.trans (b6'.mono HB5.out.size))
    clear b6'
    go_wp2_with fail
    go_ret
    exact ⟨rfl, HB6.out⟩
  · obtain rfl := K.out rfl
    go_wp2_with fail
    refine (C2.out _).mono ?_
    rintro e w6 ⟨rfl, b6'⟩
    have HB6 := Lib.hid (HB5.out.trans (b6'.mono HB5.out.size))
    clear b6' HB5
    go_wp2_with fail
    refine (CG.out _).mono ?_
    rintro e w7 ⟨rfl, b7'⟩
    have HB7 := Lib.hid (HB6.out.trans (b7'.mono HB6.out.size))
    clear b7'
    go_wp2_with fail
    go_ret
    exact ⟨rfl, HB7.out⟩
end Go.Proofs.Ytlnllbcpbohahab.memberMay
