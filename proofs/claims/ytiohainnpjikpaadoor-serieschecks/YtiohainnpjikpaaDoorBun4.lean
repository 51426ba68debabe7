/- Put together: Blk, WordsH, WordsI, DateMath, DateMath2, DateMath4, DateA, DateB. -/
import Derived.Test.YtiohainnpjikpaaDoorBun1
import Derived.Test.YtiohainnpjikpaaDoorBun3
import Derived.StillTailTactics
import Derived.Below
import Derived.Test.YtiohainnpjikpaaDoorBun2
/- A block known whole. -/
namespace Go.Proofs.YtiohainnpjikpaaDoor
open Go.RowKit
/-- block g is just the cells cs, of type t -/
def Blk (w : World) (g : Nat) (t : TypeId) (cs : List Value) : Prop := w.heap[g]? = some (.cells cs.toArray t (0, 0))
section
variable {w w' : World} {g : Nat} {t : TypeId} {cs : List Value}
theorem Blk.lt (h : Blk w g t cs) : g < w.heap.size := by
  rcases Nat.lt_or_ge g w.heap.size with hlt | hge
  · exact hlt
  · unfold Blk at h; rw [Array.getElem?_eq_none hge] at h; cases h
theorem Blk.cell (h : Blk w g t cs) (i : Nat) : w.cell? ⟨g, i, none⟩ = cs[i]? := by unfold Blk at h; simp [World.cell?, h]
theorem Blk.frozen (h : Blk w g t cs) (i : Nat) : w.frozen? ⟨g, i, none⟩ = false := by unfold Blk at h; simp [World.frozen?, h]
theorem Blk.new (w : World) (t : TypeId) (cs : List Value) : Blk (w.alloc (.cells cs.toArray t)) w.heap.size t cs := heap_alloc_new w _
theorem Blk.set_ (h : Blk w g t cs) (i : Nat) (u : Value) : Blk (w.setCell ⟨g, i, none⟩ u) g t (cs.set i u) := by
  unfold Blk at h ⊢
  simp [World.setCell, Array.getElem?_modify, h]
theorem Blk.far (h : Blk w g t cs) {p : Addr} (hp : g ≠ p.block) (u : Value) : Blk (w.setCell p u) g t cs := (Below.heap_setCell w p u g hp).trans h
theorem Blk.alloc (h : Blk w g t cs) (o : Obj) : Blk (w.alloc o) g t cs := (Below.heap_alloc w o g h.lt).trans h
theorem Blk.drewN (h : Blk w g t cs) (n : Nat) : Blk (w.drewN n) g t cs := h
theorem Blk.below {B : Nat} (h : Blk w g t cs) (hb : Below B w w') (hg : g < B) : Blk w' g t cs := (hb.block g hg).trans h
theorem Blk.vals (h : Blk w g t cs) (off : Nat) (hl : cs.length ≤ maxLen) : Vals w (some ⟨g, off, none⟩) (cs.drop off) := by
  refine ⟨by rw [List.length_drop]; omega, .inr ⟨g, off, rfl, h.lt, fun i hi => ?_⟩⟩
  rw [h.cell, List.getElem?_drop]
end
end Go.Proofs.YtiohainnpjikpaaDoor

/- Contracts: how numbers are written, the program's. -/
namespace Go.Proofs.YtiohainnpjikpaaDoor
open Go.RowKit
set_option linter.unusedVariables false

theorem ret2_int {a : Value} {k : IntKind} {x y : Int} (h : x = y) : Ending.returned (.tuple #[a, .int k x]) = .returned (.tuple #[a, .int k y]) := by rw [h]
theorem signAndSize_any (n : Int) (w : World) (h1 : -9223372036854775808 ≤ n) (h2 : n ≤ 9223372036854775807) :
    Calls Tryd.prog 68 #[.int .i64 n] w fun e w' => e = .returned (.tuple #[.string (S (if n < 0 then [45] else [])), .int .u64 (n.natAbs : Int)]) ∧ w = w' := by
  by_cases h : n < 0
  · rw [if_pos h]
    have hw : Hid (IntKind.u64.wrap (-IntKind.u64.wrap n) = (n.natAbs : Int)) := Lib.hid (by rw [IntKind.wrap_u64, IntKind.wrap_u64]; omega)
    go_enter Tryd.func68, Tryd.ntmps68
    go_wp2
    go_ret2
    exact ⟨ret2_int hw.out, rfl⟩
  · rw [if_neg h]
    have hw : Hid (n = (n.natAbs : Int)) := Lib.hid (by omega)
    go_enter Tryd.func68, Tryd.ntmps68
    go_wp2
    go_ret2
    exact ⟨ret2_int hw.out, rfl⟩

/-- what the writing loop has: room down to a, the number x left, the digits ws written -/
def DInv (u least a x : Nat) (ws : List UInt8) : Prop := ws.length + a = 20 ∧ WM.dp x (least - (20 - a)) ++ ws = WM.dp u least ∧ u / 10 ^ (20 - a) = x
theorem DInv.start (u least : Nat) : DInv u least 20 u [] := ⟨rfl, by simp, by simp⟩
theorem DInv.pos {u least a x : Nat} {ws : List UInt8} (h : DInv u least a x ws) (hu : u < 18446744073709551616) (hl : least ≤ 3) (hc : 0 < x ∨ 20 - a < least) : 0 < a := by
  rcases Nat.eq_zero_or_pos a with h0 | h0
  · subst h0
    have := h.2.2
    rw [show 20 - 0 = 20 from rfl, WM.pow_end hu] at this
    omega
  · exact h0
theorem DInv.step {u least a x : Nat} {ws : List UInt8} (h : DInv u least (a + 1) x ws) (hc : 0 < x ∨ 20 - (a + 1) < least) : DInv u least a (x / 10) (UInt8.ofNat (48 + x % 10) :: ws) := by
  have hl := h.1
  refine ⟨by rw [List.length_cons]; omega, ?_, ?_⟩
  · have := WM.dp_go (u := u) h.2.1 (by omega)
    rw [← this, show least - (20 - a) = least - (20 - (a + 1)) - 1 by omega]
  · rw [show 20 - a = 20 - (a + 1) + 1 by omega, WM.pow_step, h.2.2]
theorem DInv.end_ {u least a x : Nat} {ws : List UInt8} (h : DInv u least a x ws) (h0 : x = 0) (h1 : ¬ 20 - a < least) : ws = WM.dp u least := by
  have := h.2.1
  rw [h0, show least - (20 - a) = 0 by omega, WM.dp_done] at this
  simpa using this
/-- the array's cells: from a on the bytes ws -/
def ACells (cs : List Value) (a : Nat) (ws : List UInt8) : Prop := cs.length = 20 ∧ cs.drop a = ws.map byteV
theorem ACells.step {cs : List Value} {a : Nat} {ws : List UInt8} (h : ACells cs (a + 1) ws) (ha : a + 1 ≤ 20) (c : UInt8) : ACells (cs.set a (byteV c)) a (c :: ws) := by
  refine ⟨by rw [List.length_set]; exact h.1, ?_⟩
  have hl : a < (cs.set a (byteV c)).length := by rw [List.length_set, h.1]; omega
  rw [List.drop_eq_getElem_cons hl, List.getElem_set_self, List.drop_set_of_lt (by omega), h.2]
  rfl

theorem run_arr (g a : Nat) (ha : a ≤ 19) (w : World) : (Instr.sliceAt 115 (.pointer (some ⟨g, 0, none⟩)) (some (.int .i64 (a : Int))) none none).run Tryd.prog w = .ok (.slice (some ⟨g, a, none⟩) (20 - a) (20 - a)) w := by
  obtain ⟨i0, hi, hz0, hz1, hz2⟩ := info_parts info_u8
  have h1 : (0 : Int) ≤ (a : Int) ∧ (a : Int) ≤ 20 := by omega
  have h2 : ¬ 20 = a := by omega
  have e : (⟨g, 0, none⟩ : Addr).add a = ⟨g, a, none⟩ := by
    unfold Addr.add
    by_cases h0 : a = 0
    · subst h0; simp
    · simp [h0]
  simp [Instr.sliceAt, Instr.sureAddr, run_underlying Tryd.underlying115, Instr.sliceBounds, Instr.sliceBound, asIntOf, sizeOf, typeInfo, hi, hz1, h1, h2, e]
  intro h; omega

set_option maxHeartbeats 2000000 in
theorem digitsOf_any (u : Nat) (least : Nat) (w : World) (hu : u < 18446744073709551616) (h1 : 1 ≤ least) (h2 : least ≤ 3) :
    Calls Tryd.prog 70 #[.int .u64 (u : Int), .int .i64 (least : Int)] w fun e w' => e = .returned (.string (S (WM.dp u least))) ∧ Below w.heap.size w w' := by
  generalize hr : S (WM.dp u least) = res
  have HR := Lib.hid hr
  clear hr
  go_enter Tryd.func70, Tryd.ntmps70
  go_wp2
  go_loopw [0, 6] (fun sz at' wr => ∃ (a x : Nat) (ws : List UInt8) (cs : List Value), a ≤ 20 ∧ x < 18446744073709551616 ∧ sz = .int .u64 (x : Int) ∧ at' = .int .i64 (a : Int) ∧ Hid (DInv u least a x ws) ∧ Hid (ACells cs a ws) ∧ Hid (Blk wr w.heap.size 115 cs) ∧ Hid (Below w.heap.size w wr))
    (fun _ at' _ => (intOf at').toNat)
  case atStart =>
    exact ⟨20, u, [], List.replicate 20 (.int .u8 0), by omega, hu, rfl, rfl, Lib.hid (DInv.start u least), Lib.hid ⟨rfl, rfl⟩, Lib.hid (Blk.new w _ _), Lib.hid ((Below.refl _ _).alloc (Nat.le_refl _) _)⟩
  case round =>
    obtain ⟨a, x, ws, cs, ha, hx, rfl, rfl, HD, HA, HK, HB⟩ := hrel
    by_cases hgo : 0 < x ∨ 20 - a < least
    · have hap := HD.out.pos hu h2 hgo
      obtain ⟨a1, rfl⟩ : ∃ a1, a = a1 + 1 := ⟨a - 1, by omega⟩
      have hD := HD.out.step hgo
      have hA := HA.out.step ha (UInt8.ofNat (48 + x % 10))
      have hn : ((UInt8.ofNat (48 + x % 10)).toNat : Int) = 48 + (x : Int) % 10 := by rw [UInt8.toNat_ofNat']; omega
      have hcell : wr.cell? ⟨w.heap.size, a1, none⟩ = some (cs.getD a1 undef) := by
        rw [HK.out.cell, List.getElem?_eq_getElem (by rw [HA.out.1]; omega)]
        simp [List.getD, List.getElem?_eq_getElem (show a1 < cs.length by rw [HA.out.1]; omega)]
      have hfr := HK.out.frozen a1
      have hK := HK.out.set_ a1 (byteV (UInt8.ofNat (48 + x % 10)))
      have hB := HB.out.setCell (p := ⟨w.heap.size, a1, none⟩) (Nat.le_refl _) (byteV (UInt8.ofNat (48 + x % 10)))
      unfold byteV at hK hB
      rw [hn] at hK hB
      have HD2 := Lib.hid hD; have HA2 := Lib.hid hA; have HK2 := Lib.hid hK; have HB2 := Lib.hid hB
      unfold byteV at HA2
      rw [hn] at HA2
      clear hD hA hK hB hn HD HA HK HB
      generalize cs.getD a1 undef = old at *
      have e1 : ((a1 + 1 : Nat) : Int) - 1 = (a1 : Int) := by omega
      have r0 : (0 : Int) ≤ (x : Int) % 10 := by omega
      have r1 : (x : Int) % 10 < 10 := by omega
      have i0 : (0 : Int) ≤ (a1 : Int) := by omega
      have i1 : (a1 : Int) < 20 := by omega
      have hq : ((x / 10 : Nat) : Int) = (x : Int) / 10 := by omega
      have HQ := Lib.hid hq
      clear hq
      by_cases hx0 : 0 < x
      · go_wp2
        go_roundw
        case rel => exact ⟨a1, x / 10, _, _, by omega, by omega, by rw [HQ.out], rfl, HD2, HA2, HK2, HB2⟩
        case measure => simp [intOf]
      · have d0 : decide (0 < x) = false := decide_eq_false hx0
        have d1 : 20 - ((a1 + 1 : Nat) : Int) < (least : Int) := by omega
        go_wp2
        go_roundw
        case rel => exact ⟨a1, x / 10, _, _, by omega, by omega, by rw [HQ.out], rfl, HD2, HA2, HK2, HB2⟩
        case measure => simp [intOf]
    · have hx0 : x = 0 := by omega
      have hE := HD.out.end_ hx0 (by omega)
      have hl := HD.out.1
      have ha1 : a ≤ 19 := by omega
      have d0 : decide (0 < x) = false := decide_eq_false (by omega)
      have d1 : ¬ 20 - (a : Int) < (least : Int) := by omega
      have hv := HK.out.vals a (by rw [HA.out.1]; simp [maxLen])
      rw [HA.out.2] at hv
      have hby : Bytes wr (some ⟨w.heap.size, a, none⟩) ws := hv
      have hcv := str_of hby ws.length
      rw [hE, HR.out, ← hE] at hcv
      have i0 : (0 : Int) ≤ (a : Int) := by omega
      have i1 : (a : Int) < 20 := by omega
      rw [show ws.length = 20 - a by omega] at hcv
      have hsl := run_arr w.heap.size a ha1 wr
      clear hx0 hE hv hby hl hgo
      go_wp2
      go_ret
      exact ⟨rfl, HB.out⟩
end Go.Proofs.YtiohainnpjikpaaDoor

/- Contracts: Text and Money, the program's. -/
namespace Go.Proofs.YtiohainnpjikpaaDoor
open Go.RowKit
set_option linter.unusedVariables false

theorem dec_len_le (n : Nat) : ∀ k, n < 10 ^ (k + 1) → (WM.dec n).length ≤ k + 1 := by
  induction n using WM.dec.induct with
  | case1 n h => intro k _; rw [WM.dec_small h]; simp
  | case2 n h ih =>
    intro k hk
    rw [WM.dec_big h, List.length_append]
    cases k with
    | zero => simp at hk; omega
    | succ k =>
      have := ih k (by rw [Nat.pow_succ] at hk; omega)
      simp; omega
theorem dec_len {n : Nat} (h : n < 18446744073709551616) : (WM.dec n).length ≤ 20 := dec_len_le n 19 (by omega)

theorem text_any (n : Int) (w : World) (h1 : -9223372036854775808 ≤ n) (h2 : n ≤ 9223372036854775807) :
    Calls Tryd.prog 39 #[.int .i64 n] w fun e w' => e = .returned (.string (S (WM.textL n))) ∧ Below w.heap.size w w' := by
  generalize hr : S (WM.textL n) = res
  have HR := Lib.hid hr
  clear hr
  have HC1 := Lib.hid (signAndSize_any n w h1 h2)
  have hu : n.natAbs < 18446744073709551616 := by omega
  have hsg : (S (if n < 0 then [45] else [])).size ≤ 1 := by rw [S_size]; split <;> simp
  generalize hg : S (if n < 0 then [45] else []) = sg at *
  have HG := Lib.hid hg
  clear hg
  go_enter Tryd.func39, Tryd.ntmps39
  go_wp2_with fail
  refine HC1.out.mono ?_
  rintro e w' ⟨rfl, rfl⟩
  go_wp2_with fail
  refine (digitsOf_any n.natAbs 1 w hu (by omega) (by omega)).mono ?_
  rintro e w1 ⟨rfl, b1⟩
  have hd : (S (WM.dp n.natAbs 1)).size ≤ 20 := by rw [S_size, (WM.dp_dec _).2]; exact dec_len hu
  generalize hg : S (WM.dp n.natAbs 1) = ds at *
  have HDS := Lib.hid hg
  clear hg
  have HB1 := Lib.hid b1
  clear b1
  go_wp2_with fail
  have hm := Strs.made w1 [sg, ds] (by
    intro x hx
    simp at hx
    unfold maxLen
    rcases hx with rfl | rfl <;> omega) (by simp [maxLen])
  refine (concat_any ⟨#[]⟩ _ [sg, ds] 2 _ (Nat.zero_le _) hm (by show WM.tl 0 [sg.size, ds.size] ≤ _; simp [WM.tl]; omega)).mono ?_
  rintro e w2 ⟨rfl, b2⟩
  clear hm
  have HB2 : Hid (Below w.heap.size w w2) := Lib.hid ((HB1.out.alloc HB1.out.size _).trans (b2.mono (by have := HB1.out.size; simp; omega)))
  clear b2
  have HF : Hid (S (WM.catL (L ⟨#[]⟩) (texts [sg, ds])) = res) := Lib.hid (by
    rw [← HR.out]
    show S (L sg ++ L ds) = _
    rw [← HG.out, ← HDS.out, L_S, L_S, (WM.dp_dec _).2]
    unfold WM.textL
    split <;> rfl)
  rw [HF.out]
  go_wp2
  go_ret
  exact ⟨rfl, HB2.out⟩

end Go.Proofs.YtiohainnpjikpaaDoor

/- Days and dates: one date for each day. -/
namespace DM
set_option linter.unusedVariables false

def leap (y : Int) : Bool := (decide (y.tmod 4 = 0) && decide (y.tmod 100 ≠ 0)) || decide (y.tmod 400 = 0)
def dim (y m : Int) : Int :=
  if m = 1 ∨ m = 3 ∨ m = 5 ∨ m = 7 ∨ m = 8 ∨ m = 10 ∨ m = 12 then 31
  else if m = 4 ∨ m = 6 ∨ m = 9 ∨ m = 11 then 30
  else if m = 2 then (if leap y = true then 29 else 28) else 0
def ylen (y : Int) : Int := if leap y = true then 366 else 365
/-- the days ahead of year 2000 + k -/
def before : Nat → Int
  | 0 => 0
  | k + 1 => before k + ylen (2000 + k)
/-- the days of the first j months -/
def cum (y : Int) : Nat → Int
  | 0 => 0
  | j + 1 => cum y j + dim y (j + 1)
def dayOf (y m d : Int) : Int := before (y - 2000).toNat + cum y (m - 1).toNat + d - 1
def okDate (y m d : Int) : Prop := 2000 ≤ y ∧ y ≤ 2199 ∧ 1 ≤ m ∧ m ≤ 12 ∧ 1 ≤ d ∧ d ≤ dim y m
def isDate (day y m d : Int) : Prop := okDate y m d ∧ dayOf y m d = day
instance (y m d : Int) : Decidable (okDate y m d) := by unfold okDate; infer_instance
def ofE (y m d : Int) : Int := if okDate y m d then 0 else 15
def ofN (y m d : Int) : Int := if okDate y m d then dayOf y m d else 0
def weekday (day : Int) : Int := if 0 ≤ day ∧ day ≤ 73048 then (day + 5) % 7 + 1 else 0

theorem dim_range (y m : Int) : 0 ≤ dim y m ∧ dim y m ≤ 31 := by unfold dim; split <;> (try split) <;> (try split) <;> (try split) <;> omega
theorem dim_real {y m : Int} (h : 1 ≤ m ∧ m ≤ 12) : 28 ≤ dim y m := by
  unfold dim
  split
  · omega
  · split
    · omega
    · split
      · split <;> omega
      · omega
theorem dim_out {y m : Int} (h : m < 1 ∨ 12 < m) : dim y m = 0 := by
  unfold dim
  rw [if_neg (by omega), if_neg (by omega), if_neg (by omega)]
theorem month_of {y m d : Int} (h1 : 1 ≤ d) (h2 : d ≤ dim y m) : 1 ≤ m ∧ m ≤ 12 := by
  by_cases h : 1 ≤ m ∧ m ≤ 12
  · exact h
  · rw [dim_out (by omega)] at h2; omega
theorem ylen_range (y : Int) : 365 ≤ ylen y ∧ ylen y ≤ 366 := by unfold ylen; split <;> omega
theorem cum_year (y : Int) : cum y 12 = ylen y := by
  unfold ylen
  simp only [cum, dim]
  by_cases h : leap y = true
  · simp [h]
  · simp [h]
theorem before_mono {j k : Nat} (h : j ≤ k) : before j ≤ before k := by
  induction k with
  | zero => rw [Nat.le_zero.1 h]; exact Int.le_refl _
  | succ k ih =>
    rcases Nat.lt_or_ge k j with h1 | h1
    · rw [show j = k + 1 by omega]; exact Int.le_refl _
    · have := ih h1
      have := ylen_range (2000 + k)
      rw [show before (k + 1) = before k + ylen (2000 + k) from rfl]; omega
theorem cum_mono {y : Int} {j k : Nat} (h : j ≤ k) : cum y j ≤ cum y k := by
  induction k with
  | zero => rw [Nat.le_zero.1 h]; exact Int.le_refl _
  | succ k ih =>
    rcases Nat.lt_or_ge k j with h1 | h1
    · rw [show j = k + 1 by omega]; exact Int.le_refl _
    · have := ih h1
      have := dim_range y (k + 1)
      rw [show cum y (k + 1) = cum y k + dim y (k + 1) from rfl]; omega
set_option maxRecDepth 100000 in
theorem before_all : before 200 = 73049 := by decide
/-- where a date's day lies -/
theorem day_in {y m d : Int} (h : okDate y m d) : before (y - 2000).toNat + cum y (m - 1).toNat ≤ dayOf y m d ∧ dayOf y m d < before (y - 2000).toNat + cum y ((m - 1).toNat + 1) ∧
    before (y - 2000).toNat ≤ dayOf y m d ∧ dayOf y m d < before ((y - 2000).toNat + 1) ∧ 0 ≤ dayOf y m d ∧ dayOf y m d ≤ 73048 := by
  obtain ⟨h1, h2, h3, h4, h5, h6⟩ := h
  have e : (((m - 1).toNat : Nat) : Int) + 1 = m := by omega
  have e2 : (2000 : Int) + ((y - 2000).toNat : Nat) = y := by omega
  have c0 : 0 ≤ cum y (m - 1).toNat := cum_mono (y := y) (Nat.zero_le _)
  have c1 : cum y ((m - 1).toNat + 1) = cum y (m - 1).toNat + dim y m := by show cum y _ + dim y _ = _; rw [e]
  have c2 : cum y ((m - 1).toNat + 1) ≤ cum y 12 := cum_mono (by omega)
  rw [cum_year] at c2
  have b0 : 0 ≤ before (y - 2000).toNat := before_mono (Nat.zero_le _)
  have b1 : before ((y - 2000).toNat + 1) = before (y - 2000).toNat + ylen y := by show before _ + ylen _ = _; rw [e2]
  have b2 : before ((y - 2000).toNat + 1) ≤ before 200 := before_mono (by omega)
  rw [before_all] at b2
  unfold dayOf
  omega
theorem isDate_unique {day y m d y' m' d' : Int} (h : isDate day y m d) (h' : isDate day y' m' d') : y = y' ∧ m = m' ∧ d = d' := by
  obtain ⟨h1, rfl⟩ := h
  obtain ⟨h2, e⟩ := h'
  obtain ⟨a1, a2, a3, a4, _⟩ := day_in h1
  obtain ⟨b1, b2, b3, b4, _⟩ := day_in h2
  rw [e] at b1 b2 b3 b4
  have g1 := h1
  have g2 := h2
  obtain ⟨p1, p2, p3, p4, p5, p6⟩ := h1
  obtain ⟨q1, q2, q3, q4, q5, q6⟩ := h2
  have hy : y = y' := by
    rcases Int.lt_trichotomy y y' with h | h | h
    · have := before_mono (show (y - 2000).toNat + 1 ≤ (y' - 2000).toNat by omega); omega
    · exact h
    · have := before_mono (show (y' - 2000).toNat + 1 ≤ (y - 2000).toNat by omega); omega
  subst hy
  have hm : m = m' := by
    rcases Int.lt_trichotomy m m' with h | h | h
    · have := cum_mono (y := y) (show (m - 1).toNat + 1 ≤ (m' - 1).toNat by omega); omega
    · exact h
    · have := cum_mono (y := y) (show (m' - 1).toNat + 1 ≤ (m - 1).toNat by omega); omega
  subst hm
  refine ⟨rfl, rfl, ?_⟩
  unfold dayOf at e
  omega
/-- between two steps of a rising row there is a place -/
theorem place (f : Nat → Int) (x : Int) (n : Nat) (h0 : f 0 ≤ x) (h1 : x < f n) : ∃ k, k < n ∧ f k ≤ x ∧ x < f (k + 1) := by
  induction n with
  | zero => omega
  | succ n ih =>
    by_cases h : f n ≤ x
    · exact ⟨n, by omega, h, h1⟩
    · obtain ⟨k, hk, r⟩ := ih (by omega)
      exact ⟨k, by omega, r⟩
theorem isDate_exists {day : Int} (h0 : 0 ≤ day) (h1 : day ≤ 73048) : ∃ y m d, isDate day y m d := by
  obtain ⟨k, hk, k1, k2⟩ := place before day 200 h0 (by rw [before_all]; omega)
  have e : before (k + 1) = before k + ylen (2000 + k) := rfl
  obtain ⟨j, hj, j1, j2⟩ := place (cum (2000 + k)) (day - before k) 12 (by show (0 : Int) ≤ _; omega) (by rw [cum_year]; omega)
  have e2 : cum (2000 + (k : Int)) (j + 1) = cum (2000 + k) j + dim (2000 + k) (j + 1) := rfl
  refine ⟨2000 + k, j + 1, day - before k - cum (2000 + k) j + 1, ⟨by omega, by omega, by omega, by omega, by omega, by omega⟩, ?_⟩
  unfold dayOf
  rw [show ((2000 : Int) + k - 2000).toNat = k by omega, show ((j : Int) + 1 - 1).toNat = j by omega]
  omega
/-- the next day -/
theorem isDate_next {day y m d : Int} (h : isDate day y m d) (hl : day < 73048) :
    isDate (day + 1) (if d < dim y m then y else if m < 12 then y else y + 1) (if d < dim y m then m else if m < 12 then m + 1 else 1) (if d < dim y m then d + 1 else 1) := by
  obtain ⟨⟨p1, p2, p3, p4, p5, p6⟩, e⟩ := h
  by_cases h1 : d < dim y m
  · simp only [h1, if_true]
    exact ⟨⟨p1, p2, p3, p4, by omega, by omega⟩, by unfold dayOf at *; omega⟩
  · have hd : d = dim y m := by omega
    by_cases h2 : m < 12
    · simp only [h1, h2, if_false, if_true]
      have := dim_real (y := y) (m := m + 1) (by omega)
      refine ⟨⟨p1, p2, by omega, by omega, by omega, by omega⟩, ?_⟩
      have c : cum y (m + 1 - 1).toNat = cum y (m - 1).toNat + dim y m := by
        rw [show (m + 1 - 1).toNat = (m - 1).toNat + 1 by omega]
        show cum y _ + dim y _ = _
        rw [show (((m - 1).toNat : Nat) : Int) + 1 = m by omega]
      unfold dayOf at *
      omega
    · simp only [h1, h2, if_false]
      have hm : m = 12 := by omega
      subst hm
      have c : cum y 12 = cum y 11 + dim y 12 := rfl
      rw [cum_year] at c
      have b : before (y + 1 - 2000).toNat = before (y - 2000).toNat + ylen y := by
        rw [show (y + 1 - 2000).toNat = (y - 2000).toNat + 1 by omega]
        show before _ + ylen _ = _
        rw [show (2000 : Int) + ((y - 2000).toNat : Nat) = y by omega]
      have e' : dayOf y 12 d = before (y - 2000).toNat + cum y 11 + d - 1 := rfl
      have hy : y < 2199 := by
        rcases Int.lt_or_eq_of_le p2 with q | q
        · exact q
        · exfalso
          subst q
          have b3 : before ((2199 : Int) + 1 - 2000).toNat = 73049 := before_all
          omega
      have := dim_real (y := y + 1) (m := 1) (by omega)
      refine ⟨⟨by omega, by omega, by omega, by omega, by omega, by omega⟩, ?_⟩
      show before (y + 1 - 2000).toNat + 0 + 1 - 1 = day + 1
      omega
theorem weekday_next {day : Int} (h0 : 0 ≤ day) (h1 : day < 73048) : weekday (day + 1) = weekday day % 7 + 1 := by
  unfold weekday
  rw [if_pos (by omega), if_pos (by omega)]; omega

/-! months on -/
def monthsE (y m d n : Int) : Int := let k := 12 * y + m - 1 + n
  ofE (k / 12) (k % 12 + 1) (min d (dim (k / 12) (k % 12 + 1)))
def monthsN (y m d n : Int) : Int := let k := 12 * y + m - 1 + n
  ofN (k / 12) (k % 12 + 1) (min d (dim (k / 12) (k % 12 + 1)))
theorem months_back {y m d n : Int} (h : okDate y m d) (he : monthsE y m d n = 0) :
    ∃ y2 m2 d2, isDate (monthsN y m d n) y2 m2 d2 ∧ monthsE y2 m2 d2 (-n) = 0 ∧ monthsN y2 m2 d2 (-n) ≤ dayOf y m d ∧ dayOf y m d - monthsN y2 m2 d2 (-n) ≤ 3 := by
  obtain ⟨p1, p2, p3, p4, p5, p6⟩ := h
  unfold monthsE at he
  unfold monthsN
  simp only at he ⊢
  generalize hk : 12 * y + m - 1 + n = k at *
  have hok : okDate (k / 12) (k % 12 + 1) (min d (dim (k / 12) (k % 12 + 1))) := by
    unfold ofE at he; split at he
    · assumption
    · omega
  have r := dim_real (y := k / 12) (m := k % 12 + 1) (by omega)
  have r2 := (dim_range y m).2
  refine ⟨k / 12, k % 12 + 1, min d (dim (k / 12) (k % 12 + 1)), ⟨hok, by unfold ofN; rw [if_pos hok]⟩, ?_⟩
  have e : 12 * (k / 12) + (k % 12 + 1) - 1 + -n = 12 * y + m - 1 := by omega
  have e1 : (12 * y + m - 1) / 12 = y := by omega
  have e2 : (12 * y + m - 1) % 12 + 1 = m := by omega
  unfold monthsE
  simp only
  rw [e, e1, e2]
  generalize dim (k / 12) (k % 12 + 1) = q at *
  have e3 : min (min d q) (dim y m) = min d q := by omega
  rw [e3]
  have hok2 : okDate y m (min d q) := ⟨p1, p2, p3, p4, by omega, by omega⟩
  unfold ofE ofN
  rw [if_pos hok2, if_pos hok2]
  unfold dayOf
  refine ⟨rfl, by omega, by omega⟩
end DM

/- The n-th weekday of a month; a date's text. -/
namespace DM
set_option linter.unusedVariables false

/-! the n-th weekday -/
theorem dayOf_from (y m d : Int) : dayOf y m d = dayOf y m 1 + d - 1 := by unfold dayOf; omega
theorem weekday_in {day : Int} (h0 : 0 ≤ day) (h1 : day ≤ 73048) : weekday day = (day + 5) % 7 + 1 := by unfold weekday; rw [if_pos ⟨h0, h1⟩]
def nthD (y m wd n : Int) : Int := (wd - ((dayOf y m 1 + 5) % 7 + 1)) % 7 + 1 + 7 * (n - 1)
theorem nthD_range (y m wd n : Int) : 7 * n - 6 ≤ nthD y m wd n ∧ nthD y m wd n ≤ 7 * n := by unfold nthD; omega
theorem nthD_step (y m wd n : Int) : nthD y m wd n = nthD y m wd 1 + 7 * (n - 1) := by unfold nthD; omega
theorem weekday_nth {y m d wd : Int} (h : okDate y m d) (h1 : 1 ≤ wd) (h7 : wd ≤ 7) : weekday (dayOf y m d) = wd ↔ (d - nthD y m wd 1) % 7 = 0 := by
  obtain ⟨_, _, _, _, a, b⟩ := day_in h
  rw [weekday_in a b, dayOf_from]
  unfold nthD
  constructor <;> intro <;> omega
theorem nth_only {y m d wd n : Int} (h : okDate y m d) (h1 : 1 ≤ wd) (h7 : wd ≤ 7) (hd1 : 7 * n - 6 ≤ d) (hd2 : d ≤ 7 * n) : weekday (dayOf y m d) = wd ↔ d = nthD y m wd n := by
  rw [weekday_nth h h1 h7]
  have r := nthD_range y m wd 1
  have s := nthD_step y m wd n
  constructor <;> intro <;> omega
/-- how many more are to come, ahead of the month's day d -/
def nthLeft (y m wd n d : Int) : Int := n - (d + 6 - nthD y m wd 1) / 7
theorem nthLeft_start (y m wd n : Int) : nthLeft y m wd n 1 = n := by
  have r := nthD_range y m wd 1
  unfold nthLeft; omega
theorem nthLeft_hit {y m wd n d : Int} (h : (d - nthD y m wd 1) % 7 = 0) : nthLeft y m wd n (d + 1) = nthLeft y m wd n d - 1 := by unfold nthLeft; omega
theorem nthLeft_miss {y m wd n d : Int} (h : (d - nthD y m wd 1) % 7 ≠ 0) : nthLeft y m wd n (d + 1) = nthLeft y m wd n d := by unfold nthLeft; omega
theorem nthLeft_zero {y m wd n d : Int} (hd : 1 ≤ d) (hn : 1 ≤ n) (h : nthLeft y m wd n d ≠ 0) (h0 : nthLeft y m wd n (d + 1) = 0) : d = nthD y m wd n := by
  have r := nthD_range y m wd 1
  have s := nthD_step y m wd n
  unfold nthLeft at *; omega
theorem nthLeft_some {y m wd n d : Int} (h : d ≤ nthD y m wd n) : 1 ≤ nthLeft y m wd n d := by
  have s := nthD_step y m wd n
  unfold nthLeft; omega
def nthE (y m wd n : Int) : Int := if wd < 1 ∨ 7 < wd ∨ n < 1 ∨ 5 < n then 2 else if okDate y m (nthD y m wd n) then 0 else 15
def nthN (y m wd n : Int) : Int := if nthE y m wd n = 0 then dayOf y m (nthD y m wd n) else 0

/-! texts -/
def ch (n : Int) : UInt8 := UInt8.ofNat (48 + (n % 10).toNat)
theorem ch_toNat (n : Int) : ((ch n).toNat : Int) = 48 + n % 10 := by
  unfold ch
  have : 48 + (n % 10).toNat < 256 := by omega
  rw [UInt8.toNat_ofNat_of_lt' this]; omega
def dateL (y m d : Int) : List UInt8 := [ch (y / 1000), ch (y / 100), ch (y / 10), ch y, 45, ch (m / 10), ch m, 45, ch (d / 10), ch d]
def isD (c : UInt8) : Prop := 48 ≤ c.toNat ∧ c.toNat ≤ 57
instance (c : UInt8) : Decidable (isD c) := by unfold isD; infer_instance
def dv (c : UInt8) : Int := (c.toNat : Int) - 48
theorem ch_isD (n : Int) : isD (ch n) := by have := ch_toNat n; unfold isD; omega
theorem ch_dv (n : Int) : dv (ch n) = n % 10 := by have := ch_toNat n; unfold dv; omega
theorem ch_of {c : UInt8} {n : Int} (h : isD c) (e : n % 10 = dv c) : ch n = c := by
  apply UInt8.toNat.inj
  have := ch_toNat n
  unfold dv at e
  unfold isD at h
  omega
/-- a run of figures: its value; -1 if one is none -/
def dgo : Int → List UInt8 → Int
  | n, [] => n
  | n, c :: t => if isD c then dgo (10 * n + dv c) t else -1
theorem dgo_two {a b : UInt8} : dgo 0 [a, b] = if isD a ∧ isD b then 10 * dv a + dv b else -1 := by
  simp only [dgo]
  by_cases h1 : isD a <;> by_cases h2 : isD b <;> simp [h1, h2]
theorem dgo_four {a b c d : UInt8} : dgo 0 [a, b, c, d] = if isD a ∧ isD b ∧ isD c ∧ isD d then 1000 * dv a + 100 * dv b + 10 * dv c + dv d else -1 := by
  simp only [dgo]
  by_cases h1 : isD a <;> by_cases h2 : isD b <;> by_cases h3 : isD c <;> by_cases h4 : isD d <;> simp [h1, h2, h3, h4] <;> omega
theorem dv_range {c : UInt8} (h : isD c) : 0 ≤ dv c ∧ dv c ≤ 9 := by unfold isD at h; unfold dv; omega
/-- is a text one of a date by its form? -/
def form (s : List UInt8) : Prop := ∃ a b c d e f g h, s = [a, b, c, d, 45, e, f, 45, g, h] ∧ isD a ∧ isD b ∧ isD c ∧ isD d ∧ isD e ∧ isD f ∧ isD g ∧ isD h
def yearOf (s : List UInt8) : Int := dgo 0 (s.take 4)
def monthOf (s : List UInt8) : Int := dgo 0 ((s.drop 5).take 2)
def dayIn (s : List UInt8) : Int := dgo 0 (s.drop 8)
theorem dateL_form (y m d : Int) : form (dateL y m d) := ⟨_, _, _, _, _, _, _, _, rfl, ch_isD _, ch_isD _, ch_isD _, ch_isD _, ch_isD _, ch_isD _, ch_isD _, ch_isD _⟩
theorem dateL_read {y m d : Int} (hy : 0 ≤ y ∧ y ≤ 9999) (hm : 0 ≤ m ∧ m ≤ 99) (hd : 0 ≤ d ∧ d ≤ 99) : yearOf (dateL y m d) = y ∧ monthOf (dateL y m d) = m ∧ dayIn (dateL y m d) = d := by
  have e1 : yearOf (dateL y m d) = dgo 0 [ch (y / 1000), ch (y / 100), ch (y / 10), ch y] := rfl
  have e2 : monthOf (dateL y m d) = dgo 0 [ch (m / 10), ch m] := rfl
  have e3 : dayIn (dateL y m d) = dgo 0 [ch (d / 10), ch d] := rfl
  rw [e1, e2, e3, dgo_four, dgo_two, dgo_two, if_pos ⟨ch_isD _, ch_isD _, ch_isD _, ch_isD _⟩, if_pos ⟨ch_isD _, ch_isD _⟩, if_pos ⟨ch_isD _, ch_isD _⟩]
  simp only [ch_dv]
  omega
theorem form_read {s : List UInt8} (h : form s) : dateL (yearOf s) (monthOf s) (dayIn s) = s ∧ 0 ≤ yearOf s ∧ yearOf s ≤ 9999 ∧ 0 ≤ monthOf s ∧ monthOf s ≤ 99 ∧ 0 ≤ dayIn s ∧ dayIn s ≤ 99 := by
  obtain ⟨a, b, c, d, e, f, g, h, rfl, ha, hb, hc, hd, he, hf, hg, hh⟩ := h
  have e1 : yearOf [a, b, c, d, 45, e, f, 45, g, h] = dgo 0 [a, b, c, d] := rfl
  have e2 : monthOf [a, b, c, d, 45, e, f, 45, g, h] = dgo 0 [e, f] := rfl
  have e3 : dayIn [a, b, c, d, 45, e, f, 45, g, h] = dgo 0 [g, h] := rfl
  rw [e1, e2, e3, dgo_four, dgo_two, dgo_two, if_pos ⟨ha, hb, hc, hd⟩, if_pos ⟨he, hf⟩, if_pos ⟨hg, hh⟩]
  have r1 := dv_range ha; have r2 := dv_range hb; have r3 := dv_range hc; have r4 := dv_range hd
  have r5 := dv_range he; have r6 := dv_range hf; have r7 := dv_range hg; have r8 := dv_range hh
  refine ⟨?_, by omega, by omega, by omega, by omega, by omega, by omega⟩
  unfold dateL
  rw [ch_of ha (by omega), ch_of hb (by omega), ch_of hc (by omega), ch_of hd (by omega), ch_of he (by omega), ch_of hf (by omega), ch_of hg (by omega), ch_of hh (by omega)]
end DM

/- Days ahead of a year, by counting leap years. -/
namespace DM
set_option linter.unusedVariables false

def lu (y : Int) : Int := y.tdiv 4 - y.tdiv 100 + y.tdiv 400
def ys (y : Int) : Int := (y - 2000) * 365 + lu (y - 1) - lu 1999
theorem tdiv_pos {y k : Int} (h : 0 ≤ y) : y.tdiv k = y / k := Int.tdiv_eq_ediv_of_nonneg h
theorem tmod_pos {y k : Int} (h : 0 ≤ y) : y.tmod k = y % k := Int.tmod_eq_emod_of_nonneg h
theorem lu_step {y : Int} (h : 1 ≤ y) : lu y = lu (y - 1) + (if leap y = true then 1 else 0) := by
  unfold lu leap
  rw [tdiv_pos (by omega), tdiv_pos (by omega), tdiv_pos (by omega), tdiv_pos (by omega), tdiv_pos (by omega), tdiv_pos (by omega), tmod_pos (by omega), tmod_pos (by omega), tmod_pos (by omega)]
  by_cases h4 : y % 4 = 0 <;> by_cases h1 : y % 100 = 0 <;> by_cases h400 : y % 400 = 0 <;> simp [h4, h1, h400] <;> omega
theorem lu_range {y : Int} (h0 : 0 ≤ y) (h1 : y ≤ 10000) : 0 ≤ lu y ∧ lu y ≤ 10000 := by
  unfold lu
  rw [tdiv_pos h0, tdiv_pos h0, tdiv_pos h0]; omega
theorem ys_before (k : Nat) : ys (2000 + k) = before k := by
  induction k with
  | zero => decide
  | succ k ih =>
    have s := lu_step (y := 2000 + k) (by omega)
    have e : before (k + 1) = before k + ylen (2000 + k) := rfl
    rw [e, ← ih]
    unfold ys ylen
    rw [show (2000 : Int) + ((k + 1 : Nat) : Int) - 1 = 2000 + k by omega, s]
    split <;> omega
theorem ys_at {y : Int} (h : 2000 ≤ y) : ys y = before (y - 2000).toNat := by
  rw [← ys_before, show (2000 : Int) + ((y - 2000).toNat : Nat) = y by omega]
theorem before_range {k : Nat} (h : k ≤ 200) : 0 ≤ before k ∧ before k ≤ 73049 := by
  have a := before_mono (Nat.zero_le k)
  have b := before_mono h
  rw [before_all] at b
  exact ⟨a, b⟩
theorem cum_range (y : Int) (j : Nat) (h : j ≤ 12) : 0 ≤ cum y j ∧ cum y j ≤ 366 := by
  have a := cum_mono (y := y) (Nat.zero_le j)
  have b := cum_mono (y := y) h
  rw [cum_year] at b
  have := (ylen_range y).2
  exact ⟨a, by omega⟩
theorem cum_succ (y : Int) (j : Nat) : cum y (j + 1) = cum y j + dim y (j + 1) := rfl
theorem before_succ (k : Nat) : before (k + 1) = before k + ylen (2000 + k) := rfl
theorem before_ge (k : Nat) : 365 * (k : Int) ≤ before k := by
  induction k with
  | zero => decide
  | succ k ih => have := (ylen_range (2000 + k)).1; rw [before_succ]; omega
theorem before_le (k : Nat) : before k ≤ 366 * (k : Int) := by
  induction k with
  | zero => decide
  | succ k ih => have := (ylen_range (2000 + k)).2; rw [before_succ]; omega
def isd (d : Int) : Bool := decide (0 ≤ d ∧ d ≤ 73048)
theorem isd_true {d : Int} (h0 : 0 ≤ d) (h1 : d ≤ 73048) : isd d = true := decide_eq_true ⟨h0, h1⟩
theorem isd_false {d : Int} (h : d < 0 ∨ 73048 < d) : isd d = false := decide_eq_false (by omega)
theorem isd_of {d : Int} (h : isd d = true) : 0 ≤ d ∧ d ≤ 73048 := of_decide_eq_true h
theorem isd_no {d : Int} (h : isd d = false) : d < 0 ∨ 73048 < d := by have := of_decide_eq_false h; omega
end DM
namespace DM
/-! how a day's year and month are found -/
theorem split_year {day y m d : Int} (h : isDate day y m d) (k : Nat) : before (k + 1) ≤ day ↔ k < (y - 2000).toNat := by
  obtain ⟨h1, rfl⟩ := h
  obtain ⟨_, _, a3, a4, _⟩ := day_in h1
  constructor
  · intro h
    rcases Nat.lt_or_ge k (y - 2000).toNat with g | g
    · exact g
    · have := before_mono (show (y - 2000).toNat + 1 ≤ k + 1 by omega); omega
  · intro h
    have := before_mono (show k + 1 ≤ (y - 2000).toNat by omega); omega
theorem split_month {day y m d : Int} (h : isDate day y m d) (j : Nat) : cum y (j + 1) ≤ day - before (y - 2000).toNat ↔ j < (m - 1).toNat := by
  obtain ⟨h1, rfl⟩ := h
  obtain ⟨a1, a2, _, _, _⟩ := day_in h1
  constructor
  · intro h
    rcases Nat.lt_or_ge j (m - 1).toNat with g | g
    · exact g
    · have := cum_mono (y := y) (show (m - 1).toNat + 1 ≤ j + 1 by omega); omega
  · intro h
    have := cum_mono (y := y) (show j + 1 ≤ (m - 1).toNat by omega); omega
theorem split_start {day y m d : Int} (h : isDate day y m d) : day / 366 ≤ (y - 2000).toNat := by
  obtain ⟨h1, rfl⟩ := h
  obtain ⟨_, _, _, a4, a5, _⟩ := day_in h1
  have := before_le ((y - 2000).toNat + 1)
  omega
theorem split_day {day y m d : Int} (h : isDate day y m d) : day - before (y - 2000).toNat - cum y (m - 1).toNat + 1 = d ∧ 0 ≤ day - before (y - 2000).toNat ∧ day - before (y - 2000).toNat ≤ 366 ∧ 0 ≤ day ∧ day ≤ 73048 := by
  obtain ⟨h1, e⟩ := h
  obtain ⟨_, _, a3, a4, a5, a6⟩ := day_in h1
  have b := before_succ (y - 2000).toNat
  have := (ylen_range (2000 + ((y - 2000).toNat : Nat))).2
  rw [e] at a3 a4 a5 a6
  unfold dayOf at e
  omega
theorem day_cases (day : Int) : (day < 0 ∨ 73048 < day) ∨ ∃ y m d, isDate day y m d := by
  by_cases h : day < 0 ∨ 73048 < day
  · exact .inl h
  · exact .inr (isDate_exists (by omega) (by omega))
end DM

/- Contracts of layer 5's smallest functions, the program's and the reference's. -/
namespace Go.Proofs.YtiohainnpjikpaaDoor
open Go.RowKit
set_option linter.unusedVariables false

theorem tmod_small (y : Int) (k : Int) (hk : 0 < k) (hk2 : k ≤ 400) : -400 ≤ y.tmod k ∧ y.tmod k ≤ 400 := by
  have h1 := Int.tmod_lt_of_pos y hk
  have h2 : -k < y.tmod k := by
    have := Int.tmod_lt_of_pos (-y) hk
    rw [Int.neg_tmod] at this; omega
  omega

theorem beq0 {x : Int} (h : ¬ x = 0) : (x == 0) = false ∧ (x != 0) = true := by simp [h]
theorem beq1 {x : Int} (h : x = 0) : (x == 0) = true ∧ (x != 0) = false := by simp [h]
theorem bq {a b : Int} (h : ¬ a = b) : (a == b) = false := by simpa using h

theorem leap_any (y : Int) (w : World) :
    Calls Tryd.prog 106 #[.int .i64 y] w fun e w' => e = .returned (.bool (DM.leap y)) ∧ w = w' := by
  obtain ⟨a1, a2⟩ := tmod_small y 4 (by omega) (by omega)
  obtain ⟨b1, b2⟩ := tmod_small y 100 (by omega) (by omega)
  obtain ⟨c1, c2⟩ := tmod_small y 400 (by omega) (by omega)
  generalize hv : DM.leap y = v
  have HV := Lib.hid hv
  clear hv
  unfold DM.leap at HV
  by_cases h4 : y.tmod 4 = 0
  · by_cases h1 : y.tmod 100 = 0
    · by_cases h400 : y.tmod 400 = 0
      · have HN : Hid (v = true) := Lib.hid (by rw [← HV.out]; simp [h400])
        have d4 := (beq1 h4).1; have d1 := (beq1 h1).2; have d400 := (beq1 h400).1
        clear h4 h1 h400
        go_enter Tryd.func106, Tryd.ntmps106
        go_wp2
        go_ret
        exact ⟨by rw [HN.out]; rfl, rfl⟩
      · have HN : Hid (v = false) := Lib.hid (by rw [← HV.out]; simp [h1, h400])
        have d4 := (beq1 h4).1; have d1 := (beq1 h1).2; have d400 := (beq0 h400).1
        clear h4 h1 h400
        go_enter Tryd.func106, Tryd.ntmps106
        go_wp2
        go_ret
        exact ⟨by rw [HN.out]; rfl, rfl⟩
    · have HN : Hid (v = true) := Lib.hid (by rw [← HV.out]; simp [h4, h1])
      have d4 := (beq1 h4).1; have d1 := (beq0 h1).2
      clear h4 h1
      go_enter Tryd.func106, Tryd.ntmps106
      go_wp2
      go_ret
      exact ⟨by rw [HN.out]; rfl, rfl⟩
  · by_cases h400 : y.tmod 400 = 0
    · have HN : Hid (v = true) := Lib.hid (by rw [← HV.out]; simp [h400])
      have d4 := (beq0 h4).1; have d400 := (beq1 h400).1
      clear h4 h400
      go_enter Tryd.func106, Tryd.ntmps106
      go_wp2
      go_ret
      exact ⟨by rw [HN.out]; rfl, rfl⟩
    · have HN : Hid (v = false) := Lib.hid (by rw [← HV.out]; simp [h4, h400])
      have d4 := (beq0 h4).1; have d400 := (beq0 h400).1
      clear h4 h400
      go_enter Tryd.func106, Tryd.ntmps106
      go_wp2
      go_ret
      exact ⟨by rw [HN.out]; rfl, rfl⟩

theorem rleap_any (y : Int) (w : World) :
    Calls Tryd.prog 61 #[.int .i64 y] w fun e w' => e = .returned (.bool (DM.leap y)) ∧ w = w' := by
  obtain ⟨a1, a2⟩ := tmod_small y 4 (by omega) (by omega)
  obtain ⟨b1, b2⟩ := tmod_small y 100 (by omega) (by omega)
  obtain ⟨c1, c2⟩ := tmod_small y 400 (by omega) (by omega)
  generalize hv : DM.leap y = v
  have HV := Lib.hid hv
  clear hv
  unfold DM.leap at HV
  by_cases h4 : y.tmod 4 = 0
  · by_cases h1 : y.tmod 100 = 0
    · by_cases h400 : y.tmod 400 = 0
      · have HN : Hid (v = true) := Lib.hid (by rw [← HV.out]; simp [h400])
        have d4 := (beq1 h4).1; have d1 := (beq1 h1).2; have d400 := (beq1 h400).1
        clear h4 h1 h400
        go_enter Tryd.func61, Tryd.ntmps61
        go_wp2
        go_ret
        exact ⟨by rw [HN.out]; rfl, rfl⟩
      · have HN : Hid (v = false) := Lib.hid (by rw [← HV.out]; simp [h1, h400])
        have d4 := (beq1 h4).1; have d1 := (beq1 h1).2; have d400 := (beq0 h400).1
        clear h4 h1 h400
        go_enter Tryd.func61, Tryd.ntmps61
        go_wp2
        go_ret
        exact ⟨by rw [HN.out]; rfl, rfl⟩
    · have HN : Hid (v = true) := Lib.hid (by rw [← HV.out]; simp [h4, h1])
      have d4 := (beq1 h4).1; have d1 := (beq0 h1).2
      clear h4 h1
      go_enter Tryd.func61, Tryd.ntmps61
      go_wp2
      go_ret
      exact ⟨by rw [HN.out]; rfl, rfl⟩
  · by_cases h400 : y.tmod 400 = 0
    · have HN : Hid (v = true) := Lib.hid (by rw [← HV.out]; simp [h400])
      have d4 := (beq0 h4).1; have d400 := (beq1 h400).1
      clear h4 h400
      go_enter Tryd.func61, Tryd.ntmps61
      go_wp2
      go_ret
      exact ⟨by rw [HN.out]; rfl, rfl⟩
    · have HN : Hid (v = false) := Lib.hid (by rw [← HV.out]; simp [h4, h400])
      have d4 := (beq0 h4).1; have d400 := (beq0 h400).1
      clear h4 h400
      go_enter Tryd.func61, Tryd.ntmps61
      go_wp2
      go_ret
      exact ⟨by rw [HN.out]; rfl, rfl⟩

theorem days_any (y m : Int) (w : World) :
    Calls Tryd.prog 91 #[.int .i64 y, .int .i64 m] w fun e w' => e = .returned (.int .i64 (DM.dim y m)) ∧ w = w' := by
  by_cases hm : m = 1 ∨ m = 3 ∨ m = 5 ∨ m = 7 ∨ m = 8 ∨ m = 10 ∨ m = 12
  · have hd : DM.dim y m = 31 := by unfold DM.dim; rw [if_pos hm]
    rw [hd]; clear hd
    rcases hm with rfl | rfl | rfl | rfl | rfl | rfl | rfl
    all_goals
      go_enter Tryd.func91, Tryd.ntmps91
      go_wp2
      go_ret
      exact ⟨rfl, rfl⟩
  · by_cases hm2 : m = 4 ∨ m = 6 ∨ m = 9 ∨ m = 11
    · have hd : DM.dim y m = 30 := by unfold DM.dim; rw [if_neg hm, if_pos hm2]
      rw [hd]; clear hd hm
      rcases hm2 with rfl | rfl | rfl | rfl
      all_goals
        go_enter Tryd.func91, Tryd.ntmps91
        go_wp2
        go_ret
        exact ⟨rfl, rfl⟩
    · by_cases hm3 : m = 2
      · subst hm3
        clear hm hm2
        cases hl : DM.leap y
        · have hd : DM.dim y 2 = 28 := by unfold DM.dim; rw [hl]; rfl
          rw [hd]; clear hd
          go_enter Tryd.func91, Tryd.ntmps91
          go_wp2_with (go_at_call 106; refine (leap_any _ _).mono ?_; rintro e w' ⟨rfl, rfl⟩)
          go_ret
          exact ⟨rfl, rfl⟩
        · have hd : DM.dim y 2 = 29 := by unfold DM.dim; rw [hl]; rfl
          rw [hd]; clear hd
          go_enter Tryd.func91, Tryd.ntmps91
          go_wp2_with (go_at_call 106; refine (leap_any _ _).mono ?_; rintro e w' ⟨rfl, rfl⟩)
          go_ret
          exact ⟨rfl, rfl⟩
      · have hd : DM.dim y m = 0 := by unfold DM.dim; rw [if_neg hm, if_neg hm2, if_neg hm3]
        rw [hd]; clear hd
        have e1 := bq (a := m) (b := 1) (by omega)
        have e2 := bq (a := m) (b := 2) (by omega)
        have e3 := bq (a := m) (b := 3) (by omega)
        have e4 := bq (a := m) (b := 4) (by omega)
        have e5 := bq (a := m) (b := 5) (by omega)
        have e6 := bq (a := m) (b := 6) (by omega)
        have e7 := bq (a := m) (b := 7) (by omega)
        have e8 := bq (a := m) (b := 8) (by omega)
        have e9 := bq (a := m) (b := 9) (by omega)
        have e10 := bq (a := m) (b := 10) (by omega)
        have e11 := bq (a := m) (b := 11) (by omega)
        have e12 := bq (a := m) (b := 12) (by omega)
        clear hm hm2 hm3
        go_enter Tryd.func91, Tryd.ntmps91
        go_wp2
        go_ret
        exact ⟨rfl, rfl⟩

theorem rdays_any (y m : Int) (w : World) :
    Calls Tryd.prog 60 #[.int .i64 y, .int .i64 m] w fun e w' => e = .returned (.int .i64 (DM.dim y m)) ∧ w = w' := by
  by_cases hm : m = 1 ∨ m = 3 ∨ m = 5 ∨ m = 7 ∨ m = 8 ∨ m = 10 ∨ m = 12
  · have hd : DM.dim y m = 31 := by unfold DM.dim; rw [if_pos hm]
    rw [hd]; clear hd
    rcases hm with rfl | rfl | rfl | rfl | rfl | rfl | rfl
    all_goals
      go_enter Tryd.func60, Tryd.ntmps60
      go_wp2
      go_ret
      exact ⟨rfl, rfl⟩
  · by_cases hm2 : m = 4 ∨ m = 6 ∨ m = 9 ∨ m = 11
    · have hd : DM.dim y m = 30 := by unfold DM.dim; rw [if_neg hm, if_pos hm2]
      rw [hd]; clear hd hm
      rcases hm2 with rfl | rfl | rfl | rfl
      all_goals
        go_enter Tryd.func60, Tryd.ntmps60
        go_wp2
        go_ret
        exact ⟨rfl, rfl⟩
    · by_cases hm3 : m = 2
      · subst hm3
        clear hm hm2
        cases hl : DM.leap y
        · have hd : DM.dim y 2 = 28 := by unfold DM.dim; rw [hl]; rfl
          rw [hd]; clear hd
          go_enter Tryd.func60, Tryd.ntmps60
          go_wp2_with (go_at_call 61; refine (rleap_any _ _).mono ?_; rintro e w' ⟨rfl, rfl⟩)
          go_ret
          exact ⟨rfl, rfl⟩
        · have hd : DM.dim y 2 = 29 := by unfold DM.dim; rw [hl]; rfl
          rw [hd]; clear hd
          go_enter Tryd.func60, Tryd.ntmps60
          go_wp2_with (go_at_call 61; refine (rleap_any _ _).mono ?_; rintro e w' ⟨rfl, rfl⟩)
          go_ret
          exact ⟨rfl, rfl⟩
      · have hd : DM.dim y m = 0 := by unfold DM.dim; rw [if_neg hm, if_neg hm2, if_neg hm3]
        rw [hd]; clear hd
        have e1 := bq (a := m) (b := 1) (by omega)
        have e2 := bq (a := m) (b := 2) (by omega)
        have e3 := bq (a := m) (b := 3) (by omega)
        have e4 := bq (a := m) (b := 4) (by omega)
        have e5 := bq (a := m) (b := 5) (by omega)
        have e6 := bq (a := m) (b := 6) (by omega)
        have e7 := bq (a := m) (b := 7) (by omega)
        have e8 := bq (a := m) (b := 8) (by omega)
        have e9 := bq (a := m) (b := 9) (by omega)
        have e10 := bq (a := m) (b := 10) (by omega)
        have e11 := bq (a := m) (b := 11) (by omega)
        have e12 := bq (a := m) (b := 12) (by omega)
        clear hm hm2 hm3
        go_enter Tryd.func60, Tryd.ntmps60
        go_wp2
        go_ret
        exact ⟨rfl, rfl⟩

theorem isDayD_any (d : Int) (w : World) :
    Calls Tryd.prog 89 #[.int .i64 d] w fun e w' => e = .returned (.bool (DM.isd d)) ∧ w = w' := by
  by_cases h1 : 0 ≤ d
  · by_cases h2 : d ≤ 73048
    · rw [DM.isd_true h1 h2]
      go_enter Tryd.func89, Tryd.ntmps89
      go_wp2
      go_ret
      exact ⟨rfl, rfl⟩
    · rw [DM.isd_false (by omega)]
      go_enter Tryd.func89, Tryd.ntmps89
      go_wp2
      go_ret
      exact ⟨rfl, rfl⟩
  · rw [DM.isd_false (by omega)]
    go_enter Tryd.func89, Tryd.ntmps89
    go_wp2
    go_ret
    exact ⟨rfl, rfl⟩

theorem leapsUntil_any (y : Int) (w : World) (h0 : 0 ≤ y) (h1 : y ≤ 10000) :
    Calls Tryd.prog 105 #[.int .i64 y] w fun e w' => e = .returned (.int .i64 (DM.lu y)) ∧ w = w' := by
  have b1 : 0 ≤ y.tdiv 4 ∧ y.tdiv 4 ≤ 10000 := by rw [DM.tdiv_pos h0]; omega
  have b2 : 0 ≤ y.tdiv 100 ∧ y.tdiv 100 ≤ 10000 := by rw [DM.tdiv_pos h0]; omega
  have b3 : 0 ≤ y.tdiv 400 ∧ y.tdiv 400 ≤ 10000 := by rw [DM.tdiv_pos h0]; omega
  obtain ⟨b1, c1⟩ := b1
  obtain ⟨b2, c2⟩ := b2
  obtain ⟨b3, c3⟩ := b3
  generalize hv : DM.lu y = v
  have HV := Lib.hid hv
  clear hv
  unfold DM.lu at HV
  go_enter Tryd.func105, Tryd.ntmps105
  go_wp2
  go_ret
  exact ⟨by rw [← HV.out]; rfl, rfl⟩

theorem yearStart_any (y : Int) (w : World) (h0 : 2000 ≤ y) (h1 : y ≤ 2200) :
    Calls Tryd.prog 90 #[.int .i64 y] w fun e w' => e = .returned (.int .i64 (DM.before (y - 2000).toNat)) ∧ w = w' := by
  rw [← DM.ys_at h0]
  obtain ⟨a1, a2⟩ := DM.lu_range (y := y - 1) (by omega) (by omega)
  obtain ⟨b1, b2⟩ := DM.lu_range (y := 1999) (by omega) (by omega)
  have C1 := fun ww => leapsUntil_any (y - 1) ww (by omega) (by omega)
  have C2 := fun ww => leapsUntil_any 1999 ww (by omega) (by omega)
  unfold DM.ys
  generalize DM.lu (y - 1) = p at *
  generalize DM.lu 1999 = q at *
  have H1 := Lib.hid C1; have H2 := Lib.hid C2
  clear C1 C2
  generalize hv : (y - 2000) * 365 + p - q = v
  have HV := Lib.hid hv
  clear hv
  go_enter Tryd.func90, Tryd.ntmps90
  go_wp2_with fail
  refine (H1.out _).mono ?_
  rintro e w1 ⟨rfl, rfl⟩
  go_wp2_with fail
  refine (H2.out _).mono ?_
  rintro e w1 ⟨rfl, rfl⟩
  go_wp2
  go_ret
  exact ⟨by rw [← HV.out]; rfl, rfl⟩

end Go.Proofs.YtiohainnpjikpaaDoor

/- Contracts: a date's day, the program's and the reference's. -/
namespace Go.Proofs.YtiohainnpjikpaaDoor
open Go.RowKit
set_option linter.unusedVariables false

theorem ofNo {y m d : Int} (h : ¬ DM.okDate y m d) : DM.ofN y m d = 0 ∧ DM.ofE y m d = 15 := by
  unfold DM.ofN DM.ofE; rw [if_neg h, if_neg h]; exact ⟨rfl, rfl⟩
theorem ofYes {y m d : Int} (h : DM.okDate y m d) : DM.ofN y m d = DM.dayOf y m d ∧ DM.ofE y m d = 0 := by
  unfold DM.ofN DM.ofE; rw [if_pos h, if_pos h]; exact ⟨rfl, rfl⟩
theorem dateNo {y m d : Int} (h : ¬ DM.okDate y m d) : y < 2000 ∨ (2000 ≤ y ∧ 2199 < y) ∨ (2000 ≤ y ∧ y ≤ 2199 ∧ d < 1) ∨ (2000 ≤ y ∧ y ≤ 2199 ∧ 1 ≤ d ∧ DM.dim y m < d) := by
  by_cases a : y < 2000
  · exact .inl a
  · by_cases b : 2199 < y
    · exact .inr (.inl ⟨by omega, b⟩)
    · by_cases c : d < 1
      · exact .inr (.inr (.inl ⟨by omega, by omega, c⟩))
      · by_cases e : DM.dim y m < d
        · exact .inr (.inr (.inr ⟨by omega, by omega, by omega, e⟩))
        · exfalso
          have := DM.month_of (y := y) (m := m) (d := d) (by omega) (by omega)
          exact h ⟨by omega, by omega, this.1, this.2, by omega, by omega⟩

set_option maxHeartbeats 1000000 in
theorem of_any (y m d : Int) (w : World) :
    Calls Tryd.prog 84 #[.int .i64 y, .int .i64 m, .int .i64 d] w fun e w' => e = .returned (.tuple #[.int .i64 (DM.ofN y m d), .int .i64 (DM.ofE y m d)]) ∧ w = w' := by
  by_cases h : DM.okDate y m d
  · rw [(ofYes h).1, (ofYes h).2]
    obtain ⟨p1, p2, p3, p4, p5, p6⟩ := h
    have CY := fun ww => yearStart_any y ww p1 (by omega)
    have hr := DM.before_range (k := (y - 2000).toNat) (by omega)
    have hc := fun j => DM.cum_range y j
    have hs := DM.cum_succ y
    have c0 : DM.cum y 0 = 0 := rfl
    have hdr := DM.dim_range y
    generalize hv : DM.dayOf y m d = v
    unfold DM.dayOf at hv
    generalize DM.before (y - 2000).toNat = B at *
    have CD := fun m ww => days_any y m ww
    generalize DM.cum y = cu at *
    generalize DM.dim y = di at *
    obtain ⟨r1, r2⟩ := hr
    have HCY := Lib.hid CY; have HCD := Lib.hid CD; have HC := Lib.hid hc; have HS := Lib.hid hs; have HV := Lib.hid hv; have HDR := Lib.hid hdr; have HC0 := Lib.hid c0
    have d31 := (hdr m).2
    clear CY CD hc hs hv hdr c0
    go_enter Tryd.func84, Tryd.ntmps84
    go_wp2_with fail
    refine (HCD.out _ _).mono ?_
    rintro e w1 ⟨rfl, rfl⟩
    go_wp2_with fail
    refine (HCY.out _).mono ?_
    rintro e w1 ⟨rfl, rfl⟩
    go_wp2
    go_loop [6, 8] (fun v i => ∃ j : Nat, ∃ x : Int, (j : Int) + 1 ≤ m ∧ i = .int .i64 ((j : Int) + 1) ∧ v = .int .i64 x ∧ 0 ≤ x ∧ x ≤ 73500 ∧ Hid (x = B + cu j)) (fun _ i => (m - intOf i).toNat)
    case atStart => exact ⟨0, B, by omega, rfl, rfl, r1, by omega, Lib.hid (by rw [HC0.out]; omega)⟩
    case round =>
      obtain ⟨j, x, hj, rfl, rfl, x1, x2, HX⟩ := hrel
      by_cases hlt : (j : Int) + 1 < m
      · have g1 := HDR.out ((j : Int) + 1)
        have g2 := HC.out (j + 1) (by omega)
        have g3 := HS.out j
        have HN : Hid (x + di ((j : Int) + 1) = B + cu (j + 1)) := Lib.hid (by rw [HX.out, g3]; omega)
        have b1 : 0 ≤ x + di ((j : Int) + 1) := by omega
        have b2 : x + di ((j : Int) + 1) ≤ 73500 := by rw [HN.out]; omega
        obtain ⟨g11, g12⟩ := g1
        clear g2 g3
        go_wp2_with fail
        refine (HCD.out _ _).mono ?_
        rintro e w1 ⟨rfl, rfl⟩
        go_wp2
        go_round
        case rel => exact ⟨j + 1, _, by omega, by go_num, rfl, b1, b2, HN⟩
        case measure => simp [intOf]; omega
      · have hjm : Hid (j = (m - 1).toNat) := Lib.hid (by omega)
        go_wp2
        go_ret2
        exact ⟨by rw [← HV.out, ← hjm.out, ← HX.out]; rfl, rfl⟩
  · rw [(ofNo h).1, (ofNo h).2]
    rcases dateNo h with h1 | ⟨h1, h2⟩ | ⟨h1, h2, h3⟩ | ⟨h1, h2, h3, h4⟩
    all_goals
      clear h
      go_enter Tryd.func84, Tryd.ntmps84
      go_wp2_with (go_at_call 91; refine (days_any _ _ _).mono ?_; rintro e w' ⟨rfl, rfl⟩)
      go_ret2
      exact ⟨rfl, rfl⟩

set_option maxHeartbeats 1000000 in
theorem rof_any (y m d : Int) (w : World) :
    Calls Tryd.prog 35 #[.int .i64 y, .int .i64 m, .int .i64 d] w fun e w' => e = .returned (.tuple #[.int .i64 (DM.ofN y m d), .int .i64 (DM.ofE y m d)]) ∧ w = w' := by
  by_cases h : DM.okDate y m d
  · rw [(ofYes h).1, (ofYes h).2]
    obtain ⟨p1, p2, p3, p4, p5, p6⟩ := h
    have hr := fun k => @DM.before_range k
    have hbs := DM.before_succ
    have b0 : DM.before 0 = 0 := rfl
    have hc := fun j => DM.cum_range y j
    have hs := DM.cum_succ y
    have c0 : DM.cum y 0 = 0 := rfl
    have hdr := DM.dim_range y
    generalize hv : DM.dayOf y m d = v
    unfold DM.dayOf at hv
    generalize DM.before = be at *
    have CD := fun m ww => rdays_any y m ww
    generalize DM.cum y = cu at *
    generalize DM.dim y = di at *
    have HBS := Lib.hid hbs; have HCD := Lib.hid CD; have HC := Lib.hid hc; have HS := Lib.hid hs; have HV := Lib.hid hv; have HDR := Lib.hid hdr; have HC0 := Lib.hid c0; have HB0 := Lib.hid b0; have HR := Lib.hid hr
    have d31 := (hdr m).2
    clear hbs CD hc hs hv hdr c0 b0 hr
    go_enter Tryd.func35, Tryd.ntmps35
    go_wp2_with fail
    refine (HCD.out _ _).mono ?_
    rintro e w1 ⟨rfl, rfl⟩
    go_wp2
    go_loop [8, 9] (fun v i => ∃ j : Nat, ∃ x : Int, (j : Int) + 1 ≤ m ∧ i = .int .i64 ((j : Int) + 1) ∧ v = .int .i64 x ∧ 0 ≤ x ∧ x ≤ 500 ∧ Hid (x = d - 1 + cu j)) (fun _ i => (m - intOf i).toNat)
    case atStart => exact ⟨0, d - 1, by omega, rfl, rfl, by omega, by omega, Lib.hid (by rw [HC0.out]; omega)⟩
    case round =>
      obtain ⟨j, x, hj, rfl, rfl, x1, x2, HX⟩ := hrel
      by_cases hlt : (j : Int) + 1 < m
      · have g1 := HDR.out ((j : Int) + 1)
        have g2 := HC.out (j + 1) (by omega)
        have g3 := HS.out j
        have HN : Hid (x + di ((j : Int) + 1) = d - 1 + cu (j + 1)) := Lib.hid (by rw [HX.out, g3]; omega)
        have b1 : 0 ≤ x + di ((j : Int) + 1) := by omega
        have b2 : x + di ((j : Int) + 1) ≤ 500 := by rw [HN.out]; omega
        obtain ⟨g11, g12⟩ := g1
        clear g2 g3
        go_wp2_with fail
        refine (HCD.out _ _).mono ?_
        rintro e w1 ⟨rfl, rfl⟩
        go_wp2
        go_round
        case rel => exact ⟨j + 1, _, by omega, by go_num, rfl, b1, b2, HN⟩
        case measure => simp [intOf]; omega
      · have hjm : Hid (j = (m - 1).toNat) := Lib.hid (by omega)
        go_wp2
        go_loop [8, 10] (fun v i => ∃ k : Nat, ∃ z : Int, (k : Int) + 2000 ≤ y ∧ i = .int .i64 ((k : Int) + 2000) ∧ v = .int .i64 z ∧ 0 ≤ z ∧ z ≤ 80000 ∧ Hid (z = x + be k)) (fun _ i => (y - intOf i).toNat)
        case atStart => exact ⟨0, x, by omega, rfl, rfl, x1, by omega, Lib.hid (by rw [HB0.out]; omega)⟩
        case round =>
          obtain ⟨k, z, hk, rfl, rfl, z1, z2, HZ⟩ := hrel
          by_cases hlt2 : (k : Int) + 2000 < y
          · have g1 := DM.ylen_range (2000 + (k : Int))
            have g2 := HR.out (k + 1) (by omega)
            have g3 := HBS.out k
            rw [show (2000 : Int) + k = k + 2000 by omega] at g3 g1
            cases hl : DM.leap ((k : Int) + 2000)
            · have hy : DM.ylen ((k : Int) + 2000) = 365 := by unfold DM.ylen; rw [hl]; rfl
              rw [hy] at g3
              have HN : Hid (z + 365 = x + be (k + 1)) := Lib.hid (by rw [HZ.out, g3]; omega)
              have b2 : z + 365 ≤ 80000 := by rw [HN.out]; omega
              clear g1 g2 g3 hy
              go_wp2_with (go_at_call 61; refine (rleap_any _ _).mono ?_; rintro e w' ⟨rfl, rfl⟩)
              go_round
              case rel => exact ⟨k + 1, _, by omega, by go_num, rfl, by omega, b2, HN⟩
              case measure => simp [intOf]; omega
            · have hy : DM.ylen ((k : Int) + 2000) = 366 := by unfold DM.ylen; rw [hl]; rfl
              rw [hy] at g3
              have HN : Hid (z + 365 + 1 = x + be (k + 1)) := Lib.hid (by rw [HZ.out, g3]; omega)
              have b2 : z + 365 + 1 ≤ 80000 := by rw [HN.out]; omega
              clear g1 g2 g3 hy
              go_wp2_with (go_at_call 61; refine (rleap_any _ _).mono ?_; rintro e w' ⟨rfl, rfl⟩)
              go_round
              case rel => exact ⟨k + 1, _, by omega, by go_num, rfl, by omega, b2, HN⟩
              case measure => simp [intOf]; omega
          · have hky : Hid (k = (y - 2000).toNat) := Lib.hid (by omega)
            have HQ : Hid (v = z) := Lib.hid (by rw [← HV.out, ← hjm.out, ← hky.out, HZ.out, HX.out]; omega)
            go_wp2
            go_ret2
            exact ⟨by rw [HQ.out]; rfl, rfl⟩
  · rw [(ofNo h).1, (ofNo h).2]
    rcases dateNo h with h1 | ⟨h1, h2⟩ | ⟨h1, h2, h3⟩ | ⟨h1, h2, h3, h4⟩
    all_goals
      clear h
      go_enter Tryd.func35, Tryd.ntmps35
      go_wp2_with (go_at_call 60; refine (rdays_any _ _ _).mono ?_; rintro e w' ⟨rfl, rfl⟩)
      go_ret2
      exact ⟨rfl, rfl⟩
end Go.Proofs.YtiohainnpjikpaaDoor
