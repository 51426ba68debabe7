/- Put together: MarkMath, MrkA, ProdD. -/
import Derived.Test.YtagmknahmkniaacBun8
import Derived.Test.YtagmknahmkniaacBun7
import Derived.Laws.ResultCell
import Derived.Laws.Rows
/- Layer 18's mathematics: quotes and settlement prices. -/
namespace TP
theorem each_mem {l : List Tick} (hg : Good l) {t : Tick} (ht : t ∈ l) : (0 ≤ t.time ∧ t.time ≤ 86399) ∧ (1 ≤ t.qty ∧ t.qty ≤ 1048576) ∧ (-16777216 ≤ t.price ∧ t.price ≤ 16777216) := by
  obtain ⟨k, hk, rfl⟩ := List.getElem_of_mem ht
  rw [← tAt_get hk]; exact hg.each k hk
theorem rises {l : List Tick} (hg : Good l) : ∀ d i, i + d < l.length → (tAt l i).time ≤ (tAt l (i + d)).time := by
  intro d
  induction d with
  | zero => intro i _; exact Int.le_refl _
  | succ d ih =>
    intro i h
    have h1 := ih i (by omega)
    have h2 := hg.rise (i + d) (by omega)
    rw [show i + (d + 1) = i + d + 1 by omega]
    omega
theorem pairs {l : List Tick} (hg : Good l) : l.Pairwise (fun x y => x.time ≤ y.time) := by
  rw [List.pairwise_iff_getElem]
  intro i j hi hj hij
  have := rises hg (j - i) i (by omega)
  rw [show i + (j - i) = j by omega, tAt_get hi, tAt_get hj] at this
  exact this
theorem good_win {l : List Tick} (hg : Good l) (a b : Int) : Good (win l a b) := by
  refine ⟨?_, fun k hk => ?_, fun k hk => ?_⟩
  · have := winU_len l a b l.length (Nat.le_refl _)
    rw [winU_all] at this
    have := hg.len
    omega
  · rw [tAt_get hk]
    exact each_mem hg (win_mem.1 (List.getElem_mem hk)).1
  · have h := (pairs hg).filter (fun t => QM.within t.time a b)
    rw [List.pairwise_iff_getElem] at h
    rw [tAt_get hk, tAt_get (show k < (win l a b).length by omega)]
    exact h k (k + 1) (by show k < (win l a b).length; omega) hk (by omega)
end TP
namespace MK
open QM (Prod within within_true within_false priceE checkE)
set_option linter.unusedVariables false
structure Quote where
  ticks : List TP.Tick
  from_ : Int
  to_ : Int
  least : Int
  bid : Int
  ask : Int
  before : Int
  move : Int
def isP (n : Int) : Bool := within n (-16777216) 16777216
theorem isP_true {n : Int} : isP n = true ↔ -16777216 ≤ n ∧ n ≤ 16777216 := within_true
def midB (b a : Int) : Bool := !isP b || (!isP a || decide (a < b))
def midE (b a t : Int) : Int := if within t 1 16777216 = false then 16 else if midB b a = true then 17 else 0
def midK (b a t : Int) : Int := CM.mdN (b + a) 1 (2 * t) 5
def midN (b a t : Int) : Int := if midE b a t = 0 then midK b a t * t else 0
theorem midB_false {b a : Int} : midB b a = false ↔ (-16777216 ≤ b ∧ b ≤ 16777216) ∧ (-16777216 ≤ a ∧ a ≤ 16777216) ∧ b ≤ a := by
  unfold midB
  rw [← isP_true, ← isP_true]
  cases isP b <;> cases isP a <;> simp
theorem mid_tick {b a t : Int} (h : within t 1 16777216 = false) : midE b a t = 16 ∧ midN b a t = 0 := by
  have e : midE b a t = 16 := by unfold midE; rw [if_pos h]
  exact ⟨e, by unfold midN; rw [e]; rfl⟩
theorem mid_price {b a t : Int} (h : within t 1 16777216 = true) (h2 : midB b a = true) : midE b a t = 17 ∧ midN b a t = 0 := by
  have e : midE b a t = 17 := by unfold midE; rw [if_neg (by simp [h]), if_pos h2]
  exact ⟨e, by unfold midN; rw [e]; rfl⟩
theorem mid_ok {b a t : Int} (h : within t 1 16777216 = true) (h2 : midB b a = false) : midE b a t = 0 ∧ midN b a t = midK b a t * t := by
  have e : midE b a t = 0 := by unfold midE; rw [if_neg (by simp [h]), if_neg (by simp [h2])]
  exact ⟨e, by unfold midN; rw [if_pos e]⟩
theorem mid_zero {b a t : Int} (h : midE b a t = 0) : (1 ≤ t ∧ t ≤ 16777216) ∧ (-16777216 ≤ b ∧ b ≤ 16777216) ∧ (-16777216 ≤ a ∧ a ≤ 16777216) ∧ b ≤ a := by
  cases h1 : within t 1 16777216
  · rw [(mid_tick h1).1] at h; cases h
  · cases h2 : midB b a
    · exact ⟨within_true.1 h1, midB_false.1 h2⟩
    · rw [(mid_price h1 h2).1] at h; cases h
theorem mid_bounds {b a t : Int} (ht : 1 ≤ t ∧ t ≤ 16777216) (hb : -16777216 ≤ b ∧ b ≤ 16777216) (ha : -16777216 ≤ a ∧ a ≤ 16777216) :
    CM.mdE (b + a) 1 (2 * t) 5 = 0 ∧ (-33554432 ≤ midK b a t ∧ midK b a t ≤ 33554432) ∧ (-33554432 ≤ midK b a t * t ∧ midK b a t * t ≤ 33554432) := by
  have d1 := Int.mul_ediv_add_emod 16777216 t
  have d2 := Int.emod_nonneg 16777216 (show t ≠ 0 by omega)
  have d3 := Int.emod_lt_of_pos 16777216 (show 0 < t by omega)
  obtain ⟨y, hy⟩ : ∃ y : Int, y = 16777216 / t + 1 := ⟨_, rfl⟩
  have ys : y * t = t * (16777216 / t) + t := by rw [hy, Int.add_mul, Int.one_mul, Int.mul_comm]
  have y1 : 16777216 ≤ y * t ∧ y * t ≤ 33554432 := by omega
  have e : y * (2 * t) = 2 * (y * t) := by rw [Int.mul_left_comm]
  have e2 : -y * (2 * t) = -(2 * (y * t)) := by rw [Int.neg_mul, e]
  have hK := TP.md_between (a := b + a) (c := 2 * t) (x := -y) (y := y) (mode := 5) ⟨by omega, by omega⟩ (by omega) (by omega) (by rw [e2]; omega) (by rw [e]; omega) (by rw [e2]; omega) (by rw [e]; omega)
  have hk : -y ≤ midK b a t ∧ midK b a t ≤ y := hK.2
  have p1 : midK b a t * t ≤ y * t := Int.mul_le_mul_of_nonneg_right hk.2 (by omega)
  have p2 : (-y) * t ≤ midK b a t * t := Int.mul_le_mul_of_nonneg_right hk.1 (by omega)
  rw [Int.neg_mul] at p2
  have y0 : 0 ≤ y := by have := Int.ediv_nonneg (show (0 : Int) ≤ 16777216 by omega) (show 0 ≤ t by omega); omega
  have y2 : y ≤ 33554432 := by
    have : y * 1 ≤ y * t := Int.mul_le_mul_of_nonneg_left ht.1 y0
    omega
  exact ⟨hK.1, by omega, by omega⟩
theorem mult_of {x t : Int} (h : x.tmod t = 0) : ∃ q, x = q * t := by
  obtain ⟨q, hq⟩ := Int.dvd_of_tmod_eq_zero h
  exact ⟨q, by rw [hq, Int.mul_comm]⟩
theorem mid_between {b a t : Int} (h : midE b a t = 0) (hb : b.tmod t = 0) (ha : a.tmod t = 0) : b ≤ midN b a t ∧ midN b a t ≤ a := by
  obtain ⟨ht, b1, a1, hle⟩ := mid_zero h
  obtain ⟨x, hx⟩ := mult_of hb
  obtain ⟨y, hy⟩ := mult_of ha
  have e : midN b a t = midK b a t * t := by unfold midN; rw [if_pos h]
  have ex : x * (2 * t) = 2 * b := by rw [Int.mul_left_comm, ← hx]
  have ey : y * (2 * t) = 2 * a := by rw [Int.mul_left_comm, ← hy]
  have hK := TP.md_between (a := b + a) (c := 2 * t) (x := x) (y := y) (mode := 5) ⟨by omega, by omega⟩ (by omega) (by omega) (by rw [ex]; omega) (by rw [ey]; omega) (by rw [ex]; omega) (by rw [ey]; omega)
  have hk : x ≤ midK b a t ∧ midK b a t ≤ y := hK.2
  rw [e]
  constructor
  · have := Int.mul_le_mul_of_nonneg_right hk.1 (show 0 ≤ t by omega)
    rw [← hx] at this; exact this
  · have := Int.mul_le_mul_of_nonneg_right hk.2 (show 0 ≤ t by omega)
    rw [← hy] at this; exact this

/-- prices, one after the other -/
def firstE (p : Prod) : List Int → Int
  | [] => 0
  | x :: l => if priceE p x ≠ 0 then priceE p x else firstE p l
theorem first_all {p : Prod} {l : List Int} : firstE p l = 0 ↔ ∀ x ∈ l, priceE p x = 0 := by
  induction l with
  | nil => simp [firstE]
  | cons x l ih =>
    rw [firstE]
    by_cases h : priceE p x = 0
    · rw [if_neg (by simp [h]), ih]; simp [h]
    · rw [if_pos h]; simp [h]
def xAt (l : List Int) (k : Nat) : Int := l.getD k 0
theorem xAt_get {l : List Int} {k : Nat} (h : k < l.length) : xAt l k = l[k] := by simp [xAt, List.getD, h]
theorem first_stop {p : Prod} {l : List Int} : ∀ {k : Nat}, k < l.length → firstE p (l.take k) = 0 → priceE p (xAt l k) ≠ 0 → firstE p l = priceE p (xAt l k) := by
  induction l with
  | nil => intro k hk; simp at hk
  | cons x l ih =>
    intro k hk h1 h2
    cases k with
    | zero => rw [firstE, if_pos (by simpa [xAt] using h2)]; rfl
    | succ k =>
      rw [List.take_succ_cons, firstE] at h1
      by_cases h : priceE p x = 0
      · rw [if_neg (by simp [h])] at h1
        rw [firstE, if_neg (by simp [h])]
        exact ih (by simpa using hk) h1 h2
      · rw [if_pos h] at h1; exact absurd h1 h
theorem first_step {p : Prod} {l : List Int} {k : Nat} (hk : k < l.length) (h1 : firstE p (l.take k) = 0) (h2 : priceE p (xAt l k) = 0) : firstE p (l.take (k + 1)) = 0 := by
  rw [first_all] at h1 ⊢
  intro x hx
  rw [List.take_add_one, List.getElem?_eq_getElem hk] at hx
  rcases List.mem_append.1 hx with hx | hx
  · exact h1 x hx
  · simp at hx; rw [hx, ← xAt_get hk]; exact h2
def side (x : Int) : List Int := if x = 0 then [] else [x]
def prices (q : Quote) : List Int := q.ticks.map (·.price) ++ (side q.bid ++ side q.ask) ++ [q.before]
def both (q : Quote) : Bool := (q.bid != 0) && (q.ask != 0)
theorem both_true {q : Quote} : both q = true ↔ q.bid ≠ 0 ∧ q.ask ≠ 0 := by simp [both]
def timeB (q : Quote) : Bool := within q.from_ 0 86399 && within q.to_ q.from_ 86399
def lastB (q : Quote) : Bool := (both q && decide (q.ask < q.bid)) || !isP q.move
def qE (p : Prod) (q : Quote) : Int :=
  if checkE p ≠ 0 then checkE p else if TP.allE q.ticks ≠ 0 then TP.allE q.ticks else if timeB q = false then 2 else if within q.least 1 1048576 = false then 18 else
  if firstE p (prices q) ≠ 0 then firstE p (prices q) else if lastB q = true then 17 else 0
section
variable {p : Prod} {q : Quote}
theorem q_prod (h : checkE p ≠ 0) : qE p q = checkE p := by unfold qE; rw [if_pos h]
theorem q_tape (h : checkE p = 0) (h2 : TP.allE q.ticks ≠ 0) : qE p q = TP.allE q.ticks := by unfold qE; rw [if_neg (by simp [h]), if_pos h2]
theorem q_time (h : checkE p = 0) (h2 : TP.allE q.ticks = 0) (h3 : timeB q = false) : qE p q = 2 := by unfold qE; rw [if_neg (by simp [h]), if_neg (by simp [h2]), if_pos h3]
theorem q_least (h : checkE p = 0) (h2 : TP.allE q.ticks = 0) (h3 : timeB q = true) (h4 : within q.least 1 1048576 = false) : qE p q = 18 := by
  unfold qE; rw [if_neg (by simp [h]), if_neg (by simp [h2]), if_neg (by simp [h3]), if_pos h4]
theorem q_first (h : checkE p = 0) (h2 : TP.allE q.ticks = 0) (h3 : timeB q = true) (h4 : within q.least 1 1048576 = true) (h5 : firstE p (prices q) ≠ 0) : qE p q = firstE p (prices q) := by
  unfold qE; rw [if_neg (by simp [h]), if_neg (by simp [h2]), if_neg (by simp [h3]), if_neg (by simp [h4]), if_pos h5]
theorem q_last (h : checkE p = 0) (h2 : TP.allE q.ticks = 0) (h3 : timeB q = true) (h4 : within q.least 1 1048576 = true) (h5 : firstE p (prices q) = 0) (h6 : lastB q = true) : qE p q = 17 := by
  unfold qE; rw [if_neg (by simp [h]), if_neg (by simp [h2]), if_neg (by simp [h3]), if_neg (by simp [h4]), if_neg (by simp [h5]), if_pos h6]
theorem q_ok (h : checkE p = 0) (h2 : TP.allE q.ticks = 0) (h3 : timeB q = true) (h4 : within q.least 1 1048576 = true) (h5 : firstE p (prices q) = 0) (h6 : lastB q = false) : qE p q = 0 := by
  unfold qE; rw [if_neg (by simp [h]), if_neg (by simp [h2]), if_neg (by simp [h3]), if_neg (by simp [h4]), if_neg (by simp [h5]), if_neg (by simp [h6])]
end
/-- what a quote that was checked is -/
structure Ok (p : Prod) (q : Quote) : Prop where
  prod : checkE p = 0
  tape : TP.allE q.ticks = 0
  time : (0 ≤ q.from_ ∧ q.from_ ≤ 86399) ∧ (q.from_ ≤ q.to_ ∧ q.to_ ≤ 86399)
  least : 1 ≤ q.least ∧ q.least ≤ 1048576
  ticks : ∀ t ∈ q.ticks, priceE p t.price = 0
  bid : q.bid ≠ 0 → priceE p q.bid = 0
  ask : q.ask ≠ 0 → priceE p q.ask = 0
  before : priceE p q.before = 0
  cross : q.bid ≠ 0 → q.ask ≠ 0 → q.bid ≤ q.ask
  move : -16777216 ≤ q.move ∧ q.move ≤ 16777216
theorem ok_of {p : Prod} {q : Quote} (h : qE p q = 0) : Ok p q := by
  by_cases h1 : checkE p = 0
  · by_cases h2 : TP.allE q.ticks = 0
    · cases h3 : timeB q
      · rw [q_time h1 h2 h3] at h; cases h
      · cases h4 : within q.least 1 1048576
        · rw [q_least h1 h2 h3 h4] at h; cases h
        · by_cases h5 : firstE p (prices q) = 0
          · cases h6 : lastB q
            · unfold timeB at h3
              rw [Bool.and_eq_true, within_true, within_true] at h3
              unfold lastB at h6
              rw [Bool.or_eq_false_iff] at h6
              rw [first_all] at h5
              refine ⟨h1, h2, h3, within_true.1 h4, fun t ht => h5 _ ?_, fun hb => h5 _ ?_, fun ha => h5 _ ?_, h5 _ ?_, fun hb ha => ?_, ?_⟩
              · unfold prices; simp only [List.mem_append, List.mem_map]; exact .inl (.inl ⟨t, ht, rfl⟩)
              · unfold prices side; rw [if_neg hb]; simp
              · unfold prices side; rw [if_neg ha]; simp
              · unfold prices; simp
              · have := h6.1
                rw [both_true.2 ⟨hb, ha⟩, Bool.true_and, decide_eq_false_iff_not] at this
                omega
              · have := h6.2
                rw [Bool.not_eq_false'] at this
                exact isP_true.1 this
            · rw [q_last h1 h2 h3 h4 h5 h6] at h; cases h
          · rw [q_first h1 h2 h3 h4 h5] at h; exact absurd h h5
    · rw [q_tape h1 h2] at h; exact absurd h h2
  · rw [q_prod h1] at h; exact absurd h h1
/-- the rules -/
def winQ (q : Quote) : List TP.Tick := TP.win q.ticks q.from_ q.to_
def up (x : Int) (q : Quote) : Int := if q.bid = 0 then x else if x < q.bid then q.bid else x
def held (x : Int) (q : Quote) : Int := if q.ask = 0 then up x q else if q.ask < up x q then q.ask else up x q
def moved (q : Quote) : Int := CM.clamp (q.before + q.move) (-16777216) 16777216
def ruleN (q : Quote) : Int := if q.least ≤ TP.volN (winQ q) then 1 else if both q = true then 2 else if 0 < q.ticks.length then 3 else 4
def rawN (p : Prod) (q : Quote) : Int :=
  if q.least ≤ TP.volN (winQ q) then TP.vwN (winQ q) p.tick 5 else if both q = true then midN q.bid q.ask p.tick else if 0 < q.ticks.length then held (TP.lastT q.ticks).price q else QM.roundN p (moved q) 5
def priceN (p : Prod) (q : Quote) : Int := if qE p q = 0 then CM.clamp (rawN p q) p.low p.high else 0
def ruleR (p : Prod) (q : Quote) : Int := if qE p q = 0 then ruleN q else 0
theorem win_ok {p : Prod} {q : Quote} (h : Ok p q) : TP.allE (winQ q) = 0 := TP.of_good (TP.good_win (TP.good h.tape) _ _)
theorem win_vw {p : Prod} {q : Quote} (h : Ok p q) (hr : q.least ≤ TP.volN (winQ q)) : TP.vwE (winQ q) p.tick 5 = 0 ∧ 0 < (winQ q).length := by
  have ht := (QM.check_parts h.prod).2.2.2.1
  have hw := win_ok h
  have h0 : 0 < (winQ q).length := by
    rcases Nat.eq_zero_or_pos (winQ q).length with g | g
    · have e : winQ q = [] := List.eq_nil_of_length_eq_zero g
      unfold TP.volN at hr
      rw [if_pos hw, e] at hr
      simp [TP.vol] at hr
      have := h.least.1
      omega
    · exact g
  exact ⟨(TP.vw_ok hw (within_true.2 ht) (within_true.2 (by omega)) h0).1, h0⟩
theorem price_in {p : Prod} {x : Int} (h : priceE p x = 0) : -16777216 ≤ x ∧ x ≤ 16777216 := by
  obtain ⟨hc, ⟨h1, h2⟩, _⟩ := QM.price_zero.1 h
  obtain ⟨_, _, _, _, ⟨l1, l2, l3⟩, _, _⟩ := QM.check_parts hc
  omega
theorem mid_fine {p : Prod} {q : Quote} (h : Ok p q) (hb : both q = true) : midE q.bid q.ask p.tick = 0 := by
  obtain ⟨b0, a0⟩ := both_true.1 hb
  have ht := (QM.check_parts h.prod).2.2.2.1
  exact (mid_ok (within_true.2 ht) (midB_false.2 ⟨price_in (h.bid b0), price_in (h.ask a0), h.cross b0 a0⟩)).1
theorem moved_in (q : Quote) : -16777216 ≤ moved q ∧ moved q ≤ 16777216 := by
  unfold moved CM.clamp
  split
  · omega
  · split <;> omega
theorem round_fine {p : Prod} {q : Quote} (h : Ok p q) : QM.roundE p (moved q) 5 = 0 := QM.round_zero.2 ⟨h.prod, moved_in q, by omega⟩
theorem held_price {p : Prod} {q : Quote} (h : Ok p q) {x : Int} (hx : priceE p x = 0) : priceE p (held x q) = 0 := by
  have hu : priceE p (up x q) = 0 := by
    unfold up
    split
    · exact hx
    · rename_i hb
      split
      · exact h.bid hb
      · exact hx
  unfold held
  split
  · exact hu
  · rename_i ha
    split
    · exact h.ask ha
    · exact hu
theorem last_mem {l : List TP.Tick} (h : 0 < l.length) : TP.lastT l ∈ l := by
  unfold TP.lastT
  rw [if_neg (by omega), TP.tAt_get (by omega)]
  exact List.getElem_mem _
theorem raw_mult {p : Prod} {q : Quote} (h : Ok p q) : (rawN p q).tmod p.tick = 0 := by
  unfold rawN
  split
  · rename_i hr
    unfold TP.vwN
    rw [if_pos (win_vw h hr).1]
    exact Int.mul_tmod_left _ _
  · split
    · rename_i hb
      unfold midN
      rw [if_pos (mid_fine h hb)]
      exact Int.mul_tmod_left _ _
    · split
      · rename_i h0
        exact (QM.price_zero.1 (held_price h (h.ticks _ (last_mem h0)))).2.2
      · exact (QM.price_zero.1 (QM.round_ok (round_fine h))).2.2
/-- what is told may be a price -/
theorem holds {p : Prod} {q : Quote} (h : qE p q = 0) : priceE p (priceN p q) = 0 ∧ (1 ≤ ruleR p q ∧ ruleR p q ≤ 4) := by
  have ho := ok_of h
  obtain ⟨_, _, _, _, ⟨_, hl, _⟩, m1, m2⟩ := QM.check_parts ho.prod
  constructor
  · unfold priceN
    rw [if_pos h, QM.price_zero]
    obtain ⟨a, b, c⟩ := QM.clamp_mult (n := rawN p q) hl (raw_mult ho) m1 m2
    exact ⟨ho.prod, ⟨b, c⟩, a⟩
  · unfold ruleR ruleN
    rw [if_pos h]
    split
    · omega
    · split
      · omega
      · split <;> omega
theorem clamp_in {n a b : Int} (h1 : a ≤ n) (h2 : n ≤ b) : CM.clamp n a b = n := by
  unfold CM.clamp
  rw [if_neg (by omega), if_neg (by omega)]
/-- rule 2: between both -/
theorem rule2 {p : Prod} {q : Quote} (h : qE p q = 0) (hr : ruleR p q = 2) : q.bid ≤ priceN p q ∧ priceN p q ≤ q.ask := by
  have ho := ok_of h
  unfold ruleR ruleN at hr
  rw [if_pos h] at hr
  split at hr
  · cases hr
  · rename_i h1
    split at hr
    · rename_i h2
      have e : rawN p q = midN q.bid q.ask p.tick := by unfold rawN; rw [if_neg h1, if_pos h2]
      obtain ⟨b0, a0⟩ := both_true.1 h2
      have pb := QM.price_zero.1 (ho.bid b0)
      have pa := QM.price_zero.1 (ho.ask a0)
      have hm := mid_between (mid_fine ho h2) pb.2.2 pa.2.2
      unfold priceN
      rw [if_pos h, e, clamp_in (by omega) (by omega)]
      exact hm
    · split at hr <;> cases hr
/-- the lowest and the highest price of the window, from the product's highest and lowest one on -/
def loU (p : Prod) (q : Quote) : Nat → Int
  | 0 => p.high
  | k + 1 => if within (TP.tAt q.ticks k).time q.from_ q.to_ = true then (if (TP.tAt q.ticks k).price < loU p q k then (TP.tAt q.ticks k).price else loU p q k) else loU p q k
def hiU (p : Prod) (q : Quote) : Nat → Int
  | 0 => p.low
  | k + 1 => if within (TP.tAt q.ticks k).time q.from_ q.to_ = true then (if hiU p q k < (TP.tAt q.ticks k).price then (TP.tAt q.ticks k).price else hiU p q k) else hiU p q k
theorem lo_price {p : Prod} {q : Quote} (h : Ok p q) : ∀ k, k ≤ q.ticks.length → priceE p (loU p q k) = 0 ∧ priceE p (hiU p q k) = 0 := by
  obtain ⟨_, _, _, _, ⟨_, hl, _⟩, m1, m2⟩ := QM.check_parts h.prod
  intro k
  induction k with
  | zero => intro _; exact ⟨QM.price_zero.2 ⟨h.prod, ⟨hl, Int.le_refl _⟩, m2⟩, QM.price_zero.2 ⟨h.prod, ⟨Int.le_refl _, hl⟩, m1⟩⟩
  | succ k ih =>
    intro hk
    obtain ⟨i1, i2⟩ := ih (by omega)
    have ht : priceE p (TP.tAt q.ticks k).price = 0 := h.ticks _ (by rw [TP.tAt_get (by omega)]; exact List.getElem_mem _)
    rw [loU, hiU]
    split
    · constructor
      · split <;> assumption
      · split <;> assumption
    · exact ⟨i1, i2⟩
theorem lo_le {p : Prod} {q : Quote} : ∀ k j, j < k → within (TP.tAt q.ticks j).time q.from_ q.to_ = true → loU p q k ≤ (TP.tAt q.ticks j).price ∧ (TP.tAt q.ticks j).price ≤ hiU p q k := by
  intro k
  induction k with
  | zero => intro j hj; omega
  | succ k ih =>
    intro j hj hw
    rw [loU, hiU]
    rcases Nat.lt_or_ge j k with g | g
    · have := ih j g hw
      split
      · constructor
        · split <;> omega
        · split <;> omega
      · exact this
    · obtain rfl : j = k := by omega
      rw [if_pos hw, if_pos hw]
      constructor
      · split <;> omega
      · split <;> omega
/-- rule 1: among the window's -/
theorem rule1 {p : Prod} {q : Quote} (h : qE p q = 0) (hr : ruleR p q = 1) : loU p q q.ticks.length ≤ priceN p q ∧ priceN p q ≤ hiU p q q.ticks.length := by
  have ho := ok_of h
  unfold ruleR ruleN at hr
  rw [if_pos h] at hr
  split at hr
  · rename_i h1
    obtain ⟨hv, h0⟩ := win_vw ho h1
    have ht := (QM.check_parts ho.prod).2.2.2.1
    obtain ⟨pl, ph⟩ := lo_price ho q.ticks.length (Nat.le_refl _)
    obtain ⟨_, l1, l2⟩ := QM.price_zero.1 pl
    obtain ⟨_, h1', h2'⟩ := QM.price_zero.1 ph
    obtain ⟨x, hx⟩ := mult_of l2
    obtain ⟨y, hy⟩ := mult_of h2'
    have bl := price_in pl
    have bh := price_in ph
    have hw := TP.vw_within (l := winQ q) (step := p.tick) (mode := 5) (x := x) (y := y) (TP.good_win (TP.good ho.tape) _ _) ht (by omega) (by omega) h0 (fun k hk => by
      have hm := List.getElem_mem hk
      rw [← TP.tAt_get hk] at hm
      obtain ⟨m1, m2⟩ := TP.win_mem.1 hm
      obtain ⟨j, hj, ej⟩ := List.getElem_of_mem m1
      rw [← TP.tAt_get hj] at ej
      rw [← ej, ← hx, ← hy]
      rw [← ej] at m2
      exact lo_le _ j hj (within_true.2 m2)) (by rw [← hx]; exact bl) (by rw [← hy]; exact bh)
    rw [← hx, ← hy] at hw
    have e : rawN p q = TP.vwK (winQ q) p.tick 5 * p.tick := by unfold rawN; rw [if_pos h1]; unfold TP.vwN; rw [if_pos hv]
    unfold priceN
    rw [if_pos h, e, clamp_in (by omega) (by omega)]
    exact hw
  · split at hr
    · cases hr
    · split at hr <;> cases hr
end MK

/- Contracts of layer 18: within, isPrice, hasBoth, Mid, held, moved, hasLots; the last tick. -/
namespace Go.Proofs.Ytagmknahmkniaac
open Go.RowKit Go.Recs
set_option linter.unusedVariables false
set_option linter.unusedSimpArgs false
abbrev qC (A : Option Addr) (cap : Nat) (q : MK.Quote) : Array Value := #[.slice A q.ticks.length cap, .int .i64 q.from_, .int .i64 q.to_, .int .i64 q.least, .int .i64 q.bid, .int .i64 q.ask, .int .i64 q.before, .int .i64 q.move]
abbrev qA (A : Option Addr) (cap : Nat) (q : MK.Quote) : Value := .agg #[.slice A q.ticks.length cap, .int .i64 q.from_, .int .i64 q.to_, .int .i64 q.least, .int .i64 q.bid, .int .i64 q.ask, .int .i64 q.before, .int .i64 q.move]
theorem quote_cells {w : World} {g : Nat} {A : Option Addr} {cap : Nat} {q : MK.Quote} (h : CB w g 26 (qC A cap q)) :
    w.cell? ⟨g, 0, none⟩ = some (.slice A q.ticks.length cap) ∧ w.cell? ⟨g, 1, none⟩ = some (.int .i64 q.from_) ∧ w.cell? ⟨g, 2, none⟩ = some (.int .i64 q.to_) ∧ w.cell? ⟨g, 3, none⟩ = some (.int .i64 q.least) ∧
    w.cell? ⟨g, 4, none⟩ = some (.int .i64 q.bid) ∧ w.cell? ⟨g, 5, none⟩ = some (.int .i64 q.ask) ∧ w.cell? ⟨g, 6, none⟩ = some (.int .i64 q.before) ∧ w.cell? ⟨g, 7, none⟩ = some (.int .i64 q.move) :=
  ⟨h.cell 0, h.cell 1, h.cell 2, h.cell 3, h.cell 4, h.cell 5, h.cell 6, h.cell 7⟩
theorem within18_any (n a b : Int) (w : World) :
    Calls Try.prog 38 #[.int .i64 n, .int .i64 a, .int .i64 b] w fun e w' => e = .returned (.bool (QM.within n a b)) ∧ w = w' := by
  by_cases h1 : a ≤ n
  · by_cases h2 : n ≤ b
    · have e : QM.within n a b = true := QM.within_true.2 ⟨h1, h2⟩
      rw [e]; clear e
      go_enter Try.func38, Try.ntmps38
      go_wp2
      go_ret
      exact ⟨rfl, rfl⟩
    · have e : QM.within n a b = false := QM.within_false.2 (.inr (by omega))
      rw [e]; clear e
      go_enter Try.func38, Try.ntmps38
      go_wp2
      go_ret
      exact ⟨rfl, rfl⟩
  · have e : QM.within n a b = false := QM.within_false.2 (.inl (by omega))
    rw [e]; clear e
    go_enter Try.func38, Try.ntmps38
    go_wp2
    go_ret
    exact ⟨rfl, rfl⟩
theorem isprice18_any (n : Int) (w : World) : Calls Try.prog 41 #[.int .i64 n] w fun e w' => e = .returned (.bool (MK.isP n)) ∧ w = w' := by
  have C := Lib.hid (fun ww => within18_any n (-16777216) 16777216 ww)
  have e : QM.within n (-16777216) 16777216 = MK.isP n := rfl
  rw [e] at C
  clear e
  generalize MK.isP n = x at *
  go_enter Try.func41, Try.ntmps41
  go_wp2_with fail
  refine (C.out _).mono ?_
  rintro e w1 ⟨rfl, rfl⟩
  go_wp2_with fail
  go_ret
  exact ⟨rfl, rfl⟩
theorem hasboth_any (A : Option Addr) (cap : Nat) (q : MK.Quote) (w : World) : Calls Try.prog 40 #[qA A cap q] w fun e w' => e = .returned (.bool (MK.both q)) ∧ Below w.heap.size w w' := by
  have HB := Lib.hid (below_al (Below.refl w.heap.size w) (.cells (qC A cap q) 26))
  obtain ⟨c0, c1, c2, c3, c4, c5, c6, c7⟩ := quote_cells (CB.new w 26 (qC A cap q))
  obtain ⟨wa, hwa⟩ : ∃ wa, w.alloc (.cells #[.slice A q.ticks.length cap, .int .i64 q.from_, .int .i64 q.to_, .int .i64 q.least, .int .i64 q.bid, .int .i64 q.ask, .int .i64 q.before, .int .i64 q.move] 26) = wa := ⟨_, rfl⟩
  rw [hwa] at c0 c1 c2 c3 c4 c5 c6 c7
  have HB1 := Lib.hid (hwa ▸ HB.out : Below w.heap.size w wa)
  unfold MK.both
  cases e1 : (q.bid != 0)
  · go_enter Try.func40, Try.ntmps40
    go_wp2_with fail
    go_ret
    exact ⟨rfl, HB1.out⟩
  · cases e2 : (q.ask != 0)
    · go_enter Try.func40, Try.ntmps40
      go_wp2_with fail
      go_ret
      exact ⟨rfl, HB1.out⟩
    · go_enter Try.func40, Try.ntmps40
      go_wp2_with fail
      go_ret
      exact ⟨rfl, HB1.out⟩
theorem held_any (x : Int) (A : Option Addr) (cap : Nat) (q : MK.Quote) (w : World) : Calls Try.prog 53 #[.int .i64 x, qA A cap q] w fun e w' => e = .returned (.int .i64 (MK.held x q)) ∧ Below w.heap.size w w' := by
  have HB := Lib.hid (below_al (Below.refl w.heap.size w) (.cells (qC A cap q) 26))
  obtain ⟨c0, c1, c2, c3, c4, c5, c6, c7⟩ := quote_cells (CB.new w 26 (qC A cap q))
  obtain ⟨wa, hwa⟩ : ∃ wa, w.alloc (.cells #[.slice A q.ticks.length cap, .int .i64 q.from_, .int .i64 q.to_, .int .i64 q.least, .int .i64 q.bid, .int .i64 q.ask, .int .i64 q.before, .int .i64 q.move] 26) = wa := ⟨_, rfl⟩
  rw [hwa] at c0 c1 c2 c3 c4 c5 c6 c7
  have HB1 := Lib.hid (hwa ▸ HB.out : Below w.heap.size w wa)
  have key : ∀ (y : Int), y = MK.held x q → Calls Try.prog 53 #[.int .i64 x, qA A cap q] w fun e w' => e = .returned (.int .i64 y) ∧ Below w.heap.size w w' := by
    unfold MK.held MK.up
    by_cases h1 : q.bid = 0
    · simp only [h1, if_true]
      have e1 : (q.bid != 0) = false := by simp [h1]
      clear h1
      by_cases h2 : q.ask = 0
      · simp only [h2, if_true]
        have e2 : (q.ask != 0) = false := by simp [h2]
        clear h2
        rintro y rfl
        go_enter Try.func53, Try.ntmps53
        go_wp2_with fail
        go_ret
        exact ⟨rfl, HB1.out⟩
      · simp only [h2, if_false]
        have e2 : (q.ask != 0) = true := by simpa using h2
        clear h2
        by_cases h3 : q.ask < x
        · simp only [h3, if_true]
          rintro y rfl
          go_enter Try.func53, Try.ntmps53
          go_wp2_with fail
          go_ret
          exact ⟨rfl, HB1.out⟩
        · simp only [h3, if_false]
          have h4 : x ≤ q.ask := by omega
          rintro y rfl
          go_enter Try.func53, Try.ntmps53
          go_wp2_with fail
          go_ret
          exact ⟨rfl, HB1.out⟩
    · simp only [h1, if_false]
      have e1 : (q.bid != 0) = true := by simpa using h1
      clear h1
      by_cases hx : x < q.bid
      · simp only [hx, if_true]
        by_cases h2 : q.ask = 0
        · simp only [h2, if_true]
          have e2 : (q.ask != 0) = false := by simp [h2]
          clear h2
          rintro y rfl
          go_enter Try.func53, Try.ntmps53
          go_wp2_with fail
          go_ret
          exact ⟨rfl, HB1.out⟩
        · simp only [h2, if_false]
          have e2 : (q.ask != 0) = true := by simpa using h2
          clear h2
          by_cases h3 : q.ask < q.bid
          · simp only [h3, if_true]
            rintro y rfl
            go_enter Try.func53, Try.ntmps53
            go_wp2_with fail
            go_ret
            exact ⟨rfl, HB1.out⟩
          · simp only [h3, if_false]
            have h4 : q.bid ≤ q.ask := by omega
            rintro y rfl
            go_enter Try.func53, Try.ntmps53
            go_wp2_with fail
            go_ret
            exact ⟨rfl, HB1.out⟩
      · simp only [hx, if_false]
        have hx2 : q.bid ≤ x := by omega
        by_cases h2 : q.ask = 0
        · simp only [h2, if_true]
          have e2 : (q.ask != 0) = false := by simp [h2]
          clear h2
          rintro y rfl
          go_enter Try.func53, Try.ntmps53
          go_wp2_with fail
          go_ret
          exact ⟨rfl, HB1.out⟩
        · simp only [h2, if_false]
          have e2 : (q.ask != 0) = true := by simpa using h2
          clear h2
          by_cases h3 : q.ask < x
          · simp only [h3, if_true]
            rintro y rfl
            go_enter Try.func53, Try.ntmps53
            go_wp2_with fail
            go_ret
            exact ⟨rfl, HB1.out⟩
          · simp only [h3, if_false]
            have h4 : x ≤ q.ask := by omega
            rintro y rfl
            go_enter Try.func53, Try.ntmps53
            go_wp2_with fail
            go_ret
            exact ⟨rfl, HB1.out⟩
  exact key _ rfl
theorem moved_any (A : Option Addr) (cap : Nat) (q : MK.Quote) (hb : -16777216 ≤ q.before ∧ q.before ≤ 16777216) (hm : -16777216 ≤ q.move ∧ q.move ≤ 16777216) (w : World) :
    Calls Try.prog 57 #[qA A cap q] w fun e w' => e = .returned (.int .i64 (MK.moved q)) ∧ Below w.heap.size w w' := by
  have HB := Lib.hid (below_al (Below.refl w.heap.size w) (.cells (qC A cap q) 26))
  obtain ⟨c0, c1, c2, c3, c4, c5, c6, c7⟩ := quote_cells (CB.new w 26 (qC A cap q))
  obtain ⟨wa, hwa⟩ : ∃ wa, w.alloc (.cells #[.slice A q.ticks.length cap, .int .i64 q.from_, .int .i64 q.to_, .int .i64 q.least, .int .i64 q.bid, .int .i64 q.ask, .int .i64 q.before, .int .i64 q.move] 26) = wa := ⟨_, rfl⟩
  rw [hwa] at c0 c1 c2 c3 c4 c5 c6 c7
  have HB1 := Lib.hid (hwa ▸ HB.out : Below w.heap.size w wa)
  have C := Lib.hid (fun ww => clamp_any (q.before + q.move) (-16777216) 16777216 ww)
  have e : CM.clamp (q.before + q.move) (-16777216) 16777216 = MK.moved q := rfl
  rw [e] at C
  generalize MK.moved q = y at *
  clear e
  obtain ⟨b1, b2⟩ := hb; obtain ⟨m1, m2⟩ := hm
  go_enter Try.func57, Try.ntmps57
  go_wp2_with fail
  refine (C.out _).mono ?_
  rintro e w1 ⟨rfl, rfl⟩
  go_wp2_with fail
  go_ret
  exact ⟨rfl, HB1.out⟩
theorem haslots_any (A : Option Addr) (l : List TP.Tick) (n cap : Nat) (least : Int) (hn : n = l.length) (w : World) (hI : Ticks w A l) (h0 : TP.allE l = 0) :
    Calls Try.prog 45 #[.slice A n cap, .int .i64 least] w fun e w' => e = .returned (.bool (decide (least ≤ TP.volN l))) ∧ Below w.heap.size w w' := by
  have C := Lib.hid (volume_any A l n cap hn w hI)
  rw [h0] at C
  generalize TP.volN l = x at *
  clear hn hI h0
  go_enter Try.func45, Try.ntmps45
  go_wp2_with fail
  refine C.out.mono ?_
  rintro e w1 ⟨rfl, b1⟩
  have HB1 := Lib.hid b1
  clear b1
  go_wp2_with fail
  go_ret
  exact ⟨rfl, HB1.out⟩
set_option maxHeartbeats 4000000 in
theorem mid_any (b a t : Int) (w : World) : Calls Try.prog 50 #[.int .i64 b, .int .i64 a, .int .i64 t] w fun e w' => e = .returned (.tuple #[.int .i64 (MK.midN b a t), .int .i64 (MK.midE b a t)]) ∧ Below w.heap.size w w' := by
  have C1 := Lib.hid (fun ww => within18_any t 1 16777216 ww)
  have CP := Lib.hid (fun n ww => isprice18_any n ww)
  cases g1 : QM.within t 1 16777216
  · rw [(MK.mid_tick g1).1, (MK.mid_tick g1).2]
    rw [g1] at C1
    clear g1
    go_enter Try.func50, Try.ntmps50
    go_wp2_with fail
    refine (C1.out _).mono ?_
    rintro e w1 ⟨rfl, rfl⟩
    go_wp2_with fail
    go_ret2
    exact ⟨rfl, Below.refl _ _⟩
  · have ht := QM.within_true.1 g1
    cases g2 : MK.midB b a
    · have K := MK.midB_false.1 g2
      obtain ⟨k1, ⟨n1, n2⟩, p1, p2⟩ := MK.mid_bounds ht K.1 K.2.1
      rw [(MK.mid_ok g1 g2).1, (MK.mid_ok g1 g2).2]
      have C2 := fun ww => muldiv_any (b + a) 1 (2 * t) 5 ww
      have e : MK.midK b a t = CM.mdN (b + a) 1 (2 * t) 5 := rfl
      rw [k1, ← e] at C2
      have C2 := Lib.hid C2
      have i1 : MK.isP b = true := MK.isP_true.2 K.1
      have i2 : MK.isP a = true := MK.isP_true.2 K.2.1
      have CB1 := Lib.hid (fun ww => CP.out b ww)
      have CA1 := Lib.hid (fun ww => CP.out a ww)
      rw [i1] at CB1
      rw [i2] at CA1
      rw [g1] at C1
      obtain ⟨⟨b1, b2⟩, ⟨a1, a2⟩, hle⟩ := K
      obtain ⟨t1, t2⟩ := ht
      have hnl : ¬ a < b := by omega
      generalize MK.midK b a t = k at *
      clear g1 g2 i1 i2 e CP
      go_enter Try.func50, Try.ntmps50
      go_wp2_with fail
      refine (C1.out _).mono ?_
      rintro e w1 ⟨rfl, rfl⟩
      go_wp2_with fail
      refine (CB1.out _).mono ?_
      rintro e w1 ⟨rfl, rfl⟩
      go_wp2_with fail
      refine (CA1.out _).mono ?_
      rintro e w1 ⟨rfl, rfl⟩
      go_wp2_with fail
      refine (C2.out _).mono ?_
      rintro e w1 ⟨rfl, b1⟩
      have HB1 := Lib.hid b1
      clear b1
      go_wp2_with fail
      go_ret2
      exact ⟨rfl, HB1.out⟩
    · rw [(MK.mid_price g1 g2).1, (MK.mid_price g1 g2).2]
      rw [g1] at C1
      unfold MK.midB at g2
      have CB1 := Lib.hid (fun ww => CP.out b ww)
      have CA1 := Lib.hid (fun ww => CP.out a ww)
      clear g1 CP
      cases i1 : MK.isP b
      · rw [i1] at CB1
        clear g2 i1
        go_enter Try.func50, Try.ntmps50
        go_wp2_with fail
        refine (C1.out _).mono ?_
        rintro e w1 ⟨rfl, rfl⟩
        go_wp2_with fail
        refine (CB1.out _).mono ?_
        rintro e w1 ⟨rfl, rfl⟩
        go_wp2_with fail
        go_ret2
        exact ⟨rfl, Below.refl _ _⟩
      · rw [i1] at CB1
        cases i2 : MK.isP a
        · rw [i2] at CA1
          clear g2 i1 i2
          go_enter Try.func50, Try.ntmps50
          go_wp2_with fail
          refine (C1.out _).mono ?_
          rintro e w1 ⟨rfl, rfl⟩
          go_wp2_with fail
          refine (CB1.out _).mono ?_
          rintro e w1 ⟨rfl, rfl⟩
          go_wp2_with fail
          refine (CA1.out _).mono ?_
          rintro e w1 ⟨rfl, rfl⟩
          go_wp2_with fail
          go_ret2
          exact ⟨rfl, Below.refl _ _⟩
        · rw [i2] at CA1
          rw [i1, i2] at g2
          have hlt : a < b := by simpa using g2
          clear g2 i1 i2
          go_enter Try.func50, Try.ntmps50
          go_wp2_with fail
          refine (C1.out _).mono ?_
          rintro e w1 ⟨rfl, rfl⟩
          go_wp2_with fail
          refine (CB1.out _).mono ?_
          rintro e w1 ⟨rfl, rfl⟩
          go_wp2_with fail
          refine (CA1.out _).mono ?_
          rintro e w1 ⟨rfl, rfl⟩
          go_wp2_with fail
          go_ret2
          exact ⟨rfl, Below.refl _ _⟩
theorem load_tick (w : World) (g : Nat) (x : TP.Tick) (hb : CB w g 102 (tickC x)) : (loadVar 102 ⟨g, 0, none⟩).run Try.prog w = .ok (tickA x) w := by
  have hu : Try.prog.underlying 102 = some (.struct (Try.prog.fieldsOf 102)) := by kernel_rfl
  have hz : (Try.prog.info? 102).map (·.size) = some 3 := by kernel_rfl
  rw [run_loadVar_row w g 102 102 _ (0, 0) _ hb hu rfl hz]
theorem results_tick {fn : Func} {p u : Tmp} (h : fn.results = #[.cell p 102, .tmp u]) (tmps : Array Value) (w : World) (g : Nat) (x : TP.Tick) (z : Value)
    (hp : tmps.getD p undef = .pointer (some ⟨g, 0, none⟩)) (hu : tmps.getD u undef = z) (hb : CB w g 102 (tickC x)) : (results fn tmps).run Try.prog w = .ok (.tuple #[tickA x, z]) w := by
  rw [results_cell_tmp h, hp]
  simp only [asAddr, Sem.run_pure, Result.andThen_ok]
  rw [load_tick w g x hb]
  simp only [Result.andThen_ok, hu]
set_option maxHeartbeats 4000000 in
theorem last_any (A : Option Addr) (l : List TP.Tick) (n cap : Nat) (hn : n = l.length) (w : World) (hI : Ticks w A l) :
    Calls Try.prog 43 #[.slice A n cap] w fun e w' => e = .returned (.tuple #[tickA (TP.lastT l), .bool (decide (0 < l.length))]) ∧ Below w.heap.size w w' := by
  have HB0 := Lib.hid (fun c => below_al (Below.refl w.heap.size w) (.cells c 102))
  have HN := Lib.hid (fun c => CB.new w 102 c)
  by_cases h0 : l.length = 0
  · subst hn
    have e1 : TP.lastT l = TP.zero := by unfold TP.lastT; rw [if_pos h0]
    rw [e1, show decide (0 < l.length) = false by simp [h0], h0]
    clear hI h0 e1
    go_enter Try.func43, Try.ntmps43
    go_wp2_with fail
    (try simp only [Exit.inBlock, Exit.then])
    exact bodyPost_ret (results_tick (x := TP.zero) rfl _ _ _ _ rfl rfl (HN.out _)) rfl ⟨rfl, HB0.out _⟩
  · subst hn
    have hlen := hI.len
    have e1 : TP.lastT l = TP.tAt l (l.length - 1) := by unfold TP.lastT; rw [if_neg h0]
    obtain ⟨b, off, t, rfl, hb, HV, ⟨q0, q1, q2⟩, d0, d1, d2⟩ := ticks_get (hI.below (HB0.out #[.int .i64 0, .int .i64 0, .int .i64 0])) (show l.length - 1 < l.length by omega)
    rw [e1, HV.out, show decide (0 < l.length) = true by simp; omega]
    have h1 : ¬ (l.length : Int) = 0 := by omega
    obtain ⟨j, hj⟩ : ∃ j, l.length - 1 = j := ⟨_, rfl⟩
    have ew : wrap64 ((l.length : Int) - 1) = (j : Int) := by rw [show (l.length : Int) - 1 = (j : Int) by omega]; exact IntWalk.wrap64_in (j : Int) (by omega)
    have ew2 : IntKind.i64.wrap ((l.length : Int) - 1) = (j : Int) := by rw [show (l.length : Int) - 1 = (j : Int) by omega]; exact IntWalk.i64_in (j : Int) (by omega)
    have hjl : j < l.length := by omega
    rw [hj] at d0 d1 d2
    generalize l.length = m at *
    have HJ := Lib.hid hj
    clear hI h0 e1 hj
    go_enter Try.func43, Try.ntmps43
    go_wp2_with fail
    (try simp only [Exit.inBlock, Exit.then])
    exact bodyPost_ret (results_tick (x := t) rfl _ _ _ _ rfl rfl (HN.out _)) rfl ⟨rfl, HB0.out _⟩
end Go.Proofs.Ytagmknahmkniaac

/- Contracts of layer 9: Find. -/
namespace Go.Proofs.Ytagmknahmkniaac
open Go.RowKit Go.Recs
set_option linter.unusedVariables false

theorem prod_under : Try.prog.underlying 23 = some (.struct (Try.prog.fieldsOf 23)) := by kernel_rfl
theorem prod_size : (Try.prog.info? 23).map (·.size) = some 7 := by kernel_rfl
theorem results_prod {fn : Func} {p u : Tmp} (h : fn.results = #[.cell p 23, .tmp u]) (tmps : Array Value) (w : World) (g : Nat) (x : QM.Prod)
    (hp : tmps.getD p undef = .pointer (some ⟨g, 0, none⟩)) (hb : PBox w g x) : (results fn tmps).run Try.prog w = .ok (.tuple #[prodA x, tmps.getD u undef]) w := by
  rw [results_cell_tmp h, hp]
  simp only [asAddr, Sem.run_pure, Result.andThen_ok]
  rw [run_loadVar_row w g 23 23 _ (0, 0) _ hb prod_under rfl prod_size]
  rfl
section
variable {w w' : World} {g : Nat} {p : QM.Prod}
theorem PBox.drewN (h : PBox w g p) (n : Nat) : PBox (w.drewN n) g p := h
theorem PBox.drew (h : PBox w g p) : PBox w.drew g p := h
theorem PBox.alloc (h : PBox w g p) (o : Obj) : PBox (w.alloc o) g p := (Below.heap_alloc w o g h.lt).trans h
theorem PBox.frozen (h : PBox w g p) (i : Nat) : w.frozen? ⟨g, i, none⟩ = false := by unfold PBox at h; simp [World.frozen?, h]
theorem PBox.put (h : PBox w g p) (x : QM.Prod) : PBox (((((((w.setCell ⟨g, 0, none⟩ (.string x.name)).setCell ⟨g, 1, none⟩ (.int .i64 x.cur)).setCell ⟨g, 2, none⟩ (.int .i64 x.mult)).setCell ⟨g, 3, none⟩ (.int .i64 x.tick)).setCell ⟨g, 4, none⟩ (.int .i64 x.low)).setCell ⟨g, 5, none⟩ (.int .i64 x.high)).setCell ⟨g, 6, none⟩ (.bool x.phys)) g x := by
  unfold PBox at h ⊢
  simp [World.setCell, Array.getElem?_modify, h]
theorem PBox.put_below {B : Nat} {a : World} (h : Below B a w) (hB : B ≤ g) (x : QM.Prod) : Below B a (((((((w.setCell ⟨g, 0, none⟩ (.string x.name)).setCell ⟨g, 1, none⟩ (.int .i64 x.cur)).setCell ⟨g, 2, none⟩ (.int .i64 x.mult)).setCell ⟨g, 3, none⟩ (.int .i64 x.tick)).setCell ⟨g, 4, none⟩ (.int .i64 x.low)).setCell ⟨g, 5, none⟩ (.int .i64 x.high)).setCell ⟨g, 6, none⟩ (.bool x.phys)) :=
  ((((((h.setCell hB _).setCell hB _).setCell hB _).setCell hB _).setCell hB _).setCell hB _).setCell hB _
end

def firstP (l : List QM.Prod) (s : ByteArray) : QM.Prod × Bool := match l.find? (fun p => p.name.toList == s.toList) with | some p => (p, true) | none => (QM.zero, false)
theorem first_yes {l : List QM.Prod} {s : ByteArray} {k : Nat} (hk : k < l.length) (h : ∀ j, j < k → ((QM.pAt l j).name.toList == s.toList) = false) (h2 : ((QM.pAt l k).name.toList == s.toList) = true) : firstP l s = (QM.pAt l k, true) := by
  have e : l.find? (fun p => p.name.toList == s.toList) = some (QM.pAt l k) := by
    rw [List.find?_eq_some_iff_getElem]
    refine ⟨h2, k, hk, by simp [QM.pAt, List.getD, hk], fun j hj => ?_⟩
    have := h j hj
    have hjl : j < l.length := by omega
    simp only [QM.pAt, List.getD, List.getElem?_eq_getElem hjl, Option.getD_some] at this
    rw [this]; rfl
  unfold firstP; rw [e]
theorem first_no {l : List QM.Prod} {s : ByteArray} (h : ∀ j, j < l.length → ((QM.pAt l j).name.toList == s.toList) = false) : firstP l s = (QM.zero, false) := by
  have e : l.find? (fun p => p.name.toList == s.toList) = none := by
    rw [List.find?_eq_none]
    intro a ha
    obtain ⟨j, hj, rfl⟩ := List.getElem_of_mem ha
    have := h j hj
    simp only [QM.pAt, List.getD, List.getElem?_eq_getElem hj, Option.getD_some] at this
    simp [this]
  unfold firstP; rw [e]

theorem qfind1_any (p : QM.Prod) (s : ByteArray) (g : Nat) (w : World) (hc : w.cell? ⟨g, 0, none⟩ = some (.string s)) (hg : g < w.heap.size) :
    Calls Try.prog 95 #[prodA p, .pointer (some ⟨g, 0, none⟩)] w fun e w' => e = .returned (.bool (p.name.toList == s.toList)) ∧ Below w.heap.size w w' := by
  have HB := Lib.hid ((Below.refl w.heap.size w).alloc (Nat.le_refl _) (.cells #[.string p.name, .int .i64 p.cur, .int .i64 p.mult, .int .i64 p.tick, .int .i64 p.low, .int .i64 p.high, .bool p.phys] 23))
  have hc2 := (HB.out.cell (p := ⟨g, 0, none⟩) hg).trans hc
  go_enter Try.func95, Try.ntmps95
  go_wp2
  go_ret
  exact ⟨rfl, HB.out⟩

set_option maxHeartbeats 4000000 in
theorem qfirst_any (A : Option Addr) (l : List QM.Prod) (cap : Nat) (s : ByteArray) (g : Nat) (w : World) (hI : Prods w A l) (hc : w.cell? ⟨g, 0, none⟩ = some (.string s)) (hg : g < w.heap.size) :
    Calls Try.prog 94 #[.slice A l.length cap, .func (.func 95) #[] #[.pointer (some ⟨g, 0, none⟩)]] w fun e w' => e = .returned (.tuple #[prodA (firstP l s).1, .bool (firstP l s).2]) ∧ Below w.heap.size w w' := by
  have HY := Lib.hid (fun k => @first_yes l s k)
  have HN := Lib.hid (@first_no l s)
  have hlen : l.length ≤ 9223372036854775807 := by have := hI.1.len; rw [List.length_map] at this; exact this
  generalize firstP l s = xy at *
  obtain ⟨x, y⟩ := xy
  have HB := Lib.hid ((Below.refl w.heap.size w).alloc (Nat.le_refl _) (.cells #[.string ⟨#[]⟩, .int .i64 0, .int .i64 0, .int .i64 0, .int .i64 0, .int .i64 0, .bool false] 23))
  have HP : Hid (PBox (w.alloc (.cells #[.string ⟨#[]⟩, .int .i64 0, .int .i64 0, .int .i64 0, .int .i64 0, .int .i64 0, .bool false] 23)) w.heap.size QM.zero) := Lib.hid (PBox.new w QM.zero)
  have HI := Lib.hid (hI.below HB.out)
  have HC := Lib.hid ((HB.out.cell (p := ⟨g, 0, none⟩) hg).trans hc)
  have HG : Hid (g < w.heap.size) := Lib.hid hg
  clear hI hc hg
  go_enter Try.func94, Try.ntmps94
  go_wp2
  have HS : Hid (w.heap.size < (w.alloc (.cells #[.string ⟨#[]⟩, .int .i64 0, .int .i64 0, .int .i64 0, .int .i64 0, .int .i64 0, .bool false] 23)).heap.size) := Lib.hid (new_lt _ _)
  generalize w.alloc (.cells #[.string ⟨#[]⟩, .int .i64 0, .int .i64 0, .int .i64 0, .int .i64 0, .int .i64 0, .bool false] 23) = w0 at *
  go_loopw [7, 10] (fun _ i wr => ∃ k : Nat, k ≤ l.length ∧ i = .int .i64 k ∧ Hid (∀ j, j < k → ((QM.pAt l j).name.toList == s.toList) = false) ∧ Hid (Below w0.heap.size w0 wr)) (fun _ i _ => l.length - (intOf i).toNat)
  case atStart => exact ⟨0, by omega, rfl, Lib.hid (fun j h => by omega), Lib.hid (Below.refl _ _)⟩
  case round =>
    obtain ⟨k, hk, rfl, HE, HW⟩ := hrel
    by_cases hlt : k < l.length
    · obtain ⟨b, off, p, rfl, hb, HV, q0, d0, d1, d2, d3, d4, d5, d6⟩ := prods_get (HI.out.below HW.out) hlt
      have HWA := Lib.hid (HW.out.alloc HW.out.size (.cells #[.string p.name, .int .i64 p.cur, .int .i64 p.mult, .int .i64 p.tick, .int .i64 p.low, .int .i64 p.high, .bool p.phys] 23))
      have HQ := Lib.hid (PBox.new wr p)
      have HL := Lib.hid (new_lt wr (.cells #[.string p.name, .int .i64 p.cur, .int .i64 p.mult, .int .i64 p.tick, .int .i64 p.low, .int .i64 p.high, .bool p.phys] 23))
      have C1 := Lib.hid (fun ww h1 h2 => qfind1_any p s g ww h1 h2)
      have HC2 : Hid ((wr.alloc (.cells #[.string p.name, .int .i64 p.cur, .int .i64 p.mult, .int .i64 p.tick, .int .i64 p.low, .int .i64 p.high, .bool p.phys] 23)).cell? ⟨g, 0, none⟩ = some (.string s)) :=
        Lib.hid ((HWA.out.cell (p := ⟨g, 0, none⟩) (Nat.lt_trans HG.out HS.out)).trans HC.out)
      have HG2 : Hid (g < (wr.alloc (.cells #[.string p.name, .int .i64 p.cur, .int .i64 p.mult, .int .i64 p.tick, .int .i64 p.low, .int .i64 p.high, .bool p.phys] 23)).heap.size) :=
        Lib.hid (Nat.lt_of_lt_of_le (Nat.lt_trans HG.out HS.out) HWA.out.size)
      go_wp2_with fail
      refine (C1.out _ HC2.out HG2.out).mono ?_
      rintro e w2 ⟨rfl, b2⟩
      have HW2 := Lib.hid (HWA.out.trans (b2.mono HWA.out.size))
      have HQ2 := Lib.hid (HQ.out.below b2 HL.out)
      clear b2 d0 d1 d2 d3 d4 d5 d6 HC2 HG2 HWA HQ HL
      cases he : (p.name.toList == s.toList)
      · have HE2 : Hid (∀ j, j < k + 1 → ((QM.pAt l j).name.toList == s.toList) = false) := Lib.hid (fun j hj => by
          rcases Nat.lt_or_ge j k with g | g
          · exact HE.out j g
          · obtain rfl : j = k := by omega
            rw [HV.out]; exact he)
        go_wp2_with fail
        go_roundw
        case rel => exact ⟨k + 1, by omega, by go_num, HE2, HW2⟩
        case measure => simp [intOf]; omega
      · have HR := Lib.hid (HY.out k hlt HE.out (by rw [HV.out]; exact he))
        have HP2 := Lib.hid (HP.out.below HW2.out HS.out)
        obtain ⟨c0, c1, c2, c3, c4, c5, c6⟩ := HP2.out.cells
        have f0 := HP2.out.frozen 0; have f1 := HP2.out.frozen 1; have f2 := HP2.out.frozen 2; have f3 := HP2.out.frozen 3; have f4 := HP2.out.frozen 4; have f5 := HP2.out.frozen 5; have f6 := HP2.out.frozen 6
        obtain ⟨d0, d1, d2, d3, d4, d5, d6⟩ := HQ2.out.cells
        go_wp2_with fail
        (try simp only [Exit.inBlock, Exit.then])
        refine bodyPost_ret (results_prod rfl _ _ _ _ rfl (HP2.out.put p)) rfl ⟨?_, ?_⟩
        · have h1 := HR.out; rw [HV.out] at h1; injection h1 with h1 h2; rw [h1, h2]; rfl
        · exact PBox.put_below (HB.out.trans (HW2.out.mono HB.out.size)) (Nat.le_refl _) p
    · obtain rfl : k = l.length := by omega
      have HR := Lib.hid (HN.out HE.out)
      have HP2 := Lib.hid (HP.out.below HW.out HS.out)
      obtain ⟨c0, c1, c2, c3, c4, c5, c6⟩ : wr.cell? ⟨w.heap.size, 0, none⟩ = some (.string ⟨#[]⟩) ∧ wr.cell? ⟨w.heap.size, 1, none⟩ = some (.int .i64 0) ∧ wr.cell? ⟨w.heap.size, 2, none⟩ = some (.int .i64 0) ∧ wr.cell? ⟨w.heap.size, 3, none⟩ = some (.int .i64 0) ∧ wr.cell? ⟨w.heap.size, 4, none⟩ = some (.int .i64 0) ∧ wr.cell? ⟨w.heap.size, 5, none⟩ = some (.int .i64 0) ∧ wr.cell? ⟨w.heap.size, 6, none⟩ = some (.bool false) := HP2.out.cells
      have f0 := HP2.out.frozen 0; have f1 := HP2.out.frozen 1; have f2 := HP2.out.frozen 2; have f3 := HP2.out.frozen 3; have f4 := HP2.out.frozen 4; have f5 := HP2.out.frozen 5; have f6 := HP2.out.frozen 6
      go_wp2_with fail
      (try simp only [Exit.inBlock, Exit.then])
      refine bodyPost_ret (results_prod rfl _ _ _ _ rfl (HP2.out.put QM.zero)) rfl ⟨?_, ?_⟩
      · have h1 := HR.out; injection h1 with h1 h2; rw [h1, h2]; rfl
      · exact PBox.put_below (HB.out.trans (HW.out.mono HB.out.size)) (Nat.le_refl _) QM.zero

set_option maxHeartbeats 2000000 in
theorem qfind_any (A : Option Addr) (l : List QM.Prod) (cap : Nat) (s : ByteArray) (w : World) (hI : Prods w A l) :
    Calls Try.prog 72 #[.slice A l.length cap, .string s] w fun e w' => e = .returned (.tuple #[prodA (firstP l s).1, .bool (firstP l s).2]) ∧ Below w.heap.size w w' := by
  have HB1 := Lib.hid ((Below.refl w.heap.size w).alloc (Nat.le_refl _) (.cells #[.string s] 9))
  have C1 := Lib.hid (fun ww (h : Prods ww A l) hc hg => qfirst_any A l cap s w.heap.size ww h hc hg)
  generalize firstP l s = xy at *
  obtain ⟨x, y⟩ := xy
  have HB2 := Lib.hid (HB1.out.alloc HB1.out.size (.cells #[.string ⟨#[]⟩, .int .i64 0, .int .i64 0, .int .i64 0, .int .i64 0, .int .i64 0, .bool false] 23))
  have HP : Hid (PBox ((w.alloc (.cells #[.string s] 9)).alloc (.cells #[.string ⟨#[]⟩, .int .i64 0, .int .i64 0, .int .i64 0, .int .i64 0, .int .i64 0, .bool false] 23)) (w.heap.size + 1) QM.zero) := Lib.hid (by
    have := PBox.new (w.alloc (.cells #[.string s] 9)) QM.zero
    rw [show (w.alloc (.cells #[.string s] 9)).heap.size = w.heap.size + 1 by simp] at this
    exact this)
  have HX : Hid (Box ((w.alloc (.cells #[.string s] 9)).alloc (.cells #[.string ⟨#[]⟩, .int .i64 0, .int .i64 0, .int .i64 0, .int .i64 0, .int .i64 0, .bool false] 23)) w.heap.size 9 (.string s)) := Lib.hid ((Box.new w 9 (.string s)).alloc _)
  have HI := Lib.hid (hI.below HB2.out)
  clear hI HB1
  have hmf : ∀ (fn : Fn) (first cap : Array Value) (w : World), (Instr.makeFunc fn first cap).run Try.prog w = .ok (.func fn first cap) w := fun _ _ _ _ => rfl
  go_enter Try.func72, Try.ntmps72
  go_wp2_with fail
  refine (C1.out _ HI.out HX.out.cell HX.out.lt).mono ?_
  rintro e w2 ⟨rfl, b2⟩
  have HP2 := Lib.hid (HP.out.below b2 HP.out.lt)
  have HB3 := Lib.hid (HB2.out.trans (b2.mono HB2.out.size))
  obtain ⟨c0, c1, c2, c3, c4, c5, c6⟩ := HP2.out.cells
  have f0 := HP2.out.frozen 0; have f1 := HP2.out.frozen 1; have f2 := HP2.out.frozen 2; have f3 := HP2.out.frozen 3; have f4 := HP2.out.frozen 4; have f5 := HP2.out.frozen 5; have f6 := HP2.out.frozen 6
  clear b2
  go_wp2_with fail
  (try simp only [Exit.inBlock, Exit.then])
  refine bodyPost_ret (results_prod rfl _ _ _ _ rfl (HP2.out.put x)) rfl ⟨?_, ?_⟩
  · rfl
  · exact PBox.put_below HB3.out (by omega) x
end Go.Proofs.Ytagmknahmkniaac
