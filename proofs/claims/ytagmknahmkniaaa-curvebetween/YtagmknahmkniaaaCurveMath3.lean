/- Layer 19's mathematics: prices of a day told apart, filled points, moved points. -/
import Derived.Test.YtagmknahmkniaaaCurveMath2
namespace UM
set_option linter.unusedVariables false
theorem zero_known : zero.known = false := rfl
theorem ar_cases {l : List Pt} (g : Good l) {day tick : Int} (hd : 0 ≤ day ∧ day ≤ 73048) (ht : 1 ≤ tick ∧ tick ≤ 16777216) :
    (arA l day ∈ l ∧ (arA l day).known = true ∧ arB l day ∈ l ∧ (arB l day).known = true) ∧ (arA l day = arB l day ∨ (arA l day ≠ arB l day ∧ Pair (arA l day) (arB l day) day tick)) := by
  have A : arA l day = if (lowK l day).known = true then lowK l day else highK l day := rfl
  have B : arB l day = if (lowK l day).known = true ∧ (highK l day).known = false then lowK l day else highK l day := rfl
  rcases low_cases l day with ⟨h1, h2⟩ | ⟨h1, h2, h3⟩
  · rw [h1, zero_known] at A B
    rw [if_neg (by simp)] at A B
    rcases high_cases l day with ⟨h4, h5⟩ | ⟨h4, h5, h6⟩
    · obtain ⟨p, hp, hk⟩ := g.some
      have := h2 p hp hk
      have := h5 p hp hk
      omega
    · rw [A, B]
      exact ⟨⟨h4, h5, h4, h5⟩, .inl rfl⟩
  · rw [if_pos h2] at A
    rcases high_cases l day with ⟨h4, h5⟩ | ⟨h4, h5, h6⟩
    · rw [h4, if_pos ⟨h2, rfl⟩] at B
      rw [A, B]
      exact ⟨⟨h1, h2, h1, h2⟩, .inl rfl⟩
    · rw [if_neg (by simp [h5])] at B
      rw [A, B]
      refine ⟨⟨h1, h2, h4, h5⟩, ?_⟩
      by_cases e : lowK l day = highK l day
      · exact .inl e
      · refine .inr ⟨e, ?_⟩
        have m1 := g.ord.mem _ h1
        have m2 := g.ord.mem _ h4
        have hne : (lowK l day).exp ≠ (highK l day).exp := fun h => e (g.ord.one _ h1 _ h4 h)
        exact ⟨⟨by omega, h3⟩, ⟨h6, m2.2.1⟩, by omega, m1.2.2 h2, m2.2.2 h5, ht⟩
theorem price_same {l : List Pt} {day : Int} (tick : Int) (h : arA l day = arB l day) : priceN l day tick = (arA l day).price := by unfold priceN; rw [if_pos h]
theorem price_tween {l : List Pt} {day : Int} (tick : Int) (h : arA l day ≠ arB l day) : priceN l day tick = tweenN (arA l day) (arB l day) day tick := by unfold priceN; rw [if_neg h]
/-- of a known day it is that one's -/
theorem price_known {l : List Pt} (g : Good l) {day : Int} (tick : Int) {p : Pt} (hp : p ∈ l) (hk : p.known = true) (hd : p.exp = day) : priceN l day tick = p.price := by
  have e1 : lowK l day = p := by
    have h1 : p.exp ≤ (lowK l day).exp := low_last g.ord zero day p hp hk (by omega)
    rcases low_cases l day with ⟨_, h2⟩ | ⟨h2, h3, h4⟩
    · have := h2 p hp hk; omega
    · exact (g.ord.one p hp _ h2 (by omega)).symm
  have e2 : highK l day = p := by
    have h1 : (highK l day).exp ≤ p.exp := high_first g.ord day p hp hk (by omega)
    rcases high_cases l day with ⟨_, h2⟩ | ⟨h2, h3, h4⟩
    · have := h2 p hp hk; omega
    · exact (g.ord.one p hp _ h2 (by omega)).symm
  have A : arA l day = p := by unfold arA; rw [e1, if_pos hk]
  have B : arB l day = p := by unfold arB; rw [e1, e2, if_neg (by simp [hk])]
  rw [price_same tick (by rw [A, B]), A]
/-- between the least and the greatest known one, but for half a tick -/
theorem price_between {l : List Pt} (g : Good l) {day tick : Int} (hd : 0 ≤ day ∧ day ≤ 73048) (ht : 1 ≤ tick ∧ tick ≤ 16777216) {lo hi : Int}
    (h : ∀ p ∈ l, p.known = true → lo ≤ p.price ∧ p.price ≤ hi) : 2 * lo - tick ≤ 2 * priceN l day tick ∧ 2 * priceN l day tick ≤ 2 * hi + tick := by
  obtain ⟨⟨a1, a2, b1, b2⟩, e⟩ := ar_cases g hd ht
  have ha := h _ a1 a2
  have hb := h _ b1 b2
  rcases e with e | ⟨e, hp⟩
  · rw [price_same tick e]; omega
  · rw [price_tween tick e]
    obtain ⟨_, t1, t2⟩ := hp.tween (lo := lo) (hi := hi) ⟨ha.1, hb.1⟩ ⟨ha.2, hb.2⟩
    exact ⟨t2, t1⟩
theorem price_in {l : List Pt} (g : Good l) {day tick : Int} (hd : 0 ≤ day ∧ day ≤ 73048) (ht : 1 ≤ tick ∧ tick ≤ 16777216) : -33554432 ≤ priceN l day tick ∧ priceN l day tick ≤ 33554432 := by
  obtain ⟨h1, h2⟩ := price_between g hd ht (lo := -16777216) (hi := 16777216) fun p hp hk => (g.ord.mem p hp).2.2 hk
  omega
/-- At -/
def tickE (l : List Pt) (tick : Int) : Int := if checkE l ≠ 0 then checkE l else if QM.within tick 1 16777216 = false then 16 else 0
def atE (l : List Pt) (day tick : Int) : Int := if tickE l tick ≠ 0 then tickE l tick else if QM.within day 0 73048 = false then 15 else 0
def atN (l : List Pt) (day tick : Int) : Int := if atE l day tick = 0 then priceN l day tick else 0
theorem tick_zero {l : List Pt} {tick : Int} (h : tickE l tick = 0) : Good l ∧ 1 ≤ tick ∧ tick ≤ 16777216 := by
  unfold tickE at h
  split at h
  · rename_i h1; exact absurd h h1
  · rename_i h1
    split at h
    · cases h
    · rename_i h2
      exact ⟨check_good.1 (Classical.byContradiction h1), QM.within_true.1 (by simpa using h2)⟩
theorem tick_ok {l : List Pt} {tick : Int} (g : Good l) (ht : 1 ≤ tick ∧ tick ≤ 16777216) : tickE l tick = 0 := by
  unfold tickE
  rw [check_good.2 g, if_neg (by simp), QM.within_true.2 ht, if_neg (by simp)]
theorem at_zero {l : List Pt} {day tick : Int} (h : atE l day tick = 0) : Good l ∧ (1 ≤ tick ∧ tick ≤ 16777216) ∧ 0 ≤ day ∧ day ≤ 73048 := by
  unfold atE at h
  split at h
  · rename_i h1; exact absurd h h1
  · rename_i h1
    split at h
    · cases h
    · rename_i h2
      obtain ⟨a, b⟩ := tick_zero (Classical.byContradiction h1)
      exact ⟨a, b, QM.within_true.1 (by simpa using h2)⟩
theorem at_ok {l : List Pt} {day tick : Int} (g : Good l) (ht : 1 ≤ tick ∧ tick ≤ 16777216) (hd : 0 ≤ day ∧ day ≤ 73048) : atE l day tick = 0 ∧ atN l day tick = priceN l day tick := by
  have e : atE l day tick = 0 := by
    unfold atE
    rw [tick_ok g ht, if_neg (by simp), QM.within_true.2 hd, if_neg (by simp)]
  exact ⟨e, by unfold atN; rw [if_pos e]⟩
/-- Fill -/
def fillP (l : List Pt) (tick : Int) (p : Pt) : Pt := if p.known = true then p else ⟨p.exp, priceN l p.exp tick, true⟩
def fillL (l : List Pt) (tick : Int) : List Pt := l.map (fillP l tick)
/-- Shift -/
def moveP (by_ lo hi : Int) (p : Pt) : Pt := if p.known = true then ⟨p.exp, CM.clamp (p.price + by_) lo hi, true⟩ else p
def moveL (l : List Pt) (by_ lo hi : Int) : List Pt := l.map (moveP by_ lo hi)
def moveE (l : List Pt) (by_ lo hi : Int) : Int := if checkE l ≠ 0 then checkE l else if isP by_ = false then 17 else if (isP lo && isP hi && decide (lo ≤ hi)) = false then 2 else 0
theorem map_ord {f : Pt → Pt} (he : ∀ p, (f p).exp = p.exp) {l : List Pt} : ∀ {e : Int}, Ord l e → (∀ p ∈ l, (f p).known = true → isP (f p).price = true) → Ord (l.map f) e := by
  induction l with
  | nil => intro e _ _; trivial
  | cons q t ih =>
    rintro e ⟨a, b, c, d⟩ h
    rw [List.map_cons]
    refine ⟨by rw [he]; exact a, by rw [he]; exact b, h q List.mem_cons_self, ?_⟩
    rw [he]
    exact ih d fun p hp => h p (List.mem_cons_of_mem _ hp)
theorem low_map {f : Pt → Pt} (he : ∀ p, (f p).exp = p.exp) (hk : ∀ p, (f p).known = p.known) (hz : f zero = zero) (l : List Pt) (day : Int) : lowK (l.map f) day = f (lowK l day) := by
  unfold lowK
  suffices h : ∀ z : Pt, (l.map f).foldl (fun a p => if p.known && decide (p.exp ≤ day) then p else a) (f z) = f (l.foldl (fun a p => if p.known && decide (p.exp ≤ day) then p else a) z) by
    have := h zero; rwa [hz] at this
  induction l with
  | nil => intro z; rfl
  | cons q t ih =>
    intro z
    rw [List.map_cons, List.foldl_cons, List.foldl_cons, he, hk, ← ih]
    congr 1
    split <;> rfl
theorem high_map {f : Pt → Pt} (he : ∀ p, (f p).exp = p.exp) (hk : ∀ p, (f p).known = p.known) (hz : f zero = zero) (l : List Pt) (day : Int) : highK (l.map f) day = f (highK l day) := by
  unfold highK
  induction l with
  | nil => exact hz.symm
  | cons q t ih =>
    rw [List.map_cons, List.foldr_cons, List.foldr_cons, he, hk, ih]
    split <;> rfl
theorem moveP_exp (b lo hi : Int) (p : Pt) : (moveP b lo hi p).exp = p.exp := by unfold moveP; split <;> rfl
theorem moveP_known (b lo hi : Int) (p : Pt) : (moveP b lo hi p).known = p.known := by
  unfold moveP
  split
  · rename_i h; exact h.symm
  · rfl
theorem move_far {b : Int} {p : Pt} (hk : p.known = true) (h1 : -16777216 ≤ p.price + b) (h2 : p.price + b ≤ 16777216) : moveP b (-16777216) 16777216 p = ⟨p.exp, p.price + b, true⟩ := by
  unfold moveP CM.clamp
  rw [if_pos hk, if_neg (by omega), if_neg (by omega)]
theorem move_good {l : List Pt} (g : Good l) {b lo hi : Int} (hl : -16777216 ≤ lo) (hh : hi ≤ 16777216) (hle : lo ≤ hi) : Good (moveL l b lo hi) := by
  refine ⟨by unfold moveL; rw [List.length_map]; exact g.len, map_ord (moveP_exp b lo hi) g.ord ?_, ?_⟩
  · intro p hp hk
    rw [moveP_known] at hk
    rw [isP_true]
    unfold moveP
    rw [if_pos hk]
    have : lo ≤ CM.clamp (p.price + b) lo hi ∧ CM.clamp (p.price + b) lo hi ≤ hi := by unfold CM.clamp; split <;> (try split) <;> omega
    show -16777216 ≤ CM.clamp (p.price + b) lo hi ∧ CM.clamp (p.price + b) lo hi ≤ 16777216
    omega
  · obtain ⟨p, hp, hk⟩ := g.some
    exact ⟨moveP b lo hi p, List.mem_map_of_mem hp, by rw [moveP_known]; exact hk⟩
/-- prices far from their ends, moved by an even number of ticks -/
theorem move_price {l : List Pt} (g : Good l) {day tick m : Int} (hd : 0 ≤ day ∧ day ≤ 73048) (ht : 1 ≤ tick ∧ tick ≤ 1000) (hm : -500 ≤ m ∧ m ≤ 500)
    (hp : ∀ p ∈ l, p.known = true → -500000 ≤ p.price ∧ p.price ≤ 500000) : priceN (moveL l (2 * tick * m) (-16777216) 16777216) day tick = priceN l day tick + 2 * tick * m := by
  have hb : -1000000 ≤ 2 * tick * m ∧ 2 * tick * m ≤ 1000000 := by
    have := mul_in (a := m) (b := tick) (M := 500) (N := 1000) hm ⟨by omega, by omega⟩ (by omega)
    have e : 2 * tick * m = 2 * (m * tick) := by rw [Int.mul_assoc, Int.mul_comm tick]
    omega
  have hz : moveP (2 * tick * m) (-16777216) 16777216 zero = zero := rfl
  have e1 := low_map (moveP_exp (2 * tick * m) (-16777216) 16777216) (moveP_known _ _ _) hz l day
  have e2 := high_map (moveP_exp (2 * tick * m) (-16777216) 16777216) (moveP_known _ _ _) hz l day
  have eA : arA (moveL l (2 * tick * m) (-16777216) 16777216) day = moveP (2 * tick * m) (-16777216) 16777216 (arA l day) := by
    unfold arA moveL; rw [e1, e2, moveP_known]; split <;> rfl
  have eB : arB (moveL l (2 * tick * m) (-16777216) 16777216) day = moveP (2 * tick * m) (-16777216) 16777216 (arB l day) := by
    unfold arB moveL; rw [e1, e2, moveP_known, moveP_known]; split <;> rfl
  obtain ⟨⟨a1, a2, b1, b2⟩, e⟩ := ar_cases g (tick := tick) hd ⟨ht.1, by omega⟩
  have pa := hp _ a1 a2
  have pb := hp _ b1 b2
  have fA := move_far (b := 2 * tick * m) a2 (by omega) (by omega)
  have fB := move_far (b := 2 * tick * m) b2 (by omega) (by omega)
  rcases e with e | ⟨e, hpr⟩
  · rw [price_same tick e, price_same tick (by rw [eA, eB, e]), eA, fA]
  · have hne : arA (moveL l (2 * tick * m) (-16777216) 16777216) day ≠ arB (moveL l (2 * tick * m) (-16777216) 16777216) day := by
      rw [eA, eB, fA, fB]
      intro h
      have := hpr.lt
      injection h with h1 h2
      omega
    rw [price_tween tick e, price_tween tick hne, eA, eB, fA, fB]
    generalize arA l day = a at *
    generalize arB l day = b at *
    have L := hpr.lined
    have lt := hpr.lt
    have db := hpr.db
    have da := hpr.da
    have eV : lineV ⟨a.exp, a.price + 2 * tick * m, true⟩ ⟨b.exp, b.price + 2 * tick * m, true⟩ day = lineV a b day + 2 * m * ((b.exp - a.exp) * tick) := by
      unfold lineV
      show (a.price + 2 * tick * m) * (b.exp - a.exp) + (b.price + 2 * tick * m - (a.price + 2 * tick * m)) * (day - a.exp) = _
      rw [Int.add_mul, show b.price + 2 * tick * m - (a.price + 2 * tick * m) = b.price - a.price by omega,
        show 2 * tick * m * (b.exp - a.exp) = 2 * m * ((b.exp - a.exp) * tick) by ac_rfl]
      omega
    have hV : lineV a b day = a.price * (b.exp - a.exp) + (b.price - a.price) * (day - a.exp) := rfl
    have hs := mul_in (a := 2 * tick * m) (b := b.exp - a.exp) (M := 1000000) (N := 73048) hb ⟨by omega, by omega⟩ (by omega)
    have hs2 : 2 * tick * m * (b.exp - a.exp) = 2 * m * ((b.exp - a.exp) * tick) := by ac_rfl
    obtain ⟨x, y, c⟩ := L
    have N := near_moved (v := lineV a b day) (c := (b.exp - a.exp) * tick) (m := m) (by omega) (by omega) (by omega) (by omega) (by omega) (by omega)
    unfold tweenN tweenK
    rw [eV]
    show K (lineV a b day + 2 * m * ((b.exp - a.exp) * tick)) ((b.exp - a.exp) * tick) * tick = _
    rw [N, Int.add_mul, show 2 * m * tick = 2 * tick * m by rw [Int.mul_assoc, Int.mul_comm m, Int.mul_assoc]]
theorem move_back {l : List Pt} {b : Int} (hb : -1000000 ≤ b ∧ b ≤ 1000000) (hp : ∀ p ∈ l, p.known = true → -500000 ≤ p.price ∧ p.price ≤ 500000) :
    moveL (moveL l b (-16777216) 16777216) (-b) (-16777216) 16777216 = l := by
  unfold moveL
  rw [List.map_map]
  have : ∀ p ∈ l, (moveP (-b) (-16777216) 16777216 ∘ moveP b (-16777216) 16777216) p = p := by
    intro p h
    show moveP (-b) (-16777216) 16777216 (moveP b (-16777216) 16777216 p) = p
    by_cases hk : p.known = true
    · have := hp p h hk
      rw [move_far hk (by omega) (by omega), move_far rfl (by show _ ≤ p.price + b + -b; omega) (by show p.price + b + -b ≤ _; omega)]
      obtain ⟨x, y, z⟩ := p
      subst hk
      show Pt.mk x (y + b + -b) true = _
      rw [show y + b + -b = y by omega]
    · have e : ∀ c lo hi, moveP c lo hi p = p := fun c lo hi => by unfold moveP; rw [if_neg hk]
      rw [e, e]
  conv => rhs; rw [← List.map_id l]
  exact List.map_congr_left this
theorem fillP_exp (l : List Pt) (tick : Int) (p : Pt) : (fillP l tick p).exp = p.exp := by unfold fillP; split <;> rfl
theorem fillP_known (l : List Pt) (tick : Int) (p : Pt) : (fillP l tick p).known = true := by
  unfold fillP
  split
  · assumption
  · rfl
theorem fillP_price {l : List Pt} (g : Good l) (tick : Int) {p : Pt} (hp : p ∈ l) : (fillP l tick p).price = priceN l p.exp tick := by
  unfold fillP
  split
  · rename_i h; exact (price_known g tick hp h rfl).symm
  · rfl
theorem fill_good {l : List Pt} (g : Good l) {tick : Int} (ht : 1 ≤ tick ∧ tick ≤ 1000) (hp : ∀ p ∈ l, p.known = true → -500000 ≤ p.price ∧ p.price ≤ 500000) : Good (fillL l tick) := by
  refine ⟨by unfold fillL; rw [List.length_map]; exact g.len, map_ord (fillP_exp l tick) g.ord ?_, ?_⟩
  · intro p h _
    rw [fillP_price g tick h, isP_true]
    have hd := g.ord.mem p h
    have := price_between g (day := p.exp) (tick := tick) ⟨hd.1, hd.2.1⟩ ⟨ht.1, by omega⟩ hp
    omega
  · obtain ⟨p, hp, hk⟩ := g.some
    exact ⟨fillP l tick p, List.mem_map_of_mem hp, fillP_known l tick p⟩
theorem fill_again (l : List Pt) (tick t2 : Int) : fillL (fillL l tick) t2 = fillL l tick := by
  have : ∀ (m : List Pt), (∀ p ∈ m, p.known = true) → fillL m t2 = m := by
    intro m hm
    unfold fillL
    conv => rhs; rw [← List.map_id m]
    exact List.map_congr_left fun p hp => by unfold fillP; rw [if_pos (hm p hp)]; rfl
  apply this
  intro p hp
  obtain ⟨q, _, rfl⟩ := List.mem_map.1 hp
  exact fillP_known l tick q
end UM
