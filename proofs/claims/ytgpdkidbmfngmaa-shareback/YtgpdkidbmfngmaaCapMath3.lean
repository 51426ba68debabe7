import Derived.Test.YtgpdkidbmfngmaaCapMath2
namespace SM
open LM

/-- what holds of Capped's answer -/
structure Good (total : Int) (w caps : List Int) (o : List Int × Int) : Prop where
  len : o.1.length = w.length
  rest0 : 0 ≤ o.2
  sum : tot o.1 + o.2 = total
  low : ∀ i, i < w.length → 0 ≤ o.1.getD i 0
  cap : ∀ i, i < w.length → o.1.getD i 0 ≤ caps.getD i 0
  none' : ∀ i, i < w.length → w.getD i 0 = 0 → o.1.getD i 0 = 0
  rest : 0 < o.2 → ∀ i, i < w.length → 0 < w.getD i 0 → o.1.getD i 0 = caps.getD i 0

/-- besides CI: who has no weight has nothing -/
def NW (w out : List Int) : Prop := ∀ i, i < w.length → w.getD i 0 = 0 → out.getD i 0 = 0

theorem tab_zero_of_tot {n : Nat} {f : Nat → Int} (h : ∀ i, i < n → 0 ≤ f i) (h0 : tot (tab n f) = 0) (i : Nat) (hi : i < n) : f i = 0 := by
  have hn := h i hi
  by_cases hz : 0 < f i
  · have h1 := tot_tab_lt (n := n) (f := fun _ => 0) (g := f) h i hi hz
    have h2 := tot_tab_nonneg (n := n) (f := fun _ => 0) (fun _ _ => Int.le_refl _)
    omega
  · omega

theorem capRun_good (w caps : List Int) (total : Int) (hw : wOk w = true) (hc : allR caps = true) : ∀ (f : Nat) (out : List Int) (left : Int), CI w caps total out left → NW w out → cnt (openOf w caps out) < f → Good total w caps (capRun w caps f out left)
  | 0, out, left, _, _, h => by have := (cnt_range (openOf w caps out)).1; omega
  | f + 1, out, left, h, hn, hcnt => by
    have hcap : ∀ i, i < w.length → 0 ≤ caps.getD i 0 := fun i hi => (allR_get hc (by rw [h.caps']; exact hi)).1
    have hw0 : ∀ i, i < w.length → 0 ≤ w.getD i 0 := fun i hi => (allR_get (wOk_parts hw).1 hi).1
    have base : left = 0 ∨ tot (openOf w caps out) = 0 → Good total w caps (out, left) := fun hz => by
      refine ⟨h.len, h.l0, h.sum, fun i hi => ?_, fun i hi => ?_, hn, fun hr i hi hwi => ?_⟩
      · have := hcap i hi; rcases h.vals i hi with e | e <;> simp only [e] <;> omega
      · have := hcap i hi; rcases h.vals i hi with e | e <;> simp only [e] <;> omega
      · rcases hz with hz | hz
        · simp only [] at hr; omega
        · have := tab_zero_of_tot (fun i hi => openOf_nonneg hw caps out i hi) hz i hi
          split at this
          · omega
          · rename_i hlt
            rcases h.vals i hi with e | e
            · simp only [] ; have := hcap i hi; omega
            · exact e
    by_cases hl : left ≤ 0
    · rw [capRun_done _ _ _ _ _ hl]; exact base (.inl (by have := h.l0; omega))
    · by_cases h0 : tot (openOf w caps out) = 0
      · rw [capRun_shut _ _ _ _ _ h0]; exact base (.inr h0)
      · have ho := openOf_ok caps out hw
        cases hov : over (parts left (tot (openOf w caps out)) (openOf w caps out)) caps
        · rw [capRun_last _ _ _ _ _ (by omega) h0 hov]
          have hs := parts_sum (total := left) ho h0 (by omega)
          have hnn := fun j hj => parts_nonneg (total := left) ho h0 (by omega) j hj
          have hp := fun j hj => parts_none (total := left) ho h0 (by omega) j hj
          have hL : (parts left (tot (openOf w caps out)) (openOf w caps out)).length = w.length := by rw [parts_len, openOf_len]
          rw [openOf_len] at hnn hp
          have hog : ∀ i, i < w.length → (openOf w caps out).getD i 0 = if out.getD i 0 < caps.getD i 0 then w.getD i 0 else 0 := fun i hi => by unfold openOf; rw [tab_get _ _ _ hi]
          generalize openOf w caps out = O at *
          generalize parts left (tot O) O = l at *
          have hag : ∀ i, i < w.length → (addL out l).getD i 0 = out.getD i 0 + l.getD i 0 := fun i hi => by unfold addL; rw [tab_get _ _ _ (by rw [h.len]; exact hi)]
          have hal : (addL out l).length = w.length := by unfold addL; rw [tab_len, h.len]
          -- an element that has its cap is offered nothing
          have key : ∀ i, i < w.length → out.getD i 0 = 0 ∨ (out.getD i 0 = caps.getD i 0 ∧ l.getD i 0 = 0) := fun i hi => by
            rcases h.vals i hi with e | e
            · exact .inl e
            · refine .inr ⟨e, hp i hi ?_⟩
              rw [hog i hi, if_neg (by omega)]
          have hno : ∀ i, i < w.length → l.getD i 0 ≤ caps.getD i 0 := fun i hi => by have := not_over hov i (by rw [hL]; exact hi); omega
          refine ⟨hal, Int.le_refl _, ?_, fun i hi => ?_, fun i hi => ?_, fun i hi hwi => ?_, fun hr => absurd hr (by simp)⟩
          · have e : tot (addL out l) = tot out + tot l := by
              unfold addL
              conv => rhs; rw [← tab_self out, ← tab_self l, hL, h.len]
              rw [← tot_tab_sub, h.len]
            have := h.sum
            simp only []; omega
          · simp only [hag i hi]
            have := hnn i hi; have := hcap i hi
            rcases key i hi with e | ⟨e, e2⟩ <;> omega
          · simp only [hag i hi]
            have := hno i hi
            rcases key i hi with e | ⟨e, e2⟩ <;> omega
          · simp only [hag i hi]
            have h1 := hn i hi hwi
            have h2 : l.getD i 0 = 0 := hp i hi (by rw [hog i hi, hwi]; split <;> rfl)
            omega
        · obtain ⟨n1, n2, n3, n4, n5⟩ := h.full hw hc (by omega) h0 hov
          rw [capRun_over _ _ _ _ _ (by omega) h0 hov]
          refine capRun_good w caps total hw hc f _ _ n1 ?_ (by push_cast at hcnt; omega)
          intro i hi hwi
          have h1 := hn i hi hwi
          have h2 : (parts left (tot (openOf w caps out)) (openOf w caps out)).getD i 0 = 0 := parts_none (total := left) ho h0 (by omega) i (by rw [openOf_len]; exact hi) (by unfold openOf; rw [tab_get _ _ _ hi, hwi]; split <;> rfl)
          unfold capOut
          rw [tab_get _ _ _ (by rw [h.len]; exact hi), h2, if_neg (by have := hcap i hi; omega)]
          exact h1

theorem cap_good {total : Int} {w caps : List Int} (h : capE total w caps = 0) : Good total w caps (capN total w caps, capR total w caps) := by
  obtain ⟨h1, hl, hw, hcl, hca⟩ := capE_ok h
  obtain ⟨y1, y2⟩ := cap_yes h
  rw [y1, y2]
  refine capRun_good w caps total hw hca _ _ _ (CI.start hcl (inR_true.1 h1).1) (fun i hi _ => by simp [List.getD, hi]) ?_
  have := (cnt_range (openOf w caps (List.replicate w.length 0))).2
  rw [openOf_len] at this
  push_cast; omega
theorem capN_range (total : Int) (w caps : List Int) : ∀ n ∈ capN total w caps, -9223372036854775808 ≤ n ∧ n ≤ 9223372036854775807 := by
  by_cases h : capE total w caps = 0
  · have hg := cap_good h
    obtain ⟨_, _, _, hcl, hca⟩ := capE_ok h
    intro n hn
    obtain ⟨k, hk, rfl⟩ := List.getElem_of_mem hn
    have hk' : k < w.length := by have := hg.len; simp only [] at this; omega
    have a := hg.low k hk'
    have b := hg.cap k hk'
    have c := allR_get hca (k := k) (by omega)
    simp only [getD_at _ _ hk] at a b
    omega
  · rw [(cap_no h).1]; intro n hn; simp at hn
end SM
