import Derived.Test.YtgpdkidbmfngmaaShareG
namespace Go.Proofs.Ytgpdkidbmfngmaa
open Go.RowKit

set_option maxHeartbeats 1000000 in
theorem same_any (A B : Option Addr) (zs : List Int) (c d : Nat) (w : World) (hA : Ints w A zs) (hB : Ints w B zs) :
    Calls Try.prog 35 #[.slice A zs.length c, .slice B zs.length d] w fun e w' => e = .returned (.bool true) ∧ ∃ n, w' = w.drewN n := by
  have hlen := hA.len
  go_enter Try.func35, Try.ntmps35
  go_wp2
  go_loopw [5] (fun i wr => ∃ k : Nat, k ≤ zs.length ∧ i = .int .i64 k ∧ ∃ n, wr = w.drewN n) (fun i _ => zs.length - (intOf i).toNat)
  case atStart => exact ⟨0, by omega, rfl, 0, rfl⟩
  case round =>
    obtain ⟨k, hk, rfl, n, rfl⟩ := hrel
    by_cases hlt : k < zs.length
    · obtain ⟨b, off, v, rfl, hb, hcell, HV, v1, v2⟩ := hA.get hlt
      obtain ⟨b', off', v', rfl, hb', hcell', HV', v1', v2'⟩ := hB.get hlt
      have e : v' = v := HV'.out.symm.trans HV.out
      subst e
      clear HV HV'
      go_wp2
      go_quiet (fail)
      go_wp2
      go_roundw
      case rel => exact ⟨k + 1, by omega, by go_num, _, rfl⟩
      case measure => simp [intOf]; omega
    · go_wp2
      go_ret
      exact ⟨rfl, _, rfl⟩

set_option maxHeartbeats 1000000 in
theorem rsum2_any (A : Option Addr) (zs : List Int) (cap : Nat) (w : World) (hI : Ints w A zs) (hr : SM.allR zs = true) (ht : LM.tot zs ≤ 1152921504606846976) :
    Calls Try.prog 43 #[.slice A zs.length cap] w fun e w' => e = .returned (.int .i64 (LM.tot zs)) ∧ w = w' := by
  have hlen := hI.len
  have HR := Lib.hid hr
  clear hr
  go_enter Try.func43, Try.ntmps43
  go_wp2
  go_loop [3, 4] (fun s i => ∃ k : Nat, k ≤ zs.length ∧ i = .int .i64 k ∧ s = .int .i64 (LM.tot (zs.take k))) (fun _ i => zs.length - (intOf i).toNat)
  case atStart => exact ⟨0, by omega, rfl, rfl⟩
  case round =>
    obtain ⟨k, hk, rfl, rfl⟩ := hrel
    have s0 := SM.tot_nonneg (SM.allR_take HR.out k)
    have s1 := SM.tot_take_le HR.out k
    by_cases hlt : k < zs.length
    · obtain ⟨b, off, v, rfl, hb, hcell, HV, v1, v2⟩ := hI.get hlt
      obtain ⟨x0, x1⟩ := SM.allR_get HR.out hlt
      rw [HV.out] at x0 x1
      have HS : Hid (LM.tot (zs.take (k + 1)) = LM.tot (zs.take k) + v) := by
        show _ = _
        rw [LM.tot_take_succ _ _ hlt, HV.out]
      have HI := Lib.hid hI
      clear hI
      generalize LM.tot (zs.take k) = T at *
      go_wp2
      go_round
      case rel => exact ⟨k + 1, by omega, by go_num, by rw [HS.out]⟩
      case measure => simp [intOf]; omega
    · obtain rfl : k = zs.length := by omega
      go_wp2
      go_ret
      exact ⟨rfl, rfl⟩

/-- numbers in memory of their own, with 77 behind their end -/
def Lent (w : World) (B : Nat) (v : Value) (zs : List Int) : Prop :=
  ∃ g cap, v = .slice (some ⟨g, 0, none⟩) zs.length cap ∧ zs.length < cap ∧ Own w B (.slice (some ⟨g, 0, none⟩) (zs ++ [77]).length cap) (zs ++ [77])

theorem Lent.below {w w' : World} {B : Nat} {v : Value} {zs : List Int} (h : Lent w B v zs) (hb : Below w.heap.size w w') : Lent w' B v zs := by
  obtain ⟨g, cap, hv, hc, ho⟩ := h
  exact ⟨g, cap, hv, hc, ho.below hb⟩
theorem Lent.ints {w : World} {B : Nat} {v : Value} {zs : List Int} (h : Lent w B v zs) (hr : ∀ n ∈ zs, -9223372036854775808 ≤ n ∧ n ≤ 9223372036854775807) :
    ∃ g cap, v = .slice (some ⟨g, 0, none⟩) zs.length cap ∧ Ints w (some ⟨g, 0, none⟩) zs := by
  obtain ⟨g, cap, hv, hc, ho⟩ := h
  have hl := ho.len
  simp at hl
  refine ⟨g, cap, hv, by omega, hr, .inr ⟨g, 0, rfl, ho.ge.2, fun i hi => ?_⟩⟩
  have := ho.cell i (by simp; omega)
  rw [Nat.zero_add, this]
  simp only [List.getD, List.getElem?_append_left hi]

/-- 's = append(s, l...)', l the numbers ys of whatever slice, a nil one too -/
theorem wpList_extend {ops : Array Oper} {rest : List Oper} {o : Oper} {a : Act} {Q : Exit → Act → World → Prop} (w : World) (B : Nat) (zs ys : List Int) (s x : Operand)
    (hgd : o.guard = none) (ho : o.op = .call { callee := .builtin .append, args := #[s, x], argTypes := #[31, 31] })
    (v : Value) (A : Option Addr) (c : Nat) (hs : a.eval s = v) (hx : a.eval x = .slice A ys.length c) (hown : Own w B v zs) (hI : Ints w A ys) (hl : zs.length + ys.length < 1099511627776) (hB : B ≤ w.heap.size)
    (h : ∀ v' w', Own w' B v' (zs ++ ys) → Below B w w' → wpList Try.prog ops Q rest (a.put o.dst v') w') :
    wpList Try.prog ops Q (o :: rest) a w := by
  obtain ⟨i0, hi, hz0, hz1, hz2⟩ := info_parts info_int
  rcases A with _ | ad
  · have hy : ys = [] := by
      rcases hI.2.2 with h0 | ⟨b, off, h0, _⟩
      · exact h0
      · cases h0
    subst hy
    have hrun : (Builtin.append_ #[31, 31] o.type #[v, .slice none 0 c]).run Try.prog w = .ok v w := by
      rcases hown.2 with ⟨rfl, h0⟩ | ⟨g, cp, cur, rfl, _, _, hnc, _⟩
      · simp [Builtin.append_, run_underlying Try.underlying31, sizeOf, typeInfo, hi, Builtin.lenOf, Builtin.firstCells]
      · simp [Builtin.append_, run_underlying Try.underlying31, sizeOf, typeInfo, hi, Builtin.lenOf, Builtin.firstCells, hnc, storeCells]
    refine wpList_plain hgd fun K hK => ?_
    unfold Oper.wp
    simp only [List.length_nil] at hx
    simp [execOp, ho, resolve, invoke, builtin, hs, hx, hrun, Result.andThen]
    exact hK _ _ (h v w (by simpa using hown) (Below.refl _ _))
  · refine wpList_append_own w hgd s x 31 ho B 3 i0 (.int .i64 0) 1 8 Try.underlying31 hi hz0 hz1 hz2 rfl (by decide) v zs.length (zs.map (Value.int .i64)) hs hown
      ad ys.length c (ys.map (Value.int .i64)) hx (by simp) ?_ ?_ (by unfold maxLen; omega) (by omega) hB ?_
    · intro j u hj
      rcases hI.2.2 with h0 | ⟨b, off, h0, _, hc⟩
      · subst h0; simp at hj
      · injection h0 with h0
        subst h0
        have hj' : j < ys.length := by
          rcases Nat.lt_or_ge j ys.length with h1 | h1
          · exact h1
          · simp [List.getElem?_eq_none h1] at hj
        have e : (⟨b, off, none⟩ : Addr).add j = ⟨b, off + j, none⟩ := by
          unfold Addr.add
          by_cases h0 : j = 0
          · subst h0; simp
          · simp [h0]
        rw [e, hc j hj']
        rw [List.getElem?_map, List.getElem?_eq_getElem hj'] at hj
        simp at hj
        subst hj
        rw [LM.getD_at _ _ hj']
    · intro u hu; simp at hu; obtain ⟨n, _, rfl⟩ := hu; rfl
    · intro v' w' h1 h2 _
      exact h v' w' (by unfold Own; simpa using h1) ((Below.refl B w).grown h2 hB (Own.block hown))

set_option maxHeartbeats 1000000 in
theorem own_any (A : Option Addr) (zs : List Int) (cap : Nat) (w : World) (hI : Ints w A zs) (hl : zs.length ≤ 1048576) :
    Calls Try.prog 30 #[.slice A zs.length cap] w fun e w' => ∃ v, e = .returned v ∧ Lent w' w.heap.size v zs ∧ Below w.heap.size w w' := by
  go_enter Try.func30, Try.ntmps30
  go_wp2_with (at_builtin; refine wpList_extend _ w.heap.size [] zs _ _ rfl rfl _ _ _ rfl rfl (Own.empty w w.heap.size (Nat.le_refl _)) (hI.below ((Below.refl _ _).alloc (Nat.le_refl _) _)) (by simp; omega) (by simp) ?_)
  intro v1 w1 ho1 hb1
  have hB1 : Below w.heap.size w w1 := ((Below.refl _ _).alloc (Nat.le_refl _) _).trans hb1
  have hz := hB1.size
  go_wp2_with (at_builtin; refine wpList_push _ 77 w.heap.size _ _ _ rfl rfl _ rfl rfl ho1 ?c1 ?c2 ?_)
  case c1 => omega
  case c2 => exact hz
  intro v2 w2 ho2 hb2 _ _
  rcases ho2.form with ⟨_, h0⟩ | ⟨g, cp, hv2, hg, hg2, hcp⟩
  · simp at h0
  subst hv2
  have hcp2 : zs.length < cp := by simp at hcp; omega
  have hln : (zs ++ [77]).length = zs.length + 1 := by simp
  have HO := Lib.hid ho2
  clear ho1 ho2
  rw [hln]
  go_wp2
  go_ret
  exact ⟨_, rfl, ⟨g, cp, rfl, hcp2, HO.out⟩, hB1.trans hb2⟩

set_option maxHeartbeats 1000000 in
theorem kept_any (v : Value) (B : Nat) (A : Option Addr) (zs : List Int) (cap : Nat) (w : World) (hL : Lent w B v zs) (hI : Ints w A zs) (hl : zs.length ≤ 1048576) :
    Calls Try.prog 36 #[v, .slice A zs.length cap] w fun e w' => e = .returned (.bool true) ∧ ∃ n, w' = w.drewN n := by
  obtain ⟨g, cp, hv, hI2⟩ := hL.ints hI.2.1
  obtain ⟨g', cp', hv', hc, ho⟩ := hL
  rw [hv] at hv'
  obtain ⟨rfl, rfl⟩ : g = g' ∧ cp = cp' := by injection hv' with h1 h2 h3; injection h1 with h1; injection h1 with h1; exact ⟨h1, h3⟩
  subst hv
  have h77 := ho.cell zs.length (by simp)
  have e : (zs ++ [77]).getD zs.length 0 = 77 := by simp
  rw [e] at h77
  clear hv' ho e
  go_enter Try.func36, Try.ntmps36
  go_wp2_with (go_at_call 35; refine (same_any _ _ _ _ _ _ hI2 hI).mono ?_; rintro e w' ⟨rfl, n, rfl⟩)
  go_ret
  exact ⟨rfl, _, rfl⟩
end Go.Proofs.Ytgpdkidbmfngmaa
