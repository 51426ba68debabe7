/- Contracts of layer 11: lists with one more. -/
import Derived.Test.YtlnllbcpbohahabMemF
namespace Go.Proofs.Ytlnllbcpbohahab
open Go.RowKit Go.Recs
set_option linter.unusedVariables false
set_option linter.unusedSimpArgs false

set_option maxHeartbeats 4000000 in
theorem ains_any (A : Option Addr) (rows : List (List Value)) (n cap k : Nat) (c : MM.Ac) (w : World) (hn : n = rows.length) (hk : k ≤ rows.length) (hc : rows.length ≤ cap) (h1 : ∀ r ∈ rows, ∀ u ∈ r, u.oneCell' = true) (hI : Recs w A 2 rows) (hl : rows.length ≤ 1000) :
    Calls Try.prog 32 #[.slice A n cap, .int .i64 (k : Int), .agg (accC c)] w fun e w' => ∃ v, e = .returned v ∧ OwnR w' w.heap.size 26 2 v (rows.take k ++ (accC c).toList :: rows.drop k) ∧ Below w.heap.size w w' := by
  subst hn
  have HB0 := Lib.hid ((Below.refl w.heap.size w).alloc (Nat.le_refl _) (.cells (accC c) 26))
  have HM := Lib.hid (CB.new w 26 (accC c))
  have E1 : ∀ w, (Instr.slice 27 (.slice A rows.length cap) none (some (.int .i64 (k : Int))) (some (.int .i64 (k : Int)))).run Try.prog w = .ok (.slice (cutR A k 0 2) k k) w := fun w => run_full Try.underlying27 info_acc (by omega) w
  have E2 : ∀ w, (Instr.slice 27 (.slice A rows.length cap) (some (.int .i64 (k : Int))) none none).run Try.prog w = .ok (.slice (cutR A cap k 2) (rows.length - k) (cap - k)) w := fun w => run_fromR Try.underlying27 info_acc hk w
  have HA1 := Lib.hid (Recs.cut (hI.below HB0.out) (m := k) (lo := 0) (hi := k) (Nat.zero_le _) hk (Nat.le_refl _))
  have HA2 : Hid (Recs (w.alloc (.cells (accC c) 26)) (cutR A cap k 2) 2 (rows.drop k)) := Lib.hid (by
    have := Recs.cut (hI.below HB0.out) (m := cap) (lo := k) (hi := rows.length) hk (Nat.le_refl _) hc
    rwa [List.take_length] at this)
  rw [List.drop_zero] at HA1
  have HT : Hid ((rows.take k).length = k) := Lib.hid (by rw [List.length_take]; omega)
  have HD : Hid ((rows.drop k).length = rows.length - k) := Lib.hid (List.length_drop ..)
  have H1d : Hid (∀ r ∈ rows.drop k, ∀ u ∈ r, u.oneCell' = true) := Lib.hid (fun r hr => h1 r (List.mem_of_mem_drop hr))
  have HX1 : Hid (∀ u ∈ (accC c).toList, u.oneCell' = true) := Lib.hid (fun u hu => by
    simp only [List.mem_cons, List.not_mem_nil, or_false] at hu
    rcases hu with rfl | rfl <;> rfl)
  have HK := Lib.hid hk; have HL := Lib.hid hl
  have HE : Hid (rows.take k ++ [(accC c).toList] ++ rows.drop k = rows.take k ++ (accC c).toList :: rows.drop k) := Lib.hid (by simp)
  have S1 : Hid (((rows.take k).length + 1) * 24 ≤ 140737488355328 ∧ (rows.take k).length + 1 ≤ maxLen) := Lib.hid (by rw [HT.out]; simp only [maxLen]; omega)
  have S2 : Hid (((rows.take k ++ [(accC c).toList]).length + (rows.drop k).length) * 24 ≤ 140737488355328 ∧ (rows.take k ++ [(accC c).toList]).length + (rows.drop k).length ≤ maxLen) := Lib.hid (by rw [HD.out, List.length_append, HT.out]; simp only [maxLen, List.length_singleton]; omega)
  clear hI h1 hc
  go_enter Try.func32, Try.ntmps32
  go_wp2_with fail
  generalize w.alloc (.cells (accC c) 26) = w0 at *
  have hlt : w.heap.size < w0.heap.size := HM.out.lt
  have HBD : Hid (Below w0.heap.size w0 w0.drew) := Lib.hid (Below.refl _ _).drew
  have c0 := HM.out.cell 0; have c1 := HM.out.cell 1
  simp at c0 c1
  go_region_law (first
    | (refine step_growR w0.drew (accC c).toList HX1.out (rows.take k) _ _ _ 26 2 24 _ Try.underlying27 info_acc rfl (by decide) rfl rfl rfl (cutR A k 0 2) k k (by simp [Act.eval, Act.put]) (by simp [Act.eval, Act.put]) HT.out.symm rfl HA1.out S1.out.1 S1.out.2 ?_; intro v1 w1 hO1 hB1)
    | (refine step_catR _ w0.heap.size (rows.take k ++ [(accC c).toList]) (rows.drop k) _ _ _ 26 2 24 _ Try.underlying27 info_acc rfl (by decide) rfl rfl _ (cutR A cap k 2) (rows.length - k) (cap - k) (by simp [Act.eval, Act.put]) (by simp [Act.eval, Act.put]) HD.out.symm hO1 (HA2.out.below (HBD.out.trans hB1)) H1d.out S2.out.1 S2.out.2 hB1.size ?_; intro v2 w2 hO2 hB2))
  all_goals (
    have HO2 : Hid (OwnR w2 w.heap.size 26 2 v2 (rows.take k ++ (accC c).toList :: rows.drop k)) := Lib.hid (by rw [← HE.out]; exact hO2.lower (by omega))
    have HB3 : Hid (Below w.heap.size w w2) := Lib.hid (HB0.out.trans ((HBD.out.trans (hB1.trans hB2)).mono (by omega)))
    clear hO1 hB1 hO2 hB2
    go_wp2_with fail
    go_ret
    exact ⟨_, rfl, HO2.out, HB3.out⟩)

set_option maxHeartbeats 4000000 in
theorem mins_any (A : Option Addr) (rows : List (List Value)) (n cap k : Nat) (c : MM.Mem) (A9 : Option Addr) (cap9 : Nat) (w : World) (hn : n = rows.length) (hk : k ≤ rows.length) (hc : rows.length ≤ cap) (h1 : ∀ r ∈ rows, ∀ u ∈ r, u.oneCell' = true) (hI : Recs w A 3 rows) (hl : rows.length ≤ 1000) :
    Calls Try.prog 18 #[.slice A n cap, .int .i64 (k : Int), .agg (memC c A9 cap9)] w fun e w' => ∃ v, e = .returned v ∧ OwnR w' w.heap.size 29 3 v (rows.take k ++ (memC c A9 cap9).toList :: rows.drop k) ∧ Below w.heap.size w w' := by
  subst hn
  have HB0 := Lib.hid ((Below.refl w.heap.size w).alloc (Nat.le_refl _) (.cells (memC c A9 cap9) 29))
  have HM := Lib.hid (CB.new w 29 (memC c A9 cap9))
  have E1 : ∀ w, (Instr.slice 30 (.slice A rows.length cap) none (some (.int .i64 (k : Int))) (some (.int .i64 (k : Int)))).run Try.prog w = .ok (.slice (cutR A k 0 3) k k) w := fun w => run_full Try.underlying30 info_mem (by omega) w
  have E2 : ∀ w, (Instr.slice 30 (.slice A rows.length cap) (some (.int .i64 (k : Int))) none none).run Try.prog w = .ok (.slice (cutR A cap k 3) (rows.length - k) (cap - k)) w := fun w => run_fromR Try.underlying30 info_mem hk w
  have HA1 := Lib.hid (Recs.cut (hI.below HB0.out) (m := k) (lo := 0) (hi := k) (Nat.zero_le _) hk (Nat.le_refl _))
  have HA2 : Hid (Recs (w.alloc (.cells (memC c A9 cap9) 29)) (cutR A cap k 3) 3 (rows.drop k)) := Lib.hid (by
    have := Recs.cut (hI.below HB0.out) (m := cap) (lo := k) (hi := rows.length) hk (Nat.le_refl _) hc
    rwa [List.take_length] at this)
  rw [List.drop_zero] at HA1
  have HT : Hid ((rows.take k).length = k) := Lib.hid (by rw [List.length_take]; omega)
  have HD : Hid ((rows.drop k).length = rows.length - k) := Lib.hid (List.length_drop ..)
  have H1d : Hid (∀ r ∈ rows.drop k, ∀ u ∈ r, u.oneCell' = true) := Lib.hid (fun r hr => h1 r (List.mem_of_mem_drop hr))
  have HX1 : Hid (∀ u ∈ (memC c A9 cap9).toList, u.oneCell' = true) := Lib.hid (fun u hu => by
    simp only [List.mem_cons, List.not_mem_nil, or_false] at hu
    rcases hu with rfl | rfl | rfl <;> rfl)
  have HK := Lib.hid hk; have HL := Lib.hid hl
  have HE : Hid (rows.take k ++ [(memC c A9 cap9).toList] ++ rows.drop k = rows.take k ++ (memC c A9 cap9).toList :: rows.drop k) := Lib.hid (by simp)
  have S1 : Hid (((rows.take k).length + 1) * 48 ≤ 140737488355328 ∧ (rows.take k).length + 1 ≤ maxLen) := Lib.hid (by rw [HT.out]; simp only [maxLen]; omega)
  have S2 : Hid (((rows.take k ++ [(memC c A9 cap9).toList]).length + (rows.drop k).length) * 48 ≤ 140737488355328 ∧ (rows.take k ++ [(memC c A9 cap9).toList]).length + (rows.drop k).length ≤ maxLen) := Lib.hid (by rw [HD.out, List.length_append, HT.out]; simp only [maxLen, List.length_singleton]; omega)
  clear hI h1 hc
  go_enter Try.func18, Try.ntmps18
  go_wp2_with fail
  generalize w.alloc (.cells (memC c A9 cap9) 29) = w0 at *
  have hlt : w.heap.size < w0.heap.size := HM.out.lt
  have HBD : Hid (Below w0.heap.size w0 w0.drew) := Lib.hid (Below.refl _ _).drew
  have c0 := HM.out.cell 0; have c1 := HM.out.cell 1; have c2 := HM.out.cell 2
  simp at c0 c1 c2
  go_region_law (first
    | (refine step_growR w0.drew (memC c A9 cap9).toList HX1.out (rows.take k) _ _ _ 29 3 48 _ Try.underlying30 info_mem rfl (by decide) rfl rfl rfl (cutR A k 0 3) k k (by simp [Act.eval, Act.put]) (by simp [Act.eval, Act.put]) HT.out.symm rfl HA1.out S1.out.1 S1.out.2 ?_; intro v1 w1 hO1 hB1)
    | (refine step_catR _ w0.heap.size (rows.take k ++ [(memC c A9 cap9).toList]) (rows.drop k) _ _ _ 29 3 48 _ Try.underlying30 info_mem rfl (by decide) rfl rfl _ (cutR A cap k 3) (rows.length - k) (cap - k) (by simp [Act.eval, Act.put]) (by simp [Act.eval, Act.put]) HD.out.symm hO1 (HA2.out.below (HBD.out.trans hB1)) H1d.out S2.out.1 S2.out.2 hB1.size ?_; intro v2 w2 hO2 hB2))
  all_goals (
    have HO2 : Hid (OwnR w2 w.heap.size 29 3 v2 (rows.take k ++ (memC c A9 cap9).toList :: rows.drop k)) := Lib.hid (by rw [← HE.out]; exact hO2.lower (by omega))
    have HB3 : Hid (Below w.heap.size w w2) := Lib.hid (HB0.out.trans ((HBD.out.trans (hB1.trans hB2)).mono (by omega)))
    clear hO1 hB1 hO2 hB2
    go_wp2_with fail
    go_ret
    exact ⟨_, rfl, HO2.out, HB3.out⟩)
end Go.Proofs.Ytlnllbcpbohahab
