import Derived.Test.YtgpdkidbmfngmaaShareI
import Derived.Test.YtgpdkidbmfngmaaCapMath
namespace Go.Proofs.Ytgpdkidbmfngmaa
open Go.RowKit

/-- of what was there only blocks of S may have turned -/
structure Only (S : Nat → Prop) (w w' : World) : Prop where
  os : w'.os = w.os
  tape : w'.tape = w.tape
  output : w'.output = w.output
  size : w.heap.size ≤ w'.heap.size
  block : ∀ b, b < w.heap.size → ¬ S b → w'.heap[b]? = w.heap[b]?

theorem Only.refl (S : Nat → Prop) (w : World) : Only S w w := ⟨rfl, rfl, rfl, Nat.le_refl _, fun _ _ _ => rfl⟩
theorem Only.setCell {S : Nat → Prop} {a w : World} (h : Only S a w) {p : Addr} (hp : S p.block) (u : Value) : Only S a (w.setCell p u) :=
  ⟨h.os, h.tape, h.output, by simpa [World.setCell] using h.size, fun b hb hs => (Below.heap_setCell w p u b (fun e => hs (by rw [e]; exact hp))).trans (h.block b hb hs)⟩
theorem Only.drewN {S : Nat → Prop} {a w : World} (h : Only S a w) (n : Nat) : Only S a (w.drewN n) := ⟨h.os, h.tape, h.output, h.size, h.block⟩
theorem Only.row {S : Nat → Prop} {w w' : World} {g : Nat} {zs : List Int} (h : Only S w w') (hr : Row w g zs) (hs : ¬ S g) : Row w' g zs := (h.block g hr.lt hs).trans hr
theorem Only.below {S : Nat → Prop} {w w' : World} {B : Nat} (h : Only S w w') (hS : ∀ b, S b → B ≤ b) (hB : B ≤ w.heap.size) : Below B w w' :=
  ⟨h.os, h.tape, h.output, h.size, fun k hk => h.block k (by omega) (fun hs => by have := hS k hs; omega)⟩

theorem pre_tab_skip (n : Nat) (f g : Nat → Int) (k : Nat) (h : f k = g k) : (SM.tab n fun i => if i < k then f i else g i) = SM.tab n fun i => if i < k + 1 then f i else g i :=
  SM.tab_congr fun i _ => by
    by_cases e : i = k
    · subst e; simp [h]
    · by_cases h1 : i < k
      · simp [h1, show i < k + 1 by omega]
      · simp [h1, show ¬ i < k + 1 by omega]

set_option maxHeartbeats 1000000 in
theorem openweights_any (A C : Option Addr) (zs caps : List Int) (ca cc : Nat) (w : World) (hA : Ints w A zs) (hC : Ints w C caps) (hl : zs.length ≤ 1024) (hcl : caps.length = zs.length) :
    Calls Try.prog 58 #[.slice A zs.length ca, .slice C zs.length cc] w fun e w' => ∃ g, e = .returned (.slice (some ⟨g, 0, none⟩) zs.length zs.length) ∧ w.heap.size ≤ g ∧
      Row w' g (SM.openOf zs caps (List.replicate zs.length 0)) ∧ Below w.heap.size w w' := by
  have hmk := make_ints zs.length (by omega)
  have HCL := Lib.hid hcl
  have HO : Hid (SM.openOf zs caps (List.replicate zs.length 0) = SM.tab zs.length fun i => if 0 < caps.getD i 0 then zs.getD i 0 else 0) :=
    SM.tab_congr fun i hi => by simp [List.getD, hi]
  clear hcl
  go_enter Try.func58, Try.ntmps58
  go_wp2
  go_loopw [12] (fun i wr => ∃ k : Nat, k ≤ zs.length ∧ i = .int .i64 k ∧ Row wr w.heap.size (SM.tab zs.length fun i => if i < k then (if 0 < caps.getD i 0 then zs.getD i 0 else 0) else 0) ∧ Below w.heap.size w wr) (fun i _ => zs.length - (intOf i).toNat)
  case atStart =>
    refine ⟨0, by omega, rfl, ?_, (Below.refl _ _).alloc (Nat.le_refl _) _⟩
    rw [SM.pre_tab_zero]
    have : (SM.tab zs.length fun _ => 0) = List.replicate zs.length 0 := by
      unfold SM.tab
      rw [List.map_const', List.length_range]
    rw [this]; exact Row.made w _
  case round =>
    obtain ⟨k, hk, rfl, hR, hB⟩ := hrel
    by_cases hlt : k < zs.length
    · obtain ⟨b, off, v, rfl, hb, hcell, HV, v1, v2⟩ := (hA.below hB).get hlt
      obtain ⟨b', off', u, rfl, hb', hcell', HU, u1, u2⟩ := (hC.below hB).get (k := k) (by rw [HCL.out]; exact hlt)
      obtain ⟨o, hc⟩ : ∃ o, wr.cell? ⟨w.heap.size, k, none⟩ = some (.int .i64 o) := ⟨_, hR.cell k (by rw [SM.tab_len]; exact hlt)⟩
      have hf := hR.frozen k
      by_cases hp : 0 < u
      · have HS := Lib.hid (SM.pre_tab_set zs.length (fun i => if 0 < caps.getD i 0 then zs.getD i 0 else 0) (fun _ => 0) k)
        simp only [HU.out, HV.out, if_pos hp] at HS
        have HR := Lib.hid (And.intro (hR.set_ k v) (hB.setCell (p := ⟨w.heap.size, k, none⟩) (Nat.le_refl _) (.int .i64 v)))
        clear hR hB
        go_wp2
        go_roundw
        case rel => exact ⟨k + 1, by omega, by go_num, by rw [← HS.out]; exact HR.out.1, HR.out.2⟩
        case measure => simp [intOf]; omega
      · have HS := Lib.hid (pre_tab_skip zs.length (fun i => if 0 < caps.getD i 0 then zs.getD i 0 else 0) (fun _ => 0) k (by simp only [HU.out, if_neg hp]))
        have HR := Lib.hid (And.intro hR hB)
        clear hR hB
        go_wp2
        go_roundw
        case rel => exact ⟨k + 1, by omega, by go_num, by rw [← HS.out]; exact HR.out.1, HR.out.2⟩
        case measure => simp [intOf]; omega
    · obtain rfl : k = zs.length := by omega
      rw [SM.pre_tab_full] at hR
      go_wp2
      go_ret
      exact ⟨_, rfl, Nat.le_refl _, by rw [HO.out]; exact hR, hB⟩

set_option maxHeartbeats 2000000 in
theorem takecaps_any (C : Option Addr) (P O l caps : List Int) (g1 g2 g3 n cc : Nat) (w0 w : World) (hC : Ints w0 C caps) (hB0 : Below w0.heap.size w0 w) (b1 : w0.heap.size ≤ g1) (b2 : w0.heap.size ≤ g2)
    (h1 : Row w g1 P) (h2 : Row w g2 O) (h3 : Row w g3 l) (e12 : g1 ≠ g2) (e13 : g1 ≠ g3) (e23 : g2 ≠ g3) (nP : P.length = n) (nO : O.length = n) (nl : l.length = n) (nc : caps.length = n) (hn : n ≤ 1024)
    (hc0 : SM.allR caps = true) (hl0 : ∀ i, i < n → 0 ≤ l.getD i 0) (hlt : LM.tot l ≤ 1152921504606846976) :
    Calls Try.prog 59 #[.slice (some ⟨g1, 0, none⟩) n n, .slice (some ⟨g2, 0, none⟩) n n, .slice (some ⟨g3, 0, none⟩) n n, .slice C n cc] w fun e w' =>
      e = .returned (.int .i64 (SM.capTaken l caps)) ∧ Row w' g1 (SM.capOut l caps P) ∧ Row w' g2 (SM.tab n fun i => if caps.getD i 0 < l.getD i 0 then 0 else O.getD i 0) ∧ Only (fun b => b = g1 ∨ b = g2) w w' := by
  have HT : Hid (SM.capTaken l caps = LM.tot (SM.tab n fun i => if caps.getD i 0 < l.getD i 0 then caps.getD i 0 else 0)) := by show _ = _; unfold SM.capTaken; rw [nl]
  have HO : Hid (SM.capOut l caps P = SM.tab n fun i => if caps.getD i 0 < l.getD i 0 then caps.getD i 0 else P.getD i 0) := by show _ = _; unfold SM.capOut; rw [nP]
  have HTB : Hid (∀ k, k ≤ n → 0 ≤ LM.tot (SM.tab k fun i => if caps.getD i 0 < l.getD i 0 then caps.getD i 0 else 0) ∧ LM.tot (SM.tab k fun i => if caps.getD i 0 < l.getD i 0 then caps.getD i 0 else 0) ≤ 1152921504606846976) := fun k hk => by
    have hc : ∀ i, i < n → 0 ≤ caps.getD i 0 := fun i hi => (SM.allR_get hc0 (by omega)).1
    refine ⟨SM.tot_tab_nonneg fun i hi => by have := hc i (by omega); split <;> omega, ?_⟩
    have a : LM.tot (SM.tab k fun i => if caps.getD i 0 < l.getD i 0 then caps.getD i 0 else 0) ≤ LM.tot (SM.tab k fun i => l.getD i 0) :=
      SM.tot_tab_le fun i hi => by have := hl0 i (by omega); split <;> omega
    have b : (SM.tab k fun i => l.getD i 0) = l.take k := by
      apply List.ext_getElem
      · simp [SM.tab]; omega
      · intro i h1 h2
        have h3 : i < l.length := by rw [List.length_take] at h2; omega
        simp [SM.tab, List.getD, h3]
    have c := SM.elem_take_le l k (fun j hj => hl0 j (by omega))
    rw [b] at a
    omega
  have HP0 : Hid (P = SM.tab n fun i => P.getD i 0) := by show _ = _; conv => lhs; rw [← SM.tab_self P, nP]
  have HO0 : Hid (O = SM.tab n fun i => O.getD i 0) := by show _ = _; conv => lhs; rw [← SM.tab_self O, nO]
  have HC0 := Lib.hid hc0
  have NL := Lib.hid nl
  have NC := Lib.hid nc
  have HB0 := Lib.hid hB0
  clear nP nO nl nc hlt hc0
  go_enter Try.func59, Try.ntmps59
  go_wp2
  go_loopw [8, 13] (fun t i wr => ∃ k : Nat, k ≤ n ∧ i = .int .i64 k ∧ t = .int .i64 (LM.tot (SM.tab k fun i => if caps.getD i 0 < l.getD i 0 then caps.getD i 0 else 0)) ∧
      Row wr g1 (SM.tab n fun i => if i < k then (if caps.getD i 0 < l.getD i 0 then caps.getD i 0 else P.getD i 0) else P.getD i 0) ∧
      Row wr g2 (SM.tab n fun i => if i < k then (if caps.getD i 0 < l.getD i 0 then 0 else O.getD i 0) else O.getD i 0) ∧ Only (fun b => b = g1 ∨ b = g2) w wr) (fun _ i _ => n - (intOf i).toNat)
  case atStart =>
    refine ⟨0, by omega, rfl, rfl, ?_, ?_, Only.refl _ _⟩
    · rw [SM.pre_tab_zero, ← HP0.out]; exact h1
    · rw [SM.pre_tab_zero, ← HO0.out]; exact h2
  case round =>
    obtain ⟨k, hk, rfl, rfl, hR1, hR2, hO⟩ := hrel
    obtain ⟨t0, t1⟩ := HTB.out k hk
    by_cases hlt : k < n
    · have hbel : Below w0.heap.size w0 wr := HB0.out.trans (hO.below (by intro b hb; rcases hb with rfl | rfl <;> assumption) HB0.out.size)
      obtain ⟨b', off', u, rfl, hb', hcell', HU, u1, u2⟩ := (hC.below hbel).get (k := k) (by rw [NC.out]; exact hlt)
      obtain ⟨u3, u4⟩ := SM.allR_get HC0.out (k := k) (by rw [NC.out]; exact hlt)
      rw [HU.out] at u3 u4
      have hR3 := hO.row h3 (by intro hs; rcases hs with hs | hs; exact e13 hs.symm; exact e23 hs.symm)
      obtain ⟨v, hv⟩ : ∃ v, l.getD k 0 = v := ⟨_, rfl⟩
      have hcv := hR3.cell k (by rw [NL.out]; exact hlt)
      rw [hv] at hcv
      have HV := Lib.hid hv
      obtain ⟨o1, hc1⟩ : ∃ o, wr.cell? ⟨g1, k, none⟩ = some (.int .i64 o) := ⟨_, hR1.cell k (by rw [SM.tab_len]; exact hlt)⟩
      obtain ⟨o2, hc2⟩ : ∃ o, wr.cell? ⟨g2, k, none⟩ = some (.int .i64 o) := ⟨_, hR2.cell k (by rw [SM.tab_len]; exact hlt)⟩
      have hf1 := hR1.frozen k
      have hf2 := hR2.frozen k
      have HTS := Lib.hid (SM.tot_tab_succ k fun i => if caps.getD i 0 < l.getD i 0 then caps.getD i 0 else 0)
      obtain ⟨t2, t3⟩ := HTB.out (k + 1) (by omega)
      rw [HTS.out] at t2 t3
      simp only [HU.out, hv] at HTS t2 t3
      clear hv
      have hbne : b' ≠ g1 ∧ b' ≠ g2 := by
        have h0 : b' < w0.heap.size := by
          rcases hC.2.2 with h | ⟨b, off, h, hb, _⟩
          · subst h; have := NC.out; simp at this; omega
          · injection h with h; injection h with h; rw [h]; exact hb
        omega
      by_cases hov : u < v
      · rw [if_pos hov] at HTS t2 t3
        have HS1 := Lib.hid (SM.pre_tab_set n (fun i => if caps.getD i 0 < l.getD i 0 then caps.getD i 0 else P.getD i 0) (fun i => P.getD i 0) k)
        have HS2 := Lib.hid (SM.pre_tab_set n (fun i => if caps.getD i 0 < l.getD i 0 then 0 else O.getD i 0) (fun i => O.getD i 0) k)
        simp only [HU.out, HV.out, if_pos hov] at HS1 HS2
        have HR : Hid (Row ((wr.setCell ⟨g1, k, none⟩ (.int .i64 u)).setCell ⟨g2, k, none⟩ (.int .i64 0)) g1 _ ∧ Row ((wr.setCell ⟨g1, k, none⟩ (.int .i64 u)).setCell ⟨g2, k, none⟩ (.int .i64 0)) g2 _ ∧
            Only (fun b => b = g1 ∨ b = g2) w ((wr.setCell ⟨g1, k, none⟩ (.int .i64 u)).setCell ⟨g2, k, none⟩ (.int .i64 0))) :=
          ⟨(hR1.set_ k u).far (p := ⟨g2, k, none⟩) e12 _, (hR2.far (p := ⟨g1, k, none⟩) e12.symm _).set_ k 0, (hO.setCell (p := ⟨g1, k, none⟩) (.inl rfl) _).setCell (p := ⟨g2, k, none⟩) (.inr rfl) _⟩
        clear hR1 hR2 hR3
        generalize LM.tot (SM.tab k fun i => if caps.getD i 0 < l.getD i 0 then caps.getD i 0 else 0) = T at *
        obtain ⟨nb1, nb2⟩ := hbne
        go_wp2
        go_roundw
        case rel => exact ⟨k + 1, by omega, by go_num, by rw [HTS.out], by rw [← HS1.out]; exact HR.out.1, by rw [← HS2.out]; exact HR.out.2.1, HR.out.2.2⟩
        case measure => simp [intOf]; omega
      · rw [if_neg hov] at HTS
        have HS1 := Lib.hid (pre_tab_skip n (fun i => if caps.getD i 0 < l.getD i 0 then caps.getD i 0 else P.getD i 0) (fun i => P.getD i 0) k (by simp only [HU.out, HV.out, if_neg hov]))
        have HS2 := Lib.hid (pre_tab_skip n (fun i => if caps.getD i 0 < l.getD i 0 then 0 else O.getD i 0) (fun i => O.getD i 0) k (by simp only [HU.out, HV.out, if_neg hov]))
        have HR := Lib.hid (And.intro hR1 (And.intro hR2 hO))
        clear hR1 hR2 hR3 t2 t3
        generalize LM.tot (SM.tab k fun i => if caps.getD i 0 < l.getD i 0 then caps.getD i 0 else 0) = T at *
        go_wp2
        go_roundw
        case rel => exact ⟨k + 1, by omega, by go_num, by rw [HTS.out]; go_num, by rw [← HS1.out]; exact HR.out.1, by rw [← HS2.out]; exact HR.out.2.1, HR.out.2.2⟩
        case measure => simp [intOf]; omega
    · obtain rfl : k = n := by omega
      rw [SM.pre_tab_full] at hR1 hR2
      go_wp2
      go_ret
      exact ⟨by rw [HT.out]; rfl, by rw [HO.out]; exact hR1, hR2, hO⟩
end Go.Proofs.Ytgpdkidbmfngmaa
