/- Contracts of layer 11: Open. -/
import Derived.Test.YtlnllbcpbohahabMemJ
namespace Go.Proofs.Ytlnllbcpbohahab
open Go.RowKit Go.Recs
set_option linter.unusedVariables false
set_option linter.unusedSimpArgs false

theorem op_name {l : List MM.Ac} {n : ByteArray} {k : Int} (h : MM.okN n = false) : MM.opE l n k = 10 := by unfold MM.opE; rw [if_pos h]
theorem op_kind {l : List MM.Ac} {n : ByteArray} {k : Int} (h : MM.okN n = true) (h2 : MM.kindOk k = false) : MM.opE l n k = 21 := by unfold MM.opE; rw [if_neg (by simp [h]), if_pos h2]
theorem op_there {l : List MM.Ac} {n : ByteArray} {k : Int} (h : MM.okN n = true) (h2 : MM.kindOk k = true) (h3 : (MM.pa l n).isSome = true) : MM.opE l n k = 12 := by unfold MM.opE; rw [if_neg (by simp [h]), if_neg (by simp [h2]), if_pos h3]
theorem op_long {l : List MM.Ac} {n : ByteArray} {k : Int} (h : MM.okN n = true) (h2 : MM.kindOk k = true) (h3 : (MM.pa l n).isSome = false) (h4 : 16 ≤ l.length) : MM.opE l n k = 8 := by unfold MM.opE; rw [if_neg (by simp [h]), if_neg (by simp [h2]), if_neg (by simp [h3]), if_pos h4]
theorem op_yes {l : List MM.Ac} {n : ByteArray} {k : Int} (h : MM.okN n = true) (h2 : MM.kindOk k = true) (h3 : (MM.pa l n).isSome = false) (h4 : ¬ 16 ≤ l.length) : MM.opE l n k = 0 := by unfold MM.opE; rw [if_neg (by simp [h]), if_neg (by simp [h2]), if_neg (by simp [h3]), if_neg h4]

set_option maxHeartbeats 8000000 in
theorem opened_any (A : Option Addr) (l : List MM.Ac) (cap : Nat) (a : MM.Ac) (w : World) (hI : Accs w A l) (hcap : l.length ≤ cap) (hl : l.length ≤ 16) (ha : accQ a) :
    Calls Try.prog 19 #[.slice A l.length cap, accA a] w fun e w' => ∃ v, e = .returned (.tuple #[v, .int .i64 (MM.opE l a.name a.kind)]) ∧ (MM.opE l a.name a.kind = 0 → ∃ A' cap', v = .slice A' (MM.insA a l).length cap' ∧ Accs w' A' (MM.insA a l) ∧ (MM.insA a l).length ≤ cap') ∧ Below w.heap.size w w' := by
  have hmf : ∀ (fn : Fn) (first cap : Array Value) (w : World), (Instr.makeFunc fn first cap).run Try.prog w = .ok (.func fn first cap) w := fun _ _ _ _ => rfl
  have hlen := hI.len
  have HB0 := Lib.hid ((Below.refl w.heap.size w).alloc (Nat.le_refl _) (.cells (accC a) 26))
  have HG0 := Lib.hid (CB.new w 26 (accC a))
  have HI := Lib.hid hI
  have C1 := Lib.hid (fun ww => name_any a.name ww ha.1)
  have CK := Lib.hid (fun ww => isKind_any a.kind ww)
  have C2 := Lib.hid (fun ww h => apl_any A l cap a.name ww h)
  have C3 := Lib.hid (fun g ww h hg => aplace2_any A l cap g a ww h hg)
  have C4 := Lib.hid (fun (k : Nat) ww h1 h2 h3 h4 h5 h6 => ains_any A (l.map accV) l.length cap k a ww h1 h2 h3 h4 h5 h6)
  have KI : Hid (MM.insA a l = l.take (MM.at_ (fun m => MM.lt a.name m.name) l) ++ a :: l.drop (MM.at_ (fun m => MM.lt a.name m.name) l) ∧ MM.at_ (fun m => MM.lt a.name m.name) l ≤ l.length) := Lib.hid ⟨MM.ins_at _ _ _, MM.at_le _ _⟩
  have K1 := Lib.hid (@op_name l a.name a.kind); have K2 := Lib.hid (@op_kind l a.name a.kind); have K3 := Lib.hid (@op_there l a.name a.kind); have K4 := Lib.hid (@op_long l a.name a.kind); have K5 := Lib.hid (@op_yes l a.name a.kind)
  have eN : MM.okN a.name = WM.name (L a.name) := rfl
  rw [eN] at K1 K2 K3 K4 K5
  have HQ : Hid (∀ b ∈ a :: l, accQ b) := Lib.hid (fun b hb => by
    rcases List.mem_cons.1 hb with rfl | hb
    · exact ha
    · exact hI.2 b hb)
  have HMI : Hid (∀ b ∈ MM.insA a l, b ∈ a :: l) := Lib.hid (fun b hb => by
    rcases (MM.ins_mem _ _ _ _).1 hb with rfl | hb
    · simp
    · simp [hb])
  clear hI ha eN
  generalize MM.opE l a.name a.kind = r at *
  generalize MM.insA a l = il at *
  generalize MM.at_ (fun m => MM.lt a.name m.name) l = k at *
  generalize (l.findIdx? (fun m => MM.lt a.name m.name)).isSome = y2 at *
  generalize (MM.pa l a.name).isSome = y at *
  generalize plN (MM.pa l a.name) l.length = x at *
  generalize WM.name (L a.name) = b0 at *
  generalize MM.kindOk a.kind = b1 at *
  go_enter Try.func19, Try.ntmps19
  go_wp2_with fail
  generalize w.alloc (.cells #[.string a.name, .int .i64 a.kind] 26) = w0 at *
  refine (C1.out _).mono ?_
  rintro e w1 ⟨rfl, rfl⟩
  cases b0
  · have HX := Lib.hid (K1.out (by trivial))
    go_wp2_with fail
    go_ret2
    exact ⟨_, by rw [HX.out] <;> rfl, (fun h => by rw [HX.out] at h; cases h), HB0.out⟩
  have c0 : w0.cell? ⟨w.heap.size, 0, none⟩ = some (.string a.name) := HG0.out.cell 0
  have c1 : w0.cell? ⟨w.heap.size, 1, none⟩ = some (.int .i64 a.kind) := HG0.out.cell 1
  go_wp2_with fail
  refine (CK.out _).mono ?_
  rintro e w1 ⟨rfl, rfl⟩
  cases b1
  · have HX := Lib.hid (K2.out (by trivial) (by trivial))
    go_wp2_with fail
    go_ret2
    exact ⟨_, by rw [HX.out] <;> rfl, (fun h => by rw [HX.out] at h; cases h), HB0.out⟩
  go_wp2_with fail
  refine (C2.out _ (HI.out.below HB0.out)).mono ?_
  rintro e w2 ⟨rfl, b2⟩
  have HB2 := Lib.hid (HB0.out.trans (b2.mono HB0.out.size))
  have HG2 := Lib.hid (HG0.out.below b2 HG0.out.lt)
  clear b2 HB0 HG0 C2 c0 c1
  cases y
  rotate_left
  · have HX := Lib.hid (K3.out (by trivial) (by trivial) (by trivial))
    go_wp2_with fail
    go_ret2
    exact ⟨_, by rw [HX.out] <;> rfl, (fun h => by rw [HX.out] at h; cases h), HB2.out⟩
  by_cases h16 : l.length = 16
  · have HX := Lib.hid (K4.out (by trivial) (by trivial) (by trivial) (by omega))
    have h16' : ((l.length : Int) == 16) = true := by simp; omega
    go_wp2_with fail
    go_ret2
    exact ⟨_, by rw [HX.out] <;> rfl, (fun h => by rw [HX.out] at h; cases h), HB2.out⟩
  have HX := Lib.hid (K5.out (by trivial) (by trivial) (by trivial) (by omega))
  have h16' : ((l.length : Int) == 16) = false := by simp; omega
  clear K1 K2 K3 K4 K5
  go_wp2_with fail
  refine (C3.out _ _ (HI.out.below HB2.out) HG2.out).mono ?_
  rintro e w3 ⟨rfl, b3⟩
  have HB3 := Lib.hid (HB2.out.trans (b3.mono HB2.out.size))
  have HG3 := Lib.hid (HG2.out.below b3 HG2.out.lt)
  clear b3 HB2 HG2 C3
  have c0 : w3.cell? ⟨w.heap.size, 0, none⟩ = some (.string a.name) := HG3.out.cell 0
  have c1 : w3.cell? ⟨w.heap.size, 1, none⟩ = some (.int .i64 a.kind) := HG3.out.cell 1
  have C6 := Lib.hid (C4.out k w3 (by simp) (by simpa using KI.out.2) (by simpa using hcap) (accV_one l) (HI.out.below HB3.out).1 (by simp; omega))
  clear C4
  go_wp2_with fail
  refine C6.out.mono ?_
  rintro e w4 ⟨v4, rfl, hO4, b4⟩
  have HB4 := Lib.hid (HB3.out.trans (b4.mono HB3.out.size))
  have er : (l.map accV).take k ++ (accC a).toList :: (l.map accV).drop k = il.map accV := by rw [KI.out.1]; simp [accV, List.map_take, List.map_drop]
  rw [er] at hO4
  obtain ⟨A4, c4, rfl, hR4, hc4⟩ := hO4.recs
  rw [List.length_map] at hc4 ⊢
  have HA4 : Hid (Accs w4 A4 il ∧ il.length ≤ c4) := Lib.hid ⟨⟨hR4, fun b hb => HQ.out b (HMI.out b hb)⟩, hc4⟩
  clear hO4 hR4 hc4 er b4 c0 c1
  go_wp2_with fail
  go_ret2
  exact ⟨_, by rw [HX.out] <;> rfl, fun _ => ⟨A4, c4, rfl, HA4.out.1, HA4.out.2⟩, HB4.out⟩

theorem oe_bad {l : List MM.Mem} {n a : ByteArray} {k : Int} (h : MM.checkE l ≠ 0) : MM.openE l n a k = MM.checkE l ∧ MM.openL l n a k = [] := by
  have e : MM.openE l n a k = MM.checkE l := by unfold MM.openE; rw [if_pos h]
  exact ⟨e, by unfold MM.openL; rw [e, if_neg h]⟩
theorem oe_none {l : List MM.Mem} {n a : ByteArray} {k : Int} (h : MM.checkE l = 0) (h2 : MM.pl l n = none) : MM.openE l n a k = 20 ∧ MM.openL l n a k = [] := by
  have e : MM.openE l n a k = 20 := by unfold MM.openE; rw [if_neg (by simp [h]), h2]
  exact ⟨e, by unfold MM.openL; rw [e, if_neg (by decide)]⟩
theorem oe_state {l : List MM.Mem} {n a : ByteArray} {k : Int} {i : Nat} (h : MM.checkE l = 0) (h2 : MM.pl l n = some i) (h3 : (MM.mAt l i).status ≠ 1) : MM.openE l n a k = 20 ∧ MM.openL l n a k = [] := by
  have e : MM.openE l n a k = 20 := by unfold MM.openE; rw [if_neg (by simp [h]), h2]; simp [h3]
  exact ⟨e, by unfold MM.openL; rw [e, if_neg (by decide)]⟩
theorem oe_no {l : List MM.Mem} {n a : ByteArray} {k : Int} {i : Nat} (h : MM.checkE l = 0) (h2 : MM.pl l n = some i) (h3 : (MM.mAt l i).status = 1) (h4 : MM.opE (MM.mAt l i).accs a k ≠ 0) : MM.openE l n a k = MM.opE (MM.mAt l i).accs a k ∧ MM.openL l n a k = [] := by
  have e : MM.openE l n a k = MM.opE (MM.mAt l i).accs a k := by unfold MM.openE; rw [if_neg (by simp [h]), h2]; simp [h3]
  exact ⟨e, by unfold MM.openL; rw [e, if_neg h4]⟩
theorem oe_yes {l : List MM.Mem} {n a : ByteArray} {k : Int} {i : Nat} (h : MM.checkE l = 0) (h2 : MM.pl l n = some i) (h3 : (MM.mAt l i).status = 1) (h4 : MM.opE (MM.mAt l i).accs a k = 0) : MM.openE l n a k = 0 ∧ MM.openL l n a k = l.set i { MM.mAt l i with accs := MM.insA ⟨a, k⟩ (MM.mAt l i).accs } := by
  have e : MM.openE l n a k = 0 := by unfold MM.openE; rw [if_neg (by simp [h]), h2]; simp [h3, h4]
  exact ⟨e, MM.open_list e h2⟩

set_option maxHeartbeats 8000000 in
theorem popen_any (A : Option Addr) (l : List MM.Mem) (cap : Nat) (n a : ByteArray) (kd : Int) (w : World) (hI : Mems w A l) (ha : a.size ≤ maxLen) (hk : i64 kd) :
    Calls Try.prog 8 #[.slice A l.length cap, keyA n a, .int .i64 kd] w fun e w' => ∃ v, e = .returned (.tuple #[v, .int .i64 (MM.openE l n a kd)]) ∧ MemR w' v (MM.openL l n a kd) ∧ Below w.heap.size w w' := by
  have hlen := hI.len
  have HB0 := Lib.hid ((Below.refl w.heap.size w).alloc (Nat.le_refl _) (.cells (keyC n a) 34))
  have HG0 := Lib.hid (CB.new w 34 (keyC n a))
  have HI := Lib.hid hI
  have C0 := Lib.hid (fun ww h => mcheck_any A l cap ww h)
  have C2 := Lib.hid (fun ww h => mpl_any A l cap n ww h)
  clear hI
  by_cases hc : MM.checkE l = 0
  · obtain ⟨hs1, hs2⟩ := small_rows hc
    have HS2 := Lib.hid hs2
    have C5 := Lib.hid (fun A' rows' n' cap' ww h1 h2 h3 h4 => mown_any A' rows' n' cap' ww h1 h2 h3 h4)
    rw [hc] at C0
    cases hp : MM.pl l n with
    | none =>
      obtain ⟨e1, e2⟩ := @oe_none l n a kd hc hp
      rw [e1, e2]
      rw [hp] at C2
      clear e1 e2 hp hc C5
      have ex : plN none l.length = (l.length : Int) := rfl
      rw [ex] at C2
      go_enter Try.func8, Try.ntmps8
      go_wp2_with fail
      generalize w.alloc (.cells #[.string n, .string a] 34) = w0 at *
      refine (C0.out _ (HI.out.below HB0.out)).mono ?_
      rintro e w1 ⟨rfl, b1⟩
      have HB1 := Lib.hid (HB0.out.trans (b1.mono HB0.out.size))
      have HG1 := Lib.hid (HG0.out.below b1 HG0.out.lt)
      have c0 : w1.cell? ⟨w.heap.size, 0, none⟩ = some (.string n) := HG1.out.cell 0
      clear b1
      go_wp2_with fail
      refine (C2.out _ (HI.out.below HB1.out)).mono ?_
      rintro e w2 ⟨rfl, b2⟩
      have HB2 := Lib.hid (HB1.out.trans (b2.mono HB1.out.size))
      clear b2
      go_wp2_with fail
      go_ret2
      exact ⟨_, rfl, MemR.nil _, HB2.out⟩
    | some i =>
      obtain ⟨hi, -⟩ := MM.pl_some hp
      have K1 := Lib.hid (@oe_state l n a kd i hc hp); have K2 := Lib.hid (@oe_no l n a kd i hc hp); have K3 := Lib.hid (@oe_yes l n a kd i hc hp)
      rw [hp] at C2
      have ex : plN (some i) l.length = (i : Int) := rfl
      rw [ex] at C2
      clear hp hc ex
      generalize MM.openE l n a kd = r at *
      generalize MM.openL l n a kd = out at *
      go_enter Try.func8, Try.ntmps8
      go_wp2_with fail
      generalize w.alloc (.cells #[.string n, .string a] 34) = w0 at *
      refine (C0.out _ (HI.out.below HB0.out)).mono ?_
      rintro e w1 ⟨rfl, b1⟩
      have HB1 := Lib.hid (HB0.out.trans (b1.mono HB0.out.size))
      have HG1 := Lib.hid (HG0.out.below b1 HG0.out.lt)
      have c0 : w1.cell? ⟨w.heap.size, 0, none⟩ = some (.string n) := HG1.out.cell 0
      clear b1 HB0 HG0
      go_wp2_with fail
      refine (C2.out _ (HI.out.below HB1.out)).mono ?_
      rintro e w2 ⟨rfl, b2⟩
      have HB2 := Lib.hid (HB1.out.trans (b2.mono HB1.out.size))
      have HG2 := Lib.hid (HG1.out.below b2 HG1.out.lt)
      clear b2 HB1 HG1 C0 C2 c0
      have HI2 := Lib.hid (HI.out.below HB2.out)
      obtain ⟨b, off, A', cap', m, eA, hb, HV, q1, q2, q3, q4, d0, d1, d2⟩ := HI2.out.get hi
      have hA2 : A = some ⟨b, off, none⟩ := eA
      subst hA2
      rw [HV.out] at K1 K2 K3
      have hm16 : m.accs.length ≤ 16 := by
        have := HS2.out (MM.mAt l i) (by rw [MM.mAt_get hi]; exact List.getElem_mem hi)
        rw [HV.out] at this; exact this
      by_cases h1 : m.status = 1
      · have h1' : (m.status != 1) = false := by simp [h1]
        have C3 := Lib.hid (fun ww h => opened_any A' m.accs cap' ⟨a, kd⟩ ww h q4 hm16 ⟨ha, hk⟩)
        have HQ3 := Lib.hid q3
        have HSF : Hid (∀ ww, Below w2.heap.size w2 ww → (ww.cell? ⟨b, off + i * 3 + 2, none⟩ = some (.slice A' m.accs.length cap') ∧ ww.cell? ⟨w.heap.size, 1, none⟩ = some (.string a))) := Lib.hid (fun ww h => ⟨(h.cell (p := ⟨b, off + i * 3 + 2, none⟩) hb).trans d2, (HG2.out.below h HG2.out.lt).cell 1⟩)
        have c1 : w2.cell? ⟨w.heap.size, 1, none⟩ = some (.string a) := HG2.out.cell 1
        generalize MM.opE m.accs a kd = oe at *
        clear q1 q2 q3 q4 eA d0
        go_wp2_with fail
        go_region_with (go_at_call 19; refine (C3.out _ (HQ3.out.below (Below.refl _ _).drew)).mono ?_; rintro e w3 ⟨v3, rfl, hv3, b3⟩)
        all_goals (
          have HB3 : Hid (Below w.heap.size w w3) := Lib.hid (HB2.out.drew.trans (b3.mono HB2.out.drew.size))
          have b3' : Below w2.heap.size w2 w3 := (Below.refl _ _).drew.trans b3
          by_cases ho : oe = 0
          · have HX := Lib.hid (K3.out h1 ho)
            obtain ⟨A3, c3, rfl, hA3, hc3⟩ := hv3 ho
            have HA3 := Lib.hid hA3
            have HI3 := Lib.hid (HI2.out.below b3')
            have ho' : (oe != 0) = false := by simp [ho]
            obtain ⟨rows, he, hM⟩ := HI3.out
            have hrl : rows.length = l.length := by rw [← he]; simp
            have C7 := Lib.hid (C5.out (some ⟨b, off, none⟩) rows l.length cap w3 hrl.symm hM (by omega) (fun r hr => by
              have := HS2.out r.m (by rw [← he]; exact List.mem_map.2 ⟨r, hr, rfl⟩)
              omega))
            rw [he] at C7
            clear he hM hrl K1 K2 K3 C5 rows d1 d2 c1 hA3 hv3 b3 b3'
            go_wp2_with fail
            refine C7.out.mono ?_
            rintro e w5 ⟨v5, rows5, rfl, e5, hO5, b5⟩
            have HB5 := Lib.hid (HB3.out.trans (b5.mono HB3.out.size))
            have h5l : rows5.length = l.length := by rw [← e5]; simp
            rcases hO5.1.form with ⟨-, e0⟩ | ⟨g, c, rfl, hB, hg, hcc⟩
            · have : rows5.length = 0 := by simpa using congrArg List.length e0
              omega
            rw [List.length_map, h5l] at hO5 ⊢
            have hi5 : i < rows5.length := by omega
            have d3 : w5.cell? ⟨g, i * 3 + 2, none⟩ = some (.slice rows5[i].A rows5[i].m.accs.length rows5[i].cap) := by
              have := hO5.1.cell (i := i) (j := 2) (by simpa using hi5) (by omega)
              rw [getD_rows hi5] at this
              exact this
            have f1 := hO5.1.frozen (i * 3 + 2)
            have hset := hO5.setA hi5 (HA3.out.below b5) hc3 (HA3.out.apart hB)
            have emm : (rows5.set i ⟨{ rows5[i].m with accs := MM.insA ⟨a, kd⟩ m.accs }, A3, c3⟩).map MRow.m = l.set i { m with accs := MM.insA ⟨a, kd⟩ m.accs } := by
              rw [List.map_set, e5]
              show l.set i { rows5[i].m with accs := MM.insA ⟨a, kd⟩ m.accs } = _
              rw [rows_get e5 hi5, HV.out]
            have HR := Lib.hid (own_memr hset emm)
            have HB6 := Lib.hid (HB5.out.setCell (p := ⟨g, i * 3 + 2, none⟩) (show w.heap.size ≤ g by have := HB3.out.size; omega) (.slice A3 (MM.insA ⟨a, kd⟩ m.accs).length c3))
            generalize rows5[i].A = s5 at *
            generalize rows5[i].m.accs.length = s6 at *
            generalize rows5[i].cap = s7 at *
            generalize (MM.insA ⟨a, kd⟩ m.accs).length = s8 at *
            clear hset emm hO5 b5 e5 hcc C7 HA3 hc3
            go_wp2_with fail
            go_ret2
            exact ⟨_, by rw [HX.out.1] <;> rfl, by rw [HX.out.2]; exact HR.out, HB6.out⟩
          · have HX := Lib.hid (K2.out h1 ho)
            have ho' : (oe != 0) = true := by simpa using ho
            clear hv3 b3 b3'
            go_wp2_with fail
            go_ret2
            exact ⟨_, by rw [HX.out.1] <;> rfl, by rw [HX.out.2]; exact MemR.nil _, HB3.out⟩)
      · have h1' : (m.status != 1) = true := by simpa using h1
        have HX := Lib.hid (K1.out h1)
        clear q1 q2 q3 q4 eA
        go_wp2_with fail
        go_ret2
        exact ⟨_, by rw [HX.out.1] <;> rfl, by rw [HX.out.2]; exact MemR.nil _, HB2.out⟩
  · obtain ⟨e1, e2⟩ := @oe_bad l n a kd hc
    rw [e1, e2]
    have hd : (MM.checkE l != 0) = true := by simpa using hc
    generalize MM.checkE l = y at *
    clear C2 e1 e2 hc
    go_enter Try.func8, Try.ntmps8
    go_wp2_with fail
    refine (C0.out _ (HI.out.below HB0.out)).mono ?_
    rintro e w1 ⟨rfl, b1⟩
    have HB1 := Lib.hid (HB0.out.trans (b1.mono HB0.out.size))
    clear b1 HI
    go_wp2_with fail
    go_ret2
    exact ⟨_, rfl, MemR.nil _, HB1.out⟩
end Go.Proofs.Ytlnllbcpbohahab
