/- Put together: MemK, MemL, MemM, MemN, MemO. -/
import Derived.Test.YtlnllbcpbohahaaBun6
/- Contracts of layer 11: Open. -/
namespace Go.Proofs.Ytlnllbcpbohahaa
open Go.RowKit Go.Recs
set_option linter.unusedVariables false
set_option linter.unusedSimpArgs false

theorem op_name {l : List MM.Ac} {n : ByteArray} {k : Int} (h : MM.okN n = false) : MM.opE l n k = 10 := by unfold MM.opE; rw [if_pos h]
theorem op_kind {l : List MM.Ac} {n : ByteArray} {k : Int} (h : MM.okN n = true) (h2 : MM.kindOk k = false) : MM.opE l n k = 21 := by unfold MM.opE; rw [if_neg (by simp [h]), if_pos h2]
theorem op_there {l : List MM.Ac} {n : ByteArray} {k : Int} (h : MM.okN n = true) (h2 : MM.kindOk k = true) (h3 : (MM.pa l n).isSome = true) : MM.opE l n k = 12 := by unfold MM.opE; rw [if_neg (by simp [h]), if_neg (by simp [h2]), if_pos h3]
theorem op_long {l : List MM.Ac} {n : ByteArray} {k : Int} (h : MM.okN n = true) (h2 : MM.kindOk k = true) (h3 : (MM.pa l n).isSome = false) (h4 : 16 ≤ l.length) : MM.opE l n k = 8 := by unfold MM.opE; rw [if_neg (by simp [h]), if_neg (by simp [h2]), if_neg (by simp [h3]), if_pos h4]
theorem op_yes {l : List MM.Ac} {n : ByteArray} {k : Int} (h : MM.okN n = true) (h2 : MM.kindOk k = true) (h3 : (MM.pa l n).isSome = false) (h4 : ¬ 16 ≤ l.length) : MM.opE l n k = 0 := by unfold MM.opE; rw [if_neg (by simp [h]), if_neg (by simp [h2]), if_neg (by simp [h3]), if_neg h4]

set_option maxHeartbeats 8000000 in
theorem opened_any (A : Option Addr) (l : List MM.Ac) (cap : Nat) (a : MM.Ac) (w : World) (hI : Accs w A l) (hcap : l.length ≤ cap) (hl : l.length ≤ 16) (ha : accQ a) :
    Calls Try.prog 40 #[.slice A l.length cap, accA a] w fun e w' => ∃ v, e = .returned (.tuple #[v, .int .i64 (MM.opE l a.name a.kind)]) ∧ (MM.opE l a.name a.kind = 0 → ∃ A' cap', v = .slice A' (MM.insA a l).length cap' ∧ Accs w' A' (MM.insA a l) ∧ (MM.insA a l).length ≤ cap') ∧ Below w.heap.size w w' := by
  have hmf : ∀ (fn : Fn) (first cap : Array Value) (w : World), (Instr.makeFunc fn first cap).run Try.prog w = .ok (.func fn first cap) w := fun _ _ _ _ => rfl
  have hlen := hI.len
  have HB0 := Lib.hid ((Below.refl w.heap.size w).alloc (Nat.le_refl _) (.cells (accC a) 36))
  have HG0 := Lib.hid (CB.new w 36 (accC a))
  have HI := Lib.hid hI
  have C1 := Lib.hid (fun ww => name_any a.name ww ha.1)
  have CK := Lib.hid (fun ww => isKind_any a.kind ww)
  have C2 := Lib.hid (fun ww h => apl_any A l cap a.name ww h)
  have C3 := Lib.hid (fun g ww h hg => aplace2_any A l cap g a ww h hg)
  have C4 := Lib.hid (fun (k : Nat) ww h1 h2 h3 h4 h5 h6 => ains_any A (l.map accV) l.length cap k a ww h1 h2 h3 h4 h5 h6)
  have KI : Hid (MM.insA a l = l.take (MM.at_ (fun m => MM.lt a.name m.name) l) ++ a :: l.drop (MM.at_ (fun m => MM.lt a.name m.name) l) ∧ MM.at_ (fun m => MM.lt a.name m.name) l ≤ l.length) := Lib.hid ⟨MM.ins_at _ _ _, MM.at_le _ _⟩
  have K1 := Lib.hid (@op_name l a.name a.kind); have K2 := Lib.hid (@op_kind l a.name a.kind); have K3 := Lib.hid (@op_there l a.name a.kind); have K4 := Lib.hid (@op_long l a.name a.kind); have K5 := Lib.hid (@op_yes l a.name a.kind)
  have eN : MM.okN a.name = WM.name (L a.name) := rfl
  rw [eN] at K1 K2 K3 K4 K5
  have HQ : Hid (∀ b ∈ a :: l, accQ b) := Lib.hid (fun b hb => by
    rcases List.mem_cons.1 hb with rfl | hb
    · exact ha
    · exact hI.2 b hb)
  have HMI : Hid (∀ b ∈ MM.insA a l, b ∈ a :: l) := Lib.hid (fun b hb => by
    rcases (MM.ins_mem _ _ _ _).1 hb with rfl | hb
    · simp
    · simp [hb])
  clear hI ha eN
  generalize MM.opE l a.name a.kind = r at *
  generalize MM.insA a l = il at *
  generalize MM.at_ (fun m => MM.lt a.name m.name) l = k at *
  generalize (l.findIdx? (fun m => MM.lt a.name m.name)).isSome = y2 at *
  generalize (MM.pa l a.name).isSome = y at *
  generalize plN (MM.pa l a.name) l.length = x at *
  generalize WM.name (L a.name) = b0 at *
  generalize MM.kindOk a.kind = b1 at *
  go_enter Try.func40, Try.ntmps40
  go_wp2_with fail
  generalize w.alloc (.cells #[.string a.name, .int .i64 a.kind] 36) = w0 at *
  refine (C1.out _).mono ?_
  rintro e w1 ⟨rfl, rfl⟩
  cases b0
  · have HX := Lib.hid (K1.out (by trivial))
    go_wp2_with fail
    go_ret2
    exact ⟨_, by rw [HX.out] <;> rfl, (fun h => by rw [HX.out] at h; cases h), HB0.out⟩
  have c0 : w0.cell? ⟨w.heap.size, 0, none⟩ = some (.string a.name) := HG0.out.cell 0
  have c1 : w0.cell? ⟨w.heap.size, 1, none⟩ = some (.int .i64 a.kind) := HG0.out.cell 1
  go_wp2_with fail
  refine (CK.out _).mono ?_
  rintro e w1 ⟨rfl, rfl⟩
  cases b1
  · have HX := Lib.hid (K2.out (by trivial) (by trivial))
    go_wp2_with fail
    go_ret2
    exact ⟨_, by rw [HX.out] <;> rfl, (fun h => by rw [HX.out] at h; cases h), HB0.out⟩
  go_wp2_with fail
  refine (C2.out _ (HI.out.below HB0.out)).mono ?_
  rintro e w2 ⟨rfl, b2⟩
  have HB2 := Lib.hid (HB0.out.trans (b2.mono HB0.out.size))
  have HG2 := Lib.hid (HG0.out.below b2 HG0.out.lt)
  clear b2 HB0 HG0 C2 c0 c1
  cases y
  rotate_left
  · have HX := Lib.hid (K3.out (by trivial) (by trivial) (by trivial))
    go_wp2_with fail
    go_ret2
    exact ⟨_, by rw [HX.out] <;> rfl, (fun h => by rw [HX.out] at h; cases h), HB2.out⟩
  by_cases h16 : l.length = 16
  · have HX := Lib.hid (K4.out (by trivial) (by trivial) (by trivial) (by omega))
    have h16' : ((l.length : Int) == 16) = true := by simp; omega
    go_wp2_with fail
    go_ret2
    exact ⟨_, by rw [HX.out] <;> rfl, (fun h => by rw [HX.out] at h; cases h), HB2.out⟩
  have HX := Lib.hid (K5.out (by trivial) (by trivial) (by trivial) (by omega))
  have h16' : ((l.length : Int) == 16) = false := by simp; omega
  clear K1 K2 K3 K4 K5
  go_wp2_with fail
  refine (C3.out _ _ (HI.out.below HB2.out) HG2.out).mono ?_
  rintro e w3 ⟨rfl, b3⟩
  have HB3 := Lib.hid (HB2.out.trans (b3.mono HB2.out.size))
  have HG3 := Lib.hid (HG2.out.below b3 HG2.out.lt)
  clear b3 HB2 HG2 C3
  have c0 : w3.cell? ⟨w.heap.size, 0, none⟩ = some (.string a.name) := HG3.out.cell 0
  have c1 : w3.cell? ⟨w.heap.size, 1, none⟩ = some (.int .i64 a.kind) := HG3.out.cell 1
  have C6 := Lib.hid (C4.out k w3 (by simp) (by simpa using KI.out.2) (by simpa using hcap) (accV_one l) (HI.out.below HB3.out).1 (by simp; omega))
  clear C4
  go_wp2_with fail
  refine C6.out.mono ?_
  rintro e w4 ⟨v4, rfl, hO4, b4⟩
  have HB4 := Lib.hid (HB3.out.trans (b4.mono HB3.out.size))
  have er : (l.map accV).take k ++ (accC a).toList :: (l.map accV).drop k = il.map accV := by rw [KI.out.1]; simp [accV, List.map_take, List.map_drop]
  rw [er] at hO4
  obtain ⟨A4, c4, rfl, hR4, hc4⟩ := hO4.recs
  rw [List.length_map] at hc4 ⊢
  have HA4 : Hid (Accs w4 A4 il ∧ il.length ≤ c4) := Lib.hid ⟨⟨hR4, fun b hb => HQ.out b (HMI.out b hb)⟩, hc4⟩
  clear hO4 hR4 hc4 er b4 c0 c1
  go_wp2_with fail
  go_ret2
  exact ⟨_, by rw [HX.out] <;> rfl, fun _ => ⟨A4, c4, rfl, HA4.out.1, HA4.out.2⟩, HB4.out⟩

theorem oe_bad {l : List MM.Mem} {n a : ByteArray} {k : Int} (h : MM.checkE l ≠ 0) : MM.openE l n a k = MM.checkE l ∧ MM.openL l n a k = [] := by
  have e : MM.openE l n a k = MM.checkE l := by unfold MM.openE; rw [if_pos h]
  exact ⟨e, by unfold MM.openL; rw [e, if_neg h]⟩
theorem oe_none {l : List MM.Mem} {n a : ByteArray} {k : Int} (h : MM.checkE l = 0) (h2 : MM.pl l n = none) : MM.openE l n a k = 20 ∧ MM.openL l n a k = [] := by
  have e : MM.openE l n a k = 20 := by unfold MM.openE; rw [if_neg (by simp [h]), h2]
  exact ⟨e, by unfold MM.openL; rw [e, if_neg (by decide)]⟩
theorem oe_state {l : List MM.Mem} {n a : ByteArray} {k : Int} {i : Nat} (h : MM.checkE l = 0) (h2 : MM.pl l n = some i) (h3 : (MM.mAt l i).status ≠ 1) : MM.openE l n a k = 20 ∧ MM.openL l n a k = [] := by
  have e : MM.openE l n a k = 20 := by unfold MM.openE; rw [if_neg (by simp [h]), h2]; simp [h3]
  exact ⟨e, by unfold MM.openL; rw [e, if_neg (by decide)]⟩
theorem oe_no {l : List MM.Mem} {n a : ByteArray} {k : Int} {i : Nat} (h : MM.checkE l = 0) (h2 : MM.pl l n = some i) (h3 : (MM.mAt l i).status = 1) (h4 : MM.opE (MM.mAt l i).accs a k ≠ 0) : MM.openE l n a k = MM.opE (MM.mAt l i).accs a k ∧ MM.openL l n a k = [] := by
  have e : MM.openE l n a k = MM.opE (MM.mAt l i).accs a k := by unfold MM.openE; rw [if_neg (by simp [h]), h2]; simp [h3]
  exact ⟨e, by unfold MM.openL; rw [e, if_neg h4]⟩
theorem oe_yes {l : List MM.Mem} {n a : ByteArray} {k : Int} {i : Nat} (h : MM.checkE l = 0) (h2 : MM.pl l n = some i) (h3 : (MM.mAt l i).status = 1) (h4 : MM.opE (MM.mAt l i).accs a k = 0) : MM.openE l n a k = 0 ∧ MM.openL l n a k = l.set i { MM.mAt l i with accs := MM.insA ⟨a, k⟩ (MM.mAt l i).accs } := by
  have e : MM.openE l n a k = 0 := by unfold MM.openE; rw [if_neg (by simp [h]), h2]; simp [h3, h4]
  exact ⟨e, MM.open_list e h2⟩

set_option maxHeartbeats 8000000 in
theorem popen_any (A : Option Addr) (l : List MM.Mem) (cap : Nat) (n a : ByteArray) (kd : Int) (w : World) (hI : Mems w A l) (ha : a.size ≤ maxLen) (hk : i64 kd) :
    Calls Try.prog 22 #[.slice A l.length cap, keyA n a, .int .i64 kd] w fun e w' => ∃ v, e = .returned (.tuple #[v, .int .i64 (MM.openE l n a kd)]) ∧ MemR w' v (MM.openL l n a kd) ∧ Below w.heap.size w w' := by
  have hlen := hI.len
  have HB0 := Lib.hid ((Below.refl w.heap.size w).alloc (Nat.le_refl _) (.cells (keyC n a) 29))
  have HG0 := Lib.hid (CB.new w 29 (keyC n a))
  have HI := Lib.hid hI
  have C0 := Lib.hid (fun ww h => mcheck_any A l cap ww h)
  have C2 := Lib.hid (fun ww h => mpl_any A l cap n ww h)
  clear hI
  by_cases hc : MM.checkE l = 0
  · obtain ⟨hs1, hs2⟩ := small_rows hc
    have HS2 := Lib.hid hs2
    have C5 := Lib.hid (fun A' rows' n' cap' ww h1 h2 h3 h4 => mown_any A' rows' n' cap' ww h1 h2 h3 h4)
    rw [hc] at C0
    cases hp : MM.pl l n with
    | none =>
      obtain ⟨e1, e2⟩ := @oe_none l n a kd hc hp
      rw [e1, e2]
      rw [hp] at C2
      clear e1 e2 hp hc C5
      have ex : plN none l.length = (l.length : Int) := rfl
      rw [ex] at C2
      go_enter Try.func22, Try.ntmps22
      go_wp2_with fail
      generalize w.alloc (.cells #[.string n, .string a] 29) = w0 at *
      refine (C0.out _ (HI.out.below HB0.out)).mono ?_
      rintro e w1 ⟨rfl, b1⟩
      have HB1 := Lib.hid (HB0.out.trans (b1.mono HB0.out.size))
      have HG1 := Lib.hid (HG0.out.below b1 HG0.out.lt)
      have c0 : w1.cell? ⟨w.heap.size, 0, none⟩ = some (.string n) := HG1.out.cell 0
      clear b1
      go_wp2_with fail
      refine (C2.out _ (HI.out.below HB1.out)).mono ?_
      rintro e w2 ⟨rfl, b2⟩
      have HB2 := Lib.hid (HB1.out.trans (b2.mono HB1.out.size))
      clear b2
      go_wp2_with fail
      go_ret2
      exact ⟨_, rfl, MemR.nil _, HB2.out⟩
    | some i =>
      obtain ⟨hi, -⟩ := MM.pl_some hp
      have K1 := Lib.hid (@oe_state l n a kd i hc hp); have K2 := Lib.hid (@oe_no l n a kd i hc hp); have K3 := Lib.hid (@oe_yes l n a kd i hc hp)
      rw [hp] at C2
      have ex : plN (some i) l.length = (i : Int) := rfl
      rw [ex] at C2
      clear hp hc ex
      generalize MM.openE l n a kd = r at *
      generalize MM.openL l n a kd = out at *
      go_enter Try.func22, Try.ntmps22
      go_wp2_with fail
      generalize w.alloc (.cells #[.string n, .string a] 29) = w0 at *
      refine (C0.out _ (HI.out.below HB0.out)).mono ?_
      rintro e w1 ⟨rfl, b1⟩
      have HB1 := Lib.hid (HB0.out.trans (b1.mono HB0.out.size))
      have HG1 := Lib.hid (HG0.out.below b1 HG0.out.lt)
      have c0 : w1.cell? ⟨w.heap.size, 0, none⟩ = some (.string n) := HG1.out.cell 0
      clear b1 HB0 HG0
      go_wp2_with fail
      refine (C2.out _ (HI.out.below HB1.out)).mono ?_
      rintro e w2 ⟨rfl, b2⟩
      have HB2 := Lib.hid (HB1.out.trans (b2.mono HB1.out.size))
      have HG2 := Lib.hid (HG1.out.below b2 HG1.out.lt)
      clear b2 HB1 HG1 C0 C2 c0
      have HI2 := Lib.hid (HI.out.below HB2.out)
      obtain ⟨b, off, A', cap', m, eA, hb, HV, q1, q2, q3, q4, d0, d1, d2⟩ := HI2.out.get hi
      have hA2 : A = some ⟨b, off, none⟩ := eA
      subst hA2
      rw [HV.out] at K1 K2 K3
      have hm16 : m.accs.length ≤ 16 := by
        have := HS2.out (MM.mAt l i) (by rw [MM.mAt_get hi]; exact List.getElem_mem hi)
        rw [HV.out] at this; exact this
      by_cases h1 : m.status = 1
      · have h1' : (m.status != 1) = false := by simp [h1]
        have C3 := Lib.hid (fun ww h => opened_any A' m.accs cap' ⟨a, kd⟩ ww h q4 hm16 ⟨ha, hk⟩)
        have HQ3 := Lib.hid q3
        have HSF : Hid (∀ ww, Below w2.heap.size w2 ww → (ww.cell? ⟨b, off + i * 3 + 2, none⟩ = some (.slice A' m.accs.length cap') ∧ ww.cell? ⟨w.heap.size, 1, none⟩ = some (.string a))) := Lib.hid (fun ww h => ⟨(h.cell (p := ⟨b, off + i * 3 + 2, none⟩) hb).trans d2, (HG2.out.below h HG2.out.lt).cell 1⟩)
        have c1 : w2.cell? ⟨w.heap.size, 1, none⟩ = some (.string a) := HG2.out.cell 1
        generalize MM.opE m.accs a kd = oe at *
        clear q1 q2 q3 q4 eA d0
        go_wp2_with fail
        go_region_with (go_at_call 40; refine (C3.out _ (HQ3.out.below (Below.refl _ _).drew)).mono ?_; rintro e w3 ⟨v3, rfl, hv3, b3⟩)
        all_goals (
          have HB3 : Hid (Below w.heap.size w w3) := Lib.hid (HB2.out.drew.trans (b3.mono HB2.out.drew.size))
          have b3' : Below w2.heap.size w2 w3 := (Below.refl _ _).drew.trans b3
          by_cases ho : oe = 0
          · have HX := Lib.hid (K3.out h1 ho)
            obtain ⟨A3, c3, rfl, hA3, hc3⟩ := hv3 ho
            have HA3 := Lib.hid hA3
            have HI3 := Lib.hid (HI2.out.below b3')
            have ho' : (oe != 0) = false := by simp [ho]
            obtain ⟨rows, he, hM⟩ := HI3.out
            have hrl : rows.length = l.length := by rw [← he]; simp
            have C7 := Lib.hid (C5.out (some ⟨b, off, none⟩) rows l.length cap w3 hrl.symm hM (by omega) (fun r hr => by
              have := HS2.out r.m (by rw [← he]; exact List.mem_map.2 ⟨r, hr, rfl⟩)
              omega))
            rw [he] at C7
            clear he hM hrl K1 K2 K3 C5 rows d1 d2 c1 hA3 hv3 b3 b3'
            go_wp2_with fail
            refine C7.out.mono ?_
            rintro e w5 ⟨v5, rows5, rfl, e5, hO5, b5⟩
            have HB5 := Lib.hid (HB3.out.trans (b5.mono HB3.out.size))
            have h5l : rows5.length = l.length := by rw [← e5]; simp
            rcases hO5.1.form with ⟨-, e0⟩ | ⟨g, c, rfl, hB, hg, hcc⟩
            · have : rows5.length = 0 := by simpa using congrArg List.length e0
              omega
            rw [List.length_map, h5l] at hO5 ⊢
            have hi5 : i < rows5.length := by omega
            have d3 : w5.cell? ⟨g, i * 3 + 2, none⟩ = some (.slice rows5[i].A rows5[i].m.accs.length rows5[i].cap) := by
              have := hO5.1.cell (i := i) (j := 2) (by simpa using hi5) (by omega)
              rw [getD_rows hi5] at this
              exact this
            have f1 := hO5.1.frozen (i * 3 + 2)
            have hset := hO5.setA hi5 (HA3.out.below b5) hc3 (HA3.out.apart hB)
            have emm : (rows5.set i ⟨{ rows5[i].m with accs := MM.insA ⟨a, kd⟩ m.accs }, A3, c3⟩).map MRow.m = l.set i { m with accs := MM.insA ⟨a, kd⟩ m.accs } := by
              rw [List.map_set, e5]
              show l.set i { rows5[i].m with accs := MM.insA ⟨a, kd⟩ m.accs } = _
              rw [rows_get e5 hi5, HV.out]
            have HR := Lib.hid (own_memr hset emm)
            have HB6 := Lib.hid (HB5.out.setCell (p := ⟨g, i * 3 + 2, none⟩) (show w.heap.size ≤ g by have := HB3.out.size; omega) (.slice A3 (MM.insA ⟨a, kd⟩ m.accs).length c3))
            generalize rows5[i].A = s5 at *
            generalize rows5[i].m.accs.length = s6 at *
            generalize rows5[i].cap = s7 at *
            generalize (MM.insA ⟨a, kd⟩ m.accs).length = s8 at *
            clear hset emm hO5 b5 e5 hcc C7 HA3 hc3
            go_wp2_with fail
            go_ret2
            exact ⟨_, by rw [HX.out.1] <;> rfl, by rw [HX.out.2]; exact HR.out, HB6.out⟩
          · have HX := Lib.hid (K2.out h1 ho)
            have ho' : (oe != 0) = true := by simpa using ho
            clear hv3 b3 b3'
            go_wp2_with fail
            go_ret2
            exact ⟨_, by rw [HX.out.1] <;> rfl, by rw [HX.out.2]; exact MemR.nil _, HB3.out⟩)
      · have h1' : (m.status != 1) = true := by simpa using h1
        have HX := Lib.hid (K1.out h1)
        clear q1 q2 q3 q4 eA
        go_wp2_with fail
        go_ret2
        exact ⟨_, by rw [HX.out.1] <;> rfl, by rw [HX.out.2]; exact MemR.nil _, HB2.out⟩
  · obtain ⟨e1, e2⟩ := @oe_bad l n a kd hc
    rw [e1, e2]
    have hd : (MM.checkE l != 0) = true := by simpa using hc
    generalize MM.checkE l = y at *
    clear C2 e1 e2 hc
    go_enter Try.func22, Try.ntmps22
    go_wp2_with fail
    refine (C0.out _ (HI.out.below HB0.out)).mono ?_
    rintro e w1 ⟨rfl, b1⟩
    have HB1 := Lib.hid (HB0.out.trans (b1.mono HB0.out.size))
    clear b1 HI
    go_wp2_with fail
    go_ret2
    exact ⟨_, rfl, MemR.nil _, HB1.out⟩
end Go.Proofs.Ytlnllbcpbohahaa

/- Contracts of layer 11: May, Find, Account. -/
namespace Go.Proofs.Ytlnllbcpbohahaa
open Go.RowKit Go.Recs
set_option linter.unusedVariables false
set_option linter.unusedSimpArgs false

theorem my_none {l : List MM.Mem} {n a : ByteArray} {act : Int} (h : MM.pl l n = none) : MM.mayE l n a act = 20 := by unfold MM.mayE; rw [h]
theorem my_acc {l : List MM.Mem} {n a : ByteArray} {act : Int} {i : Nat} (h : MM.pl l n = some i) (h2 : (MM.pa (MM.mAt l i).accs a).isSome = false) : MM.mayE l n a act = 21 := by
  unfold MM.mayE; rw [h]
  cases e : MM.pa (MM.mAt l i).accs a with
  | none => simp [e]
  | some j => rw [e] at h2; cases h2
theorem my_state {l : List MM.Mem} {n a : ByteArray} {act : Int} {i : Nat} (h : MM.pl l n = some i) (h2 : (MM.pa (MM.mAt l i).accs a).isSome = true) : MM.mayE l n a act = if MM.allows (MM.mAt l i).status act = true then 0 else 13 := by
  unfold MM.mayE; rw [h]
  cases e : MM.pa (MM.mAt l i).accs a with
  | none => rw [e] at h2; cases h2
  | some j => simp [e]

set_option maxHeartbeats 8000000 in
theorem mmay_any (A : Option Addr) (l : List MM.Mem) (cap : Nat) (n a : ByteArray) (act : Int) (w : World) (hI : Mems w A l) :
    Calls Try.prog 15 #[.slice A l.length cap, keyA n a, .int .i64 act] w fun e w' => e = .returned (.int .i64 (MM.mayE l n a act)) ∧ Below w.heap.size w w' := by
  have hlen := hI.len
  have HB0 := Lib.hid ((Below.refl w.heap.size w).alloc (Nat.le_refl _) (.cells (keyC n a) 29))
  have HG0 := Lib.hid (CB.new w 29 (keyC n a))
  have HI := Lib.hid (hI.below HB0.out)
  have C2 := Lib.hid (fun ww h => mpl_any A l cap n ww h)
  clear hI
  cases hp : MM.pl l n with
  | none =>
    rw [my_none hp]
    rw [hp] at C2
    have ex : plN none l.length = (l.length : Int) := rfl
    rw [ex] at C2
    clear hp ex
    go_enter Try.func15, Try.ntmps15
    go_wp2_with fail
    refine (C2.out _ HI.out).mono ?_
    rintro e w2 ⟨rfl, b2⟩
    have HB2 := Lib.hid (HB0.out.trans (b2.mono HB0.out.size))
    clear b2
    go_wp2_with fail
    go_ret
    exact ⟨rfl, HB2.out⟩
  | some i =>
    obtain ⟨hi, -⟩ := MM.pl_some hp
    have K1 := Lib.hid (@my_acc l n a act i hp); have K2 := Lib.hid (@my_state l n a act i hp)
    rw [hp] at C2
    have ex : plN (some i) l.length = (i : Int) := rfl
    rw [ex] at C2
    clear hp ex
    generalize MM.mayE l n a act = r at *
    go_enter Try.func15, Try.ntmps15
    go_wp2_with fail
    generalize w.alloc (.cells #[.string n, .string a] 29) = w0 at *
    refine (C2.out _ HI.out).mono ?_
    rintro e w2 ⟨rfl, b2⟩
    have HB2 := Lib.hid (HB0.out.trans (b2.mono HB0.out.size))
    have HG2 := Lib.hid (HG0.out.below b2 HG0.out.lt)
    have HI2 := Lib.hid (HI.out.below b2)
    clear b2 HB0 HG0 C2
    obtain ⟨b, off, A', cap', m, rfl, hb, HV, q1, q2, q3, q4, d0, d1, d2⟩ := HI2.out.get hi
    rw [HV.out] at K1 K2
    have C3 := Lib.hid (fun ww h => apl_any A' m.accs cap' a ww h)
    have C4 := Lib.hid (fun ww => allows_any m.status act ww)
    have HQ3 := Lib.hid q3
    have c1 : w2.cell? ⟨w.heap.size, 1, none⟩ = some (.string a) := HG2.out.cell 1
    generalize (MM.pa m.accs a).isSome = y at *
    generalize plN (MM.pa m.accs a) m.accs.length = x at *
    generalize MM.allows m.status act = lb at *
    have HD : Hid (∀ ww, Below w2.heap.size w2 ww → ww.cell? ⟨b, off + i * 3 + 1, none⟩ = some (.int .i64 m.status)) := Lib.hid (fun ww h => (h.cell (p := ⟨b, off + i * 3 + 1, none⟩) hb).trans d1)
    clear q1 q2 q3 q4 d0
    go_wp2_with fail
    go_region_with (go_at_call 33; refine (C3.out _ (HQ3.out.below (Below.refl _ _).drew)).mono ?_; rintro e w3 ⟨rfl, b3⟩)
    all_goals (
      have HB3 : Hid (Below w.heap.size w w3) := Lib.hid (HB2.out.drew.trans (b3.mono HB2.out.drew.size))
      have b3' : Below w2.heap.size w2 w3 := (Below.refl _ _).drew.trans b3
      have e1 := HD.out w3 b3'
      clear b3 b3' d1 d2 c1
      cases y
      · have HX := Lib.hid (K1.out (by trivial))
        go_wp2_with fail
        go_ret
        exact ⟨by rw [HX.out] <;> rfl, HB3.out⟩
      · have HX := Lib.hid (K2.out (by trivial))
        go_wp2_with fail
        refine (C4.out _).mono ?_
        rintro e w4 ⟨rfl, rfl⟩
        cases lb
        · go_wp2_with fail
          go_ret
          exact ⟨by rw [HX.out] <;> rfl, HB3.out⟩
        · go_wp2_with fail
          go_ret
          exact ⟨by rw [HX.out] <;> rfl, HB3.out⟩)

/-! the reference: place, Find, Account, May -/
def rpN : Option Nat → Int
  | some k => k
  | none => -1
set_option maxHeartbeats 2000000 in
theorem rplace_any (A : Option Addr) (l : List MM.Mem) (cap : Nat) (n : ByteArray) (w : World) (hI : Mems w A l) :
    Calls Try.prog 32 #[.slice A l.length cap, .string n] w fun e w' => e = .returned (.int .i64 (rpN (MM.pl l n))) ∧ w = w' := by
  have hlen := hI.len
  have KY : Hid (∀ k, k < l.length → (∀ j, j < k → MM.eq (MM.mAt l j).name n = false) → MM.eq (MM.mAt l k).name n = true → MM.pl l n = some k) := Lib.hid (fun k hk hj h => MM.find_some hk (fun j hjl hjk => by rw [← MM.mAt_get hjl]; exact hj j hjk) (by rw [← MM.mAt_get hk]; exact h))
  have KN : Hid ((∀ j, j < l.length → MM.eq (MM.mAt l j).name n = false) → MM.pl l n = none) := Lib.hid (fun h => MM.find_none (fun j hjl => by rw [← MM.mAt_get hjl]; exact h j hjl))
  generalize MM.pl l n = o at *
  have HI := Lib.hid hI
  clear hI
  go_enter Try.func32, Try.ntmps32
  go_wp2
  go_loop [5] (fun i => ∃ k : Nat, k ≤ l.length ∧ i = .int .i64 k ∧ Hid (∀ j, j < k → MM.eq (MM.mAt l j).name n = false)) (fun i => l.length - (intOf i).toNat)
  case atStart => exact ⟨0, by omega, rfl, Lib.hid (fun j h => by omega)⟩
  case round =>
    obtain ⟨k, hk, rfl, HE⟩ := hrel
    by_cases hlt : k < l.length
    · obtain ⟨b, off, A', cap', m, rfl, hb, HV, q1, q2, q3, q4, d0, d1, d2⟩ := HI.out.get hlt
      clear q1 q2 q3 q4 d1 d2
      cases he : (m.name.toList == n.toList)
      · have HE2 : Hid (∀ j, j < k + 1 → MM.eq (MM.mAt l j).name n = false) := Lib.hid (fun j hj => by
          rcases Nat.lt_or_ge j k with g | g
          · exact HE.out j g
          · obtain rfl : j = k := by omega
            rw [HV.out]; exact he)
        go_wp2_with fail
        go_round
        case rel => exact ⟨k + 1, by omega, by go_num, HE2⟩
        case measure => simp [intOf]; omega
      · have HX := Lib.hid (KY.out k hlt HE.out (by rw [HV.out]; exact he))
        go_wp2_with fail
        go_ret
        exact ⟨by rw [HX.out] <;> rfl, rfl⟩
    · obtain rfl : k = l.length := by omega
      have HX := Lib.hid (KN.out HE.out)
      go_wp2_with fail
      go_ret
      exact ⟨by rw [HX.out] <;> rfl, rfl⟩

theorem mem_under : Try.prog.underlying 32 = some (.struct (Try.prog.fieldsOf 32)) := by kernel_rfl
theorem mem_size : (Try.prog.info? 32).map (·.size) = some 3 := by kernel_rfl
theorem results_mem {fn : Func} {p u : Tmp} (h : fn.results = #[.cell p 32, .tmp u]) (tmps : Array Value) (w : World) (g : Nat) (m : MM.Mem) (A : Option Addr) (cap : Nat)
    (hp : tmps.getD p undef = .pointer (some ⟨g, 0, none⟩)) (hb : CB w g 32 (memC m A cap)) : (results fn tmps).run Try.prog w = .ok (.tuple #[memA m A cap, tmps.getD u undef]) w := by
  rw [results_cell_tmp h, hp]
  simp only [asAddr, Sem.run_pure, Result.andThen_ok]
  rw [run_loadVar_row w g 32 32 _ (0, 0) _ hb mem_under rfl mem_size]
  rfl
theorem acc_under : Try.prog.underlying 36 = some (.struct (Try.prog.fieldsOf 36)) := by kernel_rfl
theorem acc_size : (Try.prog.info? 36).map (·.size) = some 2 := by kernel_rfl
theorem results_acc {fn : Func} {p u : Tmp} (h : fn.results = #[.cell p 36, .tmp u]) (tmps : Array Value) (w : World) (g : Nat) (a : MM.Ac)
    (hp : tmps.getD p undef = .pointer (some ⟨g, 0, none⟩)) (hb : CB w g 36 (accC a)) : (results fn tmps).run Try.prog w = .ok (.tuple #[accA a, tmps.getD u undef]) w := by
  rw [results_cell_tmp h, hp]
  simp only [asAddr, Sem.run_pure, Result.andThen_ok]
  rw [run_loadVar_row w g 36 36 _ (0, 0) _ hb acc_under rfl acc_size]
  rfl
/-- what Find gives: a member whose accounts can be read -/
def zeroM : MM.Mem := ⟨MM.nil, 0, []⟩
def foundM (l : List MM.Mem) (n : ByteArray) : MM.Mem := match MM.pl l n with
  | some k => MM.mAt l k
  | none => zeroM

theorem CB.put3 {w : World} {g : Nat} {t : TypeId} {x0 x1 x2 y0 y1 y2 : Value} (h : CB w g t #[x0, x1, x2]) : CB (((w.setCell ⟨g, 0, none⟩ y0).setCell ⟨g, 1, none⟩ y1).setCell ⟨g, 2, none⟩ y2) g t #[y0, y1, y2] := by
  have := ((h.set_ 0 y0).set_ 1 y1).set_ 2 y2
  simpa using this
theorem CB.put2 {w : World} {g : Nat} {t : TypeId} {x0 x1 y0 y1 : Value} (h : CB w g t #[x0, x1]) : CB ((w.setCell ⟨g, 0, none⟩ y0).setCell ⟨g, 1, none⟩ y1) g t #[y0, y1] := by
  have := (h.set_ 0 y0).set_ 1 y1
  simpa using this

set_option maxHeartbeats 4000000 in
theorem rfindm_any (A : Option Addr) (l : List MM.Mem) (cap : Nat) (n : ByteArray) (w : World) (hI : Mems w A l) :
    Calls Try.prog 11 #[.slice A l.length cap, .string n] w fun e w' => (∃ A' cap', e = .returned (.tuple #[memA (foundM l n) A' cap', .bool (MM.pl l n).isSome]) ∧ Accs w' A' (foundM l n).accs ∧ (foundM l n).accs.length ≤ cap') ∧ Below w.heap.size w w' := by
  have hlen := hI.len
  have HB0 := Lib.hid ((Below.refl w.heap.size w).alloc (Nat.le_refl _) (.cells #[.string ⟨#[]⟩, .int .i64 0, .slice none 0 0] 32))
  have HM0 := Lib.hid (CB.new w 32 #[.string ⟨#[]⟩, .int .i64 0, .slice none 0 0])
  have HI := Lib.hid (hI.below HB0.out)
  have HIW := Lib.hid hI
  have C2 := Lib.hid (fun ww h => rplace_any A l cap n ww h)
  clear hI
  cases hp : MM.pl l n with
  | none =>
    have ef : foundM l n = zeroM := by unfold foundM; rw [hp]
    rw [ef]
    rw [hp, show rpN none = -1 from rfl] at C2
    clear hp ef
    go_enter Try.func11, Try.ntmps11
    go_wp2_with fail
    refine (C2.out _ HI.out).mono ?_
    rintro e w2 ⟨rfl, rfl⟩
    go_wp2_with fail
    (try simp only [Exit.inBlock, Exit.then])
    refine bodyPost_ret (results_mem (m := zeroM) (A := none) (cap := 0) rfl _ _ _ rfl HM0.out) rfl ⟨⟨none, 0, rfl, TR.nil _ _, Nat.le_refl _⟩, HB0.out⟩
  | some i =>
    obtain ⟨hi, -⟩ := MM.pl_some hp
    have ef : foundM l n = MM.mAt l i := by unfold foundM; rw [hp]
    rw [ef]
    rw [hp, show rpN (some i) = (i : Int) from rfl] at C2
    clear hp ef
    obtain ⟨b, off, A', cap', m, rfl, hb, HV, q1, q2, q3, q4, d0, d1, d2⟩ := HIW.out.get hi
    rw [HV.out]
    have HQ3 := Lib.hid (q3.below HB0.out)
    have HAP := Lib.hid (q3.apart (Nat.le_refl _))
    have HQ4 := Lib.hid q4
    have hb0 : b < (w.alloc (.cells #[.string ⟨#[]⟩, .int .i64 0, .slice none 0 0] 32)).heap.size := by simp; omega
    replace d0 := (HB0.out.cell (p := ⟨b, off + i * 3, none⟩) hb).trans d0
    replace d1 := (HB0.out.cell (p := ⟨b, off + i * 3 + 1, none⟩) hb).trans d1
    replace d2 := (HB0.out.cell (p := ⟨b, off + i * 3 + 2, none⟩) hb).trans d2
    have hne : ¬ w.heap.size = b := by omega
    clear q1 q2 q3 q4 HV hb HIW
    go_enter Try.func11, Try.ntmps11
    go_wp2_with fail
    generalize w.alloc (.cells #[.string ⟨#[]⟩, .int .i64 0, .slice none 0 0] 32) = w0 at *
    refine (C2.out _ HI.out).mono ?_
    rintro e w2 ⟨rfl, rfl⟩
    have hlt : w.heap.size < w0.heap.size := HM0.out.lt
    have f0 := HM0.out.frozen 0; have f1 := HM0.out.frozen 1; have f2 := HM0.out.frozen 2
    have c0 := HM0.out.cell 0; have c1 := HM0.out.cell 1; have c2 := HM0.out.cell 2
    simp at c0 c1 c2
    go_wp2_with fail
    (try simp only [Exit.inBlock, Exit.then])
    refine bodyPost_ret (results_mem (m := m) (A := A') (cap := cap') rfl _ _ _ rfl HM0.out.put3) rfl ⟨⟨A', cap', rfl, ?_, HQ4.out⟩, ?_⟩
    · exact ((HQ3.out.set_ HAP.out _).set_ HAP.out _).set_ HAP.out _
    · exact (((HB0.out.setCell (p := ⟨w.heap.size, 0, none⟩) (Nat.le_refl _) _).setCell (p := ⟨w.heap.size, 1, none⟩) (Nat.le_refl _) _).setCell (p := ⟨w.heap.size, 2, none⟩) (Nat.le_refl _) _)
end Go.Proofs.Ytlnllbcpbohahaa

/- Contracts of layer 11: the reference's Account, May. -/
namespace Go.Proofs.Ytlnllbcpbohahaa
open Go.RowKit Go.Recs
set_option linter.unusedVariables false
set_option linter.unusedSimpArgs false

def foundA (l : List MM.Ac) (a : ByteArray) : MM.Ac := match MM.pa l a with
  | some k => aAt l k
  | none => ⟨MM.nil, 0⟩
theorem fa_hit {l : List MM.Ac} {a : ByteArray} {k : Nat} (hk : k < l.length) (hj : ∀ j, j < k → MM.eq (aAt l j).name a = false) (h : MM.eq (aAt l k).name a = true) : foundA l a = aAt l k ∧ (MM.pa l a).isSome = true := by
  have e : MM.pa l a = some k := MM.find_some hk (fun j hjl hjk => by rw [← aAt_get hjl]; exact hj j hjk) (by rw [← aAt_get hk]; exact h)
  unfold foundA
  rw [e]; exact ⟨rfl, rfl⟩
theorem fa_miss {l : List MM.Ac} {a : ByteArray} (h : ∀ j, j < l.length → MM.eq (aAt l j).name a = false) : foundA l a = ⟨MM.nil, 0⟩ ∧ (MM.pa l a).isSome = false := by
  have e : MM.pa l a = none := MM.find_none (fun j hjl => by rw [← aAt_get hjl]; exact h j hjl)
  unfold foundA
  rw [e]; exact ⟨rfl, rfl⟩

set_option maxHeartbeats 8000000 in
theorem racc_any (A : Option Addr) (l : List MM.Mem) (cap : Nat) (n a : ByteArray) (w : World) (hI : Mems w A l) :
    Calls Try.prog 13 #[.slice A l.length cap, keyA n a] w fun e w' => e = .returned (.tuple #[accA (foundA (foundM l n).accs a), .bool (MM.pa (foundM l n).accs a).isSome]) ∧ Below w.heap.size w w' := by
  have hlen := hI.len
  have HB0 := Lib.hid (((Below.refl w.heap.size w).alloc (Nat.le_refl _) (.cells (keyC n a) 29)).alloc (by simp) (.cells #[.string ⟨#[]⟩, .int .i64 0] 36))
  have HG0 := Lib.hid ((CB.new w 29 (keyC n a)).alloc (.cells #[.string ⟨#[]⟩, .int .i64 0] 36))
  have HZ0 : Hid (CB ((w.alloc (.cells (keyC n a) 29)).alloc (.cells #[.string ⟨#[]⟩, .int .i64 0] 36)) (w.heap.size + 1) 36 #[.string ⟨#[]⟩, .int .i64 0]) := Lib.hid (by
    have := CB.new (w.alloc (.cells (keyC n a) 29)) 36 #[.string ⟨#[]⟩, .int .i64 0]
    rw [show (w.alloc (.cells (keyC n a) 29)).heap.size = w.heap.size + 1 by simp] at this
    exact this)
  have HI := Lib.hid (hI.below HB0.out)
  have C2 := Lib.hid (fun ww h => rfindm_any A l cap n ww h)
  generalize foundM l n = fm at *
  have KY := Lib.hid (fun k => @fa_hit fm.accs a k); have KN := Lib.hid (@fa_miss fm.accs a)
  generalize foundA fm.accs a = fa at *
  generalize (MM.pa fm.accs a).isSome = y at *
  generalize (MM.pl l n).isSome = y2 at *
  clear hI
  go_enter Try.func13, Try.ntmps13
  go_wp2_with fail
  generalize (w.alloc (.cells #[.string n, .string a] 29)).alloc (.cells #[.string ⟨#[]⟩, .int .i64 0] 36) = w0 at *
  refine (C2.out _ HI.out).mono ?_
  rintro e w1 ⟨⟨A', cap', rfl, hA', hc'⟩, b1⟩
  have HB1 := Lib.hid (HB0.out.trans (b1.mono HB0.out.size))
  have bm : Below w1.heap.size w1 (w1.alloc (.cells (memC fm A' cap') 32)) := (Below.refl _ _).alloc (Nat.le_refl _) _
  have HB2 := Lib.hid (HB1.out.trans (bm.mono HB1.out.size))
  have HG2 := Lib.hid ((HG0.out.below b1 HG0.out.lt).below bm (Nat.lt_of_lt_of_le HG0.out.lt b1.size))
  have HZ2 := Lib.hid ((HZ0.out.below b1 HZ0.out.lt).below bm (Nat.lt_of_lt_of_le HZ0.out.lt b1.size))
  have HM2 := Lib.hid (CB.new w1 32 (memC fm A' cap'))
  have HA2 := Lib.hid (hA'.below bm)
  have hfl : fm.accs.length ≤ 9223372036854775807 := hA'.len
  clear hA' b1 bm HB0 HG0 HZ0 HB1
  go_wp2_with fail
  generalize w1.alloc (.cells #[.string fm.name, .int .i64 fm.status, .slice A' fm.accs.length cap'] 32) = w2 at *
  go_loopw [8] (fun i wr => ∃ k : Nat, k ≤ fm.accs.length ∧ i = .int .i64 k ∧ Hid (∀ j, j < k → MM.eq (aAt fm.accs j).name a = false) ∧ Hid (Below w2.heap.size w2 wr)) (fun i _ => fm.accs.length - (intOf i).toNat)
  case atStart => exact ⟨0, by omega, rfl, Lib.hid (fun j h => by omega), Lib.hid (Below.refl _ _)⟩
  case round =>
    obtain ⟨k, hk, rfl, HE, HW⟩ := hrel
    have HGr := Lib.hid (HG2.out.below HW.out HG2.out.lt)
    have HZr := Lib.hid (HZ2.out.below HW.out HZ2.out.lt)
    have HMr := Lib.hid (HM2.out.below HW.out HM2.out.lt)
    have HBr := Lib.hid (HB2.out.trans (HW.out.mono HB2.out.size))
    have m2 : wr.cell? ⟨w1.heap.size, 2, none⟩ = some (.slice A' fm.accs.length cap') := HMr.out.cell 2
    have g1 : wr.cell? ⟨w.heap.size, 1, none⟩ = some (.string a) := HGr.out.cell 1
    have z0 : wr.cell? ⟨w.heap.size + 1, 0, none⟩ = some (.string ⟨#[]⟩) := HZr.out.cell 0
    have z1 : wr.cell? ⟨w.heap.size + 1, 1, none⟩ = some (.int .i64 0) := HZr.out.cell 1
    have f0 := HZr.out.frozen 0; have f1 := HZr.out.frozen 1
    by_cases hlt : k < fm.accs.length
    · obtain ⟨b, off, c, rfl, hb, HV, q, d0, d1⟩ := accs_get (HA2.out.below HW.out) hlt
      clear q
      cases he : (c.name.toList == a.toList)
      · have HE2 : Hid (∀ j, j < k + 1 → MM.eq (aAt fm.accs j).name a = false) := Lib.hid (fun j hj => by
          rcases Nat.lt_or_ge j k with g | g
          · exact HE.out j g
          · obtain rfl : j = k := by omega
            rw [HV.out]; exact he)
        go_wp2_with fail
        go_quiet (fail)
        go_wp2_with fail
        go_roundw
        case rel => exact ⟨k + 1, by omega, by go_num, HE2, Lib.hid (by first | exact HW.out | exact below_drewN HW.out _)⟩
        case measure => simp [intOf]; omega
      · have HX := Lib.hid (KY.out k hlt HE.out (by rw [HV.out]; exact he))
        rw [HV.out] at HX
        go_wp2_with fail
        go_quiet (fail)
        have HZq := Lib.hid (HZr.out.drewN nq)
        have HBq := Lib.hid (below_drewN HBr.out nq)
        have m2q : (wr.drewN nq).cell? ⟨w1.heap.size, 2, none⟩ = some (.slice (some ⟨b, off, none⟩) fm.accs.length cap') := m2
        have d0q : (wr.drewN nq).cell? ⟨b, off + k * 2, none⟩ = some (.string c.name) := d0
        have d1q : (wr.drewN nq).cell? ⟨b, off + k * 2 + 1, none⟩ = some (.int .i64 c.kind) := d1
        have z0q : (wr.drewN nq).cell? ⟨w.heap.size + 1, 0, none⟩ = some (.string ⟨#[]⟩) := z0
        have z1q : (wr.drewN nq).cell? ⟨w.heap.size + 1, 1, none⟩ = some (.int .i64 0) := z1
        have f0q : (wr.drewN nq).frozen? ⟨w.heap.size + 1, 0, none⟩ = false := f0
        have f1q : (wr.drewN nq).frozen? ⟨w.heap.size + 1, 1, none⟩ = false := f1
        have hbq : b < (wr.drewN nq).heap.size := hb
        clear m2 g1 z0 z1 f0 f1 d0 d1 hb HGr HZr HMr HBr HE HW
        generalize wr.drewN nq = w3 at *
        go_wp2_with fail
        (try simp only [Exit.inBlock, Exit.then])
        refine bodyPost_ret (results_acc (a := c) rfl _ _ _ rfl HZq.out.put2) rfl ⟨?_, ?_⟩
        · rw [HX.out.1, HX.out.2] <;> rfl
        · exact ((HBq.out.setCell (p := ⟨w.heap.size + 1, 0, none⟩) (show w.heap.size ≤ w.heap.size + 1 by omega) _).setCell (p := ⟨w.heap.size + 1, 1, none⟩) (show w.heap.size ≤ w.heap.size + 1 by omega) _)
    · obtain rfl : k = fm.accs.length := by omega
      have HX := Lib.hid (KN.out HE.out)
      go_wp2_with fail
      (try simp only [Exit.inBlock, Exit.then])
      refine bodyPost_ret (results_acc (a := ⟨MM.nil, 0⟩) rfl _ _ _ rfl HZr.out.put2) rfl ⟨?_, ?_⟩
      · rw [HX.out.1, HX.out.2] <;> rfl
      · exact ((HBr.out.setCell (p := ⟨w.heap.size + 1, 0, none⟩) (show w.heap.size ≤ w.heap.size + 1 by omega) _).setCell (p := ⟨w.heap.size + 1, 1, none⟩) (show w.heap.size ≤ w.heap.size + 1 by omega) _)

theorem ry_none {l : List MM.Mem} {n a : ByteArray} {act : Int} (h : (MM.pl l n).isSome = false) : MM.mayE l n a act = 20 := by
  cases e : MM.pl l n with
  | none => exact my_none e
  | some i => rw [e] at h; cases h
theorem ry_acc {l : List MM.Mem} {n a : ByteArray} {act : Int} (h : (MM.pl l n).isSome = true) (h2 : (MM.pa (foundM l n).accs a).isSome = false) : MM.mayE l n a act = 21 := by
  cases e : MM.pl l n with
  | none => rw [e] at h; cases h
  | some i =>
    have : foundM l n = MM.mAt l i := by unfold foundM; rw [e]
    rw [this] at h2
    exact my_acc e h2
theorem ry_state {l : List MM.Mem} {n a : ByteArray} {act : Int} (h : (MM.pl l n).isSome = true) (h2 : (MM.pa (foundM l n).accs a).isSome = true) : MM.mayE l n a act = if MM.allows (foundM l n).status act = true then 0 else 13 := by
  cases e : MM.pl l n with
  | none => rw [e] at h; cases h
  | some i =>
    have : foundM l n = MM.mAt l i := by unfold foundM; rw [e]
    rw [this] at h2 ⊢
    exact my_state e h2

set_option maxHeartbeats 8000000 in
theorem rmay_any (A : Option Addr) (l : List MM.Mem) (cap : Nat) (n a : ByteArray) (act : Int) (w : World) (hI : Mems w A l) :
    Calls Try.prog 16 #[.slice A l.length cap, keyA n a, .int .i64 act] w fun e w' => e = .returned (.int .i64 (MM.mayE l n a act)) ∧ Below w.heap.size w w' := by
  have hlen := hI.len
  have HB0 := Lib.hid ((Below.refl w.heap.size w).alloc (Nat.le_refl _) (.cells (keyC n a) 29))
  have HG0 := Lib.hid (CB.new w 29 (keyC n a))
  have HI := Lib.hid (hI.below HB0.out)
  have C2 := Lib.hid (fun ww h => rfindm_any A l cap n ww h)
  have C3 := Lib.hid (fun ww h => racc_any A l cap n a ww h)
  have K0 := Lib.hid (@ry_none l n a act); have K1 := Lib.hid (@ry_acc l n a act); have K2 := Lib.hid (@ry_state l n a act)
  generalize MM.mayE l n a act = r at *
  generalize foundM l n = fm at *
  generalize foundA fm.accs a = fa at *
  generalize (MM.pa fm.accs a).isSome = y at *
  generalize (MM.pl l n).isSome = y2 at *
  clear hI
  go_enter Try.func16, Try.ntmps16
  go_wp2_with fail
  generalize w.alloc (.cells #[.string n, .string a] 29) = w0 at *
  refine (C2.out _ HI.out).mono ?_
  rintro e w1 ⟨⟨A', cap', rfl, hA', hc'⟩, b1⟩
  have bm : Below w1.heap.size w1 (w1.alloc (.cells (memC fm A' cap') 32)) := (Below.refl _ _).alloc (Nat.le_refl _) _
  have HB2 := Lib.hid ((HB0.out.trans (b1.mono HB0.out.size)).trans (bm.mono (HB0.out.trans (b1.mono HB0.out.size)).size))
  have HG2 := Lib.hid ((HG0.out.below b1 HG0.out.lt).below bm (Nat.lt_of_lt_of_le HG0.out.lt b1.size))
  have HM2 := Lib.hid (CB.new w1 32 (memC fm A' cap'))
  have HI2 := Lib.hid ((HI.out.below b1).below bm)
  clear hA' hc' b1 bm HB0 HG0 HI
  cases y2
  · have HX := Lib.hid (K0.out (by trivial))
    go_wp2_with fail
    go_ret
    exact ⟨by rw [HX.out] <;> rfl, HB2.out⟩
  have g0 : (w1.alloc (.cells (memC fm A' cap') 32)).cell? ⟨w.heap.size, 0, none⟩ = some (.string n) := HG2.out.cell 0
  have g1 : (w1.alloc (.cells (memC fm A' cap') 32)).cell? ⟨w.heap.size, 1, none⟩ = some (.string a) := HG2.out.cell 1
  go_wp2_with fail
  generalize w1.alloc (.cells #[.string fm.name, .int .i64 fm.status, .slice A' fm.accs.length cap'] 32) = w2 at *
  refine (C3.out _ HI2.out).mono ?_
  rintro e w3 ⟨rfl, b3⟩
  have ba : Below w3.heap.size w3 (w3.alloc (.cells (accC fa) 36)) := (Below.refl _ _).alloc (Nat.le_refl _) _
  have HB3 := Lib.hid (HB2.out.trans (b3.mono HB2.out.size))
  have HB4 := Lib.hid (HB3.out.trans (ba.mono HB3.out.size))
  have HM4 := Lib.hid ((HM2.out.below b3 HM2.out.lt).below ba (Nat.lt_of_lt_of_le HM2.out.lt b3.size))
  clear b3 ba HB3 g0 g1
  cases y
  · have HX := Lib.hid (K1.out (by trivial) (by trivial))
    go_wp2_with fail
    go_ret
    exact ⟨by rw [HX.out] <;> rfl, HB4.out⟩
  have HX := Lib.hid (K2.out (by trivial) (by trivial))
  have m1 : (w3.alloc (.cells (accC fa) 36)).cell? ⟨w1.heap.size, 1, none⟩ = some (.int .i64 fm.status) := HM4.out.cell 1
  have hs : fm.status = 1 ∨ (fm.status = 2 ∧ act = 1) ∨ (fm.status = 2 ∧ act = 3) ∨ (fm.status = 2 ∧ ¬ act = 1 ∧ ¬ act = 3) ∨ (fm.status = 3 ∧ act < 4) ∨ (fm.status = 3 ∧ 4 ≤ act ∧ 8 < act) ∨ (fm.status = 3 ∧ 4 ≤ act ∧ act ≤ 8) ∨ (¬ fm.status = 1 ∧ ¬ fm.status = 2 ∧ ¬ fm.status = 3) := by omega
  clear K0 K1 K2 HM2 HM4 HG2 HI2
  generalize fm.status = st at *
  rcases hs with rfl | ⟨rfl, rfl⟩ | ⟨rfl, rfl⟩ | ⟨rfl, h1, h2⟩ | ⟨rfl, h1⟩ | ⟨rfl, h1, h2⟩ | ⟨rfl, h1, h2⟩ | ⟨h1, h2, h3⟩
  all_goals (
    unfold MM.allows at HX
    go_wp2_with fail
    all_goals (
      go_ret
      exact ⟨by rw [HX.out]; simp_all <;> omega, HB4.out⟩))
end Go.Proofs.Ytlnllbcpbohahaa

/- Layer 11: the page's examples. -/
namespace Go.Proofs.Ytlnllbcpbohahaa
open Go.RowKit Go.Recs
set_option linter.unusedVariables false
set_option linter.unusedSimpArgs false
abbrev bravo : ByteArray := ⟨#[98, 114, 97, 118, 111]⟩
abbrev alfa : ByteArray := ⟨#[97, 108, 102, 97]⟩
abbrev houseS : ByteArray := ⟨#[104, 111, 117, 115, 101]⟩
theorem ne_ab : MM.eq bravo alfa = false := by unfold MM.eq; rw [L_toList, L_toList]; decide
theorem lt_ab : MM.lt alfa bravo = true := by unfold MM.lt; rw [L_toList, L_toList]; decide
theorem eq_aa (s : ByteArray) : MM.eq s s = true := MM.eq_iff.2 rfl
def l1 : List MM.Mem := [⟨bravo, 1, []⟩]
def l2 : List MM.Mem := [⟨alfa, 1, []⟩, ⟨bravo, 1, []⟩]
def l3 : List MM.Mem := [⟨alfa, 1, [⟨houseS, 1⟩]⟩, ⟨bravo, 1, []⟩]
def l4 : List MM.Mem := [⟨alfa, 2, [⟨houseS, 1⟩]⟩, ⟨bravo, 1, []⟩]
theorem g1 : MM.addE [] bravo = 0 ∧ MM.addL [] bravo = l1 := ad_ok (l := []) (n := bravo) rfl (by decide) rfl (by simp)
theorem k1 : MM.checkE l1 = 0 := by have := MM.add_check g1.1; rw [g1.2] at this; exact this
theorem g2 : MM.addE l1 alfa = 0 ∧ MM.addL l1 alfa = l2 := by
  have h : (MM.pl l1 alfa).isSome = false := by simp [MM.pl, l1, List.findIdx?_cons, ne_ab]
  have := ad_ok k1 (n := alfa) (by decide) h (by simp [l1])
  refine ⟨this.1, ?_⟩
  rw [this.2]
  simp [MM.insM, MM.ins, l1, l2, lt_ab]
theorem k2 : MM.checkE l2 = 0 := by have := MM.add_check g2.1; rw [g2.2] at this; exact this
theorem p2 : MM.pl l2 alfa = some 0 := by simp [MM.pl, l2, List.findIdx?_cons, eq_aa]
theorem g3 : MM.openE l2 alfa houseS 1 = 0 ∧ MM.openL l2 alfa houseS 1 = l3 := oe_yes (a := houseS) (k := 1) k2 p2 rfl (op_yes (by decide) rfl rfl (by decide))
theorem k3 : MM.checkE l3 = 0 := by have := MM.open_check g3.1; rw [g3.2] at this; exact this
theorem p3 : MM.pl l3 alfa = some 0 := by simp [MM.pl, l3, List.findIdx?_cons, eq_aa]
theorem pa3 : (MM.pa [⟨houseS, 1⟩] houseS) = some 0 := by simp [MM.pa, List.findIdx?_cons, eq_aa]
theorem g4 : MM.openE l3 alfa houseS 1 = 12 := by
  have h : MM.opE (MM.mAt l3 0).accs houseS 1 = 12 := op_there (by decide) rfl (by show (MM.pa [⟨houseS, 1⟩] houseS).isSome = true; rw [pa3]; rfl)
  have := oe_no (a := houseS) (k := 1) k3 p3 rfl (by rw [h]; decide)
  rw [this.1, h]
theorem g5 : MM.statE l3 alfa 2 = 0 ∧ MM.statL l3 alfa 2 = l4 := st_yes k3 p3 rfl
theorem p4 : MM.pl l4 alfa = some 0 := by simp [MM.pl, l4, List.findIdx?_cons, eq_aa]
theorem g6 : MM.mayE l4 alfa houseS 1 = 13 := by
  rw [my_state p4 (by show (MM.pa [⟨houseS, 1⟩] houseS).isSome = true; rw [pa3]; rfl)]; rfl
theorem g7 : MM.mayE l4 alfa houseS 7 = 0 := by
  rw [my_state p4 (by show (MM.pa [⟨houseS, 1⟩] houseS).isSome = true; rw [pa3]; rfl)]; rfl

set_option maxHeartbeats 8000000 in
set_option maxRecDepth 100000 in
theorem goes11_any (w : World) : Calls Try.prog 9 #[] w fun e w' => e = .returned (.bool true) ∧ Below w.heap.size w w' := by
  have C1 := Lib.hid (padd_any none [] 0 bravo w (Mems.nil _ _) (Nat.le_refl _) (by decide))
  have C2 := Lib.hid (fun A cap ww h hc => padd_any A l1 cap alfa ww h hc (by decide))
  have C3 := Lib.hid (fun A cap ww h => popen_any A l2 cap alfa houseS 1 ww h (by decide) ⟨by decide, by decide⟩)
  have C4 := Lib.hid (fun A cap ww h => popen_any A l3 cap alfa houseS 1 ww h (by decide) ⟨by decide, by decide⟩)
  have C5 := Lib.hid (fun A cap ww h => pstat_any A l3 cap alfa 2 ww h ⟨by decide, by decide⟩)
  have C6 := Lib.hid (fun A cap ww h => mmay_any A l4 cap alfa houseS 1 ww h)
  have C7 := Lib.hid (fun A cap ww h => mmay_any A l4 cap alfa houseS 7 ww h)
  rw [g1.1, g1.2] at C1
  rw [g2.1, g2.2] at C2
  rw [g3.1, g3.2] at C3
  rw [g4] at C4
  rw [g5.1, g5.2] at C5
  rw [g6] at C6
  rw [g7] at C7
  generalize MM.openL l3 alfa houseS 1 = o4 at *
  have e1 : l1.length = 1 := rfl
  have e2 : l2.length = 2 := rfl
  have e3 : l3.length = 2 := rfl
  have e4 : l4.length = 2 := rfl
  rw [e1] at C2; rw [e2] at C3; rw [e3] at C4 C5; rw [e4] at C6 C7
  clear e1 e2 e3 e4
  go_enter Try.func9, Try.ntmps9
  go_wp2_with fail
  refine C1.out.mono ?_
  rintro e w1 ⟨v1, rfl, ⟨A1, c1, rfl, hM1, hc1⟩, b1⟩
  have HB1 := Lib.hid b1
  have HM1 := Lib.hid hM1
  clear b1 hM1
  rw [show l1.length = 1 from rfl] at *
  go_wp2_with fail
  refine (C2.out _ _ _ HM1.out hc1).mono ?_
  rintro e w2 ⟨v2, rfl, ⟨A2, c2, rfl, hM2, hc2⟩, b2⟩
  have HB2 := Lib.hid (HB1.out.trans (b2.mono HB1.out.size))
  have HM2 := Lib.hid hM2
  clear b2 hM2 hc1 HM1 HB1 hc2
  rw [show l2.length = 2 from rfl] at *
  go_wp2_with fail
  refine (C3.out _ _ _ HM2.out).mono ?_
  rintro e w3 ⟨v3, rfl, ⟨A3, c3, rfl, hM3, hc3⟩, b3⟩
  have HB3 := Lib.hid (HB2.out.trans (b3.mono HB2.out.size))
  have HM3 := Lib.hid hM3
  clear b3 hM3 HM2 HB2 hc3
  rw [show l3.length = 2 from rfl] at *
  go_wp2_with fail
  refine (C4.out _ _ _ HM3.out).mono ?_
  rintro e w4 ⟨v4, rfl, ⟨A4, c4, rfl, hM4, hc4⟩, b4⟩
  have HB4 := Lib.hid (HB3.out.trans (b4.mono HB3.out.size))
  have HM4 := Lib.hid (HM3.out.below b4)
  clear b4 hM4 HM3 HB3 hc4
  go_wp2_with fail
  refine (C5.out _ _ _ HM4.out).mono ?_
  rintro e w5 ⟨v5, rfl, ⟨A5, c5, rfl, hM5, hc5⟩, b5⟩
  have HB5 := Lib.hid (HB4.out.trans (b5.mono HB4.out.size))
  have HM5 := Lib.hid hM5
  obtain ⟨b, off, A', cap', m, rfl, hb, HV, q1, q2, q3, q4, d0, d1, d2⟩ := hM5.get (k := 0) (by decide)
  have hm : m.name = alfa := by rw [← HV.out]; rfl
  rw [hm] at d0
  have d0' : w5.cell? ⟨b, off, none⟩ = some (.string alfa) := by simpa using d0
  have hn : (alfa.toList != [97, 108, 102, 97]) = false := by rw [L_toList]; decide
  have hn2 : (alfa.toList == [97, 108, 102, 97]) = true := by rw [L_toList]; decide
  have hn3 : alfa.toList = [97, 108, 102, 97] := by rw [L_toList]; rfl
  clear b5 hM5 HM4 HB4 hc5 q1 q2 q3 q4 d0 d1 d2 hm HV
  rw [show l4.length = 2 from rfl] at *
  go_wp2_with fail
  refine (C6.out _ _ _ HM5.out).mono ?_
  rintro e w6 ⟨rfl, b6⟩
  have HB6 := Lib.hid (HB5.out.trans (b6.mono HB5.out.size))
  have HM6 := Lib.hid (HM5.out.below b6)
  clear b6 HM5 HB5 d0'
  go_wp2_with fail
  refine (C7.out _ _ _ HM6.out).mono ?_
  rintro e w7 ⟨rfl, b7⟩
  have HB7 := Lib.hid (HB6.out.trans (b7.mono HB6.out.size))
  clear b7
  go_wp2_with fail
  go_ret
  exact ⟨rfl, HB7.out⟩
end Go.Proofs.Ytlnllbcpbohahaa

/- Contracts of layer 11: the reference's accounts with one more. -/
namespace Go.Proofs.Ytlnllbcpbohahaa
open Go.RowKit Go.Recs
set_option linter.unusedVariables false
set_option linter.unusedSimpArgs false

/-- what the loop made, and what is still to come, make the list with x in its place -/
def Rest {α : Type} (p : α → Bool) (x : α) (l : List α) (k : Nat) (b : Bool) (out : List α) : Prop :=
  out ++ (if b = true then l.drop k else MM.ins p x (l.drop k)) = MM.ins p x l ∧ out.length = k + (if b = true then 1 else 0)
section
variable {α : Type} {p : α → Bool} {x : α} {l : List α} {k : Nat} {out : List α}
theorem Rest.start (p : α → Bool) (x : α) (l : List α) : Rest p x l 0 false [] := ⟨by simp, rfl⟩
theorem Rest.later (h : Rest p x l k true out) (hk : k < l.length) : Rest p x l (k + 1) true (out ++ [l[k]]) := by
  refine ⟨?_, by rw [List.length_append, h.2]; simp⟩
  rw [← h.1, if_pos rfl, if_pos rfl, List.drop_eq_getElem_cons hk]
  simp
theorem Rest.put (h : Rest p x l k false out) (hk : k < l.length) (hp : p l[k] = true) : Rest p x l (k + 1) true (out ++ [x] ++ [l[k]]) := by
  refine ⟨?_, by rw [List.length_append, List.length_append, h.2]; simp⟩
  rw [← h.1, if_pos rfl, if_neg (by simp), List.drop_eq_getElem_cons hk]
  simp [MM.ins, hp]
theorem Rest.skip (h : Rest p x l k false out) (hk : k < l.length) (hp : p l[k] = false) : Rest p x l (k + 1) false (out ++ [l[k]]) := by
  refine ⟨?_, by rw [List.length_append, h.2]; simp⟩
  rw [← h.1, if_neg (by simp), if_neg (by simp), List.drop_eq_getElem_cons hk]
  simp [MM.ins, hp]
theorem Rest.done (h : Rest p x l l.length true out) : out = MM.ins p x l := by rw [← h.1, if_pos rfl, List.drop_length, List.append_nil]
theorem Rest.last (h : Rest p x l l.length false out) : out ++ [x] = MM.ins p x l := by rw [← h.1, if_neg (by simp), List.drop_length]; rfl
theorem Rest.len {b : Bool} (h : Rest p x l k b out) : out.length ≤ k + 1 := by rw [h.2]; split <;> omega
end
theorem acc_one (x : MM.Ac) : ∀ u ∈ [Value.string x.name, .int .i64 x.kind], u.oneCell' = true := by
  intro u hu
  simp only [List.mem_cons, List.not_mem_nil, or_false] at hu
  rcases hu with rfl | rfl <;> rfl
theorem mem_one1 (x : MM.Mem) (A : Option Addr) (n cap : Nat) : ∀ u ∈ [Value.string x.name, .int .i64 x.status, .slice A n cap], u.oneCell' = true := by
  intro u hu
  simp only [List.mem_cons, List.not_mem_nil, or_false] at hu
  rcases hu with rfl | rfl | rfl <;> rfl
theorem own_accs {w : World} {B : Nat} {v : Value} {l : List MM.Ac} (h : OwnR w B 36 2 v (l.map accV)) (hq : ∀ b ∈ l, accQ b) : ∃ A cap, v = .slice A l.length cap ∧ Accs w A l ∧ l.length ≤ cap ∧ ∀ g, g < B → Apart g A l := by
  rcases h.form with ⟨rfl, e⟩ | ⟨g, cap, rfl, hB, hg, hc⟩
  · have e0 : l = [] := by simpa using e
    subst e0
    exact ⟨none, 0, rfl, TR.nil _ _, Nat.le_refl _, fun g _ => .inl rfl⟩
  · obtain ⟨A', cap', e, hr, _⟩ := h.recs
    injection e with e1 e2 e3
    subst e1
    exact ⟨some ⟨g, 0, none⟩, cap, by simp, ⟨hr, hq⟩, by simpa using hc, fun g' hg' => .inr ⟨g, 0, rfl, by omega⟩⟩

set_option maxHeartbeats 8000000 in
theorem rwith_any (A : Option Addr) (l : List MM.Ac) (cap : Nat) (a : MM.Ac) (w : World) (hI : Accs w A l) (hl : l.length ≤ 1000) (ha : accQ a) :
    Calls Try.prog 41 #[.slice A l.length cap, accA a] w fun e w' => (∃ A' cap', e = .returned (.slice A' (MM.insA a l).length cap') ∧ Accs w' A' (MM.insA a l) ∧ (MM.insA a l).length ≤ cap' ∧ ∀ g, g ≤ w.heap.size → Apart g A' (MM.insA a l)) ∧ Below w.heap.size w w' := by
  have hlen := hI.len
  have KQ : Hid (∀ b ∈ MM.insA a l, accQ b) := Lib.hid (fun b hb => by
    rcases (MM.ins_mem _ _ _ _).1 hb with rfl | hb
    · exact ha
    · exact hI.2 b hb)
  have HB0 := Lib.hid ((Below.refl w.heap.size w).alloc (Nat.le_refl _) (.cells (accC a) 36))
  have HG0 := Lib.hid (CB.new w 36 (accC a))
  have HI := Lib.hid (hI.below HB0.out)
  have KS := Lib.hid (Rest.start (fun b => MM.lt a.name b.name) a l)
  have KD : Hid (∀ out, Rest (fun b => MM.lt a.name b.name) a l l.length true out → out = MM.insA a l) := Lib.hid (fun out h => h.done)
  have KL : Hid (∀ out, Rest (fun b => MM.lt a.name b.name) a l l.length false out → out ++ [a] = MM.insA a l) := Lib.hid (fun out h => h.last)
  generalize MM.insA a l = il at *
  clear hI ha
  go_enter Try.func41, Try.ntmps41
  go_wp2_with fail
  generalize w.alloc (.cells #[.string a.name, .int .i64 a.kind] 36) = w0 at *
  have hlt0 : w.heap.size < w0.heap.size := HG0.out.lt
  go_loopw [5, 6, 7] (fun v b i wr => ∃ (k : Nat) (ib : Bool) (out : List MM.Ac), k ≤ l.length ∧ i = .int .i64 (k : Int) ∧ b = .bool ib ∧ Hid (Rest (fun b => MM.lt a.name b.name) a l k ib out) ∧ Hid (OwnR wr w0.heap.size 36 2 v (out.map accV)) ∧ Hid (Below w0.heap.size w0 wr)) (fun _ _ i _ => l.length - (intOf i).toNat)
  case atStart => exact ⟨0, false, [], by omega, rfl, rfl, KS, Lib.hid (OwnR.nil _ _ _ _), Lib.hid (Below.refl _ _)⟩
  case round =>
    obtain ⟨k, ib, out, hk, rfl, rfl, HR, HO, HB⟩ := hrel
    have HG := Lib.hid (HG0.out.below HB.out HG0.out.lt)
    have c0 : wr.cell? ⟨w.heap.size, 0, none⟩ = some (.string a.name) := HG.out.cell 0
    have c1 : wr.cell? ⟨w.heap.size, 1, none⟩ = some (.int .i64 a.kind) := HG.out.cell 1
    have hol : out.length ≤ 1001 := by have := HR.out.len; omega
    have hsz : w.heap.size < wr.heap.size := HG.out.lt
    by_cases hlt : k < l.length
    · obtain ⟨b, off, x, rfl, hb, HV, hq, d0, d1⟩ := accs_get (HI.out.below HB.out) hlt
      have EX : Hid (l[k] = x) := Lib.hid ((aAt_get hlt).symm.trans HV.out)
      clear hq HV
      cases ib
      · cases hp : MM.lt a.name x.name
        · have hp' : Op.bytesLess a.name.toList x.name.toList = false := hp
          have HR2 : Hid (Rest (fun b => MM.lt a.name b.name) a l (k + 1) false (out ++ [x])) := Lib.hid (by
            have := HR.out.skip hlt (by rw [EX.out]; exact hp)
            rwa [EX.out] at this)
          clear hp
          go_wp2_with fail
          go_quiet (fail)
          go_wp2_with (at_builtin; refine wpList_pushR _ [.string x.name, .int .i64 x.kind] (acc_one x) w0.heap.size (out.map accV) _ _ 30 36 2 24 _ Try.underlying30 info_acc rfl (by decide) rfl rfl rfl _ rfl rfl (HO.out.drewN _) ?c1 ?c2 ?c3 ?_)
          case c1 => rw [List.length_map]; omega
          case c2 => rw [List.length_map]; simp only [maxLen]; omega
          case c3 => exact (below_drewN HB.out _).size
          intro v2 w2 o2 b2 _ _
          have HO2 : Hid (OwnR w2 w0.heap.size 36 2 v2 ((out ++ [x]).map accV)) := Lib.hid (by rw [List.map_append]; exact o2)
          have HB2 := Lib.hid ((below_drewN HB.out _).trans b2)
          clear o2 b2 HB HO HR
          go_wp2_with fail
          go_roundw
          case rel => exact ⟨k + 1, false, _, by omega, by go_num, rfl, HR2, HO2, HB2⟩
          case measure => simp [intOf]; omega
        · have hp' : Op.bytesLess a.name.toList x.name.toList = true := hp
          have HR2 : Hid (Rest (fun b => MM.lt a.name b.name) a l (k + 1) true (out ++ [a] ++ [x])) := Lib.hid (by
            have := HR.out.put hlt (by rw [EX.out]; exact hp)
            rwa [EX.out] at this)
          have HD : Hid (∀ ww, Below wr.heap.size wr ww → ww.cell? ⟨b, off + k * 2, none⟩ = some (.string x.name) ∧ ww.cell? ⟨b, off + k * 2 + 1, none⟩ = some (.int .i64 x.kind)) := Lib.hid (fun ww h => ⟨(h.cell (p := ⟨b, off + k * 2, none⟩) hb).trans d0, (h.cell (p := ⟨b, off + k * 2 + 1, none⟩) hb).trans d1⟩)
          clear hp
          go_wp2_with fail
          go_quiet (fail)
          go_wp2_with (at_builtin; refine wpList_pushR _ [.string a.name, .int .i64 a.kind] (acc_one a) w0.heap.size (out.map accV) _ _ 30 36 2 24 _ Try.underlying30 info_acc rfl (by decide) rfl rfl rfl _ rfl rfl (HO.out.drewN _) ?c1 ?c2 ?c3 ?_)
          case c1 => rw [List.length_map]; omega
          case c2 => rw [List.length_map]; simp only [maxLen]; omega
          case c3 => exact (below_drewN HB.out _).size
          intro v2 w2 o2 b2 hs2 _
          have HB2 := Lib.hid ((below_drewN HB.out _).trans b2)
          have HO2 : Hid (OwnR w2 w0.heap.size 36 2 v2 ((out ++ [a]).map accV)) := Lib.hid (by rw [List.map_append]; exact o2)
          obtain ⟨b', off', x', eA, hb', HV', hq', d0', d1'⟩ := accs_get (HI.out.below HB2.out) hlt
          injection eA with eA
          injection eA with eb eo
          subst eb eo
          obtain rfl : x' = x := HV'.out.symm.trans ((aAt_get hlt).trans EX.out)
          clear o2 b2 HB HO HR d0 d1 HV' hq' HD c0 c1
          go_wp2_with (at_builtin; refine wpList_pushR _ [.string x'.name, .int .i64 x'.kind] (acc_one x') w0.heap.size ((out ++ [a]).map accV) _ _ 30 36 2 24 _ Try.underlying30 info_acc rfl (by decide) rfl rfl rfl _ rfl rfl HO2.out ?c1 ?c2 ?c3 ?_)
          case c1 => first | omega | (simp; omega)
          case c2 => first | (simp only [maxLen]; omega) | (simp [maxLen]; omega)
          case c3 => exact HB2.out.size
          intro v3 w3 o3 b3 _ _
          have HB3 := Lib.hid (HB2.out.trans b3)
          have HO3 : Hid (OwnR w3 w0.heap.size 36 2 v3 ((out ++ [a] ++ [x']).map accV)) := Lib.hid (by simpa [accV] using o3)
          clear o3 b3 HB2 HO2
          go_wp2_with fail
          go_roundw
          case rel => exact ⟨k + 1, true, _, by omega, by go_num, rfl, HR2, HO3, HB3⟩
          case measure => simp [intOf]; omega
      · have HR2 : Hid (Rest (fun b => MM.lt a.name b.name) a l (k + 1) true (out ++ [x])) := Lib.hid (by
          have := HR.out.later hlt
          rwa [EX.out] at this)
        go_wp2_with fail
        go_quiet (fail)
        go_wp2_with (at_builtin; refine wpList_pushR _ [.string x.name, .int .i64 x.kind] (acc_one x) w0.heap.size (out.map accV) _ _ 30 36 2 24 _ Try.underlying30 info_acc rfl (by decide) rfl rfl rfl _ rfl rfl (HO.out.drewN _) ?c1 ?c2 ?c3 ?_)
        case c1 => rw [List.length_map]; omega
        case c2 => rw [List.length_map]; simp only [maxLen]; omega
        case c3 => exact (below_drewN HB.out _).size
        intro v2 w2 o2 b2 _ _
        have HO2 : Hid (OwnR w2 w0.heap.size 36 2 v2 ((out ++ [x]).map accV)) := Lib.hid (by rw [List.map_append]; exact o2)
        have HB2 := Lib.hid ((below_drewN HB.out _).trans b2)
        clear o2 b2 HB HO HR
        go_wp2_with fail
        go_roundw
        case rel => exact ⟨k + 1, true, _, by omega, by go_num, rfl, HR2, HO2, HB2⟩
        case measure => simp [intOf]; omega
    · obtain rfl : k = l.length := by omega
      cases ib
      · have KX := Lib.hid (KL.out _ HR.out)
        go_wp2_with (at_builtin; refine wpList_pushR _ [.string a.name, .int .i64 a.kind] (acc_one a) w0.heap.size (out.map accV) _ _ 30 36 2 24 _ Try.underlying30 info_acc rfl (by decide) rfl rfl rfl _ rfl rfl HO.out ?c1 ?c2 ?c3 ?_)
        case c1 => rw [List.length_map]; omega
        case c2 => rw [List.length_map]; simp only [maxLen]; omega
        case c3 => exact HB.out.size
        intro v2 w2 o2 b2 _ _
        have HO2 : Hid (OwnR w2 w0.heap.size 36 2 v2 (il.map accV)) := Lib.hid (by rw [← KX.out, List.map_append]; exact o2)
        have HB2 := Lib.hid (HB0.out.trans ((HB.out.trans b2).mono (by omega)))
        obtain ⟨A2, cap2, rfl, hA2, hc2, hp2⟩ := own_accs HO2.out KQ.out
        have HA2 := Lib.hid hA2
        have HP2 : Hid (∀ g, g ≤ w.heap.size → Apart g A2 il) := Lib.hid (fun g hg => hp2 g (by omega))
        clear o2 b2 HB HO HR hA2 HO2 hp2
        go_wp2_with fail
        go_ret
        exact ⟨⟨A2, cap2, rfl, HA2.out, hc2, HP2.out⟩, HB2.out⟩
      · have KX := Lib.hid (KD.out _ HR.out)
        have HO2 := Lib.hid (KX.out ▸ HO.out)
        have HB2 := Lib.hid (HB0.out.trans (HB.out.mono (by omega)))
        obtain ⟨A2, cap2, rfl, hA2, hc2, hp2⟩ := own_accs HO2.out KQ.out
        have HA2 := Lib.hid hA2
        have HP2 : Hid (∀ g, g ≤ w.heap.size → Apart g A2 il) := Lib.hid (fun g hg => hp2 g (by omega))
        clear HB HO HR hA2 HO2 hp2
        go_wp2_with fail
        go_ret
        exact ⟨⟨A2, cap2, rfl, HA2.out, hc2, HP2.out⟩, HB2.out⟩
end Go.Proofs.Ytlnllbcpbohahaa
