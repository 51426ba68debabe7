/- Contracts of layer 11: Status, May. -/
import Derived.Test.YtlnllbcpbohahabMemI
namespace Go.Proofs.Ytlnllbcpbohahab
open Go.RowKit Go.Recs
set_option linter.unusedVariables false
set_option linter.unusedSimpArgs false

theorem st_bad {l : List MM.Mem} {n : ByteArray} {s : Int} (h : MM.checkE l ≠ 0) : MM.statE l n s = MM.checkE l ∧ MM.statL l n s = [] := by
  have e : MM.statE l n s = MM.checkE l := by unfold MM.statE; rw [if_pos h]
  exact ⟨e, by unfold MM.statL; rw [e, if_neg h]⟩
theorem st_none {l : List MM.Mem} {n : ByteArray} {s : Int} (h : MM.checkE l = 0) (h2 : MM.pl l n = none) : MM.statE l n s = 20 ∧ MM.statL l n s = [] := by
  have e : MM.statE l n s = 20 := by unfold MM.statE; rw [if_neg (by simp [h]), h2]
  exact ⟨e, by unfold MM.statL; rw [e, if_neg (by decide)]⟩
theorem st_no {l : List MM.Mem} {n : ByteArray} {s : Int} {i : Nat} (h : MM.checkE l = 0) (h2 : MM.pl l n = some i) (h3 : MM.leads (MM.mAt l i).status s = false) : MM.statE l n s = 13 ∧ MM.statL l n s = [] := by
  have e : MM.statE l n s = 13 := by unfold MM.statE; rw [if_neg (by simp [h]), h2]; simp [h3]
  exact ⟨e, by unfold MM.statL; rw [e, if_neg (by decide)]⟩
theorem st_yes {l : List MM.Mem} {n : ByteArray} {s : Int} {i : Nat} (h : MM.checkE l = 0) (h2 : MM.pl l n = some i) (h3 : MM.leads (MM.mAt l i).status s = true) : MM.statE l n s = 0 ∧ MM.statL l n s = l.set i { MM.mAt l i with status := s } := by
  have e : MM.statE l n s = 0 := by unfold MM.statE; rw [if_neg (by simp [h]), h2]; simp [h3]
  exact ⟨e, MM.stat_list e h2⟩

/-- the rows of a list of members, one turned -/
theorem rows_get {rows : List MRow} {l : List MM.Mem} (h : rows.map MRow.m = l) {i : Nat} (hi : i < rows.length) : rows[i].m = MM.mAt l i := by
  subst h
  rw [MM.mAt_get (by simpa using hi)]; simp

set_option maxHeartbeats 8000000 in
theorem pstat_any (A : Option Addr) (l : List MM.Mem) (cap : Nat) (n : ByteArray) (s : Int) (w : World) (hI : Mems w A l) (hs : i64 s) :
    Calls Try.prog 9 #[.slice A l.length cap, .string n, .int .i64 s] w fun e w' => ∃ v, e = .returned (.tuple #[v, .int .i64 (MM.statE l n s)]) ∧ MemR w' v (MM.statL l n s) ∧ Below w.heap.size w w' := by
  have hlen := hI.len
  have HI := Lib.hid hI
  have C0 := Lib.hid (fun ww h => mcheck_any A l cap ww h)
  have C2 := Lib.hid (fun ww h => mpl_any A l cap n ww h)
  clear hI
  by_cases hc : MM.checkE l = 0
  · obtain ⟨hs1, hs2⟩ := small_rows hc
    have HS2 := Lib.hid hs2
    have C5 := Lib.hid (fun A' rows' n' cap' ww h1 h2 h3 h4 => mown_any A' rows' n' cap' ww h1 h2 h3 h4)
    rw [hc] at C0
    cases hp : MM.pl l n with
    | none =>
      obtain ⟨e1, e2⟩ := @st_none l n s hc hp
      rw [e1, e2]
      rw [hp] at C2
      clear e1 e2 hp hc C5
      have ex : plN none l.length = (l.length : Int) := rfl
      rw [ex] at C2
      go_enter Try.func9, Try.ntmps9
      go_wp2_with fail
      refine (C0.out _ HI.out).mono ?_
      rintro e w1 ⟨rfl, b1⟩
      have HB1 := Lib.hid b1
      clear b1
      go_wp2_with fail
      refine (C2.out _ (HI.out.below HB1.out)).mono ?_
      rintro e w2 ⟨rfl, b2⟩
      have HB2 := Lib.hid (HB1.out.trans (b2.mono HB1.out.size))
      clear b2
      go_wp2_with fail
      go_ret2
      exact ⟨_, rfl, MemR.nil _, HB2.out⟩
    | some i =>
      obtain ⟨hi, -⟩ := MM.pl_some hp
      have K1 := Lib.hid (@st_no l n s i hc hp); have K2 := Lib.hid (@st_yes l n s i hc hp)
      have C3 := Lib.hid (fun ww => leads_any (MM.mAt l i).status s ww)
      rw [hp] at C2
      have ex : plN (some i) l.length = (i : Int) := rfl
      rw [ex] at C2
      clear hp hc ex
      generalize MM.statE l n s = r at *
      generalize MM.statL l n s = out at *
      go_enter Try.func9, Try.ntmps9
      go_wp2_with fail
      refine (C0.out _ HI.out).mono ?_
      rintro e w1 ⟨rfl, b1⟩
      have HB1 := Lib.hid b1
      clear b1
      go_wp2_with fail
      refine (C2.out _ (HI.out.below HB1.out)).mono ?_
      rintro e w2 ⟨rfl, b2⟩
      have HB2 := Lib.hid (HB1.out.trans (b2.mono HB1.out.size))
      clear b2 HB1 C0 C2
      have HI2 := Lib.hid (HI.out.below HB2.out)
      obtain ⟨b, off, A', cap', m, eA, hb, HV, q1, q2, q3, q4, d0, d1, d2⟩ := HI2.out.get hi
      have hA2 : A = some ⟨b, off, none⟩ := eA
      subst hA2
      rw [HV.out] at C3 K1 K2
      generalize MM.leads m.status s = lb at *
      clear q1 q2 q3 q4 eA
      go_wp2_with fail
      refine (C3.out _).mono ?_
      rintro e w3 ⟨rfl, rfl⟩
      cases lb
      · have HX := Lib.hid (K1.out (by trivial))
        go_wp2_with fail
        go_ret2
        exact ⟨_, by rw [HX.out.1] <;> rfl, by rw [HX.out.2]; exact MemR.nil _, HB2.out⟩
      have HX := Lib.hid (K2.out (by trivial))
      obtain ⟨rows, he, hM⟩ := HI2.out
      have hrl : rows.length = l.length := by rw [← he]; simp
      have C7 := Lib.hid (C5.out (some ⟨b, off, none⟩) rows l.length cap w2 hrl.symm hM (by omega) (fun r hr => by
        have := HS2.out r.m (by rw [← he]; exact List.mem_map.2 ⟨r, hr, rfl⟩)
        omega))
      rw [he] at C7
      clear he hM hrl K1 K2 C5 rows d0 d1 d2
      go_wp2_with fail
      refine C7.out.mono ?_
      rintro e w5 ⟨v5, rows5, rfl, e5, hO5, b5⟩
      have HB5 := Lib.hid (HB2.out.trans (b5.mono HB2.out.size))
      have h5l : rows5.length = l.length := by rw [← e5]; simp
      rcases hO5.1.form with ⟨-, e0⟩ | ⟨g, c, rfl, hB, hg, hcc⟩
      · have : rows5.length = 0 := by simpa using congrArg List.length e0
        omega
      rw [List.length_map, h5l] at hO5 ⊢
      have hi5 : i < rows5.length := by omega
      have d1 : w5.cell? ⟨g, i * 3 + 1, none⟩ = some (.int .i64 rows5[i].m.status) := by
        have := hO5.1.cell (i := i) (j := 1) (by simpa using hi5) (by omega)
        rw [getD_rows hi5] at this
        exact this
      have f1 := hO5.1.frozen (i * 3 + 1)
      have hset := hO5.setS hi5 hs
      have emm : (rows5.set i ⟨{ rows5[i].m with status := s }, rows5[i].A, rows5[i].cap⟩).map MRow.m = l.set i { m with status := s } := by
        rw [List.map_set, e5]
        show l.set i { rows5[i].m with status := s } = _
        rw [rows_get e5 hi5, HV.out]
      have HR := Lib.hid (own_memr hset emm)
      have HB6 := Lib.hid (HB5.out.setCell (p := ⟨g, i * 3 + 1, none⟩) (show w.heap.size ≤ g by have := HB2.out.size; omega) (.int .i64 s))
      generalize rows5[i].m.status = s5 at *
      clear hset emm hO5 b5 e5 hcc C7
      go_wp2_with fail
      go_ret2
      exact ⟨_, by rw [HX.out.1] <;> rfl, by rw [HX.out.2]; exact HR.out, HB6.out⟩
  · obtain ⟨e1, e2⟩ := @st_bad l n s hc
    rw [e1, e2]
    have hd : (MM.checkE l != 0) = true := by simpa using hc
    generalize MM.checkE l = y at *
    clear C2 e1 e2 hc
    go_enter Try.func9, Try.ntmps9
    go_wp2_with fail
    refine (C0.out _ HI.out).mono ?_
    rintro e w1 ⟨rfl, b1⟩
    have HB1 := Lib.hid b1
    clear b1 HI
    go_wp2_with fail
    go_ret2
    exact ⟨_, rfl, MemR.nil _, HB1.out⟩
end Go.Proofs.Ytlnllbcpbohahab
