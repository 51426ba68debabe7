/- Put together: MemP, MemQ, MemS, MemT, MemU, WMemberTurns. -/
import Derived.Test.YtlnllbcpbohahaaBun7
/- Contracts of layer 11: the reference's turned, Status. -/
namespace Go.Recs
open Go.RowKit
theorem OwnR.put3 {w : World} {B g n cap i : Nat} {t : TypeId} {rows : List (List Value)} (h : OwnR w B t 3 (.slice (some ⟨g, 0, none⟩) n cap) rows) (hi : i < rows.length) (y0 y1 y2 : Value) :
    OwnR (((w.setCell ⟨g, i * 3, none⟩ y0).setCell ⟨g, i * 3 + 1, none⟩ y1).setCell ⟨g, i * 3 + 2, none⟩ y2) B t 3 (.slice (some ⟨g, 0, none⟩) n cap) (rows.set i [y0, y1, y2]) := by
  have h1 := h.set_ (by omega) (i := i) (j := 0) hi (by omega) y0
  have h2 := h1.set_ (by omega) (i := i) (j := 1) (by simpa using hi) (by omega) y1
  have h3 := h2.set_ (by omega) (i := i) (j := 2) (by simpa using hi) (by omega) y2
  obtain ⟨a, b, c, e⟩ : ∃ a b c, rows[i] = [a, b, c] := by
    have := h.1 rows[i] (List.getElem_mem hi)
    match hr : rows[i], this with
    | [a, b, c], _ => exact ⟨a, b, c, rfl⟩
  have er : rows.getD i [] = [a, b, c] := by simp [List.getD, hi, e]
  simpa [List.getD, hi, List.set_set, e, er] using h3
theorem mrowQ.set_ {w : World} {r : MRow} {g i : Nat} (h : mrowQ w r) (ha : Apart g r.A r.m.accs) (u : Value) : mrowQ (w.setCell ⟨g, i, none⟩ u) r := ⟨h.1, h.2.1, h.2.2.1.set_ ha u, h.2.2.2⟩

end Go.Recs
namespace Go.Proofs.Ytlnllbcpbohahaa
open Go.RowKit Go.Recs
set_option linter.unusedVariables false
set_option linter.unusedSimpArgs false

set_option maxHeartbeats 4000000 in
theorem rturned_any (A : Option Addr) (rows : List MRow) (n cap i : Nat) (m : MM.Mem) (A9 : Option Addr) (cap9 : Nat) (w : World) (hn : n = rows.length) (hI : MRows w A rows) (hl : rows.length ≤ 1000) (hi : i < rows.length) (hm : mrowQ w ⟨m, A9, cap9⟩) :
    Calls Try.prog 42 #[.slice A n cap, .int .i64 (i : Int), memA m A9 cap9] w fun e w' => ∃ v, e = .returned v ∧ MemR w' v ((rows.map MRow.m).set i m) ∧ Below w.heap.size w w' := by
  subst hn
  have HB0 := Lib.hid ((Below.refl w.heap.size w).alloc (Nat.le_refl _) (.cells (memC m A9 cap9) 32))
  have HG0 := Lib.hid (CB.new w 32 (memC m A9 cap9))
  have HI := Lib.hid (hI.below HB0.out)
  have HM := Lib.hid (hm.below HB0.out)
  have HAP : Hid (∀ g, w.heap.size ≤ g → Apart g A9 m.accs ∧ ∀ r ∈ rows, Apart g r.A r.m.accs) := Lib.hid (fun g hg => ⟨hm.2.2.1.apart hg, fun r hr => (hI.2 r hr).2.2.1.apart hg⟩)
  clear hI hm
  go_enter Try.func42, Try.ntmps42
  go_wp2_with (at_builtin; refine wpList_catR _ (w.heap.size + 1) [] (rows.map mrowV) _ _ _ 32 3 48 _ Try.underlying22 info_mem rfl (by decide) rfl rfl _ _ _ _ rfl rfl ?c0 ?c1 ?c2 (mrowV_one rows) ?c3 ?c4 ?c5 ?_)
  case c0 => simp
  case c1 => exact OwnR.nil _ _ _ _
  case c2 => exact HI.out.1
  case c3 => simp; omega
  case c4 => simp [maxLen]; omega
  case c5 => simp
  rintro v1 w1 hO hb hg
  have hz : (w.alloc (.cells #[.string m.name, .int .i64 m.status, .slice A9 m.accs.length cap9] 32)).heap.size = w.heap.size + 1 := by simp
  generalize w.alloc (.cells #[.string m.name, .int .i64 m.status, .slice A9 m.accs.length cap9] 32) = w0 at *
  rcases hO.form with ⟨-, e0⟩ | ⟨g, c, rfl, hB, hgl, hcc⟩
  · have : rows.length = 0 := by simpa using congrArg List.length e0
    omega
  rw [List.length_map] at hO hcc ⊢
  have HG1 := Lib.hid (HG0.out.below hb (by omega))
  have c0 : w1.cell? ⟨w.heap.size, 0, none⟩ = some (.string m.name) := HG1.out.cell 0
  have c1 : w1.cell? ⟨w.heap.size, 1, none⟩ = some (.int .i64 m.status) := HG1.out.cell 1
  have c2 : w1.cell? ⟨w.heap.size, 2, none⟩ = some (.slice A9 m.accs.length cap9) := HG1.out.cell 2
  have hsz : w.heap.size < w1.heap.size := HG1.out.lt
  have d0 : w1.cell? ⟨g, i * 3, none⟩ = some (.string rows[i].m.name) := by
    have := hO.cell (i := i) (j := 0) (by simpa using hi) (by omega)
    rw [getD_rows hi] at this
    exact this
  have d1 : w1.cell? ⟨g, i * 3 + 1, none⟩ = some (.int .i64 rows[i].m.status) := by
    have := hO.cell (i := i) (j := 1) (by simpa using hi) (by omega)
    rw [getD_rows hi] at this
    exact this
  have d2 : w1.cell? ⟨g, i * 3 + 2, none⟩ = some (.slice rows[i].A rows[i].m.accs.length rows[i].cap) := by
    have := hO.cell (i := i) (j := 2) (by simpa using hi) (by omega)
    rw [getD_rows hi] at this
    exact this
  have f0 := hO.frozen (i * 3); have f1 := hO.frozen (i * 3 + 1); have f2 := hO.frozen (i * 3 + 2)
  have hb0 : Below w0.heap.size w0 w1 := by rw [hz]; exact hb
  have hset := hO.put3 (i := i) (by simpa using hi) (.string m.name) (.int .i64 m.status) (.slice A9 m.accs.length cap9)
  have HR : Hid (MemR (((w1.setCell ⟨g, i * 3, none⟩ (.string m.name)).setCell ⟨g, i * 3 + 1, none⟩ (.int .i64 m.status)).setCell ⟨g, i * 3 + 2, none⟩ (.slice A9 m.accs.length cap9)) (.slice (some ⟨g, 0, none⟩) rows.length c) ((rows.map MRow.m).set i m)) := Lib.hid (by
    obtain ⟨A2, cap2, e, hr, hc⟩ := hset.recs
    injection e with e1 e2 e3
    subst e1
    refine ⟨some ⟨g, 0, none⟩, c, by simp, ⟨rows.set i ⟨m, A9, cap9⟩, by simp [List.map_set], by rw [List.map_set]; exact hr, fun r hr => ?_⟩, by simpa using hcc⟩
    obtain ⟨a1, a2⟩ := HAP.out g (by omega)
    rcases List.mem_or_eq_of_mem_set hr with hr | rfl
    · exact ((((HI.out.2 r hr).below hb0).set_ (a2 r hr) _).set_ (a2 r hr) _).set_ (a2 r hr) _
    · exact (((HM.out.below hb0).set_ a1 _).set_ a1 _).set_ a1 _)
  have HB2 : Hid (Below w.heap.size w (((w1.setCell ⟨g, i * 3, none⟩ (.string m.name)).setCell ⟨g, i * 3 + 1, none⟩ (.int .i64 m.status)).setCell ⟨g, i * 3 + 2, none⟩ (.slice A9 m.accs.length cap9))) := Lib.hid
    ((((HB0.out.trans (hb.mono (by omega))).setCell (p := ⟨g, i * 3, none⟩) (show w.heap.size ≤ g by omega) _).setCell (p := ⟨g, i * 3 + 1, none⟩) (show w.heap.size ≤ g by omega) _).setCell (p := ⟨g, i * 3 + 2, none⟩) (show w.heap.size ≤ g by omega) _)
  generalize rows[i].m.name = s5 at *
  generalize rows[i].m.status = s6 at *
  generalize rows[i].A = s7 at *
  generalize rows[i].m.accs.length = s8 at *
  generalize rows[i].cap = s9 at *
  have hgs : ¬ g = w.heap.size := by omega
  have hgs2 : ¬ w.heap.size = g := by omega
  clear hset hO hcc hb hb0 hg HI HM HAP HG0 HG1 HB0
  generalize hL : rows.length = L at *
  go_wp2_with fail
  go_ret
  exact ⟨_, rfl, HR.out, HB2.out⟩
end Go.Proofs.Ytlnllbcpbohahaa

/- Contracts of layer 11: the reference's Status. -/
namespace Go.Proofs.Ytlnllbcpbohahaa
open Go.RowKit Go.Recs
set_option linter.unusedVariables false
set_option linter.unusedSimpArgs false

set_option maxHeartbeats 8000000 in
theorem rstat_any (A : Option Addr) (l : List MM.Mem) (cap : Nat) (n : ByteArray) (s : Int) (w : World) (hI : Mems w A l) (hs : i64 s) :
    Calls Try.prog 25 #[.slice A l.length cap, .string n, .int .i64 s] w fun e w' => ∃ v, e = .returned (.tuple #[v, .int .i64 (MM.statE l n s)]) ∧ MemR w' v (MM.statL l n s) ∧ Below w.heap.size w w' := by
  have hlen := hI.len
  have HI := Lib.hid hI
  have C0 := Lib.hid (fun ww h => rmcheck_any A l cap ww h)
  have C2 := Lib.hid (fun ww h => rplace_any A l cap n ww h)
  clear hI
  by_cases hc : MM.checkE l = 0
  · obtain ⟨hs1, hs2⟩ := small_rows hc
    rw [hc] at C0
    cases hp : MM.pl l n with
    | none =>
      obtain ⟨e1, e2⟩ := @st_none l n s hc hp
      rw [e1, e2]
      rw [hp, show rpN none = -1 from rfl] at C2
      clear e1 e2 hp hc hs2
      go_enter Try.func25, Try.ntmps25
      go_wp2_with fail
      refine (C0.out _ HI.out).mono ?_
      rintro e w1 ⟨rfl, b1⟩
      have HB1 := Lib.hid b1
      clear b1
      go_wp2_with fail
      refine (C2.out _ (HI.out.below HB1.out)).mono ?_
      rintro e w2 ⟨rfl, rfl⟩
      go_wp2_with fail
      go_ret2
      exact ⟨_, rfl, MemR.nil _, HB1.out⟩
    | some i =>
      obtain ⟨hi, -⟩ := MM.pl_some hp
      have K1 := Lib.hid (@st_no l n s i hc hp); have K2 := Lib.hid (@st_yes l n s i hc hp)
      rw [hp, show rpN (some i) = (i : Int) from rfl] at C2
      clear hp hc hs2
      generalize MM.statE l n s = r at *
      generalize MM.statL l n s = out at *
      go_enter Try.func25, Try.ntmps25
      go_wp2_with fail
      refine (C0.out _ HI.out).mono ?_
      rintro e w1 ⟨rfl, b1⟩
      have HB1 := Lib.hid b1
      clear b1
      go_wp2_with fail
      refine (C2.out _ (HI.out.below HB1.out)).mono ?_
      rintro e w2 ⟨rfl, rfl⟩
      have HI2 := Lib.hid (HI.out.below HB1.out)
      obtain ⟨b, off, A', cap', m, eA, hb, HV, q1, q2, q3, q4, d0, d1, d2⟩ := HI2.out.get hi
      have hA2 : A = some ⟨b, off, none⟩ := eA
      subst hA2
      rw [HV.out] at K1 K2
      have HM : Hid (mrowQ w1 ⟨{ m with status := s }, A', cap'⟩) := Lib.hid ⟨q1, hs, q3, q4⟩
      have C7 : Hid (∀ ww, Below w1.heap.size w1 ww → Calls Try.prog 42 #[.slice (some ⟨b, off, none⟩) l.length cap, .int .i64 (i : Int), .agg #[.string m.name, .int .i64 s, .slice A' m.accs.length cap']] ww fun e w' => ∃ v, e = .returned v ∧ MemR w' v (l.set i { m with status := s }) ∧ Below ww.heap.size ww w') := Lib.hid (fun ww hw => by
        obtain ⟨rows, he, hM⟩ := HI2.out.below hw
        have hrl : rows.length = l.length := by rw [← he]; simp
        have := rturned_any (some ⟨b, off, none⟩) rows l.length cap i { m with status := s } A' cap' ww hrl.symm hM (by omega) (by omega) (HM.out.below hw)
        rwa [he] at this)
      have hcase : (m.status = 1 ∧ s < 2) ∨ (m.status = 1 ∧ 2 ≤ s ∧ s ≤ 4) ∨ (m.status = 1 ∧ 4 < s) ∨ (m.status = 2 ∧ s = 1) ∨ (m.status = 2 ∧ s = 3) ∨ (m.status = 2 ∧ ¬ s = 1 ∧ ¬ s = 3) ∨ (¬ m.status = 1 ∧ ¬ m.status = 2) := by omega
      have hyes : (m.status = 1 ∧ 2 ≤ s ∧ s ≤ 4) ∨ (m.status = 2 ∧ s = 1) ∨ (m.status = 2 ∧ s = 3) → MM.leads m.status s = true := by
        intro h; rcases h with ⟨h1, h2, h3⟩ | ⟨h1, h2⟩ | ⟨h1, h2⟩ <;> simp [MM.leads, h1] <;> omega
      have hno : (m.status = 1 ∧ s < 2) ∨ (m.status = 1 ∧ 4 < s) ∨ (m.status = 2 ∧ ¬ s = 1 ∧ ¬ s = 3) ∨ (¬ m.status = 1 ∧ ¬ m.status = 2) → MM.leads m.status s = false := by
        intro h; rcases h with ⟨h1, h2⟩ | ⟨h1, h2⟩ | ⟨h1, h2, h3⟩ | ⟨h1, h2⟩ <;> simp [MM.leads, h1, h2] <;> omega
      have HN := Lib.hid (fun h => K1.out (hno h)); have HY := Lib.hid (fun h => K2.out (hyes h))
      generalize MM.leads m.status s = lb at *
      clear q1 q2 q3 q4 eA K1 K2 hyes hno HM HV HI HI2
      generalize hst : m.status = st at *
      have hb2 : b < w1.heap.size := hb
      rcases hcase with ⟨rfl, h2⟩ | ⟨rfl, h2, h3⟩ | ⟨rfl, h2⟩ | ⟨rfl, rfl⟩ | ⟨rfl, rfl⟩ | ⟨rfl, h2, h3⟩ | ⟨h1, h2⟩
      case inr.inl | inr.inr.inr.inl | inr.inr.inr.inr.inl =>
        have HX := Lib.hid (HY.out (by first | omega | (simp <;> omega)))
        go_wp2_with fail
        refine (C7.out _ ((Below.refl _ _).alloc (Nat.le_refl _) _)).mono ?_
        rintro e w3 ⟨v3, rfl, hR3, b3⟩
        have HB3 := Lib.hid (HB1.out.trans ((((Below.refl w1.heap.size w1).alloc (Nat.le_refl _) _).trans (b3.mono (by simp))).mono HB1.out.size))
        have HR3 := Lib.hid hR3
        clear b3 hR3 HB1 C7 C0 C2
        go_wp2_with fail
        go_ret2
        exact ⟨_, by rw [HX.out.1] <;> rfl, by rw [HX.out.2]; exact HR3.out, HB3.out⟩
      case inr.inr.inl =>
        have HX := Lib.hid (HN.out (by simp; omega))
        have hz : decide (s ≤ 4) = false := by simp; omega
        have hz2 : ¬ s ≤ 4 := by omega
        go_wp2_with fail
        all_goals first
          | (exfalso; omega)
          | (go_ret2
             exact ⟨_, by rw [HX.out.1] <;> rfl, by rw [HX.out.2]; exact MemR.nil _, HB1.out⟩)
      case inr.inr.inr.inr.inr.inl =>
        have HX := Lib.hid (HN.out (by simp; omega))
        have hz : (s == 1) = false := by simp; omega
        have hz2 : (s == 3) = false := by simp; omega
        go_wp2_with fail
        all_goals first
          | (exfalso; omega)
          | (go_ret2
             exact ⟨_, by rw [HX.out.1] <;> rfl, by rw [HX.out.2]; exact MemR.nil _, HB1.out⟩)
      all_goals (
        have HX := Lib.hid (HN.out (by first | omega | (simp <;> omega)))
        go_wp2_with fail
        all_goals first
          | (exfalso; omega)
          | (go_ret2
             exact ⟨_, by rw [HX.out.1] <;> rfl, by rw [HX.out.2]; exact MemR.nil _, HB1.out⟩))
  · obtain ⟨e1, e2⟩ := @st_bad l n s hc
    rw [e1, e2]
    have hd : (MM.checkE l != 0) = true := by simpa using hc
    generalize MM.checkE l = y at *
    clear C2 e1 e2 hc
    go_enter Try.func25, Try.ntmps25
    go_wp2_with fail
    refine (C0.out _ HI.out).mono ?_
    rintro e w1 ⟨rfl, b1⟩
    have HB1 := Lib.hid b1
    clear b1 HI
    go_wp2_with fail
    go_ret2
    exact ⟨_, rfl, MemR.nil _, HB1.out⟩
end Go.Proofs.Ytlnllbcpbohahaa

/- Contracts of layer 11: the reference's Add. -/
namespace Go.Recs
open Go.RowKit
theorem MRows.get {w : World} {A : Option Addr} {rows : List MRow} (h : MRows w A rows) {k : Nat} (hk : k < rows.length) :
    ∃ b off, ∃ r : MRow, A = some ⟨b, off, none⟩ ∧ b < w.heap.size ∧ Hid (rows[k] = r) ∧ w.cell? ⟨b, off + k * 3, none⟩ = some (.string r.m.name) ∧ w.cell? ⟨b, off + k * 3 + 1, none⟩ = some (.int .i64 r.m.status) ∧ w.cell? ⟨b, off + k * 3 + 2, none⟩ = some (.slice r.A r.m.accs.length r.cap) := by
  obtain ⟨b, off, rfl, hb, hc⟩ := h.1.get (k := k) (by simpa using hk)
  have e : (rows.map mrowV).getD k [] = mrowV rows[k] := by simp [List.getD, hk]
  rw [e] at hc
  refine ⟨b, off, rows[k], rfl, hb, Lib.hid rfl, hc 0 (by omega), ?_, ?_⟩
  · rw [Nat.add_assoc]; exact hc 1 (by omega)
  · rw [Nat.add_assoc]; exact hc 2 (by omega)
end Go.Recs
namespace Go.Proofs.Ytlnllbcpbohahaa
open Go.RowKit Go.Recs
set_option linter.unusedVariables false
set_option linter.unusedSimpArgs false
theorem ins_map {α β : Type} (f : α → β) (p : β → Bool) (x : α) (l : List α) : (MM.ins (fun a => p (f a)) x l).map f = MM.ins p (f x) (l.map f) := by
  induction l with
  | nil => rfl
  | cons a r ih =>
    simp only [MM.ins, List.map_cons]
    split <;> simp [*]
abbrev newR (n : ByteArray) : MRow := ⟨⟨n, 1, []⟩, none, 0⟩
theorem mrow_one (x : MRow) : ∀ u ∈ [Value.string x.m.name, .int .i64 x.m.status, .slice x.A x.m.accs.length x.cap], u.oneCell' = true := by
  intro u hu
  simp only [List.mem_cons, List.not_mem_nil, or_false] at hu
  rcases hu with rfl | rfl | rfl <;> rfl

set_option maxHeartbeats 8000000 in
theorem radd_any (A : Option Addr) (l : List MM.Mem) (cap : Nat) (n : ByteArray) (w : World) (hI : Mems w A l) (hn : n.size ≤ maxLen) :
    Calls Try.prog 21 #[.slice A l.length cap, .string n] w fun e w' => ∃ v, e = .returned (.tuple #[v, .int .i64 (MM.addE l n)]) ∧ MemR w' v (MM.addL l n) ∧ Below w.heap.size w w' := by
  have hlen := hI.len
  have HI := Lib.hid hI
  have C0 := Lib.hid (fun ww h => rmcheck_any A l cap ww h)
  have C1 := Lib.hid (fun ww => rname_any n ww hn)
  have C2 := Lib.hid (fun ww h => rplace_any A l cap n ww h)
  clear hI
  by_cases hc : MM.checkE l = 0
  · have K1 := Lib.hid (@ad_name l n hc); have K2 := Lib.hid (@ad_there l n hc); have K3 := Lib.hid (@ad_long l n hc); have K4 := Lib.hid (@ad_ok l n hc)
    obtain ⟨hs1, hs2⟩ := small_rows hc
    rw [hc] at C0
    have eN : MM.okN n = WM.name (L n) := rfl
    rw [eN] at K1 K2 K3 K4
    have hpx : ((MM.pl l n).isSome = true ∧ 0 ≤ rpN (MM.pl l n)) ∨ ((MM.pl l n).isSome = false ∧ rpN (MM.pl l n) = -1) := by
      cases MM.pl l n with
      | none => exact .inr ⟨rfl, rfl⟩
      | some i => exact .inl ⟨rfl, by simp [rpN]⟩
    clear hc eN hs2
    generalize MM.addE l n = r at *
    generalize MM.addL l n = out at *
    generalize (MM.pl l n).isSome = y at *
    generalize rpN (MM.pl l n) = x at *
    generalize WM.name (L n) = b0 at *
    go_enter Try.func21, Try.ntmps21
    go_wp2_with fail
    refine (C0.out _ HI.out).mono ?_
    rintro e w1 ⟨rfl, b1⟩
    have HB1 := Lib.hid b1
    clear b1 C0
    go_wp2_with fail
    refine (C1.out _).mono ?_
    rintro e w2 ⟨rfl, rfl⟩
    cases b0
    · have HX := Lib.hid (K1.out (by trivial))
      go_wp2_with fail
      go_ret2
      exact ⟨_, by rw [HX.out.1] <;> rfl, by rw [HX.out.2]; exact MemR.nil _, HB1.out⟩
    go_wp2_with fail
    refine (C2.out _ (HI.out.below HB1.out)).mono ?_
    rintro e w2 ⟨rfl, rfl⟩
    rcases hpx with ⟨rfl, hx⟩ | ⟨rfl, rfl⟩
    · have HX := Lib.hid (K2.out (by trivial) (by trivial))
      go_wp2_with fail
      go_ret2
      exact ⟨_, by rw [HX.out.1] <;> rfl, by rw [HX.out.2]; exact MemR.nil _, HB1.out⟩
    by_cases h32 : 32 ≤ l.length
    · have HX := Lib.hid (K3.out (by trivial) (by trivial) h32)
      have h32' : (32 : Int) ≤ (l.length : Int) := by omega
      go_wp2_with fail
      go_ret2
      exact ⟨_, by rw [HX.out.1] <;> rfl, by rw [HX.out.2]; exact MemR.nil _, HB1.out⟩
    have HX := Lib.hid (K4.out (by trivial) (by trivial) h32)
    obtain ⟨rows, he, hM⟩ := HI.out.below HB1.out
    have HRL : Hid (rows.length = l.length) := Lib.hid (by rw [← he]; simp)
    have HM := Lib.hid hM
    have KS := Lib.hid (Rest.start (fun r : MRow => MM.lt n r.m.name) (newR n) rows)
    have KR : Hid (∀ ww v, Below w1.heap.size w1 ww → OwnR ww w1.heap.size 32 3 v ((MM.ins (fun r : MRow => MM.lt n r.m.name) (newR n) rows).map mrowV) → MemR ww v out) := Lib.hid (fun ww v hb ho => by
      obtain ⟨A2, cap2, rfl, hr, hcc⟩ := ho.recs
      have em : (MM.ins (fun r : MRow => MM.lt n r.m.name) (newR n) rows).map MRow.m = out := by
        rw [HX.out.2, ← he]
        exact ins_map MRow.m (fun m => MM.lt n m.name) (newR n) rows
      rw [List.length_map] at hcc ⊢
      rw [← em]
      refine ⟨A2, cap2, by simp, ⟨_, rfl, hr, fun r hr => ?_⟩, by simpa using hcc⟩
      rcases (MM.ins_mem _ _ _ _).1 hr with rfl | hr
      · exact ⟨hn, (show i64 1 from ⟨by decide, by decide⟩), TR.nil _ _, Nat.le_refl _⟩
      · exact (HM.out.2 r hr).below hb)
    have h32' : ¬ (32 : Int) ≤ (l.length : Int) := by omega
    clear K1 K2 K3 K4 hM he HI C2 C1
    go_wp2_with fail
    go_loopw [7, 8, 9] (fun v b i wr => ∃ (k : Nat) (ib : Bool) (o : List MRow), k ≤ l.length ∧ i = .int .i64 (k : Int) ∧ b = .bool ib ∧ Hid (Rest (fun r : MRow => MM.lt n r.m.name) (newR n) rows k ib o) ∧ Hid (OwnR wr w1.heap.size 32 3 v (o.map mrowV)) ∧ Hid (Below w1.heap.size w1 wr)) (fun _ _ i _ => l.length - (intOf i).toNat)
    case atStart => exact ⟨0, false, [], by omega, rfl, rfl, KS, Lib.hid (OwnR.nil _ _ _ _), Lib.hid (Below.refl _ _)⟩
    case round =>
      obtain ⟨k, ib, o, hk, rfl, rfl, HR, HO, HB⟩ := hrel
      have hol : o.length ≤ 33 := by have := HR.out.len; omega
      by_cases hlt : k < l.length
      · have hkr : k < rows.length := by have := HRL.out; omega
        obtain ⟨b, off, x, rfl, hb, EX, d0, d1, d2⟩ := (HM.out.below HB.out).get hkr
        cases ib
        · cases hp : MM.lt n x.m.name
          · have hp' : Op.bytesLess n.toList x.m.name.toList = false := hp
            have HR2 : Hid (Rest (fun r : MRow => MM.lt n r.m.name) (newR n) rows (k + 1) false (o ++ [x])) := Lib.hid (by
              have := HR.out.skip hkr (by rw [EX.out]; exact hp)
              rwa [EX.out] at this)
            clear hp
            go_wp2_with (at_builtin; refine wpList_pushR _ [.string x.m.name, .int .i64 x.m.status, .slice x.A x.m.accs.length x.cap] (mrow_one x) w1.heap.size (o.map mrowV) _ _ 22 32 3 48 _ Try.underlying22 info_mem rfl (by decide) rfl rfl rfl _ rfl rfl HO.out ?c1 ?c2 ?c3 ?_)
            case c1 => first | omega | (simp; omega)
            case c2 => simp [maxLen]; omega
            case c3 => exact HB.out.size
            intro v2 w2 o2 b2 _ _
            have HO2 : Hid (OwnR w2 w1.heap.size 32 3 v2 ((o ++ [x]).map mrowV)) := Lib.hid (by simpa [mrowV] using o2)
            have HB2 := Lib.hid (HB.out.trans b2)
            clear o2 b2 HB HO HR
            go_wp2_with fail
            go_roundw
            case rel => exact ⟨k + 1, false, _, by omega, by go_num, rfl, HR2, HO2, HB2⟩
            case measure => simp [intOf]; omega
          · have hp' : Op.bytesLess n.toList x.m.name.toList = true := hp
            have HR2 : Hid (Rest (fun r : MRow => MM.lt n r.m.name) (newR n) rows (k + 1) true (o ++ [newR n] ++ [x])) := Lib.hid (by
              have := HR.out.put hkr (by rw [EX.out]; exact hp)
              rwa [EX.out] at this)
            clear hp
            go_wp2_with (at_builtin; refine wpList_pushR _ [.string n, .int .i64 1, .slice none 0 0] (mrow_one (newR n)) w1.heap.size (o.map mrowV) _ _ 22 32 3 48 _ Try.underlying22 info_mem rfl (by decide) rfl rfl rfl _ rfl rfl HO.out ?c1 ?c2 ?c3 ?_)
            case c1 => first | omega | (simp; omega)
            case c2 => simp [maxLen]; omega
            case c3 => exact HB.out.size
            intro v2 w2 o2 b2 _ _
            have HB2 := Lib.hid (HB.out.trans b2)
            have HO2 : Hid (OwnR w2 w1.heap.size 32 3 v2 ((o ++ [newR n]).map mrowV)) := Lib.hid (by simpa [mrowV] using o2)
            obtain ⟨b', off', x', eA, hb', EX', d0', d1', d2'⟩ := (HM.out.below HB2.out).get hkr
            injection eA with eA
            injection eA with eb eo
            subst eb eo
            obtain rfl : x' = x := EX'.out.symm.trans EX.out
            clear o2 b2 HB HO HR d0 d1 d2 EX'
            go_wp2_with (at_builtin; refine wpList_pushR _ [.string x'.m.name, .int .i64 x'.m.status, .slice x'.A x'.m.accs.length x'.cap] (mrow_one x') w1.heap.size ((o ++ [newR n]).map mrowV) _ _ 22 32 3 48 _ Try.underlying22 info_mem rfl (by decide) rfl rfl rfl _ rfl rfl HO2.out ?c1 ?c2 ?c3 ?_)
            case c1 => first | omega | (simp; omega)
            case c2 => simp [maxLen]; omega
            case c3 => exact HB2.out.size
            intro v3 w3 o3 b3 _ _
            have HB3 := Lib.hid (HB2.out.trans b3)
            have HO3 : Hid (OwnR w3 w1.heap.size 32 3 v3 ((o ++ [newR n] ++ [x']).map mrowV)) := Lib.hid (by simpa [mrowV] using o3)
            clear o3 b3 HB2 HO2
            go_wp2_with fail
            go_roundw
            case rel => exact ⟨k + 1, true, _, by omega, by go_num, rfl, HR2, HO3, HB3⟩
            case measure => simp [intOf]; omega
        · have HR2 : Hid (Rest (fun r : MRow => MM.lt n r.m.name) (newR n) rows (k + 1) true (o ++ [x])) := Lib.hid (by
            have := HR.out.later hkr
            rwa [EX.out] at this)
          go_wp2_with (at_builtin; refine wpList_pushR _ [.string x.m.name, .int .i64 x.m.status, .slice x.A x.m.accs.length x.cap] (mrow_one x) w1.heap.size (o.map mrowV) _ _ 22 32 3 48 _ Try.underlying22 info_mem rfl (by decide) rfl rfl rfl _ rfl rfl HO.out ?c1 ?c2 ?c3 ?_)
          case c1 => first | omega | (simp; omega)
          case c2 => simp [maxLen]; omega
          case c3 => exact HB.out.size
          intro v2 w2 o2 b2 _ _
          have HO2 : Hid (OwnR w2 w1.heap.size 32 3 v2 ((o ++ [x]).map mrowV)) := Lib.hid (by simpa [mrowV] using o2)
          have HB2 := Lib.hid (HB.out.trans b2)
          clear o2 b2 HB HO HR
          go_wp2_with fail
          go_roundw
          case rel => exact ⟨k + 1, true, _, by omega, by go_num, rfl, HR2, HO2, HB2⟩
          case measure => simp [intOf]; omega
      · have hkr : k = rows.length := by have := HRL.out; omega
        obtain rfl : k = l.length := by omega
        cases ib
        · have KX : Hid (o ++ [newR n] = MM.ins (fun r : MRow => MM.lt n r.m.name) (newR n) rows) := Lib.hid (by
            have := HR.out
            rw [hkr] at this
            exact this.last)
          clear hkr
          go_wp2_with (at_builtin; refine wpList_pushR _ [.string n, .int .i64 1, .slice none 0 0] (mrow_one (newR n)) w1.heap.size (o.map mrowV) _ _ 22 32 3 48 _ Try.underlying22 info_mem rfl (by decide) rfl rfl rfl _ rfl rfl HO.out ?c1 ?c2 ?c3 ?_)
          case c1 => first | omega | (simp; omega)
          case c2 => simp [maxLen]; omega
          case c3 => exact HB.out.size
          intro v2 w2 o2 b2 _ _
          have HB2 := Lib.hid (HB1.out.trans ((HB.out.trans b2).mono HB1.out.size))
          have HR2 := Lib.hid (KR.out w2 v2 (HB.out.trans b2) (by rw [← KX.out]; simpa [mrowV] using o2))
          clear o2 b2 HB HO HR KX
          go_wp2_with fail
          go_ret2
          exact ⟨_, by rw [HX.out.1] <;> rfl, HR2.out, HB2.out⟩
        · have KX : Hid (o = MM.ins (fun r : MRow => MM.lt n r.m.name) (newR n) rows) := Lib.hid (by
            have := HR.out
            rw [hkr] at this
            exact this.done)
          have HB2 := Lib.hid (HB1.out.trans (HB.out.mono HB1.out.size))
          have HR2 := Lib.hid (KR.out _ _ HB.out (by rw [← KX.out]; exact HO.out))
          clear HB HO HR KX hkr
          go_wp2_with fail
          go_ret2
          exact ⟨_, by rw [HX.out.1] <;> rfl, HR2.out, HB2.out⟩
  · obtain ⟨e1, e2⟩ := @ad_bad l n hc
    rw [e1, e2]
    have hd : (MM.checkE l != 0) = true := by simpa using hc
    generalize MM.checkE l = y at *
    clear C1 C2 e1 e2 hc
    go_enter Try.func21, Try.ntmps21
    go_wp2_with fail
    refine (C0.out _ HI.out).mono ?_
    rintro e w1 ⟨rfl, b1⟩
    have HB1 := Lib.hid b1
    clear b1 HI
    go_wp2_with fail
    go_ret2
    exact ⟨_, rfl, MemR.nil _, HB1.out⟩
end Go.Proofs.Ytlnllbcpbohahaa

/- Contracts of layer 11: the reference's Open. -/
namespace Go.Proofs.Ytlnllbcpbohahaa
open Go.RowKit Go.Recs
set_option linter.unusedVariables false
set_option linter.unusedSimpArgs false

set_option maxHeartbeats 16000000 in
theorem ropen_any (A : Option Addr) (l : List MM.Mem) (cap : Nat) (n a : ByteArray) (kd : Int) (w : World) (hI : Mems w A l) (ha : a.size ≤ maxLen) (hk : i64 kd) :
    Calls Try.prog 23 #[.slice A l.length cap, keyA n a, .int .i64 kd] w fun e w' => ∃ v, e = .returned (.tuple #[v, .int .i64 (MM.openE l n a kd)]) ∧ MemR w' v (MM.openL l n a kd) ∧ Below w.heap.size w w' := by
  have hlen := hI.len
  have HB0 := Lib.hid ((Below.refl w.heap.size w).alloc (Nat.le_refl _) (.cells (keyC n a) 29))
  have HG0 := Lib.hid (CB.new w 29 (keyC n a))
  have HI := Lib.hid (hI.below HB0.out)
  have C0 := Lib.hid (fun ww h => rmcheck_any A l cap ww h)
  have C2 := Lib.hid (fun ww h => rplace_any A l cap n ww h)
  have C1 := Lib.hid (fun ww => rname_any a ww ha)
  have C3 := Lib.hid (fun ww h => racc_any A l cap n a ww h)
  clear hI
  by_cases hc : MM.checkE l = 0
  · obtain ⟨hs1, hs2⟩ := small_rows hc
    rw [hc] at C0
    cases hp : MM.pl l n with
    | none =>
      obtain ⟨e1, e2⟩ := @oe_none l n a kd hc hp
      rw [e1, e2]
      rw [hp, show rpN none = -1 from rfl] at C2
      clear e1 e2 hp hc hs2 C1 C3
      go_enter Try.func23, Try.ntmps23
      go_wp2_with fail
      generalize w.alloc (.cells #[.string n, .string a] 29) = w0 at *
      refine (C0.out _ HI.out).mono ?_
      rintro e w1 ⟨rfl, b1⟩
      have HB1 := Lib.hid (HB0.out.trans (b1.mono HB0.out.size))
      have HG1 := Lib.hid (HG0.out.below b1 HG0.out.lt)
      have HI1 := Lib.hid (HI.out.below b1)
      have c0 : w1.cell? ⟨w.heap.size, 0, none⟩ = some (.string n) := HG1.out.cell 0
      clear b1
      go_wp2_with fail
      refine (C2.out _ HI1.out).mono ?_
      rintro e w2 ⟨rfl, rfl⟩
      go_wp2_with fail
      go_ret2
      exact ⟨_, rfl, MemR.nil _, HB1.out⟩
    | some i =>
      obtain ⟨hi, -⟩ := MM.pl_some hp
      have ef : foundM l n = MM.mAt l i := by unfold foundM; rw [hp]
      rw [ef] at C3
      have K1 := Lib.hid (@oe_state l n a kd i hc hp)
      have KN : Hid ((MM.mAt l i).status = 1 → WM.name (L a) = false → MM.openE l n a kd = 10 ∧ MM.openL l n a kd = []) := Lib.hid (fun h1 h2 => by
        have e := op_name (l := (MM.mAt l i).accs) (n := a) (k := kd) h2
        have := @oe_no l n a kd i hc hp h1 (by rw [e]; decide)
        rwa [e] at this)
      have KK : Hid ((MM.mAt l i).status = 1 → WM.name (L a) = true → MM.kindOk kd = false → MM.openE l n a kd = 21 ∧ MM.openL l n a kd = []) := Lib.hid (fun h1 h2 h3 => by
        have e := op_kind (l := (MM.mAt l i).accs) (n := a) (k := kd) h2 h3
        have := @oe_no l n a kd i hc hp h1 (by rw [e]; decide)
        rwa [e] at this)
      have KT : Hid ((MM.mAt l i).status = 1 → WM.name (L a) = true → MM.kindOk kd = true → (MM.pa (MM.mAt l i).accs a).isSome = true → MM.openE l n a kd = 12 ∧ MM.openL l n a kd = []) := Lib.hid (fun h1 h2 h3 h4 => by
        have e := op_there (l := (MM.mAt l i).accs) (n := a) (k := kd) h2 h3 h4
        have := @oe_no l n a kd i hc hp h1 (by rw [e]; decide)
        rwa [e] at this)
      have KL : Hid ((MM.mAt l i).status = 1 → WM.name (L a) = true → MM.kindOk kd = true → (MM.pa (MM.mAt l i).accs a).isSome = false → 16 ≤ (MM.mAt l i).accs.length → MM.openE l n a kd = 8 ∧ MM.openL l n a kd = []) := Lib.hid (fun h1 h2 h3 h4 h5 => by
        have e := op_long (l := (MM.mAt l i).accs) (n := a) (k := kd) h2 h3 h4 h5
        have := @oe_no l n a kd i hc hp h1 (by rw [e]; decide)
        rwa [e] at this)
      have KY : Hid ((MM.mAt l i).status = 1 → WM.name (L a) = true → MM.kindOk kd = true → (MM.pa (MM.mAt l i).accs a).isSome = false → ¬ 16 ≤ (MM.mAt l i).accs.length → MM.openE l n a kd = 0 ∧ MM.openL l n a kd = l.set i { MM.mAt l i with accs := MM.insA ⟨a, kd⟩ (MM.mAt l i).accs }) := Lib.hid (fun h1 h2 h3 h4 h5 =>
        @oe_yes l n a kd i hc hp h1 (op_yes h2 h3 h4 h5))
      rw [hp, show rpN (some i) = (i : Int) from rfl] at C2
      clear hp hc hs2 ef
      generalize MM.openE l n a kd = r at *
      generalize MM.openL l n a kd = out at *
      generalize WM.name (L a) = b0 at *
      go_enter Try.func23, Try.ntmps23
      go_wp2_with fail
      generalize w.alloc (.cells #[.string n, .string a] 29) = w0 at *
      refine (C0.out _ HI.out).mono ?_
      rintro e w1 ⟨rfl, b1⟩
      have HB1 := Lib.hid (HB0.out.trans (b1.mono HB0.out.size))
      have HG1 := Lib.hid (HG0.out.below b1 HG0.out.lt)
      have HI1 := Lib.hid (HI.out.below b1)
      have c0 : w1.cell? ⟨w.heap.size, 0, none⟩ = some (.string n) := HG1.out.cell 0
      have c1 : w1.cell? ⟨w.heap.size, 1, none⟩ = some (.string a) := HG1.out.cell 1
      have hsz : w.heap.size < w1.heap.size := HG1.out.lt
      clear b1 C0 HI HB0 HG0
      go_wp2_with fail
      refine (C2.out _ HI1.out).mono ?_
      rintro e w2 ⟨rfl, rfl⟩
      obtain ⟨b, off, A', cap', m, eA, hb, HV, q1, q2, q3, q4, d0, d1, d2⟩ := HI1.out.get hi
      have hA2 : A = some ⟨b, off, none⟩ := eA
      subst hA2
      rw [HV.out] at C3 K1 KN KK KT KL KY
      obtain ⟨nm, st, ac⟩ := m
      dsimp only at C3 K1 KN KK KT KL KY q1 q2 q3 q4 d0 d1 d2
      clear eA C2 HV
      by_cases h1 : st = 1
      rotate_left
      · have HX := Lib.hid (K1.out h1)
        have h1' : (st != 1) = true := by simpa using h1
        clear C3 KN KK KT KL KY
        go_wp2_with fail
        go_ret2
        exact ⟨_, by rw [HX.out.1] <;> rfl, by rw [HX.out.2]; exact MemR.nil _, HB1.out⟩
      subst h1
      have HQ3 := Lib.hid q3
      have HIN : Hid (∀ ww, Below w1.heap.size w1 ww → Mems ww (some ⟨b, off, none⟩) l ∧ ww.cell? ⟨b, off + i * 3, none⟩ = some (.string nm) ∧ ww.cell? ⟨b, off + i * 3 + 1, none⟩ = some (.int .i64 1) ∧ ww.cell? ⟨b, off + i * 3 + 2, none⟩ = some (.slice A' ac.length cap') ∧ CB ww w.heap.size 29 (keyC n a)) := Lib.hid (fun ww h =>
        ⟨HI1.out.below h, (h.cell (p := ⟨b, off + i * 3, none⟩) hb).trans d0, (h.cell (p := ⟨b, off + i * 3 + 1, none⟩) hb).trans d1, (h.cell (p := ⟨b, off + i * 3 + 2, none⟩) hb).trans d2, HG1.out.below h hsz⟩)
      have C7 : Hid (∀ ww A5 cap5, Below w1.heap.size w1 ww → Accs ww A5 (MM.insA ⟨a, kd⟩ ac) → (MM.insA ⟨a, kd⟩ ac).length ≤ cap5 → Calls Try.prog 42 #[.slice (some ⟨b, off, none⟩) l.length cap, .int .i64 (i : Int), .agg #[.string nm, .int .i64 1, .slice A5 (MM.insA ⟨a, kd⟩ ac).length cap5]] ww fun e w' => ∃ v, e = .returned v ∧ MemR w' v (l.set i ⟨nm, 1, MM.insA ⟨a, kd⟩ ac⟩) ∧ Below ww.heap.size ww w') := Lib.hid (fun ww A5 cap5 hw h5 hc5 => by
        obtain ⟨rows, he, hM⟩ := (HIN.out ww hw).1
        have hrl : rows.length = l.length := by rw [← he]; simp
        have := rturned_any (some ⟨b, off, none⟩) rows l.length cap i ⟨nm, 1, MM.insA ⟨a, kd⟩ ac⟩ A5 cap5 ww hrl.symm hM (by omega) (by omega) ⟨q1, q2, h5, hc5⟩
        rwa [he] at this)
      have C5 : Hid (ac.length ≤ 1000 → ∀ ww, Accs ww A' ac → Calls Try.prog 41 #[.slice A' ac.length cap', .agg #[.string a, .int .i64 kd]] ww fun e w' => (∃ A9 cap9, e = .returned (.slice A9 (MM.insA ⟨a, kd⟩ ac).length cap9) ∧ Accs w' A9 (MM.insA ⟨a, kd⟩ ac) ∧ (MM.insA ⟨a, kd⟩ ac).length ≤ cap9 ∧ ∀ g, g ≤ ww.heap.size → Apart g A9 (MM.insA ⟨a, kd⟩ ac)) ∧ Below ww.heap.size ww w') := Lib.hid (fun h ww h5 => rwith_any A' ac cap' ⟨a, kd⟩ ww h5 h ⟨ha, hk⟩)
      clear K1 q1 q2 q3 q4
      generalize MM.insA ⟨a, kd⟩ ac = ai at *
      cases b0
      · have HX := Lib.hid (KN.out (by trivial) (by trivial))
        clear C3 KN KK KT KL KY C5 C7
        go_wp2_with fail
        refine (C1.out _).mono ?_
        rintro e w2 ⟨rfl, rfl⟩
        go_wp2_with fail
        go_ret2
        exact ⟨_, by rw [HX.out.1] <;> rfl, by rw [HX.out.2]; exact MemR.nil _, HB1.out⟩
      by_cases hkd : 1 ≤ kd ∧ kd ≤ 3
      rotate_left
      · have HX := Lib.hid (KK.out (by trivial) (by trivial) (by simp [MM.kindOk]; omega))
        clear C3 KN KK KT KL KY C5 C7
        go_wp2_with fail
        refine (C1.out _).mono ?_
        rintro e w2 ⟨rfl, rfl⟩
        have hkd' : kd < 1 ∨ 3 < kd := by omega
        rcases hkd' with hz | hz
        all_goals (
          go_wp2_with fail
          all_goals first
            | (exfalso; omega)
            | (go_ret2
               exact ⟨_, by rw [HX.out.1] <;> rfl, by rw [HX.out.2]; exact MemR.nil _, HB1.out⟩))
      obtain ⟨hk1, hk2⟩ := hkd
      have hk1' : ¬ kd < 1 := by omega
      have hk2' : ¬ 3 < kd := by omega
      have hko : MM.kindOk kd = true := by simp [MM.kindOk]; omega
      generalize foundA ac a = fa at *
      generalize (MM.pa ac a).isSome = y at *
      go_wp2_with fail
      refine (C1.out _).mono ?_
      rintro e w2 ⟨rfl, rfl⟩
      go_wp2_with fail
      refine (C3.out _ HI1.out).mono ?_
      rintro e w3 ⟨rfl, b3⟩
      have HB3 := Lib.hid (HB1.out.trans (b3.mono HB1.out.size))
      have HL3 := Lib.hid b3
      clear b3 d0 d1 d2 c0 c1
      cases y
      rotate_left
      · have HX := Lib.hid (KT.out (by trivial) (by trivial) hko (by trivial))
        have HB4 := Lib.hid (HB3.out.alloc HB3.out.size (.cells (accC fa) 36))
        clear C3 KN KK KT KL KY C5 C7
        go_wp2_with fail
        go_ret2
        exact ⟨_, by rw [HX.out.1] <;> rfl, by rw [HX.out.2]; exact MemR.nil _, HB4.out⟩
      have HB4 := Lib.hid (HB3.out.alloc HB3.out.size (.cells (accC fa) 36))
      have HL4 := Lib.hid (HL3.out.alloc HL3.out.size (.cells (accC fa) 36))
      obtain ⟨hM3, d0, d1, d2, HG3⟩ := HIN.out _ HL3.out
      have hb3 : b < w3.heap.size := Nat.lt_of_lt_of_le hb HL3.out.size
      have hsz3 : w.heap.size < w3.heap.size := HG3.lt
      have c1 : w3.cell? ⟨w.heap.size, 1, none⟩ = some (.string a) := HG3.cell 1
      have HQ5 := Lib.hid (HQ3.out.below HL3.out)
      clear hM3 HG3
      by_cases h16 : 16 ≤ ac.length
      · have HX := Lib.hid (KL.out (by trivial) (by trivial) hko (by trivial) h16)
        clear C3 KN KK KT KL KY C5 C7
        have h16' : (16 : Int) ≤ (ac.length : Int) := by omega
        go_wp2_with fail
        go_ret2
        exact ⟨_, by rw [HX.out.1] <;> rfl, by rw [HX.out.2]; exact MemR.nil _, HB4.out⟩
      have HX := Lib.hid (KY.out (by trivial) (by trivial) hko (by trivial) h16)
      have h16' : (ac.length : Int) < 16 := by omega
      have C6 := Lib.hid (C5.out (by omega))
      clear C3 KN KK KT KL KY C5 C1
      have HLA := Lib.hid ((HL3.out.alloc HL3.out.size (.cells #[.string fa.name, .int .i64 fa.kind] 36)).alloc (by have := HL3.out.size; simp; omega) (.cells #[.string nm, .int .i64 1, .slice A' ac.length cap'] 32))
      have HMA : Hid (CB ((w3.alloc (.cells #[.string fa.name, .int .i64 fa.kind] 36)).alloc (.cells #[.string nm, .int .i64 1, .slice A' ac.length cap'] 32)) (w3.heap.size + 1) 32 #[.string nm, .int .i64 1, .slice A' ac.length cap']) := Lib.hid (by
        have := CB.new (w3.alloc (.cells #[.string fa.name, .int .i64 fa.kind] 36)) 32 #[.string nm, .int .i64 1, .slice A' ac.length cap']
        rw [show (w3.alloc (.cells #[.string fa.name, .int .i64 fa.kind] 36)).heap.size = w3.heap.size + 1 by simp] at this
        exact this)
      go_wp2_with fail
      generalize (w3.alloc (.cells #[.string fa.name, .int .i64 fa.kind] 36)).alloc (.cells #[.string nm, .int .i64 1, .slice A' ac.length cap'] 32) = w4 at *
      refine (C6.out _ (HQ3.out.below HLA.out)).mono ?_
      rintro e w5 ⟨⟨A5, cap5, rfl, hA5, hc5, hp5⟩, b5⟩
      have HL5 := Lib.hid (HLA.out.trans (b5.mono HLA.out.size))
      have HM5 := Lib.hid (HMA.out.below b5 HMA.out.lt)
      have hg5 : w1.heap.size ≤ w3.heap.size + 1 := by have := HL3.out.size; omega
      have HLS := Lib.hid (HL5.out.setCell (p := ⟨w3.heap.size + 1, 2, none⟩) hg5 (.slice A5 ai.length cap5))
      have HA5 := Lib.hid (hA5.set_ (hp5 (w3.heap.size + 1) (Nat.le_of_lt HMA.out.lt)) (i := 2) (.slice A5 ai.length cap5))
      have c0 : w5.cell? ⟨w3.heap.size + 1, 0, none⟩ = some (.string nm) := HM5.out.cell 0
      have c1' : w5.cell? ⟨w3.heap.size + 1, 1, none⟩ = some (.int .i64 1) := HM5.out.cell 1
      have c2 : w5.cell? ⟨w3.heap.size + 1, 2, none⟩ = some (.slice A' ac.length cap') := HM5.out.cell 2
      have f2 := HM5.out.frozen 2
      have hz5 := HM5.out.lt
      have HSS := Lib.hid HB1.out.size
      clear hA5 hp5 b5 HLA HMA HQ5 HQ3 C6 c1 d0 d1 d2
      go_wp2_with fail
      refine (C7.out _ A5 cap5 HLS.out HA5.out hc5).mono ?_
      rintro e w6 ⟨v6, rfl, hR6, b6⟩
      have HB6 := Lib.hid (HB1.out.trans ((HLS.out.trans (b6.mono HLS.out.size)).mono HSS.out))
      have HR6 := Lib.hid hR6
      clear b6 hR6 C7 HLS HA5
      go_wp2_with fail
      go_ret2
      exact ⟨_, by rw [HX.out.1] <;> rfl, by rw [HX.out.2]; exact HR6.out, HB6.out⟩
  · obtain ⟨e1, e2⟩ := @oe_bad l n a kd hc
    rw [e1, e2]
    have hd : (MM.checkE l != 0) = true := by simpa using hc
    generalize MM.checkE l = y at *
    clear C2 C1 C3 e1 e2 hc
    go_enter Try.func23, Try.ntmps23
    go_wp2_with fail
    refine (C0.out _ HI.out).mono ?_
    rintro e w1 ⟨rfl, b1⟩
    have HB1 := Lib.hid (HB0.out.trans (b1.mono HB0.out.size))
    clear b1 HI
    go_wp2_with fail
    go_ret2
    exact ⟨_, rfl, MemR.nil _, HB1.out⟩
end Go.Proofs.Ytlnllbcpbohahaa

/- Contracts of layer 11: the reference's One and Same, of equal members. -/
namespace Go.Proofs.Ytlnllbcpbohahaa
open Go.RowKit Go.Recs
set_option linter.unusedVariables false
set_option linter.unusedSimpArgs false
def aeq (x y : MM.Ac) : Bool := (x.name.toList == y.name.toList) && (x.kind == y.kind)
theorem acc_in (x y : MM.Ac) (w : World) : (Op.equalIn 10000 36 (accA x) (accA y)).run Try.prog w = .ok (aeq x y) w := by
  have u3 := Try.underlying3
  have u9 := Try.underlying9
  have a3 := Try.isAgg3
  have a9 := Try.isAgg9
  have z3 := Try.sizeOf3
  have z9 := Try.sizeOf9
  have hS : Try.prog.underlying 36 = some (.struct (Try.prog.fieldsOf 36)) := by kernel_rfl
  have hp : Try.prog.stoodInHeld 36 = false := by kernel_rfl
  rw [show (10000 : Nat) = 9999 + 1 from rfl, run_equalIn_agg w 9999 36 _ _ hS hp]
  simp only [Program.fieldsOf, Try.underlying36]
  unfold aeq
  go_simp
  by_cases h1 : x.name.toList = y.name.toList <;> by_cases h2 : x.kind = y.kind <;> simp [h1, h2]
theorem acc_guard : Try.prog.eqGuardType Try.prog.depth 36 = false := by kernel_rfl

set_option maxHeartbeats 4000000 in
theorem rone_same (m : MM.Mem) (A1 A2 : Option Addr) (p1 p2 : Nat) (w : World) (h1 : Accs w A1 m.accs) (h2 : Accs w A2 m.accs) :
    Calls Try.prog 14 #[memA m A1 p1, memA m A2 p2] w fun e w' => e = .returned (.bool true) ∧ Below w.heap.size w w' := by
  have hlen := h1.len
  have HB0 := Lib.hid (((Below.refl w.heap.size w).alloc (Nat.le_refl _) (.cells (memC m A1 p1) 32)).alloc (by simp) (.cells (memC m A2 p2) 32))
  have HG0 := Lib.hid ((CB.new w 32 (memC m A1 p1)).alloc (.cells (memC m A2 p2) 32))
  have HZ0 : Hid (CB ((w.alloc (.cells (memC m A1 p1) 32)).alloc (.cells (memC m A2 p2) 32)) (w.heap.size + 1) 32 (memC m A2 p2)) := Lib.hid (by
    have := CB.new (w.alloc (.cells (memC m A1 p1) 32)) 32 (memC m A2 p2)
    rw [show (w.alloc (.cells (memC m A1 p1) 32)).heap.size = w.heap.size + 1 by simp] at this
    exact this)
  have HA := Lib.hid (h1.below HB0.out); have HC := Lib.hid (h2.below HB0.out)
  have hgd := acc_guard
  clear h1 h2
  go_enter Try.func14, Try.ntmps14
  go_wp2_with fail
  generalize (w.alloc (.cells #[.string m.name, .int .i64 m.status, .slice A1 m.accs.length p1] 32)).alloc (.cells #[.string m.name, .int .i64 m.status, .slice A2 m.accs.length p2] 32) = w0 at *
  go_loopw [5] (fun i wr => ∃ k : Nat, k ≤ m.accs.length ∧ i = .int .i64 k ∧ Hid (Below w0.heap.size w0 wr)) (fun i _ => m.accs.length - (intOf i).toNat)
  case atStart => exact ⟨0, by omega, rfl, Lib.hid (Below.refl _ _)⟩
  case round =>
    obtain ⟨k, hk, rfl, HW⟩ := hrel
    have HB1 := Lib.hid (HB0.out.trans (HW.out.mono HB0.out.size))
    have HG1 := Lib.hid (HG0.out.below HW.out HG0.out.lt)
    have HZ1 := Lib.hid (HZ0.out.below HW.out HZ0.out.lt)
    have c2 : wr.cell? ⟨w.heap.size, 2, none⟩ = some (.slice A1 m.accs.length p1) := HG1.out.cell 2
    have e2 : wr.cell? ⟨w.heap.size + 1, 2, none⟩ = some (.slice A2 m.accs.length p2) := HZ1.out.cell 2
    have hz1 := HG1.out.lt; have hz2 := HZ1.out.lt
    by_cases hlt : k < m.accs.length
    · obtain ⟨b, off, x, rfl, hb, HV, q0, d0, d1⟩ := accs_get (HA.out.below HW.out) hlt
      obtain ⟨b', off', x', rfl, hb', HV', q0', g0, g1⟩ := accs_get (HC.out.below HW.out) hlt
      obtain rfl : x = x' := HV.out.symm.trans HV'.out
      have E1 : ∀ ww, (Op.equalIn 10000 36 (accA x) (accA x)).run Try.prog ww = .ok true ww := fun ww => by rw [acc_in]; simp [aeq]
      clear q0 q0' HV HV'
      go_wp2_with fail
      go_quiet (fail)
      go_wp2_with fail
      go_roundw
      case rel => exact ⟨k + 1, by omega, by go_num, Lib.hid (by first | exact HW.out | exact below_drewN HW.out _)⟩
      case measure => simp [intOf]; omega
    · obtain rfl : k = m.accs.length := by omega
      go_wp2_with fail
      go_ret
      exact ⟨rfl, HB1.out⟩

set_option maxHeartbeats 4000000 in
theorem rsamem_any (A B : Option Addr) (l : List MM.Mem) (cap cap2 : Nat) (w : World) (hA : Mems w A l) (hB : Mems w B l) :
    Calls Try.prog 26 #[.slice A l.length cap, .slice B l.length cap2] w fun e w' => e = .returned (.bool true) ∧ Below w.heap.size w w' := by
  have hlen := hA.len
  have HA := Lib.hid hA; have HBB := Lib.hid hB
  clear hA hB
  go_enter Try.func26, Try.ntmps26
  go_wp2_with fail
  go_loopw [5] (fun i wr => ∃ k : Nat, k ≤ l.length ∧ i = .int .i64 k ∧ Hid (Below w.heap.size w wr)) (fun i _ => l.length - (intOf i).toNat)
  case atStart => exact ⟨0, by omega, rfl, Lib.hid (Below.refl _ _)⟩
  case round =>
    obtain ⟨k, hk, rfl, HW⟩ := hrel
    by_cases hlt : k < l.length
    · obtain ⟨b, off, A', cap', m, rfl, hb, HV, q1, q2, q3, q4, d0, d1, d2⟩ := (HA.out.below HW.out).get hlt
      obtain ⟨b', off', A'', cap'', m', rfl, hb', HV', q1', q2', q3', q4', g0, g1, g2⟩ := (HBB.out.below HW.out).get hlt
      obtain rfl : m = m' := HV.out.symm.trans HV'.out
      have C := Lib.hid (fun ww h1 h2 => rone_same m A' A'' cap' cap'' ww h1 h2)
      have HQ := Lib.hid q3; have HQ' := Lib.hid q3'
      clear q1 q2 q3 q4 q1' q2' q3' q4' HV HV'
      go_wp2_with fail
      go_region_with (go_at_call 14; refine (C.out _ (HQ.out.below (Below.refl _ _).drew) (HQ'.out.below (Below.refl _ _).drew)).mono ?_; rintro e w3 ⟨rfl, b3⟩)
      all_goals (
        have HB3 : Hid (Below w.heap.size w w3) := Lib.hid (HW.out.drew.trans (b3.mono HW.out.drew.size))
        clear b3
        go_wp2_with fail
        go_roundw
        case rel => exact ⟨k + 1, by omega, by go_num, HB3⟩
        case measure => simp [intOf]; omega)
    · obtain rfl : k = l.length := by omega
      go_wp2_with fail
      go_ret
      exact ⟨rfl, HW.out⟩
end Go.Proofs.Ytlnllbcpbohahaa

namespace Go.Proofs.Ytlnllbcpbohahaa.memberTurns
open Go.RowKit Go.Recs
set_option linter.unusedVariables false
set_option maxHeartbeats 16000000 in
set_option maxRecDepth 100000 in
theorem walk (A : Option Addr) (cap : Nat) (l : List MM.Mem) (x : ByteArray × ByteArray) (n : Int) (w : World) (hI : Mems w A l ∧ l.length ≤ cap) (hx : x.1.size ≤ maxLen ∧ x.2.size ≤ maxLen) (hn : -9223372036854775808 ≤ n ∧ n ≤ 9223372036854775807) :
    Calls Try.prog 5 #[.slice A l.length cap, .agg #[.string x.1, .string x.2], .int .i64 n] w fun e w' => e = .returned (.bool true) ∧ Below w.heap.size w w' := by
  obtain ⟨s, t⟩ := x
  dsimp only at *
  have HB0 := Lib.hid ((Below.refl w.heap.size w).alloc (Nat.le_refl _) (.cells (keyC s t) 29))
  have HG0 := Lib.hid (CB.new w 29 (keyC s t))
  have HI := Lib.hid (hI.1.below HB0.out)
  have C1 := Lib.hid (fun ww h => padd_any A l cap s ww h hI.2 hx.1)
  have C2 := Lib.hid (fun ww h => radd_any A l cap s ww h hx.1)
  have C3 := Lib.hid (fun ww h => popen_any A l cap s t n ww h hx.2 hn)
  have C4 := Lib.hid (fun ww h => ropen_any A l cap s t n ww h hx.2 hn)
  have C5 := Lib.hid (fun ww h => pstat_any A l cap s n ww h hn)
  have C6 := Lib.hid (fun ww h => rstat_any A l cap s n ww h hn)
  have S1 := Lib.hid (fun P Q p q ww h1 h2 => rsamem_any P Q (MM.addL l s) p q ww h1 h2)
  have S2 := Lib.hid (fun P Q p q ww h1 h2 => rsamem_any P Q (MM.openL l s t n) p q ww h1 h2)
  have S3 := Lib.hid (fun P Q p q ww h1 h2 => rsamem_any P Q (MM.statL l s n) p q ww h1 h2)
  have CG := Lib.hid (fun ww => goes11_any ww)
  generalize MM.addL l s = l1 at *
  generalize MM.openL l s t n = l2 at *
  generalize MM.statL l s n = l3 at *
  generalize MM.addE l s = e1 at *
  generalize MM.openE l s t n = e2 at *
  generalize MM.statE l s n = e3 at *
  clear hI hx hn
  go_enter Try.func5, Try.ntmps5
  go_wp2_with fail
  generalize w.alloc (.cells #[.string s, .string t] 29) = w0 at *
  refine (C1.out _ HI.out).mono ?_
  rintro e w1 ⟨v1, rfl, ⟨P1, p1, rfl, hM1, hc1⟩, b1⟩
  have HW1 := Lib.hid b1
  have HM1 := Lib.hid hM1
  have g0 : w1.cell? ⟨w.heap.size, 0, none⟩ = some (.string s) := (HG0.out.below b1 HG0.out.lt).cell 0
  clear b1 hM1 hc1 C1
  go_wp2_with fail
  refine (C2.out _ (HI.out.below HW1.out)).mono ?_
  rintro e w2 ⟨v2, rfl, ⟨P2, p2, rfl, hM2, hc2⟩, b2⟩
  have HW2 := Lib.hid (HW1.out.trans (b2.mono HW1.out.size))
  have HM2 := Lib.hid hM2
  have HN1 := Lib.hid (HM1.out.below b2)
  clear b2 hM2 hc2 C2 HM1 g0 HW1
  have HG2 := Lib.hid (HG0.out.below HW2.out HG0.out.lt)
  have g0 : w2.cell? ⟨w.heap.size, 0, none⟩ = some (.string s) := HG2.out.cell 0
  have g1 : w2.cell? ⟨w.heap.size, 1, none⟩ = some (.string t) := HG2.out.cell 1
  go_wp2_with fail
  refine (C3.out _ (HI.out.below HW2.out)).mono ?_
  rintro e w3 ⟨v3, rfl, ⟨P3, p3, rfl, hM3, hc3⟩, b3⟩
  have HW3 := Lib.hid (HW2.out.trans (b3.mono HW2.out.size))
  have HM3 := Lib.hid hM3
  have HO1 := Lib.hid (HN1.out.below b3); have HO2 := Lib.hid (HM2.out.below b3)
  clear b3 hM3 hc3 C3 HN1 HM2 g0 g1 HG2 HW2
  have HG2 := Lib.hid (HG0.out.below HW3.out HG0.out.lt)
  have g0 : w3.cell? ⟨w.heap.size, 0, none⟩ = some (.string s) := HG2.out.cell 0
  have g1 : w3.cell? ⟨w.heap.size, 1, none⟩ = some (.string t) := HG2.out.cell 1
  go_wp2_with fail
  refine (C4.out _ (HI.out.below HW3.out)).mono ?_
  rintro e w4 ⟨v4, rfl, ⟨P4, p4, rfl, hM4, hc4⟩, b4⟩
  have HW4 := Lib.hid (HW3.out.trans (b4.mono HW3.out.size))
  have HM4 := Lib.hid hM4
  have HQ1 := Lib.hid (HO1.out.below b4); have HQ2 := Lib.hid (HO2.out.below b4); have HQ3 := Lib.hid (HM3.out.below b4)
  clear b4 hM4 hc4 C4 HO1 HO2 HM3 g0 g1 HG2 HW3
  have HG2 := Lib.hid (HG0.out.below HW4.out HG0.out.lt)
  have g0 : w4.cell? ⟨w.heap.size, 0, none⟩ = some (.string s) := HG2.out.cell 0
  go_wp2_with fail
  refine (C5.out _ (HI.out.below HW4.out)).mono ?_
  rintro e w5 ⟨v5, rfl, ⟨P5, p5, rfl, hM5, hc5⟩, b5⟩
  have HW5 := Lib.hid (HW4.out.trans (b5.mono HW4.out.size))
  have HM5 := Lib.hid hM5
  have HR1 := Lib.hid (HQ1.out.below b5); have HR2 := Lib.hid (HQ2.out.below b5); have HR3 := Lib.hid (HQ3.out.below b5); have HR4 := Lib.hid (HM4.out.below b5)
  clear b5 hM5 hc5 C5 HQ1 HQ2 HQ3 HM4 g0 HG2 HW4
  have HG2 := Lib.hid (HG0.out.below HW5.out HG0.out.lt)
  have g0 : w5.cell? ⟨w.heap.size, 0, none⟩ = some (.string s) := HG2.out.cell 0
  go_wp2_with fail
  refine (C6.out _ (HI.out.below HW5.out)).mono ?_
  rintro e w6 ⟨v6, rfl, ⟨P6, p6, rfl, hM6, hc6⟩, b6⟩
  have HW6 := Lib.hid (HW5.out.trans (b6.mono HW5.out.size))
  have HB6 := Lib.hid (HB0.out.trans (HW6.out.mono HB0.out.size))
  have HM6 := Lib.hid hM6
  have HT1 := Lib.hid (HR1.out.below b6); have HT2 := Lib.hid (HR2.out.below b6); have HT3 := Lib.hid (HR3.out.below b6); have HT4 := Lib.hid (HR4.out.below b6); have HT5 := Lib.hid (HM5.out.below b6)
  clear b6 hM6 hc6 C6 HR1 HR2 HR3 HR4 HM5 g0 HG2 HW5 HG0 HI HB0
  go_wp2_with fail
  refine (S1.out _ _ _ _ _ HT1.out HT2.out).mono ?_
  rintro e w7 ⟨rfl, b7⟩
  have HB7 := Lib.hid (HB6.out.trans (b7.mono HB6.out.size))
  have HU3 := Lib.hid (HT3.out.below b7); have HU4 := Lib.hid (HT4.out.below b7); have HU5 := Lib.hid (HT5.out.below b7); have HU6 := Lib.hid (HM6.out.below b7)
  clear b7 HT1 HT2 HT3 HT4 HT5 HM6 S1
  go_wp2_with fail
  refine (S2.out _ _ _ _ _ HU3.out HU4.out).mono ?_
  rintro e w8 ⟨rfl, b8⟩
  have HB8 := Lib.hid (HB7.out.trans (b8.mono HB7.out.size))
  have HV5 := Lib.hid (HU5.out.below b8); have HV6 := Lib.hid (HU6.out.below b8)
  clear b8 HU3 HU4 HU5 HU6 S2
  go_wp2_with fail
  refine (S3.out _ _ _ _ _ HV5.out HV6.out).mono ?_
  rintro e w9 ⟨rfl, b9⟩
  have HB9 := Lib.hid (HB8.out.trans (b9.mono HB8.out.size))
  clear b9 HV5 HV6 S3
  go_wp2_with fail
  refine (CG.out _).mono ?_
  rintro e w10 ⟨rfl, b10⟩
  have HB10 := Lib.hid (HB9.out.trans (b10.mono HB9.out.size))
  clear b10
  go_wp2_with fail
  go_ret
  exact ⟨rfl, HB10.out⟩
end Go.Proofs.Ytlnllbcpbohahaa.memberTurns
