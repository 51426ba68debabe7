/- Contracts of layer 11: the reference's Account, May. -/
import Derived.Test.YtlnllbcpbohahaaMemL
namespace Go.Proofs.Ytlnllbcpbohahaa
open Go.RowKit Go.Recs
set_option linter.unusedVariables false
set_option linter.unusedSimpArgs false

def foundA (l : List MM.Ac) (a : ByteArray) : MM.Ac := match MM.pa l a with
  | some k => aAt l k
  | none => ⟨MM.nil, 0⟩
theorem fa_hit {l : List MM.Ac} {a : ByteArray} {k : Nat} (hk : k < l.length) (hj : ∀ j, j < k → MM.eq (aAt l j).name a = false) (h : MM.eq (aAt l k).name a = true) : foundA l a = aAt l k ∧ (MM.pa l a).isSome = true := by
  have e : MM.pa l a = some k := MM.find_some hk (fun j hjl hjk => by rw [← aAt_get hjl]; exact hj j hjk) (by rw [← aAt_get hk]; exact h)
  unfold foundA
  rw [e]; exact ⟨rfl, rfl⟩
theorem fa_miss {l : List MM.Ac} {a : ByteArray} (h : ∀ j, j < l.length → MM.eq (aAt l j).name a = false) : foundA l a = ⟨MM.nil, 0⟩ ∧ (MM.pa l a).isSome = false := by
  have e : MM.pa l a = none := MM.find_none (fun j hjl => by rw [← aAt_get hjl]; exact h j hjl)
  unfold foundA
  rw [e]; exact ⟨rfl, rfl⟩

set_option maxHeartbeats 8000000 in
theorem racc_any (A : Option Addr) (l : List MM.Mem) (cap : Nat) (n a : ByteArray) (w : World) (hI : Mems w A l) :
    Calls Try.prog 13 #[.slice A l.length cap, keyA n a] w fun e w' => e = .returned (.tuple #[accA (foundA (foundM l n).accs a), .bool (MM.pa (foundM l n).accs a).isSome]) ∧ Below w.heap.size w w' := by
  have hlen := hI.len
  have HB0 := Lib.hid (((Below.refl w.heap.size w).alloc (Nat.le_refl _) (.cells (keyC n a) 29)).alloc (by simp) (.cells #[.string ⟨#[]⟩, .int .i64 0] 36))
  have HG0 := Lib.hid ((CB.new w 29 (keyC n a)).alloc (.cells #[.string ⟨#[]⟩, .int .i64 0] 36))
  have HZ0 : Hid (CB ((w.alloc (.cells (keyC n a) 29)).alloc (.cells #[.string ⟨#[]⟩, .int .i64 0] 36)) (w.heap.size + 1) 36 #[.string ⟨#[]⟩, .int .i64 0]) := Lib.hid (by
    have := CB.new (w.alloc (.cells (keyC n a) 29)) 36 #[.string ⟨#[]⟩, .int .i64 0]
    rw [show (w.alloc (.cells (keyC n a) 29)).heap.size = w.heap.size + 1 by simp] at this
    exact this)
  have HI := Lib.hid (hI.below HB0.out)
  have C2 := Lib.hid (fun ww h => rfindm_any A l cap n ww h)
  generalize foundM l n = fm at *
  have KY := Lib.hid (fun k => @fa_hit fm.accs a k); have KN := Lib.hid (@fa_miss fm.accs a)
  generalize foundA fm.accs a = fa at *
  generalize (MM.pa fm.accs a).isSome = y at *
  generalize (MM.pl l n).isSome = y2 at *
  clear hI
  go_enter Try.func13, Try.ntmps13
  go_wp2_with fail
  generalize (w.alloc (.cells #[.string n, .string a] 29)).alloc (.cells #[.string ⟨#[]⟩, .int .i64 0] 36) = w0 at *
  refine (C2.out _ HI.out).mono ?_
  rintro e w1 ⟨⟨A', cap', rfl, hA', hc'⟩, b1⟩
  have HB1 := Lib.hid (HB0.out.trans (b1.mono HB0.out.size))
  have bm : Below w1.heap.size w1 (w1.alloc (.cells (memC fm A' cap') 32)) := (Below.refl _ _).alloc (Nat.le_refl _) _
  have HB2 := Lib.hid (HB1.out.trans (bm.mono HB1.out.size))
  have HG2 := Lib.hid ((HG0.out.below b1 HG0.out.lt).below bm (Nat.lt_of_lt_of_le HG0.out.lt b1.size))
  have HZ2 := Lib.hid ((HZ0.out.below b1 HZ0.out.lt).below bm (Nat.lt_of_lt_of_le HZ0.out.lt b1.size))
  have HM2 := Lib.hid (CB.new w1 32 (memC fm A' cap'))
  have HA2 := Lib.hid (hA'.below bm)
  have hfl : fm.accs.length ≤ 9223372036854775807 := hA'.len
  clear hA' b1 bm HB0 HG0 HZ0 HB1
  go_wp2_with fail
  generalize w1.alloc (.cells #[.string fm.name, .int .i64 fm.status, .slice A' fm.accs.length cap'] 32) = w2 at *
  go_loopw [8] (fun i wr => ∃ k : Nat, k ≤ fm.accs.length ∧ i = .int .i64 k ∧ Hid (∀ j, j < k → MM.eq (aAt fm.accs j).name a = false) ∧ Hid (Below w2.heap.size w2 wr)) (fun i _ => fm.accs.length - (intOf i).toNat)
  case atStart => exact ⟨0, by omega, rfl, Lib.hid (fun j h => by omega), Lib.hid (Below.refl _ _)⟩
  case round =>
    obtain ⟨k, hk, rfl, HE, HW⟩ := hrel
    have HGr := Lib.hid (HG2.out.below HW.out HG2.out.lt)
    have HZr := Lib.hid (HZ2.out.below HW.out HZ2.out.lt)
    have HMr := Lib.hid (HM2.out.below HW.out HM2.out.lt)
    have HBr := Lib.hid (HB2.out.trans (HW.out.mono HB2.out.size))
    have m2 : wr.cell? ⟨w1.heap.size, 2, none⟩ = some (.slice A' fm.accs.length cap') := HMr.out.cell 2
    have g1 : wr.cell? ⟨w.heap.size, 1, none⟩ = some (.string a) := HGr.out.cell 1
    have z0 : wr.cell? ⟨w.heap.size + 1, 0, none⟩ = some (.string ⟨#[]⟩) := HZr.out.cell 0
    have z1 : wr.cell? ⟨w.heap.size + 1, 1, none⟩ = some (.int .i64 0) := HZr.out.cell 1
    have f0 := HZr.out.frozen 0; have f1 := HZr.out.frozen 1
    by_cases hlt : k < fm.accs.length
    · obtain ⟨b, off, c, rfl, hb, HV, q, d0, d1⟩ := accs_get (HA2.out.below HW.out) hlt
      clear q
      cases he : (c.name.toList == a.toList)
      · have HE2 : Hid (∀ j, j < k + 1 → MM.eq (aAt fm.accs j).name a = false) := Lib.hid (fun j hj => by
          rcases Nat.lt_or_ge j k with g | g
          · exact HE.out j g
          · obtain rfl : j = k := by omega
            rw [HV.out]; exact he)
        go_wp2_with fail
        go_quiet (fail)
        go_wp2_with fail
        go_roundw
        case rel => exact ⟨k + 1, by omega, by go_num, HE2, Lib.hid (by first | exact HW.out | exact below_drewN HW.out _)⟩
        case measure => simp [intOf]; omega
      · have HX := Lib.hid (KY.out k hlt HE.out (by rw [HV.out]; exact he))
        rw [HV.out] at HX
        go_wp2_with fail
        go_quiet (fail)
        have HZq := Lib.hid (HZr.out.drewN nq)
        have HBq := Lib.hid (below_drewN HBr.out nq)
        have m2q : (wr.drewN nq).cell? ⟨w1.heap.size, 2, none⟩ = some (.slice (some ⟨b, off, none⟩) fm.accs.length cap') := m2
        have d0q : (wr.drewN nq).cell? ⟨b, off + k * 2, none⟩ = some (.string c.name) := d0
        have d1q : (wr.drewN nq).cell? ⟨b, off + k * 2 + 1, none⟩ = some (.int .i64 c.kind) := d1
        have z0q : (wr.drewN nq).cell? ⟨w.heap.size + 1, 0, none⟩ = some (.string ⟨#[]⟩) := z0
        have z1q : (wr.drewN nq).cell? ⟨w.heap.size + 1, 1, none⟩ = some (.int .i64 0) := z1
        have f0q : (wr.drewN nq).frozen? ⟨w.heap.size + 1, 0, none⟩ = false := f0
        have f1q : (wr.drewN nq).frozen? ⟨w.heap.size + 1, 1, none⟩ = false := f1
        have hbq : b < (wr.drewN nq).heap.size := hb
        clear m2 g1 z0 z1 f0 f1 d0 d1 hb HGr HZr HMr HBr HE HW
        generalize wr.drewN nq = w3 at *
        go_wp2_with fail
        (try simp only [Exit.inBlock, Exit.then])
        refine bodyPost_ret (results_acc (a := c) rfl _ _ _ rfl HZq.out.put2) rfl ⟨?_, ?_⟩
        · rw [HX.out.1, HX.out.2] <;> rfl
        · exact ((HBq.out.setCell (p := ⟨w.heap.size + 1, 0, none⟩) (show w.heap.size ≤ w.heap.size + 1 by omega) _).setCell (p := ⟨w.heap.size + 1, 1, none⟩) (show w.heap.size ≤ w.heap.size + 1 by omega) _)
    · obtain rfl : k = fm.accs.length := by omega
      have HX := Lib.hid (KN.out HE.out)
      go_wp2_with fail
      (try simp only [Exit.inBlock, Exit.then])
      refine bodyPost_ret (results_acc (a := ⟨MM.nil, 0⟩) rfl _ _ _ rfl HZr.out.put2) rfl ⟨?_, ?_⟩
      · rw [HX.out.1, HX.out.2] <;> rfl
      · exact ((HBr.out.setCell (p := ⟨w.heap.size + 1, 0, none⟩) (show w.heap.size ≤ w.heap.size + 1 by omega) _).setCell (p := ⟨w.heap.size + 1, 1, none⟩) (show w.heap.size ≤ w.heap.size + 1 by omega) _)

theorem ry_none {l : List MM.Mem} {n a : ByteArray} {act : Int} (h : (MM.pl l n).isSome = false) : MM.mayE l n a act = 20 := by
  cases e : MM.pl l n with
  | none => exact my_none e
  | some i => rw [e] at h; cases h
theorem ry_acc {l : List MM.Mem} {n a : ByteArray} {act : Int} (h : (MM.pl l n).isSome = true) (h2 : (MM.pa (foundM l n).accs a).isSome = false) : MM.mayE l n a act = 21 := by
  cases e : MM.pl l n with
  | none => rw [e] at h; cases h
  | some i =>
    have : foundM l n = MM.mAt l i := by unfold foundM; rw [e]
    rw [this] at h2
    exact my_acc e h2
theorem ry_state {l : List MM.Mem} {n a : ByteArray} {act : Int} (h : (MM.pl l n).isSome = true) (h2 : (MM.pa (foundM l n).accs a).isSome = true) : MM.mayE l n a act = if MM.allows (foundM l n).status act = true then 0 else 13 := by
  cases e : MM.pl l n with
  | none => rw [e] at h; cases h
  | some i =>
    have : foundM l n = MM.mAt l i := by unfold foundM; rw [e]
    rw [this] at h2 ⊢
    exact my_state e h2

set_option maxHeartbeats 8000000 in
theorem rmay_any (A : Option Addr) (l : List MM.Mem) (cap : Nat) (n a : ByteArray) (act : Int) (w : World) (hI : Mems w A l) :
    Calls Try.prog 16 #[.slice A l.length cap, keyA n a, .int .i64 act] w fun e w' => e = .returned (.int .i64 (MM.mayE l n a act)) ∧ Below w.heap.size w w' := by
  have hlen := hI.len
  have HB0 := Lib.hid ((Below.refl w.heap.size w).alloc (Nat.le_refl _) (.cells (keyC n a) 29))
  have HG0 := Lib.hid (CB.new w 29 (keyC n a))
  have HI := Lib.hid (hI.below HB0.out)
  have C2 := Lib.hid (fun ww h => rfindm_any A l cap n ww h)
  have C3 := Lib.hid (fun ww h => racc_any A l cap n a ww h)
  have K0 := Lib.hid (@ry_none l n a act); have K1 := Lib.hid (@ry_acc l n a act); have K2 := Lib.hid (@ry_state l n a act)
  generalize MM.mayE l n a act = r at *
  generalize foundM l n = fm at *
  generalize foundA fm.accs a = fa at *
  generalize (MM.pa fm.accs a).isSome = y at *
  generalize (MM.pl l n).isSome = y2 at *
  clear hI
  go_enter Try.func16, Try.ntmps16
  go_wp2_with fail
  generalize w.alloc (.cells #[.string n, .string a] 29) = w0 at *
  refine (C2.out _ HI.out).mono ?_
  rintro e w1 ⟨⟨A', cap', rfl, hA', hc'⟩, b1⟩
  have bm : Below w1.heap.size w1 (w1.alloc (.cells (memC fm A' cap') 32)) := (Below.refl _ _).alloc (Nat.le_refl _) _
  have HB2 := Lib.hid ((HB0.out.trans (b1.mono HB0.out.size)).trans (bm.mono (HB0.out.trans (b1.mono HB0.out.size)).size))
  have HG2 := Lib.hid ((HG0.out.below b1 HG0.out.lt).below bm (Nat.lt_of_lt_of_le HG0.out.lt b1.size))
  have HM2 := Lib.hid (CB.new w1 32 (memC fm A' cap'))
  have HI2 := Lib.hid ((HI.out.below b1).below bm)
  clear hA' hc' b1 bm HB0 HG0 HI
  cases y2
  · have HX := Lib.hid (K0.out (by trivial))
    go_wp2_with fail
    go_ret
    exact ⟨by rw [HX.out] <;> rfl, HB2.out⟩
  have g0 : (w1.alloc (.cells (memC fm A' cap') 32)).cell? ⟨w.heap.size, 0, none⟩ = some (.string n) := HG2.out.cell 0
  have g1 : (w1.alloc (.cells (memC fm A' cap') 32)).cell? ⟨w.heap.size, 1, none⟩ = some (.string a) := HG2.out.cell 1
  go_wp2_with fail
  generalize w1.alloc (.cells #[.string fm.name, .int .i64 fm.status, .slice A' fm.accs.length cap'] 32) = w2 at *
  refine (C3.out _ HI2.out).mono ?_
  rintro e w3 ⟨rfl, b3⟩
  have ba : Below w3.heap.size w3 (w3.alloc (.cells (accC fa) 36)) := (Below.refl _ _).alloc (Nat.le_refl _) _
  have HB3 := Lib.hid (HB2.out.trans (b3.mono HB2.out.size))
  have HB4 := Lib.hid (HB3.out.trans (ba.mono HB3.out.size))
  have HM4 := Lib.hid ((HM2.out.below b3 HM2.out.lt).below ba (Nat.lt_of_lt_of_le HM2.out.lt b3.size))
  clear b3 ba HB3 g0 g1
  cases y
  · have HX := Lib.hid (K1.out (by trivial) (by trivial))
    go_wp2_with fail
    go_ret
    exact ⟨by rw [HX.out] <;> rfl, HB4.out⟩
  have HX := Lib.hid (K2.out (by trivial) (by trivial))
  have m1 : (w3.alloc (.cells (accC fa) 36)).cell? ⟨w1.heap.size, 1, none⟩ = some (.int .i64 fm.status) := HM4.out.cell 1
  have hs : fm.status = 1 ∨ (fm.status = 2 ∧ act = 1) ∨ (fm.status = 2 ∧ act = 3) ∨ (fm.status = 2 ∧ ¬ act = 1 ∧ ¬ act = 3) ∨ (fm.status = 3 ∧ act < 4) ∨ (fm.status = 3 ∧ 4 ≤ act ∧ 8 < act) ∨ (fm.status = 3 ∧ 4 ≤ act ∧ act ≤ 8) ∨ (¬ fm.status = 1 ∧ ¬ fm.status = 2 ∧ ¬ fm.status = 3) := by omega
  clear K0 K1 K2 HM2 HM4 HG2 HI2
  generalize fm.status = st at *
  rcases hs with rfl | ⟨rfl, rfl⟩ | ⟨rfl, rfl⟩ | ⟨rfl, h1, h2⟩ | ⟨rfl, h1⟩ | ⟨rfl, h1, h2⟩ | ⟨rfl, h1, h2⟩ | ⟨h1, h2, h3⟩
  all_goals (
    unfold MM.allows at HX
    go_wp2_with fail
    all_goals (
      go_ret
      exact ⟨by rw [HX.out]; simp_all <;> omega, HB4.out⟩))
end Go.Proofs.Ytlnllbcpbohahaa
