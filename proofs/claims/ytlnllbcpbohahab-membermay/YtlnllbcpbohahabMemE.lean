/- Contracts of layer 11: the place in a list. -/
import Derived.Test.YtlnllbcpbohahabMemD
namespace Go.Proofs.Ytlnllbcpbohahab
open Go.RowKit Go.Recs
set_option linter.unusedVariables false
set_option linter.unusedSimpArgs false

theorem mhit {l : List MM.Mem} {p : MM.Mem → Bool} {k : Nat} (hk : k < l.length) (hj : ∀ j, j < k → p (MM.mAt l j) = false) (h : p (MM.mAt l k) = true) : MM.at_ p l = k ∧ (l.findIdx? p).isSome = true := by
  have e : l.findIdx? p = some k := MM.find_some hk (fun j hjl hjk => by rw [← MM.mAt_get hjl]; exact hj j hjk) (by rw [← MM.mAt_get hk]; exact h)
  unfold MM.at_
  rw [e]; exact ⟨rfl, rfl⟩
theorem mmiss {l : List MM.Mem} {p : MM.Mem → Bool} (hj : ∀ j, j < l.length → p (MM.mAt l j) = false) : MM.at_ p l = l.length ∧ (l.findIdx? p).isSome = false := by
  have e : l.findIdx? p = none := MM.find_none (fun j hjl => by rw [← MM.mAt_get hjl]; exact hj j hjl)
  unfold MM.at_
  rw [e]; exact ⟨rfl, rfl⟩
theorem ahit {l : List MM.Ac} {p : MM.Ac → Bool} {k : Nat} (hk : k < l.length) (hj : ∀ j, j < k → p (aAt l j) = false) (h : p (aAt l k) = true) : MM.at_ p l = k ∧ (l.findIdx? p).isSome = true := by
  have e : l.findIdx? p = some k := MM.find_some hk (fun j hjl hjk => by rw [← aAt_get hjl]; exact hj j hjk) (by rw [← aAt_get hk]; exact h)
  unfold MM.at_
  rw [e]; exact ⟨rfl, rfl⟩
theorem amiss {l : List MM.Ac} {p : MM.Ac → Bool} (hj : ∀ j, j < l.length → p (aAt l j) = false) : MM.at_ p l = l.length ∧ (l.findIdx? p).isSome = false := by
  have e : l.findIdx? p = none := MM.find_none (fun j hjl => by rw [← aAt_get hjl]; exact hj j hjl)
  unfold MM.at_
  rw [e]; exact ⟨rfl, rfl⟩

set_option maxHeartbeats 4000000 in
theorem mplace1_any (A : Option Addr) (l : List MM.Mem) (cap g : Nat) (n : ByteArray) (w : World) (hI : Mems w A l) (hg : CB w g 9 #[.string n]) :
    Calls Try.prog 15 #[.slice A l.length cap, .func (.func 21) #[] #[.pointer (some ⟨g, 0, none⟩)]] w fun e w' => e = .returned (.tuple #[.int .i64 ((MM.at_ (fun m => MM.eq m.name n) l : Nat) : Int), .bool (l.findIdx? (fun m => MM.eq m.name n)).isSome]) ∧ Below w.heap.size w w' := by
  have hlen : l.length ≤ 9223372036854775807 := hI.len
  have KY := Lib.hid (fun k => @mhit l (fun m => MM.eq m.name n) k); have KN := Lib.hid (@mmiss l (fun m => MM.eq m.name n))
  have HC := Lib.hid (fun (m : MM.Mem) A' cap' ww h => mname_any m A' cap' g n ww h)
  generalize MM.at_ (fun m => MM.eq m.name n) l = x at *
  generalize (l.findIdx? (fun m => MM.eq m.name n)).isSome = y at *
  have HI := Lib.hid hI; have HG := Lib.hid hg
  have hgl : g < w.heap.size := hg.lt
  clear hI hg
  go_enter Try.func15, Try.ntmps15
  go_wp2
  go_loopw [10, 7, 6] (fun i _ _ wr => ∃ k : Nat, k ≤ l.length ∧ i = .int .i64 k ∧ Hid (∀ j, j < k → (fun m => MM.eq m.name n) (MM.mAt l j) = false) ∧ Hid (Below w.heap.size w wr)) (fun i _ _ _ => l.length - (intOf i).toNat)
  case atStart => exact ⟨0, by omega, rfl, Lib.hid (fun j h => by omega), Lib.hid (Below.refl _ _)⟩
  case round =>
    obtain ⟨k, hk, rfl, HE, HB⟩ := hrel
    by_cases hlt : k < l.length
    · obtain ⟨b, off, A', cap', m, rfl, hb, HV, q1, q2, q3, q4, d0, d1, d2⟩ := (HI.out.below HB.out).get hlt
      have HB2 := Lib.hid (HB.out.alloc HB.out.size (.cells (memC m A' cap') 29))
      have C1 := Lib.hid (fun ww h => HC.out m A' cap' ww h)
      have HV2 : Hid ((fun m => MM.eq m.name n) (MM.mAt l k) = (fun m => MM.eq m.name n) m) := Lib.hid (by rw [HV.out])
      have HG2 := Lib.hid (HG.out.below HB2.out hgl)
      clear q1 q2 q3 q4 HC
      cases hp : (fun m => MM.eq m.name n) m
      · have hp' := hp
        simp only at hp'
        rw [hp'] at C1
        rw [hp] at HV2
        have HE2 : Hid (∀ j, j < k + 1 → (fun m => MM.eq m.name n) (MM.mAt l j) = false) := Lib.hid (fun j hj => by
          rcases Nat.lt_or_ge j k with gg | gg
          · exact HE.out j gg
          · obtain rfl : j = k := by omega
            exact HV2.out)
        clear hp hp'
        go_wp2_with fail
        refine (C1.out _ HG2.out).mono ?_
        rintro e w1 ⟨rfl, b1⟩
        have HB3 := Lib.hid (HB2.out.trans (b1.mono HB2.out.size))
        clear b1
        go_wp2_with fail
        go_roundw
        case rel => exact ⟨k + 1, by omega, by go_num, HE2, HB3⟩
        case measure => simp [intOf]; omega
      · have hp' := hp
        simp only at hp'
        rw [hp'] at C1
        have HX := Lib.hid (KY.out k hlt HE.out (HV2.out.trans hp))
        clear hp hp'
        go_wp2_with fail
        refine (C1.out _ HG2.out).mono ?_
        rintro e w1 ⟨rfl, b1⟩
        have HB3 := Lib.hid (HB2.out.trans (b1.mono HB2.out.size))
        clear b1
        go_wp2_with fail
        go_ret2
        exact ⟨by rw [HX.out.1, HX.out.2] <;> rfl, HB3.out⟩
    · obtain rfl : k = l.length := by omega
      have HX := Lib.hid (KN.out HE.out)
      go_wp2_with fail
      go_ret2
      exact ⟨by rw [HX.out.1, HX.out.2] <;> rfl, HB.out⟩

set_option maxHeartbeats 4000000 in
theorem mplace2_any (A : Option Addr) (l : List MM.Mem) (cap g : Nat) (n : ByteArray) (w : World) (hI : Mems w A l) (hg : CB w g 9 #[.string n]) :
    Calls Try.prog 15 #[.slice A l.length cap, .func (.func 16) #[] #[.pointer (some ⟨g, 0, none⟩)]] w fun e w' => e = .returned (.tuple #[.int .i64 ((MM.at_ (fun m => MM.lt n m.name) l : Nat) : Int), .bool (l.findIdx? (fun m => MM.lt n m.name)).isSome]) ∧ Below w.heap.size w w' := by
  have hlen : l.length ≤ 9223372036854775807 := hI.len
  have KY := Lib.hid (fun k => @mhit l (fun m => MM.lt n m.name) k); have KN := Lib.hid (@mmiss l (fun m => MM.lt n m.name))
  have HC := Lib.hid (fun (m : MM.Mem) A' cap' ww h => madd_any m A' cap' g n ww h)
  generalize MM.at_ (fun m => MM.lt n m.name) l = x at *
  generalize (l.findIdx? (fun m => MM.lt n m.name)).isSome = y at *
  have HI := Lib.hid hI; have HG := Lib.hid hg
  have hgl : g < w.heap.size := hg.lt
  clear hI hg
  go_enter Try.func15, Try.ntmps15
  go_wp2
  go_loopw [10, 7, 6] (fun i _ _ wr => ∃ k : Nat, k ≤ l.length ∧ i = .int .i64 k ∧ Hid (∀ j, j < k → (fun m => MM.lt n m.name) (MM.mAt l j) = false) ∧ Hid (Below w.heap.size w wr)) (fun i _ _ _ => l.length - (intOf i).toNat)
  case atStart => exact ⟨0, by omega, rfl, Lib.hid (fun j h => by omega), Lib.hid (Below.refl _ _)⟩
  case round =>
    obtain ⟨k, hk, rfl, HE, HB⟩ := hrel
    by_cases hlt : k < l.length
    · obtain ⟨b, off, A', cap', m, rfl, hb, HV, q1, q2, q3, q4, d0, d1, d2⟩ := (HI.out.below HB.out).get hlt
      have HB2 := Lib.hid (HB.out.alloc HB.out.size (.cells (memC m A' cap') 29))
      have C1 := Lib.hid (fun ww h => HC.out m A' cap' ww h)
      have HV2 : Hid ((fun m => MM.lt n m.name) (MM.mAt l k) = (fun m => MM.lt n m.name) m) := Lib.hid (by rw [HV.out])
      have HG2 := Lib.hid (HG.out.below HB2.out hgl)
      clear q1 q2 q3 q4 HC
      cases hp : (fun m => MM.lt n m.name) m
      · have hp' := hp
        simp only at hp'
        rw [hp'] at C1
        rw [hp] at HV2
        have HE2 : Hid (∀ j, j < k + 1 → (fun m => MM.lt n m.name) (MM.mAt l j) = false) := Lib.hid (fun j hj => by
          rcases Nat.lt_or_ge j k with gg | gg
          · exact HE.out j gg
          · obtain rfl : j = k := by omega
            exact HV2.out)
        clear hp hp'
        go_wp2_with fail
        refine (C1.out _ HG2.out).mono ?_
        rintro e w1 ⟨rfl, b1⟩
        have HB3 := Lib.hid (HB2.out.trans (b1.mono HB2.out.size))
        clear b1
        go_wp2_with fail
        go_roundw
        case rel => exact ⟨k + 1, by omega, by go_num, HE2, HB3⟩
        case measure => simp [intOf]; omega
      · have hp' := hp
        simp only at hp'
        rw [hp'] at C1
        have HX := Lib.hid (KY.out k hlt HE.out (HV2.out.trans hp))
        clear hp hp'
        go_wp2_with fail
        refine (C1.out _ HG2.out).mono ?_
        rintro e w1 ⟨rfl, b1⟩
        have HB3 := Lib.hid (HB2.out.trans (b1.mono HB2.out.size))
        clear b1
        go_wp2_with fail
        go_ret2
        exact ⟨by rw [HX.out.1, HX.out.2] <;> rfl, HB3.out⟩
    · obtain rfl : k = l.length := by omega
      have HX := Lib.hid (KN.out HE.out)
      go_wp2_with fail
      go_ret2
      exact ⟨by rw [HX.out.1, HX.out.2] <;> rfl, HB.out⟩

set_option maxHeartbeats 4000000 in
theorem aplace1_any (A : Option Addr) (l : List MM.Ac) (cap g : Nat) (n : ByteArray) (w : World) (hI : Accs w A l) (hg : CB w g 9 #[.string n]) :
    Calls Try.prog 22 #[.slice A l.length cap, .func (.func 23) #[] #[.pointer (some ⟨g, 0, none⟩)]] w fun e w' => e = .returned (.tuple #[.int .i64 ((MM.at_ (fun m => MM.eq m.name n) l : Nat) : Int), .bool (l.findIdx? (fun m => MM.eq m.name n)).isSome]) ∧ Below w.heap.size w w' := by
  have hlen : l.length ≤ 9223372036854775807 := hI.len
  have KY := Lib.hid (fun k => @ahit l (fun m => MM.eq m.name n) k); have KN := Lib.hid (@amiss l (fun m => MM.eq m.name n))
  have HC := Lib.hid (fun (a : MM.Ac) ww h => aname_any a g n ww h)
  generalize MM.at_ (fun m => MM.eq m.name n) l = x at *
  generalize (l.findIdx? (fun m => MM.eq m.name n)).isSome = y at *
  have HI := Lib.hid hI; have HG := Lib.hid hg
  have hgl : g < w.heap.size := hg.lt
  clear hI hg
  go_enter Try.func22, Try.ntmps22
  go_wp2
  go_loopw [10, 7, 6] (fun i _ _ wr => ∃ k : Nat, k ≤ l.length ∧ i = .int .i64 k ∧ Hid (∀ j, j < k → (fun m => MM.eq m.name n) (aAt l j) = false) ∧ Hid (Below w.heap.size w wr)) (fun i _ _ _ => l.length - (intOf i).toNat)
  case atStart => exact ⟨0, by omega, rfl, Lib.hid (fun j h => by omega), Lib.hid (Below.refl _ _)⟩
  case round =>
    obtain ⟨k, hk, rfl, HE, HB⟩ := hrel
    by_cases hlt : k < l.length
    · obtain ⟨b, off, m, rfl, hb, HV, ⟨q1, q2⟩, d0, d1⟩ := accs_get (HI.out.below HB.out) hlt
      have HB2 := Lib.hid (HB.out.alloc HB.out.size (.cells (accC m) 26))
      have C1 := Lib.hid (fun ww h => HC.out m ww h)
      have HV2 : Hid ((fun m => MM.eq m.name n) (aAt l k) = (fun m => MM.eq m.name n) m) := Lib.hid (by rw [HV.out])
      have HG2 := Lib.hid (HG.out.below HB2.out hgl)
      clear q1 q2 HC
      cases hp : (fun m => MM.eq m.name n) m
      · have hp' := hp
        simp only at hp'
        rw [hp'] at C1
        rw [hp] at HV2
        have HE2 : Hid (∀ j, j < k + 1 → (fun m => MM.eq m.name n) (aAt l j) = false) := Lib.hid (fun j hj => by
          rcases Nat.lt_or_ge j k with gg | gg
          · exact HE.out j gg
          · obtain rfl : j = k := by omega
            exact HV2.out)
        clear hp hp'
        go_wp2_with fail
        refine (C1.out _ HG2.out).mono ?_
        rintro e w1 ⟨rfl, b1⟩
        have HB3 := Lib.hid (HB2.out.trans (b1.mono HB2.out.size))
        clear b1
        go_wp2_with fail
        go_roundw
        case rel => exact ⟨k + 1, by omega, by go_num, HE2, HB3⟩
        case measure => simp [intOf]; omega
      · have hp' := hp
        simp only at hp'
        rw [hp'] at C1
        have HX := Lib.hid (KY.out k hlt HE.out (HV2.out.trans hp))
        clear hp hp'
        go_wp2_with fail
        refine (C1.out _ HG2.out).mono ?_
        rintro e w1 ⟨rfl, b1⟩
        have HB3 := Lib.hid (HB2.out.trans (b1.mono HB2.out.size))
        clear b1
        go_wp2_with fail
        go_ret2
        exact ⟨by rw [HX.out.1, HX.out.2] <;> rfl, HB3.out⟩
    · obtain rfl : k = l.length := by omega
      have HX := Lib.hid (KN.out HE.out)
      go_wp2_with fail
      go_ret2
      exact ⟨by rw [HX.out.1, HX.out.2] <;> rfl, HB.out⟩

set_option maxHeartbeats 4000000 in
theorem aplace2_any (A : Option Addr) (l : List MM.Ac) (cap g : Nat) (c : MM.Ac) (w : World) (hI : Accs w A l) (hg : CB w g 26 (accC c)) :
    Calls Try.prog 22 #[.slice A l.length cap, .func (.func 31) #[] #[.pointer (some ⟨g, 0, none⟩)]] w fun e w' => e = .returned (.tuple #[.int .i64 ((MM.at_ (fun m => MM.lt c.name m.name) l : Nat) : Int), .bool (l.findIdx? (fun m => MM.lt c.name m.name)).isSome]) ∧ Below w.heap.size w w' := by
  have hlen : l.length ≤ 9223372036854775807 := hI.len
  have KY := Lib.hid (fun k => @ahit l (fun m => MM.lt c.name m.name) k); have KN := Lib.hid (@amiss l (fun m => MM.lt c.name m.name))
  have HC := Lib.hid (fun (a : MM.Ac) ww h => aopen_any c a g ww h)
  generalize MM.at_ (fun m => MM.lt c.name m.name) l = x at *
  generalize (l.findIdx? (fun m => MM.lt c.name m.name)).isSome = y at *
  have HI := Lib.hid hI; have HG := Lib.hid hg
  have hgl : g < w.heap.size := hg.lt
  clear hI hg
  go_enter Try.func22, Try.ntmps22
  go_wp2
  go_loopw [10, 7, 6] (fun i _ _ wr => ∃ k : Nat, k ≤ l.length ∧ i = .int .i64 k ∧ Hid (∀ j, j < k → (fun m => MM.lt c.name m.name) (aAt l j) = false) ∧ Hid (Below w.heap.size w wr)) (fun i _ _ _ => l.length - (intOf i).toNat)
  case atStart => exact ⟨0, by omega, rfl, Lib.hid (fun j h => by omega), Lib.hid (Below.refl _ _)⟩
  case round =>
    obtain ⟨k, hk, rfl, HE, HB⟩ := hrel
    by_cases hlt : k < l.length
    · obtain ⟨b, off, m, rfl, hb, HV, ⟨q1, q2⟩, d0, d1⟩ := accs_get (HI.out.below HB.out) hlt
      have HB2 := Lib.hid (HB.out.alloc HB.out.size (.cells (accC m) 26))
      have C1 := Lib.hid (fun ww h => HC.out m ww h)
      have HV2 : Hid ((fun m => MM.lt c.name m.name) (aAt l k) = (fun m => MM.lt c.name m.name) m) := Lib.hid (by rw [HV.out])
      have HG2 := Lib.hid (HG.out.below HB2.out hgl)
      clear q1 q2 HC
      cases hp : (fun m => MM.lt c.name m.name) m
      · have hp' := hp
        simp only at hp'
        rw [hp'] at C1
        rw [hp] at HV2
        have HE2 : Hid (∀ j, j < k + 1 → (fun m => MM.lt c.name m.name) (aAt l j) = false) := Lib.hid (fun j hj => by
          rcases Nat.lt_or_ge j k with gg | gg
          · exact HE.out j gg
          · obtain rfl : j = k := by omega
            exact HV2.out)
        clear hp hp'
        go_wp2_with fail
        refine (C1.out _ HG2.out).mono ?_
        rintro e w1 ⟨rfl, b1⟩
        have HB3 := Lib.hid (HB2.out.trans (b1.mono HB2.out.size))
        clear b1
        go_wp2_with fail
        go_roundw
        case rel => exact ⟨k + 1, by omega, by go_num, HE2, HB3⟩
        case measure => simp [intOf]; omega
      · have hp' := hp
        simp only at hp'
        rw [hp'] at C1
        have HX := Lib.hid (KY.out k hlt HE.out (HV2.out.trans hp))
        clear hp hp'
        go_wp2_with fail
        refine (C1.out _ HG2.out).mono ?_
        rintro e w1 ⟨rfl, b1⟩
        have HB3 := Lib.hid (HB2.out.trans (b1.mono HB2.out.size))
        clear b1
        go_wp2_with fail
        go_ret2
        exact ⟨by rw [HX.out.1, HX.out.2] <;> rfl, HB3.out⟩
    · obtain rfl : k = l.length := by omega
      have HX := Lib.hid (KN.out HE.out)
      go_wp2_with fail
      go_ret2
      exact ⟨by rw [HX.out.1, HX.out.2] <;> rfl, HB.out⟩

/-- the place, and whether there is one -/
def plN (o : Option Nat) (n : Nat) : Int := ((o.getD n : Nat) : Int)
set_option maxHeartbeats 2000000 in
theorem mpl_any (A : Option Addr) (l : List MM.Mem) (cap : Nat) (n : ByteArray) (w : World) (hI : Mems w A l) :
    Calls Try.prog 10 #[.slice A l.length cap, .string n] w fun e w' => e = .returned (.tuple #[.int .i64 (plN (MM.pl l n) l.length), .bool (MM.pl l n).isSome]) ∧ Below w.heap.size w w' := by
  have hmf : ∀ (fn : Fn) (first cap : Array Value) (w : World), (Instr.makeFunc fn first cap).run Try.prog w = .ok (.func fn first cap) w := fun _ _ _ _ => rfl
  have HB0 := Lib.hid ((Below.refl w.heap.size w).alloc (Nat.le_refl _) (.cells #[.string n] 9))
  have C := Lib.hid (mplace1_any A l cap w.heap.size n _ (hI.below HB0.out) (CB.new w 9 #[.string n]))
  have E : plN (MM.pl l n) l.length = ((MM.at_ (fun m => MM.eq m.name n) l : Nat) : Int) := rfl
  have E2 : (MM.pl l n).isSome = (l.findIdx? (fun m => MM.eq m.name n)).isSome := rfl
  rw [E, E2]
  generalize MM.at_ (fun m => MM.eq m.name n) l = x at *
  generalize (l.findIdx? (fun m => MM.eq m.name n)).isSome = y at *
  clear hI E E2
  go_enter Try.func10, Try.ntmps10
  go_wp2_with fail
  refine C.out.mono ?_
  rintro e w1 ⟨rfl, b1⟩
  have HB1 := Lib.hid (HB0.out.trans (b1.mono HB0.out.size))
  clear b1
  go_wp2_with fail
  go_ret2
  exact ⟨rfl, HB1.out⟩
set_option maxHeartbeats 2000000 in
theorem apl_any (A : Option Addr) (l : List MM.Ac) (cap : Nat) (n : ByteArray) (w : World) (hI : Accs w A l) :
    Calls Try.prog 11 #[.slice A l.length cap, .string n] w fun e w' => e = .returned (.tuple #[.int .i64 (plN (MM.pa l n) l.length), .bool (MM.pa l n).isSome]) ∧ Below w.heap.size w w' := by
  have hmf : ∀ (fn : Fn) (first cap : Array Value) (w : World), (Instr.makeFunc fn first cap).run Try.prog w = .ok (.func fn first cap) w := fun _ _ _ _ => rfl
  have HB0 := Lib.hid ((Below.refl w.heap.size w).alloc (Nat.le_refl _) (.cells #[.string n] 9))
  have C := Lib.hid (aplace1_any A l cap w.heap.size n _ (hI.below HB0.out) (CB.new w 9 #[.string n]))
  have E : plN (MM.pa l n) l.length = ((MM.at_ (fun m => MM.eq m.name n) l : Nat) : Int) := rfl
  have E2 : (MM.pa l n).isSome = (l.findIdx? (fun m => MM.eq m.name n)).isSome := rfl
  rw [E, E2]
  generalize MM.at_ (fun m : MM.Ac => MM.eq m.name n) l = x at *
  generalize (l.findIdx? (fun m => MM.eq m.name n)).isSome = y at *
  clear hI E E2
  go_enter Try.func11, Try.ntmps11
  go_wp2_with fail
  refine C.out.mono ?_
  rintro e w1 ⟨rfl, b1⟩
  have HB1 := Lib.hid (HB0.out.trans (b1.mono HB0.out.size))
  clear b1
  go_wp2_with fail
  go_ret2
  exact ⟨rfl, HB1.out⟩
end Go.Proofs.Ytlnllbcpbohahab
