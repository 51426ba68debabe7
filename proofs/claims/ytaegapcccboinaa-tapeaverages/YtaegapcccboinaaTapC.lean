/- Contracts of layer 17: Range. -/
import Derived.Test.YtaegapcccboinaaTapB
namespace Go.Proofs.Ytaegapcccboinaa
open Go.RowKit Go.Recs
set_option linter.unusedVariables false
set_option linter.unusedSimpArgs false
theorem two_below (w : World) (a b : Array Value) : Below w.heap.size w ((w.alloc (.cells a 3)).alloc (.cells b 3)) := below_al (below_al (Below.refl _ _) _) _
set_option maxRecDepth 100000 in
set_option maxHeartbeats 4000000 in
theorem range_any (A : Option Addr) (l : List TP.Tick) (n cap : Nat) (hn : n = l.length) (w : World) (hI : Ticks w A l) :
    Calls Try.prog 18 #[.slice A n cap] w fun e w' => e = .returned (.tuple #[.int .i64 (TP.lowN l), .int .i64 (TP.highN l), .bool (decide (0 < l.length))]) ∧ Below w.heap.size w w' := by
  subst hn
  have hlen := hI.len
  have hmf : ∀ (fn : Fn) (first cap : Array Value) (w : World), (Instr.makeFunc fn first cap).run Try.prog w = .ok (.func fn first cap) w := fun _ _ _ _ => rfl
  have HB0 := Lib.hid (fun a b => two_below w a b)
  by_cases h0 : l.length = 0
  · have e1 : TP.lowN l = 0 := by unfold TP.lowN; rw [if_pos h0]
    have e2 : TP.highN l = 0 := by unfold TP.highN; rw [if_pos h0]
    have e3 : decide (0 < l.length) = false := by simp [h0]
    rw [e1, e2, e3, h0]
    have hX := Lib.hid ((CB.new w 3 #[.int .i64 0]).alloc (.cells #[.int .i64 0] 3))
    have hY := Lib.hid (CB.new1 w (.cells #[.int .i64 0] 3) 3 #[.int .i64 0])
    clear e1 e2 e3 h0 hI
    go_enter Try.func18, Try.ntmps18
    go_wp2_with fail
    (try simp only [Exit.inBlock, Exit.then])
    exact bodyPost_ret (results_ints3 rfl _ _ _ _ _ _ _ rfl rfl rfl hX.out hY.out) rfl ⟨rfl, HB0.out _ _⟩
  · have hpos : 0 < l.length := by omega
    have e1 : TP.lowN l = TP.lowU l l.length := by unfold TP.lowN; rw [if_neg h0]
    have e2 : TP.highN l = TP.highU l l.length := by unfold TP.highN; rw [if_neg h0]
    have e3 : decide (0 < l.length) = true := by simp [hpos]
    have eg : ∀ args w, (callFunc 47 args).run Try.prog w = .ok (.enter 47 args) w := enters_of Try.func47 (by kernel_rfl) rfl
    have C := Lib.hid (fun (w2 : World) (hb : Below w.heap.size w w2) (hs : w.heap.size + 1 < w2.heap.size) (k0 : CB w2 w.heap.size 3 #[.int .i64 (TP.lowU l 0)]) (k1 : CB w2 (w.heap.size + 1) 3 #[.int .i64 (TP.highU l 0)]) =>
      run17_any 47 eg #[.pointer (some ⟨w.heap.size, 0, none⟩), .pointer (some ⟨w.heap.size + 1, 0, none⟩)]
      (fun k ww => Below w.heap.size w ww ∧ CB ww w.heap.size 3 #[.int .i64 (TP.lowU l k)] ∧ CB ww (w.heap.size + 1) 3 #[.int .i64 (TP.highU l k)]) A l l.length cap rfl w w2 hI
      (fun k ww h => h.1) (fun k ww o h => ⟨below_al h.1 o, h.2.1.alloc o, h.2.2.alloc o⟩) ⟨hb, k0, k1⟩
      (fun k hk ww h hlt => by
        obtain ⟨hb, c0, c1⟩ := h
        refine (range1_any w.heap.size (w.heap.size + 1) (by omega) (TP.tAt l k) (TP.lowU l k) (TP.highU l k) ww c0 c1).mono ?_
        rintro e w' ⟨rfl, T⟩
        exact ⟨rfl, ⟨T.below _ _ hb (Nat.le_refl _) (by omega) hb.size, T.c0, T.c1⟩, T.other _ (by omega) (by omega) hlt⟩))
    have HI := Lib.hid hI
    obtain ⟨p0, hp0⟩ : ∃ p0, (TP.tAt l 0).price = p0 := ⟨_, rfl⟩
    have z1 : TP.lowU l 0 = p0 := hp0
    have z2 : TP.highU l 0 = p0 := hp0
    rw [z1, z2] at C
    rw [e1, e2, e3]
    generalize TP.lowU l l.length = x at *
    generalize TP.highU l l.length = y at *
    have HP := Lib.hid hp0
    have n0 : ¬ w.heap.size = w.heap.size + 1 := by omega
    have n1 : ¬ w.heap.size + 1 = w.heap.size := by omega
    have hX := (CB.new w 3 #[.int .i64 0]).alloc (.cells #[.int .i64 0] 3)
    have hY := CB.new1 w (.cells #[.int .i64 0] 3) 3 #[.int .i64 0]
    obtain ⟨b, off, t, rfl, hb, HV, ⟨q0, q1, q2⟩, d0, d1, d2⟩ := ticks_get (hI.below (HB0.out #[.int .i64 0] #[.int .i64 0])) hpos
    have HBA := HB0.out #[.int .i64 0] #[.int .i64 0]
    have hs1 : ((w.alloc (.cells #[.int .i64 0] 3)).alloc (.cells #[.int .i64 0] 3)).heap.size = w.heap.size + 2 := by simp
    have HTP : Hid (t.price = p0) := Lib.hid (by rw [← HP.out, HV.out])
    simp only [Nat.zero_mul, Nat.add_zero] at d0 d1 d2
    have hnn : ¬ (l.length : Int) = 0 := by omega
    clear hI eg e1 e2 e3 z1 z2 hp0 q0 q1 q2 d0 d1
    go_enter Try.func18, Try.ntmps18
    go_wp2_with fail
    generalize (w.alloc (.cells #[.int .i64 0] 3)).alloc (.cells #[.int .i64 0] 3) = w1 at *
    have c0 := hX.cell 0
    have c1 := hY.cell 0
    have r0 := hX.frozen 0
    have r1 := hY.frozen 0
    simp only [List.getElem?_toArray, List.getElem?_cons_zero] at c0 c1
    have HZ := Lib.hid (Twin.again hX hY (by omega) HBA (Nat.le_refl _) (by omega) (.int .i64 t.price) (.int .i64 t.price))
    rw [HTP.out] at HZ d2
    have HS1 := Lib.hid hs1
    clear hX hY HBA HB0 hs1
    go_region
    all_goals (
      generalize hw2 : ((w1.setCell ⟨w.heap.size, 0, none⟩ (.int .i64 p0)).setCell ⟨w.heap.size + 1, 0, none⟩ (.int .i64 p0)).drew = w2 at *
      have hs2 : w2.heap.size = w.heap.size + 2 := by rw [← hw2]; simp [HS1.out]
      have C2 := Lib.hid (C.out (w2.alloc (.cells #[.func (.func 47) #[] #[.pointer (some ⟨w.heap.size, 0, none⟩), .pointer (some ⟨w.heap.size + 1, 0, none⟩)]] 86)) (below_al HZ.out.1 _) (by simp; omega) (HZ.out.2.1.alloc _) (HZ.out.2.2.alloc _))
      clear hw2 c0 c1 r0 r1 d2 C
      go_wp2_with fail
      refine C2.out.mono ?_
      rintro e w3 ⟨rfl, hb3, h0, h1⟩
      have c0 := h0.cell 0
      have c1 := h1.cell 0
      have r0 := h0.frozen 0
      have r1 := h1.frozen 0
      simp only [List.getElem?_toArray, List.getElem?_cons_zero] at c0 c1
      have HZ3 := Lib.hid (Twin.again h0 h1 (by omega) hb3 (Nat.le_refl _) (by omega) (.int .i64 x) (.int .i64 y))
      clear hb3 h0 h1
      go_wp2_with fail
      go_region
      all_goals (
        go_wp2_with fail
        (try simp only [Exit.inBlock, Exit.then])
        exact bodyPost_ret (results_ints3 rfl _ _ _ _ _ _ _ rfl rfl rfl HZ3.out.2.1 HZ3.out.2.2) rfl ⟨rfl, HZ3.out.1⟩))
end Go.Proofs.Ytaegapcccboinaa
