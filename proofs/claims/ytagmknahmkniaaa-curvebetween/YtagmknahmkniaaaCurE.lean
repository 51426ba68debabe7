/- Contracts of layer 19: the known points about a day. -/
import Derived.Test.YtagmknahmkniaaaCurD
namespace Go.Proofs.Ytagmknahmkniaaa
open Go.RowKit Go.Recs Go.Maps Go.Shelf
set_option linter.unusedVariables false
set_option linter.unusedSimpArgs false
attribute [local go_sem] Oper.semAt_some
/-- a point written into box g -/
abbrev putU (w : World) (g : Nat) (x : UM.Pt) : World := ((w.setCell ⟨g, 0, none⟩ (.int .i64 x.exp)).setCell ⟨g, 1, none⟩ (.int .i64 x.price)).setCell ⟨g, 2, none⟩ (.bool x.known)
theorem putU_own {w : World} {g : Nat} {x : UM.Pt} (h : CB w g 44 (ptC x)) (y : UM.Pt) : CB (putU w g y) g 44 (ptC y) := ((h.set_ 0 (.int .i64 y.exp)).set_ 1 (.int .i64 y.price)).set_ 2 (.bool y.known)
theorem putU_far {w : World} {g k : Nat} {t : TypeId} {cs : Array Value} (h : CB w g t cs) (hk : g ≠ k) (y : UM.Pt) : CB (putU w k y) g t cs := ((h.far (p := ⟨k, 0, none⟩) hk _).far (p := ⟨k, 1, none⟩) hk _).far (p := ⟨k, 2, none⟩) hk _
theorem putU_below {w w' : World} {B g : Nat} (h : Below B w w') (hg : B ≤ g) (y : UM.Pt) : Below B w (putU w' g y) := ((h.setCell (p := ⟨g, 0, none⟩) hg _).setCell (p := ⟨g, 1, none⟩) hg _).setCell (p := ⟨g, 2, none⟩) hg _
theorem putU_heap (w : World) (g k : Nat) (y : UM.Pt) (h : k ≠ g) : (putU w g y).heap[k]? = w.heap[k]? := ((Below.heap_setCell _ ⟨g, 2, none⟩ _ k h).trans (Below.heap_setCell _ ⟨g, 1, none⟩ _ k h)).trans (Below.heap_setCell _ ⟨g, 0, none⟩ _ k h)
theorem putU_size (w : World) (g : Nat) (y : UM.Pt) : (putU w g y).heap.size = w.heap.size := by simp [World.setCell]
theorem cb_ownF {β : Type} (Bx : Nat) (t : TypeId) (f : β → Array Value) : Go.Own (fun (s : β) W => CB W Bx t (f s)) := fun s X Y row hs hg hrow =>
  (hg.block Bx (CB.lt hs) (fun e' => by
    obtain ⟨o, ho, hc⟩ := hrow Bx e'.symm
    rw [show X.heap[Bx]? = _ from hs] at ho; cases ho; cases hc)).trans hs
theorem cb_own (Bx : Nat) (t : TypeId) (cs : Array Value) : Go.Own (fun (_ : Unit) W => CB W Bx t cs) := cb_ownF Bx t (fun _ => cs)
theorem putU_others (w : World) (g : Nat) (y : UM.Pt) : KeepsOthers w (putU w g y) := ((KeepsOthers.setCell _ _ _).trans (KeepsOthers.setCell _ _ _)).trans (KeepsOthers.setCell _ _ _)
theorem cb_drew {W : World} {g : Nat} {t : TypeId} {cs : Array Value} (h : CB W g t cs) : CB W.drew g t cs := h
theorem put2_K {W : World} {D a b : Nat} {x y : UM.Pt} (hK : W.heap[D]? = some (.deferred (some []))) : (putU (putU W a x) b y).heap[D]? = some (.deferred (some [])) := ((putU_others W a x).trans (putU_others (putU W a x) b y)).same D _ hK rfl
theorem heap_drew {W : World} {D : Nat} {o : Option Obj} (h : W.heap[D]? = o) : W.drew.heap[D]? = o := h
theorem put2_A {W : World} {a b : Nat} {x0 x y : UM.Pt} (h : CB W a 44 (ptC x0)) (hab : a ≠ b) : CB (putU (putU W a x) b y) a 44 (ptC x) := putU_far (putU_own h x) hab y
theorem put2_C {W : World} {a b : Nat} {x y0 y : UM.Pt} (h : CB W b 44 (ptC y0)) (hab : b ≠ a) : CB (putU (putU W a x) b y) b 44 (ptC y) := putU_own (putU_far h hab x) y
theorem cb_put {W : World} {g D : Nat} {t : TypeId} {cs : Array Value} {o : Obj} (h : CB W g t cs) (hK : W.heap[D]? = some (.deferred (some []))) : CB (W.putObj D o) g t cs := by
  have hne : D ≠ g := by
    rintro rfl
    rw [show W.heap[D]? = _ from h] at hK; cases hK
  unfold CB at h ⊢
  simp only [World.putObj]
  rw [Array.getElem?_setIfInBounds_ne hne]; exact h
/-- the first known one from the day on, coming from behind -/
def foldB (day : Int) (pre : List (Int × UM.Pt)) : UM.Pt := (pre.map (·.2)).foldl (fun b p => if p.known && decide (day ≤ p.exp) then p else b) UM.zero
theorem foldB_nil (day : Int) : foldB day [] = UM.zero := rfl
theorem foldB_snoc (day : Int) (pre : List (Int × UM.Pt)) (x : Int × UM.Pt) : foldB day (pre ++ [x]) = if x.2.known && decide (day ≤ x.2.exp) then x.2 else foldB day pre := by
  unfold foldB; rw [List.map_append, List.foldl_append]; rfl
theorem foldB_all (day : Int) (l : List UM.Pt) (xs : List (Int × UM.Pt)) (h : xs.map (·.2) = l.reverse) : foldB day xs = UM.highK l day := by
  unfold foldB UM.highK; rw [h, List.foldl_reverse]
set_option maxRecDepth 100000 in
set_option maxHeartbeats 8000000 in
theorem uaround_any (A : Option Addr) (l : List UM.Pt) (n cap : Nat) (hn : n = l.length) (day : Int) (w : World) (hI : Pts w A l) :
    Calls Try.prog 41 #[.slice A n cap, .int .i64 day] w fun e w' => e = .returned (.tuple #[ptA (UM.arA l day), ptA (UM.arB l day)]) ∧ Below w.heap.size w w' := by
  subst hn
  have hlen := hI.len
  have HI := Lib.hid hI
  have KL := Lib.hid (fun k (h : k < l.length) => UM.low_step h day)
  have KA : Hid (UM.lowK (l.take l.length) day = UM.lowK l day) := Lib.hid (by rw [List.take_length])
  have EA : Hid (UM.arA l day = if (UM.lowK l day).known = true then UM.lowK l day else UM.highK l day) := Lib.hid rfl
  have EB : Hid (UM.arB l day = if (UM.lowK l day).known = true ∧ (UM.highK l day).known = false then UM.lowK l day else UM.highK l day) := Lib.hid rfl
  have KB := Lib.hid (fun xs h => foldB_all day l xs h)
  have CBk := Lib.hid (fun A n cap ww => uback_any A n cap ww)
  generalize UM.arA l day = ra at *
  generalize UM.arB l day = rb at *
  generalize UM.highK l day = hk at *
  generalize UM.lowK l day = lk at *
  have HB0 := Lib.hid (below_al (below_al (below_al (Below.refl w.heap.size w) (.cells #[.int .i64 day] 3)) (.cells (ptC UM.zero) 44)) (.cells (ptC UM.zero) 44))
  have HD0 := Lib.hid (((CB.new w 3 #[.int .i64 day]).alloc (.cells (ptC UM.zero) 44)).alloc (.cells (ptC UM.zero) 44))
  have HA0 := Lib.hid ((CB.new1 w (.cells #[.int .i64 day] 3) 44 (ptC UM.zero)).alloc (.cells (ptC UM.zero) 44))
  have HC0 := Lib.hid (CB.new2 w (.cells #[.int .i64 day] 3) (.cells (ptC UM.zero) 44) 44 (ptC UM.zero))
  clear hI
  refine (callsIn_wide (n := 6)).1 ?_
  refine callsIn_of_wp_marks Try.func41 rfl trivial ?_ rfl
  simp only [Try.ntmps41, List.size_toArray, List.length_cons, List.length_nil, Nat.reduceAdd, Nat.reduceSub, Array.replicate_succ, Array.replicate_zero, List.push_toArray, List.append_toArray, List.nil_append, List.cons_append]
  gi_wp2
  gi_loopw [7, 12] (fun _ i wr => ∃ k : Nat, k ≤ l.length ∧ i = .int .i64 (k : Int) ∧ Hid (CB wr w.heap.size 3 #[.int .i64 day]) ∧ Hid (CB wr (w.heap.size + 1) 44 (ptC (UM.lowK (l.take k) day))) ∧ Hid (CB wr (w.heap.size + 2) 44 (ptC UM.zero)) ∧ Hid (Below w.heap.size w wr)) (fun _ i _ => l.length - (intOf i).toNat)
  case atStart => exact ⟨0, by omega, rfl, HD0, HA0, HC0, HB0⟩
  case round =>
    clear HD0 HA0 HC0 HB0
    obtain ⟨k, hk', rfl, HD, HA, HC, HB⟩ := hrel
    by_cases hlt : k < l.length
    · obtain ⟨b, off, t, rfl, hb, HV, q, d0, d1, d2⟩ := pts_get (HI.out.below HB.out) hlt
      have HS := Lib.hid (KL.out k hlt)
      rw [HV.out] at HS
      have hsz := HC.out.lt
      obtain ⟨te, tp, tk⟩ := t
      have HDx := Lib.hid (HD.out.alloc (.cells #[.int .i64 te, .int .i64 tp, .bool tk] 44))
      have HAx := Lib.hid (HA.out.alloc (.cells #[.int .i64 te, .int .i64 tp, .bool tk] 44))
      have HCx := Lib.hid (HC.out.alloc (.cells #[.int .i64 te, .int .i64 tp, .bool tk] 44))
      have HBx := Lib.hid (below_al HB.out (.cells #[.int .i64 te, .int .i64 tp, .bool tk] 44))
      have HT := CB.new wr 44 #[.int .i64 te, .int .i64 tp, .bool tk]
      have f0 := HT.cell 0
      have f1 := HT.cell 1
      have f2 := HT.cell 2
      have e0 := HDx.out.cell 0
      have a0 := HAx.out.cell 0
      have a1 := HAx.out.cell 1
      have a2 := HAx.out.cell 2
      have fA := HAx.out.frozen
      simp only [List.getElem?_toArray, List.getElem?_cons_zero, List.getElem?_cons_succ] at f0 f1 f2 e0 a0 a1 a2 d0 d1 d2
      generalize UM.lowK (l.take k) day = lo at *
      clear q HT HV
      cases tk
      · have HS2 : Hid (UM.lowK (l.take (k + 1)) day = lo) := Lib.hid (by rw [HS.out]; rfl)
        gi_wp2
        go_roundw
        case rel => exact ⟨k + 1, by omega, by go_num, HDx, by rw [HS2.out]; exact HAx, HCx, HBx⟩
        case measure => simp [intOf]; omega
      · by_cases g2 : te ≤ day
        · have HS2 : Hid (UM.lowK (l.take (k + 1)) day = ⟨te, tp, true⟩) := Lib.hid (by rw [HS.out]; simp [g2])
          gi_wp2
          go_roundw
          case rel => exact ⟨k + 1, by omega, by go_num, Lib.hid (putU_far HDx.out (by omega) ⟨te, tp, true⟩), by rw [HS2.out]; exact Lib.hid (putU_own HAx.out ⟨te, tp, true⟩), Lib.hid (putU_far HCx.out (by omega) ⟨te, tp, true⟩), Lib.hid (putU_below HBx.out (by omega) ⟨te, tp, true⟩)⟩
          case measure => simp [intOf]; omega
        · have HS2 : Hid (UM.lowK (l.take (k + 1)) day = lo) := Lib.hid (by rw [HS.out]; simp [g2])
          gi_wp2
          go_roundw
          case rel => exact ⟨k + 1, by omega, by go_num, HDx, by rw [HS2.out]; exact HAx, HCx, HBx⟩
          case measure => simp [intOf]; omega
    · obtain rfl : k = l.length := by omega
      rw [KA.out] at HA
      have hsz := HC.out.lt
      gi_wp2_with (refine ⟨trivial, ?_⟩; gi_at_call 54; refine ((callsIn_wide (n := _)).2 (CBk.out _ _ _ _)).mono ?_; rintro e w1 ⟨rfl, rfl⟩)
      have HI1 := Lib.hid (HI.out.below HB.out)
      have HD1 := Lib.hid (HD.out.alloc (.cells #[.slice A l.length cap] 22))
      have HA1 := Lib.hid (HA.out.alloc (.cells #[.slice A l.length cap] 22))
      have HC1 := Lib.hid (HC.out.alloc (.cells #[.slice A l.length cap] 22))
      have HB1 := Lib.hid (below_al HB.out (.cells #[.slice A l.length cap] 22))
      have HM1 := Lib.hid (CB.new wr 22 #[.slice A l.length cap])
      have HI2 := Lib.hid (HI1.out.below ((Below.refl _ _).alloc (Nat.le_refl _) (.cells #[.slice A l.length cap] 22)))
      obtain ⟨w1, hw1⟩ : ∃ w1, wr.alloc (.cells #[.slice A l.length cap] 22) = w1 := ⟨_, rfl⟩
      rw [hw1] at HD1 HA1 HC1 HB1 HM1 HI2 ⊢
      have hs1 : w1.heap.size = wr.heap.size + 1 := by rw [← hw1]; simp
      clear hw1 HD HA HC HB
      obtain ⟨b1, hb1, hb2, hbA⟩ := pts_block HI.out (k := wr.heap.size) (m := w.heap.size + 2) (by omega) (by omega) (by omega)
      have HBA := Lib.hid hbA
      have hmc := HM1.out.cell 0
      simp only [List.getElem?_toArray, List.getElem?_cons_zero] at hmc
      clear hbA
      gi_wp2
      refine wpIn_rangeFunc_ownH rfl (by omega) (gf := 66) (lb := #[.pointer (some ⟨wr.heap.size, 0, none⟩)]) rfl trivial (enters_of Try.func66 (by kernel_rfl) rfl)
        (uback_stops Fence.wide 5 trivial rfl (by omega) b1 wr.heap.size A l cap HBA.out w1 hmc (by omega) HI2.out) ktwo_t (fun W x o o' hx _ _ _ => ktwo_b (n := w1.heap.size) (by omega) (by omega) W x o o' hx) (Below.refl _ _) (fun _ => rfl)
        (fun pre W => ((CB W w.heap.size 3 #[.int .i64 day] ∧ CB W (w.heap.size + 1) 44 (ptC lk)) ∧ CB W (w.heap.size + 2) 44 (ptC (foldB day pre)) ∧ CB W wr.heap.size 22 #[.slice A l.length cap]) ∧ Below w.heap.size w W)
        (fun _ _ _ => False)
        (OwnFrom.and (Go.Own.from (fun s X Y row hs hg hr => ⟨⟨cb_ownF _ _ (fun _ => #[.int .i64 day]) s X Y row hs.1.1 hg hr, cb_ownF _ _ (fun _ => ptC lk) s X Y row hs.1.2 hg hr⟩, cb_ownF _ _ (fun pre => ptC (foldB day pre)) s X Y row hs.2.1 hg hr, cb_ownF _ _ (fun _ => #[.slice A l.length cap]) s X Y row hs.2.2 hg hr⟩) _) (ownFrom_below (Nat.le_refl _) (by omega)))
        (fun _ _ _ _ _ hs _ _ => hs)
        ⟨⟨⟨HD1.out, HA1.out⟩, HC1.out, HM1.out⟩, HB1.out⟩
        (fun x a' W => ∃ Bx, wr.heap.size < Bx ∧ CB W Bx 44 (ptC x.2) ∧ a' = { tmps := #[.slice A l.length cap, .int .i64 day, undef, .pointer (some ⟨w.heap.size, 0, none⟩), .pointer (some ⟨w.heap.size + 1, 0, none⟩), .pointer (some ⟨w.heap.size + 1 + 1, 0, none⟩), undef, u7, undef, .pointer (some ⟨Bx, 0, none⟩), .slice A l.length cap, .int .i64 (l.length : Int), .int .i64 (l.length : Int), .bool false, u14, u15, u16, u17, u18, u19, u20, u21, u22, u23, u24, u25, .slice A l.length cap, .func (.func 66) #[] #[.pointer (some ⟨wr.heap.size, 0, none⟩)], .int .i64 x.1, ptA x.2, undef, undef, undef, undef, undef, undef, undef, undef, undef, undef, undef, undef, undef, undef, undef, undef, undef, undef, undef, undef, undef], defers := [] })
        (fun x a' _ X Y row hs hg hr => by obtain ⟨Bx, h1, h2, h3⟩ := hs; exact ⟨Bx, h1, cb_own Bx 44 (ptC x.2) () X Y row h2 hg (fun r e => (hr r e).2), h3⟩)
        ?assign ?body ?done ?stop
      case assign =>
        rintro lid pre x W K ⟨⟨⟨hD, hA⟩, hC, hM⟩, hB⟩ hK
        have hs := hM.lt
        gi_wp2
        exact hK _ _ ((KeepsOthers.alloc _ _).from _) (ktwo_al (by omega) (by omega) _) ⟨⟨⟨hD.alloc _, hA.alloc _⟩, hC.alloc _, hM.alloc _⟩, hB.alloc hB.size _⟩ ⟨W.heap.size, by omega, CB.new W _ _, rfl⟩
      case body =>
        rintro lid pre x a' W hlid ⟨r, hr⟩ ⟨⟨⟨hD, hA⟩, hC, hM⟩, hB⟩ ⟨Bx, hBx, hX, rfl⟩ hlt
        obtain ⟨xi, te, tp, tk⟩ := x
        have f0 := hX.cell 0
        have f1 := hX.cell 1
        have f2 := hX.cell 2
        have e0 := hD.cell 0
        have a0 := hC.cell 0
        have a1 := hC.cell 1
        have a2 := hC.cell 2
        have fC := hC.frozen
        simp only [List.getElem?_toArray, List.getElem?_cons_zero, List.getElem?_cons_succ] at f0 f1 f2 e0 a0 a1 a2
        have HS := Lib.hid (foldB_snoc day pre (xi, ⟨te, tp, tk⟩))
        have HD := Lib.hid hD; have HA := Lib.hid hA; have HC := Lib.hid hC; have HM := Lib.hid hM; have HB := Lib.hid hB
        generalize foldB day pre = fb at *
        clear hX hD hA hC hM hB hr
        cases tk
        · have HS2 : Hid (foldB day (pre ++ [(xi, ⟨te, tp, false⟩)]) = fb) := Lib.hid (by rw [HS.out]; rfl)
          gi_wp2
          exact ⟨(KeepsOthers.refl _).from _, ⟨rfl, rfl, Nat.le_refl _⟩, ⟨⟨HD.out, HA.out⟩, by rw [HS2.out]; exact HC.out, HM.out⟩, HB.out⟩
        · by_cases g2 : day ≤ te
          · have HS2 : Hid (foldB day (pre ++ [(xi, ⟨te, tp, true⟩)]) = ⟨te, tp, true⟩) := Lib.hid (by rw [HS.out]; simp [g2])
            gi_wp2
            exact ⟨(((KeepsOthers.setCell _ _ _).trans (KeepsOthers.setCell _ _ _)).trans (KeepsOthers.setCell _ _ _)).from _, ⟨putU_heap W _ _ ⟨te, tp, true⟩ (by omega), putU_heap W _ _ ⟨te, tp, true⟩ (by omega), by rw [putU_size W _ ⟨te, tp, true⟩]; exact Nat.le_refl _⟩,
              ⟨⟨putU_far HD.out (by omega) ⟨te, tp, true⟩, putU_far HA.out (by omega) ⟨te, tp, true⟩⟩, by rw [HS2.out]; exact putU_own HC.out ⟨te, tp, true⟩, putU_far HM.out (by omega) ⟨te, tp, true⟩⟩, putU_below HB.out (by omega) ⟨te, tp, true⟩⟩
          · have HS2 : Hid (foldB day (pre ++ [(xi, ⟨te, tp, true⟩)]) = fb) := Lib.hid (by rw [HS.out]; simp [g2])
            gi_wp2
            exact ⟨(KeepsOthers.refl _).from _, ⟨rfl, rfl, Nat.le_refl _⟩, ⟨⟨HD.out, HA.out⟩, by rw [HS2.out]; exact HC.out, HM.out⟩, HB.out⟩
      case done =>
        rintro D xs W hDD hS ⟨⟨⟨hD, hA⟩, hC, hM⟩, hB⟩ hK
        rw [KB.out xs hS] at hC
        obtain ⟨le, lp, lkn⟩ := lk
        obtain ⟨he, hp, hkn⟩ := hk
        have a0 := hA.cell 0
        have a1 := hA.cell 1
        have a2 := hA.cell 2
        have fA := hA.frozen
        have c0 := hC.cell 0
        have c1 := hC.cell 1
        have c2 := hC.cell 2
        have fC := hC.frozen
        simp only [List.getElem?_toArray, List.getElem?_cons_zero, List.getElem?_cons_succ] at a0 a1 a2 c0 c1 c2
        cases lkn
        · gi_wp2
          gi_region
          gi_wp2
          have hKx : (putU (putU W (w.heap.size + 1) (⟨he, hp, hkn⟩ : UM.Pt)) (w.heap.size + 2) (⟨he, hp, hkn⟩ : UM.Pt)).drew.heap[D]? = some (.deferred (some [])) := heap_drew (put2_K hK)
          have hBx : Below w.heap.size w (putU (putU W (w.heap.size + 1) (⟨he, hp, hkn⟩ : UM.Pt)) (w.heap.size + 2) (⟨he, hp, hkn⟩ : UM.Pt)).drew := (putU_below (putU_below hB (by omega) (⟨he, hp, hkn⟩ : UM.Pt)) (by omega) (⟨he, hp, hkn⟩ : UM.Pt)).drew
          have hAx : CB (putU (putU W (w.heap.size + 1) (⟨he, hp, hkn⟩ : UM.Pt)) (w.heap.size + 2) (⟨he, hp, hkn⟩ : UM.Pt)).drew (w.heap.size + 1) 44 (ptC (⟨he, hp, hkn⟩ : UM.Pt)) := cb_drew (put2_A hA (by omega))
          have hCx : CB (putU (putU W (w.heap.size + 1) (⟨he, hp, hkn⟩ : UM.Pt)) (w.heap.size + 2) (⟨he, hp, hkn⟩ : UM.Pt)).drew (w.heap.size + 2) 44 (ptC (⟨he, hp, hkn⟩ : UM.Pt)) := cb_drew (put2_C hC (by omega))
          have e1 : ra = (⟨he, hp, hkn⟩ : UM.Pt) := by rw [EA.out]; rfl
          have e2 : rb = (⟨he, hp, hkn⟩ : UM.Pt) := by rw [EB.out]; simp
          refine ⟨by simp, .inl ⟨_, _, rfl, run_takeDeferred hKx, ?_⟩⟩
          exact ⟨_, results_ptpt rfl _ _ (w.heap.size + 1) (w.heap.size + 2) (⟨he, hp, hkn⟩ : UM.Pt) (⟨he, hp, hkn⟩ : UM.Pt) rfl rfl (cb_put hAx hKx) (cb_put hCx hKx), by rw [e1, e2], hBx.trans (belowK_b (w := w) (Nat.le_refl _) _ D _ _ (by omega) hKx rfl rfl)⟩
        cases hkn
        · gi_wp2
          have hKx : (putU (putU W (w.heap.size + 1) (⟨le, lp, true⟩ : UM.Pt)) (w.heap.size + 2) (⟨le, lp, true⟩ : UM.Pt)).heap[D]? = some (.deferred (some [])) := put2_K hK
          have hBx : Below w.heap.size w (putU (putU W (w.heap.size + 1) (⟨le, lp, true⟩ : UM.Pt)) (w.heap.size + 2) (⟨le, lp, true⟩ : UM.Pt)) := (putU_below (putU_below hB (by omega) (⟨le, lp, true⟩ : UM.Pt)) (by omega) (⟨le, lp, true⟩ : UM.Pt))
          have hAx : CB (putU (putU W (w.heap.size + 1) (⟨le, lp, true⟩ : UM.Pt)) (w.heap.size + 2) (⟨le, lp, true⟩ : UM.Pt)) (w.heap.size + 1) 44 (ptC (⟨le, lp, true⟩ : UM.Pt)) := put2_A hA (by omega)
          have hCx : CB (putU (putU W (w.heap.size + 1) (⟨le, lp, true⟩ : UM.Pt)) (w.heap.size + 2) (⟨le, lp, true⟩ : UM.Pt)) (w.heap.size + 2) 44 (ptC (⟨le, lp, true⟩ : UM.Pt)) := put2_C hC (by omega)
          have e1 : ra = (⟨le, lp, true⟩ : UM.Pt) := by rw [EA.out]; rfl
          have e2 : rb = (⟨le, lp, true⟩ : UM.Pt) := by rw [EB.out]; rfl
          refine ⟨by simp, .inl ⟨_, _, rfl, run_takeDeferred hKx, ?_⟩⟩
          exact ⟨_, results_ptpt rfl _ _ (w.heap.size + 1) (w.heap.size + 2) (⟨le, lp, true⟩ : UM.Pt) (⟨le, lp, true⟩ : UM.Pt) rfl rfl (cb_put hAx hKx) (cb_put hCx hKx), by rw [e1, e2], hBx.trans (belowK_b (w := w) (Nat.le_refl _) _ D _ _ (by omega) hKx rfl rfl)⟩
        · gi_wp2
          gi_region
          gi_wp2
          have hKx : (putU (putU W (w.heap.size + 1) (⟨le, lp, true⟩ : UM.Pt)) (w.heap.size + 2) (⟨he, hp, true⟩ : UM.Pt)).drew.heap[D]? = some (.deferred (some [])) := heap_drew (put2_K hK)
          have hBx : Below w.heap.size w (putU (putU W (w.heap.size + 1) (⟨le, lp, true⟩ : UM.Pt)) (w.heap.size + 2) (⟨he, hp, true⟩ : UM.Pt)).drew := (putU_below (putU_below hB (by omega) (⟨le, lp, true⟩ : UM.Pt)) (by omega) (⟨he, hp, true⟩ : UM.Pt)).drew
          have hAx : CB (putU (putU W (w.heap.size + 1) (⟨le, lp, true⟩ : UM.Pt)) (w.heap.size + 2) (⟨he, hp, true⟩ : UM.Pt)).drew (w.heap.size + 1) 44 (ptC (⟨le, lp, true⟩ : UM.Pt)) := cb_drew (put2_A hA (by omega))
          have hCx : CB (putU (putU W (w.heap.size + 1) (⟨le, lp, true⟩ : UM.Pt)) (w.heap.size + 2) (⟨he, hp, true⟩ : UM.Pt)).drew (w.heap.size + 2) 44 (ptC (⟨he, hp, true⟩ : UM.Pt)) := cb_drew (put2_C hC (by omega))
          have e1 : ra = (⟨le, lp, true⟩ : UM.Pt) := by rw [EA.out]; rfl
          have e2 : rb = (⟨he, hp, true⟩ : UM.Pt) := by rw [EB.out]; simp
          refine ⟨by simp, .inl ⟨_, _, rfl, run_takeDeferred hKx, ?_⟩⟩
          exact ⟨_, results_ptpt rfl _ _ (w.heap.size + 1) (w.heap.size + 2) (⟨le, lp, true⟩ : UM.Pt) (⟨he, hp, true⟩ : UM.Pt) rfl rfl (cb_put hAx hKx) (cb_put hCx hKx), by rw [e1, e2], hBx.trans (belowK_b (w := w) (Nat.le_refl _) _ D _ _ (by omega) hKx rfl rfl)⟩
      case stop =>
        rintro D c pre W hDD _ h _
        exact h.elim
end Go.Proofs.Ytagmknahmkniaaa
