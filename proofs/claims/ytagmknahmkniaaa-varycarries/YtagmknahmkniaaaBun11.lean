/- Put together: VtJ, VtK, Arrs, WVaryCarries, SizedRec, OpenProd, OpenLeg. -/
import Derived.Test.YtagmknahmkniaaaBun10
import Derived.StillTailTactics
import Derived.Deep.Cut
import Derived.Test.YtagmknahmkniaaaBun3
import Derived.Test.YtagmknahmkniaaaBun9
import Derived.Test.YtagmknahmkniaaaBun1
import Derived.SizedLaws
import Derived.ProofKit
import Derived.OpenShut
import Derived.ShutString
import Derived.ChangeOld
import Derived.Test.YtagmknahmkniaaaBun6
/- Contracts of layer 20: the page's examples. -/
namespace Go.Proofs.Ytagmknahmkniaaa
open Go.RowKit Go.Recs
set_option linter.unusedVariables false
set_option linter.unusedSimpArgs false
def oil20 : QM.Prod := ⟨⟨#[111, 105, 108]⟩, 0, 100, 1, 0, 1000, false⟩
def ser20 : EM.Ser := ⟨⟨#[111, 105, 108]⟩, 1, 9, 0⟩
def pos20 : PO.Pos := ⟨ser20, 3, 0⟩
def leg20 : NM.Leg := ⟨⟨#[]⟩, ⟨#[]⟩, ser20, 2, 45, 0⟩
def legF20 : NM.Leg := ⟨⟨#[]⟩, ⟨#[]⟩, ⟨⟨#[]⟩, 0, 0, 0⟩, -2, 45, 0⟩
def m20 (a b c : Option Addr) : VM.Mkt := ⟨a, [oil20], 1, b, [⟨ser20, 50⟩], 1, c, [⟨ser20, 47⟩], 1⟩
theorem oil20_q : prodQ oil20 := ⟨by decide, ⟨by decide, by decide⟩, ⟨by decide, by decide⟩, ⟨by decide, by decide⟩, ⟨by decide, by decide⟩, ⟨by decide, by decide⟩⟩
theorem oil20_v : (VM.carN oil20 3 50 47 = -900 ∧ VM.carE oil20 3 50 47 = 0) ∧ VM.carN oil20 (-2) 45 47 = -400 ∧ VM.carE oil20 (-2) 45 47 = 0 := by decide
theorem acc20 (a b c : Option Addr) : accE (m20 a b c) [pos20] [leg20] = 0 ∧ accL (m20 a b c) [pos20] [leg20] = [-500, 0, 0, 0, 0, 0, 0, 0] := by
  have h : accE (m20 none none none) [pos20] [leg20] = 0 ∧ accL (m20 none none none) [pos20] [leg20] = [-500, 0, 0, 0, 0, 0, 0, 0] := by decide +kernel
  exact h
theorem ser20_q : serQ ser20 := ⟨by decide, ⟨by decide, by decide⟩, ⟨by decide, by decide⟩, ⟨by decide, by decide⟩⟩
theorem lit_prod20 (W : World) : Prods (W.alloc (.cells #[.string ⟨#[111, 105, 108]⟩, .int .i64 0, .int .i64 100, .int .i64 1, .int .i64 0, .int .i64 1000, .bool false] 52)) (some ⟨W.heap.size, 0, none⟩) [oil20] := by
  obtain ⟨A', cap, e, hr, _⟩ := OwnR.recs (OwnR.lit W W.heap.size 52 7 ([oil20].map prodV) (by simp [prodV]) (Nat.le_refl _) (by simp [maxLen]))
  injection e with e
  subst e
  refine ⟨hr, ?_⟩
  intro x hx
  rw [List.mem_singleton] at hx
  rw [hx]; exact oil20_q
theorem lit_pos20 (W : World) : Poss (W.alloc (.cells #[.string ⟨#[111, 105, 108]⟩, .int .i64 1, .int .i64 9, .int .i64 0, .int .i64 3, .int .i64 0] 80)) (some ⟨W.heap.size, 0, none⟩) [pos20] := by
  obtain ⟨A', cap, e, hr, _⟩ := OwnR.recs (OwnR.lit W W.heap.size 80 6 ([pos20].map posV) (by simp [posV]) (Nat.le_refl _) (by simp [maxLen]))
  injection e with e
  subst e
  refine ⟨hr, ?_⟩
  intro x hx
  rw [List.mem_singleton] at hx
  rw [hx]; exact ⟨ser20_q, ⟨by decide, by decide⟩, ⟨by decide, by decide⟩⟩
theorem lit_leg20 (W : World) : Legs (W.alloc (.cells #[.string ⟨#[]⟩, .string ⟨#[]⟩, .string ⟨#[111, 105, 108]⟩, .int .i64 1, .int .i64 9, .int .i64 0, .int .i64 2, .int .i64 45, .int .i64 0] 58)) (some ⟨W.heap.size, 0, none⟩) [leg20] := by
  obtain ⟨A', cap, e, hr, _⟩ := OwnR.recs (OwnR.lit W W.heap.size 58 9 ([leg20].map legV) (by simp [legV]) (Nat.le_refl _) (by simp [maxLen]))
  injection e with e
  subst e
  refine ⟨hr, ?_⟩
  intro x hx
  rw [List.mem_singleton] at hx
  rw [hx]; exact ⟨by decide, by decide, ser20_q, ⟨by decide, by decide⟩, ⟨by decide, by decide⟩, ⟨by decide, by decide⟩⟩
theorem lit_mk20 (W : World) (n : Int) (hn : i64 n) : Marks (W.alloc (.cells #[.string ⟨#[111, 105, 108]⟩, .int .i64 1, .int .i64 9, .int .i64 0, .int .i64 n] 84)) (some ⟨W.heap.size, 0, none⟩) [⟨ser20, n⟩] := by
  obtain ⟨A', cap, e, hr, _⟩ := OwnR.recs (OwnR.lit W W.heap.size 84 5 ([(⟨ser20, n⟩ : MR.Mk)].map markV) (by simp [markV]) (Nat.le_refl _) (by simp [maxLen]))
  injection e with e
  subst e
  refine ⟨hr, ?_⟩
  intro x hx
  rw [List.mem_singleton] at hx
  rw [hx]; exact ⟨ser20_q, hn⟩
/-- the example's five lists -/
def W20 (u : World) : World := ((((u.alloc (.cells #[.string ⟨#[111, 105, 108]⟩, .int .i64 0, .int .i64 100, .int .i64 1, .int .i64 0, .int .i64 1000, .bool false] 52)).alloc (.cells #[.string ⟨#[111, 105, 108]⟩, .int .i64 1, .int .i64 9, .int .i64 0, .int .i64 3, .int .i64 0] 80)).alloc (.cells #[.string ⟨#[]⟩, .string ⟨#[]⟩, .string ⟨#[111, 105, 108]⟩, .int .i64 1, .int .i64 9, .int .i64 0, .int .i64 2, .int .i64 45, .int .i64 0] 58)).alloc (.cells #[.string ⟨#[111, 105, 108]⟩, .int .i64 1, .int .i64 9, .int .i64 0, .int .i64 50] 84)).alloc (.cells #[.string ⟨#[111, 105, 108]⟩, .int .i64 1, .int .i64 9, .int .i64 0, .int .i64 47] 84)
theorem al_below (w : World) (o : Obj) : Below w.heap.size w (w.alloc o) := (Below.refl _ w).alloc (Nat.le_refl _) o
theorem W20_below (u : World) : Below u.heap.size u (W20 u) := below_al (below_al (below_al (below_al (below_al (Below.refl _ _) _) _) _) _) _
theorem goes20_acc (u : World) : Calls Try.prog 40 #[.slice (some ⟨u.heap.size, 0, none⟩) 1 1, .slice (some ⟨u.heap.size + 1, 0, none⟩) 1 1, .slice (some ⟨u.heap.size + 2, 0, none⟩) 1 1, .slice (some ⟨u.heap.size + 3, 0, none⟩) 1 1, .slice (some ⟨u.heap.size + 4, 0, none⟩) 1 1] (W20 u) fun e w' => ∃ v, e = .returned (.tuple #[v, .int .i64 0]) ∧ Own w' u.heap.size v [-500, 0, 0, 0, 0, 0, 0, 0] ∧ Below u.heap.size u w' := by
  have e := acc20 (some ⟨u.heap.size, 0, none⟩) (some ⟨u.heap.size + 3, 0, none⟩) (some ⟨u.heap.size + 4, 0, none⟩)
  unfold W20
  generalize hu1 : u.alloc (.cells #[.string ⟨#[111, 105, 108]⟩, .int .i64 0, .int .i64 100, .int .i64 1, .int .i64 0, .int .i64 1000, .bool false] 52) = u1
  have s1 : u1.heap.size = u.heap.size + 1 := by rw [← hu1]; simp
  have p1 : Prods u1 (some ⟨u.heap.size, 0, none⟩) [oil20] := by rw [← hu1]; exact lit_prod20 u
  have b1 : Below u.heap.size u u1 := by rw [← hu1]; exact al_below _ _
  generalize hu2 : u1.alloc (.cells #[.string ⟨#[111, 105, 108]⟩, .int .i64 1, .int .i64 9, .int .i64 0, .int .i64 3, .int .i64 0] 80) = u2
  have s2 : u2.heap.size = u.heap.size + 2 := by rw [← hu2]; simp [s1]
  have c2 : Below u1.heap.size u1 u2 := by rw [← hu2]; exact al_below _ _
  have h2 : Poss u2 (some ⟨u.heap.size + 1, 0, none⟩) [pos20] := by rw [← hu2, ← s1]; exact lit_pos20 u1
  generalize hu3 : u2.alloc (.cells #[.string ⟨#[]⟩, .string ⟨#[]⟩, .string ⟨#[111, 105, 108]⟩, .int .i64 1, .int .i64 9, .int .i64 0, .int .i64 2, .int .i64 45, .int .i64 0] 58) = u3
  have s3 : u3.heap.size = u.heap.size + 3 := by rw [← hu3]; simp [s2]
  have c3 : Below u2.heap.size u2 u3 := by rw [← hu3]; exact al_below _ _
  have l3 : Legs u3 (some ⟨u.heap.size + 2, 0, none⟩) [leg20] := by rw [← hu3, ← s2]; exact lit_leg20 u2
  generalize hu4 : u3.alloc (.cells #[.string ⟨#[111, 105, 108]⟩, .int .i64 1, .int .i64 9, .int .i64 0, .int .i64 50] 84) = u4
  have s4 : u4.heap.size = u.heap.size + 4 := by rw [← hu4]; simp [s3]
  have c4 : Below u3.heap.size u3 u4 := by rw [← hu4]; exact al_below _ _
  have m4 : Marks u4 (some ⟨u.heap.size + 3, 0, none⟩) [⟨ser20, 50⟩] := by rw [← hu4, ← s3]; exact lit_mk20 u3 50 ⟨by decide, by decide⟩
  generalize hu5 : u4.alloc (.cells #[.string ⟨#[111, 105, 108]⟩, .int .i64 1, .int .i64 9, .int .i64 0, .int .i64 47] 84) = u5
  have c5 : Below u4.heap.size u4 u5 := by rw [← hu5]; exact al_below _ _
  have m5 : Marks u5 (some ⟨u.heap.size + 4, 0, none⟩) [⟨ser20, 47⟩] := by rw [← hu5, ← s4]; exact lit_mk20 u4 47 ⟨by decide, by decide⟩
  have b5 : Below u.heap.size u u5 := ((((b1.trans (c2.mono b1.size)).trans (c3.mono (by omega))).trans (c4.mono (by omega))).trans (c5.mono (by omega)))
  have h := vaccount_any (m20 (some ⟨u.heap.size, 0, none⟩) (some ⟨u.heap.size + 3, 0, none⟩) (some ⟨u.heap.size + 4, 0, none⟩)) (some ⟨u.heap.size + 1, 0, none⟩) [pos20] 1 1 rfl (some ⟨u.heap.size + 2, 0, none⟩) [leg20] 1 1 rfl u5
    ⟨(((p1.below c2).below c3).below c4).below c5, m4.below c5, m5⟩ (((h2.below c3).below c4).below c5) ((l3.below c4).below c5)
  rw [e.1, e.2] at h
  refine h.mono ?_
  rintro x w' ⟨v, rfl, ho, hb⟩
  exact ⟨v, rfl, own_low ho b5.size, b5.trans (hb.mono b5.size)⟩
end Go.Proofs.Ytagmknahmkniaaa

/- Contracts of layer 20: the page's examples hold. -/
namespace Go.Proofs.Ytagmknahmkniaaa
open Go.RowKit Go.Recs
set_option linter.unusedVariables false
set_option linter.unusedSimpArgs false
set_option maxHeartbeats 8000000 in
set_option maxRecDepth 100000 in
theorem goes20_any (w : World) : Calls Try.prog 25 #[] w fun e w' => e = .returned (.bool true) ∧ Below w.heap.size w w' := by
  have C1 : ∀ ww, Calls Try.prog 21 #[.agg #[.string ⟨#[111, 105, 108]⟩, .int .i64 0, .int .i64 100, .int .i64 1, .int .i64 0, .int .i64 1000, .bool false], .int .i64 3, .int .i64 50, .int .i64 47] ww fun e w' => e = .returned (.tuple #[.int .i64 (-900), .int .i64 0]) ∧ Below ww.heap.size ww w' := fun ww => by
    have h := vcarried_any oil20 3 50 47 oil20_q ww
    rw [oil20_v.1.1, oil20_v.1.2] at h
    exact h
  have C2 : ∀ ww, Calls Try.prog 23 #[.agg #[.string ⟨#[111, 105, 108]⟩, .int .i64 0, .int .i64 100, .int .i64 1, .int .i64 0, .int .i64 1000, .bool false], .agg #[.string ⟨#[]⟩, .string ⟨#[]⟩, .string ⟨#[]⟩, .int .i64 0, .int .i64 0, .int .i64 0, .int .i64 (-2), .int .i64 45, .int .i64 0], .int .i64 47] ww fun e w' => e = .returned (.tuple #[.int .i64 (-400), .int .i64 0]) ∧ Below ww.heap.size ww w' := fun ww => by
    have h := vfresh_any oil20 legF20 47 oil20_q ww
    rw [show VM.carN oil20 legF20.qty legF20.price 47 = -400 from oil20_v.2.1, show VM.carE oil20 legF20.qty legF20.price 47 = 0 from oil20_v.2.2] at h
    exact h
  have C1 := Lib.hid C1
  have C2 := Lib.hid C2
  have C3 := Lib.hid (fun u => goes20_acc u)
  have HB0 := Lib.hid (al_below w (.cells #[.string ⟨#[111, 105, 108]⟩, .int .i64 0, .int .i64 100, .int .i64 1, .int .i64 0, .int .i64 1000, .bool false] 52))
  have HP0 : Hid (PBox (w.alloc (.cells #[.string ⟨#[111, 105, 108]⟩, .int .i64 0, .int .i64 100, .int .i64 1, .int .i64 0, .int .i64 1000, .bool false] 52)) w.heap.size oil20) := Lib.hid (PBox.new w oil20)
  go_enter Try.func25, Try.ntmps25
  go_wp2_with fail
  refine (C1.out _).mono ?_
  rintro e w1 ⟨rfl, b1⟩
  have HB1 := Lib.hid (HB0.out.trans (b1.mono HB0.out.size))
  have HP1 := Lib.hid (HP0.out.below b1 HP0.out.lt)
  clear b1 HP0
  obtain ⟨p0, p1, p2, p3, p4, p5, p6⟩ := HP1.out.cells
  simp only [oil20] at p0 p1 p2 p3 p4 p5 p6
  go_wp2_with fail
  refine (C2.out _).mono ?_
  rintro e w2 ⟨rfl, b2⟩
  have HB2 := Lib.hid (HB1.out.trans (b2.mono HB1.out.size))
  have HP2 := Lib.hid (HP1.out.below b2 HP1.out.lt)
  clear b2 HP1 p0 p1 p2 p3 p4 p5 p6
  have HPu := Lib.hid (HP2.out.alloc (.cells #[.string ⟨#[111, 105, 108]⟩, .int .i64 1, .int .i64 9, .int .i64 0] 56))
  have HSu := Lib.hid (CB.new w2 56 #[.string ⟨#[111, 105, 108]⟩, .int .i64 1, .int .i64 9, .int .i64 0])
  have HBu := Lib.hid (below_al HB2.out (.cells #[.string ⟨#[111, 105, 108]⟩, .int .i64 1, .int .i64 9, .int .i64 0] 56))
  go_upto_region 5 with fail
  generalize w2.alloc (.cells #[.string ⟨#[111, 105, 108]⟩, .int .i64 1, .int .i64 9, .int .i64 0] 56) = u at *
  generalize w2.heap.size = gS at *
  obtain ⟨p0, p1, p2, p3, p4, p5, p6⟩ := HPu.out.cells
  simp only [oil20] at p0 p1 p2 p3 p4 p5 p6
  have S1 := HSu.out.alloc (.cells #[.string ⟨#[111, 105, 108]⟩, .int .i64 0, .int .i64 100, .int .i64 1, .int .i64 0, .int .i64 1000, .bool false] 52)
  have S2 := S1.alloc (.cells #[.string ⟨#[111, 105, 108]⟩, .int .i64 1, .int .i64 9, .int .i64 0, .int .i64 3, .int .i64 0] 80)
  have S3 := S2.alloc (.cells #[.string ⟨#[]⟩, .string ⟨#[]⟩, .string ⟨#[111, 105, 108]⟩, .int .i64 1, .int .i64 9, .int .i64 0, .int .i64 2, .int .i64 45, .int .i64 0] 58)
  have S4 := S3.alloc (.cells #[.string ⟨#[111, 105, 108]⟩, .int .i64 1, .int .i64 9, .int .i64 0, .int .i64 50] 84)
  have q10 : _ = some _ := S1.cell 0
  have q11 : _ = some _ := S1.cell 1
  have q12 : _ = some _ := S1.cell 2
  have q13 : _ = some _ := S1.cell 3
  have q20 : _ = some _ := S2.cell 0
  have q21 : _ = some _ := S2.cell 1
  have q22 : _ = some _ := S2.cell 2
  have q23 : _ = some _ := S2.cell 3
  have q30 : _ = some _ := S3.cell 0
  have q31 : _ = some _ := S3.cell 1
  have q32 : _ = some _ := S3.cell 2
  have q33 : _ = some _ := S3.cell 3
  have q40 : _ = some _ := S4.cell 0
  have q41 : _ = some _ := S4.cell 1
  have q42 : _ = some _ := S4.cell 2
  have q43 : _ = some _ := S4.cell 3
  have C4 := C3.out u
  unfold W20 at C4
  have C4 := Lib.hid C4
  have HPU := Lib.hid HPu.out
  clear S1 S2 S3 S4 HPu
  go_wp2_with fail
  refine C4.out.mono ?_
  rintro e w5 ⟨v, rfl, o5, b5⟩
  have HO5 := Lib.hid o5
  have HB5 := Lib.hid (HBu.out.trans (b5.mono HBu.out.size))
  clear o5 b5
  rcases HO5.out.form with ⟨h0, h1⟩ | ⟨g, cp, rfl, _, _, _⟩
  · cases h1
  · have c0 : _ = some _ := HO5.out.cell 0 (by decide)
    simp only [List.getD, List.getElem?_cons_zero, Option.getD_some, List.length_cons, List.length_nil] at c0
    simp only [List.length_cons, List.length_nil]
    go_wp2_with fail
    go_ret
    exact ⟨rfl, HB5.out⟩
end Go.Proofs.Ytagmknahmkniaaa

/- Arrays of two and of three ints in a block of their own. -/
namespace Go.Proofs.Ytagmknahmkniaaa
open Go.RowKit
/-- block g holds three numbers -/
def Arr3 (w : World) (g : Nat) (x y z : Int) : Prop :=
  g < w.heap.size ∧ w.cell? ⟨g, 0, none⟩ = some (.int .i64 x) ∧ w.cell? ⟨g, 1, none⟩ = some (.int .i64 y) ∧ w.cell? ⟨g, 2, none⟩ = some (.int .i64 z)
theorem Arr3.below {w w' : World} {g : Nat} {x y z : Int} (h : Arr3 w g x y z) (hb : Below w.heap.size w w') : Arr3 w' g x y z :=
  ⟨Nat.lt_of_lt_of_le h.1 hb.size, (hb.cell (p := ⟨g, 0, none⟩) h.1).trans h.2.1, (hb.cell (p := ⟨g, 1, none⟩) h.1).trans h.2.2.1, (hb.cell (p := ⟨g, 2, none⟩) h.1).trans h.2.2.2⟩
theorem Arr3.new (w : World) (x y z : Int) : Arr3 (w.alloc (.cells #[.int .i64 x, .int .i64 y, .int .i64 z] 59)) w.heap.size x y z := by
  refine ⟨by simp, ?_, ?_, ?_⟩ <;> simp
theorem Arr3.drewN {w : World} {g : Nat} {x y z : Int} (h : Arr3 w g x y z) (n : Nat) : Arr3 (w.drewN n) g x y z := h

/-- block g holds two numbers -/
def Arr2 (w : World) (g : Nat) (x y : Int) : Prop :=
  g < w.heap.size ∧ w.cell? ⟨g, 0, none⟩ = some (.int .i64 x) ∧ w.cell? ⟨g, 1, none⟩ = some (.int .i64 y)
theorem Arr2.below {w w' : World} {g : Nat} {x y : Int} (h : Arr2 w g x y) (hb : Below w.heap.size w w') : Arr2 w' g x y :=
  ⟨Nat.lt_of_lt_of_le h.1 hb.size, (hb.cell (p := ⟨g, 0, none⟩) h.1).trans h.2.1, (hb.cell (p := ⟨g, 1, none⟩) h.1).trans h.2.2⟩
theorem Arr2.new (w : World) (x y : Int) : Arr2 (w.alloc (.cells #[.int .i64 x, .int .i64 y] 45)) w.heap.size x y := by
  refine ⟨by simp, ?_, ?_⟩ <;> simp
theorem Arr2.drewN {w : World} {g : Nat} {x y : Int} (h : Arr2 w g x y) (n : Nat) : Arr2 (w.drewN n) g x y := h
end Go.Proofs.Ytagmknahmkniaaa

namespace Go.Proofs.Ytagmknahmkniaaa.varyCarries
open Go.RowKit Go.Recs
set_option linter.unusedVariables false
set_option linter.unusedSimpArgs false
theorem last {e1 e2 e3 n1 n2 n3 : Int} (h : e1 = 0 → e2 = 0 → e3 = 0 ∧ n1 + n2 = n3) : (e1 != 0) = true ∨ ((e1 != 0) = false ∧ (e2 != 0) = true) ∨ ((e1 != 0) = false ∧ (e2 != 0) = false ∧ (e3 == 0) = true ∧ (n1 + n2 == n3) = true) := by
  by_cases h1 : e1 = 0
  · by_cases h2 : e2 = 0
    · obtain ⟨h3, h4⟩ := h h1 h2
      exact .inr (.inr ⟨by simpa using h1, by simpa using h2, by simpa using h3, by simpa using h4⟩)
    · exact .inr (.inl ⟨by simpa using h1, by simpa using h2⟩)
  · exact .inl (by simpa using h1)
set_option maxHeartbeats 8000000 in
set_option maxRecDepth 100000 in
theorem walk (p : QM.Prod) (y : NM.Leg) (a b c : Int) (w : World) (hp : prodQ p) (hy : legQ y) (hx : (-9223372036854775808 ≤ a ∧ a ≤ 9223372036854775807) ∧ (-9223372036854775808 ≤ b ∧ b ≤ 9223372036854775807) ∧ (-9223372036854775808 ≤ c ∧ c ≤ 9223372036854775807)) :
    Calls Try.prog 8 #[prodA p, legA y, .agg #[.int .i64 a, .int .i64 b, .int .i64 c]] w fun e w' => e = .returned (.bool true) ∧ Below w.heap.size w w' := by
  have C1 := Lib.hid (fun ww => vcarried_any p y.qty a b hp ww)
  have D1 := Lib.hid (fun ww => rvcarried_any p y.qty a b hp ww)
  have C2 := Lib.hid (fun ww => vfresh_any p y a hp ww)
  have D2 := Lib.hid (fun ww => rvfresh_any p y a hp ww)
  have C3 := Lib.hid (fun ww => vcarried_any p y.qty b c hp ww)
  have C4 := Lib.hid (fun ww => vcarried_any p y.qty a c hp ww)
  have G := Lib.hid (fun ww => goes20_any ww)
  have HLa := last (fun h1 h2 => @VM.car_two p y.qty a b c h1 h2)
  have hr1 := @VM.car_range p y.qty a b
  have hr2 := @VM.car_range p y.qty b c
  have hw : wrap64 (VM.carN p y.qty a b + VM.carN p y.qty b c) = VM.carN p y.qty a b + VM.carN p y.qty b c := IntWalk.wrap64_in _ (by omega)
  generalize VM.carN p y.qty a b = n1 at *
  generalize VM.carE p y.qty a b = e1 at *
  generalize VM.carN p y.qty b c = n2 at *
  generalize VM.carE p y.qty b c = e2 at *
  generalize VM.carN p y.qty a c = n3 at *
  generalize VM.carE p y.qty a c = e3 at *
  generalize VM.carN p y.qty y.price a = n4 at *
  generalize VM.carE p y.qty y.price a = e4 at *
  clear hr1 hr2 hp hy hx
  have HB0 := Lib.hid (below_al (below_al (below_al (Below.refl w.heap.size w) (.cells #[.string p.name, .int .i64 p.cur, .int .i64 p.mult, .int .i64 p.tick, .int .i64 p.low, .int .i64 p.high, .bool p.phys] 52)) (.cells (legC y) 58)) (.cells #[.int .i64 a, .int .i64 b, .int .i64 c] 59))
  have HP0 := Lib.hid (((PBox.new w p).alloc (.cells (legC y) 58)).alloc (.cells #[.int .i64 a, .int .i64 b, .int .i64 c] 59))
  have HY0 := Lib.hid ((CB.new1 w (.cells #[.string p.name, .int .i64 p.cur, .int .i64 p.mult, .int .i64 p.tick, .int .i64 p.low, .int .i64 p.high, .bool p.phys] 52) 58 (legC y)).alloc (.cells #[.int .i64 a, .int .i64 b, .int .i64 c] 59))
  have hA0 := CB.new ((w.alloc (.cells #[.string p.name, .int .i64 p.cur, .int .i64 p.mult, .int .i64 p.tick, .int .i64 p.low, .int .i64 p.high, .bool p.phys] 52)).alloc (.cells (legC y) 58)) 59 #[.int .i64 a, .int .i64 b, .int .i64 c]
  rw [show ((w.alloc (.cells #[.string p.name, .int .i64 p.cur, .int .i64 p.mult, .int .i64 p.tick, .int .i64 p.low, .int .i64 p.high, .bool p.phys] 52)).alloc (.cells (legC y) 58)).heap.size = w.heap.size + 2 by simp] at hA0
  have HA0 := Lib.hid hA0
  clear hA0
  rcases HLa with hs | ⟨hs, ht⟩ | ⟨hs, ht, hu, hv⟩
  all_goals (
    go_enter Try.func8, Try.ntmps8
    go_upto_region 1 with fail
    generalize ((w.alloc (.cells #[.string p.name, .int .i64 p.cur, .int .i64 p.mult, .int .i64 p.tick, .int .i64 p.low, .int .i64 p.high, .bool p.phys] 52)).alloc (.cells (legC y) 58)).alloc (.cells #[.int .i64 a, .int .i64 b, .int .i64 c] 59) = w0 at *
    have cells := fun (ww : World) (hb : Below w0.heap.size w0 ww) => (⟨(HP0.out.below hb HP0.out.lt).cells, (HY0.out.below hb HY0.out.lt).cell, (HA0.out.below hb HA0.out.lt).cell⟩ : _ ∧ (∀ i, ww.cell? ⟨w.heap.size + 1, i, none⟩ = (legC y)[i]?) ∧ (∀ i, ww.cell? ⟨w.heap.size + 2, i, none⟩ = (#[Value.int .i64 a, .int .i64 b, .int .i64 c] : Array Value)[i]?))
    have HC : Hid (∀ ww, Below w0.heap.size w0 ww → (ww.cell? ⟨w.heap.size, 0, none⟩ = some (.string p.name) ∧ ww.cell? ⟨w.heap.size, 1, none⟩ = some (.int .i64 p.cur) ∧ ww.cell? ⟨w.heap.size, 2, none⟩ = some (.int .i64 p.mult) ∧ ww.cell? ⟨w.heap.size, 3, none⟩ = some (.int .i64 p.tick) ∧ ww.cell? ⟨w.heap.size, 4, none⟩ = some (.int .i64 p.low) ∧ ww.cell? ⟨w.heap.size, 5, none⟩ = some (.int .i64 p.high) ∧ ww.cell? ⟨w.heap.size, 6, none⟩ = some (.bool p.phys)) ∧
        (ww.cell? ⟨w.heap.size + 1, 0, none⟩ = some (.string y.am) ∧ ww.cell? ⟨w.heap.size + 1, 1, none⟩ = some (.string y.an) ∧ ww.cell? ⟨w.heap.size + 1, 2, none⟩ = some (.string y.ser.prod) ∧ ww.cell? ⟨w.heap.size + 1, 3, none⟩ = some (.int .i64 y.ser.kind) ∧ ww.cell? ⟨w.heap.size + 1, 4, none⟩ = some (.int .i64 y.ser.expiry) ∧ ww.cell? ⟨w.heap.size + 1, 5, none⟩ = some (.int .i64 y.ser.strike) ∧ ww.cell? ⟨w.heap.size + 1, 6, none⟩ = some (.int .i64 y.qty) ∧ ww.cell? ⟨w.heap.size + 1, 7, none⟩ = some (.int .i64 y.price) ∧ ww.cell? ⟨w.heap.size + 1, 8, none⟩ = some (.int .i64 y.trade)) ∧
        (ww.cell? ⟨w.heap.size + 2, 0, none⟩ = some (.int .i64 a) ∧ ww.cell? ⟨w.heap.size + 2, 1, none⟩ = some (.int .i64 b) ∧ ww.cell? ⟨w.heap.size + 2, 2, none⟩ = some (.int .i64 c))) :=
      Lib.hid (fun ww hb => by
        obtain ⟨k1, k2, k3⟩ := cells ww hb
        exact ⟨k1, ⟨k2 0, k2 1, k2 2, k2 3, k2 4, k2 5, k2 6, k2 7, k2 8⟩, k3 0, k3 1, k3 2⟩)
    clear cells HP0 HY0 HA0
    have HB1 := Lib.hid (Below.refl w0.heap.size w0)
    obtain ⟨⟨p0, p1, p2, p3, p4, p5, p6⟩, ⟨y0, y1, y2, y3, y4, y5, y6, y7, y8⟩, a0, a1, a2⟩ := HC.out _ HB1.out
    go_wp2_with fail
    refine (C1.out _).mono ?_
    rintro e w1 ⟨rfl, b1⟩
    have HB2 := Lib.hid (HB1.out.trans (b1.mono HB1.out.size))
    clear b1 HB1 p0 p1 p2 p3 p4 p5 p6 y0 y1 y2 y3 y4 y5 y6 y7 y8 a0 a1 a2
    obtain ⟨⟨p0, p1, p2, p3, p4, p5, p6⟩, ⟨y0, y1, y2, y3, y4, y5, y6, y7, y8⟩, a0, a1, a2⟩ := HC.out _ HB2.out
    go_wp2_with fail
    refine (D1.out _).mono ?_
    rintro e w2 ⟨rfl, b1⟩
    have HB3 := Lib.hid (HB2.out.trans (b1.mono HB2.out.size))
    clear b1 HB2 p0 p1 p2 p3 p4 p5 p6 y0 y1 y2 y3 y4 y5 y6 y7 y8 a0 a1 a2
    obtain ⟨⟨p0, p1, p2, p3, p4, p5, p6⟩, ⟨y0, y1, y2, y3, y4, y5, y6, y7, y8⟩, a0, a1, a2⟩ := HC.out _ HB3.out
    go_wp2_with fail
    refine (C2.out _).mono ?_
    rintro e w3 ⟨rfl, b1⟩
    have HB4 := Lib.hid (HB3.out.trans (b1.mono HB3.out.size))
    clear b1 HB3 p0 p1 p2 p3 p4 p5 p6 y0 y1 y2 y3 y4 y5 y6 y7 y8 a0 a1 a2
    obtain ⟨⟨p0, p1, p2, p3, p4, p5, p6⟩, ⟨y0, y1, y2, y3, y4, y5, y6, y7, y8⟩, a0, a1, a2⟩ := HC.out _ HB4.out
    go_wp2_with fail
    refine (D2.out _).mono ?_
    rintro e w4 ⟨rfl, b1⟩
    have HB5 := Lib.hid (HB4.out.trans (b1.mono HB4.out.size))
    clear b1 HB4 p0 p1 p2 p3 p4 p5 p6 y0 y1 y2 y3 y4 y5 y6 y7 y8 a0 a1 a2
    obtain ⟨⟨p0, p1, p2, p3, p4, p5, p6⟩, ⟨y0, y1, y2, y3, y4, y5, y6, y7, y8⟩, a0, a1, a2⟩ := HC.out _ HB5.out
    go_wp2_with fail
    refine (C3.out _).mono ?_
    rintro e w5 ⟨rfl, b1⟩
    have HB6 := Lib.hid (HB5.out.trans (b1.mono HB5.out.size))
    clear b1 HB5 p0 p1 p2 p3 p4 p5 p6 y0 y1 y2 y3 y4 y5 y6 y7 y8 a0 a1 a2
    obtain ⟨⟨p0, p1, p2, p3, p4, p5, p6⟩, ⟨y0, y1, y2, y3, y4, y5, y6, y7, y8⟩, a0, a1, a2⟩ := HC.out _ HB6.out
    go_wp2_with fail
    refine (C4.out _).mono ?_
    rintro e w6 ⟨rfl, b1⟩
    have HB7 := Lib.hid (HB6.out.trans (b1.mono HB6.out.size))
    clear b1 HB6 p0 p1 p2 p3 p4 p5 p6 y0 y1 y2 y3 y4 y5 y6 y7 y8 a0 a1 a2 HC
    go_wp2_with fail
    refine (G.out _).mono ?_
    rintro e w7 ⟨rfl, b1⟩
    have HB8 := Lib.hid (HB7.out.trans (b1.mono HB7.out.size))
    clear b1 HB7
    go_wp2_with fail
    go_ret
    exact ⟨rfl, HB0.out.trans (HB8.out.mono HB0.out.size)⟩)
end Go.Proofs.Ytagmknahmkniaaa.varyCarries

/- What the reach says of a text that opens a record, over any program. -/
namespace Go.Recs
open Go.ChangeShapes Go.WideShapes Go.RowKit Go.Deep
set_option linter.unusedVariables false
theorem first_sized {H : Type} {enc : TypeId × Value → H} {P : Program} {W : World} {base : Nat} {spare : Nat → Bool} {held : Bool} {T : TypeId} {cs : Array Value} {d : DataW H} {p : List MemPlace} {fs : Array Field} {f : Field} {s : ByteArray}
    {ts : List TypeId} {ds : List (DataW H)} {j : Nat}
    (h : (DataW.weightsEach P ts ds).all (· ≤ reachBytes) = true) (ht : ts[j]? = some T) (hd : ds[j]? = some d)
    (hT : DataW.Trod enc P W base spare held T (.agg cs) d p) (hu : P.underlying T = some (.struct fs)) (hf : fs[0]? = some f) (ho : f.offset = 0) (hs : P.underlying f.type = some .string) (hc : P.cellsOf f.type = 1) (hcs : cs[0]? = some (.string s)) :
    s.size ≤ 140737488351232 := by
  obtain ⟨fuel, hx⟩ := hT
  obtain ⟨xs, n, _, hxd, _, hxl, hfl⟩ := DataW.trod_struct hu hx
  have h0 := hfl 0 f hf
  have hpos : 0 < xs.length := by
    rw [hxl]
    rcases Nat.eq_zero_or_pos fs.size with e | e
    · rw [Array.getElem?_eq_none (by omega)] at hf; cases hf
    · exact e
  rw [List.getElem?_eq_getElem hpos] at h0
  obtain ⟨t, ht0, hx0, _⟩ := DataW.trod_string hs h0
  rw [ho, hc, List.drop_zero] at ht0
  have ets : t = s := by
    have e1 : (Value.agg cs).cells.toList.take 1 = [Value.string t] := ht0
    have e2 : (Value.agg cs).cells.toList[0]? = some (Value.string s) := by simpa [Value.cells] using hcs
    cases hl : (Value.agg cs).cells.toList with
    | nil => rw [hl] at e2; cases e2
    | cons a r => rw [hl] at e1 e2; simp at e1 e2; rw [e1] at e2; injection e2
  subst ets
  injection hxd with hd1 _
  have hw : t.data.toList.length ∈ d.weights P T := by
    rw [hd1]
    simp only [DataW.weights, hu]
    have hm := DataW.weights_mem_each (P := P) (ts := fs.toList.map (·.type)) (ds := xs.map (·.1)) (j := 0) (t := f.type) (d := xs[0].1) (by rw [List.getElem?_map, Array.getElem?_toList, hf]; rfl) (by rw [List.getElem?_map, List.getElem?_eq_getElem hpos]; rfl) t.data.toList.length
    apply hm
    rw [hx0]
    simp [DataW.weights]
  have := List.all_eq_true.1 h _ (DataW.weights_mem_each ht hd _ hw)
  have e : t.data.toList.length = t.size := Array.length_toList
  rw [e] at this
  have hr : reachBytes = 140737488351232 := by decide
  rw [← hr]
  simpa using this
end Go.Recs

/- A law's arguments: products and series, by value and in slices. -/
namespace Go.Proofs.Ytagmknahmkniaaa
open Go.ChangeShapes Go.WideShapes Go.ChangeAt Go.RowKit Go.Recs
set_option linter.unusedVariables false
set_option maxRecDepth 100000

theorem prod_leafs : leafs Try.prog 2 52 = some prodL := by kernel_rfl
theorem ser_leafs : leafs Try.prog 2 56 = some serL := by kernel_rfl
theorem open_prodT {H : Type} {enc : TypeId × Value → H} {W : World} {base b0 : Nat} {spare : Nat → Bool} {held : Bool} {r : Reach} {v : Value} {d : DataW H} {p : List MemPlace}
    (hv : Value.okWide Try.prog W r b0 78 v) (h : DataW.Trod enc Try.prog W base spare held 78 v d p) :
    ∃ A cap, ∃ l : List QM.Prod, v = .slice A l.length cap ∧ (Prods W A l ∧ l.length ≤ cap) ∧ True := by
  obtain ⟨A, cap, rows, rfl, hR, hk, hc⟩ := open_recs (n := 2) (sz := 7) Try.underlying78 prod_leafs (by kernel_rfl) rfl (by omega) hv h
  obtain ⟨l, rfl, hq⟩ := typed (ls := prodL) prodV _ prod_row rows hk
  rw [List.length_map] at hc ⊢
  exact ⟨A, cap, l, rfl, ⟨⟨hR, hq⟩, hc⟩, trivial⟩
theorem open_prodV {H : Type} {enc : TypeId × Value → H} {W : World} {base b0 : Nat} {spare : Nat → Bool} {held : Bool} {r : Reach} {v : Value} {d : DataW H} {p : List MemPlace}
    (hv : Value.okWide Try.prog W r b0 52 v) (h : DataW.Trod enc Try.prog W base spare held 52 v d p) :
    ∃ x : QM.Prod, v = .agg #[.string x.name, .int .i64 x.cur, .int .i64 x.mult, .int .i64 x.tick, .int .i64 x.low, .int .i64 x.high, .bool x.phys] ∧ prodQ x := by
  obtain ⟨cs, rfl, hk⟩ := open_rec (n := 2) Try.underlying52 prod_leafs (by kernel_rfl) hv h
  obtain ⟨x, rfl, hq⟩ := prod_row cs hk
  exact ⟨x, rfl, hq⟩
theorem open_serV {H : Type} {enc : TypeId × Value → H} {W : World} {base b0 : Nat} {spare : Nat → Bool} {held : Bool} {r : Reach} {v : Value} {d : DataW H} {p : List MemPlace}
    (hv : Value.okWide Try.prog W r b0 56 v) (h : DataW.Trod enc Try.prog W base spare held 56 v d p) :
    ∃ x : EM.Ser, v = .agg #[.string x.prod, .int .i64 x.kind, .int .i64 x.expiry, .int .i64 x.strike] ∧ serQ x := by
  obtain ⟨cs, rfl, hk⟩ := open_rec (n := 2) Try.underlying56 ser_leafs (by kernel_rfl) hv h
  obtain ⟨x, rfl, hq⟩ := ser_row cs hk
  exact ⟨x, rfl, hq⟩
theorem prod_sized {H : Type} {enc : TypeId × Value → H} {W : World} {base : Nat} {spare : Nat → Bool} {held : Bool} {x : QM.Prod} {d : DataW H} {p : List MemPlace} {ts : List TypeId} {ds : List (DataW H)} {j : Nat}
    (h : (DataW.weightsEach Try.prog ts ds).all (· ≤ reachBytes) = true) (ht : ts[j]? = some 52) (hd : ds[j]? = some d)
    (hT : DataW.Trod enc Try.prog W base spare held 52 (.agg #[.string x.name, .int .i64 x.cur, .int .i64 x.mult, .int .i64 x.tick, .int .i64 x.low, .int .i64 x.high, .bool x.phys]) d p) : x.name.size ≤ 140737488351232 :=
  first_sized (cs := #[.string x.name, .int .i64 x.cur, .int .i64 x.mult, .int .i64 x.tick, .int .i64 x.low, .int .i64 x.high, .bool x.phys]) h ht hd hT Try.underlying52 rfl rfl Try.underlying9 (by kernel_rfl) rfl
theorem ser_sized {H : Type} {enc : TypeId × Value → H} {W : World} {base : Nat} {spare : Nat → Bool} {held : Bool} {x : EM.Ser} {d : DataW H} {p : List MemPlace} {ts : List TypeId} {ds : List (DataW H)} {j : Nat}
    (h : (DataW.weightsEach Try.prog ts ds).all (· ≤ reachBytes) = true) (ht : ts[j]? = some 56) (hd : ds[j]? = some d)
    (hT : DataW.Trod enc Try.prog W base spare held 56 (.agg #[.string x.prod, .int .i64 x.kind, .int .i64 x.expiry, .int .i64 x.strike]) d p) : x.prod.size ≤ 140737488351232 :=
  first_sized (cs := #[.string x.prod, .int .i64 x.kind, .int .i64 x.expiry, .int .i64 x.strike]) h ht hd hT Try.underlying56 rfl rfl Try.underlying9 (by kernel_rfl) rfl
end Go.Proofs.Ytagmknahmkniaaa

/- A law's argument: a leg by value. -/
namespace Go.Proofs.Ytagmknahmkniaaa
open Go.ChangeShapes Go.WideShapes Go.ChangeAt Go.RowKit Go.Recs
set_option linter.unusedVariables false
theorem leg_leafs : leafs Try.prog 3 58 = some legL := by kernel_rfl
set_option maxRecDepth 100000 in
theorem open_legV {H : Type} {enc : TypeId × Value → H} {W : World} {base b0 : Nat} {spare : Nat → Bool} {held : Bool} {r : Reach} {v : Value} {d : DataW H} {p : List MemPlace}
    (hv : Value.okWide Try.prog W r b0 58 v) (h : DataW.Trod enc Try.prog W base spare held 58 v d p) :
    ∃ x : NM.Leg, v = .agg #[.string x.am, .string x.an, .string x.ser.prod, .int .i64 x.ser.kind, .int .i64 x.ser.expiry, .int .i64 x.ser.strike, .int .i64 x.qty, .int .i64 x.price, .int .i64 x.trade] ∧ legQ x := by
  obtain ⟨cs, rfl, hk⟩ := open_rec (n := 3) Try.underlying58 leg_leafs (by kernel_rfl) hv h
  obtain ⟨x, rfl, hq⟩ := leg_row cs hk
  exact ⟨x, rfl, hq⟩
end Go.Proofs.Ytagmknahmkniaaa
